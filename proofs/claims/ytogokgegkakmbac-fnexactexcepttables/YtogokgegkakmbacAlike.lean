/- Contract of impl.goodAlike. -/
import Derived.Test.YtogokgegkakmbacGoodTI
import Derived.Test.YtogokgegkakmbacWSum
namespace Go.Proofs.Ytogokgegkakmbac
open Go.RowKit Go.Maps

/-- Two good tables with as many columns. -/
def alike (p : Int) (ts : List WRow) (p' : Int) (ts' : List WRow) : Bool := goodT p ts && (goodT p' ts' && decide (p = p'))

set_option maxHeartbeats 2000000 in
theorem goodAlike_any (a a' : Option Addr) (n n' c c' : Nat) (ts ts' : List WRow) (p p' : Int) (w : World) (hz : ts.length = n) (hz' : ts'.length = n') (hn : n ≤ 1048576) (hn' : n' ≤ 1048576) (ha : AtW w a ts) (ha' : AtW w a' ts') :
    Calls Try.prog 14 #[.agg #[.int .i64 p, .slice a n c], .agg #[.int .i64 p', .slice a' n' c']] w fun e w' => e = .returned (.bool (alike p ts p' ts')) ∧ Below w.heap.size w w' := by
  obtain ⟨W, hW⟩ : ∃ W, W = (w.alloc (.cells #[.int .i64 p, .slice a n c] 28)).alloc (.cells #[.int .i64 p', .slice a' n' c'] 28) := ⟨_, rfl⟩
  have B0 : Below w.heap.size w W := by rw [hW]; exact ((Below.refl _ _).alloc (Nat.le_refl _) _).alloc (by simp) _
  have c0 : W.cell? ⟨w.heap.size, 0, none⟩ = some (.int .i64 p) := by rw [hW]; simp
  have c1 : W.cell? ⟨w.heap.size, 1, none⟩ = some (.slice a n c) := by rw [hW]; simp
  have b0 : W.cell? ⟨w.heap.size + 1, 0, none⟩ = some (.int .i64 p') := by rw [hW]; simp
  have b1 : W.cell? ⟨w.heap.size + 1, 1, none⟩ = some (.slice a' n' c') := by rw [hW]; simp
  have HA := ha.below B0
  have HA' := ha'.below B0
  clear ha ha'
  cases hg : goodT p ts with
  | false =>
    have HG := Hid.mk hg
    clear hg
    go_enter Try.func14, Try.ntmps14
    go_wp2_with fail
    rw [← hW]
    clear hW
    refine (implGoodTable_any _ _ _ ts _ _ hz hn HA).mono ?_
    rintro e w1 ⟨rfl, hb1⟩
    rw [HG.out]
    go_wp2
    go_ret
    exact ⟨ret_bool (by simp [alike, HG.out]), B0.trans (hb1.mono B0.size)⟩
  | true =>
    have HG := Hid.mk hg
    clear hg
    cases hg' : goodT p' ts' with
    | false =>
      have HG' := Hid.mk hg'
      clear hg'
      go_enter Try.func14, Try.ntmps14
      go_wp2_with fail
      rw [← hW]
      clear hW
      refine (implGoodTable_any _ _ _ ts _ _ hz hn HA).mono ?_
      rintro e w1 ⟨rfl, hb1⟩
      rw [HG.out]
      have b0 := cell_later hb1 b0
      have b1 := cell_later hb1 b1
      go_wp2_with fail
      refine (implGoodTable_any _ _ _ ts' _ _ hz' hn' (HA'.below hb1)).mono ?_
      rintro e w2 ⟨rfl, hb2⟩
      rw [HG'.out]
      have B1 := B0.trans (hb1.mono B0.size)
      go_wp2
      go_ret
      exact ⟨ret_bool (by simp [alike, HG.out, HG'.out]), B1.trans (hb2.mono B1.size)⟩
    | true =>
      have HG' := Hid.mk hg'
      clear hg'
      go_enter Try.func14, Try.ntmps14
      go_wp2_with fail
      rw [← hW]
      clear hW
      refine (implGoodTable_any _ _ _ ts _ _ hz hn HA).mono ?_
      rintro e w1 ⟨rfl, hb1⟩
      rw [HG.out]
      have b1 := cell_later hb1 b1
      have c0 := cell_later hb1 c0
      have b0 := cell_later hb1 b0
      go_wp2_with fail
      refine (implGoodTable_any _ _ _ ts' _ _ hz' hn' (HA'.below hb1)).mono ?_
      rintro e w2 ⟨rfl, hb2⟩
      rw [HG'.out]
      have c0 := cell_later hb2 c0
      have b0 := cell_later hb2 b0
      have B1 := B0.trans (hb1.mono B0.size)
      go_wp2
      go_ret
      exact ⟨ret_bool (by show _ = (goodT p ts && (goodT p' ts' && decide (p = p'))); rw [HG.out, HG'.out]; rfl), B1.trans (hb2.mono B1.size)⟩

theorem alike_parts {p : Int} {ts : List WRow} {p' : Int} {ts' : List WRow} (h : alike p ts p' ts' = true) : goodT p ts = true ∧ goodT p' ts' = true ∧ p = p' := by
  simpa [alike] using h

end Go.Proofs.Ytogokgegkakmbac
