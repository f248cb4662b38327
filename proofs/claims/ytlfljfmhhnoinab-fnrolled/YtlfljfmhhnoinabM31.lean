/- Contracts of impl.IsPlain, spec.l2Plain, spec.IsPlain, impl.TotalOf, spec.TotalOf. -/
import Derived.Test.YtlfljfmhhnoinabM14
import Derived.Test.YtlfljfmhhnoinabM10
namespace Go.Proofs.Ytlfljfmhhnoinab
open Go.RowKit

/-- All weights are from 0 on. -/
def plainT (ts : List WRow) : Bool := ts.all fun t => decide (0 ≤ t.2)
theorem plainT_of {ts : List WRow} (h : ∀ k, k < ts.length → 0 ≤ (wat ts k).2) : plainT ts = true := by
  unfold plainT
  rw [List.all_eq_true]
  intro t ht
  obtain ⟨k, hk, rfl⟩ := List.getElem_of_mem ht
  simpa [wat, List.getD, hk] using h k hk
theorem plainT_not {ts : List WRow} (k : Nat) (hk : k < ts.length) (h : (wat ts k).2 < 0) : plainT ts = false := by
  cases hg : plainT ts with
  | false => rfl
  | true =>
    have := of_decide_eq_true (List.all_eq_true.1 hg _ (wat_mem hk))
    omega
theorem ret_bb {a b p q : Bool} (h : a = b) (h' : p = q) : Ending.returned (.tuple #[.bool a, .bool p]) = .returned (.tuple #[.bool b, .bool q]) := by rw [h, h']

set_option maxHeartbeats 2000000 in
theorem implIsPlain_any (a : Option Addr) (n c : Nat) (ts : List WRow) (p : Int) (w : World) (hz : ts.length = n) (hn : n ≤ 1048576) (ha : AtW w a ts) :
    Calls Try.prog 27 #[.agg #[.int .i64 p, .slice a n c]] w fun e w' => e = .returned (.tuple #[.bool (goodT p ts && plainT ts), .bool (goodT p ts)]) ∧ Below w.heap.size w w' := by
  have B0 : Below w.heap.size w (w.alloc (.cells #[.int .i64 p, .slice a n c] 32)) := (Below.refl _ _).alloc (Nat.le_refl _) _
  have HA := ha.below B0
  clear ha
  cases hg : goodT p ts with
  | false =>
    have HG := Hid.mk hg
    clear hg
    go_enter Try.func27, Try.ntmps27
    go_wp2_with fail
    refine (implGoodTable_any _ _ _ ts _ _ hz hn HA).mono ?_
    rintro e w1 ⟨rfl, hb1⟩
    rw [HG.out]
    go_wp2
    go_ret2
    exact ⟨rfl, B0.trans (hb1.mono B0.size)⟩
  | true =>
    have HG := Hid.mk hg
    clear hg
    go_enter Try.func27, Try.ntmps27
    go_wp2_with fail
    refine (implGoodTable_any _ _ _ ts _ _ hz hn HA).mono ?_
    rintro e w1 ⟨rfl, hb1⟩
    rw [HG.out]
    have B1 := B0.trans (hb1.mono B0.size)
    have ct := cell_later hb1 (pair1 w (.int .i64 p) (.slice a n c) 32)
    have HA1 := HA.below hb1
    clear hb1 HA B0
    go_wp2
    go_loopw [12] (fun i wr => ∃ (k : Nat), k ≤ n ∧ i = .int .i64 k ∧ (∀ j, j < k → 0 ≤ (wat ts j).2) ∧ Below w1.heap.size w1 wr) (fun i _ => n - (intOf i).toNat)
    case atStart => exact ⟨0, Nat.zero_le _, rfl, fun j hj => by omega, Below.refl _ _⟩
    case round =>
      obtain ⟨k, hk, rfl, hall, hbw⟩ := hrel
      have B2 := B1.trans (hbw.mono B1.size)
      by_cases hlt : k < n
      · obtain ⟨b, off, rfl, hc⟩ := (HA1.below hbw).some (by omega)
        obtain ⟨q, d, hcx, hwx, _, _⟩ := hc k (by omega)
        have HN : Hid ((wat ts k).2 < 0 → plainT ts = false) := fun h => plainT_not k (by omega) h
        have HS : Hid (0 ≤ (wat ts k).2 → ∀ j, j < k + 1 → 0 ≤ (wat ts j).2) := fun h j hj => by
          by_cases e : j = k
          · subst e; exact h
          · exact hall j (by omega)
        have hki : (k : Int) < (n : Int) := by omega
        generalize wat ts k = Y at *
        obtain ⟨ys, x⟩ := Y
        simp only at hcx hwx
        obtain ⟨m, hmm⟩ : ∃ m, ys.length = m := ⟨_, rfl⟩
        rw [hmm] at hcx
        clear hall hc hmm
        by_cases hx : x < 0
        · go_wp2
          go_ret2
          exact ⟨ret_bb (by rw [HN.out hx]) rfl, B2.alloc B2.size _⟩
        · go_wp2
          go_roundw
          case rel => exact ⟨k + 1, by omega, by go_num, HS.out (by omega), hbw.alloc hbw.size _⟩
          case measure => simp [intOf]; omega
      · have HP := Hid.mk (plainT_of (ts := ts) (fun j hj => hall j (by omega)))
        clear hall
        go_wp2
        go_ret2
        exact ⟨ret_bb (by rw [HP.out]; rfl) rfl, B2⟩

end Go.Proofs.Ytlfljfmhhnoinab
