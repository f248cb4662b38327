/- Contract of spec.l2Of, and what sums of a table's own rows are. -/
import Derived.Test.YtogokgegkakmbacMapA
import Derived.Test.YtogokgegkakmbacPlainC
import Derived.Test.YtogokgegkakmbacGoodTI
import Derived.Test.YtogokgegkakmbacGoodTS
namespace Go.Proofs.Ytogokgegkakmbac
open Go.RowKit Go.Maps

theorem sumAt_wOf {ts : List WRow} {zs : List Int} (hg : ∀ t ∈ ts, good t.1 = true) (hz : good zs = true) (hr : Rises ts) : sumAt ts ts.length 1 (raised zs) = wOf ts zs := by
  unfold sumAt
  rw [List.take_length]
  induction ts with
  | nil => rfl
  | cons t ts ih =>
    obtain ⟨h1, h2⟩ := List.pairwise_cons.1 hr
    rw [List.map_cons, List.sum_cons, ih (fun s hs => hg s (by simp [hs])) h2, wOf_cons]
    by_cases e : t.1 = zs
    · rw [if_pos (by rw [e]), if_pos e, wOf_absent (fun s hs => by rw [← e]; exact (cmp_ne (h1 s hs)).symm)]; omega
    · rw [if_neg (fun h => e (raised_inj (hg t (by simp)) hz h)), if_neg e]; omega
theorem goodT_rows {p : Int} {ts : List WRow} (h : goodT p ts = true) : ∀ t ∈ ts, good t.1 = true := fun t ht => by
  obtain ⟨k, hk, rfl⟩ := List.getElem_of_mem ht
  have := (goodW_cells (stepB_good ((goodT_parts h).2.2 k hk))).1
  simpa [wat, List.getD, hk] using this

set_option maxHeartbeats 2000000 in
theorem l2Of_any (a a' : Option Addr) (n n' c c' : Nat) (ts : List WRow) (p : Int) (zs : List Int) (w : World) (hz : ts.length = n) (hz' : zs.length = n') (hn : n ≤ 1048576) (l6 : n' ≤ 6) (hgr : ∀ k, k < n → (wat ts k).1.length ≤ 6) (ha : AtW w a ts) (ha' : At w a' zs) :
    Calls Try.prog 28 #[.agg #[.int .i64 p, .slice a n c], .agg #[.slice a' n' c']] w fun e w' => e = .returned (.int .i64 (wOf ts zs)) ∧ Below w.heap.size w w' := by
  obtain ⟨W, hW⟩ : ∃ W, W = (w.alloc (.cells #[.int .i64 p, .slice a n c] 28)).alloc (.cells #[.slice a' n' c'] 48) := ⟨_, rfl⟩
  have B0 : Below w.heap.size w W := by rw [hW]; exact ((Below.refl _ _).alloc (Nat.le_refl _) _).alloc (by simp) _
  have t0 : W.cell? ⟨w.heap.size, 1, none⟩ = some (.slice a n c) := by rw [hW]; simp
  have p0 : W.cell? ⟨w.heap.size, 0, none⟩ = some (.int .i64 p) := by rw [hW]; simp
  have r0 : W.cell? ⟨w.heap.size + 1, 0, none⟩ = some (.slice a' n' c') := by rw [hW]; simp
  have HA := ha.below B0
  have HR := ha'.below B0
  clear ha ha'
  go_enter Try.func28, Try.ntmps28
  go_wp2
  rw [← hW]
  clear hW
  go_loopw [10] (fun i wr => ∃ (k : Nat), k ≤ n ∧ i = .int .i64 k ∧ wOf ts zs = wOf (ts.drop k) zs ∧ Below W.heap.size W wr) (fun i _ => n - (intOf i).toNat)
  case atStart => exact ⟨0, Nat.zero_le _, rfl, rfl, Below.refl _ _⟩
  case round =>
    obtain ⟨k, hk, rfl, hw0, hbw⟩ := hrel
    have B2 := B0.trans (hbw.mono B0.size)
    by_cases hlt : k < n
    · obtain ⟨b, off, rfl, hc⟩ := (HA.below hbw).some (by omega)
      obtain ⟨q, d, hcx, hwx, hm, hat⟩ := hc k (by omega)
      have h6 := hgr k hlt
      have HD := Hid.mk (hw0.trans (wOf_drop ts k zs (by omega)))
      have HR1 := HR.below hbw
      have r1 := cell_later hbw r0
      have hki : (k : Int) < (n : Int) := by omega
      generalize wat ts k = Y at *
      obtain ⟨ys, x⟩ := Y
      simp only at hcx hwx hat hm h6 HD
      obtain ⟨m, hmm⟩ : ∃ m, ys.length = m := ⟨_, rfl⟩
      rw [hmm] at hcx hm h6
      have HM := Hid.mk hmm
      clear hmm hc hw0 t0 p0 r0 HA HR
      obtain ⟨V, hV⟩ : ∃ V, V = wr.alloc (.cells #[.slice q m d, .int .i64 x] 63) := ⟨_, rfl⟩
      have hbV : Below wr.heap.size wr V := by rw [hV]; exact (Below.refl _ _).alloc (Nat.le_refl _) _
      have r2 := cell_later hbV r1
      have c3 : V.cell? ⟨wr.heap.size, 0, none⟩ = some (.slice q m d) := by rw [hV]; exact pair0 wr _ _ _
      have c4 : V.cell? ⟨wr.heap.size, 1, none⟩ = some (.int .i64 x) := by rw [hV]; exact pair1 wr _ _ _
      have HAx := hat.below hbV
      have HRx := HR1.below hbV
      have B3 := B2.trans (hbV.mono B2.size)
      have V3 := hbw.trans (hbV.mono hbw.size)
      have r2' := r2
      rw [hV] at r2'
      go_wp2_with fail
      rw [← hV]
      clear hV hcx hwx r1 r2' hat HR1 hbV
      refine (l1Compare_any _ _ _ _ _ _ ys zs _ HM.out hz' h6 l6 HAx HRx).mono ?_
      rintro e w2 ⟨rfl, hb2⟩
      have c5 := cell_later hb2 c4
      clear c3 c4 r2 HAx HRx
      by_cases e : ys = zs
      · have hcm : (cmp ys zs == 0) = true := by rw [e, cmp_self]; rfl
        have HX : Hid (wOf ts zs = x) := HD.out.trans (if_pos e)
        clear e HD
        go_wp2
        go_ret
        exact ⟨ret_int HX.out.symm, B3.trans (hb2.mono B3.size)⟩
      · have hcm : (cmp ys zs == 0) = false := by
          simp only [beq_eq_false_iff_ne]
          exact fun h => e (cmp_eq h)
        have HX : Hid (wOf ts zs = wOf (ts.drop (k + 1)) zs) := HD.out.trans (if_neg e)
        clear e HD
        go_wp2
        go_roundw
        case rel => exact ⟨k + 1, by omega, by go_num, HX.out, V3.trans (hb2.mono V3.size)⟩
        case measure => simp [intOf]; omega
    · have HX : Hid (wOf ts zs = 0) := by show _ = _; rw [hw0, List.drop_of_length_le (by omega)]; rfl
      clear hw0
      go_wp2
      go_ret
      exact ⟨ret_int HX.out.symm, B2⟩


end Go.Proofs.Ytogokgegkakmbac
