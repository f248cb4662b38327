/- Contract of impl.VarsIn. -/
import Derived.Test.YtipgepienagplaaQvI
import Derived.Test.YtipgepienagplaaSrtI
import Derived.Test.YtipgepienagplaaIntsR
import Derived.Test.YtipgepienagplaaAppendAll
import Derived.Deep.CutBlock
namespace Go.Proofs.Ytipgepienagplaa
open Go.RowKit

set_option maxRecDepth 100000 in
set_option maxHeartbeats 4000000 in
theorem implVarsIn (ha : Option Addr) (hn hc : Nat) (a : Option Addr) (n c : Nat) (zs : List Atm) (w : World) (hz : zs.length = n) (hb : n ≤ 9223372036854775807) (hat : AtQ w a zs) :
    Calls Try.prog 84 #[.agg #[.slice ha hn hc, .slice a n c]] w fun e w' => IntsRet e w' w.heap.size (qvB zs) (qvL zs) ∧ Below w.heap.size w w' := by
  obtain ⟨i0, hi, hz0, hz1, hz2⟩ := info_parts Try.infoInt
  obtain ⟨W, hW⟩ : ∃ W, W = w.alloc (.cells #[.slice ha hn hc, .slice a n c] 34) := ⟨_, rfl⟩
  have B0 : Below w.heap.size w W := by rw [hW]; exact (Below.refl _ _).alloc (Nat.le_refl _) _
  have q1 : W.cell? ⟨w.heap.size, 1, none⟩ = some (.slice a n c) := by rw [hW]; exact pair1 w _ _ _
  have HZ := Hid.mk hz
  have HA := Hid.mk hat
  have hno : qvB zs = false → qvL zs = [] := fun h1 => by unfold qvL; rw [if_neg (by rw [h1]; decide)]
  have HNO : Hid (∀ w' : World, qvB zs = false → IntsRet (.returned (.tuple #[.slice none 0 0, .bool false])) w' w.heap.size (qvB zs) (qvL zs)) := fun w' h1 => by
    rw [h1, hno h1]
    exact ⟨none, 0, 0, rfl, rfl, World.ownsRow_nil _ _ _ _⟩
  clear hz hat hno
  by_cases h5 : (5 : Int) < (n : Int)
  · have hf : qvB zs = false := by unfold qvB; rw [decide_eq_false (by have := HZ.out; omega)]; rfl
    have HF := Hid.mk hf
    clear hf
    go_enter Try.func84, Try.ntmps84
    go_wp2
    exact bodyPost_ret (v := .tuple #[.slice none 0 0, .bool false]) (by simp [results, Try.results84, go_sem]) rfl ⟨HNO.out _ HF.out, by rw [← hW]; exact B0⟩
  have HE : Hid (∀ wr : World, wr.ownsRow w.heap.size 3 1 (.slice none 0 0) 0 ((flatV (zs.take 0)).map (.int .i64))) := fun wr => (by rw [List.take_zero]; exact World.ownsRow_nil _ _ _ _)
  go_enter Try.func84, Try.ntmps84
  go_upto_region 5 with fail
  rw [← hW]
  clear hW q1
  go_loopw [4, 14] (fun p i wr => ∃ (k m : Nat) (r : Option Addr) (d : Nat), k ≤ n ∧ i = .int .i64 k ∧ p = .slice r m d ∧ (flatV (zs.take k)).length = m ∧ m ≤ 6 * k ∧ (zs.take k).all aOk = true ∧ wr.ownsRow w.heap.size 3 1 (.slice r m d) m ((flatV (zs.take k)).map (.int .i64)) ∧ Below w.heap.size w wr) (fun _ i _ => n - (intOf i).toNat)
  case atStart => exact ⟨0, 0, none, 0, Nat.zero_le _, rfl, rfl, by rw [List.take_zero]; rfl, Nat.le_refl _, by rw [List.take_zero]; rfl, HE.out _, B0⟩
  case round =>
    clear HE B0
    obtain ⟨k, m, r, d, hk, rfl, rfl, hm, hm6, hok, ho, hbw⟩ := hrel
    obtain ⟨wY, rfl⟩ : ∃ x, x = wr := ⟨_, rfl⟩
    by_cases hlt : k < n
    · obtain ⟨x, hx⟩ : ∃ x, zs[k]? = some x := ⟨_, List.getElem?_eq_getElem (by have := HZ.out; omega)⟩
      obtain ⟨b, off, rfl, _, hc⟩ := AtQ.row (AtSl.below HA.out hbw) (by have := HZ.out; omega)
      obtain ⟨ta, tn, tc, g0, g1, u1, u2, u3, u4⟩ := hc k x hx
      have hki : (k : Int) < (n : Int) := by omega
      have hmem : x ∈ zs := List.mem_of_getElem? hx
      have hbad : aOk x = false → qvB zs = false := fun h => by
        unfold qvB
        have : zs.all aOk = false := by
          rw [← Bool.not_eq_true]
          intro h'
          rw [List.all_eq_true.1 h' x hmem] at h
          cases h
        rw [this, Bool.and_false]
      have hao : aOk x = (decide (tn ≤ 6) && x.2.all vOk) := by unfold aOk; rw [u1]
      rw [hao] at hbad
      have hokn : (decide (tn ≤ 6) && x.2.all vOk) = true → (zs.take (k + 1)).all aOk = true := fun h => by
        obtain ⟨h1, h2⟩ := List.getElem?_eq_some_iff.1 hx
        rw [List.take_succ_eq_append_getElem h1, List.all_append, hok, h2, List.all_cons, hao, h]
        rfl
      have hft := flat_take zs k hx
      obtain ⟨U, hU⟩ : ∃ U, U = wY.alloc (.cells #[.int .i64 x.1, .slice ta tn tc] 81) := ⟨_, rfl⟩
      have hbU : Below wY.heap.size wY U := by rw [hU]; exact (Below.refl _ _).alloc (Nat.le_refl _) _
      have g1' : U.cell? ⟨wY.heap.size, 1, none⟩ = some (.slice ta tn tc) := by rw [hU]; exact pair1 wY _ _ _
      have HU3 := Hid.mk (At.below u3 hbU)
      have HU1 := Hid.mk u1
      have HU4 := Hid.mk u4
      have HO := Hid.mk (owns_below ho hbU)
      have HBU := Hid.mk (hbw.trans (hbU.mono hbw.size))
      have HBAD := Hid.mk hbad
      have HOKN := Hid.mk hokn
      have HFT := Hid.mk hft
      have HM := Hid.mk hm
      clear hc u3 u1 u4 hx hao hbad hokn hft hm hok ho hbw hbU hmem
      by_cases h6 : (6 : Int) < (tn : Int)
      · have HF := Hid.mk (HBAD.out (by rw [decide_eq_false (by omega)]; rfl))
        go_upto_region 7 with fail
        rw [← hU]
        clear hU g0 g1
        go_wp2
        exact bodyPost_ret (v := .tuple #[.slice none 0 0, .bool false]) (by simp [results, Try.results84, go_sem]) rfl ⟨HNO.out _ HF.out, HBU.out⟩
      · have HC := Hid.mk (noVars_any ta tn tc x.2 U HU1.out u2 HU3.out)
        go_upto_region 7 with fail
        rw [← hU]
        clear hU g0 g1
        cases hr : x.2.all vOk with
        | false =>
          have HF := Hid.mk (HBAD.out (by rw [hr]; simp))
          rw [hr] at HC
          clear hr
          go_wp2_with fail
          refine HC.out.mono ?_
          rintro e w2 ⟨rfl, h9⟩
          obtain rfl := h9.symm
          go_wp2
          exact bodyPost_ret (v := .tuple #[.slice none 0 0, .bool false]) (by simp [results, Try.results84, go_sem]) rfl ⟨HNO.out _ HF.out, HBU.out⟩
        | true =>
          have HOK := Hid.mk (HOKN.out (by rw [hr, decide_eq_true (by omega)]; rfl))
          rw [hr] at HC
          clear hr
          go_wp2_with fail
          refine HC.out.mono ?_
          rintro e w2 ⟨rfl, h9⟩
          obtain rfl := h9.symm
          go_wp2_with (at_builtin; refine wpList_append_all rfl (.tmp 27) (.tmp 29) 22 rfl w.heap.size 3 i0 (.int .i64 0) 8 Try.underlying22 hi hz0 hz1 hz2 rfl _ _ _ rfl HO.out ta tn tc x.2 rfl HU1.out HU3.out HU4.out (by unfold maxLen; omega) (by omega) HBU.out.size ?_)
          intro r3 d3 w3 ho3 hg3
          have HB3 := Hid.mk (HBU.out.grown hg3 HBU.out.size (fun j hj => (HO.out.lt j hj).1))
          have HO3 : Hid (w3.ownsRow w.heap.size 3 1 (.slice r3 (m + tn) d3) (m + tn) ((flatV (zs.take (k + 1))).map (.int .i64))) := by
            show World.ownsRow _ _ _ _ _ _ _
            rw [HFT.out, List.map_append]
            exact ho3
          have HM3 : Hid ((flatV (zs.take (k + 1))).length = m + tn) := by show _ = _; rw [HFT.out, List.length_append, HM.out, HU1.out]
          clear ho3 hg3 HO HC
          go_wp2
          go_roundw
          case rel => exact ⟨k + 1, m + tn, r3, d3, by omega, by go_num, rfl, HM3.out, by omega, HOK.out, HO3.out, HB3.out⟩
          case measure => simp [intOf]; omega
    · obtain rfl : k = n := by omega
      rw [List.take_of_length_le (by have := HZ.out; omega)] at hm hok ho
      have hf : qvB zs = true := by unfold qvB; rw [decide_eq_true (by have := HZ.out; omega), hok]; rfl
      have h2 : qvL zs = bl (vset zs) := by unfold qvL; rw [if_pos hf]
      have hin : ∀ x ∈ zs, ∀ v ∈ x.2, (0 : Int) ≤ v ∧ v < 6 := fun x hx => aOk_in (List.all_eq_true.1 hok x hx)
      have hcs := compact_sort (flat_in hin)
      have hsl : ((flatV zs).mergeSort fun x y => decide (x ≤ y)).length = m := by rw [List.length_mergeSort, hm]
      have HF := Hid.mk (And.intro hf h2)
      have HCS := Hid.mk hcs
      have HSL := Hid.mk hsl
      have HC := Hid.mk (sortInts_own w.heap.size r m d (flatV zs) wY hm (by omega) hbw.size ho)
      clear hf h2 hin hm hok ho hcs hsl
      go_wp2_with fail
      refine HC.out.mono ?_
      rintro e w2 ⟨rfl, o2, b2⟩
      have B2 := hbw.trans b2
      have HC2 := Hid.mk (compactInts_own w.heap.size r m d _ w2 HSL.out (by omega) B2.size o2)
      have HB2 := Hid.mk B2
      clear o2 b2 hbw B2 HC
      go_wp2_with fail
      refine HC2.out.mono ?_
      rintro e w3 ⟨m3, rfl, l3, o3, b3⟩
      rw [HCS.out] at l3 o3
      have HL3 := Hid.mk l3
      have HO3 := Hid.mk o3
      have HB3 := Hid.mk (HB2.out.trans b3)
      clear l3 o3 b3 HC2
      go_wp2
      exact bodyPost_ret (v := .tuple #[.slice r m3 d, .bool true]) (by simp [results, Try.results84, go_sem]) rfl ⟨by rw [HF.out.1, HF.out.2]; exact ⟨r, m3, d, rfl, HL3.out, HO3.out⟩, HB3.out⟩

end Go.Proofs.Ytipgepienagplaa
