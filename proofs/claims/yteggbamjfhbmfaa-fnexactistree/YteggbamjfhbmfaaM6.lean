/- Several texts of one proof, in build order: QvS, L1In, GqS, KrU, EdP, KrR, PsL, StepV, StepW. -/
import Derived.Test.YteggbamjfhbmfaaM5
import Derived.Deep.CutBlock
import Derived.Test.YteggbamjfhbmfaaM0
import Derived.Test.YteggbamjfhbmfaaRows
import Derived.Test.YteggbamjfhbmfaaM4
import Derived.Test.YteggbamjfhbmfaaM3

/- Contracts of spec.l10Var, spec.l10Vars, spec.VarsIn. -/
namespace Go.Proofs.Yteggbamjfhbmfaa
open Go.RowKit

theorem l10Var_any (x : Int) (w : World) :
    Calls Try.prog 67 #[.int .i64 x] w fun e w' => e = .returned (.bool (vOk x)) ∧ w' = w := by
  by_cases h0 : 0 ≤ x
  · have hv : vOk x = decide (x < 6) := by unfold vOk; rw [decide_eq_true h0, Bool.true_and]
    rw [hv]
    go_enter Try.func67, Try.ntmps67
    go_wp2
    go_ret
    exact ⟨ret_bool (by simp), rfl⟩
  · have hv : vOk x = false := by unfold vOk; rw [decide_eq_false h0]; rfl
    rw [hv]
    go_enter Try.func67, Try.ntmps67
    go_wp2
    go_ret
    exact ⟨rfl, rfl⟩

/-- The variables of the first k atoms, and of the first j variables of the next. -/
def vsTo (zs : List Atm) (k : Nat) (ys : List Int) (j : Nat) : Nat := vset (zs.take k) ||| mk (ys.take j)
theorem vsTo_next {zs : List Atm} {k : Nat} {x : Atm} (h : zs[k]? = some x) : vsTo zs k x.2 x.2.length = vset (zs.take (k + 1)) := by
  unfold vsTo vset
  rw [flat_take zs k h, mk_append, List.take_length]

set_option maxRecDepth 100000 in
set_option maxHeartbeats 4000000 in
theorem l10Vars_any (ha : Option Addr) (hn hc : Nat) (a : Option Addr) (n c : Nat) (zs : List Atm) (w : World) (hz : zs.length = n) (hb : n ≤ 9223372036854775807) (hin : ∀ x ∈ zs, ∀ v ∈ x.2, (0 : Int) ≤ v ∧ v < 6) (hat : AtQ w a zs) :
    Calls Try.prog 68 #[.agg #[.slice ha hn hc, .slice a n c]] w fun e w' => ∃ r m d, e = .returned (.slice r m d) ∧ (bl (vset zs)).length = m ∧ w'.ownsRow w.heap.size 3 1 (.slice r m d) m ((bl (vset zs)).map (.int .i64)) ∧ Below w.heap.size w w' := by
  obtain ⟨W, hW⟩ : ∃ W, W = w.alloc (.cells #[.slice ha hn hc, .slice a n c] 32) := ⟨_, rfl⟩
  have B0 : Below w.heap.size w W := by rw [hW]; exact (Below.refl _ _).alloc (Nat.le_refl _) _
  have HZ := Hid.mk hz
  have HA := Hid.mk hat
  have HIN := Hid.mk hin
  have HE : Hid (∀ wr : World, wr.ownsRow w.heap.size 3 1 (.slice none 0 0) 0 ((bl (vset (zs.take 0))).map (.int .i64))) := fun wr => (by rw [List.take_zero, show bl (vset []) = [] by decide +kernel]; exact World.ownsRow_nil _ _ _ _)
  clear hz hat hin
  go_enter Try.func68, Try.ntmps68
  go_upto_region 3 with fail
  rw [← hW]
  clear hW
  go_loopw [3, 11] (fun p i wr => ∃ (k m : Nat) (r : Option Addr) (d : Nat), k ≤ n ∧ i = .int .i64 k ∧ p = .slice r m d ∧ (bl (vset (zs.take k))).length = m ∧ wr.ownsRow w.heap.size 3 1 (.slice r m d) m ((bl (vset (zs.take k))).map (.int .i64)) ∧ Below w.heap.size w wr) (fun _ i _ => n - (intOf i).toNat)
  case atStart => exact ⟨0, 0, none, 0, Nat.zero_le _, rfl, rfl, by rw [List.take_zero]; decide +kernel, HE.out _, B0⟩
  case round =>
    clear HE B0
    obtain ⟨k, m, r, d, hk, rfl, rfl, hm, ho, hbw⟩ := hrel
    obtain ⟨wY, rfl⟩ : ∃ x, x = wr := ⟨_, rfl⟩
    by_cases hlt : k < n
    · obtain ⟨x, hx⟩ : ∃ x, zs[k]? = some x := ⟨_, List.getElem?_eq_getElem (by have := HZ.out; omega)⟩
      obtain ⟨b, off, rfl, _, hc⟩ := AtQ.row HA.out (by have := HZ.out; omega)
      obtain ⟨ta, tn, tc, g0, g1, u1, u2, u3, _⟩ := hc k x hx
      have g0 := cell_later hbw g0
      have g1 := cell_later hbw g1
      have hki : (k : Int) < (n : Int) := by omega
      have hxin : ∀ v ∈ x.2, (0 : Int) ≤ v ∧ v < 6 := HIN.out x (List.mem_of_getElem? hx)
      have hvl : vset (zs.take k) < 64 := vset_lt (fun y hy => HIN.out y (List.mem_of_mem_take hy))
      obtain ⟨U, hU⟩ : ∃ U, U = wY.alloc (.cells #[.int .i64 x.1, .slice ta tn tc] 76) := ⟨_, rfl⟩
      have hbU : Below wY.heap.size wY U := by rw [hU]; exact (Below.refl _ _).alloc (Nat.le_refl _) _
      have HO : Hid (U.ownsRow w.heap.size 3 1 (.slice r m d) m ((bl (vsTo zs k x.2 0)).map (.int .i64))) := by
        show World.ownsRow _ _ _ _ _ _ _
        have : vsTo zs k x.2 0 = vset (zs.take k) := by simp [vsTo, mk]
        rw [this]
        exact owns_below ho hbU
      have HM : Hid ((bl (vsTo zs k x.2 0)).length = m) := by
        show _ = _
        have : vsTo zs k x.2 0 = vset (zs.take k) := by simp [vsTo, mk]
        rw [this]; exact hm
      have HU3 := Hid.mk u3
      have HU1 := Hid.mk u1
      have HX := Hid.mk hx
      have HXI := Hid.mk hxin
      have HBW := Hid.mk hbw
      have HBU := Hid.mk (hbw.trans (hbU.mono hbw.size))
      have g1' : U.cell? ⟨wY.heap.size, 1, none⟩ = some (.slice ta tn tc) := by rw [hU]; exact pair1 wY _ _ _
      clear hc u3 u1 hx hxin hm ho hbw
      go_upto_region 5 with fail
      rw [← hU]
      clear hU g0 g1
      go_wp2_with fail
      go_loopw [3, 18] (fun p i wx => ∃ (j m' : Nat) (r' : Option Addr) (d' : Nat), j ≤ tn ∧ i = .int .i64 j ∧ p = .slice r' m' d' ∧ (bl (vsTo zs k x.2 j)).length = m' ∧ wx.ownsRow w.heap.size 3 1 (.slice r' m' d') m' ((bl (vsTo zs k x.2 j)).map (.int .i64)) ∧ Below w.heap.size w wx) (fun _ i _ => tn - (intOf i).toNat)
      case atStart => exact ⟨0, m, r, d, Nat.zero_le _, rfl, rfl, HM.out, HO.out, HBU.out⟩
      case round =>
        clear HM HO HBU g1' hbU
        obtain ⟨j, m', r', d', hj, rfl, rfl, hm', ho', hbx⟩ := hrel
        obtain ⟨wX, rfl⟩ : ∃ x, x = wr := ⟨_, rfl⟩
        by_cases hjt : j < tn
        · have hAx := At.below HU3.out hbx
          obtain ⟨b', off', rfl, _, hcx⟩ := hAx.some (by have := HU1.out; omega)
          have hv := hcx j (by have := HU1.out; omega)
          have hji : (j : Int) < (tn : Int) := by omega
          have hins : insI (bl (vsTo zs k x.2 j)) (x.2.getD j 0) = bl (vsTo zs k x.2 (j + 1)) := ins_take hvl HXI.out (by have := HU1.out; omega)
          have hml : m' ≤ 2097152 := by have := bl_len (vsTo zs k x.2 j); omega
          obtain ⟨y, hy⟩ : ∃ y, y = x.2.getD j 0 := ⟨_, rfl⟩
          rw [← hy] at hv hins
          have HI := Hid.mk hins
          have HP := Hid.mk (l7Put_any w.heap.size r' m' d' (bl (vsTo zs k x.2 j)) y wX hm' hml hbx.size ho')
          have HBX := Hid.mk hbx
          clear hcx hy hins hm' ho' hbx hAx hml
          go_wp2_with fail
          refine HP.out.mono ?_
          rintro e w2 ⟨r2, m2, d2, rfl, h2, o2, b2⟩
          rw [HI.out] at h2 o2
          have HH := Hid.mk h2
          have HO2 := Hid.mk o2
          have HB2 := Hid.mk (HBX.out.trans (b2.mono HBX.out.size))
          clear h2 o2 b2 HBX HP
          go_wp2
          go_roundw
          case rel => exact ⟨j + 1, m2, r2, d2, by omega, by go_num, rfl, HH.out, HO2.out, HB2.out⟩
          case measure => simp [intOf]; omega
        · obtain rfl : j = tn := by omega
          have hvn := vsTo_next HX.out
          rw [HU1.out] at hvn
          rw [hvn] at hm' ho'
          have HM' := Hid.mk hm'
          have HO' := Hid.mk ho'
          clear hvn hm' ho'
          go_wp2
          go_roundw
          case rel => exact ⟨k + 1, m', r', d', by omega, by go_num, rfl, HM'.out, HO'.out, hbx⟩
          case measure => simp [intOf]; omega
    · obtain rfl : k = n := by omega
      rw [List.take_of_length_le (by have := HZ.out; omega)] at hm ho
      have HM := Hid.mk hm
      have HO := Hid.mk ho
      clear hm ho
      go_wp2
      go_ret
      exact ⟨r, m, d, rfl, HM.out, HO.out, hbw⟩


end Go.Proofs.Yteggbamjfhbmfaa

/- Contract of spec.l1In. -/
namespace Go.Proofs.Yteggbamjfhbmfaa
open Go.RowKit

theorem l1In_any (x lo hi : Int) (w : World) :
    Calls Try.prog 52 #[.int .i64 x, .int .i64 lo, .int .i64 hi] w fun e w' => e = .returned (.bool (decide (lo ≤ x) && decide (x ≤ hi))) ∧ w' = w := by
  by_cases h : lo ≤ x
  · have h1 : decide (lo ≤ x) = true := decide_eq_true h
    go_enter Try.func52, Try.ntmps52
    go_wp2
    go_ret
    exact ⟨ret_bool (by simp [h]), rfl⟩
  · have h1 : decide (lo ≤ x) = false := decide_eq_false h
    go_enter Try.func52, Try.ntmps52
    go_wp2
    go_ret
    exact ⟨ret_bool (by simp), rfl⟩

end Go.Proofs.Yteggbamjfhbmfaa

/- Contracts of spec.l10Tables, spec.GoodQuery. -/
namespace Go.Proofs.Yteggbamjfhbmfaa
open Go.RowKit

theorem tab_all {ts : List Int} (h : (ts.all fun n => decide (1 ≤ n) && decide (n ≤ 3)) = false) : tabOk ts = false := by unfold tabOk; rw [h, Bool.and_false]

set_option maxHeartbeats 1000000 in
theorem l10Tables_any (a : Option Addr) (n c : Nat) (ts : List Int) (w : World) (hz : ts.length = n) (hn : n ≤ 9223372036854775807) (ha : At w a ts) :
    Calls Try.prog 66 #[.slice a n c] w fun e w' => e = .returned (.bool (tabOk ts)) ∧ w' = w := by
  by_cases h0 : n = 0
  · subst h0
    obtain rfl := List.eq_nil_of_length_eq_zero hz
    go_enter Try.func66, Try.ntmps66
    go_wp2
    refine wp_loop_rounds 1 ?_
    rw [rounds_succ]
    go_wp2_with fail
    refine (l1In_any _ _ _ _).mono ?_
    rintro e w2 ⟨rfl, rfl⟩
    go_wp2
    go_ret
    exact ⟨rfl, rfl⟩
  obtain ⟨b, off, rfl, hb, hc⟩ := ha.some (by omega)
  clear ha
  go_enter Try.func66, Try.ntmps66
  go_wp2
  go_loopw [7] (fun i wr => ∃ (k : Nat), k ≤ n ∧ i = .int .i64 k ∧ (ts.all fun n => decide (1 ≤ n) && decide (n ≤ 3)) = ((ts.drop k).all fun n => decide (1 ≤ n) && decide (n ≤ 3)) ∧ wr = w) (fun i _ => n - (intOf i).toNat)
  case atStart => exact ⟨0, Nat.zero_le _, rfl, rfl, rfl⟩
  case round =>
    obtain ⟨k, hk, rfl, ht, rfl⟩ := hrel
    by_cases hlt : k < n
    · have hcx : wr.cell? ⟨b, off + k, none⟩ = some (.int .i64 (ts.getD k 0)) := hc k (by omega)
      rw [all_drop_int _ (by omega)] at ht
      obtain ⟨y, hy⟩ : ∃ y, y = ts.getD k 0 := ⟨_, rfl⟩
      rw [← hy] at hcx ht
      have HT := Hid.mk ht
      clear hc hy ht
      have HC := Hid.mk (l1In_any y 1 3 wr)
      cases hr : (decide (1 ≤ y) && decide (y ≤ 3)) with
      | false =>
        rw [hr] at HC
        go_wp2_with fail
        refine HC.out.mono ?_
        rintro e w2 ⟨rfl, h9⟩
        obtain rfl := h9.symm
        go_wp2
        go_ret
        exact ⟨ret_bool (tab_all (by rw [HT.out, hr]; rfl)).symm, rfl⟩
      | true =>
        rw [hr] at HC
        go_wp2_with fail
        refine HC.out.mono ?_
        rintro e w2 ⟨rfl, h9⟩
        obtain rfl := h9.symm
        go_wp2
        go_roundw
        case rel => exact ⟨k + 1, by omega, by go_num, by rw [HT.out, hr]; rfl, trivial⟩
        case measure => simp [intOf]; omega
    · rw [List.drop_of_length_le (by omega)] at ht
      have HT : Hid (tabOk ts = (decide ((1 : Int) ≤ (n : Int)) && decide ((n : Int) ≤ 4))) := by
        show _ = _
        unfold tabOk
        rw [ht, hz]
        simp
        have e1 : decide (1 ≤ n) = decide ((1 : Int) ≤ (n : Int)) := by simp; omega
        have e2 : decide (n ≤ 4) = decide ((n : Int) ≤ 4) := by simp; omega
        rw [e1, e2]
      have HC := Hid.mk (l1In_any (n : Int) 1 4 wr)
      rw [← HT.out] at HC
      clear ht
      go_wp2_with fail
      refine HC.out.mono ?_
      rintro e w2 ⟨rfl, h9⟩
      obtain rfl := h9.symm
      go_wp2
      go_ret
      exact ⟨rfl, rfl⟩

/-- What the model asks of an atom. -/
abbrev amB (ts : List Int) (a : Atm) : Bool := atOk ts a && a.2.all vOk

set_option maxRecDepth 100000 in
set_option maxHeartbeats 8000000 in
theorem specGoodQuery (ha : Option Addr) (hn hc : Nat) (hs : List Int) (a : Option Addr) (n c : Nat) (zs : List Atm) (ta : Option Addr) (tn tc : Nat) (ts : List Int) (w : World) (hh : hs.length = hn) (hhb : hn ≤ 9223372036854775807) (hat : At w ha hs) (hz : zs.length = n) (hb : n ≤ 9223372036854775807) (haz : AtQ w a zs) (htz : ts.length = tn) (htb : tn ≤ 9223372036854775807) (hta : At w ta ts) :
    Calls Try.prog 38 #[.agg #[.slice ha hn hc, .slice a n c], .slice ta tn tc] w fun e w' => e = .returned (.bool (gqB hs zs ts)) ∧ Below w.heap.size w w' := by
  obtain ⟨W, hW⟩ : ∃ W, W = w.alloc (.cells #[.slice ha hn hc, .slice a n c] 32) := ⟨_, rfl⟩
  have B0 : Below w.heap.size w W := by rw [hW]; exact (Below.refl _ _).alloc (Nat.le_refl _) _
  have q0 : W.cell? ⟨w.heap.size, 0, none⟩ = some (.slice ha hn hc) := by rw [hW]; exact pair0 w _ _ _
  have q1 : W.cell? ⟨w.heap.size, 1, none⟩ = some (.slice a n c) := by rw [hW]; exact pair1 w _ _ _
  have HZ := Hid.mk hz
  have HH := Hid.mk hh
  have HTZ := Hid.mk htz
  have HA := Hid.mk haz
  have HAH := Hid.mk hat
  have HAT := Hid.mk hta
  have HC1 := Hid.mk (l10Tables_any ta tn tc ts W htz htb (At.below hta B0))
  have HC2 := Hid.mk (l1In_any (n : Int) 1 5 W)
  clear hz hh htz haz hat hta
  cases ht : tabOk ts with
  | false =>
    rw [ht] at HC1
    have HF := Hid.mk (gq_not (hs := hs) (zs := zs) (.inl ht))
    clear ht
    go_enter Try.func38, Try.ntmps38
    go_wp2_with fail
    rw [← hW]
    refine HC1.out.mono ?_
    rintro e w2 ⟨rfl, h9⟩
    obtain rfl := h9.symm
    clear hW
    go_wp2
    go_ret
    exact ⟨ret_bool HF.out.symm, B0⟩
  | true =>
  rw [ht] at HC1
  have HTO := Hid.mk ht
  clear ht
  by_cases h1 : 1 ≤ n ∧ n ≤ 5
  rotate_left
  · have hq : gqB hs zs ts = false := by
      by_cases h9 : 1 ≤ n
      · exact gq_not (.inr (.inr (.inr (.inl (by unfold qvB; rw [decide_eq_false (by have := HZ.out; omega)]; rfl)))))
      · exact gq_not (.inr (.inl (by have := HZ.out; omega)))
    have hd : (decide ((1 : Int) ≤ (n : Int)) && decide ((n : Int) ≤ 5)) = false := by simp; omega
    have HF := Hid.mk hq
    rw [hd] at HC2
    clear hq hd h1
    go_enter Try.func38, Try.ntmps38
    go_wp2_with fail
    rw [← hW]
    refine HC1.out.mono ?_
    rintro e w2 ⟨rfl, h9⟩
    obtain rfl := h9.symm
    clear hW
    go_wp2_with fail
    refine HC2.out.mono ?_
    rintro e w2 ⟨rfl, h9⟩
    obtain rfl := h9.symm
    go_wp2
    go_ret
    exact ⟨ret_bool HF.out.symm, B0⟩
  have hd : (decide ((1 : Int) ≤ (n : Int)) && decide ((n : Int) ≤ 5)) = true := by simp; omega
  rw [hd] at HC2
  clear hd
  by_cases h6 : (6 : Int) < (hn : Int)
  · have HF := Hid.mk (gq_not (hs := hs) (zs := zs) (ts := ts) (.inr (.inr (.inl (by have := HH.out; omega)))))
    go_enter Try.func38, Try.ntmps38
    go_wp2_with fail
    rw [← hW]
    refine HC1.out.mono ?_
    rintro e w2 ⟨rfl, h9⟩
    obtain rfl := h9.symm
    clear hW
    go_wp2_with fail
    refine HC2.out.mono ?_
    rintro e w2 ⟨rfl, h9⟩
    obtain rfl := h9.symm
    go_wp2
    go_ret
    exact ⟨ret_bool HF.out.symm, B0⟩
  have HGM : Hid (gqB hs zs ts = (zs.all (amB ts) && hs.all fun v => decide (v ∈ bl (vset zs)))) := gq_model HTO.out (by have := HZ.out; omega) (by have := HZ.out; omega) (by have := HH.out; omega)
  go_enter Try.func38, Try.ntmps38
  go_wp2_with fail
  rw [← hW]
  refine HC1.out.mono ?_
  rintro e w2 ⟨rfl, h9⟩
  obtain rfl := h9.symm
  clear hW
  go_wp2_with fail
  refine HC2.out.mono ?_
  rintro e w2 ⟨rfl, h9⟩
  obtain rfl := h9.symm
  clear HC1 HC2
  go_wp2_with fail
  go_loopw [28] (fun i wr => ∃ (k : Nat), k ≤ n ∧ i = .int .i64 k ∧ zs.all (amB ts) = (zs.drop k).all (amB ts) ∧ Below w.heap.size w wr ∧ Below W.heap.size W wr) (fun i _ => n - (intOf i).toNat)
  case atStart => exact ⟨0, Nat.zero_le _, rfl, rfl, B0, Below.refl _ _⟩
  case round =>
    clear B0
    obtain ⟨k, hk, rfl, ht, hbw, hb3⟩ := hrel
    obtain ⟨wY, rfl⟩ : ∃ x, x = wr := ⟨_, rfl⟩
    by_cases hlt : k < n
    · obtain ⟨⟨xp, xv⟩, hx⟩ : ∃ x, zs[k]? = some x := ⟨_, List.getElem?_eq_getElem (by have := HZ.out; omega)⟩
      obtain ⟨b, off, rfl, _, hc⟩ := AtQ.row (AtSl.below HA.out hbw) (by have := HZ.out; omega)
      obtain ⟨va, vn, vc, g0, g1, u1, u2, u3, _⟩ := hc k _ hx
      have hki : (k : Int) < (n : Int) := by omega
      rw [all_drop_atm _ hx] at ht
      have hao : amB ts (xp, xv) = (decide (0 ≤ xp) && decide (xp < tn) && decide ((vn : Int) = ts.getD xp.toNat 0) && xv.all vOk) := by unfold amB atOk; simp only [] at u1 ⊢; rw [HTZ.out, u1]
      rw [hao] at ht
      obtain ⟨U, hU⟩ : ∃ U, U = wY.alloc (.cells #[.int .i64 xp, .slice va vn vc] 76) := ⟨_, rfl⟩
      have hbU : Below wY.heap.size wY U := by rw [hU]; exact (Below.refl _ _).alloc (Nat.le_refl _) _
      have e0 : U.cell? ⟨wY.heap.size, 0, none⟩ = some (.int .i64 xp) := by rw [hU]; exact pair0 wY _ _ _
      have e1 : U.cell? ⟨wY.heap.size, 1, none⟩ = some (.slice va vn vc) := by rw [hU]; exact pair1 wY _ _ _
      have HT := Hid.mk ht
      have HU1 : Hid (xv.length = vn) := u1
      have HU3 : Hid (At U va xv) := At.below u3 hbU
      have HBU := Hid.mk (And.intro (hbw.trans (hbU.mono hbw.size)) (hb3.trans (hbU.mono hb3.size)))
      have HTA := Hid.mk (At.below HAT.out HBU.out.1)
      clear hc hx ht hao u1 u3 hbU
      go_upto_region 6 with fail
      rw [← hU]
      clear hU g0 g1
      by_cases hneg : xp < 0
      · have HF : Hid (gqB hs zs ts = false) := by show _ = _; rw [HGM.out, HT.out, decide_eq_false (by omega)]; rfl
        clear hbw hb3
        refine wp_region_held_drew (S := fun w' => w'.cell? ⟨wY.heap.size, 0, none⟩ = some (.int .i64 (xp)) ∧ w'.cell? ⟨wY.heap.size, 1, none⟩ = some (.slice va vn vc)) (by kernel_rfl) ?_ (fun hHeld => ?_)
        · (try dsimp only)
          (refine ⟨?_, ?_⟩ <;> assumption)
        refine tk 0 ?_
        refine tk 1 ?_
        refine tk 2 ?_
        refine tk 3 ?_
        refine tu 4 ?_
        refine tu 5 ?_
        refine tu 6 ?_
        refine tu 7 ?_
        refine tu 8 ?_
        refine tk 9 ?_
        refine tk 10 ?_
        refine tu 11 ?_
        refine tu 12 ?_
        refine tu 13 ?_
        refine tu 14 ?_
        refine tu 15 ?_
        refine tu 16 ?_
        refine tu 17 ?_
        refine tu 18 ?_
        refine tu 19 ?_
        refine tk 20 ?_
        refine wpAnyH_done (by kernel_rfl) ?_ _
        go_wp2
        go_ret
        exact ⟨ret_bool HF.out.symm, HBU.out.1.drew⟩
      · obtain ⟨p, rfl⟩ := Int.eq_ofNat_of_zero_le (show 0 ≤ xp by omega)
        by_cases hbig : (tn : Int) ≤ (p : Int)
        · have HF : Hid (gqB hs zs ts = false) := by show _ = _; rw [HGM.out, HT.out, decide_eq_false (show ¬ (p : Int) < (tn : Int) by omega)]; simp
          clear hbw hb3
          refine wp_region_held_drew (S := fun w' => w'.cell? ⟨wY.heap.size, 0, none⟩ = some (.int .i64 ((p : Nat))) ∧ w'.cell? ⟨wY.heap.size, 1, none⟩ = some (.slice va vn vc)) (by kernel_rfl) ?_ (fun hHeld => ?_)
          · (try dsimp only)
            (refine ⟨?_, ?_⟩ <;> assumption)
          refine tk 0 ?_
          refine tk 1 ?_
          refine tk 2 ?_
          refine tk 3 ?_
          refine tk 4 ?_
          refine tk 5 ?_
          refine tk 6 ?_
          refine tk 7 ?_
          refine tk 8 ?_
          refine tk 9 ?_
          refine tk 10 ?_
          refine tu 11 ?_
          refine tu 12 ?_
          refine tu 13 ?_
          refine tu 14 ?_
          refine tu 15 ?_
          refine tu 16 ?_
          refine tu 17 ?_
          refine tu 18 ?_
          refine tu 19 ?_
          refine tk 20 ?_
          refine wpAnyH_done (by kernel_rfl) ?_ _
          go_wp2
          go_ret
          exact ⟨ret_bool HF.out.symm, HBU.out.1.drew⟩
        · obtain ⟨tb, toff, rfl, _, htc⟩ := HTA.out.some (by have := HTZ.out; omega)
          have htp := htc p (by have := HTZ.out; omega)
          have hpi : (p : Int) < (tn : Int) := by omega
          obtain ⟨tp, htp'⟩ : ∃ tp, tp = ts.getD p 0 := ⟨_, rfl⟩
          rw [← htp'] at htp
          have HEQ : Hid (zs.all (amB ts) = (decide ((vn : Int) = tp) && xv.all vOk && (zs.drop (k + 1)).all (amB ts))) := by
            show _ = _
            rw [HT.out, decide_eq_true (show (0 : Int) ≤ (p : Int) by omega), decide_eq_true hpi, htp', Int.toNat_natCast]
            rfl
          clear htc htp' hbw hb3
          by_cases hvt : (vn : Int) = tp
          · have HN : Hid (zs.all (amB ts) = (xv.all vOk && (zs.drop (k + 1)).all (amB ts))) := by show _ = _; rw [HEQ.out, decide_eq_true hvt]; rfl
            clear HEQ
            refine wp_region_held_drew (S := fun w' => w'.cell? ⟨wY.heap.size, 0, none⟩ = some (.int .i64 ((p : Nat))) ∧ w'.cell? ⟨wY.heap.size, 1, none⟩ = some (.slice va vn vc) ∧ w'.cell? ⟨tb, toff + p, none⟩ = some (.int .i64 tp)) (by kernel_rfl) ?_ (fun hHeld => ?_)
            · (try dsimp only)
              (refine ⟨?_, ?_, ?_⟩ <;> assumption)
            refine tk 0 ?_
            refine tk 1 ?_
            refine tk 2 ?_
            refine tk 3 ?_
            refine tk 4 ?_
            refine tk 5 ?_
            refine tk 6 ?_
            refine tk 7 ?_
            refine tk 8 ?_
            refine tk 9 ?_
            refine tk 10 ?_
            refine tk 11 ?_
            refine tk 12 ?_
            refine tk 13 ?_
            refine tk 14 ?_
            refine tk 15 ?_
            refine tk 16 ?_
            refine tk 17 ?_
            refine tk 18 ?_
            refine tk 19 ?_
            refine tk 20 ?_
            refine wpAnyH_done (by kernel_rfl) ?_ _
            obtain ⟨V, hV⟩ : ∃ V, V = U.drew := ⟨_, rfl⟩
            have e1' : V.cell? ⟨wY.heap.size, 1, none⟩ = some (.slice va vn vc) := by rw [hV]; exact e1
            have HU3' : Hid (At V va xv) := by show At _ _ _; rw [hV]; exact HU3.out.drew
            have HBV : Hid (Below w.heap.size w V ∧ Below W.heap.size W V) := by rw [hV]; exact ⟨HBU.out.1.drew, HBU.out.2.drew⟩
            rw [← hV]
            clear hV e0 e1 HU3 HBU HTA htp
            go_wp2_with fail
            go_loopw [56] (fun i wx => ∃ (j : Nat), j ≤ vn ∧ i = .int .i64 j ∧ xv.all vOk = (xv.drop j).all vOk ∧ wx = V) (fun i _ => vn - (intOf i).toNat)
            case atStart => exact ⟨0, Nat.zero_le _, rfl, rfl, rfl⟩
            case round =>
              obtain ⟨j, hj, rfl, hvj, rfl⟩ := hrel
              by_cases hjt : j < vn
              · obtain ⟨b', off', rfl, _, hcx⟩ := HU3'.out.some (by have := HU1.out; omega)
                have hv := hcx j (by have := HU1.out; omega)
                have hji : (j : Int) < (vn : Int) := by omega
                rw [all_drop_int _ (by have := HU1.out; omega)] at hvj
                obtain ⟨y, hy⟩ : ∃ y, y = xv.getD j 0 := ⟨_, rfl⟩
                rw [← hy] at hv hvj
                have HVT := Hid.mk hvj
                clear hcx hy hvj
                cases hr : vOk y with
                | false =>
                  go_wp2_with fail
                  refine (l10Var_any y wr).mono ?_
                  rintro e w2 ⟨rfl, h9⟩
                  obtain rfl := h9.symm
                  rw [hr]
                  have HF : Hid (gqB hs zs ts = false) := by show _ = _; rw [HGM.out, HN.out, HVT.out, hr]; rfl
                  clear hr
                  go_wp2
                  go_ret
                  exact ⟨ret_bool HF.out.symm, HBV.out.1⟩
                | true =>
                  go_wp2_with fail
                  refine (l10Var_any y wr).mono ?_
                  rintro e w2 ⟨rfl, h9⟩
                  obtain rfl := h9.symm
                  rw [hr]
                  go_wp2
                  go_roundw
                  case rel => exact ⟨j + 1, by omega, by go_num, by rw [HVT.out, hr]; rfl, trivial⟩
                  case measure => simp [intOf]; omega
              · rw [List.drop_of_length_le (by have := HU1.out; omega)] at hvj
                have HVT : Hid (zs.all (amB ts) = (zs.drop (k + 1)).all (amB ts)) := by show _ = _; rw [HN.out, hvj]; rfl
                clear hvj
                go_wp2
                go_roundw
                case rel => exact ⟨k + 1, by omega, by go_num, HVT.out, HBV.out.1, HBV.out.2⟩
                case measure => simp [intOf]; omega
          · have HF : Hid (gqB hs zs ts = false) := by show _ = _; rw [HGM.out, HEQ.out, decide_eq_false hvt]; rfl
            clear HEQ
            refine wp_region_held_drew (S := fun w' => w'.cell? ⟨wY.heap.size, 0, none⟩ = some (.int .i64 ((p : Nat))) ∧ w'.cell? ⟨wY.heap.size, 1, none⟩ = some (.slice va vn vc) ∧ w'.cell? ⟨tb, toff + p, none⟩ = some (.int .i64 tp)) (by kernel_rfl) ?_ (fun hHeld => ?_)
            · (try dsimp only)
              (refine ⟨?_, ?_, ?_⟩ <;> assumption)
            refine tk 0 ?_
            refine tk 1 ?_
            refine tk 2 ?_
            refine tk 3 ?_
            refine tk 4 ?_
            refine tk 5 ?_
            refine tk 6 ?_
            refine tk 7 ?_
            refine tk 8 ?_
            refine tk 9 ?_
            refine tk 10 ?_
            refine tk 11 ?_
            refine tk 12 ?_
            refine tk 13 ?_
            refine tk 14 ?_
            refine tk 15 ?_
            refine tk 16 ?_
            refine tk 17 ?_
            refine tk 18 ?_
            refine tk 19 ?_
            refine tk 20 ?_
            refine wpAnyH_done (by kernel_rfl) ?_ _
            go_wp2
            go_ret
            exact ⟨ret_bool HF.out.symm, HBU.out.1.drew⟩
    · rw [List.drop_of_length_le (by have := HZ.out; omega)] at ht
      have ht : zs.all (amB ts) = true := ht
      have hin : ∀ x ∈ zs, ∀ v ∈ x.2, (0 : Int) ≤ v ∧ v < 6 := fun x hx v hv => vOk_iff.1 (List.all_eq_true.1 (Bool.and_eq_true_iff.1 (List.all_eq_true.1 ht x hx)).2 v hv)
      have HGY : Hid (gqB hs zs ts = hs.all fun v => decide (v ∈ bl (vset zs))) := by show _ = _; rw [HGM.out, ht]; rfl
      have q0 := cell_later hb3 q0
      have q1 := cell_later hb3 q1
      have HC1 : Hid (∀ w' : World, Below wY.heap.size wY w' → Calls Try.prog 68 #[.agg #[.slice ha hn hc, .slice a n c]] w' fun e w'' => ∃ r m d, e = .returned (.slice r m d) ∧ (bl (vset zs)).length = m ∧ w''.ownsRow w'.heap.size 3 1 (.slice r m d) m ((bl (vset zs)).map (.int .i64)) ∧ Below w'.heap.size w' w'') :=
        fun w' h' => l10Vars_any ha hn hc a n c zs w' HZ.out hb hin (AtSl.below HA.out (hbw.trans (h'.mono hbw.size)))
      have HHW := Hid.mk (At.below HAH.out hbw)
      have hm6 := bl_len (vset zs)
      clear ht hin
      go_wp2_with fail
      go_region_held3 (fun w' => w'.cell? ⟨w.heap.size, 0, none⟩ = some (.slice ha hn hc) ∧ w'.cell? ⟨w.heap.size, 1, none⟩ = some (.slice a n c)) (refine ⟨?_, ?_⟩ <;> assumption)
        (first | (go_at_call 68; refine (HC1.out wY.drew (Below.refl _ _).drew).mono ?_; rintro e w5 ⟨r, m, d, rfl, hm, ho, hb5⟩; have q0 := cell_later hb5 q0; have q1 := cell_later hb5 q1) | (go_at_call 47; refine (l7All_any r m d (bl (vset zs)) ha hn hc hs w5 hm (by omega) (At.owned ho) HH.out hhb (At.below HHW.out ((Below.refl _ _).drew.trans hb5))).mono ?_; rintro e w6 ⟨rfl, h9⟩; obtain rfl := h9.symm) | fail)
      rw [← HGY.out]
      go_wp2
      go_ret
      exact ⟨rfl, hbw.drew.trans (hb5.mono hbw.size)⟩

end Go.Proofs.Yteggbamjfhbmfaa

/- Lists of numbers within the laws' bounds. -/
namespace Go.Proofs.Yteggbamjfhbmfaa
open Go.RowKit

/-- Lists within the laws' bounds. -/
def SmK (ta : List (List Int)) (n : Nat) : Prop := ta.length = n ∧ n ≤ 64 ∧ (∀ i, i < ta.length → (ta.getD i []).length ≤ 1048576) ∧ tot ta n ≤ 1048576
theorem tot_le {zss : List (List Int)} (h : ∀ x ∈ zss, x.length ≤ 6) : ∀ k, k ≤ zss.length → tot zss k ≤ 6 * k
  | 0, _ => by rw [tot_zero]; omega
  | k + 1, hk => by
    have h1 := tot_le h k (by omega)
    have h2 := tot_succ zss k (by omega)
    have h3 := h (zss.getD k []) (by simp [List.getD, show k < zss.length by omega])
    omega
theorem smK_of {zss : List (List Int)} (h1 : zss.length ≤ 64) (h2 : ∀ x ∈ zss, x.length ≤ 6) : SmK zss zss.length := by
  refine ⟨rfl, h1, fun i hi => ?_, ?_⟩
  · have := h2 (zss.getD i []) (by simp [List.getD, hi])
    omega
  · have := tot_le h2 _ (Nat.le_refl _)
    omega

end Go.Proofs.Yteggbamjfhbmfaa

/- Plain: the variables of each atom. -/
namespace Go.Proofs.Yteggbamjfhbmfaa
open Go.RowKit

def edge (a : Atm) : List Int := bl (mk a.2)
def edges (zs : List Atm) : List (List Int) := zs.map edge
def edL (hs : List Int) (zs : List Atm) (ts : List Int) : List (List Int) := if gqB hs zs ts = true then edges zs else []
theorem edL_no {hs : List Int} {zs : List Atm} {ts : List Int} (h : gqB hs zs ts = false) : edL hs zs ts = [] := by unfold edL; rw [h]; rfl
theorem edL_yes {hs : List Int} {zs : List Atm} {ts : List Int} (h : gqB hs zs ts = true) : edL hs zs ts = edges zs := by unfold edL; rw [if_pos h]
theorem gq_qv {hs : List Int} {zs : List Atm} {ts : List Int} (h : gqB hs zs ts = true) : qvB zs = true := by
  simp only [gqB, Bool.and_eq_true] at h
  exact h.1.1.2
theorem gq_ok {hs : List Int} {zs : List Atm} {ts : List Int} (h : gqB hs zs ts = true) : zs.length ≤ 5 ∧ ∀ x ∈ zs, aOk x = true := by
  have h1 := gq_qv h
  simp only [qvB, Bool.and_eq_true, decide_eq_true_eq, List.all_eq_true] at h1
  exact h1
theorem qv_one {x : Atm} (h : aOk x = true) : qvB [x] = true ∧ qvL [x] = edge x := by
  have h1 : qvB [x] = true := by simp [qvB, h]
  refine ⟨h1, ?_⟩
  unfold qvL
  rw [if_pos h1]
  simp [vset, flatV, edge]
theorem edges_take (zs : List Atm) (k : Nat) {x : Atm} (h : zs[k]? = some x) : edges (zs.take (k + 1)) = edges (zs.take k) ++ [edge x] := by
  obtain ⟨hk, rfl⟩ := List.getElem?_eq_some_iff.1 h
  unfold edges
  rw [List.take_succ_eq_append_getElem hk, List.map_append]
  rfl
theorem edges_len (zs : List Atm) : (edges zs).length = zs.length := by simp [edges]
theorem ed_small (hs : List Int) (zs : List Atm) (ts : List Int) : SmK (edL hs zs ts) (edL hs zs ts).length := by
  cases h : gqB hs zs ts with
  | false => rw [edL_no h]; exact smK_of (by simp) (fun x hx => by cases hx)
  | true =>
    rw [edL_yes h]
    refine smK_of (by rw [edges_len]; have := (gq_ok h).1; omega) (fun x hx => ?_)
    obtain ⟨a, _, rfl⟩ := List.mem_map.1 hx
    exact bl_len _

end Go.Proofs.Yteggbamjfhbmfaa

/- Lists of numbers that are told, and whether. -/
namespace Go.Proofs.Yteggbamjfhbmfaa
open Go.RowKit

/-- Lists of columns, and whether. -/
def KeysRet (e : Ending) (w' : World) (lo : Nat) (ok : Bool) (zss : List (List Int)) : Prop := ∃ r m d, e = .returned (.tuple #[.slice r m d, .bool ok]) ∧ RPairs.Own w' (From lo w'.heap.size) [.slice r m d] zss
theorem keysRet_none (w : World) (lo : Nat) {ok : Bool} {ds : List (List Int)} (h1 : ok = false) (h2 : ds = []) : KeysRet (.returned (.tuple #[.slice none 0 0, .bool false])) w lo ok ds := by
  subst h1 h2
  exact ⟨none, 0, 0, rfl, none, 0, 0, [], _, rfl, Laid.none _ _ _ _⟩
theorem atSl_pairK {w : World} {a : Option Addr} {zss : List (List Int)} (h : AtSl RInts w a zss) {k : Nat} {zs : List Int} (hk : zss[k]? = some zs) :
    ∃ b off a' n' c', a = some ⟨b, off, none⟩ ∧ w.cell? ⟨b, off + k, none⟩ = some (.slice a' n' c') ∧ zs.length = n' ∧ n' ≤ 9223372036854775807 ∧ At w a' zs ∧ (a' = none → c' = 0) := by
  have hp : 0 < zss.length := Nat.lt_of_le_of_lt (Nat.zero_le _) (List.getElem?_eq_some_iff.1 hk).1
  obtain ⟨b, off, rfl, hc⟩ := h.each hp
  obtain ⟨cs, h1, a', n', c', rfl, e1, e2, e3, e4⟩ := hc k zs hk
  have g := h1 0 _ rfl
  exact ⟨b, off, a', n', c', rfl, by simpa [RInts, Rep.slice] using g, e1, e2, atSl_int.1 e3, e4⟩
theorem pairs_at {w : World} {F : Nat → Prop} {a : Option Addr} {n c : Nat} {xs : List (List Int)} (h : RPairs.Own w F [.slice a n c] xs) : xs.length = n ∧ AtSl RInts w a xs := by
  obtain ⟨a', n', c', e, h1, _, h3, _⟩ := RPairs.toAt h
  simp only [List.cons.injEq, Value.slice.injEq, and_true] at e
  obtain ⟨rfl, rfl, rfl⟩ := e
  exact ⟨h1, h3⟩

end Go.Proofs.Yteggbamjfhbmfaa

/- A thing that a call has made is appended to a list that lies in memory. -/
namespace Go.Proofs.Yteggbamjfhbmfaa
open Go.RowKit

section
variable {α : Type} {A : Rep α} {w wr w2 w5 : World} {lo : Nat} {e : TypeId} {a a' : Option Addr} {n c c' : Nat} {xs : List α} {cells vs : List Value} {G : Nat → Nat → Prop} {x : α} {o : Obj}
theorem Laid.told (h : Laid A wr (From lo wr.heap.size) e a n c xs cells G n) (hlo : lo ≤ wr.heap.size) (hb : Below wr.heap.size wr w2) (ho : A.Own w2 (From wr.heap.size w2.heap.size) vs x)
    (ho4 : w5.ownsRow lo e A.k (.slice a' (n + 1) c') (n + 1) (cells ++ vs)) (hg4 : (w2.alloc o).grownBy w5 (Value.slice a n c).ownBlock) (hbig : n + 1 ≤ 9223372036854775807)
    (ht4 : (Value.slice a' (n + 1) c').ownBlock = (Value.slice a n c).ownBlock ∨ (Value.slice a' (n + 1) c').ownBlock = some (w2.heap.size + 1)) :
    ∃ G', Laid A w5 (From lo w5.heap.size) e a' (n + 1) c' (xs ++ [x]) (cells ++ vs) G' (n + 1) := by
  have z2 := hb.size
  have z5 : w2.heap.size < w5.heap.size := by have h9 := hg4.size; simp at h9; omega
  have BG : ∀ b, b < w2.heap.size → (Value.slice a n c).ownBlock ≠ some b → w5.heap[b]? = w2.heap[b]? := fun b hb hn => (hg4.block b (by simp; omega) (fun e => hn e.symm)).trans (Below.heap_alloc w2 _ b hb)
  exact ⟨_, h.push (fun b h => h.2) hb ho (fun b h => h) BG (owns_mono ho4 (Nat.zero_le _)) (by
      rcases ht4 with h9 | h9
      · exact .inl h9
      · refine .inr (fun b e => ?_)
        rw [h9] at e
        simp at e
        omega) hbig (fun b h => ⟨h.1, by have := h.2; omega⟩) (fun b h => ⟨by have := h.1; omega, by have := h.2; omega⟩) (fun b hb => ho4.lt b hb)⟩
theorem Laid.told_below (h : Laid A wr (From lo wr.heap.size) e a n c xs cells G n) (hw : Below lo w wr) (hlo : lo ≤ wr.heap.size) (hb : Below wr.heap.size wr w2) (hg4 : (w2.alloc o).grownBy w5 (Value.slice a n c).ownBlock) : Below lo w w5 :=
  ((hw.trans (hb.mono hlo)).alloc (by have := hb.size; omega) _).grown hg4 (by have := hb.size; simp; omega) (fun j hj => (h.outerF j hj).1)
theorem Laid.base (h : Laid A wr (From lo wr.heap.size) e a n c xs cells G n) (hb : Below wr.heap.size wr w2) : w2.ownsRow lo e A.k (.slice a n c) n cells :=
  owns_below (owns_base h.outer (fun b hb => (h.outerF b hb).1)) hb
end

end Go.Proofs.Yteggbamjfhbmfaa

/- An append of whatever cells, at a step of a region that draws. -/
namespace Go.Proofs.Yteggbamjfhbmfaa
open Go.RowKit

theorem step_append_vals {P : Program} {w : World} {ops : Array Oper} {o : Oper} {a : Act} {K : Act → World → Prop} {Q : Exit → Act → World → Prop} {E : Prop} (hgd : o.guard = none) (s x : Operand) (t : TypeId)
    (ho : o.op = .call { callee := .builtin .append, args := #[s, x], argTypes := #[t, t] })
    (base : Nat) (e : TypeId) (i : TypeInfo) (z : Value) (size bytes : Nat) (ht : P.underlying t = some (.slice e)) (hi : P.info? e = some i) (hz : i.zero = some z)
    (hsize : i.size = size) (hby : i.bytes = bytes) (hzs : z.cells.size = size) (hsz : 0 < size)
    (v : Value) (n : Nat) (xs : List Value) (hs : a.eval s = v) (hown : w.ownsRow base e size v n xs)
    (ao : Option Addr) (m c : Nat) (news : List Value) (hx : a.eval x = .slice ao m c) (hl : news.length = m * size) (hat : ∀ ad, ao = some ad → ∀ (j : Nat) (u : Value), news[j]? = some u → w.cell? (ad.add j) = some u) (h1 : ∀ u ∈ news, u.oneCell' = true) (hnil : ao = none → c = 0 ∧ m = 0)
    (h63 : n + m ≤ maxLen) (hbytes : (n + m) * bytes ≤ 140737488355328) (hbase : base ≤ w.heap.size)
    (h : ∀ r cap w', w'.ownsRow base e size (.slice r (n + m) cap) (n + m) (xs ++ news) → w.grownBy w' v.ownBlock → ((Value.slice r (n + m) cap).ownBlock = v.ownBlock ∨ (Value.slice r (n + m) cap).ownBlock = some w.heap.size) → K (a.put o.dst (.slice r (n + m) cap)) w') :
    if Region.wanted o (yielded ops a.tmps) = true then Oper.wp P o a w K Q else E := by
  have hw : Region.wanted o (yielded ops a.tmps) = true := by simp [Region.wanted, hgd]
  rw [if_pos hw]
  cases ao with
  | none =>
    obtain ⟨hc, hm⟩ := hnil rfl
    subst hc hm
    obtain rfl : news = [] := List.eq_nil_of_length_eq_zero (by simpa using hl)
    obtain ⟨r, cap, rfl⟩ := owns_slice hown
    have hrun := run_append_owned_none (P := P) (w := w) base t o.type e i size ht hi (.slice r n cap) n xs hown
    have := h r cap w (by simpa using hown) (World.grownBy.refl _ _) (.inl rfl)
    unfold Oper.wp
    simp [execOp, ho, resolve, invoke, builtin, hs, hx, hrun, Result.andThen]
    rw [Nat.add_zero] at this
    exact this
  | some ad =>
    obtain ⟨v', w', hr, h2, h3, _, h5⟩ := run_append_own_at (P := P) w base t o.type e i z size bytes ht hi hz hsize hby hzs hsz v n xs hown ad m c news hl (fun j u hj => hat ad rfl j u hj) h1 h63 hbytes hbase
    obtain ⟨r, cap, rfl⟩ := owns_slice h2
    unfold Oper.wp execOp
    simp only [ho, resolve, invoke, builtin, Sem.run_bind, Sem.run_pure, Result.andThen_ok, List.map_toArray, List.map_cons, List.map_nil, hs, hx, hr]
    exact h r cap w' h2 h3 h5

end Go.Proofs.Yteggbamjfhbmfaa

/- An append of whatever cells, in a plain region. -/
namespace Go.Proofs.Yteggbamjfhbmfaa
open Go.RowKit

theorem wpList_app_vals {P : Program} {w : World} {ops : Array Oper} {rest : List Oper} {o : Oper} {a : Act} {Q : Exit → Act → World → Prop} (hgd : o.guard = none) (s x : Operand) (t : TypeId)
    (ho : o.op = .call { callee := .builtin .append, args := #[s, x], argTypes := #[t, t] })
    (base : Nat) (e : TypeId) (i : TypeInfo) (z : Value) (size bytes : Nat) (ht : P.underlying t = some (.slice e)) (hi : P.info? e = some i) (hz : i.zero = some z)
    (hsize : i.size = size) (hby : i.bytes = bytes) (hzs : z.cells.size = size) (hsz : 0 < size)
    (v : Value) (n : Nat) (xs : List Value) (hs : a.eval s = v) (hown : w.ownsRow base e size v n xs)
    (ao : Option Addr) (m c : Nat) (news : List Value) (hx : a.eval x = .slice ao m c) (hl : news.length = m * size) (hat : ∀ ad, ao = some ad → ∀ (j : Nat) (u : Value), news[j]? = some u → w.cell? (ad.add j) = some u) (h1 : ∀ u ∈ news, u.oneCell' = true) (hnil : ao = none → c = 0 ∧ m = 0)
    (h63 : n + m ≤ maxLen) (hbytes : (n + m) * bytes ≤ 140737488355328) (hbase : base ≤ w.heap.size)
    (h : ∀ r cap w', w'.ownsRow base e size (.slice r (n + m) cap) (n + m) (xs ++ news) → w.grownBy w' v.ownBlock → ((Value.slice r (n + m) cap).ownBlock = v.ownBlock ∨ (Value.slice r (n + m) cap).ownBlock = some w.heap.size) → wpList P ops Q rest (a.put o.dst (.slice r (n + m) cap)) w') :
    wpList P ops Q (o :: rest) a w :=
  wpList_plain hgd fun K hK => by
    have hw : Region.wanted o (yielded ops a.tmps) = true := by simp [Region.wanted, hgd]
    have h9 := step_append_vals (P := P) (w := w) (ops := ops) (o := o) (a := a) (K := K) (Q := Q) (E := True) hgd s x t ho base e i z size bytes ht hi hz hsize hby hzs hsz v n xs hs hown ao m c news hx hl hat h1 hnil h63 hbytes hbase (fun r cap w' k1 k2 k3 => hK _ _ (h r cap w' k1 k2 k3))
    rw [if_pos hw] at h9
    exact h9

end Go.Proofs.Yteggbamjfhbmfaa
