/- Several texts of one proof, in build order: QvS, GqS. -/
import Derived.Test.YtipgepienagplaaM6
import Derived.Test.YtipgepienagplaaM24
import Derived.Test.YtipgepienagplaaM8
import Derived.Deep.CutBlock
import Derived.Test.YtipgepienagplaaM20

/- Contracts of spec.l10Var, spec.l10Vars, spec.VarsIn. -/
namespace Go.Proofs.Ytipgepienagplaa
open Go.RowKit

theorem l10Var_any (x : Int) (w : World) :
    Calls Try.prog 93 #[.int .i64 x] w fun e w' => e = .returned (.bool (vOk x)) ∧ w' = w := by
  by_cases h0 : 0 ≤ x
  · have hv : vOk x = decide (x < 6) := by unfold vOk; rw [decide_eq_true h0, Bool.true_and]
    rw [hv]
    go_enter Try.func93, Try.ntmps93
    go_wp2
    go_ret
    exact ⟨ret_bool (by simp), rfl⟩
  · have hv : vOk x = false := by unfold vOk; rw [decide_eq_false h0]; rfl
    rw [hv]
    go_enter Try.func93, Try.ntmps93
    go_wp2
    go_ret
    exact ⟨rfl, rfl⟩

/-- The variables of the first k atoms, and of the first j variables of the next. -/
def vsTo (zs : List Atm) (k : Nat) (ys : List Int) (j : Nat) : Nat := vset (zs.take k) ||| mk (ys.take j)
theorem vsTo_next {zs : List Atm} {k : Nat} {x : Atm} (h : zs[k]? = some x) : vsTo zs k x.2 x.2.length = vset (zs.take (k + 1)) := by
  unfold vsTo vset
  rw [flat_take zs k h, mk_append, List.take_length]

set_option maxRecDepth 100000 in
set_option maxHeartbeats 4000000 in
theorem l10Vars_any (ha : Option Addr) (hn hc : Nat) (a : Option Addr) (n c : Nat) (zs : List Atm) (w : World) (hz : zs.length = n) (hb : n ≤ 9223372036854775807) (hin : ∀ x ∈ zs, ∀ v ∈ x.2, (0 : Int) ≤ v ∧ v < 6) (hat : AtQ w a zs) :
    Calls Try.prog 94 #[.agg #[.slice ha hn hc, .slice a n c]] w fun e w' => ∃ r m d, e = .returned (.slice r m d) ∧ (bl (vset zs)).length = m ∧ w'.ownsRow w.heap.size 3 1 (.slice r m d) m ((bl (vset zs)).map (.int .i64)) ∧ Below w.heap.size w w' := by
  obtain ⟨W, hW⟩ : ∃ W, W = w.alloc (.cells #[.slice ha hn hc, .slice a n c] 34) := ⟨_, rfl⟩
  have B0 : Below w.heap.size w W := by rw [hW]; exact (Below.refl _ _).alloc (Nat.le_refl _) _
  have HZ := Hid.mk hz
  have HA := Hid.mk hat
  have HIN := Hid.mk hin
  have HE : Hid (∀ wr : World, wr.ownsRow w.heap.size 3 1 (.slice none 0 0) 0 ((bl (vset (zs.take 0))).map (.int .i64))) := fun wr => (by rw [List.take_zero, show bl (vset []) = [] by decide +kernel]; exact World.ownsRow_nil _ _ _ _)
  clear hz hat hin
  go_enter Try.func94, Try.ntmps94
  go_upto_region 3 with fail
  rw [← hW]
  clear hW
  go_loopw [3, 11] (fun p i wr => ∃ (k m : Nat) (r : Option Addr) (d : Nat), k ≤ n ∧ i = .int .i64 k ∧ p = .slice r m d ∧ (bl (vset (zs.take k))).length = m ∧ wr.ownsRow w.heap.size 3 1 (.slice r m d) m ((bl (vset (zs.take k))).map (.int .i64)) ∧ Below w.heap.size w wr) (fun _ i _ => n - (intOf i).toNat)
  case atStart => exact ⟨0, 0, none, 0, Nat.zero_le _, rfl, rfl, by rw [List.take_zero]; decide +kernel, HE.out _, B0⟩
  case round =>
    clear HE B0
    obtain ⟨k, m, r, d, hk, rfl, rfl, hm, ho, hbw⟩ := hrel
    obtain ⟨wY, rfl⟩ : ∃ x, x = wr := ⟨_, rfl⟩
    by_cases hlt : k < n
    · obtain ⟨x, hx⟩ : ∃ x, zs[k]? = some x := ⟨_, List.getElem?_eq_getElem (by have := HZ.out; omega)⟩
      obtain ⟨b, off, rfl, _, hc⟩ := AtQ.row HA.out (by have := HZ.out; omega)
      obtain ⟨ta, tn, tc, g0, g1, u1, u2, u3, _⟩ := hc k x hx
      have g0 := cell_later hbw g0
      have g1 := cell_later hbw g1
      have hki : (k : Int) < (n : Int) := by omega
      have hxin : ∀ v ∈ x.2, (0 : Int) ≤ v ∧ v < 6 := HIN.out x (List.mem_of_getElem? hx)
      have hvl : vset (zs.take k) < 64 := vset_lt (fun y hy => HIN.out y (List.mem_of_mem_take hy))
      obtain ⟨U, hU⟩ : ∃ U, U = wY.alloc (.cells #[.int .i64 x.1, .slice ta tn tc] 81) := ⟨_, rfl⟩
      have hbU : Below wY.heap.size wY U := by rw [hU]; exact (Below.refl _ _).alloc (Nat.le_refl _) _
      have HO : Hid (U.ownsRow w.heap.size 3 1 (.slice r m d) m ((bl (vsTo zs k x.2 0)).map (.int .i64))) := by
        show World.ownsRow _ _ _ _ _ _ _
        have : vsTo zs k x.2 0 = vset (zs.take k) := by simp [vsTo, mk]
        rw [this]
        exact owns_below ho hbU
      have HM : Hid ((bl (vsTo zs k x.2 0)).length = m) := by
        show _ = _
        have : vsTo zs k x.2 0 = vset (zs.take k) := by simp [vsTo, mk]
        rw [this]; exact hm
      have HU3 := Hid.mk u3
      have HU1 := Hid.mk u1
      have HX := Hid.mk hx
      have HXI := Hid.mk hxin
      have HBW := Hid.mk hbw
      have HBU := Hid.mk (hbw.trans (hbU.mono hbw.size))
      have g1' : U.cell? ⟨wY.heap.size, 1, none⟩ = some (.slice ta tn tc) := by rw [hU]; exact pair1 wY _ _ _
      clear hc u3 u1 hx hxin hm ho hbw
      go_upto_region 5 with fail
      rw [← hU]
      clear hU g0 g1
      go_wp2_with fail
      go_loopw [3, 18] (fun p i wx => ∃ (j m' : Nat) (r' : Option Addr) (d' : Nat), j ≤ tn ∧ i = .int .i64 j ∧ p = .slice r' m' d' ∧ (bl (vsTo zs k x.2 j)).length = m' ∧ wx.ownsRow w.heap.size 3 1 (.slice r' m' d') m' ((bl (vsTo zs k x.2 j)).map (.int .i64)) ∧ Below w.heap.size w wx) (fun _ i _ => tn - (intOf i).toNat)
      case atStart => exact ⟨0, m, r, d, Nat.zero_le _, rfl, rfl, HM.out, HO.out, HBU.out⟩
      case round =>
        clear HM HO HBU g1' hbU
        obtain ⟨j, m', r', d', hj, rfl, rfl, hm', ho', hbx⟩ := hrel
        obtain ⟨wX, rfl⟩ : ∃ x, x = wr := ⟨_, rfl⟩
        by_cases hjt : j < tn
        · have hAx := At.below HU3.out hbx
          obtain ⟨b', off', rfl, _, hcx⟩ := hAx.some (by have := HU1.out; omega)
          have hv := hcx j (by have := HU1.out; omega)
          have hji : (j : Int) < (tn : Int) := by omega
          have hins : insI (bl (vsTo zs k x.2 j)) (x.2.getD j 0) = bl (vsTo zs k x.2 (j + 1)) := ins_take hvl HXI.out (by have := HU1.out; omega)
          have hml : m' ≤ 2097152 := by have := bl_len (vsTo zs k x.2 j); omega
          obtain ⟨y, hy⟩ : ∃ y, y = x.2.getD j 0 := ⟨_, rfl⟩
          rw [← hy] at hv hins
          have HI := Hid.mk hins
          have HP := Hid.mk (l7Put_any w.heap.size r' m' d' (bl (vsTo zs k x.2 j)) y wX hm' hml hbx.size ho')
          have HBX := Hid.mk hbx
          clear hcx hy hins hm' ho' hbx hAx hml
          go_wp2_with fail
          refine HP.out.mono ?_
          rintro e w2 ⟨r2, m2, d2, rfl, h2, o2, b2⟩
          rw [HI.out] at h2 o2
          have HH := Hid.mk h2
          have HO2 := Hid.mk o2
          have HB2 := Hid.mk (HBX.out.trans (b2.mono HBX.out.size))
          clear h2 o2 b2 HBX HP
          go_wp2
          go_roundw
          case rel => exact ⟨j + 1, m2, r2, d2, by omega, by go_num, rfl, HH.out, HO2.out, HB2.out⟩
          case measure => simp [intOf]; omega
        · obtain rfl : j = tn := by omega
          have hvn := vsTo_next HX.out
          rw [HU1.out] at hvn
          rw [hvn] at hm' ho'
          have HM' := Hid.mk hm'
          have HO' := Hid.mk ho'
          clear hvn hm' ho'
          go_wp2
          go_roundw
          case rel => exact ⟨k + 1, m', r', d', by omega, by go_num, rfl, HM'.out, HO'.out, hbx⟩
          case measure => simp [intOf]; omega
    · obtain rfl : k = n := by omega
      rw [List.take_of_length_le (by have := HZ.out; omega)] at hm ho
      have HM := Hid.mk hm
      have HO := Hid.mk ho
      clear hm ho
      go_wp2
      go_ret
      exact ⟨r, m, d, rfl, HM.out, HO.out, hbw⟩


end Go.Proofs.Ytipgepienagplaa

/- Contracts of spec.l10Tables, spec.GoodQuery. -/
namespace Go.Proofs.Ytipgepienagplaa
open Go.RowKit

theorem tab_all {ts : List Int} (h : (ts.all fun n => decide (1 ≤ n) && decide (n ≤ 3)) = false) : tabOk ts = false := by unfold tabOk; rw [h, Bool.and_false]

set_option maxHeartbeats 1000000 in
theorem l10Tables_any (a : Option Addr) (n c : Nat) (ts : List Int) (w : World) (hz : ts.length = n) (hn : n ≤ 9223372036854775807) (ha : At w a ts) :
    Calls Try.prog 91 #[.slice a n c] w fun e w' => e = .returned (.bool (tabOk ts)) ∧ w' = w := by
  by_cases h0 : n = 0
  · subst h0
    obtain rfl := List.eq_nil_of_length_eq_zero hz
    go_enter Try.func91, Try.ntmps91
    go_wp2
    refine wp_loop_rounds 1 ?_
    rw [rounds_succ]
    go_wp2_with fail
    refine (l1In_any _ _ _ _).mono ?_
    rintro e w2 ⟨rfl, rfl⟩
    go_wp2
    go_ret
    exact ⟨rfl, rfl⟩
  obtain ⟨b, off, rfl, hb, hc⟩ := ha.some (by omega)
  clear ha
  go_enter Try.func91, Try.ntmps91
  go_wp2
  go_loopw [7] (fun i wr => ∃ (k : Nat), k ≤ n ∧ i = .int .i64 k ∧ (ts.all fun n => decide (1 ≤ n) && decide (n ≤ 3)) = ((ts.drop k).all fun n => decide (1 ≤ n) && decide (n ≤ 3)) ∧ wr = w) (fun i _ => n - (intOf i).toNat)
  case atStart => exact ⟨0, Nat.zero_le _, rfl, rfl, rfl⟩
  case round =>
    obtain ⟨k, hk, rfl, ht, rfl⟩ := hrel
    by_cases hlt : k < n
    · have hcx : wr.cell? ⟨b, off + k, none⟩ = some (.int .i64 (ts.getD k 0)) := hc k (by omega)
      rw [all_drop_int _ (by omega)] at ht
      obtain ⟨y, hy⟩ : ∃ y, y = ts.getD k 0 := ⟨_, rfl⟩
      rw [← hy] at hcx ht
      have HT := Hid.mk ht
      clear hc hy ht
      have HC := Hid.mk (l1In_any y 1 3 wr)
      cases hr : (decide (1 ≤ y) && decide (y ≤ 3)) with
      | false =>
        rw [hr] at HC
        go_wp2_with fail
        refine HC.out.mono ?_
        rintro e w2 ⟨rfl, h9⟩
        obtain rfl := h9.symm
        go_wp2
        go_ret
        exact ⟨ret_bool (tab_all (by rw [HT.out, hr]; rfl)).symm, rfl⟩
      | true =>
        rw [hr] at HC
        go_wp2_with fail
        refine HC.out.mono ?_
        rintro e w2 ⟨rfl, h9⟩
        obtain rfl := h9.symm
        go_wp2
        go_roundw
        case rel => exact ⟨k + 1, by omega, by go_num, by rw [HT.out, hr]; rfl, trivial⟩
        case measure => simp [intOf]; omega
    · rw [List.drop_of_length_le (by omega)] at ht
      have HT : Hid (tabOk ts = (decide ((1 : Int) ≤ (n : Int)) && decide ((n : Int) ≤ 4))) := by
        show _ = _
        unfold tabOk
        rw [ht, hz]
        simp
        have e1 : decide (1 ≤ n) = decide ((1 : Int) ≤ (n : Int)) := by simp; omega
        have e2 : decide (n ≤ 4) = decide ((n : Int) ≤ 4) := by simp; omega
        rw [e1, e2]
      have HC := Hid.mk (l1In_any (n : Int) 1 4 wr)
      rw [← HT.out] at HC
      clear ht
      go_wp2_with fail
      refine HC.out.mono ?_
      rintro e w2 ⟨rfl, h9⟩
      obtain rfl := h9.symm
      go_wp2
      go_ret
      exact ⟨rfl, rfl⟩

/-- What the model asks of an atom. -/
abbrev amB (ts : List Int) (a : Atm) : Bool := atOk ts a && a.2.all vOk

set_option maxRecDepth 100000 in
set_option maxHeartbeats 8000000 in
theorem specGoodQuery (ha : Option Addr) (hn hc : Nat) (hs : List Int) (a : Option Addr) (n c : Nat) (zs : List Atm) (ta : Option Addr) (tn tc : Nat) (ts : List Int) (w : World) (hh : hs.length = hn) (hhb : hn ≤ 9223372036854775807) (hat : At w ha hs) (hz : zs.length = n) (hb : n ≤ 9223372036854775807) (haz : AtQ w a zs) (htz : ts.length = tn) (htb : tn ≤ 9223372036854775807) (hta : At w ta ts) :
    Calls Try.prog 52 #[.agg #[.slice ha hn hc, .slice a n c], .slice ta tn tc] w fun e w' => e = .returned (.bool (gqB hs zs ts)) ∧ Below w.heap.size w w' := by
  obtain ⟨W, hW⟩ : ∃ W, W = w.alloc (.cells #[.slice ha hn hc, .slice a n c] 34) := ⟨_, rfl⟩
  have B0 : Below w.heap.size w W := by rw [hW]; exact (Below.refl _ _).alloc (Nat.le_refl _) _
  have q0 : W.cell? ⟨w.heap.size, 0, none⟩ = some (.slice ha hn hc) := by rw [hW]; exact pair0 w _ _ _
  have q1 : W.cell? ⟨w.heap.size, 1, none⟩ = some (.slice a n c) := by rw [hW]; exact pair1 w _ _ _
  have HZ := Hid.mk hz
  have HH := Hid.mk hh
  have HTZ := Hid.mk htz
  have HA := Hid.mk haz
  have HAH := Hid.mk hat
  have HAT := Hid.mk hta
  have HC1 := Hid.mk (l10Tables_any ta tn tc ts W htz htb (At.below hta B0))
  have HC2 := Hid.mk (l1In_any (n : Int) 1 5 W)
  clear hz hh htz haz hat hta
  cases ht : tabOk ts with
  | false =>
    rw [ht] at HC1
    have HF := Hid.mk (gq_not (hs := hs) (zs := zs) (.inl ht))
    clear ht
    go_enter Try.func52, Try.ntmps52
    go_wp2_with fail
    rw [← hW]
    refine HC1.out.mono ?_
    rintro e w2 ⟨rfl, h9⟩
    obtain rfl := h9.symm
    clear hW
    go_wp2
    go_ret
    exact ⟨ret_bool HF.out.symm, B0⟩
  | true =>
  rw [ht] at HC1
  have HTO := Hid.mk ht
  clear ht
  by_cases h1 : 1 ≤ n ∧ n ≤ 5
  rotate_left
  · have hq : gqB hs zs ts = false := by
      by_cases h9 : 1 ≤ n
      · exact gq_not (.inr (.inr (.inr (.inl (by unfold qvB; rw [decide_eq_false (by have := HZ.out; omega)]; rfl)))))
      · exact gq_not (.inr (.inl (by have := HZ.out; omega)))
    have hd : (decide ((1 : Int) ≤ (n : Int)) && decide ((n : Int) ≤ 5)) = false := by simp; omega
    have HF := Hid.mk hq
    rw [hd] at HC2
    clear hq hd h1
    go_enter Try.func52, Try.ntmps52
    go_wp2_with fail
    rw [← hW]
    refine HC1.out.mono ?_
    rintro e w2 ⟨rfl, h9⟩
    obtain rfl := h9.symm
    clear hW
    go_wp2_with fail
    refine HC2.out.mono ?_
    rintro e w2 ⟨rfl, h9⟩
    obtain rfl := h9.symm
    go_wp2
    go_ret
    exact ⟨ret_bool HF.out.symm, B0⟩
  have hd : (decide ((1 : Int) ≤ (n : Int)) && decide ((n : Int) ≤ 5)) = true := by simp; omega
  rw [hd] at HC2
  clear hd
  by_cases h6 : (6 : Int) < (hn : Int)
  · have HF := Hid.mk (gq_not (hs := hs) (zs := zs) (ts := ts) (.inr (.inr (.inl (by have := HH.out; omega)))))
    go_enter Try.func52, Try.ntmps52
    go_wp2_with fail
    rw [← hW]
    refine HC1.out.mono ?_
    rintro e w2 ⟨rfl, h9⟩
    obtain rfl := h9.symm
    clear hW
    go_wp2_with fail
    refine HC2.out.mono ?_
    rintro e w2 ⟨rfl, h9⟩
    obtain rfl := h9.symm
    go_wp2
    go_ret
    exact ⟨ret_bool HF.out.symm, B0⟩
  have HGM : Hid (gqB hs zs ts = (zs.all (amB ts) && hs.all fun v => decide (v ∈ bl (vset zs)))) := gq_model HTO.out (by have := HZ.out; omega) (by have := HZ.out; omega) (by have := HH.out; omega)
  go_enter Try.func52, Try.ntmps52
  go_wp2_with fail
  rw [← hW]
  refine HC1.out.mono ?_
  rintro e w2 ⟨rfl, h9⟩
  obtain rfl := h9.symm
  clear hW
  go_wp2_with fail
  refine HC2.out.mono ?_
  rintro e w2 ⟨rfl, h9⟩
  obtain rfl := h9.symm
  clear HC1 HC2
  go_wp2_with fail
  go_loopw [28] (fun i wr => ∃ (k : Nat), k ≤ n ∧ i = .int .i64 k ∧ zs.all (amB ts) = (zs.drop k).all (amB ts) ∧ Below w.heap.size w wr ∧ Below W.heap.size W wr) (fun i _ => n - (intOf i).toNat)
  case atStart => exact ⟨0, Nat.zero_le _, rfl, rfl, B0, Below.refl _ _⟩
  case round =>
    clear B0
    obtain ⟨k, hk, rfl, ht, hbw, hb3⟩ := hrel
    obtain ⟨wY, rfl⟩ : ∃ x, x = wr := ⟨_, rfl⟩
    by_cases hlt : k < n
    · obtain ⟨⟨xp, xv⟩, hx⟩ : ∃ x, zs[k]? = some x := ⟨_, List.getElem?_eq_getElem (by have := HZ.out; omega)⟩
      obtain ⟨b, off, rfl, _, hc⟩ := AtQ.row (AtSl.below HA.out hbw) (by have := HZ.out; omega)
      obtain ⟨va, vn, vc, g0, g1, u1, u2, u3, _⟩ := hc k _ hx
      have hki : (k : Int) < (n : Int) := by omega
      rw [all_drop_atm _ hx] at ht
      have hao : amB ts (xp, xv) = (decide (0 ≤ xp) && decide (xp < tn) && decide ((vn : Int) = ts.getD xp.toNat 0) && xv.all vOk) := by unfold amB atOk; simp only [] at u1 ⊢; rw [HTZ.out, u1]
      rw [hao] at ht
      obtain ⟨U, hU⟩ : ∃ U, U = wY.alloc (.cells #[.int .i64 xp, .slice va vn vc] 81) := ⟨_, rfl⟩
      have hbU : Below wY.heap.size wY U := by rw [hU]; exact (Below.refl _ _).alloc (Nat.le_refl _) _
      have e0 : U.cell? ⟨wY.heap.size, 0, none⟩ = some (.int .i64 xp) := by rw [hU]; exact pair0 wY _ _ _
      have e1 : U.cell? ⟨wY.heap.size, 1, none⟩ = some (.slice va vn vc) := by rw [hU]; exact pair1 wY _ _ _
      have HT := Hid.mk ht
      have HU1 : Hid (xv.length = vn) := u1
      have HU3 : Hid (At U va xv) := At.below u3 hbU
      have HBU := Hid.mk (And.intro (hbw.trans (hbU.mono hbw.size)) (hb3.trans (hbU.mono hb3.size)))
      have HTA := Hid.mk (At.below HAT.out HBU.out.1)
      clear hc hx ht hao u1 u3 hbU
      go_upto_region 6 with fail
      rw [← hU]
      clear hU g0 g1
      by_cases hneg : xp < 0
      · have HF : Hid (gqB hs zs ts = false) := by show _ = _; rw [HGM.out, HT.out, decide_eq_false (by omega)]; rfl
        clear hbw hb3
        refine wp_region_held_drew (S := fun w' => w'.cell? ⟨wY.heap.size, 0, none⟩ = some (.int .i64 (xp)) ∧ w'.cell? ⟨wY.heap.size, 1, none⟩ = some (.slice va vn vc)) (by kernel_rfl) ?_ (fun hHeld => ?_)
        · (try dsimp only)
          (refine ⟨?_, ?_⟩ <;> assumption)
        refine tk 0 ?_
        refine tk 1 ?_
        refine tk 2 ?_
        refine tk 3 ?_
        refine tu 4 ?_
        refine tu 5 ?_
        refine tu 6 ?_
        refine tu 7 ?_
        refine tu 8 ?_
        refine tk 9 ?_
        refine tk 10 ?_
        refine tu 11 ?_
        refine tu 12 ?_
        refine tu 13 ?_
        refine tu 14 ?_
        refine tu 15 ?_
        refine tu 16 ?_
        refine tu 17 ?_
        refine tu 18 ?_
        refine tu 19 ?_
        refine tk 20 ?_
        refine wpAnyH_done (by kernel_rfl) ?_ _
        go_wp2
        go_ret
        exact ⟨ret_bool HF.out.symm, HBU.out.1.drew⟩
      · obtain ⟨p, rfl⟩ := Int.eq_ofNat_of_zero_le (show 0 ≤ xp by omega)
        by_cases hbig : (tn : Int) ≤ (p : Int)
        · have HF : Hid (gqB hs zs ts = false) := by show _ = _; rw [HGM.out, HT.out, decide_eq_false (show ¬ (p : Int) < (tn : Int) by omega)]; simp
          clear hbw hb3
          refine wp_region_held_drew (S := fun w' => w'.cell? ⟨wY.heap.size, 0, none⟩ = some (.int .i64 ((p : Nat))) ∧ w'.cell? ⟨wY.heap.size, 1, none⟩ = some (.slice va vn vc)) (by kernel_rfl) ?_ (fun hHeld => ?_)
          · (try dsimp only)
            (refine ⟨?_, ?_⟩ <;> assumption)
          refine tk 0 ?_
          refine tk 1 ?_
          refine tk 2 ?_
          refine tk 3 ?_
          refine tk 4 ?_
          refine tk 5 ?_
          refine tk 6 ?_
          refine tk 7 ?_
          refine tk 8 ?_
          refine tk 9 ?_
          refine tk 10 ?_
          refine tu 11 ?_
          refine tu 12 ?_
          refine tu 13 ?_
          refine tu 14 ?_
          refine tu 15 ?_
          refine tu 16 ?_
          refine tu 17 ?_
          refine tu 18 ?_
          refine tu 19 ?_
          refine tk 20 ?_
          refine wpAnyH_done (by kernel_rfl) ?_ _
          go_wp2
          go_ret
          exact ⟨ret_bool HF.out.symm, HBU.out.1.drew⟩
        · obtain ⟨tb, toff, rfl, _, htc⟩ := HTA.out.some (by have := HTZ.out; omega)
          have htp := htc p (by have := HTZ.out; omega)
          have hpi : (p : Int) < (tn : Int) := by omega
          obtain ⟨tp, htp'⟩ : ∃ tp, tp = ts.getD p 0 := ⟨_, rfl⟩
          rw [← htp'] at htp
          have HEQ : Hid (zs.all (amB ts) = (decide ((vn : Int) = tp) && xv.all vOk && (zs.drop (k + 1)).all (amB ts))) := by
            show _ = _
            rw [HT.out, decide_eq_true (show (0 : Int) ≤ (p : Int) by omega), decide_eq_true hpi, htp', Int.toNat_natCast]
            rfl
          clear htc htp' hbw hb3
          by_cases hvt : (vn : Int) = tp
          · have HN : Hid (zs.all (amB ts) = (xv.all vOk && (zs.drop (k + 1)).all (amB ts))) := by show _ = _; rw [HEQ.out, decide_eq_true hvt]; rfl
            clear HEQ
            refine wp_region_held_drew (S := fun w' => w'.cell? ⟨wY.heap.size, 0, none⟩ = some (.int .i64 ((p : Nat))) ∧ w'.cell? ⟨wY.heap.size, 1, none⟩ = some (.slice va vn vc) ∧ w'.cell? ⟨tb, toff + p, none⟩ = some (.int .i64 tp)) (by kernel_rfl) ?_ (fun hHeld => ?_)
            · (try dsimp only)
              (refine ⟨?_, ?_, ?_⟩ <;> assumption)
            refine tk 0 ?_
            refine tk 1 ?_
            refine tk 2 ?_
            refine tk 3 ?_
            refine tk 4 ?_
            refine tk 5 ?_
            refine tk 6 ?_
            refine tk 7 ?_
            refine tk 8 ?_
            refine tk 9 ?_
            refine tk 10 ?_
            refine tk 11 ?_
            refine tk 12 ?_
            refine tk 13 ?_
            refine tk 14 ?_
            refine tk 15 ?_
            refine tk 16 ?_
            refine tk 17 ?_
            refine tk 18 ?_
            refine tk 19 ?_
            refine tk 20 ?_
            refine wpAnyH_done (by kernel_rfl) ?_ _
            obtain ⟨V, hV⟩ : ∃ V, V = U.drew := ⟨_, rfl⟩
            have e1' : V.cell? ⟨wY.heap.size, 1, none⟩ = some (.slice va vn vc) := by rw [hV]; exact e1
            have HU3' : Hid (At V va xv) := by show At _ _ _; rw [hV]; exact HU3.out.drew
            have HBV : Hid (Below w.heap.size w V ∧ Below W.heap.size W V) := by rw [hV]; exact ⟨HBU.out.1.drew, HBU.out.2.drew⟩
            rw [← hV]
            clear hV e0 e1 HU3 HBU HTA htp
            go_wp2_with fail
            go_loopw [56] (fun i wx => ∃ (j : Nat), j ≤ vn ∧ i = .int .i64 j ∧ xv.all vOk = (xv.drop j).all vOk ∧ wx = V) (fun i _ => vn - (intOf i).toNat)
            case atStart => exact ⟨0, Nat.zero_le _, rfl, rfl, rfl⟩
            case round =>
              obtain ⟨j, hj, rfl, hvj, rfl⟩ := hrel
              by_cases hjt : j < vn
              · obtain ⟨b', off', rfl, _, hcx⟩ := HU3'.out.some (by have := HU1.out; omega)
                have hv := hcx j (by have := HU1.out; omega)
                have hji : (j : Int) < (vn : Int) := by omega
                rw [all_drop_int _ (by have := HU1.out; omega)] at hvj
                obtain ⟨y, hy⟩ : ∃ y, y = xv.getD j 0 := ⟨_, rfl⟩
                rw [← hy] at hv hvj
                have HVT := Hid.mk hvj
                clear hcx hy hvj
                cases hr : vOk y with
                | false =>
                  go_wp2_with fail
                  refine (l10Var_any y wr).mono ?_
                  rintro e w2 ⟨rfl, h9⟩
                  obtain rfl := h9.symm
                  rw [hr]
                  have HF : Hid (gqB hs zs ts = false) := by show _ = _; rw [HGM.out, HN.out, HVT.out, hr]; rfl
                  clear hr
                  go_wp2
                  go_ret
                  exact ⟨ret_bool HF.out.symm, HBV.out.1⟩
                | true =>
                  go_wp2_with fail
                  refine (l10Var_any y wr).mono ?_
                  rintro e w2 ⟨rfl, h9⟩
                  obtain rfl := h9.symm
                  rw [hr]
                  go_wp2
                  go_roundw
                  case rel => exact ⟨j + 1, by omega, by go_num, by rw [HVT.out, hr]; rfl, trivial⟩
                  case measure => simp [intOf]; omega
              · rw [List.drop_of_length_le (by have := HU1.out; omega)] at hvj
                have HVT : Hid (zs.all (amB ts) = (zs.drop (k + 1)).all (amB ts)) := by show _ = _; rw [HN.out, hvj]; rfl
                clear hvj
                go_wp2
                go_roundw
                case rel => exact ⟨k + 1, by omega, by go_num, HVT.out, HBV.out.1, HBV.out.2⟩
                case measure => simp [intOf]; omega
          · have HF : Hid (gqB hs zs ts = false) := by show _ = _; rw [HGM.out, HEQ.out, decide_eq_false hvt]; rfl
            clear HEQ
            refine wp_region_held_drew (S := fun w' => w'.cell? ⟨wY.heap.size, 0, none⟩ = some (.int .i64 ((p : Nat))) ∧ w'.cell? ⟨wY.heap.size, 1, none⟩ = some (.slice va vn vc) ∧ w'.cell? ⟨tb, toff + p, none⟩ = some (.int .i64 tp)) (by kernel_rfl) ?_ (fun hHeld => ?_)
            · (try dsimp only)
              (refine ⟨?_, ?_, ?_⟩ <;> assumption)
            refine tk 0 ?_
            refine tk 1 ?_
            refine tk 2 ?_
            refine tk 3 ?_
            refine tk 4 ?_
            refine tk 5 ?_
            refine tk 6 ?_
            refine tk 7 ?_
            refine tk 8 ?_
            refine tk 9 ?_
            refine tk 10 ?_
            refine tk 11 ?_
            refine tk 12 ?_
            refine tk 13 ?_
            refine tk 14 ?_
            refine tk 15 ?_
            refine tk 16 ?_
            refine tk 17 ?_
            refine tk 18 ?_
            refine tk 19 ?_
            refine tk 20 ?_
            refine wpAnyH_done (by kernel_rfl) ?_ _
            go_wp2
            go_ret
            exact ⟨ret_bool HF.out.symm, HBU.out.1.drew⟩
    · rw [List.drop_of_length_le (by have := HZ.out; omega)] at ht
      have ht : zs.all (amB ts) = true := ht
      have hin : ∀ x ∈ zs, ∀ v ∈ x.2, (0 : Int) ≤ v ∧ v < 6 := fun x hx v hv => vOk_iff.1 (List.all_eq_true.1 (Bool.and_eq_true_iff.1 (List.all_eq_true.1 ht x hx)).2 v hv)
      have HGY : Hid (gqB hs zs ts = hs.all fun v => decide (v ∈ bl (vset zs))) := by show _ = _; rw [HGM.out, ht]; rfl
      have q0 := cell_later hb3 q0
      have q1 := cell_later hb3 q1
      have HC1 : Hid (∀ w' : World, Below wY.heap.size wY w' → Calls Try.prog 94 #[.agg #[.slice ha hn hc, .slice a n c]] w' fun e w'' => ∃ r m d, e = .returned (.slice r m d) ∧ (bl (vset zs)).length = m ∧ w''.ownsRow w'.heap.size 3 1 (.slice r m d) m ((bl (vset zs)).map (.int .i64)) ∧ Below w'.heap.size w' w'') :=
        fun w' h' => l10Vars_any ha hn hc a n c zs w' HZ.out hb hin (AtSl.below HA.out (hbw.trans (h'.mono hbw.size)))
      have HHW := Hid.mk (At.below HAH.out hbw)
      have hm6 := bl_len (vset zs)
      clear ht hin
      go_wp2_with fail
      go_region_held3 (fun w' => w'.cell? ⟨w.heap.size, 0, none⟩ = some (.slice ha hn hc) ∧ w'.cell? ⟨w.heap.size, 1, none⟩ = some (.slice a n c)) (refine ⟨?_, ?_⟩ <;> assumption)
        (first | (go_at_call 94; refine (HC1.out wY.drew (Below.refl _ _).drew).mono ?_; rintro e w5 ⟨r, m, d, rfl, hm, ho, hb5⟩; have q0 := cell_later hb5 q0; have q1 := cell_later hb5 q1) | (go_at_call 86; refine (l7All_any r m d (bl (vset zs)) ha hn hc hs w5 hm (by omega) (At.owned ho) HH.out hhb (At.below HHW.out ((Below.refl _ _).drew.trans hb5))).mono ?_; rintro e w6 ⟨rfl, h9⟩; obtain rfl := h9.symm) | fail)
      rw [← HGY.out]
      go_wp2
      go_ret
      exact ⟨rfl, hbw.drew.trans (hb5.mono hbw.size)⟩

end Go.Proofs.Ytipgepienagplaa
