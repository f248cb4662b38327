/- Contracts of spec.l10Tables, spec.GoodQuery. -/
import Derived.Test.YtipgepienagplaaGqP
import Derived.Test.YtipgepienagplaaQvS
import Derived.Test.YtipgepienagplaaL1In
import Derived.Deep.CutBlock
namespace Go.Proofs.Ytipgepienagplaa
open Go.RowKit

theorem tab_all {ts : List Int} (h : (ts.all fun n => decide (1 ≤ n) && decide (n ≤ 3)) = false) : tabOk ts = false := by unfold tabOk; rw [h, Bool.and_false]

set_option maxHeartbeats 1000000 in
theorem l10Tables_any (a : Option Addr) (n c : Nat) (ts : List Int) (w : World) (hz : ts.length = n) (hn : n ≤ 9223372036854775807) (ha : At w a ts) :
    Calls Try.prog 91 #[.slice a n c] w fun e w' => e = .returned (.bool (tabOk ts)) ∧ w' = w := by
  by_cases h0 : n = 0
  · subst h0
    obtain rfl := List.eq_nil_of_length_eq_zero hz
    go_enter Try.func91, Try.ntmps91
    go_wp2
    refine wp_loop_rounds 1 ?_
    rw [rounds_succ]
    go_wp2_with fail
    refine (l1In_any _ _ _ _).mono ?_
    rintro e w2 ⟨rfl, rfl⟩
    go_wp2
    go_ret
    exact ⟨rfl, rfl⟩
  obtain ⟨b, off, rfl, hb, hc⟩ := ha.some (by omega)
  clear ha
  go_enter Try.func91, Try.ntmps91
  go_wp2
  go_loopw [7] (fun i wr => ∃ (k : Nat), k ≤ n ∧ i = .int .i64 k ∧ (ts.all fun n => decide (1 ≤ n) && decide (n ≤ 3)) = ((ts.drop k).all fun n => decide (1 ≤ n) && decide (n ≤ 3)) ∧ wr = w) (fun i _ => n - (intOf i).toNat)
  case atStart => exact ⟨0, Nat.zero_le _, rfl, rfl, rfl⟩
  case round =>
    obtain ⟨k, hk, rfl, ht, rfl⟩ := hrel
    by_cases hlt : k < n
    · have hcx : wr.cell? ⟨b, off + k, none⟩ = some (.int .i64 (ts.getD k 0)) := hc k (by omega)
      rw [all_drop_int _ (by omega)] at ht
      obtain ⟨y, hy⟩ : ∃ y, y = ts.getD k 0 := ⟨_, rfl⟩
      rw [← hy] at hcx ht
      have HT := Hid.mk ht
      clear hc hy ht
      have HC := Hid.mk (l1In_any y 1 3 wr)
      cases hr : (decide (1 ≤ y) && decide (y ≤ 3)) with
      | false =>
        rw [hr] at HC
        go_wp2_with fail
        refine HC.out.mono ?_
        rintro e w2 ⟨rfl, h9⟩
        obtain rfl := h9.symm
        go_wp2
        go_ret
        exact ⟨ret_bool (tab_all (by rw [HT.out, hr]; rfl)).symm, rfl⟩
      | true =>
        rw [hr] at HC
        go_wp2_with fail
        refine HC.out.mono ?_
        rintro e w2 ⟨rfl, h9⟩
        obtain rfl := h9.symm
        go_wp2
        go_roundw
        case rel => exact ⟨k + 1, by omega, by go_num, by rw [HT.out, hr]; rfl, trivial⟩
        case measure => simp [intOf]; omega
    · rw [List.drop_of_length_le (by omega)] at ht
      have HT : Hid (tabOk ts = (decide ((1 : Int) ≤ (n : Int)) && decide ((n : Int) ≤ 4))) := by
        show _ = _
        unfold tabOk
        rw [ht, hz]
        simp
        have e1 : decide (1 ≤ n) = decide ((1 : Int) ≤ (n : Int)) := by simp; omega
        have e2 : decide (n ≤ 4) = decide ((n : Int) ≤ 4) := by simp; omega
        rw [e1, e2]
      have HC := Hid.mk (l1In_any (n : Int) 1 4 wr)
      rw [← HT.out] at HC
      clear ht
      go_wp2_with fail
      refine HC.out.mono ?_
      rintro e w2 ⟨rfl, h9⟩
      obtain rfl := h9.symm
      go_wp2
      go_ret
      exact ⟨rfl, rfl⟩

/-- What the model asks of an atom. -/
abbrev amB (ts : List Int) (a : Atm) : Bool := atOk ts a && a.2.all vOk

set_option maxRecDepth 100000 in
set_option maxHeartbeats 8000000 in
theorem specGoodQuery (ha : Option Addr) (hn hc : Nat) (hs : List Int) (a : Option Addr) (n c : Nat) (zs : List Atm) (ta : Option Addr) (tn tc : Nat) (ts : List Int) (w : World) (hh : hs.length = hn) (hhb : hn ≤ 9223372036854775807) (hat : At w ha hs) (hz : zs.length = n) (hb : n ≤ 9223372036854775807) (haz : AtQ w a zs) (htz : ts.length = tn) (htb : tn ≤ 9223372036854775807) (hta : At w ta ts) :
    Calls Try.prog 52 #[.agg #[.slice ha hn hc, .slice a n c], .slice ta tn tc] w fun e w' => e = .returned (.bool (gqB hs zs ts)) ∧ Below w.heap.size w w' := by
  obtain ⟨W, hW⟩ : ∃ W, W = w.alloc (.cells #[.slice ha hn hc, .slice a n c] 34) := ⟨_, rfl⟩
  have B0 : Below w.heap.size w W := by rw [hW]; exact (Below.refl _ _).alloc (Nat.le_refl _) _
  have q0 : W.cell? ⟨w.heap.size, 0, none⟩ = some (.slice ha hn hc) := by rw [hW]; exact pair0 w _ _ _
  have q1 : W.cell? ⟨w.heap.size, 1, none⟩ = some (.slice a n c) := by rw [hW]; exact pair1 w _ _ _
  have HZ := Hid.mk hz
  have HH := Hid.mk hh
  have HTZ := Hid.mk htz
  have HA := Hid.mk haz
  have HAH := Hid.mk hat
  have HAT := Hid.mk hta
  have HC1 := Hid.mk (l10Tables_any ta tn tc ts W htz htb (At.below hta B0))
  have HC2 := Hid.mk (l1In_any (n : Int) 1 5 W)
  clear hz hh htz haz hat hta
  cases ht : tabOk ts with
  | false =>
    rw [ht] at HC1
    have HF := Hid.mk (gq_not (hs := hs) (zs := zs) (.inl ht))
    clear ht
    go_enter Try.func52, Try.ntmps52
    go_wp2_with fail
    rw [← hW]
    refine HC1.out.mono ?_
    rintro e w2 ⟨rfl, h9⟩
    obtain rfl := h9.symm
    clear hW
    go_wp2
    go_ret
    exact ⟨ret_bool HF.out.symm, B0⟩
  | true =>
  rw [ht] at HC1
  have HTO := Hid.mk ht
  clear ht
  by_cases h1 : 1 ≤ n ∧ n ≤ 5
  rotate_left
  · have hq : gqB hs zs ts = false := by
      by_cases h9 : 1 ≤ n
      · exact gq_not (.inr (.inr (.inr (.inl (by unfold qvB; rw [decide_eq_false (by have := HZ.out; omega)]; rfl)))))
      · exact gq_not (.inr (.inl (by have := HZ.out; omega)))
    have hd : (decide ((1 : Int) ≤ (n : Int)) && decide ((n : Int) ≤ 5)) = false := by simp; omega
    have HF := Hid.mk hq
    rw [hd] at HC2
    clear hq hd h1
    go_enter Try.func52, Try.ntmps52
    go_wp2_with fail
    rw [← hW]
    refine HC1.out.mono ?_
    rintro e w2 ⟨rfl, h9⟩
    obtain rfl := h9.symm
    clear hW
    go_wp2_with fail
    refine HC2.out.mono ?_
    rintro e w2 ⟨rfl, h9⟩
    obtain rfl := h9.symm
    go_wp2
    go_ret
    exact ⟨ret_bool HF.out.symm, B0⟩
  have hd : (decide ((1 : Int) ≤ (n : Int)) && decide ((n : Int) ≤ 5)) = true := by simp; omega
  rw [hd] at HC2
  clear hd
  by_cases h6 : (6 : Int) < (hn : Int)
  · have HF := Hid.mk (gq_not (hs := hs) (zs := zs) (ts := ts) (.inr (.inr (.inl (by have := HH.out; omega)))))
    go_enter Try.func52, Try.ntmps52
    go_wp2_with fail
    rw [← hW]
    refine HC1.out.mono ?_
    rintro e w2 ⟨rfl, h9⟩
    obtain rfl := h9.symm
    clear hW
    go_wp2_with fail
    refine HC2.out.mono ?_
    rintro e w2 ⟨rfl, h9⟩
    obtain rfl := h9.symm
    go_wp2
    go_ret
    exact ⟨ret_bool HF.out.symm, B0⟩
  have HGM : Hid (gqB hs zs ts = (zs.all (amB ts) && hs.all fun v => decide (v ∈ bl (vset zs)))) := gq_model HTO.out (by have := HZ.out; omega) (by have := HZ.out; omega) (by have := HH.out; omega)
  go_enter Try.func52, Try.ntmps52
  go_wp2_with fail
  rw [← hW]
  refine HC1.out.mono ?_
  rintro e w2 ⟨rfl, h9⟩
  obtain rfl := h9.symm
  clear hW
  go_wp2_with fail
  refine HC2.out.mono ?_
  rintro e w2 ⟨rfl, h9⟩
  obtain rfl := h9.symm
  clear HC1 HC2
  go_wp2_with fail
  go_loopw [28] (fun i wr => ∃ (k : Nat), k ≤ n ∧ i = .int .i64 k ∧ zs.all (amB ts) = (zs.drop k).all (amB ts) ∧ Below w.heap.size w wr ∧ Below W.heap.size W wr) (fun i _ => n - (intOf i).toNat)
  case atStart => exact ⟨0, Nat.zero_le _, rfl, rfl, B0, Below.refl _ _⟩
  case round =>
    clear B0
    obtain ⟨k, hk, rfl, ht, hbw, hb3⟩ := hrel
    obtain ⟨wY, rfl⟩ : ∃ x, x = wr := ⟨_, rfl⟩
    by_cases hlt : k < n
    · obtain ⟨⟨xp, xv⟩, hx⟩ : ∃ x, zs[k]? = some x := ⟨_, List.getElem?_eq_getElem (by have := HZ.out; omega)⟩
      obtain ⟨b, off, rfl, _, hc⟩ := AtQ.row (AtSl.below HA.out hbw) (by have := HZ.out; omega)
      obtain ⟨va, vn, vc, g0, g1, u1, u2, u3, _⟩ := hc k _ hx
      have hki : (k : Int) < (n : Int) := by omega
      rw [all_drop_atm _ hx] at ht
      have hao : amB ts (xp, xv) = (decide (0 ≤ xp) && decide (xp < tn) && decide ((vn : Int) = ts.getD xp.toNat 0) && xv.all vOk) := by unfold amB atOk; simp only [] at u1 ⊢; rw [HTZ.out, u1]
      rw [hao] at ht
      obtain ⟨U, hU⟩ : ∃ U, U = wY.alloc (.cells #[.int .i64 xp, .slice va vn vc] 81) := ⟨_, rfl⟩
      have hbU : Below wY.heap.size wY U := by rw [hU]; exact (Below.refl _ _).alloc (Nat.le_refl _) _
      have e0 : U.cell? ⟨wY.heap.size, 0, none⟩ = some (.int .i64 xp) := by rw [hU]; exact pair0 wY _ _ _
      have e1 : U.cell? ⟨wY.heap.size, 1, none⟩ = some (.slice va vn vc) := by rw [hU]; exact pair1 wY _ _ _
      have HT := Hid.mk ht
      have HU1 : Hid (xv.length = vn) := u1
      have HU3 : Hid (At U va xv) := At.below u3 hbU
      have HBU := Hid.mk (And.intro (hbw.trans (hbU.mono hbw.size)) (hb3.trans (hbU.mono hb3.size)))
      have HTA := Hid.mk (At.below HAT.out HBU.out.1)
      clear hc hx ht hao u1 u3 hbU
      go_upto_region 6 with fail
      rw [← hU]
      clear hU g0 g1
      by_cases hneg : xp < 0
      · have HF : Hid (gqB hs zs ts = false) := by show _ = _; rw [HGM.out, HT.out, decide_eq_false (by omega)]; rfl
        clear hbw hb3
        refine wp_region_held_drew (S := fun w' => w'.cell? ⟨wY.heap.size, 0, none⟩ = some (.int .i64 (xp)) ∧ w'.cell? ⟨wY.heap.size, 1, none⟩ = some (.slice va vn vc)) (by kernel_rfl) ?_ (fun hHeld => ?_)
        · (try dsimp only)
          (refine ⟨?_, ?_⟩ <;> assumption)
        refine tk 0 ?_
        refine tk 1 ?_
        refine tk 2 ?_
        refine tk 3 ?_
        refine tu 4 ?_
        refine tu 5 ?_
        refine tu 6 ?_
        refine tu 7 ?_
        refine tu 8 ?_
        refine tk 9 ?_
        refine tk 10 ?_
        refine tu 11 ?_
        refine tu 12 ?_
        refine tu 13 ?_
        refine tu 14 ?_
        refine tu 15 ?_
        refine tu 16 ?_
        refine tu 17 ?_
        refine tu 18 ?_
        refine tu 19 ?_
        refine tk 20 ?_
        refine wpAnyH_done (by kernel_rfl) ?_ _
        go_wp2
        go_ret
        exact ⟨ret_bool HF.out.symm, HBU.out.1.drew⟩
      · obtain ⟨p, rfl⟩ := Int.eq_ofNat_of_zero_le (show 0 ≤ xp by omega)
        by_cases hbig : (tn : Int) ≤ (p : Int)
        · have HF : Hid (gqB hs zs ts = false) := by show _ = _; rw [HGM.out, HT.out, decide_eq_false (show ¬ (p : Int) < (tn : Int) by omega)]; simp
          clear hbw hb3
          refine wp_region_held_drew (S := fun w' => w'.cell? ⟨wY.heap.size, 0, none⟩ = some (.int .i64 ((p : Nat))) ∧ w'.cell? ⟨wY.heap.size, 1, none⟩ = some (.slice va vn vc)) (by kernel_rfl) ?_ (fun hHeld => ?_)
          · (try dsimp only)
            (refine ⟨?_, ?_⟩ <;> assumption)
          refine tk 0 ?_
          refine tk 1 ?_
          refine tk 2 ?_
          refine tk 3 ?_
          refine tk 4 ?_
          refine tk 5 ?_
          refine tk 6 ?_
          refine tk 7 ?_
          refine tk 8 ?_
          refine tk 9 ?_
          refine tk 10 ?_
          refine tu 11 ?_
          refine tu 12 ?_
          refine tu 13 ?_
          refine tu 14 ?_
          refine tu 15 ?_
          refine tu 16 ?_
          refine tu 17 ?_
          refine tu 18 ?_
          refine tu 19 ?_
          refine tk 20 ?_
          refine wpAnyH_done (by kernel_rfl) ?_ _
          go_wp2
          go_ret
          exact ⟨ret_bool HF.out.symm, HBU.out.1.drew⟩
        · obtain ⟨tb, toff, rfl, _, htc⟩ := HTA.out.some (by have := HTZ.out; omega)
          have htp := htc p (by have := HTZ.out; omega)
          have hpi : (p : Int) < (tn : Int) := by omega
          obtain ⟨tp, htp'⟩ : ∃ tp, tp = ts.getD p 0 := ⟨_, rfl⟩
          rw [← htp'] at htp
          have HEQ : Hid (zs.all (amB ts) = (decide ((vn : Int) = tp) && xv.all vOk && (zs.drop (k + 1)).all (amB ts))) := by
            show _ = _
            rw [HT.out, decide_eq_true (show (0 : Int) ≤ (p : Int) by omega), decide_eq_true hpi, htp', Int.toNat_natCast]
            rfl
          clear htc htp' hbw hb3
          by_cases hvt : (vn : Int) = tp
          · have HN : Hid (zs.all (amB ts) = (xv.all vOk && (zs.drop (k + 1)).all (amB ts))) := by show _ = _; rw [HEQ.out, decide_eq_true hvt]; rfl
            clear HEQ
            refine wp_region_held_drew (S := fun w' => w'.cell? ⟨wY.heap.size, 0, none⟩ = some (.int .i64 ((p : Nat))) ∧ w'.cell? ⟨wY.heap.size, 1, none⟩ = some (.slice va vn vc) ∧ w'.cell? ⟨tb, toff + p, none⟩ = some (.int .i64 tp)) (by kernel_rfl) ?_ (fun hHeld => ?_)
            · (try dsimp only)
              (refine ⟨?_, ?_, ?_⟩ <;> assumption)
            refine tk 0 ?_
            refine tk 1 ?_
            refine tk 2 ?_
            refine tk 3 ?_
            refine tk 4 ?_
            refine tk 5 ?_
            refine tk 6 ?_
            refine tk 7 ?_
            refine tk 8 ?_
            refine tk 9 ?_
            refine tk 10 ?_
            refine tk 11 ?_
            refine tk 12 ?_
            refine tk 13 ?_
            refine tk 14 ?_
            refine tk 15 ?_
            refine tk 16 ?_
            refine tk 17 ?_
            refine tk 18 ?_
            refine tk 19 ?_
            refine tk 20 ?_
            refine wpAnyH_done (by kernel_rfl) ?_ _
            obtain ⟨V, hV⟩ : ∃ V, V = U.drew := ⟨_, rfl⟩
            have e1' : V.cell? ⟨wY.heap.size, 1, none⟩ = some (.slice va vn vc) := by rw [hV]; exact e1
            have HU3' : Hid (At V va xv) := by show At _ _ _; rw [hV]; exact HU3.out.drew
            have HBV : Hid (Below w.heap.size w V ∧ Below W.heap.size W V) := by rw [hV]; exact ⟨HBU.out.1.drew, HBU.out.2.drew⟩
            rw [← hV]
            clear hV e0 e1 HU3 HBU HTA htp
            go_wp2_with fail
            go_loopw [56] (fun i wx => ∃ (j : Nat), j ≤ vn ∧ i = .int .i64 j ∧ xv.all vOk = (xv.drop j).all vOk ∧ wx = V) (fun i _ => vn - (intOf i).toNat)
            case atStart => exact ⟨0, Nat.zero_le _, rfl, rfl, rfl⟩
            case round =>
              obtain ⟨j, hj, rfl, hvj, rfl⟩ := hrel
              by_cases hjt : j < vn
              · obtain ⟨b', off', rfl, _, hcx⟩ := HU3'.out.some (by have := HU1.out; omega)
                have hv := hcx j (by have := HU1.out; omega)
                have hji : (j : Int) < (vn : Int) := by omega
                rw [all_drop_int _ (by have := HU1.out; omega)] at hvj
                obtain ⟨y, hy⟩ : ∃ y, y = xv.getD j 0 := ⟨_, rfl⟩
                rw [← hy] at hv hvj
                have HVT := Hid.mk hvj
                clear hcx hy hvj
                cases hr : vOk y with
                | false =>
                  go_wp2_with fail
                  refine (l10Var_any y wr).mono ?_
                  rintro e w2 ⟨rfl, h9⟩
                  obtain rfl := h9.symm
                  rw [hr]
                  have HF : Hid (gqB hs zs ts = false) := by show _ = _; rw [HGM.out, HN.out, HVT.out, hr]; rfl
                  clear hr
                  go_wp2
                  go_ret
                  exact ⟨ret_bool HF.out.symm, HBV.out.1⟩
                | true =>
                  go_wp2_with fail
                  refine (l10Var_any y wr).mono ?_
                  rintro e w2 ⟨rfl, h9⟩
                  obtain rfl := h9.symm
                  rw [hr]
                  go_wp2
                  go_roundw
                  case rel => exact ⟨j + 1, by omega, by go_num, by rw [HVT.out, hr]; rfl, trivial⟩
                  case measure => simp [intOf]; omega
              · rw [List.drop_of_length_le (by have := HU1.out; omega)] at hvj
                have HVT : Hid (zs.all (amB ts) = (zs.drop (k + 1)).all (amB ts)) := by show _ = _; rw [HN.out, hvj]; rfl
                clear hvj
                go_wp2
                go_roundw
                case rel => exact ⟨k + 1, by omega, by go_num, HVT.out, HBV.out.1, HBV.out.2⟩
                case measure => simp [intOf]; omega
          · have HF : Hid (gqB hs zs ts = false) := by show _ = _; rw [HGM.out, HEQ.out, decide_eq_false hvt]; rfl
            clear HEQ
            refine wp_region_held_drew (S := fun w' => w'.cell? ⟨wY.heap.size, 0, none⟩ = some (.int .i64 ((p : Nat))) ∧ w'.cell? ⟨wY.heap.size, 1, none⟩ = some (.slice va vn vc) ∧ w'.cell? ⟨tb, toff + p, none⟩ = some (.int .i64 tp)) (by kernel_rfl) ?_ (fun hHeld => ?_)
            · (try dsimp only)
              (refine ⟨?_, ?_, ?_⟩ <;> assumption)
            refine tk 0 ?_
            refine tk 1 ?_
            refine tk 2 ?_
            refine tk 3 ?_
            refine tk 4 ?_
            refine tk 5 ?_
            refine tk 6 ?_
            refine tk 7 ?_
            refine tk 8 ?_
            refine tk 9 ?_
            refine tk 10 ?_
            refine tk 11 ?_
            refine tk 12 ?_
            refine tk 13 ?_
            refine tk 14 ?_
            refine tk 15 ?_
            refine tk 16 ?_
            refine tk 17 ?_
            refine tk 18 ?_
            refine tk 19 ?_
            refine tk 20 ?_
            refine wpAnyH_done (by kernel_rfl) ?_ _
            go_wp2
            go_ret
            exact ⟨ret_bool HF.out.symm, HBU.out.1.drew⟩
    · rw [List.drop_of_length_le (by have := HZ.out; omega)] at ht
      have ht : zs.all (amB ts) = true := ht
      have hin : ∀ x ∈ zs, ∀ v ∈ x.2, (0 : Int) ≤ v ∧ v < 6 := fun x hx v hv => vOk_iff.1 (List.all_eq_true.1 (Bool.and_eq_true_iff.1 (List.all_eq_true.1 ht x hx)).2 v hv)
      have HGY : Hid (gqB hs zs ts = hs.all fun v => decide (v ∈ bl (vset zs))) := by show _ = _; rw [HGM.out, ht]; rfl
      have q0 := cell_later hb3 q0
      have q1 := cell_later hb3 q1
      have HC1 : Hid (∀ w' : World, Below wY.heap.size wY w' → Calls Try.prog 94 #[.agg #[.slice ha hn hc, .slice a n c]] w' fun e w'' => ∃ r m d, e = .returned (.slice r m d) ∧ (bl (vset zs)).length = m ∧ w''.ownsRow w'.heap.size 3 1 (.slice r m d) m ((bl (vset zs)).map (.int .i64)) ∧ Below w'.heap.size w' w'') :=
        fun w' h' => l10Vars_any ha hn hc a n c zs w' HZ.out hb hin (AtSl.below HA.out (hbw.trans (h'.mono hbw.size)))
      have HHW := Hid.mk (At.below HAH.out hbw)
      have hm6 := bl_len (vset zs)
      clear ht hin
      go_wp2_with fail
      go_region_held3 (fun w' => w'.cell? ⟨w.heap.size, 0, none⟩ = some (.slice ha hn hc) ∧ w'.cell? ⟨w.heap.size, 1, none⟩ = some (.slice a n c)) (refine ⟨?_, ?_⟩ <;> assumption)
        (first | (go_at_call 94; refine (HC1.out wY.drew (Below.refl _ _).drew).mono ?_; rintro e w5 ⟨r, m, d, rfl, hm, ho, hb5⟩; have q0 := cell_later hb5 q0; have q1 := cell_later hb5 q1) | (go_at_call 86; refine (l7All_any r m d (bl (vset zs)) ha hn hc hs w5 hm (by omega) (At.owned ho) HH.out hhb (At.below HHW.out ((Below.refl _ _).drew.trans hb5))).mono ?_; rintro e w6 ⟨rfl, h9⟩; obtain rfl := h9.symm) | fail)
      rw [← HGY.out]
      go_wp2
      go_ret
      exact ⟨rfl, hbw.drew.trans (hb5.mono hbw.size)⟩

end Go.Proofs.Ytipgepienagplaa
