/- Several texts of one proof, in build order: GqI, ClnI, IcI. -/
import Derived.Test.YtociphdhkjoofaaM14
import Derived.Test.YtociphdhkjoofaaM13
import Derived.Deep.CutBlock
import Derived.Test.YtociphdhkjoofaaM3
import Derived.Test.YtociphdhkjoofaaM8

/- Contracts of impl.askedTables, slices.Contains, impl.GoodQuery. -/
namespace Go.Proofs.Ytociphdhkjoofaa
open Go.RowKit

theorem hasI_any (a : Option Addr) (n c : Nat) (zs : List Int) (x : Int) (w : World) (hz : zs.length = n) (hn : n ≤ 9223372036854775807) (ha : At w a zs) :
    Calls Try.prog 58 #[.slice a n c, .int .i64 x] w fun e w' => e = .returned (.bool (decide (x ∈ zs))) ∧ w' = w := by
  by_cases h0 : n = 0
  · subst h0
    obtain rfl := List.eq_nil_of_length_eq_zero hz
    refine (Try.slices_Contains_int_empty a c x w).mono ?_
    rintro e w' ⟨rfl, rfl⟩
    exact ⟨rfl, rfl⟩
  · obtain ⟨b, off, rfl, hb, hc⟩ := ha.some (by omega)
    refine (Try.slices_Contains_int b off n c zs x w (by omega) hn hc).mono ?_
    rintro e w' ⟨rfl, rfl⟩
    refine ⟨?_, rfl⟩
    rw [List.take_of_length_le (by omega)]
    simp

set_option maxHeartbeats 1000000 in
theorem askedTables_any (a : Option Addr) (n c : Nat) (ts : List Int) (w : World) (hz : ts.length = n) (hn : n ≤ 9223372036854775807) (ha : At w a ts) :
    Calls Try.prog 56 #[.slice a n c] w fun e w' => e = .returned (.bool (tabOk ts)) ∧ w' = w := by
  by_cases h0 : (n : Int) < 1
  · have hv : tabOk ts = false := by unfold tabOk; rw [decide_eq_false (by omega)]; rfl
    rw [hv]
    go_enter Try.func56, Try.ntmps56
    go_wp2
    go_ret
    exact ⟨rfl, rfl⟩
  by_cases h4 : (4 : Int) < (n : Int)
  · have hv : tabOk ts = false := by unfold tabOk; rw [decide_eq_false (show ¬ ts.length ≤ 4 by omega)]; simp
    rw [hv]
    go_enter Try.func56, Try.ntmps56
    go_wp2
    go_ret
    exact ⟨rfl, rfl⟩
  have hv : tabOk ts = ts.all fun n => decide (1 ≤ n) && decide (n ≤ 3) := by unfold tabOk; rw [decide_eq_true (by omega), decide_eq_true (by omega)]; rfl
  rw [hv]
  clear hv
  obtain ⟨b, off, rfl, hb, hc⟩ := ha.some (by omega)
  clear ha
  go_enter Try.func56, Try.ntmps56
  go_wp2
  go_loopw [15] (fun i wr => ∃ (k : Nat), k ≤ n ∧ i = .int .i64 k ∧ (ts.all fun n => decide (1 ≤ n) && decide (n ≤ 3)) = ((ts.drop k).all fun n => decide (1 ≤ n) && decide (n ≤ 3)) ∧ wr = w) (fun i _ => n - (intOf i).toNat)
  case atStart => exact ⟨0, Nat.zero_le _, rfl, rfl, rfl⟩
  case round =>
    obtain ⟨k, hk, rfl, ht, rfl⟩ := hrel
    by_cases hlt : k < n
    · have hcx : wr.cell? ⟨b, off + k, none⟩ = some (.int .i64 (ts.getD k 0)) := hc k (by omega)
      rw [all_drop_int _ (by omega)] at ht
      obtain ⟨y, hy⟩ : ∃ y, y = ts.getD k 0 := ⟨_, rfl⟩
      rw [← hy] at hcx ht
      have HT := Hid.mk ht
      clear hc hy ht
      by_cases y1 : y < 1
      · go_wp2
        go_ret
        exact ⟨ret_bool (by rw [HT.out, decide_eq_false (show ¬ 1 ≤ y by omega)]; rfl), rfl⟩
      · by_cases y3 : 3 < y
        · go_wp2
          go_ret
          exact ⟨ret_bool (by rw [HT.out, decide_eq_false (show ¬ y ≤ 3 by omega)]; simp), rfl⟩
        · go_wp2
          go_roundw
          case rel => exact ⟨k + 1, by omega, by go_num, by rw [HT.out, decide_eq_true (show 1 ≤ y by omega), decide_eq_true (show y ≤ 3 by omega)]; rfl, trivial⟩
          case measure => simp [intOf]; omega
    · rw [List.drop_of_length_le (by omega)] at ht
      have HT := Hid.mk ht
      clear ht
      go_wp2
      go_ret
      exact ⟨ret_bool HT.out.symm, rfl⟩

set_option maxRecDepth 100000 in
set_option maxHeartbeats 8000000 in
theorem implGoodQuery (ha : Option Addr) (hn hc : Nat) (hs : List Int) (a : Option Addr) (n c : Nat) (zs : List Atm) (ta : Option Addr) (tn tc : Nat) (ts : List Int) (w : World) (hh : hs.length = hn) (hhb : hn ≤ 9223372036854775807) (hat : At w ha hs) (hz : zs.length = n) (hb : n ≤ 9223372036854775807) (haz : AtQ w a zs) (htz : ts.length = tn) (htb : tn ≤ 9223372036854775807) (hta : At w ta ts) :
    Calls Try.prog 34 #[.agg #[.slice ha hn hc, .slice a n c], .slice ta tn tc] w fun e w' => e = .returned (.bool (gqB hs zs ts)) ∧ Below w.heap.size w w' := by
  obtain ⟨W, hW⟩ : ∃ W, W = w.alloc (.cells #[.slice ha hn hc, .slice a n c] 29) := ⟨_, rfl⟩
  have B0 : Below w.heap.size w W := by rw [hW]; exact (Below.refl _ _).alloc (Nat.le_refl _) _
  have q0 : W.cell? ⟨w.heap.size, 0, none⟩ = some (.slice ha hn hc) := by rw [hW]; exact pair0 w _ _ _
  have q1 : W.cell? ⟨w.heap.size, 1, none⟩ = some (.slice a n c) := by rw [hW]; exact pair1 w _ _ _
  have HZ := Hid.mk hz
  have HH := Hid.mk hh
  have HTZ := Hid.mk htz
  have HA := Hid.mk haz
  have HAH := Hid.mk hat
  have HAT := Hid.mk hta
  have HC1 := Hid.mk (askedTables_any ta tn tc ts W htz htb (At.below hta B0))
  clear hz hh htz haz hat hta
  cases ht : tabOk ts with
  | false =>
    rw [ht] at HC1
    have HF := Hid.mk (gq_not (hs := hs) (zs := zs) (.inl ht))
    clear ht
    go_enter Try.func34, Try.ntmps34
    go_wp2_with fail
    rw [← hW]
    refine HC1.out.mono ?_
    rintro e w2 ⟨rfl, h9⟩
    obtain rfl := h9.symm
    clear hW
    go_wp2
    go_ret
    exact ⟨ret_bool HF.out.symm, B0⟩
  | true =>
  rw [ht] at HC1
  have HTO := Hid.mk ht
  clear ht
  by_cases h1 : (n : Int) < 1
  · have HF := Hid.mk (gq_not (hs := hs) (zs := zs) (ts := ts) (.inr (.inl (by have := HZ.out; omega))))
    go_enter Try.func34, Try.ntmps34
    go_wp2_with fail
    rw [← hW]
    refine HC1.out.mono ?_
    rintro e w2 ⟨rfl, h9⟩
    obtain rfl := h9.symm
    clear hW
    go_wp2
    go_ret
    exact ⟨ret_bool HF.out.symm, B0⟩
  by_cases h6 : (6 : Int) < (hn : Int)
  · have HF := Hid.mk (gq_not (hs := hs) (zs := zs) (ts := ts) (.inr (.inr (.inl (by have := HH.out; omega)))))
    go_enter Try.func34, Try.ntmps34
    go_wp2_with fail
    rw [← hW]
    refine HC1.out.mono ?_
    rintro e w2 ⟨rfl, h9⟩
    obtain rfl := h9.symm
    clear hW
    go_wp2
    go_ret
    exact ⟨ret_bool HF.out.symm, B0⟩
  have HC2 := Hid.mk (implVarsIn ha hn hc a n c zs W HZ.out hb (AtSl.below HA.out B0))
  go_enter Try.func34, Try.ntmps34
  go_wp2_with fail
  rw [← hW]
  refine HC1.out.mono ?_
  rintro e w2 ⟨rfl, h9⟩
  obtain rfl := h9.symm
  clear hW
  go_wp2_with fail
  refine HC2.out.mono ?_
  rintro e w3 ⟨⟨r, m, d, rfl, hm, ho⟩, hb3⟩
  have q0 := cell_later hb3 q0
  have q1 := cell_later hb3 q1
  have B3 := B0.trans (hb3.mono B0.size)
  cases hq : qvB zs with
  | false =>
    have HF := Hid.mk (gq_not (hs := hs) (zs := zs) (ts := ts) (.inr (.inr (.inr (.inl hq)))))
    clear hq
    go_wp2
    go_ret
    exact ⟨ret_bool HF.out.symm, B3⟩
  | true =>
  have hql : qvL zs = bl (vset zs) := by unfold qvL; rw [if_pos hq]
  rw [hql] at hm ho
  have hvat : At w3 r (bl (vset zs)) := At.owned ho
  have hm6 : m ≤ 9223372036854775807 := by have := bl_len (vset zs); omega
  have HV := Hid.mk hvat
  have HM := Hid.mk hm
  have HQ := Hid.mk hq
  clear hql hm ho hvat hb3 hq HC1 HC2 B0
  go_wp2_with fail
  go_loopw [36] (fun i wr => ∃ (k : Nat), k ≤ n ∧ i = .int .i64 k ∧ zs.all (atOk ts) = (zs.drop k).all (atOk ts) ∧ Below w.heap.size w wr ∧ Below w3.heap.size w3 wr) (fun i _ => n - (intOf i).toNat)
  case atStart => exact ⟨0, Nat.zero_le _, rfl, rfl, B3, Below.refl _ _⟩
  case round =>
    clear B3
    obtain ⟨k, hk, rfl, ht, hbw, hb3⟩ := hrel
    obtain ⟨wY, rfl⟩ : ∃ x, x = wr := ⟨_, rfl⟩
    by_cases hlt : k < n
    · obtain ⟨⟨xp, xv⟩, hx⟩ : ∃ x, zs[k]? = some x := ⟨_, List.getElem?_eq_getElem (by have := HZ.out; omega)⟩
      obtain ⟨b, off, rfl, _, hc⟩ := AtQ.row (AtSl.below HA.out hbw) (by have := HZ.out; omega)
      obtain ⟨va, vn, vc, g0, g1, u1, u2, u3, _⟩ := hc k _ hx
      have hki : (k : Int) < (n : Int) := by omega
      rw [all_drop_atm _ hx] at ht
      have hao : atOk ts (xp, xv) = (decide (0 ≤ xp) && decide (xp < tn) && decide ((vn : Int) = ts.getD xp.toNat 0)) := by unfold atOk; simp only [] at u1 ⊢; rw [HTZ.out, u1]
      rw [hao] at ht
      obtain ⟨U, hU⟩ : ∃ U, U = wY.alloc (.cells #[.int .i64 xp, .slice va vn vc] 58) := ⟨_, rfl⟩
      have hbU : Below wY.heap.size wY U := by rw [hU]; exact (Below.refl _ _).alloc (Nat.le_refl _) _
      have e0 : U.cell? ⟨wY.heap.size, 0, none⟩ = some (.int .i64 xp) := by rw [hU]; exact pair0 wY _ _ _
      have e1 : U.cell? ⟨wY.heap.size, 1, none⟩ = some (.slice va vn vc) := by rw [hU]; exact pair1 wY _ _ _
      have HT := Hid.mk ht
      have HBU := Hid.mk (And.intro (hbw.trans (hbU.mono hbw.size)) (hb3.trans (hbU.mono hb3.size)))
      have HTA := Hid.mk (At.below HAT.out HBU.out.1)
      clear hc hx ht hao u1 u3 hbU
      go_upto_region 9 with fail
      rw [← hU]
      clear hU g0 g1
      by_cases hneg : xp < 0
      · have HF := Hid.mk (gq_not (hs := hs) (zs := zs) (ts := ts) (.inr (.inr (.inr (.inr (by rw [HT.out, decide_eq_false (by omega)]; rfl))))))
        clear hbw hb3
        refine wp_region_held_drew (S := fun w' => w'.cell? ⟨wY.heap.size, 0, none⟩ = some (.int .i64 (xp)) ∧ w'.cell? ⟨wY.heap.size, 1, none⟩ = some (.slice va vn vc)) (by kernel_rfl) ?_ (fun hHeld => ?_)
        · (try dsimp only)
          (refine ⟨?_, ?_⟩ <;> assumption)
        refine tk 0 ?_
        refine tk 1 ?_
        refine tk 2 ?_
        refine tk 3 ?_
        refine tu 4 ?_
        refine tu 5 ?_
        refine tu 6 ?_
        refine tu 7 ?_
        refine tu 8 ?_
        refine tk 9 ?_
        refine tk 10 ?_
        refine tu 11 ?_
        refine tu 12 ?_
        refine tu 13 ?_
        refine tu 14 ?_
        refine tu 15 ?_
        refine tu 16 ?_
        refine tu 17 ?_
        refine tu 18 ?_
        refine tu 19 ?_
        refine tk 20 ?_
        refine wpAnyH_done (by kernel_rfl) ?_ _
        go_wp2
        go_ret
        exact ⟨ret_bool HF.out.symm, HBU.out.1.drew⟩
      · obtain ⟨p, rfl⟩ := Int.eq_ofNat_of_zero_le (show 0 ≤ xp by omega)
        by_cases hbig : (tn : Int) ≤ (p : Int)
        · have HF := Hid.mk (gq_not (hs := hs) (zs := zs) (ts := ts) (.inr (.inr (.inr (.inr (by rw [HT.out, decide_eq_false (show ¬ (p : Int) < (tn : Int) by omega)]; simp))))))
          clear hbw hb3
          refine wp_region_held_drew (S := fun w' => w'.cell? ⟨wY.heap.size, 0, none⟩ = some (.int .i64 ((p : Nat))) ∧ w'.cell? ⟨wY.heap.size, 1, none⟩ = some (.slice va vn vc)) (by kernel_rfl) ?_ (fun hHeld => ?_)
          · (try dsimp only)
            (refine ⟨?_, ?_⟩ <;> assumption)
          refine tk 0 ?_
          refine tk 1 ?_
          refine tk 2 ?_
          refine tk 3 ?_
          refine tk 4 ?_
          refine tk 5 ?_
          refine tk 6 ?_
          refine tk 7 ?_
          refine tk 8 ?_
          refine tk 9 ?_
          refine tk 10 ?_
          refine tu 11 ?_
          refine tu 12 ?_
          refine tu 13 ?_
          refine tu 14 ?_
          refine tu 15 ?_
          refine tu 16 ?_
          refine tu 17 ?_
          refine tu 18 ?_
          refine tu 19 ?_
          refine tk 20 ?_
          refine wpAnyH_done (by kernel_rfl) ?_ _
          go_wp2
          go_ret
          exact ⟨ret_bool HF.out.symm, HBU.out.1.drew⟩
        · obtain ⟨tb, toff, rfl, _, htc⟩ := HTA.out.some (by have := HTZ.out; omega)
          have htp := htc p (by have := HTZ.out; omega)
          have hpi : (p : Int) < (tn : Int) := by omega
          obtain ⟨tp, htp'⟩ : ∃ tp, tp = ts.getD p 0 := ⟨_, rfl⟩
          rw [← htp'] at htp
          have HEQ : Hid (zs.all (atOk ts) = (decide ((vn : Int) = tp) && (zs.drop (k + 1)).all (atOk ts))) := by
            show _ = _
            rw [HT.out, decide_eq_true (show (0 : Int) ≤ (p : Int) by omega), decide_eq_true hpi, htp', Int.toNat_natCast]
            rfl
          clear htc htp' hbw hb3
          by_cases hvt : (vn : Int) = tp
          · have HN : Hid (zs.all (atOk ts) = (zs.drop (k + 1)).all (atOk ts)) := by show _ = _; rw [HEQ.out, decide_eq_true hvt]; rfl
            clear HEQ
            refine wp_region_held_drew (S := fun w' => w'.cell? ⟨wY.heap.size, 0, none⟩ = some (.int .i64 ((p : Nat))) ∧ w'.cell? ⟨wY.heap.size, 1, none⟩ = some (.slice va vn vc) ∧ w'.cell? ⟨tb, toff + p, none⟩ = some (.int .i64 tp)) (by kernel_rfl) ?_ (fun hHeld => ?_)
            · (try dsimp only)
              (refine ⟨?_, ?_, ?_⟩ <;> assumption)
            refine tk 0 ?_
            refine tk 1 ?_
            refine tk 2 ?_
            refine tk 3 ?_
            refine tk 4 ?_
            refine tk 5 ?_
            refine tk 6 ?_
            refine tk 7 ?_
            refine tk 8 ?_
            refine tk 9 ?_
            refine tk 10 ?_
            refine tk 11 ?_
            refine tk 12 ?_
            refine tk 13 ?_
            refine tk 14 ?_
            refine tk 15 ?_
            refine tk 16 ?_
            refine tk 17 ?_
            refine tk 18 ?_
            refine tk 19 ?_
            refine tk 20 ?_
            refine wpAnyH_done (by kernel_rfl) ?_ _
            go_wp2
            go_roundw
            case rel => exact ⟨k + 1, by omega, by go_num, HN.out, HBU.out.1.drew, HBU.out.2.drew⟩
            case measure => simp [intOf]; omega
          · have HF := Hid.mk (gq_not (hs := hs) (zs := zs) (ts := ts) (.inr (.inr (.inr (.inr (by rw [HEQ.out, decide_eq_false hvt]; rfl))))))
            clear HEQ
            refine wp_region_held_drew (S := fun w' => w'.cell? ⟨wY.heap.size, 0, none⟩ = some (.int .i64 ((p : Nat))) ∧ w'.cell? ⟨wY.heap.size, 1, none⟩ = some (.slice va vn vc) ∧ w'.cell? ⟨tb, toff + p, none⟩ = some (.int .i64 tp)) (by kernel_rfl) ?_ (fun hHeld => ?_)
            · (try dsimp only)
              (refine ⟨?_, ?_, ?_⟩ <;> assumption)
            refine tk 0 ?_
            refine tk 1 ?_
            refine tk 2 ?_
            refine tk 3 ?_
            refine tk 4 ?_
            refine tk 5 ?_
            refine tk 6 ?_
            refine tk 7 ?_
            refine tk 8 ?_
            refine tk 9 ?_
            refine tk 10 ?_
            refine tk 11 ?_
            refine tk 12 ?_
            refine tk 13 ?_
            refine tk 14 ?_
            refine tk 15 ?_
            refine tk 16 ?_
            refine tk 17 ?_
            refine tk 18 ?_
            refine tk 19 ?_
            refine tk 20 ?_
            refine wpAnyH_done (by kernel_rfl) ?_ _
            go_wp2
            go_ret
            exact ⟨ret_bool HF.out.symm, HBU.out.1.drew⟩
    · rw [List.drop_of_length_le (by have := HZ.out; omega)] at ht
      have ht : zs.all (atOk ts) = true := ht
      have hgy := gq_yes (hs := hs) HTO.out (by have := HZ.out; omega) (by have := HH.out; omega) HQ.out ht
      have q0 := cell_later hb3 q0
      have HGY := Hid.mk hgy
      have HVW := Hid.mk (At.below HV.out hb3)
      have HHW := Hid.mk (At.below HAH.out hbw)
      clear ht hgy q1
      by_cases hh0 : hn = 0
      · subst hh0
        have hs0 := List.eq_nil_of_length_eq_zero HH.out
        have HE : Hid (gqB hs zs ts = true) := by show _ = _; rw [HGY.out, hs0]; rfl
        clear hs0
        go_wp2_with fail
        refine wp_loop_rounds 1 ?_
        rw [rounds_succ]
        go_wp2
        go_ret
        exact ⟨ret_bool HE.out.symm, hbw⟩
      · obtain ⟨hb', hoff, rfl, _, hhc⟩ := HHW.out.some (by have := HH.out; omega)
        go_wp2_with fail
        go_loopw [65] (fun i wr => ∃ (j : Nat), j ≤ hn ∧ i = .int .i64 j ∧ gqB hs zs ts = ((hs.drop j).all fun v => decide (v ∈ bl (vset zs))) ∧ wr = wY) (fun i _ => hn - (intOf i).toNat)
        case atStart => exact ⟨0, Nat.zero_le _, rfl, HGY.out, rfl⟩
        case round =>
          obtain ⟨j, hj, rfl, htj, rfl⟩ := hrel
          by_cases hjt : j < hn
          · have hcx := hhc j (by have := HH.out; omega)
            rw [all_drop_int _ (by have := HH.out; omega)] at htj
            obtain ⟨y, hy⟩ : ∃ y, y = hs.getD j 0 := ⟨_, rfl⟩
            rw [← hy] at hcx htj
            have HTJ := Hid.mk htj
            have HC := Hid.mk (hasI_any r m d (bl (vset zs)) y wr HM.out hm6 HVW.out)
            clear hy htj hhc
            cases hr : decide (y ∈ bl (vset zs)) with
            | false =>
              rw [hr] at HC
              go_wp2_with fail
              refine HC.out.mono ?_
              rintro e w4 ⟨rfl, h9⟩
              obtain rfl := h9.symm
              go_wp2
              go_ret
              exact ⟨ret_bool (by rw [HTJ.out, hr]; rfl), hbw⟩
            | true =>
              rw [hr] at HC
              go_wp2_with fail
              refine HC.out.mono ?_
              rintro e w4 ⟨rfl, h9⟩
              obtain rfl := h9.symm
              go_wp2
              go_roundw
              case rel => exact ⟨j + 1, by omega, by go_num, by rw [HTJ.out, hr]; rfl, trivial⟩
              case measure => simp [intOf]; omega
          · rw [List.drop_of_length_le (by have := HH.out; omega)] at htj
            have HTJ := Hid.mk htj
            clear htj
            go_wp2
            go_ret
            exact ⟨ret_bool HTJ.out.symm, hbw⟩

end Go.Proofs.Ytociphdhkjoofaa

/- Contract of slices.Clone at ints. -/
namespace Go.Proofs.Ytociphdhkjoofaa
open Go.RowKit

theorem own_void (w : World) (e : TypeId) (size : Nat) : (w.alloc (.cells #[] e)).ownsRow w.heap.size e size (.slice (some ⟨w.heap.size, 0, none⟩) 0 0) 0 [] :=
  ⟨by simp, .inr ⟨w.heap.size, 0, #[], rfl, Nat.le_refl _, heap_alloc_new w _, by simp, by simp, by simp, by simp⟩⟩
theorem eqNilI (a : Option Addr) (n c : Nat) (w : World) : (binOp .eql 22 (.slice a n c) (.slice none 0 0)).run Try.prog w = .ok (.bool a.isNone) w := by
  have he : (Op.equalIn (9999 + 1) 22 (.slice a n c) (.slice none 0 0)).run Try.prog w = .ok a.isNone w := by
    unfold Op.equalIn
    simp only [Sem.run_bind, run_underlying Try.underlying22, Result.andThen_ok]
    cases a <;> rfl
  have he' : (Op.equal 22 (.slice a n c) (.slice none 0 0)).run Try.prog w = .ok a.isNone w := he
  simp only [binOp]
  rw [Sem.run_bind, he']
  rfl

set_option maxHeartbeats 2000000 in
theorem cloneI_any (a : Option Addr) (n c : Nat) (zs : List Int) (w : World) (hz : zs.length = n) (hn : n ≤ 1048576) (hF : a = none → c = 0) (ha : At w a zs) :
    Calls Try.prog 59 #[.slice a n c] w fun e w' => ∃ r d, e = .returned (.slice r n d) ∧ w'.ownsRow w.heap.size 3 1 (.slice r n d) n (zs.map (.int .i64)) ∧ Below w.heap.size w w' := by
  obtain ⟨i0, hi, hz0, hz1, hz2⟩ := info_parts Try.infoInt
  cases a with
  | none =>
    have hc0 := hF rfl
    subst hc0
    have hM : zs = [] := by rcases ha with h | ⟨b, off, h, _⟩; exact h; cases h
    subst hM
    have hn0 : 0 = n := hz
    subst hn0
    have hq := fun w => eqNilI none 0 0 w
    go_enter Try.func59, Try.ntmps59
    go_wp2
    go_ret
    exact ⟨none, 0, rfl, World.ownsRow_nil _ _ _ _, Below.refl _ _⟩
  | some ad =>
    have OE := Hid.mk (own_void w 3 1)
    have HA := Hid.mk (ha.alloc (.cells #[] 3))
    have HZ := Hid.mk hz
    clear ha hF hz
    have hq := fun w => eqNilI (some ad) n c w
    go_enter Try.func59, Try.ntmps59
    go_wp2_with (at_builtin; refine wpList_append_all rfl (.tmp 5) (.tmp 6) 22 rfl w.heap.size 3 i0 (.int .i64 0) 8 Try.underlying22 hi hz0 hz1 hz2 rfl (.slice (some ⟨w.heap.size, 0, none⟩) 0 0) 0 [] rfl OE.out (some ad) n c zs rfl HZ.out HA.out (fun h => by cases h) (by unfold maxLen; omega) (by omega) (by simp) ?_)
    intro r1 d1 w1 ho1 hg1
    have HB : Hid (Below w.heap.size w w1) := ((Below.refl _ _).alloc (Nat.le_refl _) _).grown hg1 (by simp) (fun j hj => by simp [Value.ownBlock] at hj; omega)
    have HO : Hid (w1.ownsRow w.heap.size 3 1 (.slice r1 n d1) n (zs.map (.int .i64))) := Hid.mk (by simpa using ho1)
    clear ho1 hg1
    go_wp2
    go_ret
    exact ⟨r1, d1, by first | rfl | simp, HO.out, HB.out⟩

end Go.Proofs.Ytociphdhkjoofaa

/- Contract of impl.IsContained. -/
namespace Go.Proofs.Ytociphdhkjoofaa
open Go.RowKit

set_option maxRecDepth 100000 in
set_option maxHeartbeats 8000000 in
theorem implIsContained (pha : Option Addr) (phn phc : Nat) (ph : List Int) (pa : Option Addr) (pn pc : Nat) (pz : List Atm) (qha : Option Addr) (qhn qhc : Nat) (qh : List Int) (qa : Option Addr) (qn qc : Nat) (qz : List Atm) (ta : Option Addr) (tn tc : Nat) (ts : List Int) (w : World)
    (h1 : ph.length = phn) (h2 : phn ≤ 9223372036854775807) (h3 : At w pha ph) (h4 : pz.length = pn) (h5 : pn ≤ 9223372036854775807) (h6 : AtQ w pa pz) (g1 : qh.length = qhn) (g2 : qhn ≤ 9223372036854775807) (g3 : At w qha qh) (g4 : qz.length = qn) (g5 : qn ≤ 9223372036854775807) (g6 : AtQ w qa qz) (t1 : ts.length = tn) (t2 : tn ≤ 9223372036854775807) (t3 : At w ta ts) :
    Calls Try.prog 61 #[.agg #[.slice pha phn phc, .slice pa pn pc], .agg #[.slice qha qhn qhc, .slice qa qn qc], .slice ta tn tc] w fun e w' => IcRet e w' w.heap.size (icM ph pz qh qz ts).isSome (icB ph pz qh qz ts) (icL ph pz qh qz ts) ∧ Below w.heap.size w w' := by
  obtain ⟨W, hW⟩ : ∃ W, W = (w.alloc (.cells #[.slice pha phn phc, .slice pa pn pc] 29)).alloc (.cells #[.slice qha qhn qhc, .slice qa qn qc] 29) := ⟨_, rfl⟩
  have B0 : Below w.heap.size w W := by rw [hW]; exact ((Below.refl _ _).alloc (Nat.le_refl _) _).alloc (by simp) _
  have b0 : W.heap[w.heap.size]? = some (.cells #[.slice pha phn phc, .slice pa pn pc] 29 (0, 0)) := by rw [hW]; exact blk_alloc (heap_alloc_new w _) _
  have b1 : W.heap[w.heap.size + 1]? = some (.cells #[.slice qha qhn qhc, .slice qa qn qc] 29 (0, 0)) := by
    rw [hW]
    have h := heap_alloc_new (w.alloc (.cells #[.slice pha phn phc, .slice pa pn pc] 29)) (.cells #[.slice qha qhn qhc, .slice qa qn qc] 29)
    simpa only [World.size_alloc] using h
  have KP : Hid (∀ w', Below W.heap.size W w' → Calls Try.prog 34 #[.agg #[.slice pha phn phc, .slice pa pn pc], .slice ta tn tc] w' fun e w'' => e = .returned (.bool (gqB ph pz ts)) ∧ Below w'.heap.size w' w'') := fun w' h => by
    have hb := B0.trans (h.mono B0.size)
    exact implGoodQuery pha phn phc ph pa pn pc pz ta tn tc ts w' h1 h2 (At.below h3 hb) h4 h5 (AtSl.below h6 hb) t1 t2 (At.below t3 hb)
  have KQ : Hid (∀ w', Below W.heap.size W w' → Calls Try.prog 34 #[.agg #[.slice qha qhn qhc, .slice qa qn qc], .slice ta tn tc] w' fun e w'' => e = .returned (.bool (gqB qh qz ts)) ∧ Below w'.heap.size w' w'') := fun w' h => by
    have hb := B0.trans (h.mono B0.size)
    exact implGoodQuery qha qhn qhc qh qa qn qc qz ta tn tc ts w' g1 g2 (At.below g3 hb) g4 g5 (AtSl.below g6 hb) t1 t2 (At.below t3 hb)
  have HNO : Hid (icB ph pz qh qz ts = false → ∀ w' : World, IcRet (.returned (.tuple #[.slice none 0 0, .bool false, .bool false])) w' w.heap.size (icM ph pz qh qz ts).isSome (icB ph pz qh qz ts) (icL ph pz qh qz ts)) := fun hf w' => by
    have hM : icM ph pz qh qz ts = none := by unfold icM; rw [hf]; rfl
    have hL : icL ph pz qh qz ts = [] := by unfold icL; rw [hM]
    rw [hf, hM, hL]
    exact ⟨none, 0, 0, rfl, rfl, World.ownsRow_nil _ _ _ _⟩
  have c0 := blk_cell b0 0 (v := .slice pha phn phc) rfl
  have c1 := blk_cell b0 1 (v := .slice pa pn pc) rfl
  have d0 := blk_cell b1 0 (v := .slice qha qhn qhc) rfl
  have d1 := blk_cell b1 1 (v := .slice qa qn qc) rfl
  cases hp : gqB ph pz ts with
  | false =>
    rw [hp] at KP
    have HF := Hid.mk (HNO.out (by unfold icB; rw [hp]; rfl))
    go_enter Try.func61, Try.ntmps61
    go_upto_region 1 with fail
    rw [← hW]
    clear hW
    go_wp2_with fail
    refine (KP.out _ (Below.refl _ _)).mono ?_
    rintro e w1 ⟨rfl, hb1⟩
    go_wp2
    exact bodyPost_ret (v := .tuple #[.slice none 0 0, .bool false, .bool false]) (by simp [results, Try.results61, go_sem]) rfl ⟨HF.out _, B0.trans (hb1.mono B0.size)⟩
  | true =>
  cases hq : gqB qh qz ts with
  | false =>
    rw [hp] at KP
    rw [hq] at KQ
    have HF := Hid.mk (HNO.out (by unfold icB; rw [hq]; simp))
    go_enter Try.func61, Try.ntmps61
    go_upto_region 1 with fail
    rw [← hW]
    clear hW
    go_wp2_with fail
    refine (KP.out _ (Below.refl _ _)).mono ?_
    rintro e w1 ⟨rfl, hb1⟩
    have d0 := cell_later hb1 d0
    have d1 := cell_later hb1 d1
    go_wp2_with fail
    refine (KQ.out _ hb1).mono ?_
    rintro e w2 ⟨rfl, hb2⟩
    have hb := hb1.trans (hb2.mono hb1.size)
    go_wp2
    exact bodyPost_ret (v := .tuple #[.slice none 0 0, .bool false, .bool false]) (by simp [results, Try.results61, go_sem]) rfl ⟨HF.out _, B0.trans (hb.mono B0.size)⟩
  | true =>
  by_cases hl : phn = qhn
  rotate_left
  · have hli : ¬ (phn : Int) = (qhn : Int) := by omega
    rw [hp] at KP
    rw [hq] at KQ
    have HF := Hid.mk (HNO.out (by unfold icB; rw [decide_eq_false (by omega)]; simp))
    go_enter Try.func61, Try.ntmps61
    go_upto_region 1 with fail
    rw [← hW]
    clear hW
    go_wp2_with fail
    refine (KP.out _ (Below.refl _ _)).mono ?_
    rintro e w1 ⟨rfl, hb1⟩
    have d0 := cell_later hb1 d0
    have d1 := cell_later hb1 d1
    have c0 := cell_later hb1 c0
    go_wp2_with fail
    refine (KQ.out _ hb1).mono ?_
    rintro e w2 ⟨rfl, hb2⟩
    have d0 := cell_later hb2 d0
    have c0 := cell_later hb2 c0
    have hb := hb1.trans (hb2.mono hb1.size)
    go_wp2
    exact bodyPost_ret (v := .tuple #[.slice none 0 0, .bool false, .bool false]) (by simp [results, Try.results61, go_sem]) rfl ⟨HF.out _, B0.trans (hb.mono B0.size)⟩
  have hB : icB ph pz qh qz ts = true := by unfold icB; rw [hp, hq, decide_eq_true (by omega)]; rfl
  have hM : icM ph pz qh qz ts = lmF qh ph qz pz := by unfold icM; rw [hB]; rfl
  have KL : Hid (∀ w', Below W.heap.size W w' → Calls Try.prog 73 #[.agg #[.slice qha qhn qhc, .slice qa qn qc], .agg #[.slice pha phn phc, .slice pa pn pc]] w' fun e w'' => e = .returned (.tuple #[.agg (wcells ((lmF qh ph qz pz).getD wy0)).toArray, .bool (lmF qh ph qz pz).isSome]) ∧ Below w'.heap.size w' w'') := fun w' h => by
    have hb := B0.trans (h.mono B0.size)
    exact leastMap_any qha qhn qhc qh qa qn qc qz pha phn phc ph pa pn pc pz w' g1 g2 (gq_head hq) (At.below g3 hb) h1 h2 (At.below h3 hb) (by omega) g4 g5 (AtSl.below g6 hb) h4 h5 (AtSl.below h6 hb) (gq_parts hq).2.2.1 (gq_parts hp).2.2.1 (gq_fit hq hp)
  rw [hp] at KP
  rw [hq] at KQ
  rw [hB]
  obtain ⟨L, hL⟩ : ∃ L, L = icL ph pz qh qz ts := ⟨_, rfl⟩
  rw [← hL, hM]
  have hLn : lmF qh ph qz pz = none → L = [] := fun h => by rw [hL]; unfold icL; rw [hM, h]
  have hLs : ∀ m, lmF qh ph qz pz = some m → L = wnum m := fun m h => by rw [hL]; unfold icL; rw [hM, h]
  obtain ⟨O, hO⟩ : ∃ O, O = lmF qh ph qz pz := ⟨_, rfl⟩
  have hOl : ∀ m, O = some m → m.length = 6 := fun m h => startF_len m (by rw [← h, hO]; rfl)
  rw [← hO] at KL hLn hLs ⊢
  subst hl
  have HW : Hid (∀ (w' : World), Below W.heap.size W w' → w'.cell? ⟨w.heap.size, 0, none⟩ = some (.slice pha phn phc) ∧ w'.cell? ⟨w.heap.size, 1, none⟩ = some (.slice pa pn pc) ∧ w'.cell? ⟨w.heap.size + 1, 0, none⟩ = some (.slice qha phn qhc) ∧ w'.cell? ⟨w.heap.size + 1, 1, none⟩ = some (.slice qa qn qc)) := fun w' h => ⟨cell_later h c0, cell_later h c1, cell_later h d0, cell_later h d1⟩
  clear hO hL hM hB hp hq HNO b0 b1 h1 h3 h4 h6 g1 g3 g4 g6 t1 t3
  cases O with
  | none =>
    have HL := Hid.mk (hLn rfl)
    clear hLn hLs hOl
    have KL' : Hid (∀ w', Below W.heap.size W w' → Calls Try.prog 73 #[.agg #[.slice qha phn qhc, .slice qa qn qc], .agg #[.slice pha phn phc, .slice pa pn pc]] w' fun e w'' => e = .returned (.tuple #[.agg #[.bool false, .bool false, .bool false, .bool false, .bool false, .bool false, .int .i64 0, .int .i64 0, .int .i64 0, .int .i64 0, .int .i64 0, .int .i64 0], .bool false]) ∧ Below w'.heap.size w' w'') := KL.out
    clear KL
    go_enter Try.func61, Try.ntmps61
    go_upto_region 1 with fail
    rw [← hW]
    clear hW
    go_wp2_with fail
    refine (KP.out _ (Below.refl _ _)).mono ?_
    rintro e w1 ⟨rfl, hb1⟩
    obtain ⟨c0, c1, d0, d1⟩ := HW.out w1 hb1
    go_wp2_with fail
    refine (KQ.out _ hb1).mono ?_
    rintro e w2 ⟨rfl, hb2⟩
    have hb := hb1.trans (hb2.mono hb1.size)
    obtain ⟨c0, c1, d0, d1⟩ := HW.out w2 hb
    go_wp2_with fail
    refine (KL'.out _ hb).mono ?_
    rintro e w3 ⟨rfl, hb3⟩
    have hb' := hb.trans (hb3.mono hb.size)
    have B3 := B0.trans (hb'.mono B0.size)
    go_wp2
    exact bodyPost_ret (v := .tuple #[.slice none 0 0, .bool false, .bool true]) (by simp [results, Try.results61, go_sem]) rfl ⟨by rw [HL.out]; exact ⟨none, 0, 0, rfl, rfl, World.ownsRow_nil _ _ _ _⟩, B3.alloc B3.size _⟩
  | some m =>
    have hm := hOl m rfl
    have HL := Hid.mk (hLs m rfl)
    obtain ⟨k0, k1, k2, k3, k4, k5, n0, n1, n2, n3, n4, n5, hw0⟩ := wcells_open hm
    have KL' : Hid (∀ w', Below W.heap.size W w' → Calls Try.prog 73 #[.agg #[.slice qha phn qhc, .slice qa qn qc], .agg #[.slice pha phn phc, .slice pa pn pc]] w' fun e w'' => e = .returned (.tuple #[.agg #[.bool k0, .bool k1, .bool k2, .bool k3, .bool k4, .bool k5, .int .i64 n0, .int .i64 n1, .int .i64 n2, .int .i64 n3, .int .i64 n4, .int .i64 n5], .bool true]) ∧ Below w'.heap.size w' w'') := fun w' h => by
      have h9 := KL.out w' h
      rw [show (some m).getD wy0 = m from rfl, hw0] at h9
      exact h9
    have HC : Hid (∀ (w' : World) (b : Nat), w'.heap[b]? = some (.cells #[.bool k0, .bool k1, .bool k2, .bool k3, .bool k4, .bool k5, .int .i64 n0, .int .i64 n1, .int .i64 n2, .int .i64 n3, .int .i64 n4, .int .i64 n5] 101 (0, 0)) → Calls Try.prog 59 #[.slice (some ⟨b, 6, none⟩) 6 6] w' fun e w'' => ∃ r d, e = .returned (.slice r 6 d) ∧ w''.ownsRow w'.heap.size 3 1 (.slice r 6 d) 6 ((wnum m).map (.int .i64)) ∧ Below w'.heap.size w' w'') := fun w' b h => by
      refine cloneI_any (some ⟨b, 6, none⟩) 6 6 (wnum m) w' (by unfold wnum; rw [List.length_map, hm]) (by omega) (fun h => by cases h) (wnum_at hm (t := 101) ?_)
      rw [hw0]
      exact h
    have HML : Hid ((wnum m).length = 6) := by show _ = _; unfold wnum; rw [List.length_map, hm]
    clear hLn hLs hOl hw0 hm KL
    go_enter Try.func61, Try.ntmps61
    go_upto_region 1 with fail
    rw [← hW]
    clear hW
    go_wp2_with fail
    refine (KP.out _ (Below.refl _ _)).mono ?_
    rintro e w1 ⟨rfl, hb1⟩
    obtain ⟨c0, c1, d0, d1⟩ := HW.out w1 hb1
    go_wp2_with fail
    refine (KQ.out _ hb1).mono ?_
    rintro e w2 ⟨rfl, hb2⟩
    have hb := hb1.trans (hb2.mono hb1.size)
    obtain ⟨c0, c1, d0, d1⟩ := HW.out w2 hb
    go_wp2_with fail
    refine (KL'.out _ hb).mono ?_
    rintro e w3 ⟨rfl, hb3⟩
    have hb' := hb.trans (hb3.mono hb.size)
    have B3 := B0.trans (hb'.mono B0.size)
    obtain ⟨X, hX⟩ : ∃ X, X = w3.alloc (.cells #[.bool k0, .bool k1, .bool k2, .bool k3, .bool k4, .bool k5, .int .i64 n0, .int .i64 n1, .int .i64 n2, .int .i64 n3, .int .i64 n4, .int .i64 n5] 101) := ⟨_, rfl⟩
    have hbX : Below w3.heap.size w3 X := by rw [hX]; exact (Below.refl _ _).alloc (Nat.le_refl _) _
    have bX : X.heap[w3.heap.size]? = some (.cells #[.bool k0, .bool k1, .bool k2, .bool k3, .bool k4, .bool k5, .int .i64 n0, .int .i64 n1, .int .i64 n2, .int .i64 n3, .int .i64 n4, .int .i64 n5] 101 (0, 0)) := by rw [hX]; exact heap_alloc_new _ _
    have BX := B3.trans (hbX.mono B3.size)
    have HCX := Hid.mk (HC.out X w3.heap.size bX)
    clear hb' hb hb1 hb2 hb3 hbX bX KL' KP KQ c0 c1 d0 d1
    go_upto_region 4 with fail
    rw [← hX]
    clear hX
    go_wp2_with fail
    refine HCX.out.mono ?_
    rintro e w4 ⟨r, dd, rfl, ho, hb4⟩
    have HO := Hid.mk (owns_mono ho BX.size)
    have B4 := BX.trans (hb4.mono BX.size)
    clear ho hb4
    go_wp2
    exact bodyPost_ret (v := .tuple #[.slice r 6 dd, .bool true, .bool true]) (by simp [results, Try.results61, go_sem]) rfl ⟨by rw [HL.out]; exact ⟨r, 6, dd, rfl, HML.out, HO.out⟩, B4⟩

end Go.Proofs.Ytociphdhkjoofaa
