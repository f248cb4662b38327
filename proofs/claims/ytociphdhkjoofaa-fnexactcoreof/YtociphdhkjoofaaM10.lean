/- Contract of the try of one target: impl.leastMap$1$1. -/
import Derived.Test.YtociphdhkjoofaaM7
import Derived.Test.YtociphdhkjoofaaM9
import Derived.Deep.CutBlock
import Derived.Deep.DeepCutAuto
namespace Go.Proofs.Ytociphdhkjoofaa
open Go.RowKit

set_option maxRecDepth 100000 in
set_option maxHeartbeats 16000000 in
theorem inner_any (d : LD) (m : Wy) (v : Int) (vs : List Int) (t : Int) (bw bv bx : Nat) (lb loff ln lc : Nat) (w : World) (hm : m.length = 6) (hv : 0 ≤ v ∧ v < 6) (hE : LEnv d w)
    (hbw : w.heap[bw]? = some (.cells (wcells m).toArray 101 (0, 0))) (hbv : w.heap[bv]? = some (.cells #[.slice (some ⟨lb, loff, none⟩) (ln + 1) (lc + 1)] 22 (0, 0))) (hbx : w.heap[bx]? = some (.cells #[.int .i64 t] 3 (0, 0)))
    (hlz : vs.length = ln) (hlc : ln ≤ lc) (hlb : lc ≤ 9223372036854775807) (hla : At w (some ⟨lb, loff, none⟩) (v :: vs))
    (ih : ∀ (m' : Wy) (la' : Option Addr) (ln' lc' : Nat) (w' : World), m'.length = 6 → LEnv d w' → vs.length = ln' → ln' ≤ lc' → lc' ≤ 9223372036854775807 → (la' = none → lc' = 0) → At w' la' vs →
      Calls Try.prog 81 #[.agg (wcells m').toArray, .slice la' ln' lc', .pointer (some ⟨d.bt, 0, none⟩), .pointer (some ⟨d.bl, 0, none⟩), .pointer (some ⟨d.bf, 0, none⟩), .pointer (some ⟨d.bo, 0, none⟩)] w' fun e w'' => Ends (leadF d.ats d.os d.tg m' vs) e ∧ Below w'.heap.size w' w'') :
    Calls Try.prog 83 #[.pointer (some ⟨bw, 0, none⟩), .pointer (some ⟨bv, 0, none⟩), .pointer (some ⟨bx, 0, none⟩), .pointer (some ⟨d.bl, 0, none⟩), .pointer (some ⟨d.bf, 0, none⟩), .pointer (some ⟨d.bo, 0, none⟩)] w fun e w' => Ends (tryF d.ats d.os d.tg m v vs t) e ∧ Below w.heap.size w w' := by
  obtain ⟨k0, k1, k2, k3, k4, k5, n0, n1, n2, n3, n4, n5, hw0⟩ := wcells_open hm
  obtain ⟨U, hU⟩ : ∃ U, U = w.alloc (.cells #[.bool false, .bool false, .bool false, .bool false, .bool false, .bool false, .int .i64 0, .int .i64 0, .int .i64 0, .int .i64 0, .int .i64 0, .int .i64 0] 101) := ⟨_, rfl⟩
  have B0 : Below w.heap.size w U := by rw [hU]; exact (Below.refl _ _).alloc (Nat.le_refl _) _
  have zU : w.heap.size < U.heap.size := by rw [hU]; simp
  have bR : U.heap[w.heap.size]? = some (.cells #[.bool false, .bool false, .bool false, .bool false, .bool false, .bool false, .int .i64 0, .int .i64 0, .int .i64 0, .int .i64 0, .int .i64 0, .int .i64 0] 101 (0, 0)) := by rw [hU]; exact heap_alloc_new w _
  have zv : ¬ bv = w.heap.size := Nat.ne_of_lt (Array.getElem?_eq_some_iff.1 hbv).1
  have zl : ¬ d.bl = w.heap.size := Nat.ne_of_lt (Array.getElem?_eq_some_iff.1 hE.l).1
  have zf : ¬ d.bf = w.heap.size := Nat.ne_of_lt (Array.getElem?_eq_some_iff.1 hE.f).1
  have zo : ¬ d.bo = w.heap.size := Nat.ne_of_lt (Array.getElem?_eq_some_iff.1 hE.o).1
  have hE := hE.below B0
  have hbw := blk_below hbw B0
  rw [hw0] at hbw
  have hbv := blk_below hbv B0
  have hbx := blk_below hbx B0
  have hla := At.below hla B0
  have c0 := blk_cell hbw 0 (v := .bool k0) rfl
  have c1 := blk_cell hbw 1 (v := .bool k1) rfl
  have c2 := blk_cell hbw 2 (v := .bool k2) rfl
  have c3 := blk_cell hbw 3 (v := .bool k3) rfl
  have c4 := blk_cell hbw 4 (v := .bool k4) rfl
  have c5 := blk_cell hbw 5 (v := .bool k5) rfl
  have c6 := blk_cell hbw 6 (v := .int .i64 n0) rfl
  have c7 := blk_cell hbw 7 (v := .int .i64 n1) rfl
  have c8 := blk_cell hbw 8 (v := .int .i64 n2) rfl
  have c9 := blk_cell hbw 9 (v := .int .i64 n3) rfl
  have c10 := blk_cell hbw 10 (v := .int .i64 n4) rfl
  have c11 := blk_cell hbw 11 (v := .int .i64 n5) rfl
  have e1 := blk_cell hbv 0 (v := .slice (some ⟨lb, loff, none⟩) (ln + 1) (lc + 1)) rfl
  have e2 : U.cell? ⟨lb, loff, none⟩ = some (.int .i64 v) := by
    obtain ⟨b', off', h1, _, h2⟩ := hla.some (by simp)
    simp only [Option.some.injEq, Addr.mk.injEq, and_true] at h1
    obtain ⟨rfl, rfl⟩ := h1
    have := h2 0 (by simp)
    simpa using this
  have e3 := blk_cell hbx 0 (v := .int .i64 t) rfl
  have f0 := blk_cell hE.l 0 (v := .func (.func 81) #[] #[.pointer (some ⟨d.bt, 0, none⟩), .pointer (some ⟨d.bl, 0, none⟩), .pointer (some ⟨d.bf, 0, none⟩), .pointer (some ⟨d.bo, 0, none⟩)]) rfl
  have f1 := blk_cell hE.f 1 (v := .slice d.fa d.fn d.fc) rfl
  have f2 := blk_cell hE.o 1 (v := .slice d.oa d.on d.oc) rfl
  obtain ⟨m2, hm2⟩ : ∃ m2, m2 = (wWith m v t).1 := ⟨_, rfl⟩
  obtain ⟨ok, hok⟩ : ∃ ok, ok = (wWith m v t).2 := ⟨_, rfl⟩
  have hml : m2.length = 6 := by rw [hm2, wWith_len, hm]
  obtain ⟨k'0, k'1, k'2, k'3, k'4, k'5, n'0, n'1, n'2, n'3, n'4, n'5, hw2⟩ := wcells_open hml
  have KW : Hid (∀ w' : World, Calls Try.prog 85 #[.agg #[.bool k0, .bool k1, .bool k2, .bool k3, .bool k4, .bool k5, .int .i64 n0, .int .i64 n1, .int .i64 n2, .int .i64 n3, .int .i64 n4, .int .i64 n5], .int .i64 v, .int .i64 t] w' fun e w'' => e = .returned (.tuple #[.agg #[.bool k'0, .bool k'1, .bool k'2, .bool k'3, .bool k'4, .bool k'5, .int .i64 n'0, .int .i64 n'1, .int .i64 n'2, .int .i64 n'3, .int .i64 n'4, .int .i64 n'5], .bool ok]) ∧ Below w'.heap.size w' w'') := fun w' => by
    have h := with_any m v t w' hm hv.1 hv.2
    rw [← hm2, ← hok, hw0, hw2] at h
    exact h
  have KY : Hid (∀ w' : World, Calls Try.prog 84 #[.agg #[.bool k'0, .bool k'1, .bool k'2, .bool k'3, .bool k'4, .bool k'5, .int .i64 n'0, .int .i64 n'1, .int .i64 n'2, .int .i64 n'3, .int .i64 n'4, .int .i64 n'5], .bool true] w' fun e w'' => e = .returned (.agg #[.bool k'0, .bool k'1, .bool k'2, .bool k'3, .bool k'4, .bool k'5, .int .i64 n'0, .int .i64 n'1, .int .i64 n'2, .int .i64 n'3, .int .i64 n'4, .int .i64 n'5]) ∧ Below w'.heap.size w' w'') := fun w' => by
    have h := orGiveUp_yes m2 w' hml
    rw [hw2] at h
    exact h
  have KN : Hid (∀ w' : World, Calls Try.prog 84 #[.agg #[.bool k'0, .bool k'1, .bool k'2, .bool k'3, .bool k'4, .bool k'5, .int .i64 n'0, .int .i64 n'1, .int .i64 n'2, .int .i64 n'3, .int .i64 n'4, .int .i64 n'5], .bool false] w' fun e w'' => e = .panicked [{ v := .iface 121 (.agg #[]), recovered := false }] ∧ Below w'.heap.size w' w'') := fun w' => by
    have h := orGiveUp_no m2 w' hml
    rw [hw2] at h
    exact h
  have HBU := Hid.mk B0
  cases ok with
  | false =>
    have HEN : Hid (Ends (tryF d.ats d.os d.tg m v vs t) (.panicked [{ v := .iface 121 (.agg #[]), recovered := false }])) := by
      show Ends _ _
      have : tryF d.ats d.os d.tg m v vs t = none := by unfold tryF; rw [← hok]; rfl
      rw [this]
      rfl
    clear hm2 hok hml hw2 hw0 hm hbw hbv hbx hla hE ih KY bR B0
    go_enter Try.func83, Try.ntmps83
    go_upto_region 1 with fail
    rw [← hU]
    clear hU
    refine wp_region_held_drew (S := fun w' => Below U.heap.size U w') (by kernel_rfl) ?_ (fun hHeld => ?_)
    · exact (Below.refl _ _).drew
    refine tk 0 ?_ (hy := fun wS hSw => by (have c0 := cell_later hSw c0; have c1 := cell_later hSw c1; have c2 := cell_later hSw c2; have c3 := cell_later hSw c3; have c4 := cell_later hSw c4; have c5 := cell_later hSw c5; have c6 := cell_later hSw c6; have c7 := cell_later hSw c7; have c8 := cell_later hSw c8; have c9 := cell_later hSw c9; have c10 := cell_later hSw c10; have c11 := cell_later hSw c11; go_simp; (try with_reducible rfl)))
    refine tk 1 ?_ (hy := fun wS hSw => by (have e1 := cell_later hSw e1; go_simp; (try with_reducible rfl)))
    refine tk 2 ?_
    refine tk 3 ?_ (hy := fun wS hSw => by (have e2 := cell_later hSw e2; go_simp; (try with_reducible rfl)))
    refine tk 4 ?_ (hy := fun wS hSw => by (have e3 := cell_later hSw e3; go_simp; (try with_reducible rfl)))
    obtain ⟨u0, hu0⟩ : ∃ u, u = U.drew := ⟨_, rfl⟩
    have Y0 : Below U.heap.size U u0 := by rw [hu0]; exact (Below.refl _ _).drew
    rw [← hu0]
    rw [← hu0] at hHeld
    clear hu0
    refine wpAnyH_ready (rs := [5, 9]) (by kernel_rfl) (by simp) ?_
    refine AllReadyH.cons (o := ?_) ?_ (fun K hK => ?_) ?_
    rotate_left
    · (simp only [List.getElem?_toArray, List.getElem?_cons_zero, List.getElem?_cons_succ]; rfl)
    · go_simp
      go_at_call 85
      refine (KW.out _).mono ?_
      rintro e v1 ⟨rfl, hb1⟩
      have Y1 := Y0.trans (hb1.mono Y0.size)
      clear hb1
      (try go_wp2_with fail)
      refine hK.out _ _ ?_ (fun hHeld' => ?_)
      · (try dsimp only)
        exact Y1
      clear hK K hHeld
      have hHeld := hHeld'
      clear hHeld'
      (try simp only [Act.put, List.setIfInBounds_toArray, List.set_cons_zero, List.set_cons_succ])
      refine tk 6 ?_
      refine tk 7 ?_
      refine wpAnyH_ready (rs := [8, 9]) (by kernel_rfl) (by simp) ?_
      refine AllReadyH.cons (o := ?_) ?_ (fun K hK => ?_) ?_
      rotate_left
      · (simp only [List.getElem?_toArray, List.getElem?_cons_zero, List.getElem?_cons_succ]; rfl)
      · go_simp
        go_at_call 84
        refine (KN.out _).mono ?_
        rintro e v2 ⟨rfl, hb2⟩
        exact ⟨rfl, HEN.out, HBU.out.trans ((Y1.trans (hb2.mono Y1.size)).mono HBU.out.size)⟩
      refine AllReadyH.cons (o := ?_) ?_ (fun K hK => ?_) AllReadyH.nil
      rotate_left
      · (simp only [List.getElem?_toArray, List.getElem?_cons_zero, List.getElem?_cons_succ]; rfl)
      · go_simp
        (try go_wp2_with fail)
        refine hK.out _ _ ?_ (fun hHeld' => ?_)
        · (try dsimp only)
          exact Y1.alloc Y1.size _
        clear hK K hHeld
        have hHeld := hHeld'
        clear hHeld'
        (try simp only [Act.put, List.setIfInBounds_toArray, List.set_cons_zero, List.set_cons_succ])
        obtain ⟨v3, hU3⟩ : ∃ u, u = v1.alloc (.cells #[.bool false, .bool false, .bool false, .bool false, .bool false, .bool false, .int .i64 0, .int .i64 0, .int .i64 0, .int .i64 0, .int .i64 0, .int .i64 0] 101) := ⟨_, rfl⟩
        have Y3 : Below U.heap.size U v3 := by rw [hU3]; exact Y1.alloc Y1.size _
        have P3 : v3.heap[v1.heap.size]? = some (.cells #[.bool false, .bool false, .bool false, .bool false, .bool false, .bool false, .int .i64 0, .int .i64 0, .int .i64 0, .int .i64 0, .int .i64 0, .int .i64 0] 101 (0, 0)) := by rw [hU3]; exact heap_alloc_new _ _
        have q3 : U.heap.size ≤ v1.heap.size := Y1.size
        rw [← hU3]
        clear hU3
        refine wpAnyH_ready (rs := [8]) (by kernel_rfl) (by simp) ?_
        refine AllReadyH.cons (o := ?_) ?_ (fun K hK => ?_) AllReadyH.nil
        rotate_left
        · (simp only [List.getElem?_toArray, List.getElem?_cons_zero, List.getElem?_cons_succ]; rfl)
        go_simp
        go_at_call 84
        refine (KN.out _).mono ?_
        rintro e v4 ⟨rfl, hb4⟩
        exact ⟨rfl, HEN.out, HBU.out.trans ((Y3.trans (hb4.mono Y3.size)).mono HBU.out.size)⟩
    refine AllReadyH.cons (o := ?_) ?_ (fun K hK => ?_) AllReadyH.nil
    rotate_left
    · (simp only [List.getElem?_toArray, List.getElem?_cons_zero, List.getElem?_cons_succ]; rfl)
    · go_simp
      (try go_wp2_with fail)
      refine hK.out _ _ ?_ (fun hHeld' => ?_)
      · (try dsimp only)
        exact Y0.alloc Y0.size _
      clear hK K hHeld
      have hHeld := hHeld'
      clear hHeld'
      (try simp only [Act.put, List.setIfInBounds_toArray, List.set_cons_zero, List.set_cons_succ])
      obtain ⟨v5, hU5⟩ : ∃ u, u = u0.alloc (.cells #[.bool false, .bool false, .bool false, .bool false, .bool false, .bool false, .int .i64 0, .int .i64 0, .int .i64 0, .int .i64 0, .int .i64 0, .int .i64 0] 101) := ⟨_, rfl⟩
      have Y5 : Below U.heap.size U v5 := by rw [hU5]; exact Y0.alloc Y0.size _
      have P5 : v5.heap[u0.heap.size]? = some (.cells #[.bool false, .bool false, .bool false, .bool false, .bool false, .bool false, .int .i64 0, .int .i64 0, .int .i64 0, .int .i64 0, .int .i64 0, .int .i64 0] 101 (0, 0)) := by rw [hU5]; exact heap_alloc_new _ _
      have q5 : U.heap.size ≤ u0.heap.size := Y0.size
      rw [← hU5]
      clear hU5
      refine wpAnyH_ready (rs := [5]) (by kernel_rfl) (by simp) ?_
      refine AllReadyH.cons (o := ?_) ?_ (fun K hK => ?_) AllReadyH.nil
      rotate_left
      · (simp only [List.getElem?_toArray, List.getElem?_cons_zero, List.getElem?_cons_succ]; rfl)
      go_simp
      go_at_call 85
      refine (KW.out _).mono ?_
      rintro e v6 ⟨rfl, hb6⟩
      have Y6 := Y5.trans (hb6.mono Y5.size)
      have P6 := (hb6.block _ (Array.getElem?_eq_some_iff.1 P5).1).trans P5
      clear hb6
      (try go_wp2_with fail)
      refine hK.out _ _ ?_ (fun hHeld' => ?_)
      · (try dsimp only)
        exact Y6
      clear hK K hHeld
      have hHeld := hHeld'
      clear hHeld'
      (try simp only [Act.put, List.setIfInBounds_toArray, List.set_cons_zero, List.set_cons_succ])
      refine tk 6 ?_
      refine tk 7 ?_
      refine wpAnyH_ready (rs := [8]) (by kernel_rfl) (by simp) ?_
      refine AllReadyH.cons (o := ?_) ?_ (fun K hK => ?_) AllReadyH.nil
      rotate_left
      · (simp only [List.getElem?_toArray, List.getElem?_cons_zero, List.getElem?_cons_succ]; rfl)
      go_simp
      go_at_call 84
      refine (KN.out _).mono ?_
      rintro e v7 ⟨rfl, hb7⟩
      exact ⟨rfl, HEN.out, HBU.out.trans ((Y6.trans (hb7.mono Y6.size)).mono HBU.out.size)⟩
  | true =>
    have HLE : Hid (∀ w', Below U.heap.size U w' → LEnv d w') := fun w' h => hE.below h
    have hbv' := hbv
    have HVV := Hid.mk hbv
    have HLA := Hid.mk hla
    have HR := Hid.mk bR
    have HML := Hid.mk hml
    have HTR : Hid (tryF d.ats d.os d.tg m v vs t = if mLead m2 d.ats d.os then leadF d.ats d.os d.tg m2 vs else none) := by
      show _ = _
      unfold tryF
      rw [← hok, ← hm2]
      rfl
    have HW2 := Hid.mk hw2
    have HIH := Hid.mk ih
    clear hm2 hok hml hw2 hw0 hm hbw hbv hbx hla hE ih KN bR B0 hbv'
    go_enter Try.func83, Try.ntmps83
    go_upto_region 1 with fail
    rw [← hU]
    clear hU
    go_cut [7] (fun ta wx => ∃ (B : Nat), ta = .pointer (some ⟨B, 0, none⟩) ∧ wx.heap[B]? = some (.cells #[.bool k'0, .bool k'1, .bool k'2, .bool k'3, .bool k'4, .bool k'5, .int .i64 n'0, .int .i64 n'1, .int .i64 n'2, .int .i64 n'3, .int .i64 n'4, .int .i64 n'5] 101 (0, 0)) ∧ U.heap.size ≤ B ∧ Below U.heap.size U wx)
    case first =>
      refine wp_region_held_drew (S := fun w' => Below U.heap.size U w') (by kernel_rfl) ?_ (fun hHeld => ?_)
      · exact (Below.refl _ _).drew
      refine tk 0 ?_ (hy := fun wS hSw => by (have c0 := cell_later hSw c0; have c1 := cell_later hSw c1; have c2 := cell_later hSw c2; have c3 := cell_later hSw c3; have c4 := cell_later hSw c4; have c5 := cell_later hSw c5; have c6 := cell_later hSw c6; have c7 := cell_later hSw c7; have c8 := cell_later hSw c8; have c9 := cell_later hSw c9; have c10 := cell_later hSw c10; have c11 := cell_later hSw c11; go_simp; (try with_reducible rfl)))
      refine tk 1 ?_ (hy := fun wS hSw => by (have e1 := cell_later hSw e1; go_simp; (try with_reducible rfl)))
      refine tk 2 ?_
      refine tk 3 ?_ (hy := fun wS hSw => by (have e2 := cell_later hSw e2; go_simp; (try with_reducible rfl)))
      refine tk 4 ?_ (hy := fun wS hSw => by (have e3 := cell_later hSw e3; go_simp; (try with_reducible rfl)))
      obtain ⟨u0, hu0⟩ : ∃ u, u = U.drew := ⟨_, rfl⟩
      have Y0 : Below U.heap.size U u0 := by rw [hu0]; exact (Below.refl _ _).drew
      rw [← hu0]
      rw [← hu0] at hHeld
      clear hu0
      refine wpAnyH_ready (rs := [5, 9]) (by kernel_rfl) (by simp) ?_
      refine AllReadyH.cons (o := ?_) ?_ (fun K hK => ?_) ?_
      rotate_left
      · (simp only [List.getElem?_toArray, List.getElem?_cons_zero, List.getElem?_cons_succ]; rfl)
      · go_simp
        go_at_call 85
        refine (KW.out _).mono ?_
        rintro e v8 ⟨rfl, hb8⟩
        have Y8 := Y0.trans (hb8.mono Y0.size)
        clear hb8
        (try go_wp2_with fail)
        refine hK.out _ _ ?_ (fun hHeld' => ?_)
        · (try dsimp only)
          exact Y8
        clear hK K hHeld
        have hHeld := hHeld'
        clear hHeld'
        (try simp only [Act.put, List.setIfInBounds_toArray, List.set_cons_zero, List.set_cons_succ])
        refine tk 6 ?_
        refine tk 7 ?_
        refine wpAnyH_ready (rs := [8, 9]) (by kernel_rfl) (by simp) ?_
        refine AllReadyH.cons (o := ?_) ?_ (fun K hK => ?_) ?_
        rotate_left
        · (simp only [List.getElem?_toArray, List.getElem?_cons_zero, List.getElem?_cons_succ]; rfl)
        · go_simp
          go_at_call 84
          refine (KY.out _).mono ?_
          rintro e v9 ⟨rfl, hb9⟩
          have Y9 := Y8.trans (hb9.mono Y8.size)
          clear hb9
          (try go_wp2_with fail)
          refine hK.out _ _ ?_ (fun hHeld' => ?_)
          · (try dsimp only)
            exact Y9
          clear hK K hHeld
          have hHeld := hHeld'
          clear hHeld'
          (try simp only [Act.put, List.setIfInBounds_toArray, List.set_cons_zero, List.set_cons_succ])
          refine wpAnyH_ready (rs := [9]) (by kernel_rfl) (by simp) ?_
          refine AllReadyH.cons (o := ?_) ?_ (fun K hK => ?_) AllReadyH.nil
          rotate_left
          · (simp only [List.getElem?_toArray, List.getElem?_cons_zero, List.getElem?_cons_succ]; rfl)
          go_simp
          (try go_wp2_with fail)
          refine hK.out _ _ ?_ (fun hHeld' => ?_)
          · (try dsimp only)
            exact Y9.alloc Y9.size _
          clear hK K hHeld
          have hHeld := hHeld'
          clear hHeld'
          (try simp only [Act.put, List.setIfInBounds_toArray, List.set_cons_zero, List.set_cons_succ])
          obtain ⟨v10, hU10⟩ : ∃ u, u = v9.alloc (.cells #[.bool false, .bool false, .bool false, .bool false, .bool false, .bool false, .int .i64 0, .int .i64 0, .int .i64 0, .int .i64 0, .int .i64 0, .int .i64 0] 101) := ⟨_, rfl⟩
          have Y10 : Below U.heap.size U v10 := by rw [hU10]; exact Y9.alloc Y9.size _
          have P10 : v10.heap[v9.heap.size]? = some (.cells #[.bool false, .bool false, .bool false, .bool false, .bool false, .bool false, .int .i64 0, .int .i64 0, .int .i64 0, .int .i64 0, .int .i64 0, .int .i64 0] 101 (0, 0)) := by rw [hU10]; exact heap_alloc_new _ _
          have q10 : U.heap.size ≤ v9.heap.size := Y9.size
          rw [← hU10]
          clear hU10
          have g0 := blk_cell P10 0 (v := .bool false) rfl
          have g1 := blk_cell P10 1 (v := .bool false) rfl
          have g2 := blk_cell P10 2 (v := .bool false) rfl
          have g3 := blk_cell P10 3 (v := .bool false) rfl
          have g4 := blk_cell P10 4 (v := .bool false) rfl
          have g5 := blk_cell P10 5 (v := .bool false) rfl
          have g6 := blk_cell P10 6 (v := .int .i64 0) rfl
          have g7 := blk_cell P10 7 (v := .int .i64 0) rfl
          have g8 := blk_cell P10 8 (v := .int .i64 0) rfl
          have g9 := blk_cell P10 9 (v := .int .i64 0) rfl
          have g10 := blk_cell P10 10 (v := .int .i64 0) rfl
          have g11 := blk_cell P10 11 (v := .int .i64 0) rfl
          have gz0 := blk_frozen P10 0
          have gz1 := blk_frozen P10 1
          have gz2 := blk_frozen P10 2
          have gz3 := blk_frozen P10 3
          have gz4 := blk_frozen P10 4
          have gz5 := blk_frozen P10 5
          have gz6 := blk_frozen P10 6
          have gz7 := blk_frozen P10 7
          have gz8 := blk_frozen P10 8
          have gz9 := blk_frozen P10 9
          have gz10 := blk_frozen P10 10
          have gz11 := blk_frozen P10 11
          have qb : U.heap.size ≤ v9.heap.size := by omega
          refine wpAnyH_ready (rs := [10]) (by kernel_rfl) (by simp) ?_
          refine AllReadyH.cons (o := ?_) ?_ (fun K hK => ?_) AllReadyH.nil
          rotate_left
          · (simp only [List.getElem?_toArray, List.getElem?_cons_zero, List.getElem?_cons_succ]; rfl)
          go_simp
          skip
          (try go_wp2_with fail)
          refine hK.out _ _ ?_ (fun hHeld' => ?_)
          · (try dsimp only)
            exact stores_below _ _ _ [.bool k'0, .bool k'1, .bool k'2, .bool k'3, .bool k'4, .bool k'5, .int .i64 n'0, .int .i64 n'1, .int .i64 n'2, .int .i64 n'3, .int .i64 n'4, .int .i64 n'5] Y10 qb
          clear hK K hHeld
          have hHeld := hHeld'
          clear hHeld'
          (try simp only [Act.put, List.setIfInBounds_toArray, List.set_cons_zero, List.set_cons_succ])
          refine wpAnyH_done (by kernel_rfl) ?_ _
          (try go_wp2_with fail)
          go_meet
          case rel => exact ⟨v9.heap.size, rfl, blk_stores12 P10 (.bool k'0) (.bool k'1) (.bool k'2) (.bool k'3) (.bool k'4) (.bool k'5) (.int .i64 n'0) (.int .i64 n'1) (.int .i64 n'2) (.int .i64 n'3) (.int .i64 n'4) (.int .i64 n'5), qb, stores_below _ _ _ [.bool k'0, .bool k'1, .bool k'2, .bool k'3, .bool k'4, .bool k'5, .int .i64 n'0, .int .i64 n'1, .int .i64 n'2, .int .i64 n'3, .int .i64 n'4, .int .i64 n'5] Y10 qb⟩
        refine AllReadyH.cons (o := ?_) ?_ (fun K hK => ?_) AllReadyH.nil
        rotate_left
        · (simp only [List.getElem?_toArray, List.getElem?_cons_zero, List.getElem?_cons_succ]; rfl)
        · go_simp
          (try go_wp2_with fail)
          refine hK.out _ _ ?_ (fun hHeld' => ?_)
          · (try dsimp only)
            exact Y8.alloc Y8.size _
          clear hK K hHeld
          have hHeld := hHeld'
          clear hHeld'
          (try simp only [Act.put, List.setIfInBounds_toArray, List.set_cons_zero, List.set_cons_succ])
          obtain ⟨v11, hU11⟩ : ∃ u, u = v8.alloc (.cells #[.bool false, .bool false, .bool false, .bool false, .bool false, .bool false, .int .i64 0, .int .i64 0, .int .i64 0, .int .i64 0, .int .i64 0, .int .i64 0] 101) := ⟨_, rfl⟩
          have Y11 : Below U.heap.size U v11 := by rw [hU11]; exact Y8.alloc Y8.size _
          have P11 : v11.heap[v8.heap.size]? = some (.cells #[.bool false, .bool false, .bool false, .bool false, .bool false, .bool false, .int .i64 0, .int .i64 0, .int .i64 0, .int .i64 0, .int .i64 0, .int .i64 0] 101 (0, 0)) := by rw [hU11]; exact heap_alloc_new _ _
          have q11 : U.heap.size ≤ v8.heap.size := Y8.size
          rw [← hU11]
          clear hU11
          refine wpAnyH_ready (rs := [8]) (by kernel_rfl) (by simp) ?_
          refine AllReadyH.cons (o := ?_) ?_ (fun K hK => ?_) AllReadyH.nil
          rotate_left
          · (simp only [List.getElem?_toArray, List.getElem?_cons_zero, List.getElem?_cons_succ]; rfl)
          go_simp
          go_at_call 84
          refine (KY.out _).mono ?_
          rintro e v12 ⟨rfl, hb12⟩
          have Y12 := Y11.trans (hb12.mono Y11.size)
          have P12 := (hb12.block _ (Array.getElem?_eq_some_iff.1 P11).1).trans P11
          clear hb12
          (try go_wp2_with fail)
          refine hK.out _ _ ?_ (fun hHeld' => ?_)
          · (try dsimp only)
            exact Y12
          clear hK K hHeld
          have hHeld := hHeld'
          clear hHeld'
          (try simp only [Act.put, List.setIfInBounds_toArray, List.set_cons_zero, List.set_cons_succ])
          have g0 := blk_cell P12 0 (v := .bool false) rfl
          have g1 := blk_cell P12 1 (v := .bool false) rfl
          have g2 := blk_cell P12 2 (v := .bool false) rfl
          have g3 := blk_cell P12 3 (v := .bool false) rfl
          have g4 := blk_cell P12 4 (v := .bool false) rfl
          have g5 := blk_cell P12 5 (v := .bool false) rfl
          have g6 := blk_cell P12 6 (v := .int .i64 0) rfl
          have g7 := blk_cell P12 7 (v := .int .i64 0) rfl
          have g8 := blk_cell P12 8 (v := .int .i64 0) rfl
          have g9 := blk_cell P12 9 (v := .int .i64 0) rfl
          have g10 := blk_cell P12 10 (v := .int .i64 0) rfl
          have g11 := blk_cell P12 11 (v := .int .i64 0) rfl
          have gz0 := blk_frozen P12 0
          have gz1 := blk_frozen P12 1
          have gz2 := blk_frozen P12 2
          have gz3 := blk_frozen P12 3
          have gz4 := blk_frozen P12 4
          have gz5 := blk_frozen P12 5
          have gz6 := blk_frozen P12 6
          have gz7 := blk_frozen P12 7
          have gz8 := blk_frozen P12 8
          have gz9 := blk_frozen P12 9
          have gz10 := blk_frozen P12 10
          have gz11 := blk_frozen P12 11
          have qb : U.heap.size ≤ v8.heap.size := by omega
          refine wpAnyH_ready (rs := [10]) (by kernel_rfl) (by simp) ?_
          refine AllReadyH.cons (o := ?_) ?_ (fun K hK => ?_) AllReadyH.nil
          rotate_left
          · (simp only [List.getElem?_toArray, List.getElem?_cons_zero, List.getElem?_cons_succ]; rfl)
          go_simp
          skip
          (try go_wp2_with fail)
          refine hK.out _ _ ?_ (fun hHeld' => ?_)
          · (try dsimp only)
            exact stores_below _ _ _ [.bool k'0, .bool k'1, .bool k'2, .bool k'3, .bool k'4, .bool k'5, .int .i64 n'0, .int .i64 n'1, .int .i64 n'2, .int .i64 n'3, .int .i64 n'4, .int .i64 n'5] Y12 qb
          clear hK K hHeld
          have hHeld := hHeld'
          clear hHeld'
          (try simp only [Act.put, List.setIfInBounds_toArray, List.set_cons_zero, List.set_cons_succ])
          refine wpAnyH_done (by kernel_rfl) ?_ _
          (try go_wp2_with fail)
          go_meet
          case rel => exact ⟨v8.heap.size, rfl, blk_stores12 P12 (.bool k'0) (.bool k'1) (.bool k'2) (.bool k'3) (.bool k'4) (.bool k'5) (.int .i64 n'0) (.int .i64 n'1) (.int .i64 n'2) (.int .i64 n'3) (.int .i64 n'4) (.int .i64 n'5), qb, stores_below _ _ _ [.bool k'0, .bool k'1, .bool k'2, .bool k'3, .bool k'4, .bool k'5, .int .i64 n'0, .int .i64 n'1, .int .i64 n'2, .int .i64 n'3, .int .i64 n'4, .int .i64 n'5] Y12 qb⟩
      refine AllReadyH.cons (o := ?_) ?_ (fun K hK => ?_) AllReadyH.nil
      rotate_left
      · (simp only [List.getElem?_toArray, List.getElem?_cons_zero, List.getElem?_cons_succ]; rfl)
      · go_simp
        (try go_wp2_with fail)
        refine hK.out _ _ ?_ (fun hHeld' => ?_)
        · (try dsimp only)
          exact Y0.alloc Y0.size _
        clear hK K hHeld
        have hHeld := hHeld'
        clear hHeld'
        (try simp only [Act.put, List.setIfInBounds_toArray, List.set_cons_zero, List.set_cons_succ])
        obtain ⟨v13, hU13⟩ : ∃ u, u = u0.alloc (.cells #[.bool false, .bool false, .bool false, .bool false, .bool false, .bool false, .int .i64 0, .int .i64 0, .int .i64 0, .int .i64 0, .int .i64 0, .int .i64 0] 101) := ⟨_, rfl⟩
        have Y13 : Below U.heap.size U v13 := by rw [hU13]; exact Y0.alloc Y0.size _
        have P13 : v13.heap[u0.heap.size]? = some (.cells #[.bool false, .bool false, .bool false, .bool false, .bool false, .bool false, .int .i64 0, .int .i64 0, .int .i64 0, .int .i64 0, .int .i64 0, .int .i64 0] 101 (0, 0)) := by rw [hU13]; exact heap_alloc_new _ _
        have q13 : U.heap.size ≤ u0.heap.size := Y0.size
        rw [← hU13]
        clear hU13
        refine wpAnyH_ready (rs := [5]) (by kernel_rfl) (by simp) ?_
        refine AllReadyH.cons (o := ?_) ?_ (fun K hK => ?_) AllReadyH.nil
        rotate_left
        · (simp only [List.getElem?_toArray, List.getElem?_cons_zero, List.getElem?_cons_succ]; rfl)
        go_simp
        go_at_call 85
        refine (KW.out _).mono ?_
        rintro e v14 ⟨rfl, hb14⟩
        have Y14 := Y13.trans (hb14.mono Y13.size)
        have P14 := (hb14.block _ (Array.getElem?_eq_some_iff.1 P13).1).trans P13
        clear hb14
        (try go_wp2_with fail)
        refine hK.out _ _ ?_ (fun hHeld' => ?_)
        · (try dsimp only)
          exact Y14
        clear hK K hHeld
        have hHeld := hHeld'
        clear hHeld'
        (try simp only [Act.put, List.setIfInBounds_toArray, List.set_cons_zero, List.set_cons_succ])
        refine tk 6 ?_
        refine tk 7 ?_
        refine wpAnyH_ready (rs := [8]) (by kernel_rfl) (by simp) ?_
        refine AllReadyH.cons (o := ?_) ?_ (fun K hK => ?_) AllReadyH.nil
        rotate_left
        · (simp only [List.getElem?_toArray, List.getElem?_cons_zero, List.getElem?_cons_succ]; rfl)
        go_simp
        go_at_call 84
        refine (KY.out _).mono ?_
        rintro e v15 ⟨rfl, hb15⟩
        have Y15 := Y14.trans (hb15.mono Y14.size)
        have P15 := (hb15.block _ (Array.getElem?_eq_some_iff.1 P14).1).trans P14
        clear hb15
        (try go_wp2_with fail)
        refine hK.out _ _ ?_ (fun hHeld' => ?_)
        · (try dsimp only)
          exact Y15
        clear hK K hHeld
        have hHeld := hHeld'
        clear hHeld'
        (try simp only [Act.put, List.setIfInBounds_toArray, List.set_cons_zero, List.set_cons_succ])
        have g0 := blk_cell P15 0 (v := .bool false) rfl
        have g1 := blk_cell P15 1 (v := .bool false) rfl
        have g2 := blk_cell P15 2 (v := .bool false) rfl
        have g3 := blk_cell P15 3 (v := .bool false) rfl
        have g4 := blk_cell P15 4 (v := .bool false) rfl
        have g5 := blk_cell P15 5 (v := .bool false) rfl
        have g6 := blk_cell P15 6 (v := .int .i64 0) rfl
        have g7 := blk_cell P15 7 (v := .int .i64 0) rfl
        have g8 := blk_cell P15 8 (v := .int .i64 0) rfl
        have g9 := blk_cell P15 9 (v := .int .i64 0) rfl
        have g10 := blk_cell P15 10 (v := .int .i64 0) rfl
        have g11 := blk_cell P15 11 (v := .int .i64 0) rfl
        have gz0 := blk_frozen P15 0
        have gz1 := blk_frozen P15 1
        have gz2 := blk_frozen P15 2
        have gz3 := blk_frozen P15 3
        have gz4 := blk_frozen P15 4
        have gz5 := blk_frozen P15 5
        have gz6 := blk_frozen P15 6
        have gz7 := blk_frozen P15 7
        have gz8 := blk_frozen P15 8
        have gz9 := blk_frozen P15 9
        have gz10 := blk_frozen P15 10
        have gz11 := blk_frozen P15 11
        have qb : U.heap.size ≤ u0.heap.size := by omega
        refine wpAnyH_ready (rs := [10]) (by kernel_rfl) (by simp) ?_
        refine AllReadyH.cons (o := ?_) ?_ (fun K hK => ?_) AllReadyH.nil
        rotate_left
        · (simp only [List.getElem?_toArray, List.getElem?_cons_zero, List.getElem?_cons_succ]; rfl)
        go_simp
        skip
        (try go_wp2_with fail)
        refine hK.out _ _ ?_ (fun hHeld' => ?_)
        · (try dsimp only)
          exact stores_below _ _ _ [.bool k'0, .bool k'1, .bool k'2, .bool k'3, .bool k'4, .bool k'5, .int .i64 n'0, .int .i64 n'1, .int .i64 n'2, .int .i64 n'3, .int .i64 n'4, .int .i64 n'5] Y15 qb
        clear hK K hHeld
        have hHeld := hHeld'
        clear hHeld'
        (try simp only [Act.put, List.setIfInBounds_toArray, List.set_cons_zero, List.set_cons_succ])
        refine wpAnyH_done (by kernel_rfl) ?_ _
        (try go_wp2_with fail)
        go_meet
        case rel => exact ⟨u0.heap.size, rfl, blk_stores12 P15 (.bool k'0) (.bool k'1) (.bool k'2) (.bool k'3) (.bool k'4) (.bool k'5) (.int .i64 n'0) (.int .i64 n'1) (.int .i64 n'2) (.int .i64 n'3) (.int .i64 n'4) (.int .i64 n'5), qb, stores_below _ _ _ [.bool k'0, .bool k'1, .bool k'2, .bool k'3, .bool k'4, .bool k'5, .int .i64 n'0, .int .i64 n'1, .int .i64 n'2, .int .i64 n'3, .int .i64 n'4, .int .i64 n'5] Y15 qb⟩
    case rest =>
      obtain ⟨B, rfl, hbB, hBU, hb3⟩ := hcut
      obtain ⟨w3, rfl⟩ : ∃ x, x = wc := ⟨_, rfl⟩
      have B3 := HBU.out.trans (hb3.mono HBU.out.size)
      have f0 := cell_later hb3 f0
      have f1 := cell_later hb3 f1
      have f2 := cell_later hb3 f2
      have e1 := cell_later hb3 e1
      have a0 := blk_cell hbB 0 (v := .bool k'0) rfl
      have a1 := blk_cell hbB 1 (v := .bool k'1) rfl
      have a2 := blk_cell hbB 2 (v := .bool k'2) rfl
      have a3 := blk_cell hbB 3 (v := .bool k'3) rfl
      have a4 := blk_cell hbB 4 (v := .bool k'4) rfl
      have a5 := blk_cell hbB 5 (v := .bool k'5) rfl
      have a6 := blk_cell hbB 6 (v := .int .i64 n'0) rfl
      have a7 := blk_cell hbB 7 (v := .int .i64 n'1) rfl
      have a8 := blk_cell hbB 8 (v := .int .i64 n'2) rfl
      have a9 := blk_cell hbB 9 (v := .int .i64 n'3) rfl
      have a10 := blk_cell hbB 10 (v := .int .i64 n'4) rfl
      have a11 := blk_cell hbB 11 (v := .int .i64 n'5) rfl
      have bR := blk_below HR.out hb3
      have HE3 := Hid.mk (HLE.out w3 hb3)
      have HLA3 := Hid.mk (At.below HLA.out hb3)
      have KL : Hid (∀ w', Below w3.heap.size w3 w' → Calls Try.prog 86 #[.agg #[.bool k'0, .bool k'1, .bool k'2, .bool k'3, .bool k'4, .bool k'5, .int .i64 n'0, .int .i64 n'1, .int .i64 n'2, .int .i64 n'3, .int .i64 n'4, .int .i64 n'5], .slice d.fa d.fn d.fc, .slice d.oa d.on d.oc] w' fun e w'' => e = .returned (.bool (mLead m2 d.ats d.os)) ∧ Below w'.heap.size w' w'') := fun w' h => by
        have hE := HE3.out.below h
        have h9 := mayLead_any m2 d.fa d.fn d.fc d.ats d.oa d.on d.oc d.os w' HML.out hE.fz hE.fb hE.fa hE.oz hE.ob hE.oa hE.fit
        rw [HW2.out] at h9
        exact h9
      have KN : Hid (∀ w' : World, Calls Try.prog 84 #[.agg #[.bool k'0, .bool k'1, .bool k'2, .bool k'3, .bool k'4, .bool k'5, .int .i64 n'0, .int .i64 n'1, .int .i64 n'2, .int .i64 n'3, .int .i64 n'4, .int .i64 n'5], .bool false] w' fun e w'' => e = .panicked [{ v := .iface 121 (.agg #[]), recovered := false }] ∧ Below w'.heap.size w' w'') := fun w' => by
        have h := orGiveUp_no m2 w' HML.out
        rw [HW2.out] at h
        exact h
      clear c0 c1 c2 c3 c4 c5 c6 c7 c8 c9 c10 c11 e2 e3 hb3 hbB KW HLE HLA HR
      have HBR := Hid.mk bR
      clear bR
      have zB : ¬ B = w.heap.size := by omega
      have hl0 : (1 : Int) ≤ (ln : Int) + 1 := by omega
      have hl1 : (1 : Int) ≤ ((ln + 1 : Nat) : Int) := by omega
      have hl2 : (1 : Int) ≤ ((lc + 1 : Nat) : Int) := by omega
      have hl3 : ((ln + 1 : Nat) : Int) ≤ ((lc + 1 : Nat) : Int) := by omega
      cases hmL : mLead m2 d.ats d.os with
      | false =>
        rw [hmL] at KL
        have HEN : Hid (Ends (tryF d.ats d.os d.tg m v vs t) (.panicked [{ v := .iface 121 (.agg #[]), recovered := false }])) := by
          show Ends _ _
          rw [HTR.out, hmL]
          rfl
        clear hmL
        by_cases hc0 : lc = 0
        · subst hc0
          obtain rfl : ln = 0 := by omega
          go_upto_region 2 with fail
          refine wp_region_held_drew (S := fun w' => Off (fun b => b = w.heap.size) w3 w') (by kernel_rfl) ?_ (fun hHeld => ?_)
          · exact (Off.refl _ _).drew
          refine tk 0 ?_ (hy := fun wS hSw => by (have f0 := Off.cell hSw f0 zl; go_simp; (try with_reducible rfl)))
          refine tk 1 ?_ (hy := fun wS hSw => by (have a0 := Off.cell hSw a0 zB; have a1 := Off.cell hSw a1 zB; have a2 := Off.cell hSw a2 zB; have a3 := Off.cell hSw a3 zB; have a4 := Off.cell hSw a4 zB; have a5 := Off.cell hSw a5 zB; have a6 := Off.cell hSw a6 zB; have a7 := Off.cell hSw a7 zB; have a8 := Off.cell hSw a8 zB; have a9 := Off.cell hSw a9 zB; have a10 := Off.cell hSw a10 zB; have a11 := Off.cell hSw a11 zB; go_simp; (try with_reducible rfl)))
          refine tk 2 ?_ (hy := fun wS hSw => by (have a0 := Off.cell hSw a0 zB; have a1 := Off.cell hSw a1 zB; have a2 := Off.cell hSw a2 zB; have a3 := Off.cell hSw a3 zB; have a4 := Off.cell hSw a4 zB; have a5 := Off.cell hSw a5 zB; have a6 := Off.cell hSw a6 zB; have a7 := Off.cell hSw a7 zB; have a8 := Off.cell hSw a8 zB; have a9 := Off.cell hSw a9 zB; have a10 := Off.cell hSw a10 zB; have a11 := Off.cell hSw a11 zB; go_simp; (try with_reducible rfl)))
          refine tk 3 ?_
          refine tk 4 ?_ (hy := fun wS hSw => by (have f1 := Off.cell hSw f1 zf; go_simp; (try with_reducible rfl)))
          refine tk 5 ?_
          refine tk 6 ?_ (hy := fun wS hSw => by (have f2 := Off.cell hSw f2 zo; go_simp; (try with_reducible rfl)))
          refine tk 9 ?_ (hy := fun wS hSw => by (have e1 := Off.cell hSw e1 zv; go_simp; (try with_reducible rfl)))
          refine tk 10 ?_
          obtain ⟨u0, hu0⟩ : ∃ u, u = w3.drew := ⟨_, rfl⟩
          have Y0 : Below w3.heap.size w3 u0 := by rw [hu0]; exact (Below.refl _ _).drew
          rw [← hu0]
          rw [← hu0] at hHeld
          clear hu0
          refine wpAnyH_ready (rs := [7]) (by kernel_rfl) (by simp) ?_
          refine AllReadyH.cons (o := ?_) ?_ (fun K hK => ?_) AllReadyH.nil
          rotate_left
          · (simp only [List.getElem?_toArray, List.getElem?_cons_zero, List.getElem?_cons_succ]; rfl)
          go_simp
          go_at_call 86
          refine (KL.out _ Y0).mono ?_
          rintro e v1 ⟨rfl, hb1⟩
          have Y1 := Y0.trans (hb1.mono Y0.size)
          clear hb1
          (try go_wp2_with fail)
          refine hK.out _ _ ?_ (fun hHeld' => ?_)
          · (try dsimp only)
            exact Off.below Y1
          clear hK K hHeld
          have hHeld := hHeld'
          clear hHeld'
          (try simp only [Act.put, List.setIfInBounds_toArray, List.set_cons_zero, List.set_cons_succ])
          refine wpAnyH_ready (rs := [8]) (by kernel_rfl) (by simp) ?_
          refine AllReadyH.cons (o := ?_) ?_ (fun K hK => ?_) AllReadyH.nil
          rotate_left
          · (simp only [List.getElem?_toArray, List.getElem?_cons_zero, List.getElem?_cons_succ]; rfl)
          go_simp
          go_at_call 84
          refine (KN.out _).mono ?_
          rintro e v2 ⟨rfl, hb2⟩
          exact ⟨rfl, HEN.out, B3.trans ((Y1.trans (hb2.mono Y1.size)).mono B3.size)⟩
        · have hc1 : ¬ (1 : Nat) = lc + 1 := by omega
          go_upto_region 2 with fail
          refine wp_region_held_drew (S := fun w' => Off (fun b => b = w.heap.size) w3 w') (by kernel_rfl) ?_ (fun hHeld => ?_)
          · exact (Off.refl _ _).drew
          refine tk 0 ?_ (hy := fun wS hSw => by (have f0 := Off.cell hSw f0 zl; go_simp; (try with_reducible rfl)))
          refine tk 1 ?_ (hy := fun wS hSw => by (have a0 := Off.cell hSw a0 zB; have a1 := Off.cell hSw a1 zB; have a2 := Off.cell hSw a2 zB; have a3 := Off.cell hSw a3 zB; have a4 := Off.cell hSw a4 zB; have a5 := Off.cell hSw a5 zB; have a6 := Off.cell hSw a6 zB; have a7 := Off.cell hSw a7 zB; have a8 := Off.cell hSw a8 zB; have a9 := Off.cell hSw a9 zB; have a10 := Off.cell hSw a10 zB; have a11 := Off.cell hSw a11 zB; go_simp; (try with_reducible rfl)))
          refine tk 2 ?_ (hy := fun wS hSw => by (have a0 := Off.cell hSw a0 zB; have a1 := Off.cell hSw a1 zB; have a2 := Off.cell hSw a2 zB; have a3 := Off.cell hSw a3 zB; have a4 := Off.cell hSw a4 zB; have a5 := Off.cell hSw a5 zB; have a6 := Off.cell hSw a6 zB; have a7 := Off.cell hSw a7 zB; have a8 := Off.cell hSw a8 zB; have a9 := Off.cell hSw a9 zB; have a10 := Off.cell hSw a10 zB; have a11 := Off.cell hSw a11 zB; go_simp; (try with_reducible rfl)))
          refine tk 3 ?_
          refine tk 4 ?_ (hy := fun wS hSw => by (have f1 := Off.cell hSw f1 zf; go_simp; (try with_reducible rfl)))
          refine tk 5 ?_
          refine tk 6 ?_ (hy := fun wS hSw => by (have f2 := Off.cell hSw f2 zo; go_simp; (try with_reducible rfl)))
          refine tk 9 ?_ (hy := fun wS hSw => by (have e1 := Off.cell hSw e1 zv; go_simp; (try with_reducible rfl)))
          refine tk 10 ?_
          obtain ⟨u0, hu0⟩ : ∃ u, u = w3.drew := ⟨_, rfl⟩
          have Y0 : Below w3.heap.size w3 u0 := by rw [hu0]; exact (Below.refl _ _).drew
          rw [← hu0]
          rw [← hu0] at hHeld
          clear hu0
          refine wpAnyH_ready (rs := [7]) (by kernel_rfl) (by simp) ?_
          refine AllReadyH.cons (o := ?_) ?_ (fun K hK => ?_) AllReadyH.nil
          rotate_left
          · (simp only [List.getElem?_toArray, List.getElem?_cons_zero, List.getElem?_cons_succ]; rfl)
          go_simp
          go_at_call 86
          refine (KL.out _ Y0).mono ?_
          rintro e v1 ⟨rfl, hb1⟩
          have Y1 := Y0.trans (hb1.mono Y0.size)
          clear hb1
          (try go_wp2_with fail)
          refine hK.out _ _ ?_ (fun hHeld' => ?_)
          · (try dsimp only)
            exact Off.below Y1
          clear hK K hHeld
          have hHeld := hHeld'
          clear hHeld'
          (try simp only [Act.put, List.setIfInBounds_toArray, List.set_cons_zero, List.set_cons_succ])
          refine wpAnyH_ready (rs := [8]) (by kernel_rfl) (by simp) ?_
          refine AllReadyH.cons (o := ?_) ?_ (fun K hK => ?_) AllReadyH.nil
          rotate_left
          · (simp only [List.getElem?_toArray, List.getElem?_cons_zero, List.getElem?_cons_succ]; rfl)
          go_simp
          go_at_call 84
          refine (KN.out _).mono ?_
          rintro e v2 ⟨rfl, hb2⟩
          exact ⟨rfl, HEN.out, B3.trans ((Y1.trans (hb2.mono Y1.size)).mono B3.size)⟩
      | true =>
        rw [hmL] at KL
        have hTR : tryF d.ats d.os d.tg m v vs t = leadF d.ats d.os d.tg m2 vs := by rw [HTR.out, hmL]; rfl
        cases hlf : leadF d.ats d.os d.tg m2 vs with
        | none =>
          have HEN : Hid (Ends (tryF d.ats d.os d.tg m v vs t) (.panicked [{ v := .iface 121 (.agg #[]), recovered := false }])) := by
            show Ends _ _
            rw [hTR, hlf]
            rfl
          clear hTR hmL
          by_cases hc0 : lc = 0
          · subst hc0
            obtain rfl : ln = 0 := by omega
            have HLV : Hid (At w3 (some ⟨lb, loff, none⟩) vs) := .inl (List.eq_nil_of_length_eq_zero hlz)
            have KI : Hid (∀ w', Below w3.heap.size w3 w' → Calls Try.prog 81 #[.agg #[.bool k'0, .bool k'1, .bool k'2, .bool k'3, .bool k'4, .bool k'5, .int .i64 n'0, .int .i64 n'1, .int .i64 n'2, .int .i64 n'3, .int .i64 n'4, .int .i64 n'5], .slice (some ⟨lb, loff, none⟩) 0 0, .pointer (some ⟨d.bt, 0, none⟩), .pointer (some ⟨d.bl, 0, none⟩), .pointer (some ⟨d.bf, 0, none⟩), .pointer (some ⟨d.bo, 0, none⟩)] w' fun e w'' => Ends (none) e ∧ Below w'.heap.size w' w'') := fun w' h => by
              have h9 := HIH.out m2 (some ⟨lb, loff, none⟩) 0 0 w' HML.out (HE3.out.below h) hlz (by omega) (by omega) (fun h => by cases h) (At.below HLV.out h)
              rw [HW2.out, hlf] at h9
              exact h9
            go_upto_region 2 with fail
            refine wp_region_held_drew (S := fun w' => Off (fun b => b = w.heap.size) w3 w') (by kernel_rfl) ?_ (fun hHeld => ?_)
            · exact (Off.refl _ _).drew
            refine tk 0 ?_ (hy := fun wS hSw => by (have f0 := Off.cell hSw f0 zl; go_simp; (try with_reducible rfl)))
            refine tk 1 ?_ (hy := fun wS hSw => by (have a0 := Off.cell hSw a0 zB; have a1 := Off.cell hSw a1 zB; have a2 := Off.cell hSw a2 zB; have a3 := Off.cell hSw a3 zB; have a4 := Off.cell hSw a4 zB; have a5 := Off.cell hSw a5 zB; have a6 := Off.cell hSw a6 zB; have a7 := Off.cell hSw a7 zB; have a8 := Off.cell hSw a8 zB; have a9 := Off.cell hSw a9 zB; have a10 := Off.cell hSw a10 zB; have a11 := Off.cell hSw a11 zB; go_simp; (try with_reducible rfl)))
            refine tk 2 ?_ (hy := fun wS hSw => by (have a0 := Off.cell hSw a0 zB; have a1 := Off.cell hSw a1 zB; have a2 := Off.cell hSw a2 zB; have a3 := Off.cell hSw a3 zB; have a4 := Off.cell hSw a4 zB; have a5 := Off.cell hSw a5 zB; have a6 := Off.cell hSw a6 zB; have a7 := Off.cell hSw a7 zB; have a8 := Off.cell hSw a8 zB; have a9 := Off.cell hSw a9 zB; have a10 := Off.cell hSw a10 zB; have a11 := Off.cell hSw a11 zB; go_simp; (try with_reducible rfl)))
            refine tk 3 ?_
            refine tk 4 ?_ (hy := fun wS hSw => by (have f1 := Off.cell hSw f1 zf; go_simp; (try with_reducible rfl)))
            refine tk 5 ?_
            refine tk 6 ?_ (hy := fun wS hSw => by (have f2 := Off.cell hSw f2 zo; go_simp; (try with_reducible rfl)))
            refine tk 9 ?_ (hy := fun wS hSw => by (have e1 := Off.cell hSw e1 zv; go_simp; (try with_reducible rfl)))
            refine tk 10 ?_
            obtain ⟨u0, hu0⟩ : ∃ u, u = w3.drew := ⟨_, rfl⟩
            have Y0 : Below w3.heap.size w3 u0 := by rw [hu0]; exact (Below.refl _ _).drew
            rw [← hu0]
            rw [← hu0] at hHeld
            clear hu0
            refine wpAnyH_ready (rs := [7]) (by kernel_rfl) (by simp) ?_
            refine AllReadyH.cons (o := ?_) ?_ (fun K hK => ?_) AllReadyH.nil
            rotate_left
            · (simp only [List.getElem?_toArray, List.getElem?_cons_zero, List.getElem?_cons_succ]; rfl)
            go_simp
            go_at_call 86
            refine (KL.out _ Y0).mono ?_
            rintro e v1 ⟨rfl, hb1⟩
            have Y1 := Y0.trans (hb1.mono Y0.size)
            clear hb1
            (try go_wp2_with fail)
            refine hK.out _ _ ?_ (fun hHeld' => ?_)
            · (try dsimp only)
              exact Off.below Y1
            clear hK K hHeld
            have hHeld := hHeld'
            clear hHeld'
            (try simp only [Act.put, List.setIfInBounds_toArray, List.set_cons_zero, List.set_cons_succ])
            refine wpAnyH_ready (rs := [8]) (by kernel_rfl) (by simp) ?_
            refine AllReadyH.cons (o := ?_) ?_ (fun K hK => ?_) AllReadyH.nil
            rotate_left
            · (simp only [List.getElem?_toArray, List.getElem?_cons_zero, List.getElem?_cons_succ]; rfl)
            go_simp
            go_at_call 84
            refine (KY.out _).mono ?_
            rintro e v2 ⟨rfl, hb2⟩
            have Y2 := Y1.trans (hb2.mono Y1.size)
            clear hb2
            (try go_wp2_with fail)
            refine hK.out _ _ ?_ (fun hHeld' => ?_)
            · (try dsimp only)
              exact Off.below Y2
            clear hK K hHeld
            have hHeld := hHeld'
            clear hHeld'
            (try simp only [Act.put, List.setIfInBounds_toArray, List.set_cons_zero, List.set_cons_succ])
            refine wpAnyH_ready (rs := [11]) (by kernel_rfl) (by simp) ?_
            refine AllReadyH.cons (o := ?_) ?_ (fun K hK => ?_) AllReadyH.nil
            rotate_left
            · (simp only [List.getElem?_toArray, List.getElem?_cons_zero, List.getElem?_cons_succ]; rfl)
            go_simp
            go_at_call 81
            refine (KI.out _ Y2).mono ?_
            rintro e v3 ⟨he, hb3⟩
            have he2 : e = .panicked [{ v := .iface 121 (.agg #[]), recovered := false }] := he
            subst he2
            exact ⟨rfl, HEN.out, B3.trans ((Y2.trans (hb3.mono Y2.size)).mono B3.size)⟩
          · have hc1 : ¬ (1 : Nat) = lc + 1 := by omega
            have HLV : Hid (At w3 (some ⟨lb, loff + 1, none⟩) vs) := at_drop 1 HLA3.out
            have KI : Hid (∀ w', Below w3.heap.size w3 w' → Calls Try.prog 81 #[.agg #[.bool k'0, .bool k'1, .bool k'2, .bool k'3, .bool k'4, .bool k'5, .int .i64 n'0, .int .i64 n'1, .int .i64 n'2, .int .i64 n'3, .int .i64 n'4, .int .i64 n'5], .slice (some ⟨lb, loff + 1, none⟩) ln lc, .pointer (some ⟨d.bt, 0, none⟩), .pointer (some ⟨d.bl, 0, none⟩), .pointer (some ⟨d.bf, 0, none⟩), .pointer (some ⟨d.bo, 0, none⟩)] w' fun e w'' => Ends (none) e ∧ Below w'.heap.size w' w'') := fun w' h => by
              have h9 := HIH.out m2 (some ⟨lb, loff + 1, none⟩) ln lc w' HML.out (HE3.out.below h) hlz (by omega) (by omega) (fun h => by cases h) (At.below HLV.out h)
              rw [HW2.out, hlf] at h9
              exact h9
            go_upto_region 2 with fail
            refine wp_region_held_drew (S := fun w' => Off (fun b => b = w.heap.size) w3 w') (by kernel_rfl) ?_ (fun hHeld => ?_)
            · exact (Off.refl _ _).drew
            refine tk 0 ?_ (hy := fun wS hSw => by (have f0 := Off.cell hSw f0 zl; go_simp; (try with_reducible rfl)))
            refine tk 1 ?_ (hy := fun wS hSw => by (have a0 := Off.cell hSw a0 zB; have a1 := Off.cell hSw a1 zB; have a2 := Off.cell hSw a2 zB; have a3 := Off.cell hSw a3 zB; have a4 := Off.cell hSw a4 zB; have a5 := Off.cell hSw a5 zB; have a6 := Off.cell hSw a6 zB; have a7 := Off.cell hSw a7 zB; have a8 := Off.cell hSw a8 zB; have a9 := Off.cell hSw a9 zB; have a10 := Off.cell hSw a10 zB; have a11 := Off.cell hSw a11 zB; go_simp; (try with_reducible rfl)))
            refine tk 2 ?_ (hy := fun wS hSw => by (have a0 := Off.cell hSw a0 zB; have a1 := Off.cell hSw a1 zB; have a2 := Off.cell hSw a2 zB; have a3 := Off.cell hSw a3 zB; have a4 := Off.cell hSw a4 zB; have a5 := Off.cell hSw a5 zB; have a6 := Off.cell hSw a6 zB; have a7 := Off.cell hSw a7 zB; have a8 := Off.cell hSw a8 zB; have a9 := Off.cell hSw a9 zB; have a10 := Off.cell hSw a10 zB; have a11 := Off.cell hSw a11 zB; go_simp; (try with_reducible rfl)))
            refine tk 3 ?_
            refine tk 4 ?_ (hy := fun wS hSw => by (have f1 := Off.cell hSw f1 zf; go_simp; (try with_reducible rfl)))
            refine tk 5 ?_
            refine tk 6 ?_ (hy := fun wS hSw => by (have f2 := Off.cell hSw f2 zo; go_simp; (try with_reducible rfl)))
            refine tk 9 ?_ (hy := fun wS hSw => by (have e1 := Off.cell hSw e1 zv; go_simp; (try with_reducible rfl)))
            refine tk 10 ?_
            obtain ⟨u0, hu0⟩ : ∃ u, u = w3.drew := ⟨_, rfl⟩
            have Y0 : Below w3.heap.size w3 u0 := by rw [hu0]; exact (Below.refl _ _).drew
            rw [← hu0]
            rw [← hu0] at hHeld
            clear hu0
            refine wpAnyH_ready (rs := [7]) (by kernel_rfl) (by simp) ?_
            refine AllReadyH.cons (o := ?_) ?_ (fun K hK => ?_) AllReadyH.nil
            rotate_left
            · (simp only [List.getElem?_toArray, List.getElem?_cons_zero, List.getElem?_cons_succ]; rfl)
            go_simp
            go_at_call 86
            refine (KL.out _ Y0).mono ?_
            rintro e v1 ⟨rfl, hb1⟩
            have Y1 := Y0.trans (hb1.mono Y0.size)
            clear hb1
            (try go_wp2_with fail)
            refine hK.out _ _ ?_ (fun hHeld' => ?_)
            · (try dsimp only)
              exact Off.below Y1
            clear hK K hHeld
            have hHeld := hHeld'
            clear hHeld'
            (try simp only [Act.put, List.setIfInBounds_toArray, List.set_cons_zero, List.set_cons_succ])
            refine wpAnyH_ready (rs := [8]) (by kernel_rfl) (by simp) ?_
            refine AllReadyH.cons (o := ?_) ?_ (fun K hK => ?_) AllReadyH.nil
            rotate_left
            · (simp only [List.getElem?_toArray, List.getElem?_cons_zero, List.getElem?_cons_succ]; rfl)
            go_simp
            go_at_call 84
            refine (KY.out _).mono ?_
            rintro e v2 ⟨rfl, hb2⟩
            have Y2 := Y1.trans (hb2.mono Y1.size)
            clear hb2
            (try go_wp2_with fail)
            refine hK.out _ _ ?_ (fun hHeld' => ?_)
            · (try dsimp only)
              exact Off.below Y2
            clear hK K hHeld
            have hHeld := hHeld'
            clear hHeld'
            (try simp only [Act.put, List.setIfInBounds_toArray, List.set_cons_zero, List.set_cons_succ])
            refine wpAnyH_ready (rs := [11]) (by kernel_rfl) (by simp) ?_
            refine AllReadyH.cons (o := ?_) ?_ (fun K hK => ?_) AllReadyH.nil
            rotate_left
            · (simp only [List.getElem?_toArray, List.getElem?_cons_zero, List.getElem?_cons_succ]; rfl)
            go_simp
            go_at_call 81
            refine (KI.out _ Y2).mono ?_
            rintro e v3 ⟨he, hb3⟩
            have he2 : e = .panicked [{ v := .iface 121 (.agg #[]), recovered := false }] := he
            subst he2
            exact ⟨rfl, HEN.out, B3.trans ((Y2.trans (hb3.mono Y2.size)).mono B3.size)⟩
        | some m3 =>
          obtain ⟨kx0, kx1, kx2, kx3, kx4, kx5, nx0, nx1, nx2, nx3, nx4, nx5, hw3⟩ := wcells_open (leadF_len d.ats d.os d.tg vs m2 m3 HML.out hlf)
          have HW3 : Hid ((wcells m3).toArray = #[.bool kx0, .bool kx1, .bool kx2, .bool kx3, .bool kx4, .bool kx5, .int .i64 nx0, .int .i64 nx1, .int .i64 nx2, .int .i64 nx3, .int .i64 nx4, .int .i64 nx5]) := by show _ = _; rw [hw3]
          have HES : Hid (Ends (tryF d.ats d.os d.tg m v vs t) (.returned (.agg #[.bool kx0, .bool kx1, .bool kx2, .bool kx3, .bool kx4, .bool kx5, .int .i64 nx0, .int .i64 nx1, .int .i64 nx2, .int .i64 nx3, .int .i64 nx4, .int .i64 nx5]))) := by
            show Ends _ _
            rw [hTR, hlf]
            show _ = Ending.returned (.agg (wcells m3).toArray)
            rw [HW3.out]
          clear hTR hmL hw3
          by_cases hc0 : lc = 0
          · subst hc0
            obtain rfl : ln = 0 := by omega
            have HLV : Hid (At w3 (some ⟨lb, loff, none⟩) vs) := .inl (List.eq_nil_of_length_eq_zero hlz)
            have KI : Hid (∀ w', Below w3.heap.size w3 w' → Calls Try.prog 81 #[.agg #[.bool k'0, .bool k'1, .bool k'2, .bool k'3, .bool k'4, .bool k'5, .int .i64 n'0, .int .i64 n'1, .int .i64 n'2, .int .i64 n'3, .int .i64 n'4, .int .i64 n'5], .slice (some ⟨lb, loff, none⟩) 0 0, .pointer (some ⟨d.bt, 0, none⟩), .pointer (some ⟨d.bl, 0, none⟩), .pointer (some ⟨d.bf, 0, none⟩), .pointer (some ⟨d.bo, 0, none⟩)] w' fun e w'' => Ends (some m3) e ∧ Below w'.heap.size w' w'') := fun w' h => by
              have h9 := HIH.out m2 (some ⟨lb, loff, none⟩) 0 0 w' HML.out (HE3.out.below h) hlz (by omega) (by omega) (fun h => by cases h) (At.below HLV.out h)
              rw [HW2.out, hlf] at h9
              exact h9
            go_upto_region 2 with fail
            refine wp_region_held_drew (S := fun w' => Off (fun b => b = w.heap.size) w3 w') (by kernel_rfl) ?_ (fun hHeld => ?_)
            · exact (Off.refl _ _).drew
            refine tk 0 ?_ (hy := fun wS hSw => by (have f0 := Off.cell hSw f0 zl; go_simp; (try with_reducible rfl)))
            refine tk 1 ?_ (hy := fun wS hSw => by (have a0 := Off.cell hSw a0 zB; have a1 := Off.cell hSw a1 zB; have a2 := Off.cell hSw a2 zB; have a3 := Off.cell hSw a3 zB; have a4 := Off.cell hSw a4 zB; have a5 := Off.cell hSw a5 zB; have a6 := Off.cell hSw a6 zB; have a7 := Off.cell hSw a7 zB; have a8 := Off.cell hSw a8 zB; have a9 := Off.cell hSw a9 zB; have a10 := Off.cell hSw a10 zB; have a11 := Off.cell hSw a11 zB; go_simp; (try with_reducible rfl)))
            refine tk 2 ?_ (hy := fun wS hSw => by (have a0 := Off.cell hSw a0 zB; have a1 := Off.cell hSw a1 zB; have a2 := Off.cell hSw a2 zB; have a3 := Off.cell hSw a3 zB; have a4 := Off.cell hSw a4 zB; have a5 := Off.cell hSw a5 zB; have a6 := Off.cell hSw a6 zB; have a7 := Off.cell hSw a7 zB; have a8 := Off.cell hSw a8 zB; have a9 := Off.cell hSw a9 zB; have a10 := Off.cell hSw a10 zB; have a11 := Off.cell hSw a11 zB; go_simp; (try with_reducible rfl)))
            refine tk 3 ?_
            refine tk 4 ?_ (hy := fun wS hSw => by (have f1 := Off.cell hSw f1 zf; go_simp; (try with_reducible rfl)))
            refine tk 5 ?_
            refine tk 6 ?_ (hy := fun wS hSw => by (have f2 := Off.cell hSw f2 zo; go_simp; (try with_reducible rfl)))
            refine tk 9 ?_ (hy := fun wS hSw => by (have e1 := Off.cell hSw e1 zv; go_simp; (try with_reducible rfl)))
            refine tk 10 ?_
            obtain ⟨u0, hu0⟩ : ∃ u, u = w3.drew := ⟨_, rfl⟩
            have Y0 : Below w3.heap.size w3 u0 := by rw [hu0]; exact (Below.refl _ _).drew
            rw [← hu0]
            rw [← hu0] at hHeld
            clear hu0
            refine wpAnyH_ready (rs := [7]) (by kernel_rfl) (by simp) ?_
            refine AllReadyH.cons (o := ?_) ?_ (fun K hK => ?_) AllReadyH.nil
            rotate_left
            · (simp only [List.getElem?_toArray, List.getElem?_cons_zero, List.getElem?_cons_succ]; rfl)
            go_simp
            go_at_call 86
            refine (KL.out _ Y0).mono ?_
            rintro e v1 ⟨rfl, hb1⟩
            have Y1 := Y0.trans (hb1.mono Y0.size)
            clear hb1
            (try go_wp2_with fail)
            refine hK.out _ _ ?_ (fun hHeld' => ?_)
            · (try dsimp only)
              exact Off.below Y1
            clear hK K hHeld
            have hHeld := hHeld'
            clear hHeld'
            (try simp only [Act.put, List.setIfInBounds_toArray, List.set_cons_zero, List.set_cons_succ])
            refine wpAnyH_ready (rs := [8]) (by kernel_rfl) (by simp) ?_
            refine AllReadyH.cons (o := ?_) ?_ (fun K hK => ?_) AllReadyH.nil
            rotate_left
            · (simp only [List.getElem?_toArray, List.getElem?_cons_zero, List.getElem?_cons_succ]; rfl)
            go_simp
            go_at_call 84
            refine (KY.out _).mono ?_
            rintro e v2 ⟨rfl, hb2⟩
            have Y2 := Y1.trans (hb2.mono Y1.size)
            clear hb2
            (try go_wp2_with fail)
            refine hK.out _ _ ?_ (fun hHeld' => ?_)
            · (try dsimp only)
              exact Off.below Y2
            clear hK K hHeld
            have hHeld := hHeld'
            clear hHeld'
            (try simp only [Act.put, List.setIfInBounds_toArray, List.set_cons_zero, List.set_cons_succ])
            refine wpAnyH_ready (rs := [11]) (by kernel_rfl) (by simp) ?_
            refine AllReadyH.cons (o := ?_) ?_ (fun K hK => ?_) AllReadyH.nil
            rotate_left
            · (simp only [List.getElem?_toArray, List.getElem?_cons_zero, List.getElem?_cons_succ]; rfl)
            go_simp
            go_at_call 81
            refine (KI.out _ Y2).mono ?_
            rintro e v3 ⟨he, hb3⟩
            have he2 : e = .returned (.agg #[.bool kx0, .bool kx1, .bool kx2, .bool kx3, .bool kx4, .bool kx5, .int .i64 nx0, .int .i64 nx1, .int .i64 nx2, .int .i64 nx3, .int .i64 nx4, .int .i64 nx5]) := by
              have h : e = .returned (.agg (wcells m3).toArray) := he
              rw [HW3.out] at h
              exact h
            subst he2
            have Y3 := Y2.trans (hb3.mono Y2.size)
            clear hb3 he
            (try go_wp2_with fail)
            refine hK.out _ _ ?_ (fun hHeld' => ?_)
            · (try dsimp only)
              exact Off.below Y3
            clear hK K hHeld
            have hHeld := hHeld'
            clear hHeld'
            (try simp only [Act.put, List.setIfInBounds_toArray, List.set_cons_zero, List.set_cons_succ])
            have p3 := blk_below HBR.out Y3
            have g0 := blk_cell p3 0 (v := .bool false) rfl
            have g1 := blk_cell p3 1 (v := .bool false) rfl
            have g2 := blk_cell p3 2 (v := .bool false) rfl
            have g3 := blk_cell p3 3 (v := .bool false) rfl
            have g4 := blk_cell p3 4 (v := .bool false) rfl
            have g5 := blk_cell p3 5 (v := .bool false) rfl
            have g6 := blk_cell p3 6 (v := .int .i64 0) rfl
            have g7 := blk_cell p3 7 (v := .int .i64 0) rfl
            have g8 := blk_cell p3 8 (v := .int .i64 0) rfl
            have g9 := blk_cell p3 9 (v := .int .i64 0) rfl
            have g10 := blk_cell p3 10 (v := .int .i64 0) rfl
            have g11 := blk_cell p3 11 (v := .int .i64 0) rfl
            have gz0 := blk_frozen p3 0
            have gz1 := blk_frozen p3 1
            have gz2 := blk_frozen p3 2
            have gz3 := blk_frozen p3 3
            have gz4 := blk_frozen p3 4
            have gz5 := blk_frozen p3 5
            have gz6 := blk_frozen p3 6
            have gz7 := blk_frozen p3 7
            have gz8 := blk_frozen p3 8
            have gz9 := blk_frozen p3 9
            have gz10 := blk_frozen p3 10
            have gz11 := blk_frozen p3 11
            refine wpAnyH_ready (rs := [12]) (by kernel_rfl) (by simp) ?_
            refine AllReadyH.cons (o := ?_) ?_ (fun K hK => ?_) AllReadyH.nil
            rotate_left
            · (simp only [List.getElem?_toArray, List.getElem?_cons_zero, List.getElem?_cons_succ]; rfl)
            go_simp
            skip
            (try go_wp2_with fail)
            refine hK.out _ _ ?_ (fun hHeld' => ?_)
            · (try dsimp only)
              exact (Off.below Y3).trans (stores_off (F := fun b => b = w.heap.size) _ _ _ [.bool kx0, .bool kx1, .bool kx2, .bool kx3, .bool kx4, .bool kx5, .int .i64 nx0, .int .i64 nx1, .int .i64 nx2, .int .i64 nx3, .int .i64 nx4, .int .i64 nx5] rfl)
            clear hK K hHeld
            have hHeld := hHeld'
            clear hHeld'
            (try simp only [Act.put, List.setIfInBounds_toArray, List.set_cons_zero, List.set_cons_succ])
            refine wpAnyH_done (by kernel_rfl) ?_ _
            have p4 := blk_stores12 p3 (.bool kx0) (.bool kx1) (.bool kx2) (.bool kx3) (.bool kx4) (.bool kx5) (.int .i64 nx0) (.int .i64 nx1) (.int .i64 nx2) (.int .i64 nx3) (.int .i64 nx4) (.int .i64 nx5)
            have q0 := blk_cell p4 0 (v := .bool kx0) rfl
            have q1 := blk_cell p4 1 (v := .bool kx1) rfl
            have q2 := blk_cell p4 2 (v := .bool kx2) rfl
            have q3 := blk_cell p4 3 (v := .bool kx3) rfl
            have q4 := blk_cell p4 4 (v := .bool kx4) rfl
            have q5 := blk_cell p4 5 (v := .bool kx5) rfl
            have q6 := blk_cell p4 6 (v := .int .i64 nx0) rfl
            have q7 := blk_cell p4 7 (v := .int .i64 nx1) rfl
            have q8 := blk_cell p4 8 (v := .int .i64 nx2) rfl
            have q9 := blk_cell p4 9 (v := .int .i64 nx3) rfl
            have q10 := blk_cell p4 10 (v := .int .i64 nx4) rfl
            have q11 := blk_cell p4 11 (v := .int .i64 nx5) rfl
            (try go_wp2_with fail)
            refine bodyPost_ret (v := .agg #[.bool kx0, .bool kx1, .bool kx2, .bool kx3, .bool kx4, .bool kx5, .int .i64 nx0, .int .i64 nx1, .int .i64 nx2, .int .i64 nx3, .int .i64 nx4, .int .i64 nx5]) (by simp [results, Try.results83, go_sem, g0, g1, g2, g3, g4, g5, g6, g7, g8, g9, g10, g11]) rfl ⟨?_, ?_⟩
            · exact HES.out
            · exact stores_below _ _ _ [.bool kx0, .bool kx1, .bool kx2, .bool kx3, .bool kx4, .bool kx5, .int .i64 nx0, .int .i64 nx1, .int .i64 nx2, .int .i64 nx3, .int .i64 nx4, .int .i64 nx5] (B3.trans (Y3.mono B3.size)) (Nat.le_refl _)
          · have hc1 : ¬ (1 : Nat) = lc + 1 := by omega
            have HLV : Hid (At w3 (some ⟨lb, loff + 1, none⟩) vs) := at_drop 1 HLA3.out
            have KI : Hid (∀ w', Below w3.heap.size w3 w' → Calls Try.prog 81 #[.agg #[.bool k'0, .bool k'1, .bool k'2, .bool k'3, .bool k'4, .bool k'5, .int .i64 n'0, .int .i64 n'1, .int .i64 n'2, .int .i64 n'3, .int .i64 n'4, .int .i64 n'5], .slice (some ⟨lb, loff + 1, none⟩) ln lc, .pointer (some ⟨d.bt, 0, none⟩), .pointer (some ⟨d.bl, 0, none⟩), .pointer (some ⟨d.bf, 0, none⟩), .pointer (some ⟨d.bo, 0, none⟩)] w' fun e w'' => Ends (some m3) e ∧ Below w'.heap.size w' w'') := fun w' h => by
              have h9 := HIH.out m2 (some ⟨lb, loff + 1, none⟩) ln lc w' HML.out (HE3.out.below h) hlz (by omega) (by omega) (fun h => by cases h) (At.below HLV.out h)
              rw [HW2.out, hlf] at h9
              exact h9
            go_upto_region 2 with fail
            refine wp_region_held_drew (S := fun w' => Off (fun b => b = w.heap.size) w3 w') (by kernel_rfl) ?_ (fun hHeld => ?_)
            · exact (Off.refl _ _).drew
            refine tk 0 ?_ (hy := fun wS hSw => by (have f0 := Off.cell hSw f0 zl; go_simp; (try with_reducible rfl)))
            refine tk 1 ?_ (hy := fun wS hSw => by (have a0 := Off.cell hSw a0 zB; have a1 := Off.cell hSw a1 zB; have a2 := Off.cell hSw a2 zB; have a3 := Off.cell hSw a3 zB; have a4 := Off.cell hSw a4 zB; have a5 := Off.cell hSw a5 zB; have a6 := Off.cell hSw a6 zB; have a7 := Off.cell hSw a7 zB; have a8 := Off.cell hSw a8 zB; have a9 := Off.cell hSw a9 zB; have a10 := Off.cell hSw a10 zB; have a11 := Off.cell hSw a11 zB; go_simp; (try with_reducible rfl)))
            refine tk 2 ?_ (hy := fun wS hSw => by (have a0 := Off.cell hSw a0 zB; have a1 := Off.cell hSw a1 zB; have a2 := Off.cell hSw a2 zB; have a3 := Off.cell hSw a3 zB; have a4 := Off.cell hSw a4 zB; have a5 := Off.cell hSw a5 zB; have a6 := Off.cell hSw a6 zB; have a7 := Off.cell hSw a7 zB; have a8 := Off.cell hSw a8 zB; have a9 := Off.cell hSw a9 zB; have a10 := Off.cell hSw a10 zB; have a11 := Off.cell hSw a11 zB; go_simp; (try with_reducible rfl)))
            refine tk 3 ?_
            refine tk 4 ?_ (hy := fun wS hSw => by (have f1 := Off.cell hSw f1 zf; go_simp; (try with_reducible rfl)))
            refine tk 5 ?_
            refine tk 6 ?_ (hy := fun wS hSw => by (have f2 := Off.cell hSw f2 zo; go_simp; (try with_reducible rfl)))
            refine tk 9 ?_ (hy := fun wS hSw => by (have e1 := Off.cell hSw e1 zv; go_simp; (try with_reducible rfl)))
            refine tk 10 ?_
            obtain ⟨u0, hu0⟩ : ∃ u, u = w3.drew := ⟨_, rfl⟩
            have Y0 : Below w3.heap.size w3 u0 := by rw [hu0]; exact (Below.refl _ _).drew
            rw [← hu0]
            rw [← hu0] at hHeld
            clear hu0
            refine wpAnyH_ready (rs := [7]) (by kernel_rfl) (by simp) ?_
            refine AllReadyH.cons (o := ?_) ?_ (fun K hK => ?_) AllReadyH.nil
            rotate_left
            · (simp only [List.getElem?_toArray, List.getElem?_cons_zero, List.getElem?_cons_succ]; rfl)
            go_simp
            go_at_call 86
            refine (KL.out _ Y0).mono ?_
            rintro e v1 ⟨rfl, hb1⟩
            have Y1 := Y0.trans (hb1.mono Y0.size)
            clear hb1
            (try go_wp2_with fail)
            refine hK.out _ _ ?_ (fun hHeld' => ?_)
            · (try dsimp only)
              exact Off.below Y1
            clear hK K hHeld
            have hHeld := hHeld'
            clear hHeld'
            (try simp only [Act.put, List.setIfInBounds_toArray, List.set_cons_zero, List.set_cons_succ])
            refine wpAnyH_ready (rs := [8]) (by kernel_rfl) (by simp) ?_
            refine AllReadyH.cons (o := ?_) ?_ (fun K hK => ?_) AllReadyH.nil
            rotate_left
            · (simp only [List.getElem?_toArray, List.getElem?_cons_zero, List.getElem?_cons_succ]; rfl)
            go_simp
            go_at_call 84
            refine (KY.out _).mono ?_
            rintro e v2 ⟨rfl, hb2⟩
            have Y2 := Y1.trans (hb2.mono Y1.size)
            clear hb2
            (try go_wp2_with fail)
            refine hK.out _ _ ?_ (fun hHeld' => ?_)
            · (try dsimp only)
              exact Off.below Y2
            clear hK K hHeld
            have hHeld := hHeld'
            clear hHeld'
            (try simp only [Act.put, List.setIfInBounds_toArray, List.set_cons_zero, List.set_cons_succ])
            refine wpAnyH_ready (rs := [11]) (by kernel_rfl) (by simp) ?_
            refine AllReadyH.cons (o := ?_) ?_ (fun K hK => ?_) AllReadyH.nil
            rotate_left
            · (simp only [List.getElem?_toArray, List.getElem?_cons_zero, List.getElem?_cons_succ]; rfl)
            go_simp
            go_at_call 81
            refine (KI.out _ Y2).mono ?_
            rintro e v3 ⟨he, hb3⟩
            have he2 : e = .returned (.agg #[.bool kx0, .bool kx1, .bool kx2, .bool kx3, .bool kx4, .bool kx5, .int .i64 nx0, .int .i64 nx1, .int .i64 nx2, .int .i64 nx3, .int .i64 nx4, .int .i64 nx5]) := by
              have h : e = .returned (.agg (wcells m3).toArray) := he
              rw [HW3.out] at h
              exact h
            subst he2
            have Y3 := Y2.trans (hb3.mono Y2.size)
            clear hb3 he
            (try go_wp2_with fail)
            refine hK.out _ _ ?_ (fun hHeld' => ?_)
            · (try dsimp only)
              exact Off.below Y3
            clear hK K hHeld
            have hHeld := hHeld'
            clear hHeld'
            (try simp only [Act.put, List.setIfInBounds_toArray, List.set_cons_zero, List.set_cons_succ])
            have p3 := blk_below HBR.out Y3
            have g0 := blk_cell p3 0 (v := .bool false) rfl
            have g1 := blk_cell p3 1 (v := .bool false) rfl
            have g2 := blk_cell p3 2 (v := .bool false) rfl
            have g3 := blk_cell p3 3 (v := .bool false) rfl
            have g4 := blk_cell p3 4 (v := .bool false) rfl
            have g5 := blk_cell p3 5 (v := .bool false) rfl
            have g6 := blk_cell p3 6 (v := .int .i64 0) rfl
            have g7 := blk_cell p3 7 (v := .int .i64 0) rfl
            have g8 := blk_cell p3 8 (v := .int .i64 0) rfl
            have g9 := blk_cell p3 9 (v := .int .i64 0) rfl
            have g10 := blk_cell p3 10 (v := .int .i64 0) rfl
            have g11 := blk_cell p3 11 (v := .int .i64 0) rfl
            have gz0 := blk_frozen p3 0
            have gz1 := blk_frozen p3 1
            have gz2 := blk_frozen p3 2
            have gz3 := blk_frozen p3 3
            have gz4 := blk_frozen p3 4
            have gz5 := blk_frozen p3 5
            have gz6 := blk_frozen p3 6
            have gz7 := blk_frozen p3 7
            have gz8 := blk_frozen p3 8
            have gz9 := blk_frozen p3 9
            have gz10 := blk_frozen p3 10
            have gz11 := blk_frozen p3 11
            refine wpAnyH_ready (rs := [12]) (by kernel_rfl) (by simp) ?_
            refine AllReadyH.cons (o := ?_) ?_ (fun K hK => ?_) AllReadyH.nil
            rotate_left
            · (simp only [List.getElem?_toArray, List.getElem?_cons_zero, List.getElem?_cons_succ]; rfl)
            go_simp
            skip
            (try go_wp2_with fail)
            refine hK.out _ _ ?_ (fun hHeld' => ?_)
            · (try dsimp only)
              exact (Off.below Y3).trans (stores_off (F := fun b => b = w.heap.size) _ _ _ [.bool kx0, .bool kx1, .bool kx2, .bool kx3, .bool kx4, .bool kx5, .int .i64 nx0, .int .i64 nx1, .int .i64 nx2, .int .i64 nx3, .int .i64 nx4, .int .i64 nx5] rfl)
            clear hK K hHeld
            have hHeld := hHeld'
            clear hHeld'
            (try simp only [Act.put, List.setIfInBounds_toArray, List.set_cons_zero, List.set_cons_succ])
            refine wpAnyH_done (by kernel_rfl) ?_ _
            have p4 := blk_stores12 p3 (.bool kx0) (.bool kx1) (.bool kx2) (.bool kx3) (.bool kx4) (.bool kx5) (.int .i64 nx0) (.int .i64 nx1) (.int .i64 nx2) (.int .i64 nx3) (.int .i64 nx4) (.int .i64 nx5)
            have q0 := blk_cell p4 0 (v := .bool kx0) rfl
            have q1 := blk_cell p4 1 (v := .bool kx1) rfl
            have q2 := blk_cell p4 2 (v := .bool kx2) rfl
            have q3 := blk_cell p4 3 (v := .bool kx3) rfl
            have q4 := blk_cell p4 4 (v := .bool kx4) rfl
            have q5 := blk_cell p4 5 (v := .bool kx5) rfl
            have q6 := blk_cell p4 6 (v := .int .i64 nx0) rfl
            have q7 := blk_cell p4 7 (v := .int .i64 nx1) rfl
            have q8 := blk_cell p4 8 (v := .int .i64 nx2) rfl
            have q9 := blk_cell p4 9 (v := .int .i64 nx3) rfl
            have q10 := blk_cell p4 10 (v := .int .i64 nx4) rfl
            have q11 := blk_cell p4 11 (v := .int .i64 nx5) rfl
            (try go_wp2_with fail)
            refine bodyPost_ret (v := .agg #[.bool kx0, .bool kx1, .bool kx2, .bool kx3, .bool kx4, .bool kx5, .int .i64 nx0, .int .i64 nx1, .int .i64 nx2, .int .i64 nx3, .int .i64 nx4, .int .i64 nx5]) (by simp [results, Try.results83, go_sem, g0, g1, g2, g3, g4, g5, g6, g7, g8, g9, g10, g11]) rfl ⟨?_, ?_⟩
            · exact HES.out
            · exact stores_below _ _ _ [.bool kx0, .bool kx1, .bool kx2, .bool kx3, .bool kx4, .bool kx5, .int .i64 nx0, .int .i64 nx1, .int .i64 nx2, .int .i64 nx3, .int .i64 nx4, .int .i64 nx5] (B3.trans (Y3.mono B3.size)) (Nat.le_refl _)

end Go.Proofs.Ytociphdhkjoofaa
