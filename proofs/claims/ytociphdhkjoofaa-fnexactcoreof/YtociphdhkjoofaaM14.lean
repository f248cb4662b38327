/- Several texts of one proof, in build order: LmK, GqP, IcP. -/
import Derived.Test.YtociphdhkjoofaaM11
import Derived.Test.YtociphdhkjoofaaM13

/- Contracts of the first try, impl.leastMap$2, and of impl.leastMap. -/
namespace Go.Proofs.Ytociphdhkjoofaa
open Go.RowKit

/-- The search from the Heads on. -/
def startF (fh oh : List Int) (ats os : List Atm) (tg vs : List Int) : Option Wy := if (wAll wy0 fh oh).2 then leadF ats os tg (wAll wy0 fh oh).1 vs else none
theorem startF_len {fh oh : List Int} {ats os : List Atm} {tg vs : List Int} : ∀ m, startF fh oh ats os tg vs = some m → m.length = 6 := fun m h => by
  unfold startF at h
  split at h
  · exact leadF_len ats os tg vs _ _ (wAll_len wy0 fh oh rfl) h
  · cases h

set_option maxRecDepth 100000 in
set_option maxHeartbeats 16000000 in
theorem start_any (d : LD) (fh oh : List Int) (vs : List Int) (bv : Nat) (la : Option Addr) (ln lc : Nat) (w : World) (hE : LEnv d w) (hbv : w.heap[bv]? = some (.cells #[.slice la ln lc] 22 (0, 0)))
    (hin : ∀ v ∈ vs, 0 ≤ v ∧ v < 6) (hlz : vs.length = ln) (hlc : ln ≤ lc) (hlb : lc ≤ 9223372036854775807) (hnil : la = none → lc = 0) (hla : At w la vs)
    (hfz : fh.length = d.fhn) (hfb : d.fhn ≤ 9223372036854775807) (hfi : ∀ v ∈ fh, 0 ≤ v ∧ v < 6) (hfa : At w d.fha fh) (hoz : oh.length = d.ohn) (hob : d.ohn ≤ 9223372036854775807) (hoa : At w d.oha oh) (hle : d.fhn ≤ d.ohn) :
    Calls Try.prog 87 #[.pointer (some ⟨d.bl, 0, none⟩), .pointer (some ⟨d.bf, 0, none⟩), .pointer (some ⟨d.bo, 0, none⟩), .pointer (some ⟨bv, 0, none⟩)] w fun e w' => Ends (startF fh oh d.ats d.os d.tg vs) e ∧ Below w.heap.size w w' := by
  obtain ⟨U, hU⟩ : ∃ U, U = w.alloc (.cells #[.bool false, .bool false, .bool false, .bool false, .bool false, .bool false, .int .i64 0, .int .i64 0, .int .i64 0, .int .i64 0, .int .i64 0, .int .i64 0] 101) := ⟨_, rfl⟩
  have B0 : Below w.heap.size w U := by rw [hU]; exact (Below.refl _ _).alloc (Nat.le_refl _) _
  have bR : U.heap[w.heap.size]? = some (.cells #[.bool false, .bool false, .bool false, .bool false, .bool false, .bool false, .int .i64 0, .int .i64 0, .int .i64 0, .int .i64 0, .int .i64 0, .int .i64 0] 101 (0, 0)) := by rw [hU]; exact heap_alloc_new w _
  have zv : ¬ bv = w.heap.size := Nat.ne_of_lt (Array.getElem?_eq_some_iff.1 hbv).1
  have zl : ¬ d.bl = w.heap.size := Nat.ne_of_lt (Array.getElem?_eq_some_iff.1 hE.l).1
  have zf : ¬ d.bf = w.heap.size := Nat.ne_of_lt (Array.getElem?_eq_some_iff.1 hE.f).1
  have zo : ¬ d.bo = w.heap.size := Nat.ne_of_lt (Array.getElem?_eq_some_iff.1 hE.o).1
  have hE := hE.below B0
  have hbv := blk_below hbv B0
  have hla := At.below hla B0
  have hfa := At.below hfa B0
  have hoa := At.below hoa B0
  have e1 := blk_cell hbv 0 (v := .slice la ln lc) rfl
  have f0 := blk_cell hE.l 0 (v := .func (.func 81) #[] #[.pointer (some ⟨d.bt, 0, none⟩), .pointer (some ⟨d.bl, 0, none⟩), .pointer (some ⟨d.bf, 0, none⟩), .pointer (some ⟨d.bo, 0, none⟩)]) rfl
  have f1 := blk_cell hE.f 0 (v := .slice d.fha d.fhn d.fhc) rfl
  have f2 := blk_cell hE.o 0 (v := .slice d.oha d.ohn d.ohc) rfl
  obtain ⟨m2, hm2⟩ : ∃ m2, m2 = (wAll wy0 fh oh).1 := ⟨_, rfl⟩
  obtain ⟨ok, hok⟩ : ∃ ok, ok = (wAll wy0 fh oh).2 := ⟨_, rfl⟩
  have hml : m2.length = 6 := by rw [hm2]; exact wAll_len wy0 fh oh rfl
  obtain ⟨k'0, k'1, k'2, k'3, k'4, k'5, n'0, n'1, n'2, n'3, n'4, n'5, hw2⟩ := wcells_open hml
  have KA : Hid (∀ w' : World, Below U.heap.size U w' → Calls Try.prog 88 #[.agg #[.bool false, .bool false, .bool false, .bool false, .bool false, .bool false, .int .i64 0, .int .i64 0, .int .i64 0, .int .i64 0, .int .i64 0, .int .i64 0], .slice d.fha d.fhn d.fhc, .slice d.oha d.ohn d.ohc] w' fun e w'' => e = .returned (.tuple #[.agg #[.bool k'0, .bool k'1, .bool k'2, .bool k'3, .bool k'4, .bool k'5, .int .i64 n'0, .int .i64 n'1, .int .i64 n'2, .int .i64 n'3, .int .i64 n'4, .int .i64 n'5], .bool ok]) ∧ Below w'.heap.size w' w'') := fun w' h => by
    have h9 := withAll_any wy0 d.fha d.fhn d.fhc fh d.oha d.ohn d.ohc oh w' rfl hfz hfb hfi (At.below hfa h) hoz hob hle (At.below hoa h)
    rw [← hm2, ← hok, hw2] at h9
    exact h9
  have KY : Hid (∀ w' : World, Calls Try.prog 84 #[.agg #[.bool k'0, .bool k'1, .bool k'2, .bool k'3, .bool k'4, .bool k'5, .int .i64 n'0, .int .i64 n'1, .int .i64 n'2, .int .i64 n'3, .int .i64 n'4, .int .i64 n'5], .bool true] w' fun e w'' => e = .returned (.agg #[.bool k'0, .bool k'1, .bool k'2, .bool k'3, .bool k'4, .bool k'5, .int .i64 n'0, .int .i64 n'1, .int .i64 n'2, .int .i64 n'3, .int .i64 n'4, .int .i64 n'5]) ∧ Below w'.heap.size w' w'') := fun w' => by
    have h := orGiveUp_yes m2 w' hml
    rw [hw2] at h
    exact h
  have KN : Hid (∀ w' : World, Calls Try.prog 84 #[.agg #[.bool k'0, .bool k'1, .bool k'2, .bool k'3, .bool k'4, .bool k'5, .int .i64 n'0, .int .i64 n'1, .int .i64 n'2, .int .i64 n'3, .int .i64 n'4, .int .i64 n'5], .bool false] w' fun e w'' => e = .panicked [{ v := .iface 121 (.agg #[]), recovered := false }] ∧ Below w'.heap.size w' w'') := fun w' => by
    have h := orGiveUp_no m2 w' hml
    rw [hw2] at h
    exact h
  have HLE : Hid (∀ w', Below U.heap.size U w' → LEnv d w') := fun w' h => hE.below h
  have HLA := Hid.mk hla
  have HBR := Hid.mk bR
  have HML := Hid.mk hml
  have HW2 := Hid.mk hw2
  cases ok with
  | false =>
    have HEN : Hid (Ends (startF fh oh d.ats d.os d.tg vs) (.panicked [{ v := .iface 121 (.agg #[]), recovered := false }])) := by
      show Ends _ _
      have : startF fh oh d.ats d.os d.tg vs = none := by unfold startF; rw [← hok]; rfl
      rw [this]
      rfl
    clear hm2 hok hml hw2 hbv hla hE bR hfa hoa hfz hoz hfi KY
    go_enter Try.func87, Try.ntmps87
    go_upto_region 1 with fail
    rw [← hU]
    clear hU
    refine wp_region_held_drew (S := fun w' => Off (fun b => b = w.heap.size) U w') (by kernel_rfl) ?_ (fun hHeld => ?_)
    · exact (Off.refl _ _).drew
    refine tk 0 ?_ (hy := fun wS hSw => by (have f0 := Off.cell hSw f0 zl; go_simp; (try with_reducible rfl)))
    refine tk 1 ?_
    refine tk 2 ?_
    refine tk 3 ?_ (hy := fun wS hSw => by (have f1 := Off.cell hSw f1 zf; go_simp; (try with_reducible rfl)))
    refine tk 4 ?_
    refine tk 5 ?_ (hy := fun wS hSw => by (have f2 := Off.cell hSw f2 zo; go_simp; (try with_reducible rfl)))
    refine tk 10 ?_ (hy := fun wS hSw => by (have e1 := Off.cell hSw e1 zv; go_simp; (try with_reducible rfl)))
    obtain ⟨u0, hu0⟩ : ∃ u, u = U.drew := ⟨_, rfl⟩
    have Y0 : Below U.heap.size U u0 := by rw [hu0]; exact (Below.refl _ _).drew
    rw [← hu0]
    rw [← hu0] at hHeld
    clear hu0
    refine wpAnyH_ready (rs := [6]) (by kernel_rfl) (by simp) ?_
    refine AllReadyH.cons (o := ?_) ?_ (fun K hK => ?_) AllReadyH.nil
    rotate_left
    · (simp only [List.getElem?_toArray, List.getElem?_cons_zero, List.getElem?_cons_succ]; rfl)
    go_simp
    go_at_call 88
    refine (KA.out _ Y0).mono ?_
    rintro e v1 ⟨rfl, hb1⟩
    have Y1 := Y0.trans (hb1.mono Y0.size)
    clear hb1
    (try go_wp2_with fail)
    refine hK.out _ _ ?_ (fun hHeld' => ?_)
    · (try dsimp only)
      exact Off.below Y1
    clear hK K hHeld
    have hHeld := hHeld'
    clear hHeld'
    (try simp only [Act.put, List.setIfInBounds_toArray, List.set_cons_zero, List.set_cons_succ])
    refine tk 7 ?_
    refine tk 8 ?_
    refine wpAnyH_ready (rs := [9]) (by kernel_rfl) (by simp) ?_
    refine AllReadyH.cons (o := ?_) ?_ (fun K hK => ?_) AllReadyH.nil
    rotate_left
    · (simp only [List.getElem?_toArray, List.getElem?_cons_zero, List.getElem?_cons_succ]; rfl)
    go_simp
    go_at_call 84
    refine (KN.out _).mono ?_
    rintro e v2 ⟨rfl, hb2⟩
    exact ⟨rfl, HEN.out, B0.trans ((Y1.trans (hb2.mono Y1.size)).mono B0.size)⟩
  | true =>
    have hTR : startF fh oh d.ats d.os d.tg vs = leadF d.ats d.os d.tg m2 vs := by unfold startF; rw [← hok, ← hm2]; rfl
    cases hlf : leadF d.ats d.os d.tg m2 vs with
    | none =>
      have HEN : Hid (Ends (startF fh oh d.ats d.os d.tg vs) (.panicked [{ v := .iface 121 (.agg #[]), recovered := false }])) := by
        show Ends _ _
        rw [hTR, hlf]
        rfl
      have KI : Hid (∀ w', Below U.heap.size U w' → Calls Try.prog 81 #[.agg #[.bool k'0, .bool k'1, .bool k'2, .bool k'3, .bool k'4, .bool k'5, .int .i64 n'0, .int .i64 n'1, .int .i64 n'2, .int .i64 n'3, .int .i64 n'4, .int .i64 n'5], .slice la ln lc, .pointer (some ⟨d.bt, 0, none⟩), .pointer (some ⟨d.bl, 0, none⟩), .pointer (some ⟨d.bf, 0, none⟩), .pointer (some ⟨d.bo, 0, none⟩)] w' fun e w'' => Ends (none) e ∧ Below w'.heap.size w' w'') := fun w' h => by
        have h9 := lead_any d vs m2 la ln lc w' hin HML.out (HLE.out w' h) hlz hlc hlb hnil (At.below HLA.out h)
        rw [HW2.out, hlf] at h9
        exact h9
      clear hTR hm2 hok hml hw2 hbv hla hE bR hfa hoa hfz hoz hfi hlf
      go_enter Try.func87, Try.ntmps87
      go_upto_region 1 with fail
      rw [← hU]
      clear hU
      refine wp_region_held_drew (S := fun w' => Off (fun b => b = w.heap.size) U w') (by kernel_rfl) ?_ (fun hHeld => ?_)
      · exact (Off.refl _ _).drew
      refine tk 0 ?_ (hy := fun wS hSw => by (have f0 := Off.cell hSw f0 zl; go_simp; (try with_reducible rfl)))
      refine tk 1 ?_
      refine tk 2 ?_
      refine tk 3 ?_ (hy := fun wS hSw => by (have f1 := Off.cell hSw f1 zf; go_simp; (try with_reducible rfl)))
      refine tk 4 ?_
      refine tk 5 ?_ (hy := fun wS hSw => by (have f2 := Off.cell hSw f2 zo; go_simp; (try with_reducible rfl)))
      refine tk 10 ?_ (hy := fun wS hSw => by (have e1 := Off.cell hSw e1 zv; go_simp; (try with_reducible rfl)))
      obtain ⟨u0, hu0⟩ : ∃ u, u = U.drew := ⟨_, rfl⟩
      have Y0 : Below U.heap.size U u0 := by rw [hu0]; exact (Below.refl _ _).drew
      rw [← hu0]
      rw [← hu0] at hHeld
      clear hu0
      refine wpAnyH_ready (rs := [6]) (by kernel_rfl) (by simp) ?_
      refine AllReadyH.cons (o := ?_) ?_ (fun K hK => ?_) AllReadyH.nil
      rotate_left
      · (simp only [List.getElem?_toArray, List.getElem?_cons_zero, List.getElem?_cons_succ]; rfl)
      go_simp
      go_at_call 88
      refine (KA.out _ Y0).mono ?_
      rintro e v1 ⟨rfl, hb1⟩
      have Y1 := Y0.trans (hb1.mono Y0.size)
      clear hb1
      (try go_wp2_with fail)
      refine hK.out _ _ ?_ (fun hHeld' => ?_)
      · (try dsimp only)
        exact Off.below Y1
      clear hK K hHeld
      have hHeld := hHeld'
      clear hHeld'
      (try simp only [Act.put, List.setIfInBounds_toArray, List.set_cons_zero, List.set_cons_succ])
      refine tk 7 ?_
      refine tk 8 ?_
      refine wpAnyH_ready (rs := [9]) (by kernel_rfl) (by simp) ?_
      refine AllReadyH.cons (o := ?_) ?_ (fun K hK => ?_) AllReadyH.nil
      rotate_left
      · (simp only [List.getElem?_toArray, List.getElem?_cons_zero, List.getElem?_cons_succ]; rfl)
      go_simp
      go_at_call 84
      refine (KY.out _).mono ?_
      rintro e v2 ⟨rfl, hb2⟩
      have Y2 := Y1.trans (hb2.mono Y1.size)
      clear hb2
      (try go_wp2_with fail)
      refine hK.out _ _ ?_ (fun hHeld' => ?_)
      · (try dsimp only)
        exact Off.below Y2
      clear hK K hHeld
      have hHeld := hHeld'
      clear hHeld'
      (try simp only [Act.put, List.setIfInBounds_toArray, List.set_cons_zero, List.set_cons_succ])
      refine wpAnyH_ready (rs := [11]) (by kernel_rfl) (by simp) ?_
      refine AllReadyH.cons (o := ?_) ?_ (fun K hK => ?_) AllReadyH.nil
      rotate_left
      · (simp only [List.getElem?_toArray, List.getElem?_cons_zero, List.getElem?_cons_succ]; rfl)
      go_simp
      go_at_call 81
      refine (KI.out _ Y2).mono ?_
      rintro e v3 ⟨he, hb3⟩
      have he2 : e = .panicked [{ v := .iface 121 (.agg #[]), recovered := false }] := he
      subst he2
      exact ⟨rfl, HEN.out, B0.trans ((Y2.trans (hb3.mono Y2.size)).mono B0.size)⟩
    | some m3 =>
      obtain ⟨kx0, kx1, kx2, kx3, kx4, kx5, nx0, nx1, nx2, nx3, nx4, nx5, hw3⟩ := wcells_open (leadF_len d.ats d.os d.tg vs m2 m3 HML.out hlf)
      have HW3 : Hid ((wcells m3).toArray = #[.bool kx0, .bool kx1, .bool kx2, .bool kx3, .bool kx4, .bool kx5, .int .i64 nx0, .int .i64 nx1, .int .i64 nx2, .int .i64 nx3, .int .i64 nx4, .int .i64 nx5]) := by show _ = _; rw [hw3]
      have HES : Hid (Ends (startF fh oh d.ats d.os d.tg vs) (.returned (.agg #[.bool kx0, .bool kx1, .bool kx2, .bool kx3, .bool kx4, .bool kx5, .int .i64 nx0, .int .i64 nx1, .int .i64 nx2, .int .i64 nx3, .int .i64 nx4, .int .i64 nx5]))) := by
        show Ends _ _
        rw [hTR, hlf]
        show _ = Ending.returned (.agg (wcells m3).toArray)
        rw [HW3.out]
      have KI : Hid (∀ w', Below U.heap.size U w' → Calls Try.prog 81 #[.agg #[.bool k'0, .bool k'1, .bool k'2, .bool k'3, .bool k'4, .bool k'5, .int .i64 n'0, .int .i64 n'1, .int .i64 n'2, .int .i64 n'3, .int .i64 n'4, .int .i64 n'5], .slice la ln lc, .pointer (some ⟨d.bt, 0, none⟩), .pointer (some ⟨d.bl, 0, none⟩), .pointer (some ⟨d.bf, 0, none⟩), .pointer (some ⟨d.bo, 0, none⟩)] w' fun e w'' => Ends (some m3) e ∧ Below w'.heap.size w' w'') := fun w' h => by
        have h9 := lead_any d vs m2 la ln lc w' hin HML.out (HLE.out w' h) hlz hlc hlb hnil (At.below HLA.out h)
        rw [HW2.out, hlf] at h9
        exact h9
      clear hTR hm2 hok hml hw2 hbv hla hE bR hfa hoa hfz hoz hfi hlf hw3
      go_enter Try.func87, Try.ntmps87
      go_upto_region 1 with fail
      rw [← hU]
      clear hU
      refine wp_region_held_drew (S := fun w' => Off (fun b => b = w.heap.size) U w') (by kernel_rfl) ?_ (fun hHeld => ?_)
      · exact (Off.refl _ _).drew
      refine tk 0 ?_ (hy := fun wS hSw => by (have f0 := Off.cell hSw f0 zl; go_simp; (try with_reducible rfl)))
      refine tk 1 ?_
      refine tk 2 ?_
      refine tk 3 ?_ (hy := fun wS hSw => by (have f1 := Off.cell hSw f1 zf; go_simp; (try with_reducible rfl)))
      refine tk 4 ?_
      refine tk 5 ?_ (hy := fun wS hSw => by (have f2 := Off.cell hSw f2 zo; go_simp; (try with_reducible rfl)))
      refine tk 10 ?_ (hy := fun wS hSw => by (have e1 := Off.cell hSw e1 zv; go_simp; (try with_reducible rfl)))
      obtain ⟨u0, hu0⟩ : ∃ u, u = U.drew := ⟨_, rfl⟩
      have Y0 : Below U.heap.size U u0 := by rw [hu0]; exact (Below.refl _ _).drew
      rw [← hu0]
      rw [← hu0] at hHeld
      clear hu0
      refine wpAnyH_ready (rs := [6]) (by kernel_rfl) (by simp) ?_
      refine AllReadyH.cons (o := ?_) ?_ (fun K hK => ?_) AllReadyH.nil
      rotate_left
      · (simp only [List.getElem?_toArray, List.getElem?_cons_zero, List.getElem?_cons_succ]; rfl)
      go_simp
      go_at_call 88
      refine (KA.out _ Y0).mono ?_
      rintro e v1 ⟨rfl, hb1⟩
      have Y1 := Y0.trans (hb1.mono Y0.size)
      clear hb1
      (try go_wp2_with fail)
      refine hK.out _ _ ?_ (fun hHeld' => ?_)
      · (try dsimp only)
        exact Off.below Y1
      clear hK K hHeld
      have hHeld := hHeld'
      clear hHeld'
      (try simp only [Act.put, List.setIfInBounds_toArray, List.set_cons_zero, List.set_cons_succ])
      refine tk 7 ?_
      refine tk 8 ?_
      refine wpAnyH_ready (rs := [9]) (by kernel_rfl) (by simp) ?_
      refine AllReadyH.cons (o := ?_) ?_ (fun K hK => ?_) AllReadyH.nil
      rotate_left
      · (simp only [List.getElem?_toArray, List.getElem?_cons_zero, List.getElem?_cons_succ]; rfl)
      go_simp
      go_at_call 84
      refine (KY.out _).mono ?_
      rintro e v2 ⟨rfl, hb2⟩
      have Y2 := Y1.trans (hb2.mono Y1.size)
      clear hb2
      (try go_wp2_with fail)
      refine hK.out _ _ ?_ (fun hHeld' => ?_)
      · (try dsimp only)
        exact Off.below Y2
      clear hK K hHeld
      have hHeld := hHeld'
      clear hHeld'
      (try simp only [Act.put, List.setIfInBounds_toArray, List.set_cons_zero, List.set_cons_succ])
      refine wpAnyH_ready (rs := [11]) (by kernel_rfl) (by simp) ?_
      refine AllReadyH.cons (o := ?_) ?_ (fun K hK => ?_) AllReadyH.nil
      rotate_left
      · (simp only [List.getElem?_toArray, List.getElem?_cons_zero, List.getElem?_cons_succ]; rfl)
      go_simp
      go_at_call 81
      refine (KI.out _ Y2).mono ?_
      rintro e v3 ⟨he, hb3⟩
      have he2 : e = .returned (.agg #[.bool kx0, .bool kx1, .bool kx2, .bool kx3, .bool kx4, .bool kx5, .int .i64 nx0, .int .i64 nx1, .int .i64 nx2, .int .i64 nx3, .int .i64 nx4, .int .i64 nx5]) := by
        have h : e = .returned (.agg (wcells m3).toArray) := he
        rw [HW3.out] at h
        exact h
      subst he2
      have Y3 := Y2.trans (hb3.mono Y2.size)
      clear hb3 he
      (try go_wp2_with fail)
      refine hK.out _ _ ?_ (fun hHeld' => ?_)
      · (try dsimp only)
        exact Off.below Y3
      clear hK K hHeld
      have hHeld := hHeld'
      clear hHeld'
      (try simp only [Act.put, List.setIfInBounds_toArray, List.set_cons_zero, List.set_cons_succ])
      have p3 := blk_below HBR.out Y3
      have g0 := blk_cell p3 0 (v := .bool false) rfl
      have g1 := blk_cell p3 1 (v := .bool false) rfl
      have g2 := blk_cell p3 2 (v := .bool false) rfl
      have g3 := blk_cell p3 3 (v := .bool false) rfl
      have g4 := blk_cell p3 4 (v := .bool false) rfl
      have g5 := blk_cell p3 5 (v := .bool false) rfl
      have g6 := blk_cell p3 6 (v := .int .i64 0) rfl
      have g7 := blk_cell p3 7 (v := .int .i64 0) rfl
      have g8 := blk_cell p3 8 (v := .int .i64 0) rfl
      have g9 := blk_cell p3 9 (v := .int .i64 0) rfl
      have g10 := blk_cell p3 10 (v := .int .i64 0) rfl
      have g11 := blk_cell p3 11 (v := .int .i64 0) rfl
      have gz0 := blk_frozen p3 0
      have gz1 := blk_frozen p3 1
      have gz2 := blk_frozen p3 2
      have gz3 := blk_frozen p3 3
      have gz4 := blk_frozen p3 4
      have gz5 := blk_frozen p3 5
      have gz6 := blk_frozen p3 6
      have gz7 := blk_frozen p3 7
      have gz8 := blk_frozen p3 8
      have gz9 := blk_frozen p3 9
      have gz10 := blk_frozen p3 10
      have gz11 := blk_frozen p3 11
      refine wpAnyH_ready (rs := [12]) (by kernel_rfl) (by simp) ?_
      refine AllReadyH.cons (o := ?_) ?_ (fun K hK => ?_) AllReadyH.nil
      rotate_left
      · (simp only [List.getElem?_toArray, List.getElem?_cons_zero, List.getElem?_cons_succ]; rfl)
      go_simp
      skip
      (try go_wp2_with fail)
      refine hK.out _ _ ?_ (fun hHeld' => ?_)
      · (try dsimp only)
        exact (Off.below Y3).trans (stores_off (F := fun b => b = w.heap.size) _ _ _ [.bool kx0, .bool kx1, .bool kx2, .bool kx3, .bool kx4, .bool kx5, .int .i64 nx0, .int .i64 nx1, .int .i64 nx2, .int .i64 nx3, .int .i64 nx4, .int .i64 nx5] rfl)
      clear hK K hHeld
      have hHeld := hHeld'
      clear hHeld'
      (try simp only [Act.put, List.setIfInBounds_toArray, List.set_cons_zero, List.set_cons_succ])
      refine wpAnyH_done (by kernel_rfl) ?_ _
      (try go_wp2_with fail)
      refine bodyPost_ret (v := .agg #[.bool kx0, .bool kx1, .bool kx2, .bool kx3, .bool kx4, .bool kx5, .int .i64 nx0, .int .i64 nx1, .int .i64 nx2, .int .i64 nx3, .int .i64 nx4, .int .i64 nx5]) (by simp [results, Try.results87, go_sem, g0, g1, g2, g3, g4, g5, g6, g7, g8, g9, g10, g11]) rfl ⟨?_, ?_⟩
      · exact HES.out
      · exact stores_below _ _ _ [.bool kx0, .bool kx1, .bool kx2, .bool kx3, .bool kx4, .bool kx5, .int .i64 nx0, .int .i64 nx1, .int .i64 nx2, .int .i64 nx3, .int .i64 nx4, .int .i64 nx5] (B0.trans (Y3.mono B0.size)) (Nat.le_refl _)

theorem own_caps {w : World} {base : Nat} {e : TypeId} {a : Option Addr} {n c : Nat} {xs : List Value} (h : w.ownsRow base e 1 (.slice a n c) n xs) : n ≤ c ∧ c ≤ 9223372036854775807 ∧ (a = none → c = 0) := by
  rcases h.2 with ⟨hv, h0⟩ | ⟨g, cap, cur, hv, _, _, h1, h2, _⟩
  · simp only [Value.slice.injEq] at hv
    obtain ⟨rfl, rfl, rfl⟩ := hv
    exact ⟨Nat.le_refl _, by omega, fun _ => rfl⟩
  · simp only [Value.slice.injEq, true_and] at hv
    obtain ⟨rfl, rfl⟩ := hv
    unfold maxLen at h2
    exact ⟨h1, h2, fun h => by cases h⟩

/-- What impl.leastMap tells of two questions. -/
def lmF (fh oh : List Int) (ats os : List Atm) : Option Wy := startF fh oh ats os (bl (vset os)) (bl (vset ats))

set_option maxRecDepth 100000 in
set_option maxHeartbeats 16000000 in
theorem leastMap_any (fha : Option Addr) (fhn fhc : Nat) (fh : List Int) (fa : Option Addr) (fn fc : Nat) (ats : List Atm) (oha : Option Addr) (ohn ohc : Nat) (oh : List Int) (oa : Option Addr) (on oc : Nat) (os : List Atm) (w : World)
    (hfz : fh.length = fhn) (hfb : fhn ≤ 9223372036854775807) (hfi : ∀ v ∈ fh, 0 ≤ v ∧ v < 6) (hfa : At w fha fh) (hoz : oh.length = ohn) (hob : ohn ≤ 9223372036854775807) (hoa : At w oha oh) (hle : fhn ≤ ohn)
    (haz : ats.length = fn) (hab : fn ≤ 9223372036854775807) (haa : AtQ w fa ats) (hbz : os.length = on) (hbb : on ≤ 9223372036854775807) (hba : AtQ w oa os) (hq1 : qvB ats = true) (hq2 : qvB os = true) (hfit : Fit ats os) :
    Calls Try.prog 73 #[.agg #[.slice fha fhn fhc, .slice fa fn fc], .agg #[.slice oha ohn ohc, .slice oa on oc]] w fun e w' => e = .returned (.tuple #[.agg (wcells ((lmF fh oh ats os).getD wy0)).toArray, .bool (lmF fh oh ats os).isSome]) ∧ Below w.heap.size w w' := by
  have hmf : ∀ (fn : Fn) (first cap : Array Value) (w : World), (Instr.makeFunc fn first cap).run Try.prog w = .ok (.func fn first cap) w := fun _ _ _ _ => rfl
  obtain ⟨W, hW⟩ : ∃ W, W = ((w.alloc (.cells #[.slice fha fhn fhc, .slice fa fn fc] 29)).alloc (.cells #[.slice oha ohn ohc, .slice oa on oc] 29)).alloc (.cells #[.bool false, .bool false, .bool false, .bool false, .bool false, .bool false, .int .i64 0, .int .i64 0, .int .i64 0, .int .i64 0, .int .i64 0, .int .i64 0] 101) := ⟨_, rfl⟩
  have B0 : Below w.heap.size w W := by rw [hW]; exact (((Below.refl _ _).alloc (Nat.le_refl _) _).alloc (by simp) _).alloc (by simp; omega) _
  have b0 : W.heap[w.heap.size]? = some (.cells #[.slice fha fhn fhc, .slice fa fn fc] 29 (0, 0)) := by rw [hW]; exact blk_alloc (blk_alloc (heap_alloc_new w _) _) _
  have b1 : W.heap[w.heap.size + 1]? = some (.cells #[.slice oha ohn ohc, .slice oa on oc] 29 (0, 0)) := by
    rw [hW]
    refine blk_alloc ?_ _
    have h := heap_alloc_new (w.alloc (.cells #[.slice fha fhn fhc, .slice fa fn fc] 29)) (.cells #[.slice oha ohn ohc, .slice oa on oc] 29)
    simpa only [World.size_alloc] using h
  have b2 : W.heap[w.heap.size + 1 + 1]? = some (.cells #[.bool false, .bool false, .bool false, .bool false, .bool false, .bool false, .int .i64 0, .int .i64 0, .int .i64 0, .int .i64 0, .int .i64 0, .int .i64 0] 101 (0, 0)) := by
    rw [hW]
    have h := heap_alloc_new ((w.alloc (.cells #[.slice fha fhn fhc, .slice fa fn fc] 29)).alloc (.cells #[.slice oha ohn ohc, .slice oa on oc] 29)) (.cells #[.bool false, .bool false, .bool false, .bool false, .bool false, .bool false, .int .i64 0, .int .i64 0, .int .i64 0, .int .i64 0, .int .i64 0, .int .i64 0] 101)
    simpa only [World.size_alloc] using h
  have c0 := blk_cell b0 0 (v := .slice fha fhn fhc) rfl
  have c1 := blk_cell b0 1 (v := .slice fa fn fc) rfl
  have d0 := blk_cell b1 0 (v := .slice oha ohn ohc) rfl
  have d1 := blk_cell b1 1 (v := .slice oa on oc) rfl
  have K1 : Hid (∀ w', Below W.heap.size W w' → Calls Try.prog 57 #[.agg #[.slice oha ohn ohc, .slice oa on oc]] w' fun e w'' => (∃ r m c, e = .returned (.tuple #[.slice r m c, .bool true]) ∧ (bl (vset os)).length = m ∧ w''.ownsRow w'.heap.size 3 1 (.slice r m c) m ((bl (vset os)).map (.int .i64))) ∧ Below w'.heap.size w' w'') := fun w' h => by
    have h9 := implVarsIn oha ohn ohc oa on oc os w' hbz hbb (AtSl.below hba (B0.trans (h.mono B0.size)))
    unfold qvL at h9
    rw [hq2, if_pos rfl] at h9
    exact h9
  have K2 : Hid (∀ w', Below W.heap.size W w' → Calls Try.prog 57 #[.agg #[.slice fha fhn fhc, .slice fa fn fc]] w' fun e w'' => (∃ r m c, e = .returned (.tuple #[.slice r m c, .bool true]) ∧ (bl (vset ats)).length = m ∧ w''.ownsRow w'.heap.size 3 1 (.slice r m c) m ((bl (vset ats)).map (.int .i64))) ∧ Below w'.heap.size w' w'') := fun w' h => by
    have h9 := implVarsIn fha fhn fhc fa fn fc ats w' haz hab (AtSl.below haa (B0.trans (h.mono B0.size)))
    unfold qvL at h9
    rw [hq1, if_pos rfl] at h9
    exact h9
  obtain ⟨L, hL⟩ : ∃ L, L = lmF fh oh ats os := ⟨_, rfl⟩
  rw [← hL]
  have HL := Hid.mk hL
  have hLL : (L.getD wy0).length = 6 := by
    cases hl : L with
    | none => rfl
    | some m => exact startF_len m (by rw [← hl, hL]; rfl)
  obtain ⟨k0, k1, k2, k3, k4, k5, n0, n1, n2, n3, n4, n5, hw0⟩ := wcells_open hLL
  have HW0 : Hid ((wcells (L.getD wy0)).toArray = #[.bool k0, .bool k1, .bool k2, .bool k3, .bool k4, .bool k5, .int .i64 n0, .int .i64 n1, .int .i64 n2, .int .i64 n3, .int .i64 n4, .int .i64 n5]) := by show _ = _; rw [hw0]
  rw [HW0.out]
  clear hw0 hLL hL
  have hst : ∀ (a : Addr) (fn : Fn) (first cap : Array Value) (m : Mode) (w : World), (store a (.func fn first cap) m).run Try.prog w = stored Try.prog w a (.func fn first cap) m := fun a fn first cap m w => run_store Try.prog w a _ m rfl
  go_enter Try.func73, Try.ntmps73
  go_upto_region 1 with fail
  rw [← hW]
  clear hW
  go_wp2_with fail
  refine (K1.out _ (Below.refl _ _)).mono ?_
  rintro e w1 ⟨⟨r1, m1, x1, rfl, l1, o1⟩, hb1⟩
  obtain ⟨X, hX⟩ : ∃ X, X = (w1.alloc (.cells #[.slice r1 m1 x1] 22)).alloc (.cells #[.func (.func 81) #[] #[.pointer (some ⟨w1.heap.size, 0, none⟩), .pointer (some ⟨w1.heap.size + 1, 0, none⟩), .pointer (some ⟨w.heap.size, 0, none⟩), .pointer (some ⟨w.heap.size + 1, 0, none⟩)]] 115) := ⟨_, rfl⟩
  have hbX : Below w1.heap.size w1 X := by rw [hX]; exact ((Below.refl _ _).alloc (Nat.le_refl _) _).alloc (by simp) _
  have bt : X.heap[w1.heap.size]? = some (.cells #[.slice r1 m1 x1] 22 (0, 0)) := by rw [hX]; exact blk_alloc (heap_alloc_new w1 _) _
  have bl' : X.heap[w1.heap.size + 1]? = some (.cells #[.func (.func 81) #[] #[.pointer (some ⟨w1.heap.size, 0, none⟩), .pointer (some ⟨w1.heap.size + 1, 0, none⟩), .pointer (some ⟨w.heap.size, 0, none⟩), .pointer (some ⟨w.heap.size + 1, 0, none⟩)]] 115 (0, 0)) := by
    rw [hX]
    have h := heap_alloc_new (w1.alloc (.cells #[.slice r1 m1 x1] 22)) (.cells #[.func (.func 81) #[] #[.pointer (some ⟨w1.heap.size, 0, none⟩), .pointer (some ⟨w1.heap.size + 1, 0, none⟩), .pointer (some ⟨w.heap.size, 0, none⟩), .pointer (some ⟨w.heap.size + 1, 0, none⟩)]] 115)
    simpa only [World.size_alloc] using h
  have hWX := hb1.trans (hbX.mono hb1.size)
  have c0 := cell_later hWX c0
  have c1 := cell_later hWX c1
  have o1X := owns_below o1 hbX
  have hx1 := own_caps o1
  go_upto_region 4 with fail
  rw [← hX]
  clear hX
  go_wp2_with fail
  refine (K2.out _ hWX).mono ?_
  rintro e w2 ⟨⟨r2, m2, x2, rfl, l2, o2⟩, hb2⟩
  obtain ⟨V, hV⟩ : ∃ V, V = w2.alloc (.cells #[.slice r2 m2 x2] 22) := ⟨_, rfl⟩
  have hbV : Below w2.heap.size w2 V := by rw [hV]; exact (Below.refl _ _).alloc (Nat.le_refl _) _
  have bv : V.heap[w2.heap.size]? = some (.cells #[.slice r2 m2 x2] 22 (0, 0)) := by rw [hV]; exact heap_alloc_new w2 _
  have hXV := hb2.trans (hbV.mono hb2.size)
  have hWV := hWX.trans (hXV.mono hWX.size)
  have hwV := B0.trans (hWV.mono B0.size)
  have hx2 := own_caps o2
  have bR := blk_below b2 hWV
  obtain ⟨D, hD⟩ : ∃ D : LD, D = ⟨w1.heap.size, w1.heap.size + 1, w.heap.size, w.heap.size + 1, 115, r1, m1, x1, bl (vset os), fha, fhn, fhc, fa, fn, fc, ats, oha, ohn, ohc, oa, on, oc, os⟩ := ⟨_, rfl⟩
  have hE : LEnv D V := by
    rw [hD]
    exact ⟨blk_below bt hXV, blk_below bl' hXV, blk_below b0 hWV, blk_below b1 hWV, l1, (by show m1 ≤ 9223372036854775807; have := bl_len (vset os); omega), At.below (At.owned o1X) hXV, haz, hab, AtSl.below haa hwV, hbz, hbb, AtSl.below hba hwV, hfit⟩
  have HT : Hid (∀ w', Below V.heap.size V w' → Calls Try.prog 82 #[.func (.func 87) #[] #[.pointer (some ⟨w1.heap.size + 1, 0, none⟩), .pointer (some ⟨w.heap.size, 0, none⟩), .pointer (some ⟨w.heap.size + 1, 0, none⟩), .pointer (some ⟨w2.heap.size, 0, none⟩)]] w' fun e w'' => e = .returned (.tuple #[.agg (wcells ((lmF fh oh ats os).getD wy0)).toArray, .bool (lmF fh oh ats os).isSome]) ∧ Below w'.heap.size w' w'') := fun w' hb =>
    tried_any _ _ (lmF fh oh ats os) w' (fun args w => by simp [go_sem]) startF_len (fun W' hb' _ => by
      have h := hb.trans (hb'.mono hb.size)
      have h9 := start_any D fh oh (bl (vset ats)) w2.heap.size r2 m2 x2 W' (hE.below h) (blk_below bv h) (fun v hv => bl_in hv) l2 hx2.1 hx2.2.1 hx2.2.2 (At.below (At.owned o2) (hbV.trans (h.mono hbV.size))) (by rw [hD]; exact hfz) (by rw [hD]; exact hfb) hfi (by rw [hD]; exact At.below hfa (hwV.trans (h.mono hwV.size))) (by rw [hD]; exact hoz) (by rw [hD]; exact hob) (by rw [hD]; exact At.below hoa (hwV.trans (h.mono hwV.size))) (by rw [hD]; exact hle)
      rw [hD] at h9
      exact h9)
  rw [← HL.out, HW0.out] at HT
  have rr0 := blk_cell bR 0 (v := .bool false) rfl
  have rr1 := blk_cell bR 1 (v := .bool false) rfl
  have rr2 := blk_cell bR 2 (v := .bool false) rfl
  have rr3 := blk_cell bR 3 (v := .bool false) rfl
  have rr4 := blk_cell bR 4 (v := .bool false) rfl
  have rr5 := blk_cell bR 5 (v := .bool false) rfl
  have rr6 := blk_cell bR 6 (v := .int .i64 0) rfl
  have rr7 := blk_cell bR 7 (v := .int .i64 0) rfl
  have rr8 := blk_cell bR 8 (v := .int .i64 0) rfl
  have rr9 := blk_cell bR 9 (v := .int .i64 0) rfl
  have rr10 := blk_cell bR 10 (v := .int .i64 0) rfl
  have rr11 := blk_cell bR 11 (v := .int .i64 0) rfl
  have rf0 := blk_frozen bR 0
  have rf1 := blk_frozen bR 1
  have rf2 := blk_frozen bR 2
  have rf3 := blk_frozen bR 3
  have rf4 := blk_frozen bR 4
  have rf5 := blk_frozen bR 5
  have rf6 := blk_frozen bR 6
  have rf7 := blk_frozen bR 7
  have rf8 := blk_frozen bR 8
  have rf9 := blk_frozen bR 9
  have rf10 := blk_frozen bR 10
  have rf11 := blk_frozen bR 11
  clear hE hD bt bl' o1X o1 o2 l1 l2 K1 K2 hXV hb2 hbX hb1
  go_upto_region 5 with fail
  rw [← hV]
  clear hV
  go_wp2_with fail
  refine (HT.out V (Below.refl _ _)).mono ?_
  rintro e w4 ⟨rfl, hb4⟩
  have hw4 := hwV.trans (hb4.mono hwV.size)
  have p4 := blk_below bR hb4
  have g0 := blk_cell p4 0 (v := .bool false) rfl
  have g1 := blk_cell p4 1 (v := .bool false) rfl
  have g2 := blk_cell p4 2 (v := .bool false) rfl
  have g3 := blk_cell p4 3 (v := .bool false) rfl
  have g4 := blk_cell p4 4 (v := .bool false) rfl
  have g5 := blk_cell p4 5 (v := .bool false) rfl
  have g6 := blk_cell p4 6 (v := .int .i64 0) rfl
  have g7 := blk_cell p4 7 (v := .int .i64 0) rfl
  have g8 := blk_cell p4 8 (v := .int .i64 0) rfl
  have g9 := blk_cell p4 9 (v := .int .i64 0) rfl
  have g10 := blk_cell p4 10 (v := .int .i64 0) rfl
  have g11 := blk_cell p4 11 (v := .int .i64 0) rfl
  have gz0 := blk_frozen p4 0
  have gz1 := blk_frozen p4 1
  have gz2 := blk_frozen p4 2
  have gz3 := blk_frozen p4 3
  have gz4 := blk_frozen p4 4
  have gz5 := blk_frozen p4 5
  have gz6 := blk_frozen p4 6
  have gz7 := blk_frozen p4 7
  have gz8 := blk_frozen p4 8
  have gz9 := blk_frozen p4 9
  have gz10 := blk_frozen p4 10
  have gz11 := blk_frozen p4 11
  clear hb4 HT
  go_wp2
  refine bodyPost_ret (v := .tuple #[.agg #[.bool k0, .bool k1, .bool k2, .bool k3, .bool k4, .bool k5, .int .i64 n0, .int .i64 n1, .int .i64 n2, .int .i64 n3, .int .i64 n4, .int .i64 n5], .bool L.isSome]) (by simp [results, Try.results73, go_sem, g0, g1, g2, g3, g4, g5, g6, g7, g8, g9, g10, g11]) rfl ⟨rfl, stores_below _ _ _ [.bool k0, .bool k1, .bool k2, .bool k3, .bool k4, .bool k5, .int .i64 n0, .int .i64 n1, .int .i64 n2, .int .i64 n3, .int .i64 n4, .int .i64 n5] hw4 (by omega)⟩

end Go.Proofs.Ytociphdhkjoofaa

/- Plain: when a query is good for tables. -/
namespace Go.Proofs.Ytociphdhkjoofaa
open Go.RowKit

def tabOk (ts : List Int) : Bool := decide (1 ≤ ts.length) && decide (ts.length ≤ 4) && ts.all fun n => decide (1 ≤ n) && decide (n ≤ 3)
/-- An atom is of a table, with as many variables. -/
def atOk (ts : List Int) (a : Atm) : Bool := decide (0 ≤ a.1) && decide (a.1 < ts.length) && decide ((a.2.length : Int) = ts.getD a.1.toNat 0)
def gqB (hs : List Int) (zs : List Atm) (ts : List Int) : Bool :=
  tabOk ts && decide (1 ≤ zs.length) && decide (hs.length ≤ 6) && qvB zs && zs.all (atOk ts) && hs.all fun v => decide (v ∈ bl (vset zs))

theorem tabOk_in {ts : List Int} (h : tabOk ts = true) : ∀ i, i < ts.length → 1 ≤ ts.getD i 0 ∧ ts.getD i 0 ≤ 3 := fun i hi => by
  simp only [tabOk, Bool.and_eq_true, List.all_eq_true, decide_eq_true_eq] at h
  have := h.2 ts[i] (List.getElem_mem hi)
  simpa [List.getD, hi] using this
theorem atOk_len {ts : List Int} {a : Atm} (ht : tabOk ts = true) (h : atOk ts a = true) : a.2.length ≤ 3 := by
  simp only [atOk, Bool.and_eq_true, decide_eq_true_eq] at h
  have := tabOk_in ht a.1.toNat (by omega)
  omega
/-- As the model asks it: atom by atom, that it is of its table, and that its variables are such. -/
theorem gq_model {hs : List Int} {zs : List Atm} {ts : List Int} (ht : tabOk ts = true) (h1 : 1 ≤ zs.length) (h5 : zs.length ≤ 5) (h6 : hs.length ≤ 6) :
    gqB hs zs ts = ((zs.all fun a => atOk ts a && a.2.all vOk) && hs.all fun v => decide (v ∈ bl (vset zs))) := by
  have key : (qvB zs && zs.all (atOk ts)) = zs.all fun a => atOk ts a && a.2.all vOk := by
    cases hx : zs.all fun a => atOk ts a && a.2.all vOk with
    | true =>
      rw [List.all_eq_true] at hx
      have h2 : zs.all (atOk ts) = true := List.all_eq_true.2 fun a ha => (Bool.and_eq_true_iff.1 (hx a ha)).1
      have h3 : zs.all aOk = true := List.all_eq_true.2 fun a ha => by
        obtain ⟨h8, h9⟩ := Bool.and_eq_true_iff.1 (hx a ha)
        have := atOk_len ht h8
        unfold aOk
        rw [h9, decide_eq_true (by omega)]
        rfl
      rw [h2]
      unfold qvB
      rw [h3, decide_eq_true h5]
      rfl
    | false =>
      rw [← Bool.not_eq_true] at hx ⊢
      intro h'
      apply hx
      obtain ⟨h8, h9⟩ := Bool.and_eq_true_iff.1 h'
      rw [List.all_eq_true] at h9 ⊢
      intro a ha
      unfold qvB at h8
      have h7 := List.all_eq_true.1 (Bool.and_eq_true_iff.1 h8).2 a ha
      unfold aOk at h7
      rw [h9 a ha, (Bool.and_eq_true_iff.1 h7).2]
      rfl
  unfold gqB
  rw [ht, decide_eq_true h1, decide_eq_true h6, Bool.and_assoc (true && true && true), key]
  simp
theorem gq_not {hs : List Int} {zs : List Atm} {ts : List Int} (h : tabOk ts = false ∨ ¬ 1 ≤ zs.length ∨ ¬ hs.length ≤ 6 ∨ qvB zs = false ∨ zs.all (atOk ts) = false) : gqB hs zs ts = false := by
  unfold gqB
  rcases h with h | h | h | h | h
  · rw [h]; simp
  · rw [decide_eq_false h]; simp
  · rw [decide_eq_false h]; simp
  · rw [h]; simp
  · rw [h]; simp
theorem gq_yes {hs : List Int} {zs : List Atm} {ts : List Int} (h1 : tabOk ts = true) (h2 : 1 ≤ zs.length) (h3 : hs.length ≤ 6) (h4 : qvB zs = true) (h5 : zs.all (atOk ts) = true) : gqB hs zs ts = hs.all fun v => decide (v ∈ bl (vset zs)) := by
  unfold gqB
  rw [h1, decide_eq_true h2, decide_eq_true h3, h4, h5]
  simp
theorem all_drop_atm {zs : List Atm} {k : Nat} {x : Atm} (f : Atm → Bool) (h : zs[k]? = some x) : (zs.drop k).all f = (f x && (zs.drop (k + 1)).all f) := by
  obtain ⟨h1, h2⟩ := List.getElem?_eq_some_iff.1 h
  rw [List.drop_eq_getElem_cons h1, h2, List.all_cons]
theorem all_drop_int {zs : List Int} {k : Nat} (f : Int → Bool) (h : k < zs.length) : (zs.drop k).all f = (f (zs.getD k 0) && (zs.drop (k + 1)).all f) := by
  rw [List.drop_eq_getElem_cons h, List.all_cons]
  simp [List.getD, h]

end Go.Proofs.Ytociphdhkjoofaa

/- Plain: whether one question is contained in another one, and by which map. -/
namespace Go.Proofs.Ytociphdhkjoofaa
open Go.RowKit

/-- The numbers of a way, 0 for those without. -/
def wnum (m : Wy) : List Int := m.map fun o => o.getD 0
def icB (ph : List Int) (pa : List Atm) (qh : List Int) (qa : List Atm) (ts : List Int) : Bool := gqB ph pa ts && gqB qh qa ts && decide (ph.length = qh.length)
def icM (ph : List Int) (pa : List Atm) (qh : List Int) (qa : List Atm) (ts : List Int) : Option Wy := if icB ph pa qh qa ts then lmF qh ph qa pa else none
def icL (ph : List Int) (pa : List Atm) (qh : List Int) (qa : List Atm) (ts : List Int) : List Int := match icM ph pa qh qa ts with
  | some m => wnum m
  | none => []
theorem icM_len {ph : List Int} {pa : List Atm} {qh : List Int} {qa : List Atm} {ts : List Int} {m : Wy} (h : icM ph pa qh qa ts = some m) : m.length = 6 := by
  unfold icM at h
  split at h
  · exact startF_len m h
  · cases h
theorem icL_len (ph : List Int) (pa : List Atm) (qh : List Int) (qa : List Atm) (ts : List Int) : (icL ph pa qh qa ts).length ≤ 6 := by
  unfold icL
  split
  · rename_i m h
    unfold wnum
    rw [List.length_map, icM_len h]
    exact Nat.le_refl _
  · simp
theorem gq_parts {hs : List Int} {zs : List Atm} {ts : List Int} (h : gqB hs zs ts = true) : tabOk ts = true ∧ 1 ≤ zs.length ∧ qvB zs = true ∧ zs.all (atOk ts) = true ∧ ∀ v ∈ hs, v ∈ bl (vset zs) := by
  simp only [gqB, Bool.and_eq_true, decide_eq_true_eq] at h
  obtain ⟨⟨⟨⟨⟨h1, h2⟩, h3⟩, h4⟩, h5⟩, h6⟩ := h
  exact ⟨h1, h2, h4, h5, fun v hv => of_decide_eq_true (List.all_eq_true.1 h6 v hv)⟩
theorem gq_head {hs : List Int} {zs : List Atm} {ts : List Int} (h : gqB hs zs ts = true) : ∀ v ∈ hs, 0 ≤ v ∧ v < 6 := fun v hv => bl_in ((gq_parts h).2.2.2.2 v hv)
theorem gq_in {hs : List Int} {zs : List Atm} {ts : List Int} (h : gqB hs zs ts = true) : ∀ a ∈ zs, ∀ v ∈ a.2, (0 : Int) ≤ v ∧ v < 6 := fun a ha => by
  have h1 := (gq_parts h).2.2.1
  unfold qvB at h1
  exact aOk_in (List.all_eq_true.1 (Bool.and_eq_true_iff.1 h1).2 a ha)
theorem gq_len {hs : List Int} {zs : List Atm} {ts : List Int} (h : gqB hs zs ts = true) : ∀ a ∈ zs, (a.2.length : Int) = ts.getD a.1.toNat 0 := fun a ha => by
  have h1 := List.all_eq_true.1 (gq_parts h).2.2.2.1 a ha
  simp only [atOk, Bool.and_eq_true, decide_eq_true_eq] at h1
  exact h1.2
theorem gq_fit {hs hs' : List Int} {zs zs' : List Atm} {ts : List Int} (h : gqB hs zs ts = true) (h' : gqB hs' zs' ts = true) : Fit zs zs' :=
  ⟨gq_in h, fun a ha o ho e => by have h1 := gq_len h a ha; have h2 := gq_len h' o ho; rw [e] at h1; omega⟩
theorem wnum_at {w : World} {b : Nat} {m : Wy} {t : TypeId} (hm : m.length = 6) (h : w.heap[b]? = some (.cells (wcells m).toArray t (0, 0))) : At w (some ⟨b, 6, none⟩) (wnum m) := by
  refine .inr ⟨b, 6, rfl, fun i hi => ?_⟩
  have hi6 : i < 6 := by unfold wnum at hi; rw [List.length_map, hm] at hi; exact hi
  have h1 := wcells_num hm hi6
  have h2 : (wnum m).getD i 0 = (m.getD i none).getD 0 := by
    unfold wnum
    simp [List.getD, show i < m.length by omega]
  rw [h2]
  exact blk_cell h (6 + i) (by simpa using h1)

/-- What is told: numbers, whether there is a map, and whether it is asked rightly. -/
def IcRet (e : Ending) (w' : World) (lo : Nat) (v ok : Bool) (zs : List Int) : Prop := ∃ r m d, e = .returned (.tuple #[.slice r m d, .bool v, .bool ok]) ∧ zs.length = m ∧ w'.ownsRow lo 3 1 (.slice r m d) m (zs.map (.int .i64))

end Go.Proofs.Ytociphdhkjoofaa
