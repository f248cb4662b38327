/- Several texts of one proof, in build order: CloU, CovP, CovQ. -/
import Derived.Test.YtkcfhlpdenjimaaDoorM6
import Derived.Laws.StructEq

/- Contracts of implied, Implies, and the model's l7Implies, Implies. -/
namespace Go.Proofs.YtkcfhlpdenjimaaDoor
open Go.RowKit

noncomputable def impV (xs : List Dep) (d : Dep) : Bool := sb (mk d.2) (clo (dms xs) (mk d.1))
def impB (xs : List Dep) (C : Int) (d : Dep) : Bool := goodDeps xs C && goodDep C d
theorem impB_no1 {xs : List Dep} {C : Int} {d : Dep} (h : goodDeps xs C = false) : impB xs C d = false := by unfold impB; rw [h]; rfl
theorem goodDeps_C {xs : List Dep} {C : Int} (h : goodDeps xs C = true) : 1 ≤ C ∧ C ≤ 6 ∧ xs.length ≤ 10 := by
  simp only [goodDeps, Bool.and_eq_true, decide_eq_true_eq] at h
  exact ⟨h.1, h.2.1, h.2.2.1⟩
theorem goodDeps_one' {xs : List Dep} {C : Int} (h : goodDeps xs C = true) (d : Dep) : goodDeps [d] C = goodDep C d := by
  obtain ⟨h1, h2, _⟩ := goodDeps_C h
  rw [goodDeps_one, decide_eq_true h1, decide_eq_true h2]; rfl
theorem impB_two {xs : List Dep} {C : Int} {d : Dep} (h : goodDeps xs C = true) : impB xs C d = goodDep C d := by unfold impB; rw [h]; rfl
theorem goodDep_told {C : Int} {d : Dep} (hC : C ≤ 6) (h : goodDep C d = true) : Told d.1 ∧ Told d.2 := by
  simp only [goodDep, Bool.and_eq_true] at h
  exact ⟨Told.of hC h.1, Told.of hC h.2⟩

set_option maxRecDepth 100000 in
set_option maxHeartbeats 2000000 in
theorem implied_any (a : Option Addr) (n c : Nat) (xs : List (Nat × Nat)) (S D : Nat) (w : World) (hz : xs.length = n) (hn : n ≤ 9223372036854775807) (hs : Sets xs) (hS : S < 64) (hD : D < 64) (ha : AtT w a xs) :
    Calls Tryd.prog 73 #[.slice a n c, .agg #[.int .u64 (S : Nat), .int .u64 (D : Nat)]] w fun e w' => e = .returned (.bool (sb D (clo xs S))) ∧ Below w.heap.size w w' := by
  obtain ⟨W, hW⟩ : ∃ W, W = w.alloc (.cells #[.int .u64 (S : Nat), .int .u64 (D : Nat)] 92) := ⟨_, rfl⟩
  have B0 : Below w.heap.size w W := by rw [hW]; exact (Below.refl _ _).alloc (Nat.le_refl _) _
  have q0 : W.cell? ⟨w.heap.size, 0, none⟩ = some (.int .u64 (S : Nat)) := by rw [hW]; simp
  have q1 : W.cell? ⟨w.heap.size, 1, none⟩ = some (.int .u64 (D : Nat)) := by rw [hW]; simp
  have C1 := Hid.mk (closure_any a n c xs S W.drew hz hn hs hS (AtSl.below ha B0.drew))
  clear ha hz hs
  go_enter Tryd.func73, Tryd.ntmps73
  go_wp2_with fail
  rw [← hW]
  clear hW
  refine wp_region_held_drew (S := fun w' => w'.cell? ⟨w.heap.size, 0, none⟩ = some (.int .u64 (S : Nat)) ∧ w'.cell? ⟨w.heap.size, 1, none⟩ = some (.int .u64 (D : Nat))) (by kernel_rfl) ?_ (fun hHeld => ?_)
  · (try dsimp only)
    exact ⟨q0, q1⟩
  refine wpAnyH_take (i := 0) (oi := ?_) (v := ?_) ?_ (by kernel_rfl) (by kernel_rfl) (by kernel_rfl) ?_ (Or.inl ⟨?_, ?_⟩) (by assumption) ?_
  rotate_left 2
  · (simp only [List.getElem?_toArray, List.getElem?_cons_zero]; rfl)
  · exact fun _ _ _ h => h
  · rfl
  · (intro wS hSw; (try dsimp only at hSw); go_simp; (try with_reducible rfl))
  (try simp only [Act.put, List.setIfInBounds_toArray, List.set_cons_zero, List.set_cons_succ])
  refine wpAnyH_take (i := 1) (oi := ?_) (v := ?_) ?_ (by kernel_rfl) (by kernel_rfl) (by kernel_rfl) ?_ (Or.inl ⟨?_, ?_⟩) (by assumption) ?_
  rotate_left 2
  · (simp only [List.getElem?_toArray, List.getElem?_cons_zero, List.getElem?_cons_succ]; rfl)
  · exact fun _ _ _ h => h
  · rfl
  · (intro wS hSw; (try dsimp only at hSw); go_simp; (try with_reducible rfl))
  (try simp only [Act.put, List.setIfInBounds_toArray, List.set_cons_zero, List.set_cons_succ])
  refine wpAnyH_take (i := 2) (oi := ?_) (v := ?_) ?_ (by kernel_rfl) (by kernel_rfl) (by kernel_rfl) ?_ (Or.inl ⟨?_, ?_⟩) (by assumption) ?_
  rotate_left 2
  · (simp only [List.getElem?_toArray, List.getElem?_cons_zero, List.getElem?_cons_succ]; rfl)
  · exact fun _ _ _ h => h
  · rfl
  · (intro wS hSw; (try dsimp only at hSw); go_simp; (try with_reducible rfl))
  (try simp only [Act.put, List.setIfInBounds_toArray, List.set_cons_zero, List.set_cons_succ])
  refine wpAnyH_take (i := 4) (oi := ?_) (v := ?_) ?_ (by kernel_rfl) (by kernel_rfl) (by kernel_rfl) ?_ (Or.inl ⟨?_, ?_⟩) (by assumption) ?_
  rotate_left 2
  · (simp only [List.getElem?_toArray, List.getElem?_cons_zero, List.getElem?_cons_succ]; rfl)
  · exact fun _ _ _ h => h
  · rfl
  · (intro wS hSw; (try dsimp only at hSw); go_simp; (try with_reducible rfl))
  (try simp only [Act.put, List.setIfInBounds_toArray, List.set_cons_zero, List.set_cons_succ])
  refine wpAnyH_take (i := 5) (oi := ?_) (v := ?_) ?_ (by kernel_rfl) (by kernel_rfl) (by kernel_rfl) ?_ (Or.inl ⟨?_, ?_⟩) (by assumption) ?_
  rotate_left 2
  · (simp only [List.getElem?_toArray, List.getElem?_cons_zero, List.getElem?_cons_succ]; rfl)
  · exact fun _ _ _ h => h
  · rfl
  · (intro wS hSw; (try dsimp only at hSw); go_simp; (try with_reducible rfl))
  (try simp only [Act.put, List.setIfInBounds_toArray, List.set_cons_zero, List.set_cons_succ])
  refine wpAnyH_ready (rs := [3]) (by kernel_rfl) (by simp) ?_
  refine AllReadyH.cons (o := ?_) ?_ (fun K hK => ?_) AllReadyH.nil
  rotate_left
  · (simp only [List.getElem?_toArray, List.getElem?_cons_zero, List.getElem?_cons_succ]; rfl)
  go_simp
  go_at_call 39
  refine C1.out.mono ?_
  rintro e w2 ⟨T, hT, rfl, hb2⟩
  have e0 := cell_later hb2 q0
  have e1 := cell_later hb2 q1
  have HB2 := Hid.mk (B0.drew.trans (hb2.mono B0.size))
  clear hb2
  (try go_wp2_with fail)
  refine hK.out _ _ ?_ (fun hHeld' => ?_)
  · (try dsimp only)
    exact ⟨e0, e1⟩
  clear hK K hHeld
  have hHeld := hHeld'
  clear hHeld'
  (try simp only [Act.put, List.setIfInBounds_toArray, List.set_cons_zero, List.set_cons_succ])
  refine wpAnyH_ready (rs := [6]) (by kernel_rfl) (by simp) ?_
  refine AllReadyH.cons (o := ?_) ?_ (fun K hK => ?_) AllReadyH.nil
  rotate_left
  · (simp only [List.getElem?_toArray, List.getElem?_cons_zero, List.getElem?_cons_succ]; rfl)
  go_simp
  go_at_call 55
  refine (has_any T D w2 hT.lt hD).mono ?_
  rintro e w3 ⟨rfl, rfl⟩
  (try go_wp2_with fail)
  refine hK.out _ _ ?_ (fun hHeld' => ?_)
  · (try dsimp only)
    exact ⟨e0, e1⟩
  clear hK K hHeld
  have hHeld := hHeld'
  clear hHeld'
  (try simp only [Act.put, List.setIfInBounds_toArray, List.set_cons_zero, List.set_cons_succ])
  refine wpAnyH_take (i := 7) (oi := ?_) (v := ?_) ?_ (by kernel_rfl) (by kernel_rfl) (by kernel_rfl) ?_ (Or.inl ⟨?_, ?_⟩) (by assumption) ?_
  rotate_left 2
  · (simp only [List.getElem?_toArray, List.getElem?_cons_zero, List.getElem?_cons_succ]; rfl)
  · exact fun _ _ _ h => h
  · rfl
  · (intro wS hSw; (try dsimp only at hSw); go_simp; (try with_reducible rfl))
  (try simp only [Act.put, List.setIfInBounds_toArray, List.set_cons_zero, List.set_cons_succ])
  refine wpAnyH_done (by kernel_rfl) ?_ _
  have HT := Hid.mk hT.clo_eq
  clear hT
  go_wp2
  go_ret
  exact ⟨by rw [HT.out]; rfl, HB2.out⟩

set_option maxRecDepth 100000 in
set_option maxHeartbeats 4000000 in
theorem implImplies (a : Option Addr) (n c : Nat) (xs : List Dep) (C : Int) (fa : Option Addr) (fn fc : Nat) (ta : Option Addr) (tn tc : Nat) (d : Dep) (w : World) (hz : xs.length = n) (hn : n ≤ 1048576) (ha : AtD w a xs) (hd : RDep.At w [.slice fa fn fc, .slice ta tn tc] d) :
    Calls Tryd.prog 47 #[.slice a n c, .int .i64 C, .agg #[.slice fa fn fc, .slice ta tn tc]] w fun e w' => e = .returned (.tuple #[.bool (impB xs C d && impV xs d), .bool (impB xs C d)]) ∧ Below w.heap.size w w' := by
  obtain ⟨W, hW⟩ : ∃ W, W = w.alloc (.cells #[.slice fa fn fc, .slice ta tn tc] 43) := ⟨_, rfl⟩
  have B0 : Below w.heap.size w W := by rw [hW]; exact (Below.refl _ _).alloc (Nat.le_refl _) _
  have q0 : W.cell? ⟨w.heap.size, 0, none⟩ = some (.slice fa fn fc) := by rw [hW]; simp
  have q1 : W.cell? ⟨w.heap.size, 1, none⟩ = some (.slice ta tn tc) := by rw [hW]; simp
  have HA := Hid.mk (AtSl.below ha B0)
  have HD := Hid.mk (RDep.below hd B0)
  have HZ := Hid.mk hz
  clear ha hd hz
  go_enter Tryd.func47, Tryd.ntmps47
  go_wp2_with fail
  rw [← hW]
  clear hW
  refine (implGoodDepends a n c xs C W HZ.out (by omega) HA.out).mono ?_
  rintro e w1 ⟨rfl, hb1⟩
  have q0 := cell_later hb1 q0
  have q1 := cell_later hb1 q1
  have HA1 := Hid.mk (AtSl.below HA.out hb1)
  have HD1 := Hid.mk (RDep.below HD.out hb1)
  have B1 := B0.trans (hb1.mono B0.size)
  clear hb1 HA HD B0
  cases hg1 : goodDeps xs C with
  | false =>
    go_wp2
    exact bodyPost_ret (v := .tuple #[.bool false, .bool false]) (by simp [results, Tryd.results47, go_sem]) rfl ⟨by rw [impB_no1 hg1]; rfl, B1⟩
  | true =>
    go_wp2_with fail
    refine (goodDepend_any fa fn fc ta tn tc d C w1 HD1.out).mono ?_
    rintro e w2 ⟨rfl, hb2⟩
    have q0 := cell_later hb2 q0
    have q1 := cell_later hb2 q1
    have HA2 := Hid.mk (AtSl.below HA1.out hb2)
    have HD2 := Hid.mk (RDep.below HD1.out hb2)
    have B2 := B1.trans (hb2.mono B1.size)
    clear hb2 HA1 HD1 B1
    rw [goodDeps_one' hg1]
    cases hg2 : goodDep C d with
    | false =>
      go_wp2
      exact bodyPost_ret (v := .tuple #[.bool false, .bool false]) (by simp [results, Tryd.results47, go_sem]) rfl ⟨by rw [impB_two hg1, hg2]; rfl, B2⟩
    | true =>
      obtain ⟨hC1, hC6, hx10⟩ := goodDeps_C hg1
      obtain ⟨td1, td2⟩ := goodDep_told hC6 hg2
      obtain ⟨⟨a1, a2, a3, a4⟩, ⟨b1, b2, b3, b4⟩⟩ := RDep.at_iff HD2.out
      have K1 := Hid.mk (tellingsOf_any a n c xs w2.drew HZ.out (by omega) (Cols.of hg1) (AtSl.below HA2.out ((Below.refl _ _).drew)))
      have HTD := Hid.mk (And.intro td1 td2)
      have HAT := Hid.mk (And.intro a3 b3)
      have HLT := Hid.mk (And.intro a1 b1)
      clear a1 a3 a4 b1 b3 b4 td1 td2 hx10
      go_wp2_with fail
      refine wp_region_held_drew (S := fun w' => w'.cell? ⟨w.heap.size, 0, none⟩ = some (.slice fa fn fc) ∧ w'.cell? ⟨w.heap.size, 1, none⟩ = some (.slice ta tn tc)) (by kernel_rfl) ?_ (fun hHeld => ?_)
      · (try dsimp only)
        exact ⟨q0, q1⟩
      refine wpAnyH_take (i := 0) (oi := ?_) (v := ?_) ?_ (by kernel_rfl) (by kernel_rfl) (by kernel_rfl) ?_ (Or.inl ⟨?_, ?_⟩) (by assumption) ?_
      rotate_left 2
      · (simp only [List.getElem?_toArray, List.getElem?_cons_zero]; rfl)
      · exact fun _ _ _ h => h
      · rfl
      · (intro wS hSw; (try dsimp only at hSw); go_simp; (try with_reducible rfl))
      (try simp only [Act.put, List.setIfInBounds_toArray, List.set_cons_zero, List.set_cons_succ])
      refine wpAnyH_take (i := 2) (oi := ?_) (v := ?_) ?_ (by kernel_rfl) (by kernel_rfl) (by kernel_rfl) ?_ (Or.inl ⟨?_, ?_⟩) (by assumption) ?_
      rotate_left 2
      · (simp only [List.getElem?_toArray, List.getElem?_cons_zero, List.getElem?_cons_succ]; rfl)
      · exact fun _ _ _ h => h
      · rfl
      · (intro wS hSw; (try dsimp only at hSw); go_simp; (try with_reducible rfl))
      (try simp only [Act.put, List.setIfInBounds_toArray, List.set_cons_zero, List.set_cons_succ])
      refine wpAnyH_ready (rs := [1]) (by kernel_rfl) (by simp) ?_
      refine AllReadyH.cons (o := ?_) ?_ (fun K hK => ?_) AllReadyH.nil
      rotate_left
      · (simp only [List.getElem?_toArray, List.getElem?_cons_zero, List.getElem?_cons_succ]; rfl)
      go_simp
      go_at_call 40
      refine K1.out.mono ?_
      rintro e w3 ⟨r3, d3, rfl, hat3, hb3⟩
      have e0 := cell_later hb3 q0
      have e1 := cell_later hb3 q1
      have AT3 := Hid.mk hat3
      have BB3 := Hid.mk ((Below.refl w2.heap.size w2).drew.trans hb3)
      clear hat3 hb3
      (try go_wp2_with fail)
      refine hK.out _ _ ?_ (fun hHeld' => ?_)
      · (try dsimp only)
        exact ⟨e0, e1⟩
      clear hK K hHeld
      have hHeld := hHeld'
      clear hHeld'
      (try simp only [Act.put, List.setIfInBounds_toArray, List.set_cons_zero, List.set_cons_succ])
      refine wpAnyH_ready (rs := [3]) (by kernel_rfl) (by simp) ?_
      refine AllReadyH.cons (o := ?_) ?_ (fun K hK => ?_) AllReadyH.nil
      rotate_left
      · (simp only [List.getElem?_toArray, List.getElem?_cons_zero, List.getElem?_cons_succ]; rfl)
      go_simp
      go_at_call 68
      refine (tellingOf_any fa fn fc ta tn tc d.1 d.2 w3 HLT.out.1 a2 (At.below HAT.out.1 BB3.out) HLT.out.2 b2 (At.below HAT.out.2 BB3.out) HTD.out.1.in HTD.out.2.in).mono ?_
      rintro e w4 ⟨rfl, hb4⟩
      have e0 := cell_later hb4 e0
      have e1 := cell_later hb4 e1
      have AT4 := Hid.mk (AtSl.below AT3.out hb4)
      have BB4 := Hid.mk (BB3.out.trans (hb4.mono BB3.out.size))
      clear hb4
      (try go_wp2_with fail)
      refine hK.out _ _ ?_ (fun hHeld' => ?_)
      · (try dsimp only)
        exact ⟨e0, e1⟩
      clear hK K hHeld
      have hHeld := hHeld'
      clear hHeld'
      (try simp only [Act.put, List.setIfInBounds_toArray, List.set_cons_zero, List.set_cons_succ])
      refine wpAnyH_ready (rs := [4]) (by kernel_rfl) (by simp) ?_
      refine AllReadyH.cons (o := ?_) ?_ (fun K hK => ?_) AllReadyH.nil
      rotate_left
      · (simp only [List.getElem?_toArray, List.getElem?_cons_zero, List.getElem?_cons_succ]; rfl)
      go_simp
      go_at_call 73
      refine (implied_any r3 n d3 (dms xs) (mk d.1) (mk d.2) w4 (by simp [dms]; exact HZ.out) (by omega) (Cols.of hg1).sets HTD.out.1.lt HTD.out.2.lt AT4.out).mono ?_
      rintro e w5 ⟨rfl, hb5⟩
      have e0 := cell_later hb5 e0
      have e1 := cell_later hb5 e1
      have BB5 := Hid.mk (BB4.out.trans (hb5.mono BB4.out.size))
      clear hb5
      (try go_wp2_with fail)
      refine hK.out _ _ ?_ (fun hHeld' => ?_)
      · (try dsimp only)
        exact ⟨e0, e1⟩
      clear hK K hHeld
      have hHeld := hHeld'
      clear hHeld'
      (try simp only [Act.put, List.setIfInBounds_toArray, List.set_cons_zero, List.set_cons_succ])
      refine wpAnyH_take (i := 5) (oi := ?_) (v := ?_) ?_ (by kernel_rfl) (by kernel_rfl) (by kernel_rfl) ?_ (Or.inl ⟨?_, ?_⟩) (by assumption) ?_
      rotate_left 2
      · (simp only [List.getElem?_toArray, List.getElem?_cons_zero, List.getElem?_cons_succ]; rfl)
      · exact fun _ _ _ h => h
      · rfl
      · (intro wS hSw; (try dsimp only at hSw); go_simp; (try with_reducible rfl))
      (try simp only [Act.put, List.setIfInBounds_toArray, List.set_cons_zero, List.set_cons_succ])
      refine wpAnyH_take (i := 6) (oi := ?_) (v := ?_) ?_ (by kernel_rfl) (by kernel_rfl) (by kernel_rfl) ?_ (Or.inl ⟨?_, ?_⟩) (by assumption) ?_
      rotate_left 2
      · (simp only [List.getElem?_toArray, List.getElem?_cons_zero, List.getElem?_cons_succ]; rfl)
      · exact fun _ _ _ h => h
      · rfl
      · (intro wS hSw; (try dsimp only at hSw); go_simp; (try with_reducible rfl))
      (try simp only [Act.put, List.setIfInBounds_toArray, List.set_cons_zero, List.set_cons_succ])
      refine wpAnyH_done (by kernel_rfl) ?_ _
      go_wp2
      exact bodyPost_ret (v := .tuple #[.bool (sb (mk d.2) (clo (dms xs) (mk d.1))), .bool true]) (by simp [results, Tryd.results47, go_sem]) rfl ⟨by rw [impB_two hg1, hg2]; rfl, B2.trans (BB5.out.mono B2.size)⟩

set_option maxRecDepth 100000 in
set_option maxHeartbeats 2000000 in
theorem l7Implies_any (a : Option Addr) (n c : Nat) (xs : List Dep) (fa : Option Addr) (fn fc : Nat) (ta : Option Addr) (tn tc : Nat) (d : Dep) (w : World) (hz : xs.length = n) (hn : n ≤ 1048576) (hs : Tolds xs) (ha : AtD w a xs) (h1 : Told d.1) (h2 : Told d.2) (hd : RDep.At w [.slice fa fn fc, .slice ta tn tc] d) :
    Calls Tryd.prog 58 #[.slice a n c, .agg #[.slice fa fn fc, .slice ta tn tc]] w fun e w' => e = .returned (.bool (impV xs d)) ∧ Below w.heap.size w w' := by
  obtain ⟨W, hW⟩ : ∃ W, W = w.alloc (.cells #[.slice fa fn fc, .slice ta tn tc] 43) := ⟨_, rfl⟩
  have B0 : Below w.heap.size w W := by rw [hW]; exact (Below.refl _ _).alloc (Nat.le_refl _) _
  have q0 : W.cell? ⟨w.heap.size, 0, none⟩ = some (.slice fa fn fc) := by rw [hW]; simp
  have q1 : W.cell? ⟨w.heap.size, 1, none⟩ = some (.slice ta tn tc) := by rw [hW]; simp
  obtain ⟨⟨a1, a2, a3, a4⟩, ⟨b1, b2, b3, b4⟩⟩ := RDep.at_iff hd
  have K1 := Hid.mk (l7Closure_any a n c xs fa fn fc d.1 W.drew hz hn hs (AtSl.below ha B0.drew) h1 a1 (At.below a3 B0.drew) a4)
  have HAT := Hid.mk (At.below b3 B0.drew)
  have HLT := Hid.mk b1
  have HTD := Hid.mk h2
  clear ha hd hz hs h1 h2 a1 a3 a4 b1 b3 b4
  go_enter Tryd.func58, Tryd.ntmps58
  go_wp2_with fail
  rw [← hW]
  clear hW
  refine wp_region_held_drew (S := fun w' => w'.cell? ⟨w.heap.size, 0, none⟩ = some (.slice fa fn fc) ∧ w'.cell? ⟨w.heap.size, 1, none⟩ = some (.slice ta tn tc)) (by kernel_rfl) ?_ (fun hHeld => ?_)
  · (try dsimp only)
    exact ⟨q0, q1⟩
  refine wpAnyH_take (i := 0) (oi := ?_) (v := ?_) ?_ (by kernel_rfl) (by kernel_rfl) (by kernel_rfl) ?_ (Or.inl ⟨?_, ?_⟩) (by assumption) ?_
  rotate_left 2
  · (simp only [List.getElem?_toArray, List.getElem?_cons_zero]; rfl)
  · exact fun _ _ _ h => h
  · rfl
  · (intro wS hSw; (try dsimp only at hSw); go_simp; (try with_reducible rfl))
  (try simp only [Act.put, List.setIfInBounds_toArray, List.set_cons_zero, List.set_cons_succ])
  refine wpAnyH_take (i := 1) (oi := ?_) (v := ?_) ?_ (by kernel_rfl) (by kernel_rfl) (by kernel_rfl) ?_ (Or.inl ⟨?_, ?_⟩) (by assumption) ?_
  rotate_left 2
  · (simp only [List.getElem?_toArray, List.getElem?_cons_zero, List.getElem?_cons_succ]; rfl)
  · exact fun _ _ _ h => h
  · rfl
  · (intro wS hSw; (try dsimp only at hSw); go_simp; (try with_reducible rfl))
  (try simp only [Act.put, List.setIfInBounds_toArray, List.set_cons_zero, List.set_cons_succ])
  refine wpAnyH_take (i := 2) (oi := ?_) (v := ?_) ?_ (by kernel_rfl) (by kernel_rfl) (by kernel_rfl) ?_ (Or.inl ⟨?_, ?_⟩) (by assumption) ?_
  rotate_left 2
  · (simp only [List.getElem?_toArray, List.getElem?_cons_zero, List.getElem?_cons_succ]; rfl)
  · exact fun _ _ _ h => h
  · rfl
  · (intro wS hSw; (try dsimp only at hSw); go_simp; (try with_reducible rfl))
  (try simp only [Act.put, List.setIfInBounds_toArray, List.set_cons_zero, List.set_cons_succ])
  refine wpAnyH_take (i := 4) (oi := ?_) (v := ?_) ?_ (by kernel_rfl) (by kernel_rfl) (by kernel_rfl) ?_ (Or.inl ⟨?_, ?_⟩) (by assumption) ?_
  rotate_left 2
  · (simp only [List.getElem?_toArray, List.getElem?_cons_zero, List.getElem?_cons_succ]; rfl)
  · exact fun _ _ _ h => h
  · rfl
  · (intro wS hSw; (try dsimp only at hSw); go_simp; (try with_reducible rfl))
  (try simp only [Act.put, List.setIfInBounds_toArray, List.set_cons_zero, List.set_cons_succ])
  refine wpAnyH_take (i := 5) (oi := ?_) (v := ?_) ?_ (by kernel_rfl) (by kernel_rfl) (by kernel_rfl) ?_ (Or.inl ⟨?_, ?_⟩) (by assumption) ?_
  rotate_left 2
  · (simp only [List.getElem?_toArray, List.getElem?_cons_zero, List.getElem?_cons_succ]; rfl)
  · exact fun _ _ _ h => h
  · rfl
  · (intro wS hSw; (try dsimp only at hSw); go_simp; (try with_reducible rfl))
  (try simp only [Act.put, List.setIfInBounds_toArray, List.set_cons_zero, List.set_cons_succ])
  refine wpAnyH_ready (rs := [3]) (by kernel_rfl) (by simp) ?_
  refine AllReadyH.cons (o := ?_) ?_ (fun K hK => ?_) AllReadyH.nil
  rotate_left
  · (simp only [List.getElem?_toArray, List.getElem?_cons_zero, List.getElem?_cons_succ]; rfl)
  go_simp
  go_at_call 36
  refine K1.out.mono ?_
  rintro e w3 ⟨T, r3, m3, d3, hT, rfl, hm3, ho3, hb3⟩
  have e0 := cell_later hb3 q0
  have e1 := cell_later hb3 q1
  have HO3 := Hid.mk ho3
  have BB3 := Hid.mk hb3
  have HT := Hid.mk hT
  have hm6 : m3 ≤ 6 := by rw [← hm3]; exact bl_len T
  have HM3 := Hid.mk hm3
  clear ho3 hb3 hT hm3
  (try go_wp2_with fail)
  refine hK.out _ _ ?_ (fun hHeld' => ?_)
  · (try dsimp only)
    exact ⟨e0, e1⟩
  clear hK K hHeld
  have hHeld := hHeld'
  clear hHeld'
  (try simp only [Act.put, List.setIfInBounds_toArray, List.set_cons_zero, List.set_cons_succ])
  refine wpAnyH_ready (rs := [6]) (by kernel_rfl) (by simp) ?_
  refine AllReadyH.cons (o := ?_) ?_ (fun K hK => ?_) AllReadyH.nil
  rotate_left
  · (simp only [List.getElem?_toArray, List.getElem?_cons_zero, List.getElem?_cons_succ]; rfl)
  go_simp
  go_at_call 65
  refine (l7All_any r3 m3 d3 (bl T) ta tn tc d.2 w3 HM3.out (by omega) (At.owned HO3.out) HLT.out b2 (At.below HAT.out BB3.out)).mono ?_
  rintro e w4 ⟨rfl, rfl⟩
  (try go_wp2_with fail)
  refine hK.out _ _ ?_ (fun hHeld' => ?_)
  · (try dsimp only)
    exact ⟨e0, e1⟩
  clear hK K hHeld
  have hHeld := hHeld'
  clear hHeld'
  (try simp only [Act.put, List.setIfInBounds_toArray, List.set_cons_zero, List.set_cons_succ])
  refine wpAnyH_take (i := 7) (oi := ?_) (v := ?_) ?_ (by kernel_rfl) (by kernel_rfl) (by kernel_rfl) ?_ (Or.inl ⟨?_, ?_⟩) (by assumption) ?_
  rotate_left 2
  · (simp only [List.getElem?_toArray, List.getElem?_cons_zero, List.getElem?_cons_succ]; rfl)
  · exact fun _ _ _ h => h
  · rfl
  · (intro wS hSw; (try dsimp only at hSw); go_simp; (try with_reducible rfl))
  (try simp only [Act.put, List.setIfInBounds_toArray, List.set_cons_zero, List.set_cons_succ])
  refine wpAnyH_done (by kernel_rfl) ?_ _
  have HE : Hid ((d.2.all fun k => decide (k ∈ bl T)) = impV xs d) := by
    show _ = _
    unfold impV
    rw [HT.out.clo_eq]
    have h9 := all_bl (D := mk d.2) (T := T) HTD.out.lt
    rw [HTD.out.is] at h9
    exact h9
  go_wp2
  go_ret
  exact ⟨by rw [← HE.out]; rfl, B0.drew.trans (BB3.out.mono B0.size)⟩

set_option maxRecDepth 100000 in
set_option maxHeartbeats 4000000 in
theorem specImplies (a : Option Addr) (n c : Nat) (xs : List Dep) (C : Int) (fa : Option Addr) (fn fc : Nat) (ta : Option Addr) (tn tc : Nat) (d : Dep) (w : World) (hz : xs.length = n) (hn : n ≤ 1048576) (ha : AtD w a xs) (hd : RDep.At w [.slice fa fn fc, .slice ta tn tc] d) :
    Calls Tryd.prog 44 #[.slice a n c, .int .i64 C, .agg #[.slice fa fn fc, .slice ta tn tc]] w fun e w' => e = .returned (.tuple #[.bool (impB xs C d && impV xs d), .bool (impB xs C d)]) ∧ Below w.heap.size w w' := by
  obtain ⟨W, hW⟩ : ∃ W, W = w.alloc (.cells #[.slice fa fn fc, .slice ta tn tc] 43) := ⟨_, rfl⟩
  have B0 : Below w.heap.size w W := by rw [hW]; exact (Below.refl _ _).alloc (Nat.le_refl _) _
  have q0 : W.cell? ⟨w.heap.size, 0, none⟩ = some (.slice fa fn fc) := by rw [hW]; simp
  have q1 : W.cell? ⟨w.heap.size, 1, none⟩ = some (.slice ta tn tc) := by rw [hW]; simp
  have HA := Hid.mk (AtSl.below ha B0)
  have HD := Hid.mk (RDep.below hd B0)
  have HZ := Hid.mk hz
  clear ha hd hz
  go_enter Tryd.func44, Tryd.ntmps44
  go_wp2_with fail
  rw [← hW]
  clear hW
  refine (specGoodDepends a n c xs C W HZ.out (by omega) HA.out).mono ?_
  rintro e w1 ⟨rfl, hb1⟩
  have q0 := cell_later hb1 q0
  have q1 := cell_later hb1 q1
  have HA1 := Hid.mk (AtSl.below HA.out hb1)
  have HD1 := Hid.mk (RDep.below HD.out hb1)
  have B1 := B0.trans (hb1.mono B0.size)
  clear hb1 HA HD B0
  cases hg1 : goodDeps xs C with
  | false =>
    go_wp2
    exact bodyPost_ret (v := .tuple #[.bool false, .bool false]) (by simp [results, Tryd.results44, go_sem]) rfl ⟨by rw [impB_no1 hg1]; rfl, B1⟩
  | true =>
    obtain ⟨⟨a1, a2, a3, _⟩, ⟨b1, b2, b3, _⟩⟩ := RDep.at_iff HD1.out
    have K1 := Hid.mk (l7Depend_any fa fn fc ta tn tc d.1 d.2 C w1 a1 a2 a3 b1 b2 b3)
    clear a1 a3 b1 b3
    go_wp2_with fail
    refine K1.out.mono ?_
    rintro e w2 ⟨rfl, hb2⟩
    have q0 := cell_later hb2 q0
    have q1 := cell_later hb2 q1
    have HA2 := Hid.mk (AtSl.below HA1.out hb2)
    have HD2 := Hid.mk (RDep.below HD1.out hb2)
    have B2 := B1.trans (hb2.mono B1.size)
    clear hb2 HA1 HD1 B1 K1
    have hgd : (ris C d.1 && ris C d.2) = goodDep C d := rfl
    rw [hgd]
    clear hgd
    cases hg2 : goodDep C d with
    | false =>
      go_wp2
      exact bodyPost_ret (v := .tuple #[.bool false, .bool false]) (by simp [results, Tryd.results44, go_sem]) rfl ⟨by rw [impB_two hg1, hg2]; rfl, B2⟩
    | true =>
      obtain ⟨hC1, hC6, hx10⟩ := goodDeps_C hg1
      obtain ⟨td1, td2⟩ := goodDep_told hC6 hg2
      have K2 := Hid.mk (l7Implies_any a n c xs fa fn fc ta tn tc d w2 HZ.out hn (Tolds.of hg1) HA2.out td1 td2 HD2.out)
      clear td1 td2 hx10
      go_wp2_with fail
      refine K2.out.mono ?_
      rintro e w3 ⟨rfl, hb3⟩
      have HB3 := Hid.mk (B2.trans (hb3.mono B2.size))
      clear hb3
      go_wp2
      exact bodyPost_ret (v := .tuple #[.bool (impV xs d), .bool true]) (by simp [results, Tryd.results44, go_sem]) rfl ⟨by rw [impB_two hg1, hg2]; rfl, HB3.out⟩

end Go.Proofs.YtkcfhlpdenjimaaDoor

/- Plain: covers over sets of columns. -/
namespace Go.Proofs.YtkcfhlpdenjimaaDoor
open Go.RowKit

def addT (M : List (Nat × Nat)) (p : Nat × Nat) : List (Nat × Nat) := if p ∈ M then M else M ++ [p]
def partT (f : Nat) (M : List (Nat × Nat)) (ks : List Int) : List (Nat × Nat) := ks.foldl (fun M k => addT M (f, 2 ^ k.toNat)) M
def partD (M : List (Nat × Nat)) (d : Dep) : List (Nat × Nat) := partT (mk d.1) M d.2
def partA (l : List Dep) : List (Nat × Nat) := l.foldl partD []
/-- A set without a column. -/
def wo (f : Nat) (c : Int) : Nat := f &&& (18446744073709551615 - 2 ^ c.toNat)
def tatT (M : List (Nat × Nat)) (i : Nat) : Nat × Nat := M.getD i (0, 0)
noncomputable def lessC (i : Nat) (M : List (Nat × Nat)) (c : Int) : List (Nat × Nat) := if sb (tatT M i).2 (clo M (wo (tatT M i).1 c)) then M.set i (wo (tatT M i).1 c, (tatT M i).2) else M
noncomputable def lessL (i : Nat) (M : List (Nat × Nat)) (cs : List Int) : List (Nat × Nat) := cs.foldl (lessC i) M
noncomputable def lessI (M : List (Nat × Nat)) (i : Nat) : List (Nat × Nat) := lessL i M (bl (tatT M i).1)
noncomputable def lessA (M : List (Nat × Nat)) (k : Nat) : List (Nat × Nat) := (List.range k).foldl lessI M
noncomputable def dropG : Nat → Nat → List (Nat × Nat) → List (Nat × Nat)
  | 0, _, M => M
  | f + 1, i, M => if sb (tatT M i).2 (clo (M.eraseIdx i) (tatT M i).1) then dropG f i (M.eraseIdx i) else dropG f (i + 1) M
noncomputable def dropA (M : List (Nat × Nat)) : List (Nat × Nat) := dropG M.length 0 M
noncomputable def coverM (l : List Dep) : List (Nat × Nat) := dropA (lessA (partA l) (partA l).length)
noncomputable def covB (l : List Dep) (C : Int) : Bool := goodDeps l C && decide ((coverM l).length ≤ 10)
def und (p : Nat × Nat) : Dep := (bl p.1, bl p.2)
noncomputable def covL (l : List Dep) (C : Int) : List Dep := if covB l C then (coverM l).map und else []

/-- All sets within the first q columns. -/
def Lim (q : Nat) (M : List (Nat × Nat)) : Prop := ∀ p ∈ M, p.1 < 2 ^ q ∧ p.2 < 2 ^ q
theorem pow64 {q : Nat} (h : q ≤ 6) : 2 ^ q ≤ 64 := by have : 2 ^ q ≤ 2 ^ 6 := Nat.pow_le_pow_right (by omega) h; omega
theorem Lim.sets {q : Nat} {M : List (Nat × Nat)} (h : Lim q M) (hq : q ≤ 6) : Sets M := fun p hp => by have := h p hp; have := pow64 hq; omega
theorem addT_len (M : List (Nat × Nat)) (p : Nat × Nat) : (addT M p).length ≤ M.length + 1 := by unfold addT; split <;> simp
theorem Lim.add {q : Nat} {M : List (Nat × Nat)} {p : Nat × Nat} (h : Lim q M) (hp : p.1 < 2 ^ q ∧ p.2 < 2 ^ q) : Lim q (addT M p) := by
  unfold addT
  split
  · exact h
  · intro x hx
    simp only [List.mem_append, List.mem_singleton] at hx
    rcases hx with hx | rfl
    · exact h x hx
    · exact hp
theorem partT_take {f : Nat} {M : List (Nat × Nat)} {ks : List Int} {j : Nat} (h : j < ks.length) : partT f M (ks.take (j + 1)) = addT (partT f M (ks.take j)) (f, 2 ^ (ks.getD j 0).toNat) := by
  rw [take_succ_getD ks j h]; unfold partT; rw [List.foldl_append]; rfl
theorem partA_take {l : List Dep} {i : Nat} {d : Dep} (h : l[i]? = some d) : partA (l.take (i + 1)) = partD (partA (l.take i)) d := by
  obtain ⟨hi, rfl⟩ := List.getElem?_eq_some_iff.1 h
  rw [List.take_succ_eq_append_getElem hi]; unfold partA; rw [List.foldl_append]; rfl
theorem partT_len (f : Nat) (M : List (Nat × Nat)) (ks : List Int) : (partT f M ks).length ≤ M.length + ks.length := by
  unfold partT
  induction ks generalizing M with
  | nil => simp
  | cons k ks ih => rw [List.foldl_cons]; have := ih (addT M (f, 2 ^ k.toNat)); have := addT_len M (f, 2 ^ k.toNat); simp; omega
theorem partT_lim {q f : Nat} {M : List (Nat × Nat)} {ks : List Int} (h : Lim q M) (hf : f < 2 ^ q) (hk : ∀ k ∈ ks, 0 ≤ k ∧ k < (q : Int)) : Lim q (partT f M ks) := by
  unfold partT
  induction ks generalizing M with
  | nil => exact h
  | cons k ks ih =>
    rw [List.foldl_cons]
    have hk0 := hk k (by simp)
    exact ih (h.add ⟨hf, Nat.pow_lt_pow_right (by omega) (by omega)⟩) (fun x hx => hk x (by simp [hx]))
theorem mk_lim {q : Nat} {l : List Int} (h : ris (q : Int) l = true) : mk l < 2 ^ q := by
  refine Nat.lt_pow_two_of_testBit (n := q) _ fun i hi => ?_
  cases hb : (mk l).testBit i with
  | false => rfl
  | true =>
    have := ((risB_mem h).2 _ ((mk_bit l (ris_nonneg h) i).1 hb)).2
    omega
theorem ris_range {q : Nat} {l : List Int} (h : ris (q : Int) l = true) : ∀ x ∈ l, 0 ≤ x ∧ x < (q : Int) := fun x hx => ⟨ris_nonneg h x hx, ((risB_mem h).2 x hx).2⟩
theorem partA_ok {q : Nat} (hq : q ≤ 6) : ∀ (l : List Dep), (∀ d ∈ l, ris (q : Int) d.1 = true ∧ ris (q : Int) d.2 = true) → ∀ i, i ≤ l.length → Lim q (partA (l.take i)) ∧ (partA (l.take i)).length ≤ i * 6 := by
  intro l hl i
  induction i with
  | zero => intro _; exact ⟨fun p hp => by simp [partA] at hp, by simp [partA]⟩
  | succ i ih =>
    intro hi
    obtain ⟨h1, h2⟩ := ih (by omega)
    have hd := hl l[i] (List.getElem_mem _)
    rw [partA_take (List.getElem?_eq_getElem (by omega : i < l.length))]
    refine ⟨partT_lim h1 (mk_lim hd.1) (ris_range hd.2), ?_⟩
    have h3 := partT_len (mk (l[i]).1) (partA (l.take i)) (l[i]).2
    have h4 := (Told.of (by omega) hd.2).len
    unfold partD
    omega
theorem tatT_of {M : List (Nat × Nat)} {i : Nat} {p : Nat × Nat} (h : M[i]? = some p) : tatT M i = p := by simp [tatT, List.getD, h]
theorem wo_lt {f : Nat} (c : Int) {b : Nat} (h : f < b) : wo f c < b := Nat.lt_of_le_of_lt Nat.and_le_left h
theorem lessC_len (i : Nat) (M : List (Nat × Nat)) (c : Int) : (lessC i M c).length = M.length := by unfold lessC; split <;> simp
theorem lessC_lim {q i : Nat} {M : List (Nat × Nat)} (c : Int) (h : Lim q M) (hi : i < M.length) : Lim q (lessC i M c) := by
  unfold lessC
  split
  · have hp := h (tatT M i) (by rw [tatT_of (List.getElem?_eq_getElem hi)]; exact List.getElem_mem _)
    intro x hx
    rcases List.mem_or_eq_of_mem_set hx with hx | rfl
    · exact h x hx
    · exact ⟨wo_lt c hp.1, hp.2⟩
  · exact h
theorem lessL_take {i : Nat} {M : List (Nat × Nat)} {cs : List Int} {j : Nat} (h : j < cs.length) : lessL i M (cs.take (j + 1)) = lessC i (lessL i M (cs.take j)) (cs.getD j 0) := by
  rw [take_succ_getD cs j h]; unfold lessL; rw [List.foldl_append]; rfl
theorem lessL_len (i : Nat) (M : List (Nat × Nat)) (cs : List Int) : (lessL i M cs).length = M.length := by
  unfold lessL
  induction cs generalizing M with
  | nil => rfl
  | cons c cs ih => rw [List.foldl_cons, ih, lessC_len]
theorem lessL_lim {q i : Nat} {M : List (Nat × Nat)} (cs : List Int) (h : Lim q M) (hi : i < M.length) : Lim q (lessL i M cs) := by
  unfold lessL
  induction cs generalizing M with
  | nil => exact h
  | cons c cs ih => rw [List.foldl_cons]; exact ih (lessC_lim c h hi) (by rw [lessC_len]; exact hi)
theorem lessA_succ (M : List (Nat × Nat)) (k : Nat) : lessA M (k + 1) = lessI (lessA M k) k := by unfold lessA; rw [List.range_succ, List.foldl_append]; rfl
theorem lessA_ok {q : Nat} {M : List (Nat × Nat)} (h : Lim q M) : ∀ k, k ≤ M.length → Lim q (lessA M k) ∧ (lessA M k).length = M.length := by
  intro k
  induction k with
  | zero => intro _; exact ⟨h, rfl⟩
  | succ k ih =>
    intro hk
    obtain ⟨h1, h2⟩ := ih (by omega)
    rw [lessA_succ]
    unfold lessI
    exact ⟨lessL_lim _ h1 (by omega), by rw [lessL_len, h2]⟩
theorem dropG_end {f i : Nat} {M : List (Nat × Nat)} (h : M.length - i = f) (hi : ¬ i < M.length) : dropG f i M = M := by
  obtain rfl : f = 0 := by omega
  rfl
theorem dropG_yes {i : Nat} {M : List (Nat × Nat)} (hi : i < M.length) (h : sb (tatT M i).2 (clo (M.eraseIdx i) (tatT M i).1) = true) : dropG (M.length - i) i M = dropG ((M.eraseIdx i).length - i) i (M.eraseIdx i) := by
  obtain ⟨f, hf⟩ : ∃ f, M.length - i = f + 1 := ⟨M.length - i - 1, by omega⟩
  rw [hf, dropG, if_pos h, show (M.eraseIdx i).length - i = f by rw [List.length_eraseIdx, if_pos hi]; omega]
theorem dropG_no {i : Nat} {M : List (Nat × Nat)} (hi : i < M.length) (h : sb (tatT M i).2 (clo (M.eraseIdx i) (tatT M i).1) = false) : dropG (M.length - i) i M = dropG (M.length - (i + 1)) (i + 1) M := by
  obtain ⟨f, hf⟩ : ∃ f, M.length - i = f + 1 := ⟨M.length - i - 1, by omega⟩
  rw [hf, dropG, if_neg (by rw [h]; simp), show M.length - (i + 1) = f by omega]
theorem Lim.erase {q : Nat} {M : List (Nat × Nat)} (h : Lim q M) (i : Nat) : Lim q (M.eraseIdx i) := fun p hp => h p (List.mem_of_mem_eraseIdx hp)
theorem dropG_lim {q : Nat} : ∀ (f i : Nat) (M : List (Nat × Nat)), Lim q M → Lim q (dropG f i M)
  | 0, _, _, h => h
  | f + 1, i, M, h => by
    unfold dropG
    split
    · exact dropG_lim f i _ (h.erase i)
    · exact dropG_lim f (i + 1) _ h
theorem dropG_len : ∀ (f i : Nat) (M : List (Nat × Nat)), (dropG f i M).length ≤ M.length
  | 0, _, _ => Nat.le_refl _
  | f + 1, i, M => by
    unfold dropG
    split
    · have h1 := dropG_len f i (M.eraseIdx i)
      have h2 : (M.eraseIdx i).length ≤ M.length := by rw [List.length_eraseIdx]; split <;> omega
      omega
    · exact dropG_len f (i + 1) M
theorem ris_bl_all : ∀ q : Nat, q < 7 → ∀ s : Nat, s < 64 → s < 2 ^ q → ris (q : Int) (bl s) = true := by decide +kernel

end Go.Proofs.YtkcfhlpdenjimaaDoor

/- Two tellings held equal. -/
namespace Go.Proofs.YtkcfhlpdenjimaaDoor
open Go.RowKit

set_option maxRecDepth 100000 in
theorem eqTell (F D F' D' : Nat) (w : World) : (Op.equalIn 10000 92 (.agg #[.int .u64 (F : Int), .int .u64 (D : Int)]) (.agg #[.int .u64 (F' : Int), .int .u64 (D' : Int)])).run Tryd.prog w = .ok (((F : Int) == (F' : Int)) && ((D : Int) == (D' : Int))) w := by
  rw [run_equalIn_agg w 9999 92 _ _ (by kernel_rfl) (by kernel_rfl)]
  have hf : (Tryd.prog.fieldsOf 92) = (match Tryd.prog.underlying 92 with | some (.struct fs) => fs | _ => #[]) := by kernel_rfl
  rw [hf, Tryd.underlying92]
  simp [Op.eqFields, go_sem]
  by_cases h1 : (F : Int) = (F' : Int) <;> by_cases h2 : (D : Int) = (D' : Int) <;> simp [h1, h2]

end Go.Proofs.YtkcfhlpdenjimaaDoor
