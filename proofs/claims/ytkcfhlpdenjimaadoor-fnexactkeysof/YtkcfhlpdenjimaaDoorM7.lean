/- Several texts of one proof, in build order: CloU, KeyP, StepV, StepW. -/
import Derived.Test.YtkcfhlpdenjimaaDoorM6
import Derived.Test.YtkcfhlpdenjimaaDoorM4

/- Contracts of implied, Implies, and the model's l7Implies, Implies. -/
namespace Go.Proofs.YtkcfhlpdenjimaaDoor
open Go.RowKit

noncomputable def impV (xs : List Dep) (d : Dep) : Bool := sb (mk d.2) (clo (dms xs) (mk d.1))
def impB (xs : List Dep) (C : Int) (d : Dep) : Bool := goodDeps xs C && goodDep C d
theorem impB_no1 {xs : List Dep} {C : Int} {d : Dep} (h : goodDeps xs C = false) : impB xs C d = false := by unfold impB; rw [h]; rfl
theorem goodDeps_C {xs : List Dep} {C : Int} (h : goodDeps xs C = true) : 1 ≤ C ∧ C ≤ 6 ∧ xs.length ≤ 10 := by
  simp only [goodDeps, Bool.and_eq_true, decide_eq_true_eq] at h
  exact ⟨h.1, h.2.1, h.2.2.1⟩
theorem goodDeps_one' {xs : List Dep} {C : Int} (h : goodDeps xs C = true) (d : Dep) : goodDeps [d] C = goodDep C d := by
  obtain ⟨h1, h2, _⟩ := goodDeps_C h
  rw [goodDeps_one, decide_eq_true h1, decide_eq_true h2]; rfl
theorem impB_two {xs : List Dep} {C : Int} {d : Dep} (h : goodDeps xs C = true) : impB xs C d = goodDep C d := by unfold impB; rw [h]; rfl
theorem goodDep_told {C : Int} {d : Dep} (hC : C ≤ 6) (h : goodDep C d = true) : Told d.1 ∧ Told d.2 := by
  simp only [goodDep, Bool.and_eq_true] at h
  exact ⟨Told.of hC h.1, Told.of hC h.2⟩

set_option maxRecDepth 100000 in
set_option maxHeartbeats 2000000 in
theorem implied_any (a : Option Addr) (n c : Nat) (xs : List (Nat × Nat)) (S D : Nat) (w : World) (hz : xs.length = n) (hn : n ≤ 9223372036854775807) (hs : Sets xs) (hS : S < 64) (hD : D < 64) (ha : AtT w a xs) :
    Calls Tryd.prog 73 #[.slice a n c, .agg #[.int .u64 (S : Nat), .int .u64 (D : Nat)]] w fun e w' => e = .returned (.bool (sb D (clo xs S))) ∧ Below w.heap.size w w' := by
  obtain ⟨W, hW⟩ : ∃ W, W = w.alloc (.cells #[.int .u64 (S : Nat), .int .u64 (D : Nat)] 92) := ⟨_, rfl⟩
  have B0 : Below w.heap.size w W := by rw [hW]; exact (Below.refl _ _).alloc (Nat.le_refl _) _
  have q0 : W.cell? ⟨w.heap.size, 0, none⟩ = some (.int .u64 (S : Nat)) := by rw [hW]; simp
  have q1 : W.cell? ⟨w.heap.size, 1, none⟩ = some (.int .u64 (D : Nat)) := by rw [hW]; simp
  have C1 := Hid.mk (closure_any a n c xs S W.drew hz hn hs hS (AtSl.below ha B0.drew))
  clear ha hz hs
  go_enter Tryd.func73, Tryd.ntmps73
  go_wp2_with fail
  rw [← hW]
  clear hW
  refine wp_region_held_drew (S := fun w' => w'.cell? ⟨w.heap.size, 0, none⟩ = some (.int .u64 (S : Nat)) ∧ w'.cell? ⟨w.heap.size, 1, none⟩ = some (.int .u64 (D : Nat))) (by kernel_rfl) ?_ (fun hHeld => ?_)
  · (try dsimp only)
    exact ⟨q0, q1⟩
  refine wpAnyH_take (i := 0) (oi := ?_) (v := ?_) ?_ (by kernel_rfl) (by kernel_rfl) (by kernel_rfl) ?_ (Or.inl ⟨?_, ?_⟩) (by assumption) ?_
  rotate_left 2
  · (simp only [List.getElem?_toArray, List.getElem?_cons_zero]; rfl)
  · exact fun _ _ _ h => h
  · rfl
  · (intro wS hSw; (try dsimp only at hSw); go_simp; (try with_reducible rfl))
  (try simp only [Act.put, List.setIfInBounds_toArray, List.set_cons_zero, List.set_cons_succ])
  refine wpAnyH_take (i := 1) (oi := ?_) (v := ?_) ?_ (by kernel_rfl) (by kernel_rfl) (by kernel_rfl) ?_ (Or.inl ⟨?_, ?_⟩) (by assumption) ?_
  rotate_left 2
  · (simp only [List.getElem?_toArray, List.getElem?_cons_zero, List.getElem?_cons_succ]; rfl)
  · exact fun _ _ _ h => h
  · rfl
  · (intro wS hSw; (try dsimp only at hSw); go_simp; (try with_reducible rfl))
  (try simp only [Act.put, List.setIfInBounds_toArray, List.set_cons_zero, List.set_cons_succ])
  refine wpAnyH_take (i := 2) (oi := ?_) (v := ?_) ?_ (by kernel_rfl) (by kernel_rfl) (by kernel_rfl) ?_ (Or.inl ⟨?_, ?_⟩) (by assumption) ?_
  rotate_left 2
  · (simp only [List.getElem?_toArray, List.getElem?_cons_zero, List.getElem?_cons_succ]; rfl)
  · exact fun _ _ _ h => h
  · rfl
  · (intro wS hSw; (try dsimp only at hSw); go_simp; (try with_reducible rfl))
  (try simp only [Act.put, List.setIfInBounds_toArray, List.set_cons_zero, List.set_cons_succ])
  refine wpAnyH_take (i := 4) (oi := ?_) (v := ?_) ?_ (by kernel_rfl) (by kernel_rfl) (by kernel_rfl) ?_ (Or.inl ⟨?_, ?_⟩) (by assumption) ?_
  rotate_left 2
  · (simp only [List.getElem?_toArray, List.getElem?_cons_zero, List.getElem?_cons_succ]; rfl)
  · exact fun _ _ _ h => h
  · rfl
  · (intro wS hSw; (try dsimp only at hSw); go_simp; (try with_reducible rfl))
  (try simp only [Act.put, List.setIfInBounds_toArray, List.set_cons_zero, List.set_cons_succ])
  refine wpAnyH_take (i := 5) (oi := ?_) (v := ?_) ?_ (by kernel_rfl) (by kernel_rfl) (by kernel_rfl) ?_ (Or.inl ⟨?_, ?_⟩) (by assumption) ?_
  rotate_left 2
  · (simp only [List.getElem?_toArray, List.getElem?_cons_zero, List.getElem?_cons_succ]; rfl)
  · exact fun _ _ _ h => h
  · rfl
  · (intro wS hSw; (try dsimp only at hSw); go_simp; (try with_reducible rfl))
  (try simp only [Act.put, List.setIfInBounds_toArray, List.set_cons_zero, List.set_cons_succ])
  refine wpAnyH_ready (rs := [3]) (by kernel_rfl) (by simp) ?_
  refine AllReadyH.cons (o := ?_) ?_ (fun K hK => ?_) AllReadyH.nil
  rotate_left
  · (simp only [List.getElem?_toArray, List.getElem?_cons_zero, List.getElem?_cons_succ]; rfl)
  go_simp
  go_at_call 39
  refine C1.out.mono ?_
  rintro e w2 ⟨T, hT, rfl, hb2⟩
  have e0 := cell_later hb2 q0
  have e1 := cell_later hb2 q1
  have HB2 := Hid.mk (B0.drew.trans (hb2.mono B0.size))
  clear hb2
  (try go_wp2_with fail)
  refine hK.out _ _ ?_ (fun hHeld' => ?_)
  · (try dsimp only)
    exact ⟨e0, e1⟩
  clear hK K hHeld
  have hHeld := hHeld'
  clear hHeld'
  (try simp only [Act.put, List.setIfInBounds_toArray, List.set_cons_zero, List.set_cons_succ])
  refine wpAnyH_ready (rs := [6]) (by kernel_rfl) (by simp) ?_
  refine AllReadyH.cons (o := ?_) ?_ (fun K hK => ?_) AllReadyH.nil
  rotate_left
  · (simp only [List.getElem?_toArray, List.getElem?_cons_zero, List.getElem?_cons_succ]; rfl)
  go_simp
  go_at_call 55
  refine (has_any T D w2 hT.lt hD).mono ?_
  rintro e w3 ⟨rfl, rfl⟩
  (try go_wp2_with fail)
  refine hK.out _ _ ?_ (fun hHeld' => ?_)
  · (try dsimp only)
    exact ⟨e0, e1⟩
  clear hK K hHeld
  have hHeld := hHeld'
  clear hHeld'
  (try simp only [Act.put, List.setIfInBounds_toArray, List.set_cons_zero, List.set_cons_succ])
  refine wpAnyH_take (i := 7) (oi := ?_) (v := ?_) ?_ (by kernel_rfl) (by kernel_rfl) (by kernel_rfl) ?_ (Or.inl ⟨?_, ?_⟩) (by assumption) ?_
  rotate_left 2
  · (simp only [List.getElem?_toArray, List.getElem?_cons_zero, List.getElem?_cons_succ]; rfl)
  · exact fun _ _ _ h => h
  · rfl
  · (intro wS hSw; (try dsimp only at hSw); go_simp; (try with_reducible rfl))
  (try simp only [Act.put, List.setIfInBounds_toArray, List.set_cons_zero, List.set_cons_succ])
  refine wpAnyH_done (by kernel_rfl) ?_ _
  have HT := Hid.mk hT.clo_eq
  clear hT
  go_wp2
  go_ret
  exact ⟨by rw [HT.out]; rfl, HB2.out⟩

set_option maxRecDepth 100000 in
set_option maxHeartbeats 4000000 in
theorem implImplies (a : Option Addr) (n c : Nat) (xs : List Dep) (C : Int) (fa : Option Addr) (fn fc : Nat) (ta : Option Addr) (tn tc : Nat) (d : Dep) (w : World) (hz : xs.length = n) (hn : n ≤ 1048576) (ha : AtD w a xs) (hd : RDep.At w [.slice fa fn fc, .slice ta tn tc] d) :
    Calls Tryd.prog 47 #[.slice a n c, .int .i64 C, .agg #[.slice fa fn fc, .slice ta tn tc]] w fun e w' => e = .returned (.tuple #[.bool (impB xs C d && impV xs d), .bool (impB xs C d)]) ∧ Below w.heap.size w w' := by
  obtain ⟨W, hW⟩ : ∃ W, W = w.alloc (.cells #[.slice fa fn fc, .slice ta tn tc] 43) := ⟨_, rfl⟩
  have B0 : Below w.heap.size w W := by rw [hW]; exact (Below.refl _ _).alloc (Nat.le_refl _) _
  have q0 : W.cell? ⟨w.heap.size, 0, none⟩ = some (.slice fa fn fc) := by rw [hW]; simp
  have q1 : W.cell? ⟨w.heap.size, 1, none⟩ = some (.slice ta tn tc) := by rw [hW]; simp
  have HA := Hid.mk (AtSl.below ha B0)
  have HD := Hid.mk (RDep.below hd B0)
  have HZ := Hid.mk hz
  clear ha hd hz
  go_enter Tryd.func47, Tryd.ntmps47
  go_wp2_with fail
  rw [← hW]
  clear hW
  refine (implGoodDepends a n c xs C W HZ.out (by omega) HA.out).mono ?_
  rintro e w1 ⟨rfl, hb1⟩
  have q0 := cell_later hb1 q0
  have q1 := cell_later hb1 q1
  have HA1 := Hid.mk (AtSl.below HA.out hb1)
  have HD1 := Hid.mk (RDep.below HD.out hb1)
  have B1 := B0.trans (hb1.mono B0.size)
  clear hb1 HA HD B0
  cases hg1 : goodDeps xs C with
  | false =>
    go_wp2
    exact bodyPost_ret (v := .tuple #[.bool false, .bool false]) (by simp [results, Tryd.results47, go_sem]) rfl ⟨by rw [impB_no1 hg1]; rfl, B1⟩
  | true =>
    go_wp2_with fail
    refine (goodDepend_any fa fn fc ta tn tc d C w1 HD1.out).mono ?_
    rintro e w2 ⟨rfl, hb2⟩
    have q0 := cell_later hb2 q0
    have q1 := cell_later hb2 q1
    have HA2 := Hid.mk (AtSl.below HA1.out hb2)
    have HD2 := Hid.mk (RDep.below HD1.out hb2)
    have B2 := B1.trans (hb2.mono B1.size)
    clear hb2 HA1 HD1 B1
    rw [goodDeps_one' hg1]
    cases hg2 : goodDep C d with
    | false =>
      go_wp2
      exact bodyPost_ret (v := .tuple #[.bool false, .bool false]) (by simp [results, Tryd.results47, go_sem]) rfl ⟨by rw [impB_two hg1, hg2]; rfl, B2⟩
    | true =>
      obtain ⟨hC1, hC6, hx10⟩ := goodDeps_C hg1
      obtain ⟨td1, td2⟩ := goodDep_told hC6 hg2
      obtain ⟨⟨a1, a2, a3, a4⟩, ⟨b1, b2, b3, b4⟩⟩ := RDep.at_iff HD2.out
      have K1 := Hid.mk (tellingsOf_any a n c xs w2.drew HZ.out (by omega) (Cols.of hg1) (AtSl.below HA2.out ((Below.refl _ _).drew)))
      have HTD := Hid.mk (And.intro td1 td2)
      have HAT := Hid.mk (And.intro a3 b3)
      have HLT := Hid.mk (And.intro a1 b1)
      clear a1 a3 a4 b1 b3 b4 td1 td2 hx10
      go_wp2_with fail
      refine wp_region_held_drew (S := fun w' => w'.cell? ⟨w.heap.size, 0, none⟩ = some (.slice fa fn fc) ∧ w'.cell? ⟨w.heap.size, 1, none⟩ = some (.slice ta tn tc)) (by kernel_rfl) ?_ (fun hHeld => ?_)
      · (try dsimp only)
        exact ⟨q0, q1⟩
      refine wpAnyH_take (i := 0) (oi := ?_) (v := ?_) ?_ (by kernel_rfl) (by kernel_rfl) (by kernel_rfl) ?_ (Or.inl ⟨?_, ?_⟩) (by assumption) ?_
      rotate_left 2
      · (simp only [List.getElem?_toArray, List.getElem?_cons_zero]; rfl)
      · exact fun _ _ _ h => h
      · rfl
      · (intro wS hSw; (try dsimp only at hSw); go_simp; (try with_reducible rfl))
      (try simp only [Act.put, List.setIfInBounds_toArray, List.set_cons_zero, List.set_cons_succ])
      refine wpAnyH_take (i := 2) (oi := ?_) (v := ?_) ?_ (by kernel_rfl) (by kernel_rfl) (by kernel_rfl) ?_ (Or.inl ⟨?_, ?_⟩) (by assumption) ?_
      rotate_left 2
      · (simp only [List.getElem?_toArray, List.getElem?_cons_zero, List.getElem?_cons_succ]; rfl)
      · exact fun _ _ _ h => h
      · rfl
      · (intro wS hSw; (try dsimp only at hSw); go_simp; (try with_reducible rfl))
      (try simp only [Act.put, List.setIfInBounds_toArray, List.set_cons_zero, List.set_cons_succ])
      refine wpAnyH_ready (rs := [1]) (by kernel_rfl) (by simp) ?_
      refine AllReadyH.cons (o := ?_) ?_ (fun K hK => ?_) AllReadyH.nil
      rotate_left
      · (simp only [List.getElem?_toArray, List.getElem?_cons_zero, List.getElem?_cons_succ]; rfl)
      go_simp
      go_at_call 40
      refine K1.out.mono ?_
      rintro e w3 ⟨r3, d3, rfl, hat3, hb3⟩
      have e0 := cell_later hb3 q0
      have e1 := cell_later hb3 q1
      have AT3 := Hid.mk hat3
      have BB3 := Hid.mk ((Below.refl w2.heap.size w2).drew.trans hb3)
      clear hat3 hb3
      (try go_wp2_with fail)
      refine hK.out _ _ ?_ (fun hHeld' => ?_)
      · (try dsimp only)
        exact ⟨e0, e1⟩
      clear hK K hHeld
      have hHeld := hHeld'
      clear hHeld'
      (try simp only [Act.put, List.setIfInBounds_toArray, List.set_cons_zero, List.set_cons_succ])
      refine wpAnyH_ready (rs := [3]) (by kernel_rfl) (by simp) ?_
      refine AllReadyH.cons (o := ?_) ?_ (fun K hK => ?_) AllReadyH.nil
      rotate_left
      · (simp only [List.getElem?_toArray, List.getElem?_cons_zero, List.getElem?_cons_succ]; rfl)
      go_simp
      go_at_call 68
      refine (tellingOf_any fa fn fc ta tn tc d.1 d.2 w3 HLT.out.1 a2 (At.below HAT.out.1 BB3.out) HLT.out.2 b2 (At.below HAT.out.2 BB3.out) HTD.out.1.in HTD.out.2.in).mono ?_
      rintro e w4 ⟨rfl, hb4⟩
      have e0 := cell_later hb4 e0
      have e1 := cell_later hb4 e1
      have AT4 := Hid.mk (AtSl.below AT3.out hb4)
      have BB4 := Hid.mk (BB3.out.trans (hb4.mono BB3.out.size))
      clear hb4
      (try go_wp2_with fail)
      refine hK.out _ _ ?_ (fun hHeld' => ?_)
      · (try dsimp only)
        exact ⟨e0, e1⟩
      clear hK K hHeld
      have hHeld := hHeld'
      clear hHeld'
      (try simp only [Act.put, List.setIfInBounds_toArray, List.set_cons_zero, List.set_cons_succ])
      refine wpAnyH_ready (rs := [4]) (by kernel_rfl) (by simp) ?_
      refine AllReadyH.cons (o := ?_) ?_ (fun K hK => ?_) AllReadyH.nil
      rotate_left
      · (simp only [List.getElem?_toArray, List.getElem?_cons_zero, List.getElem?_cons_succ]; rfl)
      go_simp
      go_at_call 73
      refine (implied_any r3 n d3 (dms xs) (mk d.1) (mk d.2) w4 (by simp [dms]; exact HZ.out) (by omega) (Cols.of hg1).sets HTD.out.1.lt HTD.out.2.lt AT4.out).mono ?_
      rintro e w5 ⟨rfl, hb5⟩
      have e0 := cell_later hb5 e0
      have e1 := cell_later hb5 e1
      have BB5 := Hid.mk (BB4.out.trans (hb5.mono BB4.out.size))
      clear hb5
      (try go_wp2_with fail)
      refine hK.out _ _ ?_ (fun hHeld' => ?_)
      · (try dsimp only)
        exact ⟨e0, e1⟩
      clear hK K hHeld
      have hHeld := hHeld'
      clear hHeld'
      (try simp only [Act.put, List.setIfInBounds_toArray, List.set_cons_zero, List.set_cons_succ])
      refine wpAnyH_take (i := 5) (oi := ?_) (v := ?_) ?_ (by kernel_rfl) (by kernel_rfl) (by kernel_rfl) ?_ (Or.inl ⟨?_, ?_⟩) (by assumption) ?_
      rotate_left 2
      · (simp only [List.getElem?_toArray, List.getElem?_cons_zero, List.getElem?_cons_succ]; rfl)
      · exact fun _ _ _ h => h
      · rfl
      · (intro wS hSw; (try dsimp only at hSw); go_simp; (try with_reducible rfl))
      (try simp only [Act.put, List.setIfInBounds_toArray, List.set_cons_zero, List.set_cons_succ])
      refine wpAnyH_take (i := 6) (oi := ?_) (v := ?_) ?_ (by kernel_rfl) (by kernel_rfl) (by kernel_rfl) ?_ (Or.inl ⟨?_, ?_⟩) (by assumption) ?_
      rotate_left 2
      · (simp only [List.getElem?_toArray, List.getElem?_cons_zero, List.getElem?_cons_succ]; rfl)
      · exact fun _ _ _ h => h
      · rfl
      · (intro wS hSw; (try dsimp only at hSw); go_simp; (try with_reducible rfl))
      (try simp only [Act.put, List.setIfInBounds_toArray, List.set_cons_zero, List.set_cons_succ])
      refine wpAnyH_done (by kernel_rfl) ?_ _
      go_wp2
      exact bodyPost_ret (v := .tuple #[.bool (sb (mk d.2) (clo (dms xs) (mk d.1))), .bool true]) (by simp [results, Tryd.results47, go_sem]) rfl ⟨by rw [impB_two hg1, hg2]; rfl, B2.trans (BB5.out.mono B2.size)⟩

set_option maxRecDepth 100000 in
set_option maxHeartbeats 2000000 in
theorem l7Implies_any (a : Option Addr) (n c : Nat) (xs : List Dep) (fa : Option Addr) (fn fc : Nat) (ta : Option Addr) (tn tc : Nat) (d : Dep) (w : World) (hz : xs.length = n) (hn : n ≤ 1048576) (hs : Tolds xs) (ha : AtD w a xs) (h1 : Told d.1) (h2 : Told d.2) (hd : RDep.At w [.slice fa fn fc, .slice ta tn tc] d) :
    Calls Tryd.prog 58 #[.slice a n c, .agg #[.slice fa fn fc, .slice ta tn tc]] w fun e w' => e = .returned (.bool (impV xs d)) ∧ Below w.heap.size w w' := by
  obtain ⟨W, hW⟩ : ∃ W, W = w.alloc (.cells #[.slice fa fn fc, .slice ta tn tc] 43) := ⟨_, rfl⟩
  have B0 : Below w.heap.size w W := by rw [hW]; exact (Below.refl _ _).alloc (Nat.le_refl _) _
  have q0 : W.cell? ⟨w.heap.size, 0, none⟩ = some (.slice fa fn fc) := by rw [hW]; simp
  have q1 : W.cell? ⟨w.heap.size, 1, none⟩ = some (.slice ta tn tc) := by rw [hW]; simp
  obtain ⟨⟨a1, a2, a3, a4⟩, ⟨b1, b2, b3, b4⟩⟩ := RDep.at_iff hd
  have K1 := Hid.mk (l7Closure_any a n c xs fa fn fc d.1 W.drew hz hn hs (AtSl.below ha B0.drew) h1 a1 (At.below a3 B0.drew) a4)
  have HAT := Hid.mk (At.below b3 B0.drew)
  have HLT := Hid.mk b1
  have HTD := Hid.mk h2
  clear ha hd hz hs h1 h2 a1 a3 a4 b1 b3 b4
  go_enter Tryd.func58, Tryd.ntmps58
  go_wp2_with fail
  rw [← hW]
  clear hW
  refine wp_region_held_drew (S := fun w' => w'.cell? ⟨w.heap.size, 0, none⟩ = some (.slice fa fn fc) ∧ w'.cell? ⟨w.heap.size, 1, none⟩ = some (.slice ta tn tc)) (by kernel_rfl) ?_ (fun hHeld => ?_)
  · (try dsimp only)
    exact ⟨q0, q1⟩
  refine wpAnyH_take (i := 0) (oi := ?_) (v := ?_) ?_ (by kernel_rfl) (by kernel_rfl) (by kernel_rfl) ?_ (Or.inl ⟨?_, ?_⟩) (by assumption) ?_
  rotate_left 2
  · (simp only [List.getElem?_toArray, List.getElem?_cons_zero]; rfl)
  · exact fun _ _ _ h => h
  · rfl
  · (intro wS hSw; (try dsimp only at hSw); go_simp; (try with_reducible rfl))
  (try simp only [Act.put, List.setIfInBounds_toArray, List.set_cons_zero, List.set_cons_succ])
  refine wpAnyH_take (i := 1) (oi := ?_) (v := ?_) ?_ (by kernel_rfl) (by kernel_rfl) (by kernel_rfl) ?_ (Or.inl ⟨?_, ?_⟩) (by assumption) ?_
  rotate_left 2
  · (simp only [List.getElem?_toArray, List.getElem?_cons_zero, List.getElem?_cons_succ]; rfl)
  · exact fun _ _ _ h => h
  · rfl
  · (intro wS hSw; (try dsimp only at hSw); go_simp; (try with_reducible rfl))
  (try simp only [Act.put, List.setIfInBounds_toArray, List.set_cons_zero, List.set_cons_succ])
  refine wpAnyH_take (i := 2) (oi := ?_) (v := ?_) ?_ (by kernel_rfl) (by kernel_rfl) (by kernel_rfl) ?_ (Or.inl ⟨?_, ?_⟩) (by assumption) ?_
  rotate_left 2
  · (simp only [List.getElem?_toArray, List.getElem?_cons_zero, List.getElem?_cons_succ]; rfl)
  · exact fun _ _ _ h => h
  · rfl
  · (intro wS hSw; (try dsimp only at hSw); go_simp; (try with_reducible rfl))
  (try simp only [Act.put, List.setIfInBounds_toArray, List.set_cons_zero, List.set_cons_succ])
  refine wpAnyH_take (i := 4) (oi := ?_) (v := ?_) ?_ (by kernel_rfl) (by kernel_rfl) (by kernel_rfl) ?_ (Or.inl ⟨?_, ?_⟩) (by assumption) ?_
  rotate_left 2
  · (simp only [List.getElem?_toArray, List.getElem?_cons_zero, List.getElem?_cons_succ]; rfl)
  · exact fun _ _ _ h => h
  · rfl
  · (intro wS hSw; (try dsimp only at hSw); go_simp; (try with_reducible rfl))
  (try simp only [Act.put, List.setIfInBounds_toArray, List.set_cons_zero, List.set_cons_succ])
  refine wpAnyH_take (i := 5) (oi := ?_) (v := ?_) ?_ (by kernel_rfl) (by kernel_rfl) (by kernel_rfl) ?_ (Or.inl ⟨?_, ?_⟩) (by assumption) ?_
  rotate_left 2
  · (simp only [List.getElem?_toArray, List.getElem?_cons_zero, List.getElem?_cons_succ]; rfl)
  · exact fun _ _ _ h => h
  · rfl
  · (intro wS hSw; (try dsimp only at hSw); go_simp; (try with_reducible rfl))
  (try simp only [Act.put, List.setIfInBounds_toArray, List.set_cons_zero, List.set_cons_succ])
  refine wpAnyH_ready (rs := [3]) (by kernel_rfl) (by simp) ?_
  refine AllReadyH.cons (o := ?_) ?_ (fun K hK => ?_) AllReadyH.nil
  rotate_left
  · (simp only [List.getElem?_toArray, List.getElem?_cons_zero, List.getElem?_cons_succ]; rfl)
  go_simp
  go_at_call 36
  refine K1.out.mono ?_
  rintro e w3 ⟨T, r3, m3, d3, hT, rfl, hm3, ho3, hb3⟩
  have e0 := cell_later hb3 q0
  have e1 := cell_later hb3 q1
  have HO3 := Hid.mk ho3
  have BB3 := Hid.mk hb3
  have HT := Hid.mk hT
  have hm6 : m3 ≤ 6 := by rw [← hm3]; exact bl_len T
  have HM3 := Hid.mk hm3
  clear ho3 hb3 hT hm3
  (try go_wp2_with fail)
  refine hK.out _ _ ?_ (fun hHeld' => ?_)
  · (try dsimp only)
    exact ⟨e0, e1⟩
  clear hK K hHeld
  have hHeld := hHeld'
  clear hHeld'
  (try simp only [Act.put, List.setIfInBounds_toArray, List.set_cons_zero, List.set_cons_succ])
  refine wpAnyH_ready (rs := [6]) (by kernel_rfl) (by simp) ?_
  refine AllReadyH.cons (o := ?_) ?_ (fun K hK => ?_) AllReadyH.nil
  rotate_left
  · (simp only [List.getElem?_toArray, List.getElem?_cons_zero, List.getElem?_cons_succ]; rfl)
  go_simp
  go_at_call 65
  refine (l7All_any r3 m3 d3 (bl T) ta tn tc d.2 w3 HM3.out (by omega) (At.owned HO3.out) HLT.out b2 (At.below HAT.out BB3.out)).mono ?_
  rintro e w4 ⟨rfl, rfl⟩
  (try go_wp2_with fail)
  refine hK.out _ _ ?_ (fun hHeld' => ?_)
  · (try dsimp only)
    exact ⟨e0, e1⟩
  clear hK K hHeld
  have hHeld := hHeld'
  clear hHeld'
  (try simp only [Act.put, List.setIfInBounds_toArray, List.set_cons_zero, List.set_cons_succ])
  refine wpAnyH_take (i := 7) (oi := ?_) (v := ?_) ?_ (by kernel_rfl) (by kernel_rfl) (by kernel_rfl) ?_ (Or.inl ⟨?_, ?_⟩) (by assumption) ?_
  rotate_left 2
  · (simp only [List.getElem?_toArray, List.getElem?_cons_zero, List.getElem?_cons_succ]; rfl)
  · exact fun _ _ _ h => h
  · rfl
  · (intro wS hSw; (try dsimp only at hSw); go_simp; (try with_reducible rfl))
  (try simp only [Act.put, List.setIfInBounds_toArray, List.set_cons_zero, List.set_cons_succ])
  refine wpAnyH_done (by kernel_rfl) ?_ _
  have HE : Hid ((d.2.all fun k => decide (k ∈ bl T)) = impV xs d) := by
    show _ = _
    unfold impV
    rw [HT.out.clo_eq]
    have h9 := all_bl (D := mk d.2) (T := T) HTD.out.lt
    rw [HTD.out.is] at h9
    exact h9
  go_wp2
  go_ret
  exact ⟨by rw [← HE.out]; rfl, B0.drew.trans (BB3.out.mono B0.size)⟩

set_option maxRecDepth 100000 in
set_option maxHeartbeats 4000000 in
theorem specImplies (a : Option Addr) (n c : Nat) (xs : List Dep) (C : Int) (fa : Option Addr) (fn fc : Nat) (ta : Option Addr) (tn tc : Nat) (d : Dep) (w : World) (hz : xs.length = n) (hn : n ≤ 1048576) (ha : AtD w a xs) (hd : RDep.At w [.slice fa fn fc, .slice ta tn tc] d) :
    Calls Tryd.prog 44 #[.slice a n c, .int .i64 C, .agg #[.slice fa fn fc, .slice ta tn tc]] w fun e w' => e = .returned (.tuple #[.bool (impB xs C d && impV xs d), .bool (impB xs C d)]) ∧ Below w.heap.size w w' := by
  obtain ⟨W, hW⟩ : ∃ W, W = w.alloc (.cells #[.slice fa fn fc, .slice ta tn tc] 43) := ⟨_, rfl⟩
  have B0 : Below w.heap.size w W := by rw [hW]; exact (Below.refl _ _).alloc (Nat.le_refl _) _
  have q0 : W.cell? ⟨w.heap.size, 0, none⟩ = some (.slice fa fn fc) := by rw [hW]; simp
  have q1 : W.cell? ⟨w.heap.size, 1, none⟩ = some (.slice ta tn tc) := by rw [hW]; simp
  have HA := Hid.mk (AtSl.below ha B0)
  have HD := Hid.mk (RDep.below hd B0)
  have HZ := Hid.mk hz
  clear ha hd hz
  go_enter Tryd.func44, Tryd.ntmps44
  go_wp2_with fail
  rw [← hW]
  clear hW
  refine (specGoodDepends a n c xs C W HZ.out (by omega) HA.out).mono ?_
  rintro e w1 ⟨rfl, hb1⟩
  have q0 := cell_later hb1 q0
  have q1 := cell_later hb1 q1
  have HA1 := Hid.mk (AtSl.below HA.out hb1)
  have HD1 := Hid.mk (RDep.below HD.out hb1)
  have B1 := B0.trans (hb1.mono B0.size)
  clear hb1 HA HD B0
  cases hg1 : goodDeps xs C with
  | false =>
    go_wp2
    exact bodyPost_ret (v := .tuple #[.bool false, .bool false]) (by simp [results, Tryd.results44, go_sem]) rfl ⟨by rw [impB_no1 hg1]; rfl, B1⟩
  | true =>
    obtain ⟨⟨a1, a2, a3, _⟩, ⟨b1, b2, b3, _⟩⟩ := RDep.at_iff HD1.out
    have K1 := Hid.mk (l7Depend_any fa fn fc ta tn tc d.1 d.2 C w1 a1 a2 a3 b1 b2 b3)
    clear a1 a3 b1 b3
    go_wp2_with fail
    refine K1.out.mono ?_
    rintro e w2 ⟨rfl, hb2⟩
    have q0 := cell_later hb2 q0
    have q1 := cell_later hb2 q1
    have HA2 := Hid.mk (AtSl.below HA1.out hb2)
    have HD2 := Hid.mk (RDep.below HD1.out hb2)
    have B2 := B1.trans (hb2.mono B1.size)
    clear hb2 HA1 HD1 B1 K1
    have hgd : (ris C d.1 && ris C d.2) = goodDep C d := rfl
    rw [hgd]
    clear hgd
    cases hg2 : goodDep C d with
    | false =>
      go_wp2
      exact bodyPost_ret (v := .tuple #[.bool false, .bool false]) (by simp [results, Tryd.results44, go_sem]) rfl ⟨by rw [impB_two hg1, hg2]; rfl, B2⟩
    | true =>
      obtain ⟨hC1, hC6, hx10⟩ := goodDeps_C hg1
      obtain ⟨td1, td2⟩ := goodDep_told hC6 hg2
      have K2 := Hid.mk (l7Implies_any a n c xs fa fn fc ta tn tc d w2 HZ.out hn (Tolds.of hg1) HA2.out td1 td2 HD2.out)
      clear td1 td2 hx10
      go_wp2_with fail
      refine K2.out.mono ?_
      rintro e w3 ⟨rfl, hb3⟩
      have HB3 := Hid.mk (B2.trans (hb3.mono B2.size))
      clear hb3
      go_wp2
      exact bodyPost_ret (v := .tuple #[.bool (impV xs d), .bool true]) (by simp [results, Tryd.results44, go_sem]) rfl ⟨by rw [impB_two hg1, hg2]; rfl, HB3.out⟩

end Go.Proofs.YtkcfhlpdenjimaaDoor

/- Plain: all rising lists of so many of so many, in their order. -/
namespace Go.Proofs.YtkcfhlpdenjimaaDoor
open Go.RowKit

def subsL (c : Nat) : Nat → Nat → List (List Int)
  | 0, _ => [[]]
  | m + 1, f => (List.range (c - f)).flatMap fun i => (subsL c m (f + i + 1)).map (((f + i : Nat) : Int) :: ·)
def subsT (c m f t : Nat) : List (List Int) := (List.range t).flatMap fun i => (subsL c m (f + i + 1)).map (((f + i : Nat) : Int) :: ·)
theorem subsT_zero (c m f : Nat) : subsT c m f 0 = [] := rfl
theorem subsT_succ (c m f t : Nat) : subsT c m f (t + 1) = subsT c m f t ++ (subsL c m (f + t + 1)).map (((f + t : Nat) : Int) :: ·) := by
  unfold subsT; rw [List.range_succ, List.flatMap_append]; simp
theorem subsT_all (c m f : Nat) : subsT c m f (c - f) = subsL c (m + 1) f := rfl
theorem subsL_ok_all : ∀ c : Nat, c < 7 → ∀ m : Nat, m < 7 → ∀ f : Nat, f < 9 → ((subsL c m f).length ≤ 64 ∧ (subsL c m f).all (fun l => decide (l.length ≤ 6)) = true) := by decide +kernel
theorem subsT_ok_all : ∀ c : Nat, c < 7 → ∀ m : Nat, m < 6 → ∀ f : Nat, f < 8 → ∀ t : Nat, t < 7 → (subsT c m f t).length ≤ 64 := by decide +kernel
theorem subsL_row {c m f j : Nat} {zs : List Int} (hc : c ≤ 6) (hm : m ≤ 6) (hf : f ≤ 8) (h : (subsL c m f)[j]? = some zs) : zs.length ≤ 6 := by
  have h9 := (subsL_ok_all c (by omega) m (by omega) f (by omega)).2
  rw [List.all_eq_true] at h9
  simpa using h9 zs (List.mem_of_getElem? h)

end Go.Proofs.YtkcfhlpdenjimaaDoor

/- An append of whatever cells, at a step of a region that draws. -/
namespace Go.Proofs.YtkcfhlpdenjimaaDoor
open Go.RowKit

theorem step_append_vals {P : Program} {w : World} {ops : Array Oper} {o : Oper} {a : Act} {K : Act → World → Prop} {Q : Exit → Act → World → Prop} {E : Prop} (hgd : o.guard = none) (s x : Operand) (t : TypeId)
    (ho : o.op = .call { callee := .builtin .append, args := #[s, x], argTypes := #[t, t] })
    (base : Nat) (e : TypeId) (i : TypeInfo) (z : Value) (size bytes : Nat) (ht : P.underlying t = some (.slice e)) (hi : P.info? e = some i) (hz : i.zero = some z)
    (hsize : i.size = size) (hby : i.bytes = bytes) (hzs : z.cells.size = size) (hsz : 0 < size)
    (v : Value) (n : Nat) (xs : List Value) (hs : a.eval s = v) (hown : w.ownsRow base e size v n xs)
    (ao : Option Addr) (m c : Nat) (news : List Value) (hx : a.eval x = .slice ao m c) (hl : news.length = m * size) (hat : ∀ ad, ao = some ad → ∀ (j : Nat) (u : Value), news[j]? = some u → w.cell? (ad.add j) = some u) (h1 : ∀ u ∈ news, u.oneCell' = true) (hnil : ao = none → c = 0 ∧ m = 0)
    (h63 : n + m ≤ maxLen) (hbytes : (n + m) * bytes ≤ 140737488355328) (hbase : base ≤ w.heap.size)
    (h : ∀ r cap w', w'.ownsRow base e size (.slice r (n + m) cap) (n + m) (xs ++ news) → w.grownBy w' v.ownBlock → ((Value.slice r (n + m) cap).ownBlock = v.ownBlock ∨ (Value.slice r (n + m) cap).ownBlock = some w.heap.size) → K (a.put o.dst (.slice r (n + m) cap)) w') :
    if Region.wanted o (yielded ops a.tmps) = true then Oper.wp P o a w K Q else E := by
  have hw : Region.wanted o (yielded ops a.tmps) = true := by simp [Region.wanted, hgd]
  rw [if_pos hw]
  cases ao with
  | none =>
    obtain ⟨hc, hm⟩ := hnil rfl
    subst hc hm
    obtain rfl : news = [] := List.eq_nil_of_length_eq_zero (by simpa using hl)
    obtain ⟨r, cap, rfl⟩ := owns_slice hown
    have hrun := run_append_owned_none (P := P) (w := w) base t o.type e i size ht hi (.slice r n cap) n xs hown
    have := h r cap w (by simpa using hown) (World.grownBy.refl _ _) (.inl rfl)
    unfold Oper.wp
    simp [execOp, ho, resolve, invoke, builtin, hs, hx, hrun, Result.andThen]
    rw [Nat.add_zero] at this
    exact this
  | some ad =>
    obtain ⟨v', w', hr, h2, h3, _, h5⟩ := run_append_own_at (P := P) w base t o.type e i z size bytes ht hi hz hsize hby hzs hsz v n xs hown ad m c news hl (fun j u hj => hat ad rfl j u hj) h1 h63 hbytes hbase
    obtain ⟨r, cap, rfl⟩ := owns_slice h2
    unfold Oper.wp execOp
    simp only [ho, resolve, invoke, builtin, Sem.run_bind, Sem.run_pure, Result.andThen_ok, List.map_toArray, List.map_cons, List.map_nil, hs, hx, hr]
    exact h r cap w' h2 h3 h5

end Go.Proofs.YtkcfhlpdenjimaaDoor

/- An append of whatever cells, in a plain region. -/
namespace Go.Proofs.YtkcfhlpdenjimaaDoor
open Go.RowKit

theorem wpList_app_vals {P : Program} {w : World} {ops : Array Oper} {rest : List Oper} {o : Oper} {a : Act} {Q : Exit → Act → World → Prop} (hgd : o.guard = none) (s x : Operand) (t : TypeId)
    (ho : o.op = .call { callee := .builtin .append, args := #[s, x], argTypes := #[t, t] })
    (base : Nat) (e : TypeId) (i : TypeInfo) (z : Value) (size bytes : Nat) (ht : P.underlying t = some (.slice e)) (hi : P.info? e = some i) (hz : i.zero = some z)
    (hsize : i.size = size) (hby : i.bytes = bytes) (hzs : z.cells.size = size) (hsz : 0 < size)
    (v : Value) (n : Nat) (xs : List Value) (hs : a.eval s = v) (hown : w.ownsRow base e size v n xs)
    (ao : Option Addr) (m c : Nat) (news : List Value) (hx : a.eval x = .slice ao m c) (hl : news.length = m * size) (hat : ∀ ad, ao = some ad → ∀ (j : Nat) (u : Value), news[j]? = some u → w.cell? (ad.add j) = some u) (h1 : ∀ u ∈ news, u.oneCell' = true) (hnil : ao = none → c = 0 ∧ m = 0)
    (h63 : n + m ≤ maxLen) (hbytes : (n + m) * bytes ≤ 140737488355328) (hbase : base ≤ w.heap.size)
    (h : ∀ r cap w', w'.ownsRow base e size (.slice r (n + m) cap) (n + m) (xs ++ news) → w.grownBy w' v.ownBlock → ((Value.slice r (n + m) cap).ownBlock = v.ownBlock ∨ (Value.slice r (n + m) cap).ownBlock = some w.heap.size) → wpList P ops Q rest (a.put o.dst (.slice r (n + m) cap)) w') :
    wpList P ops Q (o :: rest) a w :=
  wpList_plain hgd fun K hK => by
    have hw : Region.wanted o (yielded ops a.tmps) = true := by simp [Region.wanted, hgd]
    have h9 := step_append_vals (P := P) (w := w) (ops := ops) (o := o) (a := a) (K := K) (Q := Q) (E := True) hgd s x t ho base e i z size bytes ht hi hz hsize hby hzs hsz v n xs hs hown ao m c news hx hl hat h1 hnil h63 hbytes hbase (fun r cap w' k1 k2 k3 => hK _ _ (h r cap w' k1 k2 k3))
    rw [if_pos hw] at h9
    exact h9

end Go.Proofs.YtkcfhlpdenjimaaDoor
