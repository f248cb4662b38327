/- Several texts of one proof, in build order: CloU, Plain, PlainT. -/
import Derived.Test.YtkcfhlpdenjimaaDoorM6
import Derived.Test.YtkcfhlpdenjimaaDoorM0

/- Contracts of implied, Implies, and the model's l7Implies, Implies. -/
namespace Go.Proofs.YtkcfhlpdenjimaaDoor
open Go.RowKit

noncomputable def impV (xs : List Dep) (d : Dep) : Bool := sb (mk d.2) (clo (dms xs) (mk d.1))
def impB (xs : List Dep) (C : Int) (d : Dep) : Bool := goodDeps xs C && goodDep C d
theorem impB_no1 {xs : List Dep} {C : Int} {d : Dep} (h : goodDeps xs C = false) : impB xs C d = false := by unfold impB; rw [h]; rfl
theorem goodDeps_C {xs : List Dep} {C : Int} (h : goodDeps xs C = true) : 1 ≤ C ∧ C ≤ 6 ∧ xs.length ≤ 10 := by
  simp only [goodDeps, Bool.and_eq_true, decide_eq_true_eq] at h
  exact ⟨h.1, h.2.1, h.2.2.1⟩
theorem goodDeps_one' {xs : List Dep} {C : Int} (h : goodDeps xs C = true) (d : Dep) : goodDeps [d] C = goodDep C d := by
  obtain ⟨h1, h2, _⟩ := goodDeps_C h
  rw [goodDeps_one, decide_eq_true h1, decide_eq_true h2]; rfl
theorem impB_two {xs : List Dep} {C : Int} {d : Dep} (h : goodDeps xs C = true) : impB xs C d = goodDep C d := by unfold impB; rw [h]; rfl
theorem goodDep_told {C : Int} {d : Dep} (hC : C ≤ 6) (h : goodDep C d = true) : Told d.1 ∧ Told d.2 := by
  simp only [goodDep, Bool.and_eq_true] at h
  exact ⟨Told.of hC h.1, Told.of hC h.2⟩

set_option maxRecDepth 100000 in
set_option maxHeartbeats 2000000 in
theorem implied_any (a : Option Addr) (n c : Nat) (xs : List (Nat × Nat)) (S D : Nat) (w : World) (hz : xs.length = n) (hn : n ≤ 9223372036854775807) (hs : Sets xs) (hS : S < 64) (hD : D < 64) (ha : AtT w a xs) :
    Calls Tryd.prog 73 #[.slice a n c, .agg #[.int .u64 (S : Nat), .int .u64 (D : Nat)]] w fun e w' => e = .returned (.bool (sb D (clo xs S))) ∧ Below w.heap.size w w' := by
  obtain ⟨W, hW⟩ : ∃ W, W = w.alloc (.cells #[.int .u64 (S : Nat), .int .u64 (D : Nat)] 92) := ⟨_, rfl⟩
  have B0 : Below w.heap.size w W := by rw [hW]; exact (Below.refl _ _).alloc (Nat.le_refl _) _
  have q0 : W.cell? ⟨w.heap.size, 0, none⟩ = some (.int .u64 (S : Nat)) := by rw [hW]; simp
  have q1 : W.cell? ⟨w.heap.size, 1, none⟩ = some (.int .u64 (D : Nat)) := by rw [hW]; simp
  have C1 := Hid.mk (closure_any a n c xs S W.drew hz hn hs hS (AtSl.below ha B0.drew))
  clear ha hz hs
  go_enter Tryd.func73, Tryd.ntmps73
  go_wp2_with fail
  rw [← hW]
  clear hW
  refine wp_region_held_drew (S := fun w' => w'.cell? ⟨w.heap.size, 0, none⟩ = some (.int .u64 (S : Nat)) ∧ w'.cell? ⟨w.heap.size, 1, none⟩ = some (.int .u64 (D : Nat))) (by kernel_rfl) ?_ (fun hHeld => ?_)
  · (try dsimp only)
    exact ⟨q0, q1⟩
  refine wpAnyH_take (i := 0) (oi := ?_) (v := ?_) ?_ (by kernel_rfl) (by kernel_rfl) (by kernel_rfl) ?_ (Or.inl ⟨?_, ?_⟩) (by assumption) ?_
  rotate_left 2
  · (simp only [List.getElem?_toArray, List.getElem?_cons_zero]; rfl)
  · exact fun _ _ _ h => h
  · rfl
  · (intro wS hSw; (try dsimp only at hSw); go_simp; (try with_reducible rfl))
  (try simp only [Act.put, List.setIfInBounds_toArray, List.set_cons_zero, List.set_cons_succ])
  refine wpAnyH_take (i := 1) (oi := ?_) (v := ?_) ?_ (by kernel_rfl) (by kernel_rfl) (by kernel_rfl) ?_ (Or.inl ⟨?_, ?_⟩) (by assumption) ?_
  rotate_left 2
  · (simp only [List.getElem?_toArray, List.getElem?_cons_zero, List.getElem?_cons_succ]; rfl)
  · exact fun _ _ _ h => h
  · rfl
  · (intro wS hSw; (try dsimp only at hSw); go_simp; (try with_reducible rfl))
  (try simp only [Act.put, List.setIfInBounds_toArray, List.set_cons_zero, List.set_cons_succ])
  refine wpAnyH_take (i := 2) (oi := ?_) (v := ?_) ?_ (by kernel_rfl) (by kernel_rfl) (by kernel_rfl) ?_ (Or.inl ⟨?_, ?_⟩) (by assumption) ?_
  rotate_left 2
  · (simp only [List.getElem?_toArray, List.getElem?_cons_zero, List.getElem?_cons_succ]; rfl)
  · exact fun _ _ _ h => h
  · rfl
  · (intro wS hSw; (try dsimp only at hSw); go_simp; (try with_reducible rfl))
  (try simp only [Act.put, List.setIfInBounds_toArray, List.set_cons_zero, List.set_cons_succ])
  refine wpAnyH_take (i := 4) (oi := ?_) (v := ?_) ?_ (by kernel_rfl) (by kernel_rfl) (by kernel_rfl) ?_ (Or.inl ⟨?_, ?_⟩) (by assumption) ?_
  rotate_left 2
  · (simp only [List.getElem?_toArray, List.getElem?_cons_zero, List.getElem?_cons_succ]; rfl)
  · exact fun _ _ _ h => h
  · rfl
  · (intro wS hSw; (try dsimp only at hSw); go_simp; (try with_reducible rfl))
  (try simp only [Act.put, List.setIfInBounds_toArray, List.set_cons_zero, List.set_cons_succ])
  refine wpAnyH_take (i := 5) (oi := ?_) (v := ?_) ?_ (by kernel_rfl) (by kernel_rfl) (by kernel_rfl) ?_ (Or.inl ⟨?_, ?_⟩) (by assumption) ?_
  rotate_left 2
  · (simp only [List.getElem?_toArray, List.getElem?_cons_zero, List.getElem?_cons_succ]; rfl)
  · exact fun _ _ _ h => h
  · rfl
  · (intro wS hSw; (try dsimp only at hSw); go_simp; (try with_reducible rfl))
  (try simp only [Act.put, List.setIfInBounds_toArray, List.set_cons_zero, List.set_cons_succ])
  refine wpAnyH_ready (rs := [3]) (by kernel_rfl) (by simp) ?_
  refine AllReadyH.cons (o := ?_) ?_ (fun K hK => ?_) AllReadyH.nil
  rotate_left
  · (simp only [List.getElem?_toArray, List.getElem?_cons_zero, List.getElem?_cons_succ]; rfl)
  go_simp
  go_at_call 39
  refine C1.out.mono ?_
  rintro e w2 ⟨T, hT, rfl, hb2⟩
  have e0 := cell_later hb2 q0
  have e1 := cell_later hb2 q1
  have HB2 := Hid.mk (B0.drew.trans (hb2.mono B0.size))
  clear hb2
  (try go_wp2_with fail)
  refine hK.out _ _ ?_ (fun hHeld' => ?_)
  · (try dsimp only)
    exact ⟨e0, e1⟩
  clear hK K hHeld
  have hHeld := hHeld'
  clear hHeld'
  (try simp only [Act.put, List.setIfInBounds_toArray, List.set_cons_zero, List.set_cons_succ])
  refine wpAnyH_ready (rs := [6]) (by kernel_rfl) (by simp) ?_
  refine AllReadyH.cons (o := ?_) ?_ (fun K hK => ?_) AllReadyH.nil
  rotate_left
  · (simp only [List.getElem?_toArray, List.getElem?_cons_zero, List.getElem?_cons_succ]; rfl)
  go_simp
  go_at_call 55
  refine (has_any T D w2 hT.lt hD).mono ?_
  rintro e w3 ⟨rfl, rfl⟩
  (try go_wp2_with fail)
  refine hK.out _ _ ?_ (fun hHeld' => ?_)
  · (try dsimp only)
    exact ⟨e0, e1⟩
  clear hK K hHeld
  have hHeld := hHeld'
  clear hHeld'
  (try simp only [Act.put, List.setIfInBounds_toArray, List.set_cons_zero, List.set_cons_succ])
  refine wpAnyH_take (i := 7) (oi := ?_) (v := ?_) ?_ (by kernel_rfl) (by kernel_rfl) (by kernel_rfl) ?_ (Or.inl ⟨?_, ?_⟩) (by assumption) ?_
  rotate_left 2
  · (simp only [List.getElem?_toArray, List.getElem?_cons_zero, List.getElem?_cons_succ]; rfl)
  · exact fun _ _ _ h => h
  · rfl
  · (intro wS hSw; (try dsimp only at hSw); go_simp; (try with_reducible rfl))
  (try simp only [Act.put, List.setIfInBounds_toArray, List.set_cons_zero, List.set_cons_succ])
  refine wpAnyH_done (by kernel_rfl) ?_ _
  have HT := Hid.mk hT.clo_eq
  clear hT
  go_wp2
  go_ret
  exact ⟨by rw [HT.out]; rfl, HB2.out⟩

set_option maxRecDepth 100000 in
set_option maxHeartbeats 4000000 in
theorem implImplies (a : Option Addr) (n c : Nat) (xs : List Dep) (C : Int) (fa : Option Addr) (fn fc : Nat) (ta : Option Addr) (tn tc : Nat) (d : Dep) (w : World) (hz : xs.length = n) (hn : n ≤ 1048576) (ha : AtD w a xs) (hd : RDep.At w [.slice fa fn fc, .slice ta tn tc] d) :
    Calls Tryd.prog 47 #[.slice a n c, .int .i64 C, .agg #[.slice fa fn fc, .slice ta tn tc]] w fun e w' => e = .returned (.tuple #[.bool (impB xs C d && impV xs d), .bool (impB xs C d)]) ∧ Below w.heap.size w w' := by
  obtain ⟨W, hW⟩ : ∃ W, W = w.alloc (.cells #[.slice fa fn fc, .slice ta tn tc] 43) := ⟨_, rfl⟩
  have B0 : Below w.heap.size w W := by rw [hW]; exact (Below.refl _ _).alloc (Nat.le_refl _) _
  have q0 : W.cell? ⟨w.heap.size, 0, none⟩ = some (.slice fa fn fc) := by rw [hW]; simp
  have q1 : W.cell? ⟨w.heap.size, 1, none⟩ = some (.slice ta tn tc) := by rw [hW]; simp
  have HA := Hid.mk (AtSl.below ha B0)
  have HD := Hid.mk (RDep.below hd B0)
  have HZ := Hid.mk hz
  clear ha hd hz
  go_enter Tryd.func47, Tryd.ntmps47
  go_wp2_with fail
  rw [← hW]
  clear hW
  refine (implGoodDepends a n c xs C W HZ.out (by omega) HA.out).mono ?_
  rintro e w1 ⟨rfl, hb1⟩
  have q0 := cell_later hb1 q0
  have q1 := cell_later hb1 q1
  have HA1 := Hid.mk (AtSl.below HA.out hb1)
  have HD1 := Hid.mk (RDep.below HD.out hb1)
  have B1 := B0.trans (hb1.mono B0.size)
  clear hb1 HA HD B0
  cases hg1 : goodDeps xs C with
  | false =>
    go_wp2
    exact bodyPost_ret (v := .tuple #[.bool false, .bool false]) (by simp [results, Tryd.results47, go_sem]) rfl ⟨by rw [impB_no1 hg1]; rfl, B1⟩
  | true =>
    go_wp2_with fail
    refine (goodDepend_any fa fn fc ta tn tc d C w1 HD1.out).mono ?_
    rintro e w2 ⟨rfl, hb2⟩
    have q0 := cell_later hb2 q0
    have q1 := cell_later hb2 q1
    have HA2 := Hid.mk (AtSl.below HA1.out hb2)
    have HD2 := Hid.mk (RDep.below HD1.out hb2)
    have B2 := B1.trans (hb2.mono B1.size)
    clear hb2 HA1 HD1 B1
    rw [goodDeps_one' hg1]
    cases hg2 : goodDep C d with
    | false =>
      go_wp2
      exact bodyPost_ret (v := .tuple #[.bool false, .bool false]) (by simp [results, Tryd.results47, go_sem]) rfl ⟨by rw [impB_two hg1, hg2]; rfl, B2⟩
    | true =>
      obtain ⟨hC1, hC6, hx10⟩ := goodDeps_C hg1
      obtain ⟨td1, td2⟩ := goodDep_told hC6 hg2
      obtain ⟨⟨a1, a2, a3, a4⟩, ⟨b1, b2, b3, b4⟩⟩ := RDep.at_iff HD2.out
      have K1 := Hid.mk (tellingsOf_any a n c xs w2.drew HZ.out (by omega) (Cols.of hg1) (AtSl.below HA2.out ((Below.refl _ _).drew)))
      have HTD := Hid.mk (And.intro td1 td2)
      have HAT := Hid.mk (And.intro a3 b3)
      have HLT := Hid.mk (And.intro a1 b1)
      clear a1 a3 a4 b1 b3 b4 td1 td2 hx10
      go_wp2_with fail
      refine wp_region_held_drew (S := fun w' => w'.cell? ⟨w.heap.size, 0, none⟩ = some (.slice fa fn fc) ∧ w'.cell? ⟨w.heap.size, 1, none⟩ = some (.slice ta tn tc)) (by kernel_rfl) ?_ (fun hHeld => ?_)
      · (try dsimp only)
        exact ⟨q0, q1⟩
      refine wpAnyH_take (i := 0) (oi := ?_) (v := ?_) ?_ (by kernel_rfl) (by kernel_rfl) (by kernel_rfl) ?_ (Or.inl ⟨?_, ?_⟩) (by assumption) ?_
      rotate_left 2
      · (simp only [List.getElem?_toArray, List.getElem?_cons_zero]; rfl)
      · exact fun _ _ _ h => h
      · rfl
      · (intro wS hSw; (try dsimp only at hSw); go_simp; (try with_reducible rfl))
      (try simp only [Act.put, List.setIfInBounds_toArray, List.set_cons_zero, List.set_cons_succ])
      refine wpAnyH_take (i := 2) (oi := ?_) (v := ?_) ?_ (by kernel_rfl) (by kernel_rfl) (by kernel_rfl) ?_ (Or.inl ⟨?_, ?_⟩) (by assumption) ?_
      rotate_left 2
      · (simp only [List.getElem?_toArray, List.getElem?_cons_zero, List.getElem?_cons_succ]; rfl)
      · exact fun _ _ _ h => h
      · rfl
      · (intro wS hSw; (try dsimp only at hSw); go_simp; (try with_reducible rfl))
      (try simp only [Act.put, List.setIfInBounds_toArray, List.set_cons_zero, List.set_cons_succ])
      refine wpAnyH_ready (rs := [1]) (by kernel_rfl) (by simp) ?_
      refine AllReadyH.cons (o := ?_) ?_ (fun K hK => ?_) AllReadyH.nil
      rotate_left
      · (simp only [List.getElem?_toArray, List.getElem?_cons_zero, List.getElem?_cons_succ]; rfl)
      go_simp
      go_at_call 40
      refine K1.out.mono ?_
      rintro e w3 ⟨r3, d3, rfl, hat3, hb3⟩
      have e0 := cell_later hb3 q0
      have e1 := cell_later hb3 q1
      have AT3 := Hid.mk hat3
      have BB3 := Hid.mk ((Below.refl w2.heap.size w2).drew.trans hb3)
      clear hat3 hb3
      (try go_wp2_with fail)
      refine hK.out _ _ ?_ (fun hHeld' => ?_)
      · (try dsimp only)
        exact ⟨e0, e1⟩
      clear hK K hHeld
      have hHeld := hHeld'
      clear hHeld'
      (try simp only [Act.put, List.setIfInBounds_toArray, List.set_cons_zero, List.set_cons_succ])
      refine wpAnyH_ready (rs := [3]) (by kernel_rfl) (by simp) ?_
      refine AllReadyH.cons (o := ?_) ?_ (fun K hK => ?_) AllReadyH.nil
      rotate_left
      · (simp only [List.getElem?_toArray, List.getElem?_cons_zero, List.getElem?_cons_succ]; rfl)
      go_simp
      go_at_call 68
      refine (tellingOf_any fa fn fc ta tn tc d.1 d.2 w3 HLT.out.1 a2 (At.below HAT.out.1 BB3.out) HLT.out.2 b2 (At.below HAT.out.2 BB3.out) HTD.out.1.in HTD.out.2.in).mono ?_
      rintro e w4 ⟨rfl, hb4⟩
      have e0 := cell_later hb4 e0
      have e1 := cell_later hb4 e1
      have AT4 := Hid.mk (AtSl.below AT3.out hb4)
      have BB4 := Hid.mk (BB3.out.trans (hb4.mono BB3.out.size))
      clear hb4
      (try go_wp2_with fail)
      refine hK.out _ _ ?_ (fun hHeld' => ?_)
      · (try dsimp only)
        exact ⟨e0, e1⟩
      clear hK K hHeld
      have hHeld := hHeld'
      clear hHeld'
      (try simp only [Act.put, List.setIfInBounds_toArray, List.set_cons_zero, List.set_cons_succ])
      refine wpAnyH_ready (rs := [4]) (by kernel_rfl) (by simp) ?_
      refine AllReadyH.cons (o := ?_) ?_ (fun K hK => ?_) AllReadyH.nil
      rotate_left
      · (simp only [List.getElem?_toArray, List.getElem?_cons_zero, List.getElem?_cons_succ]; rfl)
      go_simp
      go_at_call 73
      refine (implied_any r3 n d3 (dms xs) (mk d.1) (mk d.2) w4 (by simp [dms]; exact HZ.out) (by omega) (Cols.of hg1).sets HTD.out.1.lt HTD.out.2.lt AT4.out).mono ?_
      rintro e w5 ⟨rfl, hb5⟩
      have e0 := cell_later hb5 e0
      have e1 := cell_later hb5 e1
      have BB5 := Hid.mk (BB4.out.trans (hb5.mono BB4.out.size))
      clear hb5
      (try go_wp2_with fail)
      refine hK.out _ _ ?_ (fun hHeld' => ?_)
      · (try dsimp only)
        exact ⟨e0, e1⟩
      clear hK K hHeld
      have hHeld := hHeld'
      clear hHeld'
      (try simp only [Act.put, List.setIfInBounds_toArray, List.set_cons_zero, List.set_cons_succ])
      refine wpAnyH_take (i := 5) (oi := ?_) (v := ?_) ?_ (by kernel_rfl) (by kernel_rfl) (by kernel_rfl) ?_ (Or.inl ⟨?_, ?_⟩) (by assumption) ?_
      rotate_left 2
      · (simp only [List.getElem?_toArray, List.getElem?_cons_zero, List.getElem?_cons_succ]; rfl)
      · exact fun _ _ _ h => h
      · rfl
      · (intro wS hSw; (try dsimp only at hSw); go_simp; (try with_reducible rfl))
      (try simp only [Act.put, List.setIfInBounds_toArray, List.set_cons_zero, List.set_cons_succ])
      refine wpAnyH_take (i := 6) (oi := ?_) (v := ?_) ?_ (by kernel_rfl) (by kernel_rfl) (by kernel_rfl) ?_ (Or.inl ⟨?_, ?_⟩) (by assumption) ?_
      rotate_left 2
      · (simp only [List.getElem?_toArray, List.getElem?_cons_zero, List.getElem?_cons_succ]; rfl)
      · exact fun _ _ _ h => h
      · rfl
      · (intro wS hSw; (try dsimp only at hSw); go_simp; (try with_reducible rfl))
      (try simp only [Act.put, List.setIfInBounds_toArray, List.set_cons_zero, List.set_cons_succ])
      refine wpAnyH_done (by kernel_rfl) ?_ _
      go_wp2
      exact bodyPost_ret (v := .tuple #[.bool (sb (mk d.2) (clo (dms xs) (mk d.1))), .bool true]) (by simp [results, Tryd.results47, go_sem]) rfl ⟨by rw [impB_two hg1, hg2]; rfl, B2.trans (BB5.out.mono B2.size)⟩

set_option maxRecDepth 100000 in
set_option maxHeartbeats 2000000 in
theorem l7Implies_any (a : Option Addr) (n c : Nat) (xs : List Dep) (fa : Option Addr) (fn fc : Nat) (ta : Option Addr) (tn tc : Nat) (d : Dep) (w : World) (hz : xs.length = n) (hn : n ≤ 1048576) (hs : Tolds xs) (ha : AtD w a xs) (h1 : Told d.1) (h2 : Told d.2) (hd : RDep.At w [.slice fa fn fc, .slice ta tn tc] d) :
    Calls Tryd.prog 58 #[.slice a n c, .agg #[.slice fa fn fc, .slice ta tn tc]] w fun e w' => e = .returned (.bool (impV xs d)) ∧ Below w.heap.size w w' := by
  obtain ⟨W, hW⟩ : ∃ W, W = w.alloc (.cells #[.slice fa fn fc, .slice ta tn tc] 43) := ⟨_, rfl⟩
  have B0 : Below w.heap.size w W := by rw [hW]; exact (Below.refl _ _).alloc (Nat.le_refl _) _
  have q0 : W.cell? ⟨w.heap.size, 0, none⟩ = some (.slice fa fn fc) := by rw [hW]; simp
  have q1 : W.cell? ⟨w.heap.size, 1, none⟩ = some (.slice ta tn tc) := by rw [hW]; simp
  obtain ⟨⟨a1, a2, a3, a4⟩, ⟨b1, b2, b3, b4⟩⟩ := RDep.at_iff hd
  have K1 := Hid.mk (l7Closure_any a n c xs fa fn fc d.1 W.drew hz hn hs (AtSl.below ha B0.drew) h1 a1 (At.below a3 B0.drew) a4)
  have HAT := Hid.mk (At.below b3 B0.drew)
  have HLT := Hid.mk b1
  have HTD := Hid.mk h2
  clear ha hd hz hs h1 h2 a1 a3 a4 b1 b3 b4
  go_enter Tryd.func58, Tryd.ntmps58
  go_wp2_with fail
  rw [← hW]
  clear hW
  refine wp_region_held_drew (S := fun w' => w'.cell? ⟨w.heap.size, 0, none⟩ = some (.slice fa fn fc) ∧ w'.cell? ⟨w.heap.size, 1, none⟩ = some (.slice ta tn tc)) (by kernel_rfl) ?_ (fun hHeld => ?_)
  · (try dsimp only)
    exact ⟨q0, q1⟩
  refine wpAnyH_take (i := 0) (oi := ?_) (v := ?_) ?_ (by kernel_rfl) (by kernel_rfl) (by kernel_rfl) ?_ (Or.inl ⟨?_, ?_⟩) (by assumption) ?_
  rotate_left 2
  · (simp only [List.getElem?_toArray, List.getElem?_cons_zero]; rfl)
  · exact fun _ _ _ h => h
  · rfl
  · (intro wS hSw; (try dsimp only at hSw); go_simp; (try with_reducible rfl))
  (try simp only [Act.put, List.setIfInBounds_toArray, List.set_cons_zero, List.set_cons_succ])
  refine wpAnyH_take (i := 1) (oi := ?_) (v := ?_) ?_ (by kernel_rfl) (by kernel_rfl) (by kernel_rfl) ?_ (Or.inl ⟨?_, ?_⟩) (by assumption) ?_
  rotate_left 2
  · (simp only [List.getElem?_toArray, List.getElem?_cons_zero, List.getElem?_cons_succ]; rfl)
  · exact fun _ _ _ h => h
  · rfl
  · (intro wS hSw; (try dsimp only at hSw); go_simp; (try with_reducible rfl))
  (try simp only [Act.put, List.setIfInBounds_toArray, List.set_cons_zero, List.set_cons_succ])
  refine wpAnyH_take (i := 2) (oi := ?_) (v := ?_) ?_ (by kernel_rfl) (by kernel_rfl) (by kernel_rfl) ?_ (Or.inl ⟨?_, ?_⟩) (by assumption) ?_
  rotate_left 2
  · (simp only [List.getElem?_toArray, List.getElem?_cons_zero, List.getElem?_cons_succ]; rfl)
  · exact fun _ _ _ h => h
  · rfl
  · (intro wS hSw; (try dsimp only at hSw); go_simp; (try with_reducible rfl))
  (try simp only [Act.put, List.setIfInBounds_toArray, List.set_cons_zero, List.set_cons_succ])
  refine wpAnyH_take (i := 4) (oi := ?_) (v := ?_) ?_ (by kernel_rfl) (by kernel_rfl) (by kernel_rfl) ?_ (Or.inl ⟨?_, ?_⟩) (by assumption) ?_
  rotate_left 2
  · (simp only [List.getElem?_toArray, List.getElem?_cons_zero, List.getElem?_cons_succ]; rfl)
  · exact fun _ _ _ h => h
  · rfl
  · (intro wS hSw; (try dsimp only at hSw); go_simp; (try with_reducible rfl))
  (try simp only [Act.put, List.setIfInBounds_toArray, List.set_cons_zero, List.set_cons_succ])
  refine wpAnyH_take (i := 5) (oi := ?_) (v := ?_) ?_ (by kernel_rfl) (by kernel_rfl) (by kernel_rfl) ?_ (Or.inl ⟨?_, ?_⟩) (by assumption) ?_
  rotate_left 2
  · (simp only [List.getElem?_toArray, List.getElem?_cons_zero, List.getElem?_cons_succ]; rfl)
  · exact fun _ _ _ h => h
  · rfl
  · (intro wS hSw; (try dsimp only at hSw); go_simp; (try with_reducible rfl))
  (try simp only [Act.put, List.setIfInBounds_toArray, List.set_cons_zero, List.set_cons_succ])
  refine wpAnyH_ready (rs := [3]) (by kernel_rfl) (by simp) ?_
  refine AllReadyH.cons (o := ?_) ?_ (fun K hK => ?_) AllReadyH.nil
  rotate_left
  · (simp only [List.getElem?_toArray, List.getElem?_cons_zero, List.getElem?_cons_succ]; rfl)
  go_simp
  go_at_call 36
  refine K1.out.mono ?_
  rintro e w3 ⟨T, r3, m3, d3, hT, rfl, hm3, ho3, hb3⟩
  have e0 := cell_later hb3 q0
  have e1 := cell_later hb3 q1
  have HO3 := Hid.mk ho3
  have BB3 := Hid.mk hb3
  have HT := Hid.mk hT
  have hm6 : m3 ≤ 6 := by rw [← hm3]; exact bl_len T
  have HM3 := Hid.mk hm3
  clear ho3 hb3 hT hm3
  (try go_wp2_with fail)
  refine hK.out _ _ ?_ (fun hHeld' => ?_)
  · (try dsimp only)
    exact ⟨e0, e1⟩
  clear hK K hHeld
  have hHeld := hHeld'
  clear hHeld'
  (try simp only [Act.put, List.setIfInBounds_toArray, List.set_cons_zero, List.set_cons_succ])
  refine wpAnyH_ready (rs := [6]) (by kernel_rfl) (by simp) ?_
  refine AllReadyH.cons (o := ?_) ?_ (fun K hK => ?_) AllReadyH.nil
  rotate_left
  · (simp only [List.getElem?_toArray, List.getElem?_cons_zero, List.getElem?_cons_succ]; rfl)
  go_simp
  go_at_call 65
  refine (l7All_any r3 m3 d3 (bl T) ta tn tc d.2 w3 HM3.out (by omega) (At.owned HO3.out) HLT.out b2 (At.below HAT.out BB3.out)).mono ?_
  rintro e w4 ⟨rfl, rfl⟩
  (try go_wp2_with fail)
  refine hK.out _ _ ?_ (fun hHeld' => ?_)
  · (try dsimp only)
    exact ⟨e0, e1⟩
  clear hK K hHeld
  have hHeld := hHeld'
  clear hHeld'
  (try simp only [Act.put, List.setIfInBounds_toArray, List.set_cons_zero, List.set_cons_succ])
  refine wpAnyH_take (i := 7) (oi := ?_) (v := ?_) ?_ (by kernel_rfl) (by kernel_rfl) (by kernel_rfl) ?_ (Or.inl ⟨?_, ?_⟩) (by assumption) ?_
  rotate_left 2
  · (simp only [List.getElem?_toArray, List.getElem?_cons_zero, List.getElem?_cons_succ]; rfl)
  · exact fun _ _ _ h => h
  · rfl
  · (intro wS hSw; (try dsimp only at hSw); go_simp; (try with_reducible rfl))
  (try simp only [Act.put, List.setIfInBounds_toArray, List.set_cons_zero, List.set_cons_succ])
  refine wpAnyH_done (by kernel_rfl) ?_ _
  have HE : Hid ((d.2.all fun k => decide (k ∈ bl T)) = impV xs d) := by
    show _ = _
    unfold impV
    rw [HT.out.clo_eq]
    have h9 := all_bl (D := mk d.2) (T := T) HTD.out.lt
    rw [HTD.out.is] at h9
    exact h9
  go_wp2
  go_ret
  exact ⟨by rw [← HE.out]; rfl, B0.drew.trans (BB3.out.mono B0.size)⟩

set_option maxRecDepth 100000 in
set_option maxHeartbeats 4000000 in
theorem specImplies (a : Option Addr) (n c : Nat) (xs : List Dep) (C : Int) (fa : Option Addr) (fn fc : Nat) (ta : Option Addr) (tn tc : Nat) (d : Dep) (w : World) (hz : xs.length = n) (hn : n ≤ 1048576) (ha : AtD w a xs) (hd : RDep.At w [.slice fa fn fc, .slice ta tn tc] d) :
    Calls Tryd.prog 44 #[.slice a n c, .int .i64 C, .agg #[.slice fa fn fc, .slice ta tn tc]] w fun e w' => e = .returned (.tuple #[.bool (impB xs C d && impV xs d), .bool (impB xs C d)]) ∧ Below w.heap.size w w' := by
  obtain ⟨W, hW⟩ : ∃ W, W = w.alloc (.cells #[.slice fa fn fc, .slice ta tn tc] 43) := ⟨_, rfl⟩
  have B0 : Below w.heap.size w W := by rw [hW]; exact (Below.refl _ _).alloc (Nat.le_refl _) _
  have q0 : W.cell? ⟨w.heap.size, 0, none⟩ = some (.slice fa fn fc) := by rw [hW]; simp
  have q1 : W.cell? ⟨w.heap.size, 1, none⟩ = some (.slice ta tn tc) := by rw [hW]; simp
  have HA := Hid.mk (AtSl.below ha B0)
  have HD := Hid.mk (RDep.below hd B0)
  have HZ := Hid.mk hz
  clear ha hd hz
  go_enter Tryd.func44, Tryd.ntmps44
  go_wp2_with fail
  rw [← hW]
  clear hW
  refine (specGoodDepends a n c xs C W HZ.out (by omega) HA.out).mono ?_
  rintro e w1 ⟨rfl, hb1⟩
  have q0 := cell_later hb1 q0
  have q1 := cell_later hb1 q1
  have HA1 := Hid.mk (AtSl.below HA.out hb1)
  have HD1 := Hid.mk (RDep.below HD.out hb1)
  have B1 := B0.trans (hb1.mono B0.size)
  clear hb1 HA HD B0
  cases hg1 : goodDeps xs C with
  | false =>
    go_wp2
    exact bodyPost_ret (v := .tuple #[.bool false, .bool false]) (by simp [results, Tryd.results44, go_sem]) rfl ⟨by rw [impB_no1 hg1]; rfl, B1⟩
  | true =>
    obtain ⟨⟨a1, a2, a3, _⟩, ⟨b1, b2, b3, _⟩⟩ := RDep.at_iff HD1.out
    have K1 := Hid.mk (l7Depend_any fa fn fc ta tn tc d.1 d.2 C w1 a1 a2 a3 b1 b2 b3)
    clear a1 a3 b1 b3
    go_wp2_with fail
    refine K1.out.mono ?_
    rintro e w2 ⟨rfl, hb2⟩
    have q0 := cell_later hb2 q0
    have q1 := cell_later hb2 q1
    have HA2 := Hid.mk (AtSl.below HA1.out hb2)
    have HD2 := Hid.mk (RDep.below HD1.out hb2)
    have B2 := B1.trans (hb2.mono B1.size)
    clear hb2 HA1 HD1 B1 K1
    have hgd : (ris C d.1 && ris C d.2) = goodDep C d := rfl
    rw [hgd]
    clear hgd
    cases hg2 : goodDep C d with
    | false =>
      go_wp2
      exact bodyPost_ret (v := .tuple #[.bool false, .bool false]) (by simp [results, Tryd.results44, go_sem]) rfl ⟨by rw [impB_two hg1, hg2]; rfl, B2⟩
    | true =>
      obtain ⟨hC1, hC6, hx10⟩ := goodDeps_C hg1
      obtain ⟨td1, td2⟩ := goodDep_told hC6 hg2
      have K2 := Hid.mk (l7Implies_any a n c xs fa fn fc ta tn tc d w2 HZ.out hn (Tolds.of hg1) HA2.out td1 td2 HD2.out)
      clear td1 td2 hx10
      go_wp2_with fail
      refine K2.out.mono ?_
      rintro e w3 ⟨rfl, hb3⟩
      have HB3 := Hid.mk (B2.trans (hb3.mono B2.size))
      clear hb3
      go_wp2
      exact bodyPost_ret (v := .tuple #[.bool (impV xs d), .bool true]) (by simp [results, Tryd.results44, go_sem]) rfl ⟨by rw [impB_two hg1, hg2]; rfl, HB3.out⟩

end Go.Proofs.YtkcfhlpdenjimaaDoor

/- Plain functions on lists of numbers: what the program's row functions answer. -/
namespace Go.Proofs.YtkcfhlpdenjimaaDoor

def inb (z : Int) : Bool := decide (-100000 ≤ z) && decide (z ≤ 100000)
/-- A good row's cells. -/
def good (zs : List Int) : Bool := decide (zs.length ≤ 6) && zs.all inb

theorem good_len {zs : List Int} (h : good zs = true) : zs.length ≤ 6 := by simp [good] at h; exact h.1
theorem good_cell {zs : List Int} (h : good zs = true) (k : Nat) (hk : k < zs.length) : -100000 ≤ zs.getD k 0 ∧ zs.getD k 0 ≤ 100000 := by
  simp [good, inb] at h
  have := h.2 (zs[k]) (List.getElem_mem hk)
  simpa [List.getD, hk] using this
theorem good_long {zs : List Int} (h : 6 < zs.length) : good zs = false := by simp [good]; omega
theorem not_good_cell {zs : List Int} (k : Nat) (hk : k < zs.length) (h : zs.getD k 0 < -100000 ∨ 100000 < zs.getD k 0) : good zs = false := by
  cases hg : good zs with
  | false => rfl
  | true => have := good_cell hg k hk; omega
theorem good_of {zs : List Int} (hl : zs.length ≤ 6) (h : ∀ k, k < zs.length → -100000 ≤ zs.getD k 0 ∧ zs.getD k 0 ≤ 100000) : good zs = true := by
  simp only [good, Bool.and_eq_true, decide_eq_true_eq, List.all_eq_true, inb]
  refine ⟨hl, fun x hx => ?_⟩
  obtain ⟨k, hk, rfl⟩ := List.getElem_of_mem hx
  simpa [List.getD, hk] using h k hk

/-- Cell by cell; the first unlike one decides; a row that ends there is less. -/
def cmp : List Int → List Int → Int
  | [], [] => 0
  | [], _ :: _ => -1
  | _ :: _, [] => 1
  | x :: xs, y :: ys => if x < y then -1 else if y < x then 1 else cmp xs ys

theorem cmp_drop (xs ys : List Int) (k : Nat) (h1 : k < xs.length) (h2 : k < ys.length) :
    cmp (xs.drop k) (ys.drop k) = if xs.getD k 0 < ys.getD k 0 then -1 else if ys.getD k 0 < xs.getD k 0 then 1 else cmp (xs.drop (k + 1)) (ys.drop (k + 1)) := by
  rw [List.drop_eq_getElem_cons h1, List.drop_eq_getElem_cons h2, cmp]
  simp [List.getD, h1, h2]

theorem cmp_end (xs ys : List Int) (k : Nat) (h : k = xs.length ∨ k = ys.length) (h1 : k ≤ xs.length) (h2 : k ≤ ys.length) :
    cmp (xs.drop k) (ys.drop k) = if xs.length < ys.length then -1 else if ys.length < xs.length then 1 else 0 := by
  rcases h with rfl | rfl
  · rw [List.drop_length]
    by_cases e : xs.length = ys.length
    · rw [List.drop_eq_nil_of_le (by omega), if_neg (by omega), if_neg (by omega)]; rfl
    · rw [List.drop_eq_getElem_cons (by omega), if_pos (by omega)]; rfl
  · rw [List.drop_length]
    by_cases e : xs.length = ys.length
    · rw [List.drop_eq_nil_of_le (by omega), if_neg (by omega), if_neg (by omega)]; rfl
    · rw [List.drop_eq_getElem_cons (by omega), if_neg (by omega), if_pos (by omega)]; rfl

theorem cmp_self (xs : List Int) : cmp xs xs = 0 := by
  induction xs with
  | nil => rfl
  | cons x xs ih => simp [cmp, ih]

def good2 (xs ys : List Int) : Bool := good xs && good ys
def cmpAns (xs ys : List Int) : Int := if good xs && good ys then cmp xs ys else 0

/-- A cell's three bytes. -/
def cellNums (z : Int) : List Int := [(z + 100000) / 65536, (z + 100000) / 256 % 256, (z + 100000) % 256]
def rowNumsTo (zs : List Int) (k : Nat) : List Int := (zs.length : Int) :: (zs.take k).flatMap cellNums
def rowNums (zs : List Int) : List Int := (zs.length : Int) :: zs.flatMap cellNums

theorem take_snocD (zs : List Int) (k : Nat) (h : k < zs.length) : zs.take (k + 1) = zs.take k ++ [zs.getD k 0] := by
  rw [List.take_succ_eq_append_getElem h]; simp [List.getD, h]
theorem rowNumsTo_succ (zs : List Int) (k : Nat) (h : k < zs.length) : rowNumsTo zs (k + 1) = rowNumsTo zs k ++ cellNums (zs.getD k 0) := by
  unfold rowNumsTo
  rw [take_snocD zs k h, List.flatMap_append]
  simp only [List.flatMap_cons, List.flatMap_nil, List.append_nil, List.cons_append]
theorem rowNumsTo_all (zs : List Int) : rowNumsTo zs zs.length = rowNums zs := by simp [rowNumsTo, rowNums]
theorem rowNumsTo_length (zs : List Int) (k : Nat) (h : k ≤ zs.length) : (rowNumsTo zs k).length = 1 + 3 * k := by
  induction k with
  | zero => simp [rowNumsTo]
  | succ k ih => rw [rowNumsTo_succ zs k (by omega), List.length_append, ih (by omega)]; simp [cellNums]; omega

/-- The row itself where it is good, else the empty one. -/
def goodOr (zs : List Int) : List Int := if good zs then zs else []

def byt (s : ByteArray) (k : Nat) : Nat := (s.data.toList.getD k 0).toNat
/-- The j-th cell that a row's bytes tell. -/
def cellAt (s : ByteArray) (j : Nat) : Int := (byt s (1 + 3 * j) : Int) * 65536 + (byt s (1 + 3 * j + 1) : Int) * 256 + (byt s (1 + 3 * j + 2) : Int) - 100000
def cellsTo (s : ByteArray) (k : Nat) : List Int := (List.range k).map (cellAt s)
theorem byt_lt (s : ByteArray) (k : Nat) : byt s k < 256 := (s.data.toList.getD k 0).toNat_lt
theorem byt_at (s : ByteArray) (k : Nat) (h : k < s.size) : (s[k]'h).toNat = byt s k := by
  have h' : k < s.data.size := h
  unfold byt
  rw [show s.data.toList.getD k 0 = s[k] from by simp only [List.getD, Array.getElem?_toList, Array.getElem?_eq_getElem h', Option.getD_some]; rfl]
theorem cellsTo_succ (s : ByteArray) (k : Nat) : cellsTo s (k + 1) = cellsTo s k ++ [cellAt s k] := by simp [cellsTo, List.range_succ]
theorem cellsTo_length (s : ByteArray) (k : Nat) : (cellsTo s k).length = k := by simp [cellsTo]

/-- A good row's cells raised above 0, and 0 behind the last one. -/
def raised (zs : List Int) : List Int := zs.map (· + 100001) ++ List.replicate (6 - zs.length) 0

theorem cmp_raised' (xs : List Int) : ∀ (ys : List Int) (a b : Nat), (∀ x ∈ xs, -100000 ≤ x) → (∀ y ∈ ys, -100000 ≤ y) → xs.length + a = ys.length + b →
    cmp (xs.map (· + 100001) ++ List.replicate a 0) (ys.map (· + 100001) ++ List.replicate b 0) = cmp xs ys := by
  induction xs with
  | nil =>
    intro ys a b _ hy hl
    cases ys with
    | nil => simp at hl; subst hl; simp [cmp_self, cmp]
    | cons y ys =>
      obtain ⟨a', rfl⟩ : ∃ a', a = a' + 1 := ⟨a - 1, by simp at hl; omega⟩
      have := hy y (by simp)
      simp [List.replicate_succ, cmp]
      omega
  | cons x xs ih =>
    intro ys a b hx hy hl
    have h0 := hx x (by simp)
    cases ys with
    | nil =>
      obtain ⟨b', rfl⟩ : ∃ b', b = b' + 1 := ⟨b - 1, by simp at hl; omega⟩
      simp only [List.map_cons, List.cons_append, List.map_nil, List.nil_append, List.replicate_succ, cmp]
      rw [if_neg (by omega), if_pos (by omega)]
    | cons y ys =>
      have h1 := hy y (by simp)
      simp only [List.map_cons, List.cons_append, cmp]
      rw [ih ys a b (fun z hz => hx z (by simp [hz])) (fun z hz => hy z (by simp [hz])) (by simp at hl; omega)]
      by_cases e1 : x < y
      · rw [if_pos (by omega), if_pos e1]
      · rw [if_neg (by omega), if_neg e1]
        by_cases e2 : y < x
        · rw [if_pos (by omega), if_pos e2]
        · rw [if_neg (by omega), if_neg e2]

theorem good_mem {zs : List Int} (h : good zs = true) : ∀ z ∈ zs, -100000 ≤ z ∧ z ≤ 100000 := by
  simp only [good, Bool.and_eq_true, List.all_eq_true, inb, decide_eq_true_eq] at h
  exact h.2

theorem cmp_raised {xs ys : List Int} (hx : good xs = true) (hy : good ys = true) : cmp (raised xs) (raised ys) = cmp xs ys := by
  have h1 := good_len hx
  have h2 := good_len hy
  exact cmp_raised' xs ys _ _ (fun z hz => (good_mem hx z hz).1) (fun z hz => (good_mem hy z hz).1) (by omega)

/-- The array while it is filled. -/
def rowTo (zs : List Int) (k : Nat) : List Int := (zs.take k).map (· + 100001) ++ List.replicate (6 - k) 0

theorem rowTo_length (zs : List Int) (k : Nat) (h : k ≤ zs.length) (h6 : k ≤ 6) : (rowTo zs k).length = 6 := by simp [rowTo]; omega

theorem rowTo_set (zs : List Int) (k : Nat) (h : k < zs.length) (h6 : k < 6) : (rowTo zs k).set k (zs.getD k 0 + 100001) = rowTo zs (k + 1) := by
  unfold rowTo
  rw [List.set_append_right _ _ (by simp; omega)]
  rw [show k - (List.map (· + 100001) (List.take k zs)).length = 0 by simp; omega]
  rw [show 6 - k = (6 - (k + 1)) + 1 by omega, List.replicate_succ, List.set_cons_zero]
  rw [List.take_succ_eq_append_getElem h, List.map_append, List.append_assoc]
  simp [List.getD, h]

theorem rowTo_all (zs : List Int) : rowTo zs zs.length = raised zs := by simp [rowTo, raised]

theorem raised_length {zs : List Int} (h : zs.length ≤ 6) : (raised zs).length = 6 := by simp [raised]; omega

end Go.Proofs.YtkcfhlpdenjimaaDoor

/- Plain functions on lists of weighted rows: what a good table is. -/
namespace Go.Proofs.YtkcfhlpdenjimaaDoor

def inw (x : Int) : Bool := decide (-1000000 ≤ x) && decide (x ≤ 1000000)
def inc (p : Int) : Bool := decide (0 ≤ p) && decide (p ≤ 6)
/-- A row that may be handed in. -/
def goodW (p : Int) (t : WRow) : Bool := good t.1 && (decide ((t.1.length : Int) = p) && inw t.2)
/-- The k-th row may stand in a table. -/
def stepB (p : Int) (ts : List WRow) (k : Nat) : Bool := goodW p (wat ts k) && (!decide ((wat ts k).2 = 0) && (decide (k = 0) || decide (cmp (wat ts (k - 1)).1 (wat ts k).1 < 0)))
/-- A good table. -/
def goodT (p : Int) (ts : List WRow) : Bool := inc p && (decide (ts.length ≤ 60) && (List.range ts.length).all (stepB p ts))
def goodL (p : Int) (ts : List WRow) : Bool := ts.all (goodW p)

theorem goodW_cells {p : Int} {t : WRow} (h : goodW p t = true) : good t.1 = true ∧ (t.1.length : Int) = p ∧ -1000000 ≤ t.2 ∧ t.2 ≤ 1000000 := by
  simpa [goodW, inw] using h
theorem goodW_mk {p : Int} {t : WRow} (h1 : good t.1 = true) (h2 : (t.1.length : Int) = p) (h3 : inw t.2 = true) : goodW p t = true := by
  simp [goodW, h1, h2, h3]
theorem goodW_row {p : Int} {t : WRow} (h : good t.1 = false) : goodW p t = false := by simp [goodW, h]
theorem goodW_len {p : Int} {t : WRow} (h : (t.1.length : Int) ≠ p) : goodW p t = false := by simp [goodW, h]
theorem goodW_wt {p : Int} {t : WRow} (h : inw t.2 = false) : goodW p t = false := by simp [goodW, h]

theorem wat_mem {ts : List WRow} {k : Nat} (h : k < ts.length) : wat ts k ∈ ts := by
  rw [show wat ts k = ts[k] by simp [wat, List.getD, h]]; exact List.getElem_mem h

theorem goodL_of {p : Int} {ts : List WRow} (h : ∀ k, k < ts.length → goodW p (wat ts k) = true) : goodL p ts = true := by
  unfold goodL
  rw [List.all_eq_true]
  intro t ht
  obtain ⟨k, hk, rfl⟩ := List.getElem_of_mem ht
  simpa [wat, List.getD, hk] using h k hk
theorem goodL_at {p : Int} {ts : List WRow} (h : goodL p ts = true) (k : Nat) (hk : k < ts.length) : goodW p (wat ts k) = true := List.all_eq_true.1 h _ (wat_mem hk)
theorem goodL_not {p : Int} {ts : List WRow} (k : Nat) (hk : k < ts.length) (h : goodW p (wat ts k) = false) : goodL p ts = false := by
  cases hg : goodL p ts with
  | false => rfl
  | true => rw [goodL_at hg k hk] at h; cases h

theorem goodT_of {p : Int} {ts : List WRow} (h1 : inc p = true) (h2 : ts.length ≤ 60) (h : ∀ k, k < ts.length → stepB p ts k = true) : goodT p ts = true := by
  simp only [goodT, h1, decide_eq_true h2, Bool.true_and, List.all_eq_true, List.mem_range]; exact h
theorem goodT_parts {p : Int} {ts : List WRow} (h : goodT p ts = true) : inc p = true ∧ ts.length ≤ 60 ∧ ∀ k, k < ts.length → stepB p ts k = true := by
  simpa only [goodT, Bool.and_eq_true, decide_eq_true_eq, List.all_eq_true, List.mem_range] using h
theorem goodT_col {p : Int} {ts : List WRow} (h : inc p = false) : goodT p ts = false := by simp [goodT, h]
theorem goodT_len {p : Int} {ts : List WRow} (h : 60 < ts.length) : goodT p ts = false := by
  have : decide (ts.length ≤ 60) = false := by simp; omega
  simp [goodT, this]
theorem goodT_not {p : Int} {ts : List WRow} (k : Nat) (hk : k < ts.length) (h : stepB p ts k = false) : goodT p ts = false := by
  cases hg : goodT p ts with
  | false => rfl
  | true => rw [(goodT_parts hg).2.2 k hk] at h; cases h
theorem stepB_good {p : Int} {ts : List WRow} {k : Nat} (h : stepB p ts k = true) : goodW p (wat ts k) = true := by
  simp only [stepB, Bool.and_eq_true] at h; exact h.1
theorem stepB_row {p : Int} {ts : List WRow} {k : Nat} (h : goodW p (wat ts k) = false) : stepB p ts k = false := by simp only [stepB, h, Bool.false_and]
theorem stepB_zero {p : Int} {ts : List WRow} {k : Nat} (h : (wat ts k).2 = 0) : stepB p ts k = false := by simp only [stepB, h, decide_true, Bool.not_true, Bool.false_and, Bool.and_false]
theorem stepB_cmp {p : Int} {ts : List WRow} {k : Nat} (h0 : k ≠ 0) (h : ¬ cmp (wat ts (k - 1)).1 (wat ts k).1 < 0) : stepB p ts k = false := by
  simp only [stepB, decide_eq_false h0, decide_eq_false h, Bool.or_false, Bool.and_false]
theorem stepB_mk {p : Int} {ts : List WRow} {k : Nat} (h1 : goodW p (wat ts k) = true) (h2 : (wat ts k).2 ≠ 0) (h3 : k = 0 ∨ cmp (wat ts (k - 1)).1 (wat ts k).1 < 0) : stepB p ts k = true := by
  rcases h3 with h3 | h3 <;> simp only [stepB, h1, decide_eq_false h2, decide_eq_true h3, Bool.not_false, Bool.true_and, Bool.or_true, Bool.true_or]
theorem goodL_of_goodT {p : Int} {ts : List WRow} (h : goodT p ts = true) : goodL p ts = true := goodL_of fun k hk => stepB_good ((goodT_parts h).2.2 k hk)
theorem goodT_goodL {p : Int} {ts : List WRow} (h : goodL p ts = false) : goodT p ts = false := by
  cases hg : goodT p ts with
  | false => rfl
  | true => rw [goodL_of_goodT hg] at h; cases h
theorem inc_range {p : Int} (h : inc p = true) : 0 ≤ p ∧ p ≤ 6 := by simpa [inc] using h

/-- cmp tells -1, 0 or 1. -/
theorem cmp_range (xs : List Int) : ∀ ys, cmp xs ys = -1 ∨ cmp xs ys = 0 ∨ cmp xs ys = 1 := by
  induction xs with
  | nil => intro ys; cases ys <;> simp [cmp]
  | cons x xs ih =>
    intro ys
    cases ys with
    | nil => simp [cmp]
    | cons y ys =>
      simp only [cmp]
      by_cases h1 : x < y
      · simp [h1]
      · by_cases h2 : y < x
        · simp [h1, h2]
        · simp [h1, h2, ih ys]

end Go.Proofs.YtkcfhlpdenjimaaDoor
