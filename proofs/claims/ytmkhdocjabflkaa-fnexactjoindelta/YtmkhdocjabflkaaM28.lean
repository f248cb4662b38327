/- Contract of impl.JoinDelta. -/
import Derived.Test.YtmkhdocjabflkaaM17
import Derived.Test.YtmkhdocjabflkaaM21
import Derived.Test.YtmkhdocjabflkaaM27
import Derived.Test.YtmkhdocjabflkaaM18
namespace Go.Proofs.Ytmkhdocjabflkaa
open Go.RowKit Go.Maps

def jdB (p1 : Int) (ts : List WRow) (p2 : Int) (us : List WRow) (p3 : Int) (dts : List WRow) (p4 : Int) (dus : List WRow) (ps : List (List Int)) : Bool :=
  alike p1 ts p3 dts && (alike p2 us p4 dus && ((pairsOk ps p1.toNat p2.toNat && decide (joinC p1 p2 ps ≤ 6)) && goodT (joinC p1 p2 ps) (jdW ts us dts dus ps)))
section
variable {p1 p2 p3 p4 : Int} {ts us dts dus : List WRow} {ps : List (List Int)}
theorem jdB_a (h : alike p1 ts p3 dts = false) : jdB p1 ts p2 us p3 dts p4 dus ps = false := by simp [jdB, h]
theorem jdB_b (h : alike p2 us p4 dus = false) : jdB p1 ts p2 us p3 dts p4 dus ps = false := by simp [jdB, h]
theorem jdB_p (h : (pairsOk ps p1.toNat p2.toNat && decide (joinC p1 p2 ps ≤ 6)) = false) : jdB p1 ts p2 us p3 dts p4 dus ps = false := by simp only [jdB, h]; simp
theorem jdB_yes (h1 : alike p1 ts p3 dts = true) (h2 : alike p2 us p4 dus = true) (h3 : (pairsOk ps p1.toNat p2.toNat && decide (joinC p1 p2 ps ≤ 6)) = true) : jdB p1 ts p2 us p3 dts p4 dus ps = goodT (joinC p1 p2 ps) (jdW ts us dts dus ps) := by
  simp only [jdB, h1, h2, h3, Bool.true_and]
theorem jdB_goodT (h : jdB p1 ts p2 us p3 dts p4 dus ps = true) : goodT (joinC p1 p2 ps) (jdW ts us dts dus ps) = true := by
  simp only [jdB, Bool.and_eq_true] at h
  exact h.2.2.2
end

set_option maxRecDepth 100000 in
set_option maxHeartbeats 8000000 in
theorem implJoinDelta (a1 a2 a3 a4 ap : Option Addr) (n1 n2 n3 n4 np c1 c2 c3 c4 cp : Nat) (ts us dts dus : List WRow) (ps : List (List Int)) (p1 p2 p3 p4 : Int) (w : World) (hz1 : ts.length = n1) (hz2 : us.length = n2) (hz3 : dts.length = n3) (hz4 : dus.length = n4) (hzp : ps.length = np) (hn1 : n1 ≤ 1048576) (hn2 : n2 ≤ 1048576) (hn3 : n3 ≤ 1048576) (hn4 : n4 ≤ 1048576) (hnp : np ≤ 1048576) (ha1 : AtM w a1 ts) (ha2 : AtM w a2 us) (ha3 : AtM w a3 dts) (ha4 : AtM w a4 dus) (hap : AtS w ap ps) :
    Calls Try.prog 10 #[.agg #[.int .i64 p1, .slice a1 n1 c1], .agg #[.int .i64 p2, .slice a2 n2 c2], .agg #[.int .i64 p3, .slice a3 n3 c3], .agg #[.int .i64 p4, .slice a4 n4 c4], .slice ap np cp] w fun e w' => TabAns e w' w.heap.size (jdB p1 ts p2 us p3 dts p4 dus ps) (joinC p1 p2 ps) (jdW ts us dts dus ps) ∧ Below w.heap.size w w' := by
  obtain ⟨W, hW⟩ : ∃ W, W = ((((w.alloc (.cells #[.int .i64 p1, .slice a1 n1 c1] 25)).alloc (.cells #[.int .i64 p2, .slice a2 n2 c2] 25)).alloc (.cells #[.int .i64 p3, .slice a3 n3 c3] 25)).alloc (.cells #[.int .i64 p4, .slice a4 n4 c4] 25)).alloc (.cells #[.int .i64 0, .slice none 0 0] 25) := ⟨_, rfl⟩
  have zW : W.heap.size = w.heap.size + 1 + 1 + 1 + 1 + 1 := by rw [hW]; simp
  have B0 : Below w.heap.size w W := by rw [hW]; exact (((((Below.refl _ _).alloc (Nat.le_refl _) _).alloc (by simp) _).alloc (by simp; omega) _).alloc (by simp; omega) _).alloc (by simp; omega) _
  have q0 : W.heap[w.heap.size + 1 + 1 + 1 + 1]? = some (.cells #[.int .i64 0, .slice none 0 0] 25 (0, 0)) := by
    rw [hW]
    have := heap_alloc_new ((((w.alloc (.cells #[.int .i64 p1, .slice a1 n1 c1] 25)).alloc (.cells #[.int .i64 p2, .slice a2 n2 c2] 25)).alloc (.cells #[.int .i64 p3, .slice a3 n3 c3] 25)).alloc (.cells #[.int .i64 p4, .slice a4 n4 c4] 25)) (.cells #[.int .i64 0, .slice none 0 0] 25)
    rwa [World.size_alloc, World.size_alloc, World.size_alloc, World.size_alloc] at this
  have e0 : W.cell? ⟨w.heap.size + 1 + 1 + 1 + 1, 0, none⟩ = some (.int .i64 0) := by rw [cell_of_row _ _ 0 _ _ (0, 0) q0]; rfl
  have e1 : W.cell? ⟨w.heap.size + 1 + 1 + 1 + 1, 1, none⟩ = some (.slice none 0 0) := by rw [cell_of_row _ _ 1 _ _ (0, 0) q0]; rfl
  have f0 : W.frozen? ⟨w.heap.size + 1 + 1 + 1 + 1, 0, none⟩ = false := frozen_of_row _ _ 0 _ _ q0
  have f1 : W.frozen? ⟨w.heap.size + 1 + 1 + 1 + 1, 1, none⟩ = false := frozen_of_row _ _ 1 _ _ q0
  clear q0
  have k10 : W.cell? ⟨w.heap.size, 0, none⟩ = some (.int .i64 p1) := by rw [hW]; refine alloc_keeps (alloc_keeps (alloc_keeps (alloc_keeps (?_) _) _) _) _; have := pair0 w (.int .i64 p1) (.slice a1 n1 c1) 25; simpa only [World.size_alloc] using this
  have k11 : W.cell? ⟨w.heap.size, 1, none⟩ = some (.slice a1 n1 c1) := by rw [hW]; refine alloc_keeps (alloc_keeps (alloc_keeps (alloc_keeps (?_) _) _) _) _; have := pair1 w (.int .i64 p1) (.slice a1 n1 c1) 25; simpa only [World.size_alloc] using this
  have k20 : W.cell? ⟨w.heap.size + 1, 0, none⟩ = some (.int .i64 p2) := by rw [hW]; refine alloc_keeps (alloc_keeps (alloc_keeps (?_) _) _) _; have := pair0 (w.alloc (.cells #[.int .i64 p1, .slice a1 n1 c1] 25)) (.int .i64 p2) (.slice a2 n2 c2) 25; simpa only [World.size_alloc] using this
  have k21 : W.cell? ⟨w.heap.size + 1, 1, none⟩ = some (.slice a2 n2 c2) := by rw [hW]; refine alloc_keeps (alloc_keeps (alloc_keeps (?_) _) _) _; have := pair1 (w.alloc (.cells #[.int .i64 p1, .slice a1 n1 c1] 25)) (.int .i64 p2) (.slice a2 n2 c2) 25; simpa only [World.size_alloc] using this
  have k30 : W.cell? ⟨w.heap.size + 1 + 1, 0, none⟩ = some (.int .i64 p3) := by rw [hW]; refine alloc_keeps (alloc_keeps (?_) _) _; have := pair0 ((w.alloc (.cells #[.int .i64 p1, .slice a1 n1 c1] 25)).alloc (.cells #[.int .i64 p2, .slice a2 n2 c2] 25)) (.int .i64 p3) (.slice a3 n3 c3) 25; simpa only [World.size_alloc] using this
  have k31 : W.cell? ⟨w.heap.size + 1 + 1, 1, none⟩ = some (.slice a3 n3 c3) := by rw [hW]; refine alloc_keeps (alloc_keeps (?_) _) _; have := pair1 ((w.alloc (.cells #[.int .i64 p1, .slice a1 n1 c1] 25)).alloc (.cells #[.int .i64 p2, .slice a2 n2 c2] 25)) (.int .i64 p3) (.slice a3 n3 c3) 25; simpa only [World.size_alloc] using this
  have k40 : W.cell? ⟨w.heap.size + 1 + 1 + 1, 0, none⟩ = some (.int .i64 p4) := by rw [hW]; refine alloc_keeps (?_) _; have := pair0 (((w.alloc (.cells #[.int .i64 p1, .slice a1 n1 c1] 25)).alloc (.cells #[.int .i64 p2, .slice a2 n2 c2] 25)).alloc (.cells #[.int .i64 p3, .slice a3 n3 c3] 25)) (.int .i64 p4) (.slice a4 n4 c4) 25; simpa only [World.size_alloc] using this
  have k41 : W.cell? ⟨w.heap.size + 1 + 1 + 1, 1, none⟩ = some (.slice a4 n4 c4) := by rw [hW]; refine alloc_keeps (?_) _; have := pair1 (((w.alloc (.cells #[.int .i64 p1, .slice a1 n1 c1] 25)).alloc (.cells #[.int .i64 p2, .slice a2 n2 c2] 25)).alloc (.cells #[.int .i64 p3, .slice a3 n3 c3] 25)) (.int .i64 p4) (.slice a4 n4 c4) 25; simpa only [World.size_alloc] using this
  have HA1 := ha1.below B0
  have HA2 := ha2.below B0
  have HA3 := ha3.below B0
  have HA4 := ha4.below B0
  have HP := hap.below B0
  clear ha1 ha2 ha3 ha4 hap
  cases hg : alike p1 ts p3 dts with
  | false =>
    have HG := Hid.mk hg
    clear hg
    go_enter Try.func10, Try.ntmps10
    go_wp2_with fail
    rw [← hW]
    clear hW
    refine (goodAlike_any _ _ _ _ _ _ ts dts _ _ _ hz1 hz3 hn1 hn3 HA1.atW HA3.atW).mono ?_
    rintro e w1 ⟨rfl, hb1⟩
    rw [HG.out]
    have B1 := B0.trans (hb1.mono B0.size)
    replace f0 := frozen_later hb1 e0 f0
    replace f1 := frozen_later hb1 e1 f1
    replace e0 := cell_later hb1 e0
    replace e1 := cell_later hb1 e1
    replace k10 := cell_later hb1 k10
    replace k11 := cell_later hb1 k11
    replace k20 := cell_later hb1 k20
    replace k21 := cell_later hb1 k21
    replace k30 := cell_later hb1 k30
    replace k31 := cell_later hb1 k31
    replace k40 := cell_later hb1 k40
    replace k41 := cell_later hb1 k41
    replace HA1 := HA1.below hb1
    replace HA2 := HA2.below hb1
    replace HA3 := HA3.below hb1
    replace HA4 := HA4.below hb1
    replace HP := HP.below hb1
    clear hb1
    go_wp2
    refine bodyPost_ret (v := .tuple #[.agg #[.int .i64 0, .slice none 0 0], .bool false]) (by simp [results, Try.results10, go_sem, e0, e1]) rfl ⟨TabAns.zero (jdB_a HG.out) rfl, ?_⟩
    exact (B1.setCell (by show w.heap.size ≤ w.heap.size + 1 + 1 + 1 + 1; omega) _).setCell (by show w.heap.size ≤ w.heap.size + 1 + 1 + 1 + 1; omega) _
  | true =>
    have HG := Hid.mk hg
    cases hg' : alike p2 us p4 dus with
    | false =>
      have HG' := Hid.mk hg'
      clear hg hg'
      go_enter Try.func10, Try.ntmps10
      go_wp2_with fail
      rw [← hW]
      clear hW
      refine (goodAlike_any _ _ _ _ _ _ ts dts _ _ _ hz1 hz3 hn1 hn3 HA1.atW HA3.atW).mono ?_
      rintro e w1 ⟨rfl, hb1⟩
      rw [HG.out]
      have B1 := B0.trans (hb1.mono B0.size)
      replace f0 := frozen_later hb1 e0 f0
      replace f1 := frozen_later hb1 e1 f1
      replace e0 := cell_later hb1 e0
      replace e1 := cell_later hb1 e1
      replace k10 := cell_later hb1 k10
      replace k11 := cell_later hb1 k11
      replace k20 := cell_later hb1 k20
      replace k21 := cell_later hb1 k21
      replace k30 := cell_later hb1 k30
      replace k31 := cell_later hb1 k31
      replace k40 := cell_later hb1 k40
      replace k41 := cell_later hb1 k41
      replace HA1 := HA1.below hb1
      replace HA2 := HA2.below hb1
      replace HA3 := HA3.below hb1
      replace HA4 := HA4.below hb1
      replace HP := HP.below hb1
      clear hb1
      go_wp2_with fail
      refine (goodAlike_any _ _ _ _ _ _ us dus _ _ _ hz2 hz4 hn2 hn4 HA2.atW HA4.atW).mono ?_
      rintro e w2 ⟨rfl, hb2⟩
      rw [HG'.out]
      have B2 := B1.trans (hb2.mono B1.size)
      replace f0 := frozen_later hb2 e0 f0
      replace f1 := frozen_later hb2 e1 f1
      replace e0 := cell_later hb2 e0
      replace e1 := cell_later hb2 e1
      replace k10 := cell_later hb2 k10
      replace k11 := cell_later hb2 k11
      replace k20 := cell_later hb2 k20
      replace k21 := cell_later hb2 k21
      replace k30 := cell_later hb2 k30
      replace k31 := cell_later hb2 k31
      replace k40 := cell_later hb2 k40
      replace k41 := cell_later hb2 k41
      replace HA1 := HA1.below hb2
      replace HA2 := HA2.below hb2
      replace HA3 := HA3.below hb2
      replace HA4 := HA4.below hb2
      replace HP := HP.below hb2
      clear hb2
      go_wp2
      refine bodyPost_ret (v := .tuple #[.agg #[.int .i64 0, .slice none 0 0], .bool false]) (by simp [results, Try.results10, go_sem, e0, e1]) rfl ⟨TabAns.zero (jdB_b HG'.out) rfl, ?_⟩
      exact (B2.setCell (by show w.heap.size ≤ w.heap.size + 1 + 1 + 1 + 1; omega) _).setCell (by show w.heap.size ≤ w.heap.size + 1 + 1 + 1 + 1; omega) _
    | true =>
      have HG' := Hid.mk hg'
      obtain ⟨g1, g3, h13⟩ := alike_parts hg
      obtain ⟨g2, g4, h24⟩ := alike_parts hg'
      subst h13 h24
      obtain ⟨q1, hq1⟩ : ∃ q : Nat, p1 = q := ⟨p1.toNat, by have := inc_range (goodT_parts g1).1; omega⟩
      obtain ⟨q2, hq2⟩ : ∃ q : Nat, p2 = q := ⟨p2.toNat, by have := inc_range (goodT_parts g2).1; omega⟩
      subst hq1 hq2
      have h61 : q1 ≤ 6 := by have := inc_range (goodT_parts g1).1; omega
      have h62 : q2 ≤ 6 := by have := inc_range (goodT_parts g2).1; omega
      have G1 := Hid.mk g1
      have G2 := Hid.mk g2
      have G3 := Hid.mk g3
      have G4 := Hid.mk g4
      clear hg hg' g1 g2 g3 g4
      go_enter Try.func10, Try.ntmps10
      go_wp2_with fail
      rw [← hW]
      clear hW
      refine (goodAlike_any _ _ _ _ _ _ ts dts _ _ _ hz1 hz3 hn1 hn3 HA1.atW HA3.atW).mono ?_
      rintro e w1 ⟨rfl, hb1⟩
      rw [HG.out]
      have B1 := B0.trans (hb1.mono B0.size)
      replace f0 := frozen_later hb1 e0 f0
      replace f1 := frozen_later hb1 e1 f1
      replace e0 := cell_later hb1 e0
      replace e1 := cell_later hb1 e1
      replace k10 := cell_later hb1 k10
      replace k11 := cell_later hb1 k11
      replace k20 := cell_later hb1 k20
      replace k21 := cell_later hb1 k21
      replace k30 := cell_later hb1 k30
      replace k31 := cell_later hb1 k31
      replace k40 := cell_later hb1 k40
      replace k41 := cell_later hb1 k41
      replace HA1 := HA1.below hb1
      replace HA2 := HA2.below hb1
      replace HA3 := HA3.below hb1
      replace HA4 := HA4.below hb1
      replace HP := HP.below hb1
      clear hb1
      go_wp2_with fail
      refine (goodAlike_any _ _ _ _ _ _ us dus _ _ _ hz2 hz4 hn2 hn4 HA2.atW HA4.atW).mono ?_
      rintro e w2 ⟨rfl, hb2⟩
      rw [HG'.out]
      have B2 := B1.trans (hb2.mono B1.size)
      replace f0 := frozen_later hb2 e0 f0
      replace f1 := frozen_later hb2 e1 f1
      replace e0 := cell_later hb2 e0
      replace e1 := cell_later hb2 e1
      replace k10 := cell_later hb2 k10
      replace k11 := cell_later hb2 k11
      replace k20 := cell_later hb2 k20
      replace k21 := cell_later hb2 k21
      replace k30 := cell_later hb2 k30
      replace k31 := cell_later hb2 k31
      replace k40 := cell_later hb2 k40
      replace k41 := cell_later hb2 k41
      replace HA1 := HA1.below hb2
      replace HA2 := HA2.below hb2
      replace HA3 := HA3.below hb2
      replace HA4 := HA4.below hb2
      replace HP := HP.below hb2
      clear hb2
      go_wp2_with fail
      refine (joinOfCells_any q1 q2 _ _ _ ps _ h61 h62 hzp hnp HP).mono ?_
      rintro e w3 ⟨hb3, hcase⟩
      have B3 := B2.trans (hb3.mono B2.size)
      replace f0 := frozen_later hb3 e0 f0
      replace f1 := frozen_later hb3 e1 f1
      replace e0 := cell_later hb3 e0
      replace e1 := cell_later hb3 e1
      replace k10 := cell_later hb3 k10
      replace k11 := cell_later hb3 k11
      replace k20 := cell_later hb3 k20
      replace k21 := cell_later hb3 k21
      replace k30 := cell_later hb3 k30
      replace k31 := cell_later hb3 k31
      replace k40 := cell_later hb3 k40
      replace k41 := cell_later hb3 k41
      replace HA1 := HA1.below hb3
      replace HA2 := HA2.below hb3
      replace HA3 := HA3.below hb3
      replace HA4 := HA4.below hb3
      clear hb3 HP
      rcases hcase with ⟨hno, rfl⟩ | ⟨hyes, f5, f3, f4, f6, rfl, hmt⟩
      · have HNO := Hid.mk hno
        clear hno
        go_wp2
        refine bodyPost_ret (v := .tuple #[.agg #[.int .i64 0, .slice none 0 0], .bool false]) (by simp [results, Try.results10, go_sem, e0, e1]) rfl ⟨TabAns.zero (jdB_p HNO.out) rfl, ?_⟩
        exact (B3.setCell (by show w.heap.size ≤ w.heap.size + 1 + 1 + 1 + 1; omega) _).setCell (by show w.heap.size ≤ w.heap.size + 1 + 1 + 1 + 1; omega) _
      · have HNB : Hid (jdB q1 ts q2 us q1 dts q2 dus ps = goodT (joinC q1 q2 ps) (jdW ts us dts dus ps)) := jdB_yes HG.out HG'.out hyes
        simp only [Bool.and_eq_true, decide_eq_true_eq] at hyes
        have HOK : Hid (pairsOk ps q1 q2 = true) := hyes.1
        have HJC : Hid (joinC q1 q2 ps ≤ 6) := hyes.2
        clear hyes
        obtain ⟨J, hJ⟩ : ∃ J : Nat, J = joinC q1 q2 ps := ⟨_, rfl⟩
        rw [← hJ]
        have HJ := Hid.mk hJ
        clear hJ
        go_wp2_with fail
        refine wp_region_held_drew (S := fun w' => w'.cell? ⟨w.heap.size, 0, none⟩ = some (.int .i64 q1) ∧ w'.cell? ⟨w.heap.size, 1, none⟩ = some (.slice a1 n1 c1) ∧ w'.cell? ⟨w.heap.size + 1, 0, none⟩ = some (.int .i64 q2) ∧ w'.cell? ⟨w.heap.size + 1, 1, none⟩ = some (.slice a2 n2 c2) ∧ w'.cell? ⟨w.heap.size + 1 + 1, 0, none⟩ = some (.int .i64 q1) ∧ w'.cell? ⟨w.heap.size + 1 + 1, 1, none⟩ = some (.slice a3 n3 c3) ∧ w'.cell? ⟨w.heap.size + 1 + 1 + 1, 0, none⟩ = some (.int .i64 q2) ∧ w'.cell? ⟨w.heap.size + 1 + 1 + 1, 1, none⟩ = some (.slice a4 n4 c4)) (by kernel_rfl) ?_ (fun hHeld => ?_)
        · (try dsimp only)
          exact ⟨k10, k11, k20, k21, k30, k31, k40, k41⟩
        refine wpAnyH_take (i := 0) (oi := ?_) (v := ?_) ?_ (by kernel_rfl) (by kernel_rfl) (by kernel_rfl) ?_ (Or.inl ⟨?_, ?_⟩) (by assumption) ?_
        rotate_left 2
        · (simp only [List.getElem?_toArray, List.getElem?_cons_zero]; rfl)
        · exact fun _ _ _ h => h
        · rfl
        · (intro wS hSw; (try dsimp only at hSw); go_simp; (try with_reducible rfl))
        (try simp only [Act.put, List.setIfInBounds_toArray, List.set_cons_zero, List.set_cons_succ])
        refine wpAnyH_take (i := 2) (oi := ?_) (v := ?_) ?_ (by kernel_rfl) (by kernel_rfl) (by kernel_rfl) ?_ (Or.inl ⟨?_, ?_⟩) (by assumption) ?_
        rotate_left 2
        · (simp only [List.getElem?_toArray, List.getElem?_cons_zero, List.getElem?_cons_succ]; rfl)
        · exact fun _ _ _ h => h
        · rfl
        · (intro wS hSw; (try dsimp only at hSw); go_simp; (try with_reducible rfl))
        (try simp only [Act.put, List.setIfInBounds_toArray, List.set_cons_zero, List.set_cons_succ])
        refine wpAnyH_take (i := 4) (oi := ?_) (v := ?_) ?_ (by kernel_rfl) (by kernel_rfl) (by kernel_rfl) ?_ (Or.inl ⟨?_, ?_⟩) (by assumption) ?_
        rotate_left 2
        · (simp only [List.getElem?_toArray, List.getElem?_cons_zero, List.getElem?_cons_succ]; rfl)
        · exact fun _ _ _ h => h
        · rfl
        · (intro wS hSw; (try dsimp only at hSw); go_simp; (try with_reducible rfl))
        (try simp only [Act.put, List.setIfInBounds_toArray, List.set_cons_zero, List.set_cons_succ])
        refine wpAnyH_take (i := 6) (oi := ?_) (v := ?_) ?_ (by kernel_rfl) (by kernel_rfl) (by kernel_rfl) ?_ (Or.inl ⟨?_, ?_⟩) (by assumption) ?_
        rotate_left 2
        · (simp only [List.getElem?_toArray, List.getElem?_cons_zero, List.getElem?_cons_succ]; rfl)
        · exact fun _ _ _ h => h
        · rfl
        · (intro wS hSw; (try dsimp only at hSw); go_simp; (try with_reducible rfl))
        (try simp only [Act.put, List.setIfInBounds_toArray, List.set_cons_zero, List.set_cons_succ])
        refine wpAnyH_take (i := 8) (oi := ?_) (v := ?_) ?_ (by kernel_rfl) (by kernel_rfl) (by kernel_rfl) ?_ (Or.inl ⟨?_, ?_⟩) (by assumption) ?_
        rotate_left 2
        · (simp only [List.getElem?_toArray, List.getElem?_cons_zero, List.getElem?_cons_succ]; rfl)
        · exact fun _ _ _ h => h
        · rfl
        · (intro wS hSw; (try dsimp only at hSw); go_simp; (try with_reducible rfl))
        (try simp only [Act.put, List.setIfInBounds_toArray, List.set_cons_zero, List.set_cons_succ])
        have HA1 := HA1.drew
        have HA2 := HA2.drew
        have HA3 := HA3.drew
        have HA4 := HA4.drew
        have hmt := hmt.below (Below.refl _ _).drew
        refine wpAnyH_ready (rs := [1]) (by kernel_rfl) (by simp) ?_
        refine AllReadyH.cons (o := ?_) ?_ (fun K hK => ?_) AllReadyH.nil
        rotate_left
        · (simp only [List.getElem?_toArray, List.getElem?_cons_zero, List.getElem?_cons_succ]; rfl)
        go_simp
        go_at_call 48; refine (countsOf_any _ _ _ q1 ts _ _ hz1 G1.out HA1.atW).mono ?_; rintro e w4 ⟨m4, rfl, hm4, hc4, hb4⟩; replace f0 := frozen_later (w := w3.drew) hb4 e0 f0; replace f1 := frozen_later (w := w3.drew) hb4 e1 f1; replace e0 := cell_later hb4 e0; replace e1 := cell_later hb4 e1; replace k10 := cell_later hb4 k10; replace k11 := cell_later hb4 k11; replace k20 := cell_later hb4 k20; replace k21 := cell_later hb4 k21; replace k30 := cell_later hb4 k30; replace k31 := cell_later hb4 k31; replace k40 := cell_later hb4 k40; replace k41 := cell_later hb4 k41; replace HA2 := HA2.below hb4; replace HA3 := HA3.below hb4; replace HA4 := HA4.below hb4; replace hmt := hmt.below hb4; have B4 := B3.drew.trans (hb4.mono B3.size)
        (try go_wp2_with fail)
        refine hK.out _ _ ?_ (fun hHeld' => ?_)
        · (try dsimp only)
          exact ⟨k10, k11, k20, k21, k30, k31, k40, k41⟩
        clear hK K hHeld
        have hHeld := hHeld'
        clear hHeld'
        (try simp only [Act.put, List.setIfInBounds_toArray, List.set_cons_zero, List.set_cons_succ])
        refine wpAnyH_ready (rs := [3]) (by kernel_rfl) (by simp) ?_
        refine AllReadyH.cons (o := ?_) ?_ (fun K hK => ?_) AllReadyH.nil
        rotate_left
        · (simp only [List.getElem?_toArray, List.getElem?_cons_zero, List.getElem?_cons_succ]; rfl)
        go_simp
        go_at_call 48; refine (countsOf_any _ _ _ q2 us _ _ hz2 G2.out HA2.atW).mono ?_; rintro e w5 ⟨m5, rfl, hm5, hc5, hb5⟩; replace f0 := frozen_later hb5 e0 f0; replace f1 := frozen_later hb5 e1 f1; replace e0 := cell_later hb5 e0; replace e1 := cell_later hb5 e1; replace k10 := cell_later hb5 k10; replace k11 := cell_later hb5 k11; replace k20 := cell_later hb5 k20; replace k21 := cell_later hb5 k21; replace k30 := cell_later hb5 k30; replace k31 := cell_later hb5 k31; replace k40 := cell_later hb5 k40; replace k41 := cell_later hb5 k41; replace HA3 := HA3.below hb5; replace HA4 := HA4.below hb5; replace hc4 := hc4.below hb5; replace hmt := hmt.below hb5; have B5 := B4.trans (hb5.mono B4.size)
        (try go_wp2_with fail)
        refine hK.out _ _ ?_ (fun hHeld' => ?_)
        · (try dsimp only)
          exact ⟨k10, k11, k20, k21, k30, k31, k40, k41⟩
        clear hK K hHeld
        have hHeld := hHeld'
        clear hHeld'
        (try simp only [Act.put, List.setIfInBounds_toArray, List.set_cons_zero, List.set_cons_succ])
        refine wpAnyH_ready (rs := [5]) (by kernel_rfl) (by simp) ?_
        refine AllReadyH.cons (o := ?_) ?_ (fun K hK => ?_) AllReadyH.nil
        rotate_left
        · (simp only [List.getElem?_toArray, List.getElem?_cons_zero, List.getElem?_cons_succ]; rfl)
        go_simp
        go_at_call 48; refine (countsOf_any _ _ _ q1 dts _ _ hz3 G3.out HA3.atW).mono ?_; rintro e w6 ⟨m6, rfl, hm6, hc6, hb6⟩; replace f0 := frozen_later hb6 e0 f0; replace f1 := frozen_later hb6 e1 f1; replace e0 := cell_later hb6 e0; replace e1 := cell_later hb6 e1; replace k10 := cell_later hb6 k10; replace k11 := cell_later hb6 k11; replace k20 := cell_later hb6 k20; replace k21 := cell_later hb6 k21; replace k30 := cell_later hb6 k30; replace k31 := cell_later hb6 k31; replace k40 := cell_later hb6 k40; replace k41 := cell_later hb6 k41; replace HA4 := HA4.below hb6; replace hc4 := hc4.below hb6; replace hc5 := hc5.below hb6; replace hmt := hmt.below hb6; have B6 := B5.trans (hb6.mono B5.size)
        (try go_wp2_with fail)
        refine hK.out _ _ ?_ (fun hHeld' => ?_)
        · (try dsimp only)
          exact ⟨k10, k11, k20, k21, k30, k31, k40, k41⟩
        clear hK K hHeld
        have hHeld := hHeld'
        clear hHeld'
        (try simp only [Act.put, List.setIfInBounds_toArray, List.set_cons_zero, List.set_cons_succ])
        refine wpAnyH_ready (rs := [7]) (by kernel_rfl) (by simp) ?_
        refine AllReadyH.cons (o := ?_) ?_ (fun K hK => ?_) AllReadyH.nil
        rotate_left
        · (simp only [List.getElem?_toArray, List.getElem?_cons_zero, List.getElem?_cons_succ]; rfl)
        go_simp
        go_at_call 48; refine (countsOf_any _ _ _ q2 dus _ _ hz4 G4.out HA4.atW).mono ?_; rintro e w7 ⟨m7, rfl, hm7, hc7, hb7⟩; replace f0 := frozen_later hb7 e0 f0; replace f1 := frozen_later hb7 e1 f1; replace e0 := cell_later hb7 e0; replace e1 := cell_later hb7 e1; replace k10 := cell_later hb7 k10; replace k11 := cell_later hb7 k11; replace k20 := cell_later hb7 k20; replace k21 := cell_later hb7 k21; replace k30 := cell_later hb7 k30; replace k31 := cell_later hb7 k31; replace k40 := cell_later hb7 k40; replace k41 := cell_later hb7 k41; replace hc4 := hc4.below hb7; replace hc5 := hc5.below hb7; replace hc6 := hc6.below hb7; replace hmt := hmt.below hb7; have B7 := B6.trans (hb7.mono B6.size)
        (try go_wp2_with fail)
        refine hK.out _ _ ?_ (fun hHeld' => ?_)
        · (try dsimp only)
          exact ⟨k10, k11, k20, k21, k30, k31, k40, k41⟩
        clear hK K hHeld
        have hHeld := hHeld'
        clear hHeld'
        (try simp only [Act.put, List.setIfInBounds_toArray, List.set_cons_zero, List.set_cons_succ])
        refine wpAnyH_ready (rs := [9]) (by kernel_rfl) (by simp) ?_
        refine AllReadyH.cons (o := ?_) ?_ (fun K hK => ?_) AllReadyH.nil
        rotate_left
        · (simp only [List.getElem?_toArray, List.getElem?_cons_zero, List.getElem?_cons_succ]; rfl)
        go_simp
        go_at_call 47; refine (productDelta_any m4 m5 m6 m7 q1 q2 60 60 ts us dts dus 1000000 1000000 f5 f3 f4 f6 ps _ hc4 hc5 hc6 hc7 (goodT_lst G1.out) (goodT_lst G2.out) (goodT_lst G3.out) (goodT_lst G4.out) hmt HOK.out HJC.out (by omega) (by omega) (by omega) (by decide) (by decide) (by decide) (by decide) (by decide) (by decide)).mono ?_; rintro e w8 ⟨m8, rfl, hm8, hc8, hb8⟩; rw [← HJ.out] at hc8; replace f0 := frozen_later hb8 e0 f0; replace f1 := frozen_later hb8 e1 f1; replace e0 := cell_later hb8 e0; replace e1 := cell_later hb8 e1; replace k10 := cell_later hb8 k10; replace k11 := cell_later hb8 k11; replace k20 := cell_later hb8 k20; replace k21 := cell_later hb8 k21; replace k30 := cell_later hb8 k30; replace k31 := cell_later hb8 k31; replace k40 := cell_later hb8 k40; replace k41 := cell_later hb8 k41; have B8 := B7.trans (hb8.mono B7.size)
        (try go_wp2_with fail)
        refine hK.out _ _ ?_ (fun hHeld' => ?_)
        · (try dsimp only)
          exact ⟨k10, k11, k20, k21, k30, k31, k40, k41⟩
        clear hK K hHeld
        have hHeld := hHeld'
        clear hHeld'
        (try simp only [Act.put, List.setIfInBounds_toArray, List.set_cons_zero, List.set_cons_succ])
        refine wpAnyH_take (i := 10) (oi := ?_) (v := ?_) ?_ (by kernel_rfl) (by kernel_rfl) (by kernel_rfl) ?_ (Or.inl ⟨?_, ?_⟩) (by assumption) ?_
        rotate_left 2
        · (simp only [List.getElem?_toArray, List.getElem?_cons_zero, List.getElem?_cons_succ]; rfl)
        · exact fun _ _ _ h => h
        · rfl
        · (intro wS hSw; (try dsimp only at hSw); go_simp; (try with_reducible rfl))
        (try simp only [Act.put, List.setIfInBounds_toArray, List.set_cons_zero, List.set_cons_succ])
        refine wpAnyH_done (by kernel_rfl) ?_ _
        clear HA1 HA2 HA3 HA4 hmt hc4 hc5 hc6 hc7 hb4 hb5 hb6 hb7 hb8 hHeld k10 k11 k20 k21 k30 k31 k40 k41
        have zR : w.heap.size + 1 + 1 + 1 + 1 < w8.heap.size := World.block_lt_of_cell? _ _ e0
        go_wp2_with fail
        refine (cnt_table _ J _ (jdW ts us dts dus ps) _ hc8 (by omega) (by rw [HJ.out]; exact HJC.out)).mono ?_
        rintro e w9 ⟨⟨r9, m9, d9, cells9, rfl, ho9⟩, hb9⟩
        replace f0 := frozen_later hb9 e0 f0
        replace f1 := frozen_later hb9 e1 f1
        replace e0 := cell_later hb9 e0
        replace e1 := cell_later hb9 e1
        have B9 := B8.trans (hb9.mono B8.size)
        have HNB2 : Hid (jdB q1 ts q2 us q1 dts q2 dus ps = goodT J (jdW ts us dts dus ps)) := by show _ = _; rw [HJ.out]; exact HNB.out
        have HJ2 : Hid ((joinC q1 q2 ps : Int) = J) := by show _ = _; rw [HJ.out]
        clear hb9 hc8
        go_wp2
        refine bodyPost_ret (v := .tuple #[.agg #[.int .i64 (tellP J (jdW ts us dts dus ps)), .slice r9 m9 d9], .bool (goodT J (jdW ts us dts dus ps))]) (by simp [results, Try.results10, go_sem, e0, e1]) rfl ⟨?_, ?_⟩
        · rw [HJ2.out]
          exact TabAns.tell HNB2.out ⟨r9, m9, d9, cells9, rfl, ho9.stored zR (by omega) _ _⟩
        · exact (B9.setCell (by show w.heap.size ≤ w.heap.size + 1 + 1 + 1 + 1; omega) _).setCell (by show w.heap.size ≤ w.heap.size + 1 + 1 + 1 + 1; omega) _

end Go.Proofs.Ytmkhdocjabflkaa
