/- Contract of spec.JoinDelta. -/
import Derived.Test.YtmkhdocjabflkaaM28
import Derived.Test.YtmkhdocjabflkaaM29
import Derived.Test.YtmkhdocjabflkaaM12
import Derived.Test.YtmkhdocjabflkaaM11
import Derived.Test.YtmkhdocjabflkaaM13
namespace Go.Proofs.Ytmkhdocjabflkaa
open Go.RowKit

section
variable {p1 p2 p3 p4 : Int} {ts us dts dus : List WRow} {ps : List (List Int)}
theorem jdB_1 (h : goodT p1 ts = false) : jdB p1 ts p2 us p3 dts p4 dus ps = false := by simp [jdB, alike, h]
theorem jdB_2 (h : goodT p2 us = false) : jdB p1 ts p2 us p3 dts p4 dus ps = false := by simp [jdB, alike, h]
theorem jdB_3 (h : goodT p3 dts = false) : jdB p1 ts p2 us p3 dts p4 dus ps = false := by simp [jdB, alike, h]
theorem jdB_4 (h : goodT p4 dus = false) : jdB p1 ts p2 us p3 dts p4 dus ps = false := by simp [jdB, alike, h]
theorem jdB_5 (h : p1 ≠ p3) : jdB p1 ts p2 us p3 dts p4 dus ps = false := by simp [jdB, alike, h]
theorem jdB_6 (h : p2 ≠ p4) : jdB p1 ts p2 us p3 dts p4 dus ps = false := by simp [jdB, alike, h]
theorem jdB_7 (h : pairsOk ps p1.toNat p2.toNat = false) : jdB p1 ts p2 us p3 dts p4 dus ps = false := by simp [jdB, h]
theorem jdB_8 (h : 6 < joinC p1 p2 ps) : jdB p1 ts p2 us p3 dts p4 dus ps = false := by
  have : decide (joinC p1 p2 ps ≤ 6) = false := by simp; omega
  simp [jdB, this]
theorem jdB_all (h1 : goodT p1 ts = true) (h2 : goodT p2 us = true) (h3 : goodT p1 dts = true) (h4 : goodT p2 dus = true) (h5 : pairsOk ps p1.toNat p2.toNat = true) (h6 : joinC p1 p2 ps ≤ 6) : jdB p1 ts p2 us p1 dts p2 dus ps = goodT (joinC p1 p2 ps) (jdW ts us dts dus ps) := by
  simp [jdB, alike, h1, h2, h3, h4, h5, h6]
end

set_option maxRecDepth 100000 in
set_option maxHeartbeats 8000000 in
theorem specJoinDelta (a1 a2 a3 a4 ap : Option Addr) (n1 n2 n3 n4 np c1 c2 c3 c4 cp : Nat) (ts us dts dus : List WRow) (ps : List (List Int)) (p1 p2 p3 p4 : Int) (w : World) (hz1 : ts.length = n1) (hz2 : us.length = n2) (hz3 : dts.length = n3) (hz4 : dus.length = n4) (hzp : ps.length = np) (hn1 : n1 ≤ 1048576) (hn2 : n2 ≤ 1048576) (hn3 : n3 ≤ 1048576) (hn4 : n4 ≤ 1048576) (hnp : np ≤ 1048576) (ha1 : AtM w a1 ts) (ha2 : AtM w a2 us) (ha3 : AtM w a3 dts) (ha4 : AtM w a4 dus) (hap : AtS w ap ps) :
    Calls Try.prog 11 #[.agg #[.int .i64 p1, .slice a1 n1 c1], .agg #[.int .i64 p2, .slice a2 n2 c2], .agg #[.int .i64 p3, .slice a3 n3 c3], .agg #[.int .i64 p4, .slice a4 n4 c4], .slice ap np cp] w fun e w' => TabAns e w' w.heap.size (jdB p1 ts p2 us p3 dts p4 dus ps) (joinC p1 p2 ps) (jdW ts us dts dus ps) ∧ Below w.heap.size w w' := by
  obtain ⟨W, hW⟩ : ∃ W, W = ((((w.alloc (.cells #[.int .i64 p1, .slice a1 n1 c1] 25)).alloc (.cells #[.int .i64 p2, .slice a2 n2 c2] 25)).alloc (.cells #[.int .i64 p3, .slice a3 n3 c3] 25)).alloc (.cells #[.int .i64 p4, .slice a4 n4 c4] 25)).alloc (.cells #[.int .i64 0, .slice none 0 0] 25) := ⟨_, rfl⟩
  have zW : W.heap.size = w.heap.size + 1 + 1 + 1 + 1 + 1 := by rw [hW]; simp
  have B0 : Below w.heap.size w W := by rw [hW]; exact (((((Below.refl _ _).alloc (Nat.le_refl _) _).alloc (by simp) _).alloc (by simp; omega) _).alloc (by simp; omega) _).alloc (by simp; omega) _
  have q0 : W.heap[w.heap.size + 1 + 1 + 1 + 1]? = some (.cells #[.int .i64 0, .slice none 0 0] 25 (0, 0)) := by
    rw [hW]
    have := heap_alloc_new ((((w.alloc (.cells #[.int .i64 p1, .slice a1 n1 c1] 25)).alloc (.cells #[.int .i64 p2, .slice a2 n2 c2] 25)).alloc (.cells #[.int .i64 p3, .slice a3 n3 c3] 25)).alloc (.cells #[.int .i64 p4, .slice a4 n4 c4] 25)) (.cells #[.int .i64 0, .slice none 0 0] 25)
    rwa [World.size_alloc, World.size_alloc, World.size_alloc, World.size_alloc] at this
  have e0 : W.cell? ⟨w.heap.size + 1 + 1 + 1 + 1, 0, none⟩ = some (.int .i64 0) := by rw [cell_of_row _ _ 0 _ _ (0, 0) q0]; rfl
  have e1 : W.cell? ⟨w.heap.size + 1 + 1 + 1 + 1, 1, none⟩ = some (.slice none 0 0) := by rw [cell_of_row _ _ 1 _ _ (0, 0) q0]; rfl
  have f0 : W.frozen? ⟨w.heap.size + 1 + 1 + 1 + 1, 0, none⟩ = false := frozen_of_row _ _ 0 _ _ q0
  have f1 : W.frozen? ⟨w.heap.size + 1 + 1 + 1 + 1, 1, none⟩ = false := frozen_of_row _ _ 1 _ _ q0
  clear q0
  have k10 : W.cell? ⟨w.heap.size, 0, none⟩ = some (.int .i64 p1) := by rw [hW]; refine alloc_keeps (alloc_keeps (alloc_keeps (alloc_keeps (?_) _) _) _) _; have := pair0 w (.int .i64 p1) (.slice a1 n1 c1) 25; simpa only [World.size_alloc] using this
  have k11 : W.cell? ⟨w.heap.size, 1, none⟩ = some (.slice a1 n1 c1) := by rw [hW]; refine alloc_keeps (alloc_keeps (alloc_keeps (alloc_keeps (?_) _) _) _) _; have := pair1 w (.int .i64 p1) (.slice a1 n1 c1) 25; simpa only [World.size_alloc] using this
  have k20 : W.cell? ⟨w.heap.size + 1, 0, none⟩ = some (.int .i64 p2) := by rw [hW]; refine alloc_keeps (alloc_keeps (alloc_keeps (?_) _) _) _; have := pair0 (w.alloc (.cells #[.int .i64 p1, .slice a1 n1 c1] 25)) (.int .i64 p2) (.slice a2 n2 c2) 25; simpa only [World.size_alloc] using this
  have k21 : W.cell? ⟨w.heap.size + 1, 1, none⟩ = some (.slice a2 n2 c2) := by rw [hW]; refine alloc_keeps (alloc_keeps (alloc_keeps (?_) _) _) _; have := pair1 (w.alloc (.cells #[.int .i64 p1, .slice a1 n1 c1] 25)) (.int .i64 p2) (.slice a2 n2 c2) 25; simpa only [World.size_alloc] using this
  have k30 : W.cell? ⟨w.heap.size + 1 + 1, 0, none⟩ = some (.int .i64 p3) := by rw [hW]; refine alloc_keeps (alloc_keeps (?_) _) _; have := pair0 ((w.alloc (.cells #[.int .i64 p1, .slice a1 n1 c1] 25)).alloc (.cells #[.int .i64 p2, .slice a2 n2 c2] 25)) (.int .i64 p3) (.slice a3 n3 c3) 25; simpa only [World.size_alloc] using this
  have k31 : W.cell? ⟨w.heap.size + 1 + 1, 1, none⟩ = some (.slice a3 n3 c3) := by rw [hW]; refine alloc_keeps (alloc_keeps (?_) _) _; have := pair1 ((w.alloc (.cells #[.int .i64 p1, .slice a1 n1 c1] 25)).alloc (.cells #[.int .i64 p2, .slice a2 n2 c2] 25)) (.int .i64 p3) (.slice a3 n3 c3) 25; simpa only [World.size_alloc] using this
  have k40 : W.cell? ⟨w.heap.size + 1 + 1 + 1, 0, none⟩ = some (.int .i64 p4) := by rw [hW]; refine alloc_keeps (?_) _; have := pair0 (((w.alloc (.cells #[.int .i64 p1, .slice a1 n1 c1] 25)).alloc (.cells #[.int .i64 p2, .slice a2 n2 c2] 25)).alloc (.cells #[.int .i64 p3, .slice a3 n3 c3] 25)) (.int .i64 p4) (.slice a4 n4 c4) 25; simpa only [World.size_alloc] using this
  have k41 : W.cell? ⟨w.heap.size + 1 + 1 + 1, 1, none⟩ = some (.slice a4 n4 c4) := by rw [hW]; refine alloc_keeps (?_) _; have := pair1 (((w.alloc (.cells #[.int .i64 p1, .slice a1 n1 c1] 25)).alloc (.cells #[.int .i64 p2, .slice a2 n2 c2] 25)).alloc (.cells #[.int .i64 p3, .slice a3 n3 c3] 25)) (.int .i64 p4) (.slice a4 n4 c4) 25; simpa only [World.size_alloc] using this
  have HA1 := ha1.below B0
  have HA2 := ha2.below B0
  have HA3 := ha3.below B0
  have HA4 := ha4.below B0
  have HP := hap.below B0
  clear ha1 ha2 ha3 ha4 hap
  cases hg1 : goodT p1 ts with
  | false =>
    have HG1 := Hid.mk hg1
    clear hg1
    go_enter Try.func11, Try.ntmps11
    go_wp2_with fail
    rw [← hW]
    clear hW
    refine (specGoodTable_any _ _ _ ts _ _ hz1 hn1 HA1.atW).mono ?_
    rintro e w1 ⟨rfl, hb1⟩
    rw [HG1.out]
    have B1 := B0.trans (hb1.mono B0.size)
    replace f0 := frozen_later hb1 e0 f0
    replace f1 := frozen_later hb1 e1 f1
    replace e0 := cell_later hb1 e0
    replace e1 := cell_later hb1 e1
    replace k10 := cell_later hb1 k10
    replace k11 := cell_later hb1 k11
    replace k20 := cell_later hb1 k20
    replace k21 := cell_later hb1 k21
    replace k30 := cell_later hb1 k30
    replace k31 := cell_later hb1 k31
    replace k40 := cell_later hb1 k40
    replace k41 := cell_later hb1 k41
    replace HA1 := HA1.below hb1
    replace HA2 := HA2.below hb1
    replace HA3 := HA3.below hb1
    replace HA4 := HA4.below hb1
    replace HP := HP.below hb1
    clear hb1
    go_wp2
    refine bodyPost_ret (v := .tuple #[.agg #[.int .i64 0, .slice none 0 0], .bool false]) (by simp [results, Try.results11, go_sem, e0, e1]) rfl ⟨TabAns.zero (jdB_1 HG1.out) rfl, ?_⟩
    exact (B1.setCell (by show w.heap.size ≤ w.heap.size + 1 + 1 + 1 + 1; omega) _).setCell (by show w.heap.size ≤ w.heap.size + 1 + 1 + 1 + 1; omega) _
  | true =>
    have HG1 := Hid.mk hg1
    clear hg1
    cases hg2 : goodT p2 us with
    | false =>
      have HG2 := Hid.mk hg2
      clear hg2
      go_enter Try.func11, Try.ntmps11
      go_wp2_with fail
      rw [← hW]
      clear hW
      refine (specGoodTable_any _ _ _ ts _ _ hz1 hn1 HA1.atW).mono ?_
      rintro e w1 ⟨rfl, hb1⟩
      rw [HG1.out]
      have B1 := B0.trans (hb1.mono B0.size)
      replace f0 := frozen_later hb1 e0 f0
      replace f1 := frozen_later hb1 e1 f1
      replace e0 := cell_later hb1 e0
      replace e1 := cell_later hb1 e1
      replace k10 := cell_later hb1 k10
      replace k11 := cell_later hb1 k11
      replace k20 := cell_later hb1 k20
      replace k21 := cell_later hb1 k21
      replace k30 := cell_later hb1 k30
      replace k31 := cell_later hb1 k31
      replace k40 := cell_later hb1 k40
      replace k41 := cell_later hb1 k41
      replace HA1 := HA1.below hb1
      replace HA2 := HA2.below hb1
      replace HA3 := HA3.below hb1
      replace HA4 := HA4.below hb1
      replace HP := HP.below hb1
      clear hb1
      go_wp2_with fail
      refine (specGoodTable_any _ _ _ us _ _ hz2 hn2 HA2.atW).mono ?_
      rintro e w2 ⟨rfl, hb2⟩
      rw [HG2.out]
      have B2 := B1.trans (hb2.mono B1.size)
      replace f0 := frozen_later hb2 e0 f0
      replace f1 := frozen_later hb2 e1 f1
      replace e0 := cell_later hb2 e0
      replace e1 := cell_later hb2 e1
      replace k10 := cell_later hb2 k10
      replace k11 := cell_later hb2 k11
      replace k20 := cell_later hb2 k20
      replace k21 := cell_later hb2 k21
      replace k30 := cell_later hb2 k30
      replace k31 := cell_later hb2 k31
      replace k40 := cell_later hb2 k40
      replace k41 := cell_later hb2 k41
      replace HA1 := HA1.below hb2
      replace HA2 := HA2.below hb2
      replace HA3 := HA3.below hb2
      replace HA4 := HA4.below hb2
      replace HP := HP.below hb2
      clear hb2
      go_wp2
      refine bodyPost_ret (v := .tuple #[.agg #[.int .i64 0, .slice none 0 0], .bool false]) (by simp [results, Try.results11, go_sem, e0, e1]) rfl ⟨TabAns.zero (jdB_2 HG2.out) rfl, ?_⟩
      exact (B2.setCell (by show w.heap.size ≤ w.heap.size + 1 + 1 + 1 + 1; omega) _).setCell (by show w.heap.size ≤ w.heap.size + 1 + 1 + 1 + 1; omega) _
    | true =>
      have HG2 := Hid.mk hg2
      clear hg2
      cases hg3 : goodT p3 dts with
      | false =>
        have HG3 := Hid.mk hg3
        clear hg3
        go_enter Try.func11, Try.ntmps11
        go_wp2_with fail
        rw [← hW]
        clear hW
        refine (specGoodTable_any _ _ _ ts _ _ hz1 hn1 HA1.atW).mono ?_
        rintro e w1 ⟨rfl, hb1⟩
        rw [HG1.out]
        have B1 := B0.trans (hb1.mono B0.size)
        replace f0 := frozen_later hb1 e0 f0
        replace f1 := frozen_later hb1 e1 f1
        replace e0 := cell_later hb1 e0
        replace e1 := cell_later hb1 e1
        replace k10 := cell_later hb1 k10
        replace k11 := cell_later hb1 k11
        replace k20 := cell_later hb1 k20
        replace k21 := cell_later hb1 k21
        replace k30 := cell_later hb1 k30
        replace k31 := cell_later hb1 k31
        replace k40 := cell_later hb1 k40
        replace k41 := cell_later hb1 k41
        replace HA1 := HA1.below hb1
        replace HA2 := HA2.below hb1
        replace HA3 := HA3.below hb1
        replace HA4 := HA4.below hb1
        replace HP := HP.below hb1
        clear hb1
        go_wp2_with fail
        refine (specGoodTable_any _ _ _ us _ _ hz2 hn2 HA2.atW).mono ?_
        rintro e w2 ⟨rfl, hb2⟩
        rw [HG2.out]
        have B2 := B1.trans (hb2.mono B1.size)
        replace f0 := frozen_later hb2 e0 f0
        replace f1 := frozen_later hb2 e1 f1
        replace e0 := cell_later hb2 e0
        replace e1 := cell_later hb2 e1
        replace k10 := cell_later hb2 k10
        replace k11 := cell_later hb2 k11
        replace k20 := cell_later hb2 k20
        replace k21 := cell_later hb2 k21
        replace k30 := cell_later hb2 k30
        replace k31 := cell_later hb2 k31
        replace k40 := cell_later hb2 k40
        replace k41 := cell_later hb2 k41
        replace HA1 := HA1.below hb2
        replace HA2 := HA2.below hb2
        replace HA3 := HA3.below hb2
        replace HA4 := HA4.below hb2
        replace HP := HP.below hb2
        clear hb2
        go_wp2_with fail
        refine (specGoodTable_any _ _ _ dts _ _ hz3 hn3 HA3.atW).mono ?_
        rintro e w3 ⟨rfl, hb3⟩
        rw [HG3.out]
        have B3 := B2.trans (hb3.mono B2.size)
        replace f0 := frozen_later hb3 e0 f0
        replace f1 := frozen_later hb3 e1 f1
        replace e0 := cell_later hb3 e0
        replace e1 := cell_later hb3 e1
        replace k10 := cell_later hb3 k10
        replace k11 := cell_later hb3 k11
        replace k20 := cell_later hb3 k20
        replace k21 := cell_later hb3 k21
        replace k30 := cell_later hb3 k30
        replace k31 := cell_later hb3 k31
        replace k40 := cell_later hb3 k40
        replace k41 := cell_later hb3 k41
        replace HA1 := HA1.below hb3
        replace HA2 := HA2.below hb3
        replace HA3 := HA3.below hb3
        replace HA4 := HA4.below hb3
        replace HP := HP.below hb3
        clear hb3
        go_wp2
        refine bodyPost_ret (v := .tuple #[.agg #[.int .i64 0, .slice none 0 0], .bool false]) (by simp [results, Try.results11, go_sem, e0, e1]) rfl ⟨TabAns.zero (jdB_3 HG3.out) rfl, ?_⟩
        exact (B3.setCell (by show w.heap.size ≤ w.heap.size + 1 + 1 + 1 + 1; omega) _).setCell (by show w.heap.size ≤ w.heap.size + 1 + 1 + 1 + 1; omega) _
      | true =>
        have HG3 := Hid.mk hg3
        clear hg3
        cases hg4 : goodT p4 dus with
        | false =>
          have HG4 := Hid.mk hg4
          clear hg4
          go_enter Try.func11, Try.ntmps11
          go_wp2_with fail
          rw [← hW]
          clear hW
          refine (specGoodTable_any _ _ _ ts _ _ hz1 hn1 HA1.atW).mono ?_
          rintro e w1 ⟨rfl, hb1⟩
          rw [HG1.out]
          have B1 := B0.trans (hb1.mono B0.size)
          replace f0 := frozen_later hb1 e0 f0
          replace f1 := frozen_later hb1 e1 f1
          replace e0 := cell_later hb1 e0
          replace e1 := cell_later hb1 e1
          replace k10 := cell_later hb1 k10
          replace k11 := cell_later hb1 k11
          replace k20 := cell_later hb1 k20
          replace k21 := cell_later hb1 k21
          replace k30 := cell_later hb1 k30
          replace k31 := cell_later hb1 k31
          replace k40 := cell_later hb1 k40
          replace k41 := cell_later hb1 k41
          replace HA1 := HA1.below hb1
          replace HA2 := HA2.below hb1
          replace HA3 := HA3.below hb1
          replace HA4 := HA4.below hb1
          replace HP := HP.below hb1
          clear hb1
          go_wp2_with fail
          refine (specGoodTable_any _ _ _ us _ _ hz2 hn2 HA2.atW).mono ?_
          rintro e w2 ⟨rfl, hb2⟩
          rw [HG2.out]
          have B2 := B1.trans (hb2.mono B1.size)
          replace f0 := frozen_later hb2 e0 f0
          replace f1 := frozen_later hb2 e1 f1
          replace e0 := cell_later hb2 e0
          replace e1 := cell_later hb2 e1
          replace k10 := cell_later hb2 k10
          replace k11 := cell_later hb2 k11
          replace k20 := cell_later hb2 k20
          replace k21 := cell_later hb2 k21
          replace k30 := cell_later hb2 k30
          replace k31 := cell_later hb2 k31
          replace k40 := cell_later hb2 k40
          replace k41 := cell_later hb2 k41
          replace HA1 := HA1.below hb2
          replace HA2 := HA2.below hb2
          replace HA3 := HA3.below hb2
          replace HA4 := HA4.below hb2
          replace HP := HP.below hb2
          clear hb2
          go_wp2_with fail
          refine (specGoodTable_any _ _ _ dts _ _ hz3 hn3 HA3.atW).mono ?_
          rintro e w3 ⟨rfl, hb3⟩
          rw [HG3.out]
          have B3 := B2.trans (hb3.mono B2.size)
          replace f0 := frozen_later hb3 e0 f0
          replace f1 := frozen_later hb3 e1 f1
          replace e0 := cell_later hb3 e0
          replace e1 := cell_later hb3 e1
          replace k10 := cell_later hb3 k10
          replace k11 := cell_later hb3 k11
          replace k20 := cell_later hb3 k20
          replace k21 := cell_later hb3 k21
          replace k30 := cell_later hb3 k30
          replace k31 := cell_later hb3 k31
          replace k40 := cell_later hb3 k40
          replace k41 := cell_later hb3 k41
          replace HA1 := HA1.below hb3
          replace HA2 := HA2.below hb3
          replace HA3 := HA3.below hb3
          replace HA4 := HA4.below hb3
          replace HP := HP.below hb3
          clear hb3
          go_wp2_with fail
          refine (specGoodTable_any _ _ _ dus _ _ hz4 hn4 HA4.atW).mono ?_
          rintro e w4 ⟨rfl, hb4⟩
          rw [HG4.out]
          have B4 := B3.trans (hb4.mono B3.size)
          replace f0 := frozen_later hb4 e0 f0
          replace f1 := frozen_later hb4 e1 f1
          replace e0 := cell_later hb4 e0
          replace e1 := cell_later hb4 e1
          replace k10 := cell_later hb4 k10
          replace k11 := cell_later hb4 k11
          replace k20 := cell_later hb4 k20
          replace k21 := cell_later hb4 k21
          replace k30 := cell_later hb4 k30
          replace k31 := cell_later hb4 k31
          replace k40 := cell_later hb4 k40
          replace k41 := cell_later hb4 k41
          replace HA1 := HA1.below hb4
          replace HA2 := HA2.below hb4
          replace HA3 := HA3.below hb4
          replace HA4 := HA4.below hb4
          replace HP := HP.below hb4
          clear hb4
          go_wp2
          refine bodyPost_ret (v := .tuple #[.agg #[.int .i64 0, .slice none 0 0], .bool false]) (by simp [results, Try.results11, go_sem, e0, e1]) rfl ⟨TabAns.zero (jdB_4 HG4.out) rfl, ?_⟩
          exact (B4.setCell (by show w.heap.size ≤ w.heap.size + 1 + 1 + 1 + 1; omega) _).setCell (by show w.heap.size ≤ w.heap.size + 1 + 1 + 1 + 1; omega) _
        | true =>
          have HG4 := Hid.mk hg4
          clear hg4
          by_cases hp0 : p1 = p3
          rotate_left
          · have hne : (p1 != p3) = true := by simp [hp0]
            have HP0 := Hid.mk hp0
            clear hp0
            go_enter Try.func11, Try.ntmps11
            go_wp2_with fail
            rw [← hW]
            clear hW
            refine (specGoodTable_any _ _ _ ts _ _ hz1 hn1 HA1.atW).mono ?_
            rintro e w1 ⟨rfl, hb1⟩
            rw [HG1.out]
            have B1 := B0.trans (hb1.mono B0.size)
            replace f0 := frozen_later hb1 e0 f0
            replace f1 := frozen_later hb1 e1 f1
            replace e0 := cell_later hb1 e0
            replace e1 := cell_later hb1 e1
            replace k10 := cell_later hb1 k10
            replace k11 := cell_later hb1 k11
            replace k20 := cell_later hb1 k20
            replace k21 := cell_later hb1 k21
            replace k30 := cell_later hb1 k30
            replace k31 := cell_later hb1 k31
            replace k40 := cell_later hb1 k40
            replace k41 := cell_later hb1 k41
            replace HA1 := HA1.below hb1
            replace HA2 := HA2.below hb1
            replace HA3 := HA3.below hb1
            replace HA4 := HA4.below hb1
            replace HP := HP.below hb1
            clear hb1
            go_wp2_with fail
            refine (specGoodTable_any _ _ _ us _ _ hz2 hn2 HA2.atW).mono ?_
            rintro e w2 ⟨rfl, hb2⟩
            rw [HG2.out]
            have B2 := B1.trans (hb2.mono B1.size)
            replace f0 := frozen_later hb2 e0 f0
            replace f1 := frozen_later hb2 e1 f1
            replace e0 := cell_later hb2 e0
            replace e1 := cell_later hb2 e1
            replace k10 := cell_later hb2 k10
            replace k11 := cell_later hb2 k11
            replace k20 := cell_later hb2 k20
            replace k21 := cell_later hb2 k21
            replace k30 := cell_later hb2 k30
            replace k31 := cell_later hb2 k31
            replace k40 := cell_later hb2 k40
            replace k41 := cell_later hb2 k41
            replace HA1 := HA1.below hb2
            replace HA2 := HA2.below hb2
            replace HA3 := HA3.below hb2
            replace HA4 := HA4.below hb2
            replace HP := HP.below hb2
            clear hb2
            go_wp2_with fail
            refine (specGoodTable_any _ _ _ dts _ _ hz3 hn3 HA3.atW).mono ?_
            rintro e w3 ⟨rfl, hb3⟩
            rw [HG3.out]
            have B3 := B2.trans (hb3.mono B2.size)
            replace f0 := frozen_later hb3 e0 f0
            replace f1 := frozen_later hb3 e1 f1
            replace e0 := cell_later hb3 e0
            replace e1 := cell_later hb3 e1
            replace k10 := cell_later hb3 k10
            replace k11 := cell_later hb3 k11
            replace k20 := cell_later hb3 k20
            replace k21 := cell_later hb3 k21
            replace k30 := cell_later hb3 k30
            replace k31 := cell_later hb3 k31
            replace k40 := cell_later hb3 k40
            replace k41 := cell_later hb3 k41
            replace HA1 := HA1.below hb3
            replace HA2 := HA2.below hb3
            replace HA3 := HA3.below hb3
            replace HA4 := HA4.below hb3
            replace HP := HP.below hb3
            clear hb3
            go_wp2_with fail
            refine (specGoodTable_any _ _ _ dus _ _ hz4 hn4 HA4.atW).mono ?_
            rintro e w4 ⟨rfl, hb4⟩
            rw [HG4.out]
            have B4 := B3.trans (hb4.mono B3.size)
            replace f0 := frozen_later hb4 e0 f0
            replace f1 := frozen_later hb4 e1 f1
            replace e0 := cell_later hb4 e0
            replace e1 := cell_later hb4 e1
            replace k10 := cell_later hb4 k10
            replace k11 := cell_later hb4 k11
            replace k20 := cell_later hb4 k20
            replace k21 := cell_later hb4 k21
            replace k30 := cell_later hb4 k30
            replace k31 := cell_later hb4 k31
            replace k40 := cell_later hb4 k40
            replace k41 := cell_later hb4 k41
            replace HA1 := HA1.below hb4
            replace HA2 := HA2.below hb4
            replace HA3 := HA3.below hb4
            replace HA4 := HA4.below hb4
            replace HP := HP.below hb4
            clear hb4
            go_wp2
            refine bodyPost_ret (v := .tuple #[.agg #[.int .i64 0, .slice none 0 0], .bool false]) (by simp [results, Try.results11, go_sem, e0, e1]) rfl ⟨TabAns.zero (jdB_5 HP0.out) rfl, ?_⟩
            exact (B4.setCell (by show w.heap.size ≤ w.heap.size + 1 + 1 + 1 + 1; omega) _).setCell (by show w.heap.size ≤ w.heap.size + 1 + 1 + 1 + 1; omega) _
          subst hp0
          by_cases hp1 : p2 = p4
          rotate_left
          · have hne : (p2 != p4) = true := by simp [hp1]
            have HP1 := Hid.mk hp1
            clear hp1
            go_enter Try.func11, Try.ntmps11
            go_wp2_with fail
            rw [← hW]
            clear hW
            refine (specGoodTable_any _ _ _ ts _ _ hz1 hn1 HA1.atW).mono ?_
            rintro e w1 ⟨rfl, hb1⟩
            rw [HG1.out]
            have B1 := B0.trans (hb1.mono B0.size)
            replace f0 := frozen_later hb1 e0 f0
            replace f1 := frozen_later hb1 e1 f1
            replace e0 := cell_later hb1 e0
            replace e1 := cell_later hb1 e1
            replace k10 := cell_later hb1 k10
            replace k11 := cell_later hb1 k11
            replace k20 := cell_later hb1 k20
            replace k21 := cell_later hb1 k21
            replace k30 := cell_later hb1 k30
            replace k31 := cell_later hb1 k31
            replace k40 := cell_later hb1 k40
            replace k41 := cell_later hb1 k41
            replace HA1 := HA1.below hb1
            replace HA2 := HA2.below hb1
            replace HA3 := HA3.below hb1
            replace HA4 := HA4.below hb1
            replace HP := HP.below hb1
            clear hb1
            go_wp2_with fail
            refine (specGoodTable_any _ _ _ us _ _ hz2 hn2 HA2.atW).mono ?_
            rintro e w2 ⟨rfl, hb2⟩
            rw [HG2.out]
            have B2 := B1.trans (hb2.mono B1.size)
            replace f0 := frozen_later hb2 e0 f0
            replace f1 := frozen_later hb2 e1 f1
            replace e0 := cell_later hb2 e0
            replace e1 := cell_later hb2 e1
            replace k10 := cell_later hb2 k10
            replace k11 := cell_later hb2 k11
            replace k20 := cell_later hb2 k20
            replace k21 := cell_later hb2 k21
            replace k30 := cell_later hb2 k30
            replace k31 := cell_later hb2 k31
            replace k40 := cell_later hb2 k40
            replace k41 := cell_later hb2 k41
            replace HA1 := HA1.below hb2
            replace HA2 := HA2.below hb2
            replace HA3 := HA3.below hb2
            replace HA4 := HA4.below hb2
            replace HP := HP.below hb2
            clear hb2
            go_wp2_with fail
            refine (specGoodTable_any _ _ _ dts _ _ hz3 hn3 HA3.atW).mono ?_
            rintro e w3 ⟨rfl, hb3⟩
            rw [HG3.out]
            have B3 := B2.trans (hb3.mono B2.size)
            replace f0 := frozen_later hb3 e0 f0
            replace f1 := frozen_later hb3 e1 f1
            replace e0 := cell_later hb3 e0
            replace e1 := cell_later hb3 e1
            replace k10 := cell_later hb3 k10
            replace k11 := cell_later hb3 k11
            replace k20 := cell_later hb3 k20
            replace k21 := cell_later hb3 k21
            replace k30 := cell_later hb3 k30
            replace k31 := cell_later hb3 k31
            replace k40 := cell_later hb3 k40
            replace k41 := cell_later hb3 k41
            replace HA1 := HA1.below hb3
            replace HA2 := HA2.below hb3
            replace HA3 := HA3.below hb3
            replace HA4 := HA4.below hb3
            replace HP := HP.below hb3
            clear hb3
            go_wp2_with fail
            refine (specGoodTable_any _ _ _ dus _ _ hz4 hn4 HA4.atW).mono ?_
            rintro e w4 ⟨rfl, hb4⟩
            rw [HG4.out]
            have B4 := B3.trans (hb4.mono B3.size)
            replace f0 := frozen_later hb4 e0 f0
            replace f1 := frozen_later hb4 e1 f1
            replace e0 := cell_later hb4 e0
            replace e1 := cell_later hb4 e1
            replace k10 := cell_later hb4 k10
            replace k11 := cell_later hb4 k11
            replace k20 := cell_later hb4 k20
            replace k21 := cell_later hb4 k21
            replace k30 := cell_later hb4 k30
            replace k31 := cell_later hb4 k31
            replace k40 := cell_later hb4 k40
            replace k41 := cell_later hb4 k41
            replace HA1 := HA1.below hb4
            replace HA2 := HA2.below hb4
            replace HA3 := HA3.below hb4
            replace HA4 := HA4.below hb4
            replace HP := HP.below hb4
            clear hb4
            go_wp2
            refine bodyPost_ret (v := .tuple #[.agg #[.int .i64 0, .slice none 0 0], .bool false]) (by simp [results, Try.results11, go_sem, e0, e1]) rfl ⟨TabAns.zero (jdB_6 HP1.out) rfl, ?_⟩
            exact (B4.setCell (by show w.heap.size ≤ w.heap.size + 1 + 1 + 1 + 1; omega) _).setCell (by show w.heap.size ≤ w.heap.size + 1 + 1 + 1 + 1; omega) _
          subst hp1
          obtain ⟨q1, hq1⟩ : ∃ q : Nat, p1 = q := ⟨p1.toNat, by have := inc_range (goodT_parts HG1.out).1; omega⟩
          obtain ⟨q2, hq2⟩ : ∃ q : Nat, p2 = q := ⟨p2.toNat, by have := inc_range (goodT_parts HG2.out).1; omega⟩
          subst hq1 hq2
          have h61 : q1 ≤ 6 := by have := inc_range (goodT_parts HG1.out).1; omega
          have h62 : q2 ≤ 6 := by have := inc_range (goodT_parts HG2.out).1; omega
          cases hpk : pairsOk ps q1 q2 with
          | false =>
            have HPK := Hid.mk hpk
            clear hpk
            go_enter Try.func11, Try.ntmps11
            go_wp2_with fail
            rw [← hW]
            clear hW
            refine (specGoodTable_any _ _ _ ts _ _ hz1 hn1 HA1.atW).mono ?_
            rintro e w1 ⟨rfl, hb1⟩
            rw [HG1.out]
            have B1 := B0.trans (hb1.mono B0.size)
            replace f0 := frozen_later hb1 e0 f0
            replace f1 := frozen_later hb1 e1 f1
            replace e0 := cell_later hb1 e0
            replace e1 := cell_later hb1 e1
            replace k10 := cell_later hb1 k10
            replace k11 := cell_later hb1 k11
            replace k20 := cell_later hb1 k20
            replace k21 := cell_later hb1 k21
            replace k30 := cell_later hb1 k30
            replace k31 := cell_later hb1 k31
            replace k40 := cell_later hb1 k40
            replace k41 := cell_later hb1 k41
            replace HA1 := HA1.below hb1
            replace HA2 := HA2.below hb1
            replace HA3 := HA3.below hb1
            replace HA4 := HA4.below hb1
            replace HP := HP.below hb1
            clear hb1
            go_wp2_with fail
            refine (specGoodTable_any _ _ _ us _ _ hz2 hn2 HA2.atW).mono ?_
            rintro e w2 ⟨rfl, hb2⟩
            rw [HG2.out]
            have B2 := B1.trans (hb2.mono B1.size)
            replace f0 := frozen_later hb2 e0 f0
            replace f1 := frozen_later hb2 e1 f1
            replace e0 := cell_later hb2 e0
            replace e1 := cell_later hb2 e1
            replace k10 := cell_later hb2 k10
            replace k11 := cell_later hb2 k11
            replace k20 := cell_later hb2 k20
            replace k21 := cell_later hb2 k21
            replace k30 := cell_later hb2 k30
            replace k31 := cell_later hb2 k31
            replace k40 := cell_later hb2 k40
            replace k41 := cell_later hb2 k41
            replace HA1 := HA1.below hb2
            replace HA2 := HA2.below hb2
            replace HA3 := HA3.below hb2
            replace HA4 := HA4.below hb2
            replace HP := HP.below hb2
            clear hb2
            go_wp2_with fail
            refine (specGoodTable_any _ _ _ dts _ _ hz3 hn3 HA3.atW).mono ?_
            rintro e w3 ⟨rfl, hb3⟩
            rw [HG3.out]
            have B3 := B2.trans (hb3.mono B2.size)
            replace f0 := frozen_later hb3 e0 f0
            replace f1 := frozen_later hb3 e1 f1
            replace e0 := cell_later hb3 e0
            replace e1 := cell_later hb3 e1
            replace k10 := cell_later hb3 k10
            replace k11 := cell_later hb3 k11
            replace k20 := cell_later hb3 k20
            replace k21 := cell_later hb3 k21
            replace k30 := cell_later hb3 k30
            replace k31 := cell_later hb3 k31
            replace k40 := cell_later hb3 k40
            replace k41 := cell_later hb3 k41
            replace HA1 := HA1.below hb3
            replace HA2 := HA2.below hb3
            replace HA3 := HA3.below hb3
            replace HA4 := HA4.below hb3
            replace HP := HP.below hb3
            clear hb3
            go_wp2_with fail
            refine (specGoodTable_any _ _ _ dus _ _ hz4 hn4 HA4.atW).mono ?_
            rintro e w4 ⟨rfl, hb4⟩
            rw [HG4.out]
            have B4 := B3.trans (hb4.mono B3.size)
            replace f0 := frozen_later hb4 e0 f0
            replace f1 := frozen_later hb4 e1 f1
            replace e0 := cell_later hb4 e0
            replace e1 := cell_later hb4 e1
            replace k10 := cell_later hb4 k10
            replace k11 := cell_later hb4 k11
            replace k20 := cell_later hb4 k20
            replace k21 := cell_later hb4 k21
            replace k30 := cell_later hb4 k30
            replace k31 := cell_later hb4 k31
            replace k40 := cell_later hb4 k40
            replace k41 := cell_later hb4 k41
            replace HA1 := HA1.below hb4
            replace HA2 := HA2.below hb4
            replace HA3 := HA3.below hb4
            replace HA4 := HA4.below hb4
            replace HP := HP.below hb4
            clear hb4
            go_wp2_with fail
            refine (l1Pairs_any _ _ _ ps q1 q2 _ hzp (by omega) HP).mono ?_
            rintro e w5 ⟨rfl, hw5⟩
            subst hw5
            rw [HPK.out]
            go_wp2
            refine bodyPost_ret (v := .tuple #[.agg #[.int .i64 0, .slice none 0 0], .bool false]) (by simp [results, Try.results11, go_sem, e0, e1]) rfl ⟨TabAns.zero (jdB_7 HPK.out) rfl, ?_⟩
            exact (B4.setCell (by show w.heap.size ≤ w.heap.size + 1 + 1 + 1 + 1; omega) _).setCell (by show w.heap.size ≤ w.heap.size + 1 + 1 + 1 + 1; omega) _
          | true =>
            have HPK := Hid.mk hpk
            clear hpk
            obtain ⟨lf, hlf⟩ : ∃ lf : Nat, lf = leftN (side ps 1) q2 := ⟨_, rfl⟩
            have hl6 : lf ≤ 6 := by have := leftN_le (side ps 1) q2; omega
            have HLF := Hid.mk hlf
            obtain ⟨J, hJ⟩ : ∃ J : Nat, J = q1 + lf := ⟨_, rfl⟩
            have HJ : Hid (joinC q1 q2 ps = J) := by show _ = _; rw [hJ, HLF.out]; simp [joinC]
            have hwr : IntKind.i64.wrap ((q1 : Int) + (lf : Int)) = (J : Int) := by rw [hJ]; exact IntWalk.i64_in _ (by omega)
            have hJ12 : J ≤ 12 := by omega
            clear hlf hJ
            go_enter Try.func11, Try.ntmps11
            go_wp2_with fail
            rw [← hW]
            clear hW
            refine (specGoodTable_any _ _ _ ts _ _ hz1 hn1 HA1.atW).mono ?_
            rintro e w1 ⟨rfl, hb1⟩
            rw [HG1.out]
            have B1 := B0.trans (hb1.mono B0.size)
            replace f0 := frozen_later hb1 e0 f0
            replace f1 := frozen_later hb1 e1 f1
            replace e0 := cell_later hb1 e0
            replace e1 := cell_later hb1 e1
            replace k10 := cell_later hb1 k10
            replace k11 := cell_later hb1 k11
            replace k20 := cell_later hb1 k20
            replace k21 := cell_later hb1 k21
            replace k30 := cell_later hb1 k30
            replace k31 := cell_later hb1 k31
            replace k40 := cell_later hb1 k40
            replace k41 := cell_later hb1 k41
            replace HA1 := HA1.below hb1
            replace HA2 := HA2.below hb1
            replace HA3 := HA3.below hb1
            replace HA4 := HA4.below hb1
            replace HP := HP.below hb1
            clear hb1
            go_wp2_with fail
            refine (specGoodTable_any _ _ _ us _ _ hz2 hn2 HA2.atW).mono ?_
            rintro e w2 ⟨rfl, hb2⟩
            rw [HG2.out]
            have B2 := B1.trans (hb2.mono B1.size)
            replace f0 := frozen_later hb2 e0 f0
            replace f1 := frozen_later hb2 e1 f1
            replace e0 := cell_later hb2 e0
            replace e1 := cell_later hb2 e1
            replace k10 := cell_later hb2 k10
            replace k11 := cell_later hb2 k11
            replace k20 := cell_later hb2 k20
            replace k21 := cell_later hb2 k21
            replace k30 := cell_later hb2 k30
            replace k31 := cell_later hb2 k31
            replace k40 := cell_later hb2 k40
            replace k41 := cell_later hb2 k41
            replace HA1 := HA1.below hb2
            replace HA2 := HA2.below hb2
            replace HA3 := HA3.below hb2
            replace HA4 := HA4.below hb2
            replace HP := HP.below hb2
            clear hb2
            go_wp2_with fail
            refine (specGoodTable_any _ _ _ dts _ _ hz3 hn3 HA3.atW).mono ?_
            rintro e w3 ⟨rfl, hb3⟩
            rw [HG3.out]
            have B3 := B2.trans (hb3.mono B2.size)
            replace f0 := frozen_later hb3 e0 f0
            replace f1 := frozen_later hb3 e1 f1
            replace e0 := cell_later hb3 e0
            replace e1 := cell_later hb3 e1
            replace k10 := cell_later hb3 k10
            replace k11 := cell_later hb3 k11
            replace k20 := cell_later hb3 k20
            replace k21 := cell_later hb3 k21
            replace k30 := cell_later hb3 k30
            replace k31 := cell_later hb3 k31
            replace k40 := cell_later hb3 k40
            replace k41 := cell_later hb3 k41
            replace HA1 := HA1.below hb3
            replace HA2 := HA2.below hb3
            replace HA3 := HA3.below hb3
            replace HA4 := HA4.below hb3
            replace HP := HP.below hb3
            clear hb3
            go_wp2_with fail
            refine (specGoodTable_any _ _ _ dus _ _ hz4 hn4 HA4.atW).mono ?_
            rintro e w4 ⟨rfl, hb4⟩
            rw [HG4.out]
            have B4 := B3.trans (hb4.mono B3.size)
            replace f0 := frozen_later hb4 e0 f0
            replace f1 := frozen_later hb4 e1 f1
            replace e0 := cell_later hb4 e0
            replace e1 := cell_later hb4 e1
            replace k10 := cell_later hb4 k10
            replace k11 := cell_later hb4 k11
            replace k20 := cell_later hb4 k20
            replace k21 := cell_later hb4 k21
            replace k30 := cell_later hb4 k30
            replace k31 := cell_later hb4 k31
            replace k40 := cell_later hb4 k40
            replace k41 := cell_later hb4 k41
            replace HA1 := HA1.below hb4
            replace HA2 := HA2.below hb4
            replace HA3 := HA3.below hb4
            replace HA4 := HA4.below hb4
            replace HP := HP.below hb4
            clear hb4
            go_wp2_with fail
            refine (l1Pairs_any _ _ _ ps q1 q2 _ hzp (by omega) HP).mono ?_
            rintro e w5 ⟨rfl, hw5⟩
            subst hw5
            rw [HPK.out]
            go_wp2_with fail
            refine wp_region_held_drew (S := fun w' => w'.cell? ⟨w.heap.size, 0, none⟩ = some (.int .i64 q1) ∧ w'.cell? ⟨w.heap.size + 1, 0, none⟩ = some (.int .i64 q2)) (by kernel_rfl) ?_ (fun hHeld => ?_)
            · (try dsimp only)
              exact ⟨k10, k20⟩
            refine wpAnyH_take (i := 0) (oi := ?_) (v := ?_) ?_ (by kernel_rfl) (by kernel_rfl) (by kernel_rfl) ?_ (Or.inl ⟨?_, ?_⟩) (by assumption) ?_
            rotate_left 2
            · (simp only [List.getElem?_toArray, List.getElem?_cons_zero]; rfl)
            · exact fun _ _ _ h => h
            · rfl
            · (intro wS hSw; (try dsimp only at hSw); go_simp; (try with_reducible rfl))
            (try simp only [Act.put, List.setIfInBounds_toArray, List.set_cons_zero, List.set_cons_succ])
            refine wpAnyH_take (i := 1) (oi := ?_) (v := ?_) ?_ (by kernel_rfl) (by kernel_rfl) (by kernel_rfl) ?_ (Or.inl ⟨?_, ?_⟩) (by assumption) ?_
            rotate_left 2
            · (simp only [List.getElem?_toArray, List.getElem?_cons_zero, List.getElem?_cons_succ]; rfl)
            · exact fun _ _ _ h => h
            · rfl
            · (intro wS hSw; (try dsimp only at hSw); go_simp; (try with_reducible rfl))
            (try simp only [Act.put, List.setIfInBounds_toArray, List.set_cons_zero, List.set_cons_succ])
            refine wpAnyH_take (i := 2) (oi := ?_) (v := ?_) ?_ (by kernel_rfl) (by kernel_rfl) (by kernel_rfl) ?_ (Or.inl ⟨?_, ?_⟩) (by assumption) ?_
            rotate_left 2
            · (simp only [List.getElem?_toArray, List.getElem?_cons_zero, List.getElem?_cons_succ]; rfl)
            · exact fun _ _ _ h => h
            · rfl
            · (intro wS hSw; (try dsimp only at hSw); go_simp; (try with_reducible rfl))
            (try simp only [Act.put, List.setIfInBounds_toArray, List.set_cons_zero, List.set_cons_succ])
            refine wpAnyH_take (i := 3) (oi := ?_) (v := ?_) ?_ (by kernel_rfl) (by kernel_rfl) (by kernel_rfl) ?_ (Or.inl ⟨?_, ?_⟩) (by assumption) ?_
            rotate_left 2
            · (simp only [List.getElem?_toArray, List.getElem?_cons_zero, List.getElem?_cons_succ]; rfl)
            · exact fun _ _ _ h => h
            · rfl
            · (intro wS hSw; (try dsimp only at hSw); go_simp; (try with_reducible rfl))
            (try simp only [Act.put, List.setIfInBounds_toArray, List.set_cons_zero, List.set_cons_succ])
            refine wpAnyH_take (i := 4) (oi := ?_) (v := ?_) ?_ (by kernel_rfl) (by kernel_rfl) (by kernel_rfl) ?_ (Or.inl ⟨?_, ?_⟩) (by assumption) ?_
            rotate_left 2
            · (simp only [List.getElem?_toArray, List.getElem?_cons_zero, List.getElem?_cons_succ]; rfl)
            · exact fun _ _ _ h => h
            · rfl
            · (intro wS hSw; (try dsimp only at hSw); go_simp; (try with_reducible rfl))
            (try simp only [Act.put, List.setIfInBounds_toArray, List.set_cons_zero, List.set_cons_succ])
            refine wpAnyH_ready (rs := [5]) (by kernel_rfl) (by simp) ?_
            refine AllReadyH.cons (o := ?_) ?_ (fun K hK => ?_) AllReadyH.nil
            rotate_left
            · (simp only [List.getElem?_toArray, List.getElem?_cons_zero, List.getElem?_cons_succ]; rfl)
            go_simp
            go_at_call 52; refine (l3Left_any _ _ _ ps q1 q2 _ hzp h62 HPK.out (HP.below (Below.refl _ _).drew)).mono ?_; rintro e v ⟨rfl, rfl⟩; rw [← HLF.out]
            (try go_wp2_with fail)
            refine hK.out _ _ ?_ (fun hHeld' => ?_)
            · (try dsimp only)
              exact ⟨cell_later (Below.refl _ _).drew k10, cell_later (Below.refl _ _).drew k20⟩
            clear hK K hHeld
            have hHeld := hHeld'
            clear hHeld'
            (try simp only [Act.put, List.setIfInBounds_toArray, List.set_cons_zero, List.set_cons_succ])
            refine wpAnyH_take (i := 6) (oi := ?_) (v := ?_) ?_ (by kernel_rfl) (by kernel_rfl) (by kernel_rfl) ?_ (Or.inl ⟨?_, ?_⟩) (by assumption) ?_
            rotate_left 2
            · (simp only [List.getElem?_toArray, List.getElem?_cons_zero, List.getElem?_cons_succ]; rfl)
            · exact fun _ _ _ h => h
            · rfl
            · (intro wS hSw; (try dsimp only at hSw); go_simp; (try with_reducible rfl))
            (try simp only [Act.put, List.setIfInBounds_toArray, List.set_cons_zero, List.set_cons_succ])
            refine wpAnyH_take (i := 7) (oi := ?_) (v := ?_) ?_ (by kernel_rfl) (by kernel_rfl) (by kernel_rfl) ?_ (Or.inl ⟨?_, ?_⟩) (by assumption) ?_
            rotate_left 2
            · (simp only [List.getElem?_toArray, List.getElem?_cons_zero, List.getElem?_cons_succ]; rfl)
            · exact fun _ _ _ h => h
            · rfl
            · (intro wS hSw; (try dsimp only at hSw); go_simp; (try with_reducible rfl))
            (try simp only [Act.put, List.setIfInBounds_toArray, List.set_cons_zero, List.set_cons_succ])
            refine wpAnyH_done (by kernel_rfl) ?_ _
            obtain ⟨V, hV⟩ : ∃ V, V = w5.drew := ⟨_, rfl⟩
            rw [← hV]
            have hbV : Below w5.heap.size w5 V := by rw [hV]; exact (Below.refl _ _).drew
            clear hV
            replace f0 := frozen_later hbV e0 f0
            replace f1 := frozen_later hbV e1 f1
            replace e0 := cell_later hbV e0
            replace e1 := cell_later hbV e1
            replace k10 := cell_later hbV k10
            replace k11 := cell_later hbV k11
            replace k20 := cell_later hbV k20
            replace k21 := cell_later hbV k21
            replace k30 := cell_later hbV k30
            replace k31 := cell_later hbV k31
            replace k40 := cell_later hbV k40
            replace k41 := cell_later hbV k41
            replace HA1 := HA1.below hbV
            replace HA2 := HA2.below hbV
            replace HA3 := HA3.below hbV
            replace HA4 := HA4.below hbV
            replace HP := HP.below hbV
            have B5 := B4.trans (hbV.mono B4.size)
            clear hbV hHeld
            by_cases hj : 6 < J
            · have HJ8 : Hid (6 < joinC q1 q2 ps) := by show _ < _; rw [HJ.out]; exact hj
              go_wp2
              refine bodyPost_ret (v := .tuple #[.agg #[.int .i64 0, .slice none 0 0], .bool false]) (by simp [results, Try.results11, go_sem, e0, e1]) rfl ⟨TabAns.zero (jdB_8 HJ8.out) rfl, ?_⟩
              exact (B5.setCell (by show w.heap.size ≤ w.heap.size + 1 + 1 + 1 + 1; omega) _).setCell (by show w.heap.size ≤ w.heap.size + 1 + 1 + 1 + 1; omega) _
            · have HJC : Hid (joinC q1 q2 ps ≤ 6) := by show _ ≤ _; rw [HJ.out]; omega
              have LST := Hid.mk (jdW_lst (ps := ps) (goodT_lst HG1.out) (goodT_lst HG2.out) (goodT_lst HG3.out) (goodT_lst HG4.out) (by omega) (by omega))
              go_wp2_with fail
              refine (l4Join_any _ _ _ _ _ _ _ _ _ _ _ _ _ _ _ ts us dts dus ps q1 q2 60 60 1000000 1000000 _ hz1 hz2 hz3 hz4 hzp (goodT_lst HG1.out) (goodT_lst HG2.out) (goodT_lst HG3.out) (goodT_lst HG4.out) h61 h62 HPK.out HJC.out (by omega) (by omega) (by omega) (by omega) (by omega) (by decide) (by decide) (by decide) (by decide) (by decide) (by decide) HA1 HA2 HA3 HA4 HP).mono ?_
              rintro e w6 ⟨r6, m6, d6, rfl, hm6, _, hr6, hb6⟩
              replace f0 := frozen_later hb6 e0 f0
              replace f1 := frozen_later hb6 e1 f1
              replace e0 := cell_later hb6 e0
              replace e1 := cell_later hb6 e1
              have B6 := B5.trans (hb6.mono B5.size)
              have zR : w.heap.size + 1 + 1 + 1 + 1 < w6.heap.size := World.block_lt_of_cell? _ _ e0
              have HPL : Hid (m6 ≤ 1048576) := by show _ ≤ _; have := LST.out.len; omega
              have HPR : Hid (∀ j, j < m6 → (wat (jdW ts us dts dus ps) j).1.length ≤ 1048576) := fun j hj => by
                have h1 := (at_of_mem LST.out.rows j (by omega)).2
                have h2 := HJC.out
                omega
              clear hb6 HA1 HA2 HA3 HA4 HP k10 k11 k20 k21 k30 k31 k40 k41
              go_wp2_with fail
              refine (l2Tell_any _ _ _ (jdW ts us dts dus ps) _ _ hm6 HPL.out HPR.out hr6).mono ?_
              rintro e w9 ⟨⟨r9, m9, d9, cells9, rfl, ho9⟩, hb9⟩
              replace f0 := frozen_later hb9 e0 f0
              replace f1 := frozen_later hb9 e1 f1
              replace e0 := cell_later hb9 e0
              replace e1 := cell_later hb9 e1
              have B9 := B6.trans (hb9.mono B6.size)
              have HNB2 : Hid (jdB q1 ts q2 us q1 dts q2 dus ps = goodT J (jdW ts us dts dus ps)) := by show _ = _; rw [← HJ.out]; exact jdB_all HG1.out HG2.out HG3.out HG4.out HPK.out HJC.out
              have HJ2 : Hid ((joinC q1 q2 ps : Int) = J) := by show _ = _; rw [HJ.out]
              clear hb9 hr6 hm6
              go_wp2
              refine bodyPost_ret (v := .tuple #[.agg #[.int .i64 (tellP J (jdW ts us dts dus ps)), .slice r9 m9 d9], .bool (goodT J (jdW ts us dts dus ps))]) (by simp [results, Try.results11, go_sem, e0, e1]) rfl ⟨?_, ?_⟩
              · rw [HJ2.out]
                exact TabAns.tell HNB2.out ⟨r9, m9, d9, cells9, rfl, ho9.stored zR (by omega) _ _⟩
              · exact (B9.setCell (by show w.heap.size ≤ w.heap.size + 1 + 1 + 1 + 1; omega) _).setCell (by show w.heap.size ≤ w.heap.size + 1 + 1 + 1 + 1; omega) _

end Go.Proofs.Ytmkhdocjabflkaa
