/- Several texts of one proof, in build order: SpecN, CurT. -/
import Derived.Test.YtlfljfmhhnoinabM14
import Derived.Test.YtlfljfmhhnoinabM5
import Derived.Test.YtlfljfmhhnoinabM11

/- Contracts of spec.ScaleTable, spec.NegateTable, spec.EmptyTable, spec.NewTable. -/
namespace Go.Proofs.Ytlfljfmhhnoinab
open Go.RowKit

set_option maxHeartbeats 4000000 in
theorem specEmptyTable (p : Int) (w : World) :
    Calls Try.prog 113 #[.int .i64 p] w fun e w' => TabAns e w' w.heap.size (newB p []) p (putAll [] []) ∧ Below w.heap.size w w' := by
  obtain ⟨W, hW⟩ : ∃ W, W = w.alloc (.cells #[.int .i64 0, .slice none 0 0] 32) := ⟨_, rfl⟩
  have zW : W.heap.size = w.heap.size + 1 := by rw [hW]; simp
  have B0 : Below w.heap.size w W := by rw [hW]; exact (Below.refl _ _).alloc (Nat.le_refl _) _
  have q0 : W.heap[w.heap.size]? = some (.cells #[.int .i64 0, .slice none 0 0] 32 (0, 0)) := by rw [hW]; exact heap_alloc_new w _
  have e0 : W.cell? ⟨w.heap.size, 0, none⟩ = some (.int .i64 0) := by rw [cell_of_row _ _ 0 _ _ (0, 0) q0]; rfl
  have e1 : W.cell? ⟨w.heap.size, 1, none⟩ = some (.slice none 0 0) := by rw [cell_of_row _ _ 1 _ _ (0, 0) q0]; rfl
  have f0 : W.frozen? ⟨w.heap.size, 0, none⟩ = false := frozen_of_row _ _ 0 _ _ q0
  have f1 : W.frozen? ⟨w.heap.size, 1, none⟩ = false := frozen_of_row _ _ 1 _ _ q0
  go_enter Try.func113, Try.ntmps113
  go_wp2_with fail
  rw [← hW]
  clear hW
  refine (l2Tell_any _ _ _ [] _ _ rfl (Nat.zero_le _) (fun k hk => by simp at hk) (atM_nil _ _)).mono ?_
  rintro e w1 ⟨⟨r4, m4, d4, cells4, rfl, ho4⟩, hb1⟩
  have B1 := B0.trans (hb1.mono B0.size)
  have f0 := frozen_later hb1 e0 f0
  have f1 := frozen_later hb1 e1 f1
  have e0 := cell_later hb1 e0
  have e1 := cell_later hb1 e1
  have zR : w.heap.size < W.heap.size := by omega
  clear hb1
  go_wp2
  refine bodyPost_ret (v := .tuple #[.agg #[.int .i64 _, .slice r4 m4 d4], .bool _]) (by simp [results, Try.results113, go_sem, e0, e1]) rfl ⟨TabAns.tell (ts := []) (newB_nil p) ⟨r4, m4, d4, cells4, rfl, ho4.stored zR (by omega) _ _⟩, ?_⟩
  exact (B1.setCell (by show w.heap.size ≤ w.heap.size; omega) _).setCell (by show w.heap.size ≤ w.heap.size; omega) _

theorem goodW_six {p : Int} {t : WRow} (h : goodW p t = true) : t.1.length ≤ 6 ∧ -1000000 ≤ t.2 ∧ t.2 ≤ 1000000 := by
  have := goodW_cells h
  exact ⟨good_len this.1, this.2.2⟩

set_option maxRecDepth 100000 in
set_option maxHeartbeats 4000000 in
theorem specNewTable (a : Option Addr) (n c : Nat) (ts : List WRow) (p : Int) (w : World) (hz : ts.length = n) (hn : n ≤ 1048576) (ha : AtM w a ts) :
    Calls Try.prog 111 #[.int .i64 p, .slice a n c] w fun e w' => TabAns e w' w.heap.size (newB p ts) p (putAll [] ts) ∧ Below w.heap.size w w' := by
  obtain ⟨W, hW⟩ : ∃ W, W = w.alloc (.cells #[.int .i64 0, .slice none 0 0] 32) := ⟨_, rfl⟩
  have zW : W.heap.size = w.heap.size + 1 := by rw [hW]; simp
  have B0 : Below w.heap.size w W := by rw [hW]; exact (Below.refl _ _).alloc (Nat.le_refl _) _
  have q0 : W.heap[w.heap.size]? = some (.cells #[.int .i64 0, .slice none 0 0] 32 (0, 0)) := by rw [hW]; exact heap_alloc_new w _
  have e0 : W.cell? ⟨w.heap.size, 0, none⟩ = some (.int .i64 0) := by rw [cell_of_row _ _ 0 _ _ (0, 0) q0]; rfl
  have e1 : W.cell? ⟨w.heap.size, 1, none⟩ = some (.slice none 0 0) := by rw [cell_of_row _ _ 1 _ _ (0, 0) q0]; rfl
  have f0 : W.frozen? ⟨w.heap.size, 0, none⟩ = false := frozen_of_row _ _ 0 _ _ q0
  have f1 : W.frozen? ⟨w.heap.size, 1, none⟩ = false := frozen_of_row _ _ 1 _ _ q0
  have HA := ha.below B0
  clear ha
  cases hi : inc p with
  | false =>
    have HI := Hid.mk hi
    clear hi
    go_enter Try.func111, Try.ntmps111
    go_wp2_with fail
    rw [← hW]
    clear hW
    refine (l1In_any _ _ _ _).mono ?_
    rintro e w1 ⟨rfl, rfl⟩
    rw [show (decide ((0 : Int) ≤ p) && decide (p ≤ 6)) = false from HI.out]
    go_wp2
    refine bodyPost_ret (v := .tuple #[.agg #[.int .i64 0, .slice none 0 0], .bool false]) (by simp [results, Try.results111, go_sem, e0, e1]) rfl ⟨TabAns.zero (newB_col HI.out) rfl, ?_⟩
    exact (B0.setCell (by show w.heap.size ≤ w.heap.size; omega) _).setCell (by show w.heap.size ≤ w.heap.size; omega) _
  | true =>
    have HI := Hid.mk hi
    clear hi
    by_cases h200 : n ≤ 200
    · have hn2 : ¬ (200 : Int) < (n : Int) := by omega
      go_enter Try.func111, Try.ntmps111
      go_wp2_with fail
      rw [← hW]
      clear hW
      refine (l1In_any _ _ _ _).mono ?_
      rintro e w1 ⟨rfl, rfl⟩
      rw [show (decide ((0 : Int) ≤ p) && decide (p ≤ 6)) = true from HI.out]
      go_wp2
      go_loopw [6, 20] (fun o i wr => ∃ (k : Nat) (r : Option Addr) (m d : Nat), k ≤ n ∧ i = .int .i64 k ∧ o = .slice r m d ∧ (putAll [] (ts.take k)).length = m ∧ Formed r m d ∧ AtM wr r (putAll [] (ts.take k)) ∧ (∀ j, j < k → goodW p (wat ts j) = true) ∧ Below w1.heap.size w1 wr) (fun _ i _ => n - (intOf i).toNat)
      case atStart => exact ⟨0, none, 0, 0, Nat.zero_le _, rfl, rfl, rfl, Formed.nil, atM_nil _ _, fun j hj => by omega, Below.refl _ _⟩
      case round =>
        obtain ⟨k, r, m, d, hk, rfl, rfl, hm, hFr, har, hlow, hbw⟩ := hrel
        have B2 := B0.trans (hbw.mono B0.size)
        have g0 := cell_later hbw e0
        have g1 := cell_later hbw e1
        have k0 := frozen_later hbw e0 f0
        have k1 := frozen_later hbw e1 f1
        have HLOW := Hid.mk hlow
        clear hlow
        by_cases hlt : k < n
        · obtain ⟨b, off, rfl, hc⟩ := (HA.below hbw).some (by omega)
          obtain ⟨q, dd, hcx, hwx, hm1, hnil, hat⟩ := hc k (by omega)
          have HS := Hid.mk (putAll_take [] ts k (by omega))
          have hki : (k : Int) < (n : Int) := by omega
          have hml : m ≤ k := by have := putAll_len (ts.take k) []; rw [List.length_take] at this; simp at this; omega
          have hok : ∀ j, j < m → (wat (putAll [] (ts.take k)) j).1.length ≤ 6 ∧ -4000000000000000000 ≤ (wat (putAll [] (ts.take k)) j).2 ∧ (wat (putAll [] (ts.take k)) j).2 ≤ 4000000000000000000 := fun j hj => by
            have := at_of_mem (putAll_ok (M0 := 0) (M := 1000000) (ts := []) (l := ts.take k) (by omega) (by omega) List.Pairwise.nil (fun t ht => by cases ht) (mem_of_at fun i hi => by
              rw [List.length_take] at hi
              have e : wat (ts.take k) i = wat ts i := by simp [wat, List.getD, show i < k by omega]
              rw [e]; exact goodW_six (HLOW.out i (by omega)))) j (show j < (putAll [] (ts.take k)).length by omega)
            rw [List.length_take] at this
            refine ⟨this.1, ?_, ?_⟩ <;> omega
          have HNO : Hid (goodW p (wat ts k) = false → goodL p ts = false) := goodL_not k (by omega)
          have HNX : Hid (goodW p (wat ts k) = true → ∀ j, j < k + 1 → goodW p (wat ts j) = true) := fun h j hj => by
            by_cases e : j = k
            · subst e; exact h
            · exact HLOW.out j (by omega)
          generalize wat ts k = Y at *
          obtain ⟨ys, x⟩ := Y
          simp only at hcx hwx hat hm1 HS
          obtain ⟨m2, hmm⟩ : ∃ m2, ys.length = m2 := ⟨_, rfl⟩
          rw [hmm] at hcx hm1
          have HM := Hid.mk hmm
          obtain ⟨V, hV⟩ : ∃ V, V = wr.alloc (.cells #[.slice q m2 dd, .int .i64 x] 69) := ⟨_, rfl⟩
          have hbV : Below wr.heap.size wr V := by rw [hV]; exact (Below.refl _ _).alloc (Nat.le_refl _) _
          have c3 : V.cell? ⟨wr.heap.size, 0, none⟩ = some (.slice q m2 dd) := by rw [hV]; exact pair0 wr _ _ _
          have c4 : V.cell? ⟨wr.heap.size, 1, none⟩ = some (.int .i64 x) := by rw [hV]; exact pair1 wr _ _ _
          have HAx := hat.below hbV
          have harV := har.below hbV
          have BV := B2.trans (hbV.mono B2.size)
          have BW := hbw.trans (hbV.mono hbw.size)
          have g0 := cell_later hbV g0
          have k0 := frozen_later hbV (by assumption) k0
          have k1 := frozen_later hbV g1 k1
          have g1 := cell_later hbV g1
          clear hmm hc hat har hbV
          cases hg : good ys with
          | false =>
            have HG := Hid.mk hg
            clear hg
            go_wp2_with fail
            rw [← hV]
            clear hV hcx hwx
            refine (specGoodRow_any _ _ _ ys _ HM.out hm1 HAx).mono ?_
            rintro e w2 ⟨rfl, hb2⟩
            rw [HG.out]
            have d3 := cell_later hb2 c3
            have d4 := cell_later hb2 c4
            have i0 := cell_later hb2 g0
            have i1 := cell_later hb2 g1
            have j0 := frozen_later hb2 g0 k0
            have j1 := frozen_later hb2 g1 k1
            have B3 := BV.trans (hb2.mono BV.size)
            have B3' := BW.trans (hb2.mono BW.size)
            go_wp2
            refine bodyPost_ret (v := .tuple #[.agg #[.int .i64 0, .slice none 0 0], .bool false]) (by simp [results, Try.results111, go_sem, i0, i1]) rfl ⟨TabAns.zero (newB_list (HNO.out (goodW_row HG.out))) rfl, ?_⟩
            exact (B3.setCell (by show w.heap.size ≤ w.heap.size; omega) _).setCell (by show w.heap.size ≤ w.heap.size; omega) _
          | true =>
            have HG := Hid.mk hg
            clear hg
            by_cases hl : (m2 : Int) = p
            · have hne : ((m2 : Int) != p) = false := by simp [hl]
              have HL : Hid ((ys.length : Int) = p) := by show _ = _; rw [HM.out]; exact hl
              clear hl
              cases hi2 : inw x with
              | false =>
                have HI2 := Hid.mk hi2
                clear hi2
                go_wp2_with fail
                rw [← hV]
                clear hV hcx hwx
                refine (specGoodRow_any _ _ _ ys _ HM.out hm1 HAx).mono ?_
                rintro e w2 ⟨rfl, hb2⟩
                rw [HG.out]
                have d3 := cell_later hb2 c3
                have d4 := cell_later hb2 c4
                have i0 := cell_later hb2 g0
                have i1 := cell_later hb2 g1
                have j0 := frozen_later hb2 g0 k0
                have j1 := frozen_later hb2 g1 k1
                have B3 := BV.trans (hb2.mono BV.size)
                have B3' := BW.trans (hb2.mono BW.size)
                go_wp2_with (go_at_call 89; refine (l2Weight_any _ _).mono ?_; rintro e w3 ⟨rfl, rfl⟩; rw [HI2.out])
                refine bodyPost_ret (v := .tuple #[.agg #[.int .i64 0, .slice none 0 0], .bool false]) (by simp [results, Try.results111, go_sem, i0, i1]) rfl ⟨TabAns.zero (newB_list (HNO.out (goodW_wt HI2.out))) rfl, ?_⟩
                exact (B3.setCell (by show w.heap.size ≤ w.heap.size; omega) _).setCell (by show w.heap.size ≤ w.heap.size; omega) _
              | true =>
                have HI2 := Hid.mk hi2
                have HGW := Hid.mk (goodW_mk (p := p) (t := (ys, x)) HG.out HL.out HI2.out)
                obtain ⟨h6, hx1, hx2⟩ := goodW_six HGW.out
                simp only [HM.out] at h6 hx1 hx2
                clear hi2
                go_wp2_with fail
                rw [← hV]
                clear hV hcx hwx
                refine (specGoodRow_any _ _ _ ys _ HM.out hm1 HAx).mono ?_
                rintro e w2 ⟨rfl, hb2⟩
                rw [HG.out]
                have d3 := cell_later hb2 c3
                have d4 := cell_later hb2 c4
                have i0 := cell_later hb2 g0
                have i1 := cell_later hb2 g1
                have j0 := frozen_later hb2 g0 k0
                have j1 := frozen_later hb2 g1 k1
                have B3 := BV.trans (hb2.mono BV.size)
                have B3' := BW.trans (hb2.mono BW.size)
                have HR2 := HAx.below hb2
                have har2 := harV.below hb2
                go_wp2_with (first | (go_at_call 89; refine (l2Weight_any _ _).mono ?_; rintro e w3 ⟨rfl, rfl⟩; rw [HI2.out]) | fail)
                refine (l2Put_any _ _ _ _ _ _ (putAll [] (ts.take k)) ys x _ hm HM.out (by omega) hFr h6 hnil hok (by omega) (by omega) har2 HR2).mono ?_
                rintro e w4 ⟨r4, m4, d4', rfl, hm4, hF4, ha4, hb4⟩
                rw [← HS.out] at hm4 ha4
                have HM4 := Hid.mk hm4
                have HF4 := Hid.mk hF4
                have HA4 := Hid.mk ha4
                have HB := Hid.mk (B3'.trans (hb4.mono B3'.size))
                clear hm4 hF4 ha4 hb4 B3 B3' BV BW hm hFr hok har2 HR2 HAx harV hb2 hbw
                go_wp2
                go_roundw
                case rel => exact ⟨k + 1, _, _, _, by omega, by go_num, rfl, HM4.out, HF4.out, HA4.out, HNX.out HGW.out, HB.out⟩
                case measure => simp [intOf]; omega
            · have hne : ((m2 : Int) != p) = true := by simp [hl]
              have HL : Hid ((ys.length : Int) ≠ p) := by show _ ≠ _; rw [HM.out]; exact hl
              clear hl
              go_wp2_with fail
              rw [← hV]
              clear hV hcx hwx
              refine (specGoodRow_any _ _ _ ys _ HM.out hm1 HAx).mono ?_
              rintro e w2 ⟨rfl, hb2⟩
              rw [HG.out]
              have d3 := cell_later hb2 c3
              have d4 := cell_later hb2 c4
              have i0 := cell_later hb2 g0
              have i1 := cell_later hb2 g1
              have j0 := frozen_later hb2 g0 k0
              have j1 := frozen_later hb2 g1 k1
              have B3 := BV.trans (hb2.mono BV.size)
              have B3' := BW.trans (hb2.mono BW.size)
              go_wp2
              refine bodyPost_ret (v := .tuple #[.agg #[.int .i64 0, .slice none 0 0], .bool false]) (by simp [results, Try.results111, go_sem, i0, i1]) rfl ⟨TabAns.zero (newB_list (HNO.out (goodW_len HL.out))) rfl, ?_⟩
              exact (B3.setCell (by show w.heap.size ≤ w.heap.size; omega) _).setCell (by show w.heap.size ≤ w.heap.size; omega) _
        · obtain rfl : k = n := by omega
          rw [wtake_all' ts hz] at hm har
          have HGL := Hid.mk (goodL_of (p := p) (ts := ts) (fun j hj => HLOW.out j (by omega)))
          have HNB : Hid (newB p ts = goodT p (putAll [] ts)) := newB_good HI.out (by omega) HGL.out
          have hml : m ≤ k := by have := putAll_len ts []; simp at this; omega
          have hrow : ∀ j, j < m → (wat (putAll [] ts) j).1.length ≤ 1048576 := fun j hj => by
            have := (at_of_mem (putAll_ok (M0 := 0) (M := 1000000) (ts := []) (l := ts) (by omega) (by omega) List.Pairwise.nil (fun t ht => by cases ht) (fun t ht => by have := goodL_mem HGL.out t ht; exact ⟨good_len this.1, this.2.2⟩)) j (show j < (putAll [] ts).length by omega)).1
            omega
          go_wp2_with fail
          refine (l2Tell_any _ _ _ (putAll [] ts) _ _ hm (by omega) hrow har).mono ?_
          rintro e w4 ⟨⟨r4, m4, d4, cells4, rfl, ho4⟩, hb4⟩
          have B4 := B2.trans (hb4.mono B2.size)
          have e0 := cell_later hb4 g0
          have e1 := cell_later hb4 g1
          have f0 := frozen_later hb4 g0 k0
          have f1 := frozen_later hb4 g1 k1
          have zR : w.heap.size < wr.heap.size := World.block_lt_of_cell? _ _ g0
          clear hb4 hm har hFr hrow hbw
          go_wp2
          refine bodyPost_ret (v := .tuple #[.agg #[.int .i64 _, .slice r4 m4 d4], .bool _]) (by simp [results, Try.results111, go_sem, e0, e1]) rfl ⟨TabAns.tell HNB.out ⟨r4, m4, d4, cells4, rfl, ho4.stored zR (by omega) _ _⟩, ?_⟩
          exact (B4.setCell (by show w.heap.size ≤ w.heap.size; omega) _).setCell (by show w.heap.size ≤ w.heap.size; omega) _
    · have hn2 : (200 : Int) < (n : Int) := by omega
      go_enter Try.func111, Try.ntmps111
      go_wp2_with fail
      rw [← hW]
      clear hW
      refine (l1In_any _ _ _ _).mono ?_
      rintro e w1 ⟨rfl, rfl⟩
      rw [show (decide ((0 : Int) ≤ p) && decide (p ≤ 6)) = true from HI.out]
      go_wp2
      refine bodyPost_ret (v := .tuple #[.agg #[.int .i64 0, .slice none 0 0], .bool false]) (by simp [results, Try.results111, go_sem, e0, e1]) rfl ⟨TabAns.zero (newB_len (by omega)) rfl, ?_⟩
      exact (B0.setCell (by show w.heap.size ≤ w.heap.size; omega) _).setCell (by show w.heap.size ≤ w.heap.size; omega) _
end Go.Proofs.Ytlfljfmhhnoinab

/- What the model's cursor draws: a good table. -/
namespace Go.Proofs.Ytlfljfmhhnoinab
open Go.RowKit

/-- Behind a store of a table into a variable of the call's own the cursor stands. -/
theorem drawn_small {p : Nat} {ts : List WRow} (hp : p ≤ 8) (h : ∀ t ∈ ts, DrawnW p t) : ∀ i, i < ts.length → (wat ts i).1.length ≤ 9223372036854775807 := fun i hi => by
  have := (h _ (wat_mem hi)).1
  omega

theorem grown_set {w x : World} {C R i : Nat} {v : Value} (h : w.grownBy x (some C)) (hR : w.heap.size ≤ R) : w.grownBy (x.setCell ⟨R, i, none⟩ v) (some C) :=
  ⟨h.os, h.tape, h.output, by simp only [World.setCell, Array.size_modify]; exact h.size, fun k hk hn => by rw [Below.heap_setCell x _ _ k (by show k ≠ R; omega)]; exact h.block k hk hn⟩
theorem newB_none {p : Nat} (hp : p ≤ 6) : newB p [] = true := by
  have : p = 0 ∨ p = 1 ∨ p = 2 ∨ p = 3 ∨ p = 4 ∨ p = 5 ∨ p = 6 := by omega
  rcases this with rfl | rfl | rfl | rfl | rfl | rfl | rfl <;> rfl

set_option maxRecDepth 100000 in
set_option maxHeartbeats 4000000 in
theorem clean_drw (p : Nat) (C : Nat) (a : Option Addr) (n c M : Nat) (w : World) (hp : p ≤ 6) (hM : M ≤ 500000000) (h : Drw w C a n c M) :
    Calls Try.prog 65 #[.pointer (some ⟨C, 0, none⟩), .int .i64 p] w fun e w' => ∃ (ts : List WRow) (r : Option Addr) (m d : Nat) (cells : List Value), goodT p ts = true ∧ m ≤ 60 ∧ e = .returned (.agg #[.int .i64 p, .slice r m d]) ∧
      OwnW w' w.heap.size w'.heap.size 69 3 r m d ts cells ∧ Drw w' C a n c (M + 200) ∧ w.grownBy w' (some C) := by
  have hCl := h.lt
  have HBY := Hid.mk h.bytes
  obtain ⟨W, hW⟩ : ∃ W, W = w.alloc (.cells #[.int .i64 0, .slice none 0 0] 32) := ⟨_, rfl⟩
  have B0 : Below w.heap.size w W := by rw [hW]; exact (Below.refl _ _).alloc (Nat.le_refl _) _
  have zW : w.heap.size < W.heap.size := by rw [hW]; simp
  have Q0 : W.heap[w.heap.size]? = some (.cells #[.int .i64 0, .slice none 0 0] 32 (0, 0)) := by rw [hW]; exact heap_alloc_new w _
  have D0 := h.below B0
  have G0 : w.grownBy W (some C) := Below.toGrown B0 _
  clear h
  go_enter Try.func65, Try.ntmps65
  go_wp2_with fail
  rw [← hW]
  clear hW B0
  refine (pick_drw 8 C a n c M W (by omega) D0 (by omega) (by omega)).mono ?_
  rintro e w1 ⟨x, hx0, _, hx1, rfl, hd1, hg1⟩
  obtain ⟨K, rfl⟩ : ∃ K : Nat, x = K := ⟨x.toNat, by omega⟩
  have hK : K ≤ 7 := by omega
  have G1 := grown_trans G0 hg1
  have Q1 := (hg1.block w.heap.size zW (by simp; omega)).trans Q0
  have z1 := hg1.size
  clear hg1 G0 Q0 D0 hx0 hx1
  go_wp2_with fail
  refine (weighted_drw p K C a n c (M + 2) w1 (by omega) (by omega) (by omega) hd1).mono ?_
  rintro e w2 ⟨ts, r, d, cells, hts, rfl, ho, hd2, hg2⟩
  have G2 := grown_trans G1 hg2
  have Q2 := (hg2.block w.heap.size (by omega) (by simp; omega)).trans Q1
  have z2 := hg2.size
  have HAM := Hid.mk (OwnWk.atM ho (by rw [← ho.len]; exact drawn_small (by omega) hts))
  have hlen := ho.len
  clear hg2 G1 Q1 hd1 ho hts
  go_wp2_with fail
  refine (specNewTable _ _ _ ts _ _ hlen (by omega) HAM.out).mono ?_
  rintro e w3 ⟨hr, hb3⟩
  have H3 := Hid.mk (hd2.below hb3)
  have G3 := Hid.mk (grown_below G2 hb3)
  have Q3 := (hb3.block w.heap.size (by omega)).trans Q2
  have z3 := hb3.size
  clear hb3 G2 Q2 hd2 HAM
  cases hok : newB p ts with
  | true =>
    rw [hok] at hr
    obtain ⟨r3, m3, d3, cs3, rfl, ho3⟩ := hr
    have HGT : Hid (goodT p (putAll [] ts) = true) := newB_goodT hok
    have ho3' : OwnW w3 w2.heap.size w3.heap.size 69 3 r3 m3 d3 (putAll [] ts) cs3 := ho3
    rw [show ansP true (p : Int) = p from rfl]
    have hm60 : m3 ≤ 60 := by have h1 := (goodT_parts HGT.out).2.1; have h2 := ho3'.len; omega
    generalize putAll [] ts = us at *
    obtain ⟨X, hX⟩ : ∃ X, X = w3.alloc (.cells #[.int .i64 p, .slice r3 m3 d3] 32) := ⟨_, rfl⟩
    have hbX : Below w3.heap.size w3 X := by rw [hX]; exact (Below.refl _ _).alloc (Nat.le_refl _) _
    have x0 : X.cell? ⟨w3.heap.size, 0, none⟩ = some (.int .i64 p) := by rw [hX]; exact pair0 w3 _ _ _
    have x1 : X.cell? ⟨w3.heap.size, 1, none⟩ = some (.slice r3 m3 d3) := by rw [hX]; exact pair1 w3 _ _ _
    have QX := (hbX.block w.heap.size (by omega)).trans Q3
    have e0 : X.cell? ⟨w.heap.size, 0, none⟩ = some (.int .i64 0) := by rw [cell_of_row X _ 0 _ _ (0, 0) QX]; rfl
    have e1 : X.cell? ⟨w.heap.size, 1, none⟩ = some (.slice none 0 0) := by rw [cell_of_row X _ 1 _ _ (0, 0) QX]; rfl
    have f0 : X.frozen? ⟨w.heap.size, 0, none⟩ = false := frozen_of_row X _ 0 _ _ QX
    have f1 : X.frozen? ⟨w.heap.size, 1, none⟩ = false := frozen_of_row X _ 1 _ _ QX
    have HOX := Hid.mk (ho3'.below hbX)
    have HDX := Hid.mk (H3.out.below hbX)
    have HGX := Hid.mk (grown_below G3.out hbX)
    have zX := hbX.size
    clear ho3 ho3' H3 G3 QX Q3 hok hlen
    go_upto_region 2 with fail
    rw [← hX]
    clear hX hbX
    go_wp2
    refine bodyPost_ret (v := .agg #[.int .i64 p, .slice r3 m3 d3]) (by simp [results, Try.results65, go_sem, e0, e1]) rfl ⟨us, r3, m3, d3, cs3, HGT.out, hm60, rfl, ?_, ?_, ?_⟩
    · exact ((HOX.out.setCell (a0 := ⟨w.heap.size, 0, none⟩) (.inl (by show w.heap.size < _; omega)) _).setCell (a0 := ⟨w.heap.size, 1, none⟩) (.inl (by show w.heap.size < _; omega)) _).widen (by omega) (by simp only [World.setCell, Array.size_modify]; exact zX) (Nat.le_refl _)
    · exact HDX.out.under (((Below.refl w.heap.size X).setCell (Nat.le_refl _) _).setCell (Nat.le_refl _) _) hCl HBY.out (by omega)
    · exact grown_set (grown_set HGX.out (Nat.le_refl _)) (Nat.le_refl _)
  | false =>
    rw [hok] at hr
    obtain ⟨r3, m3, d3, cs3, rfl, ho3⟩ := hr
    rw [show ansP false (p : Int) = 0 from rfl]
    obtain ⟨X, hX⟩ : ∃ X, X = w3.alloc (.cells #[.int .i64 0, .slice r3 m3 d3] 32) := ⟨_, rfl⟩
    have hbX : Below w3.heap.size w3 X := by rw [hX]; exact (Below.refl _ _).alloc (Nat.le_refl _) _
    have qX : X.heap[w3.heap.size]? = some (.cells #[.int .i64 0, .slice r3 m3 d3] 32 (0, 0)) := by rw [hX]; exact heap_alloc_new w3 _
    have QX := (hbX.block w.heap.size (by omega)).trans Q3
    have HDX := Hid.mk (H3.out.below hbX)
    have HGX := Hid.mk (grown_below G3.out hbX)
    have zX := hbX.size
    clear ho3 H3 G3 Q3 hok hlen
    go_upto_region 2 with fail
    rw [← hX]
    clear hX hbX
    go_wp2_with fail
    refine (specEmptyTable _ _).mono ?_
    rintro e w4 ⟨hr4, hb4⟩
    have hnb : newB p [] = true := newB_none hp
    rw [hnb] at hr4
    obtain ⟨r4, m4, d4, cs4, rfl, ho4⟩ := hr4
    have ho4' : OwnW w4 X.heap.size w4.heap.size 69 3 r4 m4 d4 [] cs4 := ho4
    obtain rfl : m4 = 0 := ho4'.len.symm
    rw [show ansP true (p : Int) = p from rfl]
    have q4 := (hb4.block w3.heap.size (Array.getElem?_eq_some_iff.1 qX).1).trans qX
    have Q4 := (hb4.block w.heap.size (Array.getElem?_eq_some_iff.1 QX).1).trans QX
    have t0 : w4.cell? ⟨w3.heap.size, 0, none⟩ = some (.int .i64 0) := by rw [cell_of_row w4 _ 0 _ _ (0, 0) q4]; rfl
    have t1 : w4.cell? ⟨w3.heap.size, 1, none⟩ = some (.slice r3 m3 d3) := by rw [cell_of_row w4 _ 1 _ _ (0, 0) q4]; rfl
    have g0 : w4.frozen? ⟨w3.heap.size, 0, none⟩ = false := frozen_of_row w4 _ 0 _ _ q4
    have g1 : w4.frozen? ⟨w3.heap.size, 1, none⟩ = false := frozen_of_row w4 _ 1 _ _ q4
    have zz : w3.heap.size < X.heap.size := (Array.getElem?_eq_some_iff.1 qX).1
    have z4 := hb4.size
    obtain ⟨U, hU⟩ : ∃ U, U = (w4.setCell ⟨w3.heap.size, 0, none⟩ (.int .i64 p)).setCell ⟨w3.heap.size, 1, none⟩ (.slice r4 0 d4) := ⟨_, rfl⟩
    have hne : w.heap.size ≠ w3.heap.size := by omega
    have QU : U.heap[w.heap.size]? = some (.cells #[.int .i64 0, .slice none 0 0] 32 (0, 0)) := by
      rw [hU, Below.heap_setCell _ _ _ w.heap.size hne, Below.heap_setCell _ _ _ w.heap.size hne]; exact Q4
    have x0 : U.cell? ⟨w3.heap.size, 0, none⟩ = some (.int .i64 p) := by rw [hU]; exact set2_0 q4 _ _
    have x1 : U.cell? ⟨w3.heap.size, 1, none⟩ = some (.slice r4 0 d4) := by rw [hU]; exact set2_1 q4 _ _
    have zU : w4.heap.size = U.heap.size := by rw [hU]; simp only [World.setCell, Array.size_modify]
    have e0 : U.cell? ⟨w.heap.size, 0, none⟩ = some (.int .i64 0) := by rw [cell_of_row U _ 0 _ _ (0, 0) QU]; rfl
    have e1 : U.cell? ⟨w.heap.size, 1, none⟩ = some (.slice none 0 0) := by rw [cell_of_row U _ 1 _ _ (0, 0) QU]; rfl
    have f0 : U.frozen? ⟨w.heap.size, 0, none⟩ = false := frozen_of_row U _ 0 _ _ QU
    have f1 : U.frozen? ⟨w.heap.size, 1, none⟩ = false := frozen_of_row U _ 1 _ _ QU
    have HZU := Hid.mk zU
    have HOU : Hid (OwnW U X.heap.size w4.heap.size 69 3 r4 0 d4 [] cs4) := by
      show OwnWk _ _ _ _ _ _ _ _ _ _ _
      rw [hU]; exact (ho4'.setCell (a0 := ⟨w3.heap.size, 0, none⟩) (.inl zz) _).setCell (a0 := ⟨w3.heap.size, 1, none⟩) (.inl zz) _
    have HDU : Hid (Drw U C a n c (M + 200)) := by
      show Drw _ _ _ _ _ _
      rw [hU]; exact (HDX.out.below hb4).under (((Below.refl w.heap.size w4).setCell (by show w.heap.size ≤ w3.heap.size; omega) _).setCell (by show w.heap.size ≤ w3.heap.size; omega) _) hCl HBY.out (by omega)
    have HGU : Hid (w.grownBy U (some C)) := by
      show World.grownBy _ _ _
      rw [hU]; exact grown_set (grown_set (grown_below HGX.out hb4) (by omega)) (by omega)
    clear ho4 ho4' HDX HGX QU Q4 q4 qX QX zU
    go_upto_region 4 with fail
    rw [← hU]
    clear hU t0 t1 g0 g1
    go_wp2
    refine bodyPost_ret (v := .agg #[.int .i64 p, .slice r4 0 d4]) (by simp [results, Try.results65, go_sem, e0, e1]) rfl ⟨[], r4, 0, d4, cs4, newB_goodT hnb, by omega, rfl, ?_, ?_, ?_⟩
    · exact ((HOU.out.setCell (a0 := ⟨w.heap.size, 0, none⟩) (.inl (by show w.heap.size < _; omega)) _).setCell (a0 := ⟨w.heap.size, 1, none⟩) (.inl (by show w.heap.size < _; omega)) _).widen (by omega) (by simp only [World.setCell, Array.size_modify]; exact Nat.le_of_eq HZU.out) (Nat.le_refl _)
    · exact HDU.out.under (((Below.refl w.heap.size U).setCell (Nat.le_refl _) _).setCell (Nat.le_refl _) _) hCl HBY.out (Nat.le_refl _)
    · exact grown_set (grown_set HGU.out (Nat.le_refl _)) (Nat.le_refl _)

end Go.Proofs.Ytlfljfmhhnoinab
