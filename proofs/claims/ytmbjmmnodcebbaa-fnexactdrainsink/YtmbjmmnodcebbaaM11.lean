/- Several texts of one proof, in build order: PrK, DrP, DrQ, RowC, ClnI. -/
import Derived.Test.YtmbjmmnodcebbaaM10
import Derived.Test.YtmbjmmnodcebbaaM7
import Derived.Test.YtmbjmmnodcebbaaM8
import Derived.Test.YtmbjmmnodcebbaaM9
import Derived.Test.YtmbjmmnodcebbaaM1
import Derived.Test.YtmbjmmnodcebbaaM3

/- Contract of the program's prepare. -/
namespace Go.Proofs.Ytmbjmmnodcebbaa
open Go.RowKit

/-- Behind 'append(l, x)' of an old thing that the call owns besides. -/
theorem laid_pushAt {α : Type} {A : Rep α} {w w4 : World} {F H F' : Nat → Prop} {e : TypeId} {a a' : Option Addr} {n c c' : Nat} {xs : List α} {cells vs : List Value} {G : Nat → Nat → Prop} {x : α} (h : Laid A w F e a n c xs cells G n) (hF : ∀ b, F b → b < w.heap.size) (ho : A.Own w4 H vs x) (hH : ∀ b, H b → ¬ F b ∧ b < w.heap.size)
    (hg : ∀ b, b < w.heap.size → (Value.slice a n c).ownBlock ≠ some b → w4.heap[b]? = w.heap[b]?) (hown : w4.ownsRow 0 e A.k (.slice a' (n + 1) c') (n + 1) (cells ++ vs))
    (hat : (Value.slice a' (n + 1) c').ownBlock = (Value.slice a n c).ownBlock ∨ ∀ b, (Value.slice a' (n + 1) c').ownBlock = some b → w.heap.size ≤ b) (hbig : n + 1 ≤ 9223372036854775807)
    (hF1 : ∀ b, F b → F' b) (hF2 : ∀ b, H b → F' b) (hF3 : ∀ b, (Value.slice a' (n + 1) c').ownBlock = some b → F' b) :
    Laid A w4 F' e a' (n + 1) c' (xs ++ [x]) (cells ++ vs) (fun i => if i = n then H else G i) (n + 1) := by
  have hl := A.ownLen ho
  have hcl : cells.length = n * A.k := h.outer.1
  have hB : ∀ i b, i < n → G i b → b < w.heap.size ∧ (Value.slice a n c).ownBlock ≠ some b := fun i b hi hg' => ⟨hF b (h.rowF i b hi hg').1, (h.rowF i b hi hg').2⟩
  have hO : ∀ b, (Value.slice a n c).ownBlock = some b → F b := fun b hb' => h.outerF b hb'
  refine ⟨by simp [h.len], hbig, hown, hF3, fun i y hi hy => ?_, fun i b hi hb' => ?_, fun i j b hi hj hij hb' => ?_⟩
  · by_cases ei : i = n
    · subst ei
      simp only [if_true]
      obtain rfl : x = y := by
        rw [List.getElem?_append_right (by rw [h.len]; exact Nat.le_refl _)] at hy
        simpa [h.len] using hy
      have := sub_append_right (cells := cells) hl
      rw [hcl] at this
      rw [this]
      exact ho
    · simp only [if_neg ei]
      have hi' : i < n := by omega
      rw [List.getElem?_append_left (by rw [h.len]; exact hi')] at hy
      rw [sub_append_left (by rw [hcl]; exact at_mul hi')]
      exact A.frame (h.row i y hi' hy) (fun b hb' _ => hg b (hB i b hi' hb').1 (hB i b hi' hb').2)
  · by_cases ei : i = n
    · subst ei
      simp only [if_true] at hb'
      refine ⟨hF2 b hb', fun e' => ?_⟩
      have h1 := hH b hb'
      rcases hat with h2 | h2
      · rw [h2] at e'
        exact h1.1 (hO b e')
      · have := h2 b e'
        omega
    · simp only [if_neg ei] at hb'
      have h1 := hB i b (by omega) hb'
      refine ⟨hF1 b (h.rowF i b (by omega) hb').1, fun e' => ?_⟩
      rcases hat with h2 | h2
      · rw [h2] at e'; exact h1.2 e'
      · have := h2 b e'
        omega
  · by_cases ei : i = n
    · subst ei
      simp only [if_true] at hb'
      simp only [if_neg (Ne.symm hij)]
      intro e'
      exact (hH b hb').1 (h.rowF j b (by omega) e').1
    · simp only [if_neg ei] at hb'
      by_cases ej : j = n
      · simp only [if_pos ej]
        intro e'
        exact (hH b e').1 (h.rowF i b (by omega) hb').1
      · simp only [if_neg ej]
        exact h.apart i j b (by omega) (by omega) hij hb'

set_option maxRecDepth 100000 in
set_option maxHeartbeats 2000000 in
theorem prepare_no (F : Nat → Prop) (a0 : Option Addr) (n0 c0 : Nat) (a2 : Option Addr) (n2 c2 : Nat) (a3 : Option Addr) (n3 c3 : Nat) (a4 : Option Addr) (n4 c4 : Nat) (t la up : Int) (src pd : List Int) (ps : List TPrepared) (ou : List Int) (w : World) (hc : n2 = 0 ∨ n3 = 4 ∨ 1000 < la + (n3 : Int) + 1) (h34 : n3 ≤ 4) (hl0 : 0 ≤ la) (hl1 : la ≤ 1000) (ho : RSink.Own w F [.slice a0 n0 c0, .int .i64 t, .slice a2 n2 c2, .slice a3 n3 c3, .slice a4 n4 c4, .int .i64 la, .int .i64 up] (src, t, pd, ps, ou, la, up)) :
    Calls Try.prog 42 #[.agg #[.slice a0 n0 c0, .int .i64 t, .slice a2 n2 c2, .slice a3 n3 c3, .slice a4 n4 c4, .int .i64 la, .int .i64 up]] w fun e w' => KRet e w w' F false (src, t, pd, ps, ou, la, up) ∧ Below w.heap.size w w' := by
  obtain ⟨W, hW⟩ : ∃ W, W = (w.alloc (.cells #[.slice a0 n0 c0, .int .i64 t, .slice a2 n2 c2, .slice a3 n3 c3, .slice a4 n4 c4, .int .i64 la, .int .i64 up] 29)).alloc (.cells #[.slice none 0 0, .int .i64 0, .slice none 0 0, .slice none 0 0, .slice none 0 0, .int .i64 0, .int .i64 0] 29) := ⟨_, rfl⟩
  have B0 : Below w.heap.size w W := by rw [hW]; exact ((Below.refl _ _).alloc (Nat.le_refl _) _).alloc (by simp) _
  have b0 : W.heap[w.heap.size]? = some (.cells #[.slice a0 n0 c0, .int .i64 t, .slice a2 n2 c2, .slice a3 n3 c3, .slice a4 n4 c4, .int .i64 la, .int .i64 up] 29 (0, 0)) := by rw [hW]; exact blk_alloc (heap_alloc_new w _) _
  have b1 : W.heap[w.heap.size + 1]? = some (.cells #[.slice none 0 0, .int .i64 0, .slice none 0 0, .slice none 0 0, .slice none 0 0, .int .i64 0, .int .i64 0] 29 (0, 0)) := by
    rw [hW]
    have q := heap_alloc_new (w.alloc (.cells #[.slice a0 n0 c0, .int .i64 t, .slice a2 n2 c2, .slice a3 n3 c3, .slice a4 n4 c4, .int .i64 la, .int .i64 up] 29)) (.cells #[.slice none 0 0, .int .i64 0, .slice none 0 0, .slice none 0 0, .slice none 0 0, .int .i64 0, .int .i64 0] 29)
    simpa only [World.size_alloc] using q
  have zW : W.heap.size = w.heap.size + 2 := by rw [hW]; simp
  have p0 := blk_cell b0 0 (v := .slice a0 n0 c0) rfl
  have p1 := blk_cell b0 1 (v := .int .i64 t) rfl
  have p2 := blk_cell b0 2 (v := .slice a2 n2 c2) rfl
  have p3 := blk_cell b0 3 (v := .slice a3 n3 c3) rfl
  have p4 := blk_cell b0 4 (v := .slice a4 n4 c4) rfl
  have p5 := blk_cell b0 5 (v := .int .i64 la) rfl
  have p6 := blk_cell b0 6 (v := .int .i64 up) rfl
  have y0 := blk_cell b1 0 (v := .slice none 0 0) rfl
  have y1 := blk_cell b1 1 (v := .int .i64 0) rfl
  have y2 := blk_cell b1 2 (v := .slice none 0 0) rfl
  have y3 := blk_cell b1 3 (v := .slice none 0 0) rfl
  have y4 := blk_cell b1 4 (v := .slice none 0 0) rfl
  have y5 := blk_cell b1 5 (v := .int .i64 0) rfl
  have y6 := blk_cell b1 6 (v := .int .i64 0) rfl
  have fz0 := blk_frozen b1 0
  have fz1 := blk_frozen b1 1
  have fz2 := blk_frozen b1 2
  have fz3 := blk_frozen b1 3
  have fz4 := blk_frozen b1 4
  have fz5 := blk_frozen b1 5
  have fz6 := blk_frozen b1 6
  have hw1 : IntKind.i64.wrap (la + (n3 : Int)) = la + (n3 : Int) := IntWalk.i64_in _ (by omega)
  have hw2 : IntKind.i64.wrap (la + (n3 : Int) + 1) = la + (n3 : Int) + 1 := IntWalk.i64_in _ (by omega)
  by_cases h20 : n2 = 0
  · have hb2 : ((n2 : Int) == 0) = true := beq_iff_eq.2 (by omega)
    clear hc h34 hl0 hl1 h20
    go_enter Try.func42, Try.ntmps42
    go_upto_region 1 with fail
    rw [← hW]
    clear hW
    go_upto_region 3 with fail
    obtain ⟨Y, hY⟩ : ∃ u, u = stores W (w.heap.size + 1) 0 [.slice a0 n0 c0, .int .i64 t, .slice a2 n2 c2, .slice a3 n3 c3, .slice a4 n4 c4, .int .i64 la, .int .i64 up] := ⟨_, rfl⟩
    have S : Off (fun b => b = w.heap.size + 1) W Y := by rw [hY]; exact stores_off (F := fun b => b = w.heap.size + 1) _ _ _ _ rfl
    have zY : Y.heap.size = W.heap.size := by rw [hY]; exact stores_size _ _ _ _
    have D : Below w.heap.size w Y := by rw [hY]; exact stores_below _ _ _ _ B0 (by omega)
    have R : Hid (KRet (.returned (.tuple #[.agg #[.slice a0 n0 c0, .int .i64 t, .slice a2 n2 c2, .slice a3 n3 c3, .slice a4 n4 c4, .int .i64 la, .int .i64 up], .bool false])) w Y F false (src, t, pd, ps, ou, la, up) ∧ Below w.heap.size w Y) := Hid.mk
      ⟨⟨a0, n0, c0, a2, n2, c2, a3, n3, c3, a4, n4, c4, rfl, RSink.mono (RSink.ownBelow ho D) (fun b h => .inl h), Off.below D⟩, D⟩
    have HY := Hid.mk hY
    clear S hY zY D b0 b1 B0 zW
    go_wp2
    refine bodyPost_ret (v := .tuple #[.agg #[.slice a0 n0 c0, .int .i64 t, .slice a2 n2 c2, .slice a3 n3 c3, .slice a4 n4 c4, .int .i64 la, .int .i64 up], .bool false]) (by simp [results, Try.results42, go_sem, y0, y1, y2, y3, y4, y5, y6]) rfl ?_
    have h := R.out
    rw [HY.out] at h
    exact h
  by_cases h44 : n3 = 4
  · have hb2 : ((n2 : Int) == 0) = false := beq_eq_false_iff_ne.2 (by omega)
    have hb4 : ((n3 : Int) == 4) = true := beq_iff_eq.2 (by omega)
    clear hc h34 hl0 hl1 h20 h44
    go_enter Try.func42, Try.ntmps42
    go_upto_region 1 with fail
    rw [← hW]
    clear hW
    go_upto_region 3 with fail
    obtain ⟨Y, hY⟩ : ∃ u, u = stores W (w.heap.size + 1) 0 [.slice a0 n0 c0, .int .i64 t, .slice a2 n2 c2, .slice a3 n3 c3, .slice a4 n4 c4, .int .i64 la, .int .i64 up] := ⟨_, rfl⟩
    have S : Off (fun b => b = w.heap.size + 1) W Y := by rw [hY]; exact stores_off (F := fun b => b = w.heap.size + 1) _ _ _ _ rfl
    have zY : Y.heap.size = W.heap.size := by rw [hY]; exact stores_size _ _ _ _
    have D : Below w.heap.size w Y := by rw [hY]; exact stores_below _ _ _ _ B0 (by omega)
    have R : Hid (KRet (.returned (.tuple #[.agg #[.slice a0 n0 c0, .int .i64 t, .slice a2 n2 c2, .slice a3 n3 c3, .slice a4 n4 c4, .int .i64 la, .int .i64 up], .bool false])) w Y F false (src, t, pd, ps, ou, la, up) ∧ Below w.heap.size w Y) := Hid.mk
      ⟨⟨a0, n0, c0, a2, n2, c2, a3, n3, c3, a4, n4, c4, rfl, RSink.mono (RSink.ownBelow ho D) (fun b h => .inl h), Off.below D⟩, D⟩
    have HY := Hid.mk hY
    clear S hY zY D b0 b1 B0 zW
    go_wp2
    refine bodyPost_ret (v := .tuple #[.agg #[.slice a0 n0 c0, .int .i64 t, .slice a2 n2 c2, .slice a3 n3 c3, .slice a4 n4 c4, .int .i64 la, .int .i64 up], .bool false]) (by simp [results, Try.results42, go_sem, y0, y1, y2, y3, y4, y5, y6]) rfl ?_
    have h := R.out
    rw [HY.out] at h
    exact h
  have hb2 : ((n2 : Int) == 0) = false := beq_eq_false_iff_ne.2 (by omega)
  have hb4 : ((n3 : Int) == 4) = false := beq_eq_false_iff_ne.2 (by omega)
  have hb5 : (1000 : Int) < la + (n3 : Int) + 1 := by omega
  clear hc h34 hl0 hl1 h20 h44
  go_enter Try.func42, Try.ntmps42
  go_upto_region 1 with fail
  rw [← hW]
  clear hW
  go_upto_region 3 with fail
  obtain ⟨Y, hY⟩ : ∃ u, u = stores W (w.heap.size + 1) 0 [.slice a0 n0 c0, .int .i64 t, .slice a2 n2 c2, .slice a3 n3 c3, .slice a4 n4 c4, .int .i64 la, .int .i64 up] := ⟨_, rfl⟩
  have S : Off (fun b => b = w.heap.size + 1) W Y := by rw [hY]; exact stores_off (F := fun b => b = w.heap.size + 1) _ _ _ _ rfl
  have zY : Y.heap.size = W.heap.size := by rw [hY]; exact stores_size _ _ _ _
  have D : Below w.heap.size w Y := by rw [hY]; exact stores_below _ _ _ _ B0 (by omega)
  have R : Hid (KRet (.returned (.tuple #[.agg #[.slice a0 n0 c0, .int .i64 t, .slice a2 n2 c2, .slice a3 n3 c3, .slice a4 n4 c4, .int .i64 la, .int .i64 up], .bool false])) w Y F false (src, t, pd, ps, ou, la, up) ∧ Below w.heap.size w Y) := Hid.mk
    ⟨⟨a0, n0, c0, a2, n2, c2, a3, n3, c3, a4, n4, c4, rfl, RSink.mono (RSink.ownBelow ho D) (fun b h => .inl h), Off.below D⟩, D⟩
  have HY := Hid.mk hY
  clear S hY zY D b0 b1 B0 zW
  go_wp2
  refine bodyPost_ret (v := .tuple #[.agg #[.slice a0 n0 c0, .int .i64 t, .slice a2 n2 c2, .slice a3 n3 c3, .slice a4 n4 c4, .int .i64 la, .int .i64 up], .bool false]) (by simp [results, Try.results42, go_sem, y0, y1, y2, y3, y4, y5, y6]) rfl ?_
  have h := R.out
  rw [HY.out] at h
  exact h

set_option maxRecDepth 100000 in
set_option maxHeartbeats 2000000 in
theorem prepare_yes (F : Nat → Prop) (a0 : Option Addr) (n0 c0 : Nat) (a2 : Option Addr) (n2 c2 : Nat) (a3 : Option Addr) (n3 c3 : Nat) (a4 : Option Addr) (n4 c4 : Nat) (t la up : Int) (src pd : List Int) (ps : List TPrepared) (ou : List Int) (w : World) (hF : ∀ b, F b → b < w.heap.size) (h2p : 0 < n2) (h34 : n3 < 4) (hl0 : 0 ≤ la) (hl1 : la + (n3 : Int) + 1 ≤ 1000) (ho : RSink.Own w F [.slice a0 n0 c0, .int .i64 t, .slice a2 n2 c2, .slice a3 n3 c3, .slice a4 n4 c4, .int .i64 la, .int .i64 up] (src, t, pd, ps, ou, la, up)) :
    Calls Try.prog 42 #[.agg #[.slice a0 n0 c0, .int .i64 t, .slice a2 n2 c2, .slice a3 n3 c3, .slice a4 n4 c4, .int .i64 la, .int .i64 up]] w fun e w' => KRet e w w' F true (src, t, [], ps ++ [(la + (n3 : Int) + 1, t, pd)], ou, la, up) := by
  obtain ⟨W, hW⟩ : ∃ W, W = (w.alloc (.cells #[.slice a0 n0 c0, .int .i64 t, .slice a2 n2 c2, .slice a3 n3 c3, .slice a4 n4 c4, .int .i64 la, .int .i64 up] 29)).alloc (.cells #[.slice none 0 0, .int .i64 0, .slice none 0 0, .slice none 0 0, .slice none 0 0, .int .i64 0, .int .i64 0] 29) := ⟨_, rfl⟩
  have B0 : Below w.heap.size w W := by rw [hW]; exact ((Below.refl _ _).alloc (Nat.le_refl _) _).alloc (by simp) _
  have b0 : W.heap[w.heap.size]? = some (.cells #[.slice a0 n0 c0, .int .i64 t, .slice a2 n2 c2, .slice a3 n3 c3, .slice a4 n4 c4, .int .i64 la, .int .i64 up] 29 (0, 0)) := by rw [hW]; exact blk_alloc (heap_alloc_new w _) _
  have b1 : W.heap[w.heap.size + 1]? = some (.cells #[.slice none 0 0, .int .i64 0, .slice none 0 0, .slice none 0 0, .slice none 0 0, .int .i64 0, .int .i64 0] 29 (0, 0)) := by
    rw [hW]
    have q := heap_alloc_new (w.alloc (.cells #[.slice a0 n0 c0, .int .i64 t, .slice a2 n2 c2, .slice a3 n3 c3, .slice a4 n4 c4, .int .i64 la, .int .i64 up] 29)) (.cells #[.slice none 0 0, .int .i64 0, .slice none 0 0, .slice none 0 0, .slice none 0 0, .int .i64 0, .int .i64 0] 29)
    simpa only [World.size_alloc] using q
  have zW : W.heap.size = w.heap.size + 2 := by rw [hW]; simp
  obtain ⟨i0, hi0, hx0, hx1, hx2⟩ := info_parts Try.infoPrepared
  obtain ⟨F0, F2, F3, F4, h0, h2, h3, h4, f0, f2, f3, f4, d02, d03, d04, d23, d24, d34⟩ := RSink.own_iff ho
  have h3k := h3
  obtain ⟨a3', n3', c3', cs, G, hcs, hL⟩ := h3k
  simp only [List.cons.injEq, Value.slice.injEq, and_true] at hcs
  obtain ⟨rfl, rfl, rfl⟩ := hcs
  have hb2 : ((n2 : Int) == 0) = false := beq_eq_false_iff_ne.2 (by omega)
  have hb4 : ((n3 : Int) == 4) = false := beq_eq_false_iff_ne.2 (by omega)
  have hb5 : ¬ (1000 : Int) < la + (n3 : Int) + 1 := by omega
  have hw1 : IntKind.i64.wrap (la + (n3 : Int)) = la + (n3 : Int) := IntWalk.i64_in _ (by omega)
  have hw2 : IntKind.i64.wrap (la + (n3 : Int) + 1) = la + (n3 : Int) + 1 := IntWalk.i64_in _ (by omega)
  have HL := Hid.mk hL
  have HLB := Hid.mk (owns_below hL.outer B0)
  have H2 := Hid.mk h2
  have HN : Hid (∀ Z : World, Z = W.alloc (.cells #[.int .i64 (la + (n3 : Int) + 1), .int .i64 t, .slice a2 n2 c2] 64) → Z.cell? ⟨W.heap.size, 0, none⟩ = some (.int .i64 (la + (n3 : Int) + 1)) ∧ Z.cell? ⟨W.heap.size, 1, none⟩ = some (.int .i64 t) ∧ Z.cell? ⟨W.heap.size, 2, none⟩ = some (.slice a2 n2 c2)) := Hid.mk (fun Z hZ => by rw [hZ]; simp)
  have p0 := blk_cell b0 0 (v := .slice a0 n0 c0) rfl
  have p1 := blk_cell b0 1 (v := .int .i64 t) rfl
  have p2 := blk_cell b0 2 (v := .slice a2 n2 c2) rfl
  have p3 := blk_cell b0 3 (v := .slice a3 n3 c3) rfl
  have p4 := blk_cell b0 4 (v := .slice a4 n4 c4) rfl
  have p5 := blk_cell b0 5 (v := .int .i64 la) rfl
  have p6 := blk_cell b0 6 (v := .int .i64 up) rfl
  have HB0 := Hid.mk b0
  clear hL h2 h3
  have hzz : w.heap.size + 2 = W.heap.size := by omega
  have HZZ := Hid.mk hzz
  have zWa : w.heap.size + 2 ≤ W.heap.size := by omega
  have zWb : W.heap.size ≤ w.heap.size + 2 := by omega
  clear hzz zW
  go_enter Try.func42, Try.ntmps42
  go_upto_region 1 with fail
  rw [← hW]
  clear hW
  go_upto_region 4 with fail
  have hq := HN.out _ rfl
  have bA : Below W.heap.size W (W.alloc (.cells #[.int .i64 (la + (n3 : Int) + 1), .int .i64 t, .slice a2 n2 c2] 64)) := (Below.refl _ _).alloc (Nat.le_refl _) _
  go_wp2_with (at_builtin; refine wpList_app_vals rfl (.tmp 28) (.tmp 35) 27 rfl 0 64 i0 (.agg #[.int .i64 0, .int .i64 0, .slice none 0 0]) 3 40 Try.underlying27 hi0 hx0 hx1 hx2 rfl (by decide) (.slice a3 n3 c3) n3 cs rfl (owns_below HLB.out bA) (some ⟨W.heap.size, 0, none⟩) 1 1 [.int .i64 (la + (n3 : Int) + 1), .int .i64 t, .slice a2 n2 c2] rfl rfl (fun ad he => by cases he; intro j u hu; match j, hu with | 0, hu => (obtain rfl := Option.some.inj hu; exact hq.1) | 1, hu => (obtain rfl := Option.some.inj hu; exact hq.2.1) | 2, hu => (obtain rfl := Option.some.inj hu; exact hq.2.2)) (by intro u hu; simp at hu; rcases hu with rfl | rfl | rfl <;> rfl) (fun h => by cases h) (by unfold maxLen; omega) (by omega) (Nat.zero_le _) ?_)
  intro r d w2 ho2 hg2 ht2
  have zZ : (W.alloc (.cells #[.int .i64 (la + (n3 : Int) + 1), .int .i64 t, .slice a2 n2 c2] 64)).heap.size = W.heap.size + 1 := by simp
  obtain ⟨Z, hZ⟩ : ∃ Z, W.alloc (.cells #[.int .i64 (la + (n3 : Int) + 1), .int .i64 t, .slice a2 n2 c2] 64) = Z := ⟨_, rfl⟩
  rw [hZ] at hg2 bA zZ
  have hold : ∀ k, k < Z.heap.size → (Value.slice a3 n3 c3).ownBlock ≠ some k → w2.heap[k]? = Z.heap[k]? := fun k hk hn => hg2.block k hk (fun e => hn e.symm)
  have hnF : ∀ k, w.heap.size ≤ k → (Value.slice a3 n3 c3).ownBlock ≠ some k := fun k hk e => by have := hF k (f3 k (HL.out.outerF k e)); omega
  have z2 := hg2.size
  have k0 := (hold w.heap.size (by omega) (hnF _ (by omega))).trans (blk_below HB0.out bA)
  have k1 := (hold (w.heap.size + 1) (by omega) (hnF _ (by omega))).trans (blk_below b1 bA)
  have hout : ∀ b, (Value.slice r (n3 + 1) d).ownBlock = some b → F3 b ∨ (w.heap.size + 3 ≤ b ∧ b < w2.heap.size) := fun b hb => by
    have hlt := (ho2.lt b hb).2
    rcases ht2 with q | q
    · rw [q] at hb; exact .inl (HL.out.outerF b hb)
    · rw [q] at hb
      have h2 := Option.some.inj hb
      exact .inr ⟨by omega, hlt⟩
  have hwh : ∀ b, b < w.heap.size → (Value.slice a3 n3 c3).ownBlock ≠ some b → w2.heap[b]? = w.heap[b]? := fun b hb hn => (hold b (by omega) hn).trans ((bA.block b (by omega)).trans (B0.block b hb))
  have HLD : Hid (Laid RPrepared w2 (fun b => (F3 b ∨ F2 b) ∨ (w.heap.size + 3 ≤ b ∧ b < w2.heap.size)) 64 r (n3 + 1) d (ps ++ [(la + (n3 : Int) + 1, t, pd)]) (cs ++ [.int .i64 (la + (n3 : Int) + 1), .int .i64 t, .slice a2 n2 c2]) (fun i => if i = n3 then F2 else G i) (n3 + 1)) := Hid.mk
    (laid_pushAt HL.out (fun b h => hF b (f3 b h)) (RPrepared.own_mk (RInts.frame H2.out (fun b h hl => hwh b hl (fun e => d23 b h (HL.out.outerF b e)))) (fun _ h => h)) (fun b h => ⟨fun e => d23 b h e, hF b (f2 b h)⟩) hwh ho2
      (ht2.imp id (fun q b e => by rw [q] at e; have := Option.some.inj e; omega)) (by omega) (fun b h => .inl (.inl h)) (fun b h => .inl (.inr h)) (fun b e => (hout b e).imp .inl id))
  have HLN : Hid (∀ b, ((F3 b ∨ F2 b) ∨ (w.heap.size + 3 ≤ b ∧ b < w2.heap.size)) → ¬ (b = w.heap.size ∨ b = w.heap.size + 1)) := Hid.mk (fun b h e => by
    rcases h with (h | h) | h
    · have := hF b (f3 b h); rcases e with e | e <;> omega
    · have := hF b (f2 b h); rcases e with e | e <;> omega
    · rcases e with e | e <;> omega)
  have HO : Off (fun b => F3 b ∨ w.heap.size ≤ b) w w2 := (Off.below (B0.trans (bA.mono B0.size))).trans (Off.grown hg2 (fun k hk => .inl (HL.out.outerF k hk)))
  clear ho2 hg2 ht2 hold hnF hwh hout p0 p1 p2 p3 p4 p5 p6 bA zZ hq
  obtain ⟨X2, hX2⟩ : ∃ u, u = w2.setCell ⟨w.heap.size, 3, none⟩ (.slice r (n3 + 1) d) := ⟨_, rfl⟩
  have e0 : X2.heap[w.heap.size]? = some (.cells #[.slice a0 n0 c0, .int .i64 t, .slice a2 n2 c2, .slice r (n3 + 1) d, .slice a4 n4 c4, .int .i64 la, .int .i64 up] 29 (0, 0)) := by rw [hX2]; exact blk_set k0 3 _
  have e1 : X2.heap[w.heap.size + 1]? = some (.cells #[.slice none 0 0, .int .i64 0, .slice none 0 0, .slice none 0 0, .slice none 0 0, .int .i64 0, .int .i64 0] 29 (0, 0)) := by rw [hX2]; exact blk_other k1 (by simp) _
  have hS : Off (fun b => b = w.heap.size) w2 X2 := by rw [hX2]; exact Off.set (F := fun b => b = w.heap.size) (a := ⟨w.heap.size, 3, none⟩) rfl _
  have q3 := blk_cell k0 3 (v := .slice a3 n3 c3) rfl
  have g3 := blk_frozen k0 3
  go_upto_region 5 with fail
  rw [← hX2]
  clear hX2 q3 g3 k0 k1
  obtain ⟨X3, hX3⟩ : ∃ u, u = X2.setCell ⟨w.heap.size, 2, none⟩ (.slice none 0 0) := ⟨_, rfl⟩
  have k0 : X3.heap[w.heap.size]? = some (.cells #[.slice a0 n0 c0, .int .i64 t, .slice none 0 0, .slice r (n3 + 1) d, .slice a4 n4 c4, .int .i64 la, .int .i64 up] 29 (0, 0)) := by rw [hX3]; exact blk_set e0 2 _
  have k1 : X3.heap[w.heap.size + 1]? = some (.cells #[.slice none 0 0, .int .i64 0, .slice none 0 0, .slice none 0 0, .slice none 0 0, .int .i64 0, .int .i64 0] 29 (0, 0)) := by rw [hX3]; exact blk_other e1 (by simp) _
  have hS : Off (fun b => b = w.heap.size) w2 X3 := hS.trans (by rw [hX3]; exact Off.set (F := fun b => b = w.heap.size) (a := ⟨w.heap.size, 2, none⟩) rfl _)
  have q2 := blk_cell e0 2 (v := .slice a2 n2 c2) rfl
  have g2 := blk_frozen e0 2
  go_upto_region 6 with fail
  rw [← hX3]
  clear hX3 q2 g2 e0 e1
  have z4 := hS.size
  have HON := Hid.mk hS
  have HLD := Hid.mk (HLD.out.frame (fun b k hb => hS.block b hb (fun e => HLN.out b k (.inl e))))
  have HO := Hid.mk (HO.trans (hS.mono (F' := fun b => F3 b ∨ w.heap.size ≤ b) (fun b h => .inr (by have h2 : b = w.heap.size := h; omega))))
  have h2 := H2.out
  have h3 : True := trivial
  have p0 := blk_cell k0 0 (v := .slice a0 n0 c0) rfl
  have p1 := blk_cell k0 1 (v := .int .i64 t) rfl
  have p2 := blk_cell k0 2 (v := .slice none 0 0) rfl
  have p3 := blk_cell k0 3 (v := .slice r (n3 + 1) d) rfl
  have p4 := blk_cell k0 4 (v := .slice a4 n4 c4) rfl
  have p5 := blk_cell k0 5 (v := .int .i64 la) rfl
  have p6 := blk_cell k0 6 (v := .int .i64 up) rfl
  have y0 := blk_cell k1 0 (v := .slice none 0 0) rfl
  have y1 := blk_cell k1 1 (v := .int .i64 0) rfl
  have y2 := blk_cell k1 2 (v := .slice none 0 0) rfl
  have y3 := blk_cell k1 3 (v := .slice none 0 0) rfl
  have y4 := blk_cell k1 4 (v := .slice none 0 0) rfl
  have y5 := blk_cell k1 5 (v := .int .i64 0) rfl
  have y6 := blk_cell k1 6 (v := .int .i64 0) rfl
  have fz0 := blk_frozen k1 0
  have fz1 := blk_frozen k1 1
  have fz2 := blk_frozen k1 2
  have fz3 := blk_frozen k1 3
  have fz4 := blk_frozen k1 4
  have fz5 := blk_frozen k1 5
  have fz6 := blk_frozen k1 6
  clear hS HL HLB HN HB0 h2 h3
  obtain ⟨Y, hY⟩ : ∃ u, u = stores X3 (w.heap.size + 1) 0 [.slice a0 n0 c0, .int .i64 t, .slice none 0 0, .slice r (n3 + 1) d, .slice a4 n4 c4, .int .i64 la, .int .i64 up] := ⟨_, rfl⟩
  have S : Off (fun b => b = w.heap.size + 1) X3 Y := by rw [hY]; exact stores_off (F := fun b => b = w.heap.size + 1) _ _ _ _ rfl
  have zY : Y.heap.size = X3.heap.size := by rw [hY]; exact stores_size _ _ _ _
  have HY2 := Hid.mk (HO.out.trans (S.mono (F' := fun b => F3 b ∨ w.heap.size ≤ b) (fun b h => .inr (by have h2 : b = w.heap.size + 1 := h; omega))))
  have R : Hid (KRet (.returned (.tuple #[.agg #[.slice a0 n0 c0, .int .i64 t, .slice none 0 0, .slice r (n3 + 1) d, .slice a4 n4 c4, .int .i64 la, .int .i64 up], .bool true])) w Y F true (src, t, [], ps ++ [(la + (n3 : Int) + 1, t, pd)], ou, la, up)) := Hid.mk
    ⟨a0, n0, c0, none, 0, 0, r, n3 + 1, d, a4, n4, c4, rfl, RSink.own_mk (F0 := F0) (F2 := fun _ => False) (F3 := fun b => (F3 b ∨ F2 b) ∨ (w.heap.size ≤ b ∧ b < Y.heap.size)) (F4 := F4)
      (RInts.ownOff h0 HY2.out (fun b k q => q.elim (d03 b k) (fun q => by have := hF b (f0 b k); omega)))
      (RInts.void _ _)
      ⟨r, n3 + 1, d, _, _, rfl, (HLD.out.frame (fun b k hb => (S.block b hb (fun e => HLN.out b k (.inr e))))).mono (fun b h => h.elim .inl (fun q => .inr ⟨by omega, by omega⟩))⟩
      (RInts.ownOff h4 HY2.out (fun b k q => q.elim (fun q => d34 b q k) (fun q => by have := hF b (f4 b k); omega)))
      (fun b h => .inl (f0 b h)) (fun _ h => h.elim) (fun b h => h.elim (fun h => .inl (h.elim (f3 b) (f2 b))) .inr) (fun b h => .inl (f4 b h)) (fun _ _ h => h.elim) (fun b h k => k.elim (fun k => k.elim (d03 b h) (d02 b h)) (fun k => by have := hF b (f0 b h); omega)) d04 (fun _ h => h.elim) (fun _ h => h.elim) (fun b h k => h.elim (fun h => h.elim (fun h => d34 b h k) (fun h => d24 b h k)) (fun h => by have := hF b (f4 b k); omega)),
      Off.cut (HY2.out.mono (fun b h => h.elim (fun h => .inl (f3 b h)) .inr))⟩
  have HY := Hid.mk hY
  clear S hY zY HO HON k0 k1
  go_wp2
  refine bodyPost_ret (v := .tuple #[.agg #[.slice a0 n0 c0, .int .i64 t, .slice none 0 0, .slice r (n3 + 1) d, .slice a4 n4 c4, .int .i64 la, .int .i64 up], .bool true]) (by simp [results, Try.results42, go_sem, y0, y1, y2, y3, y4, y5, y6]) rfl ?_
  have h := R.out
  rw [HY.out] at h
  exact h

end Go.Proofs.Ytmbjmmnodcebbaa

/- Plain: draining a sink. -/
namespace Go.Proofs.Ytmbjmmnodcebbaa
open Go.RowKit

def rdK (x : TSink) : TSink × Bool := if x.2.1 = x.1.length then (x, false) else ((x.1, x.2.1 + 1, x.2.2.1 ++ [x.1.getD x.2.1.toNat 0], x.2.2.2.1, x.2.2.2.2.1, x.2.2.2.2.2.1, x.2.2.2.2.2.2), true)
def PR (x : TSink) : Prop := x.1.length ≤ 30 ∧ 0 ≤ x.2.1 ∧ x.2.1 ≤ x.1.length ∧ x.2.2.1.length + (x.1.length - x.2.1.toNat) ≤ 30
def muR (x : TSink) : Nat := x.1.length - x.2.1.toNat
theorem rdK_step (x : TSink) (hp : PR x) (h : (rdK x).2 = true) : PR (rdK x).1 ∧ muR (rdK x).1 + 1 = muR x := by
  obtain ⟨src, t, pd, ps, ou, la, up⟩ := x
  obtain ⟨h1, h2, h3, h4⟩ := hp
  simp only at h1 h2 h3 h4
  unfold rdK at h ⊢
  simp only at h ⊢
  by_cases e : t = src.length
  · rw [if_pos e] at h; cases h
  · rw [if_neg e]
    refine ⟨⟨h1, ?_, ?_, ?_⟩, ?_⟩
    · show 0 ≤ t + 1; omega
    · show t + 1 ≤ src.length; omega
    · show (pd ++ [src.getD t.toNat 0]).length + (src.length - (t + 1).toNat) ≤ 30
      rw [List.length_append]; simp only [List.length_cons, List.length_nil]; omega
    · show src.length - (t + 1).toNat + 1 = src.length - t.toNat
      omega
theorem read_step : StepK 41 rdK PR := by
  intro F a0 n0 c0 a2 n2 c2 a3 n3 c3 a4 n4 c4 t la up src pd ps ou w hp hF ho
  obtain ⟨h1, h2, h3, h4⟩ := hp
  simp only at h1 h2 h3 h4
  have hl0 := (RSink.lens ho).1
  have hl2 := (RSink.lens ho).2.2.1
  unfold rdK
  simp only
  by_cases e : t = src.length
  · rw [if_pos e]
    refine (read_no F a0 n0 c0 a2 n2 c2 a3 n3 c3 a4 n4 c4 t la up src pd ps ou w (by omega) ho).mono ?_
    rintro e w' ⟨h, hb⟩
    exact ⟨h, fun _ => hb⟩
  · rw [if_neg e]
    obtain ⟨T, rfl⟩ : ∃ T : Nat, t = T := ⟨t.toNat, by omega⟩
    obtain ⟨x, hx⟩ : ∃ x, src[T]? = some x := ⟨_, List.getElem?_eq_getElem (by omega)⟩
    have hg : src.getD (T : Int).toNat 0 = x := by
      rw [Int.toNat_natCast]; simp [List.getD, hx]
    rw [hg]
    refine (read_yes F a0 n0 c0 a2 n2 c2 a3 n3 c3 a4 n4 c4 T la up src pd ps ou x w hF hx (by omega) (by omega) ho).mono ?_
    intro e w' h
    exact ⟨h, fun h => by cases h⟩
def prK (x : TSink) : TSink × Bool := if x.2.2.1.length = 0 ∨ x.2.2.2.1.length = 4 ∨ 1000 < x.2.2.2.2.2.1 + (x.2.2.2.1.length : Int) + 1 then (x, false) else ((x.1, x.2.1, [], x.2.2.2.1 ++ [(x.2.2.2.2.2.1 + (x.2.2.2.1.length : Int) + 1, x.2.1, x.2.2.1)], x.2.2.2.2.1, x.2.2.2.2.2.1, x.2.2.2.2.2.2), true)
theorem prepare_any (F : Nat → Prop) (a0 : Option Addr) (n0 c0 : Nat) (a2 : Option Addr) (n2 c2 : Nat) (a3 : Option Addr) (n3 c3 : Nat) (a4 : Option Addr) (n4 c4 : Nat) (t la up : Int) (src pd : List Int) (ps : List TPrepared) (ou : List Int) (w : World) (hF : ∀ b, F b → b < w.heap.size) (h34 : n3 ≤ 4) (hl0 : 0 ≤ la) (hl1 : la ≤ 1000)
    (ho : RSink.Own w F [.slice a0 n0 c0, .int .i64 t, .slice a2 n2 c2, .slice a3 n3 c3, .slice a4 n4 c4, .int .i64 la, .int .i64 up] (src, t, pd, ps, ou, la, up)) :
    Calls Try.prog 42 #[.agg #[.slice a0 n0 c0, .int .i64 t, .slice a2 n2 c2, .slice a3 n3 c3, .slice a4 n4 c4, .int .i64 la, .int .i64 up]] w fun e w' => KRet e w w' F (prK (src, t, pd, ps, ou, la, up)).2 (prK (src, t, pd, ps, ou, la, up)).1 := by
  have hp2 := (RSink.lens ho).2.2.1
  have hp3 := (RSink.lens ho).2.2.2.2.1
  unfold prK
  simp only
  rw [hp2, hp3]
  by_cases h : n2 = 0 ∨ n3 = 4 ∨ 1000 < la + (n3 : Int) + 1
  · rw [if_pos h]
    exact (prepare_no F a0 n0 c0 a2 n2 c2 a3 n3 c3 a4 n4 c4 t la up src pd ps ou w h h34 hl0 hl1 ho).mono (fun e w' h => h.1)
  · rw [if_neg h]
    exact prepare_yes F a0 n0 c0 a2 n2 c2 a3 n3 c3 a4 n4 c4 t la up src pd ps ou w hF (by omega) (by omega) hl0 (by omega) ho

/-- Bounds while all is given out. -/
def PD (x : TSink) : Prop := x.2.2.2.1.length ≤ 4 ∧ (∀ p ∈ x.2.2.2.1, p.2.2.length ≤ 30) ∧ x.2.2.2.2.1.length + 30 * x.2.2.2.1.length ≤ 300
theorem cmD_step (x : TSink) (hp : PD x) (h : (cmK x).2 = true) : PD (cmK x).1 ∧ muK (cmK x).1 + 1 = muK x := by
  obtain ⟨src, t, pd, ps, ou, la, up⟩ := x
  cases ps with
  | nil => cases h
  | cons p ps =>
    obtain ⟨h1, h2, h3⟩ := hp
    have hr := h2 p (by simp)
    simp only [List.length_cons] at h1 h3
    refine ⟨⟨?_, fun q hq => h2 q (List.mem_cons_of_mem _ hq), ?_⟩, ?_⟩
    · show ps.length ≤ 4; omega
    · show (ou ++ p.2.2).length + 30 * ps.length ≤ 300
      rw [List.length_append]; omega
    · show ps.length + 1 = (p :: ps).length
      simp
theorem commit_stepD : StepK 40 cmK PD := by
  intro F a0 n0 c0 a2 n2 c2 a3 n3 c3 a4 n4 c4 t la up src pd ps ou w hp hF ho
  cases ps with
  | nil =>
    obtain rfl : 0 = n3 := (RSink.lens ho).2.2.2.2.1
    refine (commit_no F a0 n0 c0 a2 n2 c2 a3 c3 a4 n4 c4 t la up src pd ou w ho).mono ?_
    rintro e w' ⟨h, hb⟩
    exact ⟨h, fun _ => hb⟩
  | cons p ps =>
    obtain ⟨no, ut, rw0⟩ := p
    obtain ⟨h1, h2, h3⟩ := hp
    simp only [List.length_cons] at h1 h3
    have hl := (RSink.lens ho).2.2.2.2.1
    have hl4 := (RSink.lens ho).2.2.2.2.2.2.1
    obtain ⟨_, _, F3, _, _, _, ⟨a, n, c, cells, G, hcs, hL⟩, _⟩ := RSink.own_iff ho
    simp only [List.cons.injEq, Value.slice.injEq, and_true] at hcs
    obtain ⟨rfl, rfl, rfl⟩ := hcs
    obtain ⟨g, rfl⟩ : ∃ g, a3 = some ⟨g, 0, none⟩ := by
      rcases hL.outer.2 with ⟨_, h0⟩ | ⟨g, cap, cur, hv, _⟩
      · rw [← hl] at h0; simp at h0
      · simp only [Value.slice.injEq, true_and] at hv
        exact ⟨g, hv.1⟩
    obtain rfl : ps.length + 1 = n3 := by simpa using hl
    have hrw := h2 (no, ut, rw0) (by simp)
    simp only at hrw
    refine (commit_yes F a0 n0 c0 a2 n2 c2 g ps.length c3 a4 n4 c4 t la up src pd no ut rw0 ps ou w hF (by omega) (by omega) (by omega) ho).mono ?_
    intro e w' h
    exact ⟨h, fun h => by cases h⟩

/-- The steps of draining. -/
def dr1 (x : TSink) : TSink := if x.2.2.2.1.length = 4 then (itK cmK (muK x) x).1 else x
def dr2 (x : TSink) : TSink := (itK rdK (muR x) x).1
def dr3 (x : TSink) : TSink := (prK x).1
def dr4 (x : TSink) : TSink := (itK cmK (muK x) x).1
def drX (x : TSink) : TSink := if gkB x then dr4 (dr3 (dr2 (dr1 x))) else newK []
def drN (x : TSink) : Int := if gkB x then ((dr4 (dr3 (dr2 (dr1 x)))).2.2.2.2.1.length : Int) - x.2.2.2.2.1.length else 0

end Go.Proofs.Ytmbjmmnodcebbaa

/- Plain: bounds while a sink is drained. -/
namespace Go.Proofs.Ytmbjmmnodcebbaa
open Go.RowKit

def DP (x : TSink) : Prop := PR x ∧ x.2.2.2.1.length ≤ 4 ∧ (∀ p ∈ x.2.2.2.1, p.2.2.length ≤ 30) ∧ x.2.2.2.2.1.length + 30 * x.2.2.2.1.length ≤ 150 ∧ 0 ≤ x.2.2.2.2.2.1 ∧ x.2.2.2.2.2.1 ≤ 1000
theorem noC_good {src : List Int} {t : Int} : ∀ {no u : Int} {ps : List TPrepared}, pgsB src t no u ps = true → noC no ps = no + ps.length
  | no, _, [], _ => by simp [noC]
  | no, u, p :: ps, h => by
    unfold pgsB pgB at h
    simp only [Bool.and_eq_true, decide_eq_true_eq] at h
    have ih := noC_good h.2
    show noC p.1 ps = _
    rw [h.1.1.1.1, ih, List.length_cons]
    push_cast
    omega
theorem gk_DP {src : List Int} {t : Int} {pd : List Int} {ps : List TPrepared} {ou : List Int} {la up : Int} (h : gkB (src, t, pd, ps, ou, la, up) = true) : DP (src, t, pd, ps, ou, la, up) := by
  have hk := gk_PK h
  obtain ⟨h1, h2, h3, h4, h5, h6, h7, h8, h9, h10, h11, h12⟩ := gk_parts h
  have hu := pgsB_up h10 h5
  have hl : pd.length = (t - upF up ps).toNat := by rw [h11, seg_len (by omega) hu.2 h3]
  refine ⟨⟨h1, h2, h3, ?_⟩, hk.1, hk.2.1, hk.2.2, h6, h7⟩
  show pd.length + (src.length - t.toNat) ≤ 30
  omega
theorem dr1_DP {src : List Int} {t : Int} {pd : List Int} {ps : List TPrepared} {ou : List Int} {la up : Int} (h : gkB (src, t, pd, ps, ou, la, up) = true) : DP (dr1 (src, t, pd, ps, ou, la, up)) := by
  have hd := gk_DP h
  unfold dr1
  by_cases h4 : ps.length = 4
  · rw [if_pos h4]
    have q : itK cmK (muK (src, t, pd, ps, ou, la, up)) (src, t, pd, ps, ou, la, up) = ((src, t, pd, [], ouC ou ps, noC la ps, upF up ps), ps.length) := itK_all src t pd ps ou la up
    rw [q]
    obtain ⟨hp, _, hr, hb, _, _⟩ := hd
    simp only at hr hb
    obtain ⟨_, _, _, _, _, h6, h7, _, h9, h10, _, _⟩ := gk_parts h
    have hn := noC_good h10
    refine ⟨hp, by simp, fun p hp => (by cases hp), ?_, ?_, ?_⟩
    · show (ouC ou ps).length + 30 * 0 ≤ 150
      have := ouC_len ps ou hr
      omega
    · show 0 ≤ noC la ps; omega
    · show noC la ps ≤ 1000; omega
  · rw [if_neg h4]; exact hd
theorem rd_keeps : ∀ (n : Nat) (x : TSink), PR x → PR (itK rdK n x).1 ∧ (itK rdK n x).1.2.2.2 = x.2.2.2
  | 0, _, h => ⟨h, rfl⟩
  | n + 1, x, h => by
    cases hr : (rdK x).2 with
    | false => rw [itK_no hr]; exact ⟨h, rfl⟩
    | true =>
      rw [itK_yes hr]
      have q := rd_keeps n (rdK x).1 (rdK_step x h hr).1
      refine ⟨q.1, q.2.trans ?_⟩
      unfold rdK at hr ⊢
      by_cases e : x.2.1 = x.1.length
      · rw [if_pos e]
      · rw [if_neg e]
theorem dr2_DP {y : TSink} (h : DP y) : DP (dr2 y) := by
  obtain ⟨h1, h2, h3, h4, h5, h6⟩ := h
  have q := rd_keeps (muR y) y h1
  unfold dr2
  have e := q.2
  refine ⟨q.1, ?_, ?_, ?_, ?_, ?_⟩ <;> rw [e] <;> assumption
theorem dr3_PD {y : TSink} (h : DP y) : PD (dr3 y) := by
  obtain ⟨h1, h2, h3, h4, h5, h6⟩ := h
  unfold dr3 prK
  by_cases e : y.2.2.1.length = 0 ∨ y.2.2.2.1.length = 4 ∨ 1000 < y.2.2.2.2.2.1 + (y.2.2.2.1.length : Int) + 1
  · rw [if_pos e]
    exact ⟨h2, h3, by show y.2.2.2.2.1.length + 30 * y.2.2.2.1.length ≤ 300; omega⟩
  · rw [if_neg e]
    have hpd : y.2.2.1.length ≤ 30 := by have := h1.2.2.2; omega
    refine ⟨?_, ?_, ?_⟩
    · simp only [List.length_append, List.length_cons, List.length_nil]; omega
    · intro p hp
      simp only [List.mem_append, List.mem_singleton] at hp
      rcases hp with hp | rfl
      · exact h3 p hp
      · exact hpd
    · simp only [List.length_append, List.length_cons, List.length_nil]; omega
theorem muR_le {y : TSink} (h : DP y) : muR y ≤ 1000 := by
  have := h.1.1
  unfold muR; omega
theorem DP_PD {y : TSink} (h : DP y) : PD y := ⟨h.2.1, h.2.2.1, by have := h.2.2.2.1; omega⟩
theorem dr4_PD {y : TSink} (h : PD y) : (dr4 y).2.2.2.2.1.length ≤ 300 ∧ (dr4 y).2.2.2.1 = [] ∧ (dr4 y).1 = y.1 ∧ (dr4 y).2.2.1 = y.2.2.1 := by
  obtain ⟨src, t, pd, ps, ou, la, up⟩ := y
  have q : itK cmK (muK (src, t, pd, ps, ou, la, up)) (src, t, pd, ps, ou, la, up) = ((src, t, pd, [], ouC ou ps, noC la ps, upF up ps), ps.length) := itK_all src t pd ps ou la up
  unfold dr4
  rw [q]
  have := ouC_len ps ou h.2.1
  have h3 : ou.length + 30 * ps.length ≤ 300 := h.2.2
  exact ⟨by simp only; omega, rfl, rfl, rfl⟩

end Go.Proofs.Ytmbjmmnodcebbaa

/- Rows of three cells as they lie in memory. -/
namespace Go.Proofs.Ytmbjmmnodcebbaa
open Go.RowKit

theorem row_cells {w : World} {b off : Nat} {R : Nat → List Value → Prop} : ∀ (n : Nat) (_ : ∀ i, i < n → ∃ vs, vs.length = 3 ∧ (∀ j v, vs[j]? = some v → w.cell? ⟨b, off + i * 3 + j, none⟩ = some v) ∧ (∀ u ∈ vs, u.oneCell' = true) ∧ R i vs),
    ∃ L : List Value, L.length = n * 3 ∧ (∀ j, j < n * 3 → w.cell? ⟨b, off + j, none⟩ = L[j]?) ∧ (∀ u ∈ L, u.oneCell' = true) ∧ ∀ i, i < n → R i (sub L (i * 3) 3)
  | 0, _ => ⟨[], rfl, fun j hj => by omega, fun u hu => (by cases hu), fun i hi => by omega⟩
  | n + 1, h => by
    obtain ⟨L, l1, l2, l3, l4⟩ := row_cells n (fun i hi => h i (by omega))
    obtain ⟨vs, v1, v2, v3, v4⟩ := h n (by omega)
    refine ⟨L ++ vs, by rw [List.length_append, l1, v1]; omega, fun j hj => ?_, fun u hu => ?_, fun i hi => ?_⟩
    · by_cases e : j < n * 3
      · rw [List.getElem?_append_left (by omega)]; exact l2 j e
      · obtain ⟨r, rfl⟩ : ∃ r, j = n * 3 + r := ⟨j - n * 3, by omega⟩
        rw [List.getElem?_append_right (by omega), l1, Nat.add_sub_cancel_left]
        obtain ⟨v, hv⟩ : ∃ v, vs[r]? = some v := ⟨_, List.getElem?_eq_getElem (by omega)⟩
        rw [hv, ← Nat.add_assoc]
        exact v2 r v hv
    · rcases List.mem_append.1 hu with q | q
      · exact l3 u q
      · exact v3 u q
    · by_cases e : i < n
      · have q : sub (L ++ vs) (i * 3) 3 = sub L (i * 3) 3 := by
          unfold sub
          rw [List.drop_append_of_le_length (by omega), List.take_append_of_le_length (by rw [List.length_drop]; omega)]
        rw [q]; exact l4 i e
      · obtain rfl : i = n := by omega
        have q : sub (L ++ vs) (i * 3) 3 = vs := by
          unfold sub
          rw [List.drop_left' l1, List.take_of_length_le (by omega)]
        rw [q]; exact v4

end Go.Proofs.Ytmbjmmnodcebbaa

/- Contract of slices.Clone at ints. -/
namespace Go.Proofs.Ytmbjmmnodcebbaa
open Go.RowKit

theorem own_void (w : World) (e : TypeId) (size : Nat) : (w.alloc (.cells #[] e)).ownsRow w.heap.size e size (.slice (some ⟨w.heap.size, 0, none⟩) 0 0) 0 [] :=
  ⟨by simp, .inr ⟨w.heap.size, 0, #[], rfl, Nat.le_refl _, heap_alloc_new w _, by simp, by simp, by simp, by simp⟩⟩
theorem eqNilI (a : Option Addr) (n c : Nat) (w : World) : (binOp .eql 22 (.slice a n c) (.slice none 0 0)).run Try.prog w = .ok (.bool a.isNone) w := by
  have he : (Op.equalIn (9999 + 1) 22 (.slice a n c) (.slice none 0 0)).run Try.prog w = .ok a.isNone w := by
    unfold Op.equalIn
    simp only [Sem.run_bind, run_underlying Try.underlying22, Result.andThen_ok]
    cases a <;> rfl
  have he' : (Op.equal 22 (.slice a n c) (.slice none 0 0)).run Try.prog w = .ok a.isNone w := he
  simp only [binOp]
  rw [Sem.run_bind, he']
  rfl

set_option maxHeartbeats 2000000 in
theorem cloneI_any (a : Option Addr) (n c : Nat) (zs : List Int) (w : World) (hz : zs.length = n) (hn : n ≤ 1048576) (hF : a = none → c = 0) (ha : At w a zs) :
    Calls Try.prog 52 #[.slice a n c] w fun e w' => ∃ r d, e = .returned (.slice r n d) ∧ w'.ownsRow w.heap.size 3 1 (.slice r n d) n (zs.map (.int .i64)) ∧ Below w.heap.size w w' := by
  obtain ⟨i0, hi, hz0, hz1, hz2⟩ := info_parts Try.infoInt
  cases a with
  | none =>
    have hc0 := hF rfl
    subst hc0
    have hM : zs = [] := by rcases ha with h | ⟨b, off, h, _⟩; exact h; cases h
    subst hM
    have hn0 : 0 = n := hz
    subst hn0
    have hq := fun w => eqNilI none 0 0 w
    go_enter Try.func52, Try.ntmps52
    go_wp2
    go_ret
    exact ⟨none, 0, rfl, World.ownsRow_nil _ _ _ _, Below.refl _ _⟩
  | some ad =>
    have OE := Hid.mk (own_void w 3 1)
    have HA := Hid.mk (ha.alloc (.cells #[] 3))
    have HZ := Hid.mk hz
    clear ha hF hz
    have hq := fun w => eqNilI (some ad) n c w
    go_enter Try.func52, Try.ntmps52
    go_wp2_with (at_builtin; refine wpList_append_all rfl (.tmp 5) (.tmp 6) 22 rfl w.heap.size 3 i0 (.int .i64 0) 8 Try.underlying22 hi hz0 hz1 hz2 rfl (.slice (some ⟨w.heap.size, 0, none⟩) 0 0) 0 [] rfl OE.out (some ad) n c zs rfl HZ.out HA.out (fun h => by cases h) (by unfold maxLen; omega) (by omega) (by simp) ?_)
    intro r1 d1 w1 ho1 hg1
    have HB : Hid (Below w.heap.size w w1) := ((Below.refl _ _).alloc (Nat.le_refl _) _).grown hg1 (by simp) (fun j hj => by simp [Value.ownBlock] at hj; omega)
    have HO : Hid (w1.ownsRow w.heap.size 3 1 (.slice r1 n d1) n (zs.map (.int .i64))) := Hid.mk (by simpa using ho1)
    clear ho1 hg1
    go_wp2
    go_ret
    exact ⟨r1, d1, by first | rfl | simp, HO.out, HB.out⟩

end Go.Proofs.Ytmbjmmnodcebbaa
