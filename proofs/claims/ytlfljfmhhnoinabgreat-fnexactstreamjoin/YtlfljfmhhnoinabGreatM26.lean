/- Several texts of one proof, in build order: NewT, AddT, SpecA, OfW, DDX, StrOf. -/
import Derived.Test.YtlfljfmhhnoinabGreatM25
import Derived.Test.YtlfljfmhhnoinabGreatM8
import Derived.Test.YtlfljfmhhnoinabGreatM7
import Derived.Test.YtlfljfmhhnoinabGreatM11
import Derived.Test.YtlfljfmhhnoinabGreatM15
import Derived.Test.YtlfljfmhhnoinabGreatM6
import Derived.Test.YtlfljfmhhnoinabGreatM3
import Derived.Test.YtlfljfmhhnoinabGreatM9
import Derived.Test.YtlfljfmhhnoinabGreatM22
import Derived.Test.YtlfljfmhhnoinabGreatM17
import Derived.Test.YtlfljfmhhnoinabGreatM12
import Derived.Maps.OwnIn

/- Contracts of impl.NewTable, impl.AddTables, impl.ScaleTable, impl.NegateTable, impl.EmptyTable. -/
namespace Go.Proofs.YtlfljfmhhnoinabGreat
open Go.RowKit Go.Maps

end Go.Proofs.YtlfljfmhhnoinabGreat

/- Contracts of impl.goodAlike, impl.AddTables, impl.ScaleTable, impl.NegateTable, impl.EmptyTable. -/
namespace Go.Proofs.YtlfljfmhhnoinabGreat
open Go.RowKit Go.Maps

end Go.Proofs.YtlfljfmhhnoinabGreat

/- Contracts of spec.l2Add and spec.l2Scale. -/
namespace Go.Proofs.YtlfljfmhhnoinabGreat
open Go.RowKit

end Go.Proofs.YtlfljfmhhnoinabGreat

/- Contract of spec.l2Of, and what sums of a table's own rows are. -/
namespace Go.Proofs.YtlfljfmhhnoinabGreat
open Go.RowKit Go.Maps

end Go.Proofs.YtlfljfmhhnoinabGreat

/- Contracts of impl.DistinctDelta and spec.DistinctDelta. -/
namespace Go.Proofs.YtlfljfmhhnoinabGreat
open Go.RowKit Go.Maps

/-- A map that tells a list, told as a table. -/
theorem cnt_table (b q M : Nat) (xs : List WRow) (w : World) (hx : Cnt w b q M xs) (hM : M ≤ 1000000) (h6 : q ≤ 6) :
    Calls Tryz.prog 51 #[.map (some b), .int .i64 q] w fun e w' => TabRet e w' w.heap.size (goodT q xs) (tellP q xs) (tellT q xs) ∧ Below w.heap.size w w' := by
  obtain ⟨cnt, D, f, S, hown, hm, hS, hT, hcM⟩ := hx
  refine (table_any b cnt D f S q w (by omega) h6 hown hm hS).mono ?_
  rintro e w' ⟨us, h1, h2, h3⟩
  rw [← h2.unique hT]
  exact ⟨h1, h3⟩

end Go.Proofs.YtlfljfmhhnoinabGreat

/- Contract of impl.streamOf: whatever function hands out the maps. -/
namespace Go.Proofs.YtlfljfmhhnoinabGreat
open Go.RowKit Go.Shelf Go.Maps

/-- What the range's body finds: the columns, the result's two variables, the stream so far. -/
structure Strm (w : World) (q : Nat) (xss : List (List WRow)) (k : Nat) (W : World) : Prop where
  col : W.heap[w.heap.size]? = some (.cells #[.int .i64 q] 3 (0, 0))
  res : W.heap[w.heap.size + 1]? = some (.cells #[.int .i64 0, .slice none 0 0] 30 (0, 0))
  flag : W.heap[w.heap.size + 1 + 1]? = some (.cells #[.bool false] 4 (0, 0))
  var : ∃ r d cells L H, W.heap[w.heap.size + 1 + 1 + 1]? = some (.cells #[.int .i64 q, .slice r k d] 30 (0, 0)) ∧ OwnUk W (w.heap.size + 6) W.heap.size r k d (tabsOf q xss k) cells L H k
  good : ∀ j, j < k → goodT q (lat xss j) = true
  low : Below w.heap.size w W
  size : w.heap.size + 4 ≤ W.heap.size
/-- What is left behind where a table is refused. -/
structure StrmX (w : World) (q : Nat) (xss : List (List WRow)) (k : Nat) (W : World) : Prop where
  res : W.heap[w.heap.size + 1]? = some (.cells #[.int .i64 0, .slice none 0 0] 30 (0, 0))
  flag : W.heap[w.heap.size + 1 + 1]? = some (.cells #[.bool false] 4 (0, 0))
  bad : goodT q (lat xss k) = false
  low : Below w.heap.size w W
  size : w.heap.size + 4 ≤ W.heap.size
section
variable {w A B : World} {q : Nat} {xss : List (List WRow)} {k : Nat}
theorem Strm.keep (h : Strm w q xss k A) (hb : Below A.heap.size A B) : Strm w q xss k B := by
  have z := h.size
  obtain ⟨r, d, cells, L, H, h1, h2⟩ := h.var
  exact ⟨(hb.block _ (by omega)).trans h.col, (hb.block _ (by omega)).trans h.res, (hb.block _ (by omega)).trans h.flag, ⟨r, d, cells, L, H, (hb.block _ (by omega)).trans h1, (h2.below hb).widen (Nat.le_refl _) hb.size (Nat.le_refl _)⟩, h.good, h.low.trans (hb.mono h.low.size), Nat.le_trans z hb.size⟩
theorem StrmX.keep (h : StrmX w q xss k A) (hb : Below A.heap.size A B) : StrmX w q xss k B := by
  have z := h.size
  exact ⟨(hb.block _ (by omega)).trans h.res, (hb.block _ (by omega)).trans h.flag, h.bad, h.low.trans (hb.mono h.low.size), Nat.le_trans z hb.size⟩
theorem Strm.turn (h : Strm w q xss k A) (hT : Turned (w.heap.size + 4 + 1) A B) : Strm w q xss k B := by
  have z := h.size
  have zs := hT.size
  have hk : ∀ j, j < A.heap.size → j ≠ w.heap.size + 4 + 1 → B.heap[j]? = A.heap[j]? := fun j hj hne => hT.grown.block j hj (fun e => hne (by simpa using e))
  obtain ⟨r, d, cells, L, H, h1, h2⟩ := h.var
  exact ⟨(hk _ (by omega) (by omega)).trans h.col, (hk _ (by omega) (by omega)).trans h.res, (hk _ (by omega) (by omega)).trans h.flag, ⟨r, d, cells, L, H, (hk _ (by omega) (by omega)).trans h1, by rw [zs]; exact h2.kept hT.grown (fun j hj => by simp at hj; omega)⟩, h.good, h.low.trans (hT.below (by omega)), by omega⟩
theorem StrmX.turn (h : StrmX w q xss k A) (hT : Turned (w.heap.size + 4 + 1) A B) : StrmX w q xss k B := by
  have z := h.size
  have zs := hT.size
  have hk : ∀ j, j < A.heap.size → j ≠ w.heap.size + 4 + 1 → B.heap[j]? = A.heap[j]? := fun j hj hne => hT.grown.block j hj (fun e => hne (by simpa using e))
  exact ⟨(hk _ (by omega) (by omega)).trans h.res, (hk _ (by omega) (by omega)).trans h.flag, h.bad, h.low.trans (hT.below (by omega)), by omega⟩
end

attribute [local go_sem] Oper.semAt_some in
set_option maxRecDepth 100000 in
set_option maxHeartbeats 8000000 in
theorem streamOf_any (gf : Nat) (lb : Array Value) (q M : Nat) (xss : List (List WRow)) (w : World) (eg : ∀ args w, (callFunc gf args).run Tryz.prog w = .ok (.enter gf args) w) (hH : HandsM Tryz.prog gf lb q M xss w) (hM : M ≤ 1000000) (h6 : q ≤ 6) (hn : xss.length ≤ 12) :
    Calls Tryz.prog 27 #[.func (.func gf) #[] lb, .int .i64 q] w fun e w' => StrAns e w' w.heap.size (allG q xss) q (tabsOf q xss xss.length) ∧ Below w.heap.size w w' := by
  obtain ⟨i0, hi, hz0, hz1, hz2⟩ := info_parts Tryz.infoT
  refine (callsIn_wide (n := 0)).1 ?_
  refine callsIn_of_wp_marks Tryz.func27 rfl trivial ?_
  simp only [Tryz.ntmps27, List.size_toArray, List.length_cons, List.length_nil, Nat.reduceAdd, Nat.reduceSub, Array.replicate_succ, Array.replicate_zero, List.push_toArray, List.append_toArray, List.nil_append, List.cons_append]
  gi_wp2
  obtain ⟨W0, hW0⟩ : ∃ W0, W0 = (((w.alloc (.cells #[.int .i64 q] 3)).alloc (.cells #[.int .i64 0, .slice none 0 0] 30)).alloc (.cells #[.bool false] 4)).alloc (.cells #[.int .i64 q, .slice none 0 0] 30) := ⟨_, rfl⟩
  rw [← hW0]
  have z0 : W0.heap.size = w.heap.size + 4 := by rw [hW0]; simp
  have B0 : Below w.heap.size w W0 := by rw [hW0]; exact ((((Below.refl _ _).alloc (Nat.le_refl _) _).alloc (by simp) _).alloc (by simp <;> omega) _).alloc (by simp <;> omega) _
  have I0 : Strm w q xss 0 W0 := by
    refine ⟨?_, ?_, ?_, ⟨none, 0, [], fun _ => 0, fun _ => 0, ?_, ?_⟩, fun j hj => by omega, B0, by omega⟩
    · rw [hW0]; exact (Below.heap_alloc _ _ _ (by simp <;> omega)).trans ((Below.heap_alloc _ _ _ (by simp <;> omega)).trans ((Below.heap_alloc _ _ _ (by simp)).trans (heap_alloc_new w _)))
    · rw [hW0]; have := heap_alloc_new (w.alloc (.cells #[.int .i64 q] 3)) (.cells #[.int .i64 0, .slice none 0 0] 30); rw [World.size_alloc] at this; exact (Below.heap_alloc _ _ _ (by simp <;> omega)).trans ((Below.heap_alloc _ _ _ (by simp)).trans this)
    · rw [hW0]; have := heap_alloc_new ((w.alloc (.cells #[.int .i64 q] 3)).alloc (.cells #[.int .i64 0, .slice none 0 0] 30)) (.cells #[.bool false] 4); rw [World.size_alloc, World.size_alloc] at this; exact (Below.heap_alloc _ _ _ (by simp)).trans this
    · rw [hW0]; have := heap_alloc_new (((w.alloc (.cells #[.int .i64 q] 3)).alloc (.cells #[.int .i64 0, .slice none 0 0] 30)).alloc (.cells #[.bool false] 4)) (.cells #[.int .i64 q, .slice none 0 0] 30); rwa [World.size_alloc, World.size_alloc, World.size_alloc] at this
    · exact OwnUk.start rfl (Nat.le_refl _) (World.ownsRow_nil _ _ _ _) (fun b hb => by cases hb)
  clear hW0
  refine range_handsM (gf := gf) (lb := lb) rfl eg hH B0 w.heap.size (Nat.le_refl _) (by omega) (Strm w q xss) (StrmX w q xss) (fun k A B hb h => h.keep hb) (fun k A B hb h => h.keep hb) (fun k A B hT h => h.turn (by rw [← z0]; exact hT)) (fun k A B hT h => h.turn (by rw [← z0]; exact hT)) I0 ?round ?done ?leave
  case round =>
    intro k W1 b hk hI hsz hrec hcn
    gi_wp2
    refine ⟨Below.refl _ _, fun W3 hT hr3 => ?_⟩
    have hT' : Turned (w.heap.size + 4 + 1) W1 W3 := by rw [← z0]; exact hT
    have hI3 := hI.turn hT'
    have hc3 := hcn.turned hT
    have z3 := hI3.size
    have zT : w.heap.size + 4 + 1 < W3.heap.size := by have := hT.size; omega
    obtain ⟨r, d, cells, L, H, hvar, hou⟩ := hI3.var
    have c0 : W3.cell? ⟨w.heap.size, 0, none⟩ = some (.int .i64 q) := by rw [cell_of_row W3 _ 0 _ _ (0, 0) hI3.col]; rfl
    have e0 : W3.cell? ⟨w.heap.size + 1, 0, none⟩ = some (.int .i64 0) := by rw [cell_of_row W3 _ 0 _ _ (0, 0) hI3.res]; rfl
    have e1 : W3.cell? ⟨w.heap.size + 1, 1, none⟩ = some (.slice none 0 0) := by rw [cell_of_row W3 _ 1 _ _ (0, 0) hI3.res]; rfl
    have f0 : W3.frozen? ⟨w.heap.size + 1, 0, none⟩ = false := frozen_of_row W3 _ 0 _ _ hI3.res
    have f1 : W3.frozen? ⟨w.heap.size + 1, 1, none⟩ = false := frozen_of_row W3 _ 1 _ _ hI3.res
    have g0 : W3.cell? ⟨w.heap.size + 1 + 1, 0, none⟩ = some (.bool false) := by rw [cell_of_row W3 _ 0 _ _ (0, 0) hI3.flag]; rfl
    have g1 : W3.frozen? ⟨w.heap.size + 1 + 1, 0, none⟩ = false := frozen_of_row W3 _ 0 _ _ hI3.flag
    have t1 : W3.cell? ⟨w.heap.size + 1 + 1 + 1, 1, none⟩ = some (.slice r k d) := by rw [cell_of_row W3 _ 1 _ _ (0, 0) hvar]; rfl
    have u1 : W3.frozen? ⟨w.heap.size + 1 + 1 + 1, 1, none⟩ = false := frozen_of_row W3 _ 1 _ _ hvar
    have hls := tabsOf_succ q xss k hk
    obtain ⟨X, hX⟩ : ∃ X, lat xss k = X := ⟨_, rfl⟩
    rw [hX] at hls hc3
    have HX := Hid.mk hX
    have HLS := Hid.mk hls
    have HI3 := Hid.mk hI3
    have HOU := Hid.mk hou
    have HV := Hid.mk hvar
    clear hI hcn hI3 hou hvar hls hX
    cases hg : goodT q X with
    | false =>
      have HG := Hid.mk hg
      gi_wp2_with fail
      refine ⟨trivial, rfl, ?_⟩
      refine (callsIn_wide.2 (cnt_table b q M X W3 hc3 hM h6)).mono ?_
      rintro e w4 ⟨⟨r4, m4, d4, cells4, rfl, ho4⟩, hb4⟩
      rw [hg]
      clear hg
      have f0 := frozen_later hb4 e0 f0
      have f1 := frozen_later hb4 e1 f1
      have g1 := frozen_later hb4 g0 g1
      have e0 := cell_later hb4 e0
      have e1 := cell_later hb4 e1
      have g0 := cell_later hb4 g0
      have hbA : Below w4.heap.size w4 (w4.alloc (.cells #[.int .i64 (tellP q X), .slice r4 m4 d4] 48)) := (Below.refl _ _).alloc (Nat.le_refl _) _
      have f0 := frozen_later hbA e0 f0
      have f1 := frozen_later hbA e1 f1
      have g1 := frozen_later hbA g0 g1
      have e0 := cell_later hbA e0
      have e1 := cell_later hbA e1
      have g0 := cell_later hbA g0
      have hr4 : w4.heap[w.heap.size + 1]? = some (.cells #[.int .i64 0, .slice none 0 0] 30 (0, 0)) := (hb4.block _ (by omega)).trans HI3.out.res
      have hf4 : w4.heap[w.heap.size + 1 + 1]? = some (.cells #[.bool false] 4 (0, 0)) := (hb4.block _ (by omega)).trans HI3.out.flag
      have z4 := hb4.size
      obtain ⟨V, hV⟩ : ∃ V, V = w4.alloc (.cells #[.int .i64 (tellP q X), .slice r4 m4 d4] 48) := ⟨_, rfl⟩
      have zV : V.heap.size = w4.heap.size + 1 := by rw [hV]; simp
      have hVk : ∀ j, j < w4.heap.size → V.heap[j]? = w4.heap[j]? := fun j hj => by rw [hV]; exact Below.heap_alloc _ _ _ hj
      have BV : Below w.heap.size W3 V := (hb4.mono (by omega)).trans (by rw [hV]; exact (hbA.mono (by omega)))
      gi_wp2
      rw [← hV]
      obtain ⟨U, hU⟩ : ∃ U, U = (V.setCell ⟨w.heap.size + 1, 0, none⟩ (.int .i64 0)).setCell ⟨w.heap.size + 1, 1, none⟩ (.slice none 0 0) := ⟨_, rfl⟩
      rw [← hU]
      have zU : U.heap.size = V.heap.size := by rw [hU]; simp [World.setCell]
      have hUr : U.heap[w.heap.size + 1]? = some (.cells #[.int .i64 0, .slice none 0 0] 30 (0, 0)) := by rw [hU]; exact set2_heap ((hVk _ (by omega)).trans hr4) _ _
      have hUk : ∀ j, j ≠ w.heap.size + 1 → U.heap[j]? = V.heap[j]? := fun j hj => by rw [hU]; exact (Below.heap_setCell _ _ _ j (by simpa using hj)).trans (Below.heap_setCell _ _ _ j (by simpa using hj))
      have hUf : U.heap[w.heap.size + 1 + 1]? = some (.cells #[.bool false] 4 (0, 0)) := (hUk _ (by omega)).trans ((hVk _ (by omega)).trans hf4)
      have BU : Below w.heap.size W3 U := by rw [hU]; exact (BV.setCell (by show w.heap.size ≤ w.heap.size + 1; omega) _).setCell (by show w.heap.size ≤ w.heap.size + 1; omega) _
      have BX : Below w.heap.size W3 (U.setCell ⟨w.heap.size + 1 + 1, 0, none⟩ (.bool false)) := BU.setCell (by show w.heap.size ≤ w.heap.size + 1 + 1; omega) _
      have hXk : ∀ j, j < W3.heap.size → j ≠ w.heap.size + 1 → j ≠ w.heap.size + 1 + 1 → (U.setCell ⟨w.heap.size + 1 + 1, 0, none⟩ (.bool false)).heap[j]? = W3.heap[j]? := fun j hj h1 h2 =>
        (Below.heap_setCell _ _ _ j (by simpa using h2)).trans ((hUk j h1).trans ((hVk j (by omega)).trans (hb4.block j hj)))
      refine ⟨⟨(Below.heap_setCell _ _ _ _ (by simp)).trans hUr, heap_setCell_same U _ 0 _ _ _ hUf, by rw [HX.out]; exact HG.out, HI3.out.low.trans BX, by simp [World.setCell]; omega⟩, BX, hXk _ (by omega) (by omega) (by omega), ?_⟩
      exact (hXk _ (by omega) (by omega) (by omega)).trans (Array.getElem?_eq_getElem _)
    | true =>
      have HG := Hid.mk hg
      gi_wp2_with fail
      refine ⟨trivial, rfl, ?_⟩
      refine (callsIn_wide.2 (cnt_table b q M X W3 hc3 hM h6)).mono ?_
      rintro e w4 ⟨⟨r4, m4, d4, cells4, rfl, ho4⟩, hb4⟩
      rw [hg]
      have hP : tellP q X = q := by simp [tellP, hg]
      have hTT : tellT q X = X := by simp [tellT, hg]
      rw [hP]
      rw [hTT] at ho4
      clear hg hP hTT
      have u1 := frozen_later hb4 t1 u1
      have t1 := cell_later hb4 t1
      have z4 := hb4.size
      have HO4 := Hid.mk (HOU.out.below hb4)
      have hbA : Below w4.heap.size w4 (w4.alloc (.cells #[.int .i64 q, .slice r4 m4 d4] 48)) := (Below.refl _ _).alloc (Nat.le_refl _) _
      have t1 := cell_later hbA t1
      have hv4 : w4.heap[w.heap.size + 1 + 1 + 1]? = some (.cells #[.int .i64 q, .slice r k d] 30 (0, 0)) := (hb4.block _ (by omega)).trans HV.out
      gi_wp2_with (gi_at_builtin; refine wpListIn_append_own_at _ rfl _ _ 28 rfl (w.heap.size + 6) 48 i0 (.agg #[.int .i64 0, .slice none 0 0]) 2 32 Tryz.underlying28 hi hz0 hz1 hz2 rfl (by decide) (.slice r k d) k cells rfl ((HO4.out.outer.alloc _).alloc _) ⟨w4.heap.size + 1, 0, none⟩ 1 1 [.int .i64 q, .slice r4 m4 d4] (by simp [Act.eval]) rfl (by simpa using news_at (w4.alloc (.cells #[.int .i64 q, .slice r4 m4 d4] 48)) #[.int .i64 q, .slice r4 m4 d4] 48) (by intro u hu; simp at hu; rcases hu with rfl | rfl <;> rfl) (by unfold maxLen; omega) (by omega) (by simp; omega) ?_; intro v5 w5 hown5 hgrow5 hnil5 hat5; obtain ⟨g5, cap5, rfl⟩ := ownsRow_succ hown5; have hne5 : some (w.heap.size + 1 + 1 + 1) ≠ (Value.slice r k d).ownBlock := (fun e => by have := (HO4.out.blocks _ e.symm).1; omega); have hv5 : w5.heap[w.heap.size + 1 + 1 + 1]? = some (.cells #[.int .i64 q, .slice r k d] 30 (0, 0)) := (hgrow5.block _ (by simp; omega) hne5).trans ((Below.heap_alloc _ _ _ (by simp; omega)).trans ((Below.heap_alloc _ _ _ (by omega)).trans hv4)); have t5 : w5.cell? ⟨w.heap.size + 1 + 1 + 1, 1, none⟩ = some (.slice r k d) := (by rw [cell_of_row w5 _ 1 _ _ (0, 0) hv5]; rfl); have u5 : w5.frozen? ⟨w.heap.size + 1 + 1 + 1, 1, none⟩ = false := frozen_of_row w5 _ 1 _ _ hv5)
      have hob : ∀ j, (Value.slice r k d).ownBlock = some j → w.heap.size + 6 ≤ j := fun j hj => (HO4.out.blocks j hj).1
      have hk5 : ∀ j, j < W3.heap.size → j < w.heap.size + 6 → w5.heap[j]? = W3.heap[j]? := fun j hj h1 =>
        (hgrow5.block j (by simp; omega) (fun e => by have := hob j e.symm; omega)).trans ((Below.heap_alloc _ _ _ (by simp; omega)).trans ((Below.heap_alloc _ _ _ (by omega)).trans (hb4.block j hj)))
      have hbB : Below w4.heap.size w4 ((w4.alloc (.cells #[.int .i64 q, .slice r4 m4 d4] 48)).alloc (.cells #[.int .i64 q, .slice r4 m4 d4] 48)) := ((Below.refl _ _).alloc (Nat.le_refl _) _).alloc (by simp) _
      have hpu := HOU.out.pushed (p := q) (by omega) hb4 (show X.length = m4 from OwnWk.len ho4) ⟨cells4, ho4⟩ hbB hown5 hgrow5 (by
        rcases hat5 with e | e
        · left; simpa [Value.ownBlock] using e.symm
        · right; simp [Value.ownBlock] at e; omega) ((hown5.lt g5 rfl).2)
      rw [← HLS.out] at hpu
      have z5 : w4.heap.size + 1 + 1 ≤ w5.heap.size := by have := hgrow5.size; simpa using this
      have B5 : Below w.heap.size W3 w5 := ((hb4.mono (by omega)).trans (hbB.mono (by omega))).grown hgrow5 (by simp; omega) (fun j hj => by have := hob j hj; omega)
      have B6 := B5.setCell (p := ⟨w.heap.size + 1 + 1 + 1, 1, none⟩) (by show w.heap.size ≤ w.heap.size + 1 + 1 + 1; omega) (.slice (some ⟨g5, 0, none⟩) (k + 1) cap5)
      have h6k : ∀ j, j ≠ w.heap.size + 1 + 1 + 1 → (w5.setCell ⟨w.heap.size + 1 + 1 + 1, 1, none⟩ (.slice (some ⟨g5, 0, none⟩) (k + 1) cap5)).heap[j]? = w5.heap[j]? := fun j hj => Below.heap_setCell _ _ _ j (by simpa using hj)
      have hI3 := HI3.out
      have hpu6 := hpu.setCell (a0 := ⟨w.heap.size + 1 + 1 + 1, 1, none⟩) (.inl (by show w.heap.size + 1 + 1 + 1 < _; omega)) (.slice (some ⟨g5, 0, none⟩) (k + 1) cap5)
      have z6 : (w5.setCell ⟨w.heap.size + 1 + 1 + 1, 1, none⟩ (.slice (some ⟨g5, 0, none⟩) (k + 1) cap5)).heap.size = w5.heap.size := by simp [World.setCell]
      rw [← z6] at hpu6
      refine ⟨⟨(h6k _ (by omega)).trans ((hk5 _ (by omega) (by omega)).trans hI3.col), (h6k _ (by omega)).trans ((hk5 _ (by omega) (by omega)).trans hI3.res), (h6k _ (by omega)).trans ((hk5 _ (by omega) (by omega)).trans hI3.flag),
        ⟨_, _, _, _, _, heap_setCell_same w5 _ 1 _ _ _ hv5, hpu6⟩, fun j hj => ?_, hI3.low.trans B6, by simp [World.setCell]; omega⟩, B6, (h6k _ (by omega)).trans (hk5 _ (by omega) (by omega)), ?_⟩
      · by_cases e : j = k
        · subst e; rw [HX.out]; exact HG.out
        · exact hI3.good j (by omega)
      · exact ((h6k _ (by omega)).trans (hk5 _ (by omega) (by omega))).trans (Array.getElem?_eq_getElem _)
  case done =>
    intro W hI hbb hdef
    obtain ⟨r, d, cells, L, H, hvar, hou⟩ := hI.var
    have z := hI.size
    have e0 : W.cell? ⟨w.heap.size + 1, 0, none⟩ = some (.int .i64 0) := by rw [cell_of_row W _ 0 _ _ (0, 0) hI.res]; rfl
    have e1 : W.cell? ⟨w.heap.size + 1, 1, none⟩ = some (.slice none 0 0) := by rw [cell_of_row W _ 1 _ _ (0, 0) hI.res]; rfl
    have f0 : W.frozen? ⟨w.heap.size + 1, 0, none⟩ = false := frozen_of_row W _ 0 _ _ hI.res
    have f1 : W.frozen? ⟨w.heap.size + 1, 1, none⟩ = false := frozen_of_row W _ 1 _ _ hI.res
    have g0 : W.cell? ⟨w.heap.size + 1 + 1, 0, none⟩ = some (.bool false) := by rw [cell_of_row W _ 0 _ _ (0, 0) hI.flag]; rfl
    have g1 : W.frozen? ⟨w.heap.size + 1 + 1, 0, none⟩ = false := frozen_of_row W _ 0 _ _ hI.flag
    have t0 : W.cell? ⟨w.heap.size + 1 + 1 + 1, 0, none⟩ = some (.int .i64 q) := by rw [cell_of_row W _ 0 _ _ (0, 0) hvar]; rfl
    have t1 : W.cell? ⟨w.heap.size + 1 + 1 + 1, 1, none⟩ = some (.slice r xss.length d) := by rw [cell_of_row W _ 1 _ _ (0, 0) hvar]; rfl
    have HI := Hid.mk hI
    have HOU := Hid.mk hou
    rw [z0] at hdef ⊢
    have hDl : w.heap.size + 4 < W.heap.size := (Array.getElem?_eq_some_iff.1 hdef).1
    clear hI hou hvar
    gi_wp2
    obtain ⟨U, hU⟩ : ∃ U, U = ((W.setCell ⟨w.heap.size + 1, 0, none⟩ (.int .i64 q)).setCell ⟨w.heap.size + 1, 1, none⟩ (.slice r xss.length d)) := ⟨_, rfl⟩
    rw [← hU]
    have hUr : U.heap[w.heap.size + 1]? = some (.cells #[.int .i64 q, .slice r xss.length d] 30 (0, 0)) := by rw [hU]; exact set2_heap HI.out.res _ _
    have hUk : ∀ j, j ≠ w.heap.size + 1 → U.heap[j]? = W.heap[j]? := fun j hj => by rw [hU]; exact (Below.heap_setCell _ _ _ j (by simpa using hj)).trans (Below.heap_setCell _ _ _ j (by simpa using hj))
    have hUf : U.heap[w.heap.size + 1 + 1]? = some (.cells #[.bool false] 4 (0, 0)) := (hUk _ (by omega)).trans HI.out.flag
    obtain ⟨X, hX⟩ : ∃ X, X = U.setCell ⟨w.heap.size + 1 + 1, 0, none⟩ (.bool true) := ⟨_, rfl⟩
    rw [← hX]
    have hXr : X.heap[w.heap.size + 1]? = some (.cells #[.int .i64 q, .slice r xss.length d] 30 (0, 0)) := by rw [hX]; exact (Below.heap_setCell _ _ _ _ (by simp)).trans hUr
    have hXf : X.heap[w.heap.size + 1 + 1]? = some (.cells #[.bool true] 4 (0, 0)) := by rw [hX]; exact heap_setCell_same U _ 0 _ _ _ hUf
    have hXd : X.heap[w.heap.size + 4]? = some (.deferred (some [])) := by rw [hX]; exact (Below.heap_setCell _ _ _ _ (by simp <;> omega)).trans ((hUk _ (by omega)).trans hdef)
    have hoX : OwnUk X (w.heap.size + 6) W.heap.size r xss.length d (tabsOf q xss xss.length) cells L H xss.length := by
      rw [hX, hU]
      exact ((HOU.out.setCell (a0 := ⟨w.heap.size + 1, 0, none⟩) (.inl (by show w.heap.size + 1 < _; omega)) _).setCell (a0 := ⟨w.heap.size + 1, 1, none⟩) (.inl (by show w.heap.size + 1 < _; omega)) _).setCell (a0 := ⟨w.heap.size + 1 + 1, 0, none⟩) (.inl (by show w.heap.size + 1 + 1 < _; omega)) _
    have BX : Below w.heap.size w X := by
      rw [hX, hU]
      exact ((HI.out.low.setCell (by show w.heap.size ≤ w.heap.size + 1; omega) _).setCell (by show w.heap.size ≤ w.heap.size + 1; omega) _).setCell (by show w.heap.size ≤ w.heap.size + 1 + 1; omega) _
    have zX : X.heap.size = W.heap.size := by rw [hX, hU]; simp [World.setCell]
    have hne1 : w.heap.size + 1 ≠ w.heap.size + 4 := by omega
    have hne2 : w.heap.size + 1 + 1 ≠ w.heap.size + 4 := by omega
    have k0 : (X.putObj (w.heap.size + 4) (.deferred none)).cell? ⟨w.heap.size + 1, 0, none⟩ = some (.int .i64 q) := (World.cell?_of_block (World.putObj_heap_other hne1)).trans (by rw [cell_of_row X _ 0 _ _ (0, 0) hXr]; rfl)
    have k1 : (X.putObj (w.heap.size + 4) (.deferred none)).cell? ⟨w.heap.size + 1, 1, none⟩ = some (.slice r xss.length d) := (World.cell?_of_block (World.putObj_heap_other hne1)).trans (by rw [cell_of_row X _ 1 _ _ (0, 0) hXr]; rfl)
    have k2 : (X.putObj (w.heap.size + 4) (.deferred none)).cell? ⟨w.heap.size + 1 + 1, 0, none⟩ = some (.bool true) := (World.cell?_of_block (World.putObj_heap_other hne2)).trans (by rw [cell_of_row X _ 0 _ _ (0, 0) hXf]; rfl)
    have BF : Below w.heap.size w (X.putObj (w.heap.size + 4) (.deferred none)) := BX.grown (grownBy_putObj' _ _ _) BX.size (fun j hj => by cases hj; omega)
    have oF : OwnU (X.putObj (w.heap.size + 4) (.deferred none)) w.heap.size (X.putObj (w.heap.size + 4) (.deferred none)).heap.size r xss.length d (tabsOf q xss xss.length) :=
      ⟨_, _, _, (hoX.kept (grownBy_putObj' _ _ _) (fun j hj => by cases hj; exact .inl (by omega))).widen (by omega) (by simp; omega) (Nat.le_refl _)⟩
    have hok := allG_yes HI.out.good
    refine ⟨by simp, .inl ⟨_, _, rfl, run_takeDeferred hXd, ?_⟩⟩
    refine ⟨.tuple #[.agg #[.int .i64 q, .slice r xss.length d], .bool true], by simp [results, Tryz.results27, go_sem, k0, k1, k2], ?_, BF⟩
    rw [hok]
    exact ⟨r, xss.length, d, rfl, oF⟩
  case leave =>
    intro k W hk hI hbb hdef
    have z := hI.size
    rw [z0] at hdef ⊢
    have hok := allG_no hk hI.bad
    have hne1 : w.heap.size + 1 ≠ w.heap.size + 4 := by omega
    have hne2 : w.heap.size + 1 + 1 ≠ w.heap.size + 4 := by omega
    have k0 : (W.putObj (w.heap.size + 4) (.deferred none)).cell? ⟨w.heap.size + 1, 0, none⟩ = some (.int .i64 0) := (World.cell?_of_block (World.putObj_heap_other hne1)).trans (by rw [cell_of_row W _ 0 _ _ (0, 0) hI.res]; rfl)
    have k1 : (W.putObj (w.heap.size + 4) (.deferred none)).cell? ⟨w.heap.size + 1, 1, none⟩ = some (.slice none 0 0) := (World.cell?_of_block (World.putObj_heap_other hne1)).trans (by rw [cell_of_row W _ 1 _ _ (0, 0) hI.res]; rfl)
    have k2 : (W.putObj (w.heap.size + 4) (.deferred none)).cell? ⟨w.heap.size + 1 + 1, 0, none⟩ = some (.bool false) := (World.cell?_of_block (World.putObj_heap_other hne2)).trans (by rw [cell_of_row W _ 0 _ _ (0, 0) hI.flag]; rfl)
    have BF : Below w.heap.size w (W.putObj (w.heap.size + 4) (.deferred none)) := hI.low.grown (grownBy_putObj' _ _ _) hI.low.size (fun j hj => by cases hj; omega)
    gi_wp2
    refine ⟨by simp, .inl ⟨_, _, rfl, run_takeDeferred hdef, ?_⟩⟩
    refine ⟨.tuple #[.agg #[.int .i64 0, .slice none 0 0], .bool false], by simp [results, Tryz.results27, go_sem, k0, k1, k2], StrAns.zero hok rfl, BF⟩

end Go.Proofs.YtlfljfmhhnoinabGreat
