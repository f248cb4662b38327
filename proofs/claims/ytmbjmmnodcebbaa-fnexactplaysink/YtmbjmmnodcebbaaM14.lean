/- Several texts of one proof, in build order: DlP, KrJ, CmP. -/
import Derived.Test.YtmbjmmnodcebbaaM3
import Derived.Test.YtmbjmmnodcebbaaM6
import Derived.Test.YtmbjmmnodcebbaaM12
import Derived.Lib.SliceRun
import Derived.Deep.RegionLaw
import Derived.Deep.Cut
import Derived.BigQuiet
import Derived.Lib.SlicesDelete
import Derived.Test.YtmbjmmnodcebbaaM9
import Derived.Test.YtmbjmmnodcebbaaM10
import Derived.Test.YtmbjmmnodcebbaaM13

/- slices.Delete of one Prepared out of a list that the call owns. -/
namespace Go.Proofs.Ytmbjmmnodcebbaa
open Go.RowKit

theorem blk_setCells {g : Nat} {t : TypeId} : ∀ (vs : List Value) (o : Nat) (w : World) (cur : Array Value), w.heap[g]? = some (.cells cur t (0, 0)) → (w.setCells g o vs).heap[g]? = some (.cells (sets cur.toList o vs).toArray t (0, 0))
  | [], _, w, cur, h => by
    show w.heap[g]? = _
    rw [h]; rfl
  | v :: vs, o, w, _, h => by
    have q := blk_setCells vs (o + 1) _ _ (blk_set h o v)
    show ((w.setCell ⟨g, o, none⟩ v).setCells g (o + 1) vs).heap[g]? = _
    rw [q]
    simp [sets]
theorem off_setCells {g : Nat} : ∀ (vs : List Value) (o : Nat) (w : World), Off (fun b => b = g) w (w.setCells g o vs)
  | [], _, _ => Off.refl _ _
  | v :: vs, o, _ => (Off.set (F := fun b => b = g) (a := ⟨g, o, none⟩) rfl v).trans (off_setCells vs (o + 1) _)
theorem Try.zeroPrepared (w : World) : (zeroValue 64).run Try.prog w = .ok (.agg #[.int .i64 0, .int .i64 0, .slice none 0 0]) w := by kernel_rfl
/-- 'clear(s)' on a slice of one element of three cells. -/
theorem clear_one {P : Program} (w : World) (t e ty : TypeId) (z : Value) (vs : List Value) (ht : P.underlying t = some (.slice e)) (hv : ∀ w, (zeroValue e).run P w = .ok z w) (hz : (Builtin.zeroCells z.cells 1).toList = vs) (h1 : ∀ v ∈ vs, v.oneCell' = true) (b o c : Nat)
    (hc : ∀ j, j < vs.length → (w.cell? ⟨b, o + j, none⟩).isSome = true) (hf : ∀ j, j < vs.length → w.frozen? ⟨b, o + j, none⟩ = false) :
    (Builtin.clear_ #[t] ty #[.slice (some ⟨b, o, none⟩) 1 c]).run P w = .ok (.tuple #[]) (w.setCells b o vs) := by
  have hst := run_storeCells_cells (P := P) b o vs 0 w (by simpa using hc) (by simpa using hf) h1
  simp only [Nat.add_zero] at hst
  simp [Builtin.clear_, run_underlying ht, hv, hz, hst]

theorem cut_len {cells : List Value} {n i : Nat} (h : cells.length = n * 3) (hi : i < n) : (cells.take (i * 3) ++ cells.drop ((i + 1) * 3)).length = (n - 1) * 3 := by
  rw [List.length_append, List.length_take, List.length_drop]; omega

set_option maxHeartbeats 4000000 in
set_option maxRecDepth 1000000 in
theorem deleteP_any (g n c i : Nat) (cells : List Value) (w : World) (hi : i < n) (hn : n ≤ 1048576) (h1 : ∀ u ∈ cells, u.oneCell' = true) (ho : w.ownsRow 0 64 3 (.slice (some ⟨g, 0, none⟩) n c) n cells) :
    Calls Try.prog 57 #[.slice (some ⟨g, 0, none⟩) n c, .int .i64 (i : Nat), .int .i64 ((i + 1 : Nat) : Int)] w fun e w' => e = .returned (.slice (some ⟨g, 0, none⟩) (n - 1) c) ∧
      w'.ownsRow 0 64 3 (.slice (some ⟨g, 0, none⟩) (n - 1) c) (n - 1) (cells.take (i * 3) ++ cells.drop ((i + 1) * 3)) ∧ Off (fun b => b = g) w w' := by
  obtain ⟨i0, hi0, hz0, hz1, hz2⟩ := info_parts Try.infoPrepared
  obtain ⟨hl, hrest⟩ := ho
  rcases hrest with ⟨h, _⟩ | ⟨g', cap, cur, hv, _, hg, hc1, hc2, hc3, hc4⟩
  · cases h
  simp only [Value.slice.injEq, Option.some.injEq, Addr.mk.injEq, and_true, true_and] at hv
  obtain ⟨rfl, rfl⟩ := hv
  obtain ⟨news, hnews⟩ : ∃ news, news = cells.drop ((i + 1) * 3) := ⟨_, rfl⟩
  have hlen : news.length = (n - (i + 1)) * 3 := by rw [hnews, List.length_drop, hl]; omega
  have hcl : cur.toList.length = c * 3 := by rw [Array.length_toList, hc3]
  have hat : ∀ j, j < n * 3 → cur.toList[j]? = cells[j]? := fun j hj => by rw [← hc4, List.getElem?_take_of_lt hj]
  have hcell : ∀ j, w.cell? ⟨g, j, none⟩ = cur.toList[j]? := fun j => by rw [cell_of_row w g j _ _ (0, 0) hg]; simp
  have hfr : ∀ j, w.frozen? ⟨g, j, none⟩ = false := fun j => blk_frozen hg j
  obtain ⟨A0, hA, hsrc⟩ : ∃ A : Addr, (if c = i + 1 then some (⟨g, 0, none⟩ : Addr) else some ⟨g, (i + 1) * 3, none⟩) = some A ∧ Hid (∀ j u, news[j]? = some u → w.drew.cell? (A.add j) = some u) := by
    by_cases h : c = i + 1
    · refine ⟨⟨g, 0, none⟩, by simp [h], Hid.mk fun t u hu => ?_⟩
      have h0 : news.length = 0 := by rw [hlen]; omega
      rw [List.length_eq_zero_iff.1 h0] at hu
      simp at hu
    · refine ⟨⟨g, (i + 1) * 3, none⟩, by simp [h], Hid.mk fun t u hu => ?_⟩
      have ht : t < (n - (i + 1)) * 3 := by
        have := (List.getElem?_eq_some_iff.1 hu).1
        rwa [hlen] at this
      rw [Addr.add_lit]
      show w.cell? _ = _
      rw [hcell, hat _ (by omega), ← hu, hnews, List.getElem?_drop]
  have s2 : Hid (∀ u ∈ news, u.oneCell' = true) := Hid.mk fun u hu => by
    rw [hnews] at hu
    exact h1 u (List.mem_of_mem_drop hu)
  have s3 : Hid (∀ t, t < news.length → (w.drew.cell? ⟨g, 0 + i * 3 + t, none⟩).isSome = true ∧ w.drew.frozen? ⟨g, 0 + i * 3 + t, none⟩ = false) := Hid.mk fun t ht => by
    rw [hlen] at ht
    refine ⟨?_, hfr _⟩
    show (w.cell? _).isSome = true
    rw [hcell, List.getElem?_eq_getElem (by omega)]
    rfl
  obtain ⟨W1, hW1⟩ : ∃ W1, W1 = w.drew.setCells g (0 + i * 3) news := ⟨_, rfl⟩
  have hg1 : W1.heap[g]? = some (.cells (sets cur.toList (0 + i * 3) news).toArray 64 (0, 0)) := by
    rw [hW1]
    exact blk_setCells news (0 + i * 3) w.drew cur hg
  have hO1 : Off (fun b => b = g) w W1 := by
    rw [hW1]
    exact (Off.drew (Off.refl _ _)).trans (off_setCells _ _ _)
  have hcl1 : ∀ j, W1.cell? ⟨g, j, none⟩ = (sets cur.toList (0 + i * 3) news)[j]? := fun j => by rw [cell_of_row W1 g j _ _ (0, 0) hg1]; simp
  have hclr : ∀ ty, (Builtin.clear_ #[27] ty #[.slice (some ⟨g, (n - 1) * 3, none⟩) 1 (c - (n - 1))]).run Try.prog W1 = .ok (.tuple #[]) (W1.setCells g ((n - 1) * 3) [.int .i64 0, .int .i64 0, .slice none 0 0]) := fun ty =>
    clear_one W1 _ _ ty _ _ Try.underlying27 Try.zeroPrepared (by kernel_rfl) (by decide) g ((n - 1) * 3) _ (fun j hj => by
      simp only [List.length_cons, List.length_nil] at hj
      rw [hcl1, List.getElem?_eq_getElem (by rw [sets_len]; omega)]; rfl) (fun j _ => blk_frozen hg1 _)
  have hg2 := blk_setCells [.int .i64 0, .int .i64 0, .slice none 0 0] ((n - 1) * 3) W1 _ hg1
  have hO2 := hO1.trans (off_setCells (g := g) [.int .i64 0, .int .i64 0, .slice none 0 0] ((n - 1) * 3) W1)
  obtain ⟨W2, hW2⟩ : ∃ W2, W2 = W1.setCells g ((n - 1) * 3) [.int .i64 0, .int .i64 0, .slice none 0 0] := ⟨_, rfl⟩
  rw [← hW2] at hclr hg2 hO2
  have hR : Hid (W2.ownsRow 0 64 3 (.slice (some ⟨g, 0, none⟩) (n - 1) c) (n - 1) (cells.take (i * 3) ++ cells.drop ((i + 1) * 3)) ∧ Off (fun b => b = g) w W2) := Hid.mk (by
    refine ⟨⟨cut_len hl hi, .inr ⟨g, c, _, rfl, Nat.zero_le _, hg2, by omega, hc2, by simp [sets_len, hc3], ?_⟩⟩, hO2⟩
    apply List.ext_getElem?
    intro j
    by_cases hj : j < (n - 1) * 3
    · rw [List.getElem?_take_of_lt hj]
      dsimp only
      rw [sets_far _ _ _ _ (.inl hj)]
      by_cases hji : j < i * 3
      · rw [sets_far _ _ _ _ (.inl (by omega)), List.getElem?_append_left (by rw [List.length_take]; omega), List.getElem?_take_of_lt hji, hat _ (by omega)]
      · obtain ⟨d, rfl⟩ := Nat.exists_eq_add_of_le (by omega : i * 3 ≤ j)
        have hq := sets_in cur.toList (0 + i * 3) news d (by rw [hlen]; omega) (by rw [hlen]; omega)
        rw [Nat.zero_add] at hq
        rw [Nat.zero_add, hq, List.getElem?_append_right (by rw [List.length_take]; omega), List.length_take, hnews]
        congr 1
        omega
    · rw [List.getElem?_eq_none (by rw [List.length_take]; omega), List.getElem?_eq_none (by rw [cut_len hl hi]; omega)])
  have hW : Hid (W1 = w.drew.setCells g (0 + i * 3) news) := Hid.mk hW1
  have hnm : i + (n - (i + 1)) = n - 1 := by omega
  have hii : ((i : Int) == ((i + 1 : Nat) : Int)) = false := beq_eq_false_iff_ne.2 (by omega)
  have hcn : ¬ c = n - 1 := by omega
  have hn1 : n - (n - 1) = 1 := by omega
  have hl1 : n - 1 ≤ n := by omega
  have hi1 : i + 1 ≤ n := by omega
  have hic : i + 1 ≤ c := by omega
  have hic' : i ≤ c := by omega
  have hlen' : i ≤ i + 1 := by omega
  have hn1c : n - 1 ≤ c := by omega
  have h01 : (0 : Int) ≤ (i : Int) + 1 := by omega
  have hin : (i : Int) + 1 ≤ (n : Int) := by omega
  have hicI : (i : Int) + 1 ≤ (c : Int) := by omega
  have hiiI : ((i : Int) == (i : Int) + 1) = false := beq_eq_false_iff_ne.2 (by omega)
  clear hW1 hg1 hg2 hO1 hO2 hcl1 hcell hfr hat hnews hg hc4 hc3 hcl hl
  go_enter Try.func57, Try.ntmps57
  go_upto_region 5 with fail
  refine wp_region_held_drew (S := fun w' => True) (by kernel_rfl) ?_ (fun hHeld => ?_)
  · (try dsimp only)
    (try exact trivial)
  refine tk 0 ?_
  refine tk 1 ?_
  refine tk 2 (v := .slice (some ⟨g, 0, none⟩) i c) ?_ (hy := fun wS hSw => by ((try dsimp only at hSw); go_simp; (try rfl)))
  refine tk 3 ?_
  refine tk 4 ?_
  refine tk 5 (v := .slice (some A0) (n - (i + 1)) (c - (i + 1))) ?_ (hy := fun wS hSw => by ((try dsimp only at hSw); go_simp; (try (first | rfl | rw [hA]))))
  refine wpAnyH_ready (rs := [6]) (by kernel_rfl) (by simp) ?_
  refine AllReadyH.cons (o := ?_) ?_ (fun K hK => ?_) AllReadyH.nil
  rotate_left
  · (simp only [List.getElem?_toArray, List.getElem?_cons_zero, List.getElem?_cons_succ]; rfl)
  refine step_append_room rfl (.tmp 22) (.tmp 25) 27 rfl 64 i0 3 Try.underlying27 hi0 hz1 g 0 i c (by simp [Act.eval]) A0 (n - (i + 1)) (c - (i + 1)) news (by simp [Act.eval]) hlen hsrc.out s2.out (by omega) s3.out ?_
  rw [← hW.out, hnm]
  refine hK.out _ _ ?_ (fun hHeld' => ?_)
  · (try dsimp only)
    (try exact trivial)
  clear hK K hHeld
  have hHeld := hHeld'
  clear hHeld'
  (try simp only [Act.put, List.setIfInBounds_toArray, List.set_cons_zero, List.set_cons_succ])
  refine tk 7 ?_
  refine wpAnyH_done (by kernel_rfl) ?_ _
  go_wp2
  go_ret
  have hq := hR.out
  rw [hW2] at hq
  exact ⟨rfl, hq⟩

/-- All cells of a list of Prepared are of one cell each. -/
theorem LaidP.ones {w : World} {F : Nat → Prop} {e : TypeId} {a : Option Addr} {n c : Nat} {ps : List TPrepared} {cells : List Value} {G : Nat → Nat → Prop} (h : Laid RPrepared w F e a n c ps cells G n) : ∀ u ∈ cells, u.oneCell' = true := by
  intro u hu
  obtain ⟨j, hj⟩ := List.mem_iff_getElem?.1 hu
  have hl : cells.length = n * 3 := h.outer.1
  have hjl := (List.getElem?_eq_some_iff.1 hj).1
  have hlen := h.len
  have hjn : j / 3 < n := by omega
  obtain ⟨x, hx⟩ : ∃ x, ps[j / 3]? = some x := ⟨_, List.getElem?_eq_getElem (by omega)⟩
  obtain ⟨a2, n2, c2, hcs, _⟩ := RPrepared.at_open (RPrepared.toAt (h.row _ x hjn hx))
  have hs : (sub cells (j / 3 * 3) 3)[j % 3]? = some u := by
    rw [sub_at (by omega), show j / 3 * 3 + j % 3 = j by omega]; exact hj
  have hcs' : sub cells (j / 3 * 3) 3 = [.int .i64 x.1, .int .i64 x.2.1, .slice a2 n2 c2] := hcs
  rw [hcs'] at hs
  have hm := List.mem_of_getElem? hs
  simp only [List.mem_cons, List.not_mem_nil, or_false] at hm
  rcases hm with rfl | rfl | rfl <;> rfl

end Go.Proofs.Ytmbjmmnodcebbaa

/- Contract of the program's commit. -/
namespace Go.Proofs.Ytmbjmmnodcebbaa
open Go.RowKit

set_option maxRecDepth 100000 in
set_option maxHeartbeats 8000000 in
theorem commit_no (F : Nat → Prop) (a0 : Option Addr) (n0 c0 : Nat) (a2 : Option Addr) (n2 c2 : Nat) (a3 : Option Addr) (c3 : Nat) (a4 : Option Addr) (n4 c4 : Nat) (t la up : Int) (src pd : List Int) (ou : List Int) (w : World) (ho : RSink.Own w F [.slice a0 n0 c0, .int .i64 t, .slice a2 n2 c2, .slice a3 0 c3, .slice a4 n4 c4, .int .i64 la, .int .i64 up] (src, t, pd, [], ou, la, up)) :
    Calls Try.prog 40 #[.agg #[.slice a0 n0 c0, .int .i64 t, .slice a2 n2 c2, .slice a3 0 c3, .slice a4 n4 c4, .int .i64 la, .int .i64 up]] w fun e w' => KRet e w w' F false (src, t, pd, [], ou, la, up) ∧ Below w.heap.size w w' := by
  obtain ⟨W, hW⟩ : ∃ W, W = (w.alloc (.cells #[.slice a0 n0 c0, .int .i64 t, .slice a2 n2 c2, .slice a3 0 c3, .slice a4 n4 c4, .int .i64 la, .int .i64 up] 29)).alloc (.cells #[.slice none 0 0, .int .i64 0, .slice none 0 0, .slice none 0 0, .slice none 0 0, .int .i64 0, .int .i64 0] 29) := ⟨_, rfl⟩
  have B0 : Below w.heap.size w W := by rw [hW]; exact ((Below.refl _ _).alloc (Nat.le_refl _) _).alloc (by simp) _
  have b0 : W.heap[w.heap.size]? = some (.cells #[.slice a0 n0 c0, .int .i64 t, .slice a2 n2 c2, .slice a3 0 c3, .slice a4 n4 c4, .int .i64 la, .int .i64 up] 29 (0, 0)) := by rw [hW]; exact blk_alloc (heap_alloc_new w _) _
  have b1 : W.heap[w.heap.size + 1]? = some (.cells #[.slice none 0 0, .int .i64 0, .slice none 0 0, .slice none 0 0, .slice none 0 0, .int .i64 0, .int .i64 0] 29 (0, 0)) := by
    rw [hW]
    have q := heap_alloc_new (w.alloc (.cells #[.slice a0 n0 c0, .int .i64 t, .slice a2 n2 c2, .slice a3 0 c3, .slice a4 n4 c4, .int .i64 la, .int .i64 up] 29)) (.cells #[.slice none 0 0, .int .i64 0, .slice none 0 0, .slice none 0 0, .slice none 0 0, .int .i64 0, .int .i64 0] 29)
    simpa only [World.size_alloc] using q
  have zW : W.heap.size = w.heap.size + 2 := by rw [hW]; simp
  have p0 := blk_cell b0 0 (v := .slice a0 n0 c0) rfl
  have p1 := blk_cell b0 1 (v := .int .i64 t) rfl
  have p2 := blk_cell b0 2 (v := .slice a2 n2 c2) rfl
  have p3 := blk_cell b0 3 (v := .slice a3 0 c3) rfl
  have p4 := blk_cell b0 4 (v := .slice a4 n4 c4) rfl
  have p5 := blk_cell b0 5 (v := .int .i64 la) rfl
  have p6 := blk_cell b0 6 (v := .int .i64 up) rfl
  have y0 := blk_cell b1 0 (v := .slice none 0 0) rfl
  have y1 := blk_cell b1 1 (v := .int .i64 0) rfl
  have y2 := blk_cell b1 2 (v := .slice none 0 0) rfl
  have y3 := blk_cell b1 3 (v := .slice none 0 0) rfl
  have y4 := blk_cell b1 4 (v := .slice none 0 0) rfl
  have y5 := blk_cell b1 5 (v := .int .i64 0) rfl
  have y6 := blk_cell b1 6 (v := .int .i64 0) rfl
  have fz0 := blk_frozen b1 0
  have fz1 := blk_frozen b1 1
  have fz2 := blk_frozen b1 2
  have fz3 := blk_frozen b1 3
  have fz4 := blk_frozen b1 4
  have fz5 := blk_frozen b1 5
  have fz6 := blk_frozen b1 6
  go_enter Try.func40, Try.ntmps40
  go_upto_region 1 with fail
  rw [← hW]
  clear hW
  go_upto_region 2 with fail
  obtain ⟨Y, hY⟩ : ∃ u, u = stores W (w.heap.size + 1) 0 [.slice a0 n0 c0, .int .i64 t, .slice a2 n2 c2, .slice a3 0 c3, .slice a4 n4 c4, .int .i64 la, .int .i64 up] := ⟨_, rfl⟩
  have S : Off (fun b => b = w.heap.size + 1) W Y := by rw [hY]; exact stores_off (F := fun b => b = w.heap.size + 1) _ _ _ _ rfl
  have zY : Y.heap.size = W.heap.size := by rw [hY]; exact stores_size _ _ _ _
  have D : Below w.heap.size w Y := by rw [hY]; exact stores_below _ _ _ _ B0 (by omega)
  have R : Hid (KRet (.returned (.tuple #[.agg #[.slice a0 n0 c0, .int .i64 t, .slice a2 n2 c2, .slice a3 0 c3, .slice a4 n4 c4, .int .i64 la, .int .i64 up], .bool false])) w Y F false (src, t, pd, [], ou, la, up) ∧ Below w.heap.size w Y) := Hid.mk
    ⟨⟨a0, n0, c0, a2, n2, c2, a3, 0, c3, a4, n4, c4, rfl, RSink.mono (RSink.ownBelow ho D) (fun b h => .inl h), Off.below D⟩, D⟩
  have HY := Hid.mk hY
  clear S hY zY D b0 b1 B0 zW
  go_wp2
  refine bodyPost_ret (v := .tuple #[.agg #[.slice a0 n0 c0, .int .i64 t, .slice a2 n2 c2, .slice a3 0 c3, .slice a4 n4 c4, .int .i64 la, .int .i64 up], .bool false]) (by simp [results, Try.results40, go_sem, y0, y1, y2, y3, y4, y5, y6]) rfl ?_
  have h := R.out
  rw [HY.out] at h
  exact h

set_option maxRecDepth 100000 in
set_option maxHeartbeats 8000000 in
theorem commit_yes (F : Nat → Prop) (a0 : Option Addr) (n0 c0 : Nat) (a2 : Option Addr) (n2 c2 : Nat) (g m c3 : Nat) (a4 : Option Addr) (n4 c4 : Nat) (t la up : Int) (src pd : List Int) (no ut : Int) (rw0 : List Int) (ps : List TPrepared) (ou : List Int) (w : World) (hF : ∀ b, F b → b < w.heap.size) (hm : m + 1 ≤ 1048576) (hn4 : n4 ≤ 1048576) (hnr : rw0.length ≤ 1048576) (ho : RSink.Own w F [.slice a0 n0 c0, .int .i64 t, .slice a2 n2 c2, .slice (some ⟨g, 0, none⟩) (m + 1) c3, .slice a4 n4 c4, .int .i64 la, .int .i64 up] (src, t, pd, (no, ut, rw0) :: ps, ou, la, up)) :
    Calls Try.prog 40 #[.agg #[.slice a0 n0 c0, .int .i64 t, .slice a2 n2 c2, .slice (some ⟨g, 0, none⟩) (m + 1) c3, .slice a4 n4 c4, .int .i64 la, .int .i64 up]] w fun e w' => KRet e w w' F true (src, t, pd, ps, ou ++ rw0, no, ut) := by
  obtain ⟨W, hW⟩ : ∃ W, W = (w.alloc (.cells #[.slice a0 n0 c0, .int .i64 t, .slice a2 n2 c2, .slice (some ⟨g, 0, none⟩) (m + 1) c3, .slice a4 n4 c4, .int .i64 la, .int .i64 up] 29)).alloc (.cells #[.slice none 0 0, .int .i64 0, .slice none 0 0, .slice none 0 0, .slice none 0 0, .int .i64 0, .int .i64 0] 29) := ⟨_, rfl⟩
  have B0 : Below w.heap.size w W := by rw [hW]; exact ((Below.refl _ _).alloc (Nat.le_refl _) _).alloc (by simp) _
  have b0 : W.heap[w.heap.size]? = some (.cells #[.slice a0 n0 c0, .int .i64 t, .slice a2 n2 c2, .slice (some ⟨g, 0, none⟩) (m + 1) c3, .slice a4 n4 c4, .int .i64 la, .int .i64 up] 29 (0, 0)) := by rw [hW]; exact blk_alloc (heap_alloc_new w _) _
  have b1 : W.heap[w.heap.size + 1]? = some (.cells #[.slice none 0 0, .int .i64 0, .slice none 0 0, .slice none 0 0, .slice none 0 0, .int .i64 0, .int .i64 0] 29 (0, 0)) := by
    rw [hW]
    have q := heap_alloc_new (w.alloc (.cells #[.slice a0 n0 c0, .int .i64 t, .slice a2 n2 c2, .slice (some ⟨g, 0, none⟩) (m + 1) c3, .slice a4 n4 c4, .int .i64 la, .int .i64 up] 29)) (.cells #[.slice none 0 0, .int .i64 0, .slice none 0 0, .slice none 0 0, .slice none 0 0, .int .i64 0, .int .i64 0] 29)
    simpa only [World.size_alloc] using q
  have zW : W.heap.size = w.heap.size + 2 := by rw [hW]; simp
  obtain ⟨i0, hi0, hx0, hx1, hx2⟩ := info_parts Try.infoInt
  obtain ⟨F0, F2, F3, F4, h0, h2, h3, h4, f0, f2, f3, f4, d02, d03, d04, d23, d24, d34⟩ := RSink.own_iff ho
  obtain ⟨a3', n3', c3', cs, G, hcs, hL⟩ := h3
  simp only [List.cons.injEq, Value.slice.injEq, and_true] at hcs
  obtain ⟨rfl, rfl, rfl⟩ := hcs
  obtain ⟨o4l, _, o4, o4F⟩ := RInts.own_iff.1 h4
  have hLW := hL.below B0
  have hrow := hLW.row 0 _ (by omega) (show ((no, ut, rw0) :: ps)[0]? = some (no, ut, rw0) from rfl)
  obtain ⟨ar, nr, cr, _, hcs0, _, _⟩ := RPrepared.own_open hrow
  simp only at hcs0
  rw [hcs0] at hrow
  obtain ⟨GR, hR0, hGR⟩ := RPrepared.own_iff hrow
  have hRat := RInts.at_iff.1 (RInts.toAt hR0)
  have hcs1 : sub cs 0 3 = [.int .i64 no, .int .i64 ut, .slice ar nr cr] := hcs0
  have hsub : ∀ j, j < 3 → W.cell? ⟨g, j, none⟩ = ([.int .i64 no, .int .i64 ut, .slice ar nr cr] : List Value)[j]? := fun j hj => by
    rw [hLW.outer.cellAt j (show j < (m + 1) * 3 by omega), ← hcs1, sub_at hj, Nat.zero_add]
  have g0 := hsub 0 (by omega)
  have g1 := hsub 1 (by omega)
  have g2 := hsub 2 (by omega)
  simp only [List.getElem?_cons_zero, List.getElem?_cons_succ] at g0 g1 g2
  have hgF : F3 g := hL.outerF g rfl
  have hgN : g < w.heap.size := hF g (f3 g hgF)
  obtain ⟨X, hX⟩ : ∃ u, u = W.alloc (.cells #[.int .i64 no, .int .i64 ut, .slice ar nr cr] 64) := ⟨_, rfl⟩
  have bX : Below W.heap.size W X := by rw [hX]; exact (Below.refl _ _).alloc (Nat.le_refl _) _
  have x0 : X.heap[w.heap.size + 2]? = some (.cells #[.int .i64 no, .int .i64 ut, .slice ar nr cr] 64 (0, 0)) := by rw [hX, ← zW]; exact heap_alloc_new W _
  have zX : X.heap.size = w.heap.size + 3 := by rw [hX]; simp [zW]
  have w3 := blk_cell b0 3 (v := .slice (some ⟨g, 0, none⟩) (m + 1) c3) rfl
  have b0 := blk_below b0 bX
  have b1 := blk_below b1 bX
  have BX := B0.trans (bX.mono B0.size)
  have hLX := hL.below BX
  have KD : Hid (Calls Try.prog 57 #[.slice (some ⟨g, 0, none⟩) (m + 1) c3, .int .i64 0, .int .i64 1] X fun e w' => e = .returned (.slice (some ⟨g, 0, none⟩) m c3) ∧ w'.ownsRow 0 64 3 (.slice (some ⟨g, 0, none⟩) m c3) m (cs.take (0 * 3) ++ cs.drop ((0 + 1) * 3)) ∧ Off (fun b => b = g) X w') := Hid.mk (deleteP_any g (m + 1) c3 0 cs X (by omega) hm (LaidP.ones hLX) hLX.outer)
  have HLX := Hid.mk hLX
  have HROW := Hid.mk (show At X ar rw0 from At.below hRat.2.2.1 bX)
  have HLR := Hid.mk hRat.1
  have hnr' : nr ≤ 1048576 := by have := hRat.1; omega
  have HNR := Hid.mk hRat.2.2.2
  have HGR := Hid.mk (fun b (h : GR b) => (hL.rowF 0 b (by omega) (hGR b h)))
  have HRO := Hid.mk (RInts.ownBelow hR0 bX)
  have HL4 := Hid.mk o4l
  have HO4X := Hid.mk (owns_below o4 BX)
  have p0 := blk_cell b0 0 (v := .slice a0 n0 c0) rfl
  have p1 := blk_cell b0 1 (v := .int .i64 t) rfl
  have p2 := blk_cell b0 2 (v := .slice a2 n2 c2) rfl
  have p3 := blk_cell b0 3 (v := .slice (some ⟨g, 0, none⟩) (m + 1) c3) rfl
  have p4 := blk_cell b0 4 (v := .slice a4 n4 c4) rfl
  have p5 := blk_cell b0 5 (v := .int .i64 la) rfl
  have p6 := blk_cell b0 6 (v := .int .i64 up) rfl
  clear hLX hRat hR0 hGR hrow hcs0 hcs1 hsub hLW o4 o4l
  go_enter Try.func40, Try.ntmps40
  go_upto_region 1 with fail
  rw [← hW]
  clear hW
  go_upto_region 4 with fail
  rw [← hX]
  clear hX g0 g1 g2 w3
  go_wp2_with fail
  refine KD.out.mono ?_
  rintro e w1 ⟨rfl, ho1, hO1⟩
  have HLD : Hid (Laid RPrepared w1 F3 64 (some ⟨g, 0, none⟩) m c3 ps (cs.take (0 * 3) ++ cs.drop ((0 + 1) * 3)) (fun j => G (if j < 0 then j else j + 1)) m) := Hid.mk (laid_eraseIn (i := 0) HLX.out (by omega) (fun b hb hl => hO1.block b hl hb) (fun j => sub_cut (n := m + 1) HLX.out.outer.1 (by omega) j) ho1)
  have z1 := hO1.size
  have k0 := (hO1.block w.heap.size (by omega) (fun e => by have h2 : w.heap.size = g := e; omega)).trans b0
  have k1 := (hO1.block (w.heap.size + 1) (by omega) (fun e => by have h2 : w.heap.size + 1 = g := e; omega)).trans b1
  have k2 := (hO1.block (w.heap.size + 2) (by omega) (fun e => by have h2 : w.heap.size + 2 = g := e; omega)).trans x0
  have HR1 := Hid.mk (RInts.ownOff HRO.out hO1 (fun b hb e => (HGR.out b hb).2 (by rw [show b = g from e]; rfl)))
  have HO41 := Hid.mk (ownsRow_frame HO4X.out (fun b hb hl => hO1.block b hl (fun e => d34 g hgF (by rw [show b = g from e] at hb; exact o4F g hb))))
  have HO : Off (fun b => F3 b ∨ F4 b ∨ w.heap.size ≤ b) w w1 := (Off.below BX).trans (hO1.mono (fun b e => .inl (by rw [show b = g from e]; exact hgF)))
  obtain ⟨X1, hX1⟩ : ∃ u, u = w1.setCell ⟨w.heap.size, 3, none⟩ (.slice (some ⟨g, 0, none⟩) m c3) := ⟨_, rfl⟩
  have e0 : X1.heap[w.heap.size]? = some (.cells #[.slice a0 n0 c0, .int .i64 t, .slice a2 n2 c2, .slice (some ⟨g, 0, none⟩) m c3, .slice a4 n4 c4, .int .i64 la, .int .i64 up] 29 (0, 0)) := by rw [hX1]; exact blk_set k0 3 _
  have e1 : X1.heap[w.heap.size + 1]? = some (.cells #[.slice none 0 0, .int .i64 0, .slice none 0 0, .slice none 0 0, .slice none 0 0, .int .i64 0, .int .i64 0] 29 (0, 0)) := by rw [hX1]; exact blk_other k1 (by simp) _
  have e2 : X1.heap[w.heap.size + 2]? = some (.cells #[.int .i64 no, .int .i64 ut, .slice ar nr cr] 64 (0, 0)) := by rw [hX1]; exact blk_other k2 (by simp) _
  have hS1 : Off (fun b => F4 b ∨ w.heap.size ≤ b) w1 X1 := by rw [hX1]; exact Off.set (F := fun b => F4 b ∨ w.heap.size ≤ b) (a := ⟨w.heap.size, 3, none⟩) (.inr (Nat.le_refl _)) _
  have zX1 := hS1.size
  have HR1 := Hid.mk (RInts.ownOff HR1.out hS1 (fun b hb e => e.elim (fun e => d34 b (HGR.out b hb).1 e) (fun e => by have := hF b (f3 b (HGR.out b hb).1); omega)))
  have HRA := Hid.mk (ints_at HR1.out)
  have HO42 : Hid (X1.ownsRow 0 3 1 (.slice a4 n4 c4) n4 (ou.map (.int .i64))) := Hid.mk (ownsRow_frame HO41.out (fun b hb hl => by
    rw [hX1]; exact Below.heap_setCell w1 ⟨w.heap.size, 3, none⟩ _ b (fun e => by have h2 : b = w.heap.size := e; have := hF b (f4 b (o4F b hb)); omega)))
  have q3 := blk_cell k0 3 (v := .slice (some ⟨g, 0, none⟩) (m + 1) c3) rfl
  have g3 := blk_frozen k0 3
  clear p0 p1 p2 p3 p4 p5 p6 KD HLX HO4X HO41 HRO
  go_upto_region 5 with fail
  rw [← hX1]
  clear hX1 q3 g3
  have p0 := blk_cell e0 0 (v := .slice a0 n0 c0) rfl
  have p1 := blk_cell e0 1 (v := .int .i64 t) rfl
  have p2 := blk_cell e0 2 (v := .slice a2 n2 c2) rfl
  have p3 := blk_cell e0 3 (v := .slice (some ⟨g, 0, none⟩) m c3) rfl
  have p4 := blk_cell e0 4 (v := .slice a4 n4 c4) rfl
  have p5 := blk_cell e0 5 (v := .int .i64 la) rfl
  have p6 := blk_cell e0 6 (v := .int .i64 up) rfl
  have q2 := blk_cell e2 2 (v := .slice ar nr cr) rfl
  go_wp2_with (at_builtin; refine wpList_app_vals rfl (.tmp 19) (.tmp 21) 22 rfl 0 3 i0 (.int .i64 0) 1 8 Try.underlying22 hi0 hx0 hx1 hx2 rfl (by decide) (.slice a4 n4 c4) n4 (ou.map (.int .i64)) rfl HO42.out ar nr cr (rw0.map (.int .i64)) rfl (by rw [List.length_map, HLR.out]; omega) (vals_of HRA.out) (ones_of _) (nil_of HRA.out HLR.out HNR.out) (by unfold maxLen; omega) (by omega) (Nat.zero_le _) ?_)
  intro r d w2 ho2 hg2 ht2
  have hS2 : Off (fun b => F4 b ∨ w.heap.size ≤ b) X1 w2 := Off.grown hg2 (fun k hk => .inl (o4F k hk))
  have hold : ∀ k, w.heap.size ≤ k → k < X1.heap.size → w2.heap[k]? = X1.heap[k]? := fun k hk hk2 => hg2.block k hk2 (fun e => by have := hF k (f4 k (o4F k e.symm)); omega)
  have k0 := (hold w.heap.size (by omega) (by omega)).trans e0
  have k1 := (hold (w.heap.size + 1) (by omega) (by omega)).trans e1
  have k2 := (hold (w.heap.size + 2) (by omega) (by omega)).trans e2
  have z2 := hS2.size
  have HAT : Hid (∀ b, (Value.slice r (n4 + nr) d).ownBlock = some b → F4 b ∨ (w.heap.size + 3 ≤ b ∧ b < w2.heap.size)) := Hid.mk (fun b hb => by
    have hlt := (ho2.lt b hb).2
    rcases ht2 with q | q
    · rw [q] at hb; exact .inl (o4F b hb)
    · rw [q] at hb
      have h2 : X1.heap.size = b := by simpa using hb
      exact .inr ⟨by omega, hlt⟩)
  have HO2 := Hid.mk ho2
  have HO := Hid.mk ((HO.trans (hS1.mono (fun b h => h.elim (fun h => .inr (.inl h)) (fun h => .inr (.inr h))))).trans (hS2.mono (fun b h => h.elim (fun h => .inr (.inl h)) (fun h => .inr (.inr h)))))
  have HO4 := Hid.mk (hS1.trans hS2)
  clear ho2 hg2 ht2 hold hS1 hS2 p0 p1 p2 p3 p4 p5 p6 q2 HO42 HRA HR1
  obtain ⟨X2, hX2⟩ : ∃ u, u = w2.setCell ⟨w.heap.size, 4, none⟩ (.slice r (n4 + nr) d) := ⟨_, rfl⟩
  have e0 : X2.heap[w.heap.size]? = some (.cells #[.slice a0 n0 c0, .int .i64 t, .slice a2 n2 c2, .slice (some ⟨g, 0, none⟩) m c3, .slice r (n4 + nr) d, .int .i64 la, .int .i64 up] 29 (0, 0)) := by rw [hX2]; exact blk_set k0 4 _
  have e1 : X2.heap[w.heap.size + 1]? = some (.cells #[.slice none 0 0, .int .i64 0, .slice none 0 0, .slice none 0 0, .slice none 0 0, .int .i64 0, .int .i64 0] 29 (0, 0)) := by rw [hX2]; exact blk_other k1 (by simp) _
  have e2 : X2.heap[w.heap.size + 2]? = some (.cells #[.int .i64 no, .int .i64 ut, .slice ar nr cr] 64 (0, 0)) := by rw [hX2]; exact blk_other k2 (by simp) _
  have hS3 : Off (fun b => b = w.heap.size) w2 X2 := by rw [hX2]; exact Off.set (F := fun b => b = w.heap.size) (a := ⟨w.heap.size, 4, none⟩) rfl _
  have q4 := blk_cell k0 4 (v := .slice a4 n4 c4) rfl
  have g4 := blk_frozen k0 4
  go_upto_region 6 with fail
  rw [← hX2]
  clear hX2 q4 g4 k0 k1 k2
  have s0 := blk_cell e2 0 (v := .int .i64 no) rfl
  have s1 := blk_cell e2 1 (v := .int .i64 ut) rfl
  have q5 := blk_cell e0 5 (v := .int .i64 la) rfl
  have g5 := blk_frozen e0 5
  have q6 := blk_cell e0 6 (v := .int .i64 up) rfl
  have g6 := blk_frozen e0 6
  go_region
  obtain ⟨X4, hX4⟩ : ∃ u, u = ((X2.setCell ⟨w.heap.size, 5, none⟩ (.int .i64 no)).setCell ⟨w.heap.size, 6, none⟩ (.int .i64 ut)).drew := ⟨_, rfl⟩
  have k0 : X4.heap[w.heap.size]? = some (.cells #[.slice a0 n0 c0, .int .i64 t, .slice a2 n2 c2, .slice (some ⟨g, 0, none⟩) m c3, .slice r (n4 + nr) d, .int .i64 no, .int .i64 ut] 29 (0, 0)) := by rw [hX4]; exact blk_set (blk_set e0 5 _) 6 _
  have k1 : X4.heap[w.heap.size + 1]? = some (.cells #[.slice none 0 0, .int .i64 0, .slice none 0 0, .slice none 0 0, .slice none 0 0, .int .i64 0, .int .i64 0] 29 (0, 0)) := by rw [hX4]; exact blk_other (blk_other e1 (by simp) _) (by simp) _
  have hS5 : Off (fun b => b = w.heap.size) w2 X4 := by rw [hX4]; exact ((hS3.trans (Off.set (F := fun b => b = w.heap.size) (a := ⟨w.heap.size, 5, none⟩) rfl _)).trans (Off.set (F := fun b => b = w.heap.size) (a := ⟨w.heap.size, 6, none⟩) rfl _)).drew
  have z4 := hS5.size
  have HOW := Hid.mk (ownsRow_frame HO2.out (fun b hb hl => hS5.block b hl (fun e => by
    have h2 : b = w.heap.size := e
    rcases HAT.out b hb with q | q
    · have := hF b (f4 b q); omega
    · omega)))
  have HNB : Hid (∀ b, (Value.slice r (n4 + nr) d).ownBlock = some b → b ≠ w.heap.size + 1) := Hid.mk (fun b hb e => by
    rcases HAT.out b hb with q | q
    · have := hF b (f4 b q); omega
    · omega)
  have HO := Hid.mk (HO.out.trans (hS5.mono (fun b h => .inr (.inr (by have h2 : b = w.heap.size := h; omega)))))
  have HO4 := Hid.mk (HO4.out.trans (hS5.mono (fun b h => .inr (by have h2 : b = w.heap.size := h; omega))))
  have p0 := blk_cell k0 0 (v := .slice a0 n0 c0) rfl
  have p1 := blk_cell k0 1 (v := .int .i64 t) rfl
  have p2 := blk_cell k0 2 (v := .slice a2 n2 c2) rfl
  have p3 := blk_cell k0 3 (v := .slice (some ⟨g, 0, none⟩) m c3) rfl
  have p4 := blk_cell k0 4 (v := .slice r (n4 + nr) d) rfl
  have p5 := blk_cell k0 5 (v := .int .i64 no) rfl
  have p6 := blk_cell k0 6 (v := .int .i64 ut) rfl
  have y0 := blk_cell k1 0 (v := .slice none 0 0) rfl
  have y1 := blk_cell k1 1 (v := .int .i64 0) rfl
  have y2 := blk_cell k1 2 (v := .slice none 0 0) rfl
  have y3 := blk_cell k1 3 (v := .slice none 0 0) rfl
  have y4 := blk_cell k1 4 (v := .slice none 0 0) rfl
  have y5 := blk_cell k1 5 (v := .int .i64 0) rfl
  have y6 := blk_cell k1 6 (v := .int .i64 0) rfl
  have fz0 := blk_frozen k1 0
  have fz1 := blk_frozen k1 1
  have fz2 := blk_frozen k1 2
  have fz3 := blk_frozen k1 3
  have fz4 := blk_frozen k1 4
  have fz5 := blk_frozen k1 5
  have fz6 := blk_frozen k1 6
  rw [← hX4]
  clear hX4 hS3 hS5 q5 q6 g5 g6 s0 s1 e0 e1 e2 HO2
  obtain ⟨Y, hY⟩ : ∃ u, u = stores X4 (w.heap.size + 1) 0 [.slice a0 n0 c0, .int .i64 t, .slice a2 n2 c2, .slice (some ⟨g, 0, none⟩) m c3, .slice r (n4 + nr) d, .int .i64 no, .int .i64 ut] := ⟨_, rfl⟩
  have S : Off (fun b => b = w.heap.size + 1) X4 Y := by rw [hY]; exact stores_off (F := fun b => b = w.heap.size + 1) _ _ _ _ rfl
  have zY : Y.heap.size = X4.heap.size := by rw [hY]; exact stores_size _ _ _ _
  have HY2 := Hid.mk ((HO.out.trans (S.mono (fun b h => .inr (.inr (by have h2 : b = w.heap.size + 1 := h; omega))))).mono (F' := fun b => (F3 b ∨ F4 b) ∨ w.heap.size ≤ b) (fun b h => h.elim (fun h => .inl (.inl h)) (fun h => h.elim (fun h => .inl (.inr h)) .inr)))
  have HF4Y := Hid.mk (HO4.out.trans (S.mono (F' := fun b => F4 b ∨ w.heap.size ≤ b) (fun b h => .inr (by have h2 : b = w.heap.size + 1 := h; omega))))
  have R : Hid (KRet (.returned (.tuple #[.agg #[.slice a0 n0 c0, .int .i64 t, .slice a2 n2 c2, .slice (some ⟨g, 0, none⟩) m c3, .slice r (n4 + nr) d, .int .i64 no, .int .i64 ut], .bool true])) w Y F true (src, t, pd, ps, ou ++ rw0, no, ut)) := Hid.mk
    ⟨a0, n0, c0, a2, n2, c2, some ⟨g, 0, none⟩, m, c3, r, n4 + nr, d, rfl, RSink.own_mk (F0 := F0) (F2 := F2) (F3 := F3) (F4 := fun b => F4 b ∨ (w.heap.size ≤ b ∧ b < Y.heap.size))
      (RInts.ownOff h0 HY2.out (fun b k q => q.elim (fun q => q.elim (d03 b k) (d04 b k)) (fun q => by have := hF b (f0 b k); omega)))
      (RInts.ownOff h2 HY2.out (fun b k q => q.elim (fun q => q.elim (d23 b k) (d24 b k)) (fun q => by have := hF b (f2 b k); omega)))
      ⟨some ⟨g, 0, none⟩, m, c3, _, _, rfl, HLD.out.frame (fun b k hb => HF4Y.out.block b hb (fun q => q.elim (d34 b k) (fun q => by have := hF b (f3 b k); omega)))⟩
      (RInts.own_iff.2 ⟨by rw [List.length_append, HL4.out, HLR.out], by omega, by
        rw [List.map_append]
        exact ownsRow_frame HOW.out (fun b hb _ => S.block b (by have := (HOW.out.lt b hb).2; omega) (fun e => by have h2 : b = w.heap.size + 1 := e; exact HNB.out b hb h2)), fun b hb => (HAT.out b hb).imp id (fun h => ⟨by omega, by omega⟩)⟩)
      (fun b h => .inl (f0 b h)) (fun b h => .inl (f2 b h)) (fun b h => .inl (f3 b h)) (fun b h => h.elim (fun h => .inl (f4 b h)) .inr) d02 d03 (fun b h k => k.elim (d04 b h) (fun k => by have := hF b (f0 b h); omega)) d23 (fun b h k => k.elim (d24 b h) (fun k => by have := hF b (f2 b h); omega)) (fun b h k => k.elim (d34 b h) (fun k => by have := hF b (f3 b h); omega)),
      Off.cut (HY2.out.mono (fun b h => h.elim (fun h => .inl (h.elim (f3 b) (f4 b))) .inr))⟩
  have HY := Hid.mk hY
  clear S hY zY HO HO4 HOW HLD k0 k1
  go_wp2
  refine bodyPost_ret (v := .tuple #[.agg #[.slice a0 n0 c0, .int .i64 t, .slice a2 n2 c2, .slice (some ⟨g, 0, none⟩) m c3, .slice r (n4 + nr) d, .int .i64 no, .int .i64 ut], .bool true]) (by simp [results, Try.results40, go_sem, y0, y1, y2, y3, y4, y5, y6]) rfl ?_
  have h := R.out
  rw [HY.out] at h
  exact h

end Go.Proofs.Ytmbjmmnodcebbaa

/- Plain: all that is stored is given out, one by one; recovering. -/
namespace Go.Proofs.Ytmbjmmnodcebbaa
open Go.RowKit

def cmK : TSink → TSink × Bool
  | (src, t, pd, [], ou, la, up) => ((src, t, pd, [], ou, la, up), false)
  | (src, t, pd, p :: ps, ou, _, _) => ((src, t, pd, ps, ou ++ p.2.2, p.1, p.2.1), true)
/-- What is within bounds while it is given out. -/
def PK (x : TSink) : Prop := x.2.2.2.1.length ≤ 4 ∧ (∀ p ∈ x.2.2.2.1, p.2.2.length ≤ 30) ∧ x.2.2.2.2.1.length + 30 * x.2.2.2.1.length ≤ 150
def muK (x : TSink) : Nat := x.2.2.2.1.length
theorem cmK_step (x : TSink) (hp : PK x) (h : (cmK x).2 = true) : PK (cmK x).1 ∧ muK (cmK x).1 + 1 = muK x := by
  obtain ⟨src, t, pd, ps, ou, la, up⟩ := x
  cases ps with
  | nil => cases h
  | cons p ps =>
    obtain ⟨h1, h2, h3⟩ := hp
    have hr := h2 p (by simp)
    simp only [List.length_cons] at h1 h3
    refine ⟨⟨?_, fun q hq => h2 q (List.mem_cons_of_mem _ hq), ?_⟩, ?_⟩
    · show ps.length ≤ 4; omega
    · show (ou ++ p.2.2).length + 30 * ps.length ≤ 150
      rw [List.length_append]; omega
    · show ps.length + 1 = (p :: ps).length
      simp
theorem pgsB_rows {src : List Int} {t : Int} : ∀ {no u : Int} {ps : List TPrepared}, src.length ≤ 30 → pgsB src t no u ps = true → ∀ p ∈ ps, p.2.2.length ≤ 30
  | _, _, [], _, _, p, hp => by cases hp
  | no, u, q :: ps, hs, h, p, hp => by
    unfold pgsB pgB at h
    simp only [Bool.and_eq_true, decide_eq_true_eq] at h
    rcases List.mem_cons.1 hp with rfl | hp
    · rw [h.1.2]
      unfold seg
      rw [List.length_take, List.length_drop]
      omega
    · exact pgsB_rows hs h.2 p hp
theorem gk_PK {src : List Int} {t : Int} {pd : List Int} {ps : List TPrepared} {ou : List Int} {la up : Int} (h : gkB (src, t, pd, ps, ou, la, up) = true) : PK (src, upF up ps, [], ps, ou, la, up) := by
  obtain ⟨h1, _, _, _, _, _, _, h8, _, h10, _, _⟩ := gk_parts h
  have ho := (gk_out h).2
  refine ⟨h8, pgsB_rows h1 h10, ?_⟩
  show ou.length + 30 * ps.length ≤ 150
  omega
theorem commit_step : StepK 40 cmK PK := by
  intro F a0 n0 c0 a2 n2 c2 a3 n3 c3 a4 n4 c4 t la up src pd ps ou w hp hF ho
  cases ps with
  | nil =>
    obtain rfl : 0 = n3 := (RSink.lens ho).2.2.2.2.1
    refine (commit_no F a0 n0 c0 a2 n2 c2 a3 c3 a4 n4 c4 t la up src pd ou w ho).mono ?_
    rintro e w' ⟨h, hb⟩
    exact ⟨h, fun _ => hb⟩
  | cons p ps =>
    obtain ⟨no, ut, rw0⟩ := p
    obtain ⟨h1, h2, h3⟩ := hp
    simp only [List.length_cons] at h1 h3
    have hl := (RSink.lens ho).2.2.2.2.1
    have hl4 := (RSink.lens ho).2.2.2.2.2.2.1
    obtain ⟨_, _, F3, _, _, _, ⟨a, n, c, cells, G, hcs, hL⟩, _⟩ := RSink.own_iff ho
    simp only [List.cons.injEq, Value.slice.injEq, and_true] at hcs
    obtain ⟨rfl, rfl, rfl⟩ := hcs
    obtain ⟨g, rfl⟩ : ∃ g, a3 = some ⟨g, 0, none⟩ := by
      rcases hL.outer.2 with ⟨_, h0⟩ | ⟨g, cap, cur, hv, _⟩
      · rw [← hl] at h0; simp at h0
      · simp only [Value.slice.injEq, true_and] at hv
        exact ⟨g, hv.1⟩
    obtain rfl : ps.length + 1 = n3 := by simpa using hl
    have hrw := h2 (no, ut, rw0) (by simp)
    simp only at hrw
    refine (commit_yes F a0 n0 c0 a2 n2 c2 g ps.length c3 a4 n4 c4 t la up src pd no ut rw0 ps ou w hF (by omega) (by omega) (by omega) ho).mono ?_
    intro e w' h
    exact ⟨h, fun h => by cases h⟩

def crK (x : TSink) : TSink := (x.1, upF x.2.2.2.2.2.2 x.2.2.2.1, [], x.2.2.2.1, x.2.2.2.2.1, x.2.2.2.2.2.1, x.2.2.2.2.2.2)
def recX (x : TSink) : TSink := if gkB x then (itK cmK (muK (crK x)) (crK x)).1 else newK []
def recN (x : TSink) : Int := if gkB x then ((itK cmK (muK (crK x)) (crK x)).2 : Nat) else 0
theorem Off.belowOf {F : Nat → Prop} {a b : World} {B : Nat} (h : Off F a b) (hF : ∀ b, F b → B ≤ b) (hB : B ≤ a.heap.size) : Below B a b := ⟨h.os, h.tape, h.output, h.size, fun k hk => h.block k (by omega) (fun e => by have := hF k e; omega)⟩

end Go.Proofs.Ytmbjmmnodcebbaa
