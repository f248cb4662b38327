/- Several texts of one proof, in build order: SortF, SixK, InOrder, RowOf, Tell, GoodTI, NewT, Alike, AddT, ScaleT, SpecT. -/
import Derived.Test.YtlfljfmhhnoinabM12
import Derived.Test.YtlfljfmhhnoinabShelf
import Derived.Shelf.SlSortCmp.NoneTotal
import Derived.Test.YtlfljfmhhnoinabM11
import Derived.Deep.AppendLies
import Derived.Test.YtlfljfmhhnoinabM6
import Derived.Deep.RegionLaw
import Derived.Test.YtlfljfmhhnoinabM9

/- slices.SortFunc at arrays of six ints, by the shelf's contract; the row behind it. -/
namespace Go.Proofs.Ytlfljfmhhnoinab
open Go.RowKit Go.Shelf Go.Sort

/-- The six-number arrays in the order of cmp. -/
def sorted (ks : List Six) : List Six := ks.mergeSort fun x y => !(ltOf Six.cf) y x

theorem sorted_perm (ks : List Six) : (sorted ks).Perm ks := List.mergeSort_perm _ _
theorem sorted_rises {ks : List Six} (h : ks.Nodup) : (sorted ks).Pairwise fun x y => cmp (Six.list x) (Six.list y) < 0 := by
  have h1 : (sorted ks).Pairwise fun x y => (!(ltOf Six.cf) y x) = true := List.pairwise_mergeSort (fun a b c hab hbc => by
      simp only [Bool.not_eq_true'] at *
      exact Six.swo.ntrans c b a hbc hab) (fun a b => by
      simp only [Bool.or_eq_true, Bool.not_eq_true']
      by_cases e : (ltOf Six.cf) b a = true
      · right
        cases e2 : (ltOf Six.cf) a b with
        | false => rfl
        | true => have := Six.swo.trans a b a e2 e; rw [Six.swo.irrefl] at this; cases this
      · left; simpa using e) ks
  have h2 : (sorted ks).Nodup := (sorted_perm ks).nodup_iff.2 h
  refine (h1.and h2).imp fun {x y} ⟨hxy, hne⟩ => ?_
  simp only [Bool.not_eq_true'] at hxy
  rw [Six.lt, decide_eq_false_iff_not] at hxy
  have hs := cmp_swap (Six.list x) (Six.list y)
  have hn : cmp (Six.list x) (Six.list y) ≠ 0 := fun e => hne (Six.list_inj (cmp_eq e))
  omega

theorem six_get (x : Six) (t : Nat) (h : t < 6) : (Six.enc x)[t]? = some ((Six.enc x)[t]!) := by
  have : (Six.enc x).length = 6 := rfl
  rw [List.getElem?_eq_getElem (by omega), getElem!_pos _ _ (by omega)]
theorem flat_get (l : List Six) : ∀ t, t < l.length * 6 → (l.flatMap Six.enc)[t]? = some ((Six.enc (l.toArray[t / 6]!))[t % 6]!) := by
  induction l with
  | nil => intro t h; simp at h
  | cons x l ih =>
    intro t h
    have hx : (Six.enc x).length = 6 := rfl
    rw [List.flatMap_cons]
    by_cases h6 : t < 6
    · rw [List.getElem?_append_left (by omega), six_get x t h6, show t / 6 = 0 by omega, show t % 6 = t by omega]
      simp
    · simp only [List.length_cons] at h
      rw [List.getElem?_append_right (by omega), hx, ih (t - 6) (by omega), show (t - 6) % 6 = t % 6 by omega, show t / 6 = (t - 6) / 6 + 1 by omega]
      simp
theorem flat_length (l : List Six) : (l.flatMap Six.enc).length = l.length * 6 := by
  induction l with
  | nil => rfl
  | cons x l ih => rw [List.flatMap_cons, List.length_append, ih]; simp [Six.enc]; omega

theorem holdsK_of_own {w : World} {base g n c : Nat} {e : TypeId} {ks : List Six} (hn : ks.length = n) (h : w.ownsRow base e 6 (.slice (some ⟨g, 0, none⟩) n c) n (ks.flatMap Six.enc)) : HoldsK Six.enc 6 w g 0 ks.toArray := by
  intro j hj
  rw [size_flatK] at hj
  have hj' : j < n * 6 := by simpa [hn] using hj
  refine ⟨?_, by rw [Nat.zero_add]; exact h.frozenAt j⟩
  rw [Nat.zero_add, h.cellAt j hj', flat_get ks j (by omega), get_flatK _ _ _ _ hj]
  rfl

theorem owns_sorted {w : World} {base g n c m : Nat} {e : TypeId} {os : Array Obj} {ks ts : List Six} (ht : ts.length = n) (h : w.ownsRow base e 6 (.slice (some ⟨g, 0, none⟩) n c) n (ks.flatMap Six.enc)) :
    (sortWorldK Six.enc 6 w g 0 m ts.toArray os).ownsRow base e 6 (.slice (some ⟨g, 0, none⟩) n c) n (ts.flatMap Six.enc) ∧ w.grownBy (sortWorldK Six.enc 6 w g 0 m ts.toArray os) (some g) := by
  rcases h.2 with ⟨hv, _⟩ | ⟨g', cap, cur, hv, hbase, hb, h1, h2, h3, h4⟩
  · simp at hv
  · simp only [Value.slice.injEq, Option.some.injEq, Addr.mk.injEq, and_true, true_and] at hv
    obtain ⟨rfl, rfl⟩ := hv
    have hg : g < w.heap.size := (Array.getElem?_eq_some_iff.1 hb).1
    have hsz : (putRow id (Sort.ahead w m) g 0 (flatK Six.enc 6 ts.toArray)).heap.size = w.heap.size := by simp [putRow, mapBlock, Sort.ahead]
    refine ⟨⟨by rw [flat_length, ht], .inr ⟨g, c, putCells id 0 (flatK Six.enc 6 ts.toArray) cur, rfl, hbase, ?_, h1, h2, by simp [putCells, h3], ?_⟩⟩, rfl, rfl, rfl, ?_, fun k hk hne => ?_⟩
    · unfold sortWorldK putRowK
      rw [heap_grow_old _ _ (by rw [hsz]; exact hg)]
      simp [putRow, mapBlock, Sort.ahead, Array.getElem?_modify, hb, onCells]
    · apply List.ext_getElem?
      intro j
      have hlf := flat_length ts
      by_cases hj : j < n * 6
      · rw [List.getElem?_take_of_lt hj, Array.getElem?_toList, flat_get ts j (by omega)]
        have hjc : j < cur.size := by rw [h3]; exact Nat.lt_of_lt_of_le hj (Nat.mul_le_mul_right 6 h1)
        have hjd : j < ts.length * 6 := by omega
        have hfk := get_flatK Six.enc 6 ts.toArray j (by simpa using hjd)
        simp only [putCells, Array.getElem?_mapIdx, Array.getElem?_eq_getElem hjc, Option.map_some]
        rw [if_pos ⟨Nat.zero_le _, by rw [size_flatK]; simpa using hjd⟩]
        simp only [id, Nat.sub_zero]
        rw [hfk]
      · rw [List.getElem?_eq_none (by rw [List.length_take]; omega), List.getElem?_eq_none (by omega)]
    · unfold sortWorldK putRowK
      simp [grow, hsz]
    · unfold sortWorldK putRowK
      rw [heap_grow_old _ _ (by rw [hsz]; exact hk)]
      have : g ≠ k := fun e => hne (by rw [e])
      simp [putRow, mapBlock, Sort.ahead, Array.getElem?_modify, this]

theorem sortFunc_any (g n cap base : Nat) (e : TypeId) (ks : List Six) (w : World) (hn : ks.length = n) (h1000 : n ≤ 1048576) (h : w.ownsRow base e 6 (.slice (some ⟨g, 0, none⟩) n cap) n (ks.flatMap Six.enc)) :
    Calls Try.prog 131 #[.slice (some ⟨g, 0, none⟩) n cap, .func (.func 96) #[] #[]] w fun e' w' => e' = .returned (.tuple #[]) ∧
      w'.ownsRow base e 6 (.slice (some ⟨g, 0, none⟩) n cap) n ((sorted ks).flatMap Six.enc) ∧ w.grownBy w' (some g) := by
  have eg : ∀ args w, (callFunc 96 args).run Try.prog w = .ok (.enter 96 args) w := enters_of Try.func96 (by kernel_rfl) rfl
  have hd : ks.toArray.size = n := by simpa using hn
  have hcon := AnyQ.slices_SortFunc_total Try.sortA 6 Try.isAgg111 Try.sizeOf111 Six.enc (fun _ => rfl) (fun x v hv => by simp [Six.enc] at hv; rcases hv with rfl | rfl | rfl | rfl | rfl | rfl <;> rfl) Six.cf Six.swo 96 #[] g 0 cap ks.toArray w eg (Six.lays g 0 ks.toArray.size w) (holdsK_of_own hn h) ((h.lt g rfl).2) (by rw [hd]; omega) Six.total
  rw [hd] at hcon
  refine Calls.mono hcon ?_
  rintro e' w' ⟨rfl, m, os, rfl⟩
  have hs : (sorted ks).length = n := by rw [(sorted_perm ks).length_eq]; exact hn
  exact ⟨rfl, owns_sorted hs h⟩

theorem sortNone_any (p : Option Addr) (cap : Nat) (fv : Value) (w : World) :
    Calls Try.prog 131 #[.slice p 0 cap, fv] w fun e w' => e = .returned (.tuple #[]) ∧ w' = w := AnyF.slices_SortFunc_none Try.sortA p cap fv w

end Go.Proofs.Ytlfljfmhhnoinab

/- Arrays of six numbers as keys. -/
namespace Go.Proofs.Ytlfljfmhhnoinab
open Go.RowKit Go.Maps

/-- Six numbers as an array's value. -/
def Six.val (x : Six) : Value := .agg #[.int .i64 x.1, .int .i64 x.2.1, .int .i64 x.2.2.1, .int .i64 x.2.2.2.1, .int .i64 x.2.2.2.2.1, .int .i64 x.2.2.2.2.2]
theorem six_of {zs : List Int} (h : zs.length = 6) : ∃ x : Six, Six.list x = zs := by
  obtain ⟨x0, x1, x2, x3, x4, x5, rfl⟩ := list6 h
  exact ⟨(x0, x1, x2, x3, x4, x5), rfl⟩
theorem six_key {key : Value} {kl : Lit} (h : keyOf Try.prog 111 key = some kl) : ∃ x : Six, key = Six.val x := by
  obtain ⟨zs, hf, rfl, _⟩ := keyOf_arr_inv h
  obtain ⟨x, rfl⟩ := six_of hf.1
  exact ⟨x, rfl⟩
theorem Try.infoA : (Try.prog.info? 111).map (fun i => (i.zero, i.size, i.bytes)) = some (some (.agg #[.int .i64 0, .int .i64 0, .int .i64 0, .int .i64 0, .int .i64 0, .int .i64 0]), 6, 48) := by kernel_rfl

theorem six_later {w w' : World} {Z : Nat} {x0 x1 x2 x3 x4 x5 : Int} (hb : Below w.heap.size w w') (h : w.cell? ⟨Z, 0, none⟩ = some (.int .i64 x0) ∧ w.cell? ⟨Z, 1, none⟩ = some (.int .i64 x1) ∧ w.cell? ⟨Z, 2, none⟩ = some (.int .i64 x2) ∧ w.cell? ⟨Z, 3, none⟩ = some (.int .i64 x3) ∧ w.cell? ⟨Z, 4, none⟩ = some (.int .i64 x4) ∧ w.cell? ⟨Z, 5, none⟩ = some (.int .i64 x5)) : w'.cell? ⟨Z, 0, none⟩ = some (.int .i64 x0) ∧ w'.cell? ⟨Z, 1, none⟩ = some (.int .i64 x1) ∧ w'.cell? ⟨Z, 2, none⟩ = some (.int .i64 x2) ∧ w'.cell? ⟨Z, 3, none⟩ = some (.int .i64 x3) ∧ w'.cell? ⟨Z, 4, none⟩ = some (.int .i64 x4) ∧ w'.cell? ⟨Z, 5, none⟩ = some (.int .i64 x5) :=
  ⟨cell_later hb h.1, cell_later hb h.2.1, cell_later hb h.2.2.1, cell_later hb h.2.2.2.1, cell_later hb h.2.2.2.2.1, cell_later hb h.2.2.2.2.2⟩
theorem six_grown {w w' : World} {Z : Nat} {x0 x1 x2 x3 x4 x5 : Int} {row : Option Nat} (hg : w.grownBy w' row) (hne : some Z ≠ row) (h : w.cell? ⟨Z, 0, none⟩ = some (.int .i64 x0) ∧ w.cell? ⟨Z, 1, none⟩ = some (.int .i64 x1) ∧ w.cell? ⟨Z, 2, none⟩ = some (.int .i64 x2) ∧ w.cell? ⟨Z, 3, none⟩ = some (.int .i64 x3) ∧ w.cell? ⟨Z, 4, none⟩ = some (.int .i64 x4) ∧ w.cell? ⟨Z, 5, none⟩ = some (.int .i64 x5)) : w'.cell? ⟨Z, 0, none⟩ = some (.int .i64 x0) ∧ w'.cell? ⟨Z, 1, none⟩ = some (.int .i64 x1) ∧ w'.cell? ⟨Z, 2, none⟩ = some (.int .i64 x2) ∧ w'.cell? ⟨Z, 3, none⟩ = some (.int .i64 x3) ∧ w'.cell? ⟨Z, 4, none⟩ = some (.int .i64 x4) ∧ w'.cell? ⟨Z, 5, none⟩ = some (.int .i64 x5) :=
  ⟨hg.cell h.1 hne, hg.cell h.2.1 hne, hg.cell h.2.2.1 hne, hg.cell h.2.2.2.1 hne, hg.cell h.2.2.2.2.1 hne, hg.cell h.2.2.2.2.2 hne⟩


/-- The row that an array was made of. -/
def unr (q : Nat) (l : List Int) : List Int := (l.take q).map (· - 100001)
theorem unr_raised (zs : List Int) : unr zs.length (raised zs) = zs := by
  unfold unr raised
  rw [List.take_append_of_le_length (by simp), List.take_of_length_le (by simp), List.map_map]
  conv => rhs; rw [← List.map_id zs]
  exact List.map_congr_left fun x _ => by simp only [Function.comp, id]; omega

end Go.Proofs.Ytlfljfmhhnoinab

/- Contract of impl.weights.inOrder. -/
namespace Go.Proofs.Ytlfljfmhhnoinab
open Go.RowKit Go.Maps

/-- The arrays that the range has passed, those with a weight. -/
structure Passed (D : DataW Unit) (f : List Int → Int) (left : Lit → Bool) (ks : List Six) : Prop where
  fits : ∀ x ∈ ks, Fits (Six.list x)
  once : ks.Nodup
  just : ∀ x : Six, Fits (Six.list x) → (x ∈ ks ↔ (Maps.has D (klit (Six.list x)) = true ∧ left (klit (Six.list x)) = false ∧ f (Six.list x) ≠ 0))

theorem Passed.start (D : DataW Unit) (f : List Int → Int) : Passed D f (Maps.has D) [] := ⟨by simp, by simp, fun x _ => by
  constructor
  · intro h; cases h
  · rintro ⟨h1, h2, _⟩; rw [h1] at h2; cases h2⟩

theorem Passed.step {D : DataW Unit} {f : List Int → Int} {left : Lit → Bool} {ks : List Six} (h : Passed D f left ks) {x : Six} (hx : Fits (Six.list x)) (hl : left (klit (Six.list x)) = true) (hh : Maps.has D (klit (Six.list x)) = true) :
    (f (Six.list x) ≠ 0 → Passed D f (fun z => left z && !z.sameKey (klit (Six.list x))) (ks ++ [x])) ∧ (f (Six.list x) = 0 → Passed D f (fun z => left z && !z.sameKey (klit (Six.list x))) ks) := by
  have hself : (klit (Six.list x)).sameKey (klit (Six.list x)) = true := WideAt.sameKey_self (klit_key hx)
  have hoth : ∀ y : Six, Fits (Six.list y) → y ≠ x → (klit (Six.list y)).sameKey (klit (Six.list x)) = false := fun y hy hne =>
    sameKey_ne (fun e => hne (Six.list_inj (klit_inj hy hx e)))
  have hnot : x ∉ ks := fun hm => by have := ((h.just x hx).1 hm).2.1; rw [hl] at this; cases this
  refine ⟨fun hf => ⟨fun y hy => ?_, ?_, fun y hy => ?_⟩, fun hf => ⟨h.fits, h.once, fun y hy => ?_⟩⟩
  · rcases List.mem_append.1 hy with h1 | h1
    · exact h.fits y h1
    · obtain rfl : y = x := by simpa using h1
      exact hx
  · rw [List.nodup_append]
    exact ⟨h.once, by simp, fun a ha b hb e => by obtain rfl : b = x := by simpa using hb
                                                  exact hnot (e ▸ ha)⟩
  · by_cases e : y = x
    · subst e
      simp [hself, hh, hf]
    · have := h.just y hy
      simp only [List.mem_append, List.mem_singleton, e, or_false, hoth y hy e, Bool.not_false, Bool.and_true]
      exact this
  · by_cases e : y = x
    · subst e
      simp [hself, hf, hnot]
    · have := h.just y hy
      simp only [hoth y hy e, Bool.not_false, Bool.and_true]
      exact this

end Go.Proofs.Ytlfljfmhhnoinab

/- Contract of impl.rowOf. -/
namespace Go.Proofs.Ytlfljfmhhnoinab
open Go.RowKit

set_option maxHeartbeats 2000000 in
theorem rowOf_any (x0 x1 x2 x3 x4 x5 : Int) (zs : List Int) (n : Nat) (w : World) (hz : zs.length = n) (hg : good zs = true) (hr : raised zs = [x0, x1, x2, x3, x4, x5]) :
    Calls Try.prog 117 #[.agg #[.int .i64 x0, .int .i64 x1, .int .i64 x2, .int .i64 x3, .int .i64 x4, .int .i64 x5], .int .i64 n] w fun e w' => ∃ r d, e = .returned (.agg #[.slice r n d]) ∧
      w'.ownsRow w.heap.size 3 1 (.slice r n d) n (zs.map (.int .i64)) ∧ Below w.heap.size w w' := by
  have h6 : n ≤ 6 := by have := good_len hg; omega
  have HR := Hid.mk hr
  have HG := Hid.mk hg
  have HZ := Hid.mk hz
  clear hr hg hz
  have hn0 : (0 : Int) ≤ n := by omega
  have hn6 : (n : Int) ≤ 6 := by omega
  obtain ⟨i0, hi, hz0, hz1, hz2⟩ := info_parts Try.infoInt
  obtain ⟨W, hW⟩ : ∃ W, W = ((w.alloc (.cells #[.int .i64 x0, .int .i64 x1, .int .i64 x2, .int .i64 x3, .int .i64 x4, .int .i64 x5] 111)).alloc (.cells #[.slice none 0 0] 67)).alloc (.cells #[.slice none 0 0] 67) := ⟨_, rfl⟩
  have B : Below w.heap.size w W := by rw [hW]; exact (((Below.refl _ _).alloc (Nat.le_refl _) _).alloc (by simp) _).alloc (by simp; omega) _
  have A1 : Arr W w.heap.size 111 (raised zs) := by rw [hW, HR.out]; exact ((Arr.new rfl (by simp)).alloc _).alloc _
  have q1 : W.heap[w.heap.size + 1]? = some (.cells #[.slice none 0 0] 67 (0, 0)) := by
    rw [hW]
    refine (Below.heap_alloc _ _ _ (by simp)).trans ?_
    have := heap_alloc_new (w.alloc (.cells #[.int .i64 x0, .int .i64 x1, .int .i64 x2, .int .i64 x3, .int .i64 x4, .int .i64 x5] 111)) (.cells #[.slice none 0 0] 67)
    rwa [World.size_alloc] at this
  have c1 : W.cell? ⟨w.heap.size + 1, 0, none⟩ = some (.slice none 0 0) := by rw [cell_of_row W _ 0 _ _ (0, 0) q1]; rfl
  have f1 : W.frozen? ⟨w.heap.size + 1, 0, none⟩ = false := frozen_of_row W _ 0 _ _ q1
  clear q1
  have V0 : RowVar W (w.heap.size + 1 + 1) 67 (w.heap.size + 1 + 1 + 1) 3 none 0 0 (zs.take 0) := by rw [hW]; exact RowVar.new (by simp) (by omega)
  have zW : W.heap.size = w.heap.size + 1 + 1 + 1 := by rw [hW]; simp
  have hl6 := raised_length (good_len HG.out)
  go_enter Try.func117, Try.ntmps117
  go_wp2
  rw [← hW]
  clear hW
  go_loopw [11] (fun i wr => ∃ (k : Nat) (r : Option Addr) (d : Nat), k ≤ n ∧ i = .int .i64 k ∧ RowVar wr (w.heap.size + 1 + 1) 67 (w.heap.size + 1 + 1 + 1) 3 r k d (zs.take k) ∧ Below (w.heap.size + 1 + 1) W wr) (fun i _ => n - (intOf i).toNat)
  case atStart => exact ⟨0, none, 0, Nat.zero_le _, rfl, V0, Below.refl _ _⟩
  case round =>
    clear V0
    obtain ⟨k, r, d, hk, rfl, hv, hbw⟩ := hrel
    have zR : w.heap.size + 1 + 1 < wr.heap.size := by have := hbw.size; omega
    by_cases hlt : k < n
    · have hcx := (A1.below hbw (by omega)).cell k (by omega)
      have hgk := good_cell HG.out k (by have := HZ.out; omega)
      have hx : (raised zs).getD k 0 = zs.getD k 0 + 100001 := by
        have : k < zs.length := by have := HZ.out; omega
        simp [raised, List.getD, List.getElem?_append, this]
      rw [hx] at hcx
      have HS := Hid.mk (take_succ_getD zs k (by have := HZ.out; omega))
      obtain ⟨y, hy⟩ : ∃ y, y = zs.getD k 0 := ⟨_, rfl⟩
      rw [← hy] at hcx HS hgk
      obtain ⟨hy1, hy2⟩ := hgk
      have hki : (k : Int) < (n : Int) := by omega
      have hcr := hv.cell
      have hfr := hv.frozen
      clear hy hx A1 c1 f1
      go_wp2_with (at_builtin; refine wpList_append_lies _ rfl (.tmp 16) (.tmp 20) 25 rfl (w.heap.size + 1 + 1 + 1) 3 i0 (.int .i64 0) 1 8 Try.underlying25 hi hz0 hz1 hz2 rfl (by decide) _ _ _ rfl (hv.own.alloc _) ⟨wr.heap.size, 0, none⟩ 1 1 [.int .i64 y] (by simp [Act.eval]) rfl (by have q : y + 100001 - 100000 - 1 = y := (by omega); simpa [q] using news_at wr #[.int .i64 y] 3) (by simp; rfl) (by decide) (by unfold maxLen; omega) (by omega) (by simp; omega) (wr.heap.size + 1) (by simp) ?_; intro g2 cap2 w4 hown4 hgrow4 _ _; obtain ⟨t1, t2, hv4⟩ := hv.pushed hown4 hgrow4)
      have HB := Hid.mk (hv.pushed_below (v := .slice (some ⟨g2, 0, none⟩) (k + 1) cap2) hgrow4 hbw (Nat.le_refl _))
      rw [← HS.out] at hv4
      have HV := Hid.mk hv4
      clear hv4 hown4 hgrow4 hv hbw t1 t2
      go_roundw
      case rel => exact ⟨k + 1, _, _, by omega, by go_num, HV.out, HB.out⟩
      case measure => simp [intOf]; omega
    · obtain rfl : k = n := by omega
      have htk : zs.take k = zs := List.take_of_length_le (by have := HZ.out; omega)
      rw [htk] at hv
      clear htk
      have hcr := hv.cell
      have e1 := (hbw.cell (p := ⟨w.heap.size + 1, 0, none⟩) (by simp)).trans c1
      have e2 := (hbw.frozen (p := ⟨w.heap.size + 1, 0, none⟩) (by simp)).trans f1
      clear c1 f1 A1
      go_wp2
      refine bodyPost_ret (v := .agg #[.slice r k d]) (by simp [results, Try.results117, go_sem, e1]) rfl ⟨r, d, rfl, ?_, ?_⟩
      · exact owns_mono (ownsRow_setCell_below (base := w.heap.size + 1 + 1 + 1) hv.own (show w.heap.size + 1 < w.heap.size + 1 + 1 + 1 by omega) _) (by omega)
      · exact (B.trans (hbw.mono (by omega))).setCell (by simp) _

end Go.Proofs.Ytlfljfmhhnoinab

/- Contract of impl.weights.table. -/
namespace Go.Proofs.Ytlfljfmhhnoinab
open Go.RowKit Go.Maps

def rowsOf (q : Nat) (f : List Int → Int) (ks : List Six) : List WRow := ks.map fun x => (unr q (Six.list x), f (Six.list x))
theorem Tells.of {D : DataW Unit} {q : Nat} {f : List Int → Int} {S : List (List Int)} {ks : List Six} (hm : MapIs D f S) (hS : Keys q S) (hrise : ks.Pairwise fun x y => cmp (Six.list x) (Six.list y) < 0) (hfit : ∀ x ∈ ks, Fits (Six.list x))
    (hjust : ∀ x : Six, Fits (Six.list x) → (x ∈ ks ↔ (Maps.has D (klit (Six.list x)) = true ∧ f (Six.list x) ≠ 0))) (hnot : ∀ a, Fits a → Maps.has D (klit a) = false → f a = 0) :
    Tells q f (rowsOf q f ks) ∧ ∀ x ∈ ks, ∃ zs, good zs = true ∧ zs.length = q ∧ Six.list x = raised zs := by
  have hrow : ∀ x ∈ ks, ∃ zs, good zs = true ∧ zs.length = q ∧ Six.list x = raised zs := fun x hx => by
    have h1 := ((hjust x (hfit x hx)).1 hx).1
    rw [(hm _ (hfit x hx)).2] at h1
    exact hS _ (of_decide_eq_true h1)
  have hun : ∀ x ∈ ks, good (unr q (Six.list x)) = true ∧ (unr q (Six.list x)).length = q ∧ raised (unr q (Six.list x)) = Six.list x := fun x hx => by
    obtain ⟨zs, h1, h2, h3⟩ := hrow x hx
    have h4 : unr q (Six.list x) = zs := by rw [h3, ← h2, unr_raised]
    rw [h4, h3]; exact ⟨h1, h2, rfl⟩
  refine ⟨⟨?_, ?_, ?_, ?_⟩, hrow⟩
  · unfold Rises rowsOf
    rw [List.pairwise_map]
    refine hrise.imp_of_mem fun {x y} hx hy h => ?_
    show cmp (unr q (Six.list x)) (unr q (Six.list y)) < 0
    rw [← cmp_raised (hun x hx).1 (hun y hy).1, (hun x hx).2.2, (hun y hy).2.2]
    exact h
  · intro t ht
    obtain ⟨x, hx, rfl⟩ := List.mem_map.1 ht
    exact ((hjust x (hfit x hx)).1 hx).2
  · intro t ht
    obtain ⟨x, hx, rfl⟩ := List.mem_map.1 ht
    exact ⟨(hun x hx).1, (hun x hx).2.1⟩
  · intro zs hg hl
    have hF := fits_raised hg
    obtain ⟨x, hx⟩ := six_of hF.1
    have hrs : Rises (rowsOf q f ks) := by
      unfold Rises rowsOf
      rw [List.pairwise_map]
      refine hrise.imp_of_mem fun {x y} hx hy h => ?_
      show cmp (unr q (Six.list x)) (unr q (Six.list y)) < 0
      rw [← cmp_raised (hun x hx).1 (hun y hy).1, (hun x hx).2.2, (hun y hy).2.2]
      exact h
    by_cases h : x ∈ ks
    · have hmem : ((unr q (Six.list x), f (Six.list x)) : WRow) ∈ rowsOf q f ks := List.mem_map.2 ⟨x, h, rfl⟩
      have := wOf_mem hrs hmem
      simp only at this
      rw [hx] at this
      have h6 : unr q (raised zs) = zs := by rw [← hl, unr_raised]
      rwa [h6] at this
    · have h0 : f (raised zs) = 0 := by
        rw [← hx] at hF ⊢
        cases hh : Maps.has D (klit (Six.list x)) with
        | false => exact hnot _ hF hh
        | true =>
          by_cases e : f (Six.list x) = 0
          · exact e
          · exact absurd ((hjust x hF).2 ⟨hh, e⟩) h
      rw [h0]
      refine wOf_absent fun t ht e => h ?_
      obtain ⟨y, hy, rfl⟩ := List.mem_map.1 ht
      have h5 := (hun y hy).2.2
      simp only at e
      rw [e] at h5
      have : Six.list x = Six.list y := hx.trans h5
      rw [Six.list_inj this]; exact hy

end Go.Proofs.Ytlfljfmhhnoinab

/- Contract of impl.GoodTable. -/
namespace Go.Proofs.Ytlfljfmhhnoinab
open Go.RowKit

set_option maxHeartbeats 4000000 in
theorem implGoodTable_any (a : Option Addr) (n c : Nat) (ts : List WRow) (p : Int) (w : World) (hz : ts.length = n) (hn : n ≤ 1048576) (ha : AtW w a ts) :
    Calls Try.prog 44 #[.agg #[.int .i64 p, .slice a n c]] w fun e w' => e = .returned (.bool (goodT p ts)) ∧ Below w.heap.size w w' := by
  have B0 : Below w.heap.size w (w.alloc (.cells #[.int .i64 p, .slice a n c] 32)) := (Below.refl _ _).alloc (Nat.le_refl _) _
  have HA := ha.below B0
  clear ha
  cases hi : inc p with
  | false =>
    have HI := Hid.mk hi
    clear hi
    go_enter Try.func44, Try.ntmps44
    go_wp2_with (go_at_call 94; refine (goodColumns_any _ _).mono ?_; rintro e w2 ⟨rfl, rfl⟩; rw [HI.out])
    go_ret
    exact ⟨ret_bool (goodT_col HI.out).symm, B0⟩
  | true =>
    have HI := Hid.mk hi
    clear hi
    by_cases h60 : n ≤ 60
    · cases hg : goodL p ts with
      | false =>
        have HG := Hid.mk hg
        clear hg
        go_enter Try.func44, Try.ntmps44
        go_wp2_with (first | (go_at_call 94; refine (goodColumns_any _ _).mono ?_; rintro e w2 ⟨rfl, rfl⟩; rw [HI.out]) | (go_at_call 95; refine (goodWeighted_any _ _ _ ts _ _ hz hn HA).mono ?_; rintro e w1 ⟨rfl, hb1⟩; rw [HG.out]))
        go_ret
        exact ⟨ret_bool (goodT_goodL HG.out).symm, B0.trans (hb1.mono B0.size)⟩
      | true =>
        have HG := Hid.mk hg
        clear hg
        have hL : ∀ k, k < n → goodW p (wat ts k) = true := fun k hk => goodL_at HG.out k (by omega)
        go_enter Try.func44, Try.ntmps44
        go_wp2_with (go_at_call 94; refine (goodColumns_any _ _).mono ?_; rintro e w2 ⟨rfl, rfl⟩; rw [HI.out])
        refine (goodWeighted_any _ _ _ ts _ _ hz hn HA).mono ?_
        rintro e w1 ⟨rfl, hb1⟩
        rw [HG.out]
        have B1 := B0.trans (hb1.mono B0.size)
        have ct := cell_later hb1 (pair1 w (.int .i64 p) (.slice a n c) 32)
        have HA1 := HA.below hb1
        clear hb1 HA B0
        go_wp2
        go_loopw [26] (fun i wr => ∃ (k : Nat), k ≤ n ∧ i = .int .i64 k ∧ (∀ j, j < k → stepB p ts j = true) ∧ Below w1.heap.size w1 wr) (fun i _ => n - (intOf i).toNat)
        case atStart => exact ⟨0, Nat.zero_le _, rfl, fun j hj => by omega, Below.refl _ _⟩
        case round =>
          obtain ⟨k, hk, rfl, hall, hbw⟩ := hrel
          have B2 := B1.trans (hbw.mono B1.size)
          by_cases hlt : k < n
          · obtain ⟨b, off, rfl, hc⟩ := (HA1.below hbw).some (by omega)
            obtain ⟨q, d, hcx, hwx, hm, hat⟩ := hc k (by omega)
            have hgk := goodW_cells (hL k hlt)
            have HN : Hid ((wat ts k).2 = 0 → goodT p ts = false) := fun h => goodT_not k (by omega) (stepB_zero h)
            have HC : Hid (k ≠ 0 → ¬ cmp (wat ts (k - 1)).1 (wat ts k).1 < 0 → goodT p ts = false) := fun h0 h => goodT_not k (by omega) (stepB_cmp h0 h)
            have HS : Hid ((wat ts k).2 ≠ 0 → (k = 0 ∨ cmp (wat ts (k - 1)).1 (wat ts k).1 < 0) → ∀ j, j < k + 1 → stepB p ts j = true) := fun h1 h2 j hj => by
              by_cases e : j = k
              · subst e; exact stepB_mk (hL j hlt) h1 h2
              · exact hall j (by omega)
            have ct2 := cell_later hbw ct
            have hki : (k : Int) < (n : Int) := by omega
            by_cases hk0 : k = 0
            · have HK := Hid.mk hk0
              have hnp : decide (0 < k) = false := decide_eq_false (by omega)
              generalize wat ts k = Y at *
              obtain ⟨ys, x⟩ := Y
              simp only at hcx hwx hat hm
              clear hc hall hat hgk hk0
              obtain ⟨m, hmm⟩ : ∃ m, ys.length = m := ⟨_, rfl⟩
              rw [hmm] at hcx hm
              clear hmm
              by_cases hx : x = 0
              · have hxx : (x == 0) = true := by simp [hx]
                have HX := Hid.mk hx
                clear hx
                go_wp2
                go_ret
                exact ⟨ret_bool (HN.out HX.out).symm, B2.alloc B2.size _⟩
              · have hxx : (x == 0) = false := by simp [hx]
                have HX := Hid.mk hx
                clear hx
                go_wp2
                go_quiet (fail)
                go_wp2
                go_roundw
                case rel => exact ⟨k + 1, by omega, by go_num, HS.out HX.out (.inl HK.out), below_drewN (hbw.alloc hbw.size _) _⟩
                case measure => simp [intOf]; omega
            · obtain ⟨q', d', hcx', _, _, hat'⟩ := hc (k - 1) (by omega)
              have hgk' := goodW_cells (hL (k - 1) (by omega))
              have hnp : 0 < k := by omega
              have hsub : IntKind.i64.wrap ((k : Int) - 1) = ((k - 1 : Nat) : Int) := (IntWalk.i64_in _ (by omega)).trans (by omega)
              have hlt1 : ((k - 1 : Nat) : Int) < (n : Int) := by omega
              obtain ⟨k', hk'⟩ : ∃ k', k' = k - 1 := ⟨_, rfl⟩
              have HK' := Hid.mk hk'
              rw [← hk'] at hcx' hat' hgk' hsub hlt1 HC HS
              generalize wat ts k = Y at *
              generalize wat ts k' = Y' at *
              obtain ⟨ys, x⟩ := Y
              obtain ⟨ys', x'⟩ := Y'
              simp only at hcx hwx hat hm hcx' hat' hgk hgk'
              have l1 := good_len hgk.1
              have l1' := good_len hgk'.1
              have HG1 := Hid.mk hgk.1
              have HG1' := Hid.mk hgk'.1
              clear hc hall hgk hgk' hk'
              obtain ⟨m, hmm⟩ : ∃ m, ys.length = m := ⟨_, rfl⟩
              obtain ⟨m', hmm'⟩ : ∃ m, ys'.length = m := ⟨_, rfl⟩
              rw [hmm] at hcx hm l1
              rw [hmm'] at hcx' l1'
              have HM := Hid.mk hmm
              have HM' := Hid.mk hmm'
              clear hmm hmm'
              by_cases hx : x = 0
              · have hxx : (x == 0) = true := by simp [hx]
                have HX := Hid.mk hx
                clear hx
                go_wp2
                go_ret
                exact ⟨ret_bool (HN.out HX.out).symm, B2.alloc B2.size _⟩
              · have hxx : (x == 0) = false := by simp [hx]
                have HX := Hid.mk hx
                clear hx
                have c1 := cell_later ((Below.refl wr.heap.size wr).alloc (Nat.le_refl _) (.cells #[.slice q m d, .int .i64 x] 69)) hcx'
                have c2 := cell_later ((Below.refl wr.heap.size wr).alloc (Nat.le_refl _) (.cells #[.slice q m d, .int .i64 x] 69)) ct2
                have c3 := pair0 wr (.slice q m d) (.int .i64 x) 69
                have HAx := hat.alloc (.cells #[.slice q m d, .int .i64 x] 69)
                have HAy := hat'.alloc (.cells #[.slice q m d, .int .i64 x] 69)
                have BW := B2.alloc B2.size (.cells #[.slice q m d, .int .i64 x] 69)
                have BV := hbw.alloc hbw.size (.cells #[.slice q m d, .int .i64 x] 69)
                obtain ⟨W, hW⟩ : ∃ W, W = wr.alloc (.cells #[.slice q m d, .int .i64 x] 69) := ⟨_, rfl⟩
                go_wp2
                rw [← hW] at c1 c2 c3 HAx HAy BW BV ⊢
                clear hW hcx hcx' hwx ct2 ct hat hat' HA1 hm
                go_region_held3 (fun w' => w'.cell? ⟨w.heap.size, 1, none⟩ = some (.slice (some ⟨b, off, none⟩) n c) ∧ w'.cell? ⟨b, off + k' * 2, none⟩ = some (.slice q' m' d') ∧ w'.cell? ⟨wr.heap.size, 0, none⟩ = some (.slice q m d)) (refine ⟨?_, ?_, ?_⟩ <;> assumption)
                  (first
                    | (go_at_call_of 97 (Value.slice q' m' d'); refine (arrayOf_any _ _ _ ys' _ HM'.out l1' (fun j hj => good_cell HG1'.out j (by have := HM'.out; omega)) HAy.drew).mono ?_; rintro e w2 ⟨y0, y1, y2, y3, y4, y5, rfl, hy, hb2⟩; have r1 := cell_later hb2 c1; have r2 := cell_later hb2 c2; have r3 := cell_later hb2 c3; have HAz := HAx.drew.below hb2)
                    | (go_at_call_of 97 (Value.slice q m d); refine (arrayOf_any _ _ _ ys _ HM.out l1 (fun j hj => good_cell HG1.out j (by have := HM.out; omega)) HAz).mono ?_; rintro e w3 ⟨x0, x1, x2, x3, x4, x5, rfl, hx, hb3⟩; have s1 := cell_later hb3 r1; have s2 := cell_later hb3 r2; have s3 := cell_later hb3 r3)
                    | (go_at_call 96; refine (compareArrays_any _ _ _ _ _ _ _ _ _ _ _ _ _ _ hy hx _).mono ?_; rintro e w4 ⟨rfl, hb4⟩; have v1 := cell_later hb4 s1; have v2 := cell_later hb4 s2; have v3 := cell_later hb4 s3))
                have B5 : Below w.heap.size w w4 := ((BW.drew.trans (hb2.mono BW.size)).trans (hb3.mono (by have := hb2.size; have := BW.size; simp only [drew_size] at *; omega))).trans (hb4.mono (by have := hb2.size; have := hb3.size; have := BW.size; simp only [drew_size] at *; omega))
                have V5 : Below w1.heap.size w1 w4 := ((BV.drew.trans (hb2.mono BV.size)).trans (hb3.mono (by have := hb2.size; have := BV.size; simp only [drew_size] at *; omega))).trans (hb4.mono (by have := hb2.size; have := hb3.size; have := BV.size; simp only [drew_size] at *; omega))
                have hcr := cmp_raised HG1'.out HG1.out
                rw [hy, hx] at hcr
                have hcm := cmp_range ys' ys
                clear hy hx hb2 hb3 hb4 r1 r2 r3 s1 s2 s3 v1 v2 v3 c1 c2 c3 HAz HAx HAy BW BV
                by_cases hlss : cmp ys' ys < 0
                · have hcc : (cmp [y0, y1, y2, y3, y4, y5] [x0, x1, x2, x3, x4, x5] != -1) = false := by rw [hcr, show cmp ys' ys = -1 by omega]; rfl
                  have HL := Hid.mk hlss
                  clear hcr hcm hlss
                  go_wp2
                  go_roundw
                  case rel => exact ⟨k + 1, by omega, by go_num, HS.out HX.out (.inr HL.out), V5⟩
                  case measure => simp [intOf]; omega
                · have hcc : (cmp [y0, y1, y2, y3, y4, y5] [x0, x1, x2, x3, x4, x5] != -1) = true := by
                    rw [hcr]
                    rcases hcm with h | h | h
                    · omega
                    · rw [h]; rfl
                    · rw [h]; rfl
                  have HL := Hid.mk hlss
                  clear hcr hcm hlss
                  go_wp2
                  go_ret
                  exact ⟨ret_bool (HC.out hk0 (by have := HL.out; omega)).symm, B5⟩
          · go_wp2
            go_ret
            exact ⟨ret_bool (goodT_of HI.out (by omega) (fun j hj => hall j (by omega))).symm, B2⟩
    · go_enter Try.func44, Try.ntmps44
      go_wp2_with (go_at_call 94; refine (goodColumns_any _ _).mono ?_; rintro e w2 ⟨rfl, rfl⟩; rw [HI.out])
      go_ret
      exact ⟨ret_bool (goodT_len (by omega)).symm, B0⟩

end Go.Proofs.Ytlfljfmhhnoinab

/- Contracts of impl.NewTable, impl.AddTables, impl.ScaleTable, impl.NegateTable, impl.EmptyTable. -/
namespace Go.Proofs.Ytlfljfmhhnoinab
open Go.RowKit Go.Maps

end Go.Proofs.Ytlfljfmhhnoinab

/- Contract of impl.goodAlike. -/
namespace Go.Proofs.Ytlfljfmhhnoinab
open Go.RowKit Go.Maps

end Go.Proofs.Ytlfljfmhhnoinab

/- Contracts of impl.goodAlike, impl.AddTables, impl.ScaleTable, impl.NegateTable, impl.EmptyTable. -/
namespace Go.Proofs.Ytlfljfmhhnoinab
open Go.RowKit Go.Maps

end Go.Proofs.Ytlfljfmhhnoinab

/- Contracts of impl.ScaleTable, impl.NegateTable, impl.EmptyTable. -/
namespace Go.Proofs.Ytlfljfmhhnoinab
open Go.RowKit Go.Maps

end Go.Proofs.Ytlfljfmhhnoinab

/- Contracts of spec.NewTable, spec.l2Add, spec.AddTables, spec.l2Scale, spec.ScaleTable, spec.NegateTable, spec.EmptyTable. -/
namespace Go.Proofs.Ytlfljfmhhnoinab
open Go.RowKit

theorem newB_nil (p : Int) : newB p [] = goodT p [] := by simp [newB, goodL, goodT, putAll]

end Go.Proofs.Ytlfljfmhhnoinab
