/- Several texts of one proof, in build order: SortF, SixK, InOrder, RowOf. -/
import Derived.Test.YtkcmlphpilggpaaM7
import Derived.Test.YtkcmlphpilggpaaShelf
import Derived.Shelf.SlSortCmp.NoneTotal
import Derived.Test.YtkcmlphpilggpaaM6
import Derived.Deep.AppendLies
import Derived.Test.YtkcmlphpilggpaaM5
import Derived.Deep.RegionLaw

/- slices.SortFunc at arrays of six ints, by the shelf's contract; the row behind it. -/
namespace Go.Proofs.Ytkcmlphpilggpaa
open Go.RowKit Go.Shelf Go.Sort

/-- The six-number arrays in the order of cmp. -/
def sorted (ks : List Six) : List Six := ks.mergeSort fun x y => !(ltOf Six.cf) y x

theorem sorted_perm (ks : List Six) : (sorted ks).Perm ks := List.mergeSort_perm _ _
theorem sorted_rises {ks : List Six} (h : ks.Nodup) : (sorted ks).Pairwise fun x y => cmp (Six.list x) (Six.list y) < 0 := by
  have h1 : (sorted ks).Pairwise fun x y => (!(ltOf Six.cf) y x) = true := List.pairwise_mergeSort (fun a b c hab hbc => by
      simp only [Bool.not_eq_true'] at *
      exact Six.swo.ntrans c b a hbc hab) (fun a b => by
      simp only [Bool.or_eq_true, Bool.not_eq_true']
      by_cases e : (ltOf Six.cf) b a = true
      · right
        cases e2 : (ltOf Six.cf) a b with
        | false => rfl
        | true => have := Six.swo.trans a b a e2 e; rw [Six.swo.irrefl] at this; cases this
      · left; simpa using e) ks
  have h2 : (sorted ks).Nodup := (sorted_perm ks).nodup_iff.2 h
  refine (h1.and h2).imp fun {x y} ⟨hxy, hne⟩ => ?_
  simp only [Bool.not_eq_true'] at hxy
  rw [Six.lt, decide_eq_false_iff_not] at hxy
  have hs := cmp_swap (Six.list x) (Six.list y)
  have hn : cmp (Six.list x) (Six.list y) ≠ 0 := fun e => hne (Six.list_inj (cmp_eq e))
  omega

theorem six_get (x : Six) (t : Nat) (h : t < 6) : (Six.enc x)[t]? = some ((Six.enc x)[t]!) := by
  have : (Six.enc x).length = 6 := rfl
  rw [List.getElem?_eq_getElem (by omega), getElem!_pos _ _ (by omega)]
theorem flat_get (l : List Six) : ∀ t, t < l.length * 6 → (l.flatMap Six.enc)[t]? = some ((Six.enc (l.toArray[t / 6]!))[t % 6]!) := by
  induction l with
  | nil => intro t h; simp at h
  | cons x l ih =>
    intro t h
    have hx : (Six.enc x).length = 6 := rfl
    rw [List.flatMap_cons]
    by_cases h6 : t < 6
    · rw [List.getElem?_append_left (by omega), six_get x t h6, show t / 6 = 0 by omega, show t % 6 = t by omega]
      simp
    · simp only [List.length_cons] at h
      rw [List.getElem?_append_right (by omega), hx, ih (t - 6) (by omega), show (t - 6) % 6 = t % 6 by omega, show t / 6 = (t - 6) / 6 + 1 by omega]
      simp
theorem flat_length (l : List Six) : (l.flatMap Six.enc).length = l.length * 6 := by
  induction l with
  | nil => rfl
  | cons x l ih => rw [List.flatMap_cons, List.length_append, ih]; simp [Six.enc]; omega

theorem holdsK_of_own {w : World} {base g n c : Nat} {e : TypeId} {ks : List Six} (hn : ks.length = n) (h : w.ownsRow base e 6 (.slice (some ⟨g, 0, none⟩) n c) n (ks.flatMap Six.enc)) : HoldsK Six.enc 6 w g 0 ks.toArray := by
  intro j hj
  rw [size_flatK] at hj
  have hj' : j < n * 6 := by simpa [hn] using hj
  refine ⟨?_, by rw [Nat.zero_add]; exact h.frozenAt j⟩
  rw [Nat.zero_add, h.cellAt j hj', flat_get ks j (by omega), get_flatK _ _ _ _ hj]
  rfl

theorem owns_sorted {w : World} {base g n c m : Nat} {e : TypeId} {os : Array Obj} {ks ts : List Six} (ht : ts.length = n) (h : w.ownsRow base e 6 (.slice (some ⟨g, 0, none⟩) n c) n (ks.flatMap Six.enc)) :
    (sortWorldK Six.enc 6 w g 0 m ts.toArray os).ownsRow base e 6 (.slice (some ⟨g, 0, none⟩) n c) n (ts.flatMap Six.enc) ∧ w.grownBy (sortWorldK Six.enc 6 w g 0 m ts.toArray os) (some g) := by
  rcases h.2 with ⟨hv, _⟩ | ⟨g', cap, cur, hv, hbase, hb, h1, h2, h3, h4⟩
  · simp at hv
  · simp only [Value.slice.injEq, Option.some.injEq, Addr.mk.injEq, and_true, true_and] at hv
    obtain ⟨rfl, rfl⟩ := hv
    have hg : g < w.heap.size := (Array.getElem?_eq_some_iff.1 hb).1
    have hsz : (putRow id (Sort.ahead w m) g 0 (flatK Six.enc 6 ts.toArray)).heap.size = w.heap.size := by simp [putRow, mapBlock, Sort.ahead]
    refine ⟨⟨by rw [flat_length, ht], .inr ⟨g, c, putCells id 0 (flatK Six.enc 6 ts.toArray) cur, rfl, hbase, ?_, h1, h2, by simp [putCells, h3], ?_⟩⟩, rfl, rfl, rfl, ?_, fun k hk hne => ?_⟩
    · unfold sortWorldK putRowK
      rw [heap_grow_old _ _ (by rw [hsz]; exact hg)]
      simp [putRow, mapBlock, Sort.ahead, Array.getElem?_modify, hb, onCells]
    · apply List.ext_getElem?
      intro j
      have hlf := flat_length ts
      by_cases hj : j < n * 6
      · rw [List.getElem?_take_of_lt hj, Array.getElem?_toList, flat_get ts j (by omega)]
        have hjc : j < cur.size := by rw [h3]; exact Nat.lt_of_lt_of_le hj (Nat.mul_le_mul_right 6 h1)
        have hjd : j < ts.length * 6 := by omega
        have hfk := get_flatK Six.enc 6 ts.toArray j (by simpa using hjd)
        simp only [putCells, Array.getElem?_mapIdx, Array.getElem?_eq_getElem hjc, Option.map_some]
        rw [if_pos ⟨Nat.zero_le _, by rw [size_flatK]; simpa using hjd⟩]
        simp only [id, Nat.sub_zero]
        rw [hfk]
      · rw [List.getElem?_eq_none (by rw [List.length_take]; omega), List.getElem?_eq_none (by omega)]
    · unfold sortWorldK putRowK
      simp [grow, hsz]
    · unfold sortWorldK putRowK
      rw [heap_grow_old _ _ (by rw [hsz]; exact hk)]
      have : g ≠ k := fun e => hne (by rw [e])
      simp [putRow, mapBlock, Sort.ahead, Array.getElem?_modify, this]

theorem sortFunc_any (g n cap base : Nat) (e : TypeId) (ks : List Six) (w : World) (hn : ks.length = n) (h1000 : n ≤ 1048576) (h : w.ownsRow base e 6 (.slice (some ⟨g, 0, none⟩) n cap) n (ks.flatMap Six.enc)) :
    Calls Try.prog 136 #[.slice (some ⟨g, 0, none⟩) n cap, .func (.func 75) #[] #[]] w fun e' w' => e' = .returned (.tuple #[]) ∧
      w'.ownsRow base e 6 (.slice (some ⟨g, 0, none⟩) n cap) n ((sorted ks).flatMap Six.enc) ∧ w.grownBy w' (some g) := by
  have eg : ∀ args w, (callFunc 75 args).run Try.prog w = .ok (.enter 75 args) w := enters_of Try.func75 (by kernel_rfl) rfl
  have hd : ks.toArray.size = n := by simpa using hn
  have hcon := AnyQ.slices_SortFunc_total Try.sortA 6 Try.isAgg107 Try.sizeOf107 Six.enc (fun _ => rfl) (fun x v hv => by simp [Six.enc] at hv; rcases hv with rfl | rfl | rfl | rfl | rfl | rfl <;> rfl) Six.cf Six.swo 75 #[] g 0 cap ks.toArray w eg (Six.lays g 0 ks.toArray.size w) (holdsK_of_own hn h) ((h.lt g rfl).2) (by rw [hd]; omega) Six.total
  rw [hd] at hcon
  refine Calls.mono hcon ?_
  rintro e' w' ⟨rfl, m, os, rfl⟩
  have hs : (sorted ks).length = n := by rw [(sorted_perm ks).length_eq]; exact hn
  exact ⟨rfl, owns_sorted hs h⟩

theorem sortNone_any (p : Option Addr) (cap : Nat) (fv : Value) (w : World) :
    Calls Try.prog 136 #[.slice p 0 cap, fv] w fun e w' => e = .returned (.tuple #[]) ∧ w' = w := AnyF.slices_SortFunc_none Try.sortA p cap fv w

end Go.Proofs.Ytkcmlphpilggpaa

/- Arrays of six numbers as keys. -/
namespace Go.Proofs.Ytkcmlphpilggpaa
open Go.RowKit Go.Maps

/-- Six numbers as an array's value. -/
def Six.val (x : Six) : Value := .agg #[.int .i64 x.1, .int .i64 x.2.1, .int .i64 x.2.2.1, .int .i64 x.2.2.2.1, .int .i64 x.2.2.2.2.1, .int .i64 x.2.2.2.2.2]
theorem Six.val_arr (x : Six) : Six.val x = arrV (Six.list x) := rfl
theorem six_of {zs : List Int} (h : zs.length = 6) : ∃ x : Six, Six.list x = zs := by
  obtain ⟨x0, x1, x2, x3, x4, x5, rfl⟩ := list6 h
  exact ⟨(x0, x1, x2, x3, x4, x5), rfl⟩
theorem six_key {key : Value} {kl : Lit} (h : keyOf Try.prog 107 key = some kl) : ∃ x : Six, key = Six.val x := by
  obtain ⟨zs, hf, rfl, _⟩ := keyOf_arr_inv h
  obtain ⟨x, rfl⟩ := six_of hf.1
  exact ⟨x, rfl⟩
theorem Try.infoA : (Try.prog.info? 107).map (fun i => (i.zero, i.size, i.bytes)) = some (some (.agg #[.int .i64 0, .int .i64 0, .int .i64 0, .int .i64 0, .int .i64 0, .int .i64 0]), 6, 48) := by kernel_rfl

theorem look_any {w : World} {b cnt : Nat} {D : DataW Unit} {f : List Int → Int} {S : List (List Int)} (ho : w.ownsMap Try.prog 107 (plainElem Try.prog 3) b cnt D) (hm : MapIs D f S) (x0 x1 x2 x3 x4 x5 : Int) (hf : Fits [x0, x1, x2, x3, x4, x5]) :
    (Instr.lookup 136 (.map (some b)) (.agg #[.int .i64 x0, .int .i64 x1, .int .i64 x2, .int .i64 x3, .int .i64 x4, .int .i64 x5]) false).run Try.prog w = .ok (.int .i64 (f [x0, x1, x2, x3, x4, x5])) w := by
  obtain ⟨c, h1, h2, _⟩ := ho.lookup_int Try.keyedA Try.underlying136 Try.underlying3 (Try.zeroInt _) (keyOf_arr _ hf)
  rw [← hm.at hf h2]
  exact h1
theorem six_later {w w' : World} {Z : Nat} {x0 x1 x2 x3 x4 x5 : Int} (hb : Below w.heap.size w w') (h : w.cell? ⟨Z, 0, none⟩ = some (.int .i64 x0) ∧ w.cell? ⟨Z, 1, none⟩ = some (.int .i64 x1) ∧ w.cell? ⟨Z, 2, none⟩ = some (.int .i64 x2) ∧ w.cell? ⟨Z, 3, none⟩ = some (.int .i64 x3) ∧ w.cell? ⟨Z, 4, none⟩ = some (.int .i64 x4) ∧ w.cell? ⟨Z, 5, none⟩ = some (.int .i64 x5)) : w'.cell? ⟨Z, 0, none⟩ = some (.int .i64 x0) ∧ w'.cell? ⟨Z, 1, none⟩ = some (.int .i64 x1) ∧ w'.cell? ⟨Z, 2, none⟩ = some (.int .i64 x2) ∧ w'.cell? ⟨Z, 3, none⟩ = some (.int .i64 x3) ∧ w'.cell? ⟨Z, 4, none⟩ = some (.int .i64 x4) ∧ w'.cell? ⟨Z, 5, none⟩ = some (.int .i64 x5) :=
  ⟨cell_later hb h.1, cell_later hb h.2.1, cell_later hb h.2.2.1, cell_later hb h.2.2.2.1, cell_later hb h.2.2.2.2.1, cell_later hb h.2.2.2.2.2⟩
theorem six_grown {w w' : World} {Z : Nat} {x0 x1 x2 x3 x4 x5 : Int} {row : Option Nat} (hg : w.grownBy w' row) (hne : some Z ≠ row) (h : w.cell? ⟨Z, 0, none⟩ = some (.int .i64 x0) ∧ w.cell? ⟨Z, 1, none⟩ = some (.int .i64 x1) ∧ w.cell? ⟨Z, 2, none⟩ = some (.int .i64 x2) ∧ w.cell? ⟨Z, 3, none⟩ = some (.int .i64 x3) ∧ w.cell? ⟨Z, 4, none⟩ = some (.int .i64 x4) ∧ w.cell? ⟨Z, 5, none⟩ = some (.int .i64 x5)) : w'.cell? ⟨Z, 0, none⟩ = some (.int .i64 x0) ∧ w'.cell? ⟨Z, 1, none⟩ = some (.int .i64 x1) ∧ w'.cell? ⟨Z, 2, none⟩ = some (.int .i64 x2) ∧ w'.cell? ⟨Z, 3, none⟩ = some (.int .i64 x3) ∧ w'.cell? ⟨Z, 4, none⟩ = some (.int .i64 x4) ∧ w'.cell? ⟨Z, 5, none⟩ = some (.int .i64 x5) :=
  ⟨hg.cell h.1 hne, hg.cell h.2.1 hne, hg.cell h.2.2.1 hne, hg.cell h.2.2.2.1 hne, hg.cell h.2.2.2.2.1 hne, hg.cell h.2.2.2.2.2 hne⟩


/-- The row that an array was made of. -/
def unr (q : Nat) (l : List Int) : List Int := (l.take q).map (· - 100001)
theorem unr_raised (zs : List Int) : unr zs.length (raised zs) = zs := by
  unfold unr raised
  rw [List.take_append_of_le_length (by simp), List.take_of_length_le (by simp), List.map_map]
  conv => rhs; rw [← List.map_id zs]
  exact List.map_congr_left fun x _ => by simp only [Function.comp, id]; omega

end Go.Proofs.Ytkcmlphpilggpaa

/- Contract of impl.weights.inOrder. -/
namespace Go.Proofs.Ytkcmlphpilggpaa
open Go.RowKit Go.Maps

/-- The arrays that the range has passed, those with a weight. -/
structure Passed (D : DataW Unit) (f : List Int → Int) (left : Lit → Bool) (ks : List Six) : Prop where
  fits : ∀ x ∈ ks, Fits (Six.list x)
  once : ks.Nodup
  just : ∀ x : Six, Fits (Six.list x) → (x ∈ ks ↔ (Maps.has D (klit (Six.list x)) = true ∧ left (klit (Six.list x)) = false ∧ f (Six.list x) ≠ 0))

theorem Passed.start (D : DataW Unit) (f : List Int → Int) : Passed D f (Maps.has D) [] := ⟨by simp, by simp, fun x _ => by
  constructor
  · intro h; cases h
  · rintro ⟨h1, h2, _⟩; rw [h1] at h2; cases h2⟩

theorem Passed.step {D : DataW Unit} {f : List Int → Int} {left : Lit → Bool} {ks : List Six} (h : Passed D f left ks) {x : Six} (hx : Fits (Six.list x)) (hl : left (klit (Six.list x)) = true) (hh : Maps.has D (klit (Six.list x)) = true) :
    (f (Six.list x) ≠ 0 → Passed D f (fun z => left z && !z.sameKey (klit (Six.list x))) (ks ++ [x])) ∧ (f (Six.list x) = 0 → Passed D f (fun z => left z && !z.sameKey (klit (Six.list x))) ks) := by
  have hself : (klit (Six.list x)).sameKey (klit (Six.list x)) = true := WideAt.sameKey_self (klit_key hx)
  have hoth : ∀ y : Six, Fits (Six.list y) → y ≠ x → (klit (Six.list y)).sameKey (klit (Six.list x)) = false := fun y hy hne =>
    sameKey_ne (fun e => hne (Six.list_inj (klit_inj hy hx e)))
  have hnot : x ∉ ks := fun hm => by have := ((h.just x hx).1 hm).2.1; rw [hl] at this; cases this
  refine ⟨fun hf => ⟨fun y hy => ?_, ?_, fun y hy => ?_⟩, fun hf => ⟨h.fits, h.once, fun y hy => ?_⟩⟩
  · rcases List.mem_append.1 hy with h1 | h1
    · exact h.fits y h1
    · obtain rfl : y = x := by simpa using h1
      exact hx
  · rw [List.nodup_append]
    exact ⟨h.once, by simp, fun a ha b hb e => by obtain rfl : b = x := by simpa using hb
                                                  exact hnot (e ▸ ha)⟩
  · by_cases e : y = x
    · subst e
      simp [hself, hh, hf]
    · have := h.just y hy
      simp only [List.mem_append, List.mem_singleton, e, or_false, hoth y hy e, Bool.not_false, Bool.and_true]
      exact this
  · by_cases e : y = x
    · subst e
      simp [hself, hf, hnot]
    · have := h.just y hy
      simp only [hoth y hy e, Bool.not_false, Bool.and_true]
      exact this

set_option maxRecDepth 100000 in
set_option maxHeartbeats 2000000 in
theorem inOrder_any (b cnt : Nat) (D : DataW Unit) (f : List Int → Int) (S : List (List Int)) (w : World) (hcnt : cnt ≤ 1048576) (hown : w.ownsMap Try.prog 107 (plainElem Try.prog 3) b cnt D) (hm : MapIs D f S) :
    Calls Try.prog 119 #[.map (some b)] w fun e w' => ∃ (ks : List Six) (r : Option Addr) (d n : Nat), e = .returned (.slice r n d) ∧ ks.length = n ∧ n ≤ cnt ∧ w'.ownsRow (w.heap.size + 1) 107 6 (.slice r n d) n (ks.flatMap Six.enc) ∧
      (ks.Pairwise fun x y => cmp (Six.list x) (Six.list y) < 0) ∧ (∀ x ∈ ks, Fits (Six.list x)) ∧ (∀ x : Six, Fits (Six.list x) → (x ∈ ks ↔ (Maps.has D (klit (Six.list x)) = true ∧ f (Six.list x) ≠ 0))) ∧ Below w.heap.size w w' := by
  obtain ⟨i0, hi, hz0, hz1, hz2⟩ := info_parts Try.infoA
  have hsz := hown.size_le
  go_enter Try.func119, Try.ntmps119
  go_wp2_with (first | (at_range; refine wpList_range_own _ rfl _ 136 rfl 107 3 Try.keyedA Try.underlying136 _ b cnt D rfl hown ?_; intro w0 hrg0 hg0 hs0) | go_in)
  go_frame
  have B0 : Below w.heap.size w w0 := (Below.refl _ _).grown hg0 (Nat.le_refl _) (by simp)
  go_loopw [3] (fun o wr => ∃ (left : Lit → Bool) (c0 : Nat) (ks : List Six) (r : Option Addr) (d : Nat), o = .slice r ks.length d ∧ wr.ranges Try.prog 107 (plainElem Try.prog 3) b w.heap.size cnt D left c0 ∧ Passed D f left ks ∧ ks.length + c0 ≤ cnt ∧
      wr.ownsRow (w.heap.size + 1) 107 6 (.slice r ks.length d) ks.length (ks.flatMap Six.enc) ∧ Below w.heap.size w wr) (fun _ wr => wr.rangeLeft b w.heap.size)
  case atStart => exact ⟨_, _, [], none, 0, rfl, hrg0, Passed.start D f, by simpa using hsz, World.ownsRow_nil _ _ _ _, B0⟩
  case round =>
    clear hrg0 hg0 hs0 B0 w0
    obtain ⟨left, c0, ks, r, d, rfl, hrg, hP, hlen, ho, hbw⟩ := hrel
    go_wp2_with (first | (at_next; refine wpList_next_ranges _ rfl _ rfl 107 Try.keyedA (plainElem Try.prog 3) Six.val (Value.int .i64) (fun _ _ h => six_key h) (fun v y hv => by obtain ⟨c, rfl, _⟩ := plainElem_int_inv Try.underlying3 hv; exact ⟨c, rfl⟩) b w.heap.size cnt D left c0 rfl hrg ?_ ?_) | go_in)
    · intro h00 hl0
      have hs : ∀ ks' : List Six, ks'.Perm ks → (∀ x ∈ ks', Fits (Six.list x)) ∧ (∀ x : Six, Fits (Six.list x) → (x ∈ ks' ↔ (Maps.has D (klit (Six.list x)) = true ∧ f (Six.list x) ≠ 0))) := fun ks' hp =>
        ⟨fun x hx => hP.fits x (hp.mem_iff.1 hx), fun x hx => by rw [hp.mem_iff, hP.just x hx, hl0]; simp⟩
      have HSS := Hid.mk hs
      have HON := Hid.mk hP.once
      obtain ⟨n, hn⟩ : ∃ n, ks.length = n := ⟨_, rfl⟩
      rw [hn] at ho hlen
      have HN := Hid.mk hn
      rw [hn]
      clear hl0 hs hP hrg hn
      by_cases hn0 : n = 0
      · subst hn0
        obtain rfl : ks = [] := List.eq_nil_of_length_eq_zero HN.out
        go_wp2_with fail
        refine (sortNone_any _ _ _ _).mono ?_
        rintro e w2 ⟨rfl, rfl⟩
        go_wp2
        go_ret
        exact ⟨[], r, d, 0, rfl, rfl, by omega, ho, List.Pairwise.nil, (HSS.out [] (List.Perm.refl _)).1, (HSS.out [] (List.Perm.refl _)).2, hbw⟩
      · obtain ⟨g, hgv⟩ : ∃ g, r = some ⟨g, 0, none⟩ := by
          rcases ho.2 with ⟨_, h⟩ | ⟨g, cap, cur, hv, _⟩
          · omega
          · simp only [Value.slice.injEq, true_and] at hv
            exact ⟨g, hv.1⟩
        subst hgv
        have hgl := (ho.lt g rfl).1
        go_wp2_with fail
        refine (sortFunc_any g n d _ _ ks _ HN.out (by omega) ho).mono ?_
        rintro e w2 ⟨rfl, ho2, hg2⟩
        have HB := Hid.mk (hbw.grown hg2 hbw.size (fun j hj => by cases hj; omega))
        clear hg2 hbw ho
        go_wp2
        go_ret
        exact ⟨sorted ks, some ⟨g, 0, none⟩, d, n, rfl, (sorted_perm ks).length_eq.trans HN.out, by omega, ho2, sorted_rises HON.out, (HSS.out _ (sorted_perm ks)).1, (HSS.out _ (sorted_perm ks)).2, HB.out⟩
    · intro x0 x1 x2 x3 x4 x5 c kl yd yp w1 cnt1 hkey hlk hv hat hrg1 hlt hg1 hs1 hen
      have hbw1 : Below w.heap.size w w1 := hbw.grown hg1 hbw.size (fun j hj => by cases hj; exact Nat.le_refl _)
      have ho1 : w1.ownsRow (w.heap.size + 1) 107 6 (.slice r ks.length d) ks.length (ks.flatMap Six.enc) := ho.kept hg1 (by
        cases hv' : (Value.slice r ks.length d).ownBlock with
        | none => exact .inl rfl
        | some k => exact .inr (fun e => by have := (ho.lt k hv').1; simp at e; omega))
      obtain ⟨zs, hfz, hvz, rfl⟩ := keyOf_arr_inv hkey
      obtain rfl : zs = Six.list (x0, x1, x2, x3, x4, x5) := (arrV_inj (by rw [← hvz]; rfl)).symm
      obtain ⟨c', hc', hy', hwc⟩ := plainElem_int_inv Try.underlying3 hv
      obtain rfl : c' = c := by simpa using hc'.symm
      have hyd : yd = .lit (.int .i64 c') := by simpa using congrArg Prod.fst hy'
      have hfx : c' = f (Six.list (x0, x1, x2, x3, x4, x5)) := hm.at hfz (by rw [hat, hyd])
      have hhas : Maps.has D (klit (Six.list (x0, x1, x2, x3, x4, x5))) = true := has_true_of_atKey hat
      have hst := hP.step hfz hlk hhas
      rw [← hfx] at hst
      have HST := Hid.mk hst
      have HRG := Hid.mk hrg1
      have HBW := Hid.mk hbw1
      have hlf := hrg.left_eq
      have HLF := Hid.mk hlf
      have z1 : w.heap.size + 1 ≤ w1.heap.size := by rw [hs1]; have := hrg.lt; omega
      clear hst hrg1 hbw1 hlf hat hkey hv hlk hvz hc' hy' hyd hfx hhas hwc hg1 ho hbw hrg hP hs1
      simp only [Six.val] at hen
      by_cases hc0 : c' = 0
      · have hne : (c' != 0) = false := by simp [hc0]
        have HC := Hid.mk hc0
        clear hc0
        go_wp2
        go_roundw
        case rel => exact ⟨_, cnt1, ks, r, d, rfl, HRG.out.alloc _, HST.out.2 HC.out, by omega, ho1.alloc _, HBW.out.alloc HBW.out.size _⟩
        case measure => rw [(HRG.out.alloc _).left_eq, HLF.out]; exact hlt
      · have hne : (c' != 0) = true := by simp [hc0]
        have HC := Hid.mk hc0
        clear hc0
        have hbl := hown.lt
        have hks : ks.length ≤ 1048576 := by omega
        obtain ⟨n, hn⟩ : ∃ n, ks.length = n := ⟨_, rfl⟩
        rw [hn] at ho1 hks
        have HN := Hid.mk hn
        have HO1 := ho1
        rw [hn]
        clear hn
        go_wp2_with (at_builtin; refine wpList_append_lies _ rfl (.tmp 15) (.tmp 17) 154 rfl (w.heap.size + 1) 107 i0 (.agg #[.int .i64 0, .int .i64 0, .int .i64 0, .int .i64 0, .int .i64 0, .int .i64 0]) 6 48 Try.underlying154 hi hz0 hz1 hz2 rfl (by decide) _ _ _ rfl ((HO1.alloc _).alloc _) ⟨w1.heap.size + 1, 0, none⟩ 1 1 [.int .i64 x0, .int .i64 x1, .int .i64 x2, .int .i64 x3, .int .i64 x4, .int .i64 x5] rfl rfl (by simpa using news_at (w1.alloc (.cells #[.int .i64 x0, .int .i64 x1, .int .i64 x2, .int .i64 x3, .int .i64 x4, .int .i64 x5] 107)) #[.int .i64 x0, .int .i64 x1, .int .i64 x2, .int .i64 x3, .int .i64 x4, .int .i64 x5] 107) (by intro u hu; simp at hu; rcases hu with rfl | rfl | rfl | rfl | rfl | rfl <;> rfl) (by decide) (by unfold maxLen; omega) (by omega) (by simp; omega) (w1.heap.size + 1 + 1) (by simp) ?_; intro g2 cap2 w4 hown4 hgrow4 hat4 hlt4)
        have hgr : w1.grownBy w4 (Value.slice r n d).ownBlock := grown_alloc (grown_alloc hgrow4)
        have hrb : ∀ k, (Value.slice r n d).ownBlock = some k → w.heap.size + 1 ≤ k := fun k hk => (ho1.lt k hk).1
        have HR4 := Hid.mk (HRG.out.kept hgr (fun e => by have := hrb b e.symm; omega) (fun e => by have := hrb _ e.symm; omega))
        have HB4 : Hid (Below w.heap.size w w4) := HBW.out.grown hgr HBW.out.size (fun j hj => by have := hrb j hj; omega)
        have HO4 : Hid (w4.ownsRow (w.heap.size + 1) 107 6 (.slice (some ⟨g2, 0, none⟩) (ks ++ [(x0, x1, x2, x3, x4, x5)]).length cap2) (ks ++ [(x0, x1, x2, x3, x4, x5)]).length ((ks ++ [(x0, x1, x2, x3, x4, x5)]).flatMap Six.enc)) := by
          have hl : (ks ++ [(x0, x1, x2, x3, x4, x5)]).length = n + 1 := by rw [List.length_append, HN.out]; rfl
          rw [hl, List.flatMap_append]
          exact hown4
        have HLN : Hid ((ks ++ [(x0, x1, x2, x3, x4, x5)]).length = n + 1) := by show _ = _; rw [List.length_append, HN.out]; rfl
        clear hown4 hgrow4 hat4 hlt4 hgr hrb ho1 HO1
        go_wp2
        go_roundw
        case rel => exact ⟨_, cnt1, ks ++ [(x0, x1, x2, x3, x4, x5)], some ⟨g2, 0, none⟩, cap2, by rw [HLN.out], HR4.out, HST.out.1 HC.out, by rw [HLN.out]; have := HN.out; omega, HO4.out, HB4.out⟩
        case measure => rw [HR4.out.left_eq, HLF.out]; exact hlt

end Go.Proofs.Ytkcmlphpilggpaa

/- Contract of impl.rowOf. -/
namespace Go.Proofs.Ytkcmlphpilggpaa
open Go.RowKit

set_option maxHeartbeats 2000000 in
theorem rowOf_any (x0 x1 x2 x3 x4 x5 : Int) (zs : List Int) (n : Nat) (w : World) (hz : zs.length = n) (hg : good zs = true) (hr : raised zs = [x0, x1, x2, x3, x4, x5]) :
    Calls Try.prog 120 #[.agg #[.int .i64 x0, .int .i64 x1, .int .i64 x2, .int .i64 x3, .int .i64 x4, .int .i64 x5], .int .i64 n] w fun e w' => ∃ r d, e = .returned (.agg #[.slice r n d]) ∧
      w'.ownsRow w.heap.size 3 1 (.slice r n d) n (zs.map (.int .i64)) ∧ Below w.heap.size w w' := by
  have h6 : n ≤ 6 := by have := good_len hg; omega
  have HR := Hid.mk hr
  have HG := Hid.mk hg
  have HZ := Hid.mk hz
  clear hr hg hz
  have hn0 : (0 : Int) ≤ n := by omega
  have hn6 : (n : Int) ≤ 6 := by omega
  obtain ⟨i0, hi, hz0, hz1, hz2⟩ := info_parts Try.infoInt
  obtain ⟨W, hW⟩ : ∃ W, W = ((w.alloc (.cells #[.int .i64 x0, .int .i64 x1, .int .i64 x2, .int .i64 x3, .int .i64 x4, .int .i64 x5] 107)).alloc (.cells #[.slice none 0 0] 97)).alloc (.cells #[.slice none 0 0] 97) := ⟨_, rfl⟩
  have B : Below w.heap.size w W := by rw [hW]; exact (((Below.refl _ _).alloc (Nat.le_refl _) _).alloc (by simp) _).alloc (by simp; omega) _
  have A1 : Arr W w.heap.size 107 (raised zs) := by rw [hW, HR.out]; exact ((Arr.new rfl (by simp)).alloc _).alloc _
  have q1 : W.heap[w.heap.size + 1]? = some (.cells #[.slice none 0 0] 97 (0, 0)) := by
    rw [hW]
    refine (Below.heap_alloc _ _ _ (by simp)).trans ?_
    have := heap_alloc_new (w.alloc (.cells #[.int .i64 x0, .int .i64 x1, .int .i64 x2, .int .i64 x3, .int .i64 x4, .int .i64 x5] 107)) (.cells #[.slice none 0 0] 97)
    rwa [World.size_alloc] at this
  have c1 : W.cell? ⟨w.heap.size + 1, 0, none⟩ = some (.slice none 0 0) := by rw [cell_of_row W _ 0 _ _ (0, 0) q1]; rfl
  have f1 : W.frozen? ⟨w.heap.size + 1, 0, none⟩ = false := frozen_of_row W _ 0 _ _ q1
  clear q1
  have V0 : RowVar W (w.heap.size + 1 + 1) 97 (w.heap.size + 1 + 1 + 1) 3 none 0 0 (zs.take 0) := by rw [hW]; exact RowVar.new (by simp) (by omega)
  have zW : W.heap.size = w.heap.size + 1 + 1 + 1 := by rw [hW]; simp
  have hl6 := raised_length (good_len HG.out)
  go_enter Try.func120, Try.ntmps120
  go_wp2
  rw [← hW]
  clear hW
  go_loopw [11] (fun i wr => ∃ (k : Nat) (r : Option Addr) (d : Nat), k ≤ n ∧ i = .int .i64 k ∧ RowVar wr (w.heap.size + 1 + 1) 97 (w.heap.size + 1 + 1 + 1) 3 r k d (zs.take k) ∧ Below (w.heap.size + 1 + 1) W wr) (fun i _ => n - (intOf i).toNat)
  case atStart => exact ⟨0, none, 0, Nat.zero_le _, rfl, V0, Below.refl _ _⟩
  case round =>
    clear V0
    obtain ⟨k, r, d, hk, rfl, hv, hbw⟩ := hrel
    have zR : w.heap.size + 1 + 1 < wr.heap.size := by have := hbw.size; omega
    by_cases hlt : k < n
    · have hcx := (A1.below hbw (by omega)).cell k (by omega)
      have hgk := good_cell HG.out k (by have := HZ.out; omega)
      have hx : (raised zs).getD k 0 = zs.getD k 0 + 100001 := by
        have : k < zs.length := by have := HZ.out; omega
        simp [raised, List.getD, List.getElem?_append, this]
      rw [hx] at hcx
      have HS := Hid.mk (take_succ_getD zs k (by have := HZ.out; omega))
      obtain ⟨y, hy⟩ : ∃ y, y = zs.getD k 0 := ⟨_, rfl⟩
      rw [← hy] at hcx HS hgk
      obtain ⟨hy1, hy2⟩ := hgk
      have hki : (k : Int) < (n : Int) := by omega
      have hcr := hv.cell
      have hfr := hv.frozen
      clear hy hx A1 c1 f1
      go_wp2_with (at_builtin; refine wpList_append_lies _ rfl (.tmp 16) (.tmp 20) 22 rfl (w.heap.size + 1 + 1 + 1) 3 i0 (.int .i64 0) 1 8 Try.underlying22 hi hz0 hz1 hz2 rfl (by decide) _ _ _ rfl (hv.own.alloc _) ⟨wr.heap.size, 0, none⟩ 1 1 [.int .i64 y] (by simp [Act.eval]) rfl (by have q : y + 100001 - 100000 - 1 = y := (by omega); simpa [q] using news_at wr #[.int .i64 y] 3) (by simp; rfl) (by decide) (by unfold maxLen; omega) (by omega) (by simp; omega) (wr.heap.size + 1) (by simp) ?_; intro g2 cap2 w4 hown4 hgrow4 _ _; obtain ⟨t1, t2, hv4⟩ := hv.pushed hown4 hgrow4)
      have HB := Hid.mk (hv.pushed_below (v := .slice (some ⟨g2, 0, none⟩) (k + 1) cap2) hgrow4 hbw (Nat.le_refl _))
      rw [← HS.out] at hv4
      have HV := Hid.mk hv4
      clear hv4 hown4 hgrow4 hv hbw t1 t2
      go_roundw
      case rel => exact ⟨k + 1, _, _, by omega, by go_num, HV.out, HB.out⟩
      case measure => simp [intOf]; omega
    · obtain rfl : k = n := by omega
      have htk : zs.take k = zs := List.take_of_length_le (by have := HZ.out; omega)
      rw [htk] at hv
      clear htk
      have hcr := hv.cell
      have e1 := (hbw.cell (p := ⟨w.heap.size + 1, 0, none⟩) (by simp)).trans c1
      have e2 := (hbw.frozen (p := ⟨w.heap.size + 1, 0, none⟩) (by simp)).trans f1
      clear c1 f1 A1
      go_wp2
      refine bodyPost_ret (v := .agg #[.slice r k d]) (by simp [results, Try.results120, go_sem, e1]) rfl ⟨r, d, rfl, ?_, ?_⟩
      · exact owns_mono (ownsRow_setCell_below (base := w.heap.size + 1 + 1 + 1) hv.own (show w.heap.size + 1 < w.heap.size + 1 + 1 + 1 by omega) _) (by omega)
      · exact (B.trans (hbw.mono (by omega))).setCell (by simp) _

end Go.Proofs.Ytkcmlphpilggpaa
