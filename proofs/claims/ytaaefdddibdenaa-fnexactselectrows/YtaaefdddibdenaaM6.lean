/- Several texts of one proof, in build order: SortF, KeyA, GoodT, MapA. -/
import Derived.Test.YtaaefdddibdenaaM4
import Derived.Test.YtaaefdddibdenaaShelf
import Derived.Shelf.SlSortCmp.NoneTotal
import Derived.Test.YtaaefdddibdenaaRows
import Derived.Maps.OwnSet
import Derived.Maps.OwnOps
import Derived.Maps.RangeWalk
import Derived.WideKeyArr2
import Derived.Test.YtaaefdddibdenaaM3
import Derived.WideKeyEntry
import Derived.Deep.RegionHeld3

/- slices.SortFunc at arrays of six ints, by the shelf's contract; the row behind it. -/
namespace Go.Proofs.Ytaaefdddibdenaa
open Go.RowKit Go.Shelf Go.Sort

/-- The six-number arrays in the order of cmp. -/
def sorted (ks : List Six) : List Six := ks.mergeSort fun x y => !(ltOf Six.cf) y x

theorem sorted_perm (ks : List Six) : (sorted ks).Perm ks := List.mergeSort_perm _ _
theorem sorted_rises {ks : List Six} (h : ks.Nodup) : (sorted ks).Pairwise fun x y => cmp (Six.list x) (Six.list y) < 0 := by
  have h1 : (sorted ks).Pairwise fun x y => (!(ltOf Six.cf) y x) = true := List.pairwise_mergeSort (fun a b c hab hbc => by
      simp only [Bool.not_eq_true'] at *
      exact Six.swo.ntrans c b a hbc hab) (fun a b => by
      simp only [Bool.or_eq_true, Bool.not_eq_true']
      by_cases e : (ltOf Six.cf) b a = true
      · right
        cases e2 : (ltOf Six.cf) a b with
        | false => rfl
        | true => have := Six.swo.trans a b a e2 e; rw [Six.swo.irrefl] at this; cases this
      · left; simpa using e) ks
  have h2 : (sorted ks).Nodup := (sorted_perm ks).nodup_iff.2 h
  refine (h1.and h2).imp fun {x y} ⟨hxy, hne⟩ => ?_
  simp only [Bool.not_eq_true'] at hxy
  rw [Six.lt, decide_eq_false_iff_not] at hxy
  have hs := cmp_swap (Six.list x) (Six.list y)
  have hn : cmp (Six.list x) (Six.list y) ≠ 0 := fun e => hne (Six.list_inj (cmp_eq e))
  omega

theorem six_get (x : Six) (t : Nat) (h : t < 6) : (Six.enc x)[t]? = some ((Six.enc x)[t]!) := by
  have : (Six.enc x).length = 6 := rfl
  rw [List.getElem?_eq_getElem (by omega), getElem!_pos _ _ (by omega)]
theorem flat_get (l : List Six) : ∀ t, t < l.length * 6 → (l.flatMap Six.enc)[t]? = some ((Six.enc (l.toArray[t / 6]!))[t % 6]!) := by
  induction l with
  | nil => intro t h; simp at h
  | cons x l ih =>
    intro t h
    have hx : (Six.enc x).length = 6 := rfl
    rw [List.flatMap_cons]
    by_cases h6 : t < 6
    · rw [List.getElem?_append_left (by omega), six_get x t h6, show t / 6 = 0 by omega, show t % 6 = t by omega]
      simp
    · simp only [List.length_cons] at h
      rw [List.getElem?_append_right (by omega), hx, ih (t - 6) (by omega), show (t - 6) % 6 = t % 6 by omega, show t / 6 = (t - 6) / 6 + 1 by omega]
      simp
theorem flat_length (l : List Six) : (l.flatMap Six.enc).length = l.length * 6 := by
  induction l with
  | nil => rfl
  | cons x l ih => rw [List.flatMap_cons, List.length_append, ih]; simp [Six.enc]; omega

theorem holdsK_of_own {w : World} {base g n c : Nat} {e : TypeId} {ks : List Six} (hn : ks.length = n) (h : w.ownsRow base e 6 (.slice (some ⟨g, 0, none⟩) n c) n (ks.flatMap Six.enc)) : HoldsK Six.enc 6 w g 0 ks.toArray := by
  intro j hj
  rw [size_flatK] at hj
  have hj' : j < n * 6 := by simpa [hn] using hj
  refine ⟨?_, by rw [Nat.zero_add]; exact h.frozenAt j⟩
  rw [Nat.zero_add, h.cellAt j hj', flat_get ks j (by omega), get_flatK _ _ _ _ hj]
  rfl

theorem owns_sorted {w : World} {base g n c m : Nat} {e : TypeId} {os : Array Obj} {ks ts : List Six} (ht : ts.length = n) (h : w.ownsRow base e 6 (.slice (some ⟨g, 0, none⟩) n c) n (ks.flatMap Six.enc)) :
    (sortWorldK Six.enc 6 w g 0 m ts.toArray os).ownsRow base e 6 (.slice (some ⟨g, 0, none⟩) n c) n (ts.flatMap Six.enc) ∧ w.grownBy (sortWorldK Six.enc 6 w g 0 m ts.toArray os) (some g) := by
  rcases h.2 with ⟨hv, _⟩ | ⟨g', cap, cur, hv, hbase, hb, h1, h2, h3, h4⟩
  · simp at hv
  · simp only [Value.slice.injEq, Option.some.injEq, Addr.mk.injEq, and_true, true_and] at hv
    obtain ⟨rfl, rfl⟩ := hv
    have hg : g < w.heap.size := (Array.getElem?_eq_some_iff.1 hb).1
    have hsz : (putRow id (Sort.ahead w m) g 0 (flatK Six.enc 6 ts.toArray)).heap.size = w.heap.size := by simp [putRow, mapBlock, Sort.ahead]
    refine ⟨⟨by rw [flat_length, ht], .inr ⟨g, c, putCells id 0 (flatK Six.enc 6 ts.toArray) cur, rfl, hbase, ?_, h1, h2, by simp [putCells, h3], ?_⟩⟩, rfl, rfl, rfl, ?_, fun k hk hne => ?_⟩
    · unfold sortWorldK putRowK
      rw [heap_grow_old _ _ (by rw [hsz]; exact hg)]
      simp [putRow, mapBlock, Sort.ahead, Array.getElem?_modify, hb, onCells]
    · apply List.ext_getElem?
      intro j
      have hlf := flat_length ts
      by_cases hj : j < n * 6
      · rw [List.getElem?_take_of_lt hj, Array.getElem?_toList, flat_get ts j (by omega)]
        have hjc : j < cur.size := by rw [h3]; exact Nat.lt_of_lt_of_le hj (Nat.mul_le_mul_right 6 h1)
        have hjd : j < ts.length * 6 := by omega
        have hfk := get_flatK Six.enc 6 ts.toArray j (by simpa using hjd)
        simp only [putCells, Array.getElem?_mapIdx, Array.getElem?_eq_getElem hjc, Option.map_some]
        rw [if_pos ⟨Nat.zero_le _, by rw [size_flatK]; simpa using hjd⟩]
        simp only [id, Nat.sub_zero]
        rw [hfk]
      · rw [List.getElem?_eq_none (by rw [List.length_take]; omega), List.getElem?_eq_none (by omega)]
    · unfold sortWorldK putRowK
      simp [grow, hsz]
    · unfold sortWorldK putRowK
      rw [heap_grow_old _ _ (by rw [hsz]; exact hk)]
      have : g ≠ k := fun e => hne (by rw [e])
      simp [putRow, mapBlock, Sort.ahead, Array.getElem?_modify, this]

theorem sortFunc_any (g n cap base : Nat) (e : TypeId) (ks : List Six) (w : World) (hn : ks.length = n) (h1000 : n ≤ 4096) (h : w.ownsRow base e 6 (.slice (some ⟨g, 0, none⟩) n cap) n (ks.flatMap Six.enc)) :
    Calls Try.prog 87 #[.slice (some ⟨g, 0, none⟩) n cap, .func (.func 65) #[] #[]] w fun e' w' => e' = .returned (.tuple #[]) ∧
      w'.ownsRow base e 6 (.slice (some ⟨g, 0, none⟩) n cap) n ((sorted ks).flatMap Six.enc) ∧ w.grownBy w' (some g) := by
  have eg : ∀ args w, (callFunc 65 args).run Try.prog w = .ok (.enter 65 args) w := enters_of Try.func65 (by kernel_rfl) rfl
  have hd : ks.toArray.size = n := by simpa using hn
  have hcon := AnyQ.slices_SortFunc_total Try.sortA 6 Try.isAgg98 Try.sizeOf98 Six.enc (fun _ => rfl) (fun x v hv => by simp [Six.enc] at hv; rcases hv with rfl | rfl | rfl | rfl | rfl | rfl <;> rfl) Six.cf Six.swo 65 #[] g 0 cap ks.toArray w eg (Six.lays g 0 ks.toArray.size w) (holdsK_of_own hn h) ((h.lt g rfl).2) (by rw [hd]; omega) Six.total
  rw [hd] at hcon
  refine Calls.mono hcon ?_
  rintro e' w' ⟨rfl, m, os, rfl⟩
  have hs : (sorted ks).length = n := by rw [(sorted_perm ks).length_eq]; exact hn
  exact ⟨rfl, owns_sorted hs h⟩

theorem sortNone_any (p : Option Addr) (cap : Nat) (fv : Value) (w : World) :
    Calls Try.prog 87 #[.slice p 0 cap, fv] w fun e w' => e = .returned (.tuple #[]) ∧ w' = w := AnyF.slices_SortFunc_none Try.sortA p cap fv w

end Go.Proofs.Ytaaefdddibdenaa

/- Arrays of six ints as keys of a map, and what a map of weights holds. -/
namespace Go.Proofs.Ytaaefdddibdenaa
open Go.RowKit Go.Maps

/-- An array of ints as a value. -/
def arrV (zs : List Int) : Value := .agg (zs.map (Value.int .i64)).toArray
/-- Six numbers that fit. -/
def Fits (zs : List Int) : Prop := zs.length = 6 ∧ ∀ z ∈ zs, (Lit.int .i64 z).wf = true

theorem arrV_inj {a b : List Int} (h : arrV a = arrV b) : a = b := by
  simp only [arrV, Value.agg.injEq] at h
  have h' : a.map (Value.int .i64) = b.map (Value.int .i64) := by simpa using congrArg Array.toList h
  exact List.map_inj_right (fun _ _ e => by simpa using e) |>.1 h'

theorem Try.arrKey : WideMaps.ArrKey Try.prog 98 3 6 := ⟨Try.underlying98, by kernel_rfl, by kernel_rfl, by kernel_rfl⟩
theorem Try.keyedA : Keyed Try.prog 98 := Keyed.of_law Try.arrKey.law
theorem Try.typesPos : 0 < Try.prog.types.size := by decide +kernel
theorem Try.typesSome : ∃ m, Try.prog.types.size = m + 1 := ⟨Try.prog.types.size - 1, by have := Try.typesPos; omega⟩

/-- What six numbers read as, as a key. -/
def klit (zs : List Int) : Lit := .string (keyBytes (zs.map (.int .i64)))

theorem range6 : List.range 6 = [0, 1, 2, 3, 4, 5] := rfl

theorem keyLits_arr (zs : List Int) (h : Fits zs) : Try.prog.keyLits (Try.prog.types.size + 1) 98 (zs.map (Value.int .i64)) = some (zs.map (.int .i64)) := by
  obtain ⟨m, hm⟩ := Try.typesSome
  obtain ⟨x0, x1, x2, x3, x4, x5, rfl⟩ := list6 h.1
  have hw := h.2
  simp only [List.mem_cons, List.not_mem_nil, or_false, forall_eq_or_imp, forall_eq] at hw
  obtain ⟨w0, w1, w2, w3, w4, w5⟩ := hw
  rw [hm]
  unfold Program.keyLits
  simp only [Try.arrKey.hu]
  rw [if_pos (by rw [Try.arrKey.size]; rfl), range6]
  simp [List.mapM_cons, Try.arrKey.one, Program.keyLits, Try.underlying3, w0, w1, w2, w3, w4, w5]

theorem keyOf_arr (zs : List Int) (h : Fits zs) : keyOf Try.prog 98 (arrV zs) = some (klit zs) := by
  have hkt := Try.arrKey.keyType Try.typesSome
  unfold keyOf
  simp only [Try.arrKey.hu]
  rw [if_pos (by simp [hkt, arrV, Value.formed, Try.arrKey.hu, Try.arrKey.size, h.1])]
  have := keyLits_arr zs h
  simp only [arrV, Value.cells]
  rw [this]
  rfl

theorem klit_inj {a b : List Int} (ha : Fits a) (hb : Fits b) (h : klit a = klit b) : a = b :=
  arrV_inj (Try.keyedA.inj (keyOf_arr a ha) (by rw [h]; exact keyOf_arr b hb))

theorem klit_key {a : List Int} (ha : Fits a) : WideAt.IsKeyLit (klit a) := Try.keyedA.key (keyOf_arr a ha)

theorem keyInt_inv {P : Program} {e : TypeId} (he : P.underlying e = some (.int .i64)) {m : Nat} {y : Value} {la : List Lit} (h : P.keyLits (m + 1) e [y] = some la) : ∃ z, y = .int .i64 z ∧ la = [.int .i64 z] ∧ (Lit.int .i64 z).wf = true := by
  cases y <;> simp [Program.keyLits, he] at h
  obtain ⟨⟨rfl, hw⟩, rfl⟩ := h
  exact ⟨_, rfl, rfl, hw⟩

theorem keyOf_arr6_inv {P : Program} {k e : TypeId} (A : WideMaps.ArrKey P k e 6) (he : P.underlying e = some (.int .i64)) (hsz : ∃ m, P.types.size = m + 1) {key : Value} {l : Lit} (h : keyOf P k key = some l) :
    ∃ zs, Fits zs ∧ key = arrV zs ∧ l = klit zs := by
  obtain ⟨xs, L, rfl, hl, rfl⟩ := keyOf_top A.wide h
  clear h
  obtain ⟨m, hm⟩ := hsz
  rw [hm] at hl
  unfold Program.keyLits at hl
  simp only [A.hu] at hl
  split at hl
  · rename_i hlen
    rw [A.size] at hlen
    obtain ⟨l6⟩ := xs
    match l6, hlen with
    | [y0, y1, y2, y3, y4, y5], _ =>
      rw [range6] at hl
      simp only [A.one, List.mapM_cons, List.mapM_nil, Option.map_eq_some_iff, bind, Option.bind_eq_some_iff, pure, Option.some.injEq] at hl
      obtain ⟨_, ⟨b0, h0, _, ⟨b1, h1, _, ⟨b2, h2, _, ⟨b3, h3, _, ⟨b4, h4, _, ⟨b5, h5, _, rfl, rfl⟩, rfl⟩, rfl⟩, rfl⟩, rfl⟩, rfl⟩, rfl⟩ := hl
      obtain ⟨z0, rfl, rfl, w0⟩ := keyInt_inv he h0
      obtain ⟨z1, rfl, rfl, w1⟩ := keyInt_inv he h1
      obtain ⟨z2, rfl, rfl, w2⟩ := keyInt_inv he h2
      obtain ⟨z3, rfl, rfl, w3⟩ := keyInt_inv he h3
      obtain ⟨z4, rfl, rfl, w4⟩ := keyInt_inv he h4
      obtain ⟨z5, rfl, rfl, w5⟩ := keyInt_inv he h5
      exact ⟨[z0, z1, z2, z3, z4, z5], ⟨rfl, by simp [w0, w1, w2, w3, w4, w5]⟩, rfl, rfl⟩
  · cases hl
theorem keyOf_arr_inv {key : Value} {l : Lit} (h : keyOf Try.prog 98 key = some l) : ∃ zs, Fits zs ∧ key = arrV zs ∧ l = klit zs := keyOf_arr6_inv Try.arrKey Try.underlying3 Try.typesSome h

/-- A map of weights: at each array f's number, an entry just at the arrays of S. -/
def MapIs (D : DataW Unit) (f : List Int → Int) (S : List (List Int)) : Prop :=
  ∀ a, Fits a → D.atKey (klit a) (.lit (.int .i64 0)) = .lit (.int .i64 (f a)) ∧ Maps.has D (klit a) = decide (a ∈ S)

theorem MapIs.empty : MapIs (.map []) (fun _ => 0) [] := fun a _ => ⟨rfl, by simp [Maps.has_eq]⟩

theorem MapIs.put {D : DataW Unit} {f : List Int → Int} {S : List (List Int)} (h : MapIs D f S) (hD : IsMap D) {a : List Int} (ha : Fits a) (v : Int) :
    MapIs (D.put (klit a) (.lit (.int .i64 v))) (fun x => if x = a then v else f x) (a :: S) := fun x hx => by
  by_cases e : x = a
  · subst e
    exact ⟨by rw [atKey_put_same hD (klit_key hx)]; simp, by rw [has_put_same hD (klit_key hx)]; simp⟩
  · have hne : klit x ≠ klit a := fun e' => e (klit_inj hx ha e')
    obtain ⟨h1, h2⟩ := h x hx
    exact ⟨by rw [atKey_put_other hne, h1]; simp [e], by rw [has_put_other hne, h2]; simp [e]⟩

theorem MapIs.at {D : DataW Unit} {f : List Int → Int} {S : List (List Int)} (h : MapIs D f S) {a : List Int} (ha : Fits a) {c : Int} (hc : D.atKey (klit a) (.lit (.int .i64 0)) = .lit (.int .i64 c)) : c = f a := by
  rw [(h a ha).1] at hc
  simpa using hc.symm

theorem wf_i64 {z : Int} (h1 : -9223372036854775808 ≤ z) (h2 : z ≤ 9223372036854775807) : (Lit.int .i64 z).wf = true := WalkArith.wf_i64 (by omega)

theorem fits_raised {zs : List Int} (h : good zs = true) : Fits (raised zs) := by
  refine ⟨raised_length (good_len h), fun z hz => ?_⟩
  unfold raised at hz
  rcases List.mem_append.1 hz with hz | hz
  · obtain ⟨x, hx, rfl⟩ := List.mem_map.1 hz
    have := good_mem h x hx
    exact wf_i64 (by omega) (by omega)
  · obtain ⟨_, rfl⟩ := List.mem_replicate.1 hz
    exact wf_i64 (by omega) (by omega)

theorem nocell_map {w : World} {b n : Nat} {D : DataW Unit} {k : TypeId} {R : Value → Option (DataW Unit × List MemPlace)} (h : w.ownsMap Try.prog k R b n D) (a : Addr) {v : Value} (hc : w.cell? a = some v) : a.block ≠ b := by
  obtain ⟨es, clock, hb, _⟩ := h
  rintro rfl
  simp [World.cell?, hb] at hc

theorem At.grown {w w' : World} {b : Nat} {a : Option Addr} {zs : List Int} (h : At w a zs) (hg : w.grownBy w' (Option.some b)) (hm : ∀ (p : Addr) (v : Value), w.cell? p = Option.some v → p.block ≠ b) : At w' a zs := by
  rcases h with h | ⟨b', off, rfl, hc⟩
  · exact .inl h
  · exact .inr ⟨b', off, rfl, fun i hi => hg.cell (hc i hi) (fun e => hm _ _ (hc i hi) (by simpa using e))⟩
theorem AtW.grown {w w' : World} {b : Nat} {a : Option Addr} {ts : List WRow} (h : AtW w a ts) (hg : w.grownBy w' (Option.some b)) (hm : ∀ (p : Addr) (v : Value), w.cell? p = Option.some v → p.block ≠ b) : AtW w' a ts := by
  rcases h with h | ⟨b', off, rfl, hc⟩
  · exact .inl h
  · refine .inr ⟨b', off, rfl, fun i hi => ?_⟩
    obtain ⟨a', c', h1, h2, h3, h4⟩ := hc i hi
    exact ⟨a', c', hg.cell h1 (fun e => hm _ _ h1 (by simpa using e)), hg.cell h2 (fun e => hm _ _ h2 (by simpa using e)), h3, h4.grown hg hm⟩
theorem Below.toGrown {w w' : World} (h : Below w.heap.size w w') (row : Option Nat) : w.grownBy w' row := ⟨h.os, h.tape, h.output, h.size, fun k hk _ => h.block k hk⟩

/-- What the first k rows add at the array a. -/
def sumAt (ts : List WRow) (k : Nat) (times : Int) (a : List Int) : Int := ((ts.take k).map fun t => if raised t.1 = a then t.2 * times else 0).sum
theorem sumAt_zero (ts : List WRow) (times : Int) (a : List Int) : sumAt ts 0 times a = 0 := rfl
theorem sumAt_succ (ts : List WRow) (k : Nat) (times : Int) (a : List Int) (h : k < ts.length) : sumAt ts (k + 1) times a = sumAt ts k times a + (if raised (wat ts k).1 = a then (wat ts k).2 * times else 0) := by
  unfold sumAt
  rw [wtake_succ ts k h, List.map_append, List.sum_append]
  simp
/-- The arrays of the first k rows. -/
def keysTo (ts : List WRow) (k : Nat) : List (List Int) := ((ts.take k).map fun t => raised t.1).reverse
theorem keysTo_succ (ts : List WRow) (k : Nat) (h : k < ts.length) : keysTo ts (k + 1) = raised (wat ts k).1 :: keysTo ts k := by
  unfold keysTo
  rw [wtake_succ ts k h, List.map_append, List.reverse_append]
  rfl

end Go.Proofs.Ytaaefdddibdenaa

/- Contracts of impl.goodColumns, impl.goodWeight, impl.goodWeighted, impl.GoodTable. -/
namespace Go.Proofs.Ytaaefdddibdenaa
open Go.RowKit

theorem goodColumns_any (p : Int) (w : World) :
    Calls Try.prog 63 #[.int .i64 p] w fun e w' => e = .returned (.bool (inc p)) ∧ w' = w := by
  by_cases h : 0 ≤ p
  · go_enter Try.func63, Try.ntmps63
    go_wp2
    go_ret
    exact ⟨ret_bool (by simp [inc, h]), rfl⟩
  · go_enter Try.func63, Try.ntmps63
    go_wp2
    go_ret
    exact ⟨ret_bool (by simp only [inc, decide_eq_false (show ¬ 0 ≤ p by omega), Bool.false_and]), rfl⟩

theorem goodWeight_any (p : Int) (w : World) :
    Calls Try.prog 83 #[.int .i64 p] w fun e w' => e = .returned (.bool (inw p)) ∧ w' = w := by
  by_cases h : -1000000 ≤ p
  · go_enter Try.func83, Try.ntmps83
    go_wp2
    go_ret
    exact ⟨ret_bool (by simp [inw, h]), rfl⟩
  · go_enter Try.func83, Try.ntmps83
    go_wp2
    go_ret
    exact ⟨ret_bool (by simp only [inw, decide_eq_false (show ¬ -1000000 ≤ p by omega), Bool.false_and]), rfl⟩

set_option maxHeartbeats 2000000 in
theorem goodWeighted_any (a : Option Addr) (n c : Nat) (ts : List WRow) (p : Int) (w : World) (hz : ts.length = n) (hn : n ≤ 1048576) (ha : AtW w a ts) :
    Calls Try.prog 64 #[.int .i64 p, .slice a n c] w fun e w' => e = .returned (.bool (goodL p ts)) ∧ Below w.heap.size w w' := by
  by_cases h0 : n = 0
  · subst h0
    obtain rfl := List.eq_nil_of_length_eq_zero hz
    go_enter Try.func64, Try.ntmps64
    go_wp2
    refine wp_loop_rounds 1 ?_
    rw [rounds_succ]
    go_wp2
    go_ret
    exact ⟨ret_bool rfl, Below.refl _ _⟩
  · go_enter Try.func64, Try.ntmps64
    go_wp2
    go_loopw [9] (fun i wr => ∃ (k : Nat), k ≤ n ∧ i = .int .i64 k ∧ (∀ j, j < k → goodW p (wat ts j) = true) ∧ Below w.heap.size w wr) (fun i _ => n - (intOf i).toNat)
    case atStart => exact ⟨0, Nat.zero_le _, rfl, fun j hj => by omega, Below.refl _ _⟩
    case round =>
      obtain ⟨k, hk, rfl, hall, hbw⟩ := hrel
      by_cases hlt : k < n
      · obtain ⟨b, off, rfl, hc⟩ := (ha.below hbw).some (by omega)
        obtain ⟨q, d, hcx, hwx, hm, hat⟩ := hc k (by omega)
        have HN : Hid (goodW p (wat ts k) = false → goodL p ts = false) := fun h => goodL_not k (by omega) h
        have HS : Hid (goodW p (wat ts k) = true → ∀ j, j < k + 1 → goodW p (wat ts j) = true) := fun h j hj => by
          by_cases e : j = k
          · subst e; exact h
          · exact hall j (by omega)
        generalize wat ts k = Y at *
        obtain ⟨ys, x⟩ := Y
        simp only at hcx hwx hat hm
        obtain ⟨m, hmm⟩ : ∃ m, ys.length = m := ⟨_, rfl⟩
        rw [hmm] at hcx hm
        have HM := Hid.mk hmm
        have hki : (k : Int) < (n : Int) := by omega
        clear hall hc hmm ha
        have hb1 : Below wr.heap.size wr (wr.alloc (.cells #[.slice q m d, .int .i64 x] 89)) := (Below.refl _ _).alloc (Nat.le_refl _) _
        have HA := hat.below hb1
        have B1 := hbw.trans (hb1.mono hbw.size)
        clear hb1 hat
        cases hg : good ys with
        | false =>
          have HG := Hid.mk hg
          clear hg
          go_wp2_with fail
          refine (implGoodRow_any _ _ _ ys _ HM.out hm HA).mono ?_
          rintro e w1 ⟨rfl, hb⟩
          rw [HG.out]
          go_wp2
          go_ret
          exact ⟨ret_bool (HN.out (goodW_row HG.out)).symm, B1.trans (hb.mono B1.size)⟩
        | true =>
          have HG := Hid.mk hg
          clear hg
          by_cases hl : (m : Int) = p
          · have hne : ((m : Int) != p) = false := by simp [hl]
            have HL := Hid.mk hl
            clear hl
            cases hi : inw x with
            | false =>
              have HI := Hid.mk hi
              clear hi
              go_wp2_with fail
              refine (implGoodRow_any _ _ _ ys _ HM.out hm HA).mono ?_
              rintro e w1 ⟨rfl, hb⟩
              rw [HG.out]
              have e1 := cell_later hb (pair0 wr (.slice q m d) (.int .i64 x) 89)
              have e2 := cell_later hb (pair1 wr (.slice q m d) (.int .i64 x) 89)
              go_wp2_with (go_at_call 83; refine (goodWeight_any _ _).mono ?_; rintro e w2 ⟨rfl, rfl⟩; rw [HI.out])
              go_ret
              exact ⟨ret_bool (HN.out (goodW_wt HI.out)).symm, B1.trans (hb.mono B1.size)⟩
            | true =>
              have HI := Hid.mk hi
              clear hi
              go_wp2_with fail
              refine (implGoodRow_any _ _ _ ys _ HM.out hm HA).mono ?_
              rintro e w1 ⟨rfl, hb⟩
              rw [HG.out]
              have e1 := cell_later hb (pair0 wr (.slice q m d) (.int .i64 x) 89)
              have e2 := cell_later hb (pair1 wr (.slice q m d) (.int .i64 x) 89)
              go_wp2_with (go_at_call 83; refine (goodWeight_any _ _).mono ?_; rintro e w2 ⟨rfl, rfl⟩; rw [HI.out])
              go_roundw
              case rel => exact ⟨k + 1, by omega, by go_num, HS.out (goodW_mk HG.out (by show (ys.length : Int) = p; rw [HM.out]; exact HL.out) HI.out), B1.trans (hb.mono B1.size)⟩
              case measure => simp [intOf]; omega
          · have hne : ((m : Int) != p) = true := by simp [hl]
            have HL := Hid.mk hl
            clear hl
            go_wp2_with fail
            refine (implGoodRow_any _ _ _ ys _ HM.out hm HA).mono ?_
            rintro e w1 ⟨rfl, hb⟩
            rw [HG.out]
            have e1 := cell_later hb (pair0 wr (.slice q m d) (.int .i64 x) 89)
            go_wp2
            go_ret
            exact ⟨ret_bool (HN.out (goodW_len (by show (ys.length : Int) ≠ p; rw [HM.out]; exact HL.out))).symm, B1.trans (hb.mono B1.size)⟩
      · go_wp2
        go_ret
        exact ⟨ret_bool (goodL_of (fun j hj => hall j (by omega))).symm, hbw⟩

end Go.Proofs.Ytaaefdddibdenaa

/- Contracts of impl.weights.add, impl.sumsOf. -/
namespace Go.Proofs.Ytaaefdddibdenaa
open Go.RowKit Go.Maps
open Go.ChangeMaps (setBlock)

theorem Try.zeroInt (w : World) : (zeroValue 3).run Try.prog w = .ok (.int .i64 0) w := by kernel_rfl

theorem setBlock_twice (w : World) (b : Nat) (o o' : Obj) : setBlock (setBlock w b o) b o' = setBlock w b o' := by simp [setBlock]
theorem heap_setBlock_at {w : World} {b : Nat} {es : Array MapEntry} {clock : Nat} (hb : w.heap[b]? = some (.map es clock)) (o : Obj) : (setBlock w b o).heap[b]? = some o := by
  have := (Array.getElem?_eq_some_iff.1 hb).1
  simp [setBlock, this]
theorem setBlock_grown (w : World) (b : Nat) (o : Obj) : w.grownBy (setBlock w b o) (some b) :=
  ⟨rfl, rfl, rfl, by simp [setBlock], fun k _ hn => by simp [setBlock, show b ≠ k from fun e => hn (by rw [e])]⟩

theorem mul_bound {x t : Int} (h1 : -1000000 ≤ x) (h2 : x ≤ 1000000) (h3 : -1000 ≤ t) (h4 : t ≤ 1000) : -1000000000 ≤ x * t ∧ x * t ≤ 1000000000 := by
  have a1 : (x + 1000000) * (t + 1000) ≥ 0 := Int.mul_nonneg (by omega) (by omega)
  have a2 : (1000000 - x) * (1000 - t) ≥ 0 := Int.mul_nonneg (by omega) (by omega)
  have a3 : (x + 1000000) * (1000 - t) ≥ 0 := Int.mul_nonneg (by omega) (by omega)
  have a4 : (1000000 - x) * (t + 1000) ≥ 0 := Int.mul_nonneg (by omega) (by omega)
  simp only [Int.add_mul, Int.sub_mul, Int.mul_add, Int.mul_sub] at a1 a2 a3 a4
  omega

theorem MapIs.congr {D : DataW Unit} {f f' : List Int → Int} {S S' : List (List Int)} (h : MapIs D f S) (hf : ∀ x, f x = f' x) (hS : S = S') : MapIs D f' S' := by
  obtain rfl : f = f' := funext hf
  subst hS
  exact h

/-- To take the entry is to store at the key what it holds, 0 where it is new. -/
theorem entry_is_update {P : Program} {t k e : TypeId} (K : WideMaps.KeyLaw P k) (ht : P.underlying t = some (.map k e)) {z : Value} (hz : ∀ u : World, (zeroValue e).run P u = .ok z u) {w W1 : World} {b : Nat} {es : Array MapEntry} {clock : Nat}
    {R : Value → Option (DataW Unit × List MemPlace)} (hb : w.heap[b]? = some (.map es clock)) (F : WideElems.Fit P k R es clock) {key : Value} {kl : Lit} (hkey : keyOf P k key = some kl) {v0 : Value} {st : Nat}
    (hrun : (Instr.mapEntry t (.map (some b)) key).run P w = .ok (.tuple #[v0, goInt st]) W1) : (Instr.mapUpdate t (.map (some b)) key v0).run P w = .ok () W1 := by
  rcases K.find w hkey es.toList F.keys with ⟨h1, h2⟩ | ⟨j, e0, h1, h2, h3⟩
  · simp [Instr.mapEntry, run_underlying ht, MapKept.run_getObj_map hb, K.check w false hkey, h1, hz, MapKept.run_setObj_map _ hb, Result.andThen] at hrun
    obtain ⟨⟨rfl, _⟩, rfl⟩ := hrun
    simp [Instr.mapUpdate, run_underlying ht, MapKept.run_getObj_map hb, K.check w false hkey, h1, MapKept.run_setObj_map _ hb, Result.andThen]
  · have hj : es[j]? = some e0 := by simpa using h2
    simp [Instr.mapEntry, run_underlying ht, MapKept.run_getObj_map hb, K.check w false hkey, h1, hj, h3, K.stays w hkey, MapKept.run_setObj_map _ hb, Result.andThen] at hrun
    obtain ⟨⟨rfl, _⟩, rfl⟩ := hrun
    have hmod : es.modify j (fun e' => { e' with key := key, val := e0.val }) = es.modify j (fun e' => { e' with key := key }) := by
      apply Array.ext'
      rw [Array.toList_modify, Array.toList_modify, ChangeMaps.modify_eq_set _ _ _ _ h2, ChangeMaps.modify_eq_set _ _ _ _ h2]
    simp [Instr.mapUpdate, run_underlying ht, MapKept.run_getObj_map hb, K.check w false hkey, h1, hj, h3, K.stays w hkey, MapKept.run_setObj_map _ hb, Result.andThen, hmod]

/-- 'm[k] += v' in its steps: the look-up (ahead of the entry or behind it), the entry, the store. -/
theorem bump {P : Program} {t k e : TypeId} (K : WideMaps.KeyLaw P k) (ht : P.underlying t = some (.map k e)) (he : P.underlying e = some (.int .i64)) (hz : ∀ u : World, (zeroValue e).run P u = .ok (.int .i64 0) u) {w : World} {b cnt : Nat} {D : DataW Unit}
    (hown : w.ownsMap P k (plainElem P e) b cnt D) (hcnt : cnt < maxLen) {key : Value} {kl : Lit} (hkey : keyOf P k key = some kl) :
    ∃ c : Int, (Instr.lookup t (.map (some b)) key false).run P w = .ok (.int .i64 c) w ∧ D.atKey kl (.lit (.int .i64 0)) = .lit (.int .i64 c) ∧
      ∀ v : Int, (Lit.int .i64 v).wf = true → ∃ (v0 : Value) (st : Nat) (W1 W2 : World), (Instr.mapEntry t (.map (some b)) key).run P w = .ok (.tuple #[v0, .int .i64 st]) W1 ∧ (Instr.lookup t (.map (some b)) key false).run P W1 = .ok (.int .i64 c) W1 ∧
        (Instr.entryStore t (.map (some b)) (.int .i64 st) (.int .i64 v)).run P W1 = .ok () W2 ∧ W2.ownsMap P k (plainElem P e) b (cnt + 1) (D.put kl (.lit (.int .i64 v))) ∧ w.grownBy W1 (some b) ∧ w.grownBy W2 (some b) := by
  have KK := Keyed.of_law K
  obtain ⟨c, h1, h2, _⟩ := hown.lookup_int KK ht he (hz w) hkey
  refine ⟨c, h1, h2, fun v hv => ?_⟩
  obtain ⟨w', hu, ho, hg⟩ := hown.update KK ht hcnt hkey (plainElem_int he hv)
  have hown' := hown
  obtain ⟨es, clock, hb, F, _, hD⟩ := hown
  obtain ⟨v0, st, es1, clock1, r1, rv, r2⟩ := WideElems.entry_then_store K ht hz hb F hkey
  obtain ⟨es', clock', s1, s2⟩ := r2 (setBlock w b (.map es1 clock1)) (.int .i64 v) (heap_setBlock_at hb _)
  rw [setBlock_twice] at s1
  have e : w' = setBlock w b (.map es' clock') := by rw [s2] at hu; simpa using hu.symm
  subst e
  have hupd := entry_is_update K ht hz hb F hkey r1
  have hv0 : v0 = .int .i64 c := by
    rcases fit_look false KK ht (hz w) hb F hkey with ⟨hrun, hno, _⟩ | ⟨e0, y, hy1, hy2, hrun, _, _, _⟩
    · rw [h1] at hrun
      rcases rv with ⟨e0, he0, hk0, _⟩ | ⟨_, hv⟩
      · exact absurd hk0 (hno e0 he0)
      · rw [hv]; simpa using hrun.symm
    · rw [h1] at hrun
      rcases rv with ⟨e1, he1, hk1, hv⟩ | ⟨hno, _⟩
      · rw [hv, entry_eq_of_key (by have := F.stamped.2.2; rwa [List.Nodup, List.pairwise_map] at this) he1 hy1 (hk1.trans hy2.symm)]; simpa using hrun.symm
      · exact absurd hy2 (hno e0 hy1)
  subst hv0
  have hwc : (Lit.int .i64 c).wf = true := by
    obtain ⟨c', h1', h2', h3'⟩ := hown'.lookup_int KK ht he (hz w) hkey
    rw [h1] at h1'
    simp at h1'
    subst h1'
    exact h3'
  obtain ⟨w'', hu'', ho'', _⟩ := hown'.update KK ht hcnt hkey (plainElem_int he hwc)
  have e : w'' = setBlock w b (.map es1 clock1) := by rw [hupd] at hu''; simpa using hu''.symm
  subst e
  obtain ⟨c2, k1, k2, _⟩ := ho''.lookup_int KK ht he (hz _) hkey
  rw [atKey_put_same hown'.isMap (KK.key hkey)] at k2
  have : c2 = c := by simpa using k2.symm
  subst this
  exact ⟨.int .i64 c2, st, _, _, r1, k1, s1, ho, setBlock_grown _ _ _, hg⟩

end Go.Proofs.Ytaaefdddibdenaa
