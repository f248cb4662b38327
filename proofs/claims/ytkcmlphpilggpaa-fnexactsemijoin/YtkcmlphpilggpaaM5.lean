/- Several texts of one proof, in build order: KeyA, TellP, TableP, L2Own, GoodRow, ArrEq, ArrayOf. -/
import Derived.Test.YtkcmlphpilggpaaRows
import Derived.Test.YtkcmlphpilggpaaM4
import Derived.Maps.OwnSet
import Derived.Maps.OwnOps
import Derived.Maps.RangeWalk
import Derived.WideKeyArr2
import Derived.Test.YtkcmlphpilggpaaM1
import Derived.Test.YtkcmlphpilggpaaM3
import Derived.Test.YtkcmlphpilggpaaM2
import Derived.Laws.StructEq

/- Arrays of six ints as keys of a map, and what a map of weights holds. -/
namespace Go.Proofs.Ytkcmlphpilggpaa
open Go.RowKit Go.Maps

/-- An array of ints as a value. -/
def arrV (zs : List Int) : Value := .agg (zs.map (Value.int .i64)).toArray
/-- Six numbers that fit. -/
def Fits (zs : List Int) : Prop := zs.length = 6 ∧ ∀ z ∈ zs, (Lit.int .i64 z).wf = true

theorem arrV_inj {a b : List Int} (h : arrV a = arrV b) : a = b := by
  simp only [arrV, Value.agg.injEq] at h
  have h' : a.map (Value.int .i64) = b.map (Value.int .i64) := by simpa using congrArg Array.toList h
  exact List.map_inj_right (fun _ _ e => by simpa using e) |>.1 h'

theorem Try.arrKey : WideMaps.ArrKey Try.prog 107 3 6 := ⟨Try.underlying107, by kernel_rfl, by kernel_rfl, by kernel_rfl⟩
theorem Try.keyedA : Keyed Try.prog 107 := Keyed.of_law Try.arrKey.law
theorem Try.typesPos : 0 < Try.prog.types.size := by decide +kernel
theorem Try.typesSome : ∃ m, Try.prog.types.size = m + 1 := ⟨Try.prog.types.size - 1, by have := Try.typesPos; omega⟩

/-- What six numbers read as, as a key. -/
def klit (zs : List Int) : Lit := .string (keyBytes (zs.map (.int .i64)))

theorem range6 : List.range 6 = [0, 1, 2, 3, 4, 5] := rfl

theorem keyLits_arr (zs : List Int) (h : Fits zs) : Try.prog.keyLits (Try.prog.types.size + 1) 107 (zs.map (Value.int .i64)) = some (zs.map (.int .i64)) := by
  obtain ⟨m, hm⟩ := Try.typesSome
  obtain ⟨x0, x1, x2, x3, x4, x5, rfl⟩ := list6 h.1
  have hw := h.2
  simp only [List.mem_cons, List.not_mem_nil, or_false, forall_eq_or_imp, forall_eq] at hw
  obtain ⟨w0, w1, w2, w3, w4, w5⟩ := hw
  rw [hm]
  unfold Program.keyLits
  simp only [Try.arrKey.hu]
  rw [if_pos (by rw [Try.arrKey.size]; rfl), range6]
  simp [List.mapM_cons, Try.arrKey.one, Program.keyLits, Try.underlying3, w0, w1, w2, w3, w4, w5]

theorem keyOf_arr (zs : List Int) (h : Fits zs) : keyOf Try.prog 107 (arrV zs) = some (klit zs) := by
  have hkt := Try.arrKey.keyType Try.typesSome
  unfold keyOf
  simp only [Try.arrKey.hu]
  rw [if_pos (by simp [hkt, arrV, Value.formed, Try.arrKey.hu, Try.arrKey.size, h.1])]
  have := keyLits_arr zs h
  simp only [arrV, Value.cells]
  rw [this]
  rfl

theorem klit_inj {a b : List Int} (ha : Fits a) (hb : Fits b) (h : klit a = klit b) : a = b :=
  arrV_inj (Try.keyedA.inj (keyOf_arr a ha) (by rw [h]; exact keyOf_arr b hb))

theorem klit_key {a : List Int} (ha : Fits a) : WideAt.IsKeyLit (klit a) := Try.keyedA.key (keyOf_arr a ha)

theorem keyInt_inv {P : Program} {e : TypeId} (he : P.underlying e = some (.int .i64)) {m : Nat} {y : Value} {la : List Lit} (h : P.keyLits (m + 1) e [y] = some la) : ∃ z, y = .int .i64 z ∧ la = [.int .i64 z] ∧ (Lit.int .i64 z).wf = true := by
  cases y <;> simp [Program.keyLits, he] at h
  obtain ⟨⟨rfl, hw⟩, rfl⟩ := h
  exact ⟨_, rfl, rfl, hw⟩

theorem keyOf_arr6_inv {P : Program} {k e : TypeId} (A : WideMaps.ArrKey P k e 6) (he : P.underlying e = some (.int .i64)) (hsz : ∃ m, P.types.size = m + 1) {key : Value} {l : Lit} (h : keyOf P k key = some l) :
    ∃ zs, Fits zs ∧ key = arrV zs ∧ l = klit zs := by
  obtain ⟨xs, L, rfl, hl, rfl⟩ := keyOf_top A.wide h
  clear h
  obtain ⟨m, hm⟩ := hsz
  rw [hm] at hl
  unfold Program.keyLits at hl
  simp only [A.hu] at hl
  split at hl
  · rename_i hlen
    rw [A.size] at hlen
    obtain ⟨l6⟩ := xs
    match l6, hlen with
    | [y0, y1, y2, y3, y4, y5], _ =>
      rw [range6] at hl
      simp only [A.one, List.mapM_cons, List.mapM_nil, Option.map_eq_some_iff, bind, Option.bind_eq_some_iff, pure, Option.some.injEq] at hl
      obtain ⟨_, ⟨b0, h0, _, ⟨b1, h1, _, ⟨b2, h2, _, ⟨b3, h3, _, ⟨b4, h4, _, ⟨b5, h5, _, rfl, rfl⟩, rfl⟩, rfl⟩, rfl⟩, rfl⟩, rfl⟩, rfl⟩ := hl
      obtain ⟨z0, rfl, rfl, w0⟩ := keyInt_inv he h0
      obtain ⟨z1, rfl, rfl, w1⟩ := keyInt_inv he h1
      obtain ⟨z2, rfl, rfl, w2⟩ := keyInt_inv he h2
      obtain ⟨z3, rfl, rfl, w3⟩ := keyInt_inv he h3
      obtain ⟨z4, rfl, rfl, w4⟩ := keyInt_inv he h4
      obtain ⟨z5, rfl, rfl, w5⟩ := keyInt_inv he h5
      exact ⟨[z0, z1, z2, z3, z4, z5], ⟨rfl, by simp [w0, w1, w2, w3, w4, w5]⟩, rfl, rfl⟩
  · cases hl
theorem keyOf_arr_inv {key : Value} {l : Lit} (h : keyOf Try.prog 107 key = some l) : ∃ zs, Fits zs ∧ key = arrV zs ∧ l = klit zs := keyOf_arr6_inv Try.arrKey Try.underlying3 Try.typesSome h

/-- A map of weights: at each array f's number, an entry just at the arrays of S. -/
def MapIs (D : DataW Unit) (f : List Int → Int) (S : List (List Int)) : Prop :=
  ∀ a, Fits a → D.atKey (klit a) (.lit (.int .i64 0)) = .lit (.int .i64 (f a)) ∧ Maps.has D (klit a) = decide (a ∈ S)

theorem MapIs.empty : MapIs (.map []) (fun _ => 0) [] := fun a _ => ⟨rfl, by simp [Maps.has_eq]⟩

theorem MapIs.put {D : DataW Unit} {f : List Int → Int} {S : List (List Int)} (h : MapIs D f S) (hD : IsMap D) {a : List Int} (ha : Fits a) (v : Int) :
    MapIs (D.put (klit a) (.lit (.int .i64 v))) (fun x => if x = a then v else f x) (a :: S) := fun x hx => by
  by_cases e : x = a
  · subst e
    exact ⟨by rw [atKey_put_same hD (klit_key hx)]; simp, by rw [has_put_same hD (klit_key hx)]; simp⟩
  · have hne : klit x ≠ klit a := fun e' => e (klit_inj hx ha e')
    obtain ⟨h1, h2⟩ := h x hx
    exact ⟨by rw [atKey_put_other hne, h1]; simp [e], by rw [has_put_other hne, h2]; simp [e]⟩

theorem MapIs.at {D : DataW Unit} {f : List Int → Int} {S : List (List Int)} (h : MapIs D f S) {a : List Int} (ha : Fits a) {c : Int} (hc : D.atKey (klit a) (.lit (.int .i64 0)) = .lit (.int .i64 c)) : c = f a := by
  rw [(h a ha).1] at hc
  simpa using hc.symm

theorem wf_i64 {z : Int} (h1 : -9223372036854775808 ≤ z) (h2 : z ≤ 9223372036854775807) : (Lit.int .i64 z).wf = true := WalkArith.wf_i64 (by omega)

theorem fits_raised {zs : List Int} (h : good zs = true) : Fits (raised zs) := by
  refine ⟨raised_length (good_len h), fun z hz => ?_⟩
  unfold raised at hz
  rcases List.mem_append.1 hz with hz | hz
  · obtain ⟨x, hx, rfl⟩ := List.mem_map.1 hz
    have := good_mem h x hx
    exact wf_i64 (by omega) (by omega)
  · obtain ⟨_, rfl⟩ := List.mem_replicate.1 hz
    exact wf_i64 (by omega) (by omega)

theorem nocell_map {w : World} {b n : Nat} {D : DataW Unit} {k : TypeId} {R : Value → Option (DataW Unit × List MemPlace)} (h : w.ownsMap Try.prog k R b n D) (a : Addr) {v : Value} (hc : w.cell? a = some v) : a.block ≠ b := by
  obtain ⟨es, clock, hb, _⟩ := h
  rintro rfl
  simp [World.cell?, hb] at hc

theorem At.grown {w w' : World} {b : Nat} {a : Option Addr} {zs : List Int} (h : At w a zs) (hg : w.grownBy w' (Option.some b)) (hm : ∀ (p : Addr) (v : Value), w.cell? p = Option.some v → p.block ≠ b) : At w' a zs := by
  rcases h with h | ⟨b', off, rfl, hc⟩
  · exact .inl h
  · exact .inr ⟨b', off, rfl, fun i hi => hg.cell (hc i hi) (fun e => hm _ _ (hc i hi) (by simpa using e))⟩
theorem AtW.grown {w w' : World} {b : Nat} {a : Option Addr} {ts : List WRow} (h : AtW w a ts) (hg : w.grownBy w' (Option.some b)) (hm : ∀ (p : Addr) (v : Value), w.cell? p = Option.some v → p.block ≠ b) : AtW w' a ts := by
  rcases h with h | ⟨b', off, rfl, hc⟩
  · exact .inl h
  · refine .inr ⟨b', off, rfl, fun i hi => ?_⟩
    obtain ⟨a', c', h1, h2, h3, h4⟩ := hc i hi
    exact ⟨a', c', hg.cell h1 (fun e => hm _ _ h1 (by simpa using e)), hg.cell h2 (fun e => hm _ _ h2 (by simpa using e)), h3, h4.grown hg hm⟩
theorem Below.toGrown {w w' : World} (h : Below w.heap.size w w') (row : Option Nat) : w.grownBy w' row := ⟨h.os, h.tape, h.output, h.size, fun k hk _ => h.block k hk⟩

/-- What the first k rows add at the array a. -/
def sumAt (ts : List WRow) (k : Nat) (times : Int) (a : List Int) : Int := ((ts.take k).map fun t => if raised t.1 = a then t.2 * times else 0).sum
theorem sumAt_zero (ts : List WRow) (times : Int) (a : List Int) : sumAt ts 0 times a = 0 := rfl
theorem sumAt_succ (ts : List WRow) (k : Nat) (times : Int) (a : List Int) (h : k < ts.length) : sumAt ts (k + 1) times a = sumAt ts k times a + (if raised (wat ts k).1 = a then (wat ts k).2 * times else 0) := by
  unfold sumAt
  rw [wtake_succ ts k h, List.map_append, List.sum_append]
  simp
/-- The arrays of the first k rows. -/
def keysTo (ts : List WRow) (k : Nat) : List (List Int) := ((ts.take k).map fun t => raised t.1).reverse
theorem keysTo_succ (ts : List WRow) (k : Nat) (h : k < ts.length) : keysTo ts (k + 1) = raised (wat ts k).1 :: keysTo ts k := by
  unfold keysTo
  rw [wtake_succ ts k h, List.map_append, List.reverse_append]
  rfl

end Go.Proofs.Ytkcmlphpilggpaa

/- Plain: what a list of rows tells of weights. -/
namespace Go.Proofs.Ytkcmlphpilggpaa

/-- What the arrays of a map of weights have in common: each is a good row's with so many cells. -/
def Keys (q : Nat) (S : List (List Int)) : Prop := ∀ a ∈ S, ∃ zs, good zs = true ∧ zs.length = q ∧ a = raised zs

/-- A list of rows that has just the weights of f. -/
structure Tells (q : Nat) (f : List Int → Int) (ts : List WRow) : Prop where
  rises : Rises ts
  noZero : NoZero ts
  rows : ∀ t ∈ ts, good t.1 = true ∧ t.1.length = q
  weight : ∀ zs, good zs = true → zs.length = q → wOf ts zs = f (raised zs)

end Go.Proofs.Ytkcmlphpilggpaa

/- One more weighted row at a slice's end: what is owned behind 'append(rows, row)'. -/
namespace Go.Proofs.Ytkcmlphpilggpaa
open Go.RowKit

theorem wat_left {ts ts' : List WRow} {i : Nat} (h : i < ts.length) : wat (ts ++ ts') i = wat ts i := by simp [wat, List.getD, List.getElem?_append_left h]
theorem wat_last (ts : List WRow) (t : WRow) : wat (ts ++ [t]) ts.length = t := by simp [wat, List.getD]

theorem OwnWk.pushed {w w2 w4 : World} {lo hi : Nat} {te ti : TypeId} {a a' : Option Addr} {n c m c' g cap : Nat} {ts : List WRow} {cells : List Value} {zs : List Int} {x : Int} {o : Obj} (h : OwnW w lo hi te ti a n c ts cells) (hlo : lo ≤ w.heap.size) (hb : Below w.heap.size w w2)
    (hm : zs.length = m) (hrow : w2.ownsRow w.heap.size ti 1 (.slice a' m c') m (zs.map (.int .i64)))
    (hown : w4.ownsRow lo te 2 (.slice (some ⟨g, 0, none⟩) (n + 1) cap) (n + 1) (cells ++ [.slice a' m c', .int .i64 x])) (hgr : (w2.alloc o).grownBy w4 (Value.slice a n c).ownBlock)
    (hat : (Value.slice a n c).ownBlock = some g ∨ g = w2.heap.size + 1) (hlt : g < w4.heap.size) :
    OwnW w4 lo w4.heap.size te ti (some ⟨g, 0, none⟩) (n + 1) cap (ts ++ [(zs, x)]) (cells ++ [.slice a' m c', .int .i64 x]) := by
  have hz := h.len
  have hl := h.outer.1
  have hz2 := hb.size
  have htop := h.top
  have hsz4 : w2.heap.size + 1 ≤ w4.heap.size := by have := hgr.size; simpa using this
  have hout : ∀ b, (Value.slice a n c).ownBlock = some b → b < w.heap.size := fun b hb' => Nat.lt_of_lt_of_le (h.outerLt b hb') htop
  have hL : ∀ i, i < n → (cells ++ [.slice a' m c', .int .i64 x])[i * 2]? = cells[i * 2]? ∧ (cells ++ [.slice a' m c', .int .i64 x])[i * 2 + 1]? = cells[i * 2 + 1]? := fun i hi =>
    ⟨List.getElem?_append_left (by omega), List.getElem?_append_left (by omega)⟩
  have hN0 : (cells ++ [.slice a' m c', .int .i64 x])[n * 2]? = some (.slice a' m c') := by
    rw [List.getElem?_append_right (by omega), show n * 2 - cells.length = 0 by omega]; rfl
  have hN1 : (cells ++ [.slice a' m c', .int .i64 x])[n * 2 + 1]? = some (.int .i64 x) := by
    rw [List.getElem?_append_right (by omega), show n * 2 + 1 - cells.length = 1 by omega]; rfl
  have hblk : ∀ i, i < n → blkW (cells ++ [.slice a' m c', .int .i64 x]) i = blkW cells i := fun i hi => by simp only [blkW, List.getD, (hL i hi).1]
  have hblkN : blkW (cells ++ [.slice a' m c', .int .i64 x]) n = (Value.slice a' m c').ownBlock := blkW_of hN0
  have hnew : ∀ b, (Value.slice a' m c').ownBlock = some b → w.heap.size ≤ b ∧ b < w2.heap.size := fun b hb' => hrow.lt b hb'
  have hold : ∀ i, i < n → ∀ b, blkW cells i = some b → b < w.heap.size := fun i hi b hb' => Nat.lt_of_lt_of_le (h.rowLt i hi b hb').1 htop
  refine ⟨by simp [hz], Nat.le_refl _, hown, fun b hb' => by simp [Value.ownBlock] at hb'; omega, fun i hi => ?_, fun i hi b hb' => ?_, fun i j hi hj hij b hb' => ?_⟩
  · by_cases e : i = n
    · subst e
      rw [show wat (ts ++ [(zs, x)]) i = (zs, x) by rw [← hz]; exact wat_last ts _]
      refine ⟨a', c', by rw [hN0, hm], hN1, ?_⟩
      simp only [hm]
      refine owns_mono ((hrow.alloc o).kept hgr ?_) hlo
      cases hv : (Value.slice a' m c').ownBlock with
      | none => exact .inl rfl
      | some k => exact .inr (fun e' => by have := hnew k hv; have := hout k e'.symm; omega)
    · have hi' : i < n := by omega
      obtain ⟨a1, c1, k1, k2, k3⟩ := h.row i hi'
      rw [wat_left (by omega)]
      refine ⟨a1, c1, by rw [(hL i hi').1]; exact k1, by rw [(hL i hi').2]; exact k2, ((owns_below k3 hb).alloc o).kept hgr ?_⟩
      cases hv : (Value.slice a1 (wat ts i).1.length c1).ownBlock with
      | none => exact .inl rfl
      | some k => exact .inr (fun e' => (h.rowLt i hi' k (by rw [blkW_of k1]; exact hv)).2 e'.symm)
  · by_cases e : i = n
    · subst e
      rw [hblkN] at hb'
      have := hnew b hb'
      refine ⟨by omega, fun e' => ?_⟩
      have hgb : g = b := by simpa [Value.ownBlock] using e'
      rcases hat with h' | h'
      · have := hout g h'; omega
      · omega
    · have hi' : i < n := by omega
      rw [hblk i hi'] at hb'
      have := hold i hi' b hb'
      refine ⟨by omega, fun e' => ?_⟩
      have hgb : g = b := by simpa [Value.ownBlock] using e'
      rcases hat with h' | h'
      · exact (h.rowLt i hi' b hb').2 (by rw [h', hgb])
      · omega
  · by_cases ei : i = n
    · subst ei
      rw [hblkN] at hb'
      have h1 := hnew b hb'
      rw [hblk j (by omega)]
      intro e'
      have := hold j (by omega) b e'
      omega
    · rw [hblk i (by omega)] at hb'
      by_cases ej : j = n
      · subst ej
        rw [hblkN]
        intro e'
        have := hnew b e'
        have := hold i (by omega) b hb'
        omega
      · rw [hblk j (by omega)]
        exact h.apart i j (by omega) (by omega) hij b hb'

end Go.Proofs.Ytkcmlphpilggpaa

/- Contract of spec.l2OwnRow. -/
namespace Go.Proofs.Ytkcmlphpilggpaa
open Go.RowKit

theorem owns_empty (w : World) (e : TypeId) (size : Nat) : (w.alloc (.cells #[] e)).ownsRow w.heap.size e size (.slice (some ⟨w.heap.size, 0, none⟩) 0 0) 0 [] :=
  ⟨by simp, .inr ⟨w.heap.size, 0, #[], rfl, Nat.le_refl _, heap_alloc_new w _, by simp, by simp, by simp, by simp⟩⟩

set_option maxHeartbeats 1000000 in
set_option maxRecDepth 100000 in
theorem l2OwnRow_any (a : Option Addr) (n c : Nat) (zs : List Int) (w : World) (hz : zs.length = n) (hn : n ≤ 1048576) (hnil : a = none → c = 0) (ha : At w a zs) :
    Calls Try.prog 71 #[.agg #[.slice a n c]] w fun e w' => ∃ r d, e = .returned (.agg #[.slice r n d]) ∧ w'.ownsRow w.heap.size 3 1 (.slice r n d) n (zs.map (.int .i64)) ∧ Below w.heap.size w w' := by
  obtain ⟨i0, hi, hz0, hz1, hz2⟩ := info_parts Try.infoInt
  obtain ⟨W, hW⟩ : ∃ W, W = (w.alloc (.cells #[.slice a n c] 97)).alloc (.cells #[.slice none 0 0] 97) := ⟨_, rfl⟩
  have zW : W.heap.size = w.heap.size + 1 + 1 := by rw [hW]; simp
  have B : Below w.heap.size w W := by rw [hW]; exact ((Below.refl _ _).alloc (Nat.le_refl _) _).alloc (by simp) _
  have c1 : W.cell? ⟨w.heap.size, 0, none⟩ = some (.slice a n c) := by rw [hW]; simp
  have q1 : W.heap[w.heap.size + 1]? = some (.cells #[.slice none 0 0] 97 (0, 0)) := by
    rw [hW]
    have := heap_alloc_new (w.alloc (.cells #[.slice a n c] 97)) (.cells #[.slice none 0 0] 97)
    rwa [World.size_alloc] at this
  have Q1 : (W.alloc (.cells #[] 3)).heap[w.heap.size + 1]? = some (.cells #[.slice none 0 0] 97 (0, 0)) := (Below.heap_alloc _ _ _ (by omega)).trans q1
  have HA := ha.below B
  have HA2 := HA.alloc (.cells #[] 3)
  have OE := owns_empty W 3 1
  clear ha HA
  go_enter Try.func71, Try.ntmps71
  subst hW
  rw [zW] at OE
  go_wp2_with (at_builtin; refine wpList_append_all rfl (.tmp 3) (.tmp 5) 22 rfl (w.heap.size + 1 + 1) 3 i0 (.int .i64 0) 8 Try.underlying22 hi hz0 hz1 hz2 rfl (.slice (some ⟨w.heap.size + 1 + 1, 0, none⟩) 0 0) 0 [] rfl OE a n c zs rfl hz HA2 hnil (by unfold maxLen; omega) (by omega) (by simp) ?_; intro r cap w2 hown2 hgrow2; rw [Nat.zero_add] at hown2; rw [Nat.zero_add]; have hR := (hgrow2.block (w.heap.size + 1) (by simp) (by simp [Value.ownBlock])).trans Q1; have t1 : w2.cell? ⟨w.heap.size + 1, 0, none⟩ = some (.slice none 0 0) := (by rw [cell_of_row w2 _ 0 _ _ (0, 0) hR]; simp); have t2 : w2.frozen? ⟨w.heap.size + 1, 0, none⟩ = false := frozen_of_row w2 _ 0 _ _ hR)
  refine bodyPost_ret (v := .agg #[.slice r n cap]) (by simp [results, Try.results71, go_sem, t1]) rfl ⟨r, cap, rfl, ?_, ?_⟩
  · exact owns_mono (ownsRow_setCell_below hown2 (by simp) _) (by omega)
  · exact ((B.alloc (by omega) _).grown hgrow2 (by simp; omega) (fun j hj => by simp [Value.ownBlock] at hj; omega)).setCell (by simp) _

end Go.Proofs.Ytkcmlphpilggpaa

/- Contracts of impl.GoodRow and spec.GoodRow. -/
namespace Go.Proofs.Ytkcmlphpilggpaa
open Go.RowKit

set_option maxHeartbeats 400000 in
theorem implGoodRow_any (a : Option Addr) (n c : Nat) (zs : List Int) (w : World) (hz : zs.length = n) (hn : n ≤ 9223372036854775807) (ha : At w a zs) :
    Calls Try.prog 98 #[.agg #[.slice a n c]] w fun e w' => e = .returned (.bool (good zs)) ∧ Below w.heap.size w w' := by
  by_cases h6 : n ≤ 6
  · by_cases h0 : n = 0
    · subst h0
      obtain rfl := List.eq_nil_of_length_eq_zero hz
      go_enter Try.func98, Try.ntmps98
      go_wp2
      refine wp_loop_rounds 1 ?_
      rw [rounds_succ]
      go_wp2
      go_ret
      exact ⟨ret_bool (by simp [good]), (Below.refl _ _).alloc (Nat.le_refl _) _⟩
    · obtain ⟨b, off, rfl, hb, hc⟩ := (ha.alloc (.cells #[.slice a n c] 97)).some (by omega)
      clear ha
      go_enter Try.func98, Try.ntmps98
      go_wp2
      go_loop [12] (fun i => ∃ k : Nat, k ≤ n ∧ i = .int .i64 k ∧ ∀ j, j < k → -100000 ≤ zs.getD j 0 ∧ zs.getD j 0 ≤ 100000) (fun i => n - (intOf i).toNat)
      case atStart => exact ⟨0, Nat.zero_le _, rfl, fun j hj => by omega⟩
      case round =>
        obtain ⟨k, hk, rfl, hall⟩ := hrel
        by_cases hlt : k < n
        · have hcx := hc k (by omega)
          have HN := not_good_cell (zs := zs) k (by omega)
          have HS : Hid (-100000 ≤ zs.getD k 0 → zs.getD k 0 ≤ 100000 → ∀ j, j < k + 1 → -100000 ≤ zs.getD j 0 ∧ zs.getD j 0 ≤ 100000) := fun h1 h2 j hj => by
            by_cases e : j = k
            · subst e; exact ⟨h1, h2⟩
            · exact hall j (by omega)
          clear hall hc
          obtain ⟨x, hx⟩ : ∃ x, x = zs.getD k 0 := ⟨_, rfl⟩
          rw [← hx] at hcx HN HS
          have HN' : Hid (x < -100000 ∨ 100000 < x → good zs = false) := HN
          clear hx HN
          by_cases hlo : x < -100000
          · go_wp2
            go_ret
            exact ⟨ret_bool (HN'.out (.inl hlo)).symm, (Below.refl _ _).alloc (Nat.le_refl _) _⟩
          · by_cases hhi : 100000 < x
            · go_wp2
              go_ret
              exact ⟨ret_bool (HN'.out (.inr hhi)).symm, (Below.refl _ _).alloc (Nat.le_refl _) _⟩
            · go_wp2
              go_round
              case rel => exact ⟨k + 1, by omega, by go_num, HS.out (by omega) (by omega)⟩
              case measure => simp [intOf]; omega
        · go_wp2
          go_ret
          exact ⟨ret_bool (good_of (by omega) (fun j hj => hall j (by omega))).symm, (Below.refl _ _).alloc (Nat.le_refl _) _⟩
  · go_enter Try.func98, Try.ntmps98
    go_wp2
    go_ret
    exact ⟨ret_bool (good_long (by omega)).symm, (Below.refl _ _).alloc (Nat.le_refl _) _⟩

set_option maxHeartbeats 400000 in
theorem specGoodRow_any (a : Option Addr) (n c : Nat) (zs : List Int) (w : World) (hz : zs.length = n) (hn : n ≤ 9223372036854775807) (ha : At w a zs) :
    Calls Try.prog 68 #[.agg #[.slice a n c]] w fun e w' => e = .returned (.bool (good zs)) ∧ Below w.heap.size w w' := by
  by_cases h0 : n = 0
  · subst h0
    obtain rfl := List.eq_nil_of_length_eq_zero hz
    go_enter Try.func68, Try.ntmps68
    go_wp2
    refine wp_loop_rounds 1 ?_
    rw [rounds_succ]
    go_wp2
    go_ret
    exact ⟨ret_bool (by simp [good]), (Below.refl _ _).alloc (Nat.le_refl _) _⟩
  · obtain ⟨b, off, rfl, hb, hc⟩ := (ha.alloc (.cells #[.slice a n c] 97)).some (by omega)
    clear ha
    go_enter Try.func68, Try.ntmps68
    go_wp2
    go_loop [8] (fun i => ∃ k : Nat, k ≤ n ∧ i = .int .i64 k ∧ ∀ j, j < k → -100000 ≤ zs.getD j 0 ∧ zs.getD j 0 ≤ 100000) (fun i => n - (intOf i).toNat)
    case atStart => exact ⟨0, Nat.zero_le _, rfl, fun j hj => by omega⟩
    case round =>
      obtain ⟨k, hk, rfl, hall⟩ := hrel
      by_cases hlt : k < n
      · have hcx := hc k (by omega)
        have HN := not_good_cell (zs := zs) k (by omega)
        have HS : Hid (-100000 ≤ zs.getD k 0 → zs.getD k 0 ≤ 100000 → ∀ j, j < k + 1 → -100000 ≤ zs.getD j 0 ∧ zs.getD j 0 ≤ 100000) := fun h1 h2 j hj => by
          by_cases e : j = k
          · subst e; exact ⟨h1, h2⟩
          · exact hall j (by omega)
        clear hall hc
        obtain ⟨x, hx⟩ : ∃ x, x = zs.getD k 0 := ⟨_, rfl⟩
        rw [← hx] at hcx HN HS
        have HN' : Hid (x < -100000 ∨ 100000 < x → good zs = false) := HN
        clear hx HN
        by_cases hlo : x < -100000
        · go_wp2
          go_ret
          exact ⟨ret_bool (HN'.out (.inl hlo)).symm, (Below.refl _ _).alloc (Nat.le_refl _) _⟩
        · by_cases hhi : 100000 < x
          · have hd : decide (x ≤ 100000) = false := by simp; omega
            go_wp2
            go_ret
            exact ⟨ret_bool (HN'.out (.inr hhi)).symm, (Below.refl _ _).alloc (Nat.le_refl _) _⟩
          · have hd : decide (x ≤ 100000) = true := by simp; omega
            go_wp2
            go_round
            case rel => exact ⟨k + 1, by omega, by go_num, HS.out (by omega) (by omega)⟩
            case measure => simp [intOf]; omega
      · by_cases h6 : n ≤ 6
        · have hg := good_of (zs := zs) (by omega) (fun j hj => hall j (by omega))
          clear hall hc
          have HG : Hid (good zs = true) := hg
          clear hg
          go_wp2
          go_ret
          exact ⟨ret_bool (by rw [HG.out]; simp; omega), (Below.refl _ _).alloc (Nat.le_refl _) _⟩
        · have HG : Hid (good zs = false) := good_long (zs := zs) (by omega)
          clear hall hc
          go_wp2
          go_ret
          exact ⟨ret_bool (by rw [HG.out]; simp; omega), (Below.refl _ _).alloc (Nat.le_refl _) _⟩

end Go.Proofs.Ytkcmlphpilggpaa

/- Two arrays of ints, compared by '==': a law of the model's own equality. -/
namespace Go.Proofs.Ytkcmlphpilggpaa
open Go.RowKit

def eqParts (d : Nat) (e : TypeId) (n : Nat) (xs ys : Array Value) : List Nat → Sem Bool
  | [] => pure true
  | i :: is => do
    let a ← part e xs (i * n)
    let b ← part e ys (i * n)
    let r ← Op.equalIn d e a b
    if (!r) = true then pure false else eqParts d e n xs ys is

theorem run_equalIn_array {P : Program} (w : World) (d : Nat) (t e : TypeId) (i : TypeInfo) (len : Nat) (ht : P.underlying t = some (.array len e)) (hi : P.info? e = some i) (xs ys : Array Value) :
    (Op.equalIn (d + 1) t (.agg xs) (.agg ys)).run P w = (eqParts d e i.size xs ys (List.range' 0 len)).run P w := by
  simp only [Op.equalIn, Sem.run_bind, run_underlying ht, Result.andThen_ok, sizeOf, typeInfo, run_program, hi, Sem.run_pure]
  rw [Std.Legacy.Range.forIn_eq_forIn_range']
  simp only [Std.Legacy.Range.size, Nat.sub_zero, Nat.add_sub_cancel, Nat.div_one]
  generalize List.range' 0 len = is
  clear ht
  induction is generalizing w with
  | nil => simp [eqParts]
  | cons f fs ih =>
    simp only [List.forIn_cons, eqParts, Sem.run_bind, Sem.run_ite]
    generalize (part e xs (f * i.size)).run P w = r1
    cases r1 with
    | ok a w1 =>
      simp only [Result.andThen_ok]
      generalize (part e ys (f * i.size)).run P w1 = r2
      cases r2 with
      | ok b w2 =>
        simp only [Result.andThen_ok]
        generalize (Op.equalIn d e a b).run P w2 = r3
        cases r3 with
        | ok r w3 =>
          cases r
          · simp only [Result.andThen_ok, Bool.not_false, if_true, Sem.run_pure]
          · simp only [Result.andThen_ok, Bool.not_true, Bool.false_eq_true, if_false, Sem.run_pure]
            exact ih w3
        | halt x w3 => simp [Result.andThen]
      | halt x w2 => simp [Result.andThen]
    | halt x w1 => simp [Result.andThen]

theorem run_eqParts_ints {P : Program} (w : World) (d : Nat) (e : TypeId) (he : P.underlying e = some (.int .i64)) (xs ys : List Int) (is : List Nat) (hx : ∀ i ∈ is, i < xs.length) (hy : ∀ i ∈ is, i < ys.length) :
    (eqParts (d + 1) e 1 (xs.map (Value.int .i64)).toArray (ys.map (Value.int .i64)).toArray is).run P w = .ok (is.all fun i => xs.getD i 0 == ys.getD i 0) w := by
  induction is with
  | nil => simp [eqParts]
  | cons i is ih =>
    have h1 := hx i (by simp)
    have h2 := hy i (by simp)
    have ih' := ih (fun j hj => hx j (by simp [hj])) (fun j hj => hy j (by simp [hj]))
    have p1 : (part e (xs.map (Value.int .i64)).toArray (i * 1)).run P w = .ok (.int .i64 (xs.getD i 0)) w := by simp [part, isAgg, run_underlying he, List.getD, h1]
    have p2 : (part e (ys.map (Value.int .i64)).toArray (i * 1)).run P w = .ok (.int .i64 (ys.getD i 0)) w := by simp [part, isAgg, run_underlying he, List.getD, h2]
    simp only [eqParts, Sem.run_bind, p1, p2, Result.andThen_ok, run_equalIn_int w d e .i64 .i64 _ _ he, Sem.run_ite, ih']
    cases h : (xs.getD i 0 == ys.getD i 0) <;> simp [Sem.run_pure]
    all_goals (simp at h; simp [h])

theorem all_range_eq (xs ys : List Int) (h : xs.length = ys.length) : ((List.range' 0 xs.length).all fun i => xs.getD i 0 == ys.getD i 0) = decide (xs = ys) := by
  rw [Bool.eq_iff_iff, List.all_eq_true, decide_eq_true_eq]
  constructor
  · intro hall
    apply List.ext_getElem h
    intro i h1 h2
    have := hall i (by simp; omega)
    simpa [List.getD, h1, h2] using this
  · rintro rfl i _
    simp

theorem run_equal_ints {P : Program} {len : Nat} (w : World) (d : Nat) (t e : TypeId) (i : TypeInfo) (ht : P.underlying t = some (.array len e)) (he : P.underlying e = some (.int .i64)) (hi : P.info? e = some i) (hs : i.size = 1)
    (xs ys : List Int) (hx : xs.length = len) (hy : ys.length = len) :
    (Op.equalIn (d + 1 + 1) t (.agg (xs.map (Value.int .i64)).toArray) (.agg (ys.map (Value.int .i64)).toArray)).run P w = .ok (decide (xs = ys)) w := by
  rw [run_equalIn_array w (d + 1) t e i len ht hi, hs, run_eqParts_ints w d e he xs ys _ (by simp; omega) (by simp; omega), ← hx, all_range_eq xs ys (by omega)]

end Go.Proofs.Ytkcmlphpilggpaa

/- Contract of impl.arrayOf. -/
namespace Go.Proofs.Ytkcmlphpilggpaa
open Go.RowKit

set_option maxHeartbeats 1000000 in
theorem arrayOf_any (a : Option Addr) (n c : Nat) (zs : List Int) (w : World) (hz : zs.length = n) (hn : n ≤ 6) (hg : ∀ k, k < n → -100000 ≤ zs.getD k 0 ∧ zs.getD k 0 ≤ 100000) (ha : At w a zs) :
    Calls Try.prog 76 #[.agg #[.slice a n c]] w fun e w' => ∃ x0 x1 x2 x3 x4 x5, e = .returned (.agg #[.int .i64 x0, .int .i64 x1, .int .i64 x2, .int .i64 x3, .int .i64 x4, .int .i64 x5]) ∧ raised zs = [x0, x1, x2, x3, x4, x5] ∧ Below w.heap.size w w' := by
  obtain ⟨W, hW⟩ : ∃ W, W = ((w.alloc (.cells #[.slice a n c] 97)).alloc (.cells #[.int .i64 0, .int .i64 0, .int .i64 0, .int .i64 0, .int .i64 0, .int .i64 0] 107)).alloc (.cells #[.int .i64 0, .int .i64 0, .int .i64 0, .int .i64 0, .int .i64 0, .int .i64 0] 107) := ⟨_, rfl⟩
  have B : Below w.heap.size w W := by rw [hW]; exact (((Below.refl _ _).alloc (Nat.le_refl _) _).alloc (by simp) _).alloc (by simp; omega) _
  have HA : At W a zs := ha.below B
  have A1 : Arr W (w.heap.size + 1) 107 [0, 0, 0, 0, 0, 0] := by
    rw [hW]; exact (Arr.new (by simp) (by simp)).alloc _
  have A2 : Arr W (w.heap.size + 1 + 1) 107 (rowTo zs 0) := by
    rw [hW]; exact Arr.new (by simp) (by simp [rowTo])
  have hb0 : ∀ b off, a = some ⟨b, off, none⟩ → 0 < n → b < w.heap.size := by
    rintro b off rfl h0
    obtain ⟨b', off', he, hb', _⟩ := ha.some (by omega)
    simp at he
    omega
  have zW : W.heap.size = w.heap.size + 3 := by rw [hW]; simp
  go_enter Try.func76, Try.ntmps76
  go_wp2
  rw [← hW]
  clear hW ha
  go_loopw [9] (fun i wr => ∃ k : Nat, k ≤ n ∧ i = .int .i64 k ∧ Arr wr (w.heap.size + 1 + 1) 107 (rowTo zs k) ∧ Below (w.heap.size + 2) W wr) (fun i _ => n - (intOf i).toNat)
  case atStart => exact ⟨0, Nat.zero_le _, rfl, A2, Below.refl _ _⟩
  case round =>
    obtain ⟨k, hk, rfl, hrow, hbw⟩ := hrel
    by_cases hlt : k < n
    · obtain ⟨b, off, rfl, hb, hc⟩ := HA.some (by omega)
      have hbb := hb0 b off rfl (by omega)
      have hcx := (hbw.cell (p := ⟨b, off + k, none⟩) (by simp; omega)).trans (hc k (by omega))
      have hgk := hg k hlt
      have hco := hrow.cell k (by rw [rowTo_length zs k (by omega) (by omega)]; omega)
      have hfo := hrow.frozen k
      have HS : Hid (Arr (wr.setCell ⟨w.heap.size + 1 + 1, k, none⟩ (.int .i64 (zs.getD k 0 + 100001))) (w.heap.size + 1 + 1) 107 (rowTo zs (k + 1))) := by
        have := hrow.set k (zs.getD k 0 + 100001)
        rwa [rowTo_set zs k (by omega) (by omega)] at this
      have HB : Hid (Below (w.heap.size + 2) W (wr.setCell ⟨w.heap.size + 1 + 1, k, none⟩ (.int .i64 (zs.getD k 0 + 100001)))) := hbw.setCell (by simp) _
      clear hc hg hrow A1 A2 HA hb0
      obtain ⟨x, hx⟩ : ∃ x, x = zs.getD k 0 := ⟨_, rfl⟩
      rw [← hx] at hcx hgk HS HB
      obtain ⟨y, hy⟩ : ∃ y, y = (rowTo zs k).getD k 0 := ⟨_, rfl⟩
      rw [← hy] at hco
      clear hx hy
      obtain ⟨hlo, hhi⟩ := hgk
      have hk6 : (k : Int) < 6 := by omega
      go_wp2
      go_roundw
      case rel => exact ⟨k + 1, by omega, by go_num, by simpa [Int.add_assoc] using HS.out, by simpa [Int.add_assoc] using HB.out⟩
      case measure => simp [intOf]; omega
    · obtain rfl : k = n := by omega
      rw [← hz, rowTo_all] at hrow
      obtain ⟨x0, x1, x2, x3, x4, x5, hx⟩ := list6 (raised_length (zs := zs) (by omega))
      have HX : Hid (raised zs = [x0, x1, x2, x3, x4, x5]) := hx
      rw [hx] at hrow
      have A1w := A1.below hbw (by omega)
      have e0 := hrow.cell 0 (by simp)
      have e1 := hrow.cell 1 (by simp)
      have e2 := hrow.cell 2 (by simp)
      have e3 := hrow.cell 3 (by simp)
      have e4 := hrow.cell 4 (by simp)
      have e5 := hrow.cell 5 (by simp)
      have f0 := A1w.cell 0 (by simp)
      have f1 := A1w.cell 1 (by simp)
      have f2 := A1w.cell 2 (by simp)
      have f3 := A1w.cell 3 (by simp)
      have f4 := A1w.cell 4 (by simp)
      have f5 := A1w.cell 5 (by simp)
      have r0 := A1w.frozen 0
      have r1 := A1w.frozen 1
      have r2 := A1w.frozen 2
      have r3 := A1w.frozen 3
      have r4 := A1w.frozen 4
      have r5 := A1w.frozen 5
      simp only [List.getD_eq_getElem?_getD, List.getElem?_cons_zero, List.getElem?_cons_succ, Option.getD_some] at e0 e1 e2 e3 e4 e5 f0 f1 f2 f3 f4 f5
      clear hx hrow A1 A2 A1w HA hb0 hg
      go_wp2
      refine bodyPost_ret (v := .agg #[.int .i64 x0, .int .i64 x1, .int .i64 x2, .int .i64 x3, .int .i64 x4, .int .i64 x5]) (by simp [results, Try.results76, go_sem, f0, f1, f2, f3, f4, f5]) rfl ⟨x0, x1, x2, x3, x4, x5, rfl, HX.out, ?_⟩
      exact ((((((B.trans (hbw.mono (by omega))).setCell (by simp) _).setCell (by simp) _).setCell (by simp) _).setCell (by simp) _).setCell (by simp) _).setCell (by simp) _

end Go.Proofs.Ytkcmlphpilggpaa
