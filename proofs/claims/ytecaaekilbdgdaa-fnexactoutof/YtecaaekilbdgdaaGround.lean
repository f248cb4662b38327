/- Plain facts on worlds and lists that the walks of this seat lean on; no Go function is spoken of here. -/
import Derived.WalkKit
import Derived.WalkSpells
import Derived.WalkLawsBesides
import Derived.Deep.RegionHeld3
import Derived.Deep.RegionWith
import Derived.Deep.QuietTactic
import Derived.BigQuiet
namespace Go.Proofs.Ytecaaekilbdgdaa
open Go.RowKit

/-- A slice of ints with the address a holds the numbers zs in the world w. -/
def At (w : World) (a : Option Addr) (zs : List Int) : Prop :=
  zs = [] ∨ ∃ b off, a = some ⟨b, off, none⟩ ∧ ∀ i, i < zs.length → w.cell? ⟨b, off + i, none⟩ = some (.int .i64 (zs.getD i 0))

theorem At.nil (w : World) (a : Option Addr) : At w a [] := .inl rfl

theorem At.below {w w' : World} {a : Option Addr} {zs : List Int} (h : At w a zs) (hb : Below w.heap.size w w') : At w' a zs := by
  rcases h with h | ⟨b, off, rfl, hc⟩
  · exact .inl h
  · refine .inr ⟨b, off, rfl, fun i hi => ?_⟩
    have := hc i hi
    rw [hb.cell (World.block_lt_of_cell? w _ this)]
    exact this

theorem At.alloc {w : World} {a : Option Addr} {zs : List Int} (h : At w a zs) (o : Obj) : At (w.alloc o) a zs :=
  h.below ((Below.refl _ _).alloc (Nat.le_refl _) o)

theorem At.drew {w : World} {a : Option Addr} {zs : List Int} (h : At w a zs) : At w.drew a zs := h.below (Below.refl _ _).drew

theorem At.some {w : World} {a : Option Addr} {zs : List Int} (h : At w a zs) (hp : 0 < zs.length) :
    ∃ b off, a = Option.some ⟨b, off, none⟩ ∧ b < w.heap.size ∧ ∀ i, i < zs.length → w.cell? ⟨b, off + i, none⟩ = Option.some (.int .i64 (zs.getD i 0)) := by
  rcases h with rfl | ⟨b, off, rfl, hc⟩
  · simp at hp
  · exact ⟨b, off, rfl, World.block_lt_of_cell? w _ (hc 0 hp), hc⟩

theorem At.owned {w : World} {base : Nat} {e : TypeId} {a : Option Addr} {n c : Nat} {zs : List Int}
    (h : w.ownsRow base e 1 (.slice a n c) n (zs.map (.int .i64))) : At w a zs := by
  have hl := h.1
  rcases h.2 with ⟨h', rfl⟩ | ⟨g, cap, cur, h', _⟩
  · left; simpa using hl
  · right
    simp only [Value.slice.injEq, true_and] at h'
    obtain ⟨rfl, rfl⟩ := h'
    refine ⟨g, 0, rfl, fun i hi => ?_⟩
    rw [Nat.zero_add, h.cellAt i (by simp at hl; omega)]
    simp [List.getD, hi]

theorem bcell {W w1 : World} (hb : Below W.heap.size W w1) : (∀ b o, b < W.heap.size → w1.cell? ⟨b, o, none⟩ = W.cell? ⟨b, o, none⟩) ∧ (∀ b o, b < W.heap.size → w1.frozen? ⟨b, o, none⟩ = W.frozen? ⟨b, o, none⟩) :=
  ⟨fun b o h => hb.cell (p := ⟨b, o, none⟩) h, fun b o h => hb.frozen (p := ⟨b, o, none⟩) h⟩

theorem owns_mono {w : World} {base base' : Nat} {e : TypeId} {size : Nat} {v : Value} {n : Nat} {xs : List Value} (h : w.ownsRow base e size v n xs) (hb : base' ≤ base) : w.ownsRow base' e size v n xs := by
  refine ⟨h.1, ?_⟩
  rcases h.2 with hn | ⟨g, cap, cur, rfl, hbb, rest⟩
  · exact .inl hn
  · exact .inr ⟨g, cap, cur, rfl, by omega, rest⟩

theorem owns_below {w w' : World} {base : Nat} {e : TypeId} {size : Nat} {v : Value} {n : Nat} {xs : List Value} (h : w.ownsRow base e size v n xs) (hb : Below w.heap.size w w') : w'.ownsRow base e size v n xs := by
  refine ⟨h.1, ?_⟩
  rcases h.2 with hn | ⟨g, cap, cur, rfl, hbb, hg, rest⟩
  · exact .inl hn
  · exact .inr ⟨g, cap, cur, rfl, hbb, (hb.block g (Array.getElem?_eq_some_iff.1 hg).1).trans hg, rest⟩

theorem grown_trans {a b c : World} {row : Option Nat} (h : a.grownBy b row) (k : b.grownBy c row) : a.grownBy c row :=
  ⟨k.os.trans h.os, k.tape.trans h.tape, k.output.trans h.output, Nat.le_trans h.size k.size, fun i hi hn => (k.block i (Nat.lt_of_lt_of_le hi h.size) hn).trans (h.block i hi hn)⟩

theorem grown_undrew {w w' : World} {row : Option Nat} (h : w.drew.grownBy w' row) : w.grownBy w' row := ⟨h.os, h.tape, h.output, h.size, h.block⟩
theorem grown_alloc {w w' : World} {o : Obj} {row : Option Nat} (h : (w.alloc o).grownBy w' row) : w.grownBy w' row := grown_trans (World.grownBy_alloc w o row) h

theorem ret_int {k : IntKind} {a b : Int} (h : a = b) : Ending.returned (.int k a) = .returned (.int k b) := by rw [h]
theorem ret_bool {a b : Bool} (h : a = b) : Ending.returned (.bool a) = .returned (.bool b) := by rw [h]

/-- Block g is an array of the numbers xs, free to be written. -/
def Arr (w : World) (g : Nat) (t : TypeId) (xs : List Int) : Prop := w.heap[g]? = some (.cells (xs.map (Value.int .i64)).toArray t (0, 0))

theorem Arr.cell {w : World} {g : Nat} {t : TypeId} {xs : List Int} (h : Arr w g t xs) (k : Nat) (hk : k < xs.length) : w.cell? ⟨g, k, none⟩ = some (.int .i64 (xs.getD k 0)) := by
  rw [cell_of_row w g k _ t (0, 0) h]
  simp [List.getD, hk]
theorem Arr.frozen {w : World} {g : Nat} {t : TypeId} {xs : List Int} (h : Arr w g t xs) (k : Nat) : w.frozen? ⟨g, k, none⟩ = false := frozen_of_row w g k _ t h
theorem Arr.set {w : World} {g : Nat} {t : TypeId} {xs : List Int} (h : Arr w g t xs) (k : Nat) (v : Int) : Arr (w.setCell ⟨g, k, none⟩ (.int .i64 v)) g t (xs.set k v) := by
  have := heap_setCell_same w g k _ t (.int .i64 v) h
  unfold Arr
  rw [this]
  simp [List.map_set]
theorem Arr.other {w : World} {g : Nat} {t : TypeId} {xs : List Int} (h : Arr w g t xs) (a : Addr) (hg : g ≠ a.block) (v : Value) : Arr (w.setCell a v) g t xs := (Below.heap_setCell w a v g hg).trans h
theorem Arr.below {w w' : World} {g : Nat} {t : TypeId} {xs : List Int} {B : Nat} (h : Arr w g t xs) (hb : Below B w w') (hg : g < B) : Arr w' g t xs := (hb.block g hg).trans h

theorem Arr.new {w : World} {cs : Array Value} {t : TypeId} {xs : List Int} {g : Nat} (hg : g = w.heap.size) (hcs : cs = (xs.map (Value.int .i64)).toArray) : Arr (w.alloc (.cells cs t)) g t xs := by
  subst hg hcs; exact heap_alloc_new w _
theorem Arr.alloc {w : World} {g : Nat} {t : TypeId} {xs : List Int} (h : Arr w g t xs) (o : Obj) : Arr (w.alloc o) g t xs :=
  (Below.heap_alloc w o g (Array.getElem?_eq_some_iff.1 h).1).trans h

theorem list6 {xs : List Int} (h : xs.length = 6) : ∃ x0 x1 x2 x3 x4 x5, xs = [x0, x1, x2, x3, x4, x5] := by
  match xs, h with
  | [x0, x1, x2, x3, x4, x5], _ => exact ⟨x0, x1, x2, x3, x4, x5, rfl⟩

theorem ret_ib {k : IntKind} {a b : Int} {p q : Bool} (h : a = b) (h' : p = q) : Ending.returned (.tuple #[.int k a, .bool p]) = .returned (.tuple #[.int k b, .bool q]) := by rw [h, h']

theorem news_at (w : World) (cs : Array Value) (t : TypeId) : ∀ (j : Nat) (u : Value), cs.toList[j]? = some u → (w.alloc (.cells cs t)).cell? ((⟨w.heap.size, 0, none⟩ : Addr).add j) = some u := by
  intro j u hj
  rw [Addr.add_lit, Nat.zero_add, World.cell?_alloc_new]
  simpa using hj

/-- A variable of one slice (block R), whose cells, the call's own from 'base' on, hold the numbers zs. -/
def RowVar (w : World) (R : Nat) (t : TypeId) (base : Nat) (e : TypeId) (a : Option Addr) (n c : Nat) (zs : List Int) : Prop :=
  zs.length = n ∧ R < base ∧ w.heap[R]? = some (.cells #[.slice a n c] t (0, 0)) ∧ w.ownsRow base e 1 (.slice a n c) n (zs.map (.int .i64))

theorem RowVar.cell {w : World} {R : Nat} {t : TypeId} {base : Nat} {e : TypeId} {a : Option Addr} {n c : Nat} {zs : List Int} (h : RowVar w R t base e a n c zs) : w.cell? ⟨R, 0, none⟩ = some (.slice a n c) := by
  rw [cell_of_row w R 0 _ t (0, 0) h.2.2.1]; simp
theorem RowVar.frozen {w : World} {R : Nat} {t : TypeId} {base : Nat} {e : TypeId} {a : Option Addr} {n c : Nat} {zs : List Int} (h : RowVar w R t base e a n c zs) : w.frozen? ⟨R, 0, none⟩ = false := frozen_of_row w R 0 _ t h.2.2.1
theorem RowVar.own {w : World} {R : Nat} {t : TypeId} {base : Nat} {e : TypeId} {a : Option Addr} {n c : Nat} {zs : List Int} (h : RowVar w R t base e a n c zs) : w.ownsRow base e 1 (.slice a n c) n (zs.map (.int .i64)) := h.2.2.2
theorem RowVar.below {w w' : World} {R : Nat} {t : TypeId} {base : Nat} {e : TypeId} {a : Option Addr} {n c : Nat} {zs : List Int} (h : RowVar w R t base e a n c zs) (hb : Below w.heap.size w w') : RowVar w' R t base e a n c zs :=
  ⟨h.1, h.2.1, (hb.block R (Array.getElem?_eq_some_iff.1 h.2.2.1).1).trans h.2.2.1, owns_below h.2.2.2 hb⟩
theorem RowVar.new {w : World} {R : Nat} {t : TypeId} {base : Nat} {e : TypeId} (hR : R = w.heap.size) (hb : R < base) : RowVar (w.alloc (.cells #[.slice none 0 0] t)) R t base e none 0 0 [] :=
  ⟨rfl, hb, by subst hR; exact heap_alloc_new w _, World.ownsRow_nil _ _ _ _⟩

/-- Behind 'x.f = append(x.f, v)': the append's world w1, and the store. -/
theorem RowVar.pushed {w w1 : World} {R : Nat} {t : TypeId} {base : Nat} {e : TypeId} {a : Option Addr} {n c g cap : Nat} {zs : List Int} {x : Int} {o : Obj} (h : RowVar w R t base e a n c zs)
    (hown : w1.ownsRow base e 1 (.slice (some ⟨g, 0, none⟩) (n + 1) cap) (n + 1) (zs.map (.int .i64) ++ [.int .i64 x])) (hg : (w.alloc o).grownBy w1 (Value.slice a n c).ownBlock) :
    w1.cell? ⟨R, 0, none⟩ = some (.slice a n c) ∧ w1.frozen? ⟨R, 0, none⟩ = false ∧
      RowVar (w1.setCell ⟨R, 0, none⟩ (.slice (some ⟨g, 0, none⟩) (n + 1) cap)) R t base e (some ⟨g, 0, none⟩) (n + 1) cap (zs ++ [x]) := by
  have hlt := (Array.getElem?_eq_some_iff.1 h.2.2.1).1
  have hR : w1.heap[R]? = some (.cells #[.slice a n c] t (0, 0)) := by
    rw [hg.block R (by simp; omega) (fun e' => by have := (h.2.2.2.lt R e'.symm).1; have := h.2.1; omega), Below.heap_alloc w o R hlt]
    exact h.2.2.1
  refine ⟨by rw [cell_of_row w1 R 0 _ t (0, 0) hR]; simp, frozen_of_row w1 R 0 _ t hR, ?_, h.2.1, ?_, ?_⟩
  · simp [h.1]
  · rw [heap_setCell_same w1 R 0 _ t _ hR]; simp
  · rw [List.map_append]
    exact ownsRow_setCell_below hown h.2.1 _

theorem RowVar.pushed_below {w w1 : World} {R : Nat} {t : TypeId} {base : Nat} {e : TypeId} {a : Option Addr} {n c : Nat} {zs : List Int} {o : Obj} {B : Nat} {W : World} {v : Value} (h : RowVar w R t base e a n c zs)
    (hg : (w.alloc o).grownBy w1 (Value.slice a n c).ownBlock) (hB : Below B W w) (hBR : B ≤ R) : Below B W (w1.setCell ⟨R, 0, none⟩ v) := by
  have hlt := (Array.getElem?_eq_some_iff.1 h.2.2.1).1
  have hb := h.2.1
  exact ((hB.alloc (by omega) o).grown hg (by simp; omega) (fun j hj => by have := (h.2.2.2.lt j hj).1; omega)).setCell hBR _

theorem frozen_later {w wx : World} {a : Addr} {v : Value} {p : Bool} (hb : Below w.heap.size w wx) (hc : w.cell? a = some v) (h : w.frozen? a = p) : wx.frozen? a = p :=
  (hb.frozen (World.block_lt_of_cell? _ _ hc)).trans h
theorem ret_rb {v v' : Value} {p q : Bool} (h : v = v') (h' : p = q) : Ending.returned (.tuple #[v, .bool p]) = .returned (.tuple #[v', .bool q]) := by rw [h, h']
theorem own_apart {v v' : Value} {lo hi lo' hi' : Nat} (h : ∀ k, v.ownBlock = some k → lo ≤ k ∧ k < hi) (h' : ∀ k, v'.ownBlock = some k → lo' ≤ k ∧ k < hi') (ha : hi ≤ lo' ∨ hi' ≤ lo) : v.ownBlock = none ∨ v.ownBlock ≠ v'.ownBlock := by
  cases hv : v.ownBlock with
  | none => exact .inl rfl
  | some k => exact .inr (fun e => by have := h k hv; have := h' k e.symm; omega)
theorem drew_size (w : World) : w.drew.heap.size = w.heap.size := rfl
theorem Hid.mk {p : Prop} (h : p) : Hid p := h

/-- The first k cells are those of the numbers zs. -/
def Upto (cs : List Value) (zs : List Int) (k : Nat) : Prop := cs.length = zs.length ∧ ∀ j, j < k → cs[j]? = some (.int .i64 (zs.getD j 0))

theorem Upto.zero {cs : List Value} {zs : List Int} (h : cs.length = zs.length) : Upto cs zs 0 := ⟨h, fun j hj => by omega⟩

theorem Upto.set {cs : List Value} {zs : List Int} {k : Nat} (h : Upto cs zs k) (hk : k < zs.length) : Upto (cs.set k (.int .i64 (zs.getD k 0))) zs (k + 1) := by
  refine ⟨by simpa using h.1, fun j hj => ?_⟩
  rw [List.getElem?_set]
  have hl := h.1
  by_cases e : k = j
  · subst e; rw [if_pos rfl, if_pos (by omega)]
  · rw [if_neg e]; exact h.2 j (by omega)

theorem Upto.all {cs : List Value} {zs : List Int} {k : Nat} (h : Upto cs zs k) (hk : zs.length ≤ k) : cs = zs.map (.int .i64) := by
  apply List.ext_getElem?
  intro j
  by_cases hj : j < zs.length
  · rw [h.2 j (by omega)]; simp [List.getD, hj]
  · rw [List.getElem?_eq_none (by have := h.1; omega), List.getElem?_eq_none (by simp; omega)]

theorem take_succ_getD (zs : List Int) (k : Nat) (h : k < zs.length) : zs.take (k + 1) = zs.take k ++ [zs.getD k 0] := by
  rw [List.take_succ_eq_append_getElem h]; simp [List.getD, h]

theorem take_all_eq {zs zs' : List Int} {k : Nat} (h1 : zs.length ≤ k) (h2 : zs'.length ≤ k) (h : zs.take k = zs'.take k) : zs = zs' := by
  rwa [List.take_of_length_le h1, List.take_of_length_le h2] at h

theorem ne_of_getD {zs zs' : List Int} {k : Nat} (h : zs.getD k 0 ≠ zs'.getD k 0) : zs ≠ zs' := fun e => h (by rw [e])

/-- The numbers that the laws mark n cells with, from k on. -/
def marks (k : Int) (n : Nat) : List Int := (List.range n).map fun (i : Nat) => k + (i : Int)
theorem marks_length (k : Int) (n : Nat) : (marks k n).length = n := by simp [marks]
theorem marks_getD (k : Int) (n j : Nat) (h : j < n) : (marks k n).getD j 0 = k + j := by simp [marks, List.getD, h]

/-! Steps of a walk through a region that draws: the small side conditions fill themselves in. -/
section
variable {P : Program} {ops : Array Oper} {Q : Exit → Act → World → Prop} {md : Region.Mode} {S : World → Prop}

/-- Number i is taken first: it yields a value in every world that meets S. -/
theorem tk (i : Nat) {oi : Oper} {v : Value} {fuel : Nat} {listed : Array Bool} {a a' : Act} {w : World}
    (h : wpAnyH P md ops Q S fuel (listed.setIfInBounds i true) a' w)
    (hi : ops[i]? = some oi := by (simp only [List.getElem?_toArray, List.getElem?_cons_zero, List.getElem?_cons_succ]; rfl))
    (h0 : Region.wanted oi (yielded ops a.tmps) = true := by rfl)
    (hy : ∀ w, S w → (execOp a.eval oi).run P w = .ok (.value v) w := by (intro wS hSw; (try dsimp only at hSw); go_simp; (try with_reducible rfl)))
    (ha : a.put oi.dst v = a' := by ((try simp only [Act.put, List.setIfInBounds_toArray, List.set_cons_zero, List.set_cons_succ]); rfl))
    (hs : Region.noSelect ops = true := by kernel_rfl) (hf : Region.free md ops listed i = true := by kernel_rfl)
    (hr : (Region.ready md ops listed).contains i = true := by kernel_rfl)
    (hQ : ∀ c a w, Q (.panic c) (a.put oi.dst v) w → Q (.panic c) a w := by exact fun _ _ _ h => h)
    (hS : S w := by assumption) : wpAnyH P md ops Q S (fuel + 1) listed a w :=
  wpAnyH_take hi hs hf hr hQ (Or.inl ⟨h0, hy⟩) hS (by rw [ha]; exact h)

/-- Number i is passed over: its guard says no. -/
theorem tu (i : Nat) {oi : Oper} {fuel : Nat} {listed : Array Bool} {a a' : Act} {w : World}
    (h : wpAnyH P md ops Q S fuel (listed.setIfInBounds i true) a' w)
    (hi : ops[i]? = some oi := by (simp only [List.getElem?_toArray, List.getElem?_cons_zero, List.getElem?_cons_succ]; rfl))
    (h0 : Region.wanted oi (yielded ops a.tmps) = false := by rfl)
    (ha : a.put oi.dst undef = a' := by ((try simp only [Act.put, List.setIfInBounds_toArray, List.set_cons_zero, List.set_cons_succ]); rfl))
    (hs : Region.noSelect ops = true := by kernel_rfl) (hf : Region.free md ops listed i = true := by kernel_rfl)
    (hr : (Region.ready md ops listed).contains i = true := by kernel_rfl)
    (hQ : ∀ c a w, Q (.panic c) (a.put oi.dst undef) w → Q (.panic c) a w := by exact fun _ _ _ h => h)
    (hS : S w := by assumption) : wpAnyH P md ops Q S (fuel + 1) listed a w :=
  wpAnyH_take hi hs hf hr hQ (Or.inr ⟨h0, rfl⟩) hS (by rw [ha]; exact h)

/-- Number i alone may come up. -/
theorem tr (i : Nat) {oi : Oper} {fuel : Nat} {listed : Array Bool} {a : Act} {w : World}
    (h : ∀ K' : Act → World → Prop, Shut (∀ a w, S w → (S w → wpAnyH P md ops Q S fuel (listed.setIfInBounds i true) a w) → K' a w) → if Region.wanted oi (yielded ops a.tmps) = true then Oper.wp P oi a w K' Q else K' (a.put oi.dst undef) w)
    (hi : ops[i]? = some oi := by (simp only [List.getElem?_toArray, List.getElem?_cons_zero, List.getElem?_cons_succ]; rfl))
    (hr : Region.ready md ops listed = [i] := by kernel_rfl) : wpAnyH P md ops Q S (fuel + 1) listed a w :=
  wpAnyH_ready hr (by simp) (AllReadyH.cons hi h AllReadyH.nil)
end


end Go.Proofs.Ytecaaekilbdgdaa
