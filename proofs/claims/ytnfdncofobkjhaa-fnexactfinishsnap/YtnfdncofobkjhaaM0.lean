/- Several texts of one proof, in build order: Ground, GroundS, GroundT. -/
import Derived.WalkKit
import Derived.WalkSpells
import Derived.WalkLawsBesides
import Derived.Deep.RegionHeld3
import Derived.Deep.RegionWith
import Derived.Deep.QuietTactic
import Derived.BigQuiet

/- Plain facts on worlds and lists that the walks of this seat lean on; no Go function is spoken of here. -/
namespace Go.Proofs.Ytnfdncofobkjhaa
open Go.RowKit

/-- A slice of ints with the address a holds the numbers zs in the world w. -/
def At (w : World) (a : Option Addr) (zs : List Int) : Prop :=
  zs = [] ∨ ∃ b off, a = some ⟨b, off, none⟩ ∧ ∀ i, i < zs.length → w.cell? ⟨b, off + i, none⟩ = some (.int .i64 (zs.getD i 0))

theorem At.nil (w : World) (a : Option Addr) : At w a [] := .inl rfl

theorem At.below {w w' : World} {a : Option Addr} {zs : List Int} (h : At w a zs) (hb : Below w.heap.size w w') : At w' a zs := by
  rcases h with h | ⟨b, off, rfl, hc⟩
  · exact .inl h
  · refine .inr ⟨b, off, rfl, fun i hi => ?_⟩
    have := hc i hi
    rw [hb.cell (World.block_lt_of_cell? w _ this)]
    exact this

theorem At.alloc {w : World} {a : Option Addr} {zs : List Int} (h : At w a zs) (o : Obj) : At (w.alloc o) a zs :=
  h.below ((Below.refl _ _).alloc (Nat.le_refl _) o)

theorem At.drew {w : World} {a : Option Addr} {zs : List Int} (h : At w a zs) : At w.drew a zs := h.below (Below.refl _ _).drew

theorem At.some {w : World} {a : Option Addr} {zs : List Int} (h : At w a zs) (hp : 0 < zs.length) :
    ∃ b off, a = Option.some ⟨b, off, none⟩ ∧ b < w.heap.size ∧ ∀ i, i < zs.length → w.cell? ⟨b, off + i, none⟩ = Option.some (.int .i64 (zs.getD i 0)) := by
  rcases h with rfl | ⟨b, off, rfl, hc⟩
  · simp at hp
  · exact ⟨b, off, rfl, World.block_lt_of_cell? w _ (hc 0 hp), hc⟩

theorem At.owned {w : World} {base : Nat} {e : TypeId} {a : Option Addr} {n c : Nat} {zs : List Int}
    (h : w.ownsRow base e 1 (.slice a n c) n (zs.map (.int .i64))) : At w a zs := by
  have hl := h.1
  rcases h.2 with ⟨h', rfl⟩ | ⟨g, cap, cur, h', _⟩
  · left; simpa using hl
  · right
    simp only [Value.slice.injEq, true_and] at h'
    obtain ⟨rfl, rfl⟩ := h'
    refine ⟨g, 0, rfl, fun i hi => ?_⟩
    rw [Nat.zero_add, h.cellAt i (by simp at hl; omega)]
    simp [List.getD, hi]

theorem bcell {W w1 : World} (hb : Below W.heap.size W w1) : (∀ b o, b < W.heap.size → w1.cell? ⟨b, o, none⟩ = W.cell? ⟨b, o, none⟩) ∧ (∀ b o, b < W.heap.size → w1.frozen? ⟨b, o, none⟩ = W.frozen? ⟨b, o, none⟩) :=
  ⟨fun b o h => hb.cell (p := ⟨b, o, none⟩) h, fun b o h => hb.frozen (p := ⟨b, o, none⟩) h⟩

theorem owns_mono {w : World} {base base' : Nat} {e : TypeId} {size : Nat} {v : Value} {n : Nat} {xs : List Value} (h : w.ownsRow base e size v n xs) (hb : base' ≤ base) : w.ownsRow base' e size v n xs := by
  refine ⟨h.1, ?_⟩
  rcases h.2 with hn | ⟨g, cap, cur, rfl, hbb, rest⟩
  · exact .inl hn
  · exact .inr ⟨g, cap, cur, rfl, by omega, rest⟩

theorem owns_below {w w' : World} {base : Nat} {e : TypeId} {size : Nat} {v : Value} {n : Nat} {xs : List Value} (h : w.ownsRow base e size v n xs) (hb : Below w.heap.size w w') : w'.ownsRow base e size v n xs := by
  refine ⟨h.1, ?_⟩
  rcases h.2 with hn | ⟨g, cap, cur, rfl, hbb, hg, rest⟩
  · exact .inl hn
  · exact .inr ⟨g, cap, cur, rfl, hbb, (hb.block g (Array.getElem?_eq_some_iff.1 hg).1).trans hg, rest⟩

theorem grown_trans {a b c : World} {row : Option Nat} (h : a.grownBy b row) (k : b.grownBy c row) : a.grownBy c row :=
  ⟨k.os.trans h.os, k.tape.trans h.tape, k.output.trans h.output, Nat.le_trans h.size k.size, fun i hi hn => (k.block i (Nat.lt_of_lt_of_le hi h.size) hn).trans (h.block i hi hn)⟩

theorem grown_undrew {w w' : World} {row : Option Nat} (h : w.drew.grownBy w' row) : w.grownBy w' row := ⟨h.os, h.tape, h.output, h.size, h.block⟩
theorem grown_alloc {w w' : World} {o : Obj} {row : Option Nat} (h : (w.alloc o).grownBy w' row) : w.grownBy w' row := grown_trans (World.grownBy_alloc w o row) h

theorem ret_int {k : IntKind} {a b : Int} (h : a = b) : Ending.returned (.int k a) = .returned (.int k b) := by rw [h]
theorem ret_bool {a b : Bool} (h : a = b) : Ending.returned (.bool a) = .returned (.bool b) := by rw [h]

/-- Block g is an array of the numbers xs, free to be written. -/
def Arr (w : World) (g : Nat) (t : TypeId) (xs : List Int) : Prop := w.heap[g]? = some (.cells (xs.map (Value.int .i64)).toArray t (0, 0))

theorem Arr.cell {w : World} {g : Nat} {t : TypeId} {xs : List Int} (h : Arr w g t xs) (k : Nat) (hk : k < xs.length) : w.cell? ⟨g, k, none⟩ = some (.int .i64 (xs.getD k 0)) := by
  rw [cell_of_row w g k _ t (0, 0) h]
  simp [List.getD, hk]
theorem Arr.frozen {w : World} {g : Nat} {t : TypeId} {xs : List Int} (h : Arr w g t xs) (k : Nat) : w.frozen? ⟨g, k, none⟩ = false := frozen_of_row w g k _ t h
theorem Arr.set {w : World} {g : Nat} {t : TypeId} {xs : List Int} (h : Arr w g t xs) (k : Nat) (v : Int) : Arr (w.setCell ⟨g, k, none⟩ (.int .i64 v)) g t (xs.set k v) := by
  have := heap_setCell_same w g k _ t (.int .i64 v) h
  unfold Arr
  rw [this]
  simp [List.map_set]
theorem Arr.other {w : World} {g : Nat} {t : TypeId} {xs : List Int} (h : Arr w g t xs) (a : Addr) (hg : g ≠ a.block) (v : Value) : Arr (w.setCell a v) g t xs := (Below.heap_setCell w a v g hg).trans h
theorem Arr.below {w w' : World} {g : Nat} {t : TypeId} {xs : List Int} {B : Nat} (h : Arr w g t xs) (hb : Below B w w') (hg : g < B) : Arr w' g t xs := (hb.block g hg).trans h

theorem Arr.new {w : World} {cs : Array Value} {t : TypeId} {xs : List Int} {g : Nat} (hg : g = w.heap.size) (hcs : cs = (xs.map (Value.int .i64)).toArray) : Arr (w.alloc (.cells cs t)) g t xs := by
  subst hg hcs; exact heap_alloc_new w _
theorem Arr.alloc {w : World} {g : Nat} {t : TypeId} {xs : List Int} (h : Arr w g t xs) (o : Obj) : Arr (w.alloc o) g t xs :=
  (Below.heap_alloc w o g (Array.getElem?_eq_some_iff.1 h).1).trans h

theorem list6 {xs : List Int} (h : xs.length = 6) : ∃ x0 x1 x2 x3 x4 x5, xs = [x0, x1, x2, x3, x4, x5] := by
  match xs, h with
  | [x0, x1, x2, x3, x4, x5], _ => exact ⟨x0, x1, x2, x3, x4, x5, rfl⟩

theorem ret_ib {k : IntKind} {a b : Int} {p q : Bool} (h : a = b) (h' : p = q) : Ending.returned (.tuple #[.int k a, .bool p]) = .returned (.tuple #[.int k b, .bool q]) := by rw [h, h']

theorem news_at (w : World) (cs : Array Value) (t : TypeId) : ∀ (j : Nat) (u : Value), cs.toList[j]? = some u → (w.alloc (.cells cs t)).cell? ((⟨w.heap.size, 0, none⟩ : Addr).add j) = some u := by
  intro j u hj
  rw [Addr.add_lit, Nat.zero_add, World.cell?_alloc_new]
  simpa using hj

/-- A variable of one slice (block R), whose cells, the call's own from 'base' on, hold the numbers zs. -/
def RowVar (w : World) (R : Nat) (t : TypeId) (base : Nat) (e : TypeId) (a : Option Addr) (n c : Nat) (zs : List Int) : Prop :=
  zs.length = n ∧ R < base ∧ w.heap[R]? = some (.cells #[.slice a n c] t (0, 0)) ∧ w.ownsRow base e 1 (.slice a n c) n (zs.map (.int .i64))

theorem RowVar.cell {w : World} {R : Nat} {t : TypeId} {base : Nat} {e : TypeId} {a : Option Addr} {n c : Nat} {zs : List Int} (h : RowVar w R t base e a n c zs) : w.cell? ⟨R, 0, none⟩ = some (.slice a n c) := by
  rw [cell_of_row w R 0 _ t (0, 0) h.2.2.1]; simp
theorem RowVar.frozen {w : World} {R : Nat} {t : TypeId} {base : Nat} {e : TypeId} {a : Option Addr} {n c : Nat} {zs : List Int} (h : RowVar w R t base e a n c zs) : w.frozen? ⟨R, 0, none⟩ = false := frozen_of_row w R 0 _ t h.2.2.1
theorem RowVar.own {w : World} {R : Nat} {t : TypeId} {base : Nat} {e : TypeId} {a : Option Addr} {n c : Nat} {zs : List Int} (h : RowVar w R t base e a n c zs) : w.ownsRow base e 1 (.slice a n c) n (zs.map (.int .i64)) := h.2.2.2
theorem RowVar.below {w w' : World} {R : Nat} {t : TypeId} {base : Nat} {e : TypeId} {a : Option Addr} {n c : Nat} {zs : List Int} (h : RowVar w R t base e a n c zs) (hb : Below w.heap.size w w') : RowVar w' R t base e a n c zs :=
  ⟨h.1, h.2.1, (hb.block R (Array.getElem?_eq_some_iff.1 h.2.2.1).1).trans h.2.2.1, owns_below h.2.2.2 hb⟩
theorem RowVar.new {w : World} {R : Nat} {t : TypeId} {base : Nat} {e : TypeId} (hR : R = w.heap.size) (hb : R < base) : RowVar (w.alloc (.cells #[.slice none 0 0] t)) R t base e none 0 0 [] :=
  ⟨rfl, hb, by subst hR; exact heap_alloc_new w _, World.ownsRow_nil _ _ _ _⟩

/-- Behind 'x.f = append(x.f, v)': the append's world w1, and the store. -/
theorem RowVar.pushed {w w1 : World} {R : Nat} {t : TypeId} {base : Nat} {e : TypeId} {a : Option Addr} {n c g cap : Nat} {zs : List Int} {x : Int} {o : Obj} (h : RowVar w R t base e a n c zs)
    (hown : w1.ownsRow base e 1 (.slice (some ⟨g, 0, none⟩) (n + 1) cap) (n + 1) (zs.map (.int .i64) ++ [.int .i64 x])) (hg : (w.alloc o).grownBy w1 (Value.slice a n c).ownBlock) :
    w1.cell? ⟨R, 0, none⟩ = some (.slice a n c) ∧ w1.frozen? ⟨R, 0, none⟩ = false ∧
      RowVar (w1.setCell ⟨R, 0, none⟩ (.slice (some ⟨g, 0, none⟩) (n + 1) cap)) R t base e (some ⟨g, 0, none⟩) (n + 1) cap (zs ++ [x]) := by
  have hlt := (Array.getElem?_eq_some_iff.1 h.2.2.1).1
  have hR : w1.heap[R]? = some (.cells #[.slice a n c] t (0, 0)) := by
    rw [hg.block R (by simp; omega) (fun e' => by have := (h.2.2.2.lt R e'.symm).1; have := h.2.1; omega), Below.heap_alloc w o R hlt]
    exact h.2.2.1
  refine ⟨by rw [cell_of_row w1 R 0 _ t (0, 0) hR]; simp, frozen_of_row w1 R 0 _ t hR, ?_, h.2.1, ?_, ?_⟩
  · simp [h.1]
  · rw [heap_setCell_same w1 R 0 _ t _ hR]; simp
  · rw [List.map_append]
    exact ownsRow_setCell_below hown h.2.1 _

theorem RowVar.pushed_below {w w1 : World} {R : Nat} {t : TypeId} {base : Nat} {e : TypeId} {a : Option Addr} {n c : Nat} {zs : List Int} {o : Obj} {B : Nat} {W : World} {v : Value} (h : RowVar w R t base e a n c zs)
    (hg : (w.alloc o).grownBy w1 (Value.slice a n c).ownBlock) (hB : Below B W w) (hBR : B ≤ R) : Below B W (w1.setCell ⟨R, 0, none⟩ v) := by
  have hlt := (Array.getElem?_eq_some_iff.1 h.2.2.1).1
  have hb := h.2.1
  exact ((hB.alloc (by omega) o).grown hg (by simp; omega) (fun j hj => by have := (h.2.2.2.lt j hj).1; omega)).setCell hBR _

theorem frozen_later {w wx : World} {a : Addr} {v : Value} {p : Bool} (hb : Below w.heap.size w wx) (hc : w.cell? a = some v) (h : w.frozen? a = p) : wx.frozen? a = p :=
  (hb.frozen (World.block_lt_of_cell? _ _ hc)).trans h
theorem ret_rb {v v' : Value} {p q : Bool} (h : v = v') (h' : p = q) : Ending.returned (.tuple #[v, .bool p]) = .returned (.tuple #[v', .bool q]) := by rw [h, h']
theorem own_apart {v v' : Value} {lo hi lo' hi' : Nat} (h : ∀ k, v.ownBlock = some k → lo ≤ k ∧ k < hi) (h' : ∀ k, v'.ownBlock = some k → lo' ≤ k ∧ k < hi') (ha : hi ≤ lo' ∨ hi' ≤ lo) : v.ownBlock = none ∨ v.ownBlock ≠ v'.ownBlock := by
  cases hv : v.ownBlock with
  | none => exact .inl rfl
  | some k => exact .inr (fun e => by have := h k hv; have := h' k e.symm; omega)
theorem drew_size (w : World) : w.drew.heap.size = w.heap.size := rfl
theorem Hid.mk {p : Prop} (h : p) : Hid p := h

/-- The first k cells are those of the numbers zs. -/
def Upto (cs : List Value) (zs : List Int) (k : Nat) : Prop := cs.length = zs.length ∧ ∀ j, j < k → cs[j]? = some (.int .i64 (zs.getD j 0))

theorem Upto.zero {cs : List Value} {zs : List Int} (h : cs.length = zs.length) : Upto cs zs 0 := ⟨h, fun j hj => by omega⟩

theorem Upto.set {cs : List Value} {zs : List Int} {k : Nat} (h : Upto cs zs k) (hk : k < zs.length) : Upto (cs.set k (.int .i64 (zs.getD k 0))) zs (k + 1) := by
  refine ⟨by simpa using h.1, fun j hj => ?_⟩
  rw [List.getElem?_set]
  have hl := h.1
  by_cases e : k = j
  · subst e; rw [if_pos rfl, if_pos (by omega)]
  · rw [if_neg e]; exact h.2 j (by omega)

theorem Upto.all {cs : List Value} {zs : List Int} {k : Nat} (h : Upto cs zs k) (hk : zs.length ≤ k) : cs = zs.map (.int .i64) := by
  apply List.ext_getElem?
  intro j
  by_cases hj : j < zs.length
  · rw [h.2 j (by omega)]; simp [List.getD, hj]
  · rw [List.getElem?_eq_none (by have := h.1; omega), List.getElem?_eq_none (by simp; omega)]

theorem take_succ_getD (zs : List Int) (k : Nat) (h : k < zs.length) : zs.take (k + 1) = zs.take k ++ [zs.getD k 0] := by
  rw [List.take_succ_eq_append_getElem h]; simp [List.getD, h]

theorem take_all_eq {zs zs' : List Int} {k : Nat} (h1 : zs.length ≤ k) (h2 : zs'.length ≤ k) (h : zs.take k = zs'.take k) : zs = zs' := by
  rwa [List.take_of_length_le h1, List.take_of_length_le h2] at h

theorem ne_of_getD {zs zs' : List Int} {k : Nat} (h : zs.getD k 0 ≠ zs'.getD k 0) : zs ≠ zs' := fun e => h (by rw [e])

/-- The numbers that the laws mark n cells with, from k on. -/
def marks (k : Int) (n : Nat) : List Int := (List.range n).map fun (i : Nat) => k + (i : Int)
theorem marks_length (k : Int) (n : Nat) : (marks k n).length = n := by simp [marks]
theorem marks_getD (k : Int) (n j : Nat) (h : j < n) : (marks k n).getD j 0 = k + j := by simp [marks, List.getD, h]

/-! Steps of a walk through a region that draws: the small side conditions fill themselves in. -/
section
variable {P : Program} {ops : Array Oper} {Q : Exit → Act → World → Prop} {md : Region.Mode} {S : World → Prop}

/-- Number i is taken first: it yields a value in every world that meets S. -/
theorem tk (i : Nat) {oi : Oper} {v : Value} {fuel : Nat} {listed : Array Bool} {a a' : Act} {w : World}
    (h : wpAnyH P md ops Q S fuel (listed.setIfInBounds i true) a' w)
    (hi : ops[i]? = some oi := by (simp only [List.getElem?_toArray, List.getElem?_cons_zero, List.getElem?_cons_succ]; rfl))
    (h0 : Region.wanted oi (yielded ops a.tmps) = true := by rfl)
    (hy : ∀ w, S w → (execOp a.eval oi).run P w = .ok (.value v) w := by (intro wS hSw; (try dsimp only at hSw); go_simp; (try with_reducible rfl)))
    (ha : a.put oi.dst v = a' := by ((try simp only [Act.put, List.setIfInBounds_toArray, List.set_cons_zero, List.set_cons_succ]); rfl))
    (hs : Region.noSelect ops = true := by kernel_rfl) (hf : Region.free md ops listed i = true := by kernel_rfl)
    (hr : (Region.ready md ops listed).contains i = true := by kernel_rfl)
    (hQ : ∀ c a w, Q (.panic c) (a.put oi.dst v) w → Q (.panic c) a w := by exact fun _ _ _ h => h)
    (hS : S w := by assumption) : wpAnyH P md ops Q S (fuel + 1) listed a w :=
  wpAnyH_take hi hs hf hr hQ (Or.inl ⟨h0, hy⟩) hS (by rw [ha]; exact h)

/-- Number i is passed over: its guard says no. -/
theorem tu (i : Nat) {oi : Oper} {fuel : Nat} {listed : Array Bool} {a a' : Act} {w : World}
    (h : wpAnyH P md ops Q S fuel (listed.setIfInBounds i true) a' w)
    (hi : ops[i]? = some oi := by (simp only [List.getElem?_toArray, List.getElem?_cons_zero, List.getElem?_cons_succ]; rfl))
    (h0 : Region.wanted oi (yielded ops a.tmps) = false := by rfl)
    (ha : a.put oi.dst undef = a' := by ((try simp only [Act.put, List.setIfInBounds_toArray, List.set_cons_zero, List.set_cons_succ]); rfl))
    (hs : Region.noSelect ops = true := by kernel_rfl) (hf : Region.free md ops listed i = true := by kernel_rfl)
    (hr : (Region.ready md ops listed).contains i = true := by kernel_rfl)
    (hQ : ∀ c a w, Q (.panic c) (a.put oi.dst undef) w → Q (.panic c) a w := by exact fun _ _ _ h => h)
    (hS : S w := by assumption) : wpAnyH P md ops Q S (fuel + 1) listed a w :=
  wpAnyH_take hi hs hf hr hQ (Or.inr ⟨h0, rfl⟩) hS (by rw [ha]; exact h)

/-- Number i alone may come up. -/
theorem tr (i : Nat) {oi : Oper} {fuel : Nat} {listed : Array Bool} {a : Act} {w : World}
    (h : ∀ K' : Act → World → Prop, Shut (∀ a w, S w → (S w → wpAnyH P md ops Q S fuel (listed.setIfInBounds i true) a w) → K' a w) → if Region.wanted oi (yielded ops a.tmps) = true then Oper.wp P oi a w K' Q else K' (a.put oi.dst undef) w)
    (hi : ops[i]? = some oi := by (simp only [List.getElem?_toArray, List.getElem?_cons_zero, List.getElem?_cons_succ]; rfl))
    (hr : Region.ready md ops listed = [i] := by kernel_rfl) : wpAnyH P md ops Q S (fuel + 1) listed a w :=
  wpAnyH_ready hr (by simp) (AllReadyH.cons hi h AllReadyH.nil)
end


end Go.Proofs.Ytnfdncofobkjhaa

/- Plain facts on slices of slices of ints. -/
namespace Go.Proofs.Ytnfdncofobkjhaa
open Go.RowKit

/-- A slice of slices of ints with the address a holds the lists zss in the world w. -/
def AtS (w : World) (a : Option Addr) (zss : List (List Int)) : Prop :=
  zss = [] ∨ ∃ b off, a = some ⟨b, off, none⟩ ∧ ∀ i, i < zss.length → ∃ a' c', w.cell? ⟨b, off + i, none⟩ = some (.slice a' (zss.getD i []).length c') ∧ (zss.getD i []).length ≤ 9223372036854775807 ∧ At w a' (zss.getD i [])

theorem AtS.below {w w' : World} {a : Option Addr} {zss : List (List Int)} (h : AtS w a zss) (hb : Below w.heap.size w w') : AtS w' a zss := by
  rcases h with h | ⟨b, off, rfl, hc⟩
  · exact .inl h
  · refine .inr ⟨b, off, rfl, fun i hi => ?_⟩
    obtain ⟨a', c', h1, h2, h3⟩ := hc i hi
    exact ⟨a', c', cell_later hb h1, h2, h3.below hb⟩

theorem AtS.some {w : World} {a : Option Addr} {zss : List (List Int)} (h : AtS w a zss) (hp : 0 < zss.length) :
    ∃ b off, a = Option.some ⟨b, off, none⟩ ∧ ∀ i, i < zss.length → ∃ a' c', w.cell? ⟨b, off + i, none⟩ = Option.some (.slice a' (zss.getD i []).length c') ∧ (zss.getD i []).length ≤ 9223372036854775807 ∧ At w a' (zss.getD i []) := by
  rcases h with rfl | h
  · simp at hp
  · exact h

/-- The first k lists: each owned, in blocks that rise. -/
def RowsOwned (w : World) (e : TypeId) (vs : List Value) (zss : List (List Int)) (k : Nat) (L : Nat → Nat) : Prop :=
  ∀ i, i < k → ∃ a c, vs[i]? = some (.slice a (zss.getD i []).length c) ∧ w.ownsRow (L i) e 1 (.slice a (zss.getD i []).length c) (zss.getD i []).length ((zss.getD i []).map (.int .i64)) ∧
    ∀ b, (Value.slice a (zss.getD i []).length c).ownBlock = some b → b < L (i + 1)

/-- A slice of slices that the call itself made: its blocks lie from lo on and below hi. -/
def OwnS (w : World) (lo hi : Nat) (t e : TypeId) (g n : Nat) (zss : List (List Int)) : Prop :=
  ∃ (vs : List Value) (L : Nat → Nat), zss.length = n ∧ vs.length = n ∧ lo ≤ g ∧ g < L 0 ∧ (∀ i, i < n → L i ≤ L (i + 1)) ∧ L n ≤ hi ∧ hi ≤ w.heap.size ∧
    w.heap[g]? = some (.cells vs.toArray t (0, 0)) ∧ RowsOwned w e vs zss n L

theorem mono_le {L : Nat → Nat} {n : Nat} (h : ∀ i, i < n → L i ≤ L (i + 1)) : ∀ i j, i ≤ j → j ≤ n → L i ≤ L j := by
  intro i j hij hj
  induction j with
  | zero => obtain rfl : i = 0 := by omega
            exact Nat.le_refl _
  | succ j ih =>
    by_cases e : i = j + 1
    · subst e; exact Nat.le_refl _
    · exact Nat.le_trans (ih (by omega) (by omega)) (h j (by omega))

theorem RowsOwned.below {w w' : World} {e : TypeId} {vs : List Value} {zss : List (List Int)} {k : Nat} {L : Nat → Nat} (h : RowsOwned w e vs zss k L) (hb : Below w.heap.size w w') : RowsOwned w' e vs zss k L := fun i hi => by
  obtain ⟨a, c, h1, h2, h3⟩ := h i hi
  exact ⟨a, c, h1, owns_below h2 hb, h3⟩

theorem OwnS.below {w w' : World} {lo hi : Nat} {t e : TypeId} {g n : Nat} {zss : List (List Int)} (h : OwnS w lo hi t e g n zss) (hb : Below w.heap.size w w') : OwnS w' lo hi t e g n zss := by
  obtain ⟨vs, L, h1, h2, h3, h4, h5, h6, h7, h8, h9⟩ := h
  exact ⟨vs, L, h1, h2, h3, h4, h5, h6, Nat.le_trans h7 hb.size, (hb.block g (Array.getElem?_eq_some_iff.1 h8).1).trans h8, h9.below hb⟩

theorem OwnS.drew {w : World} {lo hi : Nat} {t e : TypeId} {g n : Nat} {zss : List (List Int)} (h : OwnS w lo hi t e g n zss) : OwnS w.drew lo hi t e g n zss := h.below (Below.refl _ _).drew

theorem OwnS.atS {w : World} {lo hi : Nat} {t e : TypeId} {g n : Nat} {zss : List (List Int)} (h : OwnS w lo hi t e g n zss) (hs : ∀ i, i < zss.length → (zss.getD i []).length ≤ 9223372036854775807) : AtS w (some ⟨g, 0, none⟩) zss := by
  obtain ⟨vs, L, h1, h2, h3, h4, h5, h6, h7, h8, h9⟩ := h
  refine .inr ⟨g, 0, rfl, fun i hi => ?_⟩
  obtain ⟨a, c, k1, k2, k3⟩ := h9 i (by omega)
  refine ⟨a, c, ?_, hs i hi, At.owned k2⟩
  rw [Nat.zero_add, cell_of_row w g i _ t (0, 0) h8]
  simpa using k1

theorem OwnS.kept {w w' : World} {lo hi : Nat} {t e : TypeId} {g n : Nat} {zss : List (List Int)} {row : Option Nat} (h : OwnS w lo hi t e g n zss) (hg : w.grownBy w' row) (hr : ∀ k, row = some k → k < lo ∨ hi ≤ k) : OwnS w' lo hi t e g n zss := by
  obtain ⟨vs, L, h1, h2, h3, h4, h5, h6, h7, h8, h9⟩ := h
  have hm := mono_le h5
  have q0 := hm 0 n (by omega) (Nat.le_refl _)
  refine ⟨vs, L, h1, h2, h3, h4, h5, h6, Nat.le_trans h7 hg.size, ?_, fun i hi => ?_⟩
  · rw [hg.block g (Array.getElem?_eq_some_iff.1 h8).1 (fun e' => by have := hr g e'.symm; omega)]; exact h8
  · obtain ⟨a, c, k1, k2, k3⟩ := h9 i hi
    refine ⟨a, c, k1, k2.kept hg ?_, k3⟩
    cases hv : (Value.slice a (zss.getD i []).length c).ownBlock with
    | none => exact .inl rfl
    | some k =>
      refine .inr (fun e' => ?_)
      have q1 := (k2.lt k hv).1
      have q2 := k3 k hv
      have q3 := hr k e'.symm
      have q4 := hm 0 i (by omega) (by omega)
      have q5 := hm (i + 1) n (by omega) (Nat.le_refl _)
      omega

/-- Outside the blocks lo .. hi - 1 nothing has turned. -/
structure Apart (lo hi : Nat) (w w' : World) : Prop where
  os : w'.os = w.os
  tape : w'.tape = w.tape
  output : w'.output = w.output
  size : w.heap.size ≤ w'.heap.size
  block : ∀ k, k < w.heap.size → (k < lo ∨ hi ≤ k) → w'.heap[k]? = w.heap[k]?

theorem Apart.refl (lo hi : Nat) (w : World) : Apart lo hi w w := ⟨rfl, rfl, rfl, Nat.le_refl _, fun _ _ _ => rfl⟩
theorem Apart.trans {lo hi : Nat} {a b c : World} (h : Apart lo hi a b) (k : Apart lo hi b c) : Apart lo hi a c :=
  ⟨k.os.trans h.os, k.tape.trans h.tape, k.output.trans h.output, Nat.le_trans h.size k.size, fun i hi hn => (k.block i (Nat.lt_of_lt_of_le hi h.size) hn).trans (h.block i hi hn)⟩
theorem Apart.grown {lo hi : Nat} {w w' : World} {row : Option Nat} (h : w.grownBy w' row) (hr : ∀ k, row = some k → lo ≤ k ∧ k < hi) : Apart lo hi w w' :=
  ⟨h.os, h.tape, h.output, h.size, fun k hk hn => h.block k hk (fun e => by have := hr k e.symm; omega)⟩
theorem Apart.below {lo hi B : Nat} {w w' : World} (h : Apart lo hi w w') (hB : B ≤ w.heap.size) (hl : B ≤ lo) : Below B w w' := ⟨h.os, h.tape, h.output, h.size, fun k hk => h.block k (by omega) (.inl (by omega))⟩
theorem Apart.cell {lo hi : Nat} {w w' : World} (h : Apart lo hi w w') {a : Addr} {v : Value} (hc : w.cell? a = some v) (ha : a.block < lo ∨ hi ≤ a.block) : w'.cell? a = some v :=
  (World.cell?_of_block (h.block a.block (World.block_lt_of_cell? _ _ hc) ha)).trans hc
theorem Apart.owns {lo hi : Nat} {w w' : World} (h : Apart lo hi w w') {base : Nat} {e : TypeId} {size : Nat} {v : Value} {n : Nat} {xs : List Value} (ho : w.ownsRow base e size v n xs) (ha : ∀ k, v.ownBlock = some k → k < lo ∨ hi ≤ k) : w'.ownsRow base e size v n xs := by
  refine ⟨ho.1, ?_⟩
  rcases ho.2 with hn | ⟨g, cap, cur, rfl, hb, hg, rest⟩
  · exact .inl hn
  · exact .inr ⟨g, cap, cur, rfl, hb, (h.block g (Array.getElem?_eq_some_iff.1 hg).1 (ha g rfl)).trans hg, rest⟩

/-- What is left of l when s is taken, -1 where it is not enough. -/
def leftOf (l s : Int) : Int := if l < s then -1 else l - s
theorem leftOf_no {l s : Int} (h : l < s) : leftOf l s = -1 := if_pos h
theorem leftOf_yes {l s : Int} (h : ¬ l < s) : leftOf l s = l - s := if_neg h

/-- How many numbers the first k lists hold. -/
def tot (zss : List (List Int)) (k : Nat) : Nat := ((zss.take k).map List.length).sum
theorem tot_zero (zss : List (List Int)) : tot zss 0 = 0 := rfl
theorem tot_succ (zss : List (List Int)) (k : Nat) (h : k < zss.length) : tot zss (k + 1) = tot zss k + (zss.getD k []).length := by
  unfold tot
  rw [List.take_succ_eq_append_getElem h, List.map_append, List.sum_append]
  simp only [List.map_cons, List.map_nil, List.sum_cons, List.sum_nil, Nat.add_zero]
  simp [List.getD, h]
theorem tot_mono (zss : List (List Int)) (j k : Nat) (h : j ≤ k) : tot zss j ≤ tot zss k := by
  obtain ⟨d, rfl⟩ := Nat.le.dest h
  induction d with
  | zero => exact Nat.le_refl _
  | succ d ih =>
    by_cases hk : j + d < zss.length
    · rw [show j + (d + 1) = (j + d) + 1 from rfl, tot_succ zss _ hk]; have := ih (by omega); omega
    · have e1 : tot zss (j + (d + 1)) = tot zss (j + d) := by unfold tot; rw [List.take_of_length_le (by omega), List.take_of_length_le (by omega)]
      rw [e1]; exact ih (by omega)

end Go.Proofs.Ytnfdncofobkjhaa

/- Plain facts on slices of weighted rows: what lies in memory, what a call owns, what the laws mark. -/
namespace Go.Proofs.Ytnfdncofobkjhaa
open Go.RowKit

theorem pair0 (w : World) (u v : Value) (t : TypeId) : (w.alloc (.cells #[u, v] t)).cell? ⟨w.heap.size, 0, none⟩ = some u := by simp
theorem pair1 (w : World) (u v : Value) (t : TypeId) : (w.alloc (.cells #[u, v] t)).cell? ⟨w.heap.size, 1, none⟩ = some v := by simp

/-- A weighted row: its cells and its weight. -/
abbrev WRow := List Int × Int
abbrev wat (ts : List WRow) (i : Nat) : WRow := ts.getD i ([], 0)

/-- A slice of weighted rows with the address a holds ts in the world w. -/
def AtW (w : World) (a : Option Addr) (ts : List WRow) : Prop :=
  ts = [] ∨ ∃ b off, a = some ⟨b, off, none⟩ ∧ ∀ i, i < ts.length → ∃ a' c', w.cell? ⟨b, off + i * 2, none⟩ = some (.slice a' (wat ts i).1.length c') ∧ w.cell? ⟨b, off + i * 2 + 1, none⟩ = some (.int .i64 (wat ts i).2) ∧
    (wat ts i).1.length ≤ 9223372036854775807 ∧ At w a' (wat ts i).1

theorem AtW.nil (w : World) (a : Option Addr) : AtW w a [] := .inl rfl

theorem AtW.below {w w' : World} {a : Option Addr} {ts : List WRow} (h : AtW w a ts) (hb : Below w.heap.size w w') : AtW w' a ts := by
  rcases h with h | ⟨b, off, rfl, hc⟩
  · exact .inl h
  · refine .inr ⟨b, off, rfl, fun i hi => ?_⟩
    obtain ⟨a', c', h1, h2, h3, h4⟩ := hc i hi
    exact ⟨a', c', cell_later hb h1, cell_later hb h2, h3, h4.below hb⟩
theorem AtW.alloc {w : World} {a : Option Addr} {ts : List WRow} (h : AtW w a ts) (o : Obj) : AtW (w.alloc o) a ts := h.below ((Below.refl _ _).alloc (Nat.le_refl _) o)
theorem AtW.drew {w : World} {a : Option Addr} {ts : List WRow} (h : AtW w a ts) : AtW w.drew a ts := h.below (Below.refl _ _).drew

theorem AtW.some {w : World} {a : Option Addr} {ts : List WRow} (h : AtW w a ts) (hp : 0 < ts.length) :
    ∃ b off, a = Option.some ⟨b, off, none⟩ ∧ ∀ i, i < ts.length → ∃ a' c', w.cell? ⟨b, off + i * 2, none⟩ = Option.some (.slice a' (wat ts i).1.length c') ∧ w.cell? ⟨b, off + i * 2 + 1, none⟩ = Option.some (.int .i64 (wat ts i).2) ∧
      (wat ts i).1.length ≤ 9223372036854775807 ∧ At w a' (wat ts i).1 := by
  rcases h with rfl | h
  · simp at hp
  · exact h

/-- The block of the i-th row's cells. -/
def blkW (cells : List Value) (i : Nat) : Option Nat := (cells.getD (i * 2) (.bool false)).ownBlock

/-- A slice of weighted rows that the call itself made, its first k rows laid: all its blocks, each its own, lie from lo on and below hi. -/
structure OwnWk (w : World) (lo hi : Nat) (te ti : TypeId) (a : Option Addr) (n c : Nat) (ts : List WRow) (cells : List Value) (k : Nat) : Prop where
  len : ts.length = n
  top : hi ≤ w.heap.size
  outer : w.ownsRow lo te 2 (.slice a n c) n cells
  outerLt : ∀ b, (Value.slice a n c).ownBlock = some b → b < hi
  row : ∀ i, i < k → ∃ a' c', cells[i * 2]? = some (.slice a' (wat ts i).1.length c') ∧ cells[i * 2 + 1]? = some (.int .i64 (wat ts i).2) ∧
    w.ownsRow lo ti 1 (.slice a' (wat ts i).1.length c') (wat ts i).1.length ((wat ts i).1.map (.int .i64))
  rowLt : ∀ i, i < k → ∀ b, blkW cells i = some b → b < hi ∧ (Value.slice a n c).ownBlock ≠ some b
  apart : ∀ i j, i < k → j < k → i ≠ j → ∀ b, blkW cells i = some b → blkW cells j ≠ some b
/-- All its rows are laid. -/
abbrev OwnW (w : World) (lo hi : Nat) (te ti : TypeId) (a : Option Addr) (n c : Nat) (ts : List WRow) (cells : List Value) : Prop := OwnWk w lo hi te ti a n c ts cells n

theorem blkW_of {cells : List Value} {i : Nat} {v : Value} (h : cells[i * 2]? = some v) : blkW cells i = v.ownBlock := by simp [blkW, List.getD, h]

section
variable {w w' : World} {lo hi : Nat} {te ti : TypeId} {a : Option Addr} {n c k : Nat} {ts : List WRow} {cells : List Value}

theorem OwnWk.below (h : OwnWk w lo hi te ti a n c ts cells k) (hb : Below w.heap.size w w') : OwnWk w' lo hi te ti a n c ts cells k :=
  ⟨h.len, Nat.le_trans h.top hb.size, owns_below h.outer hb, h.outerLt, fun i hi => by obtain ⟨a', c', h1, h2, h3⟩ := h.row i hi; exact ⟨a', c', h1, h2, owns_below h3 hb⟩, h.rowLt, h.apart⟩
theorem OwnWk.drew (h : OwnWk w lo hi te ti a n c ts cells k) : OwnWk w.drew lo hi te ti a n c ts cells k := h.below (Below.refl _ _).drew
theorem OwnWk.alloc (h : OwnWk w lo hi te ti a n c ts cells k) (o : Obj) : OwnWk (w.alloc o) lo hi te ti a n c ts cells k := h.below ((Below.refl _ _).alloc (Nat.le_refl _) o)

theorem OwnWk.widen {lo' hi' : Nat} (h : OwnWk w lo hi te ti a n c ts cells k) (h1 : lo' ≤ lo) (h2 : hi ≤ hi') (h3 : hi' ≤ w.heap.size) : OwnWk w lo' hi' te ti a n c ts cells k :=
  ⟨h.len, h3, owns_mono h.outer h1, fun b hb => Nat.lt_of_lt_of_le (h.outerLt b hb) h2, fun i hi => by obtain ⟨a', c', k1, k2, k3⟩ := h.row i hi; exact ⟨a', c', k1, k2, owns_mono k3 h1⟩,
    fun i hi b hb => ⟨Nat.lt_of_lt_of_le (h.rowLt i hi b hb).1 h2, (h.rowLt i hi b hb).2⟩, h.apart⟩

/-- Every block of it lies from lo on and below hi. -/
theorem OwnWk.blocks (h : OwnWk w lo hi te ti a n c ts cells k) :
    (∀ b, (Value.slice a n c).ownBlock = some b → lo ≤ b ∧ b < hi) ∧ ∀ i, i < k → ∀ b, blkW cells i = some b → lo ≤ b ∧ b < hi := by
  refine ⟨fun b hb => ⟨(h.outer.lt b hb).1, h.outerLt b hb⟩, fun i hi b hb => ⟨?_, (h.rowLt i hi b hb).1⟩⟩
  obtain ⟨a', c', k1, _, k3⟩ := h.row i hi
  rw [blkW_of k1] at hb
  exact (k3.lt b hb).1

theorem OwnWk.apartW {lo' hi' : Nat} (h : OwnWk w lo hi te ti a n c ts cells k) (hp : Apart lo' hi' w w') (hd : hi ≤ lo' ∨ hi' ≤ lo) : OwnWk w' lo hi te ti a n c ts cells k := by
  have hB := h.blocks
  refine ⟨h.len, Nat.le_trans h.top hp.size, hp.owns h.outer (fun k hk => by have := hB.1 k hk; omega), h.outerLt, fun i hi => ?_, h.rowLt, h.apart⟩
  obtain ⟨a', c', k1, k2, k3⟩ := h.row i hi
  refine ⟨a', c', k1, k2, hp.owns k3 (fun k hk => ?_)⟩
  have := hB.2 i hi k (by rw [blkW_of k1]; exact hk)
  omega

theorem OwnWk.kept {row : Option Nat} (h : OwnWk w lo hi te ti a n c ts cells k) (hg : w.grownBy w' row) (hr : ∀ k, row = some k → k < lo ∨ hi ≤ k) : OwnWk w' lo hi te ti a n c ts cells k := by
  have hB := h.blocks
  refine ⟨h.len, Nat.le_trans h.top hg.size, h.outer.kept hg ?_, h.outerLt, fun i hi => ?_, h.rowLt, h.apart⟩
  · cases hv : (Value.slice a n c).ownBlock with
    | none => exact .inl rfl
    | some k => exact .inr (fun e => by have := hr k e.symm; have := hB.1 k hv; omega)
  · obtain ⟨a', c', k1, k2, k3⟩ := h.row i hi
    refine ⟨a', c', k1, k2, k3.kept hg ?_⟩
    cases hv : (Value.slice a' (wat ts i).1.length c').ownBlock with
    | none => exact .inl rfl
    | some k => exact .inr (fun e => by have := hr k e.symm; have := hB.2 i hi k (by rw [blkW_of k1]; exact hv); omega)

theorem OwnWk.setCell {a0 : Addr} (h : OwnWk w lo hi te ti a n c ts cells k) (ha : a0.block < lo ∨ hi ≤ a0.block) (v : Value) : OwnWk (w.setCell a0 v) lo hi te ti a n c ts cells k :=
  h.kept (row := some a0.block) ⟨rfl, rfl, rfl, by simp [World.setCell], fun k _ hn => Below.heap_setCell w a0 v k (fun e => hn (by rw [e]))⟩ (fun k hk => by simp at hk; omega)

theorem OwnWk.atW (h : OwnWk w lo hi te ti a n c ts cells n) (hs : ∀ i, i < n → (wat ts i).1.length ≤ 9223372036854775807) : AtW w a ts := by
  rcases h.outer.2 with ⟨hv, h0⟩ | ⟨g, cap, cur, hv, _⟩
  · left
    have := h.len
    rw [h0] at this
    exact List.eq_nil_of_length_eq_zero this
  · simp only [Value.slice.injEq, true_and] at hv
    obtain ⟨rfl, rfl⟩ := hv
    refine .inr ⟨g, 0, rfl, fun i hi => ?_⟩
    rw [h.len] at hi
    obtain ⟨a', c', k1, k2, k3⟩ := h.row i hi
    refine ⟨a', c', ?_, ?_, hs i hi, At.owned k3⟩
    · rw [Nat.zero_add, h.outer.cellAt _ (by omega)]; exact k1
    · rw [Nat.zero_add, h.outer.cellAt _ (by omega)]; exact k2

/-- Two stores into one row's cells. -/
theorem owns_two {base : Nat} {e : TypeId} {g n cap : Nat} {xs : List Value} (h : w.ownsRow base e 2 (.slice (some ⟨g, 0, none⟩) n cap) n xs) (i j : Nat) (u v : Value) :
    ((w.setCell ⟨g, i, none⟩ u).setCell ⟨g, j, none⟩ v).ownsRow base e 2 (.slice (some ⟨g, 0, none⟩) n cap) n ((xs.set i u).set j v) := (((h.stored i u).1).stored j v).1

/-- One more row is laid: its cells, which a call made, and its weight. -/
theorem OwnWk.put {w2 : World} {g m c' : Nat} {a' : Option Addr} {x : Int} (h : OwnWk w lo hi te ti (some ⟨g, 0, none⟩) n c ts cells k) (hb : Below w.heap.size w w2) (hk : k < n)
    (hm : (wat ts k).1.length = m) (hx : (wat ts k).2 = x) (hlo : lo ≤ w.heap.size) (hrow : w2.ownsRow w.heap.size ti 1 (.slice a' m c') m ((wat ts k).1.map (.int .i64))) :
    OwnWk ((w2.setCell ⟨g, k * 2, none⟩ (.slice a' m c')).setCell ⟨g, k * 2 + 1, none⟩ (.int .i64 x)) lo w2.heap.size te ti (some ⟨g, 0, none⟩) n c ts ((cells.set (k * 2) (.slice a' m c')).set (k * 2 + 1) (.int .i64 x)) (k + 1) := by
  have h2 := h.below hb
  have hz := hb.size
  have hgl : lo ≤ g ∧ g < hi := h.blocks.1 g rfl
  have htop := h.top
  have hl := h.outer.1
  have hg1 : w2.grownBy ((w2.setCell ⟨g, k * 2, none⟩ (.slice a' m c')).setCell ⟨g, k * 2 + 1, none⟩ (.int .i64 x)) (some g) :=
    ⟨rfl, rfl, rfl, by simp [World.setCell], fun j _ hn => (Below.heap_setCell _ _ _ j (fun e => hn (by rw [e]))).trans (Below.heap_setCell _ _ _ j (fun e => hn (by rw [e])))⟩
  have hset : ∀ i, i < k → ∀ d, d < 2 → ((cells.set (k * 2) (.slice a' m c')).set (k * 2 + 1) (.int .i64 x))[i * 2 + d]? = cells[i * 2 + d]? := fun i hi d hd => by
    rw [List.getElem?_set_ne (by omega), List.getElem?_set_ne (by omega)]
  have hsk : ((cells.set (k * 2) (.slice a' m c')).set (k * 2 + 1) (.int .i64 x))[k * 2]? = some (.slice a' m c') := by
    rw [List.getElem?_set_ne (by omega), List.getElem?_set_self (by omega)]
  have hbk : ∀ i, i < k → blkW ((cells.set (k * 2) (.slice a' m c')).set (k * 2 + 1) (.int .i64 x)) i = blkW cells i := fun i hi => by
    have := hset i hi 0 (by omega)
    simp only [Nat.add_zero] at this
    simp only [blkW, List.getD, this]
  have hold : ∀ i, i < k → ∀ b, blkW cells i = some b → b < w.heap.size := fun i hi b hb' => Nat.lt_of_lt_of_le (h.rowLt i hi b hb').1 h.top
  have hnew : ∀ b, (Value.slice a' m c').ownBlock = some b → w.heap.size ≤ b ∧ b < w2.heap.size := fun b hb' => hrow.lt b hb'
  refine ⟨h.len, by simp [World.setCell], owns_two h2.outer _ _ _ _, fun b hb' => ?_, fun i hi => ?_, fun i hi b hb' => ?_, fun i j hi hj hij b hb' => ?_⟩
  · have := h.outerLt b hb'
    omega
  · by_cases e : i = k
    · subst e
      refine ⟨a', c', by rw [hm]; exact hsk, ?_, ?_⟩
      · rw [List.getElem?_set_self (by simp; omega), hx]
      · rw [hm]
        refine owns_mono (hrow.kept hg1 ?_) hlo
        cases hv : (Value.slice a' m c').ownBlock with
        | none => exact .inl rfl
        | some b => exact .inr (fun e => by have := hnew b hv; simp at e; omega)
    · obtain ⟨a1, c1, k1, k2, k3⟩ := h2.row i (by omega)
      refine ⟨a1, c1, ?_, ?_, k3.kept hg1 ?_⟩
      · have := hset i (by omega) 0 (by omega); simp only [Nat.add_zero] at this; rw [this]; exact k1
      · rw [hset i (by omega) 1 (by omega)]; exact k2
      · cases hv : (Value.slice a1 (wat ts i).1.length c1).ownBlock with
        | none => exact .inl rfl
        | some b => exact .inr (fun e => by have := (h.rowLt i (by omega) b (by rw [blkW_of k1]; exact hv)).2; simp [Value.ownBlock] at e this; omega)
  · by_cases e : i = k
    · subst e
      rw [blkW_of hsk] at hb'
      have := hnew b hb'
      refine ⟨by omega, ?_⟩
      simp [Value.ownBlock]
      omega
    · rw [hbk i (by omega)] at hb'
      have := h.rowLt i (by omega) b hb'
      exact ⟨by omega, this.2⟩
  · by_cases e : i = k
    · subst e
      rw [blkW_of hsk] at hb'
      rw [hbk j (by omega)]
      intro e'
      have := hold j (by omega) b e'
      have := hnew b hb'
      omega
    · rw [hbk i (by omega)] at hb'
      by_cases e2 : j = k
      · subst e2
        rw [blkW_of hsk]
        intro e'
        have := hold i (by omega) b hb'
        have := hnew b e'
        omega
      · rw [hbk j (by omega)]
        exact h.apart i j (by omega) (by omega) hij b hb'

theorem OwnWk.start (hl : ts.length = n) (hh : hi ≤ w.heap.size) (ho : w.ownsRow lo te 2 (.slice a n c) n cells) (hb : ∀ b, (Value.slice a n c).ownBlock = some b → b < hi) : OwnWk w lo hi te ti a n c ts cells 0 :=
  ⟨hl, hh, ho, hb, fun i h => by omega, fun i h => by omega, fun i j h => by omega⟩

end

/-- How many marks the first k rows take: their cells, and one a weight. -/
def wtot (ts : List WRow) (k : Nat) : Nat := ((ts.take k).map fun t => t.1.length + 1).sum
theorem wtot_zero (ts : List WRow) : wtot ts 0 = 0 := rfl
theorem wtot_succ (ts : List WRow) (k : Nat) (h : k < ts.length) : wtot ts (k + 1) = wtot ts k + ((wat ts k).1.length + 1) := by
  unfold wtot
  rw [List.take_succ_eq_append_getElem h, List.map_append, List.sum_append]
  simp only [List.map_cons, List.map_nil, List.sum_cons, List.sum_nil, Nat.add_zero]
  simp [h]
theorem wtot_mono (ts : List WRow) (j k : Nat) (h : j ≤ k) : wtot ts j ≤ wtot ts k := by
  obtain ⟨d, rfl⟩ := Nat.le.dest h
  induction d with
  | zero => exact Nat.le_refl _
  | succ d ih =>
    by_cases hk : j + d < ts.length
    · rw [show j + (d + 1) = (j + d) + 1 from rfl, wtot_succ ts _ hk]; have := ih (by omega); omega
    · have e1 : wtot ts (j + (d + 1)) = wtot ts (j + d) := by unfold wtot; rw [List.take_of_length_le (by omega), List.take_of_length_le (by omega)]
      rw [e1]; exact ih (by omega)
theorem wtot_each (ts : List WRow) (n : Nat) (hn : ts.length = n) (i : Nat) (hi : i < n) : (wat ts i).1.length ≤ wtot ts n := by
  have h1 := wtot_succ ts i (by omega)
  have h2 := wtot_mono ts (i + 1) n (by omega)
  omega
theorem wtot_len (ts : List WRow) (k : Nat) (h : k ≤ ts.length) : k ≤ wtot ts k := by
  induction k with
  | zero => exact Nat.zero_le _
  | succ k ih => rw [wtot_succ ts k (by omega)]; have := ih (by omega); omega

/-- The rows as the laws mark them, from m on. -/
def markW (m : Int) (ts : List WRow) : List WRow := (List.range ts.length).map fun i => (marks (m + wtot ts i) (wat ts i).1.length, m + wtot ts i + (wat ts i).1.length)
theorem markW_length (m : Int) (ts : List WRow) : (markW m ts).length = ts.length := by simp [markW]
theorem markW_at (m : Int) (ts : List WRow) (i : Nat) (h : i < ts.length) : wat (markW m ts) i = (marks (m + wtot ts i) (wat ts i).1.length, m + wtot ts i + (wat ts i).1.length) := by
  simp [markW, h]

theorem wtake_succ (ts : List WRow) (k : Nat) (h : k < ts.length) : ts.take (k + 1) = ts.take k ++ [wat ts k] := by
  rw [List.take_succ_eq_append_getElem h]; simp [h]
theorem wne_of {ts ts' : List WRow} {k : Nat} (h : wat ts k ≠ wat ts' k) : ts ≠ ts' := fun e => h (by rw [e])
theorem wtake_all {ts ts' : List WRow} {k : Nat} (h1 : ts.length ≤ k) (h2 : ts'.length ≤ k) (h : ts.take k = ts'.take k) : ts = ts' := by
  rwa [List.take_of_length_le h1, List.take_of_length_le h2] at h

end Go.Proofs.Ytnfdncofobkjhaa
