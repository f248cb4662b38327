/- Several texts of one proof, in build order: Ground, AppendAll. -/
import Derived.WalkKit
import Derived.WalkSpells
import Derived.WalkLawsBesides
import Derived.Deep.RegionHeld3
import Derived.Deep.RegionWith
import Derived.Deep.QuietTactic
import Derived.BigQuiet
import Derived.Deep.AppendLies
import Derived.Laws.AppendOwnNone

/- Plain facts on worlds and lists that the walks of this seat lean on; no Go function is spoken of here. -/
namespace Go.Proofs.Ytlfljfmhhnoinab
open Go.RowKit

/-- A slice of ints with the address a holds the numbers zs in the world w. -/
def At (w : World) (a : Option Addr) (zs : List Int) : Prop :=
  zs = [] ∨ ∃ b off, a = some ⟨b, off, none⟩ ∧ ∀ i, i < zs.length → w.cell? ⟨b, off + i, none⟩ = some (.int .i64 (zs.getD i 0))

theorem At.nil (w : World) (a : Option Addr) : At w a [] := .inl rfl

theorem At.below {w w' : World} {a : Option Addr} {zs : List Int} (h : At w a zs) (hb : Below w.heap.size w w') : At w' a zs := by
  rcases h with h | ⟨b, off, rfl, hc⟩
  · exact .inl h
  · refine .inr ⟨b, off, rfl, fun i hi => ?_⟩
    have := hc i hi
    rw [hb.cell (World.block_lt_of_cell? w _ this)]
    exact this

theorem At.alloc {w : World} {a : Option Addr} {zs : List Int} (h : At w a zs) (o : Obj) : At (w.alloc o) a zs :=
  h.below ((Below.refl _ _).alloc (Nat.le_refl _) o)

theorem At.drew {w : World} {a : Option Addr} {zs : List Int} (h : At w a zs) : At w.drew a zs := h.below (Below.refl _ _).drew

theorem At.some {w : World} {a : Option Addr} {zs : List Int} (h : At w a zs) (hp : 0 < zs.length) :
    ∃ b off, a = Option.some ⟨b, off, none⟩ ∧ b < w.heap.size ∧ ∀ i, i < zs.length → w.cell? ⟨b, off + i, none⟩ = Option.some (.int .i64 (zs.getD i 0)) := by
  rcases h with rfl | ⟨b, off, rfl, hc⟩
  · simp at hp
  · exact ⟨b, off, rfl, World.block_lt_of_cell? w _ (hc 0 hp), hc⟩

theorem At.owned {w : World} {base : Nat} {e : TypeId} {a : Option Addr} {n c : Nat} {zs : List Int}
    (h : w.ownsRow base e 1 (.slice a n c) n (zs.map (.int .i64))) : At w a zs := by
  have hl := h.1
  rcases h.2 with ⟨h', rfl⟩ | ⟨g, cap, cur, h', _⟩
  · left; simpa using hl
  · right
    simp only [Value.slice.injEq, true_and] at h'
    obtain ⟨rfl, rfl⟩ := h'
    refine ⟨g, 0, rfl, fun i hi => ?_⟩
    rw [Nat.zero_add, h.cellAt i (by simp at hl; omega)]
    simp [List.getD, hi]

theorem owns_mono {w : World} {base base' : Nat} {e : TypeId} {size : Nat} {v : Value} {n : Nat} {xs : List Value} (h : w.ownsRow base e size v n xs) (hb : base' ≤ base) : w.ownsRow base' e size v n xs := by
  refine ⟨h.1, ?_⟩
  rcases h.2 with hn | ⟨g, cap, cur, rfl, hbb, rest⟩
  · exact .inl hn
  · exact .inr ⟨g, cap, cur, rfl, by omega, rest⟩

theorem owns_below {w w' : World} {base : Nat} {e : TypeId} {size : Nat} {v : Value} {n : Nat} {xs : List Value} (h : w.ownsRow base e size v n xs) (hb : Below w.heap.size w w') : w'.ownsRow base e size v n xs := by
  refine ⟨h.1, ?_⟩
  rcases h.2 with hn | ⟨g, cap, cur, rfl, hbb, hg, rest⟩
  · exact .inl hn
  · exact .inr ⟨g, cap, cur, rfl, hbb, (hb.block g (Array.getElem?_eq_some_iff.1 hg).1).trans hg, rest⟩

theorem grown_trans {a b c : World} {row : Option Nat} (h : a.grownBy b row) (k : b.grownBy c row) : a.grownBy c row :=
  ⟨k.os.trans h.os, k.tape.trans h.tape, k.output.trans h.output, Nat.le_trans h.size k.size, fun i hi hn => (k.block i (Nat.lt_of_lt_of_le hi h.size) hn).trans (h.block i hi hn)⟩

theorem grown_undrew {w w' : World} {row : Option Nat} (h : w.drew.grownBy w' row) : w.grownBy w' row := ⟨h.os, h.tape, h.output, h.size, h.block⟩
theorem grown_alloc {w w' : World} {o : Obj} {row : Option Nat} (h : (w.alloc o).grownBy w' row) : w.grownBy w' row := grown_trans (World.grownBy_alloc w o row) h

theorem ret_int {k : IntKind} {a b : Int} (h : a = b) : Ending.returned (.int k a) = .returned (.int k b) := by rw [h]
theorem ret_bool {a b : Bool} (h : a = b) : Ending.returned (.bool a) = .returned (.bool b) := by rw [h]

/-- Block g is an array of the numbers xs, free to be written. -/
def Arr (w : World) (g : Nat) (t : TypeId) (xs : List Int) : Prop := w.heap[g]? = some (.cells (xs.map (Value.int .i64)).toArray t (0, 0))

theorem Arr.cell {w : World} {g : Nat} {t : TypeId} {xs : List Int} (h : Arr w g t xs) (k : Nat) (hk : k < xs.length) : w.cell? ⟨g, k, none⟩ = some (.int .i64 (xs.getD k 0)) := by
  rw [cell_of_row w g k _ t (0, 0) h]
  simp [List.getD, hk]
theorem Arr.frozen {w : World} {g : Nat} {t : TypeId} {xs : List Int} (h : Arr w g t xs) (k : Nat) : w.frozen? ⟨g, k, none⟩ = false := frozen_of_row w g k _ t h
theorem Arr.set {w : World} {g : Nat} {t : TypeId} {xs : List Int} (h : Arr w g t xs) (k : Nat) (v : Int) : Arr (w.setCell ⟨g, k, none⟩ (.int .i64 v)) g t (xs.set k v) := by
  have := heap_setCell_same w g k _ t (.int .i64 v) h
  unfold Arr
  rw [this]
  simp [List.map_set]
theorem Arr.below {w w' : World} {g : Nat} {t : TypeId} {xs : List Int} {B : Nat} (h : Arr w g t xs) (hb : Below B w w') (hg : g < B) : Arr w' g t xs := (hb.block g hg).trans h

theorem Arr.new {w : World} {cs : Array Value} {t : TypeId} {xs : List Int} {g : Nat} (hg : g = w.heap.size) (hcs : cs = (xs.map (Value.int .i64)).toArray) : Arr (w.alloc (.cells cs t)) g t xs := by
  subst hg hcs; exact heap_alloc_new w _
theorem Arr.alloc {w : World} {g : Nat} {t : TypeId} {xs : List Int} (h : Arr w g t xs) (o : Obj) : Arr (w.alloc o) g t xs :=
  (Below.heap_alloc w o g (Array.getElem?_eq_some_iff.1 h).1).trans h

theorem list6 {xs : List Int} (h : xs.length = 6) : ∃ x0 x1 x2 x3 x4 x5, xs = [x0, x1, x2, x3, x4, x5] := by
  match xs, h with
  | [x0, x1, x2, x3, x4, x5], _ => exact ⟨x0, x1, x2, x3, x4, x5, rfl⟩

theorem news_at (w : World) (cs : Array Value) (t : TypeId) : ∀ (j : Nat) (u : Value), cs.toList[j]? = some u → (w.alloc (.cells cs t)).cell? ((⟨w.heap.size, 0, none⟩ : Addr).add j) = some u := by
  intro j u hj
  rw [Addr.add_lit, Nat.zero_add, World.cell?_alloc_new]
  simpa using hj

/-- A variable of one slice (block R), whose cells, the call's own from 'base' on, hold the numbers zs. -/
def RowVar (w : World) (R : Nat) (t : TypeId) (base : Nat) (e : TypeId) (a : Option Addr) (n c : Nat) (zs : List Int) : Prop :=
  zs.length = n ∧ R < base ∧ w.heap[R]? = some (.cells #[.slice a n c] t (0, 0)) ∧ w.ownsRow base e 1 (.slice a n c) n (zs.map (.int .i64))

theorem RowVar.cell {w : World} {R : Nat} {t : TypeId} {base : Nat} {e : TypeId} {a : Option Addr} {n c : Nat} {zs : List Int} (h : RowVar w R t base e a n c zs) : w.cell? ⟨R, 0, none⟩ = some (.slice a n c) := by
  rw [cell_of_row w R 0 _ t (0, 0) h.2.2.1]; simp
theorem RowVar.frozen {w : World} {R : Nat} {t : TypeId} {base : Nat} {e : TypeId} {a : Option Addr} {n c : Nat} {zs : List Int} (h : RowVar w R t base e a n c zs) : w.frozen? ⟨R, 0, none⟩ = false := frozen_of_row w R 0 _ t h.2.2.1
theorem RowVar.own {w : World} {R : Nat} {t : TypeId} {base : Nat} {e : TypeId} {a : Option Addr} {n c : Nat} {zs : List Int} (h : RowVar w R t base e a n c zs) : w.ownsRow base e 1 (.slice a n c) n (zs.map (.int .i64)) := h.2.2.2
theorem RowVar.below {w w' : World} {R : Nat} {t : TypeId} {base : Nat} {e : TypeId} {a : Option Addr} {n c : Nat} {zs : List Int} (h : RowVar w R t base e a n c zs) (hb : Below w.heap.size w w') : RowVar w' R t base e a n c zs :=
  ⟨h.1, h.2.1, (hb.block R (Array.getElem?_eq_some_iff.1 h.2.2.1).1).trans h.2.2.1, owns_below h.2.2.2 hb⟩
theorem RowVar.new {w : World} {R : Nat} {t : TypeId} {base : Nat} {e : TypeId} (hR : R = w.heap.size) (hb : R < base) : RowVar (w.alloc (.cells #[.slice none 0 0] t)) R t base e none 0 0 [] :=
  ⟨rfl, hb, by subst hR; exact heap_alloc_new w _, World.ownsRow_nil _ _ _ _⟩

/-- Behind 'x.f = append(x.f, v)': the append's world w1, and the store. -/
theorem RowVar.pushed {w w1 : World} {R : Nat} {t : TypeId} {base : Nat} {e : TypeId} {a : Option Addr} {n c g cap : Nat} {zs : List Int} {x : Int} {o : Obj} (h : RowVar w R t base e a n c zs)
    (hown : w1.ownsRow base e 1 (.slice (some ⟨g, 0, none⟩) (n + 1) cap) (n + 1) (zs.map (.int .i64) ++ [.int .i64 x])) (hg : (w.alloc o).grownBy w1 (Value.slice a n c).ownBlock) :
    w1.cell? ⟨R, 0, none⟩ = some (.slice a n c) ∧ w1.frozen? ⟨R, 0, none⟩ = false ∧
      RowVar (w1.setCell ⟨R, 0, none⟩ (.slice (some ⟨g, 0, none⟩) (n + 1) cap)) R t base e (some ⟨g, 0, none⟩) (n + 1) cap (zs ++ [x]) := by
  have hlt := (Array.getElem?_eq_some_iff.1 h.2.2.1).1
  have hR : w1.heap[R]? = some (.cells #[.slice a n c] t (0, 0)) := by
    rw [hg.block R (by simp; omega) (fun e' => by have := (h.2.2.2.lt R e'.symm).1; have := h.2.1; omega), Below.heap_alloc w o R hlt]
    exact h.2.2.1
  refine ⟨by rw [cell_of_row w1 R 0 _ t (0, 0) hR]; simp, frozen_of_row w1 R 0 _ t hR, ?_, h.2.1, ?_, ?_⟩
  · simp [h.1]
  · rw [heap_setCell_same w1 R 0 _ t _ hR]; simp
  · rw [List.map_append]
    exact ownsRow_setCell_below hown h.2.1 _

theorem RowVar.pushed_below {w w1 : World} {R : Nat} {t : TypeId} {base : Nat} {e : TypeId} {a : Option Addr} {n c : Nat} {zs : List Int} {o : Obj} {B : Nat} {W : World} {v : Value} (h : RowVar w R t base e a n c zs)
    (hg : (w.alloc o).grownBy w1 (Value.slice a n c).ownBlock) (hB : Below B W w) (hBR : B ≤ R) : Below B W (w1.setCell ⟨R, 0, none⟩ v) := by
  have hlt := (Array.getElem?_eq_some_iff.1 h.2.2.1).1
  have hb := h.2.1
  exact ((hB.alloc (by omega) o).grown hg (by simp; omega) (fun j hj => by have := (h.2.2.2.lt j hj).1; omega)).setCell hBR _

theorem frozen_later {w wx : World} {a : Addr} {v : Value} {p : Bool} (hb : Below w.heap.size w wx) (hc : w.cell? a = some v) (h : w.frozen? a = p) : wx.frozen? a = p :=
  (hb.frozen (World.block_lt_of_cell? _ _ hc)).trans h
theorem drew_size (w : World) : w.drew.heap.size = w.heap.size := rfl
theorem Hid.mk {p : Prop} (h : p) : Hid p := h

/-- The first k cells are those of the numbers zs. -/
def Upto (cs : List Value) (zs : List Int) (k : Nat) : Prop := cs.length = zs.length ∧ ∀ j, j < k → cs[j]? = some (.int .i64 (zs.getD j 0))

theorem Upto.zero {cs : List Value} {zs : List Int} (h : cs.length = zs.length) : Upto cs zs 0 := ⟨h, fun j hj => by omega⟩

theorem Upto.set {cs : List Value} {zs : List Int} {k : Nat} (h : Upto cs zs k) (hk : k < zs.length) : Upto (cs.set k (.int .i64 (zs.getD k 0))) zs (k + 1) := by
  refine ⟨by simpa using h.1, fun j hj => ?_⟩
  rw [List.getElem?_set]
  have hl := h.1
  by_cases e : k = j
  · subst e; rw [if_pos rfl, if_pos (by omega)]
  · rw [if_neg e]; exact h.2 j (by omega)

theorem Upto.all {cs : List Value} {zs : List Int} {k : Nat} (h : Upto cs zs k) (hk : zs.length ≤ k) : cs = zs.map (.int .i64) := by
  apply List.ext_getElem?
  intro j
  by_cases hj : j < zs.length
  · rw [h.2 j (by omega)]; simp [List.getD, hj]
  · rw [List.getElem?_eq_none (by have := h.1; omega), List.getElem?_eq_none (by simp; omega)]

theorem take_succ_getD (zs : List Int) (k : Nat) (h : k < zs.length) : zs.take (k + 1) = zs.take k ++ [zs.getD k 0] := by
  rw [List.take_succ_eq_append_getElem h]; simp [List.getD, h]

theorem take_all_eq {zs zs' : List Int} {k : Nat} (h1 : zs.length ≤ k) (h2 : zs'.length ≤ k) (h : zs.take k = zs'.take k) : zs = zs' := by
  rwa [List.take_of_length_le h1, List.take_of_length_le h2] at h

/-- The numbers that the laws mark n cells with, from k on. -/
def marks (k : Int) (n : Nat) : List Int := (List.range n).map fun (i : Nat) => k + (i : Int)
end Go.Proofs.Ytlfljfmhhnoinab

/- 'append(out, xs...)': out the call's own, xs whatever slice of ints: nil, empty or not; and a variable of a row behind the store. -/
namespace Go.Proofs.Ytlfljfmhhnoinab
open Go.RowKit

theorem cell_set {w : World} {a : Addr} {u : Value} (h : w.cell? a = some u) (v : Value) : (w.setCell a v).cell? a = some v := World.cell?_setCell_same' w a v (by simp [h])
theorem lt_set {w : World} {a : Addr} {u : Value} (h : w.cell? a = some u) (v : Value) : a.block < (w.setCell a v).heap.size := by
  have := World.block_lt_of_cell? _ _ h
  simpa [World.setCell] using this
theorem keep_far {w : World} {b b' o o' : Nat} {v u : Value} (h : w.cell? ⟨b, o, none⟩ = some v) (hne : b ≠ b') : (w.setCell ⟨b', o', none⟩ u).cell? ⟨b, o, none⟩ = some v :=
  (World.cell?_of_block (Below.heap_setCell w ⟨b', o', none⟩ u b hne)).trans h

theorem owns_slice {w : World} {base : Nat} {e : TypeId} {size : Nat} {v : Value} {n : Nat} {xs : List Value} (h : w.ownsRow base e size v n xs) : ∃ r cap, v = .slice r n cap := by
  rcases h.2 with ⟨rfl, rfl⟩ | ⟨g, cap, cur, rfl, _⟩
  · exact ⟨none, 0, rfl⟩
  · exact ⟨_, cap, rfl⟩

theorem wpList_append_all {P : Program} {w : World} {ops : Array Oper} {rest : List Oper} {o : Oper} {a : Act} {Q : Exit → Act → World → Prop} (hgd : o.guard = none) (s x : Operand) (t : TypeId)
    (ho : o.op = .call { callee := .builtin .append, args := #[s, x], argTypes := #[t, t] })
    (base : Nat) (e : TypeId) (i : TypeInfo) (z : Value) (bytes : Nat) (ht : P.underlying t = some (.slice e)) (hi : P.info? e = some i) (hz : i.zero = some z)
    (hsize : i.size = 1) (hby : i.bytes = bytes) (hzs : z.cells.size = 1)
    (v : Value) (n : Nat) (xs : List Value) (hs : a.eval s = v) (hown : w.ownsRow base e 1 v n xs)
    (ao : Option Addr) (m c : Nat) (zs : List Int) (hx : a.eval x = .slice ao m c) (hl : zs.length = m) (hat : At w ao zs) (hnil : ao = none → c = 0)
    (h63 : n + m ≤ maxLen) (hbytes : (n + m) * bytes ≤ 140737488355328) (hbase : base ≤ w.heap.size)
    (h : ∀ r cap w', w'.ownsRow base e 1 (.slice r (n + m) cap) (n + m) (xs ++ zs.map (.int .i64)) → w.grownBy w' v.ownBlock → wpList P ops Q rest (a.put o.dst (.slice r (n + m) cap)) w') : wpList P ops Q (o :: rest) a w := by
  cases ao with
  | none =>
    have hc := hnil rfl
    have hzs' : zs = [] := by
      rcases hat with h | ⟨b, off, h, _⟩
      · exact h
      · cases h
    subst hzs' hc
    simp at hl
    subst hl
    refine wpList_append_own_none hgd s x t ho base e i 1 ht hi v n xs hs hown hx ?_
    obtain ⟨r, cap, rfl⟩ := owns_slice hown
    have := h r cap w (by simpa using hown) (World.grownBy.refl _ _)
    simpa using this
  | some ad =>
    refine wpList_append_own w hgd s x t ho base e i z 1 bytes ht hi hz hsize hby hzs (by decide) v n xs hs hown ad m c (zs.map (.int .i64)) hx (by simpa using hl) ?_ ?_ h63 hbytes hbase ?_
    · intro j u hj
      have hjl : j < zs.length := by
        have := (List.getElem?_eq_some_iff.1 hj).1
        simpa using this
      obtain ⟨b, off, he, _, hc⟩ := hat.some (by omega)
      simp only [Option.some.injEq] at he
      subst he
      rw [Addr.add_lit, hc j hjl]
      simpa [List.getD, hjl] using hj
    · intro u hu
      obtain ⟨y, _, rfl⟩ := List.mem_map.1 hu
      rfl
    · intro v' w' h2 h3 _
      obtain ⟨r, cap, rfl⟩ := owns_slice h2
      exact h r cap w' h2 h3

/-- Behind 'x.f = <a slice that the call owns>'. -/
theorem RowVar.put {w w1 : World} {R : Nat} {t : TypeId} {base : Nat} {e : TypeId} {a r : Option Addr} {n c k cap : Nat} {zs ys : List Int} (h : RowVar w R t base e a n c zs) (hl : ys.length = k)
    (hown : w1.ownsRow base e 1 (.slice r k cap) k (ys.map (.int .i64))) (hg : w.grownBy w1 (Value.slice a n c).ownBlock) :
    w1.cell? ⟨R, 0, none⟩ = some (.slice a n c) ∧ w1.frozen? ⟨R, 0, none⟩ = false ∧ RowVar (w1.setCell ⟨R, 0, none⟩ (.slice r k cap)) R t base e r k cap ys := by
  have hlt := (Array.getElem?_eq_some_iff.1 h.2.2.1).1
  have hR : w1.heap[R]? = some (.cells #[.slice a n c] t (0, 0)) := by
    rw [hg.block R hlt (fun e' => by have := (h.2.2.2.lt R e'.symm).1; have := h.2.1; omega)]
    exact h.2.2.1
  refine ⟨by rw [cell_of_row w1 R 0 _ t (0, 0) hR]; simp, frozen_of_row w1 R 0 _ t hR, hl, h.2.1, ?_, ?_⟩
  · rw [heap_setCell_same w1 R 0 _ t _ hR]; simp
  · exact ownsRow_setCell_below hown h.2.1 _
/-- As RowVar, the slice's cells in any block of the call's own but the variable's. -/
def RowVar2 (w : World) (R : Nat) (t : TypeId) (base : Nat) (e : TypeId) (a : Option Addr) (n c : Nat) (zs : List Int) : Prop :=
  zs.length = n ∧ w.heap[R]? = some (.cells #[.slice a n c] t (0, 0)) ∧ w.ownsRow base e 1 (.slice a n c) n (zs.map (.int .i64)) ∧ ∀ k, (Value.slice a n c).ownBlock = some k → k ≠ R

theorem RowVar2.cell {w : World} {R : Nat} {t : TypeId} {base : Nat} {e : TypeId} {a : Option Addr} {n c : Nat} {zs : List Int} (h : RowVar2 w R t base e a n c zs) : w.cell? ⟨R, 0, none⟩ = some (.slice a n c) := by
  rw [cell_of_row w R 0 _ t (0, 0) h.2.1]; simp
theorem RowVar2.frozen {w : World} {R : Nat} {t : TypeId} {base : Nat} {e : TypeId} {a : Option Addr} {n c : Nat} {zs : List Int} (h : RowVar2 w R t base e a n c zs) : w.frozen? ⟨R, 0, none⟩ = false := frozen_of_row w R 0 _ t h.2.1
theorem RowVar2.own {w : World} {R : Nat} {t : TypeId} {base : Nat} {e : TypeId} {a : Option Addr} {n c : Nat} {zs : List Int} (h : RowVar2 w R t base e a n c zs) : w.ownsRow base e 1 (.slice a n c) n (zs.map (.int .i64)) := h.2.2.1
theorem RowVar2.lt {w : World} {R : Nat} {t : TypeId} {base : Nat} {e : TypeId} {a : Option Addr} {n c : Nat} {zs : List Int} (h : RowVar2 w R t base e a n c zs) : R < w.heap.size := (Array.getElem?_eq_some_iff.1 h.2.1).1
theorem RowVar2.below {w w' : World} {R : Nat} {t : TypeId} {base : Nat} {e : TypeId} {a : Option Addr} {n c : Nat} {zs : List Int} (h : RowVar2 w R t base e a n c zs) (hb : Below w.heap.size w w') : RowVar2 w' R t base e a n c zs :=
  ⟨h.1, (hb.block R h.lt).trans h.2.1, owns_below h.2.2.1 hb, h.2.2.2⟩
theorem RowVar2.new {w : World} {t : TypeId} {base : Nat} {e : TypeId} {a : Option Addr} {n c : Nat} {zs : List Int} (hl : zs.length = n) (h : w.ownsRow base e 1 (.slice a n c) n (zs.map (.int .i64))) : RowVar2 (w.alloc (.cells #[.slice a n c] t)) w.heap.size t base e a n c zs :=
  ⟨hl, heap_alloc_new w _, h.alloc _, fun k hk => by have := (h.lt k hk).2; omega⟩

theorem setCell_grown (w : World) (a : Addr) (v : Value) : w.grownBy (w.setCell a v) (some a.block) :=
  ⟨rfl, rfl, rfl, by simp [World.setCell], fun k _ hn => Below.heap_setCell w a v k (fun e => hn (by rw [e]))⟩

theorem RowVar2.pushed {w w1 : World} {R : Nat} {t : TypeId} {base : Nat} {e : TypeId} {a : Option Addr} {n c g cap : Nat} {zs : List Int} {x : Int} {o : Obj} (h : RowVar2 w R t base e a n c zs)
    (hown : w1.ownsRow base e 1 (.slice (some ⟨g, 0, none⟩) (n + 1) cap) (n + 1) (zs.map (.int .i64) ++ [.int .i64 x])) (hg : (w.alloc o).grownBy w1 (Value.slice a n c).ownBlock)
    (hat : (Value.slice a n c).ownBlock = some g ∨ g = w.heap.size + 1) :
    w1.cell? ⟨R, 0, none⟩ = some (.slice a n c) ∧ w1.frozen? ⟨R, 0, none⟩ = false ∧
      RowVar2 (w1.setCell ⟨R, 0, none⟩ (.slice (some ⟨g, 0, none⟩) (n + 1) cap)) R t base e (some ⟨g, 0, none⟩) (n + 1) cap (zs ++ [x]) := by
  have hlt := h.lt
  have hgR : g ≠ R := by
    rcases hat with h' | h'
    · exact h.2.2.2 g h'
    · omega
  have hR : w1.heap[R]? = some (.cells #[.slice a n c] t (0, 0)) := by
    rw [hg.block R (by simp; omega) (fun e' => h.2.2.2 R e'.symm rfl), Below.heap_alloc w o R hlt]
    exact h.2.1
  refine ⟨by rw [cell_of_row w1 R 0 _ t (0, 0) hR]; simp, frozen_of_row w1 R 0 _ t hR, by simp [h.1], ?_, ?_, ?_⟩
  · rw [heap_setCell_same w1 R 0 _ t _ hR]; simp
  · rw [List.map_append]
    exact hown.kept (setCell_grown w1 ⟨R, 0, none⟩ _) (.inr (by simp [Value.ownBlock, hgR]))
  · intro k hk
    simp [Value.ownBlock] at hk
    omega

theorem RowVar2.pushed_below {w w1 : World} {R : Nat} {t : TypeId} {base : Nat} {e : TypeId} {a : Option Addr} {n c : Nat} {zs : List Int} {o : Obj} {B : Nat} {W : World} {v : Value} (h : RowVar2 w R t base e a n c zs)
    (hg : (w.alloc o).grownBy w1 (Value.slice a n c).ownBlock) (hB : Below B W w) (hBR : B ≤ R) (hBb : B ≤ base) : Below B W (w1.setCell ⟨R, 0, none⟩ v) := by
  have hlt := h.lt
  exact ((hB.alloc (by omega) o).grown hg (by simp; omega) (fun j hj => by have := (h.2.2.1.lt j hj).1; omega)).setCell hBR _

end Go.Proofs.Ytlfljfmhhnoinab
