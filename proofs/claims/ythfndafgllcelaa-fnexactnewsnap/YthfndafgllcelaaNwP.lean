/- Plain: a new snap; rows of processes and wires that hold nothing yet. -/
import Derived.Test.YthfndafgllcelaaNapP
import Derived.Test.YthfndafgllcelaaRepP
import Derived.Laws.MakeOwn
namespace Go.Proofs.Ythfndafgllcelaa
open Go.RowKit

theorem rows_own {α : Type} {A : Rep α} {w : World} {base : Nat} {e : TypeId} {a : Option Addr} {n c : Nat} {xs : List α} {cells : List Value} (hz : xs.length = n) (hn : n ≤ 9223372036854775807) (ho : w.ownsRow base e A.k (.slice a n c) n cells)
    (hr : ∀ i x, xs[i]? = some x → A.Own w (fun _ => False) (sub cells (i * A.k) A.k) x) : (Rep.slice e A).Own w (From base w.heap.size) [.slice a n c] xs :=
  ⟨a, n, c, cells, fun _ _ => False, rfl, hz, hn, owns_mono ho (Nat.zero_le _), fun b hb => ho.lt b hb, fun i x _ hx => hr i x hx, fun _ _ _ hb => hb.elim, fun _ _ _ _ _ _ hb => hb.elim⟩
theorem sub3 {cells : List Value} {o : Nat} {x y z : Value} (h0 : cells[o]? = some x) (h1 : cells[o + 1]? = some y) (h2 : cells[o + 2]? = some z) : sub cells o 3 = [x, y, z] := by
  apply List.ext_getElem?
  intro j
  match j with
  | 0 => rw [sub_at (by omega)]; exact h0
  | 1 => rw [sub_at (by omega)]; exact h1
  | 2 => rw [sub_at (by omega)]; exact h2
  | j + 3 => rw [List.getElem?_eq_none (by simp [sub]; omega)]; simp

/-- Cells of processes of these amounts, nothing Saved, none Done. -/
def PzA (cells : List Value) (xs : List Int) : Prop := cells.length = xs.length * 3 ∧ ∀ i a, xs[i]? = some a → cells[i * 3]? = some (.int .i64 a) ∧ cells[i * 3 + 1]? = some (.int .i64 0) ∧ cells[i * 3 + 2]? = some (.bool false)
def WzA (cells : List Value) (n : Nat) : Prop := cells.length = n * 3 ∧ ∀ i, i < n → cells[i * 3]? = some (.slice none 0 0) ∧ cells[i * 3 + 1]? = some (.slice none 0 0) ∧ cells[i * 3 + 2]? = some (.bool false)
theorem PzA.nil : PzA [] [] := ⟨rfl, fun i a h => by simp at h⟩
theorem PzA.push {cells : List Value} {xs : List Int} (h : PzA cells xs) (a : Int) : PzA (cells ++ [.int .i64 a, .int .i64 0, .bool false]) (xs ++ [a]) := by
  refine ⟨by simp [h.1]; omega, fun i b hb => ?_⟩
  have hl := h.1
  by_cases hi : i < xs.length
  · rw [List.getElem?_append_left hi] at hb
    obtain ⟨h0, h1, h2⟩ := h.2 i b hb
    rw [List.getElem?_append_left (by omega), List.getElem?_append_left (by omega), List.getElem?_append_left (by omega)]
    exact ⟨h0, h1, h2⟩
  · rw [List.getElem?_append_right (by omega)] at hb
    have hi2 : i = xs.length := by
      have := (List.getElem?_eq_some_iff.1 hb).1
      simp at this
      omega
    subst hi2
    obtain rfl : a = b := by simpa using hb
    rw [List.getElem?_append_right (by omega), List.getElem?_append_right (by omega), List.getElem?_append_right (by omega), hl]
    refine ⟨?_, ?_, ?_⟩
    · rw [Nat.sub_self]; rfl
    · rw [show xs.length * 3 + 1 - xs.length * 3 = 1 by omega]; rfl
    · rw [show xs.length * 3 + 2 - xs.length * 3 = 2 by omega]; rfl
theorem PzA.set {cells : List Value} {xs : List Int} (h : PzA cells xs) {k : Nat} (hk : k < xs.length) (a : Int) : PzA (cells.set (k * 3) (.int .i64 a)) (xs.set k a) := by
  refine ⟨by simp [h.1], fun i b hb => ?_⟩
  have hl := h.1
  by_cases e : i = k
  · subst e
    rw [List.getElem?_set_self hk] at hb
    cases hb
    obtain ⟨_, h1, h2⟩ := h.2 i _ (List.getElem?_eq_getElem hk)
    rw [List.getElem?_set_self (by omega), List.getElem?_set_ne (by omega), List.getElem?_set_ne (by omega)]
    exact ⟨rfl, h1, h2⟩
  · rw [List.getElem?_set_ne (Ne.symm e)] at hb
    rw [List.getElem?_set_ne (by omega), List.getElem?_set_ne (by omega), List.getElem?_set_ne (by omega)]
    exact h.2 i b hb
theorem made_at {z : Array Value} {n i : Nat} (hi : i < n) : (madeCells z n).toList[i]? = some (z[i % z.size]!) := by
  simp [madeCells, hi]
theorem mod3 (i : Nat) : i * 3 % 3 = 0 ∧ (i * 3 + 1) % 3 = 1 ∧ (i * 3 + 2) % 3 = 2 := by omega
theorem PzA.made (n : Nat) : PzA (madeCells #[.int .i64 0, .int .i64 0, .bool false] (n * 3)).toList (List.replicate n 0) := by
  refine ⟨by simp [madeCells], fun i a h => ?_⟩
  have hi : i < n := by have := (List.getElem?_eq_some_iff.1 h).1; simpa using this
  obtain rfl : (0 : Int) = a := by
    rw [List.getElem?_replicate] at h
    simpa [hi] using h
  rw [made_at (by omega), made_at (by omega), made_at (by omega)]
  obtain ⟨h0, h1, h2⟩ := mod3 i
  simp only [List.size_toArray, List.length_cons, List.length_nil, Nat.reduceAdd, h0, h1, h2]
  exact ⟨rfl, rfl, rfl⟩
theorem WzA.made (n : Nat) : WzA (madeCells #[.slice none 0 0, .slice none 0 0, .bool false] (n * 3)).toList n := by
  refine ⟨by simp [madeCells], fun i hi => ?_⟩
  rw [made_at (by omega), made_at (by omega), made_at (by omega)]
  obtain ⟨h0, h1, h2⟩ := mod3 i
  simp only [List.size_toArray, List.length_cons, List.length_nil, Nat.reduceAdd, h0, h1, h2]
  exact ⟨rfl, rfl, rfl⟩

abbrev psN (zs : List Int) : List TProc := zs.map (fun a => (a, 0, false))
abbrev wsN (m : Nat) : List TWire := List.replicate m ([], [], false)
theorem RProcs.of_cells {w : World} {base : Nat} {a : Option Addr} {n c : Nat} {xs : List Int} {cells : List Value} (hz : xs.length = n) (hn : n ≤ 9223372036854775807) (ho : w.ownsRow base 64 3 (.slice a n c) n cells) (h : PzA cells xs) :
    RProcs.Own w (From base w.heap.size) [.slice a n c] (psN xs) :=
  rows_own (A := RProc) (by simp [psN, hz]) hn ho (fun i x hx => by
    obtain ⟨a, ha, rfl⟩ : ∃ a, xs[i]? = some a ∧ (a, 0, false) = x := by simpa [psN] using hx
    obtain ⟨h0, h1, h2⟩ := h.2 i a ha
    show RProc.Own w _ (sub cells (i * 3) 3) (a, 0, false)
    rw [sub3 h0 h1 h2]
    exact RProc.own_mk)
theorem RInts.nil (w : World) (F : Nat → Prop) : RInts.Own w F [.slice none 0 0] [] := RInts.own_iff.2 ⟨rfl, by omega, World.ownsRow_nil _ _ _ _, fun b hb => by cases hb⟩
theorem RWires.of_cells {w : World} {base : Nat} {a : Option Addr} {n c : Nat} {cells : List Value} (hn : n ≤ 9223372036854775807) (ho : w.ownsRow base 74 3 (.slice a n c) n cells) (h : WzA cells n) :
    RWires.Own w (From base w.heap.size) [.slice a n c] (wsN n) :=
  rows_own (A := RWire) (by simp [wsN]) hn ho (fun i x hx => by
    have hi : i < n := by have := (List.getElem?_eq_some_iff.1 hx).1; simpa using this
    obtain rfl : ([], [], false) = x := by
      rw [List.getElem?_replicate] at hx
      simpa [hi] using hx
    obtain ⟨h0, h1, h2⟩ := h.2 i hi
    show RWire.Own w _ (sub cells (i * 3) 3) ([], [], false)
    rw [sub3 h0 h1 h2]
    exact RWire.own_mk (F0 := fun _ => False) (F1 := fun _ => False) (RInts.nil _ _) (RInts.nil _ _) (fun _ h => h) (fun _ h => h) (fun _ h => h.elim))

def newS (zs : List Int) : TSnap := (psN zs, wsN (zs.length * zs.length))
/-- A snap and a truth value that are told, in memory that the call made. -/
def SnapRet (e : Ending) (w' : World) (lo : Nat) (ok : Bool) (x : TSnap) : Prop :=
  ∃ r0 m0 d0 r1 m1 d1, e = .returned (.tuple #[.agg #[.slice r0 m0 d0, .slice r1 m1 d1], .bool ok]) ∧ RSnap.Own w' (From lo w'.heap.size) [.slice r0 m0 d0, .slice r1 m1 d1] x
theorem RSnap.nil (w : World) (F : Nat → Prop) : RSnap.Own w F [.slice none 0 0, .slice none 0 0] ([], []) :=
  RSnap.own_mk (F0 := fun _ => False) (F1 := fun _ => False) ⟨none, 0, 0, [], _, rfl, Laid.none _ _ _ _⟩ ⟨none, 0, 0, [], _, rfl, Laid.none _ _ _ _⟩ (fun _ h => h.elim) (fun _ h => h.elim) (fun _ h => h.elim)

end Go.Proofs.Ythfndafgllcelaa
