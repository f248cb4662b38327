/- Atoms and queries as things in memory. -/
import Derived.Test.YtipgepienagplaaMkL
namespace Go.Proofs.Ytipgepienagplaa
open Go.RowKit

/-- An atom: Table, Vars. A query: Head, Atoms. -/
abbrev Atm := Int × List Int
abbrev RAtm : Rep Atm := Rep.pair Rep.int RInts
abbrev RAtms : Rep (List Atm) := Rep.slice 81 RAtm
abbrev Qry := List Int × List Atm
abbrev RQry : Rep Qry := Rep.pair RInts RAtms
theorem RAtm_k : RAtm.k = 2 := rfl

theorem RAtm.at_open {w : World} {cs : List Value} {x : Atm} (h : RAtm.At w cs x) : ∃ ta tn tc, cs = [.int .i64 x.1, .slice ta tn tc] ∧
    (x.2.length = tn ∧ tn ≤ 9223372036854775807 ∧ At w ta x.2 ∧ (ta = none → tc = 0)) := by
  obtain ⟨c1, c2, rfl, h1, ⟨ta, tn, tc, rfl, u1, u2, u3, u4⟩⟩ := h
  obtain rfl : c1 = [.int .i64 x.1] := h1
  exact ⟨ta, tn, tc, rfl, u1, u2, atSl_int.1 u3, u4⟩

theorem RAtm.own_mk {w : World} {F : Nat → Prop} {p : Int} {ts : List Int} {ta : Option Addr} {tn tc : Nat} (h : RInts.Own w F [.slice ta tn tc] ts) : RAtm.Own w F [.int .i64 p, .slice ta tn tc] (p, ts) :=
  ⟨[_], [_], fun _ => False, F, rfl, rfl, h, fun _ h => h.elim, fun _ h => h, fun _ h => h.elim⟩

theorem RAtm.own_open {w : World} {F : Nat → Prop} {cs : List Value} {x : Atm} (h : RAtm.Own w F cs x) : ∃ ta tn tc, cs = [.int .i64 x.1, .slice ta tn tc] ∧ RInts.Own w F [.slice ta tn tc] x.2 := by
  obtain ⟨c1, d1, F1, F2, rfl, h1, h2, a1, a2, a3⟩ := h
  obtain rfl : c1 = [.int .i64 x.1] := h1
  obtain ⟨ca, cn, cc, ccells, cG, rfl, cl⟩ := h2
  exact ⟨ca, cn, cc, rfl, RInts.mono ⟨ca, cn, cc, ccells, cG, rfl, cl⟩ a2⟩

/-- How many slots the laws count for atoms, and how many they mark. -/
def acost (x : Atm) : Nat := x.2.length
def amk (x : Atm) : Nat := 1 + x.2.length
abbrev asum (xs : List Atm) (k : Nat) : Nat := szL acost xs k
abbrev msum (xs : List Atm) (k : Nat) : Nat := szL amk xs k
theorem asum_zero (xs : List Atm) : asum xs 0 = 0 := by simp [asum, szL]
theorem msum_zero (xs : List Atm) : msum xs 0 = 0 := by simp [msum, szL]
theorem asum_succ {xs : List Atm} {k : Nat} {x : Atm} (h : xs[k]? = some x) : asum xs (k + 1) = asum xs k + acost x := szL_succ acost h
theorem msum_succ {xs : List Atm} {k : Nat} {x : Atm} (h : xs[k]? = some x) : msum xs (k + 1) = msum xs k + amk x := szL_succ amk h
theorem asum_mono (xs : List Atm) (j k : Nat) (h : j ≤ k) : asum xs j ≤ asum xs k := szL_mono acost xs j k h
theorem msum_mono (xs : List Atm) (j k : Nat) (h : j ≤ k) : msum xs j ≤ msum xs k := szL_mono amk xs j k h
theorem msum_eq : ∀ (xs : List Atm) (k : Nat), k ≤ xs.length → msum xs k = k + asum xs k
  | xs, 0, _ => by rw [msum_zero, asum_zero]
  | xs, k + 1, h => by
    have hx : xs[k]? = some xs[k] := List.getElem?_eq_getElem (by omega)
    have hm : amk xs[k] = 1 + acost xs[k] := rfl
    rw [msum_succ hx, asum_succ hx, msum_eq xs k (by omega), hm]
    omega
theorem asum_each {xs : List Atm} {n i : Nat} {x : Atm} (hn : xs.length = n) (h : xs[i]? = some x) : acost x ≤ asum xs n := by
  have hi := (List.getElem?_eq_some_iff.1 h).1
  have h1 := szL_succ acost h
  have h2 := szL_mono acost xs (i + 1) n (by omega)
  show acost x ≤ szL acost xs n
  omega

/-- Atoms within the laws' bound. -/
def SmA (xs : List Atm) (n : Nat) : Prop := xs.length = n ∧ n + asum xs n ≤ 1048576
theorem SmA.n {xs : List Atm} {n : Nat} (h : SmA xs n) : n ≤ 1048576 := by have := h.2; omega
theorem SmA.sum {xs : List Atm} {n : Nat} (h : SmA xs n) : asum xs n ≤ 1048576 := by have := h.2; omega
theorem SmA.msum {xs : List Atm} {n : Nat} (h : SmA xs n) : msum xs n ≤ 1048576 := by rw [msum_eq xs n (by have := h.1; omega)]; exact h.2
theorem SmA.each {xs : List Atm} {n : Nat} (h : SmA xs n) {i : Nat} {x : Atm} (hx : xs[i]? = some x) : x.2.length ≤ 1048576 := by
  have h1 := asum_each h.1 hx
  have h2 := h.2
  have h3 : acost x = x.2.length := rfl
  omega

/-- A slice of atoms as it is read: what a row of it is. -/
abbrev AtQ (w : World) (a : Option Addr) (xs : List Atm) : Prop := AtSl RAtm w a xs
theorem AtQ.row {w : World} {a : Option Addr} {xs : List Atm} (h : AtQ w a xs) (hp : 0 < xs.length) : ∃ b off, a = some ⟨b, off, none⟩ ∧ b < w.heap.size ∧ ∀ (i : Nat) (x : Atm), xs[i]? = some x → ∃ ta tn tc,
    w.cell? ⟨b, off + i * 2, none⟩ = some (.int .i64 x.1) ∧ w.cell? ⟨b, off + i * 2 + 1, none⟩ = some (.slice ta tn tc) ∧ (x.2.length = tn ∧ tn ≤ 9223372036854775807 ∧ At w ta x.2 ∧ (ta = none → tc = 0)) := by
  obtain ⟨b, off, rfl, hc⟩ := AtSl.each h hp
  have row : ∀ (i : Nat) (x : Atm), xs[i]? = some x → ∃ ta tn tc,
    w.cell? ⟨b, off + i * 2, none⟩ = some (.int .i64 x.1) ∧ w.cell? ⟨b, off + i * 2 + 1, none⟩ = some (.slice ta tn tc) ∧ (x.2.length = tn ∧ tn ≤ 9223372036854775807 ∧ At w ta x.2 ∧ (ta = none → tc = 0)) := by
    intro i x hx
    obtain ⟨cs, h1, h2⟩ := hc i x hx
    obtain ⟨ta, tn, tc, rfl, u⟩ := RAtm.at_open h2
    exact ⟨ta, tn, tc, h1 0 _ rfl, h1 1 _ rfl, u⟩
  refine ⟨b, off, rfl, ?_, row⟩
  obtain ⟨ta, tn, tc, h1, _⟩ := row 0 xs[0] (List.getElem?_eq_getElem hp)
  exact World.block_lt_of_cell? _ _ h1

/-- What a query by value is. -/
theorem RQry.at_iff {w : World} {ha : Option Addr} {hn hc : Nat} {a : Option Addr} {n c : Nat} {x : Qry} (h : RQry.At w [.slice ha hn hc, .slice a n c] x) :
    (x.1.length = hn ∧ hn ≤ 9223372036854775807 ∧ At w ha x.1 ∧ (ha = none → hc = 0)) ∧ (x.2.length = n ∧ n ≤ 9223372036854775807 ∧ AtQ w a x.2 ∧ (a = none → c = 0)) := by
  obtain ⟨c1, c2, e, ⟨fa', fn', fc', rfl, t1, t2, t3, t4⟩, ⟨ta', tn', tc', rfl, u1, u2, u3, u4⟩⟩ := h
  simp only [List.cons_append, List.nil_append, List.cons.injEq, Value.slice.injEq, and_true] at e
  obtain ⟨⟨rfl, rfl, rfl⟩, rfl, rfl, rfl⟩ := e
  exact ⟨⟨t1, t2, atSl_int.1 t3, t4⟩, ⟨u1, u2, u3, u4⟩⟩
theorem RQry.at_open {w : World} {cs : List Value} {x : Qry} (h : RQry.At w cs x) : ∃ ha hn hc a n c, cs = [.slice ha hn hc, .slice a n c] := by
  obtain ⟨c1, c2, rfl, ⟨fa', fn', fc', rfl, _⟩, ⟨ta', tn', tc', rfl, _⟩⟩ := h
  exact ⟨_, _, _, _, _, _, rfl⟩
theorem RQry.own_mk {w : World} {F F1 F2 : Nat → Prop} {hs : List Int} {ats : List Atm} {fa : Option Addr} {fn fc : Nat} {ta : Option Addr} {tn tc : Nat}
    (h1 : RInts.Own w F1 [.slice fa fn fc] hs) (h2 : RAtms.Own w F2 [.slice ta tn tc] ats) (f1 : ∀ b, F1 b → F b) (f2 : ∀ b, F2 b → F b) (d12 : ∀ b, F1 b → ¬ F2 b) : RQry.Own w F [.slice fa fn fc, .slice ta tn tc] (hs, ats) :=
  ⟨[_], [_], F1, F2, rfl, h1, h2, f1, f2, d12⟩
theorem RQry.own_open {w : World} {F : Nat → Prop} {fa : Option Addr} {fn fc : Nat} {ta : Option Addr} {tn tc : Nat} {x : Qry} (h : RQry.Own w F [.slice fa fn fc, .slice ta tn tc] x) : ∃ F1 F2,
    RInts.Own w F1 [.slice fa fn fc] x.1 ∧ RAtms.Own w F2 [.slice ta tn tc] x.2 ∧ (∀ b, F1 b → F b) ∧ (∀ b, F2 b → F b) ∧ (∀ b, F1 b → ¬ F2 b) := by
  obtain ⟨c1, d1, F1, F2, e, h1, h2, a1, a2, a3⟩ := h
  obtain ⟨ta', tn', tc', tcells, tG, rfl, tl⟩ := h1
  obtain ⟨ca, cn, cc, ccells, cG, rfl, cl⟩ := h2
  simp only [List.cons_append, List.nil_append, List.cons.injEq, Value.slice.injEq, and_true] at e
  obtain ⟨⟨rfl, rfl, rfl⟩, rfl, rfl, rfl⟩ := e
  exact ⟨F1, F2, ⟨_, _, _, tcells, tG, rfl, tl⟩, ⟨_, _, _, ccells, cG, rfl, cl⟩, a1, a2, a3⟩
theorem atms_at {w : World} {F : Nat → Prop} {a : Option Addr} {n c : Nat} {xs : List Atm} (h : RAtms.Own w F [.slice a n c] xs) : xs.length = n ∧ AtQ w a xs := by
  obtain ⟨a', n', c', e, h1, _, h3, _⟩ := RAtms.toAt h
  simp only [List.cons.injEq, Value.slice.injEq, and_true] at e
  obtain ⟨rfl, rfl, rfl⟩ := e
  exact ⟨h1, h3⟩
theorem qry_at {w : World} {F : Nat → Prop} {fa : Option Addr} {fn fc : Nat} {ta : Option Addr} {tn tc : Nat} {x : Qry} (h : RQry.Own w F [.slice fa fn fc, .slice ta tn tc] x) : At w fa x.1 ∧ AtQ w ta x.2 :=
  ⟨(RQry.at_iff (RQry.toAt h)).1.2.2.1, (RQry.at_iff (RQry.toAt h)).2.2.2.1⟩

end Go.Proofs.Ytipgepienagplaa
