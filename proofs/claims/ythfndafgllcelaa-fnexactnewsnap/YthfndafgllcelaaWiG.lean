/- Wire as a thing in memory. -/
import Derived.Test.YthfndafgllcelaaMkL
import Derived.Test.YthfndafgllcelaaIntsR
import Derived.Test.YthfndafgllcelaaBoR
import Derived.Test.YthfndafgllcelaaSetsW
namespace Go.Proofs.Ythfndafgllcelaa
open Go.RowKit

/-- impl.Wire, by its fields. -/
abbrev TWire := List Int × List Int × Bool
abbrev RWire : Rep TWire := Rep.pair RInts (Rep.pair RInts (Rep.bool))
abbrev RWires : Rep (List TWire) := Rep.slice 74 RWire
theorem RWire_k : RWire.k = 3 := rfl
theorem RWire.at_open {w : World} {cs : List Value} {x : TWire} (h : RWire.At w cs x) : ∃ a0 n0 c0 a1 n1 c1, cs = [.slice a0 n0 c0, .slice a1 n1 c1, .bool x.2.2] ∧ (x.1.length = n0 ∧ n0 ≤ 9223372036854775807 ∧ At w a0 x.1 ∧ (a0 = none → c0 = 0)) ∧ (x.2.1.length = n1 ∧ n1 ≤ 9223372036854775807 ∧ At w a1 x.2.1 ∧ (a1 = none → c1 = 0)) := by
  obtain ⟨e0, d0, rfl, ⟨a0, n0, c0, rfl, s01, s02, s03, s04⟩, ⟨e1, d1, rfl, ⟨a1, n1, c1, rfl, s11, s12, s13, s14⟩, h2⟩⟩ := h
  obtain rfl : d1 = [.bool x.2.2] := h2
  exact ⟨a0, n0, c0, a1, n1, c1, rfl, ⟨s01, s02, atSl_int.1 s03, s04⟩, ⟨s11, s12, atSl_int.1 s13, s14⟩⟩
theorem RWire.at_iff {w : World} {a0 : Option Addr} {n0 c0 : Nat} {x0 : List Int} {a1 : Option Addr} {n1 c1 : Nat} {x1 : List Int} {bo2 : Bool} (h : RWire.At w [.slice a0 n0 c0, .slice a1 n1 c1, .bool bo2] (x0, x1, bo2)) : (x0.length = n0 ∧ n0 ≤ 9223372036854775807 ∧ At w a0 x0 ∧ (a0 = none → c0 = 0)) ∧ (x1.length = n1 ∧ n1 ≤ 9223372036854775807 ∧ At w a1 x1 ∧ (a1 = none → c1 = 0)) := by
  obtain ⟨a0', n0', c0', a1', n1', c1', hcs, hf⟩ := RWire.at_open h
  simp only [List.cons.injEq, Value.slice.injEq, and_true] at hcs
  obtain ⟨⟨rfl, rfl, rfl⟩, rfl, rfl, rfl⟩ := hcs
  exact hf
theorem RWire.own_mk {w : World} {F F0 F1 : Nat → Prop} {a0 : Option Addr} {n0 c0 : Nat} {x0 : List Int} {a1 : Option Addr} {n1 c1 : Nat} {x1 : List Int} {bo2 : Bool}
    (h0 : RInts.Own w F0 [.slice a0 n0 c0] x0) (h1 : RInts.Own w F1 [.slice a1 n1 c1] x1) (f0 : ∀ b, F0 b → F b) (f1 : ∀ b, F1 b → F b) (d01 : ∀ b, F0 b → ¬ F1 b) : RWire.Own w F [.slice a0 n0 c0, .slice a1 n1 c1, .bool bo2] (x0, x1, bo2) :=
  ⟨[_], _, F0, F1, rfl, h0, ⟨[_], _, F1, (fun _ => False), rfl, h1, rfl, (fun _ h => h), (fun _ h => False.elim h), (fun _ _ k => False.elim k)⟩, f0, (fun b h => f1 b h), (fun b h k => d01 b h k)⟩
theorem RWire.own_open {w : World} {F : Nat → Prop} {cs : List Value} {x : TWire} (h : RWire.Own w F cs x) : ∃ a0 n0 c0 a1 n1 c1, ∃ F0 F1 : Nat → Prop, cs = [.slice a0 n0 c0, .slice a1 n1 c1, .bool x.2.2] ∧ RInts.Own w F0 [.slice a0 n0 c0] x.1 ∧ RInts.Own w F1 [.slice a1 n1 c1] x.2.1 ∧ (∀ b, F0 b → F b) ∧ (∀ b, F1 b → F b) ∧ (∀ b, F0 b → ¬ F1 b) := by
  obtain ⟨e0, d0, F0, H0, rfl, ⟨a0, n0, c0, zc0, G0, rfl, l0⟩, ⟨e1, d1, F1, H1, rfl, ⟨a1, n1, c1, zc1, G1, rfl, l1⟩, h2, q1, r1, s1⟩, q0, r0, s0⟩ := h
  obtain rfl : d1 = [.bool x.2.2] := h2
  exact ⟨a0, n0, c0, a1, n1, c1, F0, F1, rfl, ⟨_, _, _, zc0, G0, rfl, l0⟩, ⟨_, _, _, zc1, G1, rfl, l1⟩, fun b h => (q0 b h), fun b h => (r0 b (q1 b h)), fun b h k => s0 b h (q1 b k)⟩
def costWire (x : TWire) : Nat := x.1.length + x.2.1.length
def mknWire (x : TWire) : Nat := x.1.length + x.2.1.length + 1
def mkWire (m : Int) (x : TWire) : TWire := (mkInts (m) x.1, mkInts (m + (x.1.length : Nat)) x.2.1, mkB (m + (x.1.length : Nat) + (x.2.1.length : Nat)))
abbrev msumWire (xs : List TWire) (k : Nat) : Nat := szL mknWire xs k
def mkWires (m : Int) (xs : List TWire) : List TWire := mkL mkWire mknWire m xs
theorem msumWire_zero (xs : List TWire) : msumWire xs 0 = 0 := by simp [msumWire, szL]
theorem msumWire_succ {xs : List TWire} {k : Nat} {x : TWire} (h : xs[k]? = some x) : msumWire xs (k + 1) = msumWire xs k + mknWire x := szL_succ mknWire h
theorem msumWire_mono (xs : List TWire) (j k : Nat) (h : j ≤ k) : msumWire xs j ≤ msumWire xs k := szL_mono mknWire xs j k h
theorem mkWires_len (m : Int) (xs : List TWire) : (mkWires m xs).length = xs.length := mkL_length _ _ _ _
abbrev csumWire (xs : List TWire) (k : Nat) : Nat := szL costWire xs k
theorem csumWire_zero (xs : List TWire) : csumWire xs 0 = 0 := by simp [csumWire, szL]
theorem csumWire_succ {xs : List TWire} {k : Nat} {x : TWire} (h : xs[k]? = some x) : csumWire xs (k + 1) = csumWire xs k + costWire x := szL_succ costWire h
theorem csumWire_mono (xs : List TWire) (j k : Nat) (h : j ≤ k) : csumWire xs j ≤ csumWire xs k := szL_mono costWire xs j k h
theorem csumWire_each {xs : List TWire} {n i : Nat} {x : TWire} (hn : xs.length = n) (h : xs[i]? = some x) : costWire x ≤ csumWire xs n := by
  have hi := (List.getElem?_eq_some_iff.1 h).1
  have h1 := szL_succ costWire h
  have h2 := szL_mono costWire xs (i + 1) n (by omega)
  show costWire x ≤ szL costWire xs n
  omega
theorem RWire.row {w : World} {a : Option Addr} {xs : List TWire} (h : AtSl RWire w a xs) (hp : 0 < xs.length) : ∃ b off, a = some ⟨b, off, none⟩ ∧ b < w.heap.size ∧ ∀ (i : Nat) (x : TWire), xs[i]? = some x → ∃ a0 n0 c0 a1 n1 c1, w.cell? ⟨b, off + i * 3, none⟩ = some (.slice a0 n0 c0) ∧ w.cell? ⟨b, off + i * 3 + 1, none⟩ = some (.slice a1 n1 c1) ∧ w.cell? ⟨b, off + i * 3 + 2, none⟩ = some (.bool x.2.2) ∧ (x.1.length = n0 ∧ n0 ≤ 9223372036854775807 ∧ At w a0 x.1 ∧ (a0 = none → c0 = 0)) ∧ (x.2.1.length = n1 ∧ n1 ≤ 9223372036854775807 ∧ At w a1 x.2.1 ∧ (a1 = none → c1 = 0)) := by
  obtain ⟨b, off, rfl, hc⟩ := AtSl.each h hp
  have row : ∀ (i : Nat) (x : TWire), xs[i]? = some x → ∃ a0 n0 c0 a1 n1 c1, w.cell? ⟨b, off + i * 3, none⟩ = some (.slice a0 n0 c0) ∧ w.cell? ⟨b, off + i * 3 + 1, none⟩ = some (.slice a1 n1 c1) ∧ w.cell? ⟨b, off + i * 3 + 2, none⟩ = some (.bool x.2.2) ∧ (x.1.length = n0 ∧ n0 ≤ 9223372036854775807 ∧ At w a0 x.1 ∧ (a0 = none → c0 = 0)) ∧ (x.2.1.length = n1 ∧ n1 ≤ 9223372036854775807 ∧ At w a1 x.2.1 ∧ (a1 = none → c1 = 0)) := by
    intro i x hx
    obtain ⟨cs, h1, h2⟩ := hc i x hx
    obtain ⟨a0, n0, c0, a1, n1, c1, rfl, u⟩ := RWire.at_open h2
    exact ⟨a0, n0, c0, a1, n1, c1, h1 0 _ rfl, h1 1 _ rfl, h1 2 _ rfl, u⟩
  refine ⟨b, off, rfl, ?_, row⟩
  obtain ⟨a0, n0, c0, a1, n1, c1, h1, _⟩ := row 0 xs[0] (List.getElem?_eq_getElem hp)
  exact World.block_lt_of_cell? _ _ h1
theorem RWires.atSl {w : World} {F : Nat → Prop} {a : Option Addr} {n c : Nat} {xs : List TWire} (h : RWires.Own w F [.slice a n c] xs) : xs.length = n ∧ AtSl RWire w a xs := by
  obtain ⟨a', n', c', e, h1, _, h3, _⟩ := RWires.toAt h
  simp only [List.cons.injEq, Value.slice.injEq, and_true] at e
  obtain ⟨rfl, rfl, rfl⟩ := e
  exact ⟨h1, h3⟩
theorem RWire.lens {w : World} {F : Nat → Prop} {a0 : Option Addr} {n0 c0 : Nat} {x0 : List Int} {a1 : Option Addr} {n1 c1 : Nat} {x1 : List Int} {bo2 : Bool} (h : RWire.Own w F [.slice a0 n0 c0, .slice a1 n1 c1, .bool bo2] (x0, x1, bo2)) : x0.length = n0 ∧ At w a0 x0 ∧ x1.length = n1 ∧ At w a1 x1 := by
  have q := RWire.at_iff (RWire.toAt h)
  exact ⟨q.1.1, q.1.2.2.1, q.2.1, q.2.2.2.1⟩
theorem RWire.own_iff {w : World} {F : Nat → Prop} {a0 : Option Addr} {n0 c0 : Nat} {x0 : List Int} {a1 : Option Addr} {n1 c1 : Nat} {x1 : List Int} {bo2 : Bool} (h : RWire.Own w F [.slice a0 n0 c0, .slice a1 n1 c1, .bool bo2] (x0, x1, bo2)) : ∃ F0 F1 : Nat → Prop, RInts.Own w F0 [.slice a0 n0 c0] x0 ∧ RInts.Own w F1 [.slice a1 n1 c1] x1 ∧ (∀ b, F0 b → F b) ∧ (∀ b, F1 b → F b) ∧ (∀ b, F0 b → ¬ F1 b) := by
  obtain ⟨a0', n0', c0', a1', n1', c1', F0, F1, hcs, hf⟩ := RWire.own_open h
  simp only [List.cons.injEq, Value.slice.injEq, and_true] at hcs
  obtain ⟨⟨rfl, rfl, rfl⟩, rfl, rfl, rfl⟩ := hcs
  exact ⟨F0, F1, hf⟩
theorem smallWire {n0 : Nat} {x0 : List Int} {n1 : Nat} {x1 : List Int} {bo2 : Bool} (hz0 : x0.length = n0) (hz1 : x1.length = n1) (h : costWire (x0, x1, bo2) ≤ 1048576) : n0 ≤ 1048576 ∧ n1 ≤ 1048576 := by
  unfold costWire at h
  simp only at h
  subst hz0 hz1
  exact ⟨by omega, by omega⟩
theorem msumWire_eq : ∀ (xs : List TWire) (k : Nat), k ≤ xs.length → msumWire xs k = csumWire xs k + 1 * k
  | xs, 0, _ => by rw [msumWire_zero, csumWire_zero]
  | xs, k + 1, h => by
    have hx : xs[k]? = some xs[k] := List.getElem?_eq_getElem (by omega)
    have e : mknWire xs[k] = costWire xs[k] + 1 := by unfold mknWire costWire; omega
    rw [msumWire_succ hx, csumWire_succ hx, msumWire_eq xs k (by omega), e]
    omega

end Go.Proofs.Ythfndafgllcelaa
