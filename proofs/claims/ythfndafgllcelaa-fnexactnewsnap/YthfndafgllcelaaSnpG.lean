/- Snap as a thing in memory. -/
import Derived.Test.YthfndafgllcelaaMkL
import Derived.Test.YthfndafgllcelaaIntsR
import Derived.Test.YthfndafgllcelaaBoR
import Derived.Test.YthfndafgllcelaaSetsW
import Derived.Test.YthfndafgllcelaaPrG
import Derived.Test.YthfndafgllcelaaWiG
namespace Go.Proofs.Ythfndafgllcelaa
open Go.RowKit

/-- impl.Snap, by its fields. -/
abbrev TSnap := List TProc × List TWire
abbrev RSnap : Rep TSnap := Rep.pair RProcs (RWires)
theorem RSnap_k : RSnap.k = 2 := rfl
theorem RSnap.at_open {w : World} {cs : List Value} {x : TSnap} (h : RSnap.At w cs x) : ∃ a0 n0 c0 a1 n1 c1, cs = [.slice a0 n0 c0, .slice a1 n1 c1] ∧ (x.1.length = n0 ∧ n0 ≤ 9223372036854775807 ∧ AtSl RProc w a0 x.1 ∧ (a0 = none → c0 = 0)) ∧ (x.2.length = n1 ∧ n1 ≤ 9223372036854775807 ∧ AtSl RWire w a1 x.2 ∧ (a1 = none → c1 = 0)) := by
  obtain ⟨e0, d0, rfl, ⟨a0, n0, c0, rfl, s01, s02, s03, s04⟩, ⟨a1, n1, c1, rfl, s11, s12, s13, s14⟩⟩ := h
  exact ⟨a0, n0, c0, a1, n1, c1, rfl, ⟨s01, s02, s03, s04⟩, ⟨s11, s12, s13, s14⟩⟩
theorem RSnap.at_iff {w : World} {a0 : Option Addr} {n0 c0 : Nat} {x0 : List TProc} {a1 : Option Addr} {n1 c1 : Nat} {x1 : List TWire} (h : RSnap.At w [.slice a0 n0 c0, .slice a1 n1 c1] (x0, x1)) : (x0.length = n0 ∧ n0 ≤ 9223372036854775807 ∧ AtSl RProc w a0 x0 ∧ (a0 = none → c0 = 0)) ∧ (x1.length = n1 ∧ n1 ≤ 9223372036854775807 ∧ AtSl RWire w a1 x1 ∧ (a1 = none → c1 = 0)) := by
  obtain ⟨a0', n0', c0', a1', n1', c1', hcs, hf⟩ := RSnap.at_open h
  simp only [List.cons.injEq, Value.slice.injEq, and_true] at hcs
  obtain ⟨⟨rfl, rfl, rfl⟩, rfl, rfl, rfl⟩ := hcs
  exact hf
theorem RSnap.own_mk {w : World} {F F0 F1 : Nat → Prop} {a0 : Option Addr} {n0 c0 : Nat} {x0 : List TProc} {a1 : Option Addr} {n1 c1 : Nat} {x1 : List TWire}
    (h0 : RProcs.Own w F0 [.slice a0 n0 c0] x0) (h1 : RWires.Own w F1 [.slice a1 n1 c1] x1) (f0 : ∀ b, F0 b → F b) (f1 : ∀ b, F1 b → F b) (d01 : ∀ b, F0 b → ¬ F1 b) : RSnap.Own w F [.slice a0 n0 c0, .slice a1 n1 c1] (x0, x1) :=
  ⟨[_], _, F0, F1, rfl, h0, h1, f0, (fun b h => f1 b h), (fun b h k => d01 b h k)⟩
theorem RSnap.own_open {w : World} {F : Nat → Prop} {cs : List Value} {x : TSnap} (h : RSnap.Own w F cs x) : ∃ a0 n0 c0 a1 n1 c1, ∃ F0 F1 : Nat → Prop, cs = [.slice a0 n0 c0, .slice a1 n1 c1] ∧ RProcs.Own w F0 [.slice a0 n0 c0] x.1 ∧ RWires.Own w F1 [.slice a1 n1 c1] x.2 ∧ (∀ b, F0 b → F b) ∧ (∀ b, F1 b → F b) ∧ (∀ b, F0 b → ¬ F1 b) := by
  obtain ⟨e0, d0, F0, H0, rfl, ⟨a0, n0, c0, zc0, G0, rfl, l0⟩, ⟨a1, n1, c1, zc1, G1, rfl, l1⟩, q0, r0, s0⟩ := h
  exact ⟨a0, n0, c0, a1, n1, c1, F0, H0, rfl, ⟨_, _, _, zc0, G0, rfl, l0⟩, ⟨_, _, _, zc1, G1, rfl, l1⟩, fun b h => (q0 b h), fun b h => (r0 b h), fun b h k => s0 b h k⟩
def costSnap (x : TSnap) : Nat := x.1.length + (x.2.length + csumWire x.2 x.2.length)
def mknSnap (x : TSnap) : Nat := msumProc x.1 x.1.length + msumWire x.2 x.2.length
def mkSnap (m : Int) (x : TSnap) : TSnap := (mkProcs (m) x.1, mkWires (m + (msumProc x.1 x.1.length : Nat)) x.2)
theorem RSnap.lens {w : World} {F : Nat → Prop} {a0 : Option Addr} {n0 c0 : Nat} {x0 : List TProc} {a1 : Option Addr} {n1 c1 : Nat} {x1 : List TWire} (h : RSnap.Own w F [.slice a0 n0 c0, .slice a1 n1 c1] (x0, x1)) : x0.length = n0 ∧ AtSl RProc w a0 x0 ∧ x1.length = n1 ∧ AtSl RWire w a1 x1 := by
  have q := RSnap.at_iff (RSnap.toAt h)
  exact ⟨q.1.1, q.1.2.2.1, q.2.1, q.2.2.2.1⟩
theorem RSnap.own_iff {w : World} {F : Nat → Prop} {a0 : Option Addr} {n0 c0 : Nat} {x0 : List TProc} {a1 : Option Addr} {n1 c1 : Nat} {x1 : List TWire} (h : RSnap.Own w F [.slice a0 n0 c0, .slice a1 n1 c1] (x0, x1)) : ∃ F0 F1 : Nat → Prop, RProcs.Own w F0 [.slice a0 n0 c0] x0 ∧ RWires.Own w F1 [.slice a1 n1 c1] x1 ∧ (∀ b, F0 b → F b) ∧ (∀ b, F1 b → F b) ∧ (∀ b, F0 b → ¬ F1 b) := by
  obtain ⟨a0', n0', c0', a1', n1', c1', F0, F1, hcs, hf⟩ := RSnap.own_open h
  simp only [List.cons.injEq, Value.slice.injEq, and_true] at hcs
  obtain ⟨⟨rfl, rfl, rfl⟩, rfl, rfl, rfl⟩ := hcs
  exact ⟨F0, F1, hf⟩
theorem smallSnap {n0 : Nat} {x0 : List TProc} {n1 : Nat} {x1 : List TWire} (hz0 : x0.length = n0) (hz1 : x1.length = n1) (h : costSnap (x0, x1) ≤ 1048576) : n0 ≤ 1048576 ∧ n1 ≤ 1048576 ∧ (∀ (i : Nat) (x : TWire), x1[i]? = some x → costWire x ≤ 1048576) := by
  unfold costSnap at h
  simp only at h
  subst hz0 hz1
  exact ⟨by omega, by omega, fun i x hx => by have q := csumWire_each rfl hx; omega⟩

end Go.Proofs.Ythfndafgllcelaa
