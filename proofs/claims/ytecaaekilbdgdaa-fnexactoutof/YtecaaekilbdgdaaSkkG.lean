/- Sink as a thing in memory. -/
import Derived.Test.YtecaaekilbdgdaaMkL
import Derived.Test.YtecaaekilbdgdaaIntsR
import Derived.Test.YtecaaekilbdgdaaBoR
import Derived.Test.YtecaaekilbdgdaaSetsW
import Derived.Test.YtecaaekilbdgdaaPpG
namespace Go.Proofs.Ytecaaekilbdgdaa
open Go.RowKit

/-- impl.Sink, by its fields. -/
abbrev TSink := List Int × Int × List Int × List TPrepared × List Int × Int × Int
abbrev RSink : Rep TSink := Rep.pair RInts (Rep.pair Rep.int (Rep.pair RInts (Rep.pair RPrepareds (Rep.pair RInts (Rep.pair Rep.int (Rep.int))))))
theorem RSink_k : RSink.k = 7 := rfl
theorem RSink.at_open {w : World} {cs : List Value} {x : TSink} (h : RSink.At w cs x) : ∃ a0 n0 c0 a2 n2 c2 a3 n3 c3 a4 n4 c4, cs = [.slice a0 n0 c0, .int .i64 x.2.1, .slice a2 n2 c2, .slice a3 n3 c3, .slice a4 n4 c4, .int .i64 x.2.2.2.2.2.1, .int .i64 x.2.2.2.2.2.2] ∧ (x.1.length = n0 ∧ n0 ≤ 9223372036854775807 ∧ At w a0 x.1 ∧ (a0 = none → c0 = 0)) ∧ (x.2.2.1.length = n2 ∧ n2 ≤ 9223372036854775807 ∧ At w a2 x.2.2.1 ∧ (a2 = none → c2 = 0)) ∧ (x.2.2.2.1.length = n3 ∧ n3 ≤ 9223372036854775807 ∧ AtSl RPrepared w a3 x.2.2.2.1 ∧ (a3 = none → c3 = 0)) ∧ (x.2.2.2.2.1.length = n4 ∧ n4 ≤ 9223372036854775807 ∧ At w a4 x.2.2.2.2.1 ∧ (a4 = none → c4 = 0)) := by
  obtain ⟨e0, d0, rfl, ⟨a0, n0, c0, rfl, s01, s02, s03, s04⟩, ⟨e1, d1, rfl, h1, ⟨e2, d2, rfl, ⟨a2, n2, c2, rfl, s21, s22, s23, s24⟩, ⟨e3, d3, rfl, ⟨a3, n3, c3, rfl, s31, s32, s33, s34⟩, ⟨e4, d4, rfl, ⟨a4, n4, c4, rfl, s41, s42, s43, s44⟩, ⟨e5, d5, rfl, h5, h6⟩⟩⟩⟩⟩⟩ := h
  obtain rfl : e1 = [.int .i64 x.2.1] := h1
  obtain rfl : e5 = [.int .i64 x.2.2.2.2.2.1] := h5
  obtain rfl : d5 = [.int .i64 x.2.2.2.2.2.2] := h6
  exact ⟨a0, n0, c0, a2, n2, c2, a3, n3, c3, a4, n4, c4, rfl, ⟨s01, s02, atSl_int.1 s03, s04⟩, ⟨s21, s22, atSl_int.1 s23, s24⟩, ⟨s31, s32, s33, s34⟩, ⟨s41, s42, atSl_int.1 s43, s44⟩⟩
theorem RSink.at_iff {w : World} {a0 : Option Addr} {n0 c0 : Nat} {x0 : List Int} {zi1 : Int} {a2 : Option Addr} {n2 c2 : Nat} {x2 : List Int} {a3 : Option Addr} {n3 c3 : Nat} {x3 : List TPrepared} {a4 : Option Addr} {n4 c4 : Nat} {x4 : List Int} {zi5 : Int} {zi6 : Int} (h : RSink.At w [.slice a0 n0 c0, .int .i64 zi1, .slice a2 n2 c2, .slice a3 n3 c3, .slice a4 n4 c4, .int .i64 zi5, .int .i64 zi6] (x0, zi1, x2, x3, x4, zi5, zi6)) : (x0.length = n0 ∧ n0 ≤ 9223372036854775807 ∧ At w a0 x0 ∧ (a0 = none → c0 = 0)) ∧ (x2.length = n2 ∧ n2 ≤ 9223372036854775807 ∧ At w a2 x2 ∧ (a2 = none → c2 = 0)) ∧ (x3.length = n3 ∧ n3 ≤ 9223372036854775807 ∧ AtSl RPrepared w a3 x3 ∧ (a3 = none → c3 = 0)) ∧ (x4.length = n4 ∧ n4 ≤ 9223372036854775807 ∧ At w a4 x4 ∧ (a4 = none → c4 = 0)) := by
  obtain ⟨a0', n0', c0', a2', n2', c2', a3', n3', c3', a4', n4', c4', hcs, hf⟩ := RSink.at_open h
  simp only [List.cons.injEq, Value.slice.injEq, and_true, true_and] at hcs
  obtain ⟨⟨rfl, rfl, rfl⟩, ⟨rfl, rfl, rfl⟩, ⟨rfl, rfl, rfl⟩, rfl, rfl, rfl⟩ := hcs
  exact hf
theorem RSink.own_mk {w : World} {F F0 F2 F3 F4 : Nat → Prop} {a0 : Option Addr} {n0 c0 : Nat} {x0 : List Int} {zi1 : Int} {a2 : Option Addr} {n2 c2 : Nat} {x2 : List Int} {a3 : Option Addr} {n3 c3 : Nat} {x3 : List TPrepared} {a4 : Option Addr} {n4 c4 : Nat} {x4 : List Int} {zi5 : Int} {zi6 : Int}
    (h0 : RInts.Own w F0 [.slice a0 n0 c0] x0) (h2 : RInts.Own w F2 [.slice a2 n2 c2] x2) (h3 : RPrepareds.Own w F3 [.slice a3 n3 c3] x3) (h4 : RInts.Own w F4 [.slice a4 n4 c4] x4) (f0 : ∀ b, F0 b → F b) (f2 : ∀ b, F2 b → F b) (f3 : ∀ b, F3 b → F b) (f4 : ∀ b, F4 b → F b) (d02 : ∀ b, F0 b → ¬ F2 b) (d03 : ∀ b, F0 b → ¬ F3 b) (d04 : ∀ b, F0 b → ¬ F4 b) (d23 : ∀ b, F2 b → ¬ F3 b) (d24 : ∀ b, F2 b → ¬ F4 b) (d34 : ∀ b, F3 b → ¬ F4 b) : RSink.Own w F [.slice a0 n0 c0, .int .i64 zi1, .slice a2 n2 c2, .slice a3 n3 c3, .slice a4 n4 c4, .int .i64 zi5, .int .i64 zi6] (x0, zi1, x2, x3, x4, zi5, zi6) :=
  ⟨[_], _, F0, (fun b => F2 b ∨ F3 b ∨ F4 b), rfl, h0, ⟨[_], _, (fun _ => False), (fun b => F2 b ∨ F3 b ∨ F4 b), rfl, rfl, ⟨[_], _, F2, (fun b => F3 b ∨ F4 b), rfl, h2, ⟨[_], _, F3, F4, rfl, h3, ⟨[_], _, F4, (fun _ => False), rfl, h4, ⟨[_], _, (fun _ => False), (fun _ => False), rfl, rfl, rfl, (fun _ h => False.elim h), (fun _ h => h), (fun _ h => False.elim h)⟩, (fun _ h => h), (fun _ h => False.elim h), (fun _ _ k => False.elim k)⟩, (fun _ h => .inl h), (fun _ h => .inr h), (fun b h k => d34 b h k)⟩, (fun _ h => .inl h), (fun _ h => .inr h), (fun b h k => k.elim (fun k => d23 b h k) (fun k => d24 b h k))⟩, (fun _ h => False.elim h), (fun _ h => h), (fun _ h => False.elim h)⟩, f0, (fun b h => h.elim (fun h => f2 b h) (fun h => h.elim (fun h => f3 b h) (fun h => f4 b h))), (fun b h k => k.elim (fun k => d02 b h k) (fun k => k.elim (fun k => d03 b h k) (fun k => d04 b h k)))⟩
theorem RSink.own_open {w : World} {F : Nat → Prop} {cs : List Value} {x : TSink} (h : RSink.Own w F cs x) : ∃ a0 n0 c0 a2 n2 c2 a3 n3 c3 a4 n4 c4, ∃ F0 F2 F3 F4 : Nat → Prop, cs = [.slice a0 n0 c0, .int .i64 x.2.1, .slice a2 n2 c2, .slice a3 n3 c3, .slice a4 n4 c4, .int .i64 x.2.2.2.2.2.1, .int .i64 x.2.2.2.2.2.2] ∧ RInts.Own w F0 [.slice a0 n0 c0] x.1 ∧ RInts.Own w F2 [.slice a2 n2 c2] x.2.2.1 ∧ RPrepareds.Own w F3 [.slice a3 n3 c3] x.2.2.2.1 ∧ RInts.Own w F4 [.slice a4 n4 c4] x.2.2.2.2.1 ∧ (∀ b, F0 b → F b) ∧ (∀ b, F2 b → F b) ∧ (∀ b, F3 b → F b) ∧ (∀ b, F4 b → F b) ∧ (∀ b, F0 b → ¬ F2 b) ∧ (∀ b, F0 b → ¬ F3 b) ∧ (∀ b, F0 b → ¬ F4 b) ∧ (∀ b, F2 b → ¬ F3 b) ∧ (∀ b, F2 b → ¬ F4 b) ∧ (∀ b, F3 b → ¬ F4 b) := by
  obtain ⟨e0, d0, F0, H0, rfl, ⟨a0, n0, c0, zc0, G0, rfl, l0⟩, ⟨e1, d1, F1, H1, rfl, h1, ⟨e2, d2, F2, H2, rfl, ⟨a2, n2, c2, zc2, G2, rfl, l2⟩, ⟨e3, d3, F3, H3, rfl, ⟨a3, n3, c3, zc3, G3, rfl, l3⟩, ⟨e4, d4, F4, H4, rfl, ⟨a4, n4, c4, zc4, G4, rfl, l4⟩, ⟨e5, d5, F5, H5, rfl, h5, h6, q5, r5, s5⟩, q4, r4, s4⟩, q3, r3, s3⟩, q2, r2, s2⟩, q1, r1, s1⟩, q0, r0, s0⟩ := h
  obtain rfl : e1 = [.int .i64 x.2.1] := h1
  obtain rfl : e5 = [.int .i64 x.2.2.2.2.2.1] := h5
  obtain rfl : d5 = [.int .i64 x.2.2.2.2.2.2] := h6
  exact ⟨a0, n0, c0, a2, n2, c2, a3, n3, c3, a4, n4, c4, F0, F2, F3, F4, rfl, ⟨_, _, _, zc0, G0, rfl, l0⟩, ⟨_, _, _, zc2, G2, rfl, l2⟩, ⟨_, _, _, zc3, G3, rfl, l3⟩, ⟨_, _, _, zc4, G4, rfl, l4⟩, fun b h => (q0 b h), fun b h => (r0 b (r1 b (q2 b h))), fun b h => (r0 b (r1 b (r2 b (q3 b h)))), fun b h => (r0 b (r1 b (r2 b (r3 b (q4 b h))))), fun b h k => s0 b h (r1 b (q2 b k)), fun b h k => s0 b h (r1 b (r2 b (q3 b k))), fun b h k => s0 b h (r1 b (r2 b (r3 b (q4 b k)))), fun b h k => s2 b h (q3 b k), fun b h k => s2 b h (r3 b (q4 b k)), fun b h k => s3 b h (q4 b k)⟩
def costSink (x : TSink) : Nat := x.1.length + x.2.2.1.length + (x.2.2.2.1.length + csumPrepared x.2.2.2.1 x.2.2.2.1.length) + x.2.2.2.2.1.length
def mknSink (x : TSink) : Nat := x.1.length + x.2.2.1.length + msumPrepared x.2.2.2.1 x.2.2.2.1.length + x.2.2.2.2.1.length
def mkSink (m : Int) (x : TSink) : TSink := (mkInts (m) x.1, x.2.1, mkInts (m + (x.1.length : Nat)) x.2.2.1, mkPrepareds (m + (x.1.length : Nat) + (x.2.2.1.length : Nat)) x.2.2.2.1, mkInts (m + (x.1.length : Nat) + (x.2.2.1.length : Nat) + (msumPrepared x.2.2.2.1 x.2.2.2.1.length : Nat)) x.2.2.2.2.1, x.2.2.2.2.2.1, x.2.2.2.2.2.2)
theorem RSink.lens {w : World} {F : Nat → Prop} {a0 : Option Addr} {n0 c0 : Nat} {x0 : List Int} {zi1 : Int} {a2 : Option Addr} {n2 c2 : Nat} {x2 : List Int} {a3 : Option Addr} {n3 c3 : Nat} {x3 : List TPrepared} {a4 : Option Addr} {n4 c4 : Nat} {x4 : List Int} {zi5 : Int} {zi6 : Int} (h : RSink.Own w F [.slice a0 n0 c0, .int .i64 zi1, .slice a2 n2 c2, .slice a3 n3 c3, .slice a4 n4 c4, .int .i64 zi5, .int .i64 zi6] (x0, zi1, x2, x3, x4, zi5, zi6)) : x0.length = n0 ∧ At w a0 x0 ∧ x2.length = n2 ∧ At w a2 x2 ∧ x3.length = n3 ∧ AtSl RPrepared w a3 x3 ∧ x4.length = n4 ∧ At w a4 x4 := by
  have q := RSink.at_iff (RSink.toAt h)
  exact ⟨q.1.1, q.1.2.2.1, q.2.1.1, q.2.1.2.2.1, q.2.2.1.1, q.2.2.1.2.2.1, q.2.2.2.1, q.2.2.2.2.2.1⟩
theorem RSink.own_iff {w : World} {F : Nat → Prop} {a0 : Option Addr} {n0 c0 : Nat} {x0 : List Int} {zi1 : Int} {a2 : Option Addr} {n2 c2 : Nat} {x2 : List Int} {a3 : Option Addr} {n3 c3 : Nat} {x3 : List TPrepared} {a4 : Option Addr} {n4 c4 : Nat} {x4 : List Int} {zi5 : Int} {zi6 : Int} (h : RSink.Own w F [.slice a0 n0 c0, .int .i64 zi1, .slice a2 n2 c2, .slice a3 n3 c3, .slice a4 n4 c4, .int .i64 zi5, .int .i64 zi6] (x0, zi1, x2, x3, x4, zi5, zi6)) : ∃ F0 F2 F3 F4 : Nat → Prop, RInts.Own w F0 [.slice a0 n0 c0] x0 ∧ RInts.Own w F2 [.slice a2 n2 c2] x2 ∧ RPrepareds.Own w F3 [.slice a3 n3 c3] x3 ∧ RInts.Own w F4 [.slice a4 n4 c4] x4 ∧ (∀ b, F0 b → F b) ∧ (∀ b, F2 b → F b) ∧ (∀ b, F3 b → F b) ∧ (∀ b, F4 b → F b) ∧ (∀ b, F0 b → ¬ F2 b) ∧ (∀ b, F0 b → ¬ F3 b) ∧ (∀ b, F0 b → ¬ F4 b) ∧ (∀ b, F2 b → ¬ F3 b) ∧ (∀ b, F2 b → ¬ F4 b) ∧ (∀ b, F3 b → ¬ F4 b) := by
  obtain ⟨a0', n0', c0', a2', n2', c2', a3', n3', c3', a4', n4', c4', F0, F2, F3, F4, hcs, hf⟩ := RSink.own_open h
  simp only [List.cons.injEq, Value.slice.injEq, and_true, true_and] at hcs
  obtain ⟨⟨rfl, rfl, rfl⟩, ⟨rfl, rfl, rfl⟩, ⟨rfl, rfl, rfl⟩, rfl, rfl, rfl⟩ := hcs
  exact ⟨F0, F2, F3, F4, hf⟩
theorem smallSink {n0 : Nat} {x0 : List Int} {zi1 : Int} {n2 : Nat} {x2 : List Int} {n3 : Nat} {x3 : List TPrepared} {n4 : Nat} {x4 : List Int} {zi5 : Int} {zi6 : Int} (hz0 : x0.length = n0) (hz2 : x2.length = n2) (hz3 : x3.length = n3) (hz4 : x4.length = n4) (h : costSink (x0, zi1, x2, x3, x4, zi5, zi6) ≤ 1048576) : n0 ≤ 1048576 ∧ n2 ≤ 1048576 ∧ n3 ≤ 1048576 ∧ (∀ (i : Nat) (x : TPrepared), x3[i]? = some x → costPrepared x ≤ 1048576) ∧ n4 ≤ 1048576 := by
  unfold costSink at h
  simp only at h
  subst hz0 hz2 hz3 hz4
  exact ⟨by omega, by omega, by omega, fun i x hx => by have q := csumPrepared_each rfl hx; omega, by omega⟩

end Go.Proofs.Ytecaaekilbdgdaa
