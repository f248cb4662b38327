/- Several texts of one proof, in build order: SkkG, GkP, GkI, ArrEq, EqI. -/
import Derived.Test.YtmbjmmnodcebbaaM3
import Derived.BigQuiet
import Derived.Deep.Cut
import Derived.Test.YtmbjmmnodcebbaaM0
import Derived.Laws.StructEq

/- Sink as a thing in memory. -/
namespace Go.Proofs.Ytmbjmmnodcebbaa
open Go.RowKit

/-- impl.Sink, by its fields. -/
abbrev TSink := List Int × Int × List Int × List TPrepared × List Int × Int × Int
abbrev RSink : Rep TSink := Rep.pair RInts (Rep.pair Rep.int (Rep.pair RInts (Rep.pair RPrepareds (Rep.pair RInts (Rep.pair Rep.int (Rep.int))))))
theorem RSink_k : RSink.k = 7 := rfl
theorem RSink.at_open {w : World} {cs : List Value} {x : TSink} (h : RSink.At w cs x) : ∃ a0 n0 c0 a2 n2 c2 a3 n3 c3 a4 n4 c4, cs = [.slice a0 n0 c0, .int .i64 x.2.1, .slice a2 n2 c2, .slice a3 n3 c3, .slice a4 n4 c4, .int .i64 x.2.2.2.2.2.1, .int .i64 x.2.2.2.2.2.2] ∧ (x.1.length = n0 ∧ n0 ≤ 9223372036854775807 ∧ At w a0 x.1 ∧ (a0 = none → c0 = 0)) ∧ (x.2.2.1.length = n2 ∧ n2 ≤ 9223372036854775807 ∧ At w a2 x.2.2.1 ∧ (a2 = none → c2 = 0)) ∧ (x.2.2.2.1.length = n3 ∧ n3 ≤ 9223372036854775807 ∧ AtSl RPrepared w a3 x.2.2.2.1 ∧ (a3 = none → c3 = 0)) ∧ (x.2.2.2.2.1.length = n4 ∧ n4 ≤ 9223372036854775807 ∧ At w a4 x.2.2.2.2.1 ∧ (a4 = none → c4 = 0)) := by
  obtain ⟨e0, d0, rfl, ⟨a0, n0, c0, rfl, s01, s02, s03, s04⟩, ⟨e1, d1, rfl, h1, ⟨e2, d2, rfl, ⟨a2, n2, c2, rfl, s21, s22, s23, s24⟩, ⟨e3, d3, rfl, ⟨a3, n3, c3, rfl, s31, s32, s33, s34⟩, ⟨e4, d4, rfl, ⟨a4, n4, c4, rfl, s41, s42, s43, s44⟩, ⟨e5, d5, rfl, h5, h6⟩⟩⟩⟩⟩⟩ := h
  obtain rfl : e1 = [.int .i64 x.2.1] := h1
  obtain rfl : e5 = [.int .i64 x.2.2.2.2.2.1] := h5
  obtain rfl : d5 = [.int .i64 x.2.2.2.2.2.2] := h6
  exact ⟨a0, n0, c0, a2, n2, c2, a3, n3, c3, a4, n4, c4, rfl, ⟨s01, s02, atSl_int.1 s03, s04⟩, ⟨s21, s22, atSl_int.1 s23, s24⟩, ⟨s31, s32, s33, s34⟩, ⟨s41, s42, atSl_int.1 s43, s44⟩⟩
theorem RSink.at_iff {w : World} {a0 : Option Addr} {n0 c0 : Nat} {x0 : List Int} {zi1 : Int} {a2 : Option Addr} {n2 c2 : Nat} {x2 : List Int} {a3 : Option Addr} {n3 c3 : Nat} {x3 : List TPrepared} {a4 : Option Addr} {n4 c4 : Nat} {x4 : List Int} {zi5 : Int} {zi6 : Int} (h : RSink.At w [.slice a0 n0 c0, .int .i64 zi1, .slice a2 n2 c2, .slice a3 n3 c3, .slice a4 n4 c4, .int .i64 zi5, .int .i64 zi6] (x0, zi1, x2, x3, x4, zi5, zi6)) : (x0.length = n0 ∧ n0 ≤ 9223372036854775807 ∧ At w a0 x0 ∧ (a0 = none → c0 = 0)) ∧ (x2.length = n2 ∧ n2 ≤ 9223372036854775807 ∧ At w a2 x2 ∧ (a2 = none → c2 = 0)) ∧ (x3.length = n3 ∧ n3 ≤ 9223372036854775807 ∧ AtSl RPrepared w a3 x3 ∧ (a3 = none → c3 = 0)) ∧ (x4.length = n4 ∧ n4 ≤ 9223372036854775807 ∧ At w a4 x4 ∧ (a4 = none → c4 = 0)) := by
  obtain ⟨a0', n0', c0', a2', n2', c2', a3', n3', c3', a4', n4', c4', hcs, hf⟩ := RSink.at_open h
  simp only [List.cons.injEq, Value.slice.injEq, and_true, true_and] at hcs
  obtain ⟨⟨rfl, rfl, rfl⟩, ⟨rfl, rfl, rfl⟩, ⟨rfl, rfl, rfl⟩, rfl, rfl, rfl⟩ := hcs
  exact hf
theorem RSink.own_mk {w : World} {F F0 F2 F3 F4 : Nat → Prop} {a0 : Option Addr} {n0 c0 : Nat} {x0 : List Int} {zi1 : Int} {a2 : Option Addr} {n2 c2 : Nat} {x2 : List Int} {a3 : Option Addr} {n3 c3 : Nat} {x3 : List TPrepared} {a4 : Option Addr} {n4 c4 : Nat} {x4 : List Int} {zi5 : Int} {zi6 : Int}
    (h0 : RInts.Own w F0 [.slice a0 n0 c0] x0) (h2 : RInts.Own w F2 [.slice a2 n2 c2] x2) (h3 : RPrepareds.Own w F3 [.slice a3 n3 c3] x3) (h4 : RInts.Own w F4 [.slice a4 n4 c4] x4) (f0 : ∀ b, F0 b → F b) (f2 : ∀ b, F2 b → F b) (f3 : ∀ b, F3 b → F b) (f4 : ∀ b, F4 b → F b) (d02 : ∀ b, F0 b → ¬ F2 b) (d03 : ∀ b, F0 b → ¬ F3 b) (d04 : ∀ b, F0 b → ¬ F4 b) (d23 : ∀ b, F2 b → ¬ F3 b) (d24 : ∀ b, F2 b → ¬ F4 b) (d34 : ∀ b, F3 b → ¬ F4 b) : RSink.Own w F [.slice a0 n0 c0, .int .i64 zi1, .slice a2 n2 c2, .slice a3 n3 c3, .slice a4 n4 c4, .int .i64 zi5, .int .i64 zi6] (x0, zi1, x2, x3, x4, zi5, zi6) :=
  ⟨[_], _, F0, (fun b => F2 b ∨ F3 b ∨ F4 b), rfl, h0, ⟨[_], _, (fun _ => False), (fun b => F2 b ∨ F3 b ∨ F4 b), rfl, rfl, ⟨[_], _, F2, (fun b => F3 b ∨ F4 b), rfl, h2, ⟨[_], _, F3, F4, rfl, h3, ⟨[_], _, F4, (fun _ => False), rfl, h4, ⟨[_], _, (fun _ => False), (fun _ => False), rfl, rfl, rfl, (fun _ h => False.elim h), (fun _ h => h), (fun _ h => False.elim h)⟩, (fun _ h => h), (fun _ h => False.elim h), (fun _ _ k => False.elim k)⟩, (fun _ h => .inl h), (fun _ h => .inr h), (fun b h k => d34 b h k)⟩, (fun _ h => .inl h), (fun _ h => .inr h), (fun b h k => k.elim (fun k => d23 b h k) (fun k => d24 b h k))⟩, (fun _ h => False.elim h), (fun _ h => h), (fun _ h => False.elim h)⟩, f0, (fun b h => h.elim (fun h => f2 b h) (fun h => h.elim (fun h => f3 b h) (fun h => f4 b h))), (fun b h k => k.elim (fun k => d02 b h k) (fun k => k.elim (fun k => d03 b h k) (fun k => d04 b h k)))⟩
theorem RSink.own_open {w : World} {F : Nat → Prop} {cs : List Value} {x : TSink} (h : RSink.Own w F cs x) : ∃ a0 n0 c0 a2 n2 c2 a3 n3 c3 a4 n4 c4, ∃ F0 F2 F3 F4 : Nat → Prop, cs = [.slice a0 n0 c0, .int .i64 x.2.1, .slice a2 n2 c2, .slice a3 n3 c3, .slice a4 n4 c4, .int .i64 x.2.2.2.2.2.1, .int .i64 x.2.2.2.2.2.2] ∧ RInts.Own w F0 [.slice a0 n0 c0] x.1 ∧ RInts.Own w F2 [.slice a2 n2 c2] x.2.2.1 ∧ RPrepareds.Own w F3 [.slice a3 n3 c3] x.2.2.2.1 ∧ RInts.Own w F4 [.slice a4 n4 c4] x.2.2.2.2.1 ∧ (∀ b, F0 b → F b) ∧ (∀ b, F2 b → F b) ∧ (∀ b, F3 b → F b) ∧ (∀ b, F4 b → F b) ∧ (∀ b, F0 b → ¬ F2 b) ∧ (∀ b, F0 b → ¬ F3 b) ∧ (∀ b, F0 b → ¬ F4 b) ∧ (∀ b, F2 b → ¬ F3 b) ∧ (∀ b, F2 b → ¬ F4 b) ∧ (∀ b, F3 b → ¬ F4 b) := by
  obtain ⟨e0, d0, F0, H0, rfl, ⟨a0, n0, c0, zc0, G0, rfl, l0⟩, ⟨e1, d1, F1, H1, rfl, h1, ⟨e2, d2, F2, H2, rfl, ⟨a2, n2, c2, zc2, G2, rfl, l2⟩, ⟨e3, d3, F3, H3, rfl, ⟨a3, n3, c3, zc3, G3, rfl, l3⟩, ⟨e4, d4, F4, H4, rfl, ⟨a4, n4, c4, zc4, G4, rfl, l4⟩, ⟨e5, d5, F5, H5, rfl, h5, h6, q5, r5, s5⟩, q4, r4, s4⟩, q3, r3, s3⟩, q2, r2, s2⟩, q1, r1, s1⟩, q0, r0, s0⟩ := h
  obtain rfl : e1 = [.int .i64 x.2.1] := h1
  obtain rfl : e5 = [.int .i64 x.2.2.2.2.2.1] := h5
  obtain rfl : d5 = [.int .i64 x.2.2.2.2.2.2] := h6
  exact ⟨a0, n0, c0, a2, n2, c2, a3, n3, c3, a4, n4, c4, F0, F2, F3, F4, rfl, ⟨_, _, _, zc0, G0, rfl, l0⟩, ⟨_, _, _, zc2, G2, rfl, l2⟩, ⟨_, _, _, zc3, G3, rfl, l3⟩, ⟨_, _, _, zc4, G4, rfl, l4⟩, fun b h => (q0 b h), fun b h => (r0 b (r1 b (q2 b h))), fun b h => (r0 b (r1 b (r2 b (q3 b h)))), fun b h => (r0 b (r1 b (r2 b (r3 b (q4 b h))))), fun b h k => s0 b h (r1 b (q2 b k)), fun b h k => s0 b h (r1 b (r2 b (q3 b k))), fun b h k => s0 b h (r1 b (r2 b (r3 b (q4 b k)))), fun b h k => s2 b h (q3 b k), fun b h k => s2 b h (r3 b (q4 b k)), fun b h k => s3 b h (q4 b k)⟩
def costSink (x : TSink) : Nat := x.1.length + x.2.2.1.length + (x.2.2.2.1.length + csumPrepared x.2.2.2.1 x.2.2.2.1.length) + x.2.2.2.2.1.length
def mknSink (x : TSink) : Nat := x.1.length + x.2.2.1.length + msumPrepared x.2.2.2.1 x.2.2.2.1.length + x.2.2.2.2.1.length
def mkSink (m : Int) (x : TSink) : TSink := (mkInts (m) x.1, x.2.1, mkInts (m + (x.1.length : Nat)) x.2.2.1, mkPrepareds (m + (x.1.length : Nat) + (x.2.2.1.length : Nat)) x.2.2.2.1, mkInts (m + (x.1.length : Nat) + (x.2.2.1.length : Nat) + (msumPrepared x.2.2.2.1 x.2.2.2.1.length : Nat)) x.2.2.2.2.1, x.2.2.2.2.2.1, x.2.2.2.2.2.2)
theorem RSink.lens {w : World} {F : Nat → Prop} {a0 : Option Addr} {n0 c0 : Nat} {x0 : List Int} {zi1 : Int} {a2 : Option Addr} {n2 c2 : Nat} {x2 : List Int} {a3 : Option Addr} {n3 c3 : Nat} {x3 : List TPrepared} {a4 : Option Addr} {n4 c4 : Nat} {x4 : List Int} {zi5 : Int} {zi6 : Int} (h : RSink.Own w F [.slice a0 n0 c0, .int .i64 zi1, .slice a2 n2 c2, .slice a3 n3 c3, .slice a4 n4 c4, .int .i64 zi5, .int .i64 zi6] (x0, zi1, x2, x3, x4, zi5, zi6)) : x0.length = n0 ∧ At w a0 x0 ∧ x2.length = n2 ∧ At w a2 x2 ∧ x3.length = n3 ∧ AtSl RPrepared w a3 x3 ∧ x4.length = n4 ∧ At w a4 x4 := by
  have q := RSink.at_iff (RSink.toAt h)
  exact ⟨q.1.1, q.1.2.2.1, q.2.1.1, q.2.1.2.2.1, q.2.2.1.1, q.2.2.1.2.2.1, q.2.2.2.1, q.2.2.2.2.2.1⟩
theorem RSink.own_iff {w : World} {F : Nat → Prop} {a0 : Option Addr} {n0 c0 : Nat} {x0 : List Int} {zi1 : Int} {a2 : Option Addr} {n2 c2 : Nat} {x2 : List Int} {a3 : Option Addr} {n3 c3 : Nat} {x3 : List TPrepared} {a4 : Option Addr} {n4 c4 : Nat} {x4 : List Int} {zi5 : Int} {zi6 : Int} (h : RSink.Own w F [.slice a0 n0 c0, .int .i64 zi1, .slice a2 n2 c2, .slice a3 n3 c3, .slice a4 n4 c4, .int .i64 zi5, .int .i64 zi6] (x0, zi1, x2, x3, x4, zi5, zi6)) : ∃ F0 F2 F3 F4 : Nat → Prop, RInts.Own w F0 [.slice a0 n0 c0] x0 ∧ RInts.Own w F2 [.slice a2 n2 c2] x2 ∧ RPrepareds.Own w F3 [.slice a3 n3 c3] x3 ∧ RInts.Own w F4 [.slice a4 n4 c4] x4 ∧ (∀ b, F0 b → F b) ∧ (∀ b, F2 b → F b) ∧ (∀ b, F3 b → F b) ∧ (∀ b, F4 b → F b) ∧ (∀ b, F0 b → ¬ F2 b) ∧ (∀ b, F0 b → ¬ F3 b) ∧ (∀ b, F0 b → ¬ F4 b) ∧ (∀ b, F2 b → ¬ F3 b) ∧ (∀ b, F2 b → ¬ F4 b) ∧ (∀ b, F3 b → ¬ F4 b) := by
  obtain ⟨a0', n0', c0', a2', n2', c2', a3', n3', c3', a4', n4', c4', F0, F2, F3, F4, hcs, hf⟩ := RSink.own_open h
  simp only [List.cons.injEq, Value.slice.injEq, and_true, true_and] at hcs
  obtain ⟨⟨rfl, rfl, rfl⟩, ⟨rfl, rfl, rfl⟩, ⟨rfl, rfl, rfl⟩, rfl, rfl, rfl⟩ := hcs
  exact ⟨F0, F2, F3, F4, hf⟩
theorem smallSink {n0 : Nat} {x0 : List Int} {zi1 : Int} {n2 : Nat} {x2 : List Int} {n3 : Nat} {x3 : List TPrepared} {n4 : Nat} {x4 : List Int} {zi5 : Int} {zi6 : Int} (hz0 : x0.length = n0) (hz2 : x2.length = n2) (hz3 : x3.length = n3) (hz4 : x4.length = n4) (h : costSink (x0, zi1, x2, x3, x4, zi5, zi6) ≤ 1048576) : n0 ≤ 1048576 ∧ n2 ≤ 1048576 ∧ n3 ≤ 1048576 ∧ (∀ (i : Nat) (x : TPrepared), x3[i]? = some x → costPrepared x ≤ 1048576) ∧ n4 ≤ 1048576 := by
  unfold costSink at h
  simp only at h
  subst hz0 hz2 hz3 hz4
  exact ⟨by omega, by omega, by omega, fun i x hx => by have q := csumPrepared_each rfl hx; omega, by omega⟩

end Go.Proofs.Ytmbjmmnodcebbaa

/- Plain: what makes a sink good. No Go function is spoken of here. -/
namespace Go.Proofs.Ytmbjmmnodcebbaa
open Go.RowKit

/-- What lies in a list from a place to another one. -/
def seg (src : List Int) (a b : Int) : List Int := (src.drop a.toNat).take (b - a).toNat
/-- One that is stored, behind the number no and behind the first u of the source. -/
def pgB (src : List Int) (t no u : Int) (p : TPrepared) : Bool := decide (p.1 = no + 1) && decide (u ≤ p.2.1) && decide (p.2.1 ≤ t) && decide (p.2.2 = seg src u p.2.1)
def pgsB (src : List Int) (t : Int) : Int → Int → List TPrepared → Bool
  | _, _, [] => true
  | no, u, p :: ps => pgB src t no u p && pgsB src t (no + 1) p.2.1 ps
/-- How much of the source was read for what is stored. -/
def upF : Int → List TPrepared → Int
  | u, [] => u
  | _, p :: ps => upF p.2.1 ps
def hdB (x : TSink) : Bool := decide (x.1.length ≤ 30) && (decide (0 ≤ x.2.1) && decide (x.2.1 ≤ x.1.length)) && (decide (0 ≤ x.2.2.2.2.2.2) && decide (x.2.2.2.2.2.2 ≤ x.2.1)) && (decide (0 ≤ x.2.2.2.2.2.1) && decide (x.2.2.2.2.2.1 ≤ 1000)) && decide (x.2.2.2.1.length ≤ 4) && decide (x.2.2.2.2.2.1 + x.2.2.2.1.length ≤ 1000)
def gkB (x : TSink) : Bool := hdB x && pgsB x.1 x.2.1 x.2.2.2.2.2.1 x.2.2.2.2.2.2 x.2.2.2.1 && decide (x.2.2.1 = seg x.1 (upF x.2.2.2.2.2.2 x.2.2.2.1) x.2.1) && decide (x.2.2.2.2.1 = seg x.1 0 x.2.2.2.2.2.2)

theorem upF_append (u : Int) (ps : List TPrepared) (p : TPrepared) : upF u (ps ++ [p]) = p.2.1 := by
  induction ps generalizing u with
  | nil => rfl
  | cons q ps ih => exact ih q.2.1
theorem upF_take {u : Int} {ps : List TPrepared} {k : Nat} {p : TPrepared} (h : ps[k]? = some p) : upF u (ps.take (k + 1)) = p.2.1 := by
  have hk := (List.getElem?_eq_some_iff.1 h).1
  rw [List.take_add_one, h]
  exact upF_append _ _ _
theorem upF_last {u : Int} {ps : List TPrepared} {n : Nat} {p : TPrepared} (hn : ps.length = n + 1) (h : ps[n]? = some p) : upF u ps = p.2.1 := by
  have q := upF_take (u := u) h
  rwa [List.take_of_length_le (by omega)] at q
theorem upF_nil {u : Int} {ps : List TPrepared} (h : ps.length = 0) : upF u ps = u := by
  obtain rfl := List.length_eq_zero_iff.1 h
  rfl
/-- One round of the look at what is stored. -/
theorem pgsB_step {src : List Int} {t no u : Int} {ps : List TPrepared} {k : Nat} {p : TPrepared} (h : ps[k]? = some p) :
    pgsB src t no u (ps.drop k) = (pgB src t no u p && pgsB src t (no + 1) p.2.1 (ps.drop (k + 1))) := by
  have hk := (List.getElem?_eq_some_iff.1 h).1
  have hg := (List.getElem?_eq_some_iff.1 h).2
  rw [List.drop_eq_getElem_cons hk, hg]
  rfl
theorem pgsB_done {src : List Int} {t no u : Int} {ps : List TPrepared} {k : Nat} (h : ps.length ≤ k) : pgsB src t no u (ps.drop k) = true := by
  rw [List.drop_eq_nil_of_le h]
  rfl
/-- What is stored says good: how much was read for it lies between what was given out and what is read. -/
theorem pgsB_up {src : List Int} {t : Int} : ∀ {no u : Int} {ps : List TPrepared}, pgsB src t no u ps = true → u ≤ t → u ≤ upF u ps ∧ upF u ps ≤ t
  | _, u, [], _, h => ⟨Int.le_refl _, h⟩
  | no, u, p :: ps, h, _ => by
    unfold pgsB pgB at h
    simp only [Bool.and_eq_true, decide_eq_true_eq] at h
    have q := pgsB_up h.2 h.1.1.2
    exact ⟨Int.le_trans h.1.1.1.2 q.1, q.2⟩
theorem seg_len {src : List Int} {a b : Int} (h0 : 0 ≤ a) (h1 : a ≤ b) (h2 : b ≤ src.length) : (seg src a b).length = (b - a).toNat := by
  unfold seg
  rw [List.length_take, List.length_drop]
  omega
theorem seg_self (src : List Int) (a : Int) : seg src a a = [] := by simp [seg]
theorem seg_all (src : List Int) : seg src 0 src.length = src := by simp [seg]
theorem seg_succ {src : List Int} {a b : Int} {x : Int} (h0 : 0 ≤ a) (h1 : a ≤ b) (h : src[b.toNat]? = some x) : seg src a (b + 1) = seg src a b ++ [x] := by
  unfold seg
  rw [show (b + 1 - a).toNat = (b - a).toNat + 1 by omega, List.take_add_one]
  congr 1
  rw [List.getElem?_drop, show a.toNat + (b - a).toNat = b.toNat by omega, h]
  rfl
theorem seg_join {src : List Int} {a b c : Int} (h0 : 0 ≤ a) (h1 : a ≤ b) (h2 : b ≤ c) : seg src a b ++ seg src b c = seg src a c := by
  unfold seg
  have e : src.drop b.toNat = (src.drop a.toNat).drop (b - a).toNat := by rw [List.drop_drop]; congr 1; omega
  rw [e, show (c - a).toNat = (b - a).toNat + (c - b).toNat by omega, List.take_add]

end Go.Proofs.Ytmbjmmnodcebbaa

/- Where a part of a list lies; impl.isUpTo, storedUpto. -/
namespace Go.Proofs.Ytmbjmmnodcebbaa
open Go.RowKit

/-- The address of a slice that begins u places further on (Go keeps the old one where nothing is left behind it). -/
def shA (a : Option Addr) (c u : Nat) : Option Addr := if c = u then a else a.map (·.add u)
theorem at_seg {w : World} {a : Option Addr} {src : List Int} {n c u v : Nat} (hz : src.length = n) (hnc : n ≤ c) (hu : u ≤ v) (hv : v ≤ n) (h : At w a src) : At w (shA a c u) (seg src (u : Int) (v : Int)) := by
  have hl : (seg src (u : Int) (v : Int)).length = v - u := by rw [seg_len (by omega) (by omega) (by omega)]; omega
  by_cases h0 : v - u = 0
  · exact .inl (List.length_eq_zero_iff.1 (by omega))
  · rcases h with rfl | ⟨b, off, rfl, hc⟩
    · exact .inl (by simp [seg])
    · refine .inr ⟨b, off + u, ?_, fun i hi => ?_⟩
      · unfold shA; rw [if_neg (by omega)]; simp [Addr.add]
      · rw [hl] at hi
        rw [Nat.add_assoc, hc (u + i) (by omega)]
        have e : (seg src (u : Int) (v : Int)).getD i 0 = src.getD (u + i) 0 := by
          unfold seg
          simp only [List.getD, Int.toNat_natCast]
          rw [List.getElem?_take_of_lt (by omega), List.getElem?_drop]
        rw [e]
theorem at_pre {w : World} {a : Option Addr} {src : List Int} {n v : Nat} (hz : src.length = n) (hv : v ≤ n) (h : At w a src) : At w a (seg src 0 (v : Int)) := by
  have hl : (seg src 0 (v : Int)).length = v := by rw [seg_len (by omega) (by omega) (by omega)]; omega
  rcases h with rfl | ⟨b, off, rfl, hc⟩
  · exact .inl (by simp [seg])
  · refine .inr ⟨b, off, rfl, fun i hi => ?_⟩
    rw [hl] at hi
    rw [hc i (by omega)]
    have e : (seg src 0 (v : Int)).getD i 0 = src.getD i 0 := by
      unfold seg
      simp only [List.getD, Int.sub_zero, Int.toNat_natCast, Int.toNat_zero, List.drop_zero]
      rw [List.getElem?_take_of_lt (by omega)]
    rw [e]

theorem isUpTo_any (x m : Int) (w : World) :
    Calls Try.prog 48 #[.int .i64 x, .int .i64 m] w fun e w' => e = .returned (.bool (decide (0 ≤ x) && decide (x ≤ m))) ∧ w' = w := by
  by_cases h : 0 ≤ x
  · rw [decide_eq_true h]
    go_enter Try.func48, Try.ntmps48
    go_wp2
    go_ret
    exact ⟨ret_bool (by simp), rfl⟩
  · rw [decide_eq_false h]
    have h' : x < 0 := by omega
    clear h
    go_enter Try.func48, Try.ntmps48
    go_wp2
    go_ret
    exact ⟨ret_bool (by simp <;> omega), rfl⟩

theorem storedUpto_any (a0 : Option Addr) (n0 c0 : Nat) (t : Int) (a2 : Option Addr) (n2 c2 : Nat) (a3 : Option Addr) (n3 c3 : Nat) (a4 : Option Addr) (n4 c4 : Nat) (la up : Int) (ps : List TPrepared) (w : World) (h3 : ps.length = n3) (hb3 : n3 ≤ 9223372036854775807) (ha : AtSl RPrepared w a3 ps) :
    Calls Try.prog 51 #[.agg #[.slice a0 n0 c0, .int .i64 t, .slice a2 n2 c2, .slice a3 n3 c3, .slice a4 n4 c4, .int .i64 la, .int .i64 up]] w fun e w' => e = .returned (.int .i64 (upF up ps)) ∧ Below w.heap.size w w' := by
  obtain ⟨W, hW⟩ : ∃ W, W = w.alloc (.cells #[.slice a0 n0 c0, .int .i64 t, .slice a2 n2 c2, .slice a3 n3 c3, .slice a4 n4 c4, .int .i64 la, .int .i64 up] 29) := ⟨_, rfl⟩
  have B0 : Below w.heap.size w W := by rw [hW]; exact (Below.refl _ _).alloc (Nat.le_refl _) _
  have p3 : W.cell? ⟨w.heap.size, 3, none⟩ = some (.slice a3 n3 c3) := by rw [hW]; simp
  have p6 : W.cell? ⟨w.heap.size, 6, none⟩ = some (.int .i64 up) := by rw [hW]; simp
  by_cases h0 : n3 = 0
  · have hup : upF up ps = up := upF_nil (by omega)
    have hn0 : ((n3 : Int) == 0) = true := beq_iff_eq.2 (by omega)
    rw [hup]
    clear hup h0 ha h3
    go_enter Try.func51, Try.ntmps51
    go_upto_region 1 with fail
    rw [← hW]
    clear hW
    go_wp2
    go_ret
    exact ⟨rfl, B0⟩
  · obtain ⟨b, off, rfl, _, hc⟩ := RPrepared.row (AtSl.below ha B0) (by omega)
    obtain ⟨⟨x0, x1, x2⟩, hx⟩ : ∃ x, ps[n3 - 1]? = some x := ⟨_, List.getElem?_eq_getElem (by omega)⟩
    obtain ⟨d, l, e, _, g1, _, _⟩ := hc _ _ hx
    have hup : upF up ps = x1 := upF_last (n := n3 - 1) (by omega) hx
    have hn0 : ((n3 : Int) == 0) = false := beq_eq_false_iff_ne.2 (by omega)
    have hw1 : IntKind.i64.wrap ((n3 : Int) - 1) = ((n3 - 1 : Nat) : Int) := by rw [IntWalk.i64_in _ (by omega)]; omega
    have hlt : n3 - 1 < n3 := by omega
    have hlti : ((n3 - 1 : Nat) : Int) < (n3 : Int) := by omega
    simp only at g1
    rw [hup]
    clear hup h0 ha h3 hc hx
    go_enter Try.func51, Try.ntmps51
    go_upto_region 1 with fail
    rw [← hW]
    clear hW
    go_wp2
    go_ret
    exact ⟨rfl, B0⟩

end Go.Proofs.Ytmbjmmnodcebbaa

/- Two arrays of ints, compared by '==': a law of the model's own equality. -/
namespace Go.Proofs.Ytmbjmmnodcebbaa
open Go.RowKit

def eqParts (d : Nat) (e : TypeId) (n : Nat) (xs ys : Array Value) : List Nat → Sem Bool
  | [] => pure true
  | i :: is => do
    let a ← part e xs (i * n)
    let b ← part e ys (i * n)
    let r ← Op.equalIn d e a b
    if (!r) = true then pure false else eqParts d e n xs ys is

theorem run_equalIn_array {P : Program} (w : World) (d : Nat) (t e : TypeId) (i : TypeInfo) (len : Nat) (ht : P.underlying t = some (.array len e)) (hi : P.info? e = some i) (xs ys : Array Value) :
    (Op.equalIn (d + 1) t (.agg xs) (.agg ys)).run P w = (eqParts d e i.size xs ys (List.range' 0 len)).run P w := by
  simp only [Op.equalIn, Sem.run_bind, run_underlying ht, Result.andThen_ok, sizeOf, typeInfo, run_program, hi, Sem.run_pure]
  rw [Std.Legacy.Range.forIn_eq_forIn_range']
  simp only [Std.Legacy.Range.size, Nat.sub_zero, Nat.add_sub_cancel, Nat.div_one]
  generalize List.range' 0 len = is
  clear ht
  induction is generalizing w with
  | nil => simp [eqParts]
  | cons f fs ih =>
    simp only [List.forIn_cons, eqParts, Sem.run_bind, Sem.run_ite]
    generalize (part e xs (f * i.size)).run P w = r1
    cases r1 with
    | ok a w1 =>
      simp only [Result.andThen_ok]
      generalize (part e ys (f * i.size)).run P w1 = r2
      cases r2 with
      | ok b w2 =>
        simp only [Result.andThen_ok]
        generalize (Op.equalIn d e a b).run P w2 = r3
        cases r3 with
        | ok r w3 =>
          cases r
          · simp only [Result.andThen_ok, Bool.not_false, if_true, Sem.run_pure]
          · simp only [Result.andThen_ok, Bool.not_true, Bool.false_eq_true, if_false, Sem.run_pure]
            exact ih w3
        | halt x w3 => simp [Result.andThen]
      | halt x w2 => simp [Result.andThen]
    | halt x w1 => simp [Result.andThen]

theorem run_eqParts_ints {P : Program} (w : World) (d : Nat) (e : TypeId) (he : P.underlying e = some (.int .i64)) (xs ys : List Int) (is : List Nat) (hx : ∀ i ∈ is, i < xs.length) (hy : ∀ i ∈ is, i < ys.length) :
    (eqParts (d + 1) e 1 (xs.map (Value.int .i64)).toArray (ys.map (Value.int .i64)).toArray is).run P w = .ok (is.all fun i => xs.getD i 0 == ys.getD i 0) w := by
  induction is with
  | nil => simp [eqParts]
  | cons i is ih =>
    have h1 := hx i (by simp)
    have h2 := hy i (by simp)
    have ih' := ih (fun j hj => hx j (by simp [hj])) (fun j hj => hy j (by simp [hj]))
    have p1 : (part e (xs.map (Value.int .i64)).toArray (i * 1)).run P w = .ok (.int .i64 (xs.getD i 0)) w := by simp [part, isAgg, run_underlying he, List.getD, h1]
    have p2 : (part e (ys.map (Value.int .i64)).toArray (i * 1)).run P w = .ok (.int .i64 (ys.getD i 0)) w := by simp [part, isAgg, run_underlying he, List.getD, h2]
    simp only [eqParts, Sem.run_bind, p1, p2, Result.andThen_ok, run_equalIn_int w d e .i64 .i64 _ _ he, Sem.run_ite, ih']
    cases h : (xs.getD i 0 == ys.getD i 0) <;> simp [Sem.run_pure]
    all_goals (simp at h; simp [h])

theorem all_range_eq (xs ys : List Int) (h : xs.length = ys.length) : ((List.range' 0 xs.length).all fun i => xs.getD i 0 == ys.getD i 0) = decide (xs = ys) := by
  rw [Bool.eq_iff_iff, List.all_eq_true, decide_eq_true_eq]
  constructor
  · intro hall
    apply List.ext_getElem h
    intro i h1 h2
    have := hall i (by simp; omega)
    simpa [List.getD, h1, h2] using this
  · rintro rfl i _
    simp

theorem run_equal_ints {P : Program} {len : Nat} (w : World) (d : Nat) (t e : TypeId) (i : TypeInfo) (ht : P.underlying t = some (.array len e)) (he : P.underlying e = some (.int .i64)) (hi : P.info? e = some i) (hs : i.size = 1)
    (xs ys : List Int) (hx : xs.length = len) (hy : ys.length = len) :
    (Op.equalIn (d + 1 + 1) t (.agg (xs.map (Value.int .i64)).toArray) (.agg (ys.map (Value.int .i64)).toArray)).run P w = .ok (decide (xs = ys)) w := by
  rw [run_equalIn_array w (d + 1) t e i len ht hi, hs, run_eqParts_ints w d e he xs ys _ (by simp; omega) (by simp; omega), ← hx, all_range_eq xs ys (by omega)]

end Go.Proofs.Ytmbjmmnodcebbaa

/- slices.Equal at ints. -/
namespace Go.Proofs.Ytmbjmmnodcebbaa
open Go.RowKit

set_option maxHeartbeats 1000000 in
theorem equalInts_any (a a' : Option Addr) (n n' c c' : Nat) (zs zs' : List Int) (w : World) (hz : zs.length = n) (hz' : zs'.length = n') (hn : n ≤ 1048576) (hn' : n' ≤ 1048576) (ha : At w a zs) (ha' : At w a' zs') :
    Calls Try.prog 50 #[.slice a n c, .slice a' n' c'] w fun e w' => e = .returned (.bool (decide (zs = zs'))) ∧ Below w.heap.size w w' := by
  by_cases hnn : n = n'
  · subst hnn
    by_cases h0 : n = 0
    · subst h0
      obtain rfl := List.eq_nil_of_length_eq_zero hz
      obtain rfl := List.eq_nil_of_length_eq_zero hz'
      go_enter Try.func50, Try.ntmps50
      go_wp2
      refine wp_loop_rounds 1 ?_
      rw [rounds_succ]
      go_wp2
      go_ret
      exact ⟨by simp, Below.refl _ _⟩
    · obtain ⟨b, off, rfl, hb, hc⟩ := ha.some (by omega)
      obtain ⟨b', off', rfl, hb', hc'⟩ := ha'.some (by omega)
      clear ha ha'
      go_enter Try.func50, Try.ntmps50
      go_wp2
      go_loopw [13] (fun i wr => ∃ (k : Nat), k ≤ n ∧ i = .int .i64 k ∧ zs.take k = zs'.take k ∧ Below w.heap.size w wr) (fun i _ => n - (intOf i).toNat)
      case atStart => exact ⟨0, Nat.zero_le _, rfl, rfl, Below.refl _ _⟩
      case round =>
        obtain ⟨k, hk, rfl, ht, hbw⟩ := hrel
        by_cases hlt : k < n
        · have hcx : wr.cell? ⟨b, off + k, none⟩ = some (.int .i64 (zs.getD k 0)) := (hbw.cell hb).trans (hc k (by omega))
          have hcy : wr.cell? ⟨b', off' + k, none⟩ = some (.int .i64 (zs'.getD k 0)) := (hbw.cell hb').trans (hc' k (by omega))
          have HT : Hid (zs.getD k 0 = zs'.getD k 0 → zs.take (k + 1) = zs'.take (k + 1)) := fun e => by
            rw [take_succ_getD zs k (by omega), take_succ_getD zs' k (by omega), ht, e]
          have HN : Hid (zs.getD k 0 ≠ zs'.getD k 0 → zs ≠ zs') := ne_of_getD
          obtain ⟨x, hx⟩ : ∃ x, x = zs.getD k 0 := ⟨_, rfl⟩
          obtain ⟨y, hy⟩ : ∃ y, y = zs'.getD k 0 := ⟨_, rfl⟩
          rw [← hx] at hcx HT HN
          rw [← hy] at hcy HT HN
          clear hx hy ht hc hc'
          go_wp2
          go_quiet (fail)
          go_wp2
          · have hne : x ≠ y := by simpa using ‹(x != y) = true›
            go_ret
            exact ⟨by simp [HN.out hne], below_drewN hbw _⟩
          · have he : x = y := by simpa using ‹(x != y) = false›
            go_roundw
            case rel => exact ⟨k + 1, by omega, by go_num, HT.out he, below_drewN hbw _⟩
            case measure => simp [intOf]; omega
        · go_wp2
          go_ret
          exact ⟨by simp [take_all_eq (by omega) (by omega) ht], hbw⟩
  · go_enter Try.func50, Try.ntmps50
    go_wp2
    go_ret
    exact ⟨by have : zs ≠ zs' := fun e => hnn (by rw [← hz, ← hz', e]); simp [this], Below.refl _ _⟩

end Go.Proofs.Ytmbjmmnodcebbaa
