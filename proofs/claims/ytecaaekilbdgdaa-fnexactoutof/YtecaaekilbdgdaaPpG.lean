/- Prepared as a thing in memory. -/
import Derived.Test.YtecaaekilbdgdaaMkL
import Derived.Test.YtecaaekilbdgdaaIntsR
import Derived.Test.YtecaaekilbdgdaaBoR
import Derived.Test.YtecaaekilbdgdaaSetsW
namespace Go.Proofs.Ytecaaekilbdgdaa
open Go.RowKit

/-- impl.Prepared, by its fields. -/
abbrev TPrepared := Int × Int × List Int
abbrev RPrepared : Rep TPrepared := Rep.pair Rep.int (Rep.pair Rep.int (RInts))
abbrev RPrepareds : Rep (List TPrepared) := Rep.slice 50 RPrepared
theorem RPrepared_k : RPrepared.k = 3 := rfl
theorem RPrepared.at_open {w : World} {cs : List Value} {x : TPrepared} (h : RPrepared.At w cs x) : ∃ a2 n2 c2, cs = [.int .i64 x.1, .int .i64 x.2.1, .slice a2 n2 c2] ∧ (x.2.2.length = n2 ∧ n2 ≤ 9223372036854775807 ∧ At w a2 x.2.2 ∧ (a2 = none → c2 = 0)) := by
  obtain ⟨e0, d0, rfl, h0, ⟨e1, d1, rfl, h1, ⟨a2, n2, c2, rfl, s21, s22, s23, s24⟩⟩⟩ := h
  obtain rfl : e0 = [.int .i64 x.1] := h0
  obtain rfl : e1 = [.int .i64 x.2.1] := h1
  exact ⟨a2, n2, c2, rfl, ⟨s21, s22, atSl_int.1 s23, s24⟩⟩
theorem RPrepared.at_iff {w : World} {zi0 : Int} {zi1 : Int} {a2 : Option Addr} {n2 c2 : Nat} {x2 : List Int} (h : RPrepared.At w [.int .i64 zi0, .int .i64 zi1, .slice a2 n2 c2] (zi0, zi1, x2)) : (x2.length = n2 ∧ n2 ≤ 9223372036854775807 ∧ At w a2 x2 ∧ (a2 = none → c2 = 0)) := by
  obtain ⟨a2', n2', c2', hcs, hf⟩ := RPrepared.at_open h
  simp only [List.cons.injEq, Value.slice.injEq, and_true, true_and] at hcs
  obtain ⟨rfl, rfl, rfl⟩ := hcs
  exact hf
theorem RPrepared.own_mk {w : World} {F F2 : Nat → Prop} {zi0 : Int} {zi1 : Int} {a2 : Option Addr} {n2 c2 : Nat} {x2 : List Int}
    (h2 : RInts.Own w F2 [.slice a2 n2 c2] x2) (f2 : ∀ b, F2 b → F b)  : RPrepared.Own w F [.int .i64 zi0, .int .i64 zi1, .slice a2 n2 c2] (zi0, zi1, x2) :=
  ⟨[_], _, (fun _ => False), F2, rfl, rfl, ⟨[_], _, (fun _ => False), F2, rfl, rfl, h2, (fun _ h => False.elim h), (fun _ h => h), (fun _ h => False.elim h)⟩, (fun _ h => False.elim h), (fun b h => f2 b h), (fun _ h => False.elim h)⟩
theorem RPrepared.own_open {w : World} {F : Nat → Prop} {cs : List Value} {x : TPrepared} (h : RPrepared.Own w F cs x) : ∃ a2 n2 c2, ∃ F2 : Nat → Prop, cs = [.int .i64 x.1, .int .i64 x.2.1, .slice a2 n2 c2] ∧ RInts.Own w F2 [.slice a2 n2 c2] x.2.2 ∧ (∀ b, F2 b → F b) := by
  obtain ⟨e0, d0, F0, H0, rfl, h0, ⟨e1, d1, F1, H1, rfl, h1, ⟨a2, n2, c2, zc2, G2, rfl, l2⟩, q1, r1, s1⟩, q0, r0, s0⟩ := h
  obtain rfl : e0 = [.int .i64 x.1] := h0
  obtain rfl : e1 = [.int .i64 x.2.1] := h1
  exact ⟨a2, n2, c2, H1, rfl, ⟨_, _, _, zc2, G2, rfl, l2⟩, fun b h => (r0 b (r1 b h))⟩
def costPrepared (x : TPrepared) : Nat := x.2.2.length
def mknPrepared (x : TPrepared) : Nat := 1 + 1 + x.2.2.length
def mkPrepared (m : Int) (x : TPrepared) : TPrepared := (m, m + 1, mkInts (m + 1 + 1) x.2.2)
abbrev msumPrepared (xs : List TPrepared) (k : Nat) : Nat := szL mknPrepared xs k
def mkPrepareds (m : Int) (xs : List TPrepared) : List TPrepared := mkL mkPrepared mknPrepared m xs
theorem msumPrepared_zero (xs : List TPrepared) : msumPrepared xs 0 = 0 := by simp [msumPrepared, szL]
theorem msumPrepared_succ {xs : List TPrepared} {k : Nat} {x : TPrepared} (h : xs[k]? = some x) : msumPrepared xs (k + 1) = msumPrepared xs k + mknPrepared x := szL_succ mknPrepared h
theorem msumPrepared_mono (xs : List TPrepared) (j k : Nat) (h : j ≤ k) : msumPrepared xs j ≤ msumPrepared xs k := szL_mono mknPrepared xs j k h
theorem mkPrepareds_len (m : Int) (xs : List TPrepared) : (mkPrepareds m xs).length = xs.length := mkL_length _ _ _ _
abbrev csumPrepared (xs : List TPrepared) (k : Nat) : Nat := szL costPrepared xs k
theorem csumPrepared_zero (xs : List TPrepared) : csumPrepared xs 0 = 0 := by simp [csumPrepared, szL]
theorem csumPrepared_succ {xs : List TPrepared} {k : Nat} {x : TPrepared} (h : xs[k]? = some x) : csumPrepared xs (k + 1) = csumPrepared xs k + costPrepared x := szL_succ costPrepared h
theorem csumPrepared_mono (xs : List TPrepared) (j k : Nat) (h : j ≤ k) : csumPrepared xs j ≤ csumPrepared xs k := szL_mono costPrepared xs j k h
theorem csumPrepared_each {xs : List TPrepared} {n i : Nat} {x : TPrepared} (hn : xs.length = n) (h : xs[i]? = some x) : costPrepared x ≤ csumPrepared xs n := by
  have hi := (List.getElem?_eq_some_iff.1 h).1
  have h1 := szL_succ costPrepared h
  have h2 := szL_mono costPrepared xs (i + 1) n (by omega)
  show costPrepared x ≤ szL costPrepared xs n
  omega
theorem RPrepared.row {w : World} {a : Option Addr} {xs : List TPrepared} (h : AtSl RPrepared w a xs) (hp : 0 < xs.length) : ∃ b off, a = some ⟨b, off, none⟩ ∧ b < w.heap.size ∧ ∀ (i : Nat) (x : TPrepared), xs[i]? = some x → ∃ a2 n2 c2, w.cell? ⟨b, off + i * 3, none⟩ = some (.int .i64 x.1) ∧ w.cell? ⟨b, off + i * 3 + 1, none⟩ = some (.int .i64 x.2.1) ∧ w.cell? ⟨b, off + i * 3 + 2, none⟩ = some (.slice a2 n2 c2) ∧ (x.2.2.length = n2 ∧ n2 ≤ 9223372036854775807 ∧ At w a2 x.2.2 ∧ (a2 = none → c2 = 0)) := by
  obtain ⟨b, off, rfl, hc⟩ := AtSl.each h hp
  have row : ∀ (i : Nat) (x : TPrepared), xs[i]? = some x → ∃ a2 n2 c2, w.cell? ⟨b, off + i * 3, none⟩ = some (.int .i64 x.1) ∧ w.cell? ⟨b, off + i * 3 + 1, none⟩ = some (.int .i64 x.2.1) ∧ w.cell? ⟨b, off + i * 3 + 2, none⟩ = some (.slice a2 n2 c2) ∧ (x.2.2.length = n2 ∧ n2 ≤ 9223372036854775807 ∧ At w a2 x.2.2 ∧ (a2 = none → c2 = 0)) := by
    intro i x hx
    obtain ⟨cs, h1, h2⟩ := hc i x hx
    obtain ⟨a2, n2, c2, rfl, u⟩ := RPrepared.at_open h2
    exact ⟨a2, n2, c2, h1 0 _ rfl, h1 1 _ rfl, h1 2 _ rfl, u⟩
  refine ⟨b, off, rfl, ?_, row⟩
  obtain ⟨a2, n2, c2, h1, _⟩ := row 0 xs[0] (List.getElem?_eq_getElem hp)
  exact World.block_lt_of_cell? _ _ h1
theorem RPrepareds.atSl {w : World} {F : Nat → Prop} {a : Option Addr} {n c : Nat} {xs : List TPrepared} (h : RPrepareds.Own w F [.slice a n c] xs) : xs.length = n ∧ AtSl RPrepared w a xs := by
  obtain ⟨a', n', c', e, h1, _, h3, _⟩ := RPrepareds.toAt h
  simp only [List.cons.injEq, Value.slice.injEq, and_true] at e
  obtain ⟨rfl, rfl, rfl⟩ := e
  exact ⟨h1, h3⟩
theorem RPrepared.lens {w : World} {F : Nat → Prop} {zi0 : Int} {zi1 : Int} {a2 : Option Addr} {n2 c2 : Nat} {x2 : List Int} (h : RPrepared.Own w F [.int .i64 zi0, .int .i64 zi1, .slice a2 n2 c2] (zi0, zi1, x2)) : x2.length = n2 ∧ At w a2 x2 := by
  have q := RPrepared.at_iff (RPrepared.toAt h)
  exact ⟨q.1, q.2.2.1⟩
theorem RPrepared.own_iff {w : World} {F : Nat → Prop} {zi0 : Int} {zi1 : Int} {a2 : Option Addr} {n2 c2 : Nat} {x2 : List Int} (h : RPrepared.Own w F [.int .i64 zi0, .int .i64 zi1, .slice a2 n2 c2] (zi0, zi1, x2)) : ∃ F2 : Nat → Prop, RInts.Own w F2 [.slice a2 n2 c2] x2 ∧ (∀ b, F2 b → F b) := by
  obtain ⟨a2', n2', c2', F2, hcs, hf⟩ := RPrepared.own_open h
  simp only [List.cons.injEq, Value.slice.injEq, and_true, true_and] at hcs
  obtain ⟨rfl, rfl, rfl⟩ := hcs
  exact ⟨F2, hf⟩
theorem smallPrepared {zi0 : Int} {zi1 : Int} {n2 : Nat} {x2 : List Int} (hz2 : x2.length = n2) (h : costPrepared (zi0, zi1, x2) ≤ 1048576) : n2 ≤ 1048576 := by
  unfold costPrepared at h
  simp only at h
  subst hz2
  exact by omega
theorem msumPrepared_eq : ∀ (xs : List TPrepared) (k : Nat), k ≤ xs.length → msumPrepared xs k = csumPrepared xs k + 2 * k
  | xs, 0, _ => by rw [msumPrepared_zero, csumPrepared_zero]
  | xs, k + 1, h => by
    have hx : xs[k]? = some xs[k] := List.getElem?_eq_getElem (by omega)
    have e : mknPrepared xs[k] = costPrepared xs[k] + 2 := by unfold mknPrepared costPrepared; omega
    rw [msumPrepared_succ hx, csumPrepared_succ hx, msumPrepared_eq xs k (by omega), e]
    omega

end Go.Proofs.Ytecaaekilbdgdaa
