/- Several texts of one proof, in build order: WiG, SnpG, NapP, NapR, RepD, Blk, SvA. -/
import Derived.Test.YtnfdncofobkjhaaM3

/- Wire as a thing in memory. -/
namespace Go.Proofs.Ytnfdncofobkjhaa
open Go.RowKit

/-- impl.Wire, by its fields. -/
abbrev TWire := List Int × List Int × Bool
abbrev RWire : Rep TWire := Rep.pair RInts (Rep.pair RInts (Rep.bool))
abbrev RWires : Rep (List TWire) := Rep.slice 76 RWire
theorem RWire_k : RWire.k = 3 := rfl
theorem RWire.at_open {w : World} {cs : List Value} {x : TWire} (h : RWire.At w cs x) : ∃ a0 n0 c0 a1 n1 c1, cs = [.slice a0 n0 c0, .slice a1 n1 c1, .bool x.2.2] ∧ (x.1.length = n0 ∧ n0 ≤ 9223372036854775807 ∧ At w a0 x.1 ∧ (a0 = none → c0 = 0)) ∧ (x.2.1.length = n1 ∧ n1 ≤ 9223372036854775807 ∧ At w a1 x.2.1 ∧ (a1 = none → c1 = 0)) := by
  obtain ⟨e0, d0, rfl, ⟨a0, n0, c0, rfl, s01, s02, s03, s04⟩, ⟨e1, d1, rfl, ⟨a1, n1, c1, rfl, s11, s12, s13, s14⟩, h2⟩⟩ := h
  obtain rfl : d1 = [.bool x.2.2] := h2
  exact ⟨a0, n0, c0, a1, n1, c1, rfl, ⟨s01, s02, atSl_int.1 s03, s04⟩, ⟨s11, s12, atSl_int.1 s13, s14⟩⟩
theorem RWire.at_iff {w : World} {a0 : Option Addr} {n0 c0 : Nat} {x0 : List Int} {a1 : Option Addr} {n1 c1 : Nat} {x1 : List Int} {bo2 : Bool} (h : RWire.At w [.slice a0 n0 c0, .slice a1 n1 c1, .bool bo2] (x0, x1, bo2)) : (x0.length = n0 ∧ n0 ≤ 9223372036854775807 ∧ At w a0 x0 ∧ (a0 = none → c0 = 0)) ∧ (x1.length = n1 ∧ n1 ≤ 9223372036854775807 ∧ At w a1 x1 ∧ (a1 = none → c1 = 0)) := by
  obtain ⟨a0', n0', c0', a1', n1', c1', hcs, hf⟩ := RWire.at_open h
  simp only [List.cons.injEq, Value.slice.injEq, and_true] at hcs
  obtain ⟨⟨rfl, rfl, rfl⟩, rfl, rfl, rfl⟩ := hcs
  exact hf
theorem RWire.own_mk {w : World} {F F0 F1 : Nat → Prop} {a0 : Option Addr} {n0 c0 : Nat} {x0 : List Int} {a1 : Option Addr} {n1 c1 : Nat} {x1 : List Int} {bo2 : Bool}
    (h0 : RInts.Own w F0 [.slice a0 n0 c0] x0) (h1 : RInts.Own w F1 [.slice a1 n1 c1] x1) (f0 : ∀ b, F0 b → F b) (f1 : ∀ b, F1 b → F b) (d01 : ∀ b, F0 b → ¬ F1 b) : RWire.Own w F [.slice a0 n0 c0, .slice a1 n1 c1, .bool bo2] (x0, x1, bo2) :=
  ⟨[_], _, F0, F1, rfl, h0, ⟨[_], _, F1, (fun _ => False), rfl, h1, rfl, (fun _ h => h), (fun _ h => False.elim h), (fun _ _ k => False.elim k)⟩, f0, (fun b h => f1 b h), (fun b h k => d01 b h k)⟩
theorem RWire.own_open {w : World} {F : Nat → Prop} {cs : List Value} {x : TWire} (h : RWire.Own w F cs x) : ∃ a0 n0 c0 a1 n1 c1, ∃ F0 F1 : Nat → Prop, cs = [.slice a0 n0 c0, .slice a1 n1 c1, .bool x.2.2] ∧ RInts.Own w F0 [.slice a0 n0 c0] x.1 ∧ RInts.Own w F1 [.slice a1 n1 c1] x.2.1 ∧ (∀ b, F0 b → F b) ∧ (∀ b, F1 b → F b) ∧ (∀ b, F0 b → ¬ F1 b) := by
  obtain ⟨e0, d0, F0, H0, rfl, ⟨a0, n0, c0, zc0, G0, rfl, l0⟩, ⟨e1, d1, F1, H1, rfl, ⟨a1, n1, c1, zc1, G1, rfl, l1⟩, h2, q1, r1, s1⟩, q0, r0, s0⟩ := h
  obtain rfl : d1 = [.bool x.2.2] := h2
  exact ⟨a0, n0, c0, a1, n1, c1, F0, F1, rfl, ⟨_, _, _, zc0, G0, rfl, l0⟩, ⟨_, _, _, zc1, G1, rfl, l1⟩, fun b h => (q0 b h), fun b h => (r0 b (q1 b h)), fun b h k => s0 b h (q1 b k)⟩
def costWire (x : TWire) : Nat := x.1.length + x.2.1.length
def mknWire (x : TWire) : Nat := x.1.length + x.2.1.length + 1
def mkWire (m : Int) (x : TWire) : TWire := (mkInts (m) x.1, mkInts (m + (x.1.length : Nat)) x.2.1, mkB (m + (x.1.length : Nat) + (x.2.1.length : Nat)))
abbrev msumWire (xs : List TWire) (k : Nat) : Nat := szL mknWire xs k
def mkWires (m : Int) (xs : List TWire) : List TWire := mkL mkWire mknWire m xs
theorem msumWire_zero (xs : List TWire) : msumWire xs 0 = 0 := by simp [msumWire, szL]
theorem msumWire_succ {xs : List TWire} {k : Nat} {x : TWire} (h : xs[k]? = some x) : msumWire xs (k + 1) = msumWire xs k + mknWire x := szL_succ mknWire h
theorem msumWire_mono (xs : List TWire) (j k : Nat) (h : j ≤ k) : msumWire xs j ≤ msumWire xs k := szL_mono mknWire xs j k h
theorem mkWires_len (m : Int) (xs : List TWire) : (mkWires m xs).length = xs.length := mkL_length _ _ _ _
abbrev csumWire (xs : List TWire) (k : Nat) : Nat := szL costWire xs k
theorem csumWire_zero (xs : List TWire) : csumWire xs 0 = 0 := by simp [csumWire, szL]
theorem csumWire_succ {xs : List TWire} {k : Nat} {x : TWire} (h : xs[k]? = some x) : csumWire xs (k + 1) = csumWire xs k + costWire x := szL_succ costWire h
theorem csumWire_mono (xs : List TWire) (j k : Nat) (h : j ≤ k) : csumWire xs j ≤ csumWire xs k := szL_mono costWire xs j k h
theorem csumWire_each {xs : List TWire} {n i : Nat} {x : TWire} (hn : xs.length = n) (h : xs[i]? = some x) : costWire x ≤ csumWire xs n := by
  have hi := (List.getElem?_eq_some_iff.1 h).1
  have h1 := szL_succ costWire h
  have h2 := szL_mono costWire xs (i + 1) n (by omega)
  show costWire x ≤ szL costWire xs n
  omega
theorem RWire.row {w : World} {a : Option Addr} {xs : List TWire} (h : AtSl RWire w a xs) (hp : 0 < xs.length) : ∃ b off, a = some ⟨b, off, none⟩ ∧ b < w.heap.size ∧ ∀ (i : Nat) (x : TWire), xs[i]? = some x → ∃ a0 n0 c0 a1 n1 c1, w.cell? ⟨b, off + i * 3, none⟩ = some (.slice a0 n0 c0) ∧ w.cell? ⟨b, off + i * 3 + 1, none⟩ = some (.slice a1 n1 c1) ∧ w.cell? ⟨b, off + i * 3 + 2, none⟩ = some (.bool x.2.2) ∧ (x.1.length = n0 ∧ n0 ≤ 9223372036854775807 ∧ At w a0 x.1 ∧ (a0 = none → c0 = 0)) ∧ (x.2.1.length = n1 ∧ n1 ≤ 9223372036854775807 ∧ At w a1 x.2.1 ∧ (a1 = none → c1 = 0)) := by
  obtain ⟨b, off, rfl, hc⟩ := AtSl.each h hp
  have row : ∀ (i : Nat) (x : TWire), xs[i]? = some x → ∃ a0 n0 c0 a1 n1 c1, w.cell? ⟨b, off + i * 3, none⟩ = some (.slice a0 n0 c0) ∧ w.cell? ⟨b, off + i * 3 + 1, none⟩ = some (.slice a1 n1 c1) ∧ w.cell? ⟨b, off + i * 3 + 2, none⟩ = some (.bool x.2.2) ∧ (x.1.length = n0 ∧ n0 ≤ 9223372036854775807 ∧ At w a0 x.1 ∧ (a0 = none → c0 = 0)) ∧ (x.2.1.length = n1 ∧ n1 ≤ 9223372036854775807 ∧ At w a1 x.2.1 ∧ (a1 = none → c1 = 0)) := by
    intro i x hx
    obtain ⟨cs, h1, h2⟩ := hc i x hx
    obtain ⟨a0, n0, c0, a1, n1, c1, rfl, u⟩ := RWire.at_open h2
    exact ⟨a0, n0, c0, a1, n1, c1, h1 0 _ rfl, h1 1 _ rfl, h1 2 _ rfl, u⟩
  refine ⟨b, off, rfl, ?_, row⟩
  obtain ⟨a0, n0, c0, a1, n1, c1, h1, _⟩ := row 0 xs[0] (List.getElem?_eq_getElem hp)
  exact World.block_lt_of_cell? _ _ h1
theorem RWires.atSl {w : World} {F : Nat → Prop} {a : Option Addr} {n c : Nat} {xs : List TWire} (h : RWires.Own w F [.slice a n c] xs) : xs.length = n ∧ AtSl RWire w a xs := by
  obtain ⟨a', n', c', e, h1, _, h3, _⟩ := RWires.toAt h
  simp only [List.cons.injEq, Value.slice.injEq, and_true] at e
  obtain ⟨rfl, rfl, rfl⟩ := e
  exact ⟨h1, h3⟩
theorem RWire.lens {w : World} {F : Nat → Prop} {a0 : Option Addr} {n0 c0 : Nat} {x0 : List Int} {a1 : Option Addr} {n1 c1 : Nat} {x1 : List Int} {bo2 : Bool} (h : RWire.Own w F [.slice a0 n0 c0, .slice a1 n1 c1, .bool bo2] (x0, x1, bo2)) : x0.length = n0 ∧ At w a0 x0 ∧ x1.length = n1 ∧ At w a1 x1 := by
  have q := RWire.at_iff (RWire.toAt h)
  exact ⟨q.1.1, q.1.2.2.1, q.2.1, q.2.2.2.1⟩
theorem RWire.own_iff {w : World} {F : Nat → Prop} {a0 : Option Addr} {n0 c0 : Nat} {x0 : List Int} {a1 : Option Addr} {n1 c1 : Nat} {x1 : List Int} {bo2 : Bool} (h : RWire.Own w F [.slice a0 n0 c0, .slice a1 n1 c1, .bool bo2] (x0, x1, bo2)) : ∃ F0 F1 : Nat → Prop, RInts.Own w F0 [.slice a0 n0 c0] x0 ∧ RInts.Own w F1 [.slice a1 n1 c1] x1 ∧ (∀ b, F0 b → F b) ∧ (∀ b, F1 b → F b) ∧ (∀ b, F0 b → ¬ F1 b) := by
  obtain ⟨a0', n0', c0', a1', n1', c1', F0, F1, hcs, hf⟩ := RWire.own_open h
  simp only [List.cons.injEq, Value.slice.injEq, and_true] at hcs
  obtain ⟨⟨rfl, rfl, rfl⟩, rfl, rfl, rfl⟩ := hcs
  exact ⟨F0, F1, hf⟩
theorem smallWire {n0 : Nat} {x0 : List Int} {n1 : Nat} {x1 : List Int} {bo2 : Bool} (hz0 : x0.length = n0) (hz1 : x1.length = n1) (h : costWire (x0, x1, bo2) ≤ 1048576) : n0 ≤ 1048576 ∧ n1 ≤ 1048576 := by
  unfold costWire at h
  simp only at h
  subst hz0 hz1
  exact ⟨by omega, by omega⟩
theorem msumWire_eq : ∀ (xs : List TWire) (k : Nat), k ≤ xs.length → msumWire xs k = csumWire xs k + 1 * k
  | xs, 0, _ => by rw [msumWire_zero, csumWire_zero]
  | xs, k + 1, h => by
    have hx : xs[k]? = some xs[k] := List.getElem?_eq_getElem (by omega)
    have e : mknWire xs[k] = costWire xs[k] + 1 := by unfold mknWire costWire; omega
    rw [msumWire_succ hx, csumWire_succ hx, msumWire_eq xs k (by omega), e]
    omega

end Go.Proofs.Ytnfdncofobkjhaa

/- Snap as a thing in memory. -/
namespace Go.Proofs.Ytnfdncofobkjhaa
open Go.RowKit

/-- impl.Snap, by its fields. -/
abbrev TSnap := List TProc × List TWire
abbrev RSnap : Rep TSnap := Rep.pair RProcs (RWires)
theorem RSnap_k : RSnap.k = 2 := rfl
theorem RSnap.at_open {w : World} {cs : List Value} {x : TSnap} (h : RSnap.At w cs x) : ∃ a0 n0 c0 a1 n1 c1, cs = [.slice a0 n0 c0, .slice a1 n1 c1] ∧ (x.1.length = n0 ∧ n0 ≤ 9223372036854775807 ∧ AtSl RProc w a0 x.1 ∧ (a0 = none → c0 = 0)) ∧ (x.2.length = n1 ∧ n1 ≤ 9223372036854775807 ∧ AtSl RWire w a1 x.2 ∧ (a1 = none → c1 = 0)) := by
  obtain ⟨e0, d0, rfl, ⟨a0, n0, c0, rfl, s01, s02, s03, s04⟩, ⟨a1, n1, c1, rfl, s11, s12, s13, s14⟩⟩ := h
  exact ⟨a0, n0, c0, a1, n1, c1, rfl, ⟨s01, s02, s03, s04⟩, ⟨s11, s12, s13, s14⟩⟩
theorem RSnap.at_iff {w : World} {a0 : Option Addr} {n0 c0 : Nat} {x0 : List TProc} {a1 : Option Addr} {n1 c1 : Nat} {x1 : List TWire} (h : RSnap.At w [.slice a0 n0 c0, .slice a1 n1 c1] (x0, x1)) : (x0.length = n0 ∧ n0 ≤ 9223372036854775807 ∧ AtSl RProc w a0 x0 ∧ (a0 = none → c0 = 0)) ∧ (x1.length = n1 ∧ n1 ≤ 9223372036854775807 ∧ AtSl RWire w a1 x1 ∧ (a1 = none → c1 = 0)) := by
  obtain ⟨a0', n0', c0', a1', n1', c1', hcs, hf⟩ := RSnap.at_open h
  simp only [List.cons.injEq, Value.slice.injEq, and_true] at hcs
  obtain ⟨⟨rfl, rfl, rfl⟩, rfl, rfl, rfl⟩ := hcs
  exact hf
theorem RSnap.own_mk {w : World} {F F0 F1 : Nat → Prop} {a0 : Option Addr} {n0 c0 : Nat} {x0 : List TProc} {a1 : Option Addr} {n1 c1 : Nat} {x1 : List TWire}
    (h0 : RProcs.Own w F0 [.slice a0 n0 c0] x0) (h1 : RWires.Own w F1 [.slice a1 n1 c1] x1) (f0 : ∀ b, F0 b → F b) (f1 : ∀ b, F1 b → F b) (d01 : ∀ b, F0 b → ¬ F1 b) : RSnap.Own w F [.slice a0 n0 c0, .slice a1 n1 c1] (x0, x1) :=
  ⟨[_], _, F0, F1, rfl, h0, h1, f0, (fun b h => f1 b h), (fun b h k => d01 b h k)⟩
theorem RSnap.own_open {w : World} {F : Nat → Prop} {cs : List Value} {x : TSnap} (h : RSnap.Own w F cs x) : ∃ a0 n0 c0 a1 n1 c1, ∃ F0 F1 : Nat → Prop, cs = [.slice a0 n0 c0, .slice a1 n1 c1] ∧ RProcs.Own w F0 [.slice a0 n0 c0] x.1 ∧ RWires.Own w F1 [.slice a1 n1 c1] x.2 ∧ (∀ b, F0 b → F b) ∧ (∀ b, F1 b → F b) ∧ (∀ b, F0 b → ¬ F1 b) := by
  obtain ⟨e0, d0, F0, H0, rfl, ⟨a0, n0, c0, zc0, G0, rfl, l0⟩, ⟨a1, n1, c1, zc1, G1, rfl, l1⟩, q0, r0, s0⟩ := h
  exact ⟨a0, n0, c0, a1, n1, c1, F0, H0, rfl, ⟨_, _, _, zc0, G0, rfl, l0⟩, ⟨_, _, _, zc1, G1, rfl, l1⟩, fun b h => (q0 b h), fun b h => (r0 b h), fun b h k => s0 b h k⟩
def costSnap (x : TSnap) : Nat := x.1.length + (x.2.length + csumWire x.2 x.2.length)
def mknSnap (x : TSnap) : Nat := msumProc x.1 x.1.length + msumWire x.2 x.2.length
def mkSnap (m : Int) (x : TSnap) : TSnap := (mkProcs (m) x.1, mkWires (m + (msumProc x.1 x.1.length : Nat)) x.2)
theorem RSnap.lens {w : World} {F : Nat → Prop} {a0 : Option Addr} {n0 c0 : Nat} {x0 : List TProc} {a1 : Option Addr} {n1 c1 : Nat} {x1 : List TWire} (h : RSnap.Own w F [.slice a0 n0 c0, .slice a1 n1 c1] (x0, x1)) : x0.length = n0 ∧ AtSl RProc w a0 x0 ∧ x1.length = n1 ∧ AtSl RWire w a1 x1 := by
  have q := RSnap.at_iff (RSnap.toAt h)
  exact ⟨q.1.1, q.1.2.2.1, q.2.1, q.2.2.2.1⟩
theorem RSnap.own_iff {w : World} {F : Nat → Prop} {a0 : Option Addr} {n0 c0 : Nat} {x0 : List TProc} {a1 : Option Addr} {n1 c1 : Nat} {x1 : List TWire} (h : RSnap.Own w F [.slice a0 n0 c0, .slice a1 n1 c1] (x0, x1)) : ∃ F0 F1 : Nat → Prop, RProcs.Own w F0 [.slice a0 n0 c0] x0 ∧ RWires.Own w F1 [.slice a1 n1 c1] x1 ∧ (∀ b, F0 b → F b) ∧ (∀ b, F1 b → F b) ∧ (∀ b, F0 b → ¬ F1 b) := by
  obtain ⟨a0', n0', c0', a1', n1', c1', F0, F1, hcs, hf⟩ := RSnap.own_open h
  simp only [List.cons.injEq, Value.slice.injEq, and_true] at hcs
  obtain ⟨⟨rfl, rfl, rfl⟩, rfl, rfl, rfl⟩ := hcs
  exact ⟨F0, F1, hf⟩
theorem smallSnap {n0 : Nat} {x0 : List TProc} {n1 : Nat} {x1 : List TWire} (hz0 : x0.length = n0) (hz1 : x1.length = n1) (h : costSnap (x0, x1) ≤ 1048576) : n0 ≤ 1048576 ∧ n1 ≤ 1048576 ∧ (∀ (i : Nat) (x : TWire), x1[i]? = some x → costWire x ≤ 1048576) := by
  unfold costSnap at h
  simp only at h
  subst hz0 hz1
  exact ⟨by omega, by omega, fun i x hx => by have q := csumWire_each rfl hx; omega⟩

end Go.Proofs.Ytnfdncofobkjhaa

/- Plain: what makes a snap good, and what is summed up in it. No Go function is spoken of here. -/
namespace Go.Proofs.Ytnfdncofobkjhaa
open Go.RowKit

def amB (x : Int) : Bool := decide (0 ≤ x) && decide (x ≤ 2000000000)
def stB (x : Int) : Bool := decide (1 ≤ x) && decide (x ≤ 1000000)
def wdB (x : Int) : Bool := decide (0 ≤ x) && decide (x ≤ 1000000)
theorem amB_iff {x : Int} : amB x = true ↔ 0 ≤ x ∧ x ≤ 2000000000 := by simp [amB]
theorem stB_iff {x : Int} : stB x = true ↔ 1 ≤ x ∧ x ≤ 1000000 := by simp [stB]
theorem wdB_iff {x : Int} : wdB x = true ↔ 0 ≤ x ∧ x ≤ 1000000 := by simp [wdB]
def prB (p : TProc) : Bool := amB p.1 && amB p.2.1 && (p.2.2 || decide (p.2.1 = 0))
def rcB (w : TWire) : Bool := w.2.2 || decide (0 < w.2.1.length)
def hwB (w : TWire) : Bool := decide (0 < w.1.length)
def usB (w : TWire) : Bool := hwB w || rcB w
def wiB (w : TWire) : Bool := decide (w.1.length ≤ 12) && w.1.all wdB && decide (w.2.1.length ≤ 200) && w.2.1.all stB
def dnB (ps : List TProc) (k : Nat) : Bool := (ps.getD k (0, 0, false)).2.2
/-- What is asked of the wire number k of n processes. -/
def atB (n : Nat) (ps : List TProc) (k : Nat) (w : TWire) : Bool := wiB w && !(decide (k / n = k % n) && usB w) && !(!dnB ps (k % n) && rcB w)
def wsB (n : Nat) (ps : List TProc) : Nat → List TWire → Bool
  | _, [] => true
  | k, w :: ws => atB n ps k w && wsB n ps (k + 1) ws
def pAmt (ps : List TProc) : Int := (ps.map (fun p => p.1)).sum
def pSav (ps : List TProc) : Int := (ps.map (fun p => p.2.1)).sum
def wAmt (ws : List TWire) : Int := (ws.map (fun w => w.1.sum)).sum
def wRec (ws : List TWire) : Int := (ws.map (fun w => w.2.1.sum)).sum
def amtS (x : TSnap) : Int := pAmt x.1 + wAmt x.2
def recS (x : TSnap) : Int := pSav x.1 + wRec x.2
def gsB (x : TSnap) : Bool := decide (2 ≤ x.1.length) && decide (x.1.length ≤ 4) && decide (x.2.length = x.1.length * x.1.length) && x.1.all prB && wsB x.1.length x.1 0 x.2 && decide (amtS x + recS x ≤ 2000000000)

theorem prB_le {p : TProc} (h : prB p = true) : 0 ≤ p.1 ∧ p.1 ≤ 2000000000 ∧ 0 ≤ p.2.1 ∧ p.2.1 ≤ 2000000000 := by
  unfold prB at h
  simp only [Bool.and_eq_true] at h
  have h1 := amB_iff.1 h.1.1
  have h2 := amB_iff.1 h.1.2
  omega
theorem sum_le {l : List Int} {M : Int} (h : ∀ x ∈ l, 0 ≤ x ∧ x ≤ M) : 0 ≤ l.sum ∧ l.sum ≤ M * l.length := by
  induction l with
  | nil => simp
  | cons x l ih =>
    have h1 := h x (by simp)
    have h2 := ih (fun y hy => h y (by simp [hy]))
    rw [List.sum_cons, List.length_cons]
    push_cast
    rw [Int.mul_add, Int.mul_one]
    omega
theorem sum_all {l : List Int} {P : Int → Bool} (hP : ∀ x, P x = true → 0 ≤ x ∧ x ≤ 1000000) (h : l.all P = true) : 0 ≤ l.sum ∧ l.sum ≤ 1000000 * l.length :=
  sum_le (fun x hx => hP x (List.all_eq_true.1 h x hx))
theorem wdB_le {x : Int} (h : wdB x = true) : 0 ≤ x ∧ x ≤ 1000000 := wdB_iff.1 h
theorem stB_le {x : Int} (h : stB x = true) : 0 ≤ x ∧ x ≤ 1000000 := by have := stB_iff.1 h; omega
theorem wiB_le {w : TWire} (h : wiB w = true) : w.1.length ≤ 12 ∧ w.2.1.length ≤ 200 ∧ 0 ≤ w.1.sum ∧ w.1.sum ≤ 12000000 ∧ 0 ≤ w.2.1.sum ∧ w.2.1.sum ≤ 200000000 ∧ (∀ x ∈ w.1, 0 ≤ x ∧ x ≤ 1000000) ∧ (∀ x ∈ w.2.1, 0 ≤ x ∧ x ≤ 1000000) := by
  unfold wiB at h
  simp only [Bool.and_eq_true, decide_eq_true_eq] at h
  have h1 := sum_all (fun _ => wdB_le) h.1.1.2
  have h2 := sum_all (fun _ => stB_le) h.2
  have h3 := h.1.1.1
  have h4 := h.1.2
  refine ⟨h3, h4, h1.1, by omega, h2.1, by omega, fun x hx => wdB_le (List.all_eq_true.1 h.1.1.2 x hx), fun x hx => stB_le (List.all_eq_true.1 h.2 x hx)⟩
/-- Each process so far. -/
def PsOk (ps : List TProc) : Prop := ∀ p ∈ ps, 0 ≤ p.1 ∧ p.1 ≤ 2000000000 ∧ 0 ≤ p.2.1 ∧ p.2.1 ≤ 2000000000
def WsOk (ws : List TWire) : Prop := ∀ w ∈ ws, w.1.length ≤ 12 ∧ w.2.1.length ≤ 200 ∧ 0 ≤ w.1.sum ∧ w.1.sum ≤ 12000000 ∧ 0 ≤ w.2.1.sum ∧ w.2.1.sum ≤ 200000000 ∧ (∀ x ∈ w.1, 0 ≤ x ∧ x ≤ 1000000) ∧ (∀ x ∈ w.2.1, 0 ≤ x ∧ x ≤ 1000000)
theorem psOk_of {ps : List TProc} (h : ps.all prB = true) : PsOk ps := fun p hp => prB_le (List.all_eq_true.1 h p hp)
theorem wsOk_of {n : Nat} {ps : List TProc} : ∀ {k : Nat} {ws : List TWire}, wsB n ps k ws = true → WsOk ws
  | _, [], _ => fun w hw => by cases hw
  | k, w :: ws, h => by
    unfold wsB at h
    rw [Bool.and_eq_true] at h
    intro v hv
    rcases List.mem_cons.1 hv with rfl | hv
    · have h1 := h.1
      unfold atB at h1
      simp only [Bool.and_eq_true] at h1
      exact wiB_le h1.1.1
    · exact wsOk_of h.2 v hv

/-- Sums of the first so many. -/
def sumTo {α : Type} (f : α → Int) (xs : List α) (k : Nat) : Int := ((xs.take k).map f).sum
theorem sumTo_zero {α : Type} (f : α → Int) (xs : List α) : sumTo f xs 0 = 0 := by simp [sumTo]
theorem sumTo_succ {α : Type} (f : α → Int) {xs : List α} {k : Nat} {x : α} (h : xs[k]? = some x) : sumTo f xs (k + 1) = sumTo f xs k + f x := by
  have hk := (List.getElem?_eq_some_iff.1 h).1
  unfold sumTo
  rw [List.take_succ_eq_append_getElem hk, List.map_append, List.sum_append, (List.getElem?_eq_some_iff.1 h).2]
  simp
theorem sumTo_all {α : Type} (f : α → Int) (xs : List α) {n : Nat} (h : xs.length = n) : sumTo f xs n = (xs.map f).sum := by
  unfold sumTo
  rw [List.take_of_length_le (by omega)]
theorem sumTo_le {α : Type} (f : α → Int) {xs : List α} {M : Int} (hM : 0 ≤ M) (h : ∀ x ∈ xs, 0 ≤ f x ∧ f x ≤ M) (k : Nat) : 0 ≤ sumTo f xs k ∧ sumTo f xs k ≤ M * k := by
  have q := sum_le (l := (xs.take k).map f) (M := M) (fun y hy => by
    obtain ⟨x, hx, rfl⟩ := List.mem_map.1 hy
    exact h x (List.mem_of_mem_take hx))
  have h1 : (((xs.take k).map f).length : Int) ≤ k := by simp; omega
  have h2 := Int.mul_le_mul_of_nonneg_left h1 hM
  unfold sumTo
  omega

/-- The sums of what is good so far. -/
theorem amt_le {ps : List TProc} {ws : List TWire} {n0 n1 : Nat} (hp : PsOk ps) (hw : WsOk ws) (h0 : ps.length = n0) (h1 : ws.length = n1) (l0 : n0 ≤ 4) (l1 : n1 ≤ 16) :
    0 ≤ pAmt ps + wAmt ws ∧ pAmt ps + wAmt ws ≤ 20000000000 ∧ 0 ≤ pSav ps + wRec ws ∧ pSav ps + wRec ws ≤ 20000000000 := by
  have q1 := sumTo_le (fun p : TProc => p.1) (xs := ps) (M := 2000000000) (by omega) (fun p h => by have := hp p h; omega) n0
  have q2 := sumTo_le (fun p : TProc => p.2.1) (xs := ps) (M := 2000000000) (by omega) (fun p h => by have := hp p h; omega) n0
  have q3 := sumTo_le (fun v : TWire => v.1.sum) (xs := ws) (M := 200000000) (by omega) (fun v h => by have := hw v h; omega) n1
  have q4 := sumTo_le (fun v : TWire => v.2.1.sum) (xs := ws) (M := 200000000) (by omega) (fun v h => by have := hw v h; omega) n1
  rw [sumTo_all _ _ h0] at q1 q2
  rw [sumTo_all _ _ h1] at q3 q4
  have e1 : (ps.map (fun p : TProc => p.1)).sum = pAmt ps := rfl
  have e2 : (ps.map (fun p : TProc => p.2.1)).sum = pSav ps := rfl
  have e3 : (ws.map (fun v : TWire => v.1.sum)).sum = wAmt ws := rfl
  have e4 : (ws.map (fun v : TWire => v.2.1.sum)).sum = wRec ws := rfl
  rw [e1] at q1
  rw [e2] at q2
  rw [e3] at q3
  rw [e4] at q4
  omega

/-- The wires from the k-th on. -/
theorem wsB_step {n : Nat} {ps : List TProc} {ws : List TWire} {k : Nat} {w : TWire} (h : ws[k]? = some w) : wsB n ps k (ws.drop k) = (atB n ps k w && wsB n ps (k + 1) (ws.drop (k + 1))) := by
  have hk := (List.getElem?_eq_some_iff.1 h).1
  rw [List.drop_eq_getElem_cons hk, (List.getElem?_eq_some_iff.1 h).2]
  rfl
theorem wsB_done {n : Nat} {ps : List TProc} {ws : List TWire} {k : Nat} (h : ws.length ≤ k) : wsB n ps k (ws.drop k) = true := by
  rw [List.drop_of_length_le h]; rfl

end Go.Proofs.Ytnfdncofobkjhaa

/- Plain: what TotalIn and PictureOf tell. -/
namespace Go.Proofs.Ytnfdncofobkjhaa
open Go.RowKit

def picB (x : TSnap) : Bool := gsB x && x.1.all (fun p => p.2.2) && x.2.all (fun v => !v.2.2)
theorem gs_parts {ps : List TProc} {ws : List TWire} {n0 n1 : Nat} (h0 : ps.length = n0) (h1 : ws.length = n1) (h : gsB (ps, ws) = true) :
    2 ≤ n0 ∧ n0 ≤ 4 ∧ n1 = n0 * n0 ∧ n1 ≤ 16 ∧ PsOk ps ∧ WsOk ws ∧ amtS (ps, ws) + recS (ps, ws) ≤ 2000000000 := by
  unfold gsB at h
  simp only [Bool.and_eq_true, decide_eq_true_eq, h0, h1] at h
  obtain ⟨⟨⟨⟨⟨g1, g2⟩, g3⟩, g4⟩, g5⟩, g6⟩ := h
  have h16 : n0 * n0 ≤ 16 := Nat.mul_le_mul g2 g2
  exact ⟨g1, g2, g3, by omega, psOk_of g4, wsOk_of g5, g6⟩

end Go.Proofs.Ytnfdncofobkjhaa

/- The laws' copies of slices of numbers, of slices of numbers, as things that are owned. -/
namespace Go.Proofs.Ytnfdncofobkjhaa
open Go.RowKit

theorem toInts_rep (a : Option Addr) (n c : Nat) (zs : List Int) (w : World) (hz : zs.length = n) (hn : n ≤ 1048576) (ha : At w a zs) :
    Calls Try.prog 16 #[.slice a n c] w fun e w' => ∃ g, e = .returned (.slice (some ⟨g, 0, none⟩) n n) ∧ RInts.Own w' (From w.heap.size w'.heap.size) [.slice (some ⟨g, 0, none⟩) n n] zs ∧ Below w.heap.size w w' :=
  (toIntS_any a n c zs w hz hn ha).mono fun _ _ ⟨h1, h2, h3⟩ => ⟨_, h1, RInts.of_owns hz (by omega) h2, h3⟩
end Go.Proofs.Ytnfdncofobkjhaa

/- A block of cells that a function holds: what is stored, what stays. -/
namespace Go.Proofs.Ytnfdncofobkjhaa
open Go.RowKit

theorem blk_set {w : World} {g : Nat} {cs : Array Value} {t : TypeId} (h : w.heap[g]? = some (.cells cs t (0, 0))) (k : Nat) (v : Value) : (w.setCell ⟨g, k, none⟩ v).heap[g]? = some (.cells (cs.setIfInBounds k v) t (0, 0)) := heap_setCell_same w g k cs t v h
theorem blk_cell {w : World} {g : Nat} {cs : Array Value} {t : TypeId} (h : w.heap[g]? = some (.cells cs t (0, 0))) (k : Nat) {v : Value} (hv : cs[k]? = some v) : w.cell? ⟨g, k, none⟩ = some v := by
  rw [cell_of_row w g k _ t (0, 0) h]; exact hv
theorem blk_frozen {w : World} {g : Nat} {cs : Array Value} {t : TypeId} (h : w.heap[g]? = some (.cells cs t (0, 0))) (k : Nat) : w.frozen? ⟨g, k, none⟩ = false := frozen_of_row w g k _ t h
theorem blk_below {w w' : World} {g : Nat} {o : Obj} (h : w.heap[g]? = some o) (hb : Below w.heap.size w w') : w'.heap[g]? = some o := (hb.block g (Array.getElem?_eq_some_iff.1 h).1).trans h
theorem blk_other {w : World} {g : Nat} {o : Obj} (h : w.heap[g]? = some o) {a : Addr} (ha : g ≠ a.block) (v : Value) : (w.setCell a v).heap[g]? = some o := (Below.heap_setCell w a v g ha).trans h
theorem blk_alloc {w : World} {g : Nat} {o : Obj} (h : w.heap[g]? = some o) (o' : Obj) : (w.alloc o').heap[g]? = some o := (Below.heap_alloc w o' g (Array.getElem?_eq_some_iff.1 h).1).trans h

end Go.Proofs.Ytnfdncofobkjhaa

/- A snap that the call owns, as it is turned: processes and wires, each in a row of its own. -/
namespace Go.Proofs.Ytnfdncofobkjhaa
open Go.RowKit

/-- One thing of a row is put anew, in its own memory or in new one. -/
theorem Laid.renew {α : Type} {A : Rep α} {w w' : World} {F F' : Nat → Prop} {e : TypeId} {a : Option Addr} {n c : Nat} {xs : List α} {cells cells' : List Value} {G : Nat → Nat → Prop} {i : Nat} {x' : α} {H : Nat → Prop} (h : Laid A w F e a n c xs cells G n) (hi : i < n)
    (hw : ∀ b, b < w.heap.size → ¬ G i b → (Value.slice a n c).ownBlock ≠ some b → w'.heap[b]? = w.heap[b]?) (ho : w'.ownsRow 0 e A.k (.slice a n c) n cells') (hc : ∀ j, j ≠ i → sub cells' (j * A.k) A.k = sub cells (j * A.k) A.k)
    (hx : A.Own w' H (sub cells' (i * A.k) A.k) x') (hF : ∀ b, F b → F' b ∧ b < w.heap.size) (hH : ∀ b, H b → F' b ∧ (G i b ∨ w.heap.size ≤ b)) : Laid A w' F' e a n c (xs.set i x') cells' (fun j => if j = i then H else G j) n := by
  have hO : ∀ b, (Value.slice a n c).ownBlock = some b → b < w.heap.size := fun b hb => (hF b (h.outerF b hb)).2
  refine ⟨by simp [h.len], h.big, ho, fun b hb => (hF b (h.outerF b hb)).1, fun j y hj hy => ?_, fun j b hj hb => ?_, fun j k b hj hk hjk hb hb' => ?_⟩
  · by_cases ej : j = i
    · subst ej
      rw [List.getElem?_set_self (by rw [h.len]; exact hi)] at hy
      obtain rfl := Option.some.inj hy
      simp only [if_true]
      exact hx
    · rw [List.getElem?_set_ne (Ne.symm ej)] at hy
      simp only [if_neg ej]
      rw [hc j ej]
      exact A.frame (h.row j y hj hy) (fun b hb hl => hw b hl (fun e' => h.apart i j b hi hj (Ne.symm ej) e' hb) (h.rowF j b hj hb).2)
  · by_cases ej : j = i
    · subst ej
      simp only [if_true] at hb
      refine ⟨(hH b hb).1, fun e' => ?_⟩
      rcases (hH b hb).2 with h2 | h2
      · exact (h.rowF j b hj h2).2 e'
      · have := hO b e'; omega
    · simp only [if_neg ej] at hb
      exact ⟨(hF b (h.rowF j b hj hb).1).1, (h.rowF j b hj hb).2⟩
  · by_cases ej : j = i
    · subst ej
      simp only [if_true] at hb
      simp only [if_neg (Ne.symm hjk)] at hb'
      rcases (hH b hb).2 with h2 | h2
      · exact h.apart j k b hj hk hjk h2 hb'
      · have := (hF b (h.rowF k b hk hb').1).2; omega
    · simp only [if_neg ej] at hb
      by_cases ek : k = i
      · subst ek
        simp only [if_true] at hb'
        rcases (hH b hb').2 with h2 | h2
        · exact h.apart j k b hj hk hjk hb h2
        · have := (hF b (h.rowF j b hj hb).1).2; omega
      · simp only [if_neg ek] at hb'
        exact h.apart j k b hj hk hjk hb hb'

def In (S : Nat → Prop) (hi : Nat) : Nat → Prop := fun b => S b ∧ b < hi
theorem Off.setCellO {S : Nat → Prop} {a b : World} (h : Off S a b) {p : Addr} (hp : S p.block) (v : Value) : Off S a (b.setCell p v) := h.trans (Off.set hp v)
/-- The snap: its processes lie in block g0, its wires in g1, what these hold in blocks of lo, which has all that are new. -/
structure SV (w : World) (lo : Nat → Prop) (g0 n0 c0 g1 n1 c1 : Nat) (ps : List TProc) (ws : List TWire) (cells0 cells1 : List Value) (G : Nat → Nat → Prop) : Prop where
  pr : Laid RProc w (In lo w.heap.size) 74 (some ⟨g0, 0, none⟩) n0 c0 ps cells0 (fun _ _ => False) n0
  wi : Laid RWire w (In lo w.heap.size) 76 (some ⟨g1, 0, none⟩) n1 c1 ws cells1 G n1
  ne : g0 ≠ g1
  ap : ∀ i b, i < n1 → G i b → b ≠ g0
  up : ∀ b, w.heap.size ≤ b → lo b

section
variable {w w' W : World} {lo : Nat → Prop} {g0 n0 c0 g1 n1 c1 : Nat} {ps : List TProc} {ws : List TWire} {cells0 cells1 : List Value} {G : Nat → Nat → Prop}
theorem SV.l0 (h : SV w lo g0 n0 c0 g1 n1 c1 ps ws cells0 cells1 G) : lo g0 ∧ g0 < w.heap.size := h.pr.outerF g0 rfl
theorem SV.l1 (h : SV w lo g0 n0 c0 g1 n1 c1 ps ws cells0 cells1 G) : lo g1 ∧ g1 < w.heap.size := h.wi.outerF g1 rfl
theorem SV.below (h : SV w lo g0 n0 c0 g1 n1 c1 ps ws cells0 cells1 G) (hb : Below w.heap.size w w') : SV w' lo g0 n0 c0 g1 n1 c1 ps ws cells0 cells1 G :=
  ⟨(h.pr.below hb).mono (fun _ k => ⟨k.1, Nat.lt_of_lt_of_le k.2 hb.size⟩), (h.wi.below hb).mono (fun _ k => ⟨k.1, Nat.lt_of_lt_of_le k.2 hb.size⟩), h.ne, h.ap, fun b k => h.up b (Nat.le_trans hb.size k)⟩
theorem SV.proc (h : SV w lo g0 n0 c0 g1 n1 c1 ps ws cells0 cells1 G) {i : Nat} {z0 z1 : Int} {b : Bool} (hx : ps[i]? = some (z0, z1, b)) :
    i < n0 ∧ sub cells0 (i * 3) 3 = [.int .i64 z0, .int .i64 z1, .bool b] ∧ w.cell? ⟨g0, i * 3, none⟩ = some (.int .i64 z0) ∧ w.cell? ⟨g0, i * 3 + 1, none⟩ = some (.int .i64 z1) ∧ w.cell? ⟨g0, i * 3 + 2, none⟩ = some (.bool b) := by
  have hi : i < n0 := by rw [← h.pr.len]; exact (List.getElem?_eq_some_iff.1 hx).1
  have hs : sub cells0 (i * 3) 3 = [.int .i64 z0, .int .i64 z1, .bool b] := RProc.own_open (h.pr.row i _ hi hx)
  have c : ∀ j, j < 3 → w.cell? ⟨g0, i * 3 + j, none⟩ = (sub cells0 (i * 3) 3)[j]? := fun j hj => by
    rw [sub_at hj]
    exact h.pr.outer.cellAt _ (show i * 3 + j < n0 * 3 by omega)
  rw [hs] at c
  exact ⟨hi, hs, c 0 (by omega), c 1 (by omega), c 2 (by omega)⟩
theorem SV.frozen0 (h : SV w lo g0 n0 c0 g1 n1 c1 ps ws cells0 cells1 G) (o : Nat) : w.frozen? ⟨g0, o, none⟩ = false := h.pr.outer.frozenAt _
theorem SV.frozen1 (h : SV w lo g0 n0 c0 g1 n1 c1 ps ws cells0 cells1 G) (o : Nat) : w.frozen? ⟨g1, o, none⟩ = false := h.wi.outer.frozenAt _
theorem SV.wire (h : SV w lo g0 n0 c0 g1 n1 c1 ps ws cells0 cells1 G) {k : Nat} {x0 x1 : List Int} {b : Bool} (hx : ws[k]? = some (x0, x1, b)) : ∃ a0 d0 a1 d1, ∃ F0 F1 : Nat → Prop,
    k < n1 ∧ sub cells1 (k * 3) 3 = [.slice a0 x0.length d0, .slice a1 x1.length d1, .bool b] ∧ w.cell? ⟨g1, k * 3, none⟩ = some (.slice a0 x0.length d0) ∧ w.cell? ⟨g1, k * 3 + 1, none⟩ = some (.slice a1 x1.length d1) ∧ w.cell? ⟨g1, k * 3 + 2, none⟩ = some (.bool b) ∧
    RInts.Own w F0 [.slice a0 x0.length d0] x0 ∧ RInts.Own w F1 [.slice a1 x1.length d1] x1 ∧ (∀ b, F0 b → G k b) ∧ (∀ b, F1 b → G k b) ∧ (∀ b, F0 b → ¬ F1 b) := by
  have hk : k < n1 := by rw [← h.wi.len]; exact (List.getElem?_eq_some_iff.1 hx).1
  obtain ⟨a0, m0, d0, a1, m1, d1, F0, F1, hs, r0, r1, f0, f1, d01⟩ := RWire.own_open (h.wi.row k _ hk hx)
  have e0 : x0.length = m0 := (RInts.own_iff.1 r0).1
  have e1 : x1.length = m1 := (RInts.own_iff.1 r1).1
  subst e0 e1
  have hs : sub cells1 (k * 3) 3 = [.slice a0 x0.length d0, .slice a1 x1.length d1, .bool b] := hs
  have c : ∀ j, j < 3 → w.cell? ⟨g1, k * 3 + j, none⟩ = (sub cells1 (k * 3) 3)[j]? := fun j hj => by
    rw [sub_at hj]
    exact h.wi.outer.cellAt _ (show k * 3 + j < n1 * 3 by omega)
  rw [hs] at c
  exact ⟨a0, d0, a1, d1, F0, F1, hk, hs, c 0 (by omega), c 1 (by omega), c 2 (by omega), r0, r1, f0, f1, d01⟩
/-- The wires' block. -/
theorem SV.blk1 (h : SV w lo g0 n0 c0 g1 n1 c1 ps ws cells0 cells1 G) : ∃ cur : Array Value, w.heap[g1]? = some (.cells cur 76 (0, 0)) ∧ ∀ j, j < n1 * 3 → cur[j]? = cells1[j]? := by
  rcases h.wi.outer.2 with ⟨hv, _⟩ | ⟨g, cap, cur, hv, _, hg, _, _, _, ht⟩
  · simp at hv
  · simp only [Value.slice.injEq, Option.some.injEq, Addr.mk.injEq, and_true, true_and] at hv
    obtain ⟨rfl, rfl⟩ := hv
    refine ⟨cur, hg, fun j hj => ?_⟩
    rw [← ht]
    show cur[j]? = (List.take (n1 * 3) cur.toList)[j]?
    rw [List.getElem?_take_of_lt hj]
    simp

/-- One cell of a process. -/
theorem SV.setProc (h : SV w lo g0 n0 c0 g1 n1 c1 ps ws cells0 cells1 G) {i j : Nat} {x x' : TProc} {v : Value} (hx : ps[i]? = some x) (hj : j < 3) (hv : ([.int .i64 x.1, .int .i64 x.2.1, .bool x.2.2] : List Value).set j v = [.int .i64 x'.1, .int .i64 x'.2.1, .bool x'.2.2]) :
    SV (w.setCell ⟨g0, i * 3 + j, none⟩ v) lo g0 n0 c0 g1 n1 c1 (ps.set i x') ws (sets cells0 (i * 3) [.int .i64 x'.1, .int .i64 x'.2.1, .bool x'.2.2]) cells1 G := by
  obtain ⟨hi, hs, _⟩ := h.proc (z0 := x.1) (z1 := x.2.1) (b := x.2.2) hx
  have hcl : cells0.length = n0 * 3 := h.pr.outer.1
  have hcm : i * 3 + 3 ≤ cells0.length := by omega
  have ho : w.ownsRow 0 74 3 (.slice (some ⟨g0, 0, none⟩) n0 c0) n0 (sets cells0 (i * 3) [.int .i64 x.1, .int .i64 x.2.1, .bool x.2.2]) := by
    rw [← hs, sets_self _ _ _ hcm]; exact h.pr.outer
  have ho2 := owns_sets_store ho j v hj hcm
  rw [hv] at ho2
  have hsz : (w.setCell ⟨g0, i * 3 + j, none⟩ v).heap.size = w.heap.size := by simp [World.setCell]
  refine ⟨?_, ?_, h.ne, h.ap, fun b k => h.up b (by rw [hsz] at k; exact k)⟩
  · rw [hsz]
    refine h.pr.turn hi (fun b hb _ hn => Below.heap_setCell _ _ _ _ (fun e => hn (by rw [e]; rfl))) ho2 (fun j' hj' => sub_sets_far _ _ _ _ _ (mul_far (k := 3) hj')) ?_
    have hsu : sub (sets cells0 (i * 3) [.int .i64 x'.1, .int .i64 x'.2.1, .bool x'.2.2]) (i * 3) 3 = [.int .i64 x'.1, .int .i64 x'.2.1, .bool x'.2.2] := sub_sets cells0 (i * 3) [.int .i64 x'.1, .int .i64 x'.2.1, .bool x'.2.2] hcm
    show RProc.Own _ _ (sub (sets cells0 (i * 3) [.int .i64 x'.1, .int .i64 x'.2.1, .bool x'.2.2]) (i * 3) 3) x'
    rw [hsu]
    exact RProc.own_mk
  · rw [hsz]
    have hh : ∀ b, b ≠ g0 → (w.setCell ⟨g0, i * 3 + j, none⟩ v).heap[b]? = w.heap[b]? := fun b e => Below.heap_setCell _ _ _ _ e
    exact ⟨h.wi.len, h.wi.big, ownsRow_frame h.wi.outer (fun b hb _ => hh b (fun e => h.ne (by
      simp [Value.ownBlock] at hb
      omega))), h.wi.outerF, fun k y hk hy => RWire.frame (h.wi.row k y hk hy) (fun b hb _ => hh b (h.ap k b hk hb)), h.wi.rowF, h.wi.apart⟩
end

end Go.Proofs.Ytnfdncofobkjhaa
