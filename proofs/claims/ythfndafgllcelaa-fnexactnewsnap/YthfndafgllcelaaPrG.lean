/- Proc as a thing in memory. -/
import Derived.Test.YthfndafgllcelaaMkL
import Derived.Test.YthfndafgllcelaaIntsR
import Derived.Test.YthfndafgllcelaaBoR
import Derived.Test.YthfndafgllcelaaSetsW
namespace Go.Proofs.Ythfndafgllcelaa
open Go.RowKit

/-- impl.Proc, by its fields. -/
abbrev TProc := Int × Int × Bool
abbrev RProc : Rep TProc := Rep.pair Rep.int (Rep.pair Rep.int (Rep.bool))
abbrev RProcs : Rep (List TProc) := Rep.slice 64 RProc
theorem RProc_k : RProc.k = 3 := rfl
theorem RProc.at_open {w : World} {cs : List Value} {x : TProc} (h : RProc.At w cs x) : cs = [.int .i64 x.1, .int .i64 x.2.1, .bool x.2.2] ∧ True := by
  obtain ⟨e0, d0, rfl, h0, ⟨e1, d1, rfl, h1, h2⟩⟩ := h
  obtain rfl : e0 = [.int .i64 x.1] := h0
  obtain rfl : e1 = [.int .i64 x.2.1] := h1
  obtain rfl : d1 = [.bool x.2.2] := h2
  exact ⟨rfl, trivial⟩
theorem RProc.own_mk {w : World} {F : Nat → Prop} {zi0 : Int} {zi1 : Int} {bo2 : Bool} : RProc.Own w F [.int .i64 zi0, .int .i64 zi1, .bool bo2] (zi0, zi1, bo2) :=
  ⟨[_], _, (fun _ => False), (fun _ => False), rfl, rfl, ⟨[_], _, (fun _ => False), (fun _ => False), rfl, rfl, rfl, (fun _ h => False.elim h), (fun _ h => h), (fun _ h => False.elim h)⟩, (fun _ h => False.elim h), (fun _ h => False.elim h), (fun _ h => False.elim h)⟩
theorem RProc.own_open {w : World} {F : Nat → Prop} {cs : List Value} {x : TProc} (h : RProc.Own w F cs x) : cs = [.int .i64 x.1, .int .i64 x.2.1, .bool x.2.2] := (RProc.at_open (RProc.toAt h)).1
def mknProc (_x : TProc) : Nat := 1 + 1 + 1
def mkProc (m : Int) (_x : TProc) : TProc := (m, m + 1, mkB (m + 1 + 1))
abbrev msumProc (xs : List TProc) (k : Nat) : Nat := szL mknProc xs k
def mkProcs (m : Int) (xs : List TProc) : List TProc := mkL mkProc mknProc m xs
theorem msumProc_zero (xs : List TProc) : msumProc xs 0 = 0 := by simp [msumProc, szL]
theorem msumProc_succ {xs : List TProc} {k : Nat} {x : TProc} (h : xs[k]? = some x) : msumProc xs (k + 1) = msumProc xs k + mknProc x := szL_succ mknProc h
theorem msumProc_mono (xs : List TProc) (j k : Nat) (h : j ≤ k) : msumProc xs j ≤ msumProc xs k := szL_mono mknProc xs j k h
theorem mkProcs_len (m : Int) (xs : List TProc) : (mkProcs m xs).length = xs.length := mkL_length _ _ _ _
theorem RProc.row {w : World} {a : Option Addr} {xs : List TProc} (h : AtSl RProc w a xs) (hp : 0 < xs.length) : ∃ b off, a = some ⟨b, off, none⟩ ∧ b < w.heap.size ∧ ∀ (i : Nat) (x : TProc), xs[i]? = some x → w.cell? ⟨b, off + i * 3, none⟩ = some (.int .i64 x.1) ∧ w.cell? ⟨b, off + i * 3 + 1, none⟩ = some (.int .i64 x.2.1) ∧ w.cell? ⟨b, off + i * 3 + 2, none⟩ = some (.bool x.2.2) ∧ True := by
  obtain ⟨b, off, rfl, hc⟩ := AtSl.each h hp
  have row : ∀ (i : Nat) (x : TProc), xs[i]? = some x → w.cell? ⟨b, off + i * 3, none⟩ = some (.int .i64 x.1) ∧ w.cell? ⟨b, off + i * 3 + 1, none⟩ = some (.int .i64 x.2.1) ∧ w.cell? ⟨b, off + i * 3 + 2, none⟩ = some (.bool x.2.2) ∧ True := by
    intro i x hx
    obtain ⟨cs, h1, h2⟩ := hc i x hx
    obtain ⟨rfl, u⟩ := RProc.at_open h2
    exact ⟨h1 0 _ rfl, h1 1 _ rfl, h1 2 _ rfl, u⟩
  refine ⟨b, off, rfl, ?_, row⟩
  obtain ⟨h1, _⟩ := row 0 xs[0] (List.getElem?_eq_getElem hp)
  exact World.block_lt_of_cell? _ _ h1
theorem RProcs.atSl {w : World} {F : Nat → Prop} {a : Option Addr} {n c : Nat} {xs : List TProc} (h : RProcs.Own w F [.slice a n c] xs) : xs.length = n ∧ AtSl RProc w a xs := by
  obtain ⟨a', n', c', e, h1, _, h3, _⟩ := RProcs.toAt h
  simp only [List.cons.injEq, Value.slice.injEq, and_true] at e
  obtain ⟨rfl, rfl, rfl⟩ := e
  exact ⟨h1, h3⟩
theorem msumProc_eq : ∀ (xs : List TProc) (k : Nat), k ≤ xs.length → msumProc xs k = 3 * k
  | xs, 0, _ => by rw [msumProc_zero]
  | xs, k + 1, h => by
    have hx : xs[k]? = some xs[k] := List.getElem?_eq_getElem (by omega)
    have e : mknProc xs[k] = 3 := by unfold mknProc; omega
    rw [msumProc_succ hx, msumProc_eq xs k (by omega), e]
    omega

end Go.Proofs.Ythfndafgllcelaa
