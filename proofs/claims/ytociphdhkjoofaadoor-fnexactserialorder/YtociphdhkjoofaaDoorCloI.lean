/- Contracts of columnSet.has, setOf, tellingOf, tellingsOf, closure, implied. -/
import Derived.Test.YtociphdhkjoofaaDoorColP
import Derived.Test.YtociphdhkjoofaaDoorRepP
import Derived.Test.YtociphdhkjoofaaDoorAppendAll
import Derived.Deep.AppendLies
import Derived.Deep.LoopGhost
import Derived.WalkMore
namespace Go.Proofs.YtociphdhkjoofaaDoor
open Go.RowKit

theorem wrap64_small {n : Nat} (h : n < 18446744073709551616) : IntKind.u64.wrap (n : Int) = (n : Int) := by
  simp only [IntKind.wrap, IntKind.bits, IntKind.signed]
  have h1 : (n : Int) % 18446744073709551616 = n := Int.emod_eq_of_lt (by omega) (by omega)
  simpa using h1
theorem two_pow_lt {x : Nat} (h : x < 6) : 2 ^ x < 64 := by
  have : 2 ^ x ≤ 2 ^ 5 := Nat.pow_le_pow_right (by omega) (by omega)
  omega
theorem wrap_pow {x : Int} (h0 : 0 ≤ x) (h1 : x < 6) : IntKind.u64.wrap (2 ^ x.toNat) = ((2 ^ x.toNat : Nat) : Int) := by
  have h2 := two_pow_lt (x := x.toNat) (by omega)
  have := wrap64_small (n := 2 ^ x.toNat) (by omega)
  rw [← this]
  congr 1
theorem or_pow {S : Nat} {x : Int} (hS : S < 64) (h0 : 0 ≤ x) (h1 : x < 6) : bits .or .u64 (S : Int) (IntKind.u64.wrap (2 ^ x.toNat)) = ((S ||| 2 ^ x.toNat : Nat) : Int) := by
  have h2 := two_pow_lt (x := x.toNat) (by omega)
  rw [wrap_pow h0 h1]
  exact u64_or_nat S (2 ^ x.toNat) (by omega) (by omega)
theorem mk_take {zs : List Int} {k : Nat} (h : k < zs.length) : mk (zs.take (k + 1)) = mk (zs.take k) ||| 2 ^ (zs.getD k 0).toNat := by
  rw [List.take_succ_eq_append_getElem h]
  unfold mk
  rw [List.foldl_append]
  simp [List.getD, h]
theorem mk_lt6 {zs : List Int} (h : ∀ x ∈ zs, 0 ≤ x ∧ x < 6) : mk zs < 64 := by
  refine Nat.lt_pow_two_of_testBit (n := 6) _ fun i hi => ?_
  cases hb : (mk zs).testBit i with
  | false => rfl
  | true =>
    have := (h _ ((mk_bit zs (fun x hx => (h x hx).1) i).1 hb)).2
    omega
theorem ris_in {c : Int} {l : List Int} (hc : c ≤ 6) (h : ris c l = true) : ∀ x ∈ l, 0 ≤ x ∧ x < 6 := fun x hx => by have := (risB_mem h).2 x hx; omega

/-- A number without a sign. -/
def Rep.u64 : Rep Nat where
  k := 1
  At _ cs z := cs = [.int .u64 (z : Int)]
  Own _ _ cs z := cs = [.int .u64 (z : Int)]
  len h := by rw [h]; rfl
  below h _ := h
  toAt h := h
  mono h _ := h
  frame h _ := h
  tight h := h
abbrev RTell : Rep (Nat × Nat) := Rep.pair Rep.u64 Rep.u64
abbrev AtT (w : World) (a : Option Addr) (xs : List (Nat × Nat)) : Prop := AtSl RTell w a xs
theorem AtT.row {w : World} {a : Option Addr} {xs : List (Nat × Nat)} (h : AtT w a xs) (hp : 0 < xs.length) : ∃ b off, a = some ⟨b, off, none⟩ ∧ b < w.heap.size ∧ ∀ (i : Nat) (x : Nat × Nat), xs[i]? = some x →
    w.cell? ⟨b, off + i * 2, none⟩ = some (.int .u64 (x.1 : Nat)) ∧ w.cell? ⟨b, off + i * 2 + 1, none⟩ = some (.int .u64 (x.2 : Nat)) := by
  obtain ⟨b, off, rfl, hc⟩ := AtSl.each h hp
  have row : ∀ (i : Nat) (x : Nat × Nat), xs[i]? = some x → w.cell? ⟨b, off + i * 2, none⟩ = some (.int .u64 (x.1 : Nat)) ∧ w.cell? ⟨b, off + i * 2 + 1, none⟩ = some (.int .u64 (x.2 : Nat)) := by
    intro i x hx
    obtain ⟨cs, h1, c1, c2, rfl, e1, e2⟩ := hc i x hx
    obtain rfl : c1 = _ := e1
    obtain rfl : c2 = _ := e2
    exact ⟨h1 0 _ rfl, h1 1 _ rfl⟩
  exact ⟨b, off, rfl, World.block_lt_of_cell? _ _ (row 0 xs[0] (List.getElem?_eq_getElem hp)).1, row⟩

/-- The sets that are laid are small. -/
def Sets (l : List (Nat × Nat)) : Prop := ∀ d ∈ l, d.1 < 64 ∧ d.2 < 64

end Go.Proofs.YtociphdhkjoofaaDoor
