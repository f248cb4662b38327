/- Several texts of one proof, in build order: Open, OpenB. -/
import Derived.Test.YtlfljfmhhnoinabM0
import Derived.ProofKit
import Derived.OpenShut
import Derived.ShutString
import Derived.ChangeOld
import Derived.Lib.SmallJoins
import Derived.Test.YtlfljfmhhnoinabM3

/- Opening the laws' arguments: rows, slices of ints; plain facts on readings. -/
namespace Go.Proofs.Ytlfljfmhhnoinab
open Go.ChangeShapes Go.WideShapes Go.ChangeAt Go.RowKit Go.Joins Go.Deep

section
variable {H : Type} {enc : TypeId × Value → H} {P : Program} {w : World} {base : Nat} {spare : Nat → Bool} {held : Bool}

end

end Go.Proofs.Ytlfljfmhhnoinab

/- Opening the drawn laws' arguments: bytes. -/
namespace Go.Proofs.Ytlfljfmhhnoinab
open Go.ChangeShapes Go.WideShapes Go.ChangeAt Go.RowKit Go.Joins Go.Deep

section
variable {H : Type} {enc : TypeId × Value → H} {P : Program} {w : World} {base : Nat} {spare : Nat → Bool} {held : Bool}
/-- A slice of bytes that reads. -/
theorem open_atB {t e : TypeId} {fuel n c : Nat} {a : Option Addr} {x : DataW H × List MemPlace} (ht : P.underlying t = some (.slice e)) (he : P.underlying e = some (.int .u8)) (hC : P.cellsOf e = 1)
    (h : DataW.trod enc P w base spare held fuel t [.slice a n c] = some x) : n ≤ 9223372036854775807 ∧ AtB w a n ∧ (0 < n → ∀ b off, a = some ⟨b, off, none⟩ → b < w.heap.size) := by
  rcases open_ints ht he hC h with ⟨hcs, _⟩ | ⟨ad, l, c', zs, hcs, _, hl, hm, hz, _, hcell, hwf⟩
  · simp at hcs
    obtain ⟨rfl, rfl, rfl⟩ := hcs
    exact ⟨by omega, .inl rfl, fun h => by omega⟩
  · simp at hcs
    obtain ⟨rfl, rfl, rfl⟩ := hcs
    unfold maxLen at hm
    have hz' : n ≤ zs.length := by split at hz <;> omega
    refine ⟨by omega, ?_, fun h0 b off e => ?_⟩
    · by_cases h0 : n = 0
      · exact .inl h0
      · right
        obtain ⟨b, off, spot⟩ := ad
        have hc := hcell 0 (by omega)
        have hspot : spot = none := by simpa [Addr.add] using World.cell?_spot hc
        subst hspot
        refine ⟨b, off, rfl, fun i hi => ?_⟩
        have hi' : i < zs.length := by omega
        have h1 := hcell i hi'
        rw [Addr.add_lit] at h1
        have h2 := hwf (zs.getD i 0) (by simp [List.getD, hi'])
        have h3 : 0 ≤ zs.getD i 0 ∧ zs.getD i 0 ≤ 255 := by simpa [Lit.wf, IntKind.min, IntKind.max, IntKind.signed, IntKind.bits] using h2
        exact ⟨_, h3.1, h3.2, h1⟩
    · have hc := hcell 0 (by omega)
      simp only [Option.some.injEq] at e
      subst e
      rw [Addr.add_lit] at hc
      exact World.block_lt_of_cell? _ _ hc
end

end Go.Proofs.Ytlfljfmhhnoinab
