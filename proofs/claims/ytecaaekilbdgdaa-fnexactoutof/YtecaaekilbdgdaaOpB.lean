/- Opening a truth value. -/
import Derived.Test.YtecaaekilbdgdaaOpenP
import Derived.Test.YtecaaekilbdgdaaBoR
namespace Go.Proofs.Ytecaaekilbdgdaa
open Go.ChangeShapes Go.WideShapes Go.ChangeAt Go.RowKit Go.Joins Go.Deep

theorem Opens.boolR {H : Type} {enc : TypeId × Value → H} {P : Program} {w : World} {base : Nat} {held : Bool} {t : TypeId} (ht : P.underlying t = some .bool) : Opens enc P w base held t Rep.bool := fun fuel cs x h => by
  obtain ⟨z, hz, _⟩ := DataW.trod_bool ht h
  exact ⟨z, hz⟩

end Go.Proofs.Ytecaaekilbdgdaa
