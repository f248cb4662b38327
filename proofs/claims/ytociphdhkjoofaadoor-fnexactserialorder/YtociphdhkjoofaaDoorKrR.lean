/- Lists of numbers that are told, and whether. -/
import Derived.Test.YtociphdhkjoofaaDoorIntsR
import Derived.Test.YtociphdhkjoofaaDoorRepP
namespace Go.Proofs.YtociphdhkjoofaaDoor
open Go.RowKit

/-- Lists of columns, and whether. -/
def KeysRet (e : Ending) (w' : World) (lo : Nat) (ok : Bool) (zss : List (List Int)) : Prop := ∃ r m d, e = .returned (.tuple #[.slice r m d, .bool ok]) ∧ RPairs.Own w' (From lo w'.heap.size) [.slice r m d] zss
theorem keysRet_none (w : World) (lo : Nat) {ok : Bool} {ds : List (List Int)} (h1 : ok = false) (h2 : ds = []) : KeysRet (.returned (.tuple #[.slice none 0 0, .bool false])) w lo ok ds := by
  subst h1 h2
  exact ⟨none, 0, 0, rfl, none, 0, 0, [], _, rfl, Laid.none _ _ _ _⟩
theorem atSl_pairK {w : World} {a : Option Addr} {zss : List (List Int)} (h : AtSl RInts w a zss) {k : Nat} {zs : List Int} (hk : zss[k]? = some zs) :
    ∃ b off a' n' c', a = some ⟨b, off, none⟩ ∧ w.cell? ⟨b, off + k, none⟩ = some (.slice a' n' c') ∧ zs.length = n' ∧ n' ≤ 9223372036854775807 ∧ At w a' zs ∧ (a' = none → c' = 0) := by
  have hp : 0 < zss.length := Nat.lt_of_le_of_lt (Nat.zero_le _) (List.getElem?_eq_some_iff.1 hk).1
  obtain ⟨b, off, rfl, hc⟩ := h.each hp
  obtain ⟨cs, h1, a', n', c', rfl, e1, e2, e3, e4⟩ := hc k zs hk
  have g := h1 0 _ rfl
  exact ⟨b, off, a', n', c', rfl, by simpa [RInts, Rep.slice] using g, e1, e2, atSl_int.1 e3, e4⟩
theorem pairs_at {w : World} {F : Nat → Prop} {a : Option Addr} {n c : Nat} {xs : List (List Int)} (h : RPairs.Own w F [.slice a n c] xs) : xs.length = n ∧ AtSl RInts w a xs := by
  obtain ⟨a', n', c', e, h1, _, h3, _⟩ := RPairs.toAt h
  simp only [List.cons.injEq, Value.slice.injEq, and_true] at e
  obtain ⟨rfl, rfl, rfl⟩ := e
  exact ⟨h1, h3⟩

end Go.Proofs.YtociphdhkjoofaaDoor
