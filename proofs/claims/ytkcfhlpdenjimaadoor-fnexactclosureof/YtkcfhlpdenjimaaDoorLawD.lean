/- The laws' helpers over dependencies in one form, as LawG has them over tables. -/
import Derived.Test.YtkcfhlpdenjimaaDoorDepM
namespace Go.Proofs.YtkcfhlpdenjimaaDoor
open Go.RowKit

/-- A slice of dependencies that the call made: its blocks lie from lo on and below hi. -/
def OwnD (w : World) (lo hi : Nat) (a : Option Addr) (n c : Nat) (xs : List Dep) : Prop := RDeps.Own w (From lo hi) [.slice a n c] xs

section
variable {w w' : World} {lo hi : Nat} {a : Option Addr} {n c : Nat} {xs : List Dep}
theorem OwnD.below (h : OwnD w lo hi a n c xs) (hb : Below w.heap.size w w') : OwnD w' lo hi a n c xs := RDeps.ownBelow h hb
theorem OwnD.apartW {lo' hi' : Nat} (h : OwnD w lo hi a n c xs) (hp : Apart lo' hi' w w') (hd : hi ≤ lo' ∨ hi' ≤ lo) : OwnD w' lo hi a n c xs :=
  RDeps.ownOff h (Off.of_apart hp) (fun b h1 h2 => by have := h1.1; have := h1.2; have := h2.1; have := h2.2; omega)
theorem OwnD.atD0 (h : OwnD w lo hi a n c xs) : AtD w a xs := by
  obtain ⟨a', n', c', e, _, _, h3, _⟩ := RDeps.toAt h
  simp only [List.cons.injEq, Value.slice.injEq, and_true] at e
  obtain ⟨rfl, rfl, rfl⟩ := e
  exact h3
theorem OwnD.atD (h : OwnD w lo hi a n c xs) (_hs : SmD xs n) : AtD w a xs := h.atD0
end

theorem toDependSG (a : Option Addr) (n c : Nat) (xs : List Dep) (w : World) (hs : SmD xs n) (ha : AtD w a xs) :
    Calls Tryd.prog 9 #[.slice a n c] w fun e w' => ∃ g, e = .returned (.slice (some ⟨g, 0, none⟩) n n) ∧ OwnD w' w.heap.size w'.heap.size (some ⟨g, 0, none⟩) n n xs ∧ Below w.heap.size w w' :=
  toDependS_any a n c xs w hs.1 hs.n (fun _ _ hx => hs.each hx) ha
theorem eqDependSG (a a' : Option Addr) (n c c' : Nat) (xs : List Dep) (w : World) (hs : SmD xs n) (ha : AtD w a xs) (ha' : AtD w a' xs) :
    Calls Tryd.prog 13 #[.slice a n c, .slice a' n c'] w fun e w' => e = .returned (.bool true) ∧ Below w.heap.size w w' :=
  eqDependS_same a a' n c c' xs w hs.1 hs.n (fun _ _ hx => hs.each hx) ha ha'
theorem markDependSG (lo hi : Nat) (a : Option Addr) (n c : Nat) (xs : List Dep) (m : Int) (w : World) (hs : SmD xs n) (h0 : 0 ≤ m) (h1 : m ≤ 134217728) (ho : OwnD w lo hi a n c xs) :
    Calls Tryd.prog 14 #[.slice a n c, .int .i64 m] w fun e w' => e = .returned (.int .i64 (m + dsum xs n)) ∧ OwnD w' lo hi a n c (mkDeps m xs) ∧ Apart lo hi w w' :=
  (markDependS_rep (From lo hi) a n c xs m w hs.n hs.sum h0 h1 ho).mono fun _ _ ⟨h1, h2, h3⟩ => ⟨h1, h2, h3.apart⟩

end Go.Proofs.YtkcfhlpdenjimaaDoor
