/- The laws' helpers over lists of ints in one form, as LawG has them over tables. -/
import Derived.Test.YtmkhdocjabflkabLawG
import Derived.Test.YtmkhdocjabflkabIntS
namespace Go.Proofs.Ytmkhdocjabflkab
open Go.RowKit

/-- A list of ints that the laws' bound allows. -/
def SmI (zs : List Int) (n : Nat) : Prop := zs.length = n ∧ n ≤ 1048576
theorem SmI.n {zs : List Int} {n : Nat} (h : SmI zs n) : n ≤ 1048576 := h.2

/-- A slice of ints that the call made: its block lies from lo on and below hi. -/
def OwnI (w : World) (lo hi : Nat) (a : Option Addr) (n c : Nat) (zs : List Int) : Prop :=
  w.ownsRow lo 3 1 (.slice a n c) n (zs.map (.int .i64)) ∧ (∀ k, (Value.slice a n c).ownBlock = some k → lo ≤ k ∧ k < hi)

section
variable {w w' : World} {lo hi : Nat} {a : Option Addr} {n c : Nat} {zs : List Int}
theorem OwnI.below (h : OwnI w lo hi a n c zs) (hb : Below w.heap.size w w') : OwnI w' lo hi a n c zs := ⟨h.1.kept (Below.toGrown hb none) (by simp; exact Classical.em _), h.2⟩
theorem OwnI.apartW {lo' hi' : Nat} (h : OwnI w lo hi a n c zs) (hp : Apart lo' hi' w w') (hd : hi ≤ lo' ∨ hi' ≤ lo) : OwnI w' lo hi a n c zs := ⟨hp.owns h.1 (fun k hk => by have := h.2 k hk; omega), h.2⟩
theorem OwnI.at (h : OwnI w lo hi a n c zs) (_hs : SmI zs n) : At w a zs := At.owned h.1
end

theorem toIntSG (a : Option Addr) (n c : Nat) (zs : List Int) (w : World) (hs : SmI zs n) (ha : At w a zs) :
    Calls Try.prog 13 #[.slice a n c] w fun e w' => ∃ g, e = .returned (.slice (some ⟨g, 0, none⟩) n n) ∧ OwnI w' w.heap.size w'.heap.size (some ⟨g, 0, none⟩) n n zs ∧ Below w.heap.size w w' :=
  (toIntS_at a n c zs w hs.1 hs.2 ha).mono fun _ _ ⟨g, h1, h2, h3⟩ => ⟨g, h1, ⟨h2, fun k hk => h2.lt k hk⟩, h3⟩
theorem eqIntSG (a a' : Option Addr) (n c c' : Nat) (zs : List Int) (w : World) (hs : SmI zs n) (ha : At w a zs) (ha' : At w a' zs) :
    Calls Try.prog 15 #[.slice a n c, .slice a' n c'] w fun e w' => e = .returned (.bool true) ∧ Below w.heap.size w w' :=
  (eqIntS_any a a' n n c c' zs zs w hs.1 hs.1 hs.2 hs.2 ha ha').mono fun _ _ ⟨h1, h2⟩ => ⟨by rw [h1, decide_eq_true rfl], h2⟩
theorem markIntSG (lo hi : Nat) (a : Option Addr) (n c : Nat) (zs : List Int) (m : Int) (w : World) (hs : SmI zs n) (h0 : 0 ≤ m) (h1 : m ≤ 268435456) (ho : OwnI w lo hi a n c zs) :
    Calls Try.prog 16 #[.slice a n c, .int .i64 m] w fun e w' => e = .returned (.int .i64 (m + n)) ∧ OwnI w' lo hi a n c (marks m n) ∧ Apart lo hi w w' :=
  (markIntS_any lo a n c _ m w hs.2 h0 (by omega) ho.1).mono fun _ _ ⟨h1, h2, h3⟩ => ⟨h1, ⟨h2, ho.2⟩, Apart.grown h3 ho.2⟩

end Go.Proofs.Ytmkhdocjabflkab
