/- The laws' helpers over lists of pairs in one form, as LawG has them over tables. -/
import Derived.Test.YtpnaoahlfhbbmaaLawG
import Derived.Test.YtpnaoahlfhbbmaaIntSS
import Derived.Test.YtpnaoahlfhbbmaaMarkSS
namespace Go.Proofs.Ytpnaoahlfhbbmaa
open Go.RowKit

/-- A list of lists of ints that the laws' bound allows. -/
def SmP (zss : List (List Int)) (n : Nat) : Prop := zss.length = n ∧ n + tot zss n ≤ 1048576
theorem SmP.n {zss : List (List Int)} {n : Nat} (h : SmP zss n) : n ≤ 1048576 := by have := h.2; omega
theorem SmP.each {zss : List (List Int)} {n : Nat} (h : SmP zss n) : ∀ i, i < zss.length → (zss.getD i []).length ≤ 1048576 := fun i hi => by
  have := tot_each zss n h.1 i hi
  have := h.2
  omega

/-- A slice of lists that the call made: its blocks lie from lo on and below hi. -/
def OwnP (w : World) (lo hi : Nat) (a : Option Addr) (n c : Nat) (zss : List (List Int)) : Prop := ∃ g, a = some ⟨g, 0, none⟩ ∧ c = n ∧ OwnS w lo hi 44 3 g n zss
/-- What was marked: nothing is said of it any more. -/
def Gone (_ : World) (_ _ : Nat) : Prop := True

theorem OwnS.apart {w w' : World} {lo hi lo' hi' : Nat} {t e : TypeId} {g n : Nat} {zss : List (List Int)} (h : OwnS w lo hi t e g n zss) (hp : Apart lo' hi' w w') (hd : hi ≤ lo' ∨ hi' ≤ lo) : OwnS w' lo hi t e g n zss := by
  obtain ⟨vs, L, h1, h2, h3, h4, h5, h6, h7, h8, h9⟩ := h
  have hm := mono_le h5
  have q0 := hm 0 n (by omega) (Nat.le_refl _)
  refine ⟨vs, L, h1, h2, h3, h4, h5, h6, Nat.le_trans h7 hp.size, ?_, fun i hi => ?_⟩
  · exact (hp.block g (Array.getElem?_eq_some_iff.1 h8).1 (by omega)).trans h8
  · obtain ⟨a, c, k1, k2, k3⟩ := h9 i hi
    refine ⟨a, c, k1, hp.owns k2 (fun k hv => ?_), k3⟩
    have q1 := (k2.lt k hv).1
    have q2 := k3 k hv
    have q4 := hm 0 i (by omega) (by omega)
    have q5 := hm (i + 1) n (by omega) (Nat.le_refl _)
    omega

section
variable {w w' : World} {lo hi : Nat} {a : Option Addr} {n c : Nat} {zss : List (List Int)}
theorem OwnP.below (h : OwnP w lo hi a n c zss) (hb : Below w.heap.size w w') : OwnP w' lo hi a n c zss := by
  obtain ⟨g, h1, h2, h3⟩ := h
  exact ⟨g, h1, h2, h3.below hb⟩
theorem OwnP.apartW {lo' hi' : Nat} (h : OwnP w lo hi a n c zss) (hp : Apart lo' hi' w w') (hd : hi ≤ lo' ∨ hi' ≤ lo) : OwnP w' lo hi a n c zss := by
  obtain ⟨g, h1, h2, h3⟩ := h
  exact ⟨g, h1, h2, h3.apart hp hd⟩
theorem OwnP.at (h : OwnP w lo hi a n c zss) (hs : SmP zss n) : AtS w a zss := by
  obtain ⟨g, rfl, h2, h3⟩ := h
  exact h3.atS fun i hi => Nat.le_trans (hs.each i hi) (by decide)
theorem Gone.below (_ : Gone w lo hi) (_ : Below w.heap.size w w') : Gone w' lo hi := trivial
theorem Gone.apartW {lo' hi' : Nat} (_ : Gone w lo hi) (_ : Apart lo' hi' w w') (_ : hi ≤ lo' ∨ hi' ≤ lo) : Gone w' lo hi := trivial
end

theorem szIntSSG (a : Option Addr) (n c : Nat) (zss : List (List Int)) (l : Int) (w : World) (hz : zss.length = n) (hn : n ≤ 9223372036854775807) (h0 : 0 ≤ l) (h1 : l ≤ 1048576) (ha : AtS w a zss) :
    Calls Try.prog 5 #[.slice a n c, .int .i64 l] w fun e w' => e = .returned (.int .i64 (leftOf l ((n + tot zss n : Nat) : Int))) ∧ Below w.heap.size w w' :=
  (szIntSS_at a n c zss l w hz hn h0 h1 ha).mono fun _ _ ⟨h1, h2⟩ => ⟨by rw [h1, Int.natCast_add], h2⟩
theorem toIntSSG (a : Option Addr) (n c : Nat) (zss : List (List Int)) (w : World) (hs : SmP zss n) (ha : AtS w a zss) :
    Calls Try.prog 7 #[.slice a n c] w fun e w' => ∃ g, e = .returned (.slice (some ⟨g, 0, none⟩) n n) ∧ OwnP w' w.heap.size w'.heap.size (some ⟨g, 0, none⟩) n n zss ∧ Below w.heap.size w w' :=
  (toIntSS_at a n c zss w hs.1 hs.n hs.each ha).mono fun _ _ ⟨g, h1, h2, h3⟩ => ⟨g, h1, ⟨g, rfl, rfl, h2⟩, h3⟩
theorem eqIntSSG (a a' : Option Addr) (n c c' : Nat) (zss : List (List Int)) (w : World) (hs : SmP zss n) (ha : AtS w a zss) (ha' : AtS w a' zss) :
    Calls Try.prog 9 #[.slice a n c, .slice a' n c'] w fun e w' => e = .returned (.bool true) ∧ Below w.heap.size w w' :=
  (eqIntSS_any a a' n n c c' zss zss w hs.1 hs.1 hs.n hs.n hs.each hs.each ha ha').mono fun _ _ ⟨h1, h2⟩ => ⟨by rw [h1, decide_eq_true rfl], h2⟩
theorem markIntSSG (lo hi : Nat) (a : Option Addr) (n c : Nat) (zss : List (List Int)) (m : Int) (w : World) (hs : SmP zss n) (h0 : 0 ≤ m) (h1 : m ≤ 268435456) (ho : OwnP w lo hi a n c zss) :
    Calls Try.prog 17 #[.slice a n c, .int .i64 m] w fun e w' => e = .returned (.int .i64 (m + (tot zss n : Nat))) ∧ Gone w' lo hi ∧ Apart lo hi w w' := by
  obtain ⟨g, rfl, rfl, h⟩ := ho
  exact (markIntSS_any lo hi g _ zss m w hs.n hs.each (by have := hs.2; omega) h0 h1 h).mono fun _ _ ⟨h1, h2⟩ => ⟨h1, trivial, h2⟩

end Go.Proofs.Ytpnaoahlfhbbmaa
