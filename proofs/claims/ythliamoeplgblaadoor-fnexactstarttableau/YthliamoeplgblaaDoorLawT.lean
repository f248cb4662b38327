/- The laws' helpers over lists of lists of numbers, in one form. -/
import Derived.Test.YthliamoeplgblaaDoorPairM
import Derived.Test.YthliamoeplgblaaDoorTbM
namespace Go.Proofs.YthliamoeplgblaaDoor
open Go.RowKit

theorem szIntSS_nat (a : Option Addr) (n c : Nat) (zss : List (List Int)) (l : Int) (w : World) (hz : zss.length = n) (hn : n ≤ 9223372036854775807) (h0 : 0 ≤ l) (h1 : l ≤ 1048576) (ha : AtS w a zss) :
    Calls Tryd.prog 5 #[.slice a n c, .int .i64 l] w fun e w' => e = .returned (.int .i64 (leftOf l (n + tot zss n : Nat))) ∧ Below w.heap.size w w' :=
  (szIntSS_at a n c zss l w hz hn h0 h1 ha).mono fun _ _ ⟨h1, h2⟩ => ⟨by rw [h1]; push_cast; rfl, h2⟩
theorem pairs_atS {w : World} {F : Nat → Prop} {a : Option Addr} {n c : Nat} {zss : List (List Int)} (h : RPairs.Own w F [.slice a n c] zss) : AtS w a zss := by
  obtain ⟨a', n', c', e, t1, t2, t3, _⟩ := RPairs.toAt h
  simp only [List.cons.injEq, Value.slice.injEq, and_true] at e
  obtain ⟨rfl, rfl, rfl⟩ := e
  exact atSl_ints t3

end Go.Proofs.YthliamoeplgblaaDoor
