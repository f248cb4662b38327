/- Lists of numbers that are answered, held as the laws marked them. -/
import Derived.Test.YtecaaekilbdgdaaMkL
namespace Go.Proofs.Ytecaaekilbdgdaa
open Go.RowKit

def IntsRet (e : Ending) (w' : World) (lo : Nat) (ok : Bool) (zs : List Int) : Prop := ∃ r m d, e = .returned (.tuple #[.slice r m d, .bool ok]) ∧ zs.length = m ∧ w'.ownsRow lo 3 1 (.slice r m d) m (zs.map (.int .i64))
theorem ints_at {w : World} {F : Nat → Prop} {a : Option Addr} {n c : Nat} {zs : List Int} (h : RInts.Own w F [.slice a n c] zs) : At w a zs := (RInts.at_iff.1 (RInts.toAt h)).2.2.1
theorem heldInts_rep (a : Option Addr) (n c : Nat) (zs : List Int) (m : Int) (w : World) (hz : zs.length = n) (hn : n ≤ 1048576) (h0 : 0 ≤ m) (h1 : m ≤ 268435456) (ha : At w a (mkInts m zs)) :
    Calls Try.prog 26 #[.slice a n c, .int .i64 m] w fun e w' => e = .returned (.int .i64 (m + n)) ∧ Below w.heap.size w w' := by
  unfold mkInts at ha
  rw [hz] at ha
  exact (heldIntS_any a n c m w hn h0 (by omega) ha).mono fun _ _ ⟨h1, h2⟩ => ⟨h1, by first | exact h2 | (rw [h2]; exact Below.refl _ _)⟩

theorem Off.toBelow {lo hi B : Nat} {a b : World} (h : Off (From lo hi) a b) (hlo : B ≤ lo) (hB : B ≤ a.heap.size) : Below B a b := ⟨h.os, h.tape, h.output, h.size, fun k hk => h.block k (by omega) (fun e => by have := e.1; omega)⟩

end Go.Proofs.Ytecaaekilbdgdaa
