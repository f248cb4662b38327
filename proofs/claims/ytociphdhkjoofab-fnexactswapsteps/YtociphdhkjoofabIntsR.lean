/- Lists of numbers that are answered, held as the laws marked them. -/
import Derived.Test.YtociphdhkjoofabMkL
namespace Go.Proofs.Ytociphdhkjoofab
open Go.RowKit

def IntsRet (e : Ending) (w' : World) (lo : Nat) (ok : Bool) (zs : List Int) : Prop := ∃ r m d, e = .returned (.tuple #[.slice r m d, .bool ok]) ∧ zs.length = m ∧ w'.ownsRow lo 3 1 (.slice r m d) m (zs.map (.int .i64))
theorem ints_at {w : World} {F : Nat → Prop} {a : Option Addr} {n c : Nat} {zs : List Int} (h : RInts.Own w F [.slice a n c] zs) : At w a zs := (RInts.at_iff.1 (RInts.toAt h)).2.2.1
theorem Off.toBelow {lo hi B : Nat} {a b : World} (h : Off (From lo hi) a b) (hlo : B ≤ lo) (hB : B ≤ a.heap.size) : Below B a b := ⟨h.os, h.tape, h.output, h.size, fun k hk => h.block k (by omega) (fun e => by have := e.1; omega)⟩

end Go.Proofs.Ytociphdhkjoofab
