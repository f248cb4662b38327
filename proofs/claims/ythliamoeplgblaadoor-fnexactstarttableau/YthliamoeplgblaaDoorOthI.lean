/- Contract of columnSet.others. -/
import Derived.Test.YthliamoeplgblaaDoorCloI
namespace Go.Proofs.YthliamoeplgblaaDoor
open Go.RowKit

/-- What of the first q columns is not in T. -/
def oth (q T : Nat) : Nat := (2 ^ q - 1) &&& (18446744073709551615 - T)
theorem others_any (T q : Nat) (w : World) (hT : T < 64) (hq : q ≤ 6) :
    Calls Tryd.prog 45 #[.int .u64 (T : Nat), .int .i64 (q : Nat)] w fun e w' => e = .returned (.int .u64 (oth q T : Nat)) ∧ w' = w := by
  have h2 : 2 ^ q ≤ 64 := by have : 2 ^ q ≤ 2 ^ 6 := Nat.pow_le_pow_right (by omega) hq; omega
  have h1 : 1 ≤ 2 ^ q := Nat.one_le_two_pow
  have e1 : IntKind.u64.wrap (2 ^ q) = ((2 ^ q : Nat) : Int) := by
    have := wrap64_small (n := 2 ^ q) (by omega)
    rw [← this]; congr 1
  have e2 : IntKind.u64.wrap (((2 ^ q : Nat) : Int) - 1) = ((2 ^ q - 1 : Nat) : Int) := by
    rw [show ((2 ^ q : Nat) : Int) - 1 = ((2 ^ q - 1 : Nat) : Int) by omega]; exact wrap64_small (by omega)
  have e3 := u64_andNot_nat (2 ^ q - 1) T (by omega) (by omega)
  have e4 : bits .andNot .u64 (IntKind.u64.wrap (IntKind.u64.wrap (2 ^ q) - 1)) (T : Int) = (oth q T : Int) := by rw [e1, e2, e3]; rfl
  have H4 := Hid.mk e4
  clear e1 e2 e3 e4
  go_enter Tryd.func45, Tryd.ntmps45
  go_wp2
  go_ret
  refine ⟨?_, rfl⟩
  rw [← H4.out]
  rfl


end Go.Proofs.YthliamoeplgblaaDoor
