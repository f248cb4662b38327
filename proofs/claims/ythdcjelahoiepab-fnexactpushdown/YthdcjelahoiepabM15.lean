/- Contracts of impl.partOf, hasNoMore: a part by its kind. -/
import Derived.Test.YthdcjelahoiepabM12
import Derived.Test.YthdcjelahoiepabM14
namespace Go.Proofs.Ythdcjelahoiepab
open Go.RowKit

/-- A part behind the interface. -/
def partV (K A B : Int) (ta : Option Addr) (tn tc : Nat) (ca : Option Addr) (cn cc : Nat) (pa : Option Addr) (pn pc : Nat) : Value :=
  if K = 1 then .iface 95 (.agg #[.int .i64 A]) else
  if K = 2 then .iface 80 (.agg #[.int .i64 A, .slice ta tn tc]) else
  if K = 3 then .iface 97 (.agg #[.int .i64 A, .slice ca cn cc]) else
  if K = 4 then .iface 76 (.agg #[.int .i64 A, .int .i64 B, .slice pa pn pc]) else
  if K = 5 then .iface 82 (.agg #[.int .i64 A, .int .i64 B]) else
  if K = 6 then .iface 98 (.agg #[.int .i64 A, .int .i64 B]) else
  if K = 7 then .iface 78 (.agg #[.int .i64 A]) else .nilIface

theorem partV_1 {A B : Int} {ta : Option Addr} {tn tc : Nat} {ca : Option Addr} {cn cc : Nat} {pa : Option Addr} {pn pc : Nat} : partV 1 A B ta tn tc ca cn cc pa pn pc = .iface 95 (.agg #[.int .i64 A]) := by simp [partV]
theorem partV_2 {A B : Int} {ta : Option Addr} {tn tc : Nat} {ca : Option Addr} {cn cc : Nat} {pa : Option Addr} {pn pc : Nat} : partV 2 A B ta tn tc ca cn cc pa pn pc = .iface 80 (.agg #[.int .i64 A, .slice ta tn tc]) := by simp [partV]
theorem partV_3 {A B : Int} {ta : Option Addr} {tn tc : Nat} {ca : Option Addr} {cn cc : Nat} {pa : Option Addr} {pn pc : Nat} : partV 3 A B ta tn tc ca cn cc pa pn pc = .iface 97 (.agg #[.int .i64 A, .slice ca cn cc]) := by simp [partV]
theorem partV_4 {A B : Int} {ta : Option Addr} {tn tc : Nat} {ca : Option Addr} {cn cc : Nat} {pa : Option Addr} {pn pc : Nat} : partV 4 A B ta tn tc ca cn cc pa pn pc = .iface 76 (.agg #[.int .i64 A, .int .i64 B, .slice pa pn pc]) := by simp [partV]
theorem partV_5 {A B : Int} {ta : Option Addr} {tn tc : Nat} {ca : Option Addr} {cn cc : Nat} {pa : Option Addr} {pn pc : Nat} : partV 5 A B ta tn tc ca cn cc pa pn pc = .iface 82 (.agg #[.int .i64 A, .int .i64 B]) := by simp [partV]
theorem partV_6 {A B : Int} {ta : Option Addr} {tn tc : Nat} {ca : Option Addr} {cn cc : Nat} {pa : Option Addr} {pn pc : Nat} : partV 6 A B ta tn tc ca cn cc pa pn pc = .iface 98 (.agg #[.int .i64 A, .int .i64 B]) := by simp [partV]
theorem partV_7 {A B : Int} {ta : Option Addr} {tn tc : Nat} {ca : Option Addr} {cn cc : Nat} {pa : Option Addr} {pn pc : Nat} : partV 7 A B ta tn tc ca cn cc pa pn pc = .iface 78 (.agg #[.int .i64 A]) := by simp [partV]
theorem kind_cases {K : Int} (h : 1 ≤ K ∧ K ≤ 7) : K = 1 ∨ K = 2 ∨ K = 3 ∨ K = 4 ∨ K = 5 ∨ K = 6 ∨ K = 7 := by omega

set_option maxRecDepth 100000 in
set_option maxHeartbeats 4000000 in
theorem partOf_any (K A B : Int) (ta : Option Addr) (tn tc : Nat) (ca : Option Addr) (cn cc : Nat) (pa : Option Addr) (pn pc : Nat) (w : World) :
    Calls Try.prog 36 #[.agg (cellsP K A B ta tn tc ca cn cc pa pn pc).toArray] w fun e w' => e = .returned (.tuple #[partV K A B ta tn tc ca cn cc pa pn pc, .bool (decide (1 ≤ K ∧ K ≤ 7))]) ∧ Below w.heap.size w w' := by
  by_cases h : 1 ≤ K ∧ K ≤ 7
  · rcases kind_cases h with rfl | rfl | rfl | rfl | rfl | rfl | rfl
    · clear h
      rw [partV_1]
      go_enter Try.func36, Try.ntmps36
      go_wp2
      exact bodyPost_ret (v := .tuple #[.iface 95 (.agg #[.int .i64 A]), .bool true]) (by simp [results, Try.results36, go_sem]) rfl ⟨by simp, (Below.refl _ _).alloc (Nat.le_refl _) _⟩
    · clear h
      rw [partV_2]
      go_enter Try.func36, Try.ntmps36
      go_wp2
      exact bodyPost_ret (v := .tuple #[.iface 80 (.agg #[.int .i64 A, .slice ta tn tc]), .bool true]) (by simp [results, Try.results36, go_sem]) rfl ⟨by simp, (Below.refl _ _).alloc (Nat.le_refl _) _⟩
    · clear h
      rw [partV_3]
      go_enter Try.func36, Try.ntmps36
      go_wp2
      exact bodyPost_ret (v := .tuple #[.iface 97 (.agg #[.int .i64 A, .slice ca cn cc]), .bool true]) (by simp [results, Try.results36, go_sem]) rfl ⟨by simp, (Below.refl _ _).alloc (Nat.le_refl _) _⟩
    · clear h
      rw [partV_4]
      go_enter Try.func36, Try.ntmps36
      go_wp2
      exact bodyPost_ret (v := .tuple #[.iface 76 (.agg #[.int .i64 A, .int .i64 B, .slice pa pn pc]), .bool true]) (by simp [results, Try.results36, go_sem]) rfl ⟨by simp, (Below.refl _ _).alloc (Nat.le_refl _) _⟩
    · clear h
      rw [partV_5]
      go_enter Try.func36, Try.ntmps36
      go_wp2
      exact bodyPost_ret (v := .tuple #[.iface 82 (.agg #[.int .i64 A, .int .i64 B]), .bool true]) (by simp [results, Try.results36, go_sem]) rfl ⟨by simp, (Below.refl _ _).alloc (Nat.le_refl _) _⟩
    · clear h
      rw [partV_6]
      go_enter Try.func36, Try.ntmps36
      go_wp2
      exact bodyPost_ret (v := .tuple #[.iface 98 (.agg #[.int .i64 A, .int .i64 B]), .bool true]) (by simp [results, Try.results36, go_sem]) rfl ⟨by simp, (Below.refl _ _).alloc (Nat.le_refl _) _⟩
    · clear h
      rw [partV_7]
      go_enter Try.func36, Try.ntmps36
      go_wp2
      exact bodyPost_ret (v := .tuple #[.iface 78 (.agg #[.int .i64 A]), .bool true]) (by simp [results, Try.results36, go_sem]) rfl ⟨by simp, (Below.refl _ _).alloc (Nat.le_refl _) _⟩
  · have HN : Hid (partV K A B ta tn tc ca cn cc pa pn pc = .nilIface) := by
      show _ = _
      unfold partV
      rw [if_neg (by omega), if_neg (by omega), if_neg (by omega), if_neg (by omega), if_neg (by omega), if_neg (by omega), if_neg (by omega)]
    have HD : Hid (decide (1 ≤ K ∧ K ≤ 7) = false) := decide_eq_false h
    have h1 : ¬ K = 1 := by omega
    have h2 : ¬ K = 2 := by omega
    have h3 : ¬ K = 3 := by omega
    have h4 : ¬ K = 4 := by omega
    have h5 : ¬ K = 5 := by omega
    have h6 : ¬ K = 6 := by omega
    have h7 : ¬ K = 7 := by omega
    clear h
    go_enter Try.func36, Try.ntmps36
    go_wp2
    refine bodyPost_ret (v := .tuple #[.nilIface, .bool false]) (by simp [results, Try.results36, go_sem]) rfl ⟨?_, (Below.refl _ _).alloc (Nat.le_refl _) _⟩
    rw [HN.out, HD.out]

def sameMore (B B' : Int) (tn tn' cn cn' pn pn' : Nat) : Bool := decide (tn = tn') && (decide (cn = cn') && (decide (pn = pn') && decide (B = B')))

set_option maxRecDepth 100000 in
set_option maxHeartbeats 4000000 in
theorem hasNoMore_any (K A B : Int) (ta : Option Addr) (tn tc : Nat) (ca : Option Addr) (cn cc : Nat) (pa : Option Addr) (pn pc : Nat) (K' A' B' : Int) (ta' : Option Addr) (tn' tc' : Nat) (ca' : Option Addr) (cn' cc' : Nat) (pa' : Option Addr) (pn' pc' : Nat) (w : World) :
    Calls Try.prog 37 #[.agg (cellsP K A B ta tn tc ca cn cc pa pn pc).toArray, .agg (cellsP K' A' B' ta' tn' tc' ca' cn' cc' pa' pn' pc').toArray] w fun e w' => e = .returned (.bool (sameMore B B' tn tn' cn cn' pn pn')) ∧ Below w.heap.size w w' := by
  by_cases h1 : B = B'
  · subst h1
    by_cases h2 : tn = tn'
    · subst h2
      by_cases h3 : cn = cn'
      · subst h3
        by_cases h4 : pn = pn'
        · subst h4
          have HV : Hid (sameMore B B tn tn cn cn pn pn = true) := by show _ = _; simp [sameMore]
          have z : True := trivial
          go_enter Try.func37, Try.ntmps37
          go_wp2
          go_ret
          exact ⟨by first | exact ret_bool HV.out.symm | exact ret_bool (by rw [HV.out]; simp; omega), ((Below.refl _ _).alloc (Nat.le_refl _) _).alloc (by simp) _⟩
        · have HV : Hid (sameMore B B tn tn cn cn pn pn' = false) := by show _ = _; simp [sameMore, h4]
          have h4' : ¬ (pn : Int) = (pn' : Int) := by omega
          clear h4
          have z : True := trivial
          go_enter Try.func37, Try.ntmps37
          go_wp2
          go_ret
          exact ⟨by first | exact ret_bool HV.out.symm | exact ret_bool (by rw [HV.out]; simp; omega), ((Below.refl _ _).alloc (Nat.le_refl _) _).alloc (by simp) _⟩
      · have HV : Hid (sameMore B B tn tn cn cn' pn pn' = false) := by show _ = _; simp [sameMore, h3]
        have h3' : ¬ (cn : Int) = (cn' : Int) := by omega
        clear h3
        have z : True := trivial
        go_enter Try.func37, Try.ntmps37
        go_wp2
        go_ret
        exact ⟨by first | exact ret_bool HV.out.symm | exact ret_bool (by rw [HV.out]; simp; omega), ((Below.refl _ _).alloc (Nat.le_refl _) _).alloc (by simp) _⟩
    · have HV : Hid (sameMore B B tn tn' cn cn' pn pn' = false) := by show _ = _; simp [sameMore, h2]
      have h2' : ¬ (tn : Int) = (tn' : Int) := by omega
      clear h2
      have z : True := trivial
      go_enter Try.func37, Try.ntmps37
      go_wp2
      go_ret
      exact ⟨by first | exact ret_bool HV.out.symm | exact ret_bool (by rw [HV.out]; simp; omega), ((Below.refl _ _).alloc (Nat.le_refl _) _).alloc (by simp) _⟩
  · have HV : Hid (sameMore B B' tn tn' cn cn' pn pn' = false) := by show _ = _; simp [sameMore, h1]
    have z : True := trivial
    go_enter Try.func37, Try.ntmps37
    go_wp2
    go_ret
    exact ⟨by first | exact ret_bool HV.out.symm | exact ret_bool (by rw [HV.out]; simp; omega), ((Below.refl _ _).alloc (Nat.le_refl _) _).alloc (by simp) _⟩

end Go.Proofs.Ythdcjelahoiepab
