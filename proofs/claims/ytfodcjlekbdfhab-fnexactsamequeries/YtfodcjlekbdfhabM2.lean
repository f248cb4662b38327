/- Several texts of one proof, in build order: WyW, GroundS, GroundT. -/
import Derived.Test.YtfodcjlekbdfhabM0
import Derived.Test.YtfodcjlekbdfhabRows
import Derived.Deep.CutBlock

/- Contracts of impl.way.with, at each variable. -/
namespace Go.Proofs.Ytfodcjlekbdfhab
open Go.RowKit

set_option maxRecDepth 100000 in
set_option maxHeartbeats 4000000 in
theorem with0_new (k1 k2 k3 k4 k5 : Bool) (n0 n1 n2 n3 n4 n5 : Int) (x : Int) (w : World) :
    Calls Try.prog 53 #[.agg #[.bool false, .bool k1, .bool k2, .bool k3, .bool k4, .bool k5, .int .i64 n0, .int .i64 n1, .int .i64 n2, .int .i64 n3, .int .i64 n4, .int .i64 n5], .int .i64 0, .int .i64 x] w fun e w' => e = .returned (.tuple #[.agg #[.bool true, .bool k1, .bool k2, .bool k3, .bool k4, .bool k5, .int .i64 x, .int .i64 n1, .int .i64 n2, .int .i64 n3, .int .i64 n4, .int .i64 n5], .bool true]) ∧ Below w.heap.size w w' := by
  go_enter Try.func53, Try.ntmps53
  go_wp2
  exact bodyPost_ret (v := .tuple #[.agg #[.bool true, .bool k1, .bool k2, .bool k3, .bool k4, .bool k5, .int .i64 x, .int .i64 n1, .int .i64 n2, .int .i64 n3, .int .i64 n4, .int .i64 n5], .bool true]) (by simp [results, Try.results53, go_sem]) rfl ⟨rfl, ((Below.refl _ _).alloc (Nat.le_refl _) _).alloc (by simp) _⟩

set_option maxRecDepth 100000 in
set_option maxHeartbeats 4000000 in
theorem with0_old (k1 k2 k3 k4 k5 : Bool) (n0 n1 n2 n3 n4 n5 : Int) (x : Int) (w : World) :
    Calls Try.prog 53 #[.agg #[.bool true, .bool k1, .bool k2, .bool k3, .bool k4, .bool k5, .int .i64 n0, .int .i64 n1, .int .i64 n2, .int .i64 n3, .int .i64 n4, .int .i64 n5], .int .i64 0, .int .i64 x] w fun e w' => e = .returned (.tuple #[.agg #[.bool true, .bool k1, .bool k2, .bool k3, .bool k4, .bool k5, .int .i64 n0, .int .i64 n1, .int .i64 n2, .int .i64 n3, .int .i64 n4, .int .i64 n5], .bool (n0 == x)]) ∧ Below w.heap.size w w' := by
  go_enter Try.func53, Try.ntmps53
  go_wp2_with fail
  go_region
  go_wp2
  exact bodyPost_ret (v := .tuple #[.agg #[.bool true, .bool k1, .bool k2, .bool k3, .bool k4, .bool k5, .int .i64 n0, .int .i64 n1, .int .i64 n2, .int .i64 n3, .int .i64 n4, .int .i64 n5], .bool (n0 == x)]) (by simp [results, Try.results53, go_sem]) rfl ⟨rfl, (((Below.refl _ _).alloc (Nat.le_refl _) _).alloc (by simp) _).drew⟩

set_option maxRecDepth 100000 in
set_option maxHeartbeats 4000000 in
theorem with1_new (k0 k2 k3 k4 k5 : Bool) (n0 n1 n2 n3 n4 n5 : Int) (x : Int) (w : World) :
    Calls Try.prog 53 #[.agg #[.bool k0, .bool false, .bool k2, .bool k3, .bool k4, .bool k5, .int .i64 n0, .int .i64 n1, .int .i64 n2, .int .i64 n3, .int .i64 n4, .int .i64 n5], .int .i64 1, .int .i64 x] w fun e w' => e = .returned (.tuple #[.agg #[.bool k0, .bool true, .bool k2, .bool k3, .bool k4, .bool k5, .int .i64 n0, .int .i64 x, .int .i64 n2, .int .i64 n3, .int .i64 n4, .int .i64 n5], .bool true]) ∧ Below w.heap.size w w' := by
  go_enter Try.func53, Try.ntmps53
  go_wp2
  exact bodyPost_ret (v := .tuple #[.agg #[.bool k0, .bool true, .bool k2, .bool k3, .bool k4, .bool k5, .int .i64 n0, .int .i64 x, .int .i64 n2, .int .i64 n3, .int .i64 n4, .int .i64 n5], .bool true]) (by simp [results, Try.results53, go_sem]) rfl ⟨rfl, ((Below.refl _ _).alloc (Nat.le_refl _) _).alloc (by simp) _⟩

set_option maxRecDepth 100000 in
set_option maxHeartbeats 4000000 in
theorem with1_old (k0 k2 k3 k4 k5 : Bool) (n0 n1 n2 n3 n4 n5 : Int) (x : Int) (w : World) :
    Calls Try.prog 53 #[.agg #[.bool k0, .bool true, .bool k2, .bool k3, .bool k4, .bool k5, .int .i64 n0, .int .i64 n1, .int .i64 n2, .int .i64 n3, .int .i64 n4, .int .i64 n5], .int .i64 1, .int .i64 x] w fun e w' => e = .returned (.tuple #[.agg #[.bool k0, .bool true, .bool k2, .bool k3, .bool k4, .bool k5, .int .i64 n0, .int .i64 n1, .int .i64 n2, .int .i64 n3, .int .i64 n4, .int .i64 n5], .bool (n1 == x)]) ∧ Below w.heap.size w w' := by
  go_enter Try.func53, Try.ntmps53
  go_wp2_with fail
  go_region
  go_wp2
  exact bodyPost_ret (v := .tuple #[.agg #[.bool k0, .bool true, .bool k2, .bool k3, .bool k4, .bool k5, .int .i64 n0, .int .i64 n1, .int .i64 n2, .int .i64 n3, .int .i64 n4, .int .i64 n5], .bool (n1 == x)]) (by simp [results, Try.results53, go_sem]) rfl ⟨rfl, (((Below.refl _ _).alloc (Nat.le_refl _) _).alloc (by simp) _).drew⟩

set_option maxRecDepth 100000 in
set_option maxHeartbeats 4000000 in
theorem with2_new (k0 k1 k3 k4 k5 : Bool) (n0 n1 n2 n3 n4 n5 : Int) (x : Int) (w : World) :
    Calls Try.prog 53 #[.agg #[.bool k0, .bool k1, .bool false, .bool k3, .bool k4, .bool k5, .int .i64 n0, .int .i64 n1, .int .i64 n2, .int .i64 n3, .int .i64 n4, .int .i64 n5], .int .i64 2, .int .i64 x] w fun e w' => e = .returned (.tuple #[.agg #[.bool k0, .bool k1, .bool true, .bool k3, .bool k4, .bool k5, .int .i64 n0, .int .i64 n1, .int .i64 x, .int .i64 n3, .int .i64 n4, .int .i64 n5], .bool true]) ∧ Below w.heap.size w w' := by
  go_enter Try.func53, Try.ntmps53
  go_wp2
  exact bodyPost_ret (v := .tuple #[.agg #[.bool k0, .bool k1, .bool true, .bool k3, .bool k4, .bool k5, .int .i64 n0, .int .i64 n1, .int .i64 x, .int .i64 n3, .int .i64 n4, .int .i64 n5], .bool true]) (by simp [results, Try.results53, go_sem]) rfl ⟨rfl, ((Below.refl _ _).alloc (Nat.le_refl _) _).alloc (by simp) _⟩

set_option maxRecDepth 100000 in
set_option maxHeartbeats 4000000 in
theorem with2_old (k0 k1 k3 k4 k5 : Bool) (n0 n1 n2 n3 n4 n5 : Int) (x : Int) (w : World) :
    Calls Try.prog 53 #[.agg #[.bool k0, .bool k1, .bool true, .bool k3, .bool k4, .bool k5, .int .i64 n0, .int .i64 n1, .int .i64 n2, .int .i64 n3, .int .i64 n4, .int .i64 n5], .int .i64 2, .int .i64 x] w fun e w' => e = .returned (.tuple #[.agg #[.bool k0, .bool k1, .bool true, .bool k3, .bool k4, .bool k5, .int .i64 n0, .int .i64 n1, .int .i64 n2, .int .i64 n3, .int .i64 n4, .int .i64 n5], .bool (n2 == x)]) ∧ Below w.heap.size w w' := by
  go_enter Try.func53, Try.ntmps53
  go_wp2_with fail
  go_region
  go_wp2
  exact bodyPost_ret (v := .tuple #[.agg #[.bool k0, .bool k1, .bool true, .bool k3, .bool k4, .bool k5, .int .i64 n0, .int .i64 n1, .int .i64 n2, .int .i64 n3, .int .i64 n4, .int .i64 n5], .bool (n2 == x)]) (by simp [results, Try.results53, go_sem]) rfl ⟨rfl, (((Below.refl _ _).alloc (Nat.le_refl _) _).alloc (by simp) _).drew⟩

set_option maxRecDepth 100000 in
set_option maxHeartbeats 4000000 in
theorem with3_new (k0 k1 k2 k4 k5 : Bool) (n0 n1 n2 n3 n4 n5 : Int) (x : Int) (w : World) :
    Calls Try.prog 53 #[.agg #[.bool k0, .bool k1, .bool k2, .bool false, .bool k4, .bool k5, .int .i64 n0, .int .i64 n1, .int .i64 n2, .int .i64 n3, .int .i64 n4, .int .i64 n5], .int .i64 3, .int .i64 x] w fun e w' => e = .returned (.tuple #[.agg #[.bool k0, .bool k1, .bool k2, .bool true, .bool k4, .bool k5, .int .i64 n0, .int .i64 n1, .int .i64 n2, .int .i64 x, .int .i64 n4, .int .i64 n5], .bool true]) ∧ Below w.heap.size w w' := by
  go_enter Try.func53, Try.ntmps53
  go_wp2
  exact bodyPost_ret (v := .tuple #[.agg #[.bool k0, .bool k1, .bool k2, .bool true, .bool k4, .bool k5, .int .i64 n0, .int .i64 n1, .int .i64 n2, .int .i64 x, .int .i64 n4, .int .i64 n5], .bool true]) (by simp [results, Try.results53, go_sem]) rfl ⟨rfl, ((Below.refl _ _).alloc (Nat.le_refl _) _).alloc (by simp) _⟩

set_option maxRecDepth 100000 in
set_option maxHeartbeats 4000000 in
theorem with3_old (k0 k1 k2 k4 k5 : Bool) (n0 n1 n2 n3 n4 n5 : Int) (x : Int) (w : World) :
    Calls Try.prog 53 #[.agg #[.bool k0, .bool k1, .bool k2, .bool true, .bool k4, .bool k5, .int .i64 n0, .int .i64 n1, .int .i64 n2, .int .i64 n3, .int .i64 n4, .int .i64 n5], .int .i64 3, .int .i64 x] w fun e w' => e = .returned (.tuple #[.agg #[.bool k0, .bool k1, .bool k2, .bool true, .bool k4, .bool k5, .int .i64 n0, .int .i64 n1, .int .i64 n2, .int .i64 n3, .int .i64 n4, .int .i64 n5], .bool (n3 == x)]) ∧ Below w.heap.size w w' := by
  go_enter Try.func53, Try.ntmps53
  go_wp2_with fail
  go_region
  go_wp2
  exact bodyPost_ret (v := .tuple #[.agg #[.bool k0, .bool k1, .bool k2, .bool true, .bool k4, .bool k5, .int .i64 n0, .int .i64 n1, .int .i64 n2, .int .i64 n3, .int .i64 n4, .int .i64 n5], .bool (n3 == x)]) (by simp [results, Try.results53, go_sem]) rfl ⟨rfl, (((Below.refl _ _).alloc (Nat.le_refl _) _).alloc (by simp) _).drew⟩

set_option maxRecDepth 100000 in
set_option maxHeartbeats 4000000 in
theorem with4_new (k0 k1 k2 k3 k5 : Bool) (n0 n1 n2 n3 n4 n5 : Int) (x : Int) (w : World) :
    Calls Try.prog 53 #[.agg #[.bool k0, .bool k1, .bool k2, .bool k3, .bool false, .bool k5, .int .i64 n0, .int .i64 n1, .int .i64 n2, .int .i64 n3, .int .i64 n4, .int .i64 n5], .int .i64 4, .int .i64 x] w fun e w' => e = .returned (.tuple #[.agg #[.bool k0, .bool k1, .bool k2, .bool k3, .bool true, .bool k5, .int .i64 n0, .int .i64 n1, .int .i64 n2, .int .i64 n3, .int .i64 x, .int .i64 n5], .bool true]) ∧ Below w.heap.size w w' := by
  go_enter Try.func53, Try.ntmps53
  go_wp2
  exact bodyPost_ret (v := .tuple #[.agg #[.bool k0, .bool k1, .bool k2, .bool k3, .bool true, .bool k5, .int .i64 n0, .int .i64 n1, .int .i64 n2, .int .i64 n3, .int .i64 x, .int .i64 n5], .bool true]) (by simp [results, Try.results53, go_sem]) rfl ⟨rfl, ((Below.refl _ _).alloc (Nat.le_refl _) _).alloc (by simp) _⟩

set_option maxRecDepth 100000 in
set_option maxHeartbeats 4000000 in
theorem with4_old (k0 k1 k2 k3 k5 : Bool) (n0 n1 n2 n3 n4 n5 : Int) (x : Int) (w : World) :
    Calls Try.prog 53 #[.agg #[.bool k0, .bool k1, .bool k2, .bool k3, .bool true, .bool k5, .int .i64 n0, .int .i64 n1, .int .i64 n2, .int .i64 n3, .int .i64 n4, .int .i64 n5], .int .i64 4, .int .i64 x] w fun e w' => e = .returned (.tuple #[.agg #[.bool k0, .bool k1, .bool k2, .bool k3, .bool true, .bool k5, .int .i64 n0, .int .i64 n1, .int .i64 n2, .int .i64 n3, .int .i64 n4, .int .i64 n5], .bool (n4 == x)]) ∧ Below w.heap.size w w' := by
  go_enter Try.func53, Try.ntmps53
  go_wp2_with fail
  go_region
  go_wp2
  exact bodyPost_ret (v := .tuple #[.agg #[.bool k0, .bool k1, .bool k2, .bool k3, .bool true, .bool k5, .int .i64 n0, .int .i64 n1, .int .i64 n2, .int .i64 n3, .int .i64 n4, .int .i64 n5], .bool (n4 == x)]) (by simp [results, Try.results53, go_sem]) rfl ⟨rfl, (((Below.refl _ _).alloc (Nat.le_refl _) _).alloc (by simp) _).drew⟩

set_option maxRecDepth 100000 in
set_option maxHeartbeats 4000000 in
theorem with5_new (k0 k1 k2 k3 k4 : Bool) (n0 n1 n2 n3 n4 n5 : Int) (x : Int) (w : World) :
    Calls Try.prog 53 #[.agg #[.bool k0, .bool k1, .bool k2, .bool k3, .bool k4, .bool false, .int .i64 n0, .int .i64 n1, .int .i64 n2, .int .i64 n3, .int .i64 n4, .int .i64 n5], .int .i64 5, .int .i64 x] w fun e w' => e = .returned (.tuple #[.agg #[.bool k0, .bool k1, .bool k2, .bool k3, .bool k4, .bool true, .int .i64 n0, .int .i64 n1, .int .i64 n2, .int .i64 n3, .int .i64 n4, .int .i64 x], .bool true]) ∧ Below w.heap.size w w' := by
  go_enter Try.func53, Try.ntmps53
  go_wp2
  exact bodyPost_ret (v := .tuple #[.agg #[.bool k0, .bool k1, .bool k2, .bool k3, .bool k4, .bool true, .int .i64 n0, .int .i64 n1, .int .i64 n2, .int .i64 n3, .int .i64 n4, .int .i64 x], .bool true]) (by simp [results, Try.results53, go_sem]) rfl ⟨rfl, ((Below.refl _ _).alloc (Nat.le_refl _) _).alloc (by simp) _⟩

set_option maxRecDepth 100000 in
set_option maxHeartbeats 4000000 in
theorem with5_old (k0 k1 k2 k3 k4 : Bool) (n0 n1 n2 n3 n4 n5 : Int) (x : Int) (w : World) :
    Calls Try.prog 53 #[.agg #[.bool k0, .bool k1, .bool k2, .bool k3, .bool k4, .bool true, .int .i64 n0, .int .i64 n1, .int .i64 n2, .int .i64 n3, .int .i64 n4, .int .i64 n5], .int .i64 5, .int .i64 x] w fun e w' => e = .returned (.tuple #[.agg #[.bool k0, .bool k1, .bool k2, .bool k3, .bool k4, .bool true, .int .i64 n0, .int .i64 n1, .int .i64 n2, .int .i64 n3, .int .i64 n4, .int .i64 n5], .bool (n5 == x)]) ∧ Below w.heap.size w w' := by
  go_enter Try.func53, Try.ntmps53
  go_wp2_with fail
  go_region
  go_wp2
  exact bodyPost_ret (v := .tuple #[.agg #[.bool k0, .bool k1, .bool k2, .bool k3, .bool k4, .bool true, .int .i64 n0, .int .i64 n1, .int .i64 n2, .int .i64 n3, .int .i64 n4, .int .i64 n5], .bool (n5 == x)]) (by simp [results, Try.results53, go_sem]) rfl ⟨rfl, (((Below.refl _ _).alloc (Nat.le_refl _) _).alloc (by simp) _).drew⟩

theorem with_any (m : Wy) (v x : Int) (w : World) (hm : m.length = 6) (h0 : 0 ≤ v) (h6 : v < 6) :
    Calls Try.prog 53 #[.agg (wcells m).toArray, .int .i64 v, .int .i64 x] w fun e w' => e = .returned (.tuple #[.agg (wcells (wWith m v x).1).toArray, .bool (wWith m v x).2]) ∧ Below w.heap.size w w' := by
  match m, hm with
  | [o0, o1, o2, o3, o4, o5], _ =>
    have hv : v = 0 ∨ v = 1 ∨ v = 2 ∨ v = 3 ∨ v = 4 ∨ v = 5 := by omega
    rcases hv with rfl | rfl | rfl | rfl | rfl | rfl
    · cases o0 with
      | none => exact with0_new o1.isSome o2.isSome o3.isSome o4.isSome o5.isSome 0 (o1.getD 0) (o2.getD 0) (o3.getD 0) (o4.getD 0) (o5.getD 0) x w
      | some y => exact with0_old o1.isSome o2.isSome o3.isSome o4.isSome o5.isSome y (o1.getD 0) (o2.getD 0) (o3.getD 0) (o4.getD 0) (o5.getD 0) x w
    · cases o1 with
      | none => exact with1_new o0.isSome o2.isSome o3.isSome o4.isSome o5.isSome (o0.getD 0) 0 (o2.getD 0) (o3.getD 0) (o4.getD 0) (o5.getD 0) x w
      | some y => exact with1_old o0.isSome o2.isSome o3.isSome o4.isSome o5.isSome (o0.getD 0) y (o2.getD 0) (o3.getD 0) (o4.getD 0) (o5.getD 0) x w
    · cases o2 with
      | none => exact with2_new o0.isSome o1.isSome o3.isSome o4.isSome o5.isSome (o0.getD 0) (o1.getD 0) 0 (o3.getD 0) (o4.getD 0) (o5.getD 0) x w
      | some y => exact with2_old o0.isSome o1.isSome o3.isSome o4.isSome o5.isSome (o0.getD 0) (o1.getD 0) y (o3.getD 0) (o4.getD 0) (o5.getD 0) x w
    · cases o3 with
      | none => exact with3_new o0.isSome o1.isSome o2.isSome o4.isSome o5.isSome (o0.getD 0) (o1.getD 0) (o2.getD 0) 0 (o4.getD 0) (o5.getD 0) x w
      | some y => exact with3_old o0.isSome o1.isSome o2.isSome o4.isSome o5.isSome (o0.getD 0) (o1.getD 0) (o2.getD 0) y (o4.getD 0) (o5.getD 0) x w
    · cases o4 with
      | none => exact with4_new o0.isSome o1.isSome o2.isSome o3.isSome o5.isSome (o0.getD 0) (o1.getD 0) (o2.getD 0) (o3.getD 0) 0 (o5.getD 0) x w
      | some y => exact with4_old o0.isSome o1.isSome o2.isSome o3.isSome o5.isSome (o0.getD 0) (o1.getD 0) (o2.getD 0) (o3.getD 0) y (o5.getD 0) x w
    · cases o5 with
      | none => exact with5_new o0.isSome o1.isSome o2.isSome o3.isSome o4.isSome (o0.getD 0) (o1.getD 0) (o2.getD 0) (o3.getD 0) (o4.getD 0) 0 x w
      | some y => exact with5_old o0.isSome o1.isSome o2.isSome o3.isSome o4.isSome (o0.getD 0) (o1.getD 0) (o2.getD 0) (o3.getD 0) (o4.getD 0) y x w

end Go.Proofs.Ytfodcjlekbdfhab

/- Plain facts on slices of slices of ints. -/
namespace Go.Proofs.Ytfodcjlekbdfhab
open Go.RowKit

/-- A slice of slices of ints with the address a holds the lists zss in the world w. -/
def AtS (w : World) (a : Option Addr) (zss : List (List Int)) : Prop :=
  zss = [] ∨ ∃ b off, a = some ⟨b, off, none⟩ ∧ ∀ i, i < zss.length → ∃ a' c', w.cell? ⟨b, off + i, none⟩ = some (.slice a' (zss.getD i []).length c') ∧ (zss.getD i []).length ≤ 9223372036854775807 ∧ At w a' (zss.getD i [])

theorem AtS.below {w w' : World} {a : Option Addr} {zss : List (List Int)} (h : AtS w a zss) (hb : Below w.heap.size w w') : AtS w' a zss := by
  rcases h with h | ⟨b, off, rfl, hc⟩
  · exact .inl h
  · refine .inr ⟨b, off, rfl, fun i hi => ?_⟩
    obtain ⟨a', c', h1, h2, h3⟩ := hc i hi
    exact ⟨a', c', cell_later hb h1, h2, h3.below hb⟩

theorem AtS.some {w : World} {a : Option Addr} {zss : List (List Int)} (h : AtS w a zss) (hp : 0 < zss.length) :
    ∃ b off, a = Option.some ⟨b, off, none⟩ ∧ ∀ i, i < zss.length → ∃ a' c', w.cell? ⟨b, off + i, none⟩ = Option.some (.slice a' (zss.getD i []).length c') ∧ (zss.getD i []).length ≤ 9223372036854775807 ∧ At w a' (zss.getD i []) := by
  rcases h with rfl | h
  · simp at hp
  · exact h

/-- The first k lists: each owned, in blocks that rise. -/
def RowsOwned (w : World) (e : TypeId) (vs : List Value) (zss : List (List Int)) (k : Nat) (L : Nat → Nat) : Prop :=
  ∀ i, i < k → ∃ a c, vs[i]? = some (.slice a (zss.getD i []).length c) ∧ w.ownsRow (L i) e 1 (.slice a (zss.getD i []).length c) (zss.getD i []).length ((zss.getD i []).map (.int .i64)) ∧
    ∀ b, (Value.slice a (zss.getD i []).length c).ownBlock = some b → b < L (i + 1)

/-- A slice of slices that the call itself made: its blocks lie from lo on and below hi. -/
def OwnS (w : World) (lo hi : Nat) (t e : TypeId) (g n : Nat) (zss : List (List Int)) : Prop :=
  ∃ (vs : List Value) (L : Nat → Nat), zss.length = n ∧ vs.length = n ∧ lo ≤ g ∧ g < L 0 ∧ (∀ i, i < n → L i ≤ L (i + 1)) ∧ L n ≤ hi ∧ hi ≤ w.heap.size ∧
    w.heap[g]? = some (.cells vs.toArray t (0, 0)) ∧ RowsOwned w e vs zss n L

theorem mono_le {L : Nat → Nat} {n : Nat} (h : ∀ i, i < n → L i ≤ L (i + 1)) : ∀ i j, i ≤ j → j ≤ n → L i ≤ L j := by
  intro i j hij hj
  induction j with
  | zero => obtain rfl : i = 0 := by omega
            exact Nat.le_refl _
  | succ j ih =>
    by_cases e : i = j + 1
    · subst e; exact Nat.le_refl _
    · exact Nat.le_trans (ih (by omega) (by omega)) (h j (by omega))

theorem RowsOwned.below {w w' : World} {e : TypeId} {vs : List Value} {zss : List (List Int)} {k : Nat} {L : Nat → Nat} (h : RowsOwned w e vs zss k L) (hb : Below w.heap.size w w') : RowsOwned w' e vs zss k L := fun i hi => by
  obtain ⟨a, c, h1, h2, h3⟩ := h i hi
  exact ⟨a, c, h1, owns_below h2 hb, h3⟩

theorem OwnS.below {w w' : World} {lo hi : Nat} {t e : TypeId} {g n : Nat} {zss : List (List Int)} (h : OwnS w lo hi t e g n zss) (hb : Below w.heap.size w w') : OwnS w' lo hi t e g n zss := by
  obtain ⟨vs, L, h1, h2, h3, h4, h5, h6, h7, h8, h9⟩ := h
  exact ⟨vs, L, h1, h2, h3, h4, h5, h6, Nat.le_trans h7 hb.size, (hb.block g (Array.getElem?_eq_some_iff.1 h8).1).trans h8, h9.below hb⟩

theorem OwnS.drew {w : World} {lo hi : Nat} {t e : TypeId} {g n : Nat} {zss : List (List Int)} (h : OwnS w lo hi t e g n zss) : OwnS w.drew lo hi t e g n zss := h.below (Below.refl _ _).drew

theorem OwnS.atS {w : World} {lo hi : Nat} {t e : TypeId} {g n : Nat} {zss : List (List Int)} (h : OwnS w lo hi t e g n zss) (hs : ∀ i, i < zss.length → (zss.getD i []).length ≤ 9223372036854775807) : AtS w (some ⟨g, 0, none⟩) zss := by
  obtain ⟨vs, L, h1, h2, h3, h4, h5, h6, h7, h8, h9⟩ := h
  refine .inr ⟨g, 0, rfl, fun i hi => ?_⟩
  obtain ⟨a, c, k1, k2, k3⟩ := h9 i (by omega)
  refine ⟨a, c, ?_, hs i hi, At.owned k2⟩
  rw [Nat.zero_add, cell_of_row w g i _ t (0, 0) h8]
  simpa using k1

theorem OwnS.kept {w w' : World} {lo hi : Nat} {t e : TypeId} {g n : Nat} {zss : List (List Int)} {row : Option Nat} (h : OwnS w lo hi t e g n zss) (hg : w.grownBy w' row) (hr : ∀ k, row = some k → k < lo ∨ hi ≤ k) : OwnS w' lo hi t e g n zss := by
  obtain ⟨vs, L, h1, h2, h3, h4, h5, h6, h7, h8, h9⟩ := h
  have hm := mono_le h5
  have q0 := hm 0 n (by omega) (Nat.le_refl _)
  refine ⟨vs, L, h1, h2, h3, h4, h5, h6, Nat.le_trans h7 hg.size, ?_, fun i hi => ?_⟩
  · rw [hg.block g (Array.getElem?_eq_some_iff.1 h8).1 (fun e' => by have := hr g e'.symm; omega)]; exact h8
  · obtain ⟨a, c, k1, k2, k3⟩ := h9 i hi
    refine ⟨a, c, k1, k2.kept hg ?_, k3⟩
    cases hv : (Value.slice a (zss.getD i []).length c).ownBlock with
    | none => exact .inl rfl
    | some k =>
      refine .inr (fun e' => ?_)
      have q1 := (k2.lt k hv).1
      have q2 := k3 k hv
      have q3 := hr k e'.symm
      have q4 := hm 0 i (by omega) (by omega)
      have q5 := hm (i + 1) n (by omega) (Nat.le_refl _)
      omega

/-- Outside the blocks lo .. hi - 1 nothing has turned. -/
structure Apart (lo hi : Nat) (w w' : World) : Prop where
  os : w'.os = w.os
  tape : w'.tape = w.tape
  output : w'.output = w.output
  size : w.heap.size ≤ w'.heap.size
  block : ∀ k, k < w.heap.size → (k < lo ∨ hi ≤ k) → w'.heap[k]? = w.heap[k]?

theorem Apart.refl (lo hi : Nat) (w : World) : Apart lo hi w w := ⟨rfl, rfl, rfl, Nat.le_refl _, fun _ _ _ => rfl⟩
theorem Apart.trans {lo hi : Nat} {a b c : World} (h : Apart lo hi a b) (k : Apart lo hi b c) : Apart lo hi a c :=
  ⟨k.os.trans h.os, k.tape.trans h.tape, k.output.trans h.output, Nat.le_trans h.size k.size, fun i hi hn => (k.block i (Nat.lt_of_lt_of_le hi h.size) hn).trans (h.block i hi hn)⟩
theorem Apart.grown {lo hi : Nat} {w w' : World} {row : Option Nat} (h : w.grownBy w' row) (hr : ∀ k, row = some k → lo ≤ k ∧ k < hi) : Apart lo hi w w' :=
  ⟨h.os, h.tape, h.output, h.size, fun k hk hn => h.block k hk (fun e => by have := hr k e.symm; omega)⟩
theorem Apart.below {lo hi B : Nat} {w w' : World} (h : Apart lo hi w w') (hB : B ≤ w.heap.size) (hl : B ≤ lo) : Below B w w' := ⟨h.os, h.tape, h.output, h.size, fun k hk => h.block k (by omega) (.inl (by omega))⟩
theorem Apart.cell {lo hi : Nat} {w w' : World} (h : Apart lo hi w w') {a : Addr} {v : Value} (hc : w.cell? a = some v) (ha : a.block < lo ∨ hi ≤ a.block) : w'.cell? a = some v :=
  (World.cell?_of_block (h.block a.block (World.block_lt_of_cell? _ _ hc) ha)).trans hc
theorem Apart.owns {lo hi : Nat} {w w' : World} (h : Apart lo hi w w') {base : Nat} {e : TypeId} {size : Nat} {v : Value} {n : Nat} {xs : List Value} (ho : w.ownsRow base e size v n xs) (ha : ∀ k, v.ownBlock = some k → k < lo ∨ hi ≤ k) : w'.ownsRow base e size v n xs := by
  refine ⟨ho.1, ?_⟩
  rcases ho.2 with hn | ⟨g, cap, cur, rfl, hb, hg, rest⟩
  · exact .inl hn
  · exact .inr ⟨g, cap, cur, rfl, hb, (h.block g (Array.getElem?_eq_some_iff.1 hg).1 (ha g rfl)).trans hg, rest⟩

/-- What is left of l when s is taken, -1 where it is not enough. -/
def leftOf (l s : Int) : Int := if l < s then -1 else l - s
theorem leftOf_no {l s : Int} (h : l < s) : leftOf l s = -1 := if_pos h
theorem leftOf_yes {l s : Int} (h : ¬ l < s) : leftOf l s = l - s := if_neg h

/-- How many numbers the first k lists hold. -/
def tot (zss : List (List Int)) (k : Nat) : Nat := ((zss.take k).map List.length).sum
theorem tot_zero (zss : List (List Int)) : tot zss 0 = 0 := rfl
theorem tot_succ (zss : List (List Int)) (k : Nat) (h : k < zss.length) : tot zss (k + 1) = tot zss k + (zss.getD k []).length := by
  unfold tot
  rw [List.take_succ_eq_append_getElem h, List.map_append, List.sum_append]
  simp only [List.map_cons, List.map_nil, List.sum_cons, List.sum_nil, Nat.add_zero]
  simp [List.getD, h]
theorem tot_mono (zss : List (List Int)) (j k : Nat) (h : j ≤ k) : tot zss j ≤ tot zss k := by
  obtain ⟨d, rfl⟩ := Nat.le.dest h
  induction d with
  | zero => exact Nat.le_refl _
  | succ d ih =>
    by_cases hk : j + d < zss.length
    · rw [show j + (d + 1) = (j + d) + 1 from rfl, tot_succ zss _ hk]; have := ih (by omega); omega
    · have e1 : tot zss (j + (d + 1)) = tot zss (j + d) := by unfold tot; rw [List.take_of_length_le (by omega), List.take_of_length_le (by omega)]
      rw [e1]; exact ih (by omega)

end Go.Proofs.Ytfodcjlekbdfhab

/- Plain facts on slices of weighted rows: what lies in memory, what a call owns, what the laws mark. -/
namespace Go.Proofs.Ytfodcjlekbdfhab
open Go.RowKit

theorem pair0 (w : World) (u v : Value) (t : TypeId) : (w.alloc (.cells #[u, v] t)).cell? ⟨w.heap.size, 0, none⟩ = some u := by simp
theorem pair1 (w : World) (u v : Value) (t : TypeId) : (w.alloc (.cells #[u, v] t)).cell? ⟨w.heap.size, 1, none⟩ = some v := by simp

/-- A weighted row: its cells and its weight. -/
abbrev WRow := List Int × Int
abbrev wat (ts : List WRow) (i : Nat) : WRow := ts.getD i ([], 0)

/-- A slice of weighted rows with the address a holds ts in the world w. -/
def AtW (w : World) (a : Option Addr) (ts : List WRow) : Prop :=
  ts = [] ∨ ∃ b off, a = some ⟨b, off, none⟩ ∧ ∀ i, i < ts.length → ∃ a' c', w.cell? ⟨b, off + i * 2, none⟩ = some (.slice a' (wat ts i).1.length c') ∧ w.cell? ⟨b, off + i * 2 + 1, none⟩ = some (.int .i64 (wat ts i).2) ∧
    (wat ts i).1.length ≤ 9223372036854775807 ∧ At w a' (wat ts i).1

theorem AtW.nil (w : World) (a : Option Addr) : AtW w a [] := .inl rfl

theorem AtW.below {w w' : World} {a : Option Addr} {ts : List WRow} (h : AtW w a ts) (hb : Below w.heap.size w w') : AtW w' a ts := by
  rcases h with h | ⟨b, off, rfl, hc⟩
  · exact .inl h
  · refine .inr ⟨b, off, rfl, fun i hi => ?_⟩
    obtain ⟨a', c', h1, h2, h3, h4⟩ := hc i hi
    exact ⟨a', c', cell_later hb h1, cell_later hb h2, h3, h4.below hb⟩
theorem AtW.alloc {w : World} {a : Option Addr} {ts : List WRow} (h : AtW w a ts) (o : Obj) : AtW (w.alloc o) a ts := h.below ((Below.refl _ _).alloc (Nat.le_refl _) o)
theorem AtW.drew {w : World} {a : Option Addr} {ts : List WRow} (h : AtW w a ts) : AtW w.drew a ts := h.below (Below.refl _ _).drew

theorem AtW.some {w : World} {a : Option Addr} {ts : List WRow} (h : AtW w a ts) (hp : 0 < ts.length) :
    ∃ b off, a = Option.some ⟨b, off, none⟩ ∧ ∀ i, i < ts.length → ∃ a' c', w.cell? ⟨b, off + i * 2, none⟩ = Option.some (.slice a' (wat ts i).1.length c') ∧ w.cell? ⟨b, off + i * 2 + 1, none⟩ = Option.some (.int .i64 (wat ts i).2) ∧
      (wat ts i).1.length ≤ 9223372036854775807 ∧ At w a' (wat ts i).1 := by
  rcases h with rfl | h
  · simp at hp
  · exact h

/-- The block of the i-th row's cells. -/
def blkW (cells : List Value) (i : Nat) : Option Nat := (cells.getD (i * 2) (.bool false)).ownBlock

/-- A slice of weighted rows that the call itself made, its first k rows laid: all its blocks, each its own, lie from lo on and below hi. -/
structure OwnWk (w : World) (lo hi : Nat) (te ti : TypeId) (a : Option Addr) (n c : Nat) (ts : List WRow) (cells : List Value) (k : Nat) : Prop where
  len : ts.length = n
  top : hi ≤ w.heap.size
  outer : w.ownsRow lo te 2 (.slice a n c) n cells
  outerLt : ∀ b, (Value.slice a n c).ownBlock = some b → b < hi
  row : ∀ i, i < k → ∃ a' c', cells[i * 2]? = some (.slice a' (wat ts i).1.length c') ∧ cells[i * 2 + 1]? = some (.int .i64 (wat ts i).2) ∧
    w.ownsRow lo ti 1 (.slice a' (wat ts i).1.length c') (wat ts i).1.length ((wat ts i).1.map (.int .i64))
  rowLt : ∀ i, i < k → ∀ b, blkW cells i = some b → b < hi ∧ (Value.slice a n c).ownBlock ≠ some b
  apart : ∀ i j, i < k → j < k → i ≠ j → ∀ b, blkW cells i = some b → blkW cells j ≠ some b
/-- All its rows are laid. -/
abbrev OwnW (w : World) (lo hi : Nat) (te ti : TypeId) (a : Option Addr) (n c : Nat) (ts : List WRow) (cells : List Value) : Prop := OwnWk w lo hi te ti a n c ts cells n

theorem blkW_of {cells : List Value} {i : Nat} {v : Value} (h : cells[i * 2]? = some v) : blkW cells i = v.ownBlock := by simp [blkW, List.getD, h]

section
variable {w w' : World} {lo hi : Nat} {te ti : TypeId} {a : Option Addr} {n c k : Nat} {ts : List WRow} {cells : List Value}

theorem OwnWk.below (h : OwnWk w lo hi te ti a n c ts cells k) (hb : Below w.heap.size w w') : OwnWk w' lo hi te ti a n c ts cells k :=
  ⟨h.len, Nat.le_trans h.top hb.size, owns_below h.outer hb, h.outerLt, fun i hi => by obtain ⟨a', c', h1, h2, h3⟩ := h.row i hi; exact ⟨a', c', h1, h2, owns_below h3 hb⟩, h.rowLt, h.apart⟩
theorem OwnWk.drew (h : OwnWk w lo hi te ti a n c ts cells k) : OwnWk w.drew lo hi te ti a n c ts cells k := h.below (Below.refl _ _).drew
theorem OwnWk.alloc (h : OwnWk w lo hi te ti a n c ts cells k) (o : Obj) : OwnWk (w.alloc o) lo hi te ti a n c ts cells k := h.below ((Below.refl _ _).alloc (Nat.le_refl _) o)

theorem OwnWk.widen {lo' hi' : Nat} (h : OwnWk w lo hi te ti a n c ts cells k) (h1 : lo' ≤ lo) (h2 : hi ≤ hi') (h3 : hi' ≤ w.heap.size) : OwnWk w lo' hi' te ti a n c ts cells k :=
  ⟨h.len, h3, owns_mono h.outer h1, fun b hb => Nat.lt_of_lt_of_le (h.outerLt b hb) h2, fun i hi => by obtain ⟨a', c', k1, k2, k3⟩ := h.row i hi; exact ⟨a', c', k1, k2, owns_mono k3 h1⟩,
    fun i hi b hb => ⟨Nat.lt_of_lt_of_le (h.rowLt i hi b hb).1 h2, (h.rowLt i hi b hb).2⟩, h.apart⟩

/-- Every block of it lies from lo on and below hi. -/
theorem OwnWk.blocks (h : OwnWk w lo hi te ti a n c ts cells k) :
    (∀ b, (Value.slice a n c).ownBlock = some b → lo ≤ b ∧ b < hi) ∧ ∀ i, i < k → ∀ b, blkW cells i = some b → lo ≤ b ∧ b < hi := by
  refine ⟨fun b hb => ⟨(h.outer.lt b hb).1, h.outerLt b hb⟩, fun i hi b hb => ⟨?_, (h.rowLt i hi b hb).1⟩⟩
  obtain ⟨a', c', k1, _, k3⟩ := h.row i hi
  rw [blkW_of k1] at hb
  exact (k3.lt b hb).1

theorem OwnWk.apartW {lo' hi' : Nat} (h : OwnWk w lo hi te ti a n c ts cells k) (hp : Apart lo' hi' w w') (hd : hi ≤ lo' ∨ hi' ≤ lo) : OwnWk w' lo hi te ti a n c ts cells k := by
  have hB := h.blocks
  refine ⟨h.len, Nat.le_trans h.top hp.size, hp.owns h.outer (fun k hk => by have := hB.1 k hk; omega), h.outerLt, fun i hi => ?_, h.rowLt, h.apart⟩
  obtain ⟨a', c', k1, k2, k3⟩ := h.row i hi
  refine ⟨a', c', k1, k2, hp.owns k3 (fun k hk => ?_)⟩
  have := hB.2 i hi k (by rw [blkW_of k1]; exact hk)
  omega

theorem OwnWk.kept {row : Option Nat} (h : OwnWk w lo hi te ti a n c ts cells k) (hg : w.grownBy w' row) (hr : ∀ k, row = some k → k < lo ∨ hi ≤ k) : OwnWk w' lo hi te ti a n c ts cells k := by
  have hB := h.blocks
  refine ⟨h.len, Nat.le_trans h.top hg.size, h.outer.kept hg ?_, h.outerLt, fun i hi => ?_, h.rowLt, h.apart⟩
  · cases hv : (Value.slice a n c).ownBlock with
    | none => exact .inl rfl
    | some k => exact .inr (fun e => by have := hr k e.symm; have := hB.1 k hv; omega)
  · obtain ⟨a', c', k1, k2, k3⟩ := h.row i hi
    refine ⟨a', c', k1, k2, k3.kept hg ?_⟩
    cases hv : (Value.slice a' (wat ts i).1.length c').ownBlock with
    | none => exact .inl rfl
    | some k => exact .inr (fun e => by have := hr k e.symm; have := hB.2 i hi k (by rw [blkW_of k1]; exact hv); omega)

theorem OwnWk.setCell {a0 : Addr} (h : OwnWk w lo hi te ti a n c ts cells k) (ha : a0.block < lo ∨ hi ≤ a0.block) (v : Value) : OwnWk (w.setCell a0 v) lo hi te ti a n c ts cells k :=
  h.kept (row := some a0.block) ⟨rfl, rfl, rfl, by simp [World.setCell], fun k _ hn => Below.heap_setCell w a0 v k (fun e => hn (by rw [e]))⟩ (fun k hk => by simp at hk; omega)

theorem OwnWk.atW (h : OwnWk w lo hi te ti a n c ts cells n) (hs : ∀ i, i < n → (wat ts i).1.length ≤ 9223372036854775807) : AtW w a ts := by
  rcases h.outer.2 with ⟨hv, h0⟩ | ⟨g, cap, cur, hv, _⟩
  · left
    have := h.len
    rw [h0] at this
    exact List.eq_nil_of_length_eq_zero this
  · simp only [Value.slice.injEq, true_and] at hv
    obtain ⟨rfl, rfl⟩ := hv
    refine .inr ⟨g, 0, rfl, fun i hi => ?_⟩
    rw [h.len] at hi
    obtain ⟨a', c', k1, k2, k3⟩ := h.row i hi
    refine ⟨a', c', ?_, ?_, hs i hi, At.owned k3⟩
    · rw [Nat.zero_add, h.outer.cellAt _ (by omega)]; exact k1
    · rw [Nat.zero_add, h.outer.cellAt _ (by omega)]; exact k2

/-- Two stores into one row's cells. -/
theorem owns_two {base : Nat} {e : TypeId} {g n cap : Nat} {xs : List Value} (h : w.ownsRow base e 2 (.slice (some ⟨g, 0, none⟩) n cap) n xs) (i j : Nat) (u v : Value) :
    ((w.setCell ⟨g, i, none⟩ u).setCell ⟨g, j, none⟩ v).ownsRow base e 2 (.slice (some ⟨g, 0, none⟩) n cap) n ((xs.set i u).set j v) := (((h.stored i u).1).stored j v).1

/-- One more row is laid: its cells, which a call made, and its weight. -/
theorem OwnWk.put {w2 : World} {g m c' : Nat} {a' : Option Addr} {x : Int} (h : OwnWk w lo hi te ti (some ⟨g, 0, none⟩) n c ts cells k) (hb : Below w.heap.size w w2) (hk : k < n)
    (hm : (wat ts k).1.length = m) (hx : (wat ts k).2 = x) (hlo : lo ≤ w.heap.size) (hrow : w2.ownsRow w.heap.size ti 1 (.slice a' m c') m ((wat ts k).1.map (.int .i64))) :
    OwnWk ((w2.setCell ⟨g, k * 2, none⟩ (.slice a' m c')).setCell ⟨g, k * 2 + 1, none⟩ (.int .i64 x)) lo w2.heap.size te ti (some ⟨g, 0, none⟩) n c ts ((cells.set (k * 2) (.slice a' m c')).set (k * 2 + 1) (.int .i64 x)) (k + 1) := by
  have h2 := h.below hb
  have hz := hb.size
  have hgl : lo ≤ g ∧ g < hi := h.blocks.1 g rfl
  have htop := h.top
  have hl := h.outer.1
  have hg1 : w2.grownBy ((w2.setCell ⟨g, k * 2, none⟩ (.slice a' m c')).setCell ⟨g, k * 2 + 1, none⟩ (.int .i64 x)) (some g) :=
    ⟨rfl, rfl, rfl, by simp [World.setCell], fun j _ hn => (Below.heap_setCell _ _ _ j (fun e => hn (by rw [e]))).trans (Below.heap_setCell _ _ _ j (fun e => hn (by rw [e])))⟩
  have hset : ∀ i, i < k → ∀ d, d < 2 → ((cells.set (k * 2) (.slice a' m c')).set (k * 2 + 1) (.int .i64 x))[i * 2 + d]? = cells[i * 2 + d]? := fun i hi d hd => by
    rw [List.getElem?_set_ne (by omega), List.getElem?_set_ne (by omega)]
  have hsk : ((cells.set (k * 2) (.slice a' m c')).set (k * 2 + 1) (.int .i64 x))[k * 2]? = some (.slice a' m c') := by
    rw [List.getElem?_set_ne (by omega), List.getElem?_set_self (by omega)]
  have hbk : ∀ i, i < k → blkW ((cells.set (k * 2) (.slice a' m c')).set (k * 2 + 1) (.int .i64 x)) i = blkW cells i := fun i hi => by
    have := hset i hi 0 (by omega)
    simp only [Nat.add_zero] at this
    simp only [blkW, List.getD, this]
  have hold : ∀ i, i < k → ∀ b, blkW cells i = some b → b < w.heap.size := fun i hi b hb' => Nat.lt_of_lt_of_le (h.rowLt i hi b hb').1 h.top
  have hnew : ∀ b, (Value.slice a' m c').ownBlock = some b → w.heap.size ≤ b ∧ b < w2.heap.size := fun b hb' => hrow.lt b hb'
  refine ⟨h.len, by simp [World.setCell], owns_two h2.outer _ _ _ _, fun b hb' => ?_, fun i hi => ?_, fun i hi b hb' => ?_, fun i j hi hj hij b hb' => ?_⟩
  · have := h.outerLt b hb'
    omega
  · by_cases e : i = k
    · subst e
      refine ⟨a', c', by rw [hm]; exact hsk, ?_, ?_⟩
      · rw [List.getElem?_set_self (by simp; omega), hx]
      · rw [hm]
        refine owns_mono (hrow.kept hg1 ?_) hlo
        cases hv : (Value.slice a' m c').ownBlock with
        | none => exact .inl rfl
        | some b => exact .inr (fun e => by have := hnew b hv; simp at e; omega)
    · obtain ⟨a1, c1, k1, k2, k3⟩ := h2.row i (by omega)
      refine ⟨a1, c1, ?_, ?_, k3.kept hg1 ?_⟩
      · have := hset i (by omega) 0 (by omega); simp only [Nat.add_zero] at this; rw [this]; exact k1
      · rw [hset i (by omega) 1 (by omega)]; exact k2
      · cases hv : (Value.slice a1 (wat ts i).1.length c1).ownBlock with
        | none => exact .inl rfl
        | some b => exact .inr (fun e => by have := (h.rowLt i (by omega) b (by rw [blkW_of k1]; exact hv)).2; simp [Value.ownBlock] at e this; omega)
  · by_cases e : i = k
    · subst e
      rw [blkW_of hsk] at hb'
      have := hnew b hb'
      refine ⟨by omega, ?_⟩
      simp [Value.ownBlock]
      omega
    · rw [hbk i (by omega)] at hb'
      have := h.rowLt i (by omega) b hb'
      exact ⟨by omega, this.2⟩
  · by_cases e : i = k
    · subst e
      rw [blkW_of hsk] at hb'
      rw [hbk j (by omega)]
      intro e'
      have := hold j (by omega) b e'
      have := hnew b hb'
      omega
    · rw [hbk i (by omega)] at hb'
      by_cases e2 : j = k
      · subst e2
        rw [blkW_of hsk]
        intro e'
        have := hold i (by omega) b hb'
        have := hnew b e'
        omega
      · rw [hbk j (by omega)]
        exact h.apart i j (by omega) (by omega) hij b hb'

theorem OwnWk.start (hl : ts.length = n) (hh : hi ≤ w.heap.size) (ho : w.ownsRow lo te 2 (.slice a n c) n cells) (hb : ∀ b, (Value.slice a n c).ownBlock = some b → b < hi) : OwnWk w lo hi te ti a n c ts cells 0 :=
  ⟨hl, hh, ho, hb, fun i h => by omega, fun i h => by omega, fun i j h => by omega⟩

end

/-- How many marks the first k rows take: their cells, and one a weight. -/
def wtot (ts : List WRow) (k : Nat) : Nat := ((ts.take k).map fun t => t.1.length + 1).sum
theorem wtot_zero (ts : List WRow) : wtot ts 0 = 0 := rfl
theorem wtot_succ (ts : List WRow) (k : Nat) (h : k < ts.length) : wtot ts (k + 1) = wtot ts k + ((wat ts k).1.length + 1) := by
  unfold wtot
  rw [List.take_succ_eq_append_getElem h, List.map_append, List.sum_append]
  simp only [List.map_cons, List.map_nil, List.sum_cons, List.sum_nil, Nat.add_zero]
  simp [h]
theorem wtot_mono (ts : List WRow) (j k : Nat) (h : j ≤ k) : wtot ts j ≤ wtot ts k := by
  obtain ⟨d, rfl⟩ := Nat.le.dest h
  induction d with
  | zero => exact Nat.le_refl _
  | succ d ih =>
    by_cases hk : j + d < ts.length
    · rw [show j + (d + 1) = (j + d) + 1 from rfl, wtot_succ ts _ hk]; have := ih (by omega); omega
    · have e1 : wtot ts (j + (d + 1)) = wtot ts (j + d) := by unfold wtot; rw [List.take_of_length_le (by omega), List.take_of_length_le (by omega)]
      rw [e1]; exact ih (by omega)
theorem wtot_each (ts : List WRow) (n : Nat) (hn : ts.length = n) (i : Nat) (hi : i < n) : (wat ts i).1.length ≤ wtot ts n := by
  have h1 := wtot_succ ts i (by omega)
  have h2 := wtot_mono ts (i + 1) n (by omega)
  omega
theorem wtot_len (ts : List WRow) (k : Nat) (h : k ≤ ts.length) : k ≤ wtot ts k := by
  induction k with
  | zero => exact Nat.zero_le _
  | succ k ih => rw [wtot_succ ts k (by omega)]; have := ih (by omega); omega

/-- The rows as the laws mark them, from m on. -/
def markW (m : Int) (ts : List WRow) : List WRow := (List.range ts.length).map fun i => (marks (m + wtot ts i) (wat ts i).1.length, m + wtot ts i + (wat ts i).1.length)
theorem markW_length (m : Int) (ts : List WRow) : (markW m ts).length = ts.length := by simp [markW]
theorem markW_at (m : Int) (ts : List WRow) (i : Nat) (h : i < ts.length) : wat (markW m ts) i = (marks (m + wtot ts i) (wat ts i).1.length, m + wtot ts i + (wat ts i).1.length) := by
  simp [markW, h]

theorem wtake_succ (ts : List WRow) (k : Nat) (h : k < ts.length) : ts.take (k + 1) = ts.take k ++ [wat ts k] := by
  rw [List.take_succ_eq_append_getElem h]; simp [h]
theorem wne_of {ts ts' : List WRow} {k : Nat} (h : wat ts k ≠ wat ts' k) : ts ≠ ts' := fun e => h (by rw [e])
theorem wtake_all {ts ts' : List WRow} {k : Nat} (h1 : ts.length ≤ k) (h2 : ts'.length ≤ k) (h : ts.take k = ts'.take k) : ts = ts' := by
  rwa [List.take_of_length_le h1, List.take_of_length_le h2] at h

end Go.Proofs.Ytfodcjlekbdfhab
