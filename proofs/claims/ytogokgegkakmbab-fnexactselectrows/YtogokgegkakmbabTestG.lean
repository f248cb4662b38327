/- Contracts of impl.goodTest, impl.passes. -/
import Derived.Test.YtogokgegkakmbabTestS
import Derived.Test.YtogokgegkakmbabPlain
namespace Go.Proofs.Ytogokgegkakmbab
open Go.RowKit

/-- A test that rows of so many columns can be put to. -/
def goodE (n : Int) (t : Tst) : Bool := decide (0 ≤ t.2.1 ∧ t.2.1 < n ∧ ((1 ≤ t.1 ∧ t.1 ≤ 3 ∧ -100000 ≤ t.2.2 ∧ t.2.2 ≤ 100000) ∨ (t.1 = 4 ∧ 0 ≤ t.2.2 ∧ t.2.2 < n)))
def passE (zs : List Int) (t : Tst) : Bool :=
  if t.1 = 1 then decide (zs.getD t.2.1.toNat 0 = t.2.2) else if t.1 = 2 then decide (zs.getD t.2.1.toNat 0 < t.2.2) else if t.1 = 3 then decide (t.2.2 < zs.getD t.2.1.toNat 0) else decide (zs.getD t.2.1.toNat 0 = zs.getD t.2.2.toNat 0)

set_option maxRecDepth 100000 in
set_option maxHeartbeats 2000000 in
theorem goodTest_any (q : Int) (x y v : Int) (w : World) :
    Calls Try.prog 84 #[.agg #[.int .i64 x, .int .i64 y, .int .i64 v], .int .i64 q] w fun e w' => e = .returned (.bool (goodE q (x, y, v))) ∧ Below w.heap.size w w' := by
  have hb : Below w.heap.size w (w.alloc (.cells #[.int .i64 x, .int .i64 y, .int .i64 v] 64)) := (Below.refl _ _).alloc (Nat.le_refl _) _
  go_enter Try.func84, Try.ntmps84
  go_wp2
  all_goals (go_ret; refine ⟨ret_bool (Bool.eq_iff_iff.2 ?_), hb⟩; clear hb; unfold goodE; (try simp only [beq_iff_eq, beq_eq_false_iff_ne, ne_eq] at *); (try simp only [decide_eq_true_eq, Bool.false_eq_true, false_iff]); omega)

set_option maxRecDepth 100000 in
set_option maxHeartbeats 4000000 in
theorem passes_any (a : Option Addr) (n c : Nat) (zs : List Int) (x y v : Int) (w : World) (hz : zs.length = n) (hn : n ≤ 6) (hg : goodE n (x, y, v) = true) (ha : At w a zs) :
    Calls Try.prog 87 #[.agg #[.slice a n c], .agg #[.int .i64 x, .int .i64 y, .int .i64 v]] w fun e w' => e = .returned (.bool (passE zs (x, y, v))) ∧ Below w.heap.size w w' := by
  have hg' : 0 ≤ y ∧ y < n ∧ ((1 ≤ x ∧ x ≤ 3 ∧ -100000 ≤ v ∧ v ≤ 100000) ∨ (x = 4 ∧ 0 ≤ v ∧ v < n)) := by simpa [goodE] using hg
  obtain ⟨y', rfl⟩ : ∃ k : Nat, y = k := ⟨y.toNat, by omega⟩
  obtain ⟨b, off, rfl, hbk, hc⟩ := ha.some (by omega)
  have hcy := hc y' (by omega)
  have hb : Below w.heap.size w ((w.alloc (.cells #[.slice (some ⟨b, off, none⟩) n c] 72)).alloc (.cells #[.int .i64 x, .int .i64 (y' : Int), .int .i64 v] 64)) := ((Below.refl _ _).alloc (Nat.le_refl _) _).alloc (by simp) _
  have hby : b < w.heap.size + 1 := by omega
  have hyn : (y' : Int) < (n : Int) := by omega
  by_cases h4 : x = 4
  · subst h4
    obtain ⟨v', rfl⟩ : ∃ k : Nat, v = k := ⟨v.toNat, by omega⟩
    have hcv := hc v' (by omega)
    have hvn : (v' : Int) < (n : Int) := by omega
    have HP : Hid (passE zs (4, (y' : Int), (v' : Int)) = decide (zs.getD y' 0 = zs.getD v' 0)) := by show _ = _; simp [passE]
    clear hg hg' hc ha
    generalize zs.getD y' 0 = cy at *
    generalize zs.getD v' 0 = cv at *
    go_enter Try.func87, Try.ntmps87
    go_wp2
    go_ret
    exact ⟨ret_bool (by rw [HP.out]; rfl), hb⟩
  · have HP : Hid (passE zs (x, (y' : Int), v) = if x = 1 then decide (zs.getD y' 0 = v) else if x = 2 then decide (zs.getD y' 0 < v) else decide (v < zs.getD y' 0)) := by
      show _ = _
      unfold passE
      have : x = 1 ∨ x = 2 ∨ x = 3 := by omega
      rcases this with rfl | rfl | rfl <;> simp
    have h3 : x = 1 ∨ x = 2 ∨ x = 3 := by omega
    clear hg hg' hc ha
    generalize zs.getD y' 0 = cy at *
    rcases h3 with rfl | rfl | rfl
    · go_enter Try.func87, Try.ntmps87
      go_wp2
      go_ret
      exact ⟨ret_bool (by rw [HP.out]; rfl), hb⟩
    · go_enter Try.func87, Try.ntmps87
      go_wp2
      go_ret
      exact ⟨ret_bool (by rw [HP.out]; rfl), hb⟩
    · go_enter Try.func87, Try.ntmps87
      go_wp2
      go_ret
      exact ⟨ret_bool (by rw [HP.out]; rfl), hb⟩
end Go.Proofs.Ytogokgegkakmbab
