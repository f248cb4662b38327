/- ReadRow whole: impl's and spec's contracts. -/
import Derived.Test.YtagijnfiiifppaaReadRowS
namespace Go.Proofs.Ytagijnfiiifppaa
open Go.RowKit

/-- A row's bytes have as many as their first one says. -/
def headOk (s : ByteArray) : Bool := decide (s.size = 1 + 3 * byt s 0)
def readOk (s : ByteArray) : Bool := headOk s && good (cellsTo s (byt s 0))
def readZ (s : ByteArray) : List Int := if headOk s then goodOr (cellsTo s (byt s 0)) else []
theorem readZ_small (s : ByteArray) : (readZ s).length ≤ 255 := by
  unfold readZ goodOr
  have := byt_lt s 0
  split
  · split
    · rw [cellsTo_length]; omega
    · simp
  · simp

set_option maxHeartbeats 1000000 in
theorem implReadRow_no (s : ByteArray) (w : World) (hl : s.size ≤ 1048576) (h : s.size ≠ 1 + 3 * byt s 0) :
    Calls Try.prog 16 #[.string s] w fun e w' => e = .returned (.tuple #[.agg #[.slice none 0 0], .bool false]) ∧ Below w.heap.size w w' := by
  by_cases h3 : s.size % 3 = 1
  · have hp : 0 < s.size := by omega
    have x0 := byt_at s 0 hp
    have hl0 := byt_lt s 0
    have h3' : (s.size : Int) % 3 = 1 := by omega
    have hne : ¬ ((byt s 0 : Nat) : Int) = (s.size : Int) / 3 := by omega
    have hq : ((byt s 0 : Nat) : Int) != (s.size : Int) / 3 := by simpa using hne
    generalize byt s 0 = y0 at *
    go_enter Try.func16, Try.ntmps16
    go_wp2
    refine bodyPost_ret (v := .tuple #[.agg #[.slice none 0 0], .bool false]) (by simp [results, Try.results16, go_sem]) rfl ⟨rfl, ?_⟩
    exact (Below.refl _ _).alloc (Nat.le_refl _) _
  · have h3' : ((s.size : Int) % 3 != 1) = true := by simp; omega
    go_enter Try.func16, Try.ntmps16
    go_wp2
    refine bodyPost_ret (v := .tuple #[.agg #[.slice none 0 0], .bool false]) (by simp [results, Try.results16, go_sem]) rfl ⟨rfl, ?_⟩
    exact (Below.refl _ _).alloc (Nat.le_refl _) _

theorem implReadRow (s : ByteArray) (w : World) (hl : s.size ≤ 1048576) :
    Calls Try.prog 16 #[.string s] w fun e w' => ∃ a m c, e = .returned (.tuple #[.agg #[.slice a m c], .bool (readOk s)]) ∧ (readZ s).length = m ∧ w'.ownsRow w.heap.size 3 1 (.slice a m c) m ((readZ s).map (.int .i64)) ∧ Below w.heap.size w w' := by
  by_cases h : s.size = 1 + 3 * byt s 0
  · have hp : 0 < s.size := by omega
    have hk : headOk s = true := decide_eq_true h
    have e1 : readOk s = good (cellsTo s (byt s 0)) := by simp [readOk, hk]
    have e2 : readZ s = goodOr (cellsTo s (byt s 0)) := by simp [readZ, hk]
    rw [e1, e2]
    exact implReadRow_yes s (byt s 0) w (by omega) (by omega) (byt_at s 0 hp)
  · have hk : headOk s = false := decide_eq_false h
    refine (implReadRow_no s w hl h).mono ?_
    rintro e w' ⟨rfl, hb⟩
    exact ⟨none, 0, 0, by simp [readOk, hk], by simp [readZ, hk], by simp only [readZ, hk]; exact World.ownsRow_nil _ _ _ _, hb⟩

set_option maxHeartbeats 1000000 in
theorem specReadRow_no (s : ByteArray) (w : World) (hl : s.size ≤ 1048576) (h : s.size ≠ 1 + 3 * byt s 0) :
    Calls Try.prog 18 #[.string s] w fun e w' => e = .returned (.tuple #[.agg #[.slice none 0 0], .bool false]) ∧ Below w.heap.size w w' := by
  by_cases h3 : s.size = 0
  · have h3' : (s.size : Int) = 0 := by omega
    go_enter Try.func18, Try.ntmps18
    go_wp2
    refine bodyPost_ret (v := .tuple #[.agg #[.slice none 0 0], .bool false]) (by simp [results, Try.results18, go_sem]) rfl ⟨rfl, ?_⟩
    exact (Below.refl _ _).alloc (Nat.le_refl _) _
  · have hp : 0 < s.size := by omega
    have x0 := byt_at s 0 hp
    have hl0 := byt_lt s 0
    have h3' : ((s.size : Int) == 0) = false := beq_false_of_ne (by omega)
    have hne : ¬ (s.size : Int) = 1 + 3 * ((byt s 0 : Nat) : Int) := by omega
    have hq : ((s.size : Int) != 1 + 3 * ((byt s 0 : Nat) : Int)) = true := by simpa using hne
    generalize byt s 0 = y0 at *
    go_enter Try.func18, Try.ntmps18
    go_wp2
    refine bodyPost_ret (v := .tuple #[.agg #[.slice none 0 0], .bool false]) (by simp [results, Try.results18, go_sem]) rfl ⟨rfl, ?_⟩
    exact (Below.refl _ _).alloc (Nat.le_refl _) _

theorem specReadRow (s : ByteArray) (w : World) (hl : s.size ≤ 1048576) :
    Calls Try.prog 18 #[.string s] w fun e w' => ∃ a m c, e = .returned (.tuple #[.agg #[.slice a m c], .bool (readOk s)]) ∧ (readZ s).length = m ∧ w'.ownsRow w.heap.size 3 1 (.slice a m c) m ((readZ s).map (.int .i64)) ∧ Below w.heap.size w w' := by
  by_cases h : s.size = 1 + 3 * byt s 0
  · have hp : 0 < s.size := by omega
    have hk : headOk s = true := decide_eq_true h
    have e1 : readOk s = good (cellsTo s (byt s 0)) := by simp [readOk, hk]
    have e2 : readZ s = goodOr (cellsTo s (byt s 0)) := by simp [readZ, hk]
    rw [e1, e2]
    exact specReadRow_yes s (byt s 0) w (by omega) (by omega) (byt_at s 0 hp)
  · have hk : headOk s = false := decide_eq_false h
    refine (specReadRow_no s w hl h).mono ?_
    rintro e w' ⟨rfl, hb⟩
    exact ⟨none, 0, 0, by simp [readOk, hk], by simp [readZ, hk], by simp only [readZ, hk]; exact World.ownsRow_nil _ _ _ _, hb⟩

end Go.Proofs.Ytagijnfiiifppaa
