/- Several texts of one proof, in build order: InsP, CloM. -/
import Derived.Test.YtjjebodlekepaaaDoorM6

/- Plain: a number put to its place in a rising list, as sets of columns tell it. -/
namespace Go.Proofs.YtjjebodlekepaaaDoor
open Go.RowKit

/-- A number put to its place, once: ahead of the first that is not less. -/
def lessN (n : Int) : List Int → Nat
  | [] => 0
  | z :: zs => if z < n then lessN n zs + 1 else 0
def insI (l : List Int) (n : Int) : List Int := if n ∈ l then l else l.take (lessN n l) ++ n :: l.drop (lessN n l)
theorem lessN_le (n : Int) : ∀ l, lessN n l ≤ l.length
  | [] => Nat.le_refl _
  | z :: zs => by unfold lessN; split; have := lessN_le n zs; simp; omega; simp
theorem lessN_is (n : Int) : ∀ (l : List Int) (k : Nat), k ≤ l.length → (∀ j, j < k → l.getD j 0 < n) → (k < l.length → ¬ l.getD k 0 < n) → lessN n l = k
  | [], k, h, _, _ => by simp at h; simp [lessN, h]
  | z :: zs, 0, _, _, h => by have := h (by simp); simp at this; unfold lessN; rw [if_neg (by omega)]
  | z :: zs, k + 1, h1, h2, h3 => by
    have h0 := h2 0 (by omega)
    simp at h0
    unfold lessN
    rw [if_pos h0, lessN_is n zs k (by simpa using h1) (fun j hj => by simpa using h2 (j + 1) (by omega)) (fun hk => by simpa using h3 (by simpa using hk))]
theorem insI_yes {l : List Int} {n : Int} (h : n ∈ l) : insI l n = l := if_pos h
theorem insI_no {l : List Int} {n : Int} (h : ¬ n ∈ l) : insI l n = l.take (lessN n l) ++ n :: l.drop (lessN n l) := if_neg h
theorem insI_bl_all : ∀ s : Nat, s < 64 → ∀ n : Nat, n < 6 → insI (bl s) (n : Int) = bl (s ||| 2 ^ n) := by decide +kernel
theorem insI_bl {s : Nat} {n : Int} (hs : s < 64) (h0 : 0 ≤ n) (h1 : n < 6) : insI (bl s) n = bl (s ||| 2 ^ n.toNat) := by
  have := insI_bl_all s hs n.toNat (by omega)
  rw [Int.toNat_of_nonneg h0] at this
  exact this
theorem len_bl_all : ∀ s : Nat, s < 64 → ∀ t : Nat, t < 64 → sb s t = true → (bl t).length = (bl s).length → t = s := by decide +kernel
theorem all_bl {D T : Nat} (hD : D < 64) : (bl D).all (fun k => decide (k ∈ bl T)) = sb D T := by
  cases h : sb D T with
  | true =>
    rw [List.all_eq_true]
    intro k hk
    obtain ⟨i, h1, h2, rfl⟩ := mem_bl.1 hk
    exact decide_eq_true (mem_bl.2 ⟨i, h1, sb_bit h i h2, rfl⟩)
  | false =>
    rw [← Bool.not_eq_true]
    intro h'
    rw [List.all_eq_true] at h'
    have : sb D T = true := sb_of_bits fun i hi => by
      have hi6 : i < 6 := by
        by_cases h6 : i < 6
        · exact h6
        · rw [Nat.testBit_lt_two_pow (Nat.lt_of_lt_of_le hD (by have : 2 ^ 6 ≤ 2 ^ i := Nat.pow_le_pow_right (by omega) (by omega); omega))] at hi; cases hi
      have h9 := of_decide_eq_true (h' (i : Int) (mem_bl.2 ⟨i, hi6, hi, rfl⟩))
      obtain ⟨j, _, h4, h5⟩ := mem_bl.1 h9
      obtain rfl : i = j := by omega
      exact h4
    rw [h] at this; cases this
/-- Putting all of a list, one by one. -/
theorem mk_or (l : List Int) (s : Nat) : l.foldl (fun s k => s ||| 2 ^ k.toNat) s = s ||| mk l := by
  apply Nat.eq_of_testBit_eq
  have key : ∀ (l : List Int) (s i : Nat), (l.foldl (fun s k => s ||| 2 ^ k.toNat) s).testBit i = (s.testBit i || (l.foldl (fun (s : Nat) (k : Int) => s ||| 2 ^ k.toNat) 0).testBit i) := by
    intro l
    induction l with
    | nil => intro s i; simp
    | cons x l ih => intro s i; rw [List.foldl_cons, List.foldl_cons, ih, ih (0 ||| _), Nat.testBit_or, Nat.testBit_or]; simp [Bool.or_assoc]
  intro i
  rw [key, Nat.testBit_or]
  rfl

end Go.Proofs.YtjjebodlekepaaaDoor

/- Contracts of the model's l1Has, l7All, l7Put. -/
namespace Go.Proofs.YtjjebodlekepaaaDoor
open Go.RowKit

set_option maxHeartbeats 1000000 in
theorem l1Has_any (a : Option Addr) (n c : Nat) (zs : List Int) (x : Int) (w : World) (hz : zs.length = n) (hn : n ≤ 9223372036854775807) (ha : At w a zs) :
    Calls Tryd.prog 30 #[.slice a n c, .int .i64 x] w fun e w' => e = .returned (.bool (decide (x ∈ zs))) ∧ w' = w := by
  by_cases h0 : n = 0
  · subst h0
    obtain rfl := List.eq_nil_of_length_eq_zero hz
    go_enter Tryd.func30, Tryd.ntmps30
    go_wp2
    refine wp_loop_rounds 1 ?_
    rw [rounds_succ]
    go_wp2
    go_ret
    exact ⟨rfl, rfl⟩
  · obtain ⟨b, off, rfl, hb, hc⟩ := ha.some (by omega)
    clear ha
    go_enter Tryd.func30, Tryd.ntmps30
    go_wp2
    go_loopw [9] (fun i wr => ∃ (k : Nat), k ≤ n ∧ i = .int .i64 k ∧ (¬ x ∈ zs.take k) ∧ wr = w) (fun i _ => n - (intOf i).toNat)
    case atStart => exact ⟨0, Nat.zero_le _, rfl, by simp, rfl⟩
    case round =>
      obtain ⟨k, hk, rfl, ht, rfl⟩ := hrel
      by_cases hlt : k < n
      · have hcx : wr.cell? ⟨b, off + k, none⟩ = some (.int .i64 (zs.getD k 0)) := hc k (by omega)
        have hm : zs.getD k 0 ∈ zs := by simp [List.getD, show k < zs.length by omega]
        have hnx : zs.getD k 0 ≠ x → ¬ x ∈ zs.take (k + 1) := fun h => by
          rw [take_succ_getD zs k (by omega)]
          simp only [List.mem_append, List.mem_singleton, not_or]
          exact ⟨ht, fun e => h e.symm⟩
        obtain ⟨y, hy⟩ : ∃ y, y = zs.getD k 0 := ⟨_, rfl⟩
        rw [← hy] at hcx hm hnx
        have HM := Hid.mk hm
        have HN := Hid.mk hnx
        clear hc hm hnx hy ht
        by_cases he : y = x
        · subst he
          go_wp2
          go_ret
          exact ⟨by rw [decide_eq_true HM.out]; rfl, rfl⟩
        · go_wp2
          go_roundw
          case rel => exact ⟨k + 1, by omega, by go_num, HN.out he, trivial⟩
          case measure => simp [intOf]; omega
      · rw [List.take_of_length_le (by omega)] at ht
        have HT := Hid.mk ht
        clear ht
        go_wp2
        go_ret
        exact ⟨by rw [decide_eq_false HT.out]; rfl, rfl⟩

end Go.Proofs.YtjjebodlekepaaaDoor
