/- Contracts of slices.IndexFunc and slices.ContainsFunc at numbers, whatever function is asked; of the questions asked of words. -/
import Derived.Test.YthfndafgllcelaaNapP
import Derived.Test.YthfndafgllcelaaIntS
namespace Go.Proofs.Ythfndafgllcelaa
open Go.RowKit

/-- Where the first is of which P holds: below 0 where there is none. -/
def ixF {α : Type} (P : α → Bool) (xs : List α) : Int := if xs.any P then ((xs.findIdx P : Nat) : Int) else -1
theorem ixF_hit {α : Type} {P : α → Bool} {xs : List α} {k : Nat} {x : α} (hx : xs[k]? = some x) (hP : P x = true) (hn : ∀ (i : Nat) (y : α), i < k → xs[i]? = some y → P y = false) : ixF P xs = (k : Int) := by
  obtain ⟨hk, rfl⟩ := List.getElem?_eq_some_iff.1 hx
  have ha : xs.any P = true := List.any_eq_true.2 ⟨_, List.getElem_mem hk, hP⟩
  have hi : xs.findIdx P = k := (List.findIdx_eq hk).2 ⟨hP, fun j hj => hn j _ hj (List.getElem?_eq_getElem (by omega))⟩
  unfold ixF
  rw [if_pos ha, hi]
theorem ixF_none {α : Type} {P : α → Bool} {xs : List α} {n : Nat} (hl : xs.length ≤ n) (hn : ∀ (i : Nat) (y : α), i < n → xs[i]? = some y → P y = false) : ixF P xs = -1 := by
  have ha : xs.any P = false := by
    rw [List.any_eq_false]
    intro x hx
    obtain ⟨i, hi, rfl⟩ := List.getElem_of_mem hx
    rw [hn i _ (by omega) (List.getElem?_eq_getElem hi)]
    simp
  unfold ixF
  rw [ha]
  rfl
theorem ixF_ge {α : Type} (P : α → Bool) (xs : List α) : decide (0 ≤ ixF P xs) = xs.any P := by
  unfold ixF
  cases xs.any P <;> simp
theorem any_not {α : Type} (P : α → Bool) (xs : List α) : xs.any (fun x => !P x) = !xs.all P := by
  induction xs with
  | nil => rfl
  | cons x xs ih => rw [List.any_cons, List.all_cons, ih]; cases P x <;> rfl

theorem isNotSent_any (x : Int) (w : World) :
    Calls Try.prog 75 #[.int .i64 x] w fun e w' => e = .returned (.bool (!stB x)) ∧ Below w.heap.size w w' := by
  by_cases h0 : x < 1
  · have HN : Hid (stB x = false) := Hid.mk (by unfold stB; rw [decide_eq_false (by omega)]; rfl)
    go_enter Try.func75, Try.ntmps75
    go_wp2
    go_ret
    exact ⟨ret_bool (by rw [HN.out]; rfl), Below.refl _ _⟩
  by_cases h1 : 1000000 < x
  · have HN : Hid (stB x = false) := Hid.mk (by unfold stB; rw [decide_eq_false (show ¬ x ≤ 1000000 by omega), Bool.and_false])
    go_enter Try.func75, Try.ntmps75
    go_wp2
    go_ret
    exact ⟨ret_bool (by rw [HN.out]; simp), Below.refl _ _⟩
  · have HN : Hid (stB x = true) := Hid.mk (stB_iff.2 ⟨by omega, by omega⟩)
    have h2 : ¬ x > 1000000 := by omega
    go_enter Try.func75, Try.ntmps75
    go_wp2
    go_ret
    exact ⟨ret_bool (by rw [HN.out]; simp), Below.refl _ _⟩

theorem isNoAmount_any (x : Int) (w : World) :
    Calls Try.prog 72 #[.int .i64 x] w fun e w' => e = .returned (.bool (!amB x)) ∧ Below w.heap.size w w' := by
  by_cases h0 : x < 0
  · have HN : Hid (amB x = false) := Hid.mk (by unfold amB; rw [decide_eq_false (by omega)]; rfl)
    go_enter Try.func72, Try.ntmps72
    go_wp2
    go_ret
    exact ⟨ret_bool (by rw [HN.out]; rfl), Below.refl _ _⟩
  by_cases h1 : 2000000000 < x
  · have HN : Hid (amB x = false) := Hid.mk (by unfold amB; rw [decide_eq_false (show ¬ x ≤ 2000000000 by omega), Bool.and_false])
    go_enter Try.func72, Try.ntmps72
    go_wp2
    go_ret
    exact ⟨ret_bool (by rw [HN.out]; simp), Below.refl _ _⟩
  · have HN : Hid (amB x = true) := Hid.mk (amB_iff.2 ⟨by omega, by omega⟩)
    go_enter Try.func72, Try.ntmps72
    go_wp2
    go_ret
    exact ⟨ret_bool (by rw [HN.out]; simp), Below.refl _ _⟩

theorem isNoWord_any (x : Int) (w : World) :
    Calls Try.prog 74 #[.int .i64 x] w fun e w' => e = .returned (.bool (!wdB x)) ∧ Below w.heap.size w w' := by
  by_cases h0 : x = 0
  · subst h0
    go_enter Try.func74, Try.ntmps74
    go_wp2
    go_ret
    exact ⟨rfl, Below.refl _ _⟩
  · have hne : (x != 0) = true := by simp [h0]
    have hv : wdB x = stB x := by unfold wdB stB; rw [Bool.eq_iff_iff]; simp only [Bool.and_eq_true, decide_eq_true_eq]; omega
    rw [hv]
    clear hv
    go_enter Try.func74, Try.ntmps74
    go_wp2_with fail
    refine (isNotSent_any x w).mono ?_
    rintro e w1 ⟨rfl, hb⟩
    go_wp2
    go_ret
    exact ⟨rfl, hb⟩

set_option maxRecDepth 100000 in
set_option maxHeartbeats 1000000 in
theorem indexInts_any (F : Nat) (P : Int → Bool) (hE : ∀ (args : Array Value) (w : World), (callFunc F args).run Try.prog w = .ok (.enter F args) w) (hF : ∀ (x : Int) (w : World), Calls Try.prog F #[.int .i64 x] w fun e w' => e = .returned (.bool (P x)) ∧ Below w.heap.size w w') (a : Option Addr) (n c : Nat) (zs : List Int) (w : World) (hz : zs.length = n) (hn : n ≤ 9223372036854775807) (ha : At w a zs) :
    Calls Try.prog 89 #[.slice a n c, .func (.func F) #[] #[]] w fun e w' => e = .returned (.int .i64 (ixF P zs)) ∧ Below w.heap.size w w' := by
  have HF := Hid.mk hF
  have HZ := Hid.mk hz
  have HA := Hid.mk ha
  clear hF ha hz
  go_enter Try.func89, Try.ntmps89
  go_wp2
  go_loopw [8] (fun i wr => ∃ (k : Nat), k ≤ n ∧ i = .int .i64 k ∧ (∀ (j : Nat) (y : Int), j < k → zs[j]? = some y → P y = false) ∧ Below w.heap.size w wr) (fun i _ => n - (intOf i).toNat)
  case atStart => exact ⟨0, Nat.zero_le _, rfl, fun j y hj => by omega, Below.refl _ _⟩
  case round =>
    obtain ⟨k, hk, rfl, ht, hbw⟩ := hrel
    obtain ⟨wY, rfl⟩ : ∃ x, x = wr := ⟨_, rfl⟩
    by_cases hlt : k < n
    · obtain ⟨b, off, rfl, hb, hc⟩ := (At.below HA.out hbw).some (by have := HZ.out; omega)
      obtain ⟨y, hy⟩ : ∃ y, zs[k]? = some y := ⟨_, List.getElem?_eq_getElem (by have := HZ.out; omega)⟩
      have hcx : wY.cell? ⟨b, off + k, none⟩ = some (.int .i64 y) := by
        have h9 := hc k (by have := HZ.out; omega)
        simpa [List.getD, hy] using h9
      have K := Hid.mk (HF.out y wY)
      have HT := Hid.mk ht
      have HY := Hid.mk hy
      have HBW := Hid.mk hbw
      have hki : (k : Int) < (n : Int) := by omega
      clear hc hy ht hbw
      cases hr : P y with
      | true =>
        rw [hr] at K
        go_wp2_with fail
        refine K.out.mono ?_
        rintro e w3 ⟨rfl, hb3⟩
        have HB3 := Hid.mk (HBW.out.trans (hb3.mono HBW.out.size))
        clear hb3 K
        go_wp2
        go_ret
        exact ⟨ret_int (ixF_hit HY.out hr HT.out).symm, HB3.out⟩
      | false =>
        rw [hr] at K
        go_wp2_with fail
        refine K.out.mono ?_
        rintro e w3 ⟨rfl, hb3⟩
        have HB3 := Hid.mk (HBW.out.trans (hb3.mono HBW.out.size))
        clear hb3 K
        go_wp2
        go_roundw
        case rel => exact ⟨k + 1, by omega, by go_num, fun j z hj hz => by
          by_cases e : j = k
          · subst e; rw [HY.out] at hz; cases hz; exact hr
          · exact HT.out j z (by omega) hz, HB3.out⟩
        case measure => simp [intOf]; omega
    · have HT := Hid.mk ht
      clear ht
      go_wp2
      go_ret
      exact ⟨ret_int (ixF_none (n := k) (by have := HZ.out; omega) HT.out).symm, hbw⟩

theorem containsInts_any (F : Nat) (P : Int → Bool) (hE : ∀ (args : Array Value) (w : World), (callFunc F args).run Try.prog w = .ok (.enter F args) w) (hF : ∀ (x : Int) (w : World), Calls Try.prog F #[.int .i64 x] w fun e w' => e = .returned (.bool (P x)) ∧ Below w.heap.size w w') (a : Option Addr) (n c : Nat) (zs : List Int) (w : World) (hz : zs.length = n) (hn : n ≤ 9223372036854775807) (ha : At w a zs) :
    Calls Try.prog 73 #[.slice a n c, .func (.func F) #[] #[]] w fun e w' => e = .returned (.bool (zs.any P)) ∧ Below w.heap.size w w' := by
  have K := Hid.mk (indexInts_any F P hE hF a n c zs w hz hn ha)
  rw [← ixF_ge P zs]
  obtain ⟨q, hq⟩ : ∃ q, ixF P zs = q := ⟨_, rfl⟩
  rw [hq] at K ⊢
  clear ha hz hF hE hq
  go_enter Try.func73, Try.ntmps73
  go_wp2_with fail
  refine K.out.mono ?_
  rintro e w2 ⟨rfl, hb⟩
  clear K
  go_wp2
  go_ret
  exact ⟨rfl, hb⟩

end Go.Proofs.Ythfndafgllcelaa
