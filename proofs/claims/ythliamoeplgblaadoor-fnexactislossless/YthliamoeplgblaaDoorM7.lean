/- Several texts of one proof, in build order: MinI, L1In, SomeC, GoodRow, TbG, TbI. -/
import Derived.Test.YthliamoeplgblaaDoorM4
import Derived.Test.YthliamoeplgblaaDoorM0
import Derived.Test.YthliamoeplgblaaDoorRows
import Derived.Test.YthliamoeplgblaaDoorM3

/- Contracts of slices.Min and slices.Max over numbers. -/
namespace Go.Proofs.YthliamoeplgblaaDoor
open Go.RowKit

set_option maxHeartbeats 1000000 in
theorem minI_any (a : Option Addr) (n c : Nat) (zs : List Int) (w : World) (hz : zs.length = n) (hn : n ≤ 9223372036854775807) (h1 : 1 ≤ n) (ha : At w a zs) :
    Calls Tryd.prog 70 #[.slice a n c] w fun e w' => ∃ r : Int, e = .returned (.int .i64 r) ∧ (∀ j, j < n → r ≤ zs.getD j 0) ∧ (∃ j, j < n ∧ r = zs.getD j 0) ∧ w' = w := by
  obtain ⟨b, off, rfl, hb, hc⟩ := ha.some (by omega)
  clear ha
  have hn1 : ¬ (n : Int) < 1 := by omega
  have hc0 := hc 0 (by omega)
  rw [Nat.add_zero] at hc0
  go_enter Tryd.func70, Tryd.ntmps70
  go_wp2
  go_loop [3, 4] (fun m i => ∃ (k : Nat) (r : Int), 1 ≤ k ∧ k ≤ n ∧ i = .int .i64 k ∧ m = .int .i64 r ∧ (∀ j, j < k → r ≤ zs.getD j 0) ∧ ∃ j, j < k ∧ r = zs.getD j 0) (fun _ i => n - (intOf i).toNat)
  case atStart => exact ⟨1, _, Nat.le_refl _, h1, rfl, rfl, fun j hj => by (obtain rfl : j = 0 := by omega); exact Int.le_refl _, 0, by omega, rfl⟩
  case round =>
    clear hc0
    obtain ⟨k, r, hk1, hk, rfl, rfl, hall, hex⟩ := hrel
    by_cases hlt : k < n
    · have hcx := hc k (by omega)
      have hki : (k : Int) < (n : Int) := by omega
      have HA := Hid.mk hall
      have HE := Hid.mk hex
      have HX : Hid (∀ y, y = zs.getD k 0 → ∀ s : Int, (s = r ∧ r ≤ y ∨ s = y ∧ y ≤ r) → (∀ j, j < k + 1 → s ≤ zs.getD j 0) ∧ ∃ j, j < k + 1 ∧ s = zs.getD j 0) := fun y hy s hs => by
        obtain ⟨j0, hj0, e0⟩ := HE.out
        refine ⟨fun j hj => ?_, ?_⟩
        · by_cases e : j = k
          · subst e; rw [← hy]; omega
          · have := HA.out j (by omega); omega
        · rcases hs with ⟨h, _⟩ | ⟨h, _⟩
          · exact ⟨j0, by omega, h.trans e0⟩
          · exact ⟨k, by omega, h.trans hy⟩
      obtain ⟨y, hy⟩ : ∃ y, y = zs.getD k 0 := ⟨_, rfl⟩
      rw [← hy] at hcx
      have HY := Hid.mk hy
      clear hall hex hc hy
      by_cases hry : r ≤ y
      · go_wp2
        go_round
        case rel => exact ⟨k + 1, r, by omega, by omega, by go_num, by first | rfl | (simp; omega), HX.out y HY.out r (.inl ⟨rfl, hry⟩)⟩
        case measure => simp [intOf]; omega
      · go_wp2
        go_round
        case rel => exact ⟨k + 1, y, by omega, by omega, by go_num, by first | rfl | (simp; omega), HX.out y HY.out y (.inr ⟨rfl, by omega⟩)⟩
        case measure => simp [intOf]; omega
    · obtain rfl : k = n := by omega
      have HA := Hid.mk hall
      have HE := Hid.mk hex
      clear hall hex
      go_wp2
      go_ret
      exact ⟨r, rfl, HA.out, HE.out, rfl⟩

set_option maxHeartbeats 1000000 in
theorem maxI_any (a : Option Addr) (n c : Nat) (zs : List Int) (w : World) (hz : zs.length = n) (hn : n ≤ 9223372036854775807) (h1 : 1 ≤ n) (ha : At w a zs) :
    Calls Tryd.prog 56 #[.slice a n c] w fun e w' => ∃ r : Int, e = .returned (.int .i64 r) ∧ (∀ j, j < n → zs.getD j 0 ≤ r) ∧ (∃ j, j < n ∧ r = zs.getD j 0) ∧ w' = w := by
  obtain ⟨b, off, rfl, hb, hc⟩ := ha.some (by omega)
  clear ha
  have hn1 : ¬ (n : Int) < 1 := by omega
  have hc0 := hc 0 (by omega)
  rw [Nat.add_zero] at hc0
  go_enter Tryd.func56, Tryd.ntmps56
  go_wp2
  go_loop [3, 4] (fun m i => ∃ (k : Nat) (r : Int), 1 ≤ k ∧ k ≤ n ∧ i = .int .i64 k ∧ m = .int .i64 r ∧ (∀ j, j < k → zs.getD j 0 ≤ r) ∧ ∃ j, j < k ∧ r = zs.getD j 0) (fun _ i => n - (intOf i).toNat)
  case atStart => exact ⟨1, _, Nat.le_refl _, h1, rfl, rfl, fun j hj => by (obtain rfl : j = 0 := by omega); exact Int.le_refl _, 0, by omega, rfl⟩
  case round =>
    clear hc0
    obtain ⟨k, r, hk1, hk, rfl, rfl, hall, hex⟩ := hrel
    by_cases hlt : k < n
    · have hcx := hc k (by omega)
      have hki : (k : Int) < (n : Int) := by omega
      have HA := Hid.mk hall
      have HE := Hid.mk hex
      have HX : Hid (∀ y, y = zs.getD k 0 → ∀ s : Int, (s = r ∧ y ≤ r ∨ s = y ∧ r ≤ y) → (∀ j, j < k + 1 → zs.getD j 0 ≤ s) ∧ ∃ j, j < k + 1 ∧ s = zs.getD j 0) := fun y hy s hs => by
        obtain ⟨j0, hj0, e0⟩ := HE.out
        refine ⟨fun j hj => ?_, ?_⟩
        · by_cases e : j = k
          · subst e; rw [← hy]; omega
          · have := HA.out j (by omega); omega
        · rcases hs with ⟨h, _⟩ | ⟨h, _⟩
          · exact ⟨j0, by omega, h.trans e0⟩
          · exact ⟨k, by omega, h.trans hy⟩
      obtain ⟨y, hy⟩ : ∃ y, y = zs.getD k 0 := ⟨_, rfl⟩
      rw [← hy] at hcx
      have HY := Hid.mk hy
      clear hall hex hc hy
      by_cases hry : y ≤ r
      · go_wp2
        go_round
        case rel => exact ⟨k + 1, r, by omega, by omega, by go_num, by first | rfl | (simp; omega), HX.out y HY.out r (.inl ⟨rfl, hry⟩)⟩
        case measure => simp [intOf]; omega
      · go_wp2
        go_round
        case rel => exact ⟨k + 1, y, by omega, by omega, by go_num, by first | rfl | (simp; omega), HX.out y HY.out y (.inr ⟨rfl, by omega⟩)⟩
        case measure => simp [intOf]; omega
    · obtain rfl : k = n := by omega
      have HA := Hid.mk hall
      have HE := Hid.mk hex
      clear hall hex
      go_wp2
      go_ret
      exact ⟨r, rfl, HA.out, HE.out, rfl⟩

end Go.Proofs.YthliamoeplgblaaDoor

/- Contract of spec.l1In. -/
namespace Go.Proofs.YthliamoeplgblaaDoor
open Go.RowKit

theorem l1In_any (x lo hi : Int) (w : World) :
    Calls Tryd.prog 41 #[.int .i64 x, .int .i64 lo, .int .i64 hi] w fun e w' => e = .returned (.bool (decide (lo ≤ x) && decide (x ≤ hi))) ∧ w' = w := by
  by_cases h : lo ≤ x
  · have h1 : decide (lo ≤ x) = true := decide_eq_true h
    go_enter Tryd.func41, Tryd.ntmps41
    go_wp2
    go_ret
    exact ⟨ret_bool (by simp [h]), rfl⟩
  · have h1 : decide (lo ≤ x) = false := decide_eq_false h
    go_enter Tryd.func41, Tryd.ntmps41
    go_wp2
    go_ret
    exact ⟨ret_bool (by simp), rfl⟩

end Go.Proofs.YthliamoeplgblaaDoor

/- Contracts of impl.goodColumns and impl.someColumns. -/
namespace Go.Proofs.YthliamoeplgblaaDoor
open Go.RowKit

theorem goodColumns_is (p : Int) (w : World) :
    Calls Tryd.prog 57 #[.int .i64 p] w fun e w' => e = .returned (.bool (decide (0 ≤ p) && decide (p ≤ 6))) ∧ w' = w := by
  by_cases h1 : 0 ≤ p
  · go_enter Tryd.func57, Tryd.ntmps57
    go_wp2
    go_ret
    exact ⟨by rw [decide_eq_true h1]; rfl, rfl⟩
  · go_enter Tryd.func57, Tryd.ntmps57
    go_wp2
    go_ret
    exact ⟨by rw [decide_eq_false (show ¬ 0 ≤ p by omega)]; rfl, rfl⟩
theorem someColumns_any (p : Int) (w : World) :
    Calls Tryd.prog 43 #[.int .i64 p] w fun e w' => e = .returned (.bool (decide (1 ≤ p) && decide (p ≤ 6))) ∧ w' = w := by
  by_cases h1 : 0 < p
  · go_enter Tryd.func43, Tryd.ntmps43
    go_wp2_with fail
    refine (goodColumns_is p _).mono ?_
    rintro e w1 ⟨rfl, rfl⟩
    rw [decide_eq_true (show 0 ≤ p by omega), Bool.true_and]
    go_wp2
    go_ret
    exact ⟨by rw [decide_eq_true (show 1 ≤ p by omega)]; rfl, rfl⟩
  · go_enter Tryd.func43, Tryd.ntmps43
    go_wp2
    go_ret
    exact ⟨by rw [decide_eq_false (show ¬ 1 ≤ p by omega)]; rfl, rfl⟩

end Go.Proofs.YthliamoeplgblaaDoor

/- Contracts of impl.GoodRow and spec.GoodRow. -/
namespace Go.Proofs.YthliamoeplgblaaDoor
open Go.RowKit

set_option maxHeartbeats 400000 in
theorem implGoodRow_any (a : Option Addr) (n c : Nat) (zs : List Int) (w : World) (hz : zs.length = n) (hn : n ≤ 9223372036854775807) (ha : At w a zs) :
    Calls Tryd.prog 69 #[.agg #[.slice a n c]] w fun e w' => e = .returned (.bool (good zs)) ∧ Below w.heap.size w w' := by
  by_cases h6 : n ≤ 6
  · by_cases h0 : n = 0
    · subst h0
      obtain rfl := List.eq_nil_of_length_eq_zero hz
      go_enter Tryd.func69, Tryd.ntmps69
      go_wp2
      refine wp_loop_rounds 1 ?_
      rw [rounds_succ]
      go_wp2
      go_ret
      exact ⟨ret_bool (by simp [good]), (Below.refl _ _).alloc (Nat.le_refl _) _⟩
    · obtain ⟨b, off, rfl, hb, hc⟩ := (ha.alloc (.cells #[.slice a n c] 47)).some (by omega)
      clear ha
      go_enter Tryd.func69, Tryd.ntmps69
      go_wp2
      go_loop [12] (fun i => ∃ k : Nat, k ≤ n ∧ i = .int .i64 k ∧ ∀ j, j < k → -100000 ≤ zs.getD j 0 ∧ zs.getD j 0 ≤ 100000) (fun i => n - (intOf i).toNat)
      case atStart => exact ⟨0, Nat.zero_le _, rfl, fun j hj => by omega⟩
      case round =>
        obtain ⟨k, hk, rfl, hall⟩ := hrel
        by_cases hlt : k < n
        · have hcx := hc k (by omega)
          have HN := not_good_cell (zs := zs) k (by omega)
          have HS : Hid (-100000 ≤ zs.getD k 0 → zs.getD k 0 ≤ 100000 → ∀ j, j < k + 1 → -100000 ≤ zs.getD j 0 ∧ zs.getD j 0 ≤ 100000) := fun h1 h2 j hj => by
            by_cases e : j = k
            · subst e; exact ⟨h1, h2⟩
            · exact hall j (by omega)
          clear hall hc
          obtain ⟨x, hx⟩ : ∃ x, x = zs.getD k 0 := ⟨_, rfl⟩
          rw [← hx] at hcx HN HS
          have HN' : Hid (x < -100000 ∨ 100000 < x → good zs = false) := HN
          clear hx HN
          by_cases hlo : x < -100000
          · go_wp2
            go_ret
            exact ⟨ret_bool (HN'.out (.inl hlo)).symm, (Below.refl _ _).alloc (Nat.le_refl _) _⟩
          · by_cases hhi : 100000 < x
            · go_wp2
              go_ret
              exact ⟨ret_bool (HN'.out (.inr hhi)).symm, (Below.refl _ _).alloc (Nat.le_refl _) _⟩
            · go_wp2
              go_round
              case rel => exact ⟨k + 1, by omega, by go_num, HS.out (by omega) (by omega)⟩
              case measure => simp [intOf]; omega
        · go_wp2
          go_ret
          exact ⟨ret_bool (good_of (by omega) (fun j hj => hall j (by omega))).symm, (Below.refl _ _).alloc (Nat.le_refl _) _⟩
  · go_enter Tryd.func69, Tryd.ntmps69
    go_wp2
    go_ret
    exact ⟨ret_bool (good_long (by omega)).symm, (Below.refl _ _).alloc (Nat.le_refl _) _⟩

end Go.Proofs.YthliamoeplgblaaDoor

/- Tableaus as things in memory, and the laws' helpers over them: szRowS, szTableau, eqRowS, eqTableau. -/
namespace Go.Proofs.YthliamoeplgblaaDoor
open Go.RowKit

abbrev RRows : Rep (List (List Int)) := Rep.slice 47 RInts
abbrev Tbl := Int × List (List Int)
abbrev RTbl : Rep Tbl := Rep.pair Rep.int RRows

theorem RTbl.at_iff {w : World} {p : Int} {a : Option Addr} {n c : Nat} {x : Tbl} (h : RTbl.At w [.int .i64 p, .slice a n c] x) : x.1 = p ∧ x.2.length = n ∧ n ≤ 9223372036854775807 ∧ AtS w a x.2 ∧ (a = none → c = 0) := by
  obtain ⟨c1, c2, e, h1, a', n', c', rfl, t1, t2, t3, t4⟩ := h
  obtain rfl : c1 = [.int .i64 x.1] := h1
  simp only [List.cons_append, List.nil_append, List.cons.injEq, Value.slice.injEq, Value.int.injEq, and_true, true_and] at e
  obtain ⟨rfl, rfl, rfl, rfl⟩ := e
  exact ⟨rfl, t1, t2, atSl_ints t3, t4⟩

theorem RTbl.own_mk {w : World} {F : Nat → Prop} {p : Int} {a : Option Addr} {n c : Nat} {zss : List (List Int)} (h : RRows.Own w F [.slice a n c] zss) : RTbl.Own w F [.int .i64 p, .slice a n c] (p, zss) :=
  ⟨[_], [_], fun _ => False, F, rfl, rfl, h, fun _ h => h.elim, fun _ h => h, fun _ h => h.elim⟩
theorem RTbl.own_open {w : World} {F : Nat → Prop} {p : Int} {a : Option Addr} {n c : Nat} {x : Tbl} (h : RTbl.Own w F [.int .i64 p, .slice a n c] x) : x.1 = p ∧ RRows.Own w F [.slice a n c] x.2 := by
  obtain ⟨c1, c2, F1, F2, e, h1, h2, _, h4, _⟩ := h
  obtain rfl : c1 = [.int .i64 x.1] := h1
  simp only [List.cons_append, List.nil_append, List.cons.injEq, Value.int.injEq, true_and] at e
  obtain ⟨rfl, rfl⟩ := e
  exact ⟨rfl, RRows.mono h2 h4⟩
theorem RRows.atS {w : World} {F : Nat → Prop} {a : Option Addr} {n c : Nat} {zss : List (List Int)} (h : RRows.Own w F [.slice a n c] zss) : zss.length = n ∧ AtS w a zss := by
  obtain ⟨a', n', c', e, t1, t2, t3, _⟩ := RRows.toAt h
  simp only [List.cons.injEq, Value.slice.injEq, and_true] at e
  obtain ⟨rfl, rfl, rfl⟩ := e
  exact ⟨t1, atSl_ints t3⟩
theorem RRows.atR {w : World} {F : Nat → Prop} {a : Option Addr} {n c : Nat} {zss : List (List Int)} (h : RRows.Own w F [.slice a n c] zss) : AtSl RInts w a zss := by
  obtain ⟨a', n', c', e, t1, t2, t3, _⟩ := RRows.toAt h
  simp only [List.cons.injEq, Value.slice.injEq, and_true] at e
  obtain ⟨rfl, rfl, rfl⟩ := e
  exact t3

/-- Rows within the laws' bound. -/
def SmR (zss : List (List Int)) (n : Nat) : Prop := zss.length = n ∧ n + tot zss n ≤ 1048576
theorem SmR.n {zss : List (List Int)} {n : Nat} (h : SmR zss n) : n ≤ 1048576 := by have := h.2; omega
theorem SmR.sum {zss : List (List Int)} {n : Nat} (h : SmR zss n) : tot zss n ≤ 1048576 := by have := h.2; omega
theorem SmR.each {zss : List (List Int)} {n : Nat} (h : SmR zss n) : ∀ i, i < zss.length → (zss.getD i []).length ≤ 1048576 := fun i hi => by
  have h1 := tot_succ zss i hi
  have h2 := tot_mono zss (i + 1) n (by have := h.1; omega)
  have := h.2
  omega

set_option maxHeartbeats 2000000 in
theorem eqRowS_same (a a' : Option Addr) (n c c' : Nat) (zss : List (List Int)) (w : World) (hs : SmR zss n) (ha : AtS w a zss) (ha' : AtS w a' zss) :
    Calls Tryd.prog 26 #[.slice a n c, .slice a' n c'] w fun e w' => e = .returned (.bool true) ∧ Below w.heap.size w w' := by
  have hn := hs.n
  have hz := hs.1
  by_cases h0 : n = 0
  · subst h0
    go_enter Tryd.func26, Tryd.ntmps26
    go_wp2
    refine wp_loop_rounds 1 ?_
    rw [rounds_succ]
    go_wp2
    go_ret
    exact ⟨rfl, Below.refl _ _⟩
  · go_enter Tryd.func26, Tryd.ntmps26
    go_wp2
    go_loopw [5] (fun i wr => ∃ (k : Nat), k ≤ n ∧ i = .int .i64 k ∧ Below w.heap.size w wr) (fun i _ => n - (intOf i).toNat)
    case atStart => exact ⟨0, Nat.zero_le _, rfl, Below.refl _ _⟩
    case round =>
      obtain ⟨k, hk, rfl, hbw⟩ := hrel
      by_cases hlt : k < n
      · obtain ⟨b, off, rfl, hc⟩ := (ha.below hbw).some (by omega)
        obtain ⟨b', off', rfl, hc'⟩ := (ha'.below hbw).some (by omega)
        obtain ⟨q, d, hcx, _, hat⟩ := hc k (by omega)
        obtain ⟨q', d', hcy, _, hat'⟩ := hc' k (by omega)
        have hm := hs.each k (by omega)
        generalize zss.getD k [] = ys at *
        obtain ⟨m, hmm⟩ : ∃ m, ys.length = m := ⟨_, rfl⟩
        rw [hmm] at hcx hcy hm
        have hki : (k : Int) < (n : Int) := by omega
        have HE : Hid (∀ w' : World, Below wr.heap.size wr w' → Calls Tryd.prog 48 #[.agg #[.slice q m d], .agg #[.slice q' m d']] w' fun e w'' => e = .returned (.bool true) ∧ Below w'.heap.size w' w'') :=
          fun w' hw' => (eqRow_any q q' m m d d' ys ys w' hmm hmm hm hm (At.below hat hw') (At.below hat' hw')).mono fun _ _ ⟨h1, h2⟩ => ⟨by rw [h1, decide_eq_true rfl], h2⟩
        clear hc hc' hmm ha ha' hs hz
        go_wp2_with fail
        go_region_held3 (fun w' => w'.cell? ⟨b, off + k, none⟩ = some (.slice q m d) ∧ w'.cell? ⟨b', off' + k, none⟩ = some (.slice q' m d')) (refine ⟨?_, ?_⟩ <;> assumption)
          (first | (go_at_call 48; refine (HE.out wr.drew (Below.refl _ _).drew).mono ?_; rintro e w2 ⟨rfl, hb2⟩; have e0 := cell_later hb2 hcx; have e1 := cell_later hb2 hcy) | fail)
        go_wp2
        go_roundw
        case rel => exact ⟨k + 1, by omega, by go_num, hbw.drew.trans (hb2.mono hbw.size)⟩
        case measure => simp [intOf]; omega
      · go_wp2
        go_ret
        exact ⟨rfl, hbw⟩

theorem eqTableau_same (p : Int) (a a' : Option Addr) (n c c' : Nat) (zss : List (List Int)) (w : World) (hs : SmR zss n) (ha : AtS w a zss) (ha' : AtS w a' zss) :
    Calls Tryd.prog 9 #[.agg #[.int .i64 p, .slice a n c], .agg #[.int .i64 p, .slice a' n c']] w fun e w' => e = .returned (.bool true) ∧ Below w.heap.size w w' := by
  obtain ⟨W, hW⟩ : ∃ W, W = (w.alloc (.cells #[.int .i64 p, .slice a n c] 26)).alloc (.cells #[.int .i64 p, .slice a' n c'] 26) := ⟨_, rfl⟩
  have B : Below w.heap.size w W := by rw [hW]; exact ((Below.refl _ _).alloc (Nat.le_refl _) _).alloc (by simp) _
  have HA := Hid.mk (ha.below B)
  have HA' := Hid.mk (ha'.below B)
  clear ha ha'
  go_enter Tryd.func9, Tryd.ntmps9
  go_wp2_with fail
  rw [← hW]
  clear hW
  refine (eqRowS_same _ _ _ _ _ zss _ hs HA.out HA'.out).mono ?_
  rintro e w1 ⟨rfl, hb⟩
  go_wp2
  go_ret
  exact ⟨rfl, B.trans (hb.mono B.size)⟩

end Go.Proofs.YthliamoeplgblaaDoor

/- Contracts of GoodTableau, the program's and the model's. -/
namespace Go.Proofs.YthliamoeplgblaaDoor
open Go.RowKit

theorem row0 (w : World) (v : Value) (t : TypeId) : (w.alloc (.cells #[v] t)).cell? ⟨w.heap.size, 0, none⟩ = some v := by simp

set_option maxRecDepth 100000 in
set_option maxHeartbeats 4000000 in
theorem implGoodTableau (p : Int) (a : Option Addr) (n c : Nat) (zss : List (List Int)) (w : World) (hz : zss.length = n) (hn : n ≤ 9223372036854775807) (ha : AtS w a zss) :
    Calls Tryd.prog 62 #[.agg #[.int .i64 p, .slice a n c]] w fun e w' => e = .returned (.bool (tbB p zss)) ∧ Below w.heap.size w w' := by
  obtain ⟨W, hW⟩ : ∃ W, W = w.alloc (.cells #[.int .i64 p, .slice a n c] 26) := ⟨_, rfl⟩
  have B0 : Below w.heap.size w W := by rw [hW]; exact (Below.refl _ _).alloc (Nat.le_refl _) _
  have c0 : W.cell? ⟨w.heap.size, 0, none⟩ = some (.int .i64 p) := by rw [hW]; simp
  have c1 : W.cell? ⟨w.heap.size, 1, none⟩ = some (.slice a n c) := by rw [hW]; simp
  have HZ := Hid.mk hz
  have HA := Hid.mk (ha.below B0)
  clear hz ha
  cases hs : (decide (1 ≤ p) && decide (p ≤ 6)) with
  | false =>
    have HG : Hid (tbB p zss = false) := by show _ = _; unfold tbB; rw [hs]; rfl
    go_enter Tryd.func62, Tryd.ntmps62
    go_wp2_with fail
    rw [← hW]
    clear hW
    refine (someColumns_any p _).mono ?_
    rintro e w1 ⟨rfl, hw1⟩
    obtain rfl := hw1.symm
    rw [hs]
    go_wp2
    go_ret
    exact ⟨by rw [HG.out]; rfl, B0⟩
  | true =>
  have hs' : 1 ≤ p ∧ p ≤ 6 := by simpa using hs
  by_cases h1 : n < 1
  · have h1' : (n : Int) < 1 := by omega
    have HG : Hid (tbB p zss = false) := by show _ = _; unfold tbB; rw [HZ.out, hs, decide_eq_false (by omega : ¬ 1 ≤ n)]; rfl
    clear hs'
    go_enter Tryd.func62, Tryd.ntmps62
    go_wp2_with fail
    rw [← hW]
    clear hW
    refine (someColumns_any p _).mono ?_
    rintro e w1 ⟨rfl, hw1⟩
    obtain rfl := hw1.symm
    rw [hs]
    go_wp2
    go_ret
    exact ⟨by rw [HG.out]; rfl, B0⟩
  have h1' : ¬ (n : Int) < 1 := by omega
  by_cases h2 : 8 < n
  · have h2' : (8 : Int) < (n : Int) := by omega
    have HG : Hid (tbB p zss = false) := by show _ = _; unfold tbB; rw [HZ.out, hs, decide_eq_false (by omega : ¬ n ≤ 8)]; simp
    clear hs'
    go_enter Tryd.func62, Tryd.ntmps62
    go_wp2_with fail
    rw [← hW]
    clear hW
    refine (someColumns_any p _).mono ?_
    rintro e w1 ⟨rfl, hw1⟩
    obtain rfl := hw1.symm
    rw [hs]
    go_wp2
    go_ret
    exact ⟨by rw [HG.out]; rfl, B0⟩
  have h2' : ¬ (8 : Int) < (n : Int) := by omega
  have HG : Hid (tbB p zss = (zss.drop 0).all (rowOk p)) := by
    show _ = _; unfold tbB
    rw [HZ.out, hs, decide_eq_true (by omega : 1 ≤ n), decide_eq_true (by omega : n ≤ 8)]; rfl
  have HP := Hid.mk hs'
  clear hs' h1 h2
  go_enter Tryd.func62, Tryd.ntmps62
  go_wp2_with fail
  rw [← hW]
  clear hW
  refine (someColumns_any p _).mono ?_
  rintro e w1 ⟨rfl, hw1⟩
  obtain rfl := hw1.symm
  rw [hs]
  clear hs
  go_wp2_with fail
  go_loopw [24] (fun i wr => ∃ k : Nat, k ≤ n ∧ i = .int .i64 k ∧ tbB p zss = (zss.drop k).all (rowOk p) ∧ Below W.heap.size W wr) (fun i _ => n - (intOf i).toNat)
  case atStart => exact ⟨0, Nat.zero_le _, rfl, HG.out, Below.refl _ _⟩
  case round =>
    clear HG
    obtain ⟨k, hk, rfl, hG, hbw⟩ := hrel
    have d0 := cell_later hbw c0
    have BW : Below w.heap.size w wr := B0.trans (hbw.mono B0.size)
    by_cases hlt : k < n
    · obtain ⟨b, off, rfl, hc⟩ := (HA.out.below hbw).some (by have := HZ.out; omega)
      obtain ⟨ys, hy⟩ : ∃ ys, zss[k]? = some ys := ⟨_, List.getElem?_eq_getElem (by have := HZ.out; omega)⟩
      obtain ⟨a', c', hcx, hm, hat⟩ := hc k (by have := HZ.out; omega)
      have hgk : zss.getD k [] = ys := by simp [List.getD, hy]
      rw [hgk] at hcx hat hm
      rw [all_drop hy] at hG
      obtain ⟨m, hmm⟩ : ∃ m, ys.length = m := ⟨_, rfl⟩
      rw [hmm] at hcx hm
      have hki : (k : Int) < (n : Int) := by omega
      have HG := Hid.mk hG
      have HM := Hid.mk hmm
      have hb1 : Below wr.heap.size wr (wr.alloc (.cells #[.slice a' m c'] 47)) := (Below.refl _ _).alloc (Nat.le_refl _) _
      have HY := Hid.mk (hat.below hb1)
      have B1 := BW.trans (hb1.mono BW.size)
      have e0 := cell_later hb1 d0
      have e1 := row0 wr (.slice a' m c') 47
      have HB := Hid.mk (hbw.trans (hb1.mono hbw.size))
      clear hG hmm hc hat hgk hy hbw hb1 BW c0 c1
      cases hg : good ys with
      | false =>
        have HF : Hid (tbB p zss = false) := by show _ = _; rw [HG.out]; simp [rowOk, hg]
        go_wp2_with fail
        refine (implGoodRow_any _ _ _ ys _ HM.out hm HY.out).mono ?_
        rintro e w1 ⟨rfl, hb⟩
        rw [hg]
        go_wp2
        go_ret
        exact ⟨by rw [HF.out]; rfl, B1.trans (hb.mono B1.size)⟩
      | true =>
      by_cases hl : (m : Int) = p
      · have hne : ((m : Int) != p) = false := by simp [hl]
        have HL := Hid.mk hl
        have hm1 : 1 ≤ m := by have := HP.out; omega
        clear hl
        go_wp2_with fail
        refine (implGoodRow_any _ _ _ ys _ HM.out hm HY.out).mono ?_
        rintro e w1 ⟨rfl, hb⟩
        have f0 := cell_later hb e0
        have f1 := cell_later hb e1
        have HB1 := Hid.mk (HB.out.trans (hb.mono HB.out.size))
        rw [hg]
        clear e0 e1
        go_wp2_with fail
        refine (minI_any _ _ _ ys _ HM.out hm hm1 (HY.out.below hb)).mono ?_
        rintro e w2 ⟨r, rfl, hr1, hr2, hw2⟩
        obtain rfl := hw2.symm
        have HR := Hid.mk hr1
        have HR2 := Hid.mk hr2
        clear hr1 hr2
        by_cases hr : r < 0
        · have HF : Hid (tbB p zss = false) := by
            show _ = _
            have : rowOk p ys = false := by
              obtain ⟨j, hj, ej⟩ := HR2.out
              cases hro : rowOk p ys with
              | false => rfl
              | true => have := (rowOk_cell hro j (by have := HM.out; omega)).1; omega
            rw [HG.out, this]; rfl
          go_wp2
          go_ret
          exact ⟨by rw [HF.out]; rfl, B1.trans (hb.mono B1.size)⟩
        · have HF : Hid (tbB p zss = (zss.drop (k + 1)).all (rowOk p)) := by
            show _ = _
            rw [HG.out, rowOk_of hg (by rw [HM.out]; exact HL.out) (fun j hj => by have := HR.out j (by have := HM.out; omega); omega)]; rfl
          go_wp2
          go_roundw
          case rel => exact ⟨k + 1, by omega, by go_num, HF.out, HB1.out⟩
          case measure => simp [intOf]; omega
      · have hne : ((m : Int) != p) = true := by simp [hl]
        have HF : Hid (tbB p zss = false) := by
          show _ = _
          rw [HG.out]
          have : rowOk p ys = false := by simp [rowOk, hg, HM.out, hl]
          rw [this]; rfl
        clear hl
        go_wp2_with fail
        refine (implGoodRow_any _ _ _ ys _ HM.out hm HY.out).mono ?_
        rintro e w1 ⟨rfl, hb⟩
        have f0 := cell_later hb e0
        have f1 := cell_later hb e1
        rw [hg]
        clear e0 e1
        go_wp2
        go_ret
        exact ⟨by rw [HF.out]; rfl, B1.trans (hb.mono B1.size)⟩
    · obtain rfl : k = n := by omega
      have HF : Hid (tbB p zss = true) := by show _ = _; rw [hG, List.drop_of_length_le (by have := HZ.out; omega)]; rfl
      clear hG
      go_wp2
      go_ret
      exact ⟨by rw [HF.out]; rfl, BW⟩

end Go.Proofs.YthliamoeplgblaaDoor
