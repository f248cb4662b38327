/- Contracts of areRising and GoodDepends, the program's and the model's. -/
import Derived.Test.YthliamoeplgblaaDoorDepP
import Derived.Test.YthliamoeplgblaaDoorL1In
import Derived.Test.YthliamoeplgblaaDoorSomeC
namespace Go.Proofs.YthliamoeplgblaaDoor
open Go.RowKit

set_option maxHeartbeats 1000000 in
theorem areRising_any (a : Option Addr) (n c : Nat) (zs : List Int) (C : Int) (w : World) (hz : zs.length = n) (hn : n ≤ 9223372036854775807) (ha : At w a zs) :
    Calls Tryd.prog 44 #[.slice a n c, .int .i64 C] w fun e w' => e = .returned (.bool (ris C zs)) ∧ Below w.heap.size w w' := by
  by_cases h0 : n = 0
  · subst h0
    obtain rfl := List.eq_nil_of_length_eq_zero hz
    go_enter Tryd.func44, Tryd.ntmps44
    go_wp2
    refine wp_loop_rounds 1 ?_
    rw [rounds_succ]
    go_wp2
    go_ret
    exact ⟨rfl, Below.refl _ _⟩
  · obtain ⟨b, off, rfl, hb, hc⟩ := ha.some (by omega)
    clear ha
    go_enter Tryd.func44, Tryd.ntmps44
    go_wp2
    go_loopw [5, 10] (fun p i wr => ∃ (k : Nat) (q : Int), k ≤ n ∧ i = .int .i64 k ∧ p = .int .i64 q ∧ ris C zs = risB C q (zs.drop k) ∧ Below w.heap.size w wr) (fun _ i _ => n - (intOf i).toNat)
    case atStart => exact ⟨0, -1, Nat.zero_le _, rfl, rfl, rfl, Below.refl _ _⟩
    case round =>
      obtain ⟨k, q, hk, rfl, rfl, ht, hbw⟩ := hrel
      by_cases hlt : k < n
      · have hcx : wr.cell? ⟨b, off + k, none⟩ = some (.int .i64 (zs.getD k 0)) := (hbw.cell hb).trans (hc k (by omega))
        rw [risB_step _ _ _ _ (by omega)] at ht
        obtain ⟨x, hx⟩ : ∃ x, x = zs.getD k 0 := ⟨_, rfl⟩
        rw [← hx] at hcx ht
        have HT := Hid.mk ht
        clear hx ht hc
        by_cases c1 : x ≤ q
        · go_wp2
          go_ret
          exact ⟨by rw [HT.out, decide_eq_false (by omega : ¬ q < x)]; rfl, hbw⟩
        · by_cases c2 : C ≤ x
          · go_wp2
            go_ret
            exact ⟨by rw [HT.out, decide_eq_false (by omega : ¬ x < C)]; simp, hbw⟩
          · go_wp2
            go_roundw
            case rel => exact ⟨k + 1, x, by omega, by go_num, rfl, by rw [HT.out, decide_eq_true (by omega : q < x), decide_eq_true (by omega : x < C)]; rfl, hbw⟩
            case measure => simp [intOf]; omega
      · have HT := Hid.mk ht
        clear ht
        go_wp2
        go_ret
        exact ⟨by rw [HT.out, risB_done _ _ _ _ (by omega)]; rfl, hbw⟩

set_option maxRecDepth 100000 in
set_option maxHeartbeats 2000000 in
theorem implGoodDepends (a : Option Addr) (n c : Nat) (xs : List Dep) (C : Int) (w : World) (hz : xs.length = n) (hn : n ≤ 9223372036854775807) (ha : AtD w a xs) :
    Calls Tryd.prog 63 #[.slice a n c, .int .i64 C] w fun e w' => e = .returned (.bool (goodDeps xs C)) ∧ Below w.heap.size w w' := by
  cases hs : (decide (1 ≤ C) && decide (C ≤ 6)) with
  | false =>
    have HG : Hid (goodDeps xs C = false) := by
      show _ = _
      unfold goodDeps
      rw [← Bool.and_assoc, hs]; rfl
    go_enter Tryd.func63, Tryd.ntmps63
    go_wp2_with fail
    refine (someColumns_any C _).mono ?_
    rintro e w1 ⟨rfl, hw1⟩
    obtain rfl := hw1.symm
    rw [hs]
    go_wp2
    go_ret
    exact ⟨by rw [HG.out]; rfl, Below.refl _ _⟩
  | true =>
  have hs' : 1 ≤ C ∧ C ≤ 6 := by simpa using hs
  have c1 : ¬ C < 1 := by omega
  have c2 : ¬ 6 < C := by omega
  by_cases c3 : 10 < n
  · have c3' : (10 : Int) < (n : Int) := by omega
    go_enter Tryd.func63, Tryd.ntmps63
    go_wp2_with fail
    refine (someColumns_any C _).mono ?_
    rintro e w1 ⟨rfl, hw1⟩
    obtain rfl := hw1.symm
    rw [hs]
    go_wp2
    go_ret
    exact ⟨by unfold goodDeps; rw [decide_eq_false (by omega : ¬ xs.length ≤ 10)]; simp, Below.refl _ _⟩
  have hg : goodDeps xs C = allDep C xs := by
    unfold goodDeps; rw [decide_eq_true (by omega : 1 ≤ C), decide_eq_true (by omega : C ≤ 6), decide_eq_true (by omega : xs.length ≤ 10)]; rfl
  rw [hg]
  clear hg
  have c3' : ¬ (10 : Int) < (n : Int) := by omega
  clear hs'
  go_enter Tryd.func63, Tryd.ntmps63
  go_wp2_with fail
  refine (someColumns_any C _).mono ?_
  rintro e w1 ⟨rfl, hw1⟩
  obtain rfl := hw1.symm
  rw [hs]
  clear hs
  go_wp2
  go_loopw [17] (fun i wr => ∃ (k : Nat), k ≤ n ∧ i = .int .i64 k ∧ allDep C xs = allDep C (xs.drop k) ∧ Below w.heap.size w wr) (fun i _ => n - (intOf i).toNat)
  case atStart => exact ⟨0, Nat.zero_le _, rfl, rfl, Below.refl _ _⟩
  case round =>
    obtain ⟨k, hk, rfl, ht, hbw⟩ := hrel
    by_cases hlt : k < n
    · obtain ⟨b, off, rfl, _, hc⟩ := AtD.row (AtSl.below ha hbw) (by omega)
      obtain ⟨x, hx⟩ : ∃ x, xs[k]? = some x := ⟨_, List.getElem?_eq_getElem (by omega)⟩
      obtain ⟨fa, fn, fc, ta, tn, tc, g0, g1, ⟨t1, t2, t3⟩, ⟨u1, u2, u3⟩⟩ := hc k x hx
      rw [allDep_step C hx] at ht
      have HT := Hid.mk ht
      have HA1 := Hid.mk t3
      have HA2 := Hid.mk u3
      have HL1 := Hid.mk t1
      have HL2 := Hid.mk u1
      have hki : (k : Int) < (n : Int) := by omega
      clear ht hc ha hx t1 t3 u1 u3
      go_wp2_with fail
      obtain ⟨W, hW⟩ : ∃ W, W = wr.alloc (.cells #[.slice fa fn fc, .slice ta tn tc] 61) := ⟨_, rfl⟩
      have bW : Below wr.heap.size wr W := by rw [hW]; exact (Below.refl _ _).alloc (Nat.le_refl _) _
      have q1 : W.cell? ⟨wr.heap.size, 1, none⟩ = some (.slice ta tn tc) := by rw [hW]; simp
      have HB := Hid.mk (hbw.trans (bW.mono hbw.size))
      have HA1' := Hid.mk (At.below HA1.out bW)
      have HA2' := Hid.mk (At.below HA2.out bW)
      clear HA1 HA2 bW
      rw [← hW]
      clear hW
      refine (areRising_any fa fn fc x.1 C W HL1.out t2 HA1'.out).mono ?_
      rintro e w1 ⟨rfl, hb1⟩
      have q1 := cell_later hb1 q1
      have HB1 := Hid.mk (HB.out.trans (hb1.mono HB.out.size))
      have HA3 := Hid.mk (At.below HA2'.out hb1)
      clear hb1 HA2' HB
      cases hr1 : ris C x.1 with
      | false =>
        go_wp2
        go_ret
        exact ⟨by rw [HT.out, hr1]; rfl, HB1.out⟩
      | true =>
        go_wp2_with fail
        refine (areRising_any ta tn tc x.2 C w1 HL2.out u2 HA3.out).mono ?_
        rintro e w2 ⟨rfl, hb2⟩
        have HB2 := Hid.mk (HB1.out.trans (hb2.mono HB1.out.size))
        clear hb2 HA3
        cases hr2 : ris C x.2 with
        | false =>
          go_wp2
          go_ret
          exact ⟨by rw [HT.out, hr1, hr2]; rfl, HB2.out⟩
        | true =>
          go_wp2
          go_roundw
          case rel => exact ⟨k + 1, by omega, by go_num, by rw [HT.out, hr1, hr2]; rfl, HB2.out⟩
          case measure => simp [intOf]; omega
    · have HT := Hid.mk ht
      clear ht
      go_wp2
      go_ret
      exact ⟨by rw [HT.out, allDep_done _ _ _ (by omega)]; rfl, hbw⟩

set_option maxHeartbeats 2000000 in
theorem l1Some_any (a : Option Addr) (n c : Nat) (zs : List Int) (C : Int) (w : World) (hz : zs.length = n) (hn : n ≤ 9223372036854775807) (ha : At w a zs) :
    Calls Tryd.prog 39 #[.slice a n c, .int .i64 C] w fun e w' => e = .returned (.bool (ris C zs)) ∧ Below w.heap.size w w' := by
  by_cases h0 : n = 0
  · subst h0
    obtain rfl := List.eq_nil_of_length_eq_zero hz
    go_enter Tryd.func39, Tryd.ntmps39
    go_wp2
    refine wp_loop_rounds 1 ?_
    rw [rounds_succ]
    go_wp2
    go_ret
    exact ⟨rfl, Below.refl _ _⟩
  · obtain ⟨b, off, rfl, hb, hc⟩ := ha.some (by omega)
    clear ha
    go_enter Tryd.func39, Tryd.ntmps39
    go_wp2
    go_loopw [9] (fun i wr => ∃ (k : Nat), k ≤ n ∧ i = .int .i64 k ∧ ris C zs = risB C (if k = 0 then -1 else zs.getD (k - 1) 0) (zs.drop k) ∧ (0 < k → 0 ≤ zs.getD (k - 1) 0) ∧ Below w.heap.size w wr) (fun i _ => n - (intOf i).toNat)
    case atStart => exact ⟨0, Nat.zero_le _, rfl, rfl, fun h => absurd h (by omega), Below.refl _ _⟩
    case round =>
      obtain ⟨k, hk, rfl, ht, hp, hbw⟩ := hrel
      by_cases hlt : k < n
      · have hcx : wr.cell? ⟨b, off + k, none⟩ = some (.int .i64 (zs.getD k 0)) := (hbw.cell hb).trans (hc k (by omega))
        rw [risB_step _ _ _ _ (by omega)] at ht
        obtain ⟨x, hx⟩ : ∃ x, x = zs.getD k 0 := ⟨_, rfl⟩
        have HX : Hid (zs.getD (k + 1 - 1) 0 = x) := by show _ = _; rw [Nat.add_sub_cancel, hx]
        rw [← hx] at hcx ht
        by_cases k0 : k = 0
        · rw [if_pos k0] at ht
          have HT := Hid.mk ht
          have HK := Hid.mk k0
          have hk0 : decide (0 < k) = false := decide_eq_false (by omega)
          have hk0' : ¬ (0 : Int) < (k : Int) := by omega
          clear hx ht hc hp k0
          by_cases c1 : x < 0
          · go_wp2
            go_ret
            exact ⟨by rw [HT.out, decide_eq_false (by omega : ¬ (-1 : Int) < x)]; rfl, hbw⟩
          · by_cases c2 : C ≤ x
            · go_wp2
              go_ret
              exact ⟨by rw [HT.out, decide_eq_false (by omega : ¬ x < C)]; simp, hbw⟩
            · go_wp2
              go_roundw
              case rel => exact ⟨k + 1, by omega, by go_num, by rw [HT.out, if_neg (by omega), HX.out, decide_eq_true (by omega : (-1 : Int) < x), decide_eq_true (by omega : x < C)]; rfl, fun _ => by rw [HX.out]; omega, hbw⟩
              case measure => simp [intOf]; omega
        · have hcp : wr.cell? ⟨b, off + (k - 1), none⟩ = some (.int .i64 (zs.getD (k - 1) 0)) := (hbw.cell hb).trans (hc (k - 1) (by omega))
          rw [if_neg k0] at ht
          have hp0 := hp (by omega)
          obtain ⟨q, hq⟩ : ∃ q, q = zs.getD (k - 1) 0 := ⟨_, rfl⟩
          rw [← hq] at hcp ht hp0
          have HT := Hid.mk ht
          have hk1 : 0 < k := by omega
          have hk1' : (0 : Int) < (k : Int) := by omega
          have hw : IntKind.i64.wrap ((k : Int) - 1) = ((k - 1 : Nat) : Int) := by rw [IntWalk.i64_in _ (by omega)]; omega
          have hkn : k - 1 < n := by omega
          clear hx ht hc hp hq k0
          by_cases c1 : x < 0
          · go_wp2
            go_ret
            exact ⟨by rw [HT.out, decide_eq_false (by omega : ¬ q < x)]; rfl, hbw⟩
          · by_cases c2 : C ≤ x
            · go_wp2
              go_ret
              exact ⟨by rw [HT.out, decide_eq_false (by omega : ¬ x < C)]; simp, hbw⟩
            · by_cases c3 : x ≤ q
              · go_wp2
                go_ret
                exact ⟨by rw [HT.out, decide_eq_false (by omega : ¬ q < x)]; rfl, hbw⟩
              · go_wp2
                go_roundw
                case rel => exact ⟨k + 1, by omega, by go_num, by rw [HT.out, if_neg (by omega), HX.out, decide_eq_true (by omega : q < x), decide_eq_true (by omega : x < C)]; rfl, fun _ => by rw [HX.out]; omega, hbw⟩
                case measure => simp [intOf]; omega
      · have HT := Hid.mk ht
        clear ht
        go_wp2
        go_ret
        exact ⟨by rw [HT.out, risB_done _ _ _ _ (by omega)]; rfl, hbw⟩

set_option maxHeartbeats 1000000 in
theorem l7Depend_any (fa : Option Addr) (fn fc : Nat) (ta : Option Addr) (tn tc : Nat) (fs ts : List Int) (C : Int) (w : World) (h1 : fs.length = fn) (h2 : fn ≤ 9223372036854775807) (h3 : At w fa fs) (k1 : ts.length = tn) (k2 : tn ≤ 9223372036854775807) (k3 : At w ta ts) :
    Calls Tryd.prog 50 #[.agg #[.slice fa fn fc, .slice ta tn tc], .int .i64 C] w fun e w' => e = .returned (.bool (ris C fs && ris C ts)) ∧ Below w.heap.size w w' := by
  obtain ⟨W, hW⟩ : ∃ W, W = w.alloc (.cells #[.slice fa fn fc, .slice ta tn tc] 61) := ⟨_, rfl⟩
  have B0 : Below w.heap.size w W := by rw [hW]; exact (Below.refl _ _).alloc (Nat.le_refl _) _
  have q1 : W.cell? ⟨w.heap.size, 1, none⟩ = some (.slice ta tn tc) := by rw [hW]; simp
  have A1 := Hid.mk (At.below h3 B0)
  have A2 := Hid.mk (At.below k3 B0)
  have L1 := Hid.mk h1
  have L2 := Hid.mk k1
  clear h3 k3 h1 k1
  go_enter Tryd.func50, Tryd.ntmps50
  go_wp2_with fail
  rw [← hW]
  clear hW
  refine (l1Some_any fa fn fc fs C W L1.out h2 A1.out).mono ?_
  rintro e w1 ⟨rfl, hb1⟩
  have q1 := cell_later hb1 q1
  have HB1 := Hid.mk (B0.trans (hb1.mono B0.size))
  have A3 := Hid.mk (At.below A2.out hb1)
  clear hb1 A2 B0 A1
  cases hr : ris C fs with
  | false =>
    go_wp2
    go_ret
    exact ⟨by rw [hr]; rfl, HB1.out⟩
  | true =>
    go_wp2_with fail
    refine (l1Some_any ta tn tc ts C w1 L2.out k2 A3.out).mono ?_
    rintro e w2 ⟨rfl, hb2⟩
    have HB2 := Hid.mk (HB1.out.trans (hb2.mono HB1.out.size))
    clear hb2
    go_wp2
    go_ret
    exact ⟨by rw [hr]; rfl, HB2.out⟩

set_option maxRecDepth 100000 in
set_option maxHeartbeats 2000000 in
theorem specGoodDepends (a : Option Addr) (n c : Nat) (xs : List Dep) (C : Int) (w : World) (hz : xs.length = n) (hn : n ≤ 9223372036854775807) (ha : AtD w a xs) :
    Calls Tryd.prog 32 #[.slice a n c, .int .i64 C] w fun e w' => e = .returned (.bool (goodDeps xs C)) ∧ Below w.heap.size w w' := by
  have hg : goodDeps xs C = (allDep C xs && ((decide (1 ≤ C) && decide (C ≤ 6)) && decide (n ≤ 10))) := by
    unfold goodDeps; rw [hz]
    cases decide (1 ≤ C) <;> cases decide (C ≤ 6) <;> cases decide (n ≤ 10) <;> cases allDep C xs <;> rfl
  rw [hg]
  clear hg
  go_enter Tryd.func32, Tryd.ntmps32
  go_wp2
  go_loopw [9] (fun i wr => ∃ (k : Nat), k ≤ n ∧ i = .int .i64 k ∧ allDep C xs = allDep C (xs.drop k) ∧ Below w.heap.size w wr) (fun i _ => n - (intOf i).toNat)
  case atStart => exact ⟨0, Nat.zero_le _, rfl, rfl, Below.refl _ _⟩
  case round =>
    obtain ⟨k, hk, rfl, ht, hbw⟩ := hrel
    by_cases hlt : k < n
    · obtain ⟨b, off, rfl, _, hc⟩ := AtD.row (AtSl.below ha hbw) (by omega)
      obtain ⟨x, hx⟩ : ∃ x, xs[k]? = some x := ⟨_, List.getElem?_eq_getElem (by omega)⟩
      obtain ⟨fa, fn, fc, ta, tn, tc, g0, g1, ⟨t1, t2, t3⟩, ⟨u1, u2, u3⟩⟩ := hc k x hx
      rw [allDep_step C hx] at ht
      have HT := Hid.mk ht
      have HA1 := Hid.mk t3
      have HA2 := Hid.mk u3
      have HL1 := Hid.mk t1
      have HL2 := Hid.mk u1
      have hki : (k : Int) < (n : Int) := by omega
      clear ht hc ha hx t1 t3 u1 u3
      go_wp2_with fail
      obtain ⟨W, hW⟩ : ∃ W, W = wr.alloc (.cells #[.slice fa fn fc, .slice ta tn tc] 61) := ⟨_, rfl⟩
      have bW : Below wr.heap.size wr W := by rw [hW]; exact (Below.refl _ _).alloc (Nat.le_refl _) _
      have HB := Hid.mk (hbw.trans (bW.mono hbw.size))
      have HA1' := Hid.mk (At.below HA1.out bW)
      have HA2' := Hid.mk (At.below HA2.out bW)
      clear HA1 HA2 bW
      rw [← hW]
      clear hW
      refine (l7Depend_any fa fn fc ta tn tc x.1 x.2 C W HL1.out t2 HA1'.out HL2.out u2 HA2'.out).mono ?_
      rintro e w1 ⟨rfl, hb1⟩
      have HB1 := Hid.mk (HB.out.trans (hb1.mono HB.out.size))
      clear hb1 HA2' HB
      cases hr1 : (ris C x.1 && ris C x.2) with
      | false =>
        go_wp2
        go_ret
        exact ⟨by rw [HT.out, ← Bool.and_assoc (ris C x.1), hr1]; rfl, HB1.out⟩
      | true =>
        go_wp2
        go_roundw
        case rel => exact ⟨k + 1, by omega, by go_num, by rw [HT.out, ← Bool.and_assoc (ris C x.1), hr1]; rfl, HB1.out⟩
        case measure => simp [intOf]; omega
    · have HT : Hid (allDep C xs = true) := by
        show _ = _
        rw [ht, allDep_done _ _ _ (by omega)]
      clear ht
      go_wp2_with fail
      refine (l1In_any C 1 6 wr).mono ?_
      rintro e w1 ⟨rfl, rfl⟩
      cases hr1 : (decide (1 ≤ C) && decide (C ≤ 6)) with
      | false =>
        go_wp2
        go_ret
        exact ⟨by rw [HT.out, hr1]; rfl, hbw⟩
      | true =>
        by_cases h10 : n ≤ 10
        · have h10' : (n : Int) ≤ 10 := by omega
          go_wp2
          go_ret
          exact ⟨by rw [HT.out, hr1, decide_eq_true h10]; rfl, hbw⟩
        · have h10' : decide ((n : Int) ≤ 10) = false := decide_eq_false (by omega)
          have h11 : decide (n ≤ 10) = false := decide_eq_false (by omega)
          go_wp2
          go_ret
          exact ⟨by rw [HT.out, hr1, decide_eq_false h10]; rfl, hbw⟩

end Go.Proofs.YthliamoeplgblaaDoor
