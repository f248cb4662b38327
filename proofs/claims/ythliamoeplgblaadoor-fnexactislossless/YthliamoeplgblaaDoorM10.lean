/- Several texts of one proof, in build order: DepI, ChS. -/
import Derived.Test.YthliamoeplgblaaDoorM4
import Derived.Test.YthliamoeplgblaaDoorM7
import Derived.Test.YthliamoeplgblaaDoorM8
import Derived.Test.YthliamoeplgblaaDoorM9

/- Contracts of areRising and GoodDepends, the program's and the model's. -/
namespace Go.Proofs.YthliamoeplgblaaDoor
open Go.RowKit

set_option maxHeartbeats 1000000 in
theorem areRising_any (a : Option Addr) (n c : Nat) (zs : List Int) (C : Int) (w : World) (hz : zs.length = n) (hn : n ≤ 9223372036854775807) (ha : At w a zs) :
    Calls Tryd.prog 44 #[.slice a n c, .int .i64 C] w fun e w' => e = .returned (.bool (ris C zs)) ∧ Below w.heap.size w w' := by
  by_cases h0 : n = 0
  · subst h0
    obtain rfl := List.eq_nil_of_length_eq_zero hz
    go_enter Tryd.func44, Tryd.ntmps44
    go_wp2
    refine wp_loop_rounds 1 ?_
    rw [rounds_succ]
    go_wp2
    go_ret
    exact ⟨rfl, Below.refl _ _⟩
  · obtain ⟨b, off, rfl, hb, hc⟩ := ha.some (by omega)
    clear ha
    go_enter Tryd.func44, Tryd.ntmps44
    go_wp2
    go_loopw [5, 10] (fun p i wr => ∃ (k : Nat) (q : Int), k ≤ n ∧ i = .int .i64 k ∧ p = .int .i64 q ∧ ris C zs = risB C q (zs.drop k) ∧ Below w.heap.size w wr) (fun _ i _ => n - (intOf i).toNat)
    case atStart => exact ⟨0, -1, Nat.zero_le _, rfl, rfl, rfl, Below.refl _ _⟩
    case round =>
      obtain ⟨k, q, hk, rfl, rfl, ht, hbw⟩ := hrel
      by_cases hlt : k < n
      · have hcx : wr.cell? ⟨b, off + k, none⟩ = some (.int .i64 (zs.getD k 0)) := (hbw.cell hb).trans (hc k (by omega))
        rw [risB_step _ _ _ _ (by omega)] at ht
        obtain ⟨x, hx⟩ : ∃ x, x = zs.getD k 0 := ⟨_, rfl⟩
        rw [← hx] at hcx ht
        have HT := Hid.mk ht
        clear hx ht hc
        by_cases c1 : x ≤ q
        · go_wp2
          go_ret
          exact ⟨by rw [HT.out, decide_eq_false (by omega : ¬ q < x)]; rfl, hbw⟩
        · by_cases c2 : C ≤ x
          · go_wp2
            go_ret
            exact ⟨by rw [HT.out, decide_eq_false (by omega : ¬ x < C)]; simp, hbw⟩
          · go_wp2
            go_roundw
            case rel => exact ⟨k + 1, x, by omega, by go_num, rfl, by rw [HT.out, decide_eq_true (by omega : q < x), decide_eq_true (by omega : x < C)]; rfl, hbw⟩
            case measure => simp [intOf]; omega
      · have HT := Hid.mk ht
        clear ht
        go_wp2
        go_ret
        exact ⟨by rw [HT.out, risB_done _ _ _ _ (by omega)]; rfl, hbw⟩

set_option maxRecDepth 100000 in
set_option maxHeartbeats 2000000 in
theorem implGoodDepends (a : Option Addr) (n c : Nat) (xs : List Dep) (C : Int) (w : World) (hz : xs.length = n) (hn : n ≤ 9223372036854775807) (ha : AtD w a xs) :
    Calls Tryd.prog 63 #[.slice a n c, .int .i64 C] w fun e w' => e = .returned (.bool (goodDeps xs C)) ∧ Below w.heap.size w w' := by
  cases hs : (decide (1 ≤ C) && decide (C ≤ 6)) with
  | false =>
    have HG : Hid (goodDeps xs C = false) := by
      show _ = _
      unfold goodDeps
      rw [← Bool.and_assoc, hs]; rfl
    go_enter Tryd.func63, Tryd.ntmps63
    go_wp2_with fail
    refine (someColumns_any C _).mono ?_
    rintro e w1 ⟨rfl, hw1⟩
    obtain rfl := hw1.symm
    rw [hs]
    go_wp2
    go_ret
    exact ⟨by rw [HG.out]; rfl, Below.refl _ _⟩
  | true =>
  have hs' : 1 ≤ C ∧ C ≤ 6 := by simpa using hs
  have c1 : ¬ C < 1 := by omega
  have c2 : ¬ 6 < C := by omega
  by_cases c3 : 10 < n
  · have c3' : (10 : Int) < (n : Int) := by omega
    go_enter Tryd.func63, Tryd.ntmps63
    go_wp2_with fail
    refine (someColumns_any C _).mono ?_
    rintro e w1 ⟨rfl, hw1⟩
    obtain rfl := hw1.symm
    rw [hs]
    go_wp2
    go_ret
    exact ⟨by unfold goodDeps; rw [decide_eq_false (by omega : ¬ xs.length ≤ 10)]; simp, Below.refl _ _⟩
  have hg : goodDeps xs C = allDep C xs := by
    unfold goodDeps; rw [decide_eq_true (by omega : 1 ≤ C), decide_eq_true (by omega : C ≤ 6), decide_eq_true (by omega : xs.length ≤ 10)]; rfl
  rw [hg]
  clear hg
  have c3' : ¬ (10 : Int) < (n : Int) := by omega
  clear hs'
  go_enter Tryd.func63, Tryd.ntmps63
  go_wp2_with fail
  refine (someColumns_any C _).mono ?_
  rintro e w1 ⟨rfl, hw1⟩
  obtain rfl := hw1.symm
  rw [hs]
  clear hs
  go_wp2
  go_loopw [17] (fun i wr => ∃ (k : Nat), k ≤ n ∧ i = .int .i64 k ∧ allDep C xs = allDep C (xs.drop k) ∧ Below w.heap.size w wr) (fun i _ => n - (intOf i).toNat)
  case atStart => exact ⟨0, Nat.zero_le _, rfl, rfl, Below.refl _ _⟩
  case round =>
    obtain ⟨k, hk, rfl, ht, hbw⟩ := hrel
    by_cases hlt : k < n
    · obtain ⟨b, off, rfl, _, hc⟩ := AtD.row (AtSl.below ha hbw) (by omega)
      obtain ⟨x, hx⟩ : ∃ x, xs[k]? = some x := ⟨_, List.getElem?_eq_getElem (by omega)⟩
      obtain ⟨fa, fn, fc, ta, tn, tc, g0, g1, ⟨t1, t2, t3⟩, ⟨u1, u2, u3⟩⟩ := hc k x hx
      rw [allDep_step C hx] at ht
      have HT := Hid.mk ht
      have HA1 := Hid.mk t3
      have HA2 := Hid.mk u3
      have HL1 := Hid.mk t1
      have HL2 := Hid.mk u1
      have hki : (k : Int) < (n : Int) := by omega
      clear ht hc ha hx t1 t3 u1 u3
      go_wp2_with fail
      obtain ⟨W, hW⟩ : ∃ W, W = wr.alloc (.cells #[.slice fa fn fc, .slice ta tn tc] 61) := ⟨_, rfl⟩
      have bW : Below wr.heap.size wr W := by rw [hW]; exact (Below.refl _ _).alloc (Nat.le_refl _) _
      have q1 : W.cell? ⟨wr.heap.size, 1, none⟩ = some (.slice ta tn tc) := by rw [hW]; simp
      have HB := Hid.mk (hbw.trans (bW.mono hbw.size))
      have HA1' := Hid.mk (At.below HA1.out bW)
      have HA2' := Hid.mk (At.below HA2.out bW)
      clear HA1 HA2 bW
      rw [← hW]
      clear hW
      refine (areRising_any fa fn fc x.1 C W HL1.out t2 HA1'.out).mono ?_
      rintro e w1 ⟨rfl, hb1⟩
      have q1 := cell_later hb1 q1
      have HB1 := Hid.mk (HB.out.trans (hb1.mono HB.out.size))
      have HA3 := Hid.mk (At.below HA2'.out hb1)
      clear hb1 HA2' HB
      cases hr1 : ris C x.1 with
      | false =>
        go_wp2
        go_ret
        exact ⟨by rw [HT.out, hr1]; rfl, HB1.out⟩
      | true =>
        go_wp2_with fail
        refine (areRising_any ta tn tc x.2 C w1 HL2.out u2 HA3.out).mono ?_
        rintro e w2 ⟨rfl, hb2⟩
        have HB2 := Hid.mk (HB1.out.trans (hb2.mono HB1.out.size))
        clear hb2 HA3
        cases hr2 : ris C x.2 with
        | false =>
          go_wp2
          go_ret
          exact ⟨by rw [HT.out, hr1, hr2]; rfl, HB2.out⟩
        | true =>
          go_wp2
          go_roundw
          case rel => exact ⟨k + 1, by omega, by go_num, by rw [HT.out, hr1, hr2]; rfl, HB2.out⟩
          case measure => simp [intOf]; omega
    · have HT := Hid.mk ht
      clear ht
      go_wp2
      go_ret
      exact ⟨by rw [HT.out, allDep_done _ _ _ (by omega)]; rfl, hbw⟩

set_option maxHeartbeats 2000000 in
theorem l1Some_any (a : Option Addr) (n c : Nat) (zs : List Int) (C : Int) (w : World) (hz : zs.length = n) (hn : n ≤ 9223372036854775807) (ha : At w a zs) :
    Calls Tryd.prog 39 #[.slice a n c, .int .i64 C] w fun e w' => e = .returned (.bool (ris C zs)) ∧ Below w.heap.size w w' := by
  by_cases h0 : n = 0
  · subst h0
    obtain rfl := List.eq_nil_of_length_eq_zero hz
    go_enter Tryd.func39, Tryd.ntmps39
    go_wp2
    refine wp_loop_rounds 1 ?_
    rw [rounds_succ]
    go_wp2
    go_ret
    exact ⟨rfl, Below.refl _ _⟩
  · obtain ⟨b, off, rfl, hb, hc⟩ := ha.some (by omega)
    clear ha
    go_enter Tryd.func39, Tryd.ntmps39
    go_wp2
    go_loopw [9] (fun i wr => ∃ (k : Nat), k ≤ n ∧ i = .int .i64 k ∧ ris C zs = risB C (if k = 0 then -1 else zs.getD (k - 1) 0) (zs.drop k) ∧ (0 < k → 0 ≤ zs.getD (k - 1) 0) ∧ Below w.heap.size w wr) (fun i _ => n - (intOf i).toNat)
    case atStart => exact ⟨0, Nat.zero_le _, rfl, rfl, fun h => absurd h (by omega), Below.refl _ _⟩
    case round =>
      obtain ⟨k, hk, rfl, ht, hp, hbw⟩ := hrel
      by_cases hlt : k < n
      · have hcx : wr.cell? ⟨b, off + k, none⟩ = some (.int .i64 (zs.getD k 0)) := (hbw.cell hb).trans (hc k (by omega))
        rw [risB_step _ _ _ _ (by omega)] at ht
        obtain ⟨x, hx⟩ : ∃ x, x = zs.getD k 0 := ⟨_, rfl⟩
        have HX : Hid (zs.getD (k + 1 - 1) 0 = x) := by show _ = _; rw [Nat.add_sub_cancel, hx]
        rw [← hx] at hcx ht
        by_cases k0 : k = 0
        · rw [if_pos k0] at ht
          have HT := Hid.mk ht
          have HK := Hid.mk k0
          have hk0 : decide (0 < k) = false := decide_eq_false (by omega)
          have hk0' : ¬ (0 : Int) < (k : Int) := by omega
          clear hx ht hc hp k0
          by_cases c1 : x < 0
          · go_wp2
            go_ret
            exact ⟨by rw [HT.out, decide_eq_false (by omega : ¬ (-1 : Int) < x)]; rfl, hbw⟩
          · by_cases c2 : C ≤ x
            · go_wp2
              go_ret
              exact ⟨by rw [HT.out, decide_eq_false (by omega : ¬ x < C)]; simp, hbw⟩
            · go_wp2
              go_roundw
              case rel => exact ⟨k + 1, by omega, by go_num, by rw [HT.out, if_neg (by omega), HX.out, decide_eq_true (by omega : (-1 : Int) < x), decide_eq_true (by omega : x < C)]; rfl, fun _ => by rw [HX.out]; omega, hbw⟩
              case measure => simp [intOf]; omega
        · have hcp : wr.cell? ⟨b, off + (k - 1), none⟩ = some (.int .i64 (zs.getD (k - 1) 0)) := (hbw.cell hb).trans (hc (k - 1) (by omega))
          rw [if_neg k0] at ht
          have hp0 := hp (by omega)
          obtain ⟨q, hq⟩ : ∃ q, q = zs.getD (k - 1) 0 := ⟨_, rfl⟩
          rw [← hq] at hcp ht hp0
          have HT := Hid.mk ht
          have hk1 : 0 < k := by omega
          have hk1' : (0 : Int) < (k : Int) := by omega
          have hw : IntKind.i64.wrap ((k : Int) - 1) = ((k - 1 : Nat) : Int) := by rw [IntWalk.i64_in _ (by omega)]; omega
          have hkn : k - 1 < n := by omega
          clear hx ht hc hp hq k0
          by_cases c1 : x < 0
          · go_wp2
            go_ret
            exact ⟨by rw [HT.out, decide_eq_false (by omega : ¬ q < x)]; rfl, hbw⟩
          · by_cases c2 : C ≤ x
            · go_wp2
              go_ret
              exact ⟨by rw [HT.out, decide_eq_false (by omega : ¬ x < C)]; simp, hbw⟩
            · by_cases c3 : x ≤ q
              · go_wp2
                go_ret
                exact ⟨by rw [HT.out, decide_eq_false (by omega : ¬ q < x)]; rfl, hbw⟩
              · go_wp2
                go_roundw
                case rel => exact ⟨k + 1, by omega, by go_num, by rw [HT.out, if_neg (by omega), HX.out, decide_eq_true (by omega : q < x), decide_eq_true (by omega : x < C)]; rfl, fun _ => by rw [HX.out]; omega, hbw⟩
                case measure => simp [intOf]; omega
      · have HT := Hid.mk ht
        clear ht
        go_wp2
        go_ret
        exact ⟨by rw [HT.out, risB_done _ _ _ _ (by omega)]; rfl, hbw⟩

set_option maxHeartbeats 1000000 in
theorem l7Depend_any (fa : Option Addr) (fn fc : Nat) (ta : Option Addr) (tn tc : Nat) (fs ts : List Int) (C : Int) (w : World) (h1 : fs.length = fn) (h2 : fn ≤ 9223372036854775807) (h3 : At w fa fs) (k1 : ts.length = tn) (k2 : tn ≤ 9223372036854775807) (k3 : At w ta ts) :
    Calls Tryd.prog 50 #[.agg #[.slice fa fn fc, .slice ta tn tc], .int .i64 C] w fun e w' => e = .returned (.bool (ris C fs && ris C ts)) ∧ Below w.heap.size w w' := by
  obtain ⟨W, hW⟩ : ∃ W, W = w.alloc (.cells #[.slice fa fn fc, .slice ta tn tc] 61) := ⟨_, rfl⟩
  have B0 : Below w.heap.size w W := by rw [hW]; exact (Below.refl _ _).alloc (Nat.le_refl _) _
  have q1 : W.cell? ⟨w.heap.size, 1, none⟩ = some (.slice ta tn tc) := by rw [hW]; simp
  have A1 := Hid.mk (At.below h3 B0)
  have A2 := Hid.mk (At.below k3 B0)
  have L1 := Hid.mk h1
  have L2 := Hid.mk k1
  clear h3 k3 h1 k1
  go_enter Tryd.func50, Tryd.ntmps50
  go_wp2_with fail
  rw [← hW]
  clear hW
  refine (l1Some_any fa fn fc fs C W L1.out h2 A1.out).mono ?_
  rintro e w1 ⟨rfl, hb1⟩
  have q1 := cell_later hb1 q1
  have HB1 := Hid.mk (B0.trans (hb1.mono B0.size))
  have A3 := Hid.mk (At.below A2.out hb1)
  clear hb1 A2 B0 A1
  cases hr : ris C fs with
  | false =>
    go_wp2
    go_ret
    exact ⟨by rw [hr]; rfl, HB1.out⟩
  | true =>
    go_wp2_with fail
    refine (l1Some_any ta tn tc ts C w1 L2.out k2 A3.out).mono ?_
    rintro e w2 ⟨rfl, hb2⟩
    have HB2 := Hid.mk (HB1.out.trans (hb2.mono HB1.out.size))
    clear hb2
    go_wp2
    go_ret
    exact ⟨by rw [hr]; rfl, HB2.out⟩

set_option maxRecDepth 100000 in
set_option maxHeartbeats 2000000 in
theorem specGoodDepends (a : Option Addr) (n c : Nat) (xs : List Dep) (C : Int) (w : World) (hz : xs.length = n) (hn : n ≤ 9223372036854775807) (ha : AtD w a xs) :
    Calls Tryd.prog 32 #[.slice a n c, .int .i64 C] w fun e w' => e = .returned (.bool (goodDeps xs C)) ∧ Below w.heap.size w w' := by
  have hg : goodDeps xs C = (allDep C xs && ((decide (1 ≤ C) && decide (C ≤ 6)) && decide (n ≤ 10))) := by
    unfold goodDeps; rw [hz]
    cases decide (1 ≤ C) <;> cases decide (C ≤ 6) <;> cases decide (n ≤ 10) <;> cases allDep C xs <;> rfl
  rw [hg]
  clear hg
  go_enter Tryd.func32, Tryd.ntmps32
  go_wp2
  go_loopw [9] (fun i wr => ∃ (k : Nat), k ≤ n ∧ i = .int .i64 k ∧ allDep C xs = allDep C (xs.drop k) ∧ Below w.heap.size w wr) (fun i _ => n - (intOf i).toNat)
  case atStart => exact ⟨0, Nat.zero_le _, rfl, rfl, Below.refl _ _⟩
  case round =>
    obtain ⟨k, hk, rfl, ht, hbw⟩ := hrel
    by_cases hlt : k < n
    · obtain ⟨b, off, rfl, _, hc⟩ := AtD.row (AtSl.below ha hbw) (by omega)
      obtain ⟨x, hx⟩ : ∃ x, xs[k]? = some x := ⟨_, List.getElem?_eq_getElem (by omega)⟩
      obtain ⟨fa, fn, fc, ta, tn, tc, g0, g1, ⟨t1, t2, t3⟩, ⟨u1, u2, u3⟩⟩ := hc k x hx
      rw [allDep_step C hx] at ht
      have HT := Hid.mk ht
      have HA1 := Hid.mk t3
      have HA2 := Hid.mk u3
      have HL1 := Hid.mk t1
      have HL2 := Hid.mk u1
      have hki : (k : Int) < (n : Int) := by omega
      clear ht hc ha hx t1 t3 u1 u3
      go_wp2_with fail
      obtain ⟨W, hW⟩ : ∃ W, W = wr.alloc (.cells #[.slice fa fn fc, .slice ta tn tc] 61) := ⟨_, rfl⟩
      have bW : Below wr.heap.size wr W := by rw [hW]; exact (Below.refl _ _).alloc (Nat.le_refl _) _
      have HB := Hid.mk (hbw.trans (bW.mono hbw.size))
      have HA1' := Hid.mk (At.below HA1.out bW)
      have HA2' := Hid.mk (At.below HA2.out bW)
      clear HA1 HA2 bW
      rw [← hW]
      clear hW
      refine (l7Depend_any fa fn fc ta tn tc x.1 x.2 C W HL1.out t2 HA1'.out HL2.out u2 HA2'.out).mono ?_
      rintro e w1 ⟨rfl, hb1⟩
      have HB1 := Hid.mk (HB.out.trans (hb1.mono HB.out.size))
      clear hb1 HA2' HB
      cases hr1 : (ris C x.1 && ris C x.2) with
      | false =>
        go_wp2
        go_ret
        exact ⟨by rw [HT.out, ← Bool.and_assoc (ris C x.1), hr1]; rfl, HB1.out⟩
      | true =>
        go_wp2
        go_roundw
        case rel => exact ⟨k + 1, by omega, by go_num, by rw [HT.out, ← Bool.and_assoc (ris C x.1), hr1]; rfl, HB1.out⟩
        case measure => simp [intOf]; omega
    · have HT : Hid (allDep C xs = true) := by
        show _ = _
        rw [ht, allDep_done _ _ _ (by omega)]
      clear ht
      go_wp2_with fail
      refine (l1In_any C 1 6 wr).mono ?_
      rintro e w1 ⟨rfl, rfl⟩
      cases hr1 : (decide (1 ≤ C) && decide (C ≤ 6)) with
      | false =>
        go_wp2
        go_ret
        exact ⟨by rw [HT.out, hr1]; rfl, hbw⟩
      | true =>
        by_cases h10 : n ≤ 10
        · have h10' : (n : Int) ≤ 10 := by omega
          go_wp2
          go_ret
          exact ⟨by rw [HT.out, hr1, decide_eq_true h10]; rfl, hbw⟩
        · have h10' : decide ((n : Int) ≤ 10) = false := decide_eq_false (by omega)
          have h11 : decide (n ≤ 10) = false := decide_eq_false (by omega)
          go_wp2
          go_ret
          exact ⟨by rw [HT.out, hr1, decide_eq_false h10]; rfl, hbw⟩

end Go.Proofs.YthliamoeplgblaaDoor

/- Contracts of impl.goodChase, impl.ChaseStep. -/
namespace Go.Proofs.YthliamoeplgblaaDoor
open Go.RowKit

/-- What a step tells, if anything. -/
def csZ (p : Int) (zss : List (List Int)) (xs : List Dep) : Option (List (List Int)) := if tbB p zss && goodDeps xs p then stepZ xs zss else none
def csP (p : Int) (zss : List (List Int)) (xs : List Dep) : Int := if (csZ p zss xs).isSome then p else 0
def csL (p : Int) (zss : List (List Int)) (xs : List Dep) : List (List Int) := (csZ p zss xs).getD []

/-- The first k are merged. -/
def mixM (m : Mrg) (zss : List (List Int)) (k : Nat) : List (List Int) := (zss.take k).map (mrgIn m) ++ zss.drop k
theorem mixM_zero (m : Mrg) (zss : List (List Int)) : mixM m zss 0 = zss := by simp [mixM]
theorem mixM_all (m : Mrg) (zss : List (List Int)) {n : Nat} (h : zss.length = n) : mixM m zss n = zss.map (mrgIn m) := by
  unfold mixM; rw [List.take_of_length_le (by omega), List.drop_of_length_le (by omega), List.append_nil]
theorem mixM_next {m : Mrg} {zss : List (List Int)} {k : Nat} {z : List Int} (h : zss[k]? = some z) : (mixM m zss k)[k]? = some z := by
  have hk := (List.getElem?_eq_some_iff.1 h).1
  unfold mixM
  rw [List.getElem?_append_right (by simp; omega)]
  simp only [List.length_map, List.length_take, List.getElem?_drop]
  rw [show k + (k - min k zss.length) = k by omega]; exact h
theorem mixM_set {m : Mrg} {zss : List (List Int)} {k : Nat} {z : List Int} (h : zss[k]? = some z) : (mixM m zss k).set k (mrgIn m z) = mixM m zss (k + 1) := by
  obtain ⟨hk, rfl⟩ := List.getElem?_eq_some_iff.1 h
  unfold mixM
  rw [List.set_append_right _ _ (by simp; omega), List.drop_eq_getElem_cons hk]
  simp only [List.length_map, List.length_take]
  rw [show k - min k zss.length = 0 by omega, List.set_cons_zero, List.take_succ_eq_append_getElem hk, List.map_append, List.append_assoc]
  rfl

set_option maxHeartbeats 1000000 in
theorem goodChase_any (p : Int) (a : Option Addr) (n c : Nat) (zss : List (List Int)) (la : Option Addr) (ln lc : Nat) (xs : List Dep) (w : World) (hz : zss.length = n) (hn : n ≤ 9223372036854775807) (hlz : xs.length = ln) (hln : ln ≤ 9223372036854775807) (ha : AtS w a zss) (hla : AtD w la xs) :
    Calls Tryd.prog 52 #[.agg #[.int .i64 p, .slice a n c], .slice la ln lc] w fun e w' => e = .returned (.bool (tbB p zss && goodDeps xs p)) ∧ Below w.heap.size w w' := by
  obtain ⟨W, hW⟩ : ∃ W, W = w.alloc (.cells #[.int .i64 p, .slice a n c] 26) := ⟨_, rfl⟩
  have B0 : Below w.heap.size w W := by rw [hW]; exact (Below.refl _ _).alloc (Nat.le_refl _) _
  have c0 : W.cell? ⟨w.heap.size, 0, none⟩ = some (.int .i64 p) := by rw [hW]; simp
  have c1 : W.cell? ⟨w.heap.size, 1, none⟩ = some (.slice a n c) := by rw [hW]; simp
  have K1 := Hid.mk (implGoodTableau p a n c zss W hz hn (ha.below B0))
  have HL := Hid.mk (AtSl.below hla B0)
  clear ha hla
  cases ht : tbB p zss with
  | false =>
    have HT := Hid.mk ht
    clear ht
    go_enter Tryd.func52, Tryd.ntmps52
    go_wp2_with fail
    rw [← hW]
    clear hW
    refine K1.out.mono ?_
    rintro e w1 ⟨rfl, hb1⟩
    rw [HT.out]
    go_wp2
    go_ret
    exact ⟨rfl, B0.trans (hb1.mono B0.size)⟩
  | true =>
    have HT := Hid.mk ht
    clear ht
    obtain ⟨G, hG⟩ : ∃ G, goodDeps xs p = G := ⟨_, rfl⟩
    have HG := Hid.mk hG
    rw [hG]
    clear hG
    go_enter Tryd.func52, Tryd.ntmps52
    go_wp2_with fail
    rw [← hW]
    clear hW
    refine K1.out.mono ?_
    rintro e w1 ⟨rfl, hb1⟩
    rw [HT.out]
    have d0 := cell_later hb1 c0
    go_wp2_with fail
    refine (implGoodDepends la ln lc xs p w1 hlz hln (AtSl.below HL.out hb1)).mono ?_
    rintro e w2 ⟨rfl, hb2⟩
    rw [HG.out]
    have B1 := B0.trans (hb1.mono B0.size)
    go_wp2
    go_ret
    exact ⟨by simp, B1.trans (hb2.mono B1.size)⟩

set_option maxRecDepth 100000 in
set_option maxHeartbeats 8000000 in
theorem implChaseStep (p : Int) (a : Option Addr) (n c : Nat) (zss : List (List Int)) (la : Option Addr) (ln lc : Nat) (xs : List Dep) (w : World) (hz : zss.length = n) (hn : n ≤ 9223372036854775807) (hcap : n ≤ c) (hlz : xs.length = ln) (hln : ln ≤ 9223372036854775807) (ha : AtS w a zss) (hla : AtD w la xs) :
    Calls Tryd.prog 54 #[.agg #[.int .i64 p, .slice a n c], .slice la ln lc] w fun e w' => TblRet e w' w.heap.size (csZ p zss xs).isSome (csP p zss xs) (csL p zss xs) ∧ Below w.heap.size w w' := by
  obtain ⟨W, hW⟩ : ∃ W, W = (w.alloc (.cells #[.int .i64 p, .slice a n c] 26)).alloc (.cells #[.int .i64 0, .slice none 0 0] 26) := ⟨_, rfl⟩
  have B0 : Below w.heap.size w W := by rw [hW]; exact ((Below.refl _ _).alloc (Nat.le_refl _) _).alloc (by simp) _
  have zW : w.heap.size + 1 < W.heap.size := by rw [hW]; simp
  have c0 : W.cell? ⟨w.heap.size, 0, none⟩ = some (.int .i64 p) := by rw [hW]; simp [go_sem]
  have c1 : W.cell? ⟨w.heap.size, 1, none⟩ = some (.slice a n c) := by rw [hW]; simp [go_sem]
  have b1 : W.heap[w.heap.size + 1]? = some (.cells #[.int .i64 0, .slice none 0 0] 26 (0, 0)) := by
    rw [hW]
    have h := heap_alloc_new (w.alloc (.cells #[.int .i64 p, .slice a n c] 26)) (.cells #[.int .i64 0, .slice none 0 0] 26)
    simpa only [World.size_alloc] using h
  have K1 := Hid.mk (goodChase_any p a n c zss la ln lc xs W hz hn hlz hln (ha.below B0) (AtSl.below hla B0))
  have HA := Hid.mk (ha.below B0)
  have HL := Hid.mk (AtSl.below hla B0)
  have HZ := Hid.mk hz
  have HLZ := Hid.mk hlz
  clear ha hla hz hlz
  cases hg : (tbB p zss && goodDeps xs p) with
  | false =>
    have HN : Hid (csZ p zss xs = none) := by show _ = _; unfold csZ; rw [hg]; rfl
    have HG := Hid.mk hg
    unfold csP csL
    rw [HN.out]
    clear hg
    go_enter Tryd.func54, Tryd.ntmps54
    go_wp2_with fail
    rw [← hW]
    clear hW
    refine K1.out.mono ?_
    rintro e w1 ⟨rfl, hb1⟩
    rw [HG.out]
    have B1 := B0.trans (hb1.mono B0.size)
    have q := blk_below b1 hb1
    have e0 := blk_cell q 0 (v := .int .i64 0) rfl
    have e1 := blk_cell q 1 (v := .slice none 0 0) rfl
    have f0 := blk_frozen q 0
    have f1 := blk_frozen q 1
    go_wp2
    refine bodyPost_ret (v := .tuple #[.agg #[.int .i64 0, .slice none 0 0], .bool false]) (by simp [results, Tryd.results54, go_sem, e0, e1]) rfl ⟨⟨none, 0, 0, rfl, RRows.nil _ _⟩, ?_⟩
    exact (B1.setCell (by simp) _).setCell (by simp) _
  | true =>
  have ht : tbB p zss = true := by simp only [Bool.and_eq_true] at hg; exact hg.1
  have hd : goodDeps xs p = true := by simp only [Bool.and_eq_true] at hg; exact hg.2
  have HCZ : Hid (csZ p zss xs = (mrgAll zss xs).map fun m => zss.map (mrgIn m)) := by show _ = _; unfold csZ stepZ; rw [hg]; rfl
  have K2 : Hid (∀ w', Below W.heap.size W w' → Calls Tryd.prog 64 #[.agg #[.int .i64 p, .slice a n c], .slice la ln lc] w' fun e w'' => e = .returned (.tuple #[mrgV (mrgAll zss xs), .bool (mrgAll zss xs).isSome]) ∧ Below w'.heap.size w' w'') :=
    fun w' h => firstMerging_any p a n c zss la ln lc xs w' HZ.out hcap HLZ.out ht hd (HA.out.below h) (AtSl.below HL.out h)
  have HG := Hid.mk hg
  cases hm : mrgAll zss xs with
  | none =>
    rw [hm] at HCZ K2
    unfold csP csL
    rw [HCZ.out]
    simp only [mrgV, Option.isSome_none] at K2
    clear hg hm ht hd
    go_enter Tryd.func54, Tryd.ntmps54
    go_wp2_with fail
    rw [← hW]
    clear hW
    refine K1.out.mono ?_
    rintro e w1 ⟨rfl, hb1⟩
    rw [HG.out]
    have B1 := B0.trans (hb1.mono B0.size)
    have q := blk_below b1 hb1
    have d0 := cell_later hb1 c0
    have d1 := cell_later hb1 c1
    go_wp2_with fail
    refine (K2.out w1 hb1).mono ?_
    rintro e w2 ⟨rfl, hb2⟩
    have B2 := B1.trans (hb2.mono B1.size)
    have q2 := blk_alloc (blk_below q hb2) (.cells #[.int .i64 0, .int .i64 0, .int .i64 0, .int .i64 0] 90)
    have B3 : Below w.heap.size w (w2.alloc (.cells #[.int .i64 0, .int .i64 0, .int .i64 0, .int .i64 0] 90)) := B2.alloc B2.size _
    have e0 := blk_cell q2 0 (v := .int .i64 0) rfl
    have e1 := blk_cell q2 1 (v := .slice none 0 0) rfl
    have f0 := blk_frozen q2 0
    have f1 := blk_frozen q2 1
    go_wp2
    refine bodyPost_ret (v := .tuple #[.agg #[.int .i64 0, .slice none 0 0], .bool false]) (by simp [results, Tryd.results54, go_sem, e0, e1]) rfl ⟨⟨none, 0, 0, rfl, RRows.nil _ _⟩, ?_⟩
    exact (B3.setCell (by simp) _).setCell (by simp) _
  | some m =>
    have hok := mrg_ok ht hd hm
    obtain ⟨mk, mg, ml⟩ := m
    obtain ⟨qn, hqn⟩ : ∃ q : Nat, p = (q : Int) := ⟨p.toNat, by have := tbB_C ht; omega⟩
    have hq6 : 1 ≤ qn ∧ qn ≤ 6 := by have := tbB_C ht; omega
    have hn8 : 1 ≤ n ∧ n ≤ 8 := by have := tbB_n ht; have := HZ.out; omega
    have HROW : Hid (∀ (k : Nat) (z : List Int), zss[k]? = some z → z.length = qn) := fun k z h => by have := rowOk_len (tbB_row ht h); omega
    have hmk : 0 ≤ mk ∧ mk < qn := by have := hok.col; simp only at this; omega
    rw [hm] at HCZ K2
    unfold csP csL
    rw [HCZ.out]
    simp only [mrgV, Option.isSome_some, Option.map_some, Option.getD_some, if_true] at K2 ⊢
    have K3 : Hid (∀ w', Below W.heap.size W w' → Calls Tryd.prog 53 #[.agg #[.int .i64 p, .slice a n c]] w' fun e w'' => ∃ r d, e = .returned (.agg #[.int .i64 p, .slice r n d]) ∧ RRows.Own w'' (From w'.heap.size w''.heap.size) [.slice r n d] zss ∧ Below w'.heap.size w' w'') :=
      fun w' h => copyTableau_any p a n c zss w' HZ.out (by omega) (fun k z hk => by have := HROW.out k z hk; omega) (HA.out.below h)
    clear hg hm ht hd hok hqn
    go_enter Tryd.func54, Tryd.ntmps54
    go_wp2_with fail
    rw [← hW]
    clear hW
    refine K1.out.mono ?_
    rintro e w1 ⟨rfl, hb1⟩
    rw [HG.out]
    have B1 := B0.trans (hb1.mono B0.size)
    have q := blk_below b1 hb1
    have d0 := cell_later hb1 c0
    have d1 := cell_later hb1 c1
    go_wp2_with fail
    refine (K2.out w1 hb1).mono ?_
    rintro e w2 ⟨rfl, hb2⟩
    obtain ⟨V, hV⟩ : ∃ V, V = w2.alloc (.cells #[.int .i64 mk, .int .i64 mg, .int .i64 mk, .int .i64 ml] 90) := ⟨_, rfl⟩
    have hbV : Below w2.heap.size w2 V := by rw [hV]; exact (Below.refl _ _).alloc (Nat.le_refl _) _
    have q8 : V.heap[w2.heap.size]? = some (.cells #[.int .i64 mk, .int .i64 mg, .int .i64 mk, .int .i64 ml] 90 (0, 0)) := by rw [hV]; exact heap_alloc_new _ _
    have hb2V := hb2.trans (hbV.mono hb2.size)
    have B2 := B1.trans (hb2V.mono B1.size)
    have qV := blk_below q hb2V
    have d2 := cell_later hb2V d0
    have d3 := cell_later hb2V d1
    have HWV := Hid.mk (hb1.trans (hb2V.mono hb1.size))
    have zV : w2.heap.size < V.heap.size := by rw [hV]; simp
    have z2 : w.heap.size + 1 < w2.heap.size := by have := hb1.size; have := hb2.size; omega
    clear q b1 c0 c1 d0 d1 hb1 hb2 hbV hb2V B1
    go_upto_region 6 with fail
    rw [← hV]
    clear hV
    go_wp2_with fail
    refine (K3.out V HWV.out).mono ?_
    rintro e w3 ⟨r, d, rfl, hO, hb3⟩
    obtain ⟨X, hX⟩ : ∃ X, X = w3.alloc (.cells #[.int .i64 p, .slice r n d] 26) := ⟨_, rfl⟩
    have hbX : Below w3.heap.size w3 X := by rw [hX]; exact (Below.refl _ _).alloc (Nat.le_refl _) _
    have x0 : X.cell? ⟨w3.heap.size, 0, none⟩ = some (.int .i64 p) := by rw [hX]; exact pair0 _ _ _ _
    have x1 : X.cell? ⟨w3.heap.size, 1, none⟩ = some (.slice r n d) := by rw [hX]; exact pair1 _ _ _ _
    have hb3X := hb3.trans (hbX.mono hb3.size)
    have qX := blk_below qV hb3X
    have q9 := blk_below q8 hb3X
    have B3 := B2.trans (hb3X.mono B2.size)
    have z3 := hb3.size
    have zX : w3.heap.size < X.heap.size := by rw [hX]; simp
    obtain ⟨r', n', d', cells, G, he, hlaid⟩ := RRows.ownBelow hO hbX
    simp only [List.cons.injEq, Value.slice.injEq, and_true] at he
    obtain ⟨rfl, rfl, rfl⟩ := he
    have HLA : Hid (Laid RInts X (From V.heap.size w3.heap.size) 47 r n d (mixM (mk, mg, ml) zss 0) cells G n) := by show Laid _ _ _ _ _ _ _ _ _ _ _; rw [mixM_zero]; exact hlaid
    clear hO hlaid hb3 hb3X qV q8 d2 d3 hbX
    go_upto_region 7 with fail
    rw [← hX]
    clear hX
    go_wp2_with fail
    go_loopw [30] (fun i wr => ∃ k : Nat, k ≤ n ∧ i = .int .i64 k ∧ Laid RInts wr (From V.heap.size w3.heap.size) 47 r n d (mixM (mk, mg, ml) zss k) cells G n ∧ Off (From V.heap.size w3.heap.size) X wr) (fun i _ => n - (intOf i).toNat)
    case atStart => exact ⟨0, Nat.zero_le _, rfl, HLA.out, Off.refl _ _⟩
    case round =>
      clear HLA
      obtain ⟨k, hk, rfl, hlaid, hof⟩ := hrel
      have nF1 : ¬ From V.heap.size w3.heap.size w3.heap.size := fun h => by have := h.2; omega
      have nF2 : ¬ From V.heap.size w3.heap.size w2.heap.size := fun h => by have := h.1; omega
      have nF3 : ¬ From V.heap.size w3.heap.size (w.heap.size + 1) := fun h => by have := h.1; omega
      have y0 := hof.cell x0 nF1
      have y1 := hof.cell x1 nF1
      have p0 := hof.cell (blk_cell q9 0 (v := .int .i64 mk) rfl) nF2
      have p1 := hof.cell (blk_cell q9 1 (v := .int .i64 mg) rfl) nF2
      have p2 := hof.cell (blk_cell q9 2 (v := .int .i64 mk) rfl) nF2
      have p3 := hof.cell (blk_cell q9 3 (v := .int .i64 ml) rfl) nF2
      have q10 := (hof.block _ (Array.getElem?_eq_some_iff.1 qX).1 nF3).trans qX
      have Bw : Below w.heap.size w wr := B3.trans (hof.toBelow (by omega) B3.size)
      by_cases hlt : k < n
      · obtain ⟨z, hzk⟩ : ∃ z, zss[k]? = some z := ⟨_, List.getElem?_eq_getElem (by have := HZ.out; omega)⟩
        have hrow := hlaid.row k z hlt (mixM_next hzk)
        obtain ⟨a2, n2, c2, _, _, he2, _⟩ := hrow
        have hrow := hlaid.row k z hlt (mixM_next hzk)
        rw [he2] at hrow
        obtain ⟨hl2, hl3, hl4, hl5⟩ := RInts.own_iff.1 hrow
        have hn2 : n2 = qn := by rw [← hl2]; exact HROW.out k z hzk
        subst hn2
        obtain ⟨g2, hg2⟩ : ∃ g2, a2 = some ⟨g2, 0, none⟩ := by
          rcases hl4.2 with ⟨_, h9⟩ | ⟨g, cap, cur, hv, _⟩
          · omega
          · simp only [Value.slice.injEq, true_and] at hv
            exact ⟨g, hv.1⟩
        subst hg2
        rcases hlaid.outer.2 with ⟨_, h00⟩ | ⟨g, cap, cur, hv, _⟩
        · omega
        simp only [Value.slice.injEq, true_and] at hv
        obtain ⟨rfl, rfl⟩ := hv
        have hcl : cells.length = n * 1 := hlaid.outer.1
        have hcx : wr.cell? ⟨g, k, none⟩ = some (.slice (some ⟨g2, 0, none⟩) n2 c2) := by
          rw [hlaid.outer.cellAt k (show k < n * 1 by omega)]
          have h9 := sub_at (cells := cells) (o := k * 1) (k := 1) (j := 0) (by omega)
          have he3 : sub cells (k * 1) 1 = [.slice (some ⟨g2, 0, none⟩) n2 c2] := he2
          rw [he3] at h9
          simpa using h9.symm
        obtain ⟨U, hU⟩ : ∃ U, U = wr.alloc (.cells #[.slice (some ⟨g2, 0, none⟩) n2 c2] 47) := ⟨_, rfl⟩
        have hbU : Below wr.heap.size wr U := by rw [hU]; exact (Below.refl _ _).alloc (Nat.le_refl _) _
        have r0 : U.cell? ⟨wr.heap.size, 0, none⟩ = some (.slice (some ⟨g2, 0, none⟩) n2 c2) := by rw [hU]; exact row0 _ _ _
        have s0 := cell_later hbU p0
        have s1 := cell_later hbU p1
        have s2 := cell_later hbU p2
        have s3 := cell_later hbU p3
        have KM := Hid.mk (merge_any (G k) g2 n2 c2 z mk mg ml U (by omega) hmk.1 (by omega) (fun b hb => by have := (hlaid.rowF k b hlt hb).1.2; have := hbU.size; have := hof.size; omega) (RInts.ownBelow hrow hbU))
        have hki : (k : Int) < (n : Int) := by omega
        have HL := Hid.mk hlaid
        have HOF := Hid.mk hof
        have HE2 := Hid.mk he2
        have HZK := Hid.mk hzk
        have HBU := Hid.mk hbU
        clear hrow hl2 hl4 hl5 he2 hzk hlaid hof hcl hbU p0 p1 p2 p3 y0 y1 q10 Bw
        go_upto_region 10 with fail
        rw [← hU]
        clear hU hcx
        go_wp2_with fail
        refine KM.out.mono ?_
        rintro e w5 ⟨rfl, hO5, hf5⟩
        have hof5 : Off (G k) wr w5 := (Off.below HBU.out).trans hf5
        have hturn := HL.out.turn (w' := w5) (cells' := cells) (x' := mrgIn (mk, mg, ml) z) hlt (fun b hb hn1 _ => hof5.block b hb hn1) (ownsRow_frame HL.out.outer (fun b hb hlb => hof5.block b hlb (fun hG => (HL.out.rowF k b hlt hG).2 hb))) (fun _ _ => rfl) (by rw [HE2.out]; exact hO5)
        rw [mixM_set HZK.out] at hturn
        have HLN := Hid.mk hturn
        have HON : Hid (Off (From V.heap.size w3.heap.size) X w5) := HOF.out.trans (hof5.mono (fun b hb => (HL.out.rowF k b hlt hb).1))
        clear hturn hof5 hO5 hf5 KM HL HOF r0 s0 s1 s2 s3
        go_wp2
        go_roundw
        case rel => exact ⟨k + 1, by omega, by go_num, HLN.out, HON.out⟩
        case measure => simp [intOf]; omega
      · obtain rfl : k = n := by omega
        have e0 := blk_cell q10 0 (v := .int .i64 0) rfl
        have e1 := blk_cell q10 1 (v := .slice none 0 0) rfl
        have f0 := blk_frozen q10 0
        have f1 := blk_frozen q10 1
        rw [mixM_all _ _ HZ.out] at hlaid
        have HO : Hid (RRows.Own wr (From V.heap.size w3.heap.size) [.slice r k d] (zss.map (mrgIn (mk, mg, ml)))) := ⟨_, _, _, cells, G, rfl, hlaid⟩
        have zr := hof.size
        clear hlaid hof q10 qX q9 p0 p1 p2 p3
        go_wp2
        refine bodyPost_ret (v := .tuple #[.agg #[.int .i64 p, .slice r k d], .bool true]) (by simp [results, Tryd.results54, go_sem, e0, e1]) rfl ⟨⟨r, k, d, rfl, ?_⟩, ?_⟩
        · refine RRows.mono (RRows.ownOff (RRows.ownOff HO.out (Off.set (F := From 0 V.heap.size) (a := ⟨w.heap.size + 1, 0, none⟩) ⟨by simp, by simp; omega⟩ _) (fun b h h' => by have := h.1; have := h'.2; omega)) (Off.set (F := From 0 V.heap.size) (a := ⟨w.heap.size + 1, 1, none⟩) ⟨by simp, by simp; omega⟩ _) (fun b h h' => by have := h.1; have := h'.2; omega)) (fun b h => ⟨by have := h.1; omega, by have := h.2; simp only [World.setCell, Array.size_modify]; omega⟩)
        · exact (Bw.setCell (by simp) _).setCell (by simp) _

end Go.Proofs.YthliamoeplgblaaDoor
