/- Several texts of one proof, in build order: DepI, CloS, CloC. -/
import Derived.Test.YtkcfhlpdenjimaaDoorM3
import Derived.Test.YtkcfhlpdenjimaaDoorM5

/- Contracts of areRising and GoodDepends, the program's and the model's. -/
namespace Go.Proofs.YtkcfhlpdenjimaaDoor
open Go.RowKit

set_option maxHeartbeats 1000000 in
theorem areRising_any (a : Option Addr) (n c : Nat) (zs : List Int) (C : Int) (w : World) (hz : zs.length = n) (hn : n ≤ 9223372036854775807) (ha : At w a zs) :
    Calls Tryd.prog 38 #[.slice a n c, .int .i64 C] w fun e w' => e = .returned (.bool (ris C zs)) ∧ Below w.heap.size w w' := by
  by_cases h0 : n = 0
  · subst h0
    obtain rfl := List.eq_nil_of_length_eq_zero hz
    go_enter Tryd.func38, Tryd.ntmps38
    go_wp2
    refine wp_loop_rounds 1 ?_
    rw [rounds_succ]
    go_wp2
    go_ret
    exact ⟨rfl, Below.refl _ _⟩
  · obtain ⟨b, off, rfl, hb, hc⟩ := ha.some (by omega)
    clear ha
    go_enter Tryd.func38, Tryd.ntmps38
    go_wp2
    go_loopw [5, 10] (fun p i wr => ∃ (k : Nat) (q : Int), k ≤ n ∧ i = .int .i64 k ∧ p = .int .i64 q ∧ ris C zs = risB C q (zs.drop k) ∧ Below w.heap.size w wr) (fun _ i _ => n - (intOf i).toNat)
    case atStart => exact ⟨0, -1, Nat.zero_le _, rfl, rfl, rfl, Below.refl _ _⟩
    case round =>
      obtain ⟨k, q, hk, rfl, rfl, ht, hbw⟩ := hrel
      by_cases hlt : k < n
      · have hcx : wr.cell? ⟨b, off + k, none⟩ = some (.int .i64 (zs.getD k 0)) := (hbw.cell hb).trans (hc k (by omega))
        rw [risB_step _ _ _ _ (by omega)] at ht
        obtain ⟨x, hx⟩ : ∃ x, x = zs.getD k 0 := ⟨_, rfl⟩
        rw [← hx] at hcx ht
        have HT := Hid.mk ht
        clear hx ht hc
        by_cases c1 : x ≤ q
        · go_wp2
          go_ret
          exact ⟨by rw [HT.out, decide_eq_false (by omega : ¬ q < x)]; rfl, hbw⟩
        · by_cases c2 : C ≤ x
          · go_wp2
            go_ret
            exact ⟨by rw [HT.out, decide_eq_false (by omega : ¬ x < C)]; simp, hbw⟩
          · go_wp2
            go_roundw
            case rel => exact ⟨k + 1, x, by omega, by go_num, rfl, by rw [HT.out, decide_eq_true (by omega : q < x), decide_eq_true (by omega : x < C)]; rfl, hbw⟩
            case measure => simp [intOf]; omega
      · have HT := Hid.mk ht
        clear ht
        go_wp2
        go_ret
        exact ⟨by rw [HT.out, risB_done _ _ _ _ (by omega)]; rfl, hbw⟩

set_option maxRecDepth 100000 in
set_option maxHeartbeats 2000000 in
theorem implGoodDepends (a : Option Addr) (n c : Nat) (xs : List Dep) (C : Int) (w : World) (hz : xs.length = n) (hn : n ≤ 9223372036854775807) (ha : AtD w a xs) :
    Calls Tryd.prog 37 #[.slice a n c, .int .i64 C] w fun e w' => e = .returned (.bool (goodDeps xs C)) ∧ Below w.heap.size w w' := by
  cases hs : (decide (1 ≤ C) && decide (C ≤ 6)) with
  | false =>
    have HG : Hid (goodDeps xs C = false) := by
      show _ = _
      unfold goodDeps
      rw [← Bool.and_assoc, hs]; rfl
    go_enter Tryd.func37, Tryd.ntmps37
    go_wp2_with fail
    refine (someColumns_any C _).mono ?_
    rintro e w1 ⟨rfl, hw1⟩
    obtain rfl := hw1.symm
    rw [hs]
    go_wp2
    go_ret
    exact ⟨by rw [HG.out]; rfl, Below.refl _ _⟩
  | true =>
  have hs' : 1 ≤ C ∧ C ≤ 6 := by simpa using hs
  have c1 : ¬ C < 1 := by omega
  have c2 : ¬ 6 < C := by omega
  by_cases c3 : 10 < n
  · have c3' : (10 : Int) < (n : Int) := by omega
    go_enter Tryd.func37, Tryd.ntmps37
    go_wp2_with fail
    refine (someColumns_any C _).mono ?_
    rintro e w1 ⟨rfl, hw1⟩
    obtain rfl := hw1.symm
    rw [hs]
    go_wp2
    go_ret
    exact ⟨by unfold goodDeps; rw [decide_eq_false (by omega : ¬ xs.length ≤ 10)]; simp, Below.refl _ _⟩
  have hg : goodDeps xs C = allDep C xs := by
    unfold goodDeps; rw [decide_eq_true (by omega : 1 ≤ C), decide_eq_true (by omega : C ≤ 6), decide_eq_true (by omega : xs.length ≤ 10)]; rfl
  rw [hg]
  clear hg
  have c3' : ¬ (10 : Int) < (n : Int) := by omega
  clear hs'
  go_enter Tryd.func37, Tryd.ntmps37
  go_wp2_with fail
  refine (someColumns_any C _).mono ?_
  rintro e w1 ⟨rfl, hw1⟩
  obtain rfl := hw1.symm
  rw [hs]
  clear hs
  go_wp2
  go_loopw [17] (fun i wr => ∃ (k : Nat), k ≤ n ∧ i = .int .i64 k ∧ allDep C xs = allDep C (xs.drop k) ∧ Below w.heap.size w wr) (fun i _ => n - (intOf i).toNat)
  case atStart => exact ⟨0, Nat.zero_le _, rfl, rfl, Below.refl _ _⟩
  case round =>
    obtain ⟨k, hk, rfl, ht, hbw⟩ := hrel
    by_cases hlt : k < n
    · obtain ⟨b, off, rfl, _, hc⟩ := AtD.row (AtSl.below ha hbw) (by omega)
      obtain ⟨x, hx⟩ : ∃ x, xs[k]? = some x := ⟨_, List.getElem?_eq_getElem (by omega)⟩
      obtain ⟨fa, fn, fc, ta, tn, tc, g0, g1, ⟨t1, t2, t3⟩, ⟨u1, u2, u3⟩⟩ := hc k x hx
      rw [allDep_step C hx] at ht
      have HT := Hid.mk ht
      have HA1 := Hid.mk t3
      have HA2 := Hid.mk u3
      have HL1 := Hid.mk t1
      have HL2 := Hid.mk u1
      have hki : (k : Int) < (n : Int) := by omega
      clear ht hc ha hx t1 t3 u1 u3
      go_wp2_with fail
      obtain ⟨W, hW⟩ : ∃ W, W = wr.alloc (.cells #[.slice fa fn fc, .slice ta tn tc] 43) := ⟨_, rfl⟩
      have bW : Below wr.heap.size wr W := by rw [hW]; exact (Below.refl _ _).alloc (Nat.le_refl _) _
      have q1 : W.cell? ⟨wr.heap.size, 1, none⟩ = some (.slice ta tn tc) := by rw [hW]; simp
      have HB := Hid.mk (hbw.trans (bW.mono hbw.size))
      have HA1' := Hid.mk (At.below HA1.out bW)
      have HA2' := Hid.mk (At.below HA2.out bW)
      clear HA1 HA2 bW
      rw [← hW]
      clear hW
      refine (areRising_any fa fn fc x.1 C W HL1.out t2 HA1'.out).mono ?_
      rintro e w1 ⟨rfl, hb1⟩
      have q1 := cell_later hb1 q1
      have HB1 := Hid.mk (HB.out.trans (hb1.mono HB.out.size))
      have HA3 := Hid.mk (At.below HA2'.out hb1)
      clear hb1 HA2' HB
      cases hr1 : ris C x.1 with
      | false =>
        go_wp2
        go_ret
        exact ⟨by rw [HT.out, hr1]; rfl, HB1.out⟩
      | true =>
        go_wp2_with fail
        refine (areRising_any ta tn tc x.2 C w1 HL2.out u2 HA3.out).mono ?_
        rintro e w2 ⟨rfl, hb2⟩
        have HB2 := Hid.mk (HB1.out.trans (hb2.mono HB1.out.size))
        clear hb2 HA3
        cases hr2 : ris C x.2 with
        | false =>
          go_wp2
          go_ret
          exact ⟨by rw [HT.out, hr1, hr2]; rfl, HB2.out⟩
        | true =>
          go_wp2
          go_roundw
          case rel => exact ⟨k + 1, by omega, by go_num, by rw [HT.out, hr1, hr2]; rfl, HB2.out⟩
          case measure => simp [intOf]; omega
    · have HT := Hid.mk ht
      clear ht
      go_wp2
      go_ret
      exact ⟨by rw [HT.out, allDep_done _ _ _ (by omega)]; rfl, hbw⟩

set_option maxHeartbeats 2000000 in
theorem l1Some_any (a : Option Addr) (n c : Nat) (zs : List Int) (C : Int) (w : World) (hz : zs.length = n) (hn : n ≤ 9223372036854775807) (ha : At w a zs) :
    Calls Tryd.prog 35 #[.slice a n c, .int .i64 C] w fun e w' => e = .returned (.bool (ris C zs)) ∧ Below w.heap.size w w' := by
  by_cases h0 : n = 0
  · subst h0
    obtain rfl := List.eq_nil_of_length_eq_zero hz
    go_enter Tryd.func35, Tryd.ntmps35
    go_wp2
    refine wp_loop_rounds 1 ?_
    rw [rounds_succ]
    go_wp2
    go_ret
    exact ⟨rfl, Below.refl _ _⟩
  · obtain ⟨b, off, rfl, hb, hc⟩ := ha.some (by omega)
    clear ha
    go_enter Tryd.func35, Tryd.ntmps35
    go_wp2
    go_loopw [9] (fun i wr => ∃ (k : Nat), k ≤ n ∧ i = .int .i64 k ∧ ris C zs = risB C (if k = 0 then -1 else zs.getD (k - 1) 0) (zs.drop k) ∧ (0 < k → 0 ≤ zs.getD (k - 1) 0) ∧ Below w.heap.size w wr) (fun i _ => n - (intOf i).toNat)
    case atStart => exact ⟨0, Nat.zero_le _, rfl, rfl, fun h => absurd h (by omega), Below.refl _ _⟩
    case round =>
      obtain ⟨k, hk, rfl, ht, hp, hbw⟩ := hrel
      by_cases hlt : k < n
      · have hcx : wr.cell? ⟨b, off + k, none⟩ = some (.int .i64 (zs.getD k 0)) := (hbw.cell hb).trans (hc k (by omega))
        rw [risB_step _ _ _ _ (by omega)] at ht
        obtain ⟨x, hx⟩ : ∃ x, x = zs.getD k 0 := ⟨_, rfl⟩
        have HX : Hid (zs.getD (k + 1 - 1) 0 = x) := by show _ = _; rw [Nat.add_sub_cancel, hx]
        rw [← hx] at hcx ht
        by_cases k0 : k = 0
        · rw [if_pos k0] at ht
          have HT := Hid.mk ht
          have HK := Hid.mk k0
          have hk0 : decide (0 < k) = false := decide_eq_false (by omega)
          have hk0' : ¬ (0 : Int) < (k : Int) := by omega
          clear hx ht hc hp k0
          by_cases c1 : x < 0
          · go_wp2
            go_ret
            exact ⟨by rw [HT.out, decide_eq_false (by omega : ¬ (-1 : Int) < x)]; rfl, hbw⟩
          · by_cases c2 : C ≤ x
            · go_wp2
              go_ret
              exact ⟨by rw [HT.out, decide_eq_false (by omega : ¬ x < C)]; simp, hbw⟩
            · go_wp2
              go_roundw
              case rel => exact ⟨k + 1, by omega, by go_num, by rw [HT.out, if_neg (by omega), HX.out, decide_eq_true (by omega : (-1 : Int) < x), decide_eq_true (by omega : x < C)]; rfl, fun _ => by rw [HX.out]; omega, hbw⟩
              case measure => simp [intOf]; omega
        · have hcp : wr.cell? ⟨b, off + (k - 1), none⟩ = some (.int .i64 (zs.getD (k - 1) 0)) := (hbw.cell hb).trans (hc (k - 1) (by omega))
          rw [if_neg k0] at ht
          have hp0 := hp (by omega)
          obtain ⟨q, hq⟩ : ∃ q, q = zs.getD (k - 1) 0 := ⟨_, rfl⟩
          rw [← hq] at hcp ht hp0
          have HT := Hid.mk ht
          have hk1 : 0 < k := by omega
          have hk1' : (0 : Int) < (k : Int) := by omega
          have hw : IntKind.i64.wrap ((k : Int) - 1) = ((k - 1 : Nat) : Int) := by rw [IntWalk.i64_in _ (by omega)]; omega
          have hkn : k - 1 < n := by omega
          clear hx ht hc hp hq k0
          by_cases c1 : x < 0
          · go_wp2
            go_ret
            exact ⟨by rw [HT.out, decide_eq_false (by omega : ¬ q < x)]; rfl, hbw⟩
          · by_cases c2 : C ≤ x
            · go_wp2
              go_ret
              exact ⟨by rw [HT.out, decide_eq_false (by omega : ¬ x < C)]; simp, hbw⟩
            · by_cases c3 : x ≤ q
              · go_wp2
                go_ret
                exact ⟨by rw [HT.out, decide_eq_false (by omega : ¬ q < x)]; rfl, hbw⟩
              · go_wp2
                go_roundw
                case rel => exact ⟨k + 1, by omega, by go_num, by rw [HT.out, if_neg (by omega), HX.out, decide_eq_true (by omega : q < x), decide_eq_true (by omega : x < C)]; rfl, fun _ => by rw [HX.out]; omega, hbw⟩
                case measure => simp [intOf]; omega
      · have HT := Hid.mk ht
        clear ht
        go_wp2
        go_ret
        exact ⟨by rw [HT.out, risB_done _ _ _ _ (by omega)]; rfl, hbw⟩

set_option maxHeartbeats 1000000 in
theorem l7Depend_any (fa : Option Addr) (fn fc : Nat) (ta : Option Addr) (tn tc : Nat) (fs ts : List Int) (C : Int) (w : World) (h1 : fs.length = fn) (h2 : fn ≤ 9223372036854775807) (h3 : At w fa fs) (k1 : ts.length = tn) (k2 : tn ≤ 9223372036854775807) (k3 : At w ta ts) :
    Calls Tryd.prog 63 #[.agg #[.slice fa fn fc, .slice ta tn tc], .int .i64 C] w fun e w' => e = .returned (.bool (ris C fs && ris C ts)) ∧ Below w.heap.size w w' := by
  obtain ⟨W, hW⟩ : ∃ W, W = w.alloc (.cells #[.slice fa fn fc, .slice ta tn tc] 43) := ⟨_, rfl⟩
  have B0 : Below w.heap.size w W := by rw [hW]; exact (Below.refl _ _).alloc (Nat.le_refl _) _
  have q1 : W.cell? ⟨w.heap.size, 1, none⟩ = some (.slice ta tn tc) := by rw [hW]; simp
  have A1 := Hid.mk (At.below h3 B0)
  have A2 := Hid.mk (At.below k3 B0)
  have L1 := Hid.mk h1
  have L2 := Hid.mk k1
  clear h3 k3 h1 k1
  go_enter Tryd.func63, Tryd.ntmps63
  go_wp2_with fail
  rw [← hW]
  clear hW
  refine (l1Some_any fa fn fc fs C W L1.out h2 A1.out).mono ?_
  rintro e w1 ⟨rfl, hb1⟩
  have q1 := cell_later hb1 q1
  have HB1 := Hid.mk (B0.trans (hb1.mono B0.size))
  have A3 := Hid.mk (At.below A2.out hb1)
  clear hb1 A2 B0 A1
  cases hr : ris C fs with
  | false =>
    go_wp2
    go_ret
    exact ⟨by rw [hr]; rfl, HB1.out⟩
  | true =>
    go_wp2_with fail
    refine (l1Some_any ta tn tc ts C w1 L2.out k2 A3.out).mono ?_
    rintro e w2 ⟨rfl, hb2⟩
    have HB2 := Hid.mk (HB1.out.trans (hb2.mono HB1.out.size))
    clear hb2
    go_wp2
    go_ret
    exact ⟨by rw [hr]; rfl, HB2.out⟩

set_option maxRecDepth 100000 in
set_option maxHeartbeats 2000000 in
theorem specGoodDepends (a : Option Addr) (n c : Nat) (xs : List Dep) (C : Int) (w : World) (hz : xs.length = n) (hn : n ≤ 9223372036854775807) (ha : AtD w a xs) :
    Calls Tryd.prog 34 #[.slice a n c, .int .i64 C] w fun e w' => e = .returned (.bool (goodDeps xs C)) ∧ Below w.heap.size w w' := by
  have hg : goodDeps xs C = (allDep C xs && ((decide (1 ≤ C) && decide (C ≤ 6)) && decide (n ≤ 10))) := by
    unfold goodDeps; rw [hz]
    cases decide (1 ≤ C) <;> cases decide (C ≤ 6) <;> cases decide (n ≤ 10) <;> cases allDep C xs <;> rfl
  rw [hg]
  clear hg
  go_enter Tryd.func34, Tryd.ntmps34
  go_wp2
  go_loopw [9] (fun i wr => ∃ (k : Nat), k ≤ n ∧ i = .int .i64 k ∧ allDep C xs = allDep C (xs.drop k) ∧ Below w.heap.size w wr) (fun i _ => n - (intOf i).toNat)
  case atStart => exact ⟨0, Nat.zero_le _, rfl, rfl, Below.refl _ _⟩
  case round =>
    obtain ⟨k, hk, rfl, ht, hbw⟩ := hrel
    by_cases hlt : k < n
    · obtain ⟨b, off, rfl, _, hc⟩ := AtD.row (AtSl.below ha hbw) (by omega)
      obtain ⟨x, hx⟩ : ∃ x, xs[k]? = some x := ⟨_, List.getElem?_eq_getElem (by omega)⟩
      obtain ⟨fa, fn, fc, ta, tn, tc, g0, g1, ⟨t1, t2, t3⟩, ⟨u1, u2, u3⟩⟩ := hc k x hx
      rw [allDep_step C hx] at ht
      have HT := Hid.mk ht
      have HA1 := Hid.mk t3
      have HA2 := Hid.mk u3
      have HL1 := Hid.mk t1
      have HL2 := Hid.mk u1
      have hki : (k : Int) < (n : Int) := by omega
      clear ht hc ha hx t1 t3 u1 u3
      go_wp2_with fail
      obtain ⟨W, hW⟩ : ∃ W, W = wr.alloc (.cells #[.slice fa fn fc, .slice ta tn tc] 43) := ⟨_, rfl⟩
      have bW : Below wr.heap.size wr W := by rw [hW]; exact (Below.refl _ _).alloc (Nat.le_refl _) _
      have HB := Hid.mk (hbw.trans (bW.mono hbw.size))
      have HA1' := Hid.mk (At.below HA1.out bW)
      have HA2' := Hid.mk (At.below HA2.out bW)
      clear HA1 HA2 bW
      rw [← hW]
      clear hW
      refine (l7Depend_any fa fn fc ta tn tc x.1 x.2 C W HL1.out t2 HA1'.out HL2.out u2 HA2'.out).mono ?_
      rintro e w1 ⟨rfl, hb1⟩
      have HB1 := Hid.mk (HB.out.trans (hb1.mono HB.out.size))
      clear hb1 HA2' HB
      cases hr1 : (ris C x.1 && ris C x.2) with
      | false =>
        go_wp2
        go_ret
        exact ⟨by rw [HT.out, ← Bool.and_assoc (ris C x.1), hr1]; rfl, HB1.out⟩
      | true =>
        go_wp2
        go_roundw
        case rel => exact ⟨k + 1, by omega, by go_num, by rw [HT.out, ← Bool.and_assoc (ris C x.1), hr1]; rfl, HB1.out⟩
        case measure => simp [intOf]; omega
    · have HT : Hid (allDep C xs = true) := by
        show _ = _
        rw [ht, allDep_done _ _ _ (by omega)]
      clear ht
      go_wp2_with fail
      refine (l1In_any C 1 6 wr).mono ?_
      rintro e w1 ⟨rfl, rfl⟩
      cases hr1 : (decide (1 ≤ C) && decide (C ≤ 6)) with
      | false =>
        go_wp2
        go_ret
        exact ⟨by rw [HT.out, hr1]; rfl, hbw⟩
      | true =>
        by_cases h10 : n ≤ 10
        · have h10' : (n : Int) ≤ 10 := by omega
          go_wp2
          go_ret
          exact ⟨by rw [HT.out, hr1, decide_eq_true h10]; rfl, hbw⟩
        · have h10' : decide ((n : Int) ≤ 10) = false := decide_eq_false (by omega)
          have h11 : decide (n ≤ 10) = false := decide_eq_false (by omega)
          go_wp2
          go_ret
          exact ⟨by rw [HT.out, hr1, decide_eq_false h10]; rfl, hbw⟩

end Go.Proofs.YtkcfhlpdenjimaaDoor

/- Contracts of tellingsOf and goodDepend. -/
namespace Go.Proofs.YtkcfhlpdenjimaaDoor
open Go.RowKit

def flatT (l : List (Nat × Nat)) : List Value := l.flatMap fun d => [.int .u64 (d.1 : Int), .int .u64 (d.2 : Int)]
theorem flatT_len (l : List (Nat × Nat)) : (flatT l).length = l.length * 2 := by
  induction l with
  | nil => rfl
  | cons x l ih => simp only [flatT, List.flatMap_cons, List.length_append] at ih ⊢; rw [ih]; simp; omega
theorem flatT_push (l : List (Nat × Nat)) (x : Nat × Nat) : flatT (l ++ [x]) = flatT l ++ [.int .u64 (x.1 : Int), .int .u64 (x.2 : Int)] := by simp [flatT]
theorem flatT_at : ∀ (l : List (Nat × Nat)) (i : Nat) (x : Nat × Nat), l[i]? = some x → (flatT l)[i * 2]? = some (.int .u64 (x.1 : Int)) ∧ (flatT l)[i * 2 + 1]? = some (.int .u64 (x.2 : Int))
  | y :: l, 0, x, h => by
    simp at h
    subst h
    simp [flatT]
  | y :: l, i + 1, x, h => by
    have ih := flatT_at l i x (by simpa using h)
    have e : flatT (y :: l) = .int .u64 (y.1 : Int) :: .int .u64 (y.2 : Int) :: flatT l := rfl
    rw [e, show (i + 1) * 2 = i * 2 + 1 + 1 by omega]
    simpa using ih
theorem AtT.of_owns {w : World} {base : Nat} {r : Option Addr} {n d : Nat} {l : List (Nat × Nat)} (h : w.ownsRow base 92 2 (.slice r n d) n (flatT l)) (hn : l.length = n) : AtT w r l := by
  rcases h.2 with ⟨hv, h0⟩ | ⟨g, cap, cur, hv, _⟩
  · left
    exact List.eq_nil_of_length_eq_zero (by omega)
  · simp only [Value.slice.injEq, true_and] at hv
    obtain ⟨rfl, rfl⟩ := hv
    refine .inr ⟨g, 0, rfl, fun i x hx => ?_⟩
    have hi := (List.getElem?_eq_some_iff.1 hx).1
    obtain ⟨e1, e2⟩ := flatT_at l i x hx
    refine ⟨[.int .u64 (x.1 : Int), .int .u64 (x.2 : Int)], fun j v hv => ?_, [_], [_], rfl, rfl, rfl⟩
    show w.cell? ⟨g, 0 + i * 2 + j, none⟩ = some v
    match j, hv with
    | 0, hv => obtain rfl := Option.some.inj hv; rw [show 0 + i * 2 + 0 = i * 2 by omega, h.cellAt _ (by omega)]; exact e1
    | 1, hv => obtain rfl := Option.some.inj hv; rw [show 0 + i * 2 + 1 = i * 2 + 1 by omega, h.cellAt _ (by omega)]; exact e2

theorem Tryd.infoTelling : (Tryd.prog.info? 92).map (fun i => (i.zero, i.size, i.bytes)) = some (some (.agg #[.int .u64 0, .int .u64 0]), 2, 16) := by kernel_rfl
theorem dms_take {xs : List Dep} {k : Nat} {x : Dep} (h : xs[k]? = some x) : (dms xs).take (k + 1) = (dms xs).take k ++ [dm x] := by
  obtain ⟨hk, rfl⟩ := List.getElem?_eq_some_iff.1 h
  rw [List.take_succ_eq_append_getElem (by simpa [dms] using hk)]
  simp [dms]
/-- Each number of each dependency is a column. -/
def Cols (xs : List Dep) : Prop := ∀ d ∈ xs, (∀ x ∈ d.1, 0 ≤ x ∧ x < 6) ∧ (∀ x ∈ d.2, 0 ≤ x ∧ x < 6)
theorem Cols.of {xs : List Dep} {C : Int} (h : goodDeps xs C = true) : Cols xs := by
  simp only [goodDeps, allDep, goodDep, Bool.and_eq_true, decide_eq_true_eq, List.all_eq_true] at h
  obtain ⟨_, h2, _, h4⟩ := h
  exact fun d hd => ⟨ris_in h2 (h4 d hd).1, ris_in h2 (h4 d hd).2⟩
theorem Cols.sets {xs : List Dep} (h : Cols xs) : Sets (dms xs) := by
  intro d hd
  obtain ⟨e, he, rfl⟩ := List.mem_map.1 hd
  exact ⟨mk_lt6 (h e he).1, mk_lt6 (h e he).2⟩

set_option maxRecDepth 100000 in
set_option maxHeartbeats 2000000 in
theorem tellingsOf_any (a : Option Addr) (n c : Nat) (xs : List Dep) (w : World) (hz : xs.length = n) (hn : n ≤ 1048576) (hin : Cols xs) (ha : AtD w a xs) :
    Calls Tryd.prog 40 #[.slice a n c] w fun e w' => ∃ r d, e = .returned (.slice r n d) ∧ AtT w' r (dms xs) ∧ Below w.heap.size w w' := by
  obtain ⟨i0, hi, hz0, hz1, hz2⟩ := info_parts Tryd.infoTelling
  have HIN := Hid.mk hin
  have HA := Hid.mk ha
  clear hin ha
  go_enter Tryd.func40, Tryd.ntmps40
  go_wp2
  go_loopw [3, 8] (fun p i wr => ∃ (k : Nat) (r : Option Addr) (d : Nat), k ≤ n ∧ i = .int .i64 k ∧ p = .slice r k d ∧ wr.ownsRow w.heap.size 92 2 (.slice r k d) k (flatT ((dms xs).take k)) ∧ Below w.heap.size w wr) (fun _ i _ => n - (intOf i).toNat)
  case atStart => exact ⟨0, none, 0, Nat.zero_le _, rfl, rfl, World.ownsRow_nil _ _ _ _, Below.refl _ _⟩
  case round =>
    obtain ⟨k, r, d, hk, rfl, rfl, hown, hbw⟩ := hrel
    by_cases hlt : k < n
    · obtain ⟨b, off, rfl, _, hc⟩ := AtD.row (AtSl.below HA.out hbw) (by omega)
      obtain ⟨x, hx⟩ : ∃ x, xs[k]? = some x := ⟨_, List.getElem?_eq_getElem (by omega)⟩
      obtain ⟨fa, fn, fc, ta, tn, tc, g0, g1, ⟨t1, t2, t3⟩, ⟨u1, u2, u3⟩⟩ := hc k x hx
      have hxin := HIN.out x (List.mem_of_getElem? hx)
      have hki : (k : Int) < (n : Int) := by omega
      have HT : Hid (flatT ((dms xs).take (k + 1)) = flatT ((dms xs).take k) ++ [.int .u64 (mk x.1 : Nat), .int .u64 (mk x.2 : Nat)]) := by show _ = _; rw [dms_take hx, flatT_push]; rfl
      obtain ⟨W, hW⟩ : ∃ W, W = wr.alloc (.cells #[.slice fa fn fc, .slice ta tn tc] 43) := ⟨_, rfl⟩
      have bW : Below wr.heap.size wr W := by rw [hW]; exact (Below.refl _ _).alloc (Nat.le_refl _) _
      have HC := Hid.mk (tellingOf_any fa fn fc ta tn tc x.1 x.2 W t1 t2 (At.below t3 bW) u1 u2 (At.below u3 bW) hxin.1 hxin.2)
      have HO := Hid.mk (owns_below hown bW)
      have HB := Hid.mk (hbw.trans (bW.mono hbw.size))
      obtain ⟨M, hM⟩ : ∃ M, mk x.1 = M := ⟨_, rfl⟩
      obtain ⟨N, hN⟩ : ∃ N, mk x.2 = N := ⟨_, rfl⟩
      rw [hM, hN] at HT HC
      clear hc hx t1 t3 u1 u3 hxin bW hown hbw hM hN
      go_wp2_with fail
      rw [← hW]
      clear hW
      refine HC.out.mono ?_
      rintro e w3 ⟨rfl, hb3⟩
      have HO3 := Hid.mk (owns_below HO.out hb3)
      have HB3 := Hid.mk (HB.out.trans (hb3.mono HB.out.size))
      have z3 := HB3.out.size
      clear HO HB HC hb3
      go_wp2_with (at_builtin; refine wpList_append_lies _ rfl (.tmp 12) (.tmp 15) 64 rfl w.heap.size 92 i0 (.agg #[.int .u64 0, .int .u64 0]) 2 16 Tryd.underlying64 hi hz0 hz1 hz2 rfl (by decide) _ _ _ rfl (HO3.out.alloc _) ⟨w3.heap.size, 0, none⟩ 1 1 [.int .u64 (M : Nat), .int .u64 (N : Nat)] rfl rfl (news_at w3 _ _) (by intro u hu; simp at hu; rcases hu with rfl | rfl <;> rfl) (by decide) (by unfold maxLen; omega) (by omega) (by simp; omega) (w3.heap.size + 1) (by simp) ?_)
      intro g4 cap4 w4 ho4 hg4 hat4 hlt4
      have HO4 : Hid (w4.ownsRow w.heap.size 92 2 (.slice (some ⟨g4, 0, none⟩) (k + 1) cap4) (k + 1) (flatT ((dms xs).take (k + 1)))) := by
        show World.ownsRow _ _ _ _ _ _ _
        rw [HT.out]; exact ho4
      have HB4 : Hid (Below w.heap.size w w4) := (HB3.out.alloc z3 _).grown hg4 (by simp; omega) (fun j hj => (HO3.out.lt j hj).1)
      clear ho4 hg4 hat4 HO3 HB3
      go_wp2
      go_roundw
      case rel => exact ⟨k + 1, _, _, by omega, by go_num, rfl, HO4.out, HB4.out⟩
      case measure => simp [intOf]; omega
    · obtain rfl : k = n := by omega
      have HT : Hid (AtT wr r (dms xs)) := by
        rw [List.take_of_length_le (by simp [dms]; omega)] at hown
        exact AtT.of_owns hown (by simp [dms]; exact hz)
      clear hown
      go_wp2
      go_ret
      exact ⟨r, d, rfl, HT.out, hbw⟩

theorem goodDeps_one (C : Int) (d : Dep) : goodDeps [d] C = (decide (1 ≤ C) && (decide (C ≤ 6) && goodDep C d)) := by
  unfold goodDeps allDep
  simp

set_option maxHeartbeats 1000000 in
theorem goodDepend_any (fa : Option Addr) (fn fc : Nat) (ta : Option Addr) (tn tc : Nat) (d : Dep) (C : Int) (w : World) (hd : RDep.At w [.slice fa fn fc, .slice ta tn tc] d) :
    Calls Tryd.prog 72 #[.agg #[.slice fa fn fc, .slice ta tn tc], .int .i64 C] w fun e w' => e = .returned (.bool (goodDeps [d] C)) ∧ Below w.heap.size w w' := by
  obtain ⟨W, hW⟩ : ∃ W, W = (w.alloc (.cells #[.slice fa fn fc, .slice ta tn tc] 43)).alloc (.cells #[.slice fa fn fc, .slice ta tn tc] 43) := ⟨_, rfl⟩
  have B0 : Below w.heap.size w W := by rw [hW]; exact ((Below.refl _ _).alloc (Nat.le_refl _) _).alloc (by simp) _
  have q0 : W.cell? ⟨w.heap.size + 1, 0, none⟩ = some (.slice fa fn fc) := by rw [hW]; simp
  have q1 : W.cell? ⟨w.heap.size + 1, 1, none⟩ = some (.slice ta tn tc) := by rw [hW]; simp
  have HA := Hid.mk (AtD.one q0 q1 (RDep.below hd B0))
  clear hd q0 q1
  go_enter Tryd.func72, Tryd.ntmps72
  go_wp2_with fail
  rw [← hW]
  clear hW
  refine (implGoodDepends (some ⟨w.heap.size + 1, 0, none⟩) 1 1 [d] C W rfl (by omega) HA.out).mono ?_
  rintro e w1 ⟨rfl, hb1⟩
  have HB := Hid.mk (B0.trans (hb1.mono B0.size))
  clear hb1 B0 HA
  go_wp2
  go_ret
  exact ⟨rfl, HB.out⟩

end Go.Proofs.YtkcfhlpdenjimaaDoor

/- Contract of the model's l7Closure. -/
namespace Go.Proofs.YtkcfhlpdenjimaaDoor
open Go.RowKit

theorem owns_void (w : World) (e : TypeId) (size : Nat) : (w.alloc (.cells #[] e)).ownsRow w.heap.size e size (.slice (some ⟨w.heap.size, 0, none⟩) 0 0) 0 [] :=
  ⟨by simp, .inr ⟨w.heap.size, 0, #[], rfl, Nat.le_refl _, heap_alloc_new w _, by simp, by simp, by simp, by simp⟩⟩

/-- A rising list of columns: it is told by its set. -/
structure Told (l : List Int) : Prop where
  intro ::
  is : bl (mk l) = l
  lt : mk l < 64
theorem Told.of {c : Int} {l : List Int} (hc : c ≤ 6) (h : ris c l = true) : Told l := ⟨bl_mk hc h, mk_lt hc h⟩
theorem Told.in {l : List Int} (h : Told l) : ∀ x ∈ l, 0 ≤ x ∧ x < 6 := fun x hx => bl_in (s := mk l) (by rw [h.is]; exact hx)
theorem Told.len {l : List Int} (h : Told l) : l.length ≤ 6 := by have := bl_len (mk l); rw [h.is] at this; exact this
def Tolds (xs : List Dep) : Prop := ∀ d ∈ xs, Told d.1 ∧ Told d.2
theorem Tolds.of {xs : List Dep} {C : Int} (h : goodDeps xs C = true) : Tolds xs := by
  simp only [goodDeps, allDep, goodDep, Bool.and_eq_true, decide_eq_true_eq, List.all_eq_true] at h
  obtain ⟨_, h2, _, h4⟩ := h
  exact fun d hd => ⟨Told.of h2 (h4 d hd).1, Told.of h2 (h4 d hd).2⟩
theorem mk_take_bl {s : Nat} {zs : List Int} {k : Nat} (hs : s < 64) (hz : ∀ x ∈ zs, 0 ≤ x ∧ x < 6) (hk : k < zs.length) : insI (bl (s ||| mk (zs.take k))) (zs.getD k 0) = bl (s ||| mk (zs.take (k + 1))) := by
  have hx : zs.getD k 0 ∈ zs := by simp [List.getD, hk]
  rw [insI_bl (or_lt64 hs (mk_lt6 fun y hy => hz y (List.mem_of_mem_take hy))) (hz _ hx).1 (hz _ hx).2, mk_take hk, Nat.or_assoc]

set_option maxRecDepth 100000 in
set_option maxHeartbeats 4000000 in
theorem l7Closure_any (a : Option Addr) (n c : Nat) (xs : List Dep) (fa : Option Addr) (fn fc : Nat) (fs : List Int) (w : World) (hz : xs.length = n) (hn : n ≤ 1048576) (hs : Tolds xs) (ha : AtD w a xs)
    (hf : Told fs) (hfn : fs.length = fn) (hfa : At w fa fs) (hnil : fa = none → fc = 0) :
    Calls Tryd.prog 36 #[.slice a n c, .slice fa fn fc] w fun e w' => ∃ T r m d, IsClo (dms xs) (mk fs) T ∧ e = .returned (.slice r m d) ∧ (bl T).length = m ∧ w'.ownsRow w.heap.size 3 1 (.slice r m d) m ((bl T).map (.int .i64)) ∧ Below w.heap.size w w' := by
  obtain ⟨i0, hi, hz0, hz1, hz2⟩ := info_parts Tryd.infoInt
  have hfl := hf.len
  have hS := hf.lt
  have hfb := hf.is
  obtain ⟨S, hSe⟩ : ∃ S, mk fs = S := ⟨_, rfl⟩
  rw [hSe] at hS hfb ⊢
  have HS := Hid.mk hs
  have HA := Hid.mk ha
  have HFA := Hid.mk (hfa.alloc (.cells #[] 3))
  have HFN := Hid.mk hfn
  have HFB := Hid.mk hfb
  have OE := Hid.mk (owns_void w 3 1)
  have HNIL := Hid.mk hnil
  have hf6 : fn ≤ 6 := by omega
  clear hs ha hfa hfn hfb hf hSe hnil hfl
  go_enter Tryd.func36, Tryd.ntmps36
  go_wp2_with (at_builtin; refine wpList_append_all rfl (.tmp 11) (.tmp 12) 23 rfl w.heap.size 3 i0 (.int .i64 0) 8 Tryd.underlying23 hi hz0 hz1 hz2 rfl (.slice (some ⟨w.heap.size, 0, none⟩) 0 0) 0 [] rfl OE.out fa fn fc fs rfl HFN.out HFA.out HNIL.out (by unfold maxLen; omega) (by omega) (by simp) ?_)
  intro r1 d1 w1 ho1 hg1
  have B1 : Below w.heap.size w w1 := ((Below.refl _ _).alloc (Nat.le_refl _) _).grown hg1 (by simp) (fun j hj => by simp [Value.ownBlock] at hj; omega)
  have HO1 := Hid.mk ho1
  have HB1 := Hid.mk B1
  clear ho1 hg1 B1 OE
  go_wp2_with fail
  go_loopg [5] (64 - S) (fun g p wr => ∃ (T : Nat) (r : Option Addr) (m d : Nat), T + g = 64 ∧ p = .slice r m d ∧ (bl T).length = m ∧ T < 64 ∧ sb S T = true ∧ (∀ U, sb S U = true → clsd (dms xs) U → sb T U = true) ∧ wr.ownsRow w.heap.size 3 1 (.slice r m d) m ((bl T).map (.int .i64)) ∧ Below w.heap.size w wr)
  case atStart =>
    exact ⟨S, r1, fn, d1, by omega, rfl, by rw [HFB.out]; exact HFN.out, hS, sb_refl S, fun U h _ => h, by rw [HFB.out]; simpa using HO1.out, HB1.out⟩
  case round =>
    obtain ⟨T, r, m, d, hTg, rfl, hm, hT, hST, hleast, hown, hbw⟩ := hrel
    have HST := Hid.mk hST
    have HLE := Hid.mk hleast
    have HB := Hid.mk hbw
    have HM := Hid.mk hm
    have HO := Hid.mk hown
    clear hST hleast hbw hm hown HO1 HB1
    go_wp2_with fail
    go_loopg [5, 18] n (fun g2 p i wy => ∃ (k T' : Nat) (r : Option Addr) (m d : Nat), k + g2 = n ∧ i = .int .i64 k ∧ p = .slice r m d ∧ (bl T').length = m ∧ T' < 64 ∧ sb T T' = true ∧ (∀ U, sb S U = true → clsd (dms xs) U → sb T' U = true) ∧ (∀ (j : Nat) (x : Dep), j < k → xs[j]? = some x → sb (mk x.1) T = true → sb (mk x.2) T' = true) ∧ wy.ownsRow w.heap.size 3 1 (.slice r m d) m ((bl T').map (.int .i64)) ∧ Below w.heap.size w wy)
    case atStart => exact ⟨0, T, r, m, d, by omega, rfl, rfl, HM.out, hT, sb_refl T, HLE.out, fun j x h => by omega, HO.out, HB.out⟩
    case round =>
      obtain ⟨k, T', r', m', d', hkg, rfl, rfl, hm', hT', hTT, hleast, hall, hown, hbw⟩ := hrel
      have HM' := Hid.mk hm'
      have HTT := Hid.mk hTT
      have HLE' := Hid.mk hleast
      have HALL := Hid.mk hall
      have HO' := Hid.mk hown
      have HB' := Hid.mk hbw
      have hm6 : m' ≤ 6 := by rw [← hm']; exact bl_len T'
      clear hm' hTT hleast hall hown hbw HB HO
      by_cases hlt : k < n
      · obtain ⟨b, off, rfl, _, hc⟩ := AtD.row (AtSl.below HA.out HB'.out) (by omega)
        obtain ⟨x, hx⟩ : ∃ x, xs[k]? = some x := ⟨_, List.getElem?_eq_getElem (by omega)⟩
        obtain ⟨fa2, fn2, fc2, ta2, tn2, tc2, g0, g1, ⟨t1, t2, t3⟩, ⟨u1, u2, u3⟩⟩ := hc k x hx
        have hxt := HS.out x (List.mem_of_getElem? hx)
        have hki : (k : Int) < (n : Int) := by omega
        have htn6 : tn2 ≤ 6 := by rw [← u1]; exact hxt.2.len
        obtain ⟨W, hW⟩ : ∃ W, W = wr.alloc (.cells #[.slice fa2 fn2 fc2, .slice ta2 tn2 tc2] 43) := ⟨_, rfl⟩
        have bW : Below wr.heap.size wr W := by rw [hW]; exact (Below.refl _ _).alloc (Nat.le_refl _) _
        have zW : wr.heap.size < W.heap.size := by rw [hW]; simp
        have q1 : W.cell? ⟨wr.heap.size, 1, none⟩ = some (.slice ta2 tn2 tc2) := by rw [hW]; simp
        have HO2 := Hid.mk (owns_below HO'.out bW)
        have HB2 := Hid.mk (HB'.out.trans (bW.mono HB'.out.size))
        have HC := Hid.mk (l7All_any r' m' d' (bl T') fa2 fn2 fc2 x.1 W HM'.out (by omega) (At.owned HO2.out) t1 t2 (At.below t3 bW))
        have hall1 : (x.1.all fun k => decide (k ∈ bl T')) = sb (mk x.1) T' := by
          have h9 := all_bl (D := mk x.1) (T := T') hxt.1.lt
          rw [hxt.1.is] at h9
          exact h9
        rw [hall1] at HC
        have HX := Hid.mk hx
        have HXT := Hid.mk hxt
        have HU1 := Hid.mk u1
        have HU3 := Hid.mk (At.below u3 bW)
        clear hc hx hxt t1 t3 u1 u3 hall1 bW HO' HB'
        go_wp2_with fail
        rw [← hW]
        clear hW
        refine HC.out.mono ?_
        rintro e w2 ⟨rfl, rfl⟩
        cases hr1 : sb (mk x.1) T' with
        | false =>
          go_wp2
          go_roundg (n - (k + 1))
          case measure => omega
          case rel => exact ⟨k + 1, T', r', m', d', by omega, by go_num, rfl, HM'.out, hT', HTT.out, HLE'.out, fun j y hj hy hs1 => by
            by_cases hjk : j < k
            · exact HALL.out j y hjk hy hs1
            · obtain rfl : j = k := by omega
              obtain rfl : x = y := by have h9 := HX.out; rw [hy] at h9; exact (Option.some.inj h9).symm
              exact absurd (sb_trans hs1 HTT.out) (by rw [hr1]; simp), HO2.out, HB2.out⟩
        | true =>
          go_wp2_with fail
          go_loopg [5, 29] tn2 (fun g3 p i wz => ∃ (j : Nat) (r : Option Addr) (m d : Nat), j + g3 = tn2 ∧ i = .int .i64 j ∧ p = .slice r m d ∧ (bl (T' ||| mk (x.2.take j))).length = m ∧ wz.ownsRow w.heap.size 3 1 (.slice r m d) m ((bl (T' ||| mk (x.2.take j))).map (.int .i64)) ∧ Below w.heap.size w wz ∧ Below w2.heap.size w2 wz)
          case atStart => exact ⟨0, r', m', d', by omega, rfl, rfl, by simpa [mk] using HM'.out, by simpa [mk] using HO2.out, HB2.out, Below.refl _ _⟩
          case round =>
            obtain ⟨j, r3, m3, d3, hjg, rfl, rfl, hm3, hown3, hbw3, hbz3⟩ := hrel
            by_cases hjlt : j < tn2
            · obtain ⟨b4, off4, rfl, hb4, hc4⟩ := (At.below HU3.out hbz3).some (by have := HU1.out; omega)
              have hcx : wr.cell? ⟨b4, off4 + j, none⟩ = some (.int .i64 (x.2.getD j 0)) := hc4 j (by have := HU1.out; omega)
              have hins := mk_take_bl (s := T') (zs := x.2) (k := j) hT' HXT.out.2.in (by have := HU1.out; omega)
              have hm36 : m3 ≤ 6 := by rw [← hm3]; exact bl_len _
              obtain ⟨y, hy⟩ : ∃ y, y = x.2.getD j 0 := ⟨_, rfl⟩
              rw [← hy] at hcx hins
              have HC3 := Hid.mk (l7Put_any w.heap.size r3 m3 d3 (bl (T' ||| mk (x.2.take j))) y wr hm3 (by omega) hbw3.size hown3)
              rw [hins] at HC3
              have HBW3 := Hid.mk hbw3
              have HBZ3 := Hid.mk hbz3
              have hji : (j : Int) < (tn2 : Int) := by omega
              clear hc4 hins hy hm3 hown3 hbw3 hbz3
              go_wp2_with fail
              refine HC3.out.mono ?_
              rintro e w5 ⟨r5, m5, d5, rfl, hm5, ho5, hb5⟩
              have HM5 := Hid.mk hm5
              have HO5 := Hid.mk ho5
              have HB5 := Hid.mk (HBW3.out.trans (hb5.mono HBW3.out.size))
              have HZ5 := Hid.mk (HBZ3.out.trans (hb5.mono HBZ3.out.size))
              clear hm5 ho5 hb5 HBW3 HBZ3
              go_wp2
              go_roundg (tn2 - (j + 1))
              case measure => omega
              case rel => exact ⟨j + 1, r5, m5, d5, by omega, by go_num, rfl, HM5.out, HO5.out, HB5.out, HZ5.out⟩
            · obtain rfl : j = tn2 := by omega
              rw [List.take_of_length_le (by have := HU1.out; omega)] at hm3 hown3
              have hji : ¬ (j : Int) < (j : Int) := by omega
              have HM3 := Hid.mk hm3
              have HO3 := Hid.mk hown3
              have HB3 := Hid.mk hbw3
              have hD6 := HXT.out.2.lt
              clear hm3 hown3 hbw3
              go_wp2
              go_roundg (n - (k + 1))
              case measure => omega
              case rel => exact ⟨k + 1, T' ||| mk x.2, r3, m3, d3, by omega, by go_num, rfl, HM3.out, or_lt64 hT' hD6, sb_trans HTT.out (sb_or_left _ _), fun U h1 h2 => sb_or (HLE'.out U h1 h2) (by
                have h3 := h2 (dm x) (List.mem_map.2 ⟨x, List.mem_of_getElem? HX.out, rfl⟩)
                exact h3 (sb_trans hr1 (HLE'.out U h1 h2))), fun i y hi' hy hs1 => by
                by_cases hik : i < k
                · exact sb_trans (HALL.out i y hik hy hs1) (sb_or_left _ _)
                · obtain rfl : i = k := by omega
                  obtain rfl : x = y := by have h9 := HX.out; rw [hy] at h9; exact (Option.some.inj h9).symm
                  exact sb_or_right _ _, HO3.out, HB3.out⟩
      · obtain rfl : k = n := by omega
        have hki : ¬ (k : Int) < (k : Int) := by omega
        by_cases hmm : m' = m
        · obtain rfl := hmm
          have hTe : T' = T := len_bl_all T hT T' hT' HTT.out (HM'.out.trans HM.out.symm)
          subst hTe
          have HCL : Hid (IsClo (dms xs) S T') := ⟨hT', HST.out, fun dd hd => by
            obtain ⟨x, hx, rfl⟩ := List.mem_map.1 hd
            obtain ⟨j, hj, rfl⟩ := List.getElem_of_mem hx
            exact HALL.out j _ (by omega) (List.getElem?_eq_getElem hj), HLE.out⟩
          go_wp2
          go_ret
          exact ⟨T', HCL.out, r', m', d', rfl, HM'.out, HO'.out, HB'.out⟩
        · have hmi : ¬ (m' : Int) = (m : Int) := by omega
          have hne : T < T' := by
            have h9 := sb_iff.1 HTT.out
            have h8 : T ≤ T' := by rw [← h9]; exact Nat.left_le_or
            have h7 : T ≠ T' := fun e => hmm (by rw [← HM'.out, ← HM.out, e])
            omega
          go_wp2
          go_roundg (64 - T')
          case measure => omega
          case rel => exact ⟨T', r', m', d', by omega, rfl, HM'.out, hT', sb_trans HST.out HTT.out, HLE'.out, HO'.out, HB'.out⟩

end Go.Proofs.YtkcfhlpdenjimaaDoor
