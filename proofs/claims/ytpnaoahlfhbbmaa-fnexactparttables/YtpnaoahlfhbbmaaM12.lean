/- Several texts of one proof, in build order: L1In, SomeC, DepI, CloS, CloC, OthI, GpP, GpI. -/
import Derived.Test.YtpnaoahlfhbbmaaM1
import Derived.Test.YtpnaoahlfhbbmaaRows
import Derived.Test.YtpnaoahlfhbbmaaM10
import Derived.Test.YtpnaoahlfhbbmaaM11

/- Contract of spec.l1In. -/
namespace Go.Proofs.Ytpnaoahlfhbbmaa
open Go.RowKit

theorem l1In_any (x lo hi : Int) (w : World) :
    Calls Try.prog 23 #[.int .i64 x, .int .i64 lo, .int .i64 hi] w fun e w' => e = .returned (.bool (decide (lo ≤ x) && decide (x ≤ hi))) ∧ w' = w := by
  by_cases h : lo ≤ x
  · have h1 : decide (lo ≤ x) = true := decide_eq_true h
    go_enter Try.func23, Try.ntmps23
    go_wp2
    go_ret
    exact ⟨ret_bool (by simp [h]), rfl⟩
  · have h1 : decide (lo ≤ x) = false := decide_eq_false h
    go_enter Try.func23, Try.ntmps23
    go_wp2
    go_ret
    exact ⟨ret_bool (by simp), rfl⟩

end Go.Proofs.Ytpnaoahlfhbbmaa

/- Contracts of impl.goodColumns and impl.someColumns. -/
namespace Go.Proofs.Ytpnaoahlfhbbmaa
open Go.RowKit

theorem goodColumns_is (p : Int) (w : World) :
    Calls Try.prog 42 #[.int .i64 p] w fun e w' => e = .returned (.bool (decide (0 ≤ p) && decide (p ≤ 6))) ∧ w' = w := by
  by_cases h1 : 0 ≤ p
  · go_enter Try.func42, Try.ntmps42
    go_wp2
    go_ret
    exact ⟨by rw [decide_eq_true h1]; rfl, rfl⟩
  · go_enter Try.func42, Try.ntmps42
    go_wp2
    go_ret
    exact ⟨by rw [decide_eq_false (show ¬ 0 ≤ p by omega)]; rfl, rfl⟩
theorem someColumns_any (p : Int) (w : World) :
    Calls Try.prog 25 #[.int .i64 p] w fun e w' => e = .returned (.bool (decide (1 ≤ p) && decide (p ≤ 6))) ∧ w' = w := by
  by_cases h1 : 0 < p
  · go_enter Try.func25, Try.ntmps25
    go_wp2_with fail
    refine (goodColumns_is p _).mono ?_
    rintro e w1 ⟨rfl, rfl⟩
    rw [decide_eq_true (show 0 ≤ p by omega), Bool.true_and]
    go_wp2
    go_ret
    exact ⟨by rw [decide_eq_true (show 1 ≤ p by omega)]; rfl, rfl⟩
  · go_enter Try.func25, Try.ntmps25
    go_wp2
    go_ret
    exact ⟨by rw [decide_eq_false (show ¬ 1 ≤ p by omega)]; rfl, rfl⟩

end Go.Proofs.Ytpnaoahlfhbbmaa

/- Contracts of areRising and GoodDepends, the program's and the model's. -/
namespace Go.Proofs.Ytpnaoahlfhbbmaa
open Go.RowKit

set_option maxHeartbeats 1000000 in
theorem areRising_any (a : Option Addr) (n c : Nat) (zs : List Int) (C : Int) (w : World) (hz : zs.length = n) (hn : n ≤ 9223372036854775807) (ha : At w a zs) :
    Calls Try.prog 26 #[.slice a n c, .int .i64 C] w fun e w' => e = .returned (.bool (ris C zs)) ∧ Below w.heap.size w w' := by
  by_cases h0 : n = 0
  · subst h0
    obtain rfl := List.eq_nil_of_length_eq_zero hz
    go_enter Try.func26, Try.ntmps26
    go_wp2
    refine wp_loop_rounds 1 ?_
    rw [rounds_succ]
    go_wp2
    go_ret
    exact ⟨rfl, Below.refl _ _⟩
  · obtain ⟨b, off, rfl, hb, hc⟩ := ha.some (by omega)
    clear ha
    go_enter Try.func26, Try.ntmps26
    go_wp2
    go_loopw [5, 10] (fun p i wr => ∃ (k : Nat) (q : Int), k ≤ n ∧ i = .int .i64 k ∧ p = .int .i64 q ∧ ris C zs = risB C q (zs.drop k) ∧ Below w.heap.size w wr) (fun _ i _ => n - (intOf i).toNat)
    case atStart => exact ⟨0, -1, Nat.zero_le _, rfl, rfl, rfl, Below.refl _ _⟩
    case round =>
      obtain ⟨k, q, hk, rfl, rfl, ht, hbw⟩ := hrel
      by_cases hlt : k < n
      · have hcx : wr.cell? ⟨b, off + k, none⟩ = some (.int .i64 (zs.getD k 0)) := (hbw.cell hb).trans (hc k (by omega))
        rw [risB_step _ _ _ _ (by omega)] at ht
        obtain ⟨x, hx⟩ : ∃ x, x = zs.getD k 0 := ⟨_, rfl⟩
        rw [← hx] at hcx ht
        have HT := Hid.mk ht
        clear hx ht hc
        by_cases c1 : x ≤ q
        · go_wp2
          go_ret
          exact ⟨by rw [HT.out, decide_eq_false (by omega : ¬ q < x)]; rfl, hbw⟩
        · by_cases c2 : C ≤ x
          · go_wp2
            go_ret
            exact ⟨by rw [HT.out, decide_eq_false (by omega : ¬ x < C)]; simp, hbw⟩
          · go_wp2
            go_roundw
            case rel => exact ⟨k + 1, x, by omega, by go_num, rfl, by rw [HT.out, decide_eq_true (by omega : q < x), decide_eq_true (by omega : x < C)]; rfl, hbw⟩
            case measure => simp [intOf]; omega
      · have HT := Hid.mk ht
        clear ht
        go_wp2
        go_ret
        exact ⟨by rw [HT.out, risB_done _ _ _ _ (by omega)]; rfl, hbw⟩

set_option maxHeartbeats 2000000 in
theorem l1Some_any (a : Option Addr) (n c : Nat) (zs : List Int) (C : Int) (w : World) (hz : zs.length = n) (hn : n ≤ 9223372036854775807) (ha : At w a zs) :
    Calls Try.prog 21 #[.slice a n c, .int .i64 C] w fun e w' => e = .returned (.bool (ris C zs)) ∧ Below w.heap.size w w' := by
  by_cases h0 : n = 0
  · subst h0
    obtain rfl := List.eq_nil_of_length_eq_zero hz
    go_enter Try.func21, Try.ntmps21
    go_wp2
    refine wp_loop_rounds 1 ?_
    rw [rounds_succ]
    go_wp2
    go_ret
    exact ⟨rfl, Below.refl _ _⟩
  · obtain ⟨b, off, rfl, hb, hc⟩ := ha.some (by omega)
    clear ha
    go_enter Try.func21, Try.ntmps21
    go_wp2
    go_loopw [9] (fun i wr => ∃ (k : Nat), k ≤ n ∧ i = .int .i64 k ∧ ris C zs = risB C (if k = 0 then -1 else zs.getD (k - 1) 0) (zs.drop k) ∧ (0 < k → 0 ≤ zs.getD (k - 1) 0) ∧ Below w.heap.size w wr) (fun i _ => n - (intOf i).toNat)
    case atStart => exact ⟨0, Nat.zero_le _, rfl, rfl, fun h => absurd h (by omega), Below.refl _ _⟩
    case round =>
      obtain ⟨k, hk, rfl, ht, hp, hbw⟩ := hrel
      by_cases hlt : k < n
      · have hcx : wr.cell? ⟨b, off + k, none⟩ = some (.int .i64 (zs.getD k 0)) := (hbw.cell hb).trans (hc k (by omega))
        rw [risB_step _ _ _ _ (by omega)] at ht
        obtain ⟨x, hx⟩ : ∃ x, x = zs.getD k 0 := ⟨_, rfl⟩
        have HX : Hid (zs.getD (k + 1 - 1) 0 = x) := by show _ = _; rw [Nat.add_sub_cancel, hx]
        rw [← hx] at hcx ht
        by_cases k0 : k = 0
        · rw [if_pos k0] at ht
          have HT := Hid.mk ht
          have HK := Hid.mk k0
          have hk0 : decide (0 < k) = false := decide_eq_false (by omega)
          have hk0' : ¬ (0 : Int) < (k : Int) := by omega
          clear hx ht hc hp k0
          by_cases c1 : x < 0
          · go_wp2
            go_ret
            exact ⟨by rw [HT.out, decide_eq_false (by omega : ¬ (-1 : Int) < x)]; rfl, hbw⟩
          · by_cases c2 : C ≤ x
            · go_wp2
              go_ret
              exact ⟨by rw [HT.out, decide_eq_false (by omega : ¬ x < C)]; simp, hbw⟩
            · go_wp2
              go_roundw
              case rel => exact ⟨k + 1, by omega, by go_num, by rw [HT.out, if_neg (by omega), HX.out, decide_eq_true (by omega : (-1 : Int) < x), decide_eq_true (by omega : x < C)]; rfl, fun _ => by rw [HX.out]; omega, hbw⟩
              case measure => simp [intOf]; omega
        · have hcp : wr.cell? ⟨b, off + (k - 1), none⟩ = some (.int .i64 (zs.getD (k - 1) 0)) := (hbw.cell hb).trans (hc (k - 1) (by omega))
          rw [if_neg k0] at ht
          have hp0 := hp (by omega)
          obtain ⟨q, hq⟩ : ∃ q, q = zs.getD (k - 1) 0 := ⟨_, rfl⟩
          rw [← hq] at hcp ht hp0
          have HT := Hid.mk ht
          have hk1 : 0 < k := by omega
          have hk1' : (0 : Int) < (k : Int) := by omega
          have hw : IntKind.i64.wrap ((k : Int) - 1) = ((k - 1 : Nat) : Int) := by rw [IntWalk.i64_in _ (by omega)]; omega
          have hkn : k - 1 < n := by omega
          clear hx ht hc hp hq k0
          by_cases c1 : x < 0
          · go_wp2
            go_ret
            exact ⟨by rw [HT.out, decide_eq_false (by omega : ¬ q < x)]; rfl, hbw⟩
          · by_cases c2 : C ≤ x
            · go_wp2
              go_ret
              exact ⟨by rw [HT.out, decide_eq_false (by omega : ¬ x < C)]; simp, hbw⟩
            · by_cases c3 : x ≤ q
              · go_wp2
                go_ret
                exact ⟨by rw [HT.out, decide_eq_false (by omega : ¬ q < x)]; rfl, hbw⟩
              · go_wp2
                go_roundw
                case rel => exact ⟨k + 1, by omega, by go_num, by rw [HT.out, if_neg (by omega), HX.out, decide_eq_true (by omega : q < x), decide_eq_true (by omega : x < C)]; rfl, fun _ => by rw [HX.out]; omega, hbw⟩
                case measure => simp [intOf]; omega
      · have HT := Hid.mk ht
        clear ht
        go_wp2
        go_ret
        exact ⟨by rw [HT.out, risB_done _ _ _ _ (by omega)]; rfl, hbw⟩

end Go.Proofs.Ytpnaoahlfhbbmaa

/- Contracts of tellingsOf and goodDepend. -/
namespace Go.Proofs.Ytpnaoahlfhbbmaa
open Go.RowKit

def flatT (l : List (Nat × Nat)) : List Value := l.flatMap fun d => [.int .u64 (d.1 : Int), .int .u64 (d.2 : Int)]
theorem flatT_len (l : List (Nat × Nat)) : (flatT l).length = l.length * 2 := by
  induction l with
  | nil => rfl
  | cons x l ih => simp only [flatT, List.flatMap_cons, List.length_append] at ih ⊢; rw [ih]; simp; omega
theorem flatT_push (l : List (Nat × Nat)) (x : Nat × Nat) : flatT (l ++ [x]) = flatT l ++ [.int .u64 (x.1 : Int), .int .u64 (x.2 : Int)] := by simp [flatT]
theorem flatT_at : ∀ (l : List (Nat × Nat)) (i : Nat) (x : Nat × Nat), l[i]? = some x → (flatT l)[i * 2]? = some (.int .u64 (x.1 : Int)) ∧ (flatT l)[i * 2 + 1]? = some (.int .u64 (x.2 : Int))
  | y :: l, 0, x, h => by
    simp at h
    subst h
    simp [flatT]
  | y :: l, i + 1, x, h => by
    have ih := flatT_at l i x (by simpa using h)
    have e : flatT (y :: l) = .int .u64 (y.1 : Int) :: .int .u64 (y.2 : Int) :: flatT l := rfl
    rw [e, show (i + 1) * 2 = i * 2 + 1 + 1 by omega]
    simpa using ih
theorem dms_take {xs : List Dep} {k : Nat} {x : Dep} (h : xs[k]? = some x) : (dms xs).take (k + 1) = (dms xs).take k ++ [dm x] := by
  obtain ⟨hk, rfl⟩ := List.getElem?_eq_some_iff.1 h
  rw [List.take_succ_eq_append_getElem (by simpa [dms] using hk)]
  simp [dms]
/-- Each number of each dependency is a column. -/
def Cols (xs : List Dep) : Prop := ∀ d ∈ xs, (∀ x ∈ d.1, 0 ≤ x ∧ x < 6) ∧ (∀ x ∈ d.2, 0 ≤ x ∧ x < 6)
theorem Cols.of {xs : List Dep} {C : Int} (h : goodDeps xs C = true) : Cols xs := by
  simp only [goodDeps, allDep, goodDep, Bool.and_eq_true, decide_eq_true_eq, List.all_eq_true] at h
  obtain ⟨_, h2, _, h4⟩ := h
  exact fun d hd => ⟨ris_in h2 (h4 d hd).1, ris_in h2 (h4 d hd).2⟩
theorem Cols.sets {xs : List Dep} (h : Cols xs) : Sets (dms xs) := by
  intro d hd
  obtain ⟨e, he, rfl⟩ := List.mem_map.1 hd
  exact ⟨mk_lt6 (h e he).1, mk_lt6 (h e he).2⟩

theorem goodDeps_one (C : Int) (d : Dep) : goodDeps [d] C = (decide (1 ≤ C) && (decide (C ≤ 6) && goodDep C d)) := by
  unfold goodDeps allDep
  simp

end Go.Proofs.Ytpnaoahlfhbbmaa

/- Contract of the model's l7Closure. -/
namespace Go.Proofs.Ytpnaoahlfhbbmaa
open Go.RowKit

theorem owns_void (w : World) (e : TypeId) (size : Nat) : (w.alloc (.cells #[] e)).ownsRow w.heap.size e size (.slice (some ⟨w.heap.size, 0, none⟩) 0 0) 0 [] :=
  ⟨by simp, .inr ⟨w.heap.size, 0, #[], rfl, Nat.le_refl _, heap_alloc_new w _, by simp, by simp, by simp, by simp⟩⟩

/-- A rising list of columns: it is told by its set. -/
structure Told (l : List Int) : Prop where
  intro ::
  is : bl (mk l) = l
  lt : mk l < 64
theorem Told.of {c : Int} {l : List Int} (hc : c ≤ 6) (h : ris c l = true) : Told l := ⟨bl_mk hc h, mk_lt hc h⟩
theorem Told.in {l : List Int} (h : Told l) : ∀ x ∈ l, 0 ≤ x ∧ x < 6 := fun x hx => bl_in (s := mk l) (by rw [h.is]; exact hx)
theorem Told.len {l : List Int} (h : Told l) : l.length ≤ 6 := by have := bl_len (mk l); rw [h.is] at this; exact this
def Tolds (xs : List Dep) : Prop := ∀ d ∈ xs, Told d.1 ∧ Told d.2
theorem Tolds.of {xs : List Dep} {C : Int} (h : goodDeps xs C = true) : Tolds xs := by
  simp only [goodDeps, allDep, goodDep, Bool.and_eq_true, decide_eq_true_eq, List.all_eq_true] at h
  obtain ⟨_, h2, _, h4⟩ := h
  exact fun d hd => ⟨Told.of h2 (h4 d hd).1, Told.of h2 (h4 d hd).2⟩
theorem mk_take_bl {s : Nat} {zs : List Int} {k : Nat} (hs : s < 64) (hz : ∀ x ∈ zs, 0 ≤ x ∧ x < 6) (hk : k < zs.length) : insI (bl (s ||| mk (zs.take k))) (zs.getD k 0) = bl (s ||| mk (zs.take (k + 1))) := by
  have hx : zs.getD k 0 ∈ zs := by simp [List.getD, hk]
  rw [insI_bl (or_lt64 hs (mk_lt6 fun y hy => hz y (List.mem_of_mem_take hy))) (hz _ hx).1 (hz _ hx).2, mk_take hk, Nat.or_assoc]

end Go.Proofs.Ytpnaoahlfhbbmaa

/- Contract of columnSet.others. -/
namespace Go.Proofs.Ytpnaoahlfhbbmaa
open Go.RowKit

/-- What of the first q columns is not in T. -/
def oth (q T : Nat) : Nat := (2 ^ q - 1) &&& (18446744073709551615 - T)
theorem others_any (T q : Nat) (w : World) (hT : T < 64) (hq : q ≤ 6) :
    Calls Try.prog 28 #[.int .u64 (T : Nat), .int .i64 (q : Nat)] w fun e w' => e = .returned (.int .u64 (oth q T : Nat)) ∧ w' = w := by
  have h2 : 2 ^ q ≤ 64 := by have : 2 ^ q ≤ 2 ^ 6 := Nat.pow_le_pow_right (by omega) hq; omega
  have h1 : 1 ≤ 2 ^ q := Nat.one_le_two_pow
  have e1 : IntKind.u64.wrap (2 ^ q) = ((2 ^ q : Nat) : Int) := by
    have := wrap64_small (n := 2 ^ q) (by omega)
    rw [← this]; congr 1
  have e2 : IntKind.u64.wrap (((2 ^ q : Nat) : Int) - 1) = ((2 ^ q - 1 : Nat) : Int) := by
    rw [show ((2 ^ q : Nat) : Int) - 1 = ((2 ^ q - 1 : Nat) : Int) by omega]; exact wrap64_small (by omega)
  have e3 := u64_andNot_nat (2 ^ q - 1) T (by omega) (by omega)
  have e4 : bits .andNot .u64 (IntKind.u64.wrap (IntKind.u64.wrap (2 ^ q) - 1)) (T : Int) = (oth q T : Int) := by rw [e1, e2, e3]; rfl
  have H4 := Hid.mk e4
  clear e1 e2 e3 e4
  go_enter Try.func28, Try.ntmps28
  go_wp2
  go_ret
  refine ⟨?_, rfl⟩
  rw [← H4.out]
  rfl


end Go.Proofs.Ytpnaoahlfhbbmaa

/- Plain: parts of columns that are good. -/
namespace Go.Proofs.Ytpnaoahlfhbbmaa
open Go.RowKit

/-- A list of columns that is not empty. -/
def prtOk (C : Int) (zs : List Int) : Bool := ris C zs && !decide (zs.length = 0)
def uni (zss : List (List Int)) : Nat := zss.foldl (fun s p => s ||| mk p) 0
def gpB (zss : List (List Int)) (C : Int) : Bool := (decide (1 ≤ C) && decide (C ≤ 6)) && ((decide (1 ≤ zss.length) && decide (zss.length ≤ 8)) && (zss.all (prtOk C) && decide (oth C.toNat (uni zss) = 0)))
theorem uni_take {zss : List (List Int)} {k : Nat} {zs : List Int} (h : zss[k]? = some zs) : uni (zss.take (k + 1)) = uni (zss.take k) ||| mk zs := by
  obtain ⟨hk, rfl⟩ := List.getElem?_eq_some_iff.1 h
  unfold uni
  rw [List.take_succ_eq_append_getElem hk, List.foldl_append]; rfl
theorem allPrt_drop {C : Int} {zss : List (List Int)} {k : Nat} {zs : List Int} (h : zss[k]? = some zs) : (zss.drop k).all (prtOk C) = (prtOk C zs && (zss.drop (k + 1)).all (prtOk C)) := by
  obtain ⟨hk, rfl⟩ := List.getElem?_eq_some_iff.1 h
  rw [List.drop_eq_getElem_cons hk, List.all_cons]
theorem insI_len (l : List Int) (x : Int) : (insI l x).length ≤ l.length + 1 := by
  unfold insI
  split
  · omega
  · simp only [List.length_append, List.length_cons, List.length_take, List.length_drop]; omega
theorem oth_full_all : ∀ q : Nat, q < 7 → ∀ s : Nat, s < 2 ^ q → s < 64 → decide ((bl s).length = q) = decide (oth q s = 0) := by decide +kernel
theorem mk_limQ {q : Nat} {l : List Int} (h : ris (q : Int) l = true) : mk l < 2 ^ q := by
  refine Nat.lt_pow_two_of_testBit _ fun i hi => ?_
  cases hb : (mk l).testBit i with
  | false => rfl
  | true =>
    have := ((risB_mem h).2 _ ((mk_bit l (ris_nonneg h) i).1 hb)).2
    omega
theorem tot_take {zss : List (List Int)} {k : Nat} {zs : List Int} (h : zss[k]? = some zs) : tot zss (k + 1) = tot zss k + zs.length := by
  obtain ⟨hk, rfl⟩ := List.getElem?_eq_some_iff.1 h
  rw [tot_succ zss k hk]
  simp [List.getD, hk]
theorem atS_row {w : World} {a : Option Addr} {zss : List (List Int)} (h : AtS w a zss) {k : Nat} {zs : List Int} (hk : zss[k]? = some zs) :
    ∃ b off a' c', a = some ⟨b, off, none⟩ ∧ w.cell? ⟨b, off + k, none⟩ = some (.slice a' zs.length c') ∧ zs.length ≤ 9223372036854775807 ∧ At w a' zs := by
  obtain ⟨hl, rfl⟩ := List.getElem?_eq_some_iff.1 hk
  rcases h with h | ⟨b, off, rfl, hc⟩
  · rw [h] at hl; simp at hl
  · obtain ⟨a', c', h1, h2, h3⟩ := hc k hl
    have e : zss.getD k [] = zss[k] := by simp [List.getD, hl]
    rw [e] at h1 h2 h3
    exact ⟨b, off, a', c', rfl, h1, h2, h3⟩

end Go.Proofs.Ytpnaoahlfhbbmaa

/- Contracts of GoodParts, the program's and the model's. -/
namespace Go.Proofs.Ytpnaoahlfhbbmaa
open Go.RowKit

set_option maxRecDepth 100000 in
set_option maxHeartbeats 4000000 in
theorem implGoodParts (a : Option Addr) (n c : Nat) (zss : List (List Int)) (C : Int) (w : World) (hz : zss.length = n) (hn : n ≤ 9223372036854775807) (ha : AtS w a zss) :
    Calls Try.prog 8 #[.slice a n c, .int .i64 C] w fun e w' => e = .returned (.bool (gpB zss C)) ∧ Below w.heap.size w w' := by
  have HZ := Hid.mk hz
  have HA := Hid.mk ha
  clear hz ha
  cases hs : (decide (1 ≤ C) && decide (C ≤ 6)) with
  | false =>
    have HG : Hid (gpB zss C = false) := by show _ = _; unfold gpB; rw [hs]; rfl
    go_enter Try.func8, Try.ntmps8
    go_wp2_with fail
    refine (someColumns_any C _).mono ?_
    rintro e w1 ⟨rfl, hw1⟩
    obtain rfl := hw1.symm
    rw [hs]
    go_wp2
    go_ret
    exact ⟨by rw [HG.out]; rfl, Below.refl _ _⟩
  | true =>
  have hs' : 1 ≤ C ∧ C ≤ 6 := by simpa using hs
  obtain ⟨q, hq⟩ : ∃ q : Nat, C = (q : Int) := ⟨C.toNat, by omega⟩
  have hq1 : 1 ≤ q := by omega
  have hq6 : q ≤ 6 := by omega
  by_cases c1 : n < 1
  · have c1' : (n : Int) < 1 := by omega
    have HG : Hid (gpB zss C = false) := by show _ = _; unfold gpB; rw [HZ.out, hs, decide_eq_false (by omega : ¬ 1 ≤ n)]; rfl
    clear hs' hq
    go_enter Try.func8, Try.ntmps8
    go_wp2_with fail
    refine (someColumns_any C _).mono ?_
    rintro e w1 ⟨rfl, hw1⟩
    obtain rfl := hw1.symm
    rw [hs]
    go_wp2
    go_ret
    exact ⟨by rw [HG.out]; rfl, Below.refl _ _⟩
  by_cases c2 : 8 < n
  · have c1' : ¬ (n : Int) < 1 := by omega
    have c2' : (8 : Int) < (n : Int) := by omega
    have HG : Hid (gpB zss C = false) := by show _ = _; unfold gpB; rw [HZ.out, hs, decide_eq_false (by omega : ¬ n ≤ 8)]; simp
    clear hs' hq
    go_enter Try.func8, Try.ntmps8
    go_wp2_with fail
    refine (someColumns_any C _).mono ?_
    rintro e w1 ⟨rfl, hw1⟩
    obtain rfl := hw1.symm
    rw [hs]
    go_wp2
    go_ret
    exact ⟨by rw [HG.out]; rfl, Below.refl _ _⟩
  have c1' : ¬ (n : Int) < 1 := by omega
  have c2' : ¬ (8 : Int) < (n : Int) := by omega
  have HG : Hid (gpB zss C = (zss.all (prtOk C) && decide (oth q (uni zss) = 0))) := by
    show _ = _; unfold gpB
    rw [HZ.out, hs, decide_eq_true (by omega : 1 ≤ n), decide_eq_true (by omega : n ≤ 8), show C.toNat = q by omega]; rfl
  have HRI : Hid (∀ (zs : List Int), ris C zs = true → mk zs < 64 ∧ ∀ x ∈ zs, 0 ≤ x ∧ x < 6) := fun zs h => ⟨mk_lt hs'.2 h, ris_in hs'.2 h⟩
  have HQ := Hid.mk hq
  clear hs' hq c1 c2
  go_enter Try.func8, Try.ntmps8
  go_wp2_with fail
  refine (someColumns_any C _).mono ?_
  rintro e w1 ⟨rfl, hw1⟩
  obtain rfl := hw1.symm
  rw [hs]
  clear hs
  go_wp2_with fail
  go_loopw [5, 23] (fun p i wx => ∃ (k S : Nat), k ≤ n ∧ i = .int .i64 k ∧ p = .int .u64 (S : Nat) ∧ S < 64 ∧ S = uni (zss.take k) ∧ zss.all (prtOk C) = (zss.drop k).all (prtOk C) ∧ Below w.heap.size w wx) (fun _ i _ => n - (intOf i).toNat)
  case atStart => exact ⟨0, 0, Nat.zero_le _, rfl, rfl, by omega, rfl, rfl, Below.refl _ _⟩
  case round =>
    obtain ⟨k, S, hk, rfl, rfl, hS, hSu, hall, hbw⟩ := hrel
    by_cases hlt : k < n
    · obtain ⟨zs, hzs⟩ : ∃ zs, zss[k]? = some zs := ⟨_, List.getElem?_eq_getElem (by have := HZ.out; omega)⟩
      obtain ⟨b, off, a', c', rfl, hcx, hm1, hax⟩ := atS_row (AtS.below HA.out hbw) hzs
      rw [allPrt_drop hzs] at hall
      have hun := uni_take hzs
      rw [← hSu] at hun
      obtain ⟨m, hm⟩ : ∃ m, zs.length = m := ⟨_, rfl⟩
      rw [hm] at hcx hm1
      have hki : (k : Int) < (n : Int) := by omega
      have HALL := Hid.mk hall
      have HUN := Hid.mk hun
      have HM := Hid.mk hm
      have HAX := Hid.mk hax
      have HB := Hid.mk hbw
      clear hall hun hm hax hbw hSu hzs
      by_cases h0 : m = 0
      · have HF : Hid (gpB zss C = false) := by show _ = _; rw [HG.out, HALL.out]; unfold prtOk; rw [HM.out, decide_eq_true h0]; simp
        have h0' : ((m : Int) == 0) = true := by rw [h0]; rfl
        clear h0
        go_wp2
        go_ret
        exact ⟨by rw [HF.out]; rfl, HB.out⟩
      · have h0' : ((m : Int) == 0) = false := beq_eq_false_iff_ne.2 (by omega)
        have K := Hid.mk (areRising_any a' m c' zs C wr HM.out hm1 HAX.out)
        have HP : Hid (prtOk C zs = ris C zs) := by show _ = _; unfold prtOk; rw [HM.out, decide_eq_false h0]; simp
        clear h0
        go_wp2_with fail
        refine K.out.mono ?_
        rintro e w2 ⟨rfl, hb2⟩
        have HB2 := Hid.mk (HB.out.trans (hb2.mono HB.out.size))
        have HAX2 := Hid.mk (At.below HAX.out hb2)
        clear hb2 K
        cases hr : ris C zs with
        | false =>
          have HF : Hid (gpB zss C = false) := by show _ = _; rw [HG.out, HALL.out, HP.out, hr]; rfl
          go_wp2
          go_ret
          exact ⟨by rw [HF.out]; rfl, HB2.out⟩
        | true =>
          have HA2 : Hid (zss.all (prtOk C) = (zss.drop (k + 1)).all (prtOk C)) := by show _ = _; rw [HALL.out, HP.out, hr]; rfl
          obtain ⟨hmk, hin⟩ := HRI.out zs hr
          have HIN := Hid.mk hin
          have hor := u64_or_nat S (mk zs) (by omega) (by omega)
          have hlt64 := or_lt64 hS hmk
          obtain ⟨M, hM⟩ : ∃ M, mk zs = M := ⟨_, rfl⟩
          have K2 := Hid.mk (setOf_any a' m c' zs w2 HM.out hm1 HIN.out HAX2.out)
          rw [hM] at hor hlt64 HUN K2
          obtain ⟨Q, hQ⟩ : ∃ Q, S ||| M = Q := ⟨_, rfl⟩
          rw [hQ] at hor hlt64 HUN
          clear hin hmk hM hQ
          go_wp2_with fail
          refine K2.out.mono ?_
          rintro e w3 ⟨rfl, hw3⟩
          obtain rfl := hw3.symm
          clear hw3
          go_wp2
          go_roundw
          case rel => exact ⟨k + 1, Q, by omega, by go_num, rfl, hlt64, HUN.out.symm, HA2.out, HB2.out⟩
          case measure => simp [intOf]; omega
    · obtain rfl : k = n := by omega
      have hki : ¬ (k : Int) < (k : Int) := by omega
      rw [List.take_of_length_le (by have := HZ.out; omega)] at hSu
      rw [List.drop_of_length_le (by have := HZ.out; omega)] at hall
      have HF : Hid (gpB zss C = decide (oth q S = 0)) := by show _ = _; rw [HG.out, hall, hSu]; rfl
      have K := Hid.mk (others_any S q wr hS hq6)
      obtain ⟨O, hO⟩ : ∃ O, oth q S = O := ⟨_, rfl⟩
      rw [hO] at HF K
      have HQ2 : Hid (C = (q : Int)) := HQ.out
      have K2 : Hid (Calls Try.prog 28 #[.int .u64 (S : Nat), .int .i64 C] wr fun e w' => e = .returned (.int .u64 (O : Nat)) ∧ w' = wr) := by
        show Calls _ _ _ _ _
        rw [HQ2.out]; exact K.out
      clear hSu hall hO K
      go_wp2_with fail
      refine K2.out.mono ?_
      rintro e w3 ⟨rfl, hw3⟩
      obtain rfl := hw3.symm
      clear hw3
      have HE : Hid (((O : Int) == 0) = decide (O = 0)) := by
        show _ = _
        by_cases e : O = 0
        · subst e; rfl
        · rw [decide_eq_false e]; exact beq_eq_false_iff_ne.2 (by omega)
      go_wp2
      go_ret
      exact ⟨by rw [HF.out, ← HE.out]; rfl, hbw⟩

set_option maxRecDepth 100000 in
set_option maxHeartbeats 4000000 in
theorem specGoodParts (a : Option Addr) (n c : Nat) (zss : List (List Int)) (C : Int) (w : World) (hz : zss.length = n) (hn : n ≤ 1048576) (ht : tot zss n ≤ 1048576) (ha : AtS w a zss) :
    Calls Try.prog 6 #[.slice a n c, .int .i64 C] w fun e w' => e = .returned (.bool (gpB zss C)) ∧ Below w.heap.size w w' := by
  have HZ := Hid.mk hz
  have HA := Hid.mk ha
  have HT := Hid.mk ht
  clear hz ha ht
  have HG : Hid (zss.all (prtOk C) = false → gpB zss C = false) := fun h => by unfold gpB; rw [h]; simp
  go_enter Try.func6, Try.ntmps6
  go_wp2_with fail
  go_loopw [5, 12] (fun p i wx => ∃ (k m : Nat) (r : Option Addr) (d : Nat) (L : List Int), k ≤ n ∧ i = .int .i64 k ∧ p = .slice r m d ∧ L.length = m ∧ m ≤ tot zss k ∧ wx.ownsRow w.heap.size 3 1 (.slice r m d) m (L.map (.int .i64)) ∧ (C ≤ 6 → L = bl (uni (zss.take k)) ∧ uni (zss.take k) < 64 ∧ (0 ≤ C → uni (zss.take k) < 2 ^ C.toNat)) ∧ zss.all (prtOk C) = (zss.drop k).all (prtOk C) ∧ Below w.heap.size w wx) (fun _ i _ => n - (intOf i).toNat)
  case atStart => exact ⟨0, 0, none, 0, [], Nat.zero_le _, rfl, rfl, rfl, Nat.zero_le _, World.ownsRow_nil _ _ _ _, fun _ => ⟨by show [] = bl 0; decide +kernel, by show (0 : Nat) < 64; omega, fun _ => Nat.two_pow_pos _⟩, rfl, Below.refl _ _⟩
  case round =>
    obtain ⟨k, m, r, d, L, hk, rfl, rfl, hm, hmt, hown, hL, hall, hbw⟩ := hrel
    by_cases hlt : k < n
    · obtain ⟨zs, hzs⟩ : ∃ zs, zss[k]? = some zs := ⟨_, List.getElem?_eq_getElem (by have := HZ.out; omega)⟩
      obtain ⟨b, off, a', c', rfl, hcx, hm1, hax⟩ := atS_row (AtS.below HA.out hbw) hzs
      rw [allPrt_drop hzs] at hall
      have hun := uni_take hzs
      have htk := tot_take hzs
      have htm := tot_mono zss (k + 1) n (by omega)
      have hTT := HT.out
      obtain ⟨mz, hmz⟩ : ∃ m, zs.length = m := ⟨_, rfl⟩
      rw [hmz] at hcx hm1 htk
      have hmz20 : mz ≤ 1048576 := by omega
      have hm20 : m + mz ≤ 1048576 := by omega
      have hki : (k : Int) < (n : Int) := by omega
      have HALL := Hid.mk hall
      have HUN := Hid.mk hun
      have HTK := Hid.mk htk
      have HMT := Hid.mk hmt
      have HM := Hid.mk hm
      have HMZ := Hid.mk hmz
      have HL := Hid.mk hL
      have HOW := Hid.mk hown
      have HB := Hid.mk hbw
      have K := Hid.mk (l1Some_any a' mz c' zs C wr hmz hm1 hax)
      have HAX := Hid.mk hax
      clear hall hun htk htm hmt hm hmz hL hown hbw hax hzs hTT
      go_wp2_with fail
      refine K.out.mono ?_
      rintro e w2 ⟨rfl, hb2⟩
      have HB2 := Hid.mk (HB.out.trans (hb2.mono HB.out.size))
      have HAX2 := Hid.mk (At.below HAX.out hb2)
      have HOW2 := Hid.mk (owns_below HOW.out hb2)
      clear hb2 K HOW HAX HB
      cases hr : ris C zs with
      | false =>
        have HF := Hid.mk (HG.out (by rw [HALL.out]; unfold prtOk; rw [hr]; rfl))
        go_wp2
        go_ret
        exact ⟨by rw [HF.out]; rfl, HB2.out⟩
      | true =>
        by_cases h0 : mz = 0
        · have HF := Hid.mk (HG.out (by rw [HALL.out]; unfold prtOk; rw [HMZ.out, decide_eq_true h0]; simp))
          have h0' : ((mz : Int) == 0) = true := by rw [h0]; rfl
          clear h0
          go_wp2
          go_ret
          exact ⟨by rw [HF.out]; rfl, HB2.out⟩
        · have h0' : ((mz : Int) == 0) = false := beq_eq_false_iff_ne.2 (by omega)
          have HA2 : Hid (zss.all (prtOk C) = (zss.drop (k + 1)).all (prtOk C)) := by show _ = _; rw [HALL.out]; unfold prtOk; rw [hr, HMZ.out, decide_eq_false h0]; rfl
          have HRI : Hid (C ≤ 6 → mk zs < 64 ∧ (∀ x ∈ zs, 0 ≤ x ∧ x < 6) ∧ (0 ≤ C → mk zs < 2 ^ C.toNat)) := fun h6 => ⟨mk_lt h6 hr, ris_in h6 hr, fun h0 => mk_limQ (by rw [Int.toNat_of_nonneg h0]; exact hr)⟩
          clear h0
          go_wp2_with fail
          go_loopw [5, 27] (fun p i wx => ∃ (j m' : Nat) (r' : Option Addr) (d' : Nat) (L' : List Int), j ≤ mz ∧ i = .int .i64 j ∧ p = .slice r' m' d' ∧ L'.length = m' ∧ m' ≤ m + j ∧ wx.ownsRow w.heap.size 3 1 (.slice r' m' d') m' (L'.map (.int .i64)) ∧ (C ≤ 6 → L' = bl (uni (zss.take k) ||| mk (zs.take j))) ∧ Below w.heap.size w wx ∧ Below w2.heap.size w2 wx) (fun _ i _ => mz - (intOf i).toNat)
          case atStart => exact ⟨0, m, r, d, L, Nat.zero_le _, rfl, rfl, HM.out, by omega, HOW2.out, fun h6 => by rw [(HL.out h6).1]; simp [mk], HB2.out, Below.refl _ _⟩
          case round =>
            obtain ⟨j, m', r', d', L', hj, rfl, rfl, hm', hmj, hown', hL', hbw', hbz'⟩ := hrel
            by_cases hjlt : j < mz
            · obtain ⟨b4, off4, rfl, hb4, hc4⟩ := (At.below HAX2.out hbz').some (by have := HMZ.out; omega)
              have hcy : wr.cell? ⟨b4, off4 + j, none⟩ = some (.int .i64 (zs.getD j 0)) := hc4 j (by have := HMZ.out; omega)
              have HINS : Hid (C ≤ 6 → insI L' (zs.getD j 0) = bl (uni (zss.take k) ||| mk (zs.take (j + 1)))) := fun h6 => by
                rw [hL' h6]
                exact mk_take_bl (HL.out h6).2.1 (HRI.out h6).2.1 (by have := HMZ.out; omega)
              obtain ⟨y, hy⟩ : ∃ y, y = zs.getD j 0 := ⟨_, rfl⟩
              rw [← hy] at hcy HINS
              have K3 := Hid.mk (l7Put_any w.heap.size r' m' d' L' y wr hm' (by omega) hbw'.size hown')
              have hil := insI_len L' y
              rw [hm'] at hil
              have hji : (j : Int) < (mz : Int) := by omega
              have HBW := Hid.mk hbw'
              have HBZ := Hid.mk hbz'
              obtain ⟨L2, hL2⟩ : ∃ L2, insI L' y = L2 := ⟨_, rfl⟩
              rw [hL2] at K3 HINS hil
              clear hc4 hy hm' hown' hL' hbw' hbz' hL2
              go_wp2_with fail
              refine K3.out.mono ?_
              rintro e w5 ⟨r5, m5, d5, rfl, hm5, ho5, hb5⟩
              have HM5 := Hid.mk hm5
              have HO5 := Hid.mk ho5
              have HB5 := Hid.mk (HBW.out.trans (hb5.mono HBW.out.size))
              have HZ5 := Hid.mk (HBZ.out.trans (hb5.mono HBZ.out.size))
              rw [hm5] at hil
              clear hm5 ho5 hb5 HBW HBZ K3
              go_wp2
              go_roundw
              case rel => exact ⟨j + 1, m5, r5, d5, L2, by omega, by go_num, rfl, HM5.out, by omega, HO5.out, HINS.out, HB5.out, HZ5.out⟩
              case measure => simp [intOf]; omega
            · obtain rfl : j = mz := by omega
              have hji : ¬ (j : Int) < (j : Int) := by omega
              have HL3 : Hid (C ≤ 6 → L' = bl (uni (zss.take (k + 1))) ∧ uni (zss.take (k + 1)) < 64 ∧ (0 ≤ C → uni (zss.take (k + 1)) < 2 ^ C.toNat)) := fun h6 => by
                have e9 : zs.take j = zs := List.take_of_length_le (by have := HMZ.out; omega)
                rw [hL' h6, e9, HUN.out]
                exact ⟨rfl, or_lt64 (HL.out h6).2.1 (HRI.out h6).1, fun h0 => Nat.or_lt_two_pow ((HL.out h6).2.2 h0) ((HRI.out h6).2.2 h0)⟩
              have HM' := Hid.mk hm'
              have HO' := Hid.mk hown'
              have HB' := Hid.mk hbw'
              clear hm' hown' hL' hbw' hbz'
              go_wp2
              go_roundw
              case rel => exact ⟨k + 1, m', r', d', L', by omega, by go_num, rfl, HM'.out, by have := HTK.out; have := HMT.out; omega, HO'.out, HL3.out, HA2.out, HB'.out⟩
              case measure => simp [intOf]; omega
    · obtain rfl : k = n := by omega
      have hki : ¬ (k : Int) < (k : Int) := by omega
      rw [List.take_of_length_le (by have := HZ.out; omega)] at hL
      rw [List.drop_of_length_le (by have := HZ.out; omega)] at hall
      have HALL : Hid (zss.all (prtOk C) = true) := hall
      have HL := Hid.mk hL
      have HM := Hid.mk hm
      clear hown hL hm hmt hall
      go_wp2_with fail
      refine (l1In_any C 1 6 wr).mono ?_
      rintro e w1 ⟨rfl, hw1⟩
      obtain rfl := hw1.symm
      clear hw1
      cases h1 : (decide (1 ≤ C) && decide (C ≤ 6)) with
      | false =>
        have HF : Hid (gpB zss C = false) := by show _ = _; unfold gpB; rw [h1]; rfl
        go_wp2
        go_ret
        exact ⟨by rw [HF.out]; rfl, hbw⟩
      | true =>
        have h1' : 1 ≤ C ∧ C ≤ 6 := by simpa using h1
        have HFB : Hid (gpB zss C = ((decide (1 ≤ k) && decide (k ≤ 8)) && decide (m = C.toNat))) := by
          show _ = _
          obtain ⟨l1, l2, l3⟩ := HL.out h1'.2
          have h9 := oth_full_all C.toNat (by omega) (uni zss) (l3 (by omega)) l2
          rw [← l1, HM.out] at h9
          unfold gpB; rw [h1, HZ.out, HALL.out, ← h9]; rfl
        have hCm : ((m : Int) == C) = decide (m = C.toNat) := by
          by_cases e : m = C.toNat
          · rw [decide_eq_true e]; exact beq_iff_eq.2 (by omega)
          · rw [decide_eq_false e]; exact beq_eq_false_iff_ne.2 (by omega)
        obtain ⟨bq, hbq⟩ : ∃ bq, decide (m = C.toNat) = bq := ⟨_, rfl⟩
        rw [hbq] at HFB hCm
        clear h1' h1 hbq
        have h8 : (decide (1 ≤ (k : Int)) && decide ((k : Int) ≤ 8)) = (decide (1 ≤ k) && decide (k ≤ 8)) := by congr 1 <;> exact decide_eq_decide.2 (by omega)
        go_wp2_with fail
        refine (l1In_any (k : Int) 1 8 wr).mono ?_
        rintro e w1 ⟨rfl, hw1⟩
        obtain rfl := hw1.symm
        clear hw1
        rw [h8]
        cases h2 : (decide (1 ≤ k) && decide (k ≤ 8)) with
        | false =>
          have HF : Hid (gpB zss C = false) := by show _ = _; rw [HFB.out, h2]; rfl
          clear h8
          go_wp2
          go_ret
          exact ⟨by rw [HF.out]; rfl, hbw⟩
        | true =>
          have HF : Hid (gpB zss C = bq) := by show _ = _; rw [HFB.out, h2]; rfl
          clear h8
          go_wp2
          go_ret
          exact ⟨by rw [HF.out]; rfl, hbw⟩

end Go.Proofs.Ytpnaoahlfhbbmaa
