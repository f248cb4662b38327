/- Several texts of one proof, in build order: SomeC, DepI, CloS, CloC, OthI, GpP, JpP. -/
import Derived.Test.YtpnaoahlfhbbmaaGreatM11
import Derived.Test.YtpnaoahlfhbbmaaGreatM16
import Derived.Test.YtpnaoahlfhbbmaaGreatM17
import Derived.Test.YtpnaoahlfhbbmaaGreatM15

/- Contracts of impl.goodColumns and impl.someColumns. -/
namespace Go.Proofs.YtpnaoahlfhbbmaaGreat
open Go.RowKit

theorem goodColumns_is (p : Int) (w : World) :
    Calls Tryz.prog 60 #[.int .i64 p] w fun e w' => e = .returned (.bool (decide (0 ≤ p) && decide (p ≤ 6))) ∧ w' = w := by
  by_cases h1 : 0 ≤ p
  · go_enter Tryz.func60, Tryz.ntmps60
    go_wp2
    go_ret
    exact ⟨by rw [decide_eq_true h1]; rfl, rfl⟩
  · go_enter Tryz.func60, Tryz.ntmps60
    go_wp2
    go_ret
    exact ⟨by rw [decide_eq_false (show ¬ 0 ≤ p by omega)]; rfl, rfl⟩
theorem someColumns_any (p : Int) (w : World) :
    Calls Tryz.prog 46 #[.int .i64 p] w fun e w' => e = .returned (.bool (decide (1 ≤ p) && decide (p ≤ 6))) ∧ w' = w := by
  by_cases h1 : 0 < p
  · go_enter Tryz.func46, Tryz.ntmps46
    go_wp2_with fail
    refine (goodColumns_is p _).mono ?_
    rintro e w1 ⟨rfl, rfl⟩
    rw [decide_eq_true (show 0 ≤ p by omega), Bool.true_and]
    go_wp2
    go_ret
    exact ⟨by rw [decide_eq_true (show 1 ≤ p by omega)]; rfl, rfl⟩
  · go_enter Tryz.func46, Tryz.ntmps46
    go_wp2
    go_ret
    exact ⟨by rw [decide_eq_false (show ¬ 1 ≤ p by omega)]; rfl, rfl⟩

end Go.Proofs.YtpnaoahlfhbbmaaGreat

/- Contracts of areRising and GoodDepends, the program's and the model's. -/
namespace Go.Proofs.YtpnaoahlfhbbmaaGreat
open Go.RowKit

set_option maxHeartbeats 1000000 in
theorem areRising_any (a : Option Addr) (n c : Nat) (zs : List Int) (C : Int) (w : World) (hz : zs.length = n) (hn : n ≤ 9223372036854775807) (ha : At w a zs) :
    Calls Tryz.prog 47 #[.slice a n c, .int .i64 C] w fun e w' => e = .returned (.bool (ris C zs)) ∧ Below w.heap.size w w' := by
  by_cases h0 : n = 0
  · subst h0
    obtain rfl := List.eq_nil_of_length_eq_zero hz
    go_enter Tryz.func47, Tryz.ntmps47
    go_wp2
    refine wp_loop_rounds 1 ?_
    rw [rounds_succ]
    go_wp2
    go_ret
    exact ⟨rfl, Below.refl _ _⟩
  · obtain ⟨b, off, rfl, hb, hc⟩ := ha.some (by omega)
    clear ha
    go_enter Tryz.func47, Tryz.ntmps47
    go_wp2
    go_loopw [5, 10] (fun p i wr => ∃ (k : Nat) (q : Int), k ≤ n ∧ i = .int .i64 k ∧ p = .int .i64 q ∧ ris C zs = risB C q (zs.drop k) ∧ Below w.heap.size w wr) (fun _ i _ => n - (intOf i).toNat)
    case atStart => exact ⟨0, -1, Nat.zero_le _, rfl, rfl, rfl, Below.refl _ _⟩
    case round =>
      obtain ⟨k, q, hk, rfl, rfl, ht, hbw⟩ := hrel
      by_cases hlt : k < n
      · have hcx : wr.cell? ⟨b, off + k, none⟩ = some (.int .i64 (zs.getD k 0)) := (hbw.cell hb).trans (hc k (by omega))
        rw [risB_step _ _ _ _ (by omega)] at ht
        obtain ⟨x, hx⟩ : ∃ x, x = zs.getD k 0 := ⟨_, rfl⟩
        rw [← hx] at hcx ht
        have HT := Hid.mk ht
        clear hx ht hc
        by_cases c1 : x ≤ q
        · go_wp2
          go_ret
          exact ⟨by rw [HT.out, decide_eq_false (by omega : ¬ q < x)]; rfl, hbw⟩
        · by_cases c2 : C ≤ x
          · go_wp2
            go_ret
            exact ⟨by rw [HT.out, decide_eq_false (by omega : ¬ x < C)]; simp, hbw⟩
          · go_wp2
            go_roundw
            case rel => exact ⟨k + 1, x, by omega, by go_num, rfl, by rw [HT.out, decide_eq_true (by omega : q < x), decide_eq_true (by omega : x < C)]; rfl, hbw⟩
            case measure => simp [intOf]; omega
      · have HT := Hid.mk ht
        clear ht
        go_wp2
        go_ret
        exact ⟨by rw [HT.out, risB_done _ _ _ _ (by omega)]; rfl, hbw⟩

set_option maxHeartbeats 2000000 in
theorem l1Some_any (a : Option Addr) (n c : Nat) (zs : List Int) (C : Int) (w : World) (hz : zs.length = n) (hn : n ≤ 9223372036854775807) (ha : At w a zs) :
    Calls Tryz.prog 38 #[.slice a n c, .int .i64 C] w fun e w' => e = .returned (.bool (ris C zs)) ∧ Below w.heap.size w w' := by
  by_cases h0 : n = 0
  · subst h0
    obtain rfl := List.eq_nil_of_length_eq_zero hz
    go_enter Tryz.func38, Tryz.ntmps38
    go_wp2
    refine wp_loop_rounds 1 ?_
    rw [rounds_succ]
    go_wp2
    go_ret
    exact ⟨rfl, Below.refl _ _⟩
  · obtain ⟨b, off, rfl, hb, hc⟩ := ha.some (by omega)
    clear ha
    go_enter Tryz.func38, Tryz.ntmps38
    go_wp2
    go_loopw [9] (fun i wr => ∃ (k : Nat), k ≤ n ∧ i = .int .i64 k ∧ ris C zs = risB C (if k = 0 then -1 else zs.getD (k - 1) 0) (zs.drop k) ∧ (0 < k → 0 ≤ zs.getD (k - 1) 0) ∧ Below w.heap.size w wr) (fun i _ => n - (intOf i).toNat)
    case atStart => exact ⟨0, Nat.zero_le _, rfl, rfl, fun h => absurd h (by omega), Below.refl _ _⟩
    case round =>
      obtain ⟨k, hk, rfl, ht, hp, hbw⟩ := hrel
      by_cases hlt : k < n
      · have hcx : wr.cell? ⟨b, off + k, none⟩ = some (.int .i64 (zs.getD k 0)) := (hbw.cell hb).trans (hc k (by omega))
        rw [risB_step _ _ _ _ (by omega)] at ht
        obtain ⟨x, hx⟩ : ∃ x, x = zs.getD k 0 := ⟨_, rfl⟩
        have HX : Hid (zs.getD (k + 1 - 1) 0 = x) := by show _ = _; rw [Nat.add_sub_cancel, hx]
        rw [← hx] at hcx ht
        by_cases k0 : k = 0
        · rw [if_pos k0] at ht
          have HT := Hid.mk ht
          have HK := Hid.mk k0
          have hk0 : decide (0 < k) = false := decide_eq_false (by omega)
          have hk0' : ¬ (0 : Int) < (k : Int) := by omega
          clear hx ht hc hp k0
          by_cases c1 : x < 0
          · go_wp2
            go_ret
            exact ⟨by rw [HT.out, decide_eq_false (by omega : ¬ (-1 : Int) < x)]; rfl, hbw⟩
          · by_cases c2 : C ≤ x
            · go_wp2
              go_ret
              exact ⟨by rw [HT.out, decide_eq_false (by omega : ¬ x < C)]; simp, hbw⟩
            · go_wp2
              go_roundw
              case rel => exact ⟨k + 1, by omega, by go_num, by rw [HT.out, if_neg (by omega), HX.out, decide_eq_true (by omega : (-1 : Int) < x), decide_eq_true (by omega : x < C)]; rfl, fun _ => by rw [HX.out]; omega, hbw⟩
              case measure => simp [intOf]; omega
        · have hcp : wr.cell? ⟨b, off + (k - 1), none⟩ = some (.int .i64 (zs.getD (k - 1) 0)) := (hbw.cell hb).trans (hc (k - 1) (by omega))
          rw [if_neg k0] at ht
          have hp0 := hp (by omega)
          obtain ⟨q, hq⟩ : ∃ q, q = zs.getD (k - 1) 0 := ⟨_, rfl⟩
          rw [← hq] at hcp ht hp0
          have HT := Hid.mk ht
          have hk1 : 0 < k := by omega
          have hk1' : (0 : Int) < (k : Int) := by omega
          have hw : IntKind.i64.wrap ((k : Int) - 1) = ((k - 1 : Nat) : Int) := by rw [IntWalk.i64_in _ (by omega)]; omega
          have hkn : k - 1 < n := by omega
          clear hx ht hc hp hq k0
          by_cases c1 : x < 0
          · go_wp2
            go_ret
            exact ⟨by rw [HT.out, decide_eq_false (by omega : ¬ q < x)]; rfl, hbw⟩
          · by_cases c2 : C ≤ x
            · go_wp2
              go_ret
              exact ⟨by rw [HT.out, decide_eq_false (by omega : ¬ x < C)]; simp, hbw⟩
            · by_cases c3 : x ≤ q
              · go_wp2
                go_ret
                exact ⟨by rw [HT.out, decide_eq_false (by omega : ¬ q < x)]; rfl, hbw⟩
              · go_wp2
                go_roundw
                case rel => exact ⟨k + 1, by omega, by go_num, by rw [HT.out, if_neg (by omega), HX.out, decide_eq_true (by omega : q < x), decide_eq_true (by omega : x < C)]; rfl, fun _ => by rw [HX.out]; omega, hbw⟩
                case measure => simp [intOf]; omega
      · have HT := Hid.mk ht
        clear ht
        go_wp2
        go_ret
        exact ⟨by rw [HT.out, risB_done _ _ _ _ (by omega)]; rfl, hbw⟩

end Go.Proofs.YtpnaoahlfhbbmaaGreat

/- Contracts of tellingsOf and goodDepend. -/
namespace Go.Proofs.YtpnaoahlfhbbmaaGreat
open Go.RowKit

def flatT (l : List (Nat × Nat)) : List Value := l.flatMap fun d => [.int .u64 (d.1 : Int), .int .u64 (d.2 : Int)]
theorem flatT_len (l : List (Nat × Nat)) : (flatT l).length = l.length * 2 := by
  induction l with
  | nil => rfl
  | cons x l ih => simp only [flatT, List.flatMap_cons, List.length_append] at ih ⊢; rw [ih]; simp; omega
theorem flatT_push (l : List (Nat × Nat)) (x : Nat × Nat) : flatT (l ++ [x]) = flatT l ++ [.int .u64 (x.1 : Int), .int .u64 (x.2 : Int)] := by simp [flatT]
theorem flatT_at : ∀ (l : List (Nat × Nat)) (i : Nat) (x : Nat × Nat), l[i]? = some x → (flatT l)[i * 2]? = some (.int .u64 (x.1 : Int)) ∧ (flatT l)[i * 2 + 1]? = some (.int .u64 (x.2 : Int))
  | y :: l, 0, x, h => by
    simp at h
    subst h
    simp [flatT]
  | y :: l, i + 1, x, h => by
    have ih := flatT_at l i x (by simpa using h)
    have e : flatT (y :: l) = .int .u64 (y.1 : Int) :: .int .u64 (y.2 : Int) :: flatT l := rfl
    rw [e, show (i + 1) * 2 = i * 2 + 1 + 1 by omega]
    simpa using ih
theorem dms_take {xs : List Dep} {k : Nat} {x : Dep} (h : xs[k]? = some x) : (dms xs).take (k + 1) = (dms xs).take k ++ [dm x] := by
  obtain ⟨hk, rfl⟩ := List.getElem?_eq_some_iff.1 h
  rw [List.take_succ_eq_append_getElem (by simpa [dms] using hk)]
  simp [dms]
/-- Each number of each dependency is a column. -/
def Cols (xs : List Dep) : Prop := ∀ d ∈ xs, (∀ x ∈ d.1, 0 ≤ x ∧ x < 6) ∧ (∀ x ∈ d.2, 0 ≤ x ∧ x < 6)
theorem Cols.of {xs : List Dep} {C : Int} (h : goodDeps xs C = true) : Cols xs := by
  simp only [goodDeps, allDep, goodDep, Bool.and_eq_true, decide_eq_true_eq, List.all_eq_true] at h
  obtain ⟨_, h2, _, h4⟩ := h
  exact fun d hd => ⟨ris_in h2 (h4 d hd).1, ris_in h2 (h4 d hd).2⟩
theorem Cols.sets {xs : List Dep} (h : Cols xs) : Sets (dms xs) := by
  intro d hd
  obtain ⟨e, he, rfl⟩ := List.mem_map.1 hd
  exact ⟨mk_lt6 (h e he).1, mk_lt6 (h e he).2⟩

theorem goodDeps_one (C : Int) (d : Dep) : goodDeps [d] C = (decide (1 ≤ C) && (decide (C ≤ 6) && goodDep C d)) := by
  unfold goodDeps allDep
  simp

end Go.Proofs.YtpnaoahlfhbbmaaGreat

/- Contract of the model's l7Closure. -/
namespace Go.Proofs.YtpnaoahlfhbbmaaGreat
open Go.RowKit

theorem owns_void (w : World) (e : TypeId) (size : Nat) : (w.alloc (.cells #[] e)).ownsRow w.heap.size e size (.slice (some ⟨w.heap.size, 0, none⟩) 0 0) 0 [] :=
  ⟨by simp, .inr ⟨w.heap.size, 0, #[], rfl, Nat.le_refl _, heap_alloc_new w _, by simp, by simp, by simp, by simp⟩⟩

/-- A rising list of columns: it is told by its set. -/
structure Told (l : List Int) : Prop where
  intro ::
  is : bl (mk l) = l
  lt : mk l < 64
theorem Told.of {c : Int} {l : List Int} (hc : c ≤ 6) (h : ris c l = true) : Told l := ⟨bl_mk hc h, mk_lt hc h⟩
theorem Told.in {l : List Int} (h : Told l) : ∀ x ∈ l, 0 ≤ x ∧ x < 6 := fun x hx => bl_in (s := mk l) (by rw [h.is]; exact hx)
theorem Told.len {l : List Int} (h : Told l) : l.length ≤ 6 := by have := bl_len (mk l); rw [h.is] at this; exact this
def Tolds (xs : List Dep) : Prop := ∀ d ∈ xs, Told d.1 ∧ Told d.2
theorem Tolds.of {xs : List Dep} {C : Int} (h : goodDeps xs C = true) : Tolds xs := by
  simp only [goodDeps, allDep, goodDep, Bool.and_eq_true, decide_eq_true_eq, List.all_eq_true] at h
  obtain ⟨_, h2, _, h4⟩ := h
  exact fun d hd => ⟨Told.of h2 (h4 d hd).1, Told.of h2 (h4 d hd).2⟩
theorem mk_take_bl {s : Nat} {zs : List Int} {k : Nat} (hs : s < 64) (hz : ∀ x ∈ zs, 0 ≤ x ∧ x < 6) (hk : k < zs.length) : insI (bl (s ||| mk (zs.take k))) (zs.getD k 0) = bl (s ||| mk (zs.take (k + 1))) := by
  have hx : zs.getD k 0 ∈ zs := by simp [List.getD, hk]
  rw [insI_bl (or_lt64 hs (mk_lt6 fun y hy => hz y (List.mem_of_mem_take hy))) (hz _ hx).1 (hz _ hx).2, mk_take hk, Nat.or_assoc]

end Go.Proofs.YtpnaoahlfhbbmaaGreat

/- Contract of columnSet.others. -/
namespace Go.Proofs.YtpnaoahlfhbbmaaGreat
open Go.RowKit

/-- What of the first q columns is not in T. -/
def oth (q T : Nat) : Nat := (2 ^ q - 1) &&& (18446744073709551615 - T)
theorem others_any (T q : Nat) (w : World) (hT : T < 64) (hq : q ≤ 6) :
    Calls Tryz.prog 49 #[.int .u64 (T : Nat), .int .i64 (q : Nat)] w fun e w' => e = .returned (.int .u64 (oth q T : Nat)) ∧ w' = w := by
  have h2 : 2 ^ q ≤ 64 := by have : 2 ^ q ≤ 2 ^ 6 := Nat.pow_le_pow_right (by omega) hq; omega
  have h1 : 1 ≤ 2 ^ q := Nat.one_le_two_pow
  have e1 : IntKind.u64.wrap (2 ^ q) = ((2 ^ q : Nat) : Int) := by
    have := wrap64_small (n := 2 ^ q) (by omega)
    rw [← this]; congr 1
  have e2 : IntKind.u64.wrap (((2 ^ q : Nat) : Int) - 1) = ((2 ^ q - 1 : Nat) : Int) := by
    rw [show ((2 ^ q : Nat) : Int) - 1 = ((2 ^ q - 1 : Nat) : Int) by omega]; exact wrap64_small (by omega)
  have e3 := u64_andNot_nat (2 ^ q - 1) T (by omega) (by omega)
  have e4 : bits .andNot .u64 (IntKind.u64.wrap (IntKind.u64.wrap (2 ^ q) - 1)) (T : Int) = (oth q T : Int) := by rw [e1, e2, e3]; rfl
  have H4 := Hid.mk e4
  clear e1 e2 e3 e4
  go_enter Tryz.func49, Tryz.ntmps49
  go_wp2
  go_ret
  refine ⟨?_, rfl⟩
  rw [← H4.out]
  rfl


end Go.Proofs.YtpnaoahlfhbbmaaGreat

/- Plain: parts of columns that are good. -/
namespace Go.Proofs.YtpnaoahlfhbbmaaGreat
open Go.RowKit

/-- A list of columns that is not empty. -/
def prtOk (C : Int) (zs : List Int) : Bool := ris C zs && !decide (zs.length = 0)
def uni (zss : List (List Int)) : Nat := zss.foldl (fun s p => s ||| mk p) 0
def gpB (zss : List (List Int)) (C : Int) : Bool := (decide (1 ≤ C) && decide (C ≤ 6)) && ((decide (1 ≤ zss.length) && decide (zss.length ≤ 8)) && (zss.all (prtOk C) && decide (oth C.toNat (uni zss) = 0)))
theorem uni_take {zss : List (List Int)} {k : Nat} {zs : List Int} (h : zss[k]? = some zs) : uni (zss.take (k + 1)) = uni (zss.take k) ||| mk zs := by
  obtain ⟨hk, rfl⟩ := List.getElem?_eq_some_iff.1 h
  unfold uni
  rw [List.take_succ_eq_append_getElem hk, List.foldl_append]; rfl
theorem allPrt_drop {C : Int} {zss : List (List Int)} {k : Nat} {zs : List Int} (h : zss[k]? = some zs) : (zss.drop k).all (prtOk C) = (prtOk C zs && (zss.drop (k + 1)).all (prtOk C)) := by
  obtain ⟨hk, rfl⟩ := List.getElem?_eq_some_iff.1 h
  rw [List.drop_eq_getElem_cons hk, List.all_cons]
theorem insI_len (l : List Int) (x : Int) : (insI l x).length ≤ l.length + 1 := by
  unfold insI
  split
  · omega
  · simp only [List.length_append, List.length_cons, List.length_take, List.length_drop]; omega
theorem oth_full_all : ∀ q : Nat, q < 7 → ∀ s : Nat, s < 2 ^ q → s < 64 → decide ((bl s).length = q) = decide (oth q s = 0) := by decide +kernel
theorem mk_limQ {q : Nat} {l : List Int} (h : ris (q : Int) l = true) : mk l < 2 ^ q := by
  refine Nat.lt_pow_two_of_testBit _ fun i hi => ?_
  cases hb : (mk l).testBit i with
  | false => rfl
  | true =>
    have := ((risB_mem h).2 _ ((mk_bit l (ris_nonneg h) i).1 hb)).2
    omega
theorem tot_take {zss : List (List Int)} {k : Nat} {zs : List Int} (h : zss[k]? = some zs) : tot zss (k + 1) = tot zss k + zs.length := by
  obtain ⟨hk, rfl⟩ := List.getElem?_eq_some_iff.1 h
  rw [tot_succ zss k hk]
  simp [List.getD, hk]
theorem atS_row {w : World} {a : Option Addr} {zss : List (List Int)} (h : AtS w a zss) {k : Nat} {zs : List Int} (hk : zss[k]? = some zs) :
    ∃ b off a' c', a = some ⟨b, off, none⟩ ∧ w.cell? ⟨b, off + k, none⟩ = some (.slice a' zs.length c') ∧ zs.length ≤ 9223372036854775807 ∧ At w a' zs := by
  obtain ⟨hl, rfl⟩ := List.getElem?_eq_some_iff.1 hk
  rcases h with h | ⟨b, off, rfl, hc⟩
  · rw [h] at hl; simp at hl
  · obtain ⟨a', c', h1, h2, h3⟩ := hc k hl
    have e : zss.getD k [] = zss[k] := by simp [List.getD, hl]
    rw [e] at h1 h2 h3
    exact ⟨b, off, a', c', rfl, h1, h2, h3⟩

end Go.Proofs.YtpnaoahlfhbbmaaGreat

/- Plain: rows told by columns in whatever order, and rows of all columns with what was not told. -/
namespace Go.Proofs.YtpnaoahlfhbbmaaGreat
open Go.RowKit

/-- The first place of a number. -/
def ix (k : Int) : List Int → Nat
  | [] => 0
  | c :: cs => if c = k then 0 else ix k cs + 1
theorem ix_lt {k : Int} : ∀ {l : List Int}, k ∈ l → ix k l < l.length
  | c :: cs, h => by
    unfold ix
    by_cases e : c = k
    · rw [if_pos e]; simp
    · rw [if_neg e]
      have : k ∈ cs := by simp only [List.mem_cons] at h; rcases h with h | h; exact absurd h.symm e; exact h
      have := ix_lt this
      simp only [List.length_cons]; omega
theorem ix_get {k : Int} : ∀ {l : List Int}, k ∈ l → l.getD (ix k l) 0 = k
  | c :: cs, h => by
    unfold ix
    by_cases e : c = k
    · rw [if_pos e, ← e]; rfl
    · rw [if_neg e]
      have h1 : k ∈ cs := by simp only [List.mem_cons] at h; rcases h with h | h; exact absurd h.symm e; exact h
      have := ix_get h1
      rw [List.getD_cons_succ]; exact this
theorem ix_uniq : ∀ {l : List Int}, l.Nodup → ∀ {i : Nat}, i < l.length → ix (l.getD i 0) l = i
  | c :: cs, h, 0, _ => by unfold ix; rw [List.getD_cons_zero, if_pos rfl]
  | c :: cs, h, i + 1, hi => by
    obtain ⟨h1, h2⟩ := List.nodup_cons.1 h
    have hi' : i < cs.length := by simpa using hi
    have hm : cs.getD i 0 ∈ cs := by simp [List.getD, hi']
    unfold ix
    rw [List.getD_cons_succ, if_neg (fun e => h1 (by rw [e]; exact hm)), ix_uniq h2 hi']
theorem ix_app_left {k : Int} {l : List Int} (m : List Int) (h : k ∈ l) : ix k (l ++ m) = ix k l := by
  induction l with
  | nil => cases h
  | cons c cs ih =>
    show (if c = k then 0 else ix k (cs ++ m) + 1) = if c = k then 0 else ix k cs + 1
    by_cases e : c = k
    · rw [if_pos e, if_pos e]
    · rw [if_neg e, if_neg e, ih (by simp only [List.mem_cons] at h; rcases h with h | h; exact absurd h.symm e; exact h)]
theorem ix_app_right {k : Int} {l : List Int} (m : List Int) (h : ¬ k ∈ l) : ix k (l ++ m) = l.length + ix k m := by
  induction l with
  | nil => simp
  | cons c cs ih =>
    simp only [List.mem_cons, not_or] at h
    show (if c = k then 0 else ix k (cs ++ m) + 1) = _
    rw [if_neg (fun e => h.1 e.symm), ih h.2, List.length_cons]; omega

abbrev miss : Int := 100001
/-- A row over cols, as a row of all columns. -/
def phi (C : Nat) (cols r : List Int) : List Int := (List.range C).map fun (c : Nat) => if (c : Int) ∈ cols then r.getD (ix (c : Int) cols) 0 else miss
theorem phi_len (C : Nat) (cols r : List Int) : (phi C cols r).length = C := by simp [phi]
theorem phi_at {C c : Nat} (cols r : List Int) (h : c < C) : (phi C cols r).getD c 0 = if (c : Int) ∈ cols then r.getD (ix (c : Int) cols) 0 else miss := by
  simp [phi, List.getD, h]
/-- Columns below C, each once. -/
def Cls (C : Nat) (cols : List Int) : Prop := cols.Nodup ∧ ∀ k ∈ cols, 0 ≤ k ∧ k < (C : Int)
theorem list_ext {xs ys : List Int} (hl : xs.length = ys.length) (h : ∀ i, i < xs.length → xs.getD i 0 = ys.getD i 0) : xs = ys := by
  apply List.ext_getElem hl
  intro i h1 h2
  have := h i h1
  simpa [List.getD, h1, h2] using this
theorem phi_inj {C : Nat} {cols r r' : List Int} (hc : Cls C cols) (h1 : r.length = cols.length) (h2 : r'.length = cols.length) (h : phi C cols r = phi C cols r') : r = r' := by
  refine list_ext (by omega) fun i hi => ?_
  have hi' : i < cols.length := by omega
  have hm : cols.getD i 0 ∈ cols := by simp [List.getD, hi']
  obtain ⟨k1, k2⟩ := hc.2 _ hm
  have e : (phi C cols r).getD (cols.getD i 0).toNat 0 = (phi C cols r').getD (cols.getD i 0).toNat 0 := by rw [h]
  rw [phi_at _ _ (by omega), phi_at _ _ (by omega), show (((cols.getD i 0).toNat : Nat) : Int) = cols.getD i 0 by omega, if_pos hm, if_pos hm, ix_uniq hc.1 hi'] at e
  exact e

/-- What of a part is new; the pairs of what was told. -/
def newC (cols part : List Int) : List Int := part.filter fun k => !decide (k ∈ cols)
def oldJ (cols part : List Int) (t : Nat) : List Nat := (List.range t).filter fun j => decide (part.getD j 0 ∈ cols)
def newJ (cols part : List Int) (t : Nat) : List Nat := (List.range t).filter fun j => !decide (part.getD j 0 ∈ cols)
def prsT (cols part : List Int) (t : Nat) : List (List Int) := (oldJ cols part t).map fun j => [(ix (part.getD j 0) cols : Int), (j : Int)]
def prs (cols part : List Int) : List (List Int) := prsT cols part part.length
theorem newC_J (cols part : List Int) : newC cols part = (newJ cols part part.length).map fun j => part.getD j 0 := by
  unfold newC newJ
  have e : part = (List.range part.length).map fun j => part.getD j 0 := by
    apply List.ext_getElem (by simp)
    intro i h1 h2
    simp [List.getD, h1]
  conv => lhs; rw [e]
  rw [List.filter_map]; rfl
theorem newC_take {cols part : List Int} {t : Nat} (h : t < part.length) : newC cols (part.take (t + 1)) = if part.getD t 0 ∈ cols then newC cols (part.take t) else newC cols (part.take t) ++ [part.getD t 0] := by
  unfold newC
  rw [List.take_succ_eq_append_getElem h, List.filter_append]
  have e : part.getD t 0 = part[t] := by simp [List.getD, h]
  rw [e]
  by_cases hm : part[t] ∈ cols
  · rw [if_pos hm]; simp [hm]
  · rw [if_neg hm]; simp [hm]
theorem prsT_succ {cols part : List Int} {t : Nat} : prsT cols part (t + 1) = if part.getD t 0 ∈ cols then prsT cols part t ++ [[(ix (part.getD t 0) cols : Int), (t : Int)]] else prsT cols part t := by
  unfold prsT oldJ
  rw [List.range_succ, List.filter_append, List.map_append]
  simp only [List.filter_cons, List.filter_nil]
  by_cases hm : part.getD t 0 ∈ cols
  · rw [if_pos hm, decide_eq_true hm]; rfl
  · rw [if_neg hm, decide_eq_false hm]; simp
theorem mem_oldJ {cols part : List Int} {t j : Nat} : j ∈ oldJ cols part t ↔ j < t ∧ part.getD j 0 ∈ cols := by unfold oldJ; rw [List.mem_filter, List.mem_range, decide_eq_true_eq]
theorem mem_newJ {cols part : List Int} {t j : Nat} : j ∈ newJ cols part t ↔ j < t ∧ ¬ part.getD j 0 ∈ cols := by unfold newJ; rw [List.mem_filter, List.mem_range]; simp
theorem side0 (cols part : List Int) : side (prs cols part) 0 = (oldJ cols part part.length).map fun j => (ix (part.getD j 0) cols : Int) := by unfold side prs prsT; rw [List.map_map]; rfl
theorem side1 (cols part : List Int) : side (prs cols part) 1 = (oldJ cols part part.length).map fun (j : Nat) => (j : Int) := by unfold side prs prsT; rw [List.map_map]; rfl
theorem rest_J {cols part x : List Int} (hx : x.length = part.length) : restTo x (side (prs cols part) 1) x.length = (newJ cols part part.length).map fun j => x.getD j 0 := by
  unfold restTo newJ
  rw [hx]
  congr 1
  apply List.filter_congr
  intro j hj
  have hj' := List.mem_range.1 hj
  rw [side1]
  by_cases hm : part.getD j 0 ∈ cols
  · rw [decide_eq_true hm]
    have : ((oldJ cols part part.length).map fun (j : Nat) => (j : Int)).contains (j : Int) = true := by
      rw [List.contains_iff_mem]
      exact List.mem_map.2 ⟨j, mem_oldJ.2 ⟨hj', hm⟩, rfl⟩
    rw [this]
  · rw [decide_eq_false hm]
    have : ((oldJ cols part part.length).map fun (j : Nat) => (j : Int)).contains (j : Int) = false := by
      cases hb : ((oldJ cols part part.length).map fun (j : Nat) => (j : Int)).contains (j : Int) with
      | false => rfl
      | true =>
        rw [List.contains_iff_mem] at hb
        obtain ⟨i, hi, e⟩ := List.mem_map.1 hb
        obtain rfl : i = j := by omega
        exact absurd (mem_oldJ.1 hi).2 hm
    rw [this]
/-- Both say the same of what was told. -/
def agree (cols part r x : List Int) : Prop := ∀ j, j < part.length → part.getD j 0 ∈ cols → r.getD (ix (part.getD j 0) cols) 0 = x.getD j 0
theorem pick_agree (cols part r x : List Int) : pick r (side (prs cols part) 0) = pick x (side (prs cols part) 1) ↔ agree cols part r x := by
  rw [side0, side1]
  unfold pick
  rw [List.map_map, List.map_map, List.map_inj_left]
  constructor
  · intro h j hj hm
    have := h j (mem_oldJ.2 ⟨hj, hm⟩)
    simpa using this
  · intro h j hj
    have := h j (mem_oldJ.1 hj).1 (mem_oldJ.1 hj).2
    simpa using this
theorem prs_len (cols part : List Int) : (prs cols part).length ≤ part.length := by
  unfold prs prsT oldJ
  rw [List.length_map]
  exact Nat.le_trans (List.length_filter_le _ _) (by simp)
theorem prs_ok {cols part : List Int} (hp : part.length ≤ 6) : pairsOk (prs cols part) cols.length part.length = true := by
  unfold pairsOk
  rw [Bool.and_eq_true, decide_eq_true_eq, List.all_eq_true]
  refine ⟨by have := prs_len cols part; omega, fun p hpm => ?_⟩
  unfold prs prsT at hpm
  obtain ⟨j, hj, rfl⟩ := List.mem_map.1 hpm
  obtain ⟨h1, h2⟩ := mem_oldJ.1 hj
  have := ix_lt h2
  obtain ⟨q, hq⟩ : ∃ q, ix (part.getD j 0) cols = q := ⟨_, rfl⟩
  rw [hq] at this ⊢
  unfold pairIn colIn
  simp
  omega
theorem newJ_len (cols part : List Int) : (newJ cols part part.length).length = (newC cols part).length := by rw [newC_J]; simp
theorem leftN_prs (cols part : List Int) : leftN (side (prs cols part) 1) part.length = (newC cols part).length := by
  have h1 := restTo_len part (side (prs cols part) 1) part.length
  have h2 := rest_J (cols := cols) (part := part) (x := part) rfl
  rw [← h1, h2, List.length_map, newJ_len]
/-- The joined row. -/
def rest (cols part x : List Int) : List Int := (newJ cols part part.length).map fun j => x.getD j 0
theorem rest_len (cols part x : List Int) : (rest cols part x).length = (newC cols part).length := by unfold rest; rw [List.length_map, newJ_len]
theorem joinZ_is {cols part r x : List Int} (hx : x.length = part.length) : joinZ r x (side (prs cols part) 1) = r ++ rest cols part x := by unfold joinZ rest; rw [rest_J hx]
theorem joinG_is {cols part : List Int} {t u : WRow} (ht : good t.1 = true) (hu : good u.1 = true) (hl : t.1.length = cols.length) (hx : u.1.length = part.length) (hp : part.length ≤ 6) (h6 : cols.length + (newC cols part).length ≤ 6) :
    (agree cols part t.1 u.1 → joinG (prs cols part) t u = some (t.1 ++ rest cols part u.1, t.2 * u.2)) ∧ (¬ agree cols part t.1 u.1 → joinG (prs cols part) t u = none) := by
  have hz := joinZ_is (cols := cols) (part := part) (r := t.1) hx
  have hl6 : (joinZ t.1 u.1 (side (prs cols part) 1)).length ≤ 6 := by rw [hz, List.length_append, rest_len]; omega
  have hok : joinOk t.1 u.1 (prs cols part) = decide (pick t.1 (side (prs cols part) 0) = pick u.1 (side (prs cols part) 1)) := by
    unfold joinOk
    rw [ht, hu, hl, hx, prs_ok hp, decide_eq_true hl6]; simp
  unfold joinG joinAns
  constructor
  · intro h
    rw [hok, decide_eq_true ((pick_agree cols part t.1 u.1).2 h), if_pos rfl, if_pos rfl, hz]
  · intro h
    rw [hok, decide_eq_false (fun e => h ((pick_agree cols part t.1 u.1).1 e)), if_neg (by simp)]

/-- The model's way: a row of all columns, and what is told besides. -/
def fitOk (m part x : List Int) : Bool := (List.range part.length).all fun j => decide (m.getD (part.getD j 0).toNat 0 = miss) || decide (m.getD (part.getD j 0).toNat 0 = x.getD j 0)
def fitT (m part x : List Int) (t : Nat) : List Int := (List.range t).foldl (fun m j => m.set (part.getD j 0).toNat (x.getD j 0)) m
def fit (m part x : List Int) : List Int := fitT m part x part.length
theorem fitT_succ (m part x : List Int) (t : Nat) : fitT m part x (t + 1) = (fitT m part x t).set (part.getD t 0).toNat (x.getD t 0) := by unfold fitT; rw [List.range_succ, List.foldl_append]; rfl
theorem fitT_len (m part x : List Int) : ∀ t, (fitT m part x t).length = m.length
  | 0 => rfl
  | t + 1 => by rw [fitT_succ, List.length_set, fitT_len m part x t]
theorem fitT_at {C : Nat} {m part x : List Int} (hm : m.length = C) (hp : Cls C part) : ∀ t, t ≤ part.length → ∀ c, c < C → (fitT m part x t).getD c 0 = if (c : Int) ∈ part.take t then x.getD (ix (c : Int) part) 0 else m.getD c 0
  | 0, _, c, _ => by simp [fitT]
  | t + 1, ht, c, hc => by
    have ht' : t < part.length := by omega
    have ih := fitT_at hm hp (x := x) t (by omega) c hc
    have hmem : part.getD t 0 ∈ part := by simp [List.getD, ht']
    obtain ⟨k1, k2⟩ := hp.2 _ hmem
    have hl := fitT_len m part x t
    have etk : part.take (t + 1) = part.take t ++ [part.getD t 0] := by rw [List.take_succ_eq_append_getElem ht']; simp [List.getD, ht']
    rw [fitT_succ, etk]
    by_cases e : (part.getD t 0).toNat = c
    · have ec : (c : Int) = part.getD t 0 := by omega
      rw [if_pos (by rw [ec]; simp), ec, ix_uniq hp.1 ht', e]
      simp [List.getD, show c < (fitT m part x t).length by omega]
    · have ec : ¬ (c : Int) = part.getD t 0 := by omega
      have h9 : ∀ (kk : Nat) (v : Int), kk ≠ c → ((fitT m part x t).set kk v).getD c 0 = (fitT m part x t).getD c 0 := fun kk v hk => by
        simp only [List.getD]; rw [List.getElem?_set_ne hk]
      rw [h9 _ _ e, ih]
      by_cases h : (c : Int) ∈ part.take t
      · rw [if_pos h, if_pos (by simp [h])]
      · rw [if_neg h, if_neg (by simp only [List.mem_append, List.mem_singleton]; intro h'; rcases h' with h' | h'; exact h h'; exact ec h')]
theorem fit_phi {C : Nat} {cols part r x : List Int} (hp : Cls C part) (hr : r.length = cols.length) (ha : agree cols part r x) : fit (phi C cols r) part x = phi C (cols ++ newC cols part) (r ++ rest cols part x) := by
  refine list_ext (by unfold fit; rw [fitT_len, phi_len, phi_len]) fun c hcl => ?_
  unfold fit at hcl ⊢
  rw [fitT_len, phi_len] at hcl
  rw [fitT_at (phi_len C cols r) hp part.length (Nat.le_refl _) c hcl, List.take_length, phi_at _ _ hcl, phi_at _ _ hcl]
  by_cases h1 : (c : Int) ∈ part
  · rw [if_pos h1]
    have hj := ix_lt h1
    have hg := ix_get h1
    by_cases h2 : (c : Int) ∈ cols
    · have hb := ha (ix (c : Int) part) hj (by rw [hg]; exact h2)
      rw [hg] at hb
      rw [if_pos (by simp [h2]), ix_app_left _ h2, ← hb]
      have := ix_lt h2
      simp only [List.getD]; rw [List.getElem?_append_left (by omega)]
    · have h3 : (c : Int) ∈ newC cols part := by unfold newC; simp [h1, h2]
      rw [if_pos (by simp [h3]), ix_app_right _ h2]
      have hn := ix_lt h3
      have hgn := ix_get h3
      have e1 : (r ++ rest cols part x).getD (cols.length + ix (c : Int) (newC cols part)) 0 = (rest cols part x).getD (ix (c : Int) (newC cols part)) 0 := by
        simp only [List.getD]; rw [List.getElem?_append_right (by omega), hr, Nat.add_sub_cancel_left]
      rw [e1]
      obtain ⟨i, hi⟩ : ∃ i, ix (c : Int) (newC cols part) = i := ⟨_, rfl⟩
      rw [hi] at hn hgn ⊢
      rw [newC_J, List.length_map] at hn
      rw [newC_J] at hgn
      have e2 : ((newJ cols part part.length).map fun j => part.getD j 0).getD i 0 = part.getD (newJ cols part part.length)[i] 0 := by simp [List.getD, hn]
      rw [e2] at hgn
      have hjJ := mem_newJ.1 (List.getElem_mem hn)
      have e3 : ix (c : Int) part = (newJ cols part part.length)[i] := by rw [← hgn, ix_uniq hp.1 hjJ.1]
      unfold rest
      rw [e3]
      simp [List.getD, hn]
  · rw [if_neg h1]
    by_cases h2 : (c : Int) ∈ cols
    · rw [if_pos h2, if_pos (by simp [h2]), ix_app_left _ h2]
      have := ix_lt h2
      simp only [List.getD]; rw [List.getElem?_append_left (by omega)]
    · rw [if_neg h2, if_neg (by simp only [List.mem_append]; intro h; rcases h with h | h; exact h2 h; unfold newC at h; exact h1 (List.mem_filter.1 h).1)]
theorem fitOk_phi {C : Nat} {cols part r x : List Int} (hp : Cls C part) (hg : good r = true) (hr : r.length = cols.length) : fitOk (phi C cols r) part x = true ↔ agree cols part r x := by
  unfold fitOk
  rw [List.all_eq_true]
  constructor
  · intro h j hj hm
    have := h j (List.mem_range.2 hj)
    obtain ⟨k1, k2⟩ := hp.2 (part.getD j 0) (by simp [List.getD, hj])
    rw [phi_at _ _ (by omega), show (((part.getD j 0).toNat : Nat) : Int) = part.getD j 0 by omega, if_pos hm] at this
    have hi := ix_lt hm
    have hcell := good_cell hg (ix (part.getD j 0) cols) (by omega)
    rw [decide_eq_false (show ¬ r.getD (ix (part.getD j 0) cols) 0 = miss by unfold miss; omega)] at this
    simpa using this
  · intro h j hj
    have hj' := List.mem_range.1 hj
    obtain ⟨k1, k2⟩ := hp.2 (part.getD j 0) (by simp [List.getD, hj'])
    rw [phi_at _ _ (by omega), show (((part.getD j 0).toNat : Nat) : Int) = part.getD j 0 by omega]
    by_cases hm : part.getD j 0 ∈ cols
    · rw [if_pos hm, h j hj' hm]; simp
    · rw [if_neg hm]; simp
theorem cls_new {C : Nat} {cols part : List Int} (hc : Cls C cols) (hp : Cls C part) : Cls C (cols ++ newC cols part) := by
  refine ⟨List.nodup_append.2 ⟨hc.1, hp.1.filter _, fun a h1 b h2 e => ?_⟩, fun k hk => ?_⟩
  · subst e
    unfold newC at h2
    have := (List.mem_filter.1 h2).2
    simp at this
    exact this h1
  · rw [List.mem_append] at hk
    rcases hk with hk | hk
    · exact hc.2 k hk
    · exact hp.2 k (List.mem_filter.1 hk).1

end Go.Proofs.YtpnaoahlfhbbmaaGreat
