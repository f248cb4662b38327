/- Several texts of one proof, in build order: ArrEq, ArrayOf, Compare, SortA, KeyA, GoodT, MapA. -/
import Derived.Test.YtlfljfmhhnoinaaM1
import Derived.Laws.StructEq
import Derived.Test.YtlfljfmhhnoinaaM5
import Derived.Test.YtlfljfmhhnoinaaM4
import Derived.Shelf.SlSortCmp.InsertionK
import Derived.Test.YtlfljfmhhnoinaaRows
import Derived.Maps.OwnSet
import Derived.Maps.OwnOps
import Derived.Maps.RangeWalk
import Derived.WideKeyArr2
import Derived.WideKeyEntry
import Derived.Deep.RegionHeld3

/- Two arrays of ints, compared by '==': a law of the model's own equality. -/
namespace Go.Proofs.Ytlfljfmhhnoinaa
open Go.RowKit

def eqParts (d : Nat) (e : TypeId) (n : Nat) (xs ys : Array Value) : List Nat → Sem Bool
  | [] => pure true
  | i :: is => do
    let a ← part e xs (i * n)
    let b ← part e ys (i * n)
    let r ← Op.equalIn d e a b
    if (!r) = true then pure false else eqParts d e n xs ys is

theorem run_equalIn_array {P : Program} (w : World) (d : Nat) (t e : TypeId) (i : TypeInfo) (len : Nat) (ht : P.underlying t = some (.array len e)) (hi : P.info? e = some i) (xs ys : Array Value) :
    (Op.equalIn (d + 1) t (.agg xs) (.agg ys)).run P w = (eqParts d e i.size xs ys (List.range' 0 len)).run P w := by
  simp only [Op.equalIn, Sem.run_bind, run_underlying ht, Result.andThen_ok, sizeOf, typeInfo, run_program, hi, Sem.run_pure]
  rw [Std.Legacy.Range.forIn_eq_forIn_range']
  simp only [Std.Legacy.Range.size, Nat.sub_zero, Nat.add_sub_cancel, Nat.div_one]
  generalize List.range' 0 len = is
  clear ht
  induction is generalizing w with
  | nil => simp [eqParts]
  | cons f fs ih =>
    simp only [List.forIn_cons, eqParts, Sem.run_bind, Sem.run_ite]
    generalize (part e xs (f * i.size)).run P w = r1
    cases r1 with
    | ok a w1 =>
      simp only [Result.andThen_ok]
      generalize (part e ys (f * i.size)).run P w1 = r2
      cases r2 with
      | ok b w2 =>
        simp only [Result.andThen_ok]
        generalize (Op.equalIn d e a b).run P w2 = r3
        cases r3 with
        | ok r w3 =>
          cases r
          · simp only [Result.andThen_ok, Bool.not_false, if_true, Sem.run_pure]
          · simp only [Result.andThen_ok, Bool.not_true, Bool.false_eq_true, if_false, Sem.run_pure]
            exact ih w3
        | halt x w3 => simp [Result.andThen]
      | halt x w2 => simp [Result.andThen]
    | halt x w1 => simp [Result.andThen]

theorem run_eqParts_ints {P : Program} (w : World) (d : Nat) (e : TypeId) (he : P.underlying e = some (.int .i64)) (xs ys : List Int) (is : List Nat) (hx : ∀ i ∈ is, i < xs.length) (hy : ∀ i ∈ is, i < ys.length) :
    (eqParts (d + 1) e 1 (xs.map (Value.int .i64)).toArray (ys.map (Value.int .i64)).toArray is).run P w = .ok (is.all fun i => xs.getD i 0 == ys.getD i 0) w := by
  induction is with
  | nil => simp [eqParts]
  | cons i is ih =>
    have h1 := hx i (by simp)
    have h2 := hy i (by simp)
    have ih' := ih (fun j hj => hx j (by simp [hj])) (fun j hj => hy j (by simp [hj]))
    have p1 : (part e (xs.map (Value.int .i64)).toArray (i * 1)).run P w = .ok (.int .i64 (xs.getD i 0)) w := by simp [part, isAgg, run_underlying he, List.getD, h1]
    have p2 : (part e (ys.map (Value.int .i64)).toArray (i * 1)).run P w = .ok (.int .i64 (ys.getD i 0)) w := by simp [part, isAgg, run_underlying he, List.getD, h2]
    simp only [eqParts, Sem.run_bind, p1, p2, Result.andThen_ok, run_equalIn_int w d e .i64 .i64 _ _ he, Sem.run_ite, ih']
    cases h : (xs.getD i 0 == ys.getD i 0) <;> simp [Sem.run_pure]
    all_goals (simp at h; simp [h])

theorem all_range_eq (xs ys : List Int) (h : xs.length = ys.length) : ((List.range' 0 xs.length).all fun i => xs.getD i 0 == ys.getD i 0) = decide (xs = ys) := by
  rw [Bool.eq_iff_iff, List.all_eq_true, decide_eq_true_eq]
  constructor
  · intro hall
    apply List.ext_getElem h
    intro i h1 h2
    have := hall i (by simp; omega)
    simpa [List.getD, h1, h2] using this
  · rintro rfl i _
    simp

theorem run_equal_ints {P : Program} {len : Nat} (w : World) (d : Nat) (t e : TypeId) (i : TypeInfo) (ht : P.underlying t = some (.array len e)) (he : P.underlying e = some (.int .i64)) (hi : P.info? e = some i) (hs : i.size = 1)
    (xs ys : List Int) (hx : xs.length = len) (hy : ys.length = len) :
    (Op.equalIn (d + 1 + 1) t (.agg (xs.map (Value.int .i64)).toArray) (.agg (ys.map (Value.int .i64)).toArray)).run P w = .ok (decide (xs = ys)) w := by
  rw [run_equalIn_array w (d + 1) t e i len ht hi, hs, run_eqParts_ints w d e he xs ys _ (by simp; omega) (by simp; omega), ← hx, all_range_eq xs ys (by omega)]

end Go.Proofs.Ytlfljfmhhnoinaa

/- Contract of impl.arrayOf. -/
namespace Go.Proofs.Ytlfljfmhhnoinaa
open Go.RowKit

set_option maxHeartbeats 1000000 in
theorem arrayOf_any (a : Option Addr) (n c : Nat) (zs : List Int) (w : World) (hz : zs.length = n) (hn : n ≤ 6) (hg : ∀ k, k < n → -100000 ≤ zs.getD k 0 ∧ zs.getD k 0 ≤ 100000) (ha : At w a zs) :
    Calls Try.prog 47 #[.agg #[.slice a n c]] w fun e w' => ∃ x0 x1 x2 x3 x4 x5, e = .returned (.agg #[.int .i64 x0, .int .i64 x1, .int .i64 x2, .int .i64 x3, .int .i64 x4, .int .i64 x5]) ∧ raised zs = [x0, x1, x2, x3, x4, x5] ∧ Below w.heap.size w w' := by
  obtain ⟨W, hW⟩ : ∃ W, W = ((w.alloc (.cells #[.slice a n c] 33)).alloc (.cells #[.int .i64 0, .int .i64 0, .int .i64 0, .int .i64 0, .int .i64 0, .int .i64 0] 72)).alloc (.cells #[.int .i64 0, .int .i64 0, .int .i64 0, .int .i64 0, .int .i64 0, .int .i64 0] 72) := ⟨_, rfl⟩
  have B : Below w.heap.size w W := by rw [hW]; exact (((Below.refl _ _).alloc (Nat.le_refl _) _).alloc (by simp) _).alloc (by simp; omega) _
  have HA : At W a zs := ha.below B
  have A1 : Arr W (w.heap.size + 1) 72 [0, 0, 0, 0, 0, 0] := by
    rw [hW]; exact (Arr.new (by simp) (by simp)).alloc _
  have A2 : Arr W (w.heap.size + 1 + 1) 72 (rowTo zs 0) := by
    rw [hW]; exact Arr.new (by simp) (by simp [rowTo])
  have hb0 : ∀ b off, a = some ⟨b, off, none⟩ → 0 < n → b < w.heap.size := by
    rintro b off rfl h0
    obtain ⟨b', off', he, hb', _⟩ := ha.some (by omega)
    simp at he
    omega
  have zW : W.heap.size = w.heap.size + 3 := by rw [hW]; simp
  go_enter Try.func47, Try.ntmps47
  go_wp2
  rw [← hW]
  clear hW ha
  go_loopw [9] (fun i wr => ∃ k : Nat, k ≤ n ∧ i = .int .i64 k ∧ Arr wr (w.heap.size + 1 + 1) 72 (rowTo zs k) ∧ Below (w.heap.size + 2) W wr) (fun i _ => n - (intOf i).toNat)
  case atStart => exact ⟨0, Nat.zero_le _, rfl, A2, Below.refl _ _⟩
  case round =>
    obtain ⟨k, hk, rfl, hrow, hbw⟩ := hrel
    by_cases hlt : k < n
    · obtain ⟨b, off, rfl, hb, hc⟩ := HA.some (by omega)
      have hbb := hb0 b off rfl (by omega)
      have hcx := (hbw.cell (p := ⟨b, off + k, none⟩) (by simp; omega)).trans (hc k (by omega))
      have hgk := hg k hlt
      have hco := hrow.cell k (by rw [rowTo_length zs k (by omega) (by omega)]; omega)
      have hfo := hrow.frozen k
      have HS : Hid (Arr (wr.setCell ⟨w.heap.size + 1 + 1, k, none⟩ (.int .i64 (zs.getD k 0 + 100001))) (w.heap.size + 1 + 1) 72 (rowTo zs (k + 1))) := by
        have := hrow.set k (zs.getD k 0 + 100001)
        rwa [rowTo_set zs k (by omega) (by omega)] at this
      have HB : Hid (Below (w.heap.size + 2) W (wr.setCell ⟨w.heap.size + 1 + 1, k, none⟩ (.int .i64 (zs.getD k 0 + 100001)))) := hbw.setCell (by simp) _
      clear hc hg hrow A1 A2 HA hb0
      obtain ⟨x, hx⟩ : ∃ x, x = zs.getD k 0 := ⟨_, rfl⟩
      rw [← hx] at hcx hgk HS HB
      obtain ⟨y, hy⟩ : ∃ y, y = (rowTo zs k).getD k 0 := ⟨_, rfl⟩
      rw [← hy] at hco
      clear hx hy
      obtain ⟨hlo, hhi⟩ := hgk
      have hk6 : (k : Int) < 6 := by omega
      go_wp2
      go_roundw
      case rel => exact ⟨k + 1, by omega, by go_num, by simpa [Int.add_assoc] using HS.out, by simpa [Int.add_assoc] using HB.out⟩
      case measure => simp [intOf]; omega
    · obtain rfl : k = n := by omega
      rw [← hz, rowTo_all] at hrow
      obtain ⟨x0, x1, x2, x3, x4, x5, hx⟩ := list6 (raised_length (zs := zs) (by omega))
      have HX : Hid (raised zs = [x0, x1, x2, x3, x4, x5]) := hx
      rw [hx] at hrow
      have A1w := A1.below hbw (by omega)
      have e0 := hrow.cell 0 (by simp)
      have e1 := hrow.cell 1 (by simp)
      have e2 := hrow.cell 2 (by simp)
      have e3 := hrow.cell 3 (by simp)
      have e4 := hrow.cell 4 (by simp)
      have e5 := hrow.cell 5 (by simp)
      have f0 := A1w.cell 0 (by simp)
      have f1 := A1w.cell 1 (by simp)
      have f2 := A1w.cell 2 (by simp)
      have f3 := A1w.cell 3 (by simp)
      have f4 := A1w.cell 4 (by simp)
      have f5 := A1w.cell 5 (by simp)
      have r0 := A1w.frozen 0
      have r1 := A1w.frozen 1
      have r2 := A1w.frozen 2
      have r3 := A1w.frozen 3
      have r4 := A1w.frozen 4
      have r5 := A1w.frozen 5
      simp only [List.getD_eq_getElem?_getD, List.getElem?_cons_zero, List.getElem?_cons_succ, Option.getD_some] at e0 e1 e2 e3 e4 e5 f0 f1 f2 f3 f4 f5
      clear hx hrow A1 A2 A1w HA hb0 hg
      go_wp2
      refine bodyPost_ret (v := .agg #[.int .i64 x0, .int .i64 x1, .int .i64 x2, .int .i64 x3, .int .i64 x4, .int .i64 x5]) (by simp [results, Try.results47, go_sem, f0, f1, f2, f3, f4, f5]) rfl ⟨x0, x1, x2, x3, x4, x5, rfl, HX.out, ?_⟩
      exact ((((((B.trans (hbw.mono (by omega))).setCell (by simp) _).setCell (by simp) _).setCell (by simp) _).setCell (by simp) _).setCell (by simp) _).setCell (by simp) _

end Go.Proofs.Ytlfljfmhhnoinaa

/- Contracts of spec.l1Compare, impl.compareArrays. -/
namespace Go.Proofs.Ytlfljfmhhnoinaa
open Go.RowKit

set_option maxHeartbeats 1000000 in
theorem l1Compare_any (a a' : Option Addr) (n n' c c' : Nat) (xs ys : List Int) (w : World) (hz : xs.length = n) (hz' : ys.length = n') (hn : n ≤ 6) (hn' : n' ≤ 6) (ha : At w a xs) (ha' : At w a' ys) :
    Calls Try.prog 42 #[.agg #[.slice a n c], .agg #[.slice a' n' c']] w fun e w' => e = .returned (.int .i64 (cmp xs ys)) ∧ Below w.heap.size w w' := by
  obtain ⟨W, hW⟩ : ∃ W, W = (w.alloc (.cells #[.slice a n c] 33)).alloc (.cells #[.slice a' n' c'] 33) := ⟨_, rfl⟩
  have B : Below w.heap.size w W := by rw [hW]; exact ((Below.refl _ _).alloc (Nat.le_refl _) _).alloc (by simp) _
  have HA : At W a xs := ha.below B
  have HA' : At W a' ys := ha'.below B
  have c1 : W.cell? ⟨w.heap.size, 0, none⟩ = some (.slice a n c) := by rw [hW]; simp
  have c2 : W.cell? ⟨w.heap.size + 1, 0, none⟩ = some (.slice a' n' c') := by rw [hW]; simp
  have z2 : W.heap.size = w.heap.size + 1 + 1 := by rw [hW]; simp
  clear ha ha'
  go_enter Try.func42, Try.ntmps42
  go_wp2
  rw [← hW]
  clear hW
  go_loopw [5] (fun i wr => ∃ k : Nat, k ≤ n ∧ k ≤ n' ∧ i = .int .i64 k ∧ cmp xs ys = cmp (xs.drop k) (ys.drop k) ∧ Below W.heap.size W wr) (fun i _ => 7 - (intOf i).toNat)
  case atStart => exact ⟨0, Nat.zero_le _, Nat.zero_le _, rfl, by simp, Below.refl _ _⟩
  case round =>
    obtain ⟨k, hk, hk', rfl, hcmp, hbw⟩ := hrel
    have d1 := cell_later hbw c1
    have d2 := cell_later hbw c2
    have BW : Below w.heap.size w wr := B.trans (hbw.mono B.size)
    have HC : Hid (cmp xs ys = cmp (xs.drop k) (ys.drop k)) := hcmp
    clear hcmp
    by_cases hlt : k < n
    · by_cases hlt' : k < n'
      · obtain ⟨b, off, rfl, hb, hc⟩ := (HA.below hbw).some (by omega)
        obtain ⟨b', off', rfl, hb', hc'⟩ := (HA'.below hbw).some (by omega)
        have hcx := hc k (by omega)
        have hcy := hc' k (by omega)
        have HD : Hid (cmp xs ys = _) := HC.out.trans (cmp_drop xs ys k (by omega) (by omega))
        clear hc hc' HC HA HA' c1 c2 z2
        obtain ⟨x, hx⟩ : ∃ x, x = xs.getD k 0 := ⟨_, rfl⟩
        obtain ⟨y, hy⟩ : ∃ y, y = ys.getD k 0 := ⟨_, rfl⟩
        rw [← hx] at hcx HD
        rw [← hy] at hcy HD
        clear hx hy
        by_cases hxy : x < y
        · go_wp2
          go_quiet (fail)
          go_wp2
          go_ret
          exact ⟨ret_int (by rw [HD.out, if_pos hxy]), below_drewN BW _⟩
        · go_wp2
          go_quiet (fail)
          go_wp2
          by_cases hyx : y < x
          · go_quiet (fail)
            go_wp2
            go_ret
            exact ⟨ret_int (by rw [HD.out, if_neg (by omega), if_pos hyx]), below_drewN (below_drewN BW _) _⟩
          · go_quiet (fail)
            go_wp2
            go_roundw
            case rel => exact ⟨k + 1, by omega, by omega, by go_num, by rw [HD.out, if_neg (by omega), if_neg (by omega)], below_drewN hbw _⟩
            case measure => simp [intOf]; omega
      · have HE : Hid (cmp xs ys = _) := HC.out.trans (cmp_end xs ys k (by omega) (by omega) (by omega))
        have hg : ¬ n < n' := by omega
        have hg' : n' < n := by omega
        go_wp2
        go_ret
        exact ⟨ret_int (by rw [HE.out, if_neg (by omega), if_pos (by omega)]), BW⟩
    · have HE : Hid (cmp xs ys = _) := HC.out.trans (cmp_end xs ys k (by omega) (by omega) (by omega))
      by_cases hg : n < n'
      · go_wp2
        go_ret
        exact ⟨ret_int (by rw [HE.out, if_pos (by omega)]), BW⟩
      · have hg' : n = n' := by omega
        subst hg'
        go_wp2
        go_ret
        exact ⟨ret_int (by rw [HE.out, if_neg (by omega), if_neg (by omega)]), BW⟩

set_option maxHeartbeats 1000000 in
theorem compareArrays_any (x0 x1 x2 x3 x4 x5 y0 y1 y2 y3 y4 y5 : Int) (xs ys : List Int) (hx : xs = [x0, x1, x2, x3, x4, x5]) (hy : ys = [y0, y1, y2, y3, y4, y5]) (w : World) :
    Calls Try.prog 46 #[.agg #[.int .i64 x0, .int .i64 x1, .int .i64 x2, .int .i64 x3, .int .i64 x4, .int .i64 x5], .agg #[.int .i64 y0, .int .i64 y1, .int .i64 y2, .int .i64 y3, .int .i64 y4, .int .i64 y5]] w fun e w' => e = .returned (.int .i64 (cmp xs ys)) ∧ Below w.heap.size w w' := by
  obtain ⟨W, hW⟩ : ∃ W, W = (w.alloc (.cells #[.int .i64 x0, .int .i64 x1, .int .i64 x2, .int .i64 x3, .int .i64 x4, .int .i64 x5] 72)).alloc (.cells #[.int .i64 y0, .int .i64 y1, .int .i64 y2, .int .i64 y3, .int .i64 y4, .int .i64 y5] 72) := ⟨_, rfl⟩
  have B : Below w.heap.size w W := by rw [hW]; exact ((Below.refl _ _).alloc (Nat.le_refl _) _).alloc (by simp) _
  have A1 : Arr W w.heap.size 72 xs := by rw [hW, hx]; exact (Arr.new rfl (by simp)).alloc _
  have A2 : Arr W (w.heap.size + 1) 72 ys := by rw [hW, hy]; exact Arr.new (by simp) (by simp)
  obtain ⟨i0, hi, hz0, hz1, hz2⟩ := info_parts Try.infoInt
  have hq : ∀ w, (Op.equalIn 10000 72 (.agg #[.int .i64 x0, .int .i64 x1, .int .i64 x2, .int .i64 x3, .int .i64 x4, .int .i64 x5]) (.agg #[.int .i64 y0, .int .i64 y1, .int .i64 y2, .int .i64 y3, .int .i64 y4, .int .i64 y5])).run Try.prog w = .ok (decide (xs = ys)) w := fun w => by
    rw [hx, hy]
    simpa using run_equal_ints w 9998 72 3 i0 Try.underlying72 Try.underlying3 hi hz1 [x0, x1, x2, x3, x4, x5] [y0, y1, y2, y3, y4, y5] rfl rfl
  have l1 : xs.length = 6 := by rw [hx]; rfl
  have l2 : ys.length = 6 := by rw [hy]; rfl
  clear hx hy hi hz0 hz1 hz2
  by_cases he : xs = ys
  · have HC : Hid (cmp xs ys = 0) := by rw [he]; exact cmp_self ys
    rw [decide_eq_true he] at hq
    clear he A1 A2
    go_enter Try.func46, Try.ntmps46
    go_wp2
    go_ret
    exact ⟨ret_int HC.out.symm, by rw [← hW]; exact B⟩
  · rw [decide_eq_false he] at hq
    have HN : Hid (xs ≠ ys) := he
    clear he
    go_enter Try.func46, Try.ntmps46
    go_wp2
    rw [← hW]
    clear hW hq
    go_loopw [5] (fun i wr => ∃ k : Nat, k ≤ 6 ∧ i = .int .i64 k ∧ xs.take k = ys.take k ∧ cmp xs ys = cmp (xs.drop k) (ys.drop k) ∧ Below W.heap.size W wr) (fun i _ => 7 - (intOf i).toNat)
    case atStart => exact ⟨0, Nat.zero_le _, rfl, rfl, by simp, Below.refl _ _⟩
    case round =>
      obtain ⟨k, hk, rfl, ht, hcmp, hbw⟩ := hrel
      have hlt : k < 6 := by
        rcases Nat.lt_or_ge k 6 with h | h
        · exact h
        · exact absurd (take_all_eq (by omega) (by omega) ht) HN.out
      have hcx := cell_later hbw (A1.cell k (by omega))
      have hcy := cell_later hbw (A2.cell k (by omega))
      have BW : Below w.heap.size w wr := B.trans (hbw.mono B.size)
      have HT : Hid (xs.getD k 0 = ys.getD k 0 → xs.take (k + 1) = ys.take (k + 1)) := fun e => by
        rw [take_succ_getD xs k (by omega), take_succ_getD ys k (by omega), ht, e]
      have HD : Hid (cmp xs ys = _) := hcmp.trans (cmp_drop xs ys k (by omega) (by omega))
      clear ht hcmp A1 A2
      obtain ⟨x, hx⟩ : ∃ x, x = xs.getD k 0 := ⟨_, rfl⟩
      obtain ⟨y, hy⟩ : ∃ y, y = ys.getD k 0 := ⟨_, rfl⟩
      rw [← hx] at hcx HD HT
      rw [← hy] at hcy HD HT
      clear hx hy
      have hk6 : (k : Int) < 6 := by omega
      rcases Int.lt_trichotomy x y with h | h | h
      · have hne : (x == y) = false := by simp; omega
        go_wp2
        go_quiet (fail)
        go_wp2
        go_quiet (fail)
        go_wp2
        go_ret
        exact ⟨ret_int (by rw [HD.out, if_pos h]), below_drewN (below_drewN BW _) _⟩
      · subst h
        go_wp2
        go_quiet (fail)
        go_wp2
        go_roundw
        case rel => exact ⟨k + 1, by omega, by go_num, HT.out (by trivial), by rw [HD.out, if_neg (by omega), if_neg (by omega)], below_drewN hbw _⟩
        case measure => simp [intOf]; omega
      · have hne : (x == y) = false := by simp; omega
        go_wp2
        go_quiet (fail)
        go_wp2
        go_quiet (fail)
        go_wp2
        go_ret
        exact ⟨ret_int (by rw [HD.out, if_neg (by omega), if_pos h]), below_drewN (below_drewN BW _) _⟩

end Go.Proofs.Ytlfljfmhhnoinaa

/- The order of arrays as slices.SortFunc asks it: impl.compareArrays lays two blocks, draws, and turns nothing else. -/
namespace Go.Proofs.Ytlfljfmhhnoinaa
open Go.RowKit

set_option maxHeartbeats 1000000 in
theorem compareArrays_quiet (x0 x1 x2 x3 x4 x5 y0 y1 y2 y3 y4 y5 : Int) (xs ys : List Int) (hx : xs = [x0, x1, x2, x3, x4, x5]) (hy : ys = [y0, y1, y2, y3, y4, y5]) (w : World) :
    Calls Try.prog 46 #[.agg #[.int .i64 x0, .int .i64 x1, .int .i64 x2, .int .i64 x3, .int .i64 x4, .int .i64 x5], .agg #[.int .i64 y0, .int .i64 y1, .int .i64 y2, .int .i64 y3, .int .i64 y4, .int .i64 y5]] w fun e w' => e = .returned (.int .i64 (cmp xs ys)) ∧ ∃ q, w' = ((w.alloc (.cells #[.int .i64 x0, .int .i64 x1, .int .i64 x2, .int .i64 x3, .int .i64 x4, .int .i64 x5] 72)).alloc (.cells #[.int .i64 y0, .int .i64 y1, .int .i64 y2, .int .i64 y3, .int .i64 y4, .int .i64 y5] 72)).drewN q := by
  obtain ⟨W, hW⟩ : ∃ W, W = (w.alloc (.cells #[.int .i64 x0, .int .i64 x1, .int .i64 x2, .int .i64 x3, .int .i64 x4, .int .i64 x5] 72)).alloc (.cells #[.int .i64 y0, .int .i64 y1, .int .i64 y2, .int .i64 y3, .int .i64 y4, .int .i64 y5] 72) := ⟨_, rfl⟩
  have B : Below w.heap.size w W := by rw [hW]; exact ((Below.refl _ _).alloc (Nat.le_refl _) _).alloc (by simp) _
  have A1 : Arr W w.heap.size 72 xs := by rw [hW, hx]; exact (Arr.new rfl (by simp)).alloc _
  have A2 : Arr W (w.heap.size + 1) 72 ys := by rw [hW, hy]; exact Arr.new (by simp) (by simp)
  have HW := Hid.mk hW
  obtain ⟨i0, hi, hz0, hz1, hz2⟩ := info_parts Try.infoInt
  have hq : ∀ w, (Op.equalIn 10000 72 (.agg #[.int .i64 x0, .int .i64 x1, .int .i64 x2, .int .i64 x3, .int .i64 x4, .int .i64 x5]) (.agg #[.int .i64 y0, .int .i64 y1, .int .i64 y2, .int .i64 y3, .int .i64 y4, .int .i64 y5])).run Try.prog w = .ok (decide (xs = ys)) w := fun w => by
    rw [hx, hy]
    simpa using run_equal_ints w 9998 72 3 i0 Try.underlying72 Try.underlying3 hi hz1 [x0, x1, x2, x3, x4, x5] [y0, y1, y2, y3, y4, y5] rfl rfl
  have l1 : xs.length = 6 := by rw [hx]; rfl
  have l2 : ys.length = 6 := by rw [hy]; rfl
  clear hx hy hi hz0 hz1 hz2
  by_cases he : xs = ys
  · have HC : Hid (cmp xs ys = 0) := by rw [he]; exact cmp_self ys
    rw [decide_eq_true he] at hq
    clear he A1 A2
    go_enter Try.func46, Try.ntmps46
    go_wp2
    go_ret
    exact ⟨ret_int HC.out.symm, 0, rfl⟩
  · rw [decide_eq_false he] at hq
    have HN : Hid (xs ≠ ys) := he
    clear he
    go_enter Try.func46, Try.ntmps46
    go_wp2
    rw [← hW]
    clear hW hq
    go_loopw [5] (fun i wr => ∃ k : Nat, k ≤ 6 ∧ i = .int .i64 k ∧ xs.take k = ys.take k ∧ cmp xs ys = cmp (xs.drop k) (ys.drop k) ∧ ∃ q, wr = W.drewN q) (fun i _ => 7 - (intOf i).toNat)
    case atStart => exact ⟨0, Nat.zero_le _, rfl, rfl, by simp, 0, rfl⟩
    case round =>
      obtain ⟨k, hk, rfl, ht, hcmp, q, rfl⟩ := hrel
      have hlt : k < 6 := by
        rcases Nat.lt_or_ge k 6 with h | h
        · exact h
        · exact absurd (take_all_eq (by omega) (by omega) ht) HN.out
      have hcx := A1.cell k (by omega)
      have hcy := A2.cell k (by omega)
      have HT : Hid (xs.getD k 0 = ys.getD k 0 → xs.take (k + 1) = ys.take (k + 1)) := fun e => by
        rw [take_succ_getD xs k (by omega), take_succ_getD ys k (by omega), ht, e]
      have HD : Hid (cmp xs ys = _) := hcmp.trans (cmp_drop xs ys k (by omega) (by omega))
      clear ht hcmp A1 A2
      obtain ⟨x, hx⟩ : ∃ x, x = xs.getD k 0 := ⟨_, rfl⟩
      obtain ⟨y, hy⟩ : ∃ y, y = ys.getD k 0 := ⟨_, rfl⟩
      rw [← hx] at hcx HD HT
      rw [← hy] at hcy HD HT
      clear hx hy
      have hk6 : (k : Int) < 6 := by omega
      rcases Int.lt_trichotomy x y with h | h | h
      · have hne : (x == y) = false := by simp; omega
        go_wp2
        go_quiet (fail)
        go_wp2
        go_quiet (fail)
        go_wp2
        go_ret
        exact ⟨ret_int (by rw [HD.out, if_pos h]), _, by rw [← HW.out]; simp; rfl⟩
      · subst h
        go_wp2
        go_quiet (fail)
        go_wp2
        go_roundw
        case rel => exact ⟨k + 1, by omega, by go_num, HT.out (by trivial), by rw [HD.out, if_neg (by omega), if_neg (by omega)], _, rfl⟩
        case measure => simp [intOf]; omega
      · have hne : (x == y) = false := by simp; omega
        go_wp2
        go_quiet (fail)
        go_wp2
        go_quiet (fail)
        go_wp2
        go_ret
        exact ⟨ret_int (by rw [HD.out, if_neg (by omega), if_pos h]), _, by rw [← HW.out]; simp; rfl⟩

open Go.Shelf Go.Sort

/-- Six numbers. -/
abbrev Six := Int × Int × Int × Int × Int × Int
def Six.list (x : Six) : List Int := [x.1, x.2.1, x.2.2.1, x.2.2.2.1, x.2.2.2.2.1, x.2.2.2.2.2]
def Six.enc (x : Six) : List Value := [.int .i64 x.1, .int .i64 x.2.1, .int .i64 x.2.2.1, .int .i64 x.2.2.2.1, .int .i64 x.2.2.2.2.1, .int .i64 x.2.2.2.2.2]
def Six.cf (x y : Six) : Int := cmp (Six.list x) (Six.list y)
theorem Six.list_inj {x y : Six} (h : Six.list x = Six.list y) : x = y := by
  obtain ⟨a, b, c, d, e, f⟩ := x
  obtain ⟨a', b', c', d', e', f'⟩ := y
  simpa [Six.list] using h

theorem Six.lays (blk off size : Nat) (w : World) : CmpLays Try.prog 46 #[] Six.enc 6 Six.cf blk off size w := fun m os dk _ x y => by
  refine (compareArrays_quiet _ _ _ _ _ _ _ _ _ _ _ _ (Six.list x) (Six.list y) rfl rfl _).mono ?_
  rintro e w' ⟨rfl, q, rfl⟩
  exact ⟨rfl, q, _, by rw [alloc_eq_grow, alloc_eq_grow, grow_grow]; rfl⟩

theorem cmp_nlt {xs ys zs : List Int} (h1 : ¬ cmp xs ys < 0) (h2 : ¬ cmp ys zs < 0) : ¬ cmp xs zs < 0 := fun h => by
  have h3 := cmp_swap xs ys
  by_cases e : cmp ys xs < 0
  · exact h2 (cmp_trans e h)
  · have : cmp xs ys = 0 := by omega
    rw [cmp_eq this] at h
    exact h2 h

theorem Six.lt (x y : Six) : ltOf Six.cf x y = decide (cmp (Six.list x) (Six.list y) < 0) := rfl
theorem Six.swo : SWO (ltOf Six.cf) where
  irrefl x := by rw [Six.lt]; exact decide_eq_false (cmp_irrefl _)
  trans x y z h1 h2 := by rw [Six.lt, decide_eq_true_eq] at *; exact cmp_trans h1 h2
  ntrans x y z h1 h2 := by rw [Six.lt, decide_eq_false_iff_not] at *; exact cmp_nlt h1 h2
theorem Six.total (x y : Six) (h1 : ltOf Six.cf x y = false) (h2 : ltOf Six.cf y x = false) : x = y := by
  rw [Six.lt, decide_eq_false_iff_not] at h1 h2
  have := cmp_swap (Six.list x) (Six.list y)
  exact Six.list_inj (cmp_eq (by omega))

end Go.Proofs.Ytlfljfmhhnoinaa

/- Arrays of six ints as keys of a map, and what a map of weights holds. -/
namespace Go.Proofs.Ytlfljfmhhnoinaa
open Go.RowKit Go.Maps

/-- An array of ints as a value. -/
def arrV (zs : List Int) : Value := .agg (zs.map (Value.int .i64)).toArray
/-- Six numbers that fit. -/
def Fits (zs : List Int) : Prop := zs.length = 6 ∧ ∀ z ∈ zs, (Lit.int .i64 z).wf = true

theorem arrV_inj {a b : List Int} (h : arrV a = arrV b) : a = b := by
  simp only [arrV, Value.agg.injEq] at h
  have h' : a.map (Value.int .i64) = b.map (Value.int .i64) := by simpa using congrArg Array.toList h
  exact List.map_inj_right (fun _ _ e => by simpa using e) |>.1 h'

theorem Try.arrKey : WideMaps.ArrKey Try.prog 72 3 6 := ⟨Try.underlying72, by kernel_rfl, by kernel_rfl, by kernel_rfl⟩
theorem Try.keyedA : Keyed Try.prog 72 := Keyed.of_law Try.arrKey.law
theorem Try.typesPos : 0 < Try.prog.types.size := by decide +kernel
theorem Try.typesSome : ∃ m, Try.prog.types.size = m + 1 := ⟨Try.prog.types.size - 1, by have := Try.typesPos; omega⟩

/-- What six numbers read as, as a key. -/
def klit (zs : List Int) : Lit := .string (keyBytes (zs.map (.int .i64)))

theorem range6 : List.range 6 = [0, 1, 2, 3, 4, 5] := rfl

theorem keyLits_arr (zs : List Int) (h : Fits zs) : Try.prog.keyLits (Try.prog.types.size + 1) 72 (zs.map (Value.int .i64)) = some (zs.map (.int .i64)) := by
  obtain ⟨m, hm⟩ := Try.typesSome
  obtain ⟨x0, x1, x2, x3, x4, x5, rfl⟩ := list6 h.1
  have hw := h.2
  simp only [List.mem_cons, List.not_mem_nil, or_false, forall_eq_or_imp, forall_eq] at hw
  obtain ⟨w0, w1, w2, w3, w4, w5⟩ := hw
  rw [hm]
  unfold Program.keyLits
  simp only [Try.arrKey.hu]
  rw [if_pos (by rw [Try.arrKey.size]; rfl), range6]
  simp [List.mapM_cons, Try.arrKey.one, Program.keyLits, Try.underlying3, w0, w1, w2, w3, w4, w5]

theorem keyOf_arr (zs : List Int) (h : Fits zs) : keyOf Try.prog 72 (arrV zs) = some (klit zs) := by
  have hkt := Try.arrKey.keyType Try.typesSome
  unfold keyOf
  simp only [Try.arrKey.hu]
  rw [if_pos (by simp [hkt, arrV, Value.formed, Try.arrKey.hu, Try.arrKey.size, h.1])]
  have := keyLits_arr zs h
  simp only [arrV, Value.cells]
  rw [this]
  rfl

theorem klit_inj {a b : List Int} (ha : Fits a) (hb : Fits b) (h : klit a = klit b) : a = b :=
  arrV_inj (Try.keyedA.inj (keyOf_arr a ha) (by rw [h]; exact keyOf_arr b hb))

theorem klit_key {a : List Int} (ha : Fits a) : WideAt.IsKeyLit (klit a) := Try.keyedA.key (keyOf_arr a ha)

theorem keyInt_inv {P : Program} {e : TypeId} (he : P.underlying e = some (.int .i64)) {m : Nat} {y : Value} {la : List Lit} (h : P.keyLits (m + 1) e [y] = some la) : ∃ z, y = .int .i64 z ∧ la = [.int .i64 z] ∧ (Lit.int .i64 z).wf = true := by
  cases y <;> simp [Program.keyLits, he] at h
  obtain ⟨⟨rfl, hw⟩, rfl⟩ := h
  exact ⟨_, rfl, rfl, hw⟩

theorem keyOf_arr6_inv {P : Program} {k e : TypeId} (A : WideMaps.ArrKey P k e 6) (he : P.underlying e = some (.int .i64)) (hsz : ∃ m, P.types.size = m + 1) {key : Value} {l : Lit} (h : keyOf P k key = some l) :
    ∃ zs, Fits zs ∧ key = arrV zs ∧ l = klit zs := by
  obtain ⟨xs, L, rfl, hl, rfl⟩ := keyOf_top A.wide h
  clear h
  obtain ⟨m, hm⟩ := hsz
  rw [hm] at hl
  unfold Program.keyLits at hl
  simp only [A.hu] at hl
  split at hl
  · rename_i hlen
    rw [A.size] at hlen
    obtain ⟨l6⟩ := xs
    match l6, hlen with
    | [y0, y1, y2, y3, y4, y5], _ =>
      rw [range6] at hl
      simp only [A.one, List.mapM_cons, List.mapM_nil, Option.map_eq_some_iff, bind, Option.bind_eq_some_iff, pure, Option.some.injEq] at hl
      obtain ⟨_, ⟨b0, h0, _, ⟨b1, h1, _, ⟨b2, h2, _, ⟨b3, h3, _, ⟨b4, h4, _, ⟨b5, h5, _, rfl, rfl⟩, rfl⟩, rfl⟩, rfl⟩, rfl⟩, rfl⟩, rfl⟩ := hl
      obtain ⟨z0, rfl, rfl, w0⟩ := keyInt_inv he h0
      obtain ⟨z1, rfl, rfl, w1⟩ := keyInt_inv he h1
      obtain ⟨z2, rfl, rfl, w2⟩ := keyInt_inv he h2
      obtain ⟨z3, rfl, rfl, w3⟩ := keyInt_inv he h3
      obtain ⟨z4, rfl, rfl, w4⟩ := keyInt_inv he h4
      obtain ⟨z5, rfl, rfl, w5⟩ := keyInt_inv he h5
      exact ⟨[z0, z1, z2, z3, z4, z5], ⟨rfl, by simp [w0, w1, w2, w3, w4, w5]⟩, rfl, rfl⟩
  · cases hl
theorem keyOf_arr_inv {key : Value} {l : Lit} (h : keyOf Try.prog 72 key = some l) : ∃ zs, Fits zs ∧ key = arrV zs ∧ l = klit zs := keyOf_arr6_inv Try.arrKey Try.underlying3 Try.typesSome h

/-- A map of weights: at each array f's number, an entry just at the arrays of S. -/
def MapIs (D : DataW Unit) (f : List Int → Int) (S : List (List Int)) : Prop :=
  ∀ a, Fits a → D.atKey (klit a) (.lit (.int .i64 0)) = .lit (.int .i64 (f a)) ∧ Maps.has D (klit a) = decide (a ∈ S)

theorem MapIs.empty : MapIs (.map []) (fun _ => 0) [] := fun a _ => ⟨rfl, by simp [Maps.has_eq]⟩

theorem MapIs.put {D : DataW Unit} {f : List Int → Int} {S : List (List Int)} (h : MapIs D f S) (hD : IsMap D) {a : List Int} (ha : Fits a) (v : Int) :
    MapIs (D.put (klit a) (.lit (.int .i64 v))) (fun x => if x = a then v else f x) (a :: S) := fun x hx => by
  by_cases e : x = a
  · subst e
    exact ⟨by rw [atKey_put_same hD (klit_key hx)]; simp, by rw [has_put_same hD (klit_key hx)]; simp⟩
  · have hne : klit x ≠ klit a := fun e' => e (klit_inj hx ha e')
    obtain ⟨h1, h2⟩ := h x hx
    exact ⟨by rw [atKey_put_other hne, h1]; simp [e], by rw [has_put_other hne, h2]; simp [e]⟩

theorem MapIs.at {D : DataW Unit} {f : List Int → Int} {S : List (List Int)} (h : MapIs D f S) {a : List Int} (ha : Fits a) {c : Int} (hc : D.atKey (klit a) (.lit (.int .i64 0)) = .lit (.int .i64 c)) : c = f a := by
  rw [(h a ha).1] at hc
  simpa using hc.symm

theorem wf_i64 {z : Int} (h1 : -9223372036854775808 ≤ z) (h2 : z ≤ 9223372036854775807) : (Lit.int .i64 z).wf = true := WalkArith.wf_i64 (by omega)

theorem fits_raised {zs : List Int} (h : good zs = true) : Fits (raised zs) := by
  refine ⟨raised_length (good_len h), fun z hz => ?_⟩
  unfold raised at hz
  rcases List.mem_append.1 hz with hz | hz
  · obtain ⟨x, hx, rfl⟩ := List.mem_map.1 hz
    have := good_mem h x hx
    exact wf_i64 (by omega) (by omega)
  · obtain ⟨_, rfl⟩ := List.mem_replicate.1 hz
    exact wf_i64 (by omega) (by omega)

theorem nocell_map {w : World} {b n : Nat} {D : DataW Unit} {k : TypeId} {R : Value → Option (DataW Unit × List MemPlace)} (h : w.ownsMap Try.prog k R b n D) (a : Addr) {v : Value} (hc : w.cell? a = some v) : a.block ≠ b := by
  obtain ⟨es, clock, hb, _⟩ := h
  rintro rfl
  simp [World.cell?, hb] at hc

theorem At.grown {w w' : World} {b : Nat} {a : Option Addr} {zs : List Int} (h : At w a zs) (hg : w.grownBy w' (Option.some b)) (hm : ∀ (p : Addr) (v : Value), w.cell? p = Option.some v → p.block ≠ b) : At w' a zs := by
  rcases h with h | ⟨b', off, rfl, hc⟩
  · exact .inl h
  · exact .inr ⟨b', off, rfl, fun i hi => hg.cell (hc i hi) (fun e => hm _ _ (hc i hi) (by simpa using e))⟩
theorem AtW.grown {w w' : World} {b : Nat} {a : Option Addr} {ts : List WRow} (h : AtW w a ts) (hg : w.grownBy w' (Option.some b)) (hm : ∀ (p : Addr) (v : Value), w.cell? p = Option.some v → p.block ≠ b) : AtW w' a ts := by
  rcases h with h | ⟨b', off, rfl, hc⟩
  · exact .inl h
  · refine .inr ⟨b', off, rfl, fun i hi => ?_⟩
    obtain ⟨a', c', h1, h2, h3, h4⟩ := hc i hi
    exact ⟨a', c', hg.cell h1 (fun e => hm _ _ h1 (by simpa using e)), hg.cell h2 (fun e => hm _ _ h2 (by simpa using e)), h3, h4.grown hg hm⟩
theorem Below.toGrown {w w' : World} (h : Below w.heap.size w w') (row : Option Nat) : w.grownBy w' row := ⟨h.os, h.tape, h.output, h.size, fun k hk _ => h.block k hk⟩

/-- What the first k rows add at the array a. -/
def sumAt (ts : List WRow) (k : Nat) (times : Int) (a : List Int) : Int := ((ts.take k).map fun t => if raised t.1 = a then t.2 * times else 0).sum
theorem sumAt_zero (ts : List WRow) (times : Int) (a : List Int) : sumAt ts 0 times a = 0 := rfl
theorem sumAt_succ (ts : List WRow) (k : Nat) (times : Int) (a : List Int) (h : k < ts.length) : sumAt ts (k + 1) times a = sumAt ts k times a + (if raised (wat ts k).1 = a then (wat ts k).2 * times else 0) := by
  unfold sumAt
  rw [wtake_succ ts k h, List.map_append, List.sum_append]
  simp
/-- The arrays of the first k rows. -/
def keysTo (ts : List WRow) (k : Nat) : List (List Int) := ((ts.take k).map fun t => raised t.1).reverse
theorem keysTo_succ (ts : List WRow) (k : Nat) (h : k < ts.length) : keysTo ts (k + 1) = raised (wat ts k).1 :: keysTo ts k := by
  unfold keysTo
  rw [wtake_succ ts k h, List.map_append, List.reverse_append]
  rfl

end Go.Proofs.Ytlfljfmhhnoinaa

/- Contracts of impl.goodColumns, impl.goodWeight, impl.goodWeighted, impl.GoodTable. -/
namespace Go.Proofs.Ytlfljfmhhnoinaa
open Go.RowKit

end Go.Proofs.Ytlfljfmhhnoinaa

/- Contracts of impl.weights.add, impl.sumsOf. -/
namespace Go.Proofs.Ytlfljfmhhnoinaa
open Go.RowKit Go.Maps
open Go.ChangeMaps (setBlock)

theorem Try.zeroInt (w : World) : (zeroValue 3).run Try.prog w = .ok (.int .i64 0) w := by kernel_rfl

theorem setBlock_twice (w : World) (b : Nat) (o o' : Obj) : setBlock (setBlock w b o) b o' = setBlock w b o' := by simp [setBlock]
theorem heap_setBlock_at {w : World} {b : Nat} {es : Array MapEntry} {clock : Nat} (hb : w.heap[b]? = some (.map es clock)) (o : Obj) : (setBlock w b o).heap[b]? = some o := by
  have := (Array.getElem?_eq_some_iff.1 hb).1
  simp [setBlock, this]
theorem setBlock_grown (w : World) (b : Nat) (o : Obj) : w.grownBy (setBlock w b o) (some b) :=
  ⟨rfl, rfl, rfl, by simp [setBlock], fun k _ hn => by simp [setBlock, show b ≠ k from fun e => hn (by rw [e])]⟩

theorem mul_bound {x t : Int} (h1 : -1000000 ≤ x) (h2 : x ≤ 1000000) (h3 : -1000 ≤ t) (h4 : t ≤ 1000) : -1000000000 ≤ x * t ∧ x * t ≤ 1000000000 := by
  have a1 : (x + 1000000) * (t + 1000) ≥ 0 := Int.mul_nonneg (by omega) (by omega)
  have a2 : (1000000 - x) * (1000 - t) ≥ 0 := Int.mul_nonneg (by omega) (by omega)
  have a3 : (x + 1000000) * (1000 - t) ≥ 0 := Int.mul_nonneg (by omega) (by omega)
  have a4 : (1000000 - x) * (t + 1000) ≥ 0 := Int.mul_nonneg (by omega) (by omega)
  simp only [Int.add_mul, Int.sub_mul, Int.mul_add, Int.mul_sub] at a1 a2 a3 a4
  omega

theorem MapIs.congr {D : DataW Unit} {f f' : List Int → Int} {S S' : List (List Int)} (h : MapIs D f S) (hf : ∀ x, f x = f' x) (hS : S = S') : MapIs D f' S' := by
  obtain rfl : f = f' := funext hf
  subst hS
  exact h

/-- To take the entry is to store at the key what it holds, 0 where it is new. -/
theorem entry_is_update {P : Program} {t k e : TypeId} (K : WideMaps.KeyLaw P k) (ht : P.underlying t = some (.map k e)) {z : Value} (hz : ∀ u : World, (zeroValue e).run P u = .ok z u) {w W1 : World} {b : Nat} {es : Array MapEntry} {clock : Nat}
    {R : Value → Option (DataW Unit × List MemPlace)} (hb : w.heap[b]? = some (.map es clock)) (F : WideElems.Fit P k R es clock) {key : Value} {kl : Lit} (hkey : keyOf P k key = some kl) {v0 : Value} {st : Nat}
    (hrun : (Instr.mapEntry t (.map (some b)) key).run P w = .ok (.tuple #[v0, goInt st]) W1) : (Instr.mapUpdate t (.map (some b)) key v0).run P w = .ok () W1 := by
  rcases K.find w hkey es.toList F.keys with ⟨h1, h2⟩ | ⟨j, e0, h1, h2, h3⟩
  · simp [Instr.mapEntry, run_underlying ht, MapKept.run_getObj_map hb, K.check w false hkey, h1, hz, MapKept.run_setObj_map _ hb, Result.andThen] at hrun
    obtain ⟨⟨rfl, _⟩, rfl⟩ := hrun
    simp [Instr.mapUpdate, run_underlying ht, MapKept.run_getObj_map hb, K.check w false hkey, h1, MapKept.run_setObj_map _ hb, Result.andThen]
  · have hj : es[j]? = some e0 := by simpa using h2
    simp [Instr.mapEntry, run_underlying ht, MapKept.run_getObj_map hb, K.check w false hkey, h1, hj, h3, K.stays w hkey, MapKept.run_setObj_map _ hb, Result.andThen] at hrun
    obtain ⟨⟨rfl, _⟩, rfl⟩ := hrun
    have hmod : es.modify j (fun e' => { e' with key := key, val := e0.val }) = es.modify j (fun e' => { e' with key := key }) := by
      apply Array.ext'
      rw [Array.toList_modify, Array.toList_modify, ChangeMaps.modify_eq_set _ _ _ _ h2, ChangeMaps.modify_eq_set _ _ _ _ h2]
    simp [Instr.mapUpdate, run_underlying ht, MapKept.run_getObj_map hb, K.check w false hkey, h1, hj, h3, K.stays w hkey, MapKept.run_setObj_map _ hb, Result.andThen, hmod]

/-- 'm[k] += v' in its steps: the look-up (ahead of the entry or behind it), the entry, the store. -/
theorem bump {P : Program} {t k e : TypeId} (K : WideMaps.KeyLaw P k) (ht : P.underlying t = some (.map k e)) (he : P.underlying e = some (.int .i64)) (hz : ∀ u : World, (zeroValue e).run P u = .ok (.int .i64 0) u) {w : World} {b cnt : Nat} {D : DataW Unit}
    (hown : w.ownsMap P k (plainElem P e) b cnt D) (hcnt : cnt < maxLen) {key : Value} {kl : Lit} (hkey : keyOf P k key = some kl) :
    ∃ c : Int, (Instr.lookup t (.map (some b)) key false).run P w = .ok (.int .i64 c) w ∧ D.atKey kl (.lit (.int .i64 0)) = .lit (.int .i64 c) ∧
      ∀ v : Int, (Lit.int .i64 v).wf = true → ∃ (v0 : Value) (st : Nat) (W1 W2 : World), (Instr.mapEntry t (.map (some b)) key).run P w = .ok (.tuple #[v0, .int .i64 st]) W1 ∧ (Instr.lookup t (.map (some b)) key false).run P W1 = .ok (.int .i64 c) W1 ∧
        (Instr.entryStore t (.map (some b)) (.int .i64 st) (.int .i64 v)).run P W1 = .ok () W2 ∧ W2.ownsMap P k (plainElem P e) b (cnt + 1) (D.put kl (.lit (.int .i64 v))) ∧ w.grownBy W1 (some b) ∧ w.grownBy W2 (some b) := by
  have KK := Keyed.of_law K
  obtain ⟨c, h1, h2, _⟩ := hown.lookup_int KK ht he (hz w) hkey
  refine ⟨c, h1, h2, fun v hv => ?_⟩
  obtain ⟨w', hu, ho, hg⟩ := hown.update KK ht hcnt hkey (plainElem_int he hv)
  have hown' := hown
  obtain ⟨es, clock, hb, F, _, hD⟩ := hown
  obtain ⟨v0, st, es1, clock1, r1, rv, r2⟩ := WideElems.entry_then_store K ht hz hb F hkey
  obtain ⟨es', clock', s1, s2⟩ := r2 (setBlock w b (.map es1 clock1)) (.int .i64 v) (heap_setBlock_at hb _)
  rw [setBlock_twice] at s1
  have e : w' = setBlock w b (.map es' clock') := by rw [s2] at hu; simpa using hu.symm
  subst e
  have hupd := entry_is_update K ht hz hb F hkey r1
  have hv0 : v0 = .int .i64 c := by
    rcases fit_look false KK ht (hz w) hb F hkey with ⟨hrun, hno, _⟩ | ⟨e0, y, hy1, hy2, hrun, _, _, _⟩
    · rw [h1] at hrun
      rcases rv with ⟨e0, he0, hk0, _⟩ | ⟨_, hv⟩
      · exact absurd hk0 (hno e0 he0)
      · rw [hv]; simpa using hrun.symm
    · rw [h1] at hrun
      rcases rv with ⟨e1, he1, hk1, hv⟩ | ⟨hno, _⟩
      · rw [hv, entry_eq_of_key (by have := F.stamped.2.2; rwa [List.Nodup, List.pairwise_map] at this) he1 hy1 (hk1.trans hy2.symm)]; simpa using hrun.symm
      · exact absurd hy2 (hno e0 hy1)
  subst hv0
  have hwc : (Lit.int .i64 c).wf = true := by
    obtain ⟨c', h1', h2', h3'⟩ := hown'.lookup_int KK ht he (hz w) hkey
    rw [h1] at h1'
    simp at h1'
    subst h1'
    exact h3'
  obtain ⟨w'', hu'', ho'', _⟩ := hown'.update KK ht hcnt hkey (plainElem_int he hwc)
  have e : w'' = setBlock w b (.map es1 clock1) := by rw [hupd] at hu''; simpa using hu''.symm
  subst e
  obtain ⟨c2, k1, k2, _⟩ := ho''.lookup_int KK ht he (hz _) hkey
  rw [atKey_put_same hown'.isMap (KK.key hkey)] at k2
  have : c2 = c := by simpa using k2.symm
  subst this
  exact ⟨.int .i64 c2, st, _, _, r1, k1, s1, ho, setBlock_grown _ _ _, hg⟩

end Go.Proofs.Ytlfljfmhhnoinaa
