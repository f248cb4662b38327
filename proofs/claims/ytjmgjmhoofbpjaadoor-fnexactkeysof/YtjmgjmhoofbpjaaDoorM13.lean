/- Several texts of one proof, in build order: L2Own, RowH, TableH, GoodRow, ArrEq, ArrayOf, Compare, L2Put, TabVar, GoodT, MapA, WSum. -/
import Derived.Test.YtjmgjmhoofbpjaaDoorM3
import Derived.Test.YtjmgjmhoofbpjaaDoorM12
import Derived.Test.YtjmgjmhoofbpjaaDoorM0
import Derived.Test.YtjmgjmhoofbpjaaDoorM11
import Derived.Laws.StructEq
import Derived.Deep.AppendLies
import Derived.WideKeyEntry
import Derived.Deep.RegionHeld3

/- Contract of spec.l2OwnRow. -/
namespace Go.Proofs.YtjmgjmhoofbpjaaDoor
open Go.RowKit

theorem owns_empty (w : World) (e : TypeId) (size : Nat) : (w.alloc (.cells #[] e)).ownsRow w.heap.size e size (.slice (some ⟨w.heap.size, 0, none⟩) 0 0) 0 [] :=
  ⟨by simp, .inr ⟨w.heap.size, 0, #[], rfl, Nat.le_refl _, heap_alloc_new w _, by simp, by simp, by simp, by simp⟩⟩

set_option maxHeartbeats 1000000 in
set_option maxRecDepth 100000 in
theorem l2OwnRow_any (a : Option Addr) (n c : Nat) (zs : List Int) (w : World) (hz : zs.length = n) (hn : n ≤ 1048576) (hnil : a = none → c = 0) (ha : At w a zs) :
    Calls Tryd.prog 60 #[.agg #[.slice a n c]] w fun e w' => ∃ r d, e = .returned (.agg #[.slice r n d]) ∧ w'.ownsRow w.heap.size 3 1 (.slice r n d) n (zs.map (.int .i64)) ∧ Below w.heap.size w w' := by
  obtain ⟨i0, hi, hz0, hz1, hz2⟩ := info_parts Tryd.infoInt
  obtain ⟨W, hW⟩ : ∃ W, W = (w.alloc (.cells #[.slice a n c] 69)).alloc (.cells #[.slice none 0 0] 69) := ⟨_, rfl⟩
  have zW : W.heap.size = w.heap.size + 1 + 1 := by rw [hW]; simp
  have B : Below w.heap.size w W := by rw [hW]; exact ((Below.refl _ _).alloc (Nat.le_refl _) _).alloc (by simp) _
  have c1 : W.cell? ⟨w.heap.size, 0, none⟩ = some (.slice a n c) := by rw [hW]; simp
  have q1 : W.heap[w.heap.size + 1]? = some (.cells #[.slice none 0 0] 69 (0, 0)) := by
    rw [hW]
    have := heap_alloc_new (w.alloc (.cells #[.slice a n c] 69)) (.cells #[.slice none 0 0] 69)
    rwa [World.size_alloc] at this
  have Q1 : (W.alloc (.cells #[] 3)).heap[w.heap.size + 1]? = some (.cells #[.slice none 0 0] 69 (0, 0)) := (Below.heap_alloc _ _ _ (by omega)).trans q1
  have HA := ha.below B
  have HA2 := HA.alloc (.cells #[] 3)
  have OE := owns_empty W 3 1
  clear ha HA
  go_enter Tryd.func60, Tryd.ntmps60
  subst hW
  rw [zW] at OE
  go_wp2_with (at_builtin; refine wpList_append_all rfl (.tmp 3) (.tmp 5) 23 rfl (w.heap.size + 1 + 1) 3 i0 (.int .i64 0) 8 Tryd.underlying23 hi hz0 hz1 hz2 rfl (.slice (some ⟨w.heap.size + 1 + 1, 0, none⟩) 0 0) 0 [] rfl OE a n c zs rfl hz HA2 hnil (by unfold maxLen; omega) (by omega) (by simp) ?_; intro r cap w2 hown2 hgrow2; rw [Nat.zero_add] at hown2; rw [Nat.zero_add]; have hR := (hgrow2.block (w.heap.size + 1) (by simp) (by simp [Value.ownBlock])).trans Q1; have t1 : w2.cell? ⟨w.heap.size + 1, 0, none⟩ = some (.slice none 0 0) := (by rw [cell_of_row w2 _ 0 _ _ (0, 0) hR]; simp); have t2 : w2.frozen? ⟨w.heap.size + 1, 0, none⟩ = false := frozen_of_row w2 _ 0 _ _ hR)
  refine bodyPost_ret (v := .agg #[.slice r n cap]) (by simp [results, Tryd.results60, go_sem, t1]) rfl ⟨r, cap, rfl, ?_, ?_⟩
  · exact owns_mono (ownsRow_setCell_below hown2 (by simp) _) (by omega)
  · exact ((B.alloc (by omega) _).grown hgrow2 (by simp; omega) (fun j hj => by simp [Value.ownBlock] at hj; omega)).setCell (by simp) _

end Go.Proofs.YtjmgjmhoofbpjaaDoor

/- Contracts of the laws' helpers over rows: szRow, toRow, eqRow. -/
namespace Go.Proofs.YtjmgjmhoofbpjaaDoor
open Go.RowKit

theorem eqRow_any (a a' : Option Addr) (n n' c c' : Nat) (zs zs' : List Int) (w : World) (hz : zs.length = n) (hz' : zs'.length = n') (hn : n ≤ 1048576) (hn' : n' ≤ 1048576) (ha : At w a zs) (ha' : At w a' zs') :
    Calls Tryd.prog 77 #[.agg #[.slice a n c], .agg #[.slice a' n' c']] w fun e w' => e = .returned (.bool (decide (zs = zs'))) ∧ Below w.heap.size w w' := by
  have HA := (ha.alloc (.cells #[.slice a n c] 69)).alloc (.cells #[.slice a' n' c'] 69)
  have HA' := (ha'.alloc (.cells #[.slice a n c] 69)).alloc (.cells #[.slice a' n' c'] 69)
  clear ha ha'
  have hd : ∀ d : Bool, decide (zs = zs') = d → Calls Tryd.prog 77 #[.agg #[.slice a n c], .agg #[.slice a' n' c']] w fun e w' => e = .returned (.bool d) ∧ Below w.heap.size w w' := by
    intro d hd
    have HD : Hid (decide (zs = zs') = d) := hd
    clear hd
    cases d
    all_goals
      go_enter Tryd.func77, Tryd.ntmps77
      go_wp2_with (go_at_call 11; refine (eqIntS_any _ _ _ _ _ _ zs zs' _ hz hz' hn hn' HA HA').mono ?_; rintro e w' ⟨rfl, hb⟩; rw [HD.out])
      go_ret
      exact ⟨rfl, (((Below.refl _ _).alloc (Nat.le_refl _) _).alloc (by simp) _).trans (hb.mono (by simp; omega))⟩
  exact hd _ rfl

end Go.Proofs.YtjmgjmhoofbpjaaDoor

/- Contracts of the laws' helpers over weighted rows: szWeighted, szWeightedS, szTable, toWeighted, toWeightedS, toTable. -/
namespace Go.Proofs.YtjmgjmhoofbpjaaDoor
open Go.RowKit

/-- What szWeightedS takes: a slot a row, and the rows' cells. -/
theorem wtot_cells (ts : List WRow) (k : Nat) (h : k ≤ ts.length) : ∃ s : Nat, wtot ts k = k + s := ⟨wtot ts k - k, by have := wtot_len ts k h; omega⟩

theorem Tryd.infoW : (Tryd.prog.info? 72).map (fun i => (i.zero, i.size, i.bytes)) = some (some (.agg #[.slice none 0 0, .int .i64 0]), 2, 32) := by kernel_rfl

end Go.Proofs.YtjmgjmhoofbpjaaDoor

/- Contracts of impl.GoodRow and spec.GoodRow. -/
namespace Go.Proofs.YtjmgjmhoofbpjaaDoor
open Go.RowKit

set_option maxHeartbeats 400000 in
theorem specGoodRow_any (a : Option Addr) (n c : Nat) (zs : List Int) (w : World) (hz : zs.length = n) (hn : n ≤ 9223372036854775807) (ha : At w a zs) :
    Calls Tryd.prog 74 #[.agg #[.slice a n c]] w fun e w' => e = .returned (.bool (good zs)) ∧ Below w.heap.size w w' := by
  by_cases h0 : n = 0
  · subst h0
    obtain rfl := List.eq_nil_of_length_eq_zero hz
    go_enter Tryd.func74, Tryd.ntmps74
    go_wp2
    refine wp_loop_rounds 1 ?_
    rw [rounds_succ]
    go_wp2
    go_ret
    exact ⟨ret_bool (by simp [good]), (Below.refl _ _).alloc (Nat.le_refl _) _⟩
  · obtain ⟨b, off, rfl, hb, hc⟩ := (ha.alloc (.cells #[.slice a n c] 69)).some (by omega)
    clear ha
    go_enter Tryd.func74, Tryd.ntmps74
    go_wp2
    go_loop [8] (fun i => ∃ k : Nat, k ≤ n ∧ i = .int .i64 k ∧ ∀ j, j < k → -100000 ≤ zs.getD j 0 ∧ zs.getD j 0 ≤ 100000) (fun i => n - (intOf i).toNat)
    case atStart => exact ⟨0, Nat.zero_le _, rfl, fun j hj => by omega⟩
    case round =>
      obtain ⟨k, hk, rfl, hall⟩ := hrel
      by_cases hlt : k < n
      · have hcx := hc k (by omega)
        have HN := not_good_cell (zs := zs) k (by omega)
        have HS : Hid (-100000 ≤ zs.getD k 0 → zs.getD k 0 ≤ 100000 → ∀ j, j < k + 1 → -100000 ≤ zs.getD j 0 ∧ zs.getD j 0 ≤ 100000) := fun h1 h2 j hj => by
          by_cases e : j = k
          · subst e; exact ⟨h1, h2⟩
          · exact hall j (by omega)
        clear hall hc
        obtain ⟨x, hx⟩ : ∃ x, x = zs.getD k 0 := ⟨_, rfl⟩
        rw [← hx] at hcx HN HS
        have HN' : Hid (x < -100000 ∨ 100000 < x → good zs = false) := HN
        clear hx HN
        by_cases hlo : x < -100000
        · go_wp2
          go_ret
          exact ⟨ret_bool (HN'.out (.inl hlo)).symm, (Below.refl _ _).alloc (Nat.le_refl _) _⟩
        · by_cases hhi : 100000 < x
          · have hd : decide (x ≤ 100000) = false := by simp; omega
            go_wp2
            go_ret
            exact ⟨ret_bool (HN'.out (.inr hhi)).symm, (Below.refl _ _).alloc (Nat.le_refl _) _⟩
          · have hd : decide (x ≤ 100000) = true := by simp; omega
            go_wp2
            go_round
            case rel => exact ⟨k + 1, by omega, by go_num, HS.out (by omega) (by omega)⟩
            case measure => simp [intOf]; omega
      · by_cases h6 : n ≤ 6
        · have hg := good_of (zs := zs) (by omega) (fun j hj => hall j (by omega))
          clear hall hc
          have HG : Hid (good zs = true) := hg
          clear hg
          go_wp2
          go_ret
          exact ⟨ret_bool (by rw [HG.out]; simp; omega), (Below.refl _ _).alloc (Nat.le_refl _) _⟩
        · have HG : Hid (good zs = false) := good_long (zs := zs) (by omega)
          clear hall hc
          go_wp2
          go_ret
          exact ⟨ret_bool (by rw [HG.out]; simp; omega), (Below.refl _ _).alloc (Nat.le_refl _) _⟩

end Go.Proofs.YtjmgjmhoofbpjaaDoor

/- Two arrays of ints, compared by '==': a law of the model's own equality. -/
namespace Go.Proofs.YtjmgjmhoofbpjaaDoor
open Go.RowKit

def eqParts (d : Nat) (e : TypeId) (n : Nat) (xs ys : Array Value) : List Nat → Sem Bool
  | [] => pure true
  | i :: is => do
    let a ← part e xs (i * n)
    let b ← part e ys (i * n)
    let r ← Op.equalIn d e a b
    if (!r) = true then pure false else eqParts d e n xs ys is

theorem run_equalIn_array {P : Program} (w : World) (d : Nat) (t e : TypeId) (i : TypeInfo) (len : Nat) (ht : P.underlying t = some (.array len e)) (hi : P.info? e = some i) (xs ys : Array Value) :
    (Op.equalIn (d + 1) t (.agg xs) (.agg ys)).run P w = (eqParts d e i.size xs ys (List.range' 0 len)).run P w := by
  simp only [Op.equalIn, Sem.run_bind, run_underlying ht, Result.andThen_ok, sizeOf, typeInfo, run_program, hi, Sem.run_pure]
  rw [Std.Legacy.Range.forIn_eq_forIn_range']
  simp only [Std.Legacy.Range.size, Nat.sub_zero, Nat.add_sub_cancel, Nat.div_one]
  generalize List.range' 0 len = is
  clear ht
  induction is generalizing w with
  | nil => simp [eqParts]
  | cons f fs ih =>
    simp only [List.forIn_cons, eqParts, Sem.run_bind, Sem.run_ite]
    generalize (part e xs (f * i.size)).run P w = r1
    cases r1 with
    | ok a w1 =>
      simp only [Result.andThen_ok]
      generalize (part e ys (f * i.size)).run P w1 = r2
      cases r2 with
      | ok b w2 =>
        simp only [Result.andThen_ok]
        generalize (Op.equalIn d e a b).run P w2 = r3
        cases r3 with
        | ok r w3 =>
          cases r
          · simp only [Result.andThen_ok, Bool.not_false, if_true, Sem.run_pure]
          · simp only [Result.andThen_ok, Bool.not_true, Bool.false_eq_true, if_false, Sem.run_pure]
            exact ih w3
        | halt x w3 => simp [Result.andThen]
      | halt x w2 => simp [Result.andThen]
    | halt x w1 => simp [Result.andThen]

theorem run_eqParts_ints {P : Program} (w : World) (d : Nat) (e : TypeId) (he : P.underlying e = some (.int .i64)) (xs ys : List Int) (is : List Nat) (hx : ∀ i ∈ is, i < xs.length) (hy : ∀ i ∈ is, i < ys.length) :
    (eqParts (d + 1) e 1 (xs.map (Value.int .i64)).toArray (ys.map (Value.int .i64)).toArray is).run P w = .ok (is.all fun i => xs.getD i 0 == ys.getD i 0) w := by
  induction is with
  | nil => simp [eqParts]
  | cons i is ih =>
    have h1 := hx i (by simp)
    have h2 := hy i (by simp)
    have ih' := ih (fun j hj => hx j (by simp [hj])) (fun j hj => hy j (by simp [hj]))
    have p1 : (part e (xs.map (Value.int .i64)).toArray (i * 1)).run P w = .ok (.int .i64 (xs.getD i 0)) w := by simp [part, isAgg, run_underlying he, List.getD, h1]
    have p2 : (part e (ys.map (Value.int .i64)).toArray (i * 1)).run P w = .ok (.int .i64 (ys.getD i 0)) w := by simp [part, isAgg, run_underlying he, List.getD, h2]
    simp only [eqParts, Sem.run_bind, p1, p2, Result.andThen_ok, run_equalIn_int w d e .i64 .i64 _ _ he, Sem.run_ite, ih']
    cases h : (xs.getD i 0 == ys.getD i 0) <;> simp [Sem.run_pure]
    all_goals (simp at h; simp [h])

theorem all_range_eq (xs ys : List Int) (h : xs.length = ys.length) : ((List.range' 0 xs.length).all fun i => xs.getD i 0 == ys.getD i 0) = decide (xs = ys) := by
  rw [Bool.eq_iff_iff, List.all_eq_true, decide_eq_true_eq]
  constructor
  · intro hall
    apply List.ext_getElem h
    intro i h1 h2
    have := hall i (by simp; omega)
    simpa [List.getD, h1, h2] using this
  · rintro rfl i _
    simp

theorem run_equal_ints {P : Program} {len : Nat} (w : World) (d : Nat) (t e : TypeId) (i : TypeInfo) (ht : P.underlying t = some (.array len e)) (he : P.underlying e = some (.int .i64)) (hi : P.info? e = some i) (hs : i.size = 1)
    (xs ys : List Int) (hx : xs.length = len) (hy : ys.length = len) :
    (Op.equalIn (d + 1 + 1) t (.agg (xs.map (Value.int .i64)).toArray) (.agg (ys.map (Value.int .i64)).toArray)).run P w = .ok (decide (xs = ys)) w := by
  rw [run_equalIn_array w (d + 1) t e i len ht hi, hs, run_eqParts_ints w d e he xs ys _ (by simp; omega) (by simp; omega), ← hx, all_range_eq xs ys (by omega)]

end Go.Proofs.YtjmgjmhoofbpjaaDoor

/- Contract of impl.arrayOf. -/
namespace Go.Proofs.YtjmgjmhoofbpjaaDoor
open Go.RowKit

end Go.Proofs.YtjmgjmhoofbpjaaDoor

/- Contracts of spec.l1Compare, impl.compareArrays. -/
namespace Go.Proofs.YtjmgjmhoofbpjaaDoor
open Go.RowKit

set_option maxHeartbeats 1000000 in
theorem l1Compare_any (a a' : Option Addr) (n n' c c' : Nat) (xs ys : List Int) (w : World) (hz : xs.length = n) (hz' : ys.length = n') (hn : n ≤ 6) (hn' : n' ≤ 6) (ha : At w a xs) (ha' : At w a' ys) :
    Calls Tryd.prog 76 #[.agg #[.slice a n c], .agg #[.slice a' n' c']] w fun e w' => e = .returned (.int .i64 (cmp xs ys)) ∧ Below w.heap.size w w' := by
  obtain ⟨W, hW⟩ : ∃ W, W = (w.alloc (.cells #[.slice a n c] 69)).alloc (.cells #[.slice a' n' c'] 69) := ⟨_, rfl⟩
  have B : Below w.heap.size w W := by rw [hW]; exact ((Below.refl _ _).alloc (Nat.le_refl _) _).alloc (by simp) _
  have HA : At W a xs := ha.below B
  have HA' : At W a' ys := ha'.below B
  have c1 : W.cell? ⟨w.heap.size, 0, none⟩ = some (.slice a n c) := by rw [hW]; simp
  have c2 : W.cell? ⟨w.heap.size + 1, 0, none⟩ = some (.slice a' n' c') := by rw [hW]; simp
  have z2 : W.heap.size = w.heap.size + 1 + 1 := by rw [hW]; simp
  clear ha ha'
  go_enter Tryd.func76, Tryd.ntmps76
  go_wp2
  rw [← hW]
  clear hW
  go_loopw [5] (fun i wr => ∃ k : Nat, k ≤ n ∧ k ≤ n' ∧ i = .int .i64 k ∧ cmp xs ys = cmp (xs.drop k) (ys.drop k) ∧ Below W.heap.size W wr) (fun i _ => 7 - (intOf i).toNat)
  case atStart => exact ⟨0, Nat.zero_le _, Nat.zero_le _, rfl, by simp, Below.refl _ _⟩
  case round =>
    obtain ⟨k, hk, hk', rfl, hcmp, hbw⟩ := hrel
    have d1 := cell_later hbw c1
    have d2 := cell_later hbw c2
    have BW : Below w.heap.size w wr := B.trans (hbw.mono B.size)
    have HC : Hid (cmp xs ys = cmp (xs.drop k) (ys.drop k)) := hcmp
    clear hcmp
    by_cases hlt : k < n
    · by_cases hlt' : k < n'
      · obtain ⟨b, off, rfl, hb, hc⟩ := (HA.below hbw).some (by omega)
        obtain ⟨b', off', rfl, hb', hc'⟩ := (HA'.below hbw).some (by omega)
        have hcx := hc k (by omega)
        have hcy := hc' k (by omega)
        have HD : Hid (cmp xs ys = _) := HC.out.trans (cmp_drop xs ys k (by omega) (by omega))
        clear hc hc' HC HA HA' c1 c2 z2
        obtain ⟨x, hx⟩ : ∃ x, x = xs.getD k 0 := ⟨_, rfl⟩
        obtain ⟨y, hy⟩ : ∃ y, y = ys.getD k 0 := ⟨_, rfl⟩
        rw [← hx] at hcx HD
        rw [← hy] at hcy HD
        clear hx hy
        by_cases hxy : x < y
        · go_wp2
          go_quiet (fail)
          go_wp2
          go_ret
          exact ⟨ret_int (by rw [HD.out, if_pos hxy]), below_drewN BW _⟩
        · go_wp2
          go_quiet (fail)
          go_wp2
          by_cases hyx : y < x
          · go_quiet (fail)
            go_wp2
            go_ret
            exact ⟨ret_int (by rw [HD.out, if_neg (by omega), if_pos hyx]), below_drewN (below_drewN BW _) _⟩
          · go_quiet (fail)
            go_wp2
            go_roundw
            case rel => exact ⟨k + 1, by omega, by omega, by go_num, by rw [HD.out, if_neg (by omega), if_neg (by omega)], below_drewN hbw _⟩
            case measure => simp [intOf]; omega
      · have HE : Hid (cmp xs ys = _) := HC.out.trans (cmp_end xs ys k (by omega) (by omega) (by omega))
        have hg : ¬ n < n' := by omega
        have hg' : n' < n := by omega
        go_wp2
        go_ret
        exact ⟨ret_int (by rw [HE.out, if_neg (by omega), if_pos (by omega)]), BW⟩
    · have HE : Hid (cmp xs ys = _) := HC.out.trans (cmp_end xs ys k (by omega) (by omega) (by omega))
      by_cases hg : n < n'
      · go_wp2
        go_ret
        exact ⟨ret_int (by rw [HE.out, if_pos (by omega)]), BW⟩
      · have hg' : n = n' := by omega
        subst hg'
        go_wp2
        go_ret
        exact ⟨ret_int (by rw [HE.out, if_neg (by omega), if_neg (by omega)]), BW⟩

end Go.Proofs.YtjmgjmhoofbpjaaDoor

/- Contract of spec.l2Put. -/
namespace Go.Proofs.YtjmgjmhoofbpjaaDoor
open Go.RowKit

theorem atM_cells {w : World} {b off : Nat} {ts : List WRow} (h : AtM w (some ⟨b, off, none⟩) ts) : ∃ cs, Means w cs ts ∧ ∀ j u, cs[j]? = some u → w.cell? ⟨b, off + j, none⟩ = some u := by
  rcases h with rfl | ⟨b', off', cs, he, hm, hc⟩
  · exact ⟨[], trivial, fun j u h => by simp at h⟩
  · simp only [Option.some.injEq, Addr.mk.injEq, and_true] at he
    obtain ⟨rfl, rfl⟩ := he
    exact ⟨cs, hm, hc⟩
theorem take_cells {cs : List Value} {w : World} {b off : Nat} (hc : ∀ j u, cs[j]? = some u → w.cell? ⟨b, off + j, none⟩ = some u) (k : Nat) : ∀ j u, (cs.take k)[j]? = some u → w.cell? ((⟨b, off, none⟩ : Addr).add j) = some u := fun j u hj => by
  rw [Addr.add_lit]
  refine hc j u ?_
  rw [List.getElem?_take] at hj
  split at hj
  · exact hj
  · cases hj
theorem drop_cells {cs : List Value} {w : World} {b off : Nat} (hc : ∀ j u, cs[j]? = some u → w.cell? ⟨b, off + j, none⟩ = some u) (k : Nat) : ∀ j u, (cs.drop k)[j]? = some u → w.cell? ((⟨b, off + k, none⟩ : Addr).add j) = some u := fun j u hj => by
  rw [Addr.add_lit]
  rw [List.getElem?_drop] at hj
  rw [show off + k + j = off + (k + j) by omega]
  exact hc _ _ hj
theorem owns_cap {w : World} {base : Nat} {e : TypeId} {size : Nat} {a : Option Addr} {n c : Nat} {xs : List Value} (h : w.ownsRow base e size (.slice a n c) n xs) : n ≤ c := by
  rcases h.2 with ⟨h', h0⟩ | ⟨g, cap, cur, h', _, _, h1, _⟩
  · simp at h'; omega
  · simp at h'; omega
/-- A slice's head as Go makes them. -/
def Formed (a : Option Addr) (n c : Nat) : Prop := n ≤ c ∧ (a = none → c = 0) ∧ ∀ ad, a = some ad → ∃ b off, ad = ⟨b, off, none⟩
theorem Formed.nil : Formed none 0 0 := ⟨Nat.le_refl _, fun _ => rfl, fun _ h => by cases h⟩
theorem Formed.some {b off n c : Nat} (h : n ≤ c) : Formed (Option.some ⟨b, off, none⟩) n c := ⟨h, fun h => (by cases h), fun ad h => ⟨b, off, by cases h; rfl⟩⟩
theorem owns_formed {w : World} {base : Nat} {e : TypeId} {size : Nat} {a : Option Addr} {n c : Nat} {xs : List Value} (h : w.ownsRow base e size (.slice a n c) n xs) : Formed a n c := by
  rcases h.2 with ⟨h', h0⟩ | ⟨g, cap, cur, h', _, _, h1, _⟩
  · simp at h'
    obtain ⟨rfl, rfl, rfl⟩ := h'
    exact Formed.nil
  · simp at h'
    obtain ⟨rfl, rfl⟩ := h'
    exact Formed.some h1
theorem oneW_no {zs : List Int} {x : Int} (h : x = 0) : oneW zs x = [] := if_pos h
theorem oneW_yes {zs : List Int} {x : Int} (h : x ≠ 0) : oneW zs x = [(zs, x)] := if_neg h

end Go.Proofs.YtjmgjmhoofbpjaaDoor

/- A variable that holds a table: its block, and the rows that the call owns. -/
namespace Go.Proofs.YtjmgjmhoofbpjaaDoor
open Go.RowKit

/-- A variable of a table (block T): its columns, and its rows, the call's own from T + 1 on. -/
def TabVar (w : World) (T : Nat) (p : Int) (r : Option Addr) (k d : Nat) (ts : List WRow) (cells : List Value) : Prop :=
  w.heap[T]? = some (.cells #[.int .i64 p, .slice r k d] 40 (0, 0)) ∧ OwnW w (T + 1) w.heap.size 72 3 r k d ts cells

section
variable {w w' : World} {T : Nat} {p : Int} {r : Option Addr} {k d : Nat} {ts : List WRow} {cells : List Value}

theorem TabVar.lt (h : TabVar w T p r k d ts cells) : T < w.heap.size := (Array.getElem?_eq_some_iff.1 h.1).1
theorem TabVar.cell0 (h : TabVar w T p r k d ts cells) : w.cell? ⟨T, 0, none⟩ = some (.int .i64 p) := by rw [cell_of_row w T 0 _ _ (0, 0) h.1]; rfl
theorem TabVar.cell1 (h : TabVar w T p r k d ts cells) : w.cell? ⟨T, 1, none⟩ = some (.slice r k d) := by rw [cell_of_row w T 1 _ _ (0, 0) h.1]; rfl
theorem TabVar.frozen1 (h : TabVar w T p r k d ts cells) : w.frozen? ⟨T, 1, none⟩ = false := frozen_of_row w T 1 _ _ h.1
theorem TabVar.below (h : TabVar w T p r k d ts cells) (hb : Below w.heap.size w w') : TabVar w' T p r k d ts cells :=
  ⟨(hb.block T h.lt).trans h.1, (h.2.below hb).widen (Nat.le_refl _) hb.size (Nat.le_refl _)⟩
theorem TabVar.drew (h : TabVar w T p r k d ts cells) : TabVar w.drew T p r k d ts cells := h.below (Below.refl _ _).drew
theorem TabVar.new (w : World) (p : Int) : TabVar (w.alloc (.cells #[.int .i64 p, .slice none 0 0] 40)) w.heap.size p none 0 0 [] [] :=
  ⟨heap_alloc_new w _, OwnWk.start rfl (Nat.le_refl _) (World.ownsRow_nil _ _ _ _) (fun b hb => by cases hb)⟩
theorem TabVar.own (h : TabVar w T p r k d ts cells) : w.ownsRow (T + 1) 72 2 (.slice r k d) k cells := h.2.outer

theorem TabVar.pushed {w2 w4 : World} {a' : Option Addr} {m c' g cap : Nat} {zs : List Int} {x : Int} {o : Obj} (h : TabVar w T p r k d ts cells) (hb : Below w.heap.size w w2)
    (hm : zs.length = m) (hrow : w2.ownsRow w.heap.size 3 1 (.slice a' m c') m (zs.map (.int .i64)))
    (hown : w4.ownsRow (T + 1) 72 2 (.slice (some ⟨g, 0, none⟩) (k + 1) cap) (k + 1) (cells ++ [.slice a' m c', .int .i64 x])) (hgr : (w2.alloc o).grownBy w4 (Value.slice r k d).ownBlock)
    (hat : (Value.slice r k d).ownBlock = some g ∨ g = w2.heap.size + 1) (hlt : g < w4.heap.size) :
    w4.cell? ⟨T, 1, none⟩ = some (.slice r k d) ∧ w4.frozen? ⟨T, 1, none⟩ = false ∧ TabVar (w4.setCell ⟨T, 1, none⟩ (.slice (some ⟨g, 0, none⟩) (k + 1) cap)) T p (some ⟨g, 0, none⟩) (k + 1) cap (ts ++ [(zs, x)]) (cells ++ [.slice a' m c', .int .i64 x]) := by
  have hT := h.lt
  have h2 := hb.size
  have hne : some T ≠ (Value.slice r k d).ownBlock := fun e => by have := (h.own.lt T e.symm).1; omega
  have hR : w4.heap[T]? = some (.cells #[.int .i64 p, .slice r k d] 40 (0, 0)) := by
    rw [hgr.block T (by simp; omega) hne, Below.heap_alloc w2 o T (by omega), hb.block T hT]
    exact h.1
  refine ⟨by rw [cell_of_row w4 T 1 _ _ (0, 0) hR]; rfl, frozen_of_row w4 T 1 _ _ hR, ?_, ?_⟩
  · rw [heap_setCell_same w4 T 1 _ _ _ hR]; rfl
  · have hp := h.2.pushed (by omega) hb hm hrow hown hgr hat hlt
    exact (hp.setCell (a0 := ⟨T, 1, none⟩) (.inl (by show T < T + 1; omega)) _).widen (Nat.le_refl _) (by simp [World.setCell]) (Nat.le_refl _)

theorem TabVar.pushed_below {w2 w4 : World} {o : Obj} {B : Nat} {W : World} {v : Value} (h : TabVar w T p r k d ts cells) (hb : Below w.heap.size w w2)
    (hgr : (w2.alloc o).grownBy w4 (Value.slice r k d).ownBlock) (hB : Below B W w) (hBT : B ≤ T) : Below B W (w4.setCell ⟨T, 1, none⟩ v) := by
  have hT := h.lt
  have h2 := hb.size
  exact (((hB.trans (hb.mono (by omega))).alloc (by omega) o).grown hgr (by simp; omega) (fun j hj => by have := (h.own.lt j hj).1; omega)).setCell hBT _
end

/-- What a function that tells a table hands back. -/
def TabRet (e : Ending) (w' : World) (lo : Nat) (ok : Bool) (p : Int) (ts : List WRow) : Prop :=
  ∃ r m d cells, e = .returned (.tuple #[.agg #[.int .i64 p, .slice r m d], .bool ok]) ∧ OwnW w' lo w'.heap.size 72 3 r m d ts cells

/-- The columns and the rows that are told, nothing where they are no good table. -/
def tellP (p : Int) (ts : List WRow) : Int := if goodT p ts then p else 0
def tellT (p : Int) (ts : List WRow) : List WRow := if goodT p ts then ts else []

end Go.Proofs.YtjmgjmhoofbpjaaDoor

/- Contracts of impl.goodColumns, impl.goodWeight, impl.goodWeighted, impl.GoodTable. -/
namespace Go.Proofs.YtjmgjmhoofbpjaaDoor
open Go.RowKit

end Go.Proofs.YtjmgjmhoofbpjaaDoor

/- Contracts of impl.weights.add, impl.sumsOf. -/
namespace Go.Proofs.YtjmgjmhoofbpjaaDoor
open Go.RowKit Go.Maps
open Go.ChangeMaps (setBlock)

theorem Tryd.zeroInt (w : World) : (zeroValue 3).run Tryd.prog w = .ok (.int .i64 0) w := by kernel_rfl

theorem setBlock_twice (w : World) (b : Nat) (o o' : Obj) : setBlock (setBlock w b o) b o' = setBlock w b o' := by simp [setBlock]
theorem heap_setBlock_at {w : World} {b : Nat} {es : Array MapEntry} {clock : Nat} (hb : w.heap[b]? = some (.map es clock)) (o : Obj) : (setBlock w b o).heap[b]? = some o := by
  have := (Array.getElem?_eq_some_iff.1 hb).1
  simp [setBlock, this]
theorem setBlock_grown (w : World) (b : Nat) (o : Obj) : w.grownBy (setBlock w b o) (some b) :=
  ⟨rfl, rfl, rfl, by simp [setBlock], fun k _ hn => by simp [setBlock, show b ≠ k from fun e => hn (by rw [e])]⟩

theorem mul_bound {x t : Int} (h1 : -1000000 ≤ x) (h2 : x ≤ 1000000) (h3 : -1000 ≤ t) (h4 : t ≤ 1000) : -1000000000 ≤ x * t ∧ x * t ≤ 1000000000 := by
  have a1 : (x + 1000000) * (t + 1000) ≥ 0 := Int.mul_nonneg (by omega) (by omega)
  have a2 : (1000000 - x) * (1000 - t) ≥ 0 := Int.mul_nonneg (by omega) (by omega)
  have a3 : (x + 1000000) * (1000 - t) ≥ 0 := Int.mul_nonneg (by omega) (by omega)
  have a4 : (1000000 - x) * (t + 1000) ≥ 0 := Int.mul_nonneg (by omega) (by omega)
  simp only [Int.add_mul, Int.sub_mul, Int.mul_add, Int.mul_sub] at a1 a2 a3 a4
  omega

theorem MapIs.congr {D : DataW Unit} {f f' : List Int → Int} {S S' : List (List Int)} (h : MapIs D f S) (hf : ∀ x, f x = f' x) (hS : S = S') : MapIs D f' S' := by
  obtain rfl : f = f' := funext hf
  subst hS
  exact h

/-- To take the entry is to store at the key what it holds, 0 where it is new. -/
theorem entry_is_update {P : Program} {t k e : TypeId} (K : WideMaps.KeyLaw P k) (ht : P.underlying t = some (.map k e)) {z : Value} (hz : ∀ u : World, (zeroValue e).run P u = .ok z u) {w W1 : World} {b : Nat} {es : Array MapEntry} {clock : Nat}
    {R : Value → Option (DataW Unit × List MemPlace)} (hb : w.heap[b]? = some (.map es clock)) (F : WideElems.Fit P k R es clock) {key : Value} {kl : Lit} (hkey : keyOf P k key = some kl) {v0 : Value} {st : Nat}
    (hrun : (Instr.mapEntry t (.map (some b)) key).run P w = .ok (.tuple #[v0, goInt st]) W1) : (Instr.mapUpdate t (.map (some b)) key v0).run P w = .ok () W1 := by
  rcases K.find w hkey es.toList F.keys with ⟨h1, h2⟩ | ⟨j, e0, h1, h2, h3⟩
  · simp [Instr.mapEntry, run_underlying ht, MapKept.run_getObj_map hb, K.check w false hkey, h1, hz, MapKept.run_setObj_map _ hb, Result.andThen] at hrun
    obtain ⟨⟨rfl, _⟩, rfl⟩ := hrun
    simp [Instr.mapUpdate, run_underlying ht, MapKept.run_getObj_map hb, K.check w false hkey, h1, MapKept.run_setObj_map _ hb, Result.andThen]
  · have hj : es[j]? = some e0 := by simpa using h2
    simp [Instr.mapEntry, run_underlying ht, MapKept.run_getObj_map hb, K.check w false hkey, h1, hj, h3, K.stays w hkey, MapKept.run_setObj_map _ hb, Result.andThen] at hrun
    obtain ⟨⟨rfl, _⟩, rfl⟩ := hrun
    have hmod : es.modify j (fun e' => { e' with key := key, val := e0.val }) = es.modify j (fun e' => { e' with key := key }) := by
      apply Array.ext'
      rw [Array.toList_modify, Array.toList_modify, ChangeMaps.modify_eq_set _ _ _ _ h2, ChangeMaps.modify_eq_set _ _ _ _ h2]
    simp [Instr.mapUpdate, run_underlying ht, MapKept.run_getObj_map hb, K.check w false hkey, h1, hj, h3, K.stays w hkey, MapKept.run_setObj_map _ hb, Result.andThen, hmod]

/-- 'm[k] += v' in its steps: the look-up (ahead of the entry or behind it), the entry, the store. -/
theorem bump {P : Program} {t k e : TypeId} (K : WideMaps.KeyLaw P k) (ht : P.underlying t = some (.map k e)) (he : P.underlying e = some (.int .i64)) (hz : ∀ u : World, (zeroValue e).run P u = .ok (.int .i64 0) u) {w : World} {b cnt : Nat} {D : DataW Unit}
    (hown : w.ownsMap P k (plainElem P e) b cnt D) (hcnt : cnt < maxLen) {key : Value} {kl : Lit} (hkey : keyOf P k key = some kl) :
    ∃ c : Int, (Instr.lookup t (.map (some b)) key false).run P w = .ok (.int .i64 c) w ∧ D.atKey kl (.lit (.int .i64 0)) = .lit (.int .i64 c) ∧
      ∀ v : Int, (Lit.int .i64 v).wf = true → ∃ (v0 : Value) (st : Nat) (W1 W2 : World), (Instr.mapEntry t (.map (some b)) key).run P w = .ok (.tuple #[v0, .int .i64 st]) W1 ∧ (Instr.lookup t (.map (some b)) key false).run P W1 = .ok (.int .i64 c) W1 ∧
        (Instr.entryStore t (.map (some b)) (.int .i64 st) (.int .i64 v)).run P W1 = .ok () W2 ∧ W2.ownsMap P k (plainElem P e) b (cnt + 1) (D.put kl (.lit (.int .i64 v))) ∧ w.grownBy W1 (some b) ∧ w.grownBy W2 (some b) := by
  have KK := Keyed.of_law K
  obtain ⟨c, h1, h2, _⟩ := hown.lookup_int KK ht he (hz w) hkey
  refine ⟨c, h1, h2, fun v hv => ?_⟩
  obtain ⟨w', hu, ho, hg⟩ := hown.update KK ht hcnt hkey (plainElem_int he hv)
  have hown' := hown
  obtain ⟨es, clock, hb, F, _, hD⟩ := hown
  obtain ⟨v0, st, es1, clock1, r1, rv, r2⟩ := WideElems.entry_then_store K ht hz hb F hkey
  obtain ⟨es', clock', s1, s2⟩ := r2 (setBlock w b (.map es1 clock1)) (.int .i64 v) (heap_setBlock_at hb _)
  rw [setBlock_twice] at s1
  have e : w' = setBlock w b (.map es' clock') := by rw [s2] at hu; simpa using hu.symm
  subst e
  have hupd := entry_is_update K ht hz hb F hkey r1
  have hv0 : v0 = .int .i64 c := by
    rcases fit_look false KK ht (hz w) hb F hkey with ⟨hrun, hno, _⟩ | ⟨e0, y, hy1, hy2, hrun, _, _, _⟩
    · rw [h1] at hrun
      rcases rv with ⟨e0, he0, hk0, _⟩ | ⟨_, hv⟩
      · exact absurd hk0 (hno e0 he0)
      · rw [hv]; simpa using hrun.symm
    · rw [h1] at hrun
      rcases rv with ⟨e1, he1, hk1, hv⟩ | ⟨hno, _⟩
      · rw [hv, entry_eq_of_key (by have := F.stamped.2.2; rwa [List.Nodup, List.pairwise_map] at this) he1 hy1 (hk1.trans hy2.symm)]; simpa using hrun.symm
      · exact absurd hy2 (hno e0 hy1)
  subst hv0
  have hwc : (Lit.int .i64 c).wf = true := by
    obtain ⟨c', h1', h2', h3'⟩ := hown'.lookup_int KK ht he (hz w) hkey
    rw [h1] at h1'
    simp at h1'
    subst h1'
    exact h3'
  obtain ⟨w'', hu'', ho'', _⟩ := hown'.update KK ht hcnt hkey (plainElem_int he hwc)
  have e : w'' = setBlock w b (.map es1 clock1) := by rw [hupd] at hu''; simpa using hu''.symm
  subst e
  obtain ⟨c2, k1, k2, _⟩ := ho''.lookup_int KK ht he (hz _) hkey
  rw [atKey_put_same hown'.isMap (KK.key hkey)] at k2
  have : c2 = c := by simpa using k2.symm
  subst this
  exact ⟨.int .i64 c2, st, _, _, r1, k1, s1, ho, setBlock_grown _ _ _, hg⟩

end Go.Proofs.YtjmgjmhoofbpjaaDoor

/- Plain: what is told by summing weights up, and by putting them one by one, is one list. -/
namespace Go.Proofs.YtjmgjmhoofbpjaaDoor
open Go.RowKit

/-- What a function that tells a table or nothing hands back. -/
def ansP (ok : Bool) (p : Int) : Int := if ok then p else 0
def ansT (ok : Bool) (ts : List WRow) : List WRow := if ok then ts else []
def TabAns (e : Ending) (w' : World) (lo : Nat) (ok : Bool) (p : Int) (ts : List WRow) : Prop := TabRet e w' lo ok (ansP ok p) (ansT ok ts)

theorem TabAns.zero {e : Ending} {w' : World} {lo : Nat} {ok : Bool} {p : Int} {ts : List WRow} (h : ok = false) (he : e = .returned (.tuple #[.agg #[.int .i64 0, .slice none 0 0], .bool false])) : TabAns e w' lo ok p ts := by
  subst h
  exact ⟨none, 0, 0, [], he, OwnWk.start rfl (Nat.le_refl _) (World.ownsRow_nil _ _ _ _) (fun b hb => by cases hb)⟩
theorem TabAns.tell {e : Ending} {w' : World} {lo : Nat} {ok : Bool} {p : Int} {ts : List WRow} (h : ok = goodT p ts) (hr : TabRet e w' lo (goodT p ts) (tellP p ts) (tellT p ts)) : TabAns e w' lo ok p ts := by
  subst h; exact hr

/-- What NewTable tells. -/
def newB (p : Int) (l : List WRow) : Bool := inc p && (decide (l.length ≤ 200) && (goodL p l && goodT p (putAll [] l)))
theorem newB_col {p : Int} {l : List WRow} (h : inc p = false) : newB p l = false := by simp [newB, h]
theorem newB_len {p : Int} {l : List WRow} (h : 200 < l.length) : newB p l = false := by
  have : decide (l.length ≤ 200) = false := by simp; omega
  simp [newB, this]
theorem newB_list {p : Int} {l : List WRow} (h : goodL p l = false) : newB p l = false := by simp [newB, h]
theorem newB_good {p : Int} {l : List WRow} (h1 : inc p = true) (h2 : l.length ≤ 200) (h3 : goodL p l = true) : newB p l = goodT p (putAll [] l) := by simp [newB, h1, h2, h3]

theorem keysTo_mem {ts : List WRow} {k : Nat} {a : List Int} (h : a ∈ keysTo ts k) : ∃ t ∈ ts, a = raised t.1 := by
  unfold keysTo at h
  rw [List.mem_reverse] at h
  obtain ⟨t, ht, rfl⟩ := List.mem_map.1 h
  exact ⟨t, List.mem_of_mem_take ht, rfl⟩
theorem goodL_mem {p : Int} {ts : List WRow} (h : goodL p ts = true) : ∀ t ∈ ts, good t.1 = true ∧ (t.1.length : Int) = p ∧ -1000000 ≤ t.2 ∧ t.2 ≤ 1000000 := fun t ht => goodW_cells (List.all_eq_true.1 h t ht)
theorem keys_list {q : Nat} {ts : List WRow} (h : goodL q ts = true) (k : Nat) : Keys q (keysTo ts k) := fun a ha => by
  obtain ⟨t, ht, rfl⟩ := keysTo_mem ha
  have := goodL_mem h t ht
  exact ⟨t.1, this.1, by omega, rfl⟩
theorem keys_append {q : Nat} {S S' : List (List Int)} (h : Keys q S) (h' : Keys q S') : Keys q (S ++ S') := fun a ha => by
  rcases List.mem_append.1 ha with ha | ha
  · exact h a ha
  · exact h' a ha

theorem Tells.unique {q : Nat} {f : List Int → Int} {ts us : List WRow} (h : Tells q f ts) (k : Tells q f us) : ts = us := by
  refine rises_ext h.rises k.rises h.noZero k.noZero fun zs => ?_
  by_cases e : good zs = true ∧ zs.length = q
  · rw [h.weight zs e.1 e.2, k.weight zs e.1 e.2]
  · rw [wOf_absent fun t ht e' => e (by rw [← e']; exact h.rows t ht), wOf_absent fun t ht e' => e (by rw [← e']; exact k.rows t ht)]

/-- The sum by arrays is the sum by rows. -/
theorem sumAt_sumW {ts : List WRow} {zs : List Int} {n : Nat} (hn : ts.length = n) (times : Int) (hg : ∀ t ∈ ts, good t.1 = true) (hz : good zs = true) : sumAt ts n times (raised zs) = sumW ts zs * times := by
  unfold sumAt sumW
  rw [List.take_of_length_le (by omega)]
  clear hn
  induction ts with
  | nil => simp
  | cons t ts ih =>
    rw [List.map_cons, List.map_cons, List.sum_cons, List.sum_cons, ih fun s hs => hg s (by simp [hs]), Int.add_mul]
    congr 1
    by_cases e : t.1 = zs
    · rw [if_pos e, if_pos (by rw [e])]
    · rw [if_neg e, if_neg (fun h => e (raised_inj (hg t (by simp)) hz h))]; simp

theorem sumW_absent {ts : List WRow} {zs : List Int} (h : ∀ t ∈ ts, t.1 ≠ zs) : sumW ts zs = 0 := by
  unfold sumW
  induction ts with
  | nil => rfl
  | cons t ts ih => rw [List.map_cons, List.sum_cons, if_neg (h t (by simp)), ih fun s hs => h s (by simp [hs])]; rfl
theorem sumW_rises {ts : List WRow} {zs : List Int} (h : Rises ts) : sumW ts zs = wOf ts zs := by
  induction ts with
  | nil => rfl
  | cons t ts ih =>
    obtain ⟨h1, h2⟩ := List.pairwise_cons.1 h
    have e : sumW (t :: ts) zs = (if t.1 = zs then t.2 else 0) + sumW ts zs := by simp [sumW]
    rw [e, ih h2, wOf_cons]
    by_cases e2 : t.1 = zs
    · rw [if_pos e2, if_pos e2, wOf_absent fun s hs e3 => cmp_ne (h1 s hs) (e2.trans e3.symm)]; omega
    · rw [if_neg e2, if_neg e2]; omega

theorem tells_put {q : Nat} {f : List Int → Int} {ts l : List WRow} (hr : Rises ts) (hn : NoZero ts) (hrow : ∀ t ∈ ts, good t.1 = true ∧ t.1.length = q) (hl : ∀ t ∈ l, good t.1 = true ∧ t.1.length = q)
    (hf : ∀ zs, good zs = true → zs.length = q → f (raised zs) = wOf ts zs + sumW l zs) : Tells q f (putAll ts l) where
  rises := putAll_rises hr
  noZero := putAll_nozero hn
  rows := fun t ht => by
    rcases putAll_rows ht with ⟨s, hs, e⟩ | ⟨s, hs, e⟩
    · rw [← e]; exact hrow s hs
    · rw [← e]; exact hl s hs
  weight := fun zs h1 h2 => by rw [putAll_wOf zs hr, hf zs h1 h2]

theorem tells_new {q n : Nat} {ts : List WRow} (hz : ts.length = n) (h : goodL q ts = true) : Tells q (sumAt ts n 1) (putAll [] ts) :=
  tells_put List.Pairwise.nil (fun t ht => by cases ht) (fun t ht => by cases ht) (fun t ht => by have := goodL_mem h t ht; exact ⟨this.1, by omega⟩)
    fun zs h1 _ => by rw [sumAt_sumW hz 1 (fun t ht => (goodL_mem h t ht).1) h1, wOf_nil]; omega

end Go.Proofs.YtjmgjmhoofbpjaaDoor
