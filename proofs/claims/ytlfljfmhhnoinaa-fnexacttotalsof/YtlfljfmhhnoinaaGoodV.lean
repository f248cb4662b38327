/- Contracts of impl.withinSum, amountOf, goodGroup, cellsOfKeys, keysOfOneLength. -/
import Derived.Laws.StructEq
import Derived.Test.YtlfljfmhhnoinaaGoodRow
import Derived.Test.YtlfljfmhhnoinaaPlainV
import Derived.Test.YtlfljfmhhnoinaaCompare
namespace Go.Proofs.Ytlfljfmhhnoinaa
open Go.RowKit

theorem trip0 (w : World) (u v x : Value) (t : TypeId) : (w.alloc (.cells #[u, v, x] t)).cell? ⟨w.heap.size, 0, none⟩ = some u := by simp
theorem trip1 (w : World) (u v x : Value) (t : TypeId) : (w.alloc (.cells #[u, v, x] t)).cell? ⟨w.heap.size, 1, none⟩ = some v := by simp
theorem trip2 (w : World) (u v x : Value) (t : TypeId) : (w.alloc (.cells #[u, v, x] t)).cell? ⟨w.heap.size, 2, none⟩ = some x := by simp

theorem withinSum_any (p : Int) (w : World) :
    Calls Try.prog 70 #[.int .i64 p] w fun e w' => e = .returned (.bool (ins p)) ∧ w' = w := by
  by_cases h : -100000000000000 ≤ p
  · go_enter Try.func70, Try.ntmps70
    go_wp2
    go_ret
    exact ⟨ret_bool (by simp [ins, h]), rfl⟩
  · go_enter Try.func70, Try.ntmps70
    go_wp2
    go_ret
    exact ⟨ret_bool (by simp only [ins, decide_eq_false (show ¬ -100000000000000 ≤ p by omega), Bool.false_and]), rfl⟩

theorem amountOf_any (a : Option Addr) (n c : Nat) (x y : Int) (w : World) :
    Calls Try.prog 52 #[.agg #[.slice a n c, .int .i64 x, .int .i64 y]] w fun e w' => e = .returned (.agg #[.int .i64 x, .int .i64 y]) ∧ Below w.heap.size w w' := by
  go_enter Try.func52, Try.ntmps52
  go_wp2
  refine bodyPost_ret (v := .agg #[.int .i64 x, .int .i64 y]) (by simp [results, Try.results52, go_sem]) rfl ⟨rfl, ?_⟩
  exact ((Below.refl _ _).alloc (Nat.le_refl _) _).alloc (by simp) _

set_option maxHeartbeats 1000000 in
theorem goodGroup_any (a : Option Addr) (n c : Nat) (zs : List Int) (x y : Int) (w : World) (hz : zs.length = n) (hn : n ≤ 9223372036854775807) (ha : At w a zs) :
    Calls Try.prog 45 #[.agg #[.slice a n c, .int .i64 x, .int .i64 y]] w fun e w' => e = .returned (.bool (good zs && (ins x && (ins y && !nought x y)))) ∧ Below w.heap.size w w' := by
  have B0 : Below w.heap.size w (w.alloc (.cells #[.slice a n c, .int .i64 x, .int .i64 y] 35)) := (Below.refl _ _).alloc (Nat.le_refl _) _
  have HA := ha.below B0
  clear ha
  obtain ⟨g, HG⟩ : ∃ g : Bool, Hid (good zs = g) := ⟨_, Hid.mk rfl⟩
  obtain ⟨i, HI⟩ : ∃ g : Bool, Hid (ins x = g) := ⟨_, Hid.mk rfl⟩
  obtain ⟨j, HJ⟩ : ∃ g : Bool, Hid (ins y = g) := ⟨_, Hid.mk rfl⟩
  obtain ⟨x0, hx⟩ : ∃ g : Bool, (x == 0) = g := ⟨_, rfl⟩
  obtain ⟨y0, hy⟩ : ∃ g : Bool, (y == 0) = g := ⟨_, rfl⟩
  have HN : Hid (nought x y = (x0 && y0)) := by show _ = _; rw [← hx, ← hy]; by_cases h1 : x = 0 <;> by_cases h2 : y = 0 <;> simp [nought, h1, h2]
  rw [HG.out, HI.out, HJ.out, HN.out]
  cases g <;> cases i <;> cases j <;> cases x0 <;> cases y0
  all_goals
    go_enter Try.func45, Try.ntmps45
    go_wp2_with (first | (go_at_call 50; refine (implGoodRow_any _ _ _ zs _ hz hn HA).mono ?_; rintro e w1 ⟨rfl, hb1⟩; rw [HG.out]; have c0 := cell_later hb1 (trip0 w (.slice a n c) (.int .i64 x) (.int .i64 y) 35); have c1 := cell_later hb1 (trip1 w (.slice a n c) (.int .i64 x) (.int .i64 y) 35); have c2 := cell_later hb1 (trip2 w (.slice a n c) (.int .i64 x) (.int .i64 y) 35); have B1 := B0.trans (hb1.mono B0.size); clear hb1) | (go_at_call_of 70 (Value.int .i64 x); refine (withinSum_any _ _).mono ?_; rintro e w2 ⟨rfl, rfl⟩; rw [HI.out]) | (go_at_call_of 70 (Value.int .i64 y); refine (withinSum_any _ _).mono ?_; rintro e w2 ⟨rfl, rfl⟩; rw [HJ.out]) | (go_at_call 52; refine (amountOf_any _ _ _ _ _ _).mono ?_; rintro e w3 ⟨rfl, hb3⟩; have B3 := B1.trans (hb3.mono B1.size); clear hb3))
    go_ret
    first | exact ⟨rfl, B3⟩ | exact ⟨rfl, B1⟩ | exact ⟨ret_bool (by simp [hx, hy]), B3⟩

theorem cellsOfKeys_any (a : Option Addr) (n c : Nat) (ts : List GRow) (w : World) (hz : ts.length = n) (ha : AtV w a ts) :
    Calls Try.prog 68 #[.slice a n c] w fun e w' => e = .returned (.int .i64 (keyN ts)) ∧ w' = w := by
  by_cases h0 : n = 0
  · subst h0
    obtain rfl := List.eq_nil_of_length_eq_zero hz
    go_enter Try.func68, Try.ntmps68
    go_wp2
    go_ret
    exact ⟨rfl, rfl⟩
  · obtain ⟨b, off, rfl, hc⟩ := ha.some (by omega)
    obtain ⟨q, d, hcx, _, _, hm, _⟩ := hc 0 (by omega)
    have HK : Hid (keyN ts = (gat ts 0).1.length) := rfl
    generalize (gat ts 0).1.length = m at *
    simp only [Nat.zero_mul, Nat.add_zero] at hcx
    have hne : ((n : Int) == 0) = false := by simp; omega
    have hlt : (0 : Int) < (n : Int) := by omega
    clear hc ha
    go_enter Try.func68, Try.ntmps68
    go_wp2
    go_ret
    exact ⟨ret_int (by rw [HK.out]), rfl⟩

set_option maxHeartbeats 1000000 in
theorem keysOfOneLength_any (a : Option Addr) (n c : Nat) (ts : List GRow) (w : World) (hz : ts.length = n) (hn : n ≤ 1048576) (ha : AtV w a ts) :
    Calls Try.prog 44 #[.slice a n c] w fun e w' => e = .returned (.bool (oneLen ts)) ∧ Below w.heap.size w w' := by
  by_cases h0 : n = 0
  · subst h0
    obtain rfl := List.eq_nil_of_length_eq_zero hz
    go_enter Try.func44, Try.ntmps44
    go_wp2
    refine wp_loop_rounds 1 ?_
    rw [rounds_succ]
    go_wp2
    go_ret
    exact ⟨ret_bool rfl, Below.refl _ _⟩
  · go_enter Try.func44, Try.ntmps44
    go_wp2
    go_loopw [7] (fun i wr => ∃ (k : Nat), k ≤ n ∧ i = .int .i64 k ∧ (∀ j, j < k → (gat ts j).1.length = keyN ts) ∧ Below w.heap.size w wr) (fun i _ => n - (intOf i).toNat)
    case atStart => exact ⟨0, Nat.zero_le _, rfl, fun j hj => by omega, Below.refl _ _⟩
    case round =>
      obtain ⟨k, hk, rfl, hall, hbw⟩ := hrel
      by_cases hlt : k < n
      · have HA := ha.below hbw
        obtain ⟨b, off, rfl, hc⟩ := HA.some (by omega)
        obtain ⟨q, d, hcx, hwx, hvx, hm, hat⟩ := hc k (by omega)
        have HN : Hid ((gat ts k).1.length ≠ keyN ts → oneLen ts = false) := fun h => oneLen_not k (by omega) h
        have HS : Hid ((gat ts k).1.length = keyN ts → ∀ j, j < k + 1 → (gat ts j).1.length = keyN ts) := fun h j hj => by
          by_cases e : j = k
          · subst e; exact h
          · exact hall j (by omega)
        generalize gat ts k = Y at *
        obtain ⟨ys, x, y⟩ := Y
        simp only at hcx hwx hvx hat hm HN HS
        obtain ⟨m, hmm⟩ : ∃ m, ys.length = m := ⟨_, rfl⟩
        rw [hmm] at hcx hm HN HS
        obtain ⟨K, hK⟩ : ∃ K, keyN ts = K := ⟨_, rfl⟩
        rw [hK] at HN HS
        have HK := Hid.mk hK
        have hki : (k : Int) < (n : Int) := by omega
        have HA2 := HA.alloc (.cells #[.slice q m d, .int .i64 x, .int .i64 y] 35)
        have B2 := hbw.alloc hbw.size (.cells #[.slice q m d, .int .i64 x, .int .i64 y] 35)
        have CKK : Hid (∀ (cc : Nat) (W : World), AtV W (some ⟨b, off, none⟩) ts → Calls Try.prog 68 #[.slice (some ⟨b, off, none⟩) n cc] W fun e w' => e = .returned (.int .i64 K) ∧ w' = W) := fun cc W h => by
          have := cellsOfKeys_any (some ⟨b, off, none⟩) n cc ts W hz h
          rw [hK] at this
          exact this
        clear hall hc hmm hK ha HA hat
        by_cases he : m = K
        · have hne : ((m : Int) != (K : Int)) = false := by simp [he]
          have HE := Hid.mk he
          clear he
          go_wp2_with fail
          go_quiet ((go_at_call 68; refine Calls.quiet_of_same (CKK.out _ _ HA2)))
          go_wp2
          go_roundw
          case rel => exact ⟨k + 1, by omega, by go_num, by rw [HK.out]; exact HS.out HE.out, below_drewN B2 _⟩
          case measure => simp [intOf]; omega
        · have hne : ((m : Int) != (K : Int)) = true := by simp; omega
          have HE := Hid.mk he
          clear he
          go_wp2_with fail
          go_quiet ((go_at_call 68; refine Calls.quiet_of_same (CKK.out _ _ HA2)))
          go_wp2
          go_ret
          exact ⟨ret_bool (HN.out HE.out).symm, below_drewN B2 _⟩
      · go_wp2
        go_ret
        exact ⟨ret_bool (oneLen_of (fun j hj => hall j (by omega))).symm, hbw⟩

end Go.Proofs.Ytlfljfmhhnoinaa
