/- Several texts of one proof, in build order: RowOf, GoodV, GrpO. -/
import Derived.Test.YtlfljfmhhnoinaaM6
import Derived.Deep.AppendLies
import Derived.Deep.RegionLaw
import Derived.Laws.StructEq
import Derived.Test.YtlfljfmhhnoinaaM4
import Derived.Test.YtlfljfmhhnoinaaM7
import Derived.Test.YtlfljfmhhnoinaaM9

/- Contract of impl.rowOf. -/
namespace Go.Proofs.Ytlfljfmhhnoinaa
open Go.RowKit

set_option maxHeartbeats 2000000 in
theorem rowOf_any (x0 x1 x2 x3 x4 x5 : Int) (zs : List Int) (n : Nat) (w : World) (hz : zs.length = n) (hg : good zs = true) (hr : raised zs = [x0, x1, x2, x3, x4, x5]) :
    Calls Try.prog 71 #[.agg #[.int .i64 x0, .int .i64 x1, .int .i64 x2, .int .i64 x3, .int .i64 x4, .int .i64 x5], .int .i64 n] w fun e w' => ∃ r d, e = .returned (.agg #[.slice r n d]) ∧
      w'.ownsRow w.heap.size 3 1 (.slice r n d) n (zs.map (.int .i64)) ∧ Below w.heap.size w w' := by
  have h6 : n ≤ 6 := by have := good_len hg; omega
  have HR := Hid.mk hr
  have HG := Hid.mk hg
  have HZ := Hid.mk hz
  clear hr hg hz
  have hn0 : (0 : Int) ≤ n := by omega
  have hn6 : (n : Int) ≤ 6 := by omega
  obtain ⟨i0, hi, hz0, hz1, hz2⟩ := info_parts Try.infoInt
  obtain ⟨W, hW⟩ : ∃ W, W = ((w.alloc (.cells #[.int .i64 x0, .int .i64 x1, .int .i64 x2, .int .i64 x3, .int .i64 x4, .int .i64 x5] 72)).alloc (.cells #[.slice none 0 0] 33)).alloc (.cells #[.slice none 0 0] 33) := ⟨_, rfl⟩
  have B : Below w.heap.size w W := by rw [hW]; exact (((Below.refl _ _).alloc (Nat.le_refl _) _).alloc (by simp) _).alloc (by simp; omega) _
  have A1 : Arr W w.heap.size 72 (raised zs) := by rw [hW, HR.out]; exact ((Arr.new rfl (by simp)).alloc _).alloc _
  have q1 : W.heap[w.heap.size + 1]? = some (.cells #[.slice none 0 0] 33 (0, 0)) := by
    rw [hW]
    refine (Below.heap_alloc _ _ _ (by simp)).trans ?_
    have := heap_alloc_new (w.alloc (.cells #[.int .i64 x0, .int .i64 x1, .int .i64 x2, .int .i64 x3, .int .i64 x4, .int .i64 x5] 72)) (.cells #[.slice none 0 0] 33)
    rwa [World.size_alloc] at this
  have c1 : W.cell? ⟨w.heap.size + 1, 0, none⟩ = some (.slice none 0 0) := by rw [cell_of_row W _ 0 _ _ (0, 0) q1]; rfl
  have f1 : W.frozen? ⟨w.heap.size + 1, 0, none⟩ = false := frozen_of_row W _ 0 _ _ q1
  clear q1
  have V0 : RowVar W (w.heap.size + 1 + 1) 33 (w.heap.size + 1 + 1 + 1) 3 none 0 0 (zs.take 0) := by rw [hW]; exact RowVar.new (by simp) (by omega)
  have zW : W.heap.size = w.heap.size + 1 + 1 + 1 := by rw [hW]; simp
  have hl6 := raised_length (good_len HG.out)
  go_enter Try.func71, Try.ntmps71
  go_wp2
  rw [← hW]
  clear hW
  go_loopw [11] (fun i wr => ∃ (k : Nat) (r : Option Addr) (d : Nat), k ≤ n ∧ i = .int .i64 k ∧ RowVar wr (w.heap.size + 1 + 1) 33 (w.heap.size + 1 + 1 + 1) 3 r k d (zs.take k) ∧ Below (w.heap.size + 1 + 1) W wr) (fun i _ => n - (intOf i).toNat)
  case atStart => exact ⟨0, none, 0, Nat.zero_le _, rfl, V0, Below.refl _ _⟩
  case round =>
    clear V0
    obtain ⟨k, r, d, hk, rfl, hv, hbw⟩ := hrel
    have zR : w.heap.size + 1 + 1 < wr.heap.size := by have := hbw.size; omega
    by_cases hlt : k < n
    · have hcx := (A1.below hbw (by omega)).cell k (by omega)
      have hgk := good_cell HG.out k (by have := HZ.out; omega)
      have hx : (raised zs).getD k 0 = zs.getD k 0 + 100001 := by
        have : k < zs.length := by have := HZ.out; omega
        simp [raised, List.getD, List.getElem?_append, this]
      rw [hx] at hcx
      have HS := Hid.mk (take_succ_getD zs k (by have := HZ.out; omega))
      obtain ⟨y, hy⟩ : ∃ y, y = zs.getD k 0 := ⟨_, rfl⟩
      rw [← hy] at hcx HS hgk
      obtain ⟨hy1, hy2⟩ := hgk
      have hki : (k : Int) < (n : Int) := by omega
      have hcr := hv.cell
      have hfr := hv.frozen
      clear hy hx A1 c1 f1
      go_wp2_with (at_builtin; refine wpList_append_lies _ rfl (.tmp 16) (.tmp 20) 29 rfl (w.heap.size + 1 + 1 + 1) 3 i0 (.int .i64 0) 1 8 Try.underlying29 hi hz0 hz1 hz2 rfl (by decide) _ _ _ rfl (hv.own.alloc _) ⟨wr.heap.size, 0, none⟩ 1 1 [.int .i64 y] (by simp [Act.eval]) rfl (by have q : y + 100001 - 100000 - 1 = y := (by omega); simpa [q] using news_at wr #[.int .i64 y] 3) (by simp; rfl) (by decide) (by unfold maxLen; omega) (by omega) (by simp; omega) (wr.heap.size + 1) (by simp) ?_; intro g2 cap2 w4 hown4 hgrow4 _ _; obtain ⟨t1, t2, hv4⟩ := hv.pushed hown4 hgrow4)
      have HB := Hid.mk (hv.pushed_below (v := .slice (some ⟨g2, 0, none⟩) (k + 1) cap2) hgrow4 hbw (Nat.le_refl _))
      rw [← HS.out] at hv4
      have HV := Hid.mk hv4
      clear hv4 hown4 hgrow4 hv hbw t1 t2
      go_roundw
      case rel => exact ⟨k + 1, _, _, by omega, by go_num, HV.out, HB.out⟩
      case measure => simp [intOf]; omega
    · obtain rfl : k = n := by omega
      have htk : zs.take k = zs := List.take_of_length_le (by have := HZ.out; omega)
      rw [htk] at hv
      clear htk
      have hcr := hv.cell
      have e1 := (hbw.cell (p := ⟨w.heap.size + 1, 0, none⟩) (by simp)).trans c1
      have e2 := (hbw.frozen (p := ⟨w.heap.size + 1, 0, none⟩) (by simp)).trans f1
      clear c1 f1 A1
      go_wp2
      refine bodyPost_ret (v := .agg #[.slice r k d]) (by simp [results, Try.results71, go_sem, e1]) rfl ⟨r, d, rfl, ?_, ?_⟩
      · exact owns_mono (ownsRow_setCell_below (base := w.heap.size + 1 + 1 + 1) hv.own (show w.heap.size + 1 < w.heap.size + 1 + 1 + 1 by omega) _) (by omega)
      · exact (B.trans (hbw.mono (by omega))).setCell (by simp) _

end Go.Proofs.Ytlfljfmhhnoinaa

/- Contracts of impl.withinSum, amountOf, goodGroup, cellsOfKeys, keysOfOneLength. -/
namespace Go.Proofs.Ytlfljfmhhnoinaa
open Go.RowKit

theorem trip0 (w : World) (u v x : Value) (t : TypeId) : (w.alloc (.cells #[u, v, x] t)).cell? ⟨w.heap.size, 0, none⟩ = some u := by simp
theorem trip1 (w : World) (u v x : Value) (t : TypeId) : (w.alloc (.cells #[u, v, x] t)).cell? ⟨w.heap.size, 1, none⟩ = some v := by simp
theorem trip2 (w : World) (u v x : Value) (t : TypeId) : (w.alloc (.cells #[u, v, x] t)).cell? ⟨w.heap.size, 2, none⟩ = some x := by simp

theorem withinSum_any (p : Int) (w : World) :
    Calls Try.prog 70 #[.int .i64 p] w fun e w' => e = .returned (.bool (ins p)) ∧ w' = w := by
  by_cases h : -100000000000000 ≤ p
  · go_enter Try.func70, Try.ntmps70
    go_wp2
    go_ret
    exact ⟨ret_bool (by simp [ins, h]), rfl⟩
  · go_enter Try.func70, Try.ntmps70
    go_wp2
    go_ret
    exact ⟨ret_bool (by simp only [ins, decide_eq_false (show ¬ -100000000000000 ≤ p by omega), Bool.false_and]), rfl⟩

theorem amountOf_any (a : Option Addr) (n c : Nat) (x y : Int) (w : World) :
    Calls Try.prog 52 #[.agg #[.slice a n c, .int .i64 x, .int .i64 y]] w fun e w' => e = .returned (.agg #[.int .i64 x, .int .i64 y]) ∧ Below w.heap.size w w' := by
  go_enter Try.func52, Try.ntmps52
  go_wp2
  refine bodyPost_ret (v := .agg #[.int .i64 x, .int .i64 y]) (by simp [results, Try.results52, go_sem]) rfl ⟨rfl, ?_⟩
  exact ((Below.refl _ _).alloc (Nat.le_refl _) _).alloc (by simp) _

set_option maxHeartbeats 1000000 in
theorem goodGroup_any (a : Option Addr) (n c : Nat) (zs : List Int) (x y : Int) (w : World) (hz : zs.length = n) (hn : n ≤ 9223372036854775807) (ha : At w a zs) :
    Calls Try.prog 45 #[.agg #[.slice a n c, .int .i64 x, .int .i64 y]] w fun e w' => e = .returned (.bool (good zs && (ins x && (ins y && !nought x y)))) ∧ Below w.heap.size w w' := by
  have B0 : Below w.heap.size w (w.alloc (.cells #[.slice a n c, .int .i64 x, .int .i64 y] 35)) := (Below.refl _ _).alloc (Nat.le_refl _) _
  have HA := ha.below B0
  clear ha
  obtain ⟨g, HG⟩ : ∃ g : Bool, Hid (good zs = g) := ⟨_, Hid.mk rfl⟩
  obtain ⟨i, HI⟩ : ∃ g : Bool, Hid (ins x = g) := ⟨_, Hid.mk rfl⟩
  obtain ⟨j, HJ⟩ : ∃ g : Bool, Hid (ins y = g) := ⟨_, Hid.mk rfl⟩
  obtain ⟨x0, hx⟩ : ∃ g : Bool, (x == 0) = g := ⟨_, rfl⟩
  obtain ⟨y0, hy⟩ : ∃ g : Bool, (y == 0) = g := ⟨_, rfl⟩
  have HN : Hid (nought x y = (x0 && y0)) := by show _ = _; rw [← hx, ← hy]; by_cases h1 : x = 0 <;> by_cases h2 : y = 0 <;> simp [nought, h1, h2]
  rw [HG.out, HI.out, HJ.out, HN.out]
  cases g <;> cases i <;> cases j <;> cases x0 <;> cases y0
  all_goals
    go_enter Try.func45, Try.ntmps45
    go_wp2_with (first | (go_at_call 50; refine (implGoodRow_any _ _ _ zs _ hz hn HA).mono ?_; rintro e w1 ⟨rfl, hb1⟩; rw [HG.out]; have c0 := cell_later hb1 (trip0 w (.slice a n c) (.int .i64 x) (.int .i64 y) 35); have c1 := cell_later hb1 (trip1 w (.slice a n c) (.int .i64 x) (.int .i64 y) 35); have c2 := cell_later hb1 (trip2 w (.slice a n c) (.int .i64 x) (.int .i64 y) 35); have B1 := B0.trans (hb1.mono B0.size); clear hb1) | (go_at_call_of 70 (Value.int .i64 x); refine (withinSum_any _ _).mono ?_; rintro e w2 ⟨rfl, rfl⟩; rw [HI.out]) | (go_at_call_of 70 (Value.int .i64 y); refine (withinSum_any _ _).mono ?_; rintro e w2 ⟨rfl, rfl⟩; rw [HJ.out]) | (go_at_call 52; refine (amountOf_any _ _ _ _ _ _).mono ?_; rintro e w3 ⟨rfl, hb3⟩; have B3 := B1.trans (hb3.mono B1.size); clear hb3))
    go_ret
    first | exact ⟨rfl, B3⟩ | exact ⟨rfl, B1⟩ | exact ⟨ret_bool (by simp [hx, hy]), B3⟩

theorem cellsOfKeys_any (a : Option Addr) (n c : Nat) (ts : List GRow) (w : World) (hz : ts.length = n) (ha : AtV w a ts) :
    Calls Try.prog 68 #[.slice a n c] w fun e w' => e = .returned (.int .i64 (keyN ts)) ∧ w' = w := by
  by_cases h0 : n = 0
  · subst h0
    obtain rfl := List.eq_nil_of_length_eq_zero hz
    go_enter Try.func68, Try.ntmps68
    go_wp2
    go_ret
    exact ⟨rfl, rfl⟩
  · obtain ⟨b, off, rfl, hc⟩ := ha.some (by omega)
    obtain ⟨q, d, hcx, _, _, hm, _⟩ := hc 0 (by omega)
    have HK : Hid (keyN ts = (gat ts 0).1.length) := rfl
    generalize (gat ts 0).1.length = m at *
    simp only [Nat.zero_mul, Nat.add_zero] at hcx
    have hne : ((n : Int) == 0) = false := by simp; omega
    have hlt : (0 : Int) < (n : Int) := by omega
    clear hc ha
    go_enter Try.func68, Try.ntmps68
    go_wp2
    go_ret
    exact ⟨ret_int (by rw [HK.out]), rfl⟩

set_option maxHeartbeats 1000000 in
theorem keysOfOneLength_any (a : Option Addr) (n c : Nat) (ts : List GRow) (w : World) (hz : ts.length = n) (hn : n ≤ 1048576) (ha : AtV w a ts) :
    Calls Try.prog 44 #[.slice a n c] w fun e w' => e = .returned (.bool (oneLen ts)) ∧ Below w.heap.size w w' := by
  by_cases h0 : n = 0
  · subst h0
    obtain rfl := List.eq_nil_of_length_eq_zero hz
    go_enter Try.func44, Try.ntmps44
    go_wp2
    refine wp_loop_rounds 1 ?_
    rw [rounds_succ]
    go_wp2
    go_ret
    exact ⟨ret_bool rfl, Below.refl _ _⟩
  · go_enter Try.func44, Try.ntmps44
    go_wp2
    go_loopw [7] (fun i wr => ∃ (k : Nat), k ≤ n ∧ i = .int .i64 k ∧ (∀ j, j < k → (gat ts j).1.length = keyN ts) ∧ Below w.heap.size w wr) (fun i _ => n - (intOf i).toNat)
    case atStart => exact ⟨0, Nat.zero_le _, rfl, fun j hj => by omega, Below.refl _ _⟩
    case round =>
      obtain ⟨k, hk, rfl, hall, hbw⟩ := hrel
      by_cases hlt : k < n
      · have HA := ha.below hbw
        obtain ⟨b, off, rfl, hc⟩ := HA.some (by omega)
        obtain ⟨q, d, hcx, hwx, hvx, hm, hat⟩ := hc k (by omega)
        have HN : Hid ((gat ts k).1.length ≠ keyN ts → oneLen ts = false) := fun h => oneLen_not k (by omega) h
        have HS : Hid ((gat ts k).1.length = keyN ts → ∀ j, j < k + 1 → (gat ts j).1.length = keyN ts) := fun h j hj => by
          by_cases e : j = k
          · subst e; exact h
          · exact hall j (by omega)
        generalize gat ts k = Y at *
        obtain ⟨ys, x, y⟩ := Y
        simp only at hcx hwx hvx hat hm HN HS
        obtain ⟨m, hmm⟩ : ∃ m, ys.length = m := ⟨_, rfl⟩
        rw [hmm] at hcx hm HN HS
        obtain ⟨K, hK⟩ : ∃ K, keyN ts = K := ⟨_, rfl⟩
        rw [hK] at HN HS
        have HK := Hid.mk hK
        have hki : (k : Int) < (n : Int) := by omega
        have HA2 := HA.alloc (.cells #[.slice q m d, .int .i64 x, .int .i64 y] 35)
        have B2 := hbw.alloc hbw.size (.cells #[.slice q m d, .int .i64 x, .int .i64 y] 35)
        have CKK : Hid (∀ (cc : Nat) (W : World), AtV W (some ⟨b, off, none⟩) ts → Calls Try.prog 68 #[.slice (some ⟨b, off, none⟩) n cc] W fun e w' => e = .returned (.int .i64 K) ∧ w' = W) := fun cc W h => by
          have := cellsOfKeys_any (some ⟨b, off, none⟩) n cc ts W hz h
          rw [hK] at this
          exact this
        clear hall hc hmm hK ha HA hat
        by_cases he : m = K
        · have hne : ((m : Int) != (K : Int)) = false := by simp [he]
          have HE := Hid.mk he
          clear he
          go_wp2_with fail
          go_quiet ((go_at_call 68; refine Calls.quiet_of_same (CKK.out _ _ HA2)))
          go_wp2
          go_roundw
          case rel => exact ⟨k + 1, by omega, by go_num, by rw [HK.out]; exact HS.out HE.out, below_drewN B2 _⟩
          case measure => simp [intOf]; omega
        · have hne : ((m : Int) != (K : Int)) = true := by simp; omega
          have HE := Hid.mk he
          clear he
          go_wp2_with fail
          go_quiet ((go_at_call 68; refine Calls.quiet_of_same (CKK.out _ _ HA2)))
          go_wp2
          go_ret
          exact ⟨ret_bool (HN.out HE.out).symm, below_drewN B2 _⟩
      · go_wp2
        go_ret
        exact ⟨ret_bool (oneLen_of (fun j hj => hall j (by omega))).symm, hbw⟩

end Go.Proofs.Ytlfljfmhhnoinaa

/- Contract of impl.groupOf. -/
namespace Go.Proofs.Ytlfljfmhhnoinaa
open Go.RowKit Go.Maps

theorem set3_heap {w : World} {g : Nat} {x y z : Value} {t : TypeId} (h : w.heap[g]? = some (.cells #[x, y, z] t (0, 0))) (u v k : Value) : (((w.setCell ⟨g, 0, none⟩ u).setCell ⟨g, 1, none⟩ v).setCell ⟨g, 2, none⟩ k).heap[g]? = some (.cells #[u, v, k] t (0, 0)) := by
  have h1 := heap_setCell_same w g 0 _ t u h
  have h2 := heap_setCell_same _ g 1 _ t v h1
  have h3 := heap_setCell_same _ g 2 _ t k h2
  rw [h3]; rfl
theorem set3_other {w : World} {g : Nat} {a : Addr} {u v k s : Value} (h : w.cell? a = some s) (hne : a.block ≠ g) : (((w.setCell ⟨g, 0, none⟩ u).setCell ⟨g, 1, none⟩ v).setCell ⟨g, 2, none⟩ k).cell? a = some s := by
  have e : ∀ (w : World) (j : Nat) (u : Value), w.cell? a = some s → (w.setCell ⟨g, j, none⟩ u).cell? a = some s := fun w j u h => (World.cell?_of_block (Below.heap_setCell w ⟨g, j, none⟩ u a.block hne)).trans h
  exact e _ 2 _ (e _ 1 _ (e _ 0 _ h))
theorem six_set3 {w : World} {g Z : Nat} {x0 x1 x2 x3 x4 x5 : Int} {u v k : Value} (hne : Z ≠ g) (h : w.cell? ⟨Z, 0, none⟩ = some (.int .i64 x0) ∧ w.cell? ⟨Z, 1, none⟩ = some (.int .i64 x1) ∧ w.cell? ⟨Z, 2, none⟩ = some (.int .i64 x2) ∧ w.cell? ⟨Z, 3, none⟩ = some (.int .i64 x3) ∧ w.cell? ⟨Z, 4, none⟩ = some (.int .i64 x4) ∧ w.cell? ⟨Z, 5, none⟩ = some (.int .i64 x5)) : (((w.setCell ⟨g, 0, none⟩ u).setCell ⟨g, 1, none⟩ v).setCell ⟨g, 2, none⟩ k).cell? ⟨Z, 0, none⟩ = some (.int .i64 x0) ∧ (((w.setCell ⟨g, 0, none⟩ u).setCell ⟨g, 1, none⟩ v).setCell ⟨g, 2, none⟩ k).cell? ⟨Z, 1, none⟩ = some (.int .i64 x1) ∧ (((w.setCell ⟨g, 0, none⟩ u).setCell ⟨g, 1, none⟩ v).setCell ⟨g, 2, none⟩ k).cell? ⟨Z, 2, none⟩ = some (.int .i64 x2) ∧ (((w.setCell ⟨g, 0, none⟩ u).setCell ⟨g, 1, none⟩ v).setCell ⟨g, 2, none⟩ k).cell? ⟨Z, 3, none⟩ = some (.int .i64 x3) ∧ (((w.setCell ⟨g, 0, none⟩ u).setCell ⟨g, 1, none⟩ v).setCell ⟨g, 2, none⟩ k).cell? ⟨Z, 4, none⟩ = some (.int .i64 x4) ∧ (((w.setCell ⟨g, 0, none⟩ u).setCell ⟨g, 1, none⟩ v).setCell ⟨g, 2, none⟩ k).cell? ⟨Z, 5, none⟩ = some (.int .i64 x5) :=
  ⟨set3_other h.1 hne, set3_other h.2.1 hne, set3_other h.2.2.1 hne, set3_other h.2.2.2.1 hne, set3_other h.2.2.2.2.1 hne, set3_other h.2.2.2.2.2 hne⟩

set_option maxRecDepth 100000 in
set_option maxHeartbeats 4000000 in
theorem groupOf_any (x0 x1 x2 x3 x4 x5 : Int) (zs : List Int) (n : Nat) (x y : Int) (w : World) (hz : zs.length = n) (hg : good zs = true) (hr : raised zs = [x0, x1, x2, x3, x4, x5]) :
    Calls Try.prog 51 #[.agg #[.int .i64 x0, .int .i64 x1, .int .i64 x2, .int .i64 x3, .int .i64 x4, .int .i64 x5], .int .i64 n, .agg #[.int .i64 x, .int .i64 y]] w fun e w' => ∃ r d, e = .returned (.agg #[.slice r n d, .int .i64 x, .int .i64 y]) ∧
      w'.ownsRow w.heap.size 3 1 (.slice r n d) n (zs.map (.int .i64)) ∧ Below w.heap.size w w' := by
  have HR := Hid.mk hr
  clear hr
  obtain ⟨W, hW⟩ : ∃ W, W = ((w.alloc (.cells #[.int .i64 x0, .int .i64 x1, .int .i64 x2, .int .i64 x3, .int .i64 x4, .int .i64 x5] 72)).alloc (.cells #[.int .i64 x, .int .i64 y] 77)).alloc (.cells #[.slice none 0 0, .int .i64 0, .int .i64 0] 35) := ⟨_, rfl⟩
  have zW : W.heap.size = w.heap.size + 1 + 1 + 1 := by rw [hW]; simp
  have B0 : Below w.heap.size w W := by rw [hW]; exact (((Below.refl _ _).alloc (Nat.le_refl _) _).alloc (by simp) _).alloc (by simp; omega) _
  have q6 : W.heap[w.heap.size]? = some (.cells #[.int .i64 x0, .int .i64 x1, .int .i64 x2, .int .i64 x3, .int .i64 x4, .int .i64 x5] 72 (0, 0)) := by
    rw [hW]
    exact (Below.heap_alloc _ _ _ (by simp; omega)).trans ((Below.heap_alloc _ _ _ (by simp)).trans (heap_alloc_new w _))
  have q2 : W.heap[w.heap.size + 1]? = some (.cells #[.int .i64 x, .int .i64 y] 77 (0, 0)) := by
    rw [hW]
    have := heap_alloc_new (w.alloc (.cells #[.int .i64 x0, .int .i64 x1, .int .i64 x2, .int .i64 x3, .int .i64 x4, .int .i64 x5] 72)) (.cells #[.int .i64 x, .int .i64 y] 77)
    rw [World.size_alloc] at this
    exact (Below.heap_alloc _ _ _ (by simp)).trans this
  have q3 : W.heap[w.heap.size + 1 + 1]? = some (.cells #[.slice none 0 0, .int .i64 0, .int .i64 0] 35 (0, 0)) := by
    rw [hW]
    have := heap_alloc_new ((w.alloc (.cells #[.int .i64 x0, .int .i64 x1, .int .i64 x2, .int .i64 x3, .int .i64 x4, .int .i64 x5] 72)).alloc (.cells #[.int .i64 x, .int .i64 y] 77)) (.cells #[.slice none 0 0, .int .i64 0, .int .i64 0] 35)
    rwa [World.size_alloc, World.size_alloc] at this
  have c6 : W.cell? ⟨w.heap.size, 0, none⟩ = some (.int .i64 x0) ∧ W.cell? ⟨w.heap.size, 1, none⟩ = some (.int .i64 x1) ∧ W.cell? ⟨w.heap.size, 2, none⟩ = some (.int .i64 x2) ∧ W.cell? ⟨w.heap.size, 3, none⟩ = some (.int .i64 x3) ∧ W.cell? ⟨w.heap.size, 4, none⟩ = some (.int .i64 x4) ∧ W.cell? ⟨w.heap.size, 5, none⟩ = some (.int .i64 x5) := ⟨by rw [cell_of_row W _ 0 _ _ (0, 0) q6]; rfl, by rw [cell_of_row W _ 1 _ _ (0, 0) q6]; rfl, by rw [cell_of_row W _ 2 _ _ (0, 0) q6]; rfl, by rw [cell_of_row W _ 3 _ _ (0, 0) q6]; rfl, by rw [cell_of_row W _ 4 _ _ (0, 0) q6]; rfl, by rw [cell_of_row W _ 5 _ _ (0, 0) q6]; rfl⟩
  have m0 : W.cell? ⟨w.heap.size + 1, 0, none⟩ = some (.int .i64 x) := by rw [cell_of_row W _ 0 _ _ (0, 0) q2]; rfl
  have m1 : W.cell? ⟨w.heap.size + 1, 1, none⟩ = some (.int .i64 y) := by rw [cell_of_row W _ 1 _ _ (0, 0) q2]; rfl
  clear q6 q2
  go_enter Try.func51, Try.ntmps51
  go_wp2_with fail
  rw [← hW]
  clear hW
  refine wp_region_held_drew (S := fun w' => w'.cell? ⟨w.heap.size, 0, none⟩ = some (.int .i64 x0) ∧ w'.cell? ⟨w.heap.size, 1, none⟩ = some (.int .i64 x1) ∧ w'.cell? ⟨w.heap.size, 2, none⟩ = some (.int .i64 x2) ∧ w'.cell? ⟨w.heap.size, 3, none⟩ = some (.int .i64 x3) ∧ w'.cell? ⟨w.heap.size, 4, none⟩ = some (.int .i64 x4) ∧ w'.cell? ⟨w.heap.size, 5, none⟩ = some (.int .i64 x5) ∧ w'.cell? ⟨w.heap.size + 1, 0, none⟩ = some (.int .i64 x) ∧ w'.cell? ⟨w.heap.size + 1, 1, none⟩ = some (.int .i64 y)) (by kernel_rfl) ?_ (fun hHeld => ?_)
  · (try dsimp only)
    exact ⟨c6.1, c6.2.1, c6.2.2.1, c6.2.2.2.1, c6.2.2.2.2.1, c6.2.2.2.2.2, m0, m1⟩
  refine wpAnyH_take (i := 0) (oi := ?_) (v := ?_) ?_ (by kernel_rfl) (by kernel_rfl) (by kernel_rfl) ?_ (Or.inl ⟨?_, ?_⟩) (by assumption) ?_
  rotate_left 2
  · (simp only [List.getElem?_toArray, List.getElem?_cons_zero]; rfl)
  · exact fun _ _ _ h => h
  · rfl
  · (intro wS hSw; (try dsimp only at hSw); go_simp; (try with_reducible rfl))
  (try simp only [Act.put, List.setIfInBounds_toArray, List.set_cons_zero, List.set_cons_succ])
  refine wpAnyH_take (i := 1) (oi := ?_) (v := ?_) ?_ (by kernel_rfl) (by kernel_rfl) (by kernel_rfl) ?_ (Or.inl ⟨?_, ?_⟩) (by assumption) ?_
  rotate_left 2
  · (simp only [List.getElem?_toArray, List.getElem?_cons_zero, List.getElem?_cons_succ]; rfl)
  · exact fun _ _ _ h => h
  · rfl
  · (intro wS hSw; (try dsimp only at hSw); go_simp; (try with_reducible rfl))
  (try simp only [Act.put, List.setIfInBounds_toArray, List.set_cons_zero, List.set_cons_succ])
  refine wpAnyH_take (i := 3) (oi := ?_) (v := ?_) ?_ (by kernel_rfl) (by kernel_rfl) (by kernel_rfl) ?_ (Or.inl ⟨?_, ?_⟩) (by assumption) ?_
  rotate_left 2
  · (simp only [List.getElem?_toArray, List.getElem?_cons_zero, List.getElem?_cons_succ]; rfl)
  · exact fun _ _ _ h => h
  · rfl
  · (intro wS hSw; (try dsimp only at hSw); go_simp; (try with_reducible rfl))
  (try simp only [Act.put, List.setIfInBounds_toArray, List.set_cons_zero, List.set_cons_succ])
  refine wpAnyH_take (i := 4) (oi := ?_) (v := ?_) ?_ (by kernel_rfl) (by kernel_rfl) (by kernel_rfl) ?_ (Or.inl ⟨?_, ?_⟩) (by assumption) ?_
  rotate_left 2
  · (simp only [List.getElem?_toArray, List.getElem?_cons_zero, List.getElem?_cons_succ]; rfl)
  · exact fun _ _ _ h => h
  · rfl
  · (intro wS hSw; (try dsimp only at hSw); go_simp; (try with_reducible rfl))
  (try simp only [Act.put, List.setIfInBounds_toArray, List.set_cons_zero, List.set_cons_succ])
  refine wpAnyH_take (i := 5) (oi := ?_) (v := ?_) ?_ (by kernel_rfl) (by kernel_rfl) (by kernel_rfl) ?_ (Or.inl ⟨?_, ?_⟩) (by assumption) ?_
  rotate_left 2
  · (simp only [List.getElem?_toArray, List.getElem?_cons_zero, List.getElem?_cons_succ]; rfl)
  · exact fun _ _ _ h => h
  · rfl
  · (intro wS hSw; (try dsimp only at hSw); go_simp; (try with_reducible rfl))
  (try simp only [Act.put, List.setIfInBounds_toArray, List.set_cons_zero, List.set_cons_succ])
  refine wpAnyH_take (i := 6) (oi := ?_) (v := ?_) ?_ (by kernel_rfl) (by kernel_rfl) (by kernel_rfl) ?_ (Or.inl ⟨?_, ?_⟩) (by assumption) ?_
  rotate_left 2
  · (simp only [List.getElem?_toArray, List.getElem?_cons_zero, List.getElem?_cons_succ]; rfl)
  · exact fun _ _ _ h => h
  · rfl
  · (intro wS hSw; (try dsimp only at hSw); go_simp; (try with_reducible rfl))
  (try simp only [Act.put, List.setIfInBounds_toArray, List.set_cons_zero, List.set_cons_succ])
  refine wpAnyH_ready (rs := [2]) (by kernel_rfl) (by simp) ?_
  refine AllReadyH.cons (o := ?_) ?_ (fun K hK => ?_) AllReadyH.nil
  rotate_left
  · (simp only [List.getElem?_toArray, List.getElem?_cons_zero, List.getElem?_cons_succ]; rfl)
  go_simp
  go_at_call 71; refine (rowOf_any x0 x1 x2 x3 x4 x5 zs n _ hz hg HR.out).mono ?_; rintro e w2 ⟨r2, d2, rfl, ho2, hb2⟩; have e6 := six_later (w := W.drew) hb2 c6; have p0 := cell_later (w := W.drew) hb2 m0; have p1 := cell_later (w := W.drew) hb2 m1; have Q3 := (hb2.block (w.heap.size + 1 + 1) (by rw [drew_size]; omega)).trans q3; have k0 : w2.cell? ⟨w.heap.size + 1 + 1, 0, none⟩ = some (.slice none 0 0) := (by rw [cell_of_row w2 _ 0 _ _ (0, 0) Q3]; rfl); have k1 : w2.cell? ⟨w.heap.size + 1 + 1, 1, none⟩ = some (.int .i64 0) := (by rw [cell_of_row w2 _ 1 _ _ (0, 0) Q3]; rfl); have k2 : w2.cell? ⟨w.heap.size + 1 + 1, 2, none⟩ = some (.int .i64 0) := (by rw [cell_of_row w2 _ 2 _ _ (0, 0) Q3]; rfl); have l0 := frozen_of_row w2 _ 0 _ _ Q3; have l1 := frozen_of_row w2 _ 1 _ _ Q3; have l2 := frozen_of_row w2 _ 2 _ _ Q3
  (try go_wp2_with fail)
  refine hK.out _ _ ?_ (fun hHeld' => ?_)
  · (try dsimp only)
    exact ⟨e6.1, e6.2.1, e6.2.2.1, e6.2.2.2.1, e6.2.2.2.2.1, e6.2.2.2.2.2, p0, p1⟩
  clear hK K hHeld
  have hHeld := hHeld'
  clear hHeld'
  (try simp only [Act.put, List.setIfInBounds_toArray, List.set_cons_zero, List.set_cons_succ])
  refine wpAnyH_take (i := 7) (oi := ?_) (v := ?_) ?_ (by kernel_rfl) (by kernel_rfl) (by kernel_rfl) ?_ (Or.inl ⟨?_, ?_⟩) (by assumption) ?_
  rotate_left 2
  · (simp only [List.getElem?_toArray, List.getElem?_cons_zero, List.getElem?_cons_succ]; rfl)
  · exact fun _ _ _ h => h
  · rfl
  · (intro wS hSw; (try dsimp only at hSw); go_simp; (try with_reducible rfl))
  (try simp only [Act.put, List.setIfInBounds_toArray, List.set_cons_zero, List.set_cons_succ])
  refine wpAnyH_ready (rs := [8]) (by kernel_rfl) (by simp) ?_
  refine AllReadyH.cons (o := ?_) ?_ (fun K hK => ?_) AllReadyH.nil
  rotate_left
  · (simp only [List.getElem?_toArray, List.getElem?_cons_zero, List.getElem?_cons_succ]; rfl)
  go_simp
  skip
  (try go_wp2_with fail)
  refine hK.out _ _ ?_ (fun hHeld' => ?_)
  · (try dsimp only)
    exact ⟨(six_set3 (by omega) e6).1, (six_set3 (by omega) e6).2.1, (six_set3 (by omega) e6).2.2.1, (six_set3 (by omega) e6).2.2.2.1, (six_set3 (by omega) e6).2.2.2.2.1, (six_set3 (by omega) e6).2.2.2.2.2, set3_other p0 (by simp), set3_other p1 (by simp)⟩
  clear hK K hHeld
  have hHeld := hHeld'
  clear hHeld'
  (try simp only [Act.put, List.setIfInBounds_toArray, List.set_cons_zero, List.set_cons_succ])
  refine wpAnyH_done (by kernel_rfl) ?_ _
  have z2 : W.heap.size ≤ w2.heap.size := hb2.size
  have B2 : Below w.heap.size w w2 := B0.drew.trans (hb2.mono B0.size)
  have S3 := set3_heap Q3 (.slice r2 n d2) (.int .i64 x) (.int .i64 y)
  have s0 : (((w2.setCell ⟨w.heap.size + 1 + 1, 0, none⟩ (.slice r2 n d2)).setCell ⟨w.heap.size + 1 + 1, 1, none⟩ (.int .i64 x)).setCell ⟨w.heap.size + 1 + 1, 2, none⟩ (.int .i64 y)).cell? ⟨w.heap.size + 1 + 1, 0, none⟩ = some (.slice r2 n d2) := by rw [cell_of_row _ _ 0 _ _ (0, 0) S3]; rfl
  have s1 : (((w2.setCell ⟨w.heap.size + 1 + 1, 0, none⟩ (.slice r2 n d2)).setCell ⟨w.heap.size + 1 + 1, 1, none⟩ (.int .i64 x)).setCell ⟨w.heap.size + 1 + 1, 2, none⟩ (.int .i64 y)).cell? ⟨w.heap.size + 1 + 1, 1, none⟩ = some (.int .i64 x) := by rw [cell_of_row _ _ 1 _ _ (0, 0) S3]; rfl
  have s2 : (((w2.setCell ⟨w.heap.size + 1 + 1, 0, none⟩ (.slice r2 n d2)).setCell ⟨w.heap.size + 1 + 1, 1, none⟩ (.int .i64 x)).setCell ⟨w.heap.size + 1 + 1, 2, none⟩ (.int .i64 y)).cell? ⟨w.heap.size + 1 + 1, 2, none⟩ = some (.int .i64 y) := by rw [cell_of_row _ _ 2 _ _ (0, 0) S3]; rfl
  clear hHeld c6 m0 m1 e6 p0 p1 k0 k1 k2 l0 l1 l2 Q3 q3
  go_wp2
  refine bodyPost_ret (v := .agg #[.slice r2 n d2, .int .i64 x, .int .i64 y]) (by simp [results, Try.results51, go_sem, s0, s1, s2]) rfl ⟨r2, d2, rfl, ?_, ?_⟩
  · have lo : w.heap.size + 1 + 1 < W.drew.heap.size := by rw [drew_size]; omega
    exact owns_mono (ownsRow_setCell_below (ownsRow_setCell_below (ownsRow_setCell_below ho2 lo _) lo _) lo _) (by rw [drew_size]; omega)
  · exact ((B2.setCell (by show w.heap.size ≤ w.heap.size + 1 + 1; omega) _).setCell (by show w.heap.size ≤ w.heap.size + 1 + 1; omega) _).setCell (by show w.heap.size ≤ w.heap.size + 1 + 1; omega) _

end Go.Proofs.Ytlfljfmhhnoinaa
