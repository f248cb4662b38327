/- Several texts of one proof, in build order: KeptR, TestT, SortA. -/
import Derived.Test.YthiabjkjpjmahaaGreatM24
import Derived.Test.YthiabjkjpjmahaaGreatM12
import Derived.Test.YthiabjkjpjmahaaGreatM7
import Derived.Test.YthiabjkjpjmahaaGreatM5
import Derived.Shelf.SlSortCmp.InsertionK

/- Contracts of impl.keptRows and of the function that it hands back, whatever function says which rows are kept. -/
namespace Go.Proofs.YthiabjkjpjmahaaGreat
open Go.RowKit Go.Shelf

attribute [local go_sem] Oper.semAt_some

/-- The function value (kf, kb) says of each row of Q whether it is kept, in whatever world keeps what lay below w's end. -/
def Sieve (P : Program) (kf : Nat) (kb : Array Value) (keep : List Int → Bool) (Q : List Int → Prop) (w : World) : Prop :=
  ∀ (W : World) (a : Option Addr) (n c : Nat) (zs : List Int), Below w.heap.size w W → Q zs → zs.length = n → At W a zs →
    Calls P kf (#[.agg #[.slice a n c]] ++ kb) W fun e W' => e = .returned (.bool (keep zs)) ∧ Below W.heap.size W W'
theorem Sieve.later {P : Program} {kf : Nat} {kb : Array Value} {keep : List Int → Bool} {Q : List Int → Prop} {w w' : World} (h : Sieve P kf kb keep Q w) (hb : Below w.heap.size w w') : Sieve P kf kb keep Q w' :=
  fun W a n c zs h1 => h W a n c zs (hb.trans (h1.mono hb.size))
def keptG (keep : List Int → Bool) (t : WRow) : Option WRow := if keep t.1 = true then some t else none

theorem keptRows_any (gf kf : Nat) (lb kb : Array Value) (w : World) :
    Calls Tryz.prog 140 #[.func (.func gf) #[] lb, .func (.func kf) #[] kb] w fun e w' => e = .returned (.func (.func 163) #[] #[.pointer (some ⟨w.heap.size, 0, none⟩), .pointer (some ⟨w.heap.size + 1, 0, none⟩)]) ∧ w' = (w.alloc (.cells #[.func (.func gf) #[] lb] 195)).alloc (.cells #[.func (.func kf) #[] kb] 175) := by
  go_enter Tryz.func140, Tryz.ntmps140
  go_wp2
  go_ret
  exact ⟨rfl, rfl⟩

set_option maxRecDepth 100000 in
set_option maxHeartbeats 4000000 in
theorem keptRows1_hands (T K gf kf : Nat) (lb kb : Array Value) (xs : List WRow) (keep : List Int → Bool) (Q : List Int → Prop) (w : World) (hT : w.cell? ⟨T, 0, none⟩ = some (.func (.func gf) #[] lb)) (hK : w.cell? ⟨K, 0, none⟩ = some (.func (.func kf) #[] kb))
    (eg : ∀ args w, (callFunc gf args).run Tryz.prog w = .ok (.enter gf args) w) (ek : ∀ args w, (callFunc kf args).run Tryz.prog w = .ok (.enter kf args) w) (hH : Hands Tryz.prog gf lb xs w) (hS : Sieve Tryz.prog kf kb keep Q w) (hQ : ∀ k, k < xs.length → Q (wat xs k).1) :
    Hands Tryz.prog 163 #[.pointer (some ⟨T, 0, none⟩), .pointer (some ⟨K, 0, none⟩)] (xs.filterMap (keptG keep)) w := by
  intro n₀ l J W h1 h2 hb hJ hY h0
  refine callsIn_of_wp_marks Tryz.func163 rfl trivial ?_
  simp only [Tryz.ntmps163, List.size_toArray, List.length_cons, List.length_nil, Nat.reduceAdd, Nat.reduceSub, Array.replicate_succ, Array.replicate_zero, List.push_toArray, List.append_toArray, List.nil_append, List.cons_append]
  obtain ⟨W0, hW0⟩ : ∃ W0, W0 = W.alloc (.cells #[.func (.yield l) #[] #[]] 221) := ⟨_, rfl⟩
  have hbW : Below W.heap.size W W0 := by rw [hW0]; exact (Below.refl _ _).alloc (Nat.le_refl _) _
  have z0 : W0.heap.size = W.heap.size + 1 := by rw [hW0]; simp
  have hTW := cell_later hb hT
  have hTL : (W.alloc (.cells #[.func (.yield l) #[] #[]] 221)).cell? ⟨T, 0, none⟩ = some (.func (.func gf) #[] lb) := cell_later ((Below.refl _ _).alloc (Nat.le_refl _) _) hTW
  have I0 : Passing n₀ J W (fun _ _ => True) W0.heap.size (keptG keep) xs (.func (.yield l) #[] #[]) 221 0 W0 := by
    refine ⟨hJ 0 W W0 hbW h0, ?_, ⟨hbW.os, hbW.tape, hbW.output, hbW.size, fun j hj _ => hbW.block j hj⟩, Nat.le_refl _⟩
    rw [hW0]; exact heap_alloc_new W _
  gi_wp2
  rw [← hW0]
  clear hW0 hTL
  refine range_hands (gf := gf) (lb := lb) rfl eg hH (hb.trans (hbW.mono hb.size)) n₀ h1 (by omega) _ (fun k A B hB h => h.keep hJ (by omega) hB) I0 ?round ?done
  case round =>
    intro r k W1 b n c hr hkx hI hsz hrec hln hnil hat hfar
    have hq := hQ k hkx
    obtain ⟨Y, hYk⟩ : ∃ Y, Y = wat xs k := ⟨_, rfl⟩
    rw [← hYk] at hln hat hfar hq ⊢
    obtain ⟨ys, x⟩ := Y
    simp only at hln hat hfar hq
    gi_wp2
    refine ⟨(Below.refl _ _).alloc (Nat.le_refl _) _, fun W3 hT3 _ => ?_⟩
    obtain ⟨W2, hW2⟩ : ∃ W2, W2 = W1.alloc (.cells #[.slice b n c] 80) := ⟨_, rfl⟩
    have hb2 : Below W1.heap.size W1 W2 := by rw [hW2]; exact (Below.refl _ _).alloc (Nat.le_refl _) _
    have cr : W2.cell? ⟨W1.heap.size, 0, none⟩ = some (.slice b n c) := by rw [hW2]; simp
    rw [← hW2] at hT3
    clear hW2
    have hI3 := (hI.keep hJ (by omega) (hb2.mono hsz)).keep hJ (by omega) (hT3.below hr)
    have cr3 := hT3.cell cr
    have cy3 : W3.cell? ⟨W.heap.size, 0, none⟩ = some (.func (.yield l) #[] #[]) := by rw [cell_of_row W3 _ 0 _ _ (0, 0) hI3.box]; rfl
    have hat3 := hT3.at (hat.below hb2)
    have hb3 : Below w.heap.size w W3 := hb.trans (hI3.low.below hb.size h1)
    have ck3 := cell_later hb3 hK
    clear hI hat cr hT3
    have hC := hS W3 b n c ys hb3 hq hln hat3
    cases hx : keep ys with
    | true =>
      have hgx : keptG keep (wat xs k) = some (ys, x) := by rw [← hYk]; exact if_pos hx
      obtain ⟨o1, o2, o3⟩ := outW_some hkx hgx
      have HI3 := Hid.mk hI3
      have HO1 := Hid.mk o1
      have HO3 := Hid.mk o3
      have HX := Hid.mk hx
      have HY := Hid.mk hY
      clear hI3 o1 o3 hgx hYk hx hY
      gi_wp2_with fail
      refine ⟨trivial, rfl, ?_⟩
      refine (callsIn_wide.2 hC).mono ?_
      rintro e W4 ⟨rfl, hb4⟩
      rw [HX.out]
      have cr4 := cell_later hb4 cr3
      have cy4 := cell_later hb4 cy3
      have hI4 := HI3.out.keep hJ (by omega) (hb4.mono HI3.out.size)
      obtain ⟨fn, tmps, assign, body, hy, hR⟩ := HY.out (outW (keptG keep) xs k) W4 b n c o2 hI4.told (by have := hI4.size; omega) (by rw [HO3.out]; exact hln) hnil (by rw [HO3.out]; exact hat3.below hb4) (by rw [HO3.out]; exact hfar.mono (by omega))
      rw [HO3.out] at hy
      simp only at hy
      have HI4 := Hid.mk hI4
      clear hI4 HI3 HY
      gi_wp2
      refine ⟨rfl, hR.mono ?_⟩
      rintro e W5 ⟨rfl, hJ5, hap5⟩
      have hI4 := HI4.out
      have hfin : Passing n₀ J W (fun _ _ => True) W0.heap.size (keptG keep) xs (.func (.yield l) #[] #[]) 221 (k + 1) W5 := by
        refine ⟨by rw [HO1.out]; exact hJ5, (hap5.block _ (by have := hI4.size; omega) (.inr (Nat.le_refl _))).trans hI4.box, hI4.low.trans hap5, Nat.le_trans hI4.size hap5.size⟩
      have hapf : Apart n₀ W0.heap.size W3 W5 := ⟨hap5.os.trans hb4.os, hap5.tape.trans hb4.tape, hap5.output.trans hb4.output, Nat.le_trans hb4.size hap5.size, fun j hj hc => (hap5.block j (by have := hb4.size; omega) (by omega)).trans (hb4.block j hj)⟩
      rw [z0] at hfin hapf
      clear hI4 HI4 hJ5 hap5 hR hy
      gi_wp2
      done
    | false =>
      have hgx : keptG keep (wat xs k) = none := by rw [← hYk]; exact if_neg (by rw [hx]; simp)
      have HO1 := Hid.mk (outW_none hkx hgx)
      have HI3 := Hid.mk hI3
      have HX := Hid.mk hx
      clear hI3 hgx hYk hx hY
      gi_wp2_with fail
      refine ⟨trivial, rfl, ?_⟩
      refine (callsIn_wide.2 hC).mono ?_
      rintro e W4 ⟨rfl, hb4⟩
      rw [HX.out]
      have hI4 := HI3.out.keep hJ (by omega) (hb4.mono HI3.out.size)
      have hfin : Passing n₀ J W (fun _ _ => True) W0.heap.size (keptG keep) xs (.func (.yield l) #[] #[]) 221 (k + 1) W4 := ⟨by rw [HO1.out]; exact hI4.told, hI4.box, hI4.low, hI4.size⟩
      have hapf : Apart n₀ W0.heap.size W3 W4 := ⟨hb4.os, hb4.tape, hb4.output, hb4.size, fun j hj _ => hb4.block j hj⟩
      rw [z0] at hfin hapf
      clear hI4 HI3
      gi_wp2
      refine ⟨fun _ h => (by cases h), ?_⟩
      gi_wp2
      done
  case done =>
    intro D A hD hI hap hdef
    have hto := hI.told
    rw [outW_all] at hto
    have hDl : D < A.heap.size := (Array.getElem?_eq_some_iff.1 hdef).1
    have hJf := hJ _ A (A.putObj D (.deferred none)) ((Below.refl _ _).grown (grownBy_putObj' A D _) (by omega) (fun j hj => by cases hj; omega)) hto
    have hapf : Apart n₀ W.heap.size W (A.putObj D (.deferred none)) := ⟨hI.low.os, hI.low.tape, hI.low.output, by have := hI.low.size; simp; omega, fun j hj hc => (World.putObj_heap_other (by omega)).trans (hI.low.block j hj hc)⟩
    gi_wp2
    refine ⟨by simp, .inl ⟨_, _, rfl, run_takeDeferred hdef, ?_⟩⟩
    exact ⟨_, results_none rfl _ _ _, ⟨_, rfl⟩, hJf, hapf⟩
end Go.Proofs.YthiabjkjpjmahaaGreat

/- Contracts of spec.l3True, spec.l3Select, and of the function by which impl.SelectRows keeps rows. -/
namespace Go.Proofs.YthiabjkjpjmahaaGreat
open Go.RowKit Go.Shelf

set_option maxRecDepth 100000 in
set_option maxHeartbeats 4000000 in
theorem l3True_any (a a' : Option Addr) (n c n' c' : Nat) (zs : List Int) (es : List Tst) (w : World) (hz : zs.length = n) (h6 : n ≤ 6) (hz' : es.length = n') (h8 : n' ≤ 8) (hg : ∀ k, k < es.length → goodE n (tet es k) = true) (ha : At w a zs) (ha' : AtE w a' es) :
    Calls Tryz.prog 124 #[.slice a' n' c', .agg #[.slice a n c]] w fun e w' => e = .returned (.bool (passAll zs es)) ∧ Below w.heap.size w w' := by
  obtain ⟨W, hW⟩ : ∃ W, W = w.alloc (.cells #[.slice a n c] 80) := ⟨_, rfl⟩
  have B0 : Below w.heap.size w W := by rw [hW]; exact (Below.refl _ _).alloc (Nat.le_refl _) _
  have c0 : W.cell? ⟨w.heap.size, 0, none⟩ = some (.slice a n c) := by rw [hW]; simp
  by_cases h0 : n' = 0
  · subst h0
    obtain rfl := List.eq_nil_of_length_eq_zero hz'
    go_enter Tryz.func124, Tryz.ntmps124
    go_wp2
    rw [← hW]
    clear hW
    refine wp_loop_rounds 1 ?_
    rw [rounds_succ]
    go_wp2
    go_ret
    exact ⟨ret_bool rfl, B0⟩
  · obtain ⟨b, off, rfl, hb, hc⟩ := (ha'.below B0).some (by omega)
    have HA := ha.below B0
    go_enter Tryz.func124, Tryz.ntmps124
    go_wp2
    rw [← hW]
    clear hW
    go_loopw [11] (fun i wr => ∃ (k : Nat), k ≤ n' ∧ i = .int .i64 k ∧ (es.take k).all (passE zs) = true ∧ Below W.heap.size W wr) (fun i _ => n' - (intOf i).toNat)
    case atStart => exact ⟨0, Nat.zero_le _, rfl, rfl, Below.refl _ _⟩
    case round =>
      obtain ⟨k, hk, rfl, hal, hbw⟩ := hrel
      by_cases hlt : k < n'
      · obtain ⟨hx, hy, hv⟩ := hc k (by omega)
        have hx := (hbw.cell hb).trans hx
        have hy := (hbw.cell hb).trans hy
        have hv := (hbw.cell hb).trans hv
        have hgk := hg k (by omega)
        have HS := Hid.mk (all_step (passE zs) es k (by omega))
        have HN : Hid (passE zs (tet es k) = false → passAll zs es = false) := fun e => all_not (by omega) e
        generalize tet es k = Y at *
        obtain ⟨x, y, v⟩ := Y
        simp only at hx hy hv
        have hg' : 0 ≤ y ∧ y < n ∧ ((1 ≤ x ∧ x ≤ 3 ∧ -100000 ≤ v ∧ v ≤ 100000) ∨ (x = 4 ∧ 0 ≤ v ∧ v < n)) := by simpa [goodE] using hgk
        obtain ⟨y', rfl⟩ : ∃ k : Nat, y = k := ⟨y.toNat, by omega⟩
        obtain ⟨d, of2, rfl, hd, hcz⟩ := (HA.below hbw).some (by omega)
        have hcy := hcz y' (by omega)
        have hyn : (y' : Int) < (n : Int) := by omega
        have hki : (k : Int) < (n' : Int) := by omega
        have cr := cell_later hbw c0
        have hbL : Below wr.heap.size wr (wr.alloc (.cells #[.int .i64 x, .int .i64 (y' : Int), .int .i64 v] 148)) := (Below.refl _ _).alloc (Nat.le_refl _) _
        have crL := cell_later hbL cr
        have hcyL := cell_later hbL hcy
        have HB := Hid.mk (hbw.trans (hbL.mono hbw.size))
        have HAL := Hid.mk hal
        have fin : ∀ P : Bool, Hid (passE zs (x, (y' : Int), v) = P → P = true → (es.take (k + 1)).all (passE zs) = true) := fun P e1 e2 => by rw [HS.out, HAL.out, e1, e2]; rfl
        by_cases h4 : x = 4
        · subst h4
          obtain ⟨v', rfl⟩ : ∃ k : Nat, v = k := ⟨v.toNat, by omega⟩
          have hcv := cell_later hbL (hcz v' (by omega))
          have hvn : (v' : Int) < (n : Int) := by omega
          have HP : Hid (passE zs (4, (y' : Int), (v' : Int)) = decide (zs.getD y' 0 = zs.getD v' 0)) := by show _ = _; simp [passE]
          clear hgk hg' hc hcz hal hg hcy
          generalize zs.getD y' 0 = cy at *
          generalize zs.getD v' 0 = cv at *
          by_cases hp : cy = cv
          · have HF := Hid.mk ((fin _).out HP.out (decide_eq_true hp))
            subst hp
            go_wp2
            go_roundw
            case rel => exact ⟨k + 1, by omega, by go_num, HF.out, HB.out⟩
            case measure => simp [intOf]; omega
          · have HF := Hid.mk (HN.out (HP.out.trans (decide_eq_false hp)))
            have hp' : (cy == cv) = false := by simpa using hp
            go_wp2
            go_ret
            exact ⟨ret_bool HF.out.symm, B0.trans (HB.out.mono B0.size)⟩
        · have HP : Hid (passE zs (x, (y' : Int), v) = if x = 1 then decide (zs.getD y' 0 = v) else if x = 2 then decide (zs.getD y' 0 < v) else decide (v < zs.getD y' 0)) := by
            show _ = _
            unfold passE
            have : x = 1 ∨ x = 2 ∨ x = 3 := by omega
            rcases this with rfl | rfl | rfl <;> simp
          have h3 : x = 1 ∨ x = 2 ∨ x = 3 := by omega
          clear hgk hg' hc hcz hal hg hcy h4
          generalize zs.getD y' 0 = cy at *
          rcases h3 with rfl | rfl | rfl
          · by_cases hp : cy = v
            · have HF := Hid.mk ((fin _).out HP.out (decide_eq_true hp))
              subst hp
              go_wp2
              go_roundw
              case rel => exact ⟨k + 1, by omega, by go_num, HF.out, HB.out⟩
              case measure => simp [intOf]; omega
            · have HF := Hid.mk (HN.out (HP.out.trans (decide_eq_false hp)))
              have hp' : (cy == v) = false := by simpa using hp
              go_wp2
              go_ret
              exact ⟨ret_bool HF.out.symm, B0.trans (HB.out.mono B0.size)⟩
          · by_cases hp : cy < v
            · have HF := Hid.mk ((fin _).out HP.out (decide_eq_true hp))
              go_wp2
              go_roundw
              case rel => exact ⟨k + 1, by omega, by go_num, HF.out, HB.out⟩
              case measure => simp [intOf]; omega
            · have HF := Hid.mk (HN.out (HP.out.trans (decide_eq_false hp)))
              have hp' : v ≤ cy := by omega
              go_wp2
              go_ret
              exact ⟨ret_bool HF.out.symm, B0.trans (HB.out.mono B0.size)⟩
          · by_cases hp : v < cy
            · have HF := Hid.mk ((fin _).out HP.out (decide_eq_true hp))
              go_wp2
              go_roundw
              case rel => exact ⟨k + 1, by omega, by go_num, HF.out, HB.out⟩
              case measure => simp [intOf]; omega
            · have HF := Hid.mk (HN.out (HP.out.trans (decide_eq_false hp)))
              have hp' : cy ≤ v := by omega
              go_wp2
              go_ret
              exact ⟨ret_bool HF.out.symm, B0.trans (HB.out.mono B0.size)⟩
      · obtain rfl : k = n' := by omega
        rw [← hz', List.take_length] at hal
        have HAL := Hid.mk hal
        clear hal
        go_wp2
        go_ret
        exact ⟨ret_bool (by unfold passAll; rw [HAL.out]), B0.trans (hbw.mono B0.size)⟩
end Go.Proofs.YthiabjkjpjmahaaGreat

/- The order of arrays as slices.SortFunc asks it: impl.compareArrays lays two blocks, draws, and turns nothing else. -/
namespace Go.Proofs.YthiabjkjpjmahaaGreat
open Go.RowKit

set_option maxHeartbeats 1000000 in
theorem compareArrays_quiet (x0 x1 x2 x3 x4 x5 y0 y1 y2 y3 y4 y5 : Int) (xs ys : List Int) (hx : xs = [x0, x1, x2, x3, x4, x5]) (hy : ys = [y0, y1, y2, y3, y4, y5]) (w : World) :
    Calls Tryz.prog 106 #[.agg #[.int .i64 x0, .int .i64 x1, .int .i64 x2, .int .i64 x3, .int .i64 x4, .int .i64 x5], .agg #[.int .i64 y0, .int .i64 y1, .int .i64 y2, .int .i64 y3, .int .i64 y4, .int .i64 y5]] w fun e w' => e = .returned (.int .i64 (cmp xs ys)) ∧ ∃ q, w' = ((w.alloc (.cells #[.int .i64 x0, .int .i64 x1, .int .i64 x2, .int .i64 x3, .int .i64 x4, .int .i64 x5] 131)).alloc (.cells #[.int .i64 y0, .int .i64 y1, .int .i64 y2, .int .i64 y3, .int .i64 y4, .int .i64 y5] 131)).drewN q := by
  obtain ⟨W, hW⟩ : ∃ W, W = (w.alloc (.cells #[.int .i64 x0, .int .i64 x1, .int .i64 x2, .int .i64 x3, .int .i64 x4, .int .i64 x5] 131)).alloc (.cells #[.int .i64 y0, .int .i64 y1, .int .i64 y2, .int .i64 y3, .int .i64 y4, .int .i64 y5] 131) := ⟨_, rfl⟩
  have B : Below w.heap.size w W := by rw [hW]; exact ((Below.refl _ _).alloc (Nat.le_refl _) _).alloc (by simp) _
  have A1 : Arr W w.heap.size 131 xs := by rw [hW, hx]; exact (Arr.new rfl (by simp)).alloc _
  have A2 : Arr W (w.heap.size + 1) 131 ys := by rw [hW, hy]; exact Arr.new (by simp) (by simp)
  have HW := Hid.mk hW
  obtain ⟨i0, hi, hz0, hz1, hz2⟩ := info_parts Tryz.infoInt
  have hq : ∀ w, (Op.equalIn 10000 131 (.agg #[.int .i64 x0, .int .i64 x1, .int .i64 x2, .int .i64 x3, .int .i64 x4, .int .i64 x5]) (.agg #[.int .i64 y0, .int .i64 y1, .int .i64 y2, .int .i64 y3, .int .i64 y4, .int .i64 y5])).run Tryz.prog w = .ok (decide (xs = ys)) w := fun w => by
    rw [hx, hy]
    simpa using run_equal_ints w 9998 131 3 i0 Tryz.underlying131 Tryz.underlying3 hi hz1 [x0, x1, x2, x3, x4, x5] [y0, y1, y2, y3, y4, y5] rfl rfl
  have l1 : xs.length = 6 := by rw [hx]; rfl
  have l2 : ys.length = 6 := by rw [hy]; rfl
  clear hx hy hi hz0 hz1 hz2
  by_cases he : xs = ys
  · have HC : Hid (cmp xs ys = 0) := by rw [he]; exact cmp_self ys
    rw [decide_eq_true he] at hq
    clear he A1 A2
    go_enter Tryz.func106, Tryz.ntmps106
    go_wp2
    go_ret
    exact ⟨ret_int HC.out.symm, 0, rfl⟩
  · rw [decide_eq_false he] at hq
    have HN : Hid (xs ≠ ys) := he
    clear he
    go_enter Tryz.func106, Tryz.ntmps106
    go_wp2
    rw [← hW]
    clear hW hq
    go_loopw [5] (fun i wr => ∃ k : Nat, k ≤ 6 ∧ i = .int .i64 k ∧ xs.take k = ys.take k ∧ cmp xs ys = cmp (xs.drop k) (ys.drop k) ∧ ∃ q, wr = W.drewN q) (fun i _ => 7 - (intOf i).toNat)
    case atStart => exact ⟨0, Nat.zero_le _, rfl, rfl, by simp, 0, rfl⟩
    case round =>
      obtain ⟨k, hk, rfl, ht, hcmp, q, rfl⟩ := hrel
      have hlt : k < 6 := by
        rcases Nat.lt_or_ge k 6 with h | h
        · exact h
        · exact absurd (take_all_eq (by omega) (by omega) ht) HN.out
      have hcx := A1.cell k (by omega)
      have hcy := A2.cell k (by omega)
      have HT : Hid (xs.getD k 0 = ys.getD k 0 → xs.take (k + 1) = ys.take (k + 1)) := fun e => by
        rw [take_succ_getD xs k (by omega), take_succ_getD ys k (by omega), ht, e]
      have HD : Hid (cmp xs ys = _) := hcmp.trans (cmp_drop xs ys k (by omega) (by omega))
      clear ht hcmp A1 A2
      obtain ⟨x, hx⟩ : ∃ x, x = xs.getD k 0 := ⟨_, rfl⟩
      obtain ⟨y, hy⟩ : ∃ y, y = ys.getD k 0 := ⟨_, rfl⟩
      rw [← hx] at hcx HD HT
      rw [← hy] at hcy HD HT
      clear hx hy
      have hk6 : (k : Int) < 6 := by omega
      rcases Int.lt_trichotomy x y with h | h | h
      · have hne : (x == y) = false := by simp; omega
        go_wp2
        go_quiet (fail)
        go_wp2
        go_quiet (fail)
        go_wp2
        go_ret
        exact ⟨ret_int (by rw [HD.out, if_pos h]), _, by rw [← HW.out]; simp; rfl⟩
      · subst h
        go_wp2
        go_quiet (fail)
        go_wp2
        go_roundw
        case rel => exact ⟨k + 1, by omega, by go_num, HT.out (by trivial), by rw [HD.out, if_neg (by omega), if_neg (by omega)], _, rfl⟩
        case measure => simp [intOf]; omega
      · have hne : (x == y) = false := by simp; omega
        go_wp2
        go_quiet (fail)
        go_wp2
        go_quiet (fail)
        go_wp2
        go_ret
        exact ⟨ret_int (by rw [HD.out, if_neg (by omega), if_pos h]), _, by rw [← HW.out]; simp; rfl⟩

open Go.Shelf Go.Sort

/-- Six numbers. -/
abbrev Six := Int × Int × Int × Int × Int × Int
def Six.list (x : Six) : List Int := [x.1, x.2.1, x.2.2.1, x.2.2.2.1, x.2.2.2.2.1, x.2.2.2.2.2]
def Six.enc (x : Six) : List Value := [.int .i64 x.1, .int .i64 x.2.1, .int .i64 x.2.2.1, .int .i64 x.2.2.2.1, .int .i64 x.2.2.2.2.1, .int .i64 x.2.2.2.2.2]
def Six.cf (x y : Six) : Int := cmp (Six.list x) (Six.list y)
theorem Six.list_inj {x y : Six} (h : Six.list x = Six.list y) : x = y := by
  obtain ⟨a, b, c, d, e, f⟩ := x
  obtain ⟨a', b', c', d', e', f'⟩ := y
  simpa [Six.list] using h

theorem Six.lays (blk off size : Nat) (w : World) : CmpLays Tryz.prog 106 #[] Six.enc 6 Six.cf blk off size w := fun m os dk _ x y => by
  refine (compareArrays_quiet _ _ _ _ _ _ _ _ _ _ _ _ (Six.list x) (Six.list y) rfl rfl _).mono ?_
  rintro e w' ⟨rfl, q, rfl⟩
  exact ⟨rfl, q, _, by rw [alloc_eq_grow, alloc_eq_grow, grow_grow]; rfl⟩

theorem cmp_nlt {xs ys zs : List Int} (h1 : ¬ cmp xs ys < 0) (h2 : ¬ cmp ys zs < 0) : ¬ cmp xs zs < 0 := fun h => by
  have h3 := cmp_swap xs ys
  by_cases e : cmp ys xs < 0
  · exact h2 (cmp_trans e h)
  · have : cmp xs ys = 0 := by omega
    rw [cmp_eq this] at h
    exact h2 h

theorem Six.lt (x y : Six) : ltOf Six.cf x y = decide (cmp (Six.list x) (Six.list y) < 0) := rfl
theorem Six.swo : SWO (ltOf Six.cf) where
  irrefl x := by rw [Six.lt]; exact decide_eq_false (cmp_irrefl _)
  trans x y z h1 h2 := by rw [Six.lt, decide_eq_true_eq] at *; exact cmp_trans h1 h2
  ntrans x y z h1 h2 := by rw [Six.lt, decide_eq_false_iff_not] at *; exact cmp_nlt h1 h2
theorem Six.total (x y : Six) (h1 : ltOf Six.cf x y = false) (h2 : ltOf Six.cf y x = false) : x = y := by
  rw [Six.lt, decide_eq_false_iff_not] at h1 h2
  have := cmp_swap (Six.list x) (Six.list y)
  exact Six.list_inj (cmp_eq (by omega))

end Go.Proofs.YthiabjkjpjmahaaGreat
