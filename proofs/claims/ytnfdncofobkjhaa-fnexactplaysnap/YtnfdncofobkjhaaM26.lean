/- Contract of the program's NewSnap. -/
import Derived.Test.YtnfdncofobkjhaaM13
import Derived.Test.YtnfdncofobkjhaaM11
import Derived.Test.YtnfdncofobkjhaaM4
import Derived.Deep.CutBlock
import Derived.Deep.DeepCutAuto
namespace Go.Proofs.Ytnfdncofobkjhaa
open Go.RowKit

theorem Try.infoProcI : (Try.prog.info? 74).map (fun i => (i.zero, i.size, i.bytes)) = some (some (.agg #[.int .i64 0, .int .i64 0, .bool false]), 3, 24) := by kernel_rfl
theorem Try.infoWireI : (Try.prog.info? 76).map (fun i => (i.zero, i.size, i.bytes)) = some (some (.agg #[.slice none 0 0, .slice none 0 0, .bool false]), 3, 56) := by kernel_rfl
theorem own_in {α : Type} {A : Rep α} {w : World} {base : Nat} {e : TypeId} {g n c : Nat} {xs : List α} (h : (Rep.slice e A).Own w (From base w.heap.size) [.slice (some ⟨g, 0, none⟩) n c] xs) (hr : ∀ cs x w F F', A.Own w F cs x → A.Own w F' cs x) : (Rep.slice e A).Own w (fun b => b = g) [.slice (some ⟨g, 0, none⟩) n c] xs := by
  obtain ⟨a', n', c', cells, G, e', h⟩ := h
  simp only [List.cons.injEq, Value.slice.injEq, and_true] at e'
  obtain ⟨rfl, rfl, rfl⟩ := e'
  exact ⟨_, _, _, cells, fun _ _ => False, rfl, h.len, h.big, h.outer, fun b hb => by simpa [Value.ownBlock, eq_comm] using hb, fun i x hi hx => hr _ _ _ _ _ (h.row i x hi hx), fun _ _ _ hb => hb.elim, fun _ _ _ _ _ _ hb => hb.elim⟩
theorem row_of_blk {w : World} {g m K : Nat} {t : TypeId} {cs : Array Value} (h : w.heap[g]? = some (.cells cs t (0, 0))) (hs : cs.size = m * K) (hm : m ≤ 1048576) : w.ownsRow 0 t K (.slice (some ⟨g, 0, none⟩) m m) m cs.toList :=
  ⟨by rw [Array.length_toList, hs], .inr ⟨g, m, cs, rfl, Nat.zero_le _, h, Nat.le_refl _, by unfold maxLen; omega, hs, List.take_of_length_le (by rw [Array.length_toList, hs]; exact Nat.le_refl _)⟩⟩
theorem wires_in {w : World} {g m : Nat} {cells : List Value} (ho : w.ownsRow 0 76 3 (.slice (some ⟨g, 0, none⟩) m m) m cells) (hm : m ≤ 1048576) (h : WzA cells m) : RWires.Own w (fun b => b = g) [.slice (some ⟨g, 0, none⟩) m m] (wsN m) :=
  ⟨_, _, _, cells, fun _ _ => False, rfl, by simp [wsN], by omega, ho, fun b hb => by simpa [Value.ownBlock, eq_comm] using hb, fun i x hi hx => by
    obtain rfl : ([], [], false) = x := by
      rw [List.getElem?_replicate] at hx
      simpa [hi] using hx
    obtain ⟨h0, h1, h2⟩ := h.2 i hi
    show RWire.Own w _ (sub cells (i * 3) 3) ([], [], false)
    rw [sub3 h0 h1 h2]
    exact RWire.own_mk (F0 := fun _ => False) (F1 := fun _ => False) (RInts.nil _ _) (RInts.nil _ _) (fun _ h => h) (fun _ h => h) (fun _ h => h.elim), fun _ _ _ hb => hb.elim, fun _ _ _ _ _ _ hb => hb.elim⟩
theorem gs_no {zs : List Int} {n : Nat} (hz : zs.length = n) (h : ¬ (2 ≤ n ∧ n ≤ 4)) : gsB (newS zs) = false := by
  have hl : (newS zs).1.length = n := by simp [newS, psN, hz]
  unfold gsB
  rw [hl]
  by_cases h2 : 2 ≤ n
  · rw [decide_eq_false (show ¬ n ≤ 4 by omega)]; simp
  · rw [decide_eq_false h2]; simp
theorem RProc.any {w w' : World} {F F' : Nat → Prop} {cs : List Value} {x : TProc} (h : RProc.Own w F cs x) : RProc.Own w' F' cs x := by
  rw [RProc.own_open h]
  exact RProc.own_mk
theorem pz_step {zs : List Int} {k n : Nat} {y : Int} (hz : zs.length = n) (hk : k < n) (hy : zs[k]? = some y) : (zs.take k ++ List.replicate (n - k) 0).set k y = zs.take (k + 1) ++ List.replicate (n - (k + 1)) 0 := by
  obtain ⟨hk2, rfl⟩ := List.getElem?_eq_some_iff.1 hy
  rw [List.set_append_right _ _ (by simp; omega), List.take_succ_eq_append_getElem hk2, List.length_take, Nat.min_eq_left (by omega), Nat.sub_self, show n - k = (n - (k + 1)) + 1 by omega, List.replicate_succ, List.set_cons_zero, List.append_assoc]
  rfl

set_option maxRecDepth 100000 in
set_option maxHeartbeats 8000000 in
theorem implNewSnap (a : Option Addr) (n c : Nat) (zs : List Int) (w : World) (hz : zs.length = n) (hn : n ≤ 1048576) (ha : At w a zs) :
    Calls Try.prog 45 #[.slice a n c] w fun e w' => SnapRet e w' w.heap.size (gsB (newS zs)) (if gsB (newS zs) then newS zs else ([], [])) ∧ Below w.heap.size w w' := by
  obtain ⟨k0, hk0, hx0, hx1, hx2⟩ := info_parts Try.infoProcI
  obtain ⟨i0, hi0, hz0, hz1, hz2⟩ := info_parts Try.infoWireI
  obtain ⟨PB, hPB⟩ : ∃ b, gsB (newS zs) = b := ⟨_, rfl⟩
  obtain ⟨X, hX⟩ : ∃ x, (if gsB (newS zs) then newS zs else ([], [])) = x := ⟨_, rfl⟩
  rw [hX, hPB]
  have HPB := Hid.mk hPB
  have HXX := Hid.mk hX
  clear hX hPB
  obtain ⟨W, hW⟩ : ∃ W, W = w.alloc (.cells #[.slice none 0 0, .slice none 0 0] 32) := ⟨_, rfl⟩
  have B0 : Below w.heap.size w W := by rw [hW]; exact (Below.refl _ _).alloc (Nat.le_refl _) _
  have b0 : W.heap[w.heap.size]? = some (.cells #[.slice none 0 0, .slice none 0 0] 32 (0, 0)) := by rw [hW]; exact heap_alloc_new w _
  have zW : w.heap.size < W.heap.size := by rw [hW]; simp
  have KM := Hid.mk (mayBeProcs_any (n : Int) W)
  have HA := Hid.mk ha
  have HZ := Hid.mk hz
  clear ha hz
  by_cases hm : 2 ≤ n ∧ n ≤ 4
  rotate_left
  · have hmf : (decide (2 ≤ (n : Int)) && decide ((n : Int) ≤ 4)) = false := by simp only [Bool.and_eq_false_iff, decide_eq_false_iff_not]; omega
    rw [hmf] at KM
    have hX0 : X = ([], []) := by rw [← HXX.out, gs_no HZ.out hm]; rfl
    have hP0 : PB = false := by rw [← HPB.out, gs_no HZ.out hm]
    subst hX0
    subst hP0
    have y0 := blk_cell b0 0 (v := .slice none 0 0) rfl
    have y1 := blk_cell b0 1 (v := .slice none 0 0) rfl
    have f0 := blk_frozen b0 0
    have f1 := blk_frozen b0 1
    clear hm hmf
    go_enter Try.func45, Try.ntmps45
    go_wp2_with fail
    rw [← hW]
    clear hW
    refine KM.out.mono ?_
    rintro e w0 ⟨rfl, hw0⟩
    obtain rfl := hw0.symm
    go_wp2
    refine bodyPost_ret (v := .tuple #[.agg #[.slice none 0 0, .slice none 0 0], .bool false]) (by simp [results, Try.results45, go_sem, y0, y1]) rfl ⟨⟨none, 0, 0, none, 0, 0, rfl, RSnap.nil _ _⟩, ?_⟩
    exact (B0.setCell (Nat.le_refl _) _).setCell (Nat.le_refl _) _
  have hmf : (decide (2 ≤ (n : Int)) && decide ((n : Int) ≤ 4)) = true := by simp only [Bool.and_eq_true, decide_eq_true_eq]; omega
  rw [hmf] at KM
  obtain ⟨m0, m1⟩ := hm
  obtain ⟨Q, hQ⟩ : ∃ Q : Nat, n * n = Q := ⟨_, rfl⟩
  have hQ16 : Q ≤ 16 := by rw [← hQ]; exact Nat.mul_le_mul m1 m1
  have hmul : (n : Int) * (n : Int) = (Q : Int) := by rw [← hQ]; push_cast; rfl
  have HX2 : Hid (newS zs = (psN zs, wsN Q)) := Hid.mk (by unfold newS; rw [HZ.out, hQ])
  have hm1 : ∀ w : World, (Instr.makeSlice 29 (.int .i64 (n : Int)) (.int .i64 (n : Int))).run Try.prog w = .ok (.slice (some ⟨w.heap.size, 0, none⟩) n n) (w.alloc (.cells (madeCells #[.int .i64 0, .int .i64 0, .bool false] (n * 3)) 74)) := fun w => by
    have q := run_makeSlice (P := Try.prog) w 29 74 k0 (.agg #[.int .i64 0, .int .i64 0, .bool false]) Try.underlying29 hk0 hx0 .i64 .i64 (n : Int) (n : Int) (by omega) (by omega) (by rw [hx1]; simp; omega) (by rw [hx2]; omega) (by omega)
    rw [hx1, Int.toNat_natCast] at q
    exact q
  have hm2 : ∀ w : World, (Instr.makeSlice 30 (.int .i64 (Q : Int)) (.int .i64 (Q : Int))).run Try.prog w = .ok (.slice (some ⟨w.heap.size, 0, none⟩) Q Q) (w.alloc (.cells (madeCells #[.slice none 0 0, .slice none 0 0, .bool false] (Q * 3)) 76)) := fun w => by
    have q := run_makeSlice (P := Try.prog) w 30 76 i0 (.agg #[.slice none 0 0, .slice none 0 0, .bool false]) Try.underlying30 hi0 hz0 .i64 .i64 (Q : Int) (Q : Int) (by omega) (by omega) (by rw [hz1]; simp; omega) (by rw [hz2]; omega) (by omega)
    rw [hz1, Int.toNat_natCast] at q
    exact q
  have hwq : IntKind.i64.wrap (Q : Int) = (Q : Int) := IntWalk.i64_in _ (by omega)
  clear hmf hQ
  go_enter Try.func45, Try.ntmps45
  go_wp2_with fail
  rw [← hW]
  clear hW
  refine KM.out.mono ?_
  rintro e w0 ⟨rfl, hw0⟩
  obtain rfl := hw0.symm
  clear KM
  go_upto_region 4 with fail
  go_cut [5] (fun p wx => ∃ Pb g1 g2 : Nat, p = .pointer (some ⟨Pb, 0, none⟩) ∧ wx.heap[Pb]? = some (.cells #[.slice (some ⟨g1, 0, none⟩) n n, .slice (some ⟨g2, 0, none⟩) Q Q] 32 (0, 0)) ∧ wx.heap[g1]? = some (.cells (madeCells #[.int .i64 0, .int .i64 0, .bool false] (n * 3)) 74 (0, 0)) ∧ wx.heap[g2]? = some (.cells (madeCells #[.slice none 0 0, .slice none 0 0, .bool false] (Q * 3)) 76 (0, 0)) ∧
    W.heap.size ≤ Pb ∧ W.heap.size ≤ g1 ∧ W.heap.size ≤ g2 ∧ g1 ≠ g2 ∧ g1 ≠ Pb ∧ g2 ≠ Pb ∧ Pb < wx.heap.size ∧ g1 < wx.heap.size ∧ g2 < wx.heap.size ∧ Below W.heap.size W wx)
  case first =>
    refine wp_region_held_drew (S := fun w' => True) (by kernel_rfl) ?_ (fun hHeld => ?_)
    · (try dsimp only)
      (try trivial)
    refine tk 0 ?_
    refine tk 2 ?_
    refine tk 3 ?_
    refine tk 4 ?_
    obtain ⟨v0, hv0⟩ : ∃ u, u = W.drew := ⟨_, rfl⟩
    have BB_v0 : Below W.heap.size W v0 := by rw [hv0]; exact (Below.refl _ _).drew
    have zv0 : W.heap.size ≤ v0.heap.size := BB_v0.size
    rw [← hv0]
    clear hv0
    refine wpAnyH_ready (rs := [1, 5, 7]) (by kernel_rfl) (by simp) ?_
    refine AllReadyH.cons (o := ?_) ?_ (fun K hK => ?_) ?_
    rotate_left
    · (simp only [List.getElem?_toArray, List.getElem?_cons_zero, List.getElem?_cons_succ]; rfl)
    · go_simp
      (try go_wp2_with fail)
      refine hK.out _ _ ?_ (fun hHeld' => ?_)
      · (try dsimp only)
        (try trivial)
      clear hK K hHeld
      have hHeld := hHeld'
      clear hHeld'
      (try simp only [Act.put, List.setIfInBounds_toArray, List.set_cons_zero, List.set_cons_succ])
      obtain ⟨v1, hv1⟩ : ∃ u, u = v0.alloc (.cells (madeCells #[.int .i64 0, .int .i64 0, .bool false] (n * 3)) 74) := ⟨_, rfl⟩
      have hb1 : Below v0.heap.size v0 v1 := by rw [hv1]; exact (Below.refl _ _).alloc (Nat.le_refl _) _
      have zl1 : v0.heap.size < v1.heap.size := by rw [hv1]; simp
      have BB_v1 : Below W.heap.size W v1 := BB_v0.trans (hb1.mono BB_v0.size)
      have g1_1 : v1.heap[v0.heap.size]? = some (.cells (madeCells #[.int .i64 0, .int .i64 0, .bool false] (n * 3)) 74 (0, 0)) := by rw [hv1]; exact heap_alloc_new _ _
      rw [← hv1]
      clear hv1 hb1
      refine wpAnyH_ready (rs := [5, 7]) (by kernel_rfl) (by simp) ?_
      refine AllReadyH.cons (o := ?_) ?_ (fun K hK => ?_) ?_
      rotate_left
      · (simp only [List.getElem?_toArray, List.getElem?_cons_zero, List.getElem?_cons_succ]; rfl)
      · go_simp
        (try go_wp2_with fail)
        refine hK.out _ _ ?_ (fun hHeld' => ?_)
        · (try dsimp only)
          (try trivial)
        clear hK K hHeld
        have hHeld := hHeld'
        clear hHeld'
        (try simp only [Act.put, List.setIfInBounds_toArray, List.set_cons_zero, List.set_cons_succ])
        obtain ⟨v2, hv2⟩ : ∃ u, u = v1.alloc (.cells (madeCells #[.slice none 0 0, .slice none 0 0, .bool false] (Q * 3)) 76) := ⟨_, rfl⟩
        have hb2 : Below v1.heap.size v1 v2 := by rw [hv2]; exact (Below.refl _ _).alloc (Nat.le_refl _) _
        have zl2 : v1.heap.size < v2.heap.size := by rw [hv2]; simp
        have BB_v2 : Below W.heap.size W v2 := BB_v1.trans (hb2.mono BB_v1.size)
        have g1_2 := blk_below g1_1 hb2
        have g2_2 : v2.heap[v1.heap.size]? = some (.cells (madeCells #[.slice none 0 0, .slice none 0 0, .bool false] (Q * 3)) 76 (0, 0)) := by rw [hv2]; exact heap_alloc_new _ _
        rw [← hv2]
        clear hv2 hb2
        refine tk 6 ?_
        refine wpAnyH_ready (rs := [7]) (by kernel_rfl) (by simp) ?_
        refine AllReadyH.cons (o := ?_) ?_ (fun K hK => ?_) AllReadyH.nil
        rotate_left
        · (simp only [List.getElem?_toArray, List.getElem?_cons_zero, List.getElem?_cons_succ]; rfl)
        go_simp
        (try go_wp2_with fail)
        refine hK.out _ _ ?_ (fun hHeld' => ?_)
        · (try dsimp only)
          (try trivial)
        clear hK K hHeld
        have hHeld := hHeld'
        clear hHeld'
        (try simp only [Act.put, List.setIfInBounds_toArray, List.set_cons_zero, List.set_cons_succ])
        obtain ⟨v3, hv3⟩ : ∃ u, u = v2.alloc (.cells #[.slice none 0 0, .slice none 0 0] 32) := ⟨_, rfl⟩
        have hb3 : Below v2.heap.size v2 v3 := by rw [hv3]; exact (Below.refl _ _).alloc (Nat.le_refl _) _
        have zl3 : v2.heap.size < v3.heap.size := by rw [hv3]; simp
        have BB_v3 : Below W.heap.size W v3 := BB_v2.trans (hb3.mono BB_v2.size)
        have g1_3 := blk_below g1_2 hb3
        have g2_3 := blk_below g2_2 hb3
        have pb_3 : v3.heap[v2.heap.size]? = some (.cells #[.slice none 0 0, .slice none 0 0] 32 (0, 0)) := by rw [hv3]; exact heap_alloc_new _ _
        rw [← hv3]
        clear hv3 hb3
        have qs0 := blk_cell pb_3 0 (v := .slice none 0 0) rfl
        have qs1 := blk_cell pb_3 1 (v := .slice none 0 0) rfl
        have fs0 := blk_frozen pb_3 0
        have fs1 := blk_frozen pb_3 1
        refine wpAnyH_ready (rs := [8]) (by kernel_rfl) (by simp) ?_
        refine AllReadyH.cons (o := ?_) ?_ (fun K hK => ?_) AllReadyH.nil
        rotate_left
        · (simp only [List.getElem?_toArray, List.getElem?_cons_zero, List.getElem?_cons_succ]; rfl)
        go_simp
        skip
        (try go_wp2_with fail)
        refine hK.out _ _ ?_ (fun hHeld' => ?_)
        · (try dsimp only)
          (try trivial)
        clear hK K hHeld
        have hHeld := hHeld'
        clear hHeld'
        (try simp only [Act.put, List.setIfInBounds_toArray, List.set_cons_zero, List.set_cons_succ])
        refine wpAnyH_done (by kernel_rfl) ?_ _
        (try go_wp2_with fail)
        go_meet
        case rel =>
          refine ⟨v2.heap.size, v0.heap.size, v1.heap.size, rfl, ?_, ?_, ?_, by omega, by omega, by omega, by omega, by omega, by omega, ?_, ?_, ?_, ?_⟩
          · exact blk_set (blk_set pb_3 0 _) 1 _
          · exact blk_other (blk_other g1_3 (by show v0.heap.size ≠ v2.heap.size; omega) _) (by show v0.heap.size ≠ v2.heap.size; omega) _
          · exact blk_other (blk_other g2_3 (by show v1.heap.size ≠ v2.heap.size; omega) _) (by show v1.heap.size ≠ v2.heap.size; omega) _
          · simp [World.setCell]; omega
          · simp [World.setCell]; omega
          · simp [World.setCell]; omega
          · exact (BB_v3.setCell (by show W.heap.size ≤ v2.heap.size; omega) _).setCell (by show W.heap.size ≤ v2.heap.size; omega) _
      refine AllReadyH.cons (o := ?_) ?_ (fun K hK => ?_) AllReadyH.nil
      rotate_left
      · (simp only [List.getElem?_toArray, List.getElem?_cons_zero, List.getElem?_cons_succ]; rfl)
      · go_simp
        (try go_wp2_with fail)
        refine hK.out _ _ ?_ (fun hHeld' => ?_)
        · (try dsimp only)
          (try trivial)
        clear hK K hHeld
        have hHeld := hHeld'
        clear hHeld'
        (try simp only [Act.put, List.setIfInBounds_toArray, List.set_cons_zero, List.set_cons_succ])
        obtain ⟨v4, hv4⟩ : ∃ u, u = v1.alloc (.cells #[.slice none 0 0, .slice none 0 0] 32) := ⟨_, rfl⟩
        have hb4 : Below v1.heap.size v1 v4 := by rw [hv4]; exact (Below.refl _ _).alloc (Nat.le_refl _) _
        have zl4 : v1.heap.size < v4.heap.size := by rw [hv4]; simp
        have BB_v4 : Below W.heap.size W v4 := BB_v1.trans (hb4.mono BB_v1.size)
        have g1_4 := blk_below g1_1 hb4
        have pb_4 : v4.heap[v1.heap.size]? = some (.cells #[.slice none 0 0, .slice none 0 0] 32 (0, 0)) := by rw [hv4]; exact heap_alloc_new _ _
        rw [← hv4]
        clear hv4 hb4
        refine wpAnyH_ready (rs := [5]) (by kernel_rfl) (by simp) ?_
        refine AllReadyH.cons (o := ?_) ?_ (fun K hK => ?_) AllReadyH.nil
        rotate_left
        · (simp only [List.getElem?_toArray, List.getElem?_cons_zero, List.getElem?_cons_succ]; rfl)
        go_simp
        (try go_wp2_with fail)
        refine hK.out _ _ ?_ (fun hHeld' => ?_)
        · (try dsimp only)
          (try trivial)
        clear hK K hHeld
        have hHeld := hHeld'
        clear hHeld'
        (try simp only [Act.put, List.setIfInBounds_toArray, List.set_cons_zero, List.set_cons_succ])
        obtain ⟨v5, hv5⟩ : ∃ u, u = v4.alloc (.cells (madeCells #[.slice none 0 0, .slice none 0 0, .bool false] (Q * 3)) 76) := ⟨_, rfl⟩
        have hb5 : Below v4.heap.size v4 v5 := by rw [hv5]; exact (Below.refl _ _).alloc (Nat.le_refl _) _
        have zl5 : v4.heap.size < v5.heap.size := by rw [hv5]; simp
        have BB_v5 : Below W.heap.size W v5 := BB_v4.trans (hb5.mono BB_v4.size)
        have g1_5 := blk_below g1_4 hb5
        have pb_5 := blk_below pb_4 hb5
        have g2_5 : v5.heap[v4.heap.size]? = some (.cells (madeCells #[.slice none 0 0, .slice none 0 0, .bool false] (Q * 3)) 76 (0, 0)) := by rw [hv5]; exact heap_alloc_new _ _
        rw [← hv5]
        clear hv5 hb5
        refine tk 6 ?_
        have qs0 := blk_cell pb_5 0 (v := .slice none 0 0) rfl
        have qs1 := blk_cell pb_5 1 (v := .slice none 0 0) rfl
        have fs0 := blk_frozen pb_5 0
        have fs1 := blk_frozen pb_5 1
        refine wpAnyH_ready (rs := [8]) (by kernel_rfl) (by simp) ?_
        refine AllReadyH.cons (o := ?_) ?_ (fun K hK => ?_) AllReadyH.nil
        rotate_left
        · (simp only [List.getElem?_toArray, List.getElem?_cons_zero, List.getElem?_cons_succ]; rfl)
        go_simp
        skip
        (try go_wp2_with fail)
        refine hK.out _ _ ?_ (fun hHeld' => ?_)
        · (try dsimp only)
          (try trivial)
        clear hK K hHeld
        have hHeld := hHeld'
        clear hHeld'
        (try simp only [Act.put, List.setIfInBounds_toArray, List.set_cons_zero, List.set_cons_succ])
        refine wpAnyH_done (by kernel_rfl) ?_ _
        (try go_wp2_with fail)
        go_meet
        case rel =>
          refine ⟨v1.heap.size, v0.heap.size, v4.heap.size, rfl, ?_, ?_, ?_, by omega, by omega, by omega, by omega, by omega, by omega, ?_, ?_, ?_, ?_⟩
          · exact blk_set (blk_set pb_5 0 _) 1 _
          · exact blk_other (blk_other g1_5 (by show v0.heap.size ≠ v1.heap.size; omega) _) (by show v0.heap.size ≠ v1.heap.size; omega) _
          · exact blk_other (blk_other g2_5 (by show v4.heap.size ≠ v1.heap.size; omega) _) (by show v4.heap.size ≠ v1.heap.size; omega) _
          · simp [World.setCell]; omega
          · simp [World.setCell]; omega
          · simp [World.setCell]; omega
          · exact (BB_v5.setCell (by show W.heap.size ≤ v1.heap.size; omega) _).setCell (by show W.heap.size ≤ v1.heap.size; omega) _
    refine AllReadyH.cons (o := ?_) ?_ (fun K hK => ?_) ?_
    rotate_left
    · (simp only [List.getElem?_toArray, List.getElem?_cons_zero, List.getElem?_cons_succ]; rfl)
    · go_simp
      (try go_wp2_with fail)
      refine hK.out _ _ ?_ (fun hHeld' => ?_)
      · (try dsimp only)
        (try trivial)
      clear hK K hHeld
      have hHeld := hHeld'
      clear hHeld'
      (try simp only [Act.put, List.setIfInBounds_toArray, List.set_cons_zero, List.set_cons_succ])
      obtain ⟨v6, hv6⟩ : ∃ u, u = v0.alloc (.cells (madeCells #[.slice none 0 0, .slice none 0 0, .bool false] (Q * 3)) 76) := ⟨_, rfl⟩
      have hb6 : Below v0.heap.size v0 v6 := by rw [hv6]; exact (Below.refl _ _).alloc (Nat.le_refl _) _
      have zl6 : v0.heap.size < v6.heap.size := by rw [hv6]; simp
      have BB_v6 : Below W.heap.size W v6 := BB_v0.trans (hb6.mono BB_v0.size)
      have g2_6 : v6.heap[v0.heap.size]? = some (.cells (madeCells #[.slice none 0 0, .slice none 0 0, .bool false] (Q * 3)) 76 (0, 0)) := by rw [hv6]; exact heap_alloc_new _ _
      rw [← hv6]
      clear hv6 hb6
      refine wpAnyH_ready (rs := [1, 7]) (by kernel_rfl) (by simp) ?_
      refine AllReadyH.cons (o := ?_) ?_ (fun K hK => ?_) ?_
      rotate_left
      · (simp only [List.getElem?_toArray, List.getElem?_cons_zero, List.getElem?_cons_succ]; rfl)
      · go_simp
        (try go_wp2_with fail)
        refine hK.out _ _ ?_ (fun hHeld' => ?_)
        · (try dsimp only)
          (try trivial)
        clear hK K hHeld
        have hHeld := hHeld'
        clear hHeld'
        (try simp only [Act.put, List.setIfInBounds_toArray, List.set_cons_zero, List.set_cons_succ])
        obtain ⟨v7, hv7⟩ : ∃ u, u = v6.alloc (.cells (madeCells #[.int .i64 0, .int .i64 0, .bool false] (n * 3)) 74) := ⟨_, rfl⟩
        have hb7 : Below v6.heap.size v6 v7 := by rw [hv7]; exact (Below.refl _ _).alloc (Nat.le_refl _) _
        have zl7 : v6.heap.size < v7.heap.size := by rw [hv7]; simp
        have BB_v7 : Below W.heap.size W v7 := BB_v6.trans (hb7.mono BB_v6.size)
        have g2_7 := blk_below g2_6 hb7
        have g1_7 : v7.heap[v6.heap.size]? = some (.cells (madeCells #[.int .i64 0, .int .i64 0, .bool false] (n * 3)) 74 (0, 0)) := by rw [hv7]; exact heap_alloc_new _ _
        rw [← hv7]
        clear hv7 hb7
        refine tk 6 ?_
        refine wpAnyH_ready (rs := [7]) (by kernel_rfl) (by simp) ?_
        refine AllReadyH.cons (o := ?_) ?_ (fun K hK => ?_) AllReadyH.nil
        rotate_left
        · (simp only [List.getElem?_toArray, List.getElem?_cons_zero, List.getElem?_cons_succ]; rfl)
        go_simp
        (try go_wp2_with fail)
        refine hK.out _ _ ?_ (fun hHeld' => ?_)
        · (try dsimp only)
          (try trivial)
        clear hK K hHeld
        have hHeld := hHeld'
        clear hHeld'
        (try simp only [Act.put, List.setIfInBounds_toArray, List.set_cons_zero, List.set_cons_succ])
        obtain ⟨v8, hv8⟩ : ∃ u, u = v7.alloc (.cells #[.slice none 0 0, .slice none 0 0] 32) := ⟨_, rfl⟩
        have hb8 : Below v7.heap.size v7 v8 := by rw [hv8]; exact (Below.refl _ _).alloc (Nat.le_refl _) _
        have zl8 : v7.heap.size < v8.heap.size := by rw [hv8]; simp
        have BB_v8 : Below W.heap.size W v8 := BB_v7.trans (hb8.mono BB_v7.size)
        have g2_8 := blk_below g2_7 hb8
        have g1_8 := blk_below g1_7 hb8
        have pb_8 : v8.heap[v7.heap.size]? = some (.cells #[.slice none 0 0, .slice none 0 0] 32 (0, 0)) := by rw [hv8]; exact heap_alloc_new _ _
        rw [← hv8]
        clear hv8 hb8
        have qs0 := blk_cell pb_8 0 (v := .slice none 0 0) rfl
        have qs1 := blk_cell pb_8 1 (v := .slice none 0 0) rfl
        have fs0 := blk_frozen pb_8 0
        have fs1 := blk_frozen pb_8 1
        refine wpAnyH_ready (rs := [8]) (by kernel_rfl) (by simp) ?_
        refine AllReadyH.cons (o := ?_) ?_ (fun K hK => ?_) AllReadyH.nil
        rotate_left
        · (simp only [List.getElem?_toArray, List.getElem?_cons_zero, List.getElem?_cons_succ]; rfl)
        go_simp
        skip
        (try go_wp2_with fail)
        refine hK.out _ _ ?_ (fun hHeld' => ?_)
        · (try dsimp only)
          (try trivial)
        clear hK K hHeld
        have hHeld := hHeld'
        clear hHeld'
        (try simp only [Act.put, List.setIfInBounds_toArray, List.set_cons_zero, List.set_cons_succ])
        refine wpAnyH_done (by kernel_rfl) ?_ _
        (try go_wp2_with fail)
        go_meet
        case rel =>
          refine ⟨v7.heap.size, v6.heap.size, v0.heap.size, rfl, ?_, ?_, ?_, by omega, by omega, by omega, by omega, by omega, by omega, ?_, ?_, ?_, ?_⟩
          · exact blk_set (blk_set pb_8 0 _) 1 _
          · exact blk_other (blk_other g1_8 (by show v6.heap.size ≠ v7.heap.size; omega) _) (by show v6.heap.size ≠ v7.heap.size; omega) _
          · exact blk_other (blk_other g2_8 (by show v0.heap.size ≠ v7.heap.size; omega) _) (by show v0.heap.size ≠ v7.heap.size; omega) _
          · simp [World.setCell]; omega
          · simp [World.setCell]; omega
          · simp [World.setCell]; omega
          · exact (BB_v8.setCell (by show W.heap.size ≤ v7.heap.size; omega) _).setCell (by show W.heap.size ≤ v7.heap.size; omega) _
      refine AllReadyH.cons (o := ?_) ?_ (fun K hK => ?_) AllReadyH.nil
      rotate_left
      · (simp only [List.getElem?_toArray, List.getElem?_cons_zero, List.getElem?_cons_succ]; rfl)
      · go_simp
        (try go_wp2_with fail)
        refine hK.out _ _ ?_ (fun hHeld' => ?_)
        · (try dsimp only)
          (try trivial)
        clear hK K hHeld
        have hHeld := hHeld'
        clear hHeld'
        (try simp only [Act.put, List.setIfInBounds_toArray, List.set_cons_zero, List.set_cons_succ])
        obtain ⟨v9, hv9⟩ : ∃ u, u = v6.alloc (.cells #[.slice none 0 0, .slice none 0 0] 32) := ⟨_, rfl⟩
        have hb9 : Below v6.heap.size v6 v9 := by rw [hv9]; exact (Below.refl _ _).alloc (Nat.le_refl _) _
        have zl9 : v6.heap.size < v9.heap.size := by rw [hv9]; simp
        have BB_v9 : Below W.heap.size W v9 := BB_v6.trans (hb9.mono BB_v6.size)
        have g2_9 := blk_below g2_6 hb9
        have pb_9 : v9.heap[v6.heap.size]? = some (.cells #[.slice none 0 0, .slice none 0 0] 32 (0, 0)) := by rw [hv9]; exact heap_alloc_new _ _
        rw [← hv9]
        clear hv9 hb9
        refine wpAnyH_ready (rs := [1]) (by kernel_rfl) (by simp) ?_
        refine AllReadyH.cons (o := ?_) ?_ (fun K hK => ?_) AllReadyH.nil
        rotate_left
        · (simp only [List.getElem?_toArray, List.getElem?_cons_zero, List.getElem?_cons_succ]; rfl)
        go_simp
        (try go_wp2_with fail)
        refine hK.out _ _ ?_ (fun hHeld' => ?_)
        · (try dsimp only)
          (try trivial)
        clear hK K hHeld
        have hHeld := hHeld'
        clear hHeld'
        (try simp only [Act.put, List.setIfInBounds_toArray, List.set_cons_zero, List.set_cons_succ])
        obtain ⟨v10, hv10⟩ : ∃ u, u = v9.alloc (.cells (madeCells #[.int .i64 0, .int .i64 0, .bool false] (n * 3)) 74) := ⟨_, rfl⟩
        have hb10 : Below v9.heap.size v9 v10 := by rw [hv10]; exact (Below.refl _ _).alloc (Nat.le_refl _) _
        have zl10 : v9.heap.size < v10.heap.size := by rw [hv10]; simp
        have BB_v10 : Below W.heap.size W v10 := BB_v9.trans (hb10.mono BB_v9.size)
        have g2_10 := blk_below g2_9 hb10
        have pb_10 := blk_below pb_9 hb10
        have g1_10 : v10.heap[v9.heap.size]? = some (.cells (madeCells #[.int .i64 0, .int .i64 0, .bool false] (n * 3)) 74 (0, 0)) := by rw [hv10]; exact heap_alloc_new _ _
        rw [← hv10]
        clear hv10 hb10
        refine tk 6 ?_
        have qs0 := blk_cell pb_10 0 (v := .slice none 0 0) rfl
        have qs1 := blk_cell pb_10 1 (v := .slice none 0 0) rfl
        have fs0 := blk_frozen pb_10 0
        have fs1 := blk_frozen pb_10 1
        refine wpAnyH_ready (rs := [8]) (by kernel_rfl) (by simp) ?_
        refine AllReadyH.cons (o := ?_) ?_ (fun K hK => ?_) AllReadyH.nil
        rotate_left
        · (simp only [List.getElem?_toArray, List.getElem?_cons_zero, List.getElem?_cons_succ]; rfl)
        go_simp
        skip
        (try go_wp2_with fail)
        refine hK.out _ _ ?_ (fun hHeld' => ?_)
        · (try dsimp only)
          (try trivial)
        clear hK K hHeld
        have hHeld := hHeld'
        clear hHeld'
        (try simp only [Act.put, List.setIfInBounds_toArray, List.set_cons_zero, List.set_cons_succ])
        refine wpAnyH_done (by kernel_rfl) ?_ _
        (try go_wp2_with fail)
        go_meet
        case rel =>
          refine ⟨v6.heap.size, v9.heap.size, v0.heap.size, rfl, ?_, ?_, ?_, by omega, by omega, by omega, by omega, by omega, by omega, ?_, ?_, ?_, ?_⟩
          · exact blk_set (blk_set pb_10 0 _) 1 _
          · exact blk_other (blk_other g1_10 (by show v9.heap.size ≠ v6.heap.size; omega) _) (by show v9.heap.size ≠ v6.heap.size; omega) _
          · exact blk_other (blk_other g2_10 (by show v0.heap.size ≠ v6.heap.size; omega) _) (by show v0.heap.size ≠ v6.heap.size; omega) _
          · simp [World.setCell]; omega
          · simp [World.setCell]; omega
          · simp [World.setCell]; omega
          · exact (BB_v10.setCell (by show W.heap.size ≤ v6.heap.size; omega) _).setCell (by show W.heap.size ≤ v6.heap.size; omega) _
    refine AllReadyH.cons (o := ?_) ?_ (fun K hK => ?_) AllReadyH.nil
    rotate_left
    · (simp only [List.getElem?_toArray, List.getElem?_cons_zero, List.getElem?_cons_succ]; rfl)
    · go_simp
      (try go_wp2_with fail)
      refine hK.out _ _ ?_ (fun hHeld' => ?_)
      · (try dsimp only)
        (try trivial)
      clear hK K hHeld
      have hHeld := hHeld'
      clear hHeld'
      (try simp only [Act.put, List.setIfInBounds_toArray, List.set_cons_zero, List.set_cons_succ])
      obtain ⟨v11, hv11⟩ : ∃ u, u = v0.alloc (.cells #[.slice none 0 0, .slice none 0 0] 32) := ⟨_, rfl⟩
      have hb11 : Below v0.heap.size v0 v11 := by rw [hv11]; exact (Below.refl _ _).alloc (Nat.le_refl _) _
      have zl11 : v0.heap.size < v11.heap.size := by rw [hv11]; simp
      have BB_v11 : Below W.heap.size W v11 := BB_v0.trans (hb11.mono BB_v0.size)
      have pb_11 : v11.heap[v0.heap.size]? = some (.cells #[.slice none 0 0, .slice none 0 0] 32 (0, 0)) := by rw [hv11]; exact heap_alloc_new _ _
      rw [← hv11]
      clear hv11 hb11
      refine wpAnyH_ready (rs := [1, 5]) (by kernel_rfl) (by simp) ?_
      refine AllReadyH.cons (o := ?_) ?_ (fun K hK => ?_) ?_
      rotate_left
      · (simp only [List.getElem?_toArray, List.getElem?_cons_zero, List.getElem?_cons_succ]; rfl)
      · go_simp
        (try go_wp2_with fail)
        refine hK.out _ _ ?_ (fun hHeld' => ?_)
        · (try dsimp only)
          (try trivial)
        clear hK K hHeld
        have hHeld := hHeld'
        clear hHeld'
        (try simp only [Act.put, List.setIfInBounds_toArray, List.set_cons_zero, List.set_cons_succ])
        obtain ⟨v12, hv12⟩ : ∃ u, u = v11.alloc (.cells (madeCells #[.int .i64 0, .int .i64 0, .bool false] (n * 3)) 74) := ⟨_, rfl⟩
        have hb12 : Below v11.heap.size v11 v12 := by rw [hv12]; exact (Below.refl _ _).alloc (Nat.le_refl _) _
        have zl12 : v11.heap.size < v12.heap.size := by rw [hv12]; simp
        have BB_v12 : Below W.heap.size W v12 := BB_v11.trans (hb12.mono BB_v11.size)
        have pb_12 := blk_below pb_11 hb12
        have g1_12 : v12.heap[v11.heap.size]? = some (.cells (madeCells #[.int .i64 0, .int .i64 0, .bool false] (n * 3)) 74 (0, 0)) := by rw [hv12]; exact heap_alloc_new _ _
        rw [← hv12]
        clear hv12 hb12
        refine wpAnyH_ready (rs := [5]) (by kernel_rfl) (by simp) ?_
        refine AllReadyH.cons (o := ?_) ?_ (fun K hK => ?_) AllReadyH.nil
        rotate_left
        · (simp only [List.getElem?_toArray, List.getElem?_cons_zero, List.getElem?_cons_succ]; rfl)
        go_simp
        (try go_wp2_with fail)
        refine hK.out _ _ ?_ (fun hHeld' => ?_)
        · (try dsimp only)
          (try trivial)
        clear hK K hHeld
        have hHeld := hHeld'
        clear hHeld'
        (try simp only [Act.put, List.setIfInBounds_toArray, List.set_cons_zero, List.set_cons_succ])
        obtain ⟨v13, hv13⟩ : ∃ u, u = v12.alloc (.cells (madeCells #[.slice none 0 0, .slice none 0 0, .bool false] (Q * 3)) 76) := ⟨_, rfl⟩
        have hb13 : Below v12.heap.size v12 v13 := by rw [hv13]; exact (Below.refl _ _).alloc (Nat.le_refl _) _
        have zl13 : v12.heap.size < v13.heap.size := by rw [hv13]; simp
        have BB_v13 : Below W.heap.size W v13 := BB_v12.trans (hb13.mono BB_v12.size)
        have pb_13 := blk_below pb_12 hb13
        have g1_13 := blk_below g1_12 hb13
        have g2_13 : v13.heap[v12.heap.size]? = some (.cells (madeCells #[.slice none 0 0, .slice none 0 0, .bool false] (Q * 3)) 76 (0, 0)) := by rw [hv13]; exact heap_alloc_new _ _
        rw [← hv13]
        clear hv13 hb13
        refine tk 6 ?_
        have qs0 := blk_cell pb_13 0 (v := .slice none 0 0) rfl
        have qs1 := blk_cell pb_13 1 (v := .slice none 0 0) rfl
        have fs0 := blk_frozen pb_13 0
        have fs1 := blk_frozen pb_13 1
        refine wpAnyH_ready (rs := [8]) (by kernel_rfl) (by simp) ?_
        refine AllReadyH.cons (o := ?_) ?_ (fun K hK => ?_) AllReadyH.nil
        rotate_left
        · (simp only [List.getElem?_toArray, List.getElem?_cons_zero, List.getElem?_cons_succ]; rfl)
        go_simp
        skip
        (try go_wp2_with fail)
        refine hK.out _ _ ?_ (fun hHeld' => ?_)
        · (try dsimp only)
          (try trivial)
        clear hK K hHeld
        have hHeld := hHeld'
        clear hHeld'
        (try simp only [Act.put, List.setIfInBounds_toArray, List.set_cons_zero, List.set_cons_succ])
        refine wpAnyH_done (by kernel_rfl) ?_ _
        (try go_wp2_with fail)
        go_meet
        case rel =>
          refine ⟨v0.heap.size, v11.heap.size, v12.heap.size, rfl, ?_, ?_, ?_, by omega, by omega, by omega, by omega, by omega, by omega, ?_, ?_, ?_, ?_⟩
          · exact blk_set (blk_set pb_13 0 _) 1 _
          · exact blk_other (blk_other g1_13 (by show v11.heap.size ≠ v0.heap.size; omega) _) (by show v11.heap.size ≠ v0.heap.size; omega) _
          · exact blk_other (blk_other g2_13 (by show v12.heap.size ≠ v0.heap.size; omega) _) (by show v12.heap.size ≠ v0.heap.size; omega) _
          · simp [World.setCell]; omega
          · simp [World.setCell]; omega
          · simp [World.setCell]; omega
          · exact (BB_v13.setCell (by show W.heap.size ≤ v0.heap.size; omega) _).setCell (by show W.heap.size ≤ v0.heap.size; omega) _
      refine AllReadyH.cons (o := ?_) ?_ (fun K hK => ?_) AllReadyH.nil
      rotate_left
      · (simp only [List.getElem?_toArray, List.getElem?_cons_zero, List.getElem?_cons_succ]; rfl)
      · go_simp
        (try go_wp2_with fail)
        refine hK.out _ _ ?_ (fun hHeld' => ?_)
        · (try dsimp only)
          (try trivial)
        clear hK K hHeld
        have hHeld := hHeld'
        clear hHeld'
        (try simp only [Act.put, List.setIfInBounds_toArray, List.set_cons_zero, List.set_cons_succ])
        obtain ⟨v14, hv14⟩ : ∃ u, u = v11.alloc (.cells (madeCells #[.slice none 0 0, .slice none 0 0, .bool false] (Q * 3)) 76) := ⟨_, rfl⟩
        have hb14 : Below v11.heap.size v11 v14 := by rw [hv14]; exact (Below.refl _ _).alloc (Nat.le_refl _) _
        have zl14 : v11.heap.size < v14.heap.size := by rw [hv14]; simp
        have BB_v14 : Below W.heap.size W v14 := BB_v11.trans (hb14.mono BB_v11.size)
        have pb_14 := blk_below pb_11 hb14
        have g2_14 : v14.heap[v11.heap.size]? = some (.cells (madeCells #[.slice none 0 0, .slice none 0 0, .bool false] (Q * 3)) 76 (0, 0)) := by rw [hv14]; exact heap_alloc_new _ _
        rw [← hv14]
        clear hv14 hb14
        refine wpAnyH_ready (rs := [1]) (by kernel_rfl) (by simp) ?_
        refine AllReadyH.cons (o := ?_) ?_ (fun K hK => ?_) AllReadyH.nil
        rotate_left
        · (simp only [List.getElem?_toArray, List.getElem?_cons_zero, List.getElem?_cons_succ]; rfl)
        go_simp
        (try go_wp2_with fail)
        refine hK.out _ _ ?_ (fun hHeld' => ?_)
        · (try dsimp only)
          (try trivial)
        clear hK K hHeld
        have hHeld := hHeld'
        clear hHeld'
        (try simp only [Act.put, List.setIfInBounds_toArray, List.set_cons_zero, List.set_cons_succ])
        obtain ⟨v15, hv15⟩ : ∃ u, u = v14.alloc (.cells (madeCells #[.int .i64 0, .int .i64 0, .bool false] (n * 3)) 74) := ⟨_, rfl⟩
        have hb15 : Below v14.heap.size v14 v15 := by rw [hv15]; exact (Below.refl _ _).alloc (Nat.le_refl _) _
        have zl15 : v14.heap.size < v15.heap.size := by rw [hv15]; simp
        have BB_v15 : Below W.heap.size W v15 := BB_v14.trans (hb15.mono BB_v14.size)
        have pb_15 := blk_below pb_14 hb15
        have g2_15 := blk_below g2_14 hb15
        have g1_15 : v15.heap[v14.heap.size]? = some (.cells (madeCells #[.int .i64 0, .int .i64 0, .bool false] (n * 3)) 74 (0, 0)) := by rw [hv15]; exact heap_alloc_new _ _
        rw [← hv15]
        clear hv15 hb15
        refine tk 6 ?_
        have qs0 := blk_cell pb_15 0 (v := .slice none 0 0) rfl
        have qs1 := blk_cell pb_15 1 (v := .slice none 0 0) rfl
        have fs0 := blk_frozen pb_15 0
        have fs1 := blk_frozen pb_15 1
        refine wpAnyH_ready (rs := [8]) (by kernel_rfl) (by simp) ?_
        refine AllReadyH.cons (o := ?_) ?_ (fun K hK => ?_) AllReadyH.nil
        rotate_left
        · (simp only [List.getElem?_toArray, List.getElem?_cons_zero, List.getElem?_cons_succ]; rfl)
        go_simp
        skip
        (try go_wp2_with fail)
        refine hK.out _ _ ?_ (fun hHeld' => ?_)
        · (try dsimp only)
          (try trivial)
        clear hK K hHeld
        have hHeld := hHeld'
        clear hHeld'
        (try simp only [Act.put, List.setIfInBounds_toArray, List.set_cons_zero, List.set_cons_succ])
        refine wpAnyH_done (by kernel_rfl) ?_ _
        (try go_wp2_with fail)
        go_meet
        case rel =>
          refine ⟨v0.heap.size, v14.heap.size, v11.heap.size, rfl, ?_, ?_, ?_, by omega, by omega, by omega, by omega, by omega, by omega, ?_, ?_, ?_, ?_⟩
          · exact blk_set (blk_set pb_15 0 _) 1 _
          · exact blk_other (blk_other g1_15 (by show v14.heap.size ≠ v0.heap.size; omega) _) (by show v14.heap.size ≠ v0.heap.size; omega) _
          · exact blk_other (blk_other g2_15 (by show v11.heap.size ≠ v0.heap.size; omega) _) (by show v11.heap.size ≠ v0.heap.size; omega) _
          · simp [World.setCell]; omega
          · simp [World.setCell]; omega
          · simp [World.setCell]; omega
          · exact (BB_v15.setCell (by show W.heap.size ≤ v0.heap.size; omega) _).setCell (by show W.heap.size ≤ v0.heap.size; omega) _
  case rest =>
    obtain ⟨Pb, g1, g2, rfl, pb, r1, r2, l1, l2, l3, d12, d1p, d2p, s1, s2, s3, bx⟩ := hcut
    obtain ⟨V, rfl⟩ : ∃ x, x = wc := ⟨_, rfl⟩
    clear hm1 hm2
    have b0 := blk_below b0 bx
    have BV := Hid.mk (B0.trans (bx.mono B0.size))
    have o1 := row_of_blk (m := n) (K := 3) r1 (by simp [madeCells]) (by omega)
    have pz := PzA.made n
    have e0 : List.replicate n 0 = zs.take 0 ++ List.replicate (n - 0) (0 : Int) := by simp
    rw [e0] at pz
    obtain ⟨cs0, hcs0⟩ : ∃ cs, cs = (madeCells #[.int .i64 0, .int .i64 0, .bool false] (n * 3)).toList := ⟨_, rfl⟩
    rw [← hcs0] at o1 pz
    clear e0 r1 bx hcs0
    go_wp2_with fail
    go_loopw [23] (fun i wr => ∃ (k : Nat) (cells : List Value), k ≤ n ∧ i = .int .i64 k ∧ wr.heap[w.heap.size]? = some (.cells #[.slice none 0 0, .slice none 0 0] 32 (0, 0)) ∧ wr.heap[Pb]? = some (.cells #[.slice (some ⟨g1, 0, none⟩) n n, .slice (some ⟨g2, 0, none⟩) Q Q] 32 (0, 0)) ∧ wr.heap[g2]? = some (.cells (madeCells #[.slice none 0 0, .slice none 0 0, .bool false] (Q * 3)) 76 (0, 0)) ∧
      wr.ownsRow 0 74 3 (.slice (some ⟨g1, 0, none⟩) n n) n cells ∧ PzA cells (zs.take k ++ List.replicate (n - k) 0) ∧ V.heap.size ≤ wr.heap.size ∧ Below w.heap.size w wr) (fun i _ => n - (intOf i).toNat)
    case atStart => exact ⟨0, cs0, Nat.zero_le _, rfl, b0, pb, r2, o1, pz, Nat.le_refl _, BV.out⟩
    case round =>
      clear b0 pb r2 o1 pz cs0
      obtain ⟨k, cells, hk, rfl, b0, pb, r2, o1, pz, zr, hbw⟩ := hrel
      obtain ⟨wY, rfl⟩ : ∃ x, x = wr := ⟨_, rfl⟩
      by_cases hlt : k < n
      · obtain ⟨b, off, rfl, hb, hc⟩ := (At.below HA.out hbw).some (by have := HZ.out; omega)
        obtain ⟨y, hy⟩ : ∃ y, zs[k]? = some y := ⟨_, List.getElem?_eq_getElem (by have := HZ.out; omega)⟩
        have hcx : wY.cell? ⟨b, off + k, none⟩ = some (.int .i64 y) := by
          have h9 := hc k (by have := HZ.out; omega)
          simpa [List.getD, hy] using h9
        have hpl : (zs.take k ++ List.replicate (n - k) 0).length = n := by have := HZ.out; simp; omega
        have hps := pz.set (k := k) (by rw [hpl]; exact hlt) y
        rw [pz_step HZ.out hlt hy] at hps
        obtain ⟨u, hu⟩ : ∃ u, cells[k * 3]? = some u := ⟨_, List.getElem?_eq_getElem (by rw [pz.1, hpl]; omega)⟩
        have q0 := blk_cell pb 0 (v := .slice (some ⟨g1, 0, none⟩) n n) rfl
        have qc : wY.cell? ⟨g1, k * 3, none⟩ = some u := (o1.cellAt _ (by omega)).trans hu
        have qf : wY.frozen? ⟨g1, k * 3, none⟩ = false := o1.frozenAt _
        have HB0 := Hid.mk b0
        have HPBK := Hid.mk pb
        have HR2 := Hid.mk r2
        have HO := Hid.mk o1
        have HPS := Hid.mk hps
        have HBW := Hid.mk hbw
        have hki : (k : Int) < (n : Int) := by omega
        clear hc hy pz hpl hps hu b0 pb r2 o1 hbw
        go_wp2
        go_roundw
        case rel => exact ⟨k + 1, _, by omega, by go_num, blk_other HB0.out (by show w.heap.size ≠ g1; omega) _, blk_other HPBK.out (by show Pb ≠ g1; omega) _, blk_other HR2.out (by show g2 ≠ g1; omega) _, (HO.out.stored (k * 3) _).1, HPS.out, by simp [World.setCell]; omega, HBW.out.setCell (by show w.heap.size ≤ g1; omega) _⟩
        case measure => simp [intOf]; omega
      · obtain rfl : k = n := by omega
        rw [List.take_of_length_le (by have := HZ.out; omega), Nat.sub_self, List.replicate_zero, List.append_nil] at pz
        have R0 : RProcs.Own wY (fun b => b = g1) [.slice (some ⟨g1, 0, none⟩) k k] (psN zs) := own_in (RProcs.of_cells HZ.out (by omega) o1 pz) (fun _ _ _ _ _ h => RProc.any h)
        have R1 : RWires.Own wY (fun b => b = g2) [.slice (some ⟨g2, 0, none⟩) Q Q] (wsN Q) := wires_in (row_of_blk (m := Q) (K := 3) r2 (by simp [madeCells]) (by omega)) (by omega) (WzA.made Q)
        have hl0 := RProcs.atSl R0
        have hl1 := RWires.atSl R1
        have KG : Hid (Calls Try.prog 35 #[.agg #[.slice (some ⟨g1, 0, none⟩) k k, .slice (some ⟨g2, 0, none⟩) Q Q]] wY fun e w' => e = .returned (.bool PB) ∧ Below wY.heap.size wY w') := Hid.mk (by
          rw [← HPB.out, HX2.out]
          exact implGoodSnap _ k k _ Q Q _ _ wY hl0.1 hl1.1 hn (by omega) hl0.2 hl1.2)
        have R0 := Hid.mk R0
        have R1 := Hid.mk R1
        have q0 := blk_cell pb 0 (v := .slice (some ⟨g1, 0, none⟩) k k) rfl
        have q1 := blk_cell pb 1 (v := .slice (some ⟨g2, 0, none⟩) Q Q) rfl
        have BW := Hid.mk hbw
        clear o1 pz r2 hl0 hl1 hbw
        go_wp2_with fail
        refine KG.out.mono ?_
        rintro e w3 ⟨rfl, hb3⟩
        have c0 := blk_below b0 hb3
        have c1 := blk_below pb hb3
        have z3 := hb3.size
        have R0 := Hid.mk (RProcs.ownBelow R0.out hb3)
        have R1 := Hid.mk (RWires.ownBelow R1.out hb3)
        have B3 := Hid.mk (BW.out.trans (hb3.mono BW.out.size))
        have y0 := blk_cell c0 0 (v := .slice none 0 0) rfl
        have y1 := blk_cell c0 1 (v := .slice none 0 0) rfl
        have f0 := blk_frozen c0 0
        have f1 := blk_frozen c0 1
        have s0 := blk_cell c1 0 (v := .slice (some ⟨g1, 0, none⟩) k k) rfl
        have s1' := blk_cell c1 1 (v := .slice (some ⟨g2, 0, none⟩) Q Q) rfl
        clear hb3 KG BW q0 q1 b0 pb
        cases PB with
        | false =>
          have hX0 : X = ([], []) := by rw [← HXX.out, HPB.out]; rfl
          subst hX0
          go_wp2
          refine bodyPost_ret (v := .tuple #[.agg #[.slice none 0 0, .slice none 0 0], .bool false]) (by simp [results, Try.results45, go_sem, y0, y1]) rfl ⟨⟨none, 0, 0, none, 0, 0, rfl, RSnap.nil _ _⟩, ?_⟩
          exact (B3.out.setCell (Nat.le_refl _) _).setCell (Nat.le_refl _) _
        | true =>
          have hX0 : X = (psN zs, wsN Q) := by rw [← HXX.out, HPB.out, ← HX2.out]; rfl
          subst hX0
          obtain ⟨Y, hY⟩ : ∃ u, u = stores w3 w.heap.size 0 [.slice (some ⟨g1, 0, none⟩) k k, .slice (some ⟨g2, 0, none⟩) Q Q] := ⟨_, rfl⟩
          have D : Below w.heap.size w Y := by rw [hY]; exact stores_below _ _ _ _ B3.out (Nat.le_refl _)
          have S : Off (fun b => b = w.heap.size) w3 Y := by rw [hY]; exact stores_off (F := fun b => b = w.heap.size) _ _ _ _ rfl
          have zY : Y.heap.size = w3.heap.size := by rw [hY]; exact stores_size _ _ _ _
          have R : Hid (RSnap.Own Y (From w.heap.size Y.heap.size) [.slice (some ⟨g1, 0, none⟩) k k, .slice (some ⟨g2, 0, none⟩) Q Q] (psN zs, wsN Q)) := Hid.mk
            (RSnap.own_mk (RProcs.ownOff R0.out S (fun b h k => by have h1 : b = g1 := h; have h2 : b = w.heap.size := k; omega)) (RWires.ownOff R1.out S (fun b h k => by have h1 : b = g2 := h; have h2 : b = w.heap.size := k; omega))
              (fun b h => ⟨by have h1 : b = g1 := h; omega, by have h1 : b = g1 := h; omega⟩) (fun b h => ⟨by have h1 : b = g2 := h; omega, by have h1 : b = g2 := h; omega⟩) (fun b h k => by have h1 : b = g1 := h; have h2 : b = g2 := k; omega))
          have HY := Hid.mk hY
          have HD := Hid.mk D
          clear S D hY zY R0 R1 c0 c1
          go_wp2
          refine bodyPost_ret (v := .tuple #[.agg #[.slice (some ⟨g1, 0, none⟩) k k, .slice (some ⟨g2, 0, none⟩) Q Q], .bool true]) (by simp [results, Try.results45, go_sem, y0, y1]) rfl ⟨⟨_, k, k, _, Q, Q, rfl, ?_⟩, ?_⟩
          · have h := R.out
            rw [HY.out] at h
            exact h
          · have h := HD.out
            rw [HY.out] at h
            exact h

end Go.Proofs.Ytnfdncofobkjhaa
