/- Several texts of one proof, in build order: CkJ, CkP. -/
import Derived.Test.YthiabjkjpjmahaaGreatM19
import Derived.Test.YthiabjkjpjmahaaGreatM18

/- Contract of joinPart's asPart. -/
namespace Go.Proofs.YthiabjkjpjmahaaGreat
open Go.RowKit

theorem atSl_pair {w : World} {a : Option Addr} {zss : List (List Int)} (h : AtSl RInts w a zss) {k : Nat} {zs : List Int} (hk : zss[k]? = some zs) :
   ∃ b off a' n' c', a = some ⟨b, off, none⟩ ∧ w.cell? ⟨b, off + k, none⟩ = some (.slice a' n' c') ∧ zs.length = n' ∧ n' ≤ 9223372036854775807 ∧ At w a' zs ∧ (a' = none → c' = 0) := by
  have hp : 0 < zss.length := Nat.lt_of_le_of_lt (Nat.zero_le _) (List.getElem?_eq_some_iff.1 hk).1
  obtain ⟨b, off, rfl, hc⟩ := h.each hp
  obtain ⟨cs, h1, a', n', c', rfl, e1, e2, e3, e4⟩ := hc k zs hk
  have g := h1 0 _ rfl
  exact ⟨b, off, a', n', c', rfl, by simpa [RInts, Rep.slice] using g, e1, e2, atSl_int.1 e3, e4⟩

set_option maxRecDepth 100000 in
set_option maxHeartbeats 8000000 in
theorem p_joinPart (A B : Int) (pa : Option Addr) (pn pc : Nat) (ps : List (List Int)) (w : World) (hz : ps.length = pn) (hn : pn ≤ 1048576) (hs : ∀ i, i < ps.length → (ps.getD i []).length ≤ 1048576) (hat : AtSl RInts w pa ps) :
   Calls Tryz.prog 214 #[.agg #[.int .i64 A, .int .i64 B, .slice pa pn pc]] w fun e w' => PartRet e w' w.heap.size (4, A, B, [], [], ps) ∧ Below w.heap.size w w' := by
  obtain ⟨i0, hi, hz0, hz1, hz2⟩ := info_parts Tryz.infoInts
  obtain ⟨j0, hj, hy0, hy1, hy2⟩ := info_parts Tryz.infoInt
  obtain ⟨W, hW⟩ : ∃ W, W = ((w.alloc (.cells #[.int .i64 A, .int .i64 B, .slice pa pn pc] 158)).alloc (.cells #[.int .i64 0, .int .i64 0, .int .i64 0, .slice none 0 0, .slice none 0 0, .slice none 0 0] 74)).alloc (.cells #[.int .i64 4, .int .i64 A, .int .i64 B, .slice none 0 0, .slice none 0 0, .slice none 0 0] 74) := ⟨_, rfl⟩
  have B0 : Below w.heap.size w W := by rw [hW]; exact ((((Below.refl _ _).alloc (Nat.le_refl _) _).alloc (by simp) _).alloc (by simp; omega) _)
  have zW : w.heap.size + 2 < W.heap.size := by rw [hW]; simp
  have b2 : W.heap[w.heap.size + 1 + 1]? = some (.cells #[.int .i64 4, .int .i64 A, .int .i64 B, .slice none 0 0, .slice none 0 0, .slice none 0 0] 74 (0, 0)) := by
   rw [hW]
   have q := heap_alloc_new ((w.alloc (.cells #[.int .i64 A, .int .i64 B, .slice pa pn pc] 158)).alloc (.cells #[.int .i64 0, .int .i64 0, .int .i64 0, .slice none 0 0, .slice none 0 0, .slice none 0 0] 74)) (.cells #[.int .i64 4, .int .i64 A, .int .i64 B, .slice none 0 0, .slice none 0 0, .slice none 0 0] 74)
   simpa only [World.size_alloc] using q
  have b1 : W.heap[w.heap.size + 1]? = some (.cells #[.int .i64 0, .int .i64 0, .int .i64 0, .slice none 0 0, .slice none 0 0, .slice none 0 0] 74 (0, 0)) := by
   rw [hW]
   refine blk_alloc ?_ _
   have q := heap_alloc_new (w.alloc (.cells #[.int .i64 A, .int .i64 B, .slice pa pn pc] 158)) (.cells #[.int .i64 0, .int .i64 0, .int .i64 0, .slice none 0 0, .slice none 0 0, .slice none 0 0] 74)
   simpa only [World.size_alloc] using q
  have HZ := Hid.mk hz
  have HAT := Hid.mk hat
  have HS := Hid.mk hs
  clear hat hz hs
  go_enter Tryz.func214, Tryz.ntmps214
  go_upto_region 3 with fail
  rw [← hW]
  clear hW
  go_loopw [5, 14, 16, 17, 18, 19, 20, 21, 22, 23, 24] (fun _ i _ _ _ _ _ _ _ _ _ wr => ∃ (k : Nat) (r : Option Addr) (d : Nat) (cells : List Value) (G : Nat → Nat → Prop), k ≤ pn ∧ i = .int .i64 k ∧ wr.heap[w.heap.size + 1 + 1]? = some (.cells #[.int .i64 4, .int .i64 A, .int .i64 B, .slice none 0 0, .slice none 0 0, .slice r k d] 74 (0, 0)) ∧ wr.heap[w.heap.size + 1]? = some (.cells #[.int .i64 0, .int .i64 0, .int .i64 0, .slice none 0 0, .slice none 0 0, .slice none 0 0] 74 (0, 0)) ∧
   Laid RInts wr (From (w.heap.size + 3) wr.heap.size) 23 r k d (ps.take k) cells G k ∧ wr.ownsRow (w.heap.size + 3) 23 1 (.slice r k d) k cells ∧ w.heap.size + 2 < wr.heap.size ∧ Below w.heap.size w wr) (fun _ i _ _ _ _ _ _ _ _ _ _ => pn - (intOf i).toNat)
  case atStart => exact ⟨0, none, 0, [], _, Nat.zero_le _, rfl, b2, b1, Laid.none RInts W _ _, World.ownsRow_nil _ _ _ _, zW, B0⟩
  case round =>
   clear b2 b1 zW B0
   obtain ⟨k, r, d, cells, G, hk, rfl, b2, b1, hl, how, zr, hbw⟩ := hrel
   by_cases hlt : k < pn
   ·obtain ⟨zs, hx⟩ : ∃ zs, ps[k]? = some zs := ⟨_, List.getElem?_eq_getElem (by have := HZ.out; omega)⟩
    obtain ⟨b, off, a', m, c', hpa, hcx, hm, hm1, hax, hnx⟩ := atSl_pair (HAT.out.below hbw) hx
    have hsm : m ≤ 1048576 := by
     have h1 := HS.out k (List.getElem?_eq_some_iff.1 hx).1
     have h2 : ps.getD k [] = zs := by simp [List.getD, hx]
     rw [h2, hm] at h1
     exact h1
    subst hpa
    have HAX := Hid.mk hax
    have HM := Hid.mk hm
    have HNX : Hid (a' = none → c' = 0 ∧ m = 0) := fun ha => ⟨hnx ha, by subst ha; have h0 := at_none hax; rw [← hm, h0]; rfl⟩
    have HL := Hid.mk hl
    have HW := Hid.mk how
    have HTK : Hid (ps.take (k + 1) = ps.take k ++ [zs]) := by
     show _ = _
     have hk' := (List.getElem?_eq_some_iff.1 hx).1
     rw [List.take_succ_eq_append_getElem hk', (List.getElem?_eq_some_iff.1 hx).2]
    have hkp : (ps.take k).length = k := by rw [List.length_take, HZ.out]; omega
    have c5 := blk_cell b2 5 (v := .slice r k d) rfl
    have hki : (k : Int) < (pn : Int) := by omega
    have HB := Hid.mk hbw
    clear hax hm hnx hl how hx hbw hkp
    go_upto_region 5 with fail
    refine wp_region_held_drew (S := fun w' => True) (by kernel_rfl) ?_ (fun hHeld => ?_)
    ·(try dsimp only)
     all_goals trivial
    refine tk 0 ?_
    refine tk 2 ?_
    refine wpAnyH_ready (rs := [1, 3]) (by kernel_rfl) (by simp) ?_
    refine AllReadyH.cons (o := ?_) ?_ (fun K hK => ?_) ?_
    rotate_left
    ·(simp only [List.getElem?_toArray, List.getElem?_cons_zero, List.getElem?_cons_succ]; rfl)
    ·go_simp
     (try go_wp2_with fail)
     refine hK.out _ _ ?_ (fun hHeld' => ?_)
     ·(try dsimp only)
      all_goals trivial
     clear hK K hHeld
     have hHeld := hHeld'
     clear hHeld'
     (try simp only [Act.put, List.setIfInBounds_toArray, List.set_cons_zero, List.set_cons_succ])
     refine tr 3 (fun K hK => ?_)
     refine step_append_vals rfl (.const (.slice none 0 0)) (.tmp 20) 23 rfl wr.heap.size 3 j0 (.int .i64 0) 1 8 Tryz.underlying23 hj hy0 hy1 hy2 rfl (by decide) (.slice none 0 0) 0 [] (by simp [Act.eval]) (World.ownsRow_nil _ _ _ _) a' m c' (zs.map (Value.int .i64)) (by simp [Act.eval]) (by rw [List.length_map, HM.out]; omega) (at_vals (At.drew HAX.out)) (ints_one _) HNX.out (by unfold maxLen; omega) (by omega) (Nat.le_refl _) ?_
     intro r2 d2 w2 ho2 hg2 ht2
     simp only [Nat.zero_add, List.nil_append] at ho2 ht2 ⊢
     have hb2 : Below wr.heap.size wr w2 := (Below.refl _ _).drew.grown hg2 (Nat.le_refl _) (fun k hk => by cases hk)
     have z2 := hb2.size
     have d5 := cell_later hb2 c5
     refine hK.out _ _ ?_ (fun hHeld' => ?_)
     ·(try dsimp only)
      all_goals trivial
     clear hK K hHeld
     have hHeld := hHeld'
     clear hHeld'
     (try simp only [Act.put, List.setIfInBounds_toArray, List.set_cons_zero, List.set_cons_succ])
     refine tr 4 (fun K hK => ?_)
     go_simp
     skip
     (try go_wp2_with fail)
     refine hK.out _ _ ?_ (fun hHeld' => ?_)
     ·(try dsimp only)
      all_goals trivial
     clear hK K hHeld
     have hHeld := hHeld'
     clear hHeld'
     (try simp only [Act.put, List.setIfInBounds_toArray, List.set_cons_zero, List.set_cons_succ])
     refine tr 5 (fun K hK => ?_)
     refine step_append_vals rfl (.tmp 19) (.tmp 22) 72 rfl (w.heap.size + 3) 23 i0 (.slice none 0 0) 1 24 Tryz.underlying72 hi hz0 hz1 hz2 rfl (by decide) (.slice r k d) k cells (by simp [Act.eval]) ((owns_below HW.out hb2).alloc _) (some ⟨w2.heap.size, 0, none⟩) 1 1 [.slice r2 m d2] (by simp [Act.eval]) rfl (fun ad he => by cases he; simpa using news_at w2 #[.slice r2 m d2] 23) (by intro u hu; simp at hu; rw [hu]; rfl) (fun h => by cases h) (by unfold maxLen; omega) (by omega) (by simp; omega) ?_
     intro r4 d4 w4 ho4 hg4 ht4
     have k2 := (hg4.block (w.heap.size + 1 + 1) (by simp; omega) (fun e => by have h9 := (HW.out.lt _ e.symm).1; omega)).trans (blk_alloc (blk_below b2 hb2) _)
     have k1 := (hg4.block (w.heap.size + 1) (by simp; omega) (fun e => by have h9 := (HW.out.lt _ e.symm).1; omega)).trans (blk_alloc (blk_below b1 hb2) _)
     have e5 := blk_cell k2 5 (v := .slice r k d) rfl
     have f5 := blk_frozen k2 5
     refine hK.out _ _ ?_ (fun hHeld' => ?_)
     ·(try dsimp only)
      all_goals trivial
     clear hK K hHeld
     have hHeld := hHeld'
     clear hHeld'
     (try simp only [Act.put, List.setIfInBounds_toArray, List.set_cons_zero, List.set_cons_succ])
     refine tk 6 ?_
     refine tr 7 (fun K hK => ?_)
     go_simp
     skip
     (try go_wp2_with fail)
     refine hK.out _ _ ?_ (fun hHeld' => ?_)
     ·(try dsimp only)
      all_goals trivial
     clear hK K hHeld
     have hHeld := hHeld'
     clear hHeld'
     (try simp only [Act.put, List.setIfInBounds_toArray, List.set_cons_zero, List.set_cons_succ])
     refine wpAnyH_done (by kernel_rfl) ?_ _
     have z4 : w2.heap.size < w4.heap.size := by have h9 := hg4.size; simp at h9; omega
     have BG : ∀ b, b < w2.heap.size → (Value.slice r k d).ownBlock ≠ some b → w4.heap[b]? = w2.heap[b]? := fun b hb hn => (hg4.block b (by simp; omega) (fun e => hn e.symm)).trans (Below.heap_alloc w2 _ b hb)
     have hpush := HL.out.push (F' := From (w.heap.size + 3) w4.heap.size) (fun b h => h.2) hb2 (RInts.of_owns HM.out hm1 ho2) (fun b h => h) BG (owns_mono ho4 (Nat.zero_le _)) (by
      rcases ht4 with h9 | h9
      ·exact .inl h9
      ·refine .inr (fun b e => ?_)
       rw [h9] at e
       simp at e
       omega) (by omega) (fun b h => ⟨h.1, by have := h.2; omega⟩) (fun b h => ⟨by have := h.1; omega, by have := h.2; omega⟩) (fun b h => ho4.lt b h)
     obtain ⟨X, hX⟩ : ∃ u, u = w4.setCell ⟨w.heap.size + 1 + 1, 5, none⟩ (.slice r4 (k + 1) d4) := ⟨_, rfl⟩
     have zX : X.heap.size = w4.heap.size := by rw [hX]; simp [World.setCell]
     have S : Off (From w.heap.size (w.heap.size + 3)) w4 X := by rw [hX]; exact Off.set ⟨by simp; omega, by simp⟩ _
     obtain ⟨G', HL'⟩ : ∃ G', Hid (Laid RInts X (From (w.heap.size + 3) X.heap.size) 23 r4 (k + 1) d4 (ps.take (k + 1)) (cells ++ [.slice r2 m d2]) G' (k + 1)) := by
      rw [HTK.out, zX]
      exact ⟨_, Hid.mk (hpush.frame (fun b h1 h2 => S.block b h2 (fun e => by have := h1.1; have := e.2; omega)))⟩
     have HW' : Hid (X.ownsRow (w.heap.size + 3) 23 1 (.slice r4 (k + 1) d4) (k + 1) (cells ++ [.slice r2 m d2])) := by rw [hX]; exact ownsRow_setCell_below ho4 (by simp) _
     have K2 : Hid (X.heap[w.heap.size + 1 + 1]? = some (.cells #[.int .i64 4, .int .i64 A, .int .i64 B, .slice none 0 0, .slice none 0 0, .slice r4 (k + 1) d4] 74 (0, 0))) := by rw [hX]; exact blk_set k2 5 _
     have K1 : Hid (X.heap[w.heap.size + 1]? = some (.cells #[.int .i64 0, .int .i64 0, .int .i64 0, .slice none 0 0, .slice none 0 0, .slice none 0 0] 74 (0, 0))) := by rw [hX]; exact blk_other k1 (by simp) _
     have HB' : Hid (Below w.heap.size w X) := by
      rw [hX]
      have h9 := HB.out.size
      exact ((HB.out.trans (hb2.mono h9)).trans (show Below w.heap.size w2 w4 from ⟨hg4.os, hg4.tape, hg4.output, by omega, fun b hb => BG b (by omega) (fun e => by have := (HW.out.lt b e).1; omega)⟩)).setCell (by simp; omega) _
     have HZX : Hid (w.heap.size + 2 < X.heap.size) := by show _ < _; rw [zX]; omega
     have HX := Hid.mk hX
     clear zX S hX hpush BG ho4 hg4 ht4 k2 k1 e5 f5 ho2 hg2 ht2 hb2 d5 hHeld
     go_wp2
     go_roundw
     case rel =>
      have hX := HX.out
      have h1 := K2.out
      have h2 := K1.out
      have h3 := HL'.out
      have h4 := HW'.out
      have h5 := HB'.out
      have h6 := HZX.out
      rw [hX] at h1 h2 h3 h4 h5 h6
      exact ⟨k + 1, r4, d4, _, _, by omega, by go_num, h1, h2, h3, h4, h6, h5⟩
     case measure => simp [intOf]; omega
    refine AllReadyH.cons (o := ?_) ?_ (fun K hK => ?_) AllReadyH.nil
    rotate_left
    ·(simp only [List.getElem?_toArray, List.getElem?_cons_zero, List.getElem?_cons_succ]; rfl)
    ·refine step_append_vals rfl (.const (.slice none 0 0)) (.tmp 20) 23 rfl wr.heap.size 3 j0 (.int .i64 0) 1 8 Tryz.underlying23 hj hy0 hy1 hy2 rfl (by decide) (.slice none 0 0) 0 [] (by simp [Act.eval]) (World.ownsRow_nil _ _ _ _) a' m c' (zs.map (Value.int .i64)) (by simp [Act.eval]) (by rw [List.length_map, HM.out]; omega) (at_vals (At.drew HAX.out)) (ints_one _) HNX.out (by unfold maxLen; omega) (by omega) (Nat.le_refl _) ?_
     intro r2 d2 w2 ho2 hg2 ht2
     simp only [Nat.zero_add, List.nil_append] at ho2 ht2 ⊢
     have hb2 : Below wr.heap.size wr w2 := (Below.refl _ _).drew.grown hg2 (Nat.le_refl _) (fun k hk => by cases hk)
     have z2 := hb2.size
     have d5 := cell_later hb2 c5
     refine hK.out _ _ ?_ (fun hHeld' => ?_)
     ·(try dsimp only)
      all_goals trivial
     clear hK K hHeld
     have hHeld := hHeld'
     clear hHeld'
     (try simp only [Act.put, List.setIfInBounds_toArray, List.set_cons_zero, List.set_cons_succ])
     refine wpAnyH_ready (rs := [1, 4]) (by kernel_rfl) (by simp) ?_
     refine AllReadyH.cons (o := ?_) ?_ (fun K hK => ?_) ?_
     rotate_left
     ·(simp only [List.getElem?_toArray, List.getElem?_cons_zero, List.getElem?_cons_succ]; rfl)
     ·go_simp
      (try go_wp2_with fail)
      refine hK.out _ _ ?_ (fun hHeld' => ?_)
      ·(try dsimp only)
       all_goals trivial
      clear hK K hHeld
      have hHeld := hHeld'
      clear hHeld'
      (try simp only [Act.put, List.setIfInBounds_toArray, List.set_cons_zero, List.set_cons_succ])
      refine tr 4 (fun K hK => ?_)
      go_simp
      skip
      (try go_wp2_with fail)
      refine hK.out _ _ ?_ (fun hHeld' => ?_)
      ·(try dsimp only)
       all_goals trivial
      clear hK K hHeld
      have hHeld := hHeld'
      clear hHeld'
      (try simp only [Act.put, List.setIfInBounds_toArray, List.set_cons_zero, List.set_cons_succ])
      refine tr 5 (fun K hK => ?_)
      refine step_append_vals rfl (.tmp 19) (.tmp 22) 72 rfl (w.heap.size + 3) 23 i0 (.slice none 0 0) 1 24 Tryz.underlying72 hi hz0 hz1 hz2 rfl (by decide) (.slice r k d) k cells (by simp [Act.eval]) ((owns_below HW.out hb2).alloc _) (some ⟨w2.heap.size, 0, none⟩) 1 1 [.slice r2 m d2] (by simp [Act.eval]) rfl (fun ad he => by cases he; simpa using news_at w2 #[.slice r2 m d2] 23) (by intro u hu; simp at hu; rw [hu]; rfl) (fun h => by cases h) (by unfold maxLen; omega) (by omega) (by simp; omega) ?_
      intro r4 d4 w4 ho4 hg4 ht4
      have k2 := (hg4.block (w.heap.size + 1 + 1) (by simp; omega) (fun e => by have h9 := (HW.out.lt _ e.symm).1; omega)).trans (blk_alloc (blk_below b2 hb2) _)
      have k1 := (hg4.block (w.heap.size + 1) (by simp; omega) (fun e => by have h9 := (HW.out.lt _ e.symm).1; omega)).trans (blk_alloc (blk_below b1 hb2) _)
      have e5 := blk_cell k2 5 (v := .slice r k d) rfl
      have f5 := blk_frozen k2 5
      refine hK.out _ _ ?_ (fun hHeld' => ?_)
      ·(try dsimp only)
       all_goals trivial
      clear hK K hHeld
      have hHeld := hHeld'
      clear hHeld'
      (try simp only [Act.put, List.setIfInBounds_toArray, List.set_cons_zero, List.set_cons_succ])
      refine tk 6 ?_
      refine tr 7 (fun K hK => ?_)
      go_simp
      skip
      (try go_wp2_with fail)
      refine hK.out _ _ ?_ (fun hHeld' => ?_)
      ·(try dsimp only)
       all_goals trivial
      clear hK K hHeld
      have hHeld := hHeld'
      clear hHeld'
      (try simp only [Act.put, List.setIfInBounds_toArray, List.set_cons_zero, List.set_cons_succ])
      refine wpAnyH_done (by kernel_rfl) ?_ _
      have z4 : w2.heap.size < w4.heap.size := by have h9 := hg4.size; simp at h9; omega
      have BG : ∀ b, b < w2.heap.size → (Value.slice r k d).ownBlock ≠ some b → w4.heap[b]? = w2.heap[b]? := fun b hb hn => (hg4.block b (by simp; omega) (fun e => hn e.symm)).trans (Below.heap_alloc w2 _ b hb)
      have hpush := HL.out.push (F' := From (w.heap.size + 3) w4.heap.size) (fun b h => h.2) hb2 (RInts.of_owns HM.out hm1 ho2) (fun b h => h) BG (owns_mono ho4 (Nat.zero_le _)) (by
       rcases ht4 with h9 | h9
       ·exact .inl h9
       ·refine .inr (fun b e => ?_)
        rw [h9] at e
        simp at e
        omega) (by omega) (fun b h => ⟨h.1, by have := h.2; omega⟩) (fun b h => ⟨by have := h.1; omega, by have := h.2; omega⟩) (fun b h => ho4.lt b h)
      obtain ⟨X, hX⟩ : ∃ u, u = w4.setCell ⟨w.heap.size + 1 + 1, 5, none⟩ (.slice r4 (k + 1) d4) := ⟨_, rfl⟩
      have zX : X.heap.size = w4.heap.size := by rw [hX]; simp [World.setCell]
      have S : Off (From w.heap.size (w.heap.size + 3)) w4 X := by rw [hX]; exact Off.set ⟨by simp; omega, by simp⟩ _
      obtain ⟨G', HL'⟩ : ∃ G', Hid (Laid RInts X (From (w.heap.size + 3) X.heap.size) 23 r4 (k + 1) d4 (ps.take (k + 1)) (cells ++ [.slice r2 m d2]) G' (k + 1)) := by
       rw [HTK.out, zX]
       exact ⟨_, Hid.mk (hpush.frame (fun b h1 h2 => S.block b h2 (fun e => by have := h1.1; have := e.2; omega)))⟩
      have HW' : Hid (X.ownsRow (w.heap.size + 3) 23 1 (.slice r4 (k + 1) d4) (k + 1) (cells ++ [.slice r2 m d2])) := by rw [hX]; exact ownsRow_setCell_below ho4 (by simp) _
      have K2 : Hid (X.heap[w.heap.size + 1 + 1]? = some (.cells #[.int .i64 4, .int .i64 A, .int .i64 B, .slice none 0 0, .slice none 0 0, .slice r4 (k + 1) d4] 74 (0, 0))) := by rw [hX]; exact blk_set k2 5 _
      have K1 : Hid (X.heap[w.heap.size + 1]? = some (.cells #[.int .i64 0, .int .i64 0, .int .i64 0, .slice none 0 0, .slice none 0 0, .slice none 0 0] 74 (0, 0))) := by rw [hX]; exact blk_other k1 (by simp) _
      have HB' : Hid (Below w.heap.size w X) := by
       rw [hX]
       have h9 := HB.out.size
       exact ((HB.out.trans (hb2.mono h9)).trans (show Below w.heap.size w2 w4 from ⟨hg4.os, hg4.tape, hg4.output, by omega, fun b hb => BG b (by omega) (fun e => by have := (HW.out.lt b e).1; omega)⟩)).setCell (by simp; omega) _
      have HZX : Hid (w.heap.size + 2 < X.heap.size) := by show _ < _; rw [zX]; omega
      have HX := Hid.mk hX
      clear zX S hX hpush BG ho4 hg4 ht4 k2 k1 e5 f5 ho2 hg2 ht2 hb2 d5 hHeld
      go_wp2
      go_roundw
      case rel =>
       have hX := HX.out
       have h1 := K2.out
       have h2 := K1.out
       have h3 := HL'.out
       have h4 := HW'.out
       have h5 := HB'.out
       have h6 := HZX.out
       rw [hX] at h1 h2 h3 h4 h5 h6
       exact ⟨k + 1, r4, d4, _, _, by omega, by go_num, h1, h2, h3, h4, h6, h5⟩
      case measure => simp [intOf]; omega
     refine AllReadyH.cons (o := ?_) ?_ (fun K hK => ?_) AllReadyH.nil
     rotate_left
     ·(simp only [List.getElem?_toArray, List.getElem?_cons_zero, List.getElem?_cons_succ]; rfl)
     ·go_simp
      (try go_wp2_with fail)
      refine hK.out _ _ ?_ (fun hHeld' => ?_)
      ·(try dsimp only)
       all_goals trivial
      clear hK K hHeld
      have hHeld := hHeld'
      clear hHeld'
      (try simp only [Act.put, List.setIfInBounds_toArray, List.set_cons_zero, List.set_cons_succ])
      have u2 := cell_later ((Below.refl _ _).alloc (Nat.le_refl _) (.cells #[.slice r2 m d2] 23)) d5
      refine tr 1 (fun K hK => ?_)
      go_simp
      skip
      (try go_wp2_with fail)
      refine hK.out _ _ ?_ (fun hHeld' => ?_)
      ·(try dsimp only)
       all_goals trivial
      clear hK K hHeld
      have hHeld := hHeld'
      clear hHeld'
      (try simp only [Act.put, List.setIfInBounds_toArray, List.set_cons_zero, List.set_cons_succ])
      clear u2
      refine tr 5 (fun K hK => ?_)
      refine step_append_vals rfl (.tmp 19) (.tmp 22) 72 rfl (w.heap.size + 3) 23 i0 (.slice none 0 0) 1 24 Tryz.underlying72 hi hz0 hz1 hz2 rfl (by decide) (.slice r k d) k cells (by simp [Act.eval]) ((owns_below HW.out hb2).alloc _) (some ⟨w2.heap.size, 0, none⟩) 1 1 [.slice r2 m d2] (by simp [Act.eval]) rfl (fun ad he => by cases he; simpa using news_at w2 #[.slice r2 m d2] 23) (by intro u hu; simp at hu; rw [hu]; rfl) (fun h => by cases h) (by unfold maxLen; omega) (by omega) (by simp; omega) ?_
      intro r4 d4 w4 ho4 hg4 ht4
      have k2 := (hg4.block (w.heap.size + 1 + 1) (by simp; omega) (fun e => by have h9 := (HW.out.lt _ e.symm).1; omega)).trans (blk_alloc (blk_below b2 hb2) _)
      have k1 := (hg4.block (w.heap.size + 1) (by simp; omega) (fun e => by have h9 := (HW.out.lt _ e.symm).1; omega)).trans (blk_alloc (blk_below b1 hb2) _)
      have e5 := blk_cell k2 5 (v := .slice r k d) rfl
      have f5 := blk_frozen k2 5
      refine hK.out _ _ ?_ (fun hHeld' => ?_)
      ·(try dsimp only)
       all_goals trivial
      clear hK K hHeld
      have hHeld := hHeld'
      clear hHeld'
      (try simp only [Act.put, List.setIfInBounds_toArray, List.set_cons_zero, List.set_cons_succ])
      refine tk 6 ?_
      refine tr 7 (fun K hK => ?_)
      go_simp
      skip
      (try go_wp2_with fail)
      refine hK.out _ _ ?_ (fun hHeld' => ?_)
      ·(try dsimp only)
       all_goals trivial
      clear hK K hHeld
      have hHeld := hHeld'
      clear hHeld'
      (try simp only [Act.put, List.setIfInBounds_toArray, List.set_cons_zero, List.set_cons_succ])
      refine wpAnyH_done (by kernel_rfl) ?_ _
      have z4 : w2.heap.size < w4.heap.size := by have h9 := hg4.size; simp at h9; omega
      have BG : ∀ b, b < w2.heap.size → (Value.slice r k d).ownBlock ≠ some b → w4.heap[b]? = w2.heap[b]? := fun b hb hn => (hg4.block b (by simp; omega) (fun e => hn e.symm)).trans (Below.heap_alloc w2 _ b hb)
      have hpush := HL.out.push (F' := From (w.heap.size + 3) w4.heap.size) (fun b h => h.2) hb2 (RInts.of_owns HM.out hm1 ho2) (fun b h => h) BG (owns_mono ho4 (Nat.zero_le _)) (by
       rcases ht4 with h9 | h9
       ·exact .inl h9
       ·refine .inr (fun b e => ?_)
        rw [h9] at e
        simp at e
        omega) (by omega) (fun b h => ⟨h.1, by have := h.2; omega⟩) (fun b h => ⟨by have := h.1; omega, by have := h.2; omega⟩) (fun b h => ho4.lt b h)
      obtain ⟨X, hX⟩ : ∃ u, u = w4.setCell ⟨w.heap.size + 1 + 1, 5, none⟩ (.slice r4 (k + 1) d4) := ⟨_, rfl⟩
      have zX : X.heap.size = w4.heap.size := by rw [hX]; simp [World.setCell]
      have S : Off (From w.heap.size (w.heap.size + 3)) w4 X := by rw [hX]; exact Off.set ⟨by simp; omega, by simp⟩ _
      obtain ⟨G', HL'⟩ : ∃ G', Hid (Laid RInts X (From (w.heap.size + 3) X.heap.size) 23 r4 (k + 1) d4 (ps.take (k + 1)) (cells ++ [.slice r2 m d2]) G' (k + 1)) := by
       rw [HTK.out, zX]
       exact ⟨_, Hid.mk (hpush.frame (fun b h1 h2 => S.block b h2 (fun e => by have := h1.1; have := e.2; omega)))⟩
      have HW' : Hid (X.ownsRow (w.heap.size + 3) 23 1 (.slice r4 (k + 1) d4) (k + 1) (cells ++ [.slice r2 m d2])) := by rw [hX]; exact ownsRow_setCell_below ho4 (by simp) _
      have K2 : Hid (X.heap[w.heap.size + 1 + 1]? = some (.cells #[.int .i64 4, .int .i64 A, .int .i64 B, .slice none 0 0, .slice none 0 0, .slice r4 (k + 1) d4] 74 (0, 0))) := by rw [hX]; exact blk_set k2 5 _
      have K1 : Hid (X.heap[w.heap.size + 1]? = some (.cells #[.int .i64 0, .int .i64 0, .int .i64 0, .slice none 0 0, .slice none 0 0, .slice none 0 0] 74 (0, 0))) := by rw [hX]; exact blk_other k1 (by simp) _
      have HB' : Hid (Below w.heap.size w X) := by
       rw [hX]
       have h9 := HB.out.size
       exact ((HB.out.trans (hb2.mono h9)).trans (show Below w.heap.size w2 w4 from ⟨hg4.os, hg4.tape, hg4.output, by omega, fun b hb => BG b (by omega) (fun e => by have := (HW.out.lt b e).1; omega)⟩)).setCell (by simp; omega) _
      have HZX : Hid (w.heap.size + 2 < X.heap.size) := by show _ < _; rw [zX]; omega
      have HX := Hid.mk hX
      clear zX S hX hpush BG ho4 hg4 ht4 k2 k1 e5 f5 ho2 hg2 ht2 hb2 d5 hHeld
      go_wp2
      go_roundw
      case rel =>
       have hX := HX.out
       have h1 := K2.out
       have h2 := K1.out
       have h3 := HL'.out
       have h4 := HW'.out
       have h5 := HB'.out
       have h6 := HZX.out
       rw [hX] at h1 h2 h3 h4 h5 h6
       exact ⟨k + 1, r4, d4, _, _, by omega, by go_num, h1, h2, h3, h4, h6, h5⟩
      case measure => simp [intOf]; omega
   ·obtain rfl : k = pn := by omega
    have HL := Hid.mk hl
    have u0 := blk_cell b2 0 (v := .int .i64 4) rfl
    have p0 := blk_cell b1 0 (v := .int .i64 0) rfl
    have f0 := blk_frozen b1 0
    have u1 := blk_cell b2 1 (v := .int .i64 A) rfl
    have p1 := blk_cell b1 1 (v := .int .i64 0) rfl
    have f1 := blk_frozen b1 1
    have u2 := blk_cell b2 2 (v := .int .i64 B) rfl
    have p2 := blk_cell b1 2 (v := .int .i64 0) rfl
    have f2 := blk_frozen b1 2
    have u3 := blk_cell b2 3 (v := .slice none 0 0) rfl
    have p3 := blk_cell b1 3 (v := .slice none 0 0) rfl
    have f3 := blk_frozen b1 3
    have u4 := blk_cell b2 4 (v := .slice none 0 0) rfl
    have p4 := blk_cell b1 4 (v := .slice none 0 0) rfl
    have f4 := blk_frozen b1 4
    have u5 := blk_cell b2 5 (v := .slice r k d) rfl
    have p5 := blk_cell b1 5 (v := .slice none 0 0) rfl
    have f5 := blk_frozen b1 5
    obtain ⟨Y, hY⟩ : ∃ u, u = stores wr (w.heap.size + 1) 0 [.int .i64 4, .int .i64 A, .int .i64 B, .slice none 0 0, .slice none 0 0, .slice r k d] := ⟨_, rfl⟩
    have D : Below w.heap.size w Y := by rw [hY]; exact stores_below _ _ _ _ hbw (by omega)
    have S : Off (From w.heap.size (w.heap.size + 3)) wr Y := by rw [hY]; exact stores_off _ _ _ _ ⟨by omega, by omega⟩
    have zY : Y.heap.size = wr.heap.size := by rw [hY]; exact stores_size _ _ _ _
    have hp : RPairs.Own Y (From w.heap.size Y.heap.size) [.slice r k d] ps := by
     refine ⟨r, k, d, cells, G, rfl, ?_⟩
     have h9 := hl.frame (w' := Y) (fun b h1 h2 => S.block b h2 (fun e => by have := h1.1; have := e.2; omega))
     have h8 := h9.mono (F' := From w.heap.size Y.heap.size) (fun b h => ⟨by have := h.1; omega, by have := h.2; omega⟩)
     rw [List.take_of_length_le (by rw [HZ.out]; exact Nat.le_refl _)] at h8
     exact h8
    have HR : Hid (RPart.Own Y (From w.heap.size Y.heap.size) (cellsP 4 A B none 0 0 none 0 0 r k d) (4, A, B, [], [], ps)) := RPart.own_mk (F1 := noF) (F2 := noF) (none_tests _ _) (none_ints _ _) hp (fun b h => h.elim) (fun b h => h.elim) (fun b h => h) (fun b h => h.elim) (fun b h => h.elim) (fun b h => h.elim)
    have HY := Hid.mk hY
    have HD := Hid.mk D
    clear S D hY zY hp hl how b1 b2 hbw
    go_wp2
    refine bodyPost_ret (v := .agg #[.int .i64 4, .int .i64 A, .int .i64 B, .slice none 0 0, .slice none 0 0, .slice r k d]) (by simp [results, Tryz.results214, go_sem, p0, p1, p2, p3, p4, p5]) rfl ⟨⟨none, 0, none, 0, r, d, by simp only [HZ.out]; rfl, ?_⟩, ?_⟩
    ·have h := HR.out
     rw [HY.out] at h
     simp only [HZ.out]
     exact h
    ·have h := HD.out
     rw [HY.out] at h
     exact h

end Go.Proofs.YthiabjkjpjmahaaGreat

/- Contracts of impl.partOf, hasNoMore: a part by its kind. -/
namespace Go.Proofs.YthiabjkjpjmahaaGreat
open Go.RowKit

/-- A part behind the interface. -/
def partV (K A B : Int) (ta : Option Addr) (tn tc : Nat) (ca : Option Addr) (cn cc : Nat) (pa : Option Addr) (pn pc : Nat) : Value :=
  if K = 1 then .iface 152 (.agg #[.int .i64 A]) else
  if K = 2 then .iface 154 (.agg #[.int .i64 A, .slice ta tn tc]) else
  if K = 3 then .iface 156 (.agg #[.int .i64 A, .slice ca cn cc]) else
  if K = 4 then .iface 158 (.agg #[.int .i64 A, .int .i64 B, .slice pa pn pc]) else
  if K = 5 then .iface 160 (.agg #[.int .i64 A, .int .i64 B]) else
  if K = 6 then .iface 161 (.agg #[.int .i64 A, .int .i64 B]) else
  if K = 7 then .iface 163 (.agg #[.int .i64 A]) else .nilIface

theorem partV_1 {A B : Int} {ta : Option Addr} {tn tc : Nat} {ca : Option Addr} {cn cc : Nat} {pa : Option Addr} {pn pc : Nat} : partV 1 A B ta tn tc ca cn cc pa pn pc = .iface 152 (.agg #[.int .i64 A]) := by simp [partV]
theorem partV_2 {A B : Int} {ta : Option Addr} {tn tc : Nat} {ca : Option Addr} {cn cc : Nat} {pa : Option Addr} {pn pc : Nat} : partV 2 A B ta tn tc ca cn cc pa pn pc = .iface 154 (.agg #[.int .i64 A, .slice ta tn tc]) := by simp [partV]
theorem partV_3 {A B : Int} {ta : Option Addr} {tn tc : Nat} {ca : Option Addr} {cn cc : Nat} {pa : Option Addr} {pn pc : Nat} : partV 3 A B ta tn tc ca cn cc pa pn pc = .iface 156 (.agg #[.int .i64 A, .slice ca cn cc]) := by simp [partV]
theorem partV_4 {A B : Int} {ta : Option Addr} {tn tc : Nat} {ca : Option Addr} {cn cc : Nat} {pa : Option Addr} {pn pc : Nat} : partV 4 A B ta tn tc ca cn cc pa pn pc = .iface 158 (.agg #[.int .i64 A, .int .i64 B, .slice pa pn pc]) := by simp [partV]
theorem partV_5 {A B : Int} {ta : Option Addr} {tn tc : Nat} {ca : Option Addr} {cn cc : Nat} {pa : Option Addr} {pn pc : Nat} : partV 5 A B ta tn tc ca cn cc pa pn pc = .iface 160 (.agg #[.int .i64 A, .int .i64 B]) := by simp [partV]
theorem partV_6 {A B : Int} {ta : Option Addr} {tn tc : Nat} {ca : Option Addr} {cn cc : Nat} {pa : Option Addr} {pn pc : Nat} : partV 6 A B ta tn tc ca cn cc pa pn pc = .iface 161 (.agg #[.int .i64 A, .int .i64 B]) := by simp [partV]
theorem partV_7 {A B : Int} {ta : Option Addr} {tn tc : Nat} {ca : Option Addr} {cn cc : Nat} {pa : Option Addr} {pn pc : Nat} : partV 7 A B ta tn tc ca cn cc pa pn pc = .iface 163 (.agg #[.int .i64 A]) := by simp [partV]
theorem kind_cases {K : Int} (h : 1 ≤ K ∧ K ≤ 7) : K = 1 ∨ K = 2 ∨ K = 3 ∨ K = 4 ∨ K = 5 ∨ K = 6 ∨ K = 7 := by omega

set_option maxRecDepth 100000 in
set_option maxHeartbeats 4000000 in
theorem partOf_any (K A B : Int) (ta : Option Addr) (tn tc : Nat) (ca : Option Addr) (cn cc : Nat) (pa : Option Addr) (pn pc : Nat) (w : World) :
    Calls Tryz.prog 69 #[.agg (cellsP K A B ta tn tc ca cn cc pa pn pc).toArray] w fun e w' => e = .returned (.tuple #[partV K A B ta tn tc ca cn cc pa pn pc, .bool (decide (1 ≤ K ∧ K ≤ 7))]) ∧ Below w.heap.size w w' := by
  by_cases h : 1 ≤ K ∧ K ≤ 7
  · rcases kind_cases h with rfl | rfl | rfl | rfl | rfl | rfl | rfl
    · clear h
      rw [partV_1]
      go_enter Tryz.func69, Tryz.ntmps69
      go_wp2
      exact bodyPost_ret (v := .tuple #[.iface 152 (.agg #[.int .i64 A]), .bool true]) (by simp [results, Tryz.results69, go_sem]) rfl ⟨by simp, (Below.refl _ _).alloc (Nat.le_refl _) _⟩
    · clear h
      rw [partV_2]
      go_enter Tryz.func69, Tryz.ntmps69
      go_wp2
      exact bodyPost_ret (v := .tuple #[.iface 154 (.agg #[.int .i64 A, .slice ta tn tc]), .bool true]) (by simp [results, Tryz.results69, go_sem]) rfl ⟨by simp, (Below.refl _ _).alloc (Nat.le_refl _) _⟩
    · clear h
      rw [partV_3]
      go_enter Tryz.func69, Tryz.ntmps69
      go_wp2
      exact bodyPost_ret (v := .tuple #[.iface 156 (.agg #[.int .i64 A, .slice ca cn cc]), .bool true]) (by simp [results, Tryz.results69, go_sem]) rfl ⟨by simp, (Below.refl _ _).alloc (Nat.le_refl _) _⟩
    · clear h
      rw [partV_4]
      go_enter Tryz.func69, Tryz.ntmps69
      go_wp2
      exact bodyPost_ret (v := .tuple #[.iface 158 (.agg #[.int .i64 A, .int .i64 B, .slice pa pn pc]), .bool true]) (by simp [results, Tryz.results69, go_sem]) rfl ⟨by simp, (Below.refl _ _).alloc (Nat.le_refl _) _⟩
    · clear h
      rw [partV_5]
      go_enter Tryz.func69, Tryz.ntmps69
      go_wp2
      exact bodyPost_ret (v := .tuple #[.iface 160 (.agg #[.int .i64 A, .int .i64 B]), .bool true]) (by simp [results, Tryz.results69, go_sem]) rfl ⟨by simp, (Below.refl _ _).alloc (Nat.le_refl _) _⟩
    · clear h
      rw [partV_6]
      go_enter Tryz.func69, Tryz.ntmps69
      go_wp2
      exact bodyPost_ret (v := .tuple #[.iface 161 (.agg #[.int .i64 A, .int .i64 B]), .bool true]) (by simp [results, Tryz.results69, go_sem]) rfl ⟨by simp, (Below.refl _ _).alloc (Nat.le_refl _) _⟩
    · clear h
      rw [partV_7]
      go_enter Tryz.func69, Tryz.ntmps69
      go_wp2
      exact bodyPost_ret (v := .tuple #[.iface 163 (.agg #[.int .i64 A]), .bool true]) (by simp [results, Tryz.results69, go_sem]) rfl ⟨by simp, (Below.refl _ _).alloc (Nat.le_refl _) _⟩
  · have HN : Hid (partV K A B ta tn tc ca cn cc pa pn pc = .nilIface) := by
      show _ = _
      unfold partV
      rw [if_neg (by omega), if_neg (by omega), if_neg (by omega), if_neg (by omega), if_neg (by omega), if_neg (by omega), if_neg (by omega)]
    have HD : Hid (decide (1 ≤ K ∧ K ≤ 7) = false) := decide_eq_false h
    have h1 : ¬ K = 1 := by omega
    have h2 : ¬ K = 2 := by omega
    have h3 : ¬ K = 3 := by omega
    have h4 : ¬ K = 4 := by omega
    have h5 : ¬ K = 5 := by omega
    have h6 : ¬ K = 6 := by omega
    have h7 : ¬ K = 7 := by omega
    clear h
    go_enter Tryz.func69, Tryz.ntmps69
    go_wp2
    refine bodyPost_ret (v := .tuple #[.nilIface, .bool false]) (by simp [results, Tryz.results69, go_sem]) rfl ⟨?_, (Below.refl _ _).alloc (Nat.le_refl _) _⟩
    rw [HN.out, HD.out]

def sameMore (B B' : Int) (tn tn' cn cn' pn pn' : Nat) : Bool := decide (tn = tn') && (decide (cn = cn') && (decide (pn = pn') && decide (B = B')))

set_option maxRecDepth 100000 in
set_option maxHeartbeats 4000000 in
theorem hasNoMore_any (K A B : Int) (ta : Option Addr) (tn tc : Nat) (ca : Option Addr) (cn cc : Nat) (pa : Option Addr) (pn pc : Nat) (K' A' B' : Int) (ta' : Option Addr) (tn' tc' : Nat) (ca' : Option Addr) (cn' cc' : Nat) (pa' : Option Addr) (pn' pc' : Nat) (w : World) :
    Calls Tryz.prog 70 #[.agg (cellsP K A B ta tn tc ca cn cc pa pn pc).toArray, .agg (cellsP K' A' B' ta' tn' tc' ca' cn' cc' pa' pn' pc').toArray] w fun e w' => e = .returned (.bool (sameMore B B' tn tn' cn cn' pn pn')) ∧ Below w.heap.size w w' := by
  by_cases h1 : B = B'
  · subst h1
    by_cases h2 : tn = tn'
    · subst h2
      by_cases h3 : cn = cn'
      · subst h3
        by_cases h4 : pn = pn'
        · subst h4
          have HV : Hid (sameMore B B tn tn cn cn pn pn = true) := by show _ = _; simp [sameMore]
          have z : True := trivial
          go_enter Tryz.func70, Tryz.ntmps70
          go_wp2
          go_ret
          exact ⟨by first | exact ret_bool HV.out.symm | exact ret_bool (by rw [HV.out]; simp; omega), ((Below.refl _ _).alloc (Nat.le_refl _) _).alloc (by simp) _⟩
        · have HV : Hid (sameMore B B tn tn cn cn pn pn' = false) := by show _ = _; simp [sameMore, h4]
          have h4' : ¬ (pn : Int) = (pn' : Int) := by omega
          clear h4
          have z : True := trivial
          go_enter Tryz.func70, Tryz.ntmps70
          go_wp2
          go_ret
          exact ⟨by first | exact ret_bool HV.out.symm | exact ret_bool (by rw [HV.out]; simp; omega), ((Below.refl _ _).alloc (Nat.le_refl _) _).alloc (by simp) _⟩
      · have HV : Hid (sameMore B B tn tn cn cn' pn pn' = false) := by show _ = _; simp [sameMore, h3]
        have h3' : ¬ (cn : Int) = (cn' : Int) := by omega
        clear h3
        have z : True := trivial
        go_enter Tryz.func70, Tryz.ntmps70
        go_wp2
        go_ret
        exact ⟨by first | exact ret_bool HV.out.symm | exact ret_bool (by rw [HV.out]; simp; omega), ((Below.refl _ _).alloc (Nat.le_refl _) _).alloc (by simp) _⟩
    · have HV : Hid (sameMore B B tn tn' cn cn' pn pn' = false) := by show _ = _; simp [sameMore, h2]
      have h2' : ¬ (tn : Int) = (tn' : Int) := by omega
      clear h2
      have z : True := trivial
      go_enter Tryz.func70, Tryz.ntmps70
      go_wp2
      go_ret
      exact ⟨by first | exact ret_bool HV.out.symm | exact ret_bool (by rw [HV.out]; simp; omega), ((Below.refl _ _).alloc (Nat.le_refl _) _).alloc (by simp) _⟩
  · have HV : Hid (sameMore B B' tn tn' cn cn' pn pn' = false) := by show _ = _; simp [sameMore, h1]
    have z : True := trivial
    go_enter Tryz.func70, Tryz.ntmps70
    go_wp2
    go_ret
    exact ⟨by first | exact ret_bool HV.out.symm | exact ret_bool (by rw [HV.out]; simp; omega), ((Below.refl _ _).alloc (Nat.le_refl _) _).alloc (by simp) _⟩

end Go.Proofs.YthiabjkjpjmahaaGreat
