/- Contract of the model's NewSnap. -/
import Derived.Test.YthfndafgllcelaaNapS
import Derived.Test.YthfndafgllcelaaNwP
import Derived.Test.YthfndafgllcelaaStepW
import Derived.Test.YthfndafgllcelaaBlk
import Derived.Deep.CutBlock
namespace Go.Proofs.Ythfndafgllcelaa
open Go.RowKit

theorem blk_grownN {w w6 : World} {o o' : Obj} {v : Value} {P : Nat} (h : w.heap[P]? = some o') (hg : (w.alloc o).grownBy w6 v.ownBlock) (hn : v.ownBlock ≠ some P) : w6.heap[P]? = some o' := by
  have hP := (Array.getElem?_eq_some_iff.1 h).1
  exact (hg.block P (by simp; omega) (fun e => hn e.symm)).trans ((Below.heap_alloc w o P hP).trans h)

set_option maxRecDepth 100000 in
set_option maxHeartbeats 2000000 in
theorem specGoodSnap_no (a0 : Option Addr) (n0 c0 : Nat) (a1 : Option Addr) (n1 c1 : Nat) (ps : List TProc) (ws : List TWire) (w : World) (h0 : ps.length = n0) (h1 : ws.length = n1) (hb0 : n0 ≤ 1048576) (hm : ¬ (2 ≤ n0 ∧ n0 ≤ 4)) (ha0 : AtSl RProc w a0 ps) (ha1 : AtSl RWire w a1 ws) :
    Calls Try.prog 18 #[.agg #[.slice a0 n0 c0, .slice a1 n1 c1]] w fun e w' => e = .returned (.bool (gsB (ps, ws))) ∧ Below w.heap.size w w' := by
  have HV : Hid (gsB (ps, ws) = (decide (2 ≤ n0) && decide (n0 ≤ 4) && decide (n1 = n0 * n0) && ps.all prB && wsB n0 ps 0 ws && decide (amtS (ps, ws) + recS (ps, ws) ≤ 2000000000))) := Hid.mk (by unfold gsB; simp only [h0, h1])
  have H0 := Hid.mk h0
  have H1 := Hid.mk h1
  obtain ⟨W, hW⟩ : ∃ W, W = w.alloc (.cells #[.slice a0 n0 c0, .slice a1 n1 c1] 26) := ⟨_, rfl⟩
  have B0 : Below w.heap.size w W := by rw [hW]; exact (Below.refl _ _).alloc (Nat.le_refl _) _
  have p0 : W.cell? ⟨w.heap.size, 0, none⟩ = some (.slice a0 n0 c0) := by rw [hW]; simp
  have p1 : W.cell? ⟨w.heap.size, 1, none⟩ = some (.slice a1 n1 c1) := by rw [hW]; simp
  have zW : w.heap.size < W.heap.size := by rw [hW]; simp
  have HA0 := Hid.mk (AtSl.below ha0 B0)
  have HA1 := Hid.mk (AtSl.below ha1 B0)
  have KM := Hid.mk (l1In_any (n0 : Int) 2 4 W)
  clear ha0 ha1 h0 h1
  · have hmf : (decide (2 ≤ (n0 : Int)) && decide ((n0 : Int) ≤ 4)) = false := by simp only [Bool.and_eq_false_iff, decide_eq_false_iff_not]; omega
    have hmg : (decide (2 ≤ n0) && decide (n0 ≤ 4)) = false := by simp only [Bool.and_eq_false_iff, decide_eq_false_iff_not]; omega
    rw [hmf] at KM
    rw [hmg] at HV
    clear hmf hmg hm
    go_enter Try.func18, Try.ntmps18
    go_wp2_with fail
    rw [← hW]
    clear hW
    refine KM.out.mono ?_
    rintro e w0 ⟨rfl, hw0⟩
    obtain rfl := hw0.symm
    go_wp2
    go_ret
    exact ⟨ret_bool (by rw [HV.out]; simp), B0⟩

theorem Try.infoProcN : (Try.prog.info? 64).map (fun i => (i.zero, i.size, i.bytes)) = some (some (.agg #[.int .i64 0, .int .i64 0, .bool false]), 3, 24) := by kernel_rfl
theorem Try.infoWireN : (Try.prog.info? 74).map (fun i => (i.zero, i.size, i.bytes)) = some (some (.agg #[.slice none 0 0, .slice none 0 0, .bool false]), 3, 56) := by kernel_rfl

set_option maxRecDepth 100000 in
set_option maxHeartbeats 4000000 in
theorem specNewSnap (a : Option Addr) (n c : Nat) (zs : List Int) (w : World) (hz : zs.length = n) (hn : n ≤ 1048576) (ha : At w a zs) :
    Calls Try.prog 9 #[.slice a n c] w fun e w' => SnapRet e w' w.heap.size (gsB (newS zs)) (if gsB (newS zs) then newS zs else ([], [])) ∧ Below w.heap.size w w' := by
  obtain ⟨k0, hk0, hx0, hx1, hx2⟩ := info_parts Try.infoProcN
  obtain ⟨i0, hi0, hz0, hz1, hz2⟩ := info_parts Try.infoWireN
  obtain ⟨PB, hPB⟩ : ∃ b, gsB (newS zs) = b := ⟨_, rfl⟩
  obtain ⟨X, hX⟩ : ∃ x, (if gsB (newS zs) then newS zs else ([], [])) = x := ⟨_, rfl⟩
  rw [hX, hPB]
  have HPB := Hid.mk hPB
  have HXX := Hid.mk hX
  clear hX hPB
  obtain ⟨W, hW⟩ : ∃ W, W = (w.alloc (.cells #[.slice none 0 0, .slice none 0 0] 26)).alloc (.cells #[.slice none 0 0, .slice none 0 0] 26) := ⟨_, rfl⟩
  have B0 : Below w.heap.size w W := by rw [hW]; exact ((Below.refl _ _).alloc (Nat.le_refl _) _).alloc (by simp) _
  have b0 : W.heap[w.heap.size]? = some (.cells #[.slice none 0 0, .slice none 0 0] 26 (0, 0)) := by rw [hW]; exact blk_alloc (heap_alloc_new w _) _
  have b1 : W.heap[w.heap.size + 1]? = some (.cells #[.slice none 0 0, .slice none 0 0] 26 (0, 0)) := by
    rw [hW]
    have q := heap_alloc_new (w.alloc (.cells #[.slice none 0 0, .slice none 0 0] 26)) (.cells #[.slice none 0 0, .slice none 0 0] 26)
    simpa only [World.size_alloc] using q
  have zW : w.heap.size + 1 < W.heap.size := by rw [hW]; simp
  have HA := Hid.mk ha
  have HZ := Hid.mk hz
  clear ha hz
  go_enter Try.func9, Try.ntmps9
  go_wp2_with fail
  rw [← hW]
  clear hW
  go_loopw [10] (fun i wr => ∃ (k : Nat) (r : Option Addr) (d : Nat) (cells : List Value), k ≤ n ∧ i = .int .i64 k ∧ wr.heap[w.heap.size]? = some (.cells #[.slice none 0 0, .slice none 0 0] 26 (0, 0)) ∧ wr.heap[w.heap.size + 1]? = some (.cells #[.slice r k d, .slice none 0 0] 26 (0, 0)) ∧
    wr.ownsRow (w.heap.size + 1 + 1) 64 3 (.slice r k d) k cells ∧ PzA cells (zs.take k) ∧ w.heap.size + 1 < wr.heap.size ∧ Below w.heap.size w wr) (fun i _ => n - (intOf i).toNat)
  case atStart => exact ⟨0, none, 0, [], Nat.zero_le _, rfl, b0, b1, World.ownsRow_nil _ _ _ _, PzA.nil, zW, B0⟩
  case round =>
    clear b0 b1 B0 zW
    obtain ⟨k, r, d, cells, hk, rfl, b0, b1, ho, hpz, zr, hbw⟩ := hrel
    obtain ⟨wY, rfl⟩ : ∃ x, x = wr := ⟨_, rfl⟩
    by_cases hlt : k < n
    · obtain ⟨b, off, rfl, hb, hc⟩ := (At.below HA.out hbw).some (by have := HZ.out; omega)
      obtain ⟨y, hy⟩ : ∃ y, zs[k]? = some y := ⟨_, List.getElem?_eq_getElem (by have := HZ.out; omega)⟩
      have hcx : wY.cell? ⟨b, off + k, none⟩ = some (.int .i64 y) := by
        have h9 := hc k (by have := HZ.out; omega)
        simpa [List.getD, hy] using h9
      have htk : zs.take (k + 1) = zs.take k ++ [y] := by
        obtain ⟨hk2, rfl⟩ := List.getElem?_eq_some_iff.1 hy
        rw [List.take_succ_eq_append_getElem hk2]
      have hpz2 := hpz.push y
      rw [← htk] at hpz2
      have q0 : wY.cell? ⟨w.heap.size + 1, 0, none⟩ = some (.slice r k d) := blk_cell b1 0 rfl
      have hnP : ∀ P, P < w.heap.size + 1 + 1 → (Value.slice r k d).ownBlock ≠ some P := fun P hP e => by have := (ho.lt P e).1; omega
      have HPZ := Hid.mk hpz2
      have HO := Hid.mk ho
      have HN := Hid.mk hnP
      have HB0 := Hid.mk b0
      have HB1 := Hid.mk b1
      have HBW := Hid.mk hbw
      have hki : (k : Int) < (n : Int) := by omega
      clear hc hy htk hpz hpz2 ho hnP b0 b1 hbw
      go_wp2_with (at_builtin; refine wpList_app_vals rfl (.tmp 15) (.tmp 18) 23 rfl (w.heap.size + 1 + 1) 64 k0 (.agg #[.int .i64 0, .int .i64 0, .bool false]) 3 24 Try.underlying23 hk0 hx0 hx1 hx2 rfl (by decide) (.slice r k d) k cells rfl (HO.out.alloc _) (some ⟨wY.heap.size, 0, none⟩) 1 1 [.int .i64 y, .int .i64 0, .bool false] rfl rfl (fun ad he => by cases he; simpa using news_at wY #[.int .i64 y, .int .i64 0, .bool false] 64) (by simp; exact ⟨rfl, rfl, rfl⟩) (fun h => by cases h) (by unfold maxLen; omega) (by omega) (by simp; omega) ?_; intro r4 d4 w6 ho4 hg4 ht4; have x1 := blk_cell (blk_grownN HB1.out hg4 (HN.out _ (by omega))) 0 (v := .slice r k d) rfl; have x2 := blk_frozen (blk_grownN HB1.out hg4 (HN.out _ (by omega))) 0)
      have HN1 := Hid.mk (And.intro ho4 (And.intro hg4 ht4))
      clear ho4 hg4 ht4
      go_roundw
      case rel =>
        obtain ⟨ho4, hg4, ht4⟩ := HN1.out
        have z4 : w.heap.size + 1 < w6.heap.size := by have := hg4.size; simp at this; omega
        have e1 := blk_grownN HB1.out hg4 (HN.out _ (by omega))
        have e0 := blk_grownN HB0.out hg4 (HN.out _ (by omega))
        have hl4 := fun b hb => (ho4.lt b hb).1
        refine ⟨k + 1, r4, d4, _, by omega, by go_num, ?_, ?_, ?_, HPZ.out, ?_, ?_⟩
        · exact blk_other e0 (by simp) _
        · exact blk_set e1 0 _
        · exact ownsRow_frame ho4 (fun b hb _ => Below.heap_setCell _ _ _ _ (by have := hl4 b hb; show b ≠ w.heap.size + 1; omega))
        · simp [World.setCell]; exact z4
        · exact (((HBW.out.alloc HBW.out.size _).grown hg4 (by have := HBW.out.size; simp; omega) (fun j hj => by have := (HO.out.lt j hj).1; omega))).setCell (by simp) _
      case measure => simp [intOf]; omega
    · obtain rfl : k = n := by omega
      rw [List.take_of_length_le (by have := HZ.out; omega)] at hpz
      obtain ⟨Q, hQ⟩ : ∃ Q : Nat, k * k = Q := ⟨_, rfl⟩
      have hQ40 : Q ≤ 1099511627776 := by rw [← hQ]; exact Nat.mul_le_mul hn hn
      have hmul : (k : Int) * (k : Int) = (Q : Int) := by rw [← hQ]; push_cast; rfl
      have hX2 : newS zs = (psN zs, wsN Q) := by unfold newS; rw [HZ.out, hQ]
      have HX2 := Hid.mk hX2
      have hQ16 : 2 ≤ k ∧ k ≤ 4 → Q ≤ 1048576 := fun h => by have : k * k ≤ 16 := Nat.mul_le_mul h.2 h.2; omega
      have R0 := Hid.mk (RProcs.of_cells (by rw [HZ.out]) (by omega) ho hpz)
      have HQ := Hid.mk hQ16
      have HB0 := Hid.mk b0
      have HB1 := Hid.mk b1
      have HBW := Hid.mk hbw
      clear hQ hX2 ho hpz b0 b1 hbw hQ16
      go_upto_region 7 with fail
      go_wp2_with (at_make; refine wpList_make_full _ rfl _ _ 24 rfl wY.heap.size 74 i0 (.agg #[.slice none 0 0, .slice none 0 0, .bool false]) 3 Try.underlying24 hi0 hz0 hz1 .i64 .i64 _ _ Q rfl rfl rfl rfl (by rw [hz2]; omega) (by unfold maxLen; omega) (Nat.le_refl _) ?_; intro w1 hown hg; have hb1 := (Below.refl wY.heap.size wY).grown hg (Nat.le_refl _) (by simp); have x1 := blk_cell (blk_below HB1.out hb1) 1 (v := .slice none 0 0) rfl; have x0 := blk_cell (blk_below HB1.out hb1) 0 (v := .slice r k d) rfl; have x2 := blk_frozen (blk_below HB1.out hb1) 1)
      have z1 := hb1.size
      have hlt1 := (hown.lt wY.heap.size rfl).2
      obtain ⟨V, hV⟩ : ∃ V, V = w1.setCell ⟨w.heap.size + 1, 1, none⟩ (.slice (some ⟨wY.heap.size, 0, none⟩) Q Q) := ⟨_, rfl⟩
      have S : Hid (Off (fun b => b = w.heap.size + 1) w1 V) := Hid.mk (by rw [hV]; exact Off.set (F := fun b => b = w.heap.size + 1) (a := ⟨w.heap.size + 1, 1, none⟩) rfl _)
      have R0' := Hid.mk (RProcs.ownOff (RProcs.ownBelow R0.out hb1) S.out (fun b h k => by have h1 := h.1; have h2 : b = w.heap.size + 1 := k; omega))
      have R1 := Hid.mk (RWires.ownOff (RWires.of_cells (by omega) hown (WzA.made Q)) S.out (fun b h k => by have h1 := h.1; have h2 : b = w.heap.size + 1 := k; omega))
      have c0 : V.heap[w.heap.size]? = some (.cells #[.slice none 0 0, .slice none 0 0] 26 (0, 0)) := by rw [hV]; exact blk_other (blk_below HB0.out hb1) (by simp) _
      have c1 : V.heap[w.heap.size + 1]? = some (.cells #[.slice r k d, .slice (some ⟨wY.heap.size, 0, none⟩) Q Q] 26 (0, 0)) := by rw [hV]; exact blk_set (blk_below HB1.out hb1) 1 _
      have zV : w1.heap.size ≤ V.heap.size := S.out.size
      have BV := Hid.mk (show Below w.heap.size w V by rw [hV]; exact (HBW.out.trans (hb1.mono HBW.out.size)).setCell (by simp) _)
      have KG : Hid (Calls Try.prog 18 #[.agg #[.slice r k d, .slice (some ⟨wY.heap.size, 0, none⟩) Q Q]] V fun e w' => e = .returned (.bool PB) ∧ Below V.heap.size V w') := Hid.mk (by
        have hl0 := RProcs.atSl R0'.out
        have hl1 := RWires.atSl R1.out
        rw [← HPB.out, HX2.out]
        by_cases hm : 2 ≤ k ∧ k ≤ 4
        · exact specGoodSnap r k d (some ⟨wY.heap.size, 0, none⟩) Q Q _ _ V hl0.1 hl1.1 hn (HQ.out hm) (fun i x hx => by
            have hxe : ([], [], false) = x := by
              rw [List.getElem?_replicate] at hx
              by_cases hi : i < Q
              · simpa [hi] using hx
              · simp [hi] at hx
            rw [← hxe]; decide) hl0.2 hl1.2
        · exact specGoodSnap_no r k d (some ⟨wY.heap.size, 0, none⟩) Q Q _ _ V hl0.1 hl1.1 hn hm hl0.2 hl1.2)
      have u0 := blk_cell c1 0 (v := .slice r k d) rfl
      have u1 := blk_cell c1 1 (v := .slice (some ⟨wY.heap.size, 0, none⟩) Q Q) rfl
      have HV := Hid.mk hV
      clear hown hg hb1 x0 x1 x2 S R0 HB0 HB1 HBW
      go_wp2_with fail
      rw [← hV]
      clear hV HV
      refine KG.out.mono ?_
      rintro e w3 ⟨rfl, hb3⟩
      have c0 := blk_below c0 hb3
      have c1 := blk_below c1 hb3
      have z3 := hb3.size
      have R0 := Hid.mk (RProcs.ownBelow R0'.out hb3)
      have R1 := Hid.mk (RWires.ownBelow R1.out hb3)
      have B3 := Hid.mk (BV.out.trans (hb3.mono BV.out.size))
      have y0 := blk_cell c0 0 (v := .slice none 0 0) rfl
      have y1 := blk_cell c0 1 (v := .slice none 0 0) rfl
      have f0 := blk_frozen c0 0
      have f1 := blk_frozen c0 1
      have s0 := blk_cell c1 0 (v := .slice r k d) rfl
      have s1 := blk_cell c1 1 (v := .slice (some ⟨wY.heap.size, 0, none⟩) Q Q) rfl
      clear hb3 KG BV R0' u0 u1
      cases PB with
      | false =>
        have hX0 : X = ([], []) := by rw [← HXX.out, HPB.out]; rfl
        subst hX0
        go_wp2
        refine bodyPost_ret (v := .tuple #[.agg #[.slice none 0 0, .slice none 0 0], .bool false]) (by simp [results, Try.results9, go_sem, y0, y1]) rfl ⟨⟨none, 0, 0, none, 0, 0, rfl, RSnap.nil _ _⟩, ?_⟩
        exact (B3.out.setCell (Nat.le_refl _) _).setCell (Nat.le_refl _) _
      | true =>
        have hX0 : X = (psN zs, wsN Q) := by rw [← HXX.out, HPB.out, ← HX2.out]; rfl
        subst hX0
        obtain ⟨Y, hY⟩ : ∃ u, u = stores w3 w.heap.size 0 [.slice r k d, .slice (some ⟨wY.heap.size, 0, none⟩) Q Q] := ⟨_, rfl⟩
        have D : Below w.heap.size w Y := by rw [hY]; exact stores_below _ _ _ _ B3.out (Nat.le_refl _)
        have S : Off (fun b => b = w.heap.size) w3 Y := by rw [hY]; exact stores_off (F := fun b => b = w.heap.size) _ _ _ _ rfl
        have zY : Y.heap.size = w3.heap.size := by rw [hY]; exact stores_size _ _ _ _
        have R : Hid (RSnap.Own Y (From w.heap.size Y.heap.size) [.slice r k d, .slice (some ⟨wY.heap.size, 0, none⟩) Q Q] (psN zs, wsN Q)) := Hid.mk
          (RSnap.own_mk (RProcs.ownOff R0.out S (fun b h k => by have h1 := h.1; have h2 : b = w.heap.size := k; omega)) (RWires.ownOff R1.out S (fun b h k => by have h1 := h.1; have h2 : b = w.heap.size := k; omega))
            (fun b h => ⟨by have := h.1; omega, by have := h.2; omega⟩) (fun b h => ⟨by have := h.1; omega, by have := h.2; omega⟩) (fun b h k => by have := h.2; have := k.1; omega))
        have HY := Hid.mk hY
        have HD := Hid.mk D
        clear S D hY zY R0 R1 c0 c1
        go_wp2
        refine bodyPost_ret (v := .tuple #[.agg #[.slice r k d, .slice (some ⟨wY.heap.size, 0, none⟩) Q Q], .bool true]) (by simp [results, Try.results9, go_sem, y0, y1]) rfl ⟨⟨r, k, d, some ⟨wY.heap.size, 0, none⟩, Q, Q, rfl, ?_⟩, ?_⟩
        · have h := R.out
          rw [HY.out] at h
          exact h
        · have h := HD.out
          rw [HY.out] at h
          exact h

end Go.Proofs.Ythfndafgllcelaa
