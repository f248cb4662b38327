/- Contracts of noughts, others, and WitnessFor. -/
import Derived.Test.YtkcfhlpdenjimaaDoorM10
import Derived.Test.YtkcfhlpdenjimaaDoorM13
namespace Go.Proofs.YtkcfhlpdenjimaaDoor
open Go.RowKit

set_option maxRecDepth 100000 in
set_option maxHeartbeats 1000000 in
theorem noughts_own (q : Nat) (w : World) (h6 : q ≤ 6) :
    Calls Tryd.prog 48 #[.int .i64 q] w fun e w' => ∃ g, e = .returned (.agg #[.slice (some ⟨g, 0, none⟩) q q]) ∧ w'.ownsRow w.heap.size 3 1 (.slice (some ⟨g, 0, none⟩) q q) q ((List.replicate q 0).map (.int .i64)) ∧ Below w.heap.size w w' := by
  obtain ⟨i0, hi, hz0, hz1, hz2⟩ := info_parts Tryd.infoInt
  have hbL : Below w.heap.size w (w.alloc (.cells #[.slice none 0 0] 71)) := (Below.refl _ _).alloc (Nat.le_refl _) _
  have c0 : (w.alloc (.cells #[.slice none 0 0] 71)).cell? ⟨w.heap.size, 0, none⟩ = some (.slice none 0 0) := by simp
  have f0 : (w.alloc (.cells #[.slice none 0 0] 71)).frozen? ⟨w.heap.size, 0, none⟩ = false := by simp
  obtain ⟨w2, hr, ho, hg⟩ := run_makeSlice_full (P := Tryd.prog) (w.alloc (.cells #[.slice none 0 0] 71)) (w.heap.size + 1) 23 3 i0 (.int .i64 0) 1 Tryd.underlying23 hi hz0 hz1 .i64 .i64 q (by omega) (by rw [hz2]; omega) (by unfold maxLen; omega) (by simp)
  have hmc : (madeCells (Value.int .i64 0).cells (q * 1)).toList = (List.replicate q 0).map (.int .i64) := by
    have : q = 0 ∨ q = 1 ∨ q = 2 ∨ q = 3 ∨ q = 4 ∨ q = 5 ∨ q = 6 := by omega
    rcases this with rfl | rfl | rfl | rfl | rfl | rfl | rfl <;> simp [madeCells, Value.cells, Array.toList_map, Array.toList_range, List.range, List.range.loop, List.replicate]
  rw [hmc] at ho
  have e2 := hg.cell c0 (by simp)
  have k2 : w2.frozen? ⟨w.heap.size, 0, none⟩ = false := (World.frozen?_of_block (hg.block w.heap.size (by simp) (by simp))).trans f0
  have hb2 : Below w.heap.size w w2 := hbL.grown hg hbL.size (fun j hj => by cases hj)
  have HO := Hid.mk ho
  clear hmc ho hg hbL c0 f0
  simp only [World.size_alloc] at hr
  go_enter Tryd.func48, Tryd.ntmps48
  go_wp2
  refine bodyPost_ret (v := .agg #[.slice (some ⟨w.heap.size + 1, 0, none⟩) q q]) (by simp [results, Tryd.results48, go_sem, e2]) rfl ⟨_, rfl, ?_, ?_⟩
  · have h2 := HO.out
    rw [World.size_alloc] at h2
    exact owns_mono (ownsRow_setCell_below h2 (by show w.heap.size < _; omega) _) (by omega)
  · exact hb2.setCell (by show w.heap.size ≤ w.heap.size; omega) _

set_option maxRecDepth 100000 in
set_option maxHeartbeats 8000000 in
theorem implWitnessFor (a : Option Addr) (n c : Nat) (xs : List Dep) (C : Int) (fa : Option Addr) (fn fc : Nat) (ta : Option Addr) (tn tc : Nat) (d : Dep) (w : World) (hz : xs.length = n) (hn : n ≤ 1048576) (ha : AtD w a xs) (hd : RDep.At w [.slice fa fn fc, .slice ta tn tc] d) (htab : TabB w) :
    Calls Tryd.prog 20 #[.slice a n c, .int .i64 C, .agg #[.slice fa fn fc, .slice ta tn tc]] w fun e w' => TabAns e w' w.heap.size (witB xs C d) C (witL xs C d) ∧ Below w.heap.size w w' := by
  obtain ⟨W, hW⟩ : ∃ W, W = (w.alloc (.cells #[.slice fa fn fc, .slice ta tn tc] 43)).alloc (.cells #[.int .i64 0, .slice none 0 0] 40) := ⟨_, rfl⟩
  have B0 : Below w.heap.size w W := by rw [hW]; exact ((Below.refl _ _).alloc (Nat.le_refl _) _).alloc (by simp) _
  have zW : w.heap.size + 1 < W.heap.size := by rw [hW]; simp
  have q0 : W.cell? ⟨w.heap.size, 0, none⟩ = some (.slice fa fn fc) := by rw [hW]; simp
  have q1 : W.cell? ⟨w.heap.size, 1, none⟩ = some (.slice ta tn tc) := by rw [hW]; simp
  have b1 : W.heap[w.heap.size + 1]? = some (.cells #[.int .i64 0, .slice none 0 0] 40 (0, 0)) := by
    rw [hW]
    have q := heap_alloc_new (w.alloc (.cells #[.slice fa fn fc, .slice ta tn tc] 43)) (.cells #[.int .i64 0, .slice none 0 0] 40)
    simpa only [World.size_alloc] using q
  have K1 := Hid.mk (implImplies a n c xs C fa fn fc ta tn tc d W hz hn (AtSl.below ha B0) (RDep.below hd B0))
  have HA := Hid.mk (AtSl.below ha B0)
  have HD := Hid.mk (RDep.below hd B0)
  have HZ := Hid.mk hz
  have HT := Hid.mk htab
  clear ha hd hz htab
  go_enter Tryd.func20, Tryd.ntmps20
  go_wp2_with fail
  rw [← hW]
  clear hW
  refine K1.out.mono ?_
  rintro e w1 ⟨rfl, hb1⟩
  have q0 := cell_later hb1 q0
  have q1 := cell_later hb1 q1
  have b1 := blk_below b1 hb1
  have HA1 := Hid.mk (AtSl.below HA.out hb1)
  have HD1 := Hid.mk (RDep.below HD.out hb1)
  have B1 := B0.trans (hb1.mono B0.size)
  have z1 := hb1.size
  clear hb1 HA HD B0 K1
  have r0 := blk_cell b1 0 (v := .int .i64 0) rfl
  have r1 := blk_cell b1 1 (v := .slice none 0 0) rfl
  have f0 := blk_frozen b1 0
  have f1 := blk_frozen b1 1
  cases hb : impB xs C d with
  | false =>
    have HR : Hid (witB xs C d = false) := by show _ = _; unfold witB; rw [hb]; rfl
    rw [Bool.false_and]
    go_wp2
    refine bodyPost_ret (v := .tuple #[.agg #[.int .i64 0, .slice none 0 0], .bool false]) (by simp [results, Tryd.results20, go_sem, r0, r1]) rfl ⟨TabAns.zero HR.out rfl, ?_⟩
    exact (B1.setCell (by show w.heap.size ≤ w.heap.size + 1; omega) _).setCell (by show w.heap.size ≤ w.heap.size + 1; omega) _
  | true =>
    rw [Bool.true_and]
    cases hv : impV xs d with
    | true =>
      have HR : Hid (witB xs C d = false) := by show _ = _; unfold witB; rw [hb, hv]; rfl
      go_wp2
      refine bodyPost_ret (v := .tuple #[.agg #[.int .i64 0, .slice none 0 0], .bool false]) (by simp [results, Tryd.results20, go_sem, r0, r1]) rfl ⟨TabAns.zero HR.out rfl, ?_⟩
      exact (B1.setCell (by show w.heap.size ≤ w.heap.size + 1; omega) _).setCell (by show w.heap.size ≤ w.heap.size + 1; omega) _
    | false =>
      have hwb : witB xs C d = true := by unfold witB; rw [hb, hv]; rfl
      have hg : goodDeps xs C = true ∧ goodDep C d = true := by unfold impB at hb; simpa using hb
      obtain ⟨hC1, hC6, _⟩ := goodDeps_C hg.1
      obtain ⟨td1, td2⟩ := goodDep_told hC6 hg.2
      obtain ⟨⟨a1, a2, a3, a4⟩, _⟩ := RDep.at_iff HD1.out
      have K2 := Hid.mk (tellingsOf_any a n c xs w1.drew HZ.out hn (Cols.of hg.1) (AtSl.below HA1.out ((Below.refl _ _).drew)))
      have HTD := Hid.mk td1
      have HAT := Hid.mk a3
      have HLT := Hid.mk a1
      have HSX := Hid.mk (Cols.of hg.1).sets
      have HWB := Hid.mk hwb
      obtain ⟨q, hq⟩ : ∃ q : Nat, C = (q : Int) := ⟨C.toNat, by omega⟩
      subst hq
      have hq6 : q ≤ 6 := by omega
      clear r0 r1 f0 f1 hg td1 td2 a1 a3 a4 hwb HD1 HA1 hv hb
      go_wp2_with fail
      refine wp_region_held_drew (S := fun w' => w'.cell? ⟨w.heap.size, 0, none⟩ = some (.slice fa fn fc)) (by kernel_rfl) ?_ (fun hHeld => ?_)
      · (try dsimp only)
        exact q0
      refine wpAnyH_take (i := 0) (oi := ?_) (v := ?_) ?_ (by kernel_rfl) (by kernel_rfl) (by kernel_rfl) ?_ (Or.inl ⟨?_, ?_⟩) (by assumption) ?_
      rotate_left 2
      · (simp only [List.getElem?_toArray, List.getElem?_cons_zero]; rfl)
      · exact fun _ _ _ h => h
      · rfl
      · (intro wS hSw; (try dsimp only at hSw); go_simp; (try with_reducible rfl))
      (try simp only [Act.put, List.setIfInBounds_toArray, List.set_cons_zero, List.set_cons_succ])
      refine wpAnyH_take (i := 2) (oi := ?_) (v := ?_) ?_ (by kernel_rfl) (by kernel_rfl) (by kernel_rfl) ?_ (Or.inl ⟨?_, ?_⟩) (by assumption) ?_
      rotate_left 2
      · (simp only [List.getElem?_toArray, List.getElem?_cons_zero, List.getElem?_cons_succ]; rfl)
      · exact fun _ _ _ h => h
      · rfl
      · (intro wS hSw; (try dsimp only at hSw); go_simp; (try with_reducible rfl))
      (try simp only [Act.put, List.setIfInBounds_toArray, List.set_cons_zero, List.set_cons_succ])
      refine wpAnyH_take (i := 3) (oi := ?_) (v := ?_) ?_ (by kernel_rfl) (by kernel_rfl) (by kernel_rfl) ?_ (Or.inl ⟨?_, ?_⟩) (by assumption) ?_
      rotate_left 2
      · (simp only [List.getElem?_toArray, List.getElem?_cons_zero, List.getElem?_cons_succ]; rfl)
      · exact fun _ _ _ h => h
      · rfl
      · (intro wS hSw; (try dsimp only at hSw); go_simp; (try with_reducible rfl))
      (try simp only [Act.put, List.setIfInBounds_toArray, List.set_cons_zero, List.set_cons_succ])
      refine wpAnyH_ready (rs := [1]) (by kernel_rfl) (by simp) ?_
      refine AllReadyH.cons (o := ?_) ?_ (fun K hK => ?_) AllReadyH.nil
      rotate_left
      · (simp only [List.getElem?_toArray, List.getElem?_cons_zero, List.getElem?_cons_succ]; rfl)
      go_simp
      go_at_call 40
      refine K2.out.mono ?_
      rintro e w2 ⟨r2, d2, rfl, hat2, hb2⟩
      have e0 := cell_later hb2 q0
      have AT2 := Hid.mk hat2
      have BB2 := Hid.mk ((Below.refl w1.heap.size w1).drew.trans hb2)
      have k1 := blk_below b1 BB2.out
      clear hat2 hb2
      (try go_wp2_with fail)
      refine hK.out _ _ ?_ (fun hHeld' => ?_)
      · (try dsimp only)
        exact e0
      clear hK K hHeld
      have hHeld := hHeld'
      clear hHeld'
      (try simp only [Act.put, List.setIfInBounds_toArray, List.set_cons_zero, List.set_cons_succ])
      refine wpAnyH_ready (rs := [4]) (by kernel_rfl) (by simp) ?_
      refine AllReadyH.cons (o := ?_) ?_ (fun K hK => ?_) AllReadyH.nil
      rotate_left
      · (simp only [List.getElem?_toArray, List.getElem?_cons_zero, List.getElem?_cons_succ]; rfl)
      go_simp
      go_at_call 41
      refine (setOf_any fa fn fc d.1 w2 HLT.out a2 HTD.out.in (At.below HAT.out BB2.out)).mono ?_
      rintro e w3 ⟨rfl, rfl⟩
      (try go_wp2_with fail)
      refine hK.out _ _ ?_ (fun hHeld' => ?_)
      · (try dsimp only)
        exact e0
      clear hK K hHeld
      have hHeld := hHeld'
      clear hHeld'
      (try simp only [Act.put, List.setIfInBounds_toArray, List.set_cons_zero, List.set_cons_succ])
      refine wpAnyH_ready (rs := [5]) (by kernel_rfl) (by simp) ?_
      refine AllReadyH.cons (o := ?_) ?_ (fun K hK => ?_) AllReadyH.nil
      rotate_left
      · (simp only [List.getElem?_toArray, List.getElem?_cons_zero, List.getElem?_cons_succ]; rfl)
      go_simp
      go_at_call 39
      refine (closure_any r2 n d2 (dms xs) (mk d.1) w3 (by simp [dms]; exact HZ.out) (by omega) HSX.out HTD.out.lt AT2.out).mono ?_
      rintro e w4 ⟨U, hU, rfl, hb4⟩
      have e0 := cell_later hb4 e0
      have k1 := blk_below k1 hb4
      have BB4 := Hid.mk (BB2.out.trans (hb4.mono BB2.out.size))
      clear hb4
      (try go_wp2_with fail)
      refine hK.out _ _ ?_ (fun hHeld' => ?_)
      · (try dsimp only)
        exact e0
      clear hK K hHeld
      have hHeld := hHeld'
      clear hHeld'
      (try simp only [Act.put, List.setIfInBounds_toArray, List.set_cons_zero, List.set_cons_succ])
      refine wpAnyH_take (i := 6) (oi := ?_) (v := ?_) ?_ (by kernel_rfl) (by kernel_rfl) (by kernel_rfl) ?_ (Or.inl ⟨?_, ?_⟩) (by assumption) ?_
      rotate_left 2
      · (simp only [List.getElem?_toArray, List.getElem?_cons_zero, List.getElem?_cons_succ]; rfl)
      · exact fun _ _ _ h => h
      · rfl
      · (intro wS hSw; (try dsimp only at hSw); go_simp; (try with_reducible rfl))
      (try simp only [Act.put, List.setIfInBounds_toArray, List.set_cons_zero, List.set_cons_succ])
      refine wpAnyH_done (by kernel_rfl) ?_ _
      have HCL := Hid.mk hU
      have hU64 := hU.lt
      have B4 := B1.trans (BB4.out.mono B1.size)
      have z4 := BB4.out.size
      clear hU BB4 BB2 AT2 e0 B1 K2 hHeld
      go_wp2_with fail
      refine (noughts_own q w4 hq6).mono ?_
      rintro e w5 ⟨g5, rfl, ho5, hb5⟩
      have k1 := blk_below k1 hb5
      have B5 := B4.trans (hb5.mono B4.size)
      have z5 := hb5.size
      have l5 := (ho5.lt g5 rfl)
      obtain ⟨X, hX⟩ : ∃ X, X = w5.alloc (.cells #[.slice (some ⟨g5, 0, none⟩) q q] 71) := ⟨_, rfl⟩
      have bX : Below w5.heap.size w5 X := by rw [hX]; exact (Below.refl _ _).alloc (Nat.le_refl _) _
      have zX : w5.heap.size < X.heap.size := by rw [hX]; simp
      have v0 : X.cell? ⟨w5.heap.size, 0, none⟩ = some (.slice (some ⟨g5, 0, none⟩) q q) := by rw [hX]; simp
      have k1 := blk_below k1 bX
      have HO5 := Hid.mk (owns_below ho5 bX)
      have BX := B5.trans (bX.mono B5.size)
      clear ho5 hb5 B4 B5 bX
      obtain ⟨o1, o2, o3⟩ := oth_all q (by omega) U hU64
      go_wp2_with fail
      rw [← hX]
      clear hX
      refine (others_any U q X hU64 hq6).mono ?_
      rintro e w6 ⟨rfl, rfl⟩
      have HTB := Hid.mk (TabIs.below HT.out BX)
      have HO3 := Hid.mk o3
      have HO2 := Hid.mk o2
      clear o2 o3
      go_wp2_with fail
      refine (list_any (oth q U) w6 o1 HTB.out).mono ?_
      rintro e w7 ⟨rl, ml, dl, rfl, hml, hol, hb7⟩
      have k1 := blk_below k1 hb7
      have v0 := cell_later hb7 v0
      have HO7 := Hid.mk (owns_below HO5.out hb7)
      have B7 := BX.trans (hb7.mono BX.size)
      have z7 := hb7.size
      have HML := Hid.mk hml
      have HOL := Hid.mk hol
      have ml6 : ml ≤ 6 := by rw [← hml]; exact bl_len _
      obtain ⟨L, hL⟩ : ∃ L, L = w6.heap.size := ⟨_, rfl⟩
      rw [← hL] at HOL z7 zX
      have HB7 := Hid.mk B7
      have HK1 := Hid.mk k1
      have HV0 := Hid.mk v0
      clear hb7 BX hml hol HO5 HTB hL B7 k1 v0
      go_wp2_with fail
      go_loopw [41] (fun i wr => ∃ k : Nat, k ≤ ml ∧ i = .int .i64 k ∧ wr.ownsRow w4.heap.size 3 1 (.slice (some ⟨g5, 0, none⟩) q q) q ((setAll (List.replicate q 0) ((bl (oth q U)).take k)).map (.int .i64)) ∧ wr.ownsRow L 3 1 (.slice rl ml dl) ml ((bl (oth q U)).map (.int .i64)) ∧ wr.cell? ⟨w5.heap.size, 0, none⟩ = some (.slice (some ⟨g5, 0, none⟩) q q) ∧ wr.heap[w.heap.size + 1]? = some (.cells #[.int .i64 0, .slice none 0 0] 40 (0, 0)) ∧ L ≤ wr.heap.size ∧ Below w.heap.size w wr) (fun i _ => ml - (intOf i).toNat)
      case atStart => exact ⟨0, Nat.zero_le _, rfl, HO7.out, HOL.out, HV0.out, HK1.out, z7, HB7.out⟩
      case round =>
        clear HO7 HOL HV0 HK1 HB7 z7
        obtain ⟨k, hk, rfl, hown, hol, hv0, hk1, zr, hbw⟩ := hrel
        by_cases hlt : k < ml
        · have hat : At wr rl (bl (oth q U)) := At.owned hol
          obtain ⟨b8, off8, rfl, hb8, hc8⟩ := hat.some (by have := HML.out; omega)
          have hcx := hc8 k (by have := HML.out; omega)
          have hmem : (bl (oth q U)).getD k 0 ∈ bl (oth q U) := by simp [List.getD, show k < (bl (oth q U)).length by have := HML.out; omega]
          have hbound := (bl_in hmem).1
          have hless := of_decide_eq_true (List.all_eq_true.1 HO2.out _ hmem)
          have hset := setAll_take (l := List.replicate q 0) (ks := bl (oth q U)) (k := k) (by have := HML.out; omega)
          obtain ⟨y, hy⟩ : ∃ y, y = (bl (oth q U)).getD k 0 := ⟨_, rfl⟩
          rw [← hy] at hcx hbound hless hset
          obtain ⟨j, hj⟩ : ∃ j : Nat, y = (j : Int) := ⟨y.toNat, by omega⟩
          subst hj
          have hjq : j < q := by omega
          rw [show (j : Int).toNat = j from rfl] at hset
          have hlen : ((setAll (List.replicate q 0) ((bl (oth q U)).take k)).map (Value.int .i64)).length = q := by rw [List.length_map, setAll_len, List.length_replicate]
          obtain ⟨u, hu⟩ : ∃ u, ((setAll (List.replicate q 0) ((bl (oth q U)).take k)).map (Value.int .i64))[j]? = some u := ⟨_, List.getElem?_eq_getElem (by omega)⟩
          have c9 : wr.cell? ⟨g5, j, none⟩ = some u := (hown.cellAt j (by omega)).trans hu
          have f9 : wr.frozen? ⟨g5, j, none⟩ = false := hown.frozenAt j
          have hst := (hown.stored j (.int .i64 1)).1
          have hmap : ((setAll (List.replicate q 0) ((bl (oth q U)).take k)).map (Value.int .i64)).set j (.int .i64 1) = (setAll (List.replicate q 0) ((bl (oth q U)).take (k + 1))).map (.int .i64) := by rw [hset, List.map_set]
          rw [hmap] at hst
          have HST := Hid.mk hst
          have HOL' := Hid.mk (ownsRow_setCell_below hol (show (⟨g5, j, none⟩ : Addr).block < L by show g5 < L; omega) (.int .i64 1))
          have HV0' := Hid.mk (keep_far (b' := g5) (o' := j) (u := .int .i64 1) hv0 (by omega))
          have HK1' := Hid.mk (blk_other hk1 (a := ⟨g5, j, none⟩) (by show w.heap.size + 1 ≠ g5; omega) (.int .i64 1))
          have HB' : Hid (Below w.heap.size w (wr.setCell ⟨g5, j, none⟩ (.int .i64 1))) := hbw.setCell (by show w.heap.size ≤ g5; omega) _
          clear hc8 hmem hset hst hmap hu hown hol hk1 hat hlen hy
          go_wp2
          go_roundw
          case rel => exact ⟨k + 1, by omega, by go_num, HST.out, HOL'.out, HV0'.out, HK1'.out, by simp [World.setCell]; omega, HB'.out⟩
          case measure => simp [intOf]; omega
        · obtain rfl : k = ml := by omega
          rw [List.take_of_length_le (by have := HML.out; omega), HO3.out] at hown
          have HO8 := Hid.mk hown
          have HB8 := Hid.mk hbw
          have HK8 := Hid.mk hk1
          have K9 := Hid.mk (noughts_own q wr.drew hq6)
          clear hown hbw hol hk1
          go_wp2_with fail
          refine wp_region_held_drew (S := fun w' => w'.cell? ⟨w5.heap.size, 0, none⟩ = some (.slice (some ⟨g5, 0, none⟩) q q)) (by kernel_rfl) ?_ (fun hHeld => ?_)
          · (try dsimp only)
            exact hv0
          refine wpAnyH_take (i := 0) (oi := ?_) (v := ?_) ?_ (by kernel_rfl) (by kernel_rfl) (by kernel_rfl) ?_ (Or.inl ⟨?_, ?_⟩) (by assumption) ?_
          rotate_left 2
          · (simp only [List.getElem?_toArray, List.getElem?_cons_zero]; rfl)
          · exact fun _ _ _ h => h
          · rfl
          · (intro wS hSw; (try dsimp only at hSw); go_simp; (try with_reducible rfl))
          (try simp only [Act.put, List.setIfInBounds_toArray, List.set_cons_zero, List.set_cons_succ])
          refine wpAnyH_take (i := 3) (oi := ?_) (v := ?_) ?_ (by kernel_rfl) (by kernel_rfl) (by kernel_rfl) ?_ (Or.inl ⟨?_, ?_⟩) (by assumption) ?_
          rotate_left 2
          · (simp only [List.getElem?_toArray, List.getElem?_cons_zero, List.getElem?_cons_succ]; rfl)
          · exact fun _ _ _ h => h
          · rfl
          · (intro wS hSw; (try dsimp only at hSw); go_simp; (try with_reducible rfl))
          (try simp only [Act.put, List.setIfInBounds_toArray, List.set_cons_zero, List.set_cons_succ])
          refine wpAnyH_take (i := 4) (oi := ?_) (v := ?_) ?_ (by kernel_rfl) (by kernel_rfl) (by kernel_rfl) ?_ (Or.inl ⟨?_, ?_⟩) (by assumption) ?_
          rotate_left 2
          · (simp only [List.getElem?_toArray, List.getElem?_cons_zero, List.getElem?_cons_succ]; rfl)
          · exact fun _ _ _ h => h
          · rfl
          · (intro wS hSw; (try dsimp only at hSw); go_simp; (try with_reducible rfl))
          (try simp only [Act.put, List.setIfInBounds_toArray, List.set_cons_zero, List.set_cons_succ])
          refine wpAnyH_ready (rs := [1]) (by kernel_rfl) (by simp) ?_
          refine AllReadyH.cons (o := ?_) ?_ (fun K hK => ?_) AllReadyH.nil
          rotate_left
          · (simp only [List.getElem?_toArray, List.getElem?_cons_zero, List.getElem?_cons_succ]; rfl)
          go_simp
          go_at_call 48
          refine K9.out.mono ?_
          rintro e w9 ⟨g9, rfl, ho9, hb9⟩
          have e0 := cell_later hb9 hv0
          have HO9 := Hid.mk ho9
          have l9 := ho9.lt g9 rfl
          have HS9 := Hid.mk (owns_below HO8.out ((Below.refl wr.heap.size wr).drew.trans hb9))
          have HK9 := Hid.mk (blk_below HK8.out ((Below.refl wr.heap.size wr).drew.trans hb9))
          have HB9 := Hid.mk (HB8.out.drew.trans (hb9.mono HB8.out.size))
          clear ho9 hb9
          (try go_wp2_with fail)
          refine hK.out _ _ ?_ (fun hHeld' => ?_)
          · (try dsimp only)
            exact e0
          clear hK K hHeld
          have hHeld := hHeld'
          clear hHeld'
          (try simp only [Act.put, List.setIfInBounds_toArray, List.set_cons_zero, List.set_cons_succ])
          refine wpAnyH_take (i := 2) (oi := ?_) (v := ?_) ?_ (by kernel_rfl) (by kernel_rfl) (by kernel_rfl) ?_ (Or.inl ⟨?_, ?_⟩) (by assumption) ?_
          rotate_left 2
          · (simp only [List.getElem?_toArray, List.getElem?_cons_zero, List.getElem?_cons_succ]; rfl)
          · exact fun _ _ _ h => h
          · rfl
          · (intro wS hSw; (try dsimp only at hSw); go_simp; (try with_reducible rfl))
          (try simp only [Act.put, List.setIfInBounds_toArray, List.set_cons_zero, List.set_cons_succ])
          refine wpAnyH_ready (rs := [5]) (by kernel_rfl) (by simp) ?_
          refine AllReadyH.cons (o := ?_) ?_ (fun K hK => ?_) AllReadyH.nil
          rotate_left
          · (simp only [List.getElem?_toArray, List.getElem?_cons_zero, List.getElem?_cons_succ]; rfl)
          go_simp
          skip
          (try go_wp2_with fail)
          refine hK.out _ _ ?_ (fun hHeld' => ?_)
          · (try dsimp only)
            exact cell_later ((Below.refl _ _).alloc (Nat.le_refl _) _) e0
          clear hK K hHeld
          have hHeld := hHeld'
          clear hHeld'
          (try simp only [Act.put, List.setIfInBounds_toArray, List.set_cons_zero, List.set_cons_succ])
          refine wpAnyH_take (i := 6) (oi := ?_) (v := ?_) ?_ (by kernel_rfl) (by kernel_rfl) (by kernel_rfl) ?_ (Or.inl ⟨?_, ?_⟩) (by assumption) ?_
          rotate_left 2
          · (simp only [List.getElem?_toArray, List.getElem?_cons_zero, List.getElem?_cons_succ]; rfl)
          · exact fun _ _ _ h => h
          · rfl
          · (intro wS hSw; (try dsimp only at hSw); go_simp; (try with_reducible rfl))
          (try simp only [Act.put, List.setIfInBounds_toArray, List.set_cons_zero, List.set_cons_succ])
          refine wpAnyH_done (by kernel_rfl) ?_ _
          obtain ⟨Y, hY⟩ : ∃ Y, Y = w9.alloc (.cells #[.slice (some ⟨g9, 0, none⟩) q q, .int .i64 1, .slice (some ⟨g5, 0, none⟩) q q, .int .i64 1] 74) := ⟨_, rfl⟩
          have l9' : wr.heap.size ≤ g9 := l9.1
          have hgr : g5 < L := by omega
          have hW2 := own_two (lo := w.heap.size + 2) (te := 74) (owns_mono HO9.out (show w.heap.size + 2 ≤ wr.heap.size by omega)) (owns_mono HS9.out (show w.heap.size + 2 ≤ w4.heap.size by omega)) (by simp) (witRow_len q U) (by omega) (by omega)
          rw [← hY] at hW2
          have bY : Below w9.heap.size w9 Y := by rw [hY]; exact (Below.refl _ _).alloc (Nat.le_refl _) _
          have kY := blk_below HK9.out bY
          have r0 := blk_cell kY 0 (v := .int .i64 0) rfl
          have r1 := blk_cell kY 1 (v := .slice none 0 0) rfl
          have f0 := blk_frozen kY 0
          have f1 := blk_frozen kY 1
          have BY := HB9.out.trans (bY.mono HB9.out.size)
          have zY := BY.size
          obtain ⟨Z, hZ⟩ : ∃ Z, Z = stores Y (w.heap.size + 1) 0 [.int .i64 (q : Nat), .slice (some ⟨w9.heap.size, 0, none⟩) 2 2] := ⟨_, rfl⟩
          have zZ : Z.heap.size = Y.heap.size := by rw [hZ]; exact stores_size _ _ _ _
          have l2 : w.heap.size + 1 < wr.heap.size := by omega
          have hR : TabAns (.returned (.tuple #[.agg #[.int .i64 (q : Nat), .slice (some ⟨w9.heap.size, 0, none⟩) 2 2], .bool true])) Z w.heap.size (witB xs (q : Int) d) (q : Int) (witL xs (q : Int) d) := by
            rw [HWB.out]
            refine ⟨some ⟨w9.heap.size, 0, none⟩, 2, 2, [.slice (some ⟨g9, 0, none⟩) q q, .int .i64 1, .slice (some ⟨g5, 0, none⟩) q q, .int .i64 1], rfl, ?_⟩
            show OwnW Z w.heap.size Z.heap.size _ _ _ _ _ (witL xs (q : Int) d) _
            unfold witL
            rw [HCL.out.clo_eq, show (q : Int).toNat = q from rfl, hZ]
            have h9 := OwnWk.stored (R := w.heap.size + 1) (lo' := w.heap.size) hW2 (by omega) (by omega) (.int .i64 (q : Nat)) (.slice (some ⟨w9.heap.size, 0, none⟩) 2 2)
            exact h9
          have hBZ : Below w.heap.size w Z := by rw [hZ]; exact stores_below _ _ _ _ BY (by omega)
          have HR := Hid.mk hR
          have HBZ := Hid.mk hBZ
          have HZZ := Hid.mk hZ
          rw [← hY]
          clear hR hBZ hZ hY hW2 bY BY HB9 HS9 HO9 HK9
          go_wp2
          refine bodyPost_ret (v := .tuple #[.agg #[.int .i64 (q : Nat), .slice (some ⟨w9.heap.size, 0, none⟩) 2 2], .bool true]) (by simp [results, Tryd.results20, go_sem, r0, r1]) rfl ⟨?_, ?_⟩
          · have h := HR.out
            rw [HZZ.out] at h
            exact h
          · have h := HBZ.out
            rw [HZZ.out] at h
            exact h

end Go.Proofs.YtkcfhlpdenjimaaDoor
