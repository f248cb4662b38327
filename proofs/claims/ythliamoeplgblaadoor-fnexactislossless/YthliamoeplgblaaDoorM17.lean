/- Contracts of impl.startRow, impl.StartTableau. -/
import Derived.Test.YthliamoeplgblaaDoorM15
import Derived.Test.YthliamoeplgblaaDoorM16
import Derived.Test.YthliamoeplgblaaDoorM9
import Derived.Deep.CutBlock
import Derived.Deep.RegionHeld3
namespace Go.Proofs.YthliamoeplgblaaDoor
open Go.RowKit

set_option maxRecDepth 100000 in
set_option maxHeartbeats 4000000 in
theorem startRow_any (i T q : Nat) (w : World) (hi : i < 8) (hT : T < 64) (hq : q ≤ 6) (htab : TabB w) :
    Calls Tryd.prog 24 #[.int .i64 (i : Nat), .int .u64 (T : Nat), .int .i64 (q : Nat)] w fun e w' => ∃ g, e = .returned (.agg #[.slice (some ⟨g, 0, none⟩) q q]) ∧ w'.ownsRow w.heap.size 3 1 (.slice (some ⟨g, 0, none⟩) q q) q ((stRow q T i).map (.int .i64)) ∧ Below w.heap.size w w' := by
  obtain ⟨W, hW⟩ : ∃ W, W = w.alloc (.cells #[.slice none 0 0] 47) := ⟨_, rfl⟩
  have B0 : Below w.heap.size w W := by rw [hW]; exact (Below.refl _ _).alloc (Nat.le_refl _) _
  have zW : w.heap.size < W.heap.size := by rw [hW]; simp
  have k0 : W.heap[w.heap.size]? = some (.cells #[.slice none 0 0] 47 (0, 0)) := by rw [hW]; exact heap_alloc_new _ _
  obtain ⟨o1, o2⟩ := oth_row q (by omega) T hT
  have HO3 := Hid.mk (setN_all i hi q (by omega) T hT)
  have HO2 := Hid.mk o2
  have HT := Hid.mk htab
  clear o2 htab
  go_enter Tryd.func24, Tryd.ntmps24
  go_wp2_with fail
  rw [← hW]
  clear hW
  refine (noughts_own q W hq).mono ?_
  rintro e w5 ⟨g5, rfl, ho5, hb5⟩
  have k1 := blk_below k0 hb5
  have B5 := B0.trans (hb5.mono B0.size)
  have z5 := hb5.size
  have l5 := (ho5.lt g5 rfl)
  obtain ⟨X, hX⟩ : ∃ X, X = w5.alloc (.cells #[.slice (some ⟨g5, 0, none⟩) q q] 47) := ⟨_, rfl⟩
  have bX : Below w5.heap.size w5 X := by rw [hX]; exact (Below.refl _ _).alloc (Nat.le_refl _) _
  have zX : w5.heap.size < X.heap.size := by rw [hX]; simp
  have v0 : X.cell? ⟨w5.heap.size, 0, none⟩ = some (.slice (some ⟨g5, 0, none⟩) q q) := by rw [hX]; simp
  have k1 := blk_below k1 bX
  have HO5 := Hid.mk (owns_below ho5 bX)
  have BX := B5.trans (bX.mono B5.size)
  clear ho5 hb5 B5 bX k0
  go_upto_region 2 with fail
  rw [← hX]
  clear hX
  go_wp2_with fail
  refine (others_any T q X hT hq).mono ?_
  rintro e w6 ⟨rfl, rfl⟩
  have HTB := Hid.mk (TabIs.below HT.out BX)
  go_wp2_with fail
  refine (list_any (oth q T) w6 o1 HTB.out).mono ?_
  rintro e w7 ⟨rl, ml, dl, rfl, hml, hol, hb7⟩
  have k1 := blk_below k1 hb7
  have v0 := cell_later hb7 v0
  have HO7 := Hid.mk (owns_below HO5.out hb7)
  have B7 := BX.trans (hb7.mono BX.size)
  have z7 := hb7.size
  have HML := Hid.mk hml
  have HOL := Hid.mk hol
  have ml6 : ml ≤ 6 := by rw [← hml]; exact bl_len _
  obtain ⟨L, hL⟩ : ∃ L, L = w6.heap.size := ⟨_, rfl⟩
  rw [← hL] at HOL z7 zX
  have HB7 := Hid.mk B7
  have HK1 := Hid.mk k1
  have HV0 := Hid.mk v0
  clear hb7 BX hml hol HO5 HTB hL B7 k1 v0
  go_wp2_with fail
  go_loopw [17] (fun j wr => ∃ k : Nat, k ≤ ml ∧ j = .int .i64 k ∧ wr.ownsRow W.heap.size 3 1 (.slice (some ⟨g5, 0, none⟩) q q) q ((setN i (List.replicate q 0) ((bl (oth q T)).take k)).map (.int .i64)) ∧ wr.ownsRow L 3 1 (.slice rl ml dl) ml ((bl (oth q T)).map (.int .i64)) ∧ wr.cell? ⟨w5.heap.size, 0, none⟩ = some (.slice (some ⟨g5, 0, none⟩) q q) ∧ wr.heap[w.heap.size]? = some (.cells #[.slice none 0 0] 47 (0, 0)) ∧ L ≤ wr.heap.size ∧ Below w.heap.size w wr) (fun j _ => ml - (intOf j).toNat)
  case atStart => exact ⟨0, Nat.zero_le _, rfl, HO7.out, HOL.out, HV0.out, HK1.out, z7, HB7.out⟩
  case round =>
    clear HO7 HOL HV0 HK1 HB7 z7
    obtain ⟨k, hk, rfl, hown, hol, hv0, hk1, zr, hbw⟩ := hrel
    by_cases hlt : k < ml
    · have hat : At wr rl (bl (oth q T)) := At.owned hol
      obtain ⟨b8, off8, rfl, hb8, hc8⟩ := hat.some (by have := HML.out; omega)
      have hcx := hc8 k (by have := HML.out; omega)
      have hmem : (bl (oth q T)).getD k 0 ∈ bl (oth q T) := by simp [List.getD, show k < (bl (oth q T)).length by have := HML.out; omega]
      have hbound := (bl_in hmem).1
      have hless := of_decide_eq_true (List.all_eq_true.1 HO2.out _ hmem)
      have hset := setN_take (i := i) (l := List.replicate q 0) (ks := bl (oth q T)) (k := k) (by have := HML.out; omega)
      obtain ⟨y, hy⟩ : ∃ y, y = (bl (oth q T)).getD k 0 := ⟨_, rfl⟩
      rw [← hy] at hcx hbound hless hset
      obtain ⟨j, hj⟩ : ∃ j : Nat, y = (j : Int) := ⟨y.toNat, by omega⟩
      subst hj
      have hjq : j < q := by omega
      rw [show (j : Int).toNat = j from rfl] at hset
      have hlen : ((setN i (List.replicate q 0) ((bl (oth q T)).take k)).map (Value.int .i64)).length = q := by rw [List.length_map, setN_len, List.length_replicate]
      obtain ⟨u, hu⟩ : ∃ u, ((setN i (List.replicate q 0) ((bl (oth q T)).take k)).map (Value.int .i64))[j]? = some u := ⟨_, List.getElem?_eq_getElem (by omega)⟩
      have c9 : wr.cell? ⟨g5, j, none⟩ = some u := (hown.cellAt j (by omega)).trans hu
      have f9 : wr.frozen? ⟨g5, j, none⟩ = false := hown.frozenAt j
      obtain ⟨V, hV⟩ : ∃ V : Int, V = (i : Int) * 6 + (j : Int) + 1 := ⟨_, rfl⟩
      rw [← hV] at hset
      have hst := (hown.stored j (.int .i64 V)).1
      have hmap : ((setN i (List.replicate q 0) ((bl (oth q T)).take k)).map (Value.int .i64)).set j (.int .i64 V) = (setN i (List.replicate q 0) ((bl (oth q T)).take (k + 1))).map (.int .i64) := by rw [hset, List.map_set]
      rw [hmap] at hst
      have HST := Hid.mk hst
      have HOL' := Hid.mk (ownsRow_setCell_below hol (show (⟨g5, j, none⟩ : Addr).block < L by show g5 < L; omega) (.int .i64 V))
      have HV0' := Hid.mk (keep_far (b' := g5) (o' := j) (u := .int .i64 V) hv0 (by omega))
      have HK1' := Hid.mk (blk_other hk1 (a := ⟨g5, j, none⟩) (by show w.heap.size ≠ g5; omega) (.int .i64 V))
      have HB' : Hid (Below w.heap.size w (wr.setCell ⟨g5, j, none⟩ (.int .i64 V))) := hbw.setCell (by show w.heap.size ≤ g5; omega) _
      have hw1 : IntKind.i64.wrap ((i : Int) * 6) = (i : Int) * 6 := IntWalk.i64_in _ (by omega)
      have hw2 : IntKind.i64.wrap ((i : Int) * 6 + (j : Int)) = (i : Int) * 6 + (j : Int) := IntWalk.i64_in _ (by omega)
      have hw3 : IntKind.i64.wrap ((i : Int) * 6 + (j : Int) + 1) = V := by rw [hV]; exact IntWalk.i64_in _ (by omega)
      clear hc8 hmem hset hst hmap hu hown hol hk1 hat hlen hy
      go_wp2
      (try rw [← hV])
      go_roundw
      case rel => exact ⟨k + 1, by omega, by go_num, HST.out, HOL'.out, HV0'.out, HK1'.out, by simp [World.setCell]; omega, HB'.out⟩
      case measure => simp [intOf]; omega
    · obtain rfl : k = ml := by omega
      rw [List.take_of_length_le (by have := HML.out; omega), HO3.out] at hown
      have HO8 := Hid.mk hown
      have e0 := blk_cell hk1 0 (v := .slice none 0 0) rfl
      have f0 := blk_frozen hk1 0
      clear hown hol hk1
      go_wp2
      refine bodyPost_ret (v := .agg #[.slice (some ⟨g5, 0, none⟩) q q]) (by simp [results, Tryd.results24, go_sem, e0]) rfl ⟨g5, rfl, ?_, ?_⟩
      · exact owns_mono (ownsRow_setCell_below HO8.out (by show w.heap.size < _; omega) _) (by omega)
      · exact hbw.setCell (Nat.le_refl _) _

set_option maxRecDepth 100000 in
set_option maxHeartbeats 8000000 in
theorem implStartTableau (a : Option Addr) (n c : Nat) (zss : List (List Int)) (C : Int) (w : World) (hz : zss.length = n) (hn : n ≤ 9223372036854775807) (ha : AtS w a zss) (htab : TabB w) :
    Calls Tryd.prog 8 #[.slice a n c, .int .i64 C] w fun e w' => TblRet e w' w.heap.size (gpB zss C) (stC zss C) (stL zss C) ∧ Below w.heap.size w w' := by
  obtain ⟨k0, hk0, hx0, hx1, hx2⟩ := info_parts Tryd.infoRow
  obtain ⟨V, hV⟩ : ∃ V, V = w.alloc (.cells #[.int .i64 0, .slice none 0 0] 26) := ⟨_, rfl⟩
  have B0 : Below w.heap.size w V := by rw [hV]; exact (Below.refl _ _).alloc (Nat.le_refl _) _
  have zV : w.heap.size < V.heap.size := by rw [hV]; simp
  have b1 : V.heap[w.heap.size]? = some (.cells #[.int .i64 0, .slice none 0 0] 26 (0, 0)) := by rw [hV]; exact heap_alloc_new _ _
  have K1 := Hid.mk (implGoodParts a n c zss C V hz hn (ha.below B0))
  have HA := Hid.mk ha
  have HZ := Hid.mk hz
  have HTB := Hid.mk htab
  clear ha hz htab
  cases hg : gpB zss C with
  | false =>
    have HG := Hid.mk hg
    unfold stC stL
    rw [HG.out]
    clear hg
    go_enter Tryd.func8, Tryd.ntmps8
    go_wp2_with fail
    rw [← hV]
    clear hV
    refine K1.out.mono ?_
    rintro e w1 ⟨rfl, hb1⟩
    rw [HG.out]
    have B1 := B0.trans (hb1.mono B0.size)
    have q := blk_below b1 hb1
    have e0 := blk_cell q 0 (v := .int .i64 0) rfl
    have e1 := blk_cell q 1 (v := .slice none 0 0) rfl
    have f0 := blk_frozen q 0
    have f1 := blk_frozen q 1
    go_wp2
    refine bodyPost_ret (v := .tuple #[.agg #[.int .i64 0, .slice none 0 0], .bool false]) (by simp [results, Tryd.results8, go_sem, e0, e1]) rfl ⟨⟨none, 0, 0, rfl, RRows.nil _ _⟩, ?_⟩
    exact (B1.setCell (Nat.le_refl _) _).setCell (Nat.le_refl _) _
  | true =>
    have h9 := gpB_C hg
    obtain ⟨q, hq⟩ : ∃ q : Nat, C = (q : Int) := ⟨C.toNat, by omega⟩
    have hq6 : 1 ≤ q ∧ q ≤ 6 := by omega
    have hn8 : 1 ≤ n ∧ n ≤ 8 := by have := HZ.out; omega
    have HPT : Hid (∀ (k : Nat) (p : List Int), zss[k]? = some p → mk p < 64 ∧ ∀ x ∈ p, 0 ≤ x ∧ x < 6) := fun k p hk => ⟨mk_lt h9.1.2 (gpB_part hg hk), ris_in h9.1.2 (gpB_part hg hk)⟩
    have HG := Hid.mk hg
    unfold stC stL
    rw [HG.out]
    simp only [if_true]
    rw [hq]
    rw [hq] at HG K1
    rw [show ((q : Int)).toNat = q by omega]
    rw [show zss.length = n from HZ.out]
    clear hg h9
    subst hq
    go_enter Tryd.func8, Tryd.ntmps8
    go_wp2_with fail
    rw [← hV]
    clear hV
    refine K1.out.mono ?_
    rintro e w1 ⟨rfl, hb1⟩
    rw [HG.out]
    have B1 := B0.trans (hb1.mono B0.size)
    have q1 := blk_below b1 hb1
    have z1 := hb1.size
    obtain ⟨W, hW⟩ : ∃ W, W = w1.alloc (.cells #[.int .i64 (q : Nat), .slice none 0 0] 26) := ⟨_, rfl⟩
    have hbW : Below w1.heap.size w1 W := by rw [hW]; exact (Below.refl _ _).alloc (Nat.le_refl _) _
    have TV : Hid (TbVar W w1.heap.size (w1.heap.size + 1) (q : Nat) none 0 0 (stTo q zss 0) [] (fun _ _ => False)) := by
      have h := TbVar.new w1 (q : Nat)
      rw [← hW] at h
      exact h
    have q2 := blk_below q1 hbW
    have BW := B1.trans (hbW.mono B1.size)
    clear hb1 hbW q1 b1 B1
    go_upto_region 4 with fail
    rw [← hW]
    clear hW
    go_wp2_with fail
    go_loopw [18] (fun j wr => ∃ (k : Nat) (r : Option Addr) (d : Nat) (cells : List Value) (G : Nat → Nat → Prop), k ≤ n ∧ j = .int .i64 k ∧ TbVar wr w1.heap.size (w1.heap.size + 1) (q : Nat) r k d (stTo q zss k) cells G ∧ Below w1.heap.size W wr) (fun j _ => n - (intOf j).toNat)
    case atStart => exact ⟨0, none, 0, [], _, Nat.zero_le _, rfl, TV.out, Below.refl _ _⟩
    case round =>
      clear TV
      obtain ⟨k, r, d, cells, G, hk, rfl, hT, hbw⟩ := hrel
      have zr : w1.heap.size + 1 ≤ wr.heap.size := by have := hT.size; omega
      have Bw : Below w.heap.size w wr := BW.trans (hbw.mono (by omega))
      have q3 : wr.heap[w.heap.size]? = some (.cells #[.int .i64 0, .slice none 0 0] 26 (0, 0)) := (hbw.block _ (by omega)).trans q2
      by_cases hlt : k < n
      · obtain ⟨p, hy⟩ : ∃ p, zss[k]? = some p := ⟨_, List.getElem?_eq_getElem (by have := HZ.out; omega)⟩
        obtain ⟨b, off, a', c', rfl, hcx, hpl, hat⟩ := atS_row (HA.out.below Bw) hy
        obtain ⟨hm64, hin⟩ := HPT.out k p hy
        obtain ⟨m, hm⟩ : ∃ m, p.length = m := ⟨_, rfl⟩
        rw [hm] at hcx hpl
        have hki : (k : Int) < (n : Int) := by omega
        have t1 := hT.cell1
        have KS : Hid (∀ w', Below wr.heap.size wr w' → Calls Tryd.prog 25 #[.slice a' m c'] w' fun e w'' => e = .returned (.int .u64 (mk p : Nat)) ∧ w'' = w') := fun w' h => setOf_any a' m c' p w' hm hpl hin (hat.below h)
        obtain ⟨T, hTT⟩ : ∃ T, mk p = T := ⟨_, rfl⟩
        rw [hTT] at KS hm64
        have KR : Hid (∀ w', Below wr.heap.size wr w' → Calls Tryd.prog 24 #[.int .i64 (k : Nat), .int .u64 (T : Nat), .int .i64 (q : Nat)] w' fun e w'' => ∃ g, e = .returned (.agg #[.slice (some ⟨g, 0, none⟩) q q]) ∧ w''.ownsRow w'.heap.size 3 1 (.slice (some ⟨g, 0, none⟩) q q) q ((stRow q T k).map (.int .i64)) ∧ Below w'.heap.size w' w'') :=
          fun w' h => startRow_any k T q w' (by omega) hm64 hq6.2 (TabIs.below HTB.out (Bw.trans (h.mono Bw.size)))
        have HTK : Hid (stTo q zss (k + 1) = stTo q zss k ++ [stRow q T k]) := by show _ = _; rw [stTo_succ hy, hTT]
        have HT := Hid.mk hT
        have HB := Hid.mk hbw
        clear hy hat hin hm hT hbw q3 Bw hTT hpl
        go_upto_region 7 with fail
        clear hcx
        refine wp_region_held_drew (S := fun w' => True) (by kernel_rfl) ?_ (fun hHeld => ?_)
        · (try dsimp only)
          (try trivial)
        refine wpAnyH_take (i := 0) (oi := ?_) (v := ?_) ?_ (by kernel_rfl) (by kernel_rfl) (by kernel_rfl) ?_ (Or.inl ⟨?_, ?_⟩) (by assumption) ?_
        rotate_left 2
        · (simp only [List.getElem?_toArray, List.getElem?_cons_zero]; rfl)
        · exact fun _ _ _ h => h
        · rfl
        · (intro wS hSw; (try dsimp only at hSw); go_simp; (try with_reducible rfl))
        (try simp only [Act.put, List.setIfInBounds_toArray, List.set_cons_zero, List.set_cons_succ])
        refine wpAnyH_take (i := 2) (oi := ?_) (v := ?_) ?_ (by kernel_rfl) (by kernel_rfl) (by kernel_rfl) ?_ (Or.inl ⟨?_, ?_⟩) (by assumption) ?_
        rotate_left 2
        · (simp only [List.getElem?_toArray, List.getElem?_cons_zero, List.getElem?_cons_succ]; rfl)
        · exact fun _ _ _ h => h
        · rfl
        · (intro wS hSw; (try dsimp only at hSw); go_simp; (try with_reducible rfl))
        (try simp only [Act.put, List.setIfInBounds_toArray, List.set_cons_zero, List.set_cons_succ])
        refine wpAnyH_take (i := 3) (oi := ?_) (v := ?_) ?_ (by kernel_rfl) (by kernel_rfl) (by kernel_rfl) ?_ (Or.inl ⟨?_, ?_⟩) (by assumption) ?_
        rotate_left 2
        · (simp only [List.getElem?_toArray, List.getElem?_cons_zero, List.getElem?_cons_succ]; rfl)
        · exact fun _ _ _ h => h
        · rfl
        · (intro wS hSw; (try dsimp only at hSw); go_simp; (try with_reducible rfl))
        (try simp only [Act.put, List.setIfInBounds_toArray, List.set_cons_zero, List.set_cons_succ])
        refine wpAnyH_take (i := 5) (oi := ?_) (v := ?_) ?_ (by kernel_rfl) (by kernel_rfl) (by kernel_rfl) ?_ (Or.inl ⟨?_, ?_⟩) (by assumption) ?_
        rotate_left 2
        · (simp only [List.getElem?_toArray, List.getElem?_cons_zero, List.getElem?_cons_succ]; rfl)
        · exact fun _ _ _ h => h
        · rfl
        · (intro wS hSw; (try dsimp only at hSw); go_simp; (try with_reducible rfl))
        (try simp only [Act.put, List.setIfInBounds_toArray, List.set_cons_zero, List.set_cons_succ])
        refine wpAnyH_ready (rs := [1, 4]) (by kernel_rfl) (by simp) ?_
        refine AllReadyH.cons (o := ?_) ?_ (fun K hK => ?_) ?_
        rotate_left
        · (simp only [List.getElem?_toArray, List.getElem?_cons_zero, List.getElem?_cons_succ]; rfl)
        · go_simp
          (try go_wp2_with fail)
          refine hK.out _ _ ?_ (fun hHeld' => ?_)
          · (try dsimp only)
            (try trivial)
          clear hK K hHeld
          have hHeld := hHeld'
          clear hHeld'
          (try simp only [Act.put, List.setIfInBounds_toArray, List.set_cons_zero, List.set_cons_succ])
          refine wpAnyH_ready (rs := [4]) (by kernel_rfl) (by simp) ?_
          refine AllReadyH.cons (o := ?_) ?_ (fun K hK => ?_) AllReadyH.nil
          rotate_left
          · (simp only [List.getElem?_toArray, List.getElem?_cons_zero, List.getElem?_cons_succ]; rfl)
          go_simp
          go_at_call 25; refine (KS.out _ (Below.refl _ _).drew).mono ?_; rintro e v1 ⟨rfl, hv1⟩; obtain rfl := hv1.symm
          (try go_wp2_with fail)
          refine hK.out _ _ ?_ (fun hHeld' => ?_)
          · (try dsimp only)
            (try trivial)
          clear hK K hHeld
          have hHeld := hHeld'
          clear hHeld'
          (try simp only [Act.put, List.setIfInBounds_toArray, List.set_cons_zero, List.set_cons_succ])
          refine wpAnyH_ready (rs := [6]) (by kernel_rfl) (by simp) ?_
          refine AllReadyH.cons (o := ?_) ?_ (fun K hK => ?_) AllReadyH.nil
          rotate_left
          · (simp only [List.getElem?_toArray, List.getElem?_cons_zero, List.getElem?_cons_succ]; rfl)
          go_simp
          go_at_call 24; refine (KR.out _ (Below.refl _ _).drew).mono ?_; rintro e w2 ⟨g3, rfl, ho3, hb3⟩; have hb2 : Below wr.heap.size wr w2 := (Below.refl _ _).drew.trans hb3; have u1 := cell_later hb2 t1
          (try go_wp2_with fail)
          refine hK.out _ _ ?_ (fun hHeld' => ?_)
          · (try dsimp only)
            (try trivial)
          clear hK K hHeld
          have hHeld := hHeld'
          clear hHeld'
          (try simp only [Act.put, List.setIfInBounds_toArray, List.set_cons_zero, List.set_cons_succ])
          have HBY := Hid.mk hb2
          have T2 := HT.out.below hb2
          have HW2 := Hid.mk T2.owns
          have HOI : Hid (RInts.Own w2 (From wr.heap.size w2.heap.size) [.slice (some ⟨g3, 0, none⟩) q q] (stRow q T k)) := RInts.of_owns (stRow_len q T k) (by omega) ho3
          have z2 : w1.heap.size + 1 ≤ w2.heap.size := by have := hb2.size; omega
          clear T2
          refine wpAnyH_ready (rs := [7]) (by kernel_rfl) (by simp) ?_
          refine AllReadyH.cons (o := ?_) ?_ (fun K hK => ?_) AllReadyH.nil
          rotate_left
          · (simp only [List.getElem?_toArray, List.getElem?_cons_zero, List.getElem?_cons_succ]; rfl)
          go_simp
          skip
          (try go_wp2_with fail)
          refine hK.out _ _ ?_ (fun hHeld' => ?_)
          · (try dsimp only)
            (try trivial)
          clear hK K hHeld
          have hHeld := hHeld'
          clear hHeld'
          (try simp only [Act.put, List.setIfInBounds_toArray, List.set_cons_zero, List.set_cons_succ])
          refine wpAnyH_ready (rs := [8]) (by kernel_rfl) (by simp) ?_
          refine AllReadyH.cons (o := ?_) ?_ (fun K hK => ?_) AllReadyH.nil
          rotate_left
          · (simp only [List.getElem?_toArray, List.getElem?_cons_zero, List.getElem?_cons_succ]; rfl)
          refine step_append_vals rfl (.tmp 24) (.tmp 30) 24 rfl (w1.heap.size + 1) 47 k0 (.agg #[.slice none 0 0]) 1 24 Tryd.underlying24 hk0 hx0 hx1 hx2 rfl (by decide) (.slice r k d) k cells (by simp [Act.eval]) (HW2.out.alloc _) (some ⟨w2.heap.size, 0, none⟩) 1 1 [.slice (some ⟨g3, 0, none⟩) q q] (by simp [Act.eval]) rfl (fun ad he => by cases he; simpa using news_at w2 #[.slice (some ⟨g3, 0, none⟩) q q] 47) (by simp; rfl) (fun h => by cases h) (by unfold maxLen; omega) (by omega) (by simp; omega) ?_; intro r4 d4 w6 ho4 hg4 ht4; have x1 := (HT.out.at6 HBY.out hg4).1; have x2 := (HT.out.at6 HBY.out hg4).2
          refine hK.out _ _ ?_ (fun hHeld' => ?_)
          · (try dsimp only)
            (try trivial)
          clear hK K hHeld
          have hHeld := hHeld'
          clear hHeld'
          (try simp only [Act.put, List.setIfInBounds_toArray, List.set_cons_zero, List.set_cons_succ])
          refine wpAnyH_take (i := 9) (oi := ?_) (v := ?_) ?_ (by kernel_rfl) (by kernel_rfl) (by kernel_rfl) ?_ (Or.inl ⟨?_, ?_⟩) (by assumption) ?_
          rotate_left 2
          · (simp only [List.getElem?_toArray, List.getElem?_cons_zero, List.getElem?_cons_succ]; rfl)
          · exact fun _ _ _ h => h
          · rfl
          · (intro wS hSw; (try dsimp only at hSw); go_simp; (try with_reducible rfl))
          (try simp only [Act.put, List.setIfInBounds_toArray, List.set_cons_zero, List.set_cons_succ])
          refine wpAnyH_ready (rs := [10]) (by kernel_rfl) (by simp) ?_
          refine AllReadyH.cons (o := ?_) ?_ (fun K hK => ?_) AllReadyH.nil
          rotate_left
          · (simp only [List.getElem?_toArray, List.getElem?_cons_zero, List.getElem?_cons_succ]; rfl)
          go_simp
          skip
          (try go_wp2_with fail)
          refine hK.out _ _ ?_ (fun hHeld' => ?_)
          · (try dsimp only)
            (try trivial)
          clear hK K hHeld
          have hHeld := hHeld'
          clear hHeld'
          (try simp only [Act.put, List.setIfInBounds_toArray, List.set_cons_zero, List.set_cons_succ])
          refine wpAnyH_done (by kernel_rfl) ?_ _
          obtain ⟨G', hT'⟩ := HT.out.pushed zr HBY.out HOI.out ho4 hg4 ht4 (by omega)
          have hB' := HT.out.pushed_below (B := w1.heap.size) (Nat.le_refl _) zr HB.out HBY.out hg4 (.slice r4 (k + 1) d4)
          rw [← HTK.out] at hT'
          have HT' := Hid.mk hT'
          have HB' := Hid.mk hB'
          clear hT' hB' ho4 hg4 ht4 x1 x2 HT HBY HOI HW2 HB u1 ho3 hb2 hb3 t1 hHeld
          go_wp2
          go_roundw
          case rel => exact ⟨k + 1, r4, d4, _, G', by omega, by go_num, HT'.out, HB'.out⟩
          case measure => simp [intOf]; omega
        refine AllReadyH.cons (o := ?_) ?_ (fun K hK => ?_) AllReadyH.nil
        rotate_left
        · (simp only [List.getElem?_toArray, List.getElem?_cons_zero, List.getElem?_cons_succ]; rfl)
        · go_simp
          go_at_call 25; refine (KS.out _ (Below.refl _ _).drew).mono ?_; rintro e v1 ⟨rfl, hv1⟩; obtain rfl := hv1.symm
          (try go_wp2_with fail)
          refine hK.out _ _ ?_ (fun hHeld' => ?_)
          · (try dsimp only)
            (try trivial)
          clear hK K hHeld
          have hHeld := hHeld'
          clear hHeld'
          (try simp only [Act.put, List.setIfInBounds_toArray, List.set_cons_zero, List.set_cons_succ])
          refine wpAnyH_ready (rs := [1, 6]) (by kernel_rfl) (by simp) ?_
          refine AllReadyH.cons (o := ?_) ?_ (fun K hK => ?_) ?_
          rotate_left
          · (simp only [List.getElem?_toArray, List.getElem?_cons_zero, List.getElem?_cons_succ]; rfl)
          · go_simp
            (try go_wp2_with fail)
            refine hK.out _ _ ?_ (fun hHeld' => ?_)
            · (try dsimp only)
              (try trivial)
            clear hK K hHeld
            have hHeld := hHeld'
            clear hHeld'
            (try simp only [Act.put, List.setIfInBounds_toArray, List.set_cons_zero, List.set_cons_succ])
            refine wpAnyH_ready (rs := [6]) (by kernel_rfl) (by simp) ?_
            refine AllReadyH.cons (o := ?_) ?_ (fun K hK => ?_) AllReadyH.nil
            rotate_left
            · (simp only [List.getElem?_toArray, List.getElem?_cons_zero, List.getElem?_cons_succ]; rfl)
            go_simp
            go_at_call 24; refine (KR.out _ (Below.refl _ _).drew).mono ?_; rintro e w2 ⟨g3, rfl, ho3, hb3⟩; have hb2 : Below wr.heap.size wr w2 := (Below.refl _ _).drew.trans hb3; have u1 := cell_later hb2 t1
            (try go_wp2_with fail)
            refine hK.out _ _ ?_ (fun hHeld' => ?_)
            · (try dsimp only)
              (try trivial)
            clear hK K hHeld
            have hHeld := hHeld'
            clear hHeld'
            (try simp only [Act.put, List.setIfInBounds_toArray, List.set_cons_zero, List.set_cons_succ])
            have HBY := Hid.mk hb2
            have T2 := HT.out.below hb2
            have HW2 := Hid.mk T2.owns
            have HOI : Hid (RInts.Own w2 (From wr.heap.size w2.heap.size) [.slice (some ⟨g3, 0, none⟩) q q] (stRow q T k)) := RInts.of_owns (stRow_len q T k) (by omega) ho3
            have z2 : w1.heap.size + 1 ≤ w2.heap.size := by have := hb2.size; omega
            clear T2
            refine wpAnyH_ready (rs := [7]) (by kernel_rfl) (by simp) ?_
            refine AllReadyH.cons (o := ?_) ?_ (fun K hK => ?_) AllReadyH.nil
            rotate_left
            · (simp only [List.getElem?_toArray, List.getElem?_cons_zero, List.getElem?_cons_succ]; rfl)
            go_simp
            skip
            (try go_wp2_with fail)
            refine hK.out _ _ ?_ (fun hHeld' => ?_)
            · (try dsimp only)
              (try trivial)
            clear hK K hHeld
            have hHeld := hHeld'
            clear hHeld'
            (try simp only [Act.put, List.setIfInBounds_toArray, List.set_cons_zero, List.set_cons_succ])
            refine wpAnyH_ready (rs := [8]) (by kernel_rfl) (by simp) ?_
            refine AllReadyH.cons (o := ?_) ?_ (fun K hK => ?_) AllReadyH.nil
            rotate_left
            · (simp only [List.getElem?_toArray, List.getElem?_cons_zero, List.getElem?_cons_succ]; rfl)
            refine step_append_vals rfl (.tmp 24) (.tmp 30) 24 rfl (w1.heap.size + 1) 47 k0 (.agg #[.slice none 0 0]) 1 24 Tryd.underlying24 hk0 hx0 hx1 hx2 rfl (by decide) (.slice r k d) k cells (by simp [Act.eval]) (HW2.out.alloc _) (some ⟨w2.heap.size, 0, none⟩) 1 1 [.slice (some ⟨g3, 0, none⟩) q q] (by simp [Act.eval]) rfl (fun ad he => by cases he; simpa using news_at w2 #[.slice (some ⟨g3, 0, none⟩) q q] 47) (by simp; rfl) (fun h => by cases h) (by unfold maxLen; omega) (by omega) (by simp; omega) ?_; intro r4 d4 w6 ho4 hg4 ht4; have x1 := (HT.out.at6 HBY.out hg4).1; have x2 := (HT.out.at6 HBY.out hg4).2
            refine hK.out _ _ ?_ (fun hHeld' => ?_)
            · (try dsimp only)
              (try trivial)
            clear hK K hHeld
            have hHeld := hHeld'
            clear hHeld'
            (try simp only [Act.put, List.setIfInBounds_toArray, List.set_cons_zero, List.set_cons_succ])
            refine wpAnyH_take (i := 9) (oi := ?_) (v := ?_) ?_ (by kernel_rfl) (by kernel_rfl) (by kernel_rfl) ?_ (Or.inl ⟨?_, ?_⟩) (by assumption) ?_
            rotate_left 2
            · (simp only [List.getElem?_toArray, List.getElem?_cons_zero, List.getElem?_cons_succ]; rfl)
            · exact fun _ _ _ h => h
            · rfl
            · (intro wS hSw; (try dsimp only at hSw); go_simp; (try with_reducible rfl))
            (try simp only [Act.put, List.setIfInBounds_toArray, List.set_cons_zero, List.set_cons_succ])
            refine wpAnyH_ready (rs := [10]) (by kernel_rfl) (by simp) ?_
            refine AllReadyH.cons (o := ?_) ?_ (fun K hK => ?_) AllReadyH.nil
            rotate_left
            · (simp only [List.getElem?_toArray, List.getElem?_cons_zero, List.getElem?_cons_succ]; rfl)
            go_simp
            skip
            (try go_wp2_with fail)
            refine hK.out _ _ ?_ (fun hHeld' => ?_)
            · (try dsimp only)
              (try trivial)
            clear hK K hHeld
            have hHeld := hHeld'
            clear hHeld'
            (try simp only [Act.put, List.setIfInBounds_toArray, List.set_cons_zero, List.set_cons_succ])
            refine wpAnyH_done (by kernel_rfl) ?_ _
            obtain ⟨G', hT'⟩ := HT.out.pushed zr HBY.out HOI.out ho4 hg4 ht4 (by omega)
            have hB' := HT.out.pushed_below (B := w1.heap.size) (Nat.le_refl _) zr HB.out HBY.out hg4 (.slice r4 (k + 1) d4)
            rw [← HTK.out] at hT'
            have HT' := Hid.mk hT'
            have HB' := Hid.mk hB'
            clear hT' hB' ho4 hg4 ht4 x1 x2 HT HBY HOI HW2 HB u1 ho3 hb2 hb3 t1 hHeld
            go_wp2
            go_roundw
            case rel => exact ⟨k + 1, r4, d4, _, G', by omega, by go_num, HT'.out, HB'.out⟩
            case measure => simp [intOf]; omega
          refine AllReadyH.cons (o := ?_) ?_ (fun K hK => ?_) AllReadyH.nil
          rotate_left
          · (simp only [List.getElem?_toArray, List.getElem?_cons_zero, List.getElem?_cons_succ]; rfl)
          · go_simp
            go_at_call 24; refine (KR.out _ (Below.refl _ _).drew).mono ?_; rintro e w2 ⟨g3, rfl, ho3, hb3⟩; have hb2 : Below wr.heap.size wr w2 := (Below.refl _ _).drew.trans hb3; have u1 := cell_later hb2 t1
            (try go_wp2_with fail)
            refine hK.out _ _ ?_ (fun hHeld' => ?_)
            · (try dsimp only)
              (try trivial)
            clear hK K hHeld
            have hHeld := hHeld'
            clear hHeld'
            (try simp only [Act.put, List.setIfInBounds_toArray, List.set_cons_zero, List.set_cons_succ])
            have HBY := Hid.mk hb2
            have T2 := HT.out.below hb2
            have HW2 := Hid.mk T2.owns
            have HOI : Hid (RInts.Own w2 (From wr.heap.size w2.heap.size) [.slice (some ⟨g3, 0, none⟩) q q] (stRow q T k)) := RInts.of_owns (stRow_len q T k) (by omega) ho3
            have z2 : w1.heap.size + 1 ≤ w2.heap.size := by have := hb2.size; omega
            clear T2
            refine wpAnyH_ready (rs := [1, 7]) (by kernel_rfl) (by simp) ?_
            refine AllReadyH.cons (o := ?_) ?_ (fun K hK => ?_) ?_
            rotate_left
            · (simp only [List.getElem?_toArray, List.getElem?_cons_zero, List.getElem?_cons_succ]; rfl)
            · go_simp
              (try go_wp2_with fail)
              refine hK.out _ _ ?_ (fun hHeld' => ?_)
              · (try dsimp only)
                (try trivial)
              clear hK K hHeld
              have hHeld := hHeld'
              clear hHeld'
              (try simp only [Act.put, List.setIfInBounds_toArray, List.set_cons_zero, List.set_cons_succ])
              refine wpAnyH_ready (rs := [7]) (by kernel_rfl) (by simp) ?_
              refine AllReadyH.cons (o := ?_) ?_ (fun K hK => ?_) AllReadyH.nil
              rotate_left
              · (simp only [List.getElem?_toArray, List.getElem?_cons_zero, List.getElem?_cons_succ]; rfl)
              go_simp
              skip
              (try go_wp2_with fail)
              refine hK.out _ _ ?_ (fun hHeld' => ?_)
              · (try dsimp only)
                (try trivial)
              clear hK K hHeld
              have hHeld := hHeld'
              clear hHeld'
              (try simp only [Act.put, List.setIfInBounds_toArray, List.set_cons_zero, List.set_cons_succ])
              refine wpAnyH_ready (rs := [8]) (by kernel_rfl) (by simp) ?_
              refine AllReadyH.cons (o := ?_) ?_ (fun K hK => ?_) AllReadyH.nil
              rotate_left
              · (simp only [List.getElem?_toArray, List.getElem?_cons_zero, List.getElem?_cons_succ]; rfl)
              refine step_append_vals rfl (.tmp 24) (.tmp 30) 24 rfl (w1.heap.size + 1) 47 k0 (.agg #[.slice none 0 0]) 1 24 Tryd.underlying24 hk0 hx0 hx1 hx2 rfl (by decide) (.slice r k d) k cells (by simp [Act.eval]) (HW2.out.alloc _) (some ⟨w2.heap.size, 0, none⟩) 1 1 [.slice (some ⟨g3, 0, none⟩) q q] (by simp [Act.eval]) rfl (fun ad he => by cases he; simpa using news_at w2 #[.slice (some ⟨g3, 0, none⟩) q q] 47) (by simp; rfl) (fun h => by cases h) (by unfold maxLen; omega) (by omega) (by simp; omega) ?_; intro r4 d4 w6 ho4 hg4 ht4; have x1 := (HT.out.at6 HBY.out hg4).1; have x2 := (HT.out.at6 HBY.out hg4).2
              refine hK.out _ _ ?_ (fun hHeld' => ?_)
              · (try dsimp only)
                (try trivial)
              clear hK K hHeld
              have hHeld := hHeld'
              clear hHeld'
              (try simp only [Act.put, List.setIfInBounds_toArray, List.set_cons_zero, List.set_cons_succ])
              refine wpAnyH_take (i := 9) (oi := ?_) (v := ?_) ?_ (by kernel_rfl) (by kernel_rfl) (by kernel_rfl) ?_ (Or.inl ⟨?_, ?_⟩) (by assumption) ?_
              rotate_left 2
              · (simp only [List.getElem?_toArray, List.getElem?_cons_zero, List.getElem?_cons_succ]; rfl)
              · exact fun _ _ _ h => h
              · rfl
              · (intro wS hSw; (try dsimp only at hSw); go_simp; (try with_reducible rfl))
              (try simp only [Act.put, List.setIfInBounds_toArray, List.set_cons_zero, List.set_cons_succ])
              refine wpAnyH_ready (rs := [10]) (by kernel_rfl) (by simp) ?_
              refine AllReadyH.cons (o := ?_) ?_ (fun K hK => ?_) AllReadyH.nil
              rotate_left
              · (simp only [List.getElem?_toArray, List.getElem?_cons_zero, List.getElem?_cons_succ]; rfl)
              go_simp
              skip
              (try go_wp2_with fail)
              refine hK.out _ _ ?_ (fun hHeld' => ?_)
              · (try dsimp only)
                (try trivial)
              clear hK K hHeld
              have hHeld := hHeld'
              clear hHeld'
              (try simp only [Act.put, List.setIfInBounds_toArray, List.set_cons_zero, List.set_cons_succ])
              refine wpAnyH_done (by kernel_rfl) ?_ _
              obtain ⟨G', hT'⟩ := HT.out.pushed zr HBY.out HOI.out ho4 hg4 ht4 (by omega)
              have hB' := HT.out.pushed_below (B := w1.heap.size) (Nat.le_refl _) zr HB.out HBY.out hg4 (.slice r4 (k + 1) d4)
              rw [← HTK.out] at hT'
              have HT' := Hid.mk hT'
              have HB' := Hid.mk hB'
              clear hT' hB' ho4 hg4 ht4 x1 x2 HT HBY HOI HW2 HB u1 ho3 hb2 hb3 t1 hHeld
              go_wp2
              go_roundw
              case rel => exact ⟨k + 1, r4, d4, _, G', by omega, by go_num, HT'.out, HB'.out⟩
              case measure => simp [intOf]; omega
            refine AllReadyH.cons (o := ?_) ?_ (fun K hK => ?_) AllReadyH.nil
            rotate_left
            · (simp only [List.getElem?_toArray, List.getElem?_cons_zero, List.getElem?_cons_succ]; rfl)
            · go_simp
              (try go_wp2_with fail)
              refine hK.out _ _ ?_ (fun hHeld' => ?_)
              · (try dsimp only)
                (try trivial)
              clear hK K hHeld
              have hHeld := hHeld'
              clear hHeld'
              (try simp only [Act.put, List.setIfInBounds_toArray, List.set_cons_zero, List.set_cons_succ])
              have u2 := cell_later ((Below.refl _ _).alloc (Nat.le_refl _) (.cells #[.slice (some ⟨g3, 0, none⟩) q q] 47)) u1
              refine wpAnyH_ready (rs := [1]) (by kernel_rfl) (by simp) ?_
              refine AllReadyH.cons (o := ?_) ?_ (fun K hK => ?_) AllReadyH.nil
              rotate_left
              · (simp only [List.getElem?_toArray, List.getElem?_cons_zero, List.getElem?_cons_succ]; rfl)
              go_simp
              skip
              (try go_wp2_with fail)
              refine hK.out _ _ ?_ (fun hHeld' => ?_)
              · (try dsimp only)
                (try trivial)
              clear hK K hHeld
              have hHeld := hHeld'
              clear hHeld'
              (try simp only [Act.put, List.setIfInBounds_toArray, List.set_cons_zero, List.set_cons_succ])
              refine wpAnyH_ready (rs := [8]) (by kernel_rfl) (by simp) ?_
              refine AllReadyH.cons (o := ?_) ?_ (fun K hK => ?_) AllReadyH.nil
              rotate_left
              · (simp only [List.getElem?_toArray, List.getElem?_cons_zero, List.getElem?_cons_succ]; rfl)
              refine step_append_vals rfl (.tmp 24) (.tmp 30) 24 rfl (w1.heap.size + 1) 47 k0 (.agg #[.slice none 0 0]) 1 24 Tryd.underlying24 hk0 hx0 hx1 hx2 rfl (by decide) (.slice r k d) k cells (by simp [Act.eval]) (HW2.out.alloc _) (some ⟨w2.heap.size, 0, none⟩) 1 1 [.slice (some ⟨g3, 0, none⟩) q q] (by simp [Act.eval]) rfl (fun ad he => by cases he; simpa using news_at w2 #[.slice (some ⟨g3, 0, none⟩) q q] 47) (by simp; rfl) (fun h => by cases h) (by unfold maxLen; omega) (by omega) (by simp; omega) ?_; intro r4 d4 w6 ho4 hg4 ht4; have x1 := (HT.out.at6 HBY.out hg4).1; have x2 := (HT.out.at6 HBY.out hg4).2
              refine hK.out _ _ ?_ (fun hHeld' => ?_)
              · (try dsimp only)
                (try trivial)
              clear hK K hHeld
              have hHeld := hHeld'
              clear hHeld'
              (try simp only [Act.put, List.setIfInBounds_toArray, List.set_cons_zero, List.set_cons_succ])
              refine wpAnyH_take (i := 9) (oi := ?_) (v := ?_) ?_ (by kernel_rfl) (by kernel_rfl) (by kernel_rfl) ?_ (Or.inl ⟨?_, ?_⟩) (by assumption) ?_
              rotate_left 2
              · (simp only [List.getElem?_toArray, List.getElem?_cons_zero, List.getElem?_cons_succ]; rfl)
              · exact fun _ _ _ h => h
              · rfl
              · (intro wS hSw; (try dsimp only at hSw); go_simp; (try with_reducible rfl))
              (try simp only [Act.put, List.setIfInBounds_toArray, List.set_cons_zero, List.set_cons_succ])
              refine wpAnyH_ready (rs := [10]) (by kernel_rfl) (by simp) ?_
              refine AllReadyH.cons (o := ?_) ?_ (fun K hK => ?_) AllReadyH.nil
              rotate_left
              · (simp only [List.getElem?_toArray, List.getElem?_cons_zero, List.getElem?_cons_succ]; rfl)
              go_simp
              skip
              (try go_wp2_with fail)
              refine hK.out _ _ ?_ (fun hHeld' => ?_)
              · (try dsimp only)
                (try trivial)
              clear hK K hHeld
              have hHeld := hHeld'
              clear hHeld'
              (try simp only [Act.put, List.setIfInBounds_toArray, List.set_cons_zero, List.set_cons_succ])
              refine wpAnyH_done (by kernel_rfl) ?_ _
              obtain ⟨G', hT'⟩ := HT.out.pushed zr HBY.out HOI.out ho4 hg4 ht4 (by omega)
              have hB' := HT.out.pushed_below (B := w1.heap.size) (Nat.le_refl _) zr HB.out HBY.out hg4 (.slice r4 (k + 1) d4)
              rw [← HTK.out] at hT'
              have HT' := Hid.mk hT'
              have HB' := Hid.mk hB'
              clear hT' hB' ho4 hg4 ht4 x1 x2 HT HBY HOI HW2 HB u1 ho3 hb2 hb3 t1 hHeld
              go_wp2
              go_roundw
              case rel => exact ⟨k + 1, r4, d4, _, G', by omega, by go_num, HT'.out, HB'.out⟩
              case measure => simp [intOf]; omega
      · obtain rfl : k = n := by omega
        have g0 := hT.cell0
        have g1 := hT.cell1
        have e0 := blk_cell q3 0 (v := .int .i64 0) rfl
        have e1 := blk_cell q3 1 (v := .slice none 0 0) rfl
        have f0 := blk_frozen q3 0
        have f1 := blk_frozen q3 1
        have HO := Hid.mk (hT.own)
        clear hT hbw q2 q3
        go_wp2
        refine bodyPost_ret (v := .tuple #[.agg #[.int .i64 (q : Nat), .slice r k d], .bool true]) (by simp [results, Tryd.results8, go_sem, e0, e1]) rfl ⟨⟨r, k, d, rfl, ?_⟩, ?_⟩
        · refine RRows.mono (RRows.ownOff (RRows.ownOff HO.out (Off.set (F := From 0 w1.heap.size) (a := ⟨w.heap.size, 0, none⟩) ⟨by simp, by show w.heap.size < w1.heap.size; omega⟩ _) (fun b h h' => by have := h.1; have := h'.2; omega)) (Off.set (F := From 0 w1.heap.size) (a := ⟨w.heap.size, 1, none⟩) ⟨by simp, by show w.heap.size < w1.heap.size; omega⟩ _) (fun b h h' => by have := h.1; have := h'.2; omega)) (fun b h => ⟨by have := h.1; omega, by have := h.2; simp only [World.setCell, Array.size_modify]; exact this⟩)
        · exact (Bw.setCell (Nat.le_refl _) _).setCell (Nat.le_refl _) _

end Go.Proofs.YthliamoeplgblaaDoor
