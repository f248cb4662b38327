/- Contract of CoverOf. -/
import Derived.Test.YtjmgjmhoofbpjabDoorCovL
import Derived.Test.YtjmgjmhoofbpjabDoorStepV
import Derived.Test.YtjmgjmhoofbpjabDoorDepT
namespace Go.Proofs.YtjmgjmhoofbpjabDoor
open Go.RowKit

def DepsRet (e : Ending) (w' : World) (lo : Nat) (ok : Bool) (ds : List Dep) : Prop := ∃ r m d, e = .returned (.tuple #[.slice r m d, .bool ok]) ∧ RDeps.Own w' (From lo w'.heap.size) [.slice r m d] ds
theorem DepsRet.none (w : World) (lo : Nat) {ok : Bool} {ds : List Dep} (h1 : ok = false) (h2 : ds = []) : DepsRet (.returned (.tuple #[.slice none 0 0, .bool false])) w lo ok ds := by
  subst h1 h2
  exact ⟨_, 0, 0, rfl, _, 0, 0, [], fun _ _ => False, rfl, Laid.none _ _ _ _⟩
theorem covL_no {l : List Dep} {C : Int} (h : covB l C = false) : covL l C = [] := by unfold covL; rw [h]; rfl
theorem undTake {N : List (Nat × Nat)} {k : Nat} {p : Nat × Nat} (h : N[k]? = some p) : (N.take (k + 1)).map und = (N.take k).map und ++ [und p] := by
  obtain ⟨hk, rfl⟩ := List.getElem?_eq_some_iff.1 h
  rw [List.take_succ_eq_append_getElem hk, List.map_append]; rfl

set_option maxRecDepth 100000 in
set_option maxHeartbeats 8000000 in
theorem implCoverOf (a : Option Addr) (n c : Nat) (xs : List Dep) (C : Int) (w : World) (hz : xs.length = n) (hn : n ≤ 1048576) (ha : AtD w a xs) (htab : TabB w) :
    Calls Tryd.prog 7 #[.slice a n c, .int .i64 C] w fun e w' => DepsRet e w' w.heap.size (covB xs C) (covL xs C) ∧ Below w.heap.size w w' := by
  obtain ⟨i0, hi, hz0, hz1, hz2⟩ := info_parts Tryd.infoDepend
  have HA := Hid.mk ha
  have HZ := Hid.mk hz
  have HTB := Hid.mk htab
  clear ha hz htab
  go_enter Tryd.func7, Tryd.ntmps7
  go_wp2_with fail
  refine (implGoodDepends a n c xs C w HZ.out (by omega) HA.out).mono ?_
  rintro e w1 ⟨rfl, B1⟩
  cases hg1 : goodDeps xs C with
  | false =>
    have HB : Hid (covB xs C = false) := by show _ = _; unfold covB; rw [hg1]; rfl
    go_wp2
    exact bodyPost_ret (v := .tuple #[.slice none 0 0, .bool false]) (by simp [results, Tryd.results7, go_sem]) rfl ⟨DepsRet.none _ _ HB.out (covL_no HB.out), B1⟩
  | true =>
    obtain ⟨hC1, hC6, hx10⟩ := goodDeps_C hg1
    obtain ⟨q, hq⟩ : ∃ q : Nat, C = (q : Int) := ⟨C.toNat, by omega⟩
    have HQ := Hid.mk hq
    have hq6 : q ≤ 6 := by omega
    have hall : ∀ d ∈ xs, ris (q : Int) d.1 = true ∧ ris (q : Int) d.2 = true := by
      rw [hq] at hg1
      simp only [goodDeps, allDep, goodDep, Bool.and_eq_true, decide_eq_true_eq, List.all_eq_true] at hg1
      exact hg1.2.2.2
    have hn10 : n ≤ 10 := by have := HZ.out; omega
    obtain ⟨hlimP, hlenP⟩ := partA_ok hq6 xs hall xs.length (Nat.le_refl _)
    rw [List.take_length] at hlimP hlenP
    have K1 := Hid.mk (partedTo_any a n c xs q w1 HZ.out hn10 hq6 hall (AtSl.below HA.out B1))
    have HLP := Hid.mk hlimP
    have hP60 : (partA xs).length ≤ 60 := by omega
    clear hq hall hlimP hlenP
    go_wp2_with fail
    refine K1.out.mono ?_
    rintro e w2 ⟨r2, m2, d2, rfl, hm2, ho2, hb2⟩
    have B2 := B1.trans (hb2.mono B1.size)
    have hm2' : m2 ≤ 60 := by omega
    have K2 := Hid.mk (withLessFrom_any w1.heap.size r2 m2 d2 (partA xs) q w2 hm2 hm2' hq6 HLP.out ho2 (TabIs.below HTB.out B2))
    have HM2 := Hid.mk hm2
    obtain ⟨hlimL, hlenL⟩ := lessA_ok HLP.out (partA xs).length (Nat.le_refl _)
    rw [hm2] at hlimL hlenL
    have HLL := Hid.mk hlimL
    have HLEL := Hid.mk hlenL
    clear hb2 B1 ho2 hm2 K1 hlimL hlenL
    go_wp2_with fail
    refine K2.out.mono ?_
    rintro e w3 ⟨r3, d3, rfl, ho3, hb3⟩
    have B3 := B2.trans (hb3.mono B2.size)
    have K3 := Hid.mk (withoutImplied_any w2.heap.size r3 m2 d3 (lessA (partA xs) m2) q w3 HLEL.out hm2' hq6 HLL.out ho3)
    have HCM : Hid (dropA (lessA (partA xs) m2) = coverM xs) := by show _ = _; unfold coverM; rw [HM2.out]
    rw [HCM.out] at K3
    have hlimC : Lim q (coverM xs) := by rw [← HCM.out]; exact dropG_lim _ _ _ HLL.out
    have HLC := Hid.mk hlimC
    clear hb3 B2 ho3 K2 hlimC
    go_wp2_with fail
    refine K3.out.mono ?_
    rintro e w4 ⟨r4, m4, d4, rfl, hm4, ho4, hb4⟩
    have B4 := B3.trans (hb4.mono B3.size)
    have HO4 := Hid.mk ho4
    have HM4 := Hid.mk hm4
    have z34 := hb4.size
    have zw3 := B3.size
    clear hb4 B3 K3 ho4 hm4
    by_cases h10 : 10 < m4
    · have h10' : (10 : Int) < (m4 : Int) := by omega
      have HB : Hid (covB xs C = false) := by show _ = _; unfold covB; rw [HM4.out, decide_eq_false (by omega)]; simp
      go_wp2
      exact bodyPost_ret (v := .tuple #[.slice none 0 0, .bool false]) (by simp [results, Tryd.results7, go_sem]) rfl ⟨DepsRet.none _ _ HB.out (covL_no HB.out), B4⟩
    have h10' : ¬ (10 : Int) < (m4 : Int) := by omega
    have HBT : Hid (covB xs C = true) := by show _ = _; unfold covB; rw [HM4.out, hg1, decide_eq_true (by omega)]; rfl
    have HCL : Hid (covL xs C = (coverM xs).map und) := by show _ = _; unfold covL; rw [HBT.out]; rfl
    obtain ⟨N, hN⟩ : ∃ N, coverM xs = N := ⟨_, rfl⟩
    rw [hN] at HO4 HM4 HLC HCL
    obtain ⟨P0, hP0⟩ : ∃ P0, P0 = w4.heap.size := ⟨_, rfl⟩
    have hlt4 : ∀ b, (Value.slice r4 m4 d4).ownBlock = some b → b < P0 := fun b hb => by rw [hP0]; exact (HO4.out.lt b hb).2
    have HLT4 := Hid.mk hlt4
    have zP : w3.heap.size ≤ P0 := by omega
    have HP0 := Hid.mk hP0
    have HB4 := Hid.mk B4
    clear hN hP0 hlt4 B4
    go_wp2_with fail
    go_loopw [7, 23] (fun p i wr => ∃ (k : Nat) (r : Option Addr) (d : Nat) (cells : List Value) (G : Nat → Nat → Prop), k ≤ m4 ∧ i = .int .i64 k ∧ p = .slice r k d ∧ Laid RDep wr (From P0 wr.heap.size) 36 r k d ((N.take k).map und) cells G k ∧ OwnTl wr w3.heap.size r4 m4 d4 N ∧ P0 ≤ wr.heap.size ∧ Below w.heap.size w wr) (fun _ i _ => m4 - (intOf i).toNat)
    case atStart => exact ⟨0, none, 0, [], _, Nat.zero_le _, rfl, rfl, Laid.none _ _ _ _, HO4.out, Nat.le_of_eq HP0.out, HB4.out⟩
    case round =>
      clear HO4 HB4 HP0
      obtain ⟨k, r, d, cells, G, hk, rfl, rfl, hlaid, hown, zr, hbw⟩ := hrel
      by_cases hlt : k < m4
      · obtain ⟨g, rfl, hgl, hgr⟩ := own_some hown (by omega)
        obtain ⟨p, hp⟩ : ∃ p, N[k]? = some p := ⟨_, List.getElem?_eq_getElem (by have := HM4.out; omega)⟩
        obtain ⟨x0, x1⟩ := flatT_at N k p hp
        have c0 : wr.cell? ⟨g, k * 2, none⟩ = some (.int .u64 (p.1 : Nat)) := (hown.cellAt _ (by omega)).trans x0
        have c1 : wr.cell? ⟨g, k * 2 + 1, none⟩ = some (.int .u64 (p.2 : Nat)) := (hown.cellAt _ (by omega)).trans x1
        have hp64 := (HLC.out.sets hq6) p (List.mem_of_getElem? hp)
        have HTK : Hid ((N.take (k + 1)).map und = (N.take k).map und ++ [und p]) := undTake hp
        have HUND : Hid (und p = (bl p.1, bl p.2)) := rfl
        obtain ⟨f, hf⟩ : ∃ f, p.1 = f := ⟨_, rfl⟩
        obtain ⟨t, ht⟩ : ∃ t, p.2 = t := ⟨_, rfl⟩
        rw [hf] at c0 hp64 HUND
        rw [ht] at c1 hp64 HUND
        obtain ⟨W, hW⟩ : ∃ W, W = wr.alloc (.cells #[.int .u64 (f : Nat), .int .u64 (t : Nat)] 46) := ⟨_, rfl⟩
        have bW : Below wr.heap.size wr W := by rw [hW]; exact (Below.refl _ _).alloc (Nat.le_refl _) _
        have zW : wr.heap.size < W.heap.size := by rw [hW]; simp
        have q0 : W.cell? ⟨wr.heap.size, 0, none⟩ = some (.int .u64 (f : Nat)) := by rw [hW]; simp
        have q1 : W.cell? ⟨wr.heap.size, 1, none⟩ = some (.int .u64 (t : Nat)) := by rw [hW]; simp
        have HO := Hid.mk hown
        have HLA := Hid.mk hlaid
        have HB := Hid.mk hbw
        have HBW := Hid.mk bW
        have hki : (k : Int) < (m4 : Int) := by omega
        have hk10 : k < 10 := by omega
        have hf64 := hp64.1
        have ht64 := hp64.2
        have KL1 := Hid.mk (list_any f W.drew hf64 (TabIs.below HTB.out (hbw.trans ((bW.drew).mono hbw.size))))
        have zwr := hbw.size
        clear hown hlaid hbw bW hp x0 x1 hp64 hf ht
        go_wp2_with fail
        rw [← hW]
        clear hW c0 c1

        refine wp_region_held_drew (S := fun w' => w'.cell? ⟨wr.heap.size, 0, none⟩ = some (.int .u64 (f : Nat)) ∧ w'.cell? ⟨wr.heap.size, 1, none⟩ = some (.int .u64 (t : Nat))) (by kernel_rfl) ?_ (fun hHeld => ?_)
        · (try dsimp only)
          exact ⟨q0, q1⟩
        refine wpAnyH_take (i := 0) (oi := ?_) (v := ?_) ?_ (by kernel_rfl) (by kernel_rfl) (by kernel_rfl) ?_ (Or.inl ⟨?_, ?_⟩) (by assumption) ?_
        rotate_left 2
        · (simp only [List.getElem?_toArray, List.getElem?_cons_zero]; rfl)
        · exact fun _ _ _ h => h
        · rfl
        · (intro wS hSw; (try dsimp only at hSw); go_simp; (try with_reducible rfl))
        (try simp only [Act.put, List.setIfInBounds_toArray, List.set_cons_zero, List.set_cons_succ])
        refine wpAnyH_take (i := 1) (oi := ?_) (v := ?_) ?_ (by kernel_rfl) (by kernel_rfl) (by kernel_rfl) ?_ (Or.inl ⟨?_, ?_⟩) (by assumption) ?_
        rotate_left 2
        · (simp only [List.getElem?_toArray, List.getElem?_cons_zero, List.getElem?_cons_succ]; rfl)
        · exact fun _ _ _ h => h
        · rfl
        · (intro wS hSw; (try dsimp only at hSw); go_simp; (try with_reducible rfl))
        (try simp only [Act.put, List.setIfInBounds_toArray, List.set_cons_zero, List.set_cons_succ])
        refine wpAnyH_take (i := 2) (oi := ?_) (v := ?_) ?_ (by kernel_rfl) (by kernel_rfl) (by kernel_rfl) ?_ (Or.inl ⟨?_, ?_⟩) (by assumption) ?_
        rotate_left 2
        · (simp only [List.getElem?_toArray, List.getElem?_cons_zero, List.getElem?_cons_succ]; rfl)
        · exact fun _ _ _ h => h
        · rfl
        · (intro wS hSw; (try dsimp only at hSw); go_simp; (try with_reducible rfl))
        (try simp only [Act.put, List.setIfInBounds_toArray, List.set_cons_zero, List.set_cons_succ])
        refine wpAnyH_take (i := 4) (oi := ?_) (v := ?_) ?_ (by kernel_rfl) (by kernel_rfl) (by kernel_rfl) ?_ (Or.inl ⟨?_, ?_⟩) (by assumption) ?_
        rotate_left 2
        · (simp only [List.getElem?_toArray, List.getElem?_cons_zero, List.getElem?_cons_succ]; rfl)
        · exact fun _ _ _ h => h
        · rfl
        · (intro wS hSw; (try dsimp only at hSw); go_simp; (try with_reducible rfl))
        (try simp only [Act.put, List.setIfInBounds_toArray, List.set_cons_zero, List.set_cons_succ])
        refine wpAnyH_take (i := 5) (oi := ?_) (v := ?_) ?_ (by kernel_rfl) (by kernel_rfl) (by kernel_rfl) ?_ (Or.inl ⟨?_, ?_⟩) (by assumption) ?_
        rotate_left 2
        · (simp only [List.getElem?_toArray, List.getElem?_cons_zero, List.getElem?_cons_succ]; rfl)
        · exact fun _ _ _ h => h
        · rfl
        · (intro wS hSw; (try dsimp only at hSw); go_simp; (try with_reducible rfl))
        (try simp only [Act.put, List.setIfInBounds_toArray, List.set_cons_zero, List.set_cons_succ])
        refine wpAnyH_ready (rs := [3]) (by kernel_rfl) (by simp) ?_
        refine AllReadyH.cons (o := ?_) ?_ (fun K hK => ?_) AllReadyH.nil
        rotate_left
        · (simp only [List.getElem?_toArray, List.getElem?_cons_zero, List.getElem?_cons_succ]; rfl)
        go_simp
        go_at_call 20
        refine KL1.out.mono ?_
        rintro e w5 ⟨r5, m5, d5, rfl, hm5, ho5, hb5⟩
        have e0 := cell_later hb5 q0
        have e1 := cell_later hb5 q1
        have HO5 := Hid.mk ho5
        have HM5 := Hid.mk hm5
        have BW5 : Below W.heap.size W w5 := (Below.refl _ _).drew.trans hb5
        have HB5 := Hid.mk (HBW.out.trans (BW5.mono HBW.out.size))
        have z5 := BW5.size
        clear ho5 hm5 hb5
        (try go_wp2_with fail)
        refine hK.out _ _ ?_ (fun hHeld' => ?_)
        · (try dsimp only)
          exact ⟨e0, e1⟩
        clear hK K hHeld
        have hHeld := hHeld'
        clear hHeld'
        (try simp only [Act.put, List.setIfInBounds_toArray, List.set_cons_zero, List.set_cons_succ])
        refine wpAnyH_ready (rs := [6]) (by kernel_rfl) (by simp) ?_
        refine AllReadyH.cons (o := ?_) ?_ (fun K hK => ?_) AllReadyH.nil
        rotate_left
        · (simp only [List.getElem?_toArray, List.getElem?_cons_zero, List.getElem?_cons_succ]; rfl)
        go_simp
        go_at_call 20
        refine (list_any t w5 ht64 (TabIs.below HTB.out (HB.out.trans (HB5.out.mono HB.out.size)))).mono ?_
        rintro e w6 ⟨r6, m6, d6, rfl, hm6, ho6, hb6⟩
        have e0 := cell_later hb6 e0
        have e1 := cell_later hb6 e1
        have HO6 := Hid.mk ho6
        have HM6 := Hid.mk hm6
        have HR5 := Hid.mk (show RInts.Own w6 (From W.heap.size w5.heap.size) [.slice r5 m5 d5] (bl f) from RInts.ownBelow (RInts.of_owns HM5.out (by have h1 := HM5.out; have h2 := bl_len f; omega) HO5.out) hb6)
        have HB6 := Hid.mk (HB5.out.trans (hb6.mono HB5.out.size))
        have z6 := hb6.size
        clear ho6 hm6 hb6
        (try go_wp2_with fail)
        refine hK.out _ _ ?_ (fun hHeld' => ?_)
        · (try dsimp only)
          exact ⟨e0, e1⟩
        clear hK K hHeld
        have hHeld := hHeld'
        clear hHeld'
        (try simp only [Act.put, List.setIfInBounds_toArray, List.set_cons_zero, List.set_cons_succ])
        refine wpAnyH_take (i := 7) (oi := ?_) (v := ?_) ?_ (by kernel_rfl) (by kernel_rfl) (by kernel_rfl) ?_ (Or.inl ⟨?_, ?_⟩) (by assumption) ?_
        rotate_left 2
        · (simp only [List.getElem?_toArray, List.getElem?_cons_zero, List.getElem?_cons_succ]; rfl)
        · exact fun _ _ _ h => h
        · rfl
        · (intro wS hSw; (try dsimp only at hSw); go_simp; (try with_reducible rfl))
        (try simp only [Act.put, List.setIfInBounds_toArray, List.set_cons_zero, List.set_cons_succ])
        refine wpAnyH_ready (rs := [8]) (by kernel_rfl) (by simp) ?_
        refine AllReadyH.cons (o := ?_) ?_ (fun K hK => ?_) AllReadyH.nil
        rotate_left
        · (simp only [List.getElem?_toArray, List.getElem?_cons_zero, List.getElem?_cons_succ]; rfl)
        go_simp
        skip
        (try go_wp2_with fail)
        refine hK.out _ _ ?_ (fun hHeld' => ?_)
        · (try dsimp only)
          exact ⟨cell_later ((Below.refl _ _).alloc (Nat.le_refl _) _) e0, cell_later ((Below.refl _ _).alloc (Nat.le_refl _) _) e1⟩
        clear hK K hHeld
        have hHeld := hHeld'
        clear hHeld'
        (try simp only [Act.put, List.setIfInBounds_toArray, List.set_cons_zero, List.set_cons_succ])
        have howr : wr.ownsRow P0 36 2 (.slice r k d) k cells := owns_base HLA.out.outer (fun b hb => (HLA.out.outerF b hb).1)
        refine wpAnyH_ready (rs := [9]) (by kernel_rfl) (by simp) ?_
        refine AllReadyH.cons (o := ?_) ?_ (fun K hK => ?_) AllReadyH.nil
        rotate_left
        · (simp only [List.getElem?_toArray, List.getElem?_cons_zero, List.getElem?_cons_succ]; rfl)
        refine step_append_vals rfl (.tmp 27) (.tmp 35) 24 rfl P0 36 i0 (.agg #[.slice none 0 0, .slice none 0 0]) 2 48 Tryd.underlying24 hi hz0 hz1 hz2 rfl (by decide) (.slice r k d) k cells (by simp [Act.eval]) ((owns_below howr HB6.out).alloc _) (some ⟨w6.heap.size, 0, none⟩) 1 1 [.slice r5 m5 d5, .slice r6 m6 d6] (by simp [Act.eval]) rfl (fun ad he => by cases he; exact news_at w6 #[.slice r5 m5 d5, .slice r6 m6 d6] 36) (by intro u hu; simp at hu; rcases hu with rfl | rfl <;> rfl) (fun h => by cases h) (by unfold maxLen; omega) (by omega) (by simp; omega) ?_
        intro r7 d7 w7 ho7 hg7 ht7
        have hfar : ∀ b, b < w6.heap.size → (Value.slice r k d).ownBlock ≠ some b → w7.heap[b]? = w6.heap[b]? := fun b hb hn => (hg7.block b (by simp; omega) (fun e => hn e.symm)).trans (Below.heap_alloc w6 _ b hb)
        have e0 := (World.cell?_of_block (hfar wr.heap.size (by omega) (fun e => by have := (howr.lt _ e).2; omega))).trans e0
        have e1 := (World.cell?_of_block (hfar wr.heap.size (by omega) (fun e => by have := (howr.lt _ e).2; omega))).trans e1
        refine hK.out _ _ ?_ (fun hHeld' => ?_)
        · (try dsimp only)
          exact ⟨e0, e1⟩
        clear hK K hHeld
        have hHeld := hHeld'
        clear hHeld'
        (try simp only [Act.put, List.setIfInBounds_toArray, List.set_cons_zero, List.set_cons_succ])
        refine wpAnyH_take (i := 10) (oi := ?_) (v := ?_) ?_ (by kernel_rfl) (by kernel_rfl) (by kernel_rfl) ?_ (Or.inl ⟨?_, ?_⟩) (by assumption) ?_
        rotate_left 2
        · (simp only [List.getElem?_toArray, List.getElem?_cons_zero, List.getElem?_cons_succ]; rfl)
        · exact fun _ _ _ h => h
        · rfl
        · (intro wS hSw; (try dsimp only at hSw); go_simp; (try with_reducible rfl))
        (try simp only [Act.put, List.setIfInBounds_toArray, List.set_cons_zero, List.set_cons_succ])
        refine wpAnyH_done (by kernel_rfl) ?_ _
        have z7 : w6.heap.size < w7.heap.size := by have h9 := hg7.size; simp at h9; omega
        have hRD : RDep.Own w6 (From wr.heap.size w6.heap.size) [.slice r5 m5 d5, .slice r6 m6 d6] (und p) := by
          rw [HUND.out]
          exact RDep.own_mk HR5.out (RInts.of_owns HM6.out (by have h1 := HM6.out; have h2 := bl_len t; omega) HO6.out)
            (fun b h => ⟨by have h1 := h.1; omega, by have h1 := h.2; omega⟩) (fun b h => ⟨by have h1 := h.1; omega, h.2⟩)
            (fun b h1 h2 => by have h3 := h1.2; have h4 := h2.1; omega)
        have hpush := HLA.out.push (F' := From P0 w7.heap.size) (fun b h => h.2) HB6.out hRD (fun b h => h) hfar (owns_mono ho7 (Nat.zero_le _)) (by
          rcases ht7 with h9 | h9
          · exact .inl h9
          · refine .inr (fun b e => ?_)
            rw [h9] at e
            simp at e
            omega) (by omega) (fun b h => ⟨h.1, by have := h.2; omega⟩) (fun b h => ⟨by have := h.1; omega, by have := h.2; omega⟩) (fun b h => ho7.lt b h)
        obtain ⟨G', HL'⟩ : ∃ G', Hid (Laid RDep w7 (From P0 w7.heap.size) 36 r7 (k + 1) d7 ((N.take (k + 1)).map und) (cells ++ [.slice r5 m5 d5, .slice r6 m6 d6]) G' (k + 1)) := by
          rw [HTK.out]
          exact ⟨_, Hid.mk hpush⟩
        have HO7 : Hid (OwnTl w7 w3.heap.size (some ⟨g, 0, none⟩) m4 d4 N) := ownsRow_frame (owns_below HO.out HB6.out) (fun b hb hl => hfar b hl (fun e => by have h1 := (howr.lt b e).1; have h2 := HLT4.out b hb; omega))
        have HB7 : Hid (Below w.heap.size w w7) := ((HB.out.trans (HB6.out.mono HB.out.size)).alloc (by omega) _).grown hg7 (by simp; omega) (fun j hj => by have := (howr.lt j hj).1; omega)
        clear hpush hRD hfar ho7 hg7 ht7 howr HLA HO HB HB6 HB5 HR5 HO6 HO5 hHeld
        go_wp2
        go_roundw
        case rel => exact ⟨k + 1, r7, d7, _, G', by omega, by go_num, rfl, HL'.out, HO7.out, by omega, HB7.out⟩
        case measure => simp [intOf]; omega
      · obtain rfl : k = m4 := by omega
        rw [List.take_of_length_le (by have := HM4.out; omega), ← HCL.out] at hlaid
        have HR : Hid (DepsRet (.returned (.tuple #[.slice r k d, .bool true])) wr w.heap.size (covB xs C) (covL xs C)) := by
          show DepsRet _ _ _ _ _
          rw [HBT.out]
          exact ⟨r, k, d, rfl, r, k, d, cells, G, rfl, hlaid.mono (fun b h => ⟨by have := h.1; omega, h.2⟩)⟩
        have hki : ¬ (k : Int) < (k : Int) := by omega
        clear hlaid hown
        go_wp2
        exact bodyPost_ret (v := .tuple #[.slice r k d, .bool true]) (by simp [results, Tryd.results7, go_sem]) rfl ⟨HR.out, hbw⟩

end Go.Proofs.YtjmgjmhoofbpjabDoor
