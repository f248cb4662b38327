/- Several texts of one proof, in build order: DpO, CovM, CovR, StepW. -/
import Derived.Test.YtkcfhlpdenjimaaDoorM8
import Derived.Test.YtkcfhlpdenjimaaDoorM11
import Derived.Test.YtkcfhlpdenjimaaDoorM9

/- Contract of dependsOf. -/
namespace Go.Proofs.YtkcfhlpdenjimaaDoor
open Go.RowKit

set_option maxRecDepth 100000 in
set_option maxHeartbeats 8000000 in
theorem dependsOf_any (base : Nat) (r4 : Option Addr) (m4 d4 : Nat) (N : List (Nat × Nat)) (w : World) (hm : N.length = m4) (hs : Sets N) (ho : OwnTl w base r4 m4 d4 N) (htab : TabB w) :
    Calls Tryd.prog 59 #[.slice r4 m4 d4] w fun e w' => DepsRet e w' w.heap.size (decide (N.length ≤ 10)) (if N.length ≤ 10 then N.map und else []) ∧ Below w.heap.size w w' := by
  obtain ⟨i0, hi, hz0, hz1, hz2⟩ := info_parts Tryd.infoDepend
  have HM4 := Hid.mk hm
  have HSN := Hid.mk hs
  have HO4 := Hid.mk ho
  have HTB := Hid.mk htab
  obtain ⟨ok, hok⟩ : ∃ ok, decide (N.length ≤ 10) = ok := ⟨_, rfl⟩
  obtain ⟨L, hL⟩ : ∃ L, (if N.length ≤ 10 then N.map und else []) = L := ⟨_, rfl⟩
  rw [hok, hL]
  have HOK := Hid.mk hok
  have HL := Hid.mk hL
  clear hm hs ho htab hok hL
  go_enter Tryd.func59, Tryd.ntmps59
  by_cases h10 : 10 < m4
  · have h10' : (10 : Int) < (m4 : Int) := by omega
    have HB : Hid (ok = false) := HOK.out.symm.trans (decide_eq_false (by have := HM4.out; omega))
    have HC : Hid (L = []) := HL.out.symm.trans (if_neg (by have := HM4.out; omega))
    go_wp2
    exact bodyPost_ret (v := .tuple #[.slice none 0 0, .bool false]) (by simp [results, Tryd.results59, go_sem]) rfl ⟨DepsRet.none _ _ HB.out HC.out, Below.refl _ _⟩
  have h10' : ¬ (10 : Int) < (m4 : Int) := by omega
  have HBT : Hid (ok = true) := HOK.out.symm.trans (decide_eq_true (by have := HM4.out; omega))
  have HCL : Hid (L = N.map und) := HL.out.symm.trans (if_pos (by have := HM4.out; omega))
  obtain ⟨P0, hP0⟩ : ∃ P0, P0 = w.heap.size := ⟨_, rfl⟩
  have hlt4 : ∀ b, (Value.slice r4 m4 d4).ownBlock = some b → b < P0 := fun b hb => by rw [hP0]; exact (HO4.out.lt b hb).2
  have HLT4 := Hid.mk hlt4
  have zP : w.heap.size ≤ P0 := by omega
  have HP0 := Hid.mk hP0
  have HB4 := Hid.mk (Below.refl w.heap.size w)
  clear hP0 hlt4
  go_wp2_with fail
  go_loopw [4, 12] (fun p i wr => ∃ (k : Nat) (r : Option Addr) (d : Nat) (cells : List Value) (G : Nat → Nat → Prop), k ≤ m4 ∧ i = .int .i64 k ∧ p = .slice r k d ∧ Laid RDep wr (From P0 wr.heap.size) 43 r k d ((N.take k).map und) cells G k ∧ OwnTl wr base r4 m4 d4 N ∧ P0 ≤ wr.heap.size ∧ Below w.heap.size w wr) (fun _ i _ => m4 - (intOf i).toNat)
  case atStart => exact ⟨0, none, 0, [], _, Nat.zero_le _, rfl, rfl, Laid.none _ _ _ _, HO4.out, Nat.le_of_eq HP0.out, HB4.out⟩
  case round =>
    clear HO4 HB4 HP0
    obtain ⟨k, r, d, cells, G, hk, rfl, rfl, hlaid, hown, zr, hbw⟩ := hrel
    by_cases hlt : k < m4
    · obtain ⟨g, rfl, hgl, hgr⟩ := own_some hown (by omega)
      obtain ⟨p, hp⟩ : ∃ p, N[k]? = some p := ⟨_, List.getElem?_eq_getElem (by have := HM4.out; omega)⟩
      obtain ⟨x0, x1⟩ := flatT_at N k p hp
      have c0 : wr.cell? ⟨g, k * 2, none⟩ = some (.int .u64 (p.1 : Nat)) := (hown.cellAt _ (by omega)).trans x0
      have c1 : wr.cell? ⟨g, k * 2 + 1, none⟩ = some (.int .u64 (p.2 : Nat)) := (hown.cellAt _ (by omega)).trans x1
      have hp64 := HSN.out p (List.mem_of_getElem? hp)
      have HTK : Hid ((N.take (k + 1)).map und = (N.take k).map und ++ [und p]) := undTake hp
      have HUND : Hid (und p = (bl p.1, bl p.2)) := rfl
      obtain ⟨f, hf⟩ : ∃ f, p.1 = f := ⟨_, rfl⟩
      obtain ⟨t, ht⟩ : ∃ t, p.2 = t := ⟨_, rfl⟩
      rw [hf] at c0 hp64 HUND
      rw [ht] at c1 hp64 HUND
      obtain ⟨W, hW⟩ : ∃ W, W = wr.alloc (.cells #[.int .u64 (f : Nat), .int .u64 (t : Nat)] 92) := ⟨_, rfl⟩
      have bW : Below wr.heap.size wr W := by rw [hW]; exact (Below.refl _ _).alloc (Nat.le_refl _) _
      have zW : wr.heap.size < W.heap.size := by rw [hW]; simp
      have q0 : W.cell? ⟨wr.heap.size, 0, none⟩ = some (.int .u64 (f : Nat)) := by rw [hW]; simp
      have q1 : W.cell? ⟨wr.heap.size, 1, none⟩ = some (.int .u64 (t : Nat)) := by rw [hW]; simp
      have HO := Hid.mk hown
      have HLA := Hid.mk hlaid
      have HB := Hid.mk hbw
      have HBW := Hid.mk bW
      have hki : (k : Int) < (m4 : Int) := by omega
      have hk10 : k < 10 := by omega
      have hf64 := hp64.1
      have ht64 := hp64.2
      have KL1 := Hid.mk (list_any f W.drew hf64 (TabIs.below HTB.out (hbw.trans ((bW.drew).mono hbw.size))))
      have zwr := hbw.size
      clear hown hlaid hbw bW hp x0 x1 hp64 hf ht
      go_wp2_with fail
      rw [← hW]
      clear hW c0 c1

      refine wp_region_held_drew (S := fun w' => w'.cell? ⟨wr.heap.size, 0, none⟩ = some (.int .u64 (f : Nat)) ∧ w'.cell? ⟨wr.heap.size, 1, none⟩ = some (.int .u64 (t : Nat))) (by kernel_rfl) ?_ (fun hHeld => ?_)
      · (try dsimp only)
        exact ⟨q0, q1⟩
      refine wpAnyH_take (i := 0) (oi := ?_) (v := ?_) ?_ (by kernel_rfl) (by kernel_rfl) (by kernel_rfl) ?_ (Or.inl ⟨?_, ?_⟩) (by assumption) ?_
      rotate_left 2
      · (simp only [List.getElem?_toArray, List.getElem?_cons_zero]; rfl)
      · exact fun _ _ _ h => h
      · rfl
      · (intro wS hSw; (try dsimp only at hSw); go_simp; (try with_reducible rfl))
      (try simp only [Act.put, List.setIfInBounds_toArray, List.set_cons_zero, List.set_cons_succ])
      refine wpAnyH_take (i := 1) (oi := ?_) (v := ?_) ?_ (by kernel_rfl) (by kernel_rfl) (by kernel_rfl) ?_ (Or.inl ⟨?_, ?_⟩) (by assumption) ?_
      rotate_left 2
      · (simp only [List.getElem?_toArray, List.getElem?_cons_zero, List.getElem?_cons_succ]; rfl)
      · exact fun _ _ _ h => h
      · rfl
      · (intro wS hSw; (try dsimp only at hSw); go_simp; (try with_reducible rfl))
      (try simp only [Act.put, List.setIfInBounds_toArray, List.set_cons_zero, List.set_cons_succ])
      refine wpAnyH_take (i := 2) (oi := ?_) (v := ?_) ?_ (by kernel_rfl) (by kernel_rfl) (by kernel_rfl) ?_ (Or.inl ⟨?_, ?_⟩) (by assumption) ?_
      rotate_left 2
      · (simp only [List.getElem?_toArray, List.getElem?_cons_zero, List.getElem?_cons_succ]; rfl)
      · exact fun _ _ _ h => h
      · rfl
      · (intro wS hSw; (try dsimp only at hSw); go_simp; (try with_reducible rfl))
      (try simp only [Act.put, List.setIfInBounds_toArray, List.set_cons_zero, List.set_cons_succ])
      refine wpAnyH_take (i := 4) (oi := ?_) (v := ?_) ?_ (by kernel_rfl) (by kernel_rfl) (by kernel_rfl) ?_ (Or.inl ⟨?_, ?_⟩) (by assumption) ?_
      rotate_left 2
      · (simp only [List.getElem?_toArray, List.getElem?_cons_zero, List.getElem?_cons_succ]; rfl)
      · exact fun _ _ _ h => h
      · rfl
      · (intro wS hSw; (try dsimp only at hSw); go_simp; (try with_reducible rfl))
      (try simp only [Act.put, List.setIfInBounds_toArray, List.set_cons_zero, List.set_cons_succ])
      refine wpAnyH_take (i := 5) (oi := ?_) (v := ?_) ?_ (by kernel_rfl) (by kernel_rfl) (by kernel_rfl) ?_ (Or.inl ⟨?_, ?_⟩) (by assumption) ?_
      rotate_left 2
      · (simp only [List.getElem?_toArray, List.getElem?_cons_zero, List.getElem?_cons_succ]; rfl)
      · exact fun _ _ _ h => h
      · rfl
      · (intro wS hSw; (try dsimp only at hSw); go_simp; (try with_reducible rfl))
      (try simp only [Act.put, List.setIfInBounds_toArray, List.set_cons_zero, List.set_cons_succ])
      refine wpAnyH_ready (rs := [3]) (by kernel_rfl) (by simp) ?_
      refine AllReadyH.cons (o := ?_) ?_ (fun K hK => ?_) AllReadyH.nil
      rotate_left
      · (simp only [List.getElem?_toArray, List.getElem?_cons_zero, List.getElem?_cons_succ]; rfl)
      go_simp
      go_at_call 42
      refine KL1.out.mono ?_
      rintro e w5 ⟨r5, m5, d5, rfl, hm5, ho5, hb5⟩
      have e0 := cell_later hb5 q0
      have e1 := cell_later hb5 q1
      have HO5 := Hid.mk ho5
      have HM5 := Hid.mk hm5
      have BW5 : Below W.heap.size W w5 := (Below.refl _ _).drew.trans hb5
      have HB5 := Hid.mk (HBW.out.trans (BW5.mono HBW.out.size))
      have z5 := BW5.size
      clear ho5 hm5 hb5
      (try go_wp2_with fail)
      refine hK.out _ _ ?_ (fun hHeld' => ?_)
      · (try dsimp only)
        exact ⟨e0, e1⟩
      clear hK K hHeld
      have hHeld := hHeld'
      clear hHeld'
      (try simp only [Act.put, List.setIfInBounds_toArray, List.set_cons_zero, List.set_cons_succ])
      refine wpAnyH_ready (rs := [6]) (by kernel_rfl) (by simp) ?_
      refine AllReadyH.cons (o := ?_) ?_ (fun K hK => ?_) AllReadyH.nil
      rotate_left
      · (simp only [List.getElem?_toArray, List.getElem?_cons_zero, List.getElem?_cons_succ]; rfl)
      go_simp
      go_at_call 42
      refine (list_any t w5 ht64 (TabIs.below HTB.out (HB.out.trans (HB5.out.mono HB.out.size)))).mono ?_
      rintro e w6 ⟨r6, m6, d6, rfl, hm6, ho6, hb6⟩
      have e0 := cell_later hb6 e0
      have e1 := cell_later hb6 e1
      have HO6 := Hid.mk ho6
      have HM6 := Hid.mk hm6
      have HR5 := Hid.mk (show RInts.Own w6 (From W.heap.size w5.heap.size) [.slice r5 m5 d5] (bl f) from RInts.ownBelow (RInts.of_owns HM5.out (by have h1 := HM5.out; have h2 := bl_len f; omega) HO5.out) hb6)
      have HB6 := Hid.mk (HB5.out.trans (hb6.mono HB5.out.size))
      have z6 := hb6.size
      clear ho6 hm6 hb6
      (try go_wp2_with fail)
      refine hK.out _ _ ?_ (fun hHeld' => ?_)
      · (try dsimp only)
        exact ⟨e0, e1⟩
      clear hK K hHeld
      have hHeld := hHeld'
      clear hHeld'
      (try simp only [Act.put, List.setIfInBounds_toArray, List.set_cons_zero, List.set_cons_succ])
      refine wpAnyH_take (i := 7) (oi := ?_) (v := ?_) ?_ (by kernel_rfl) (by kernel_rfl) (by kernel_rfl) ?_ (Or.inl ⟨?_, ?_⟩) (by assumption) ?_
      rotate_left 2
      · (simp only [List.getElem?_toArray, List.getElem?_cons_zero, List.getElem?_cons_succ]; rfl)
      · exact fun _ _ _ h => h
      · rfl
      · (intro wS hSw; (try dsimp only at hSw); go_simp; (try with_reducible rfl))
      (try simp only [Act.put, List.setIfInBounds_toArray, List.set_cons_zero, List.set_cons_succ])
      refine wpAnyH_ready (rs := [8]) (by kernel_rfl) (by simp) ?_
      refine AllReadyH.cons (o := ?_) ?_ (fun K hK => ?_) AllReadyH.nil
      rotate_left
      · (simp only [List.getElem?_toArray, List.getElem?_cons_zero, List.getElem?_cons_succ]; rfl)
      go_simp
      skip
      (try go_wp2_with fail)
      refine hK.out _ _ ?_ (fun hHeld' => ?_)
      · (try dsimp only)
        exact ⟨cell_later ((Below.refl _ _).alloc (Nat.le_refl _) _) e0, cell_later ((Below.refl _ _).alloc (Nat.le_refl _) _) e1⟩
      clear hK K hHeld
      have hHeld := hHeld'
      clear hHeld'
      (try simp only [Act.put, List.setIfInBounds_toArray, List.set_cons_zero, List.set_cons_succ])
      have howr : wr.ownsRow P0 43 2 (.slice r k d) k cells := owns_base HLA.out.outer (fun b hb => (HLA.out.outerF b hb).1)
      refine wpAnyH_ready (rs := [9]) (by kernel_rfl) (by simp) ?_
      refine AllReadyH.cons (o := ?_) ?_ (fun K hK => ?_) AllReadyH.nil
      rotate_left
      · (simp only [List.getElem?_toArray, List.getElem?_cons_zero, List.getElem?_cons_succ]; rfl)
      refine step_append_vals rfl (.tmp 16) (.tmp 24) 27 rfl P0 43 i0 (.agg #[.slice none 0 0, .slice none 0 0]) 2 48 Tryd.underlying27 hi hz0 hz1 hz2 rfl (by decide) (.slice r k d) k cells (by simp [Act.eval]) ((owns_below howr HB6.out).alloc _) (some ⟨w6.heap.size, 0, none⟩) 1 1 [.slice r5 m5 d5, .slice r6 m6 d6] (by simp [Act.eval]) rfl (fun ad he => by cases he; exact news_at w6 #[.slice r5 m5 d5, .slice r6 m6 d6] 43) (by intro u hu; simp at hu; rcases hu with rfl | rfl <;> rfl) (fun h => by cases h) (by unfold maxLen; omega) (by omega) (by simp; omega) ?_
      intro r7 d7 w7 ho7 hg7 ht7
      have hfar : ∀ b, b < w6.heap.size → (Value.slice r k d).ownBlock ≠ some b → w7.heap[b]? = w6.heap[b]? := fun b hb hn => (hg7.block b (by simp; omega) (fun e => hn e.symm)).trans (Below.heap_alloc w6 _ b hb)
      have e0 := (World.cell?_of_block (hfar wr.heap.size (by omega) (fun e => by have := (howr.lt _ e).2; omega))).trans e0
      have e1 := (World.cell?_of_block (hfar wr.heap.size (by omega) (fun e => by have := (howr.lt _ e).2; omega))).trans e1
      refine hK.out _ _ ?_ (fun hHeld' => ?_)
      · (try dsimp only)
        exact ⟨e0, e1⟩
      clear hK K hHeld
      have hHeld := hHeld'
      clear hHeld'
      (try simp only [Act.put, List.setIfInBounds_toArray, List.set_cons_zero, List.set_cons_succ])
      refine wpAnyH_take (i := 10) (oi := ?_) (v := ?_) ?_ (by kernel_rfl) (by kernel_rfl) (by kernel_rfl) ?_ (Or.inl ⟨?_, ?_⟩) (by assumption) ?_
      rotate_left 2
      · (simp only [List.getElem?_toArray, List.getElem?_cons_zero, List.getElem?_cons_succ]; rfl)
      · exact fun _ _ _ h => h
      · rfl
      · (intro wS hSw; (try dsimp only at hSw); go_simp; (try with_reducible rfl))
      (try simp only [Act.put, List.setIfInBounds_toArray, List.set_cons_zero, List.set_cons_succ])
      refine wpAnyH_done (by kernel_rfl) ?_ _
      have z7 : w6.heap.size < w7.heap.size := by have h9 := hg7.size; simp at h9; omega
      have hRD : RDep.Own w6 (From wr.heap.size w6.heap.size) [.slice r5 m5 d5, .slice r6 m6 d6] (und p) := by
        rw [HUND.out]
        exact RDep.own_mk HR5.out (RInts.of_owns HM6.out (by have h1 := HM6.out; have h2 := bl_len t; omega) HO6.out)
          (fun b h => ⟨by have h1 := h.1; omega, by have h1 := h.2; omega⟩) (fun b h => ⟨by have h1 := h.1; omega, h.2⟩)
          (fun b h1 h2 => by have h3 := h1.2; have h4 := h2.1; omega)
      have hpush := HLA.out.push (F' := From P0 w7.heap.size) (fun b h => h.2) HB6.out hRD (fun b h => h) hfar (owns_mono ho7 (Nat.zero_le _)) (by
        rcases ht7 with h9 | h9
        · exact .inl h9
        · refine .inr (fun b e => ?_)
          rw [h9] at e
          simp at e
          omega) (by omega) (fun b h => ⟨h.1, by have := h.2; omega⟩) (fun b h => ⟨by have := h.1; omega, by have := h.2; omega⟩) (fun b h => ho7.lt b h)
      obtain ⟨G', HL'⟩ : ∃ G', Hid (Laid RDep w7 (From P0 w7.heap.size) 43 r7 (k + 1) d7 ((N.take (k + 1)).map und) (cells ++ [.slice r5 m5 d5, .slice r6 m6 d6]) G' (k + 1)) := by
        rw [HTK.out]
        exact ⟨_, Hid.mk hpush⟩
      have HO7 : Hid (OwnTl w7 base (some ⟨g, 0, none⟩) m4 d4 N) := ownsRow_frame (owns_below HO.out HB6.out) (fun b hb hl => hfar b hl (fun e => by have h1 := (howr.lt b e).1; have h2 := HLT4.out b hb; omega))
      have HB7 : Hid (Below w.heap.size w w7) := ((HB.out.trans (HB6.out.mono HB.out.size)).alloc (by omega) _).grown hg7 (by simp; omega) (fun j hj => by have := (howr.lt j hj).1; omega)
      clear hpush hRD hfar ho7 hg7 ht7 howr HLA HO HB HB6 HB5 HR5 HO6 HO5 hHeld
      go_wp2
      go_roundw
      case rel => exact ⟨k + 1, r7, d7, _, G', by omega, by go_num, rfl, HL'.out, HO7.out, by omega, HB7.out⟩
      case measure => simp [intOf]; omega
    · obtain rfl : k = m4 := by omega
      rw [List.take_of_length_le (by have := HM4.out; omega)] at hlaid
      have HR : Hid (DepsRet (.returned (.tuple #[.slice r k d, .bool true])) wr w.heap.size ok L) := by
        show DepsRet _ _ _ _ _
        rw [HBT.out, HCL.out]
        exact ⟨r, k, d, rfl, r, k, d, cells, G, rfl, hlaid.mono (fun b h => ⟨by have := h.1; omega, h.2⟩)⟩
      have hki : ¬ (k : Int) < (k : Int) := by omega
      clear hlaid hown
      go_wp2
      exact bodyPost_ret (v := .tuple #[.slice r k d, .bool true]) (by simp [results, Tryd.results59, go_sem]) rfl ⟨HR.out, hbw⟩

end Go.Proofs.YtkcfhlpdenjimaaDoor

/- Contract of CoverOf. -/
namespace Go.Proofs.YtkcfhlpdenjimaaDoor
open Go.RowKit

theorem covL_no {l : List Dep} {C : Int} (h : covB l C = false) : covL l C = [] := by unfold covL; rw [h]; rfl

set_option maxRecDepth 100000 in
set_option maxHeartbeats 8000000 in
theorem implCoverOf (a : Option Addr) (n c : Nat) (xs : List Dep) (C : Int) (w : World) (hz : xs.length = n) (hn : n ≤ 1048576) (ha : AtD w a xs) (htab : TabB w) :
    Calls Tryd.prog 32 #[.slice a n c, .int .i64 C] w fun e w' => DepsRet e w' w.heap.size (covB xs C) (covL xs C) ∧ Below w.heap.size w w' := by
  obtain ⟨i0, hi, hz0, hz1, hz2⟩ := info_parts Tryd.infoDepend
  have HA := Hid.mk ha
  have HZ := Hid.mk hz
  have HTB := Hid.mk htab
  clear ha hz htab
  go_enter Tryd.func32, Tryd.ntmps32
  go_wp2_with fail
  refine (implGoodDepends a n c xs C w HZ.out (by omega) HA.out).mono ?_
  rintro e w1 ⟨rfl, B1⟩
  cases hg1 : goodDeps xs C with
  | false =>
    have HB : Hid (covB xs C = false) := by show _ = _; unfold covB; rw [hg1]; rfl
    go_wp2
    exact bodyPost_ret (v := .tuple #[.slice none 0 0, .bool false]) (by simp [results, Tryd.results32, go_sem]) rfl ⟨DepsRet.none _ _ HB.out (covL_no HB.out), B1⟩
  | true =>
    obtain ⟨hC1, hC6, hx10⟩ := goodDeps_C hg1
    obtain ⟨q, hq⟩ : ∃ q : Nat, C = (q : Int) := ⟨C.toNat, by omega⟩
    have HQ := Hid.mk hq
    have hq6 : q ≤ 6 := by omega
    have hall : ∀ d ∈ xs, ris (q : Int) d.1 = true ∧ ris (q : Int) d.2 = true := by
      rw [hq] at hg1
      simp only [goodDeps, allDep, goodDep, Bool.and_eq_true, decide_eq_true_eq, List.all_eq_true] at hg1
      exact hg1.2.2.2
    have hn10 : n ≤ 10 := by have := HZ.out; omega
    obtain ⟨hlimP, hlenP⟩ := partA_ok hq6 xs hall xs.length (Nat.le_refl _)
    rw [List.take_length] at hlimP hlenP
    have K1 := Hid.mk (partedTo_any a n c xs q w1 HZ.out hn10 hq6 hall (AtSl.below HA.out B1))
    have HLP := Hid.mk hlimP
    have hP60 : (partA xs).length ≤ 60 := by omega
    clear hq hall hlimP hlenP
    go_wp2_with fail
    refine K1.out.mono ?_
    rintro e w2 ⟨r2, m2, d2, rfl, hm2, ho2, hb2⟩
    have B2 := B1.trans (hb2.mono B1.size)
    have hm2' : m2 ≤ 60 := by omega
    have K2 := Hid.mk (withLessFrom_any w1.heap.size r2 m2 d2 (partA xs) q w2 hm2 hm2' hq6 HLP.out ho2 (TabIs.below HTB.out B2))
    have HM2 := Hid.mk hm2
    obtain ⟨hlimL, hlenL⟩ := lessA_ok HLP.out (partA xs).length (Nat.le_refl _)
    rw [hm2] at hlimL hlenL
    have HLL := Hid.mk hlimL
    have HLEL := Hid.mk hlenL
    clear hb2 B1 ho2 hm2 K1 hlimL hlenL
    go_wp2_with fail
    refine K2.out.mono ?_
    rintro e w3 ⟨r3, d3, rfl, ho3, hb3⟩
    have B3 := B2.trans (hb3.mono B2.size)
    have K3 := Hid.mk (withoutImplied_any w2.heap.size r3 m2 d3 (lessA (partA xs) m2) q w3 HLEL.out hm2' hq6 HLL.out ho3)
    have HCM : Hid (dropA (lessA (partA xs) m2) = coverM xs) := by show _ = _; unfold coverM; rw [HM2.out]
    rw [HCM.out] at K3
    have hlimC : Lim q (coverM xs) := by rw [← HCM.out]; exact dropG_lim _ _ _ HLL.out
    have HLC := Hid.mk hlimC
    clear hb3 B2 ho3 K2 hlimC
    go_wp2_with fail
    refine K3.out.mono ?_
    rintro e w4 ⟨r4, m4, d4, rfl, hm4, ho4, hb4⟩
    have B4 := B3.trans (hb4.mono B3.size)
    have HO4 := Hid.mk ho4
    have HM4 := Hid.mk hm4
    have z34 := hb4.size
    have zw3 := B3.size
    clear hb4 B3 K3 ho4 hm4
    have K4 := Hid.mk (dependsOf_any w3.heap.size r4 m4 d4 (coverM xs) w4 HM4.out (HLC.out.sets hq6) HO4.out (TabIs.below HTB.out B4))
    have HCB : Hid (decide ((coverM xs).length ≤ 10) = covB xs C) := by show _ = _; unfold covB; rw [hg1]; rfl
    have HCL : Hid ((if (coverM xs).length ≤ 10 then (coverM xs).map und else []) = covL xs C) := by
      show _ = _
      unfold covL
      rw [← HCB.out]
      by_cases hc : (coverM xs).length ≤ 10
      · rw [decide_eq_true hc, if_pos hc]; rfl
      · rw [decide_eq_false hc, if_neg hc]; rfl
    rw [HCB.out, HCL.out] at K4
    have HB4 := Hid.mk B4
    clear B4 HO4 HM4
    go_wp2_with fail
    refine K4.out.mono ?_
    rintro e w5 ⟨⟨r5, m5, d5, rfl, ho5⟩, hb5⟩
    have HR : Hid (DepsRet (.returned (.tuple #[.slice r5 m5 d5, .bool (covB xs C)])) w5 w.heap.size (covB xs C) (covL xs C)) := ⟨r5, m5, d5, rfl, RDeps.mono ho5 (fun b hb => ⟨by have := hb.1; have := HB4.out.size; omega, hb.2⟩)⟩
    have HB5 := Hid.mk (HB4.out.trans (hb5.mono HB4.out.size))
    clear ho5 hb5 K4
    go_wp2
    exact bodyPost_ret (v := .tuple #[.slice r5 m5 d5, .bool (covB xs C)]) (by simp [results, Tryd.results32, go_sem]) rfl ⟨HR.out, HB5.out⟩

end Go.Proofs.YtkcfhlpdenjimaaDoor

/- What the model's CoverOf leans on: lists that lie in memory, a row replaced, a row left out; l7Same. -/
namespace Go.Proofs.YtkcfhlpdenjimaaDoor
open Go.RowKit

section
variable {α : Type} {A : Rep α} {w w' : World} {F F' H : Nat → Prop} {e : TypeId} {a a' : Option Addr} {n c c' i : Nat} {xs : List α} {cells cells' : List Value} {G : Nat → Nat → Prop} {x' : α}

/-- One row of it is another one now, which lies elsewhere. -/
theorem Laid.swap (h : Laid A w F e a n c xs cells G n) (hi : i < n) (hw : ∀ b, b < w.heap.size → (Value.slice a n c).ownBlock ≠ some b → w'.heap[b]? = w.heap[b]?)
    (ho : w'.ownsRow 0 e A.k (.slice a n c) n cells') (hc : ∀ j, j ≠ i → sub cells' (j * A.k) A.k = sub cells (j * A.k) A.k) (hx : A.Own w' H (sub cells' (i * A.k) A.k) x')
    (hH : ∀ b, H b → F' b ∧ (Value.slice a n c).ownBlock ≠ some b) (hd : ∀ j b, j ≠ i → j < n → G j b → ¬ H b) (hF : ∀ b, F b → F' b) :
    Laid A w' F' e a n c (xs.set i x') cells' (fun j => if j = i then H else G j) n := by
  refine ⟨by simp [h.len], h.big, ho, fun b hb => hF b (h.outerF b hb), fun j y hj hy => ?_, fun j b hj hb => ?_, fun j l b hj hl hjl hb => ?_⟩
  · by_cases ej : j = i
    · subst ej
      rw [List.getElem?_set_self (by rw [h.len]; exact hi)] at hy
      obtain rfl := Option.some.inj hy
      simp only [if_true]
      exact hx
    · simp only [if_neg ej]
      rw [List.getElem?_set_ne (Ne.symm ej)] at hy
      rw [hc j ej]
      exact A.frame (h.row j y hj hy) (fun b hb hl => hw b hl (h.rowF j b hj hb).2)
  · by_cases ej : j = i
    · simp only [if_pos ej] at hb; exact hH b hb
    · simp only [if_neg ej] at hb; exact ⟨hF b (h.rowF j b hj hb).1, (h.rowF j b hj hb).2⟩
  · by_cases ej : j = i
    · simp only [if_pos ej] at hb
      have el : l ≠ i := fun e => hjl (ej.trans e.symm)
      simp only [if_neg el]
      exact fun h9 => hd l b el hl h9 hb
    · simp only [if_neg ej] at hb
      by_cases el : l = i
      · simp only [if_pos el]; exact hd j b ej hj hb
      · simp only [if_neg el]; exact h.apart j l b hj hl hjl hb

theorem sub_erase {k : Nat} (hl : cells.length = n * k) (hi : i < n) (j : Nat) : sub (cells.take (i * k) ++ cells.drop ((i + 1) * k)) (j * k) k = sub cells ((if j < i then j else j + 1) * k) k := by
  have hik : i * k + k ≤ n * k := at_mul hi
  have e1 : (i + 1) * k = i * k + k := Nat.succ_mul i k
  have ht : (cells.take (i * k)).length = i * k := by rw [List.length_take]; omega
  apply List.ext_getElem?
  intro t
  by_cases htk : t < k
  · rw [sub_at htk, sub_at htk]
    by_cases hji : j < i
    · rw [if_pos hji]
      have := at_mul (k := k) hji
      rw [List.getElem?_append_left (by omega), List.getElem?_take, if_pos (by omega)]
    · rw [if_neg hji]
      have h9 : i * k ≤ j * k := Nat.mul_le_mul_right k (by omega)
      rw [List.getElem?_append_right (by omega), ht, List.getElem?_drop]
      congr 1
      have : (j + 1) * k = j * k + k := Nat.succ_mul j k
      omega
  · rw [List.getElem?_eq_none (by simp [sub]; omega), List.getElem?_eq_none (by simp [sub]; omega)]

/-- It without one row, in a block of its own. -/
theorem Laid.erase (h : Laid A w F e a n c xs cells G n) (hi : i < n) (hw : ∀ b, F b → b < w.heap.size → w'.heap[b]? = w.heap[b]?)
    (ho : w'.ownsRow 0 e A.k (.slice a' (n - 1) c') (n - 1) (cells.take (i * A.k) ++ cells.drop ((i + 1) * A.k))) (hF : ∀ b, F b → F' b) (hb1 : ∀ b, (Value.slice a' (n - 1) c').ownBlock = some b → F' b)
    (hb2 : ∀ b, (Value.slice a' (n - 1) c').ownBlock = some b → ¬ F b) :
    Laid A w' F' e a' (n - 1) c' (xs.eraseIdx i) (cells.take (i * A.k) ++ cells.drop ((i + 1) * A.k)) (fun j => G (if j < i then j else j + 1)) (n - 1) := by
  have hl := h.len
  have hb := h.big
  have hof : ∀ j, j < n - 1 → (if j < i then j else j + 1) < n := fun j hj => by split <;> omega
  refine ⟨by rw [List.length_eraseIdx, if_pos (by omega), hl], by omega, ho, hb1, fun j y hj hy => ?_, fun j b hj hb' => ?_, fun j l b hj hl' hjl hb' => ?_⟩
  · rw [sub_erase h.outer.1 hi j]
    refine A.frame (h.row _ y (hof j hj) ?_) (fun b h1 h2 => hw b (h.rowF _ b (hof j hj) h1).1 h2)
    rw [List.getElem?_eraseIdx] at hy
    by_cases hji : j < i
    · rw [if_pos hji] at hy ⊢; exact hy
    · rw [if_neg hji] at hy ⊢; exact hy
  · have h9 := h.rowF _ b (hof j hj) hb'
    exact ⟨hF b h9.1, fun e => hb2 b e h9.1⟩
  · exact h.apart _ _ b (hof j hj) (hof l hl') (by split <;> split <;> omega) hb'
end

/-- Each To has one column. -/
def One (M : List (Nat × Nat)) : Prop := ∀ p ∈ M, ∃ c, c < 6 ∧ p.2 = 2 ^ c
theorem One.add {M : List (Nat × Nat)} {f c : Nat} (h : One M) (hc : c < 6) : One (addT M (f, 2 ^ c)) := by
  unfold addT
  split
  · exact h
  · intro x hx
    simp only [List.mem_append, List.mem_singleton] at hx
    rcases hx with hx | rfl
    · exact h x hx
    · exact ⟨c, hc, rfl⟩
theorem partT_one {f : Nat} {M : List (Nat × Nat)} {ks : List Int} (h : One M) (hk : ∀ k ∈ ks, 0 ≤ k ∧ k < 6) : One (partT f M ks) := by
  unfold partT
  induction ks generalizing M with
  | nil => exact h
  | cons k ks ih => rw [List.foldl_cons]; have h0 := hk k (by simp); exact ih (h.add (by omega)) (fun x hx => hk x (by simp [hx]))
theorem partA_one : ∀ (l : List Dep), (∀ d ∈ l, ∀ k ∈ d.2, 0 ≤ k ∧ k < 6) → ∀ i, i ≤ l.length → One (partA (l.take i)) := by
  intro l hl i
  induction i with
  | zero => intro _ p hp; simp [partA] at hp
  | succ i ih =>
    intro hi
    rw [partA_take (List.getElem?_eq_getElem (by omega : i < l.length))]
    exact partT_one (ih (by omega)) (hl l[i] (List.getElem_mem _))
theorem bl_one_all : ∀ c : Nat, c < 6 → bl (2 ^ c) = [(c : Int)] := by decide +kernel
theorem mk_bl_all : ∀ s : Nat, s < 64 → mk (bl s) = s := by decide +kernel
theorem filter_bl_all : ∀ f : Nat, f < 64 → ∀ y : Nat, y < 6 → (bl f).filter (fun z => decide (z ≠ (y : Int))) = bl (f &&& (18446744073709551615 - 2 ^ y)) := by decide +kernel
theorem same_bl_all : ∀ a : Nat, a < 64 → ∀ b : Nat, b < 64 → (decide ((bl a).length = (bl b).length) && (bl b).all (fun k => decide (k ∈ bl a))) = decide (a = b) := by decide +kernel
theorem dms_und {M : List (Nat × Nat)} (h : Sets M) : dms (M.map und) = M := by
  unfold dms
  rw [List.map_map]
  conv => rhs; rw [← List.map_id M]
  refine List.map_congr_left fun p hp => ?_
  have := h p hp
  show (mk (bl p.1), mk (bl p.2)) = p
  rw [mk_bl_all _ this.1, mk_bl_all _ this.2]
theorem told_bl {s : Nat} (h : s < 64) : Told (bl s) := ⟨by rw [mk_bl_all s h], by rw [mk_bl_all s h]; exact h⟩
theorem tolds_und {M : List (Nat × Nat)} (h : Sets M) : Tolds (M.map und) := fun d hd => by
  obtain ⟨p, hp, rfl⟩ := List.mem_map.1 hd
  exact ⟨told_bl (h p hp).1, told_bl (h p hp).2⟩
theorem good_und {q : Nat} {M : List (Nat × Nat)} (hq1 : 1 ≤ q) (hq : q ≤ 6) (h : Lim q M) : goodDeps (M.map und) (q : Int) = decide (M.length ≤ 10) := by
  unfold goodDeps
  rw [decide_eq_true (show (1 : Int) ≤ (q : Int) by omega), decide_eq_true (show (q : Int) ≤ 6 by omega), List.length_map]
  have : allDep (q : Int) (M.map und) = true := by
    unfold allDep
    rw [List.all_eq_true]
    intro d hd
    obtain ⟨p, hp, rfl⟩ := List.mem_map.1 hd
    have h9 := h p hp
    have h8 := pow64 hq
    unfold goodDep und
    rw [ris_bl_all q (by omega) p.1 (by omega) h9.1, ris_bl_all q (by omega) p.2 (by omega) h9.2]; rfl
  rw [this]
  simp
theorem impV_und {M : List (Nat × Nat)} {f t : Nat} (h : Sets M) (hf : f < 64) (ht : t < 64) : impV (M.map und) (bl f, bl t) = sb t (clo M f) := by
  unfold impV
  rw [dms_und h, mk_bl_all f hf, mk_bl_all t ht]
theorem und_set (M : List (Nat × Nat)) (k : Nat) (p : Nat × Nat) : (M.set k p).map und = (M.map und).set k (und p) := List.map_set
theorem und_erase (M : List (Nat × Nat)) (k : Nat) : (M.eraseIdx k).map und = (M.map und).eraseIdx k := by rw [List.eraseIdx_eq_take_drop_succ, List.eraseIdx_eq_take_drop_succ, List.map_append, List.map_take, List.map_drop]

theorem l7Same_any (a : Option Addr) (n c : Nat) (zs : List Int) (a' : Option Addr) (n' c' : Nat) (ys : List Int) (w : World) (hz : zs.length = n) (hn : n ≤ 9223372036854775807) (ha : At w a zs) (hz' : ys.length = n') (hn' : n' ≤ 9223372036854775807) (ha' : At w a' ys) :
    Calls Tryd.prog 57 #[.slice a n c, .slice a' n' c'] w fun e w' => e = .returned (.bool (decide (n = n') && ys.all fun k => decide (k ∈ zs))) ∧ w' = w := by
  have K := Hid.mk (l7All_any a n c zs a' n' c' ys w hz hn ha hz' hn' ha')
  clear ha ha'
  by_cases h : n = n'
  · subst h
    have HE : Hid (decide (n = n) = true) := decide_eq_true rfl
    go_enter Tryd.func57, Tryd.ntmps57
    go_wp2_with fail
    refine K.out.mono ?_
    rintro e w1 ⟨rfl, rfl⟩
    go_wp2
    go_ret
    exact ⟨by rw [HE.out]; rfl, rfl⟩
  · have h' : decide (n = n') = false := decide_eq_false h
    have hb : ((n : Int) == (n' : Int)) = false := beq_eq_false_iff_ne.2 (by omega)
    have HE := Hid.mk h'
    clear h'
    go_enter Tryd.func57, Tryd.ntmps57
    go_wp2
    go_ret
    exact ⟨by rw [HE.out]; rfl, rfl⟩

end Go.Proofs.YtkcfhlpdenjimaaDoor

/- An append of whatever cells, in a plain region. -/
namespace Go.Proofs.YtkcfhlpdenjimaaDoor
open Go.RowKit

theorem wpList_app_vals {P : Program} {w : World} {ops : Array Oper} {rest : List Oper} {o : Oper} {a : Act} {Q : Exit → Act → World → Prop} (hgd : o.guard = none) (s x : Operand) (t : TypeId)
    (ho : o.op = .call { callee := .builtin .append, args := #[s, x], argTypes := #[t, t] })
    (base : Nat) (e : TypeId) (i : TypeInfo) (z : Value) (size bytes : Nat) (ht : P.underlying t = some (.slice e)) (hi : P.info? e = some i) (hz : i.zero = some z)
    (hsize : i.size = size) (hby : i.bytes = bytes) (hzs : z.cells.size = size) (hsz : 0 < size)
    (v : Value) (n : Nat) (xs : List Value) (hs : a.eval s = v) (hown : w.ownsRow base e size v n xs)
    (ao : Option Addr) (m c : Nat) (news : List Value) (hx : a.eval x = .slice ao m c) (hl : news.length = m * size) (hat : ∀ ad, ao = some ad → ∀ (j : Nat) (u : Value), news[j]? = some u → w.cell? (ad.add j) = some u) (h1 : ∀ u ∈ news, u.oneCell' = true) (hnil : ao = none → c = 0 ∧ m = 0)
    (h63 : n + m ≤ maxLen) (hbytes : (n + m) * bytes ≤ 140737488355328) (hbase : base ≤ w.heap.size)
    (h : ∀ r cap w', w'.ownsRow base e size (.slice r (n + m) cap) (n + m) (xs ++ news) → w.grownBy w' v.ownBlock → ((Value.slice r (n + m) cap).ownBlock = v.ownBlock ∨ (Value.slice r (n + m) cap).ownBlock = some w.heap.size) → wpList P ops Q rest (a.put o.dst (.slice r (n + m) cap)) w') :
    wpList P ops Q (o :: rest) a w :=
  wpList_plain hgd fun K hK => by
    have hw : Region.wanted o (yielded ops a.tmps) = true := by simp [Region.wanted, hgd]
    have h9 := step_append_vals (P := P) (w := w) (ops := ops) (o := o) (a := a) (K := K) (Q := Q) (E := True) hgd s x t ho base e i z size bytes ht hi hz hsize hby hzs hsz v n xs hs hown ao m c news hx hl hat h1 hnil h63 hbytes hbase (fun r cap w' k1 k2 k3 => hK _ _ (h r cap w' k1 k2 k3))
    rw [if_pos hw] at h9
    exact h9

end Go.Proofs.YtkcfhlpdenjimaaDoor
