/- Several texts of one proof, in build order: DpO, KeyS, KeyO, KeyL. -/
import Derived.Test.YtpnaoahlfhbbmabDoorM8
import Derived.Test.YtpnaoahlfhbbmabDoorM7
import Derived.Test.YtpnaoahlfhbbmabDoorM10
import Derived.Maps.AppendAt

/- Contract of dependsOf. -/
namespace Go.Proofs.YtpnaoahlfhbbmabDoor
open Go.RowKit

set_option maxRecDepth 100000 in
set_option maxHeartbeats 8000000 in
theorem dependsOf_any (base : Nat) (r4 : Option Addr) (m4 d4 : Nat) (N : List (Nat × Nat)) (w : World) (hm : N.length = m4) (hs : Sets N) (ho : OwnTl w base r4 m4 d4 N) (htab : TabB w) :
    Calls Tryd.prog 26 #[.slice r4 m4 d4] w fun e w' => DepsRet e w' w.heap.size (decide (N.length ≤ 10)) (if N.length ≤ 10 then N.map und else []) ∧ Below w.heap.size w w' := by
  obtain ⟨i0, hi, hz0, hz1, hz2⟩ := info_parts Tryd.infoDepend
  have HM4 := Hid.mk hm
  have HSN := Hid.mk hs
  have HO4 := Hid.mk ho
  have HTB := Hid.mk htab
  obtain ⟨ok, hok⟩ : ∃ ok, decide (N.length ≤ 10) = ok := ⟨_, rfl⟩
  obtain ⟨L, hL⟩ : ∃ L, (if N.length ≤ 10 then N.map und else []) = L := ⟨_, rfl⟩
  rw [hok, hL]
  have HOK := Hid.mk hok
  have HL := Hid.mk hL
  clear hm hs ho htab hok hL
  go_enter Tryd.func26, Tryd.ntmps26
  by_cases h10 : 10 < m4
  · have h10' : (10 : Int) < (m4 : Int) := by omega
    have HB : Hid (ok = false) := HOK.out.symm.trans (decide_eq_false (by have := HM4.out; omega))
    have HC : Hid (L = []) := HL.out.symm.trans (if_neg (by have := HM4.out; omega))
    go_wp2
    exact bodyPost_ret (v := .tuple #[.slice none 0 0, .bool false]) (by simp [results, Tryd.results26, go_sem]) rfl ⟨DepsRet.none _ _ HB.out HC.out, Below.refl _ _⟩
  have h10' : ¬ (10 : Int) < (m4 : Int) := by omega
  have HBT : Hid (ok = true) := HOK.out.symm.trans (decide_eq_true (by have := HM4.out; omega))
  have HCL : Hid (L = N.map und) := HL.out.symm.trans (if_pos (by have := HM4.out; omega))
  obtain ⟨P0, hP0⟩ : ∃ P0, P0 = w.heap.size := ⟨_, rfl⟩
  have hlt4 : ∀ b, (Value.slice r4 m4 d4).ownBlock = some b → b < P0 := fun b hb => by rw [hP0]; exact (HO4.out.lt b hb).2
  have HLT4 := Hid.mk hlt4
  have zP : w.heap.size ≤ P0 := by omega
  have HP0 := Hid.mk hP0
  have HB4 := Hid.mk (Below.refl w.heap.size w)
  clear hP0 hlt4
  go_wp2_with fail
  go_loopw [4, 12] (fun p i wr => ∃ (k : Nat) (r : Option Addr) (d : Nat) (cells : List Value) (G : Nat → Nat → Prop), k ≤ m4 ∧ i = .int .i64 k ∧ p = .slice r k d ∧ Laid RDep wr (From P0 wr.heap.size) 44 r k d ((N.take k).map und) cells G k ∧ OwnTl wr base r4 m4 d4 N ∧ P0 ≤ wr.heap.size ∧ Below w.heap.size w wr) (fun _ i _ => m4 - (intOf i).toNat)
  case atStart => exact ⟨0, none, 0, [], _, Nat.zero_le _, rfl, rfl, Laid.none _ _ _ _, HO4.out, Nat.le_of_eq HP0.out, HB4.out⟩
  case round =>
    clear HO4 HB4 HP0
    obtain ⟨k, r, d, cells, G, hk, rfl, rfl, hlaid, hown, zr, hbw⟩ := hrel
    by_cases hlt : k < m4
    · obtain ⟨g, rfl, hgl, hgr⟩ := own_some hown (by omega)
      obtain ⟨p, hp⟩ : ∃ p, N[k]? = some p := ⟨_, List.getElem?_eq_getElem (by have := HM4.out; omega)⟩
      obtain ⟨x0, x1⟩ := flatT_at N k p hp
      have c0 : wr.cell? ⟨g, k * 2, none⟩ = some (.int .u64 (p.1 : Nat)) := (hown.cellAt _ (by omega)).trans x0
      have c1 : wr.cell? ⟨g, k * 2 + 1, none⟩ = some (.int .u64 (p.2 : Nat)) := (hown.cellAt _ (by omega)).trans x1
      have hp64 := HSN.out p (List.mem_of_getElem? hp)
      have HTK : Hid ((N.take (k + 1)).map und = (N.take k).map und ++ [und p]) := undTake hp
      have HUND : Hid (und p = (bl p.1, bl p.2)) := rfl
      obtain ⟨f, hf⟩ : ∃ f, p.1 = f := ⟨_, rfl⟩
      obtain ⟨t, ht⟩ : ∃ t, p.2 = t := ⟨_, rfl⟩
      rw [hf] at c0 hp64 HUND
      rw [ht] at c1 hp64 HUND
      obtain ⟨W, hW⟩ : ∃ W, W = wr.alloc (.cells #[.int .u64 (f : Nat), .int .u64 (t : Nat)] 56) := ⟨_, rfl⟩
      have bW : Below wr.heap.size wr W := by rw [hW]; exact (Below.refl _ _).alloc (Nat.le_refl _) _
      have zW : wr.heap.size < W.heap.size := by rw [hW]; simp
      have q0 : W.cell? ⟨wr.heap.size, 0, none⟩ = some (.int .u64 (f : Nat)) := by rw [hW]; simp
      have q1 : W.cell? ⟨wr.heap.size, 1, none⟩ = some (.int .u64 (t : Nat)) := by rw [hW]; simp
      have HO := Hid.mk hown
      have HLA := Hid.mk hlaid
      have HB := Hid.mk hbw
      have HBW := Hid.mk bW
      have hki : (k : Int) < (m4 : Int) := by omega
      have hk10 : k < 10 := by omega
      have hf64 := hp64.1
      have ht64 := hp64.2
      have KL1 := Hid.mk (list_any f W.drew hf64 (TabIs.below HTB.out (hbw.trans ((bW.drew).mono hbw.size))))
      have zwr := hbw.size
      clear hown hlaid hbw bW hp x0 x1 hp64 hf ht
      go_wp2_with fail
      rw [← hW]
      clear hW c0 c1

      refine wp_region_held_drew (S := fun w' => w'.cell? ⟨wr.heap.size, 0, none⟩ = some (.int .u64 (f : Nat)) ∧ w'.cell? ⟨wr.heap.size, 1, none⟩ = some (.int .u64 (t : Nat))) (by kernel_rfl) ?_ (fun hHeld => ?_)
      · (try dsimp only)
        exact ⟨q0, q1⟩
      refine wpAnyH_take (i := 0) (oi := ?_) (v := ?_) ?_ (by kernel_rfl) (by kernel_rfl) (by kernel_rfl) ?_ (Or.inl ⟨?_, ?_⟩) (by assumption) ?_
      rotate_left 2
      · (simp only [List.getElem?_toArray, List.getElem?_cons_zero]; rfl)
      · exact fun _ _ _ h => h
      · rfl
      · (intro wS hSw; (try dsimp only at hSw); go_simp; (try with_reducible rfl))
      (try simp only [Act.put, List.setIfInBounds_toArray, List.set_cons_zero, List.set_cons_succ])
      refine wpAnyH_take (i := 1) (oi := ?_) (v := ?_) ?_ (by kernel_rfl) (by kernel_rfl) (by kernel_rfl) ?_ (Or.inl ⟨?_, ?_⟩) (by assumption) ?_
      rotate_left 2
      · (simp only [List.getElem?_toArray, List.getElem?_cons_zero, List.getElem?_cons_succ]; rfl)
      · exact fun _ _ _ h => h
      · rfl
      · (intro wS hSw; (try dsimp only at hSw); go_simp; (try with_reducible rfl))
      (try simp only [Act.put, List.setIfInBounds_toArray, List.set_cons_zero, List.set_cons_succ])
      refine wpAnyH_take (i := 2) (oi := ?_) (v := ?_) ?_ (by kernel_rfl) (by kernel_rfl) (by kernel_rfl) ?_ (Or.inl ⟨?_, ?_⟩) (by assumption) ?_
      rotate_left 2
      · (simp only [List.getElem?_toArray, List.getElem?_cons_zero, List.getElem?_cons_succ]; rfl)
      · exact fun _ _ _ h => h
      · rfl
      · (intro wS hSw; (try dsimp only at hSw); go_simp; (try with_reducible rfl))
      (try simp only [Act.put, List.setIfInBounds_toArray, List.set_cons_zero, List.set_cons_succ])
      refine wpAnyH_take (i := 4) (oi := ?_) (v := ?_) ?_ (by kernel_rfl) (by kernel_rfl) (by kernel_rfl) ?_ (Or.inl ⟨?_, ?_⟩) (by assumption) ?_
      rotate_left 2
      · (simp only [List.getElem?_toArray, List.getElem?_cons_zero, List.getElem?_cons_succ]; rfl)
      · exact fun _ _ _ h => h
      · rfl
      · (intro wS hSw; (try dsimp only at hSw); go_simp; (try with_reducible rfl))
      (try simp only [Act.put, List.setIfInBounds_toArray, List.set_cons_zero, List.set_cons_succ])
      refine wpAnyH_take (i := 5) (oi := ?_) (v := ?_) ?_ (by kernel_rfl) (by kernel_rfl) (by kernel_rfl) ?_ (Or.inl ⟨?_, ?_⟩) (by assumption) ?_
      rotate_left 2
      · (simp only [List.getElem?_toArray, List.getElem?_cons_zero, List.getElem?_cons_succ]; rfl)
      · exact fun _ _ _ h => h
      · rfl
      · (intro wS hSw; (try dsimp only at hSw); go_simp; (try with_reducible rfl))
      (try simp only [Act.put, List.setIfInBounds_toArray, List.set_cons_zero, List.set_cons_succ])
      refine wpAnyH_ready (rs := [3]) (by kernel_rfl) (by simp) ?_
      refine AllReadyH.cons (o := ?_) ?_ (fun K hK => ?_) AllReadyH.nil
      rotate_left
      · (simp only [List.getElem?_toArray, List.getElem?_cons_zero, List.getElem?_cons_succ]; rfl)
      go_simp
      go_at_call 45
      refine KL1.out.mono ?_
      rintro e w5 ⟨r5, m5, d5, rfl, hm5, ho5, hb5⟩
      have e0 := cell_later hb5 q0
      have e1 := cell_later hb5 q1
      have HO5 := Hid.mk ho5
      have HM5 := Hid.mk hm5
      have BW5 : Below W.heap.size W w5 := (Below.refl _ _).drew.trans hb5
      have HB5 := Hid.mk (HBW.out.trans (BW5.mono HBW.out.size))
      have z5 := BW5.size
      clear ho5 hm5 hb5
      (try go_wp2_with fail)
      refine hK.out _ _ ?_ (fun hHeld' => ?_)
      · (try dsimp only)
        exact ⟨e0, e1⟩
      clear hK K hHeld
      have hHeld := hHeld'
      clear hHeld'
      (try simp only [Act.put, List.setIfInBounds_toArray, List.set_cons_zero, List.set_cons_succ])
      refine wpAnyH_ready (rs := [6]) (by kernel_rfl) (by simp) ?_
      refine AllReadyH.cons (o := ?_) ?_ (fun K hK => ?_) AllReadyH.nil
      rotate_left
      · (simp only [List.getElem?_toArray, List.getElem?_cons_zero, List.getElem?_cons_succ]; rfl)
      go_simp
      go_at_call 45
      refine (list_any t w5 ht64 (TabIs.below HTB.out (HB.out.trans (HB5.out.mono HB.out.size)))).mono ?_
      rintro e w6 ⟨r6, m6, d6, rfl, hm6, ho6, hb6⟩
      have e0 := cell_later hb6 e0
      have e1 := cell_later hb6 e1
      have HO6 := Hid.mk ho6
      have HM6 := Hid.mk hm6
      have HR5 := Hid.mk (show RInts.Own w6 (From W.heap.size w5.heap.size) [.slice r5 m5 d5] (bl f) from RInts.ownBelow (RInts.of_owns HM5.out (by have h1 := HM5.out; have h2 := bl_len f; omega) HO5.out) hb6)
      have HB6 := Hid.mk (HB5.out.trans (hb6.mono HB5.out.size))
      have z6 := hb6.size
      clear ho6 hm6 hb6
      (try go_wp2_with fail)
      refine hK.out _ _ ?_ (fun hHeld' => ?_)
      · (try dsimp only)
        exact ⟨e0, e1⟩
      clear hK K hHeld
      have hHeld := hHeld'
      clear hHeld'
      (try simp only [Act.put, List.setIfInBounds_toArray, List.set_cons_zero, List.set_cons_succ])
      refine wpAnyH_take (i := 7) (oi := ?_) (v := ?_) ?_ (by kernel_rfl) (by kernel_rfl) (by kernel_rfl) ?_ (Or.inl ⟨?_, ?_⟩) (by assumption) ?_
      rotate_left 2
      · (simp only [List.getElem?_toArray, List.getElem?_cons_zero, List.getElem?_cons_succ]; rfl)
      · exact fun _ _ _ h => h
      · rfl
      · (intro wS hSw; (try dsimp only at hSw); go_simp; (try with_reducible rfl))
      (try simp only [Act.put, List.setIfInBounds_toArray, List.set_cons_zero, List.set_cons_succ])
      refine wpAnyH_ready (rs := [8]) (by kernel_rfl) (by simp) ?_
      refine AllReadyH.cons (o := ?_) ?_ (fun K hK => ?_) AllReadyH.nil
      rotate_left
      · (simp only [List.getElem?_toArray, List.getElem?_cons_zero, List.getElem?_cons_succ]; rfl)
      go_simp
      skip
      (try go_wp2_with fail)
      refine hK.out _ _ ?_ (fun hHeld' => ?_)
      · (try dsimp only)
        exact ⟨cell_later ((Below.refl _ _).alloc (Nat.le_refl _) _) e0, cell_later ((Below.refl _ _).alloc (Nat.le_refl _) _) e1⟩
      clear hK K hHeld
      have hHeld := hHeld'
      clear hHeld'
      (try simp only [Act.put, List.setIfInBounds_toArray, List.set_cons_zero, List.set_cons_succ])
      have howr : wr.ownsRow P0 44 2 (.slice r k d) k cells := owns_base HLA.out.outer (fun b hb => (HLA.out.outerF b hb).1)
      refine wpAnyH_ready (rs := [9]) (by kernel_rfl) (by simp) ?_
      refine AllReadyH.cons (o := ?_) ?_ (fun K hK => ?_) AllReadyH.nil
      rotate_left
      · (simp only [List.getElem?_toArray, List.getElem?_cons_zero, List.getElem?_cons_succ]; rfl)
      refine step_append_vals rfl (.tmp 16) (.tmp 24) 25 rfl P0 44 i0 (.agg #[.slice none 0 0, .slice none 0 0]) 2 48 Tryd.underlying25 hi hz0 hz1 hz2 rfl (by decide) (.slice r k d) k cells (by simp [Act.eval]) ((owns_below howr HB6.out).alloc _) (some ⟨w6.heap.size, 0, none⟩) 1 1 [.slice r5 m5 d5, .slice r6 m6 d6] (by simp [Act.eval]) rfl (fun ad he => by cases he; exact news_at w6 #[.slice r5 m5 d5, .slice r6 m6 d6] 44) (by intro u hu; simp at hu; rcases hu with rfl | rfl <;> rfl) (fun h => by cases h) (by unfold maxLen; omega) (by omega) (by simp; omega) ?_
      intro r7 d7 w7 ho7 hg7 ht7
      have hfar : ∀ b, b < w6.heap.size → (Value.slice r k d).ownBlock ≠ some b → w7.heap[b]? = w6.heap[b]? := fun b hb hn => (hg7.block b (by simp; omega) (fun e => hn e.symm)).trans (Below.heap_alloc w6 _ b hb)
      have e0 := (World.cell?_of_block (hfar wr.heap.size (by omega) (fun e => by have := (howr.lt _ e).2; omega))).trans e0
      have e1 := (World.cell?_of_block (hfar wr.heap.size (by omega) (fun e => by have := (howr.lt _ e).2; omega))).trans e1
      refine hK.out _ _ ?_ (fun hHeld' => ?_)
      · (try dsimp only)
        exact ⟨e0, e1⟩
      clear hK K hHeld
      have hHeld := hHeld'
      clear hHeld'
      (try simp only [Act.put, List.setIfInBounds_toArray, List.set_cons_zero, List.set_cons_succ])
      refine wpAnyH_take (i := 10) (oi := ?_) (v := ?_) ?_ (by kernel_rfl) (by kernel_rfl) (by kernel_rfl) ?_ (Or.inl ⟨?_, ?_⟩) (by assumption) ?_
      rotate_left 2
      · (simp only [List.getElem?_toArray, List.getElem?_cons_zero, List.getElem?_cons_succ]; rfl)
      · exact fun _ _ _ h => h
      · rfl
      · (intro wS hSw; (try dsimp only at hSw); go_simp; (try with_reducible rfl))
      (try simp only [Act.put, List.setIfInBounds_toArray, List.set_cons_zero, List.set_cons_succ])
      refine wpAnyH_done (by kernel_rfl) ?_ _
      have z7 : w6.heap.size < w7.heap.size := by have h9 := hg7.size; simp at h9; omega
      have hRD : RDep.Own w6 (From wr.heap.size w6.heap.size) [.slice r5 m5 d5, .slice r6 m6 d6] (und p) := by
        rw [HUND.out]
        exact RDep.own_mk HR5.out (RInts.of_owns HM6.out (by have h1 := HM6.out; have h2 := bl_len t; omega) HO6.out)
          (fun b h => ⟨by have h1 := h.1; omega, by have h1 := h.2; omega⟩) (fun b h => ⟨by have h1 := h.1; omega, h.2⟩)
          (fun b h1 h2 => by have h3 := h1.2; have h4 := h2.1; omega)
      have hpush := HLA.out.push (F' := From P0 w7.heap.size) (fun b h => h.2) HB6.out hRD (fun b h => h) hfar (owns_mono ho7 (Nat.zero_le _)) (by
        rcases ht7 with h9 | h9
        · exact .inl h9
        · refine .inr (fun b e => ?_)
          rw [h9] at e
          simp at e
          omega) (by omega) (fun b h => ⟨h.1, by have := h.2; omega⟩) (fun b h => ⟨by have := h.1; omega, by have := h.2; omega⟩) (fun b h => ho7.lt b h)
      obtain ⟨G', HL'⟩ : ∃ G', Hid (Laid RDep w7 (From P0 w7.heap.size) 44 r7 (k + 1) d7 ((N.take (k + 1)).map und) (cells ++ [.slice r5 m5 d5, .slice r6 m6 d6]) G' (k + 1)) := by
        rw [HTK.out]
        exact ⟨_, Hid.mk hpush⟩
      have HO7 : Hid (OwnTl w7 base (some ⟨g, 0, none⟩) m4 d4 N) := ownsRow_frame (owns_below HO.out HB6.out) (fun b hb hl => hfar b hl (fun e => by have h1 := (howr.lt b e).1; have h2 := HLT4.out b hb; omega))
      have HB7 : Hid (Below w.heap.size w w7) := ((HB.out.trans (HB6.out.mono HB.out.size)).alloc (by omega) _).grown hg7 (by simp; omega) (fun j hj => by have := (howr.lt j hj).1; omega)
      clear hpush hRD hfar ho7 hg7 ht7 howr HLA HO HB HB6 HB5 HR5 HO6 HO5 hHeld
      go_wp2
      go_roundw
      case rel => exact ⟨k + 1, r7, d7, _, G', by omega, by go_num, rfl, HL'.out, HO7.out, by omega, HB7.out⟩
      case measure => simp [intOf]; omega
    · obtain rfl : k = m4 := by omega
      rw [List.take_of_length_le (by have := HM4.out; omega)] at hlaid
      have HR : Hid (DepsRet (.returned (.tuple #[.slice r k d, .bool true])) wr w.heap.size ok L) := by
        show DepsRet _ _ _ _ _
        rw [HBT.out, HCL.out]
        exact ⟨r, k, d, rfl, r, k, d, cells, G, rfl, hlaid.mono (fun b h => ⟨by have := h.1; omega, h.2⟩)⟩
      have hki : ¬ (k : Int) < (k : Int) := by omega
      clear hlaid hown
      go_wp2
      exact bodyPost_ret (v := .tuple #[.slice r k d, .bool true]) (by simp [results, Tryd.results26, go_sem]) rfl ⟨HR.out, hbw⟩

end Go.Proofs.YtpnaoahlfhbbmabDoor

/- Contracts of the model's l7Keys and KeysOf. -/
namespace Go.Proofs.YtpnaoahlfhbbmabDoor
open Go.RowKit

/-- Lists of columns, and whether. -/
def KeysRet (e : Ending) (w' : World) (lo : Nat) (ok : Bool) (zss : List (List Int)) : Prop := ∃ r m d, e = .returned (.tuple #[.slice r m d, .bool ok]) ∧ RPairs.Own w' (From lo w'.heap.size) [.slice r m d] zss
theorem keysRet_none (w : World) (lo : Nat) {ok : Bool} {ds : List (List Int)} (h1 : ok = false) (h2 : ds = []) : KeysRet (.returned (.tuple #[.slice none 0 0, .bool false])) w lo ok ds := by
  subst h1 h2
  exact ⟨none, 0, 0, rfl, none, 0, 0, [], _, rfl, Laid.none _ _ _ _⟩
noncomputable def keyL (xs : List Dep) (C : Int) : List (List Int) := if goodDeps xs C then keysL (dms xs) C.toNat else []
theorem keyL_no {xs : List Dep} {C : Int} (h : goodDeps xs C = false) : keyL xs C = [] := by unfold keyL; rw [h]; rfl

end Go.Proofs.YtpnaoahlfhbbmabDoor

/- Contracts of math/bits.OnesCount, cmp.Compare, cmp.Or at sets of columns. -/
namespace Go.Proofs.YtpnaoahlfhbbmabDoor
open Go.RowKit

/-- How many columns. -/
def pc (x : Nat) : Nat := (bl x).length

set_option maxRecDepth 100000 in
set_option maxHeartbeats 2000000 in
theorem ones64_any (x : Nat) (w : World) (hx : x < 64) :
    Calls Tryd.prog 53 #[.int .u64 (x : Nat)] w fun e w' => e = .returned (.int .i64 (pc x : Nat)) ∧ w' = w := by
  go_enter Tryd.func53, Tryd.ntmps53
  go_wp2
  go_ret
  refine ⟨ret_int ?_, rfl⟩
  clear w
  revert x
  decide +kernel

theorem ones_any (x : Nat) (w : World) (hx : x < 64) :
    Calls Tryd.prog 43 #[.int .u64 (x : Nat)] w fun e w' => e = .returned (.int .i64 (pc x : Nat)) ∧ w' = w := by
  have K := Hid.mk (ones64_any x w hx)
  go_enter Tryd.func43, Tryd.ntmps43
  go_wp2_with fail
  refine K.out.mono ?_
  rintro e w1 ⟨rfl, rfl⟩
  go_wp2
  go_ret
  exact ⟨rfl, rfl⟩

/-- -1, 0 or 1. -/
def sgnI (a b : Int) : Int := if a < b then -1 else if b < a then 1 else 0
theorem cmpI_any (a b : Int) (w : World) : Calls Tryd.prog 42 #[.int .i64 a, .int .i64 b] w fun e w' => e = .returned (.int .i64 (sgnI a b)) ∧ w' = w := by
  have N : ∀ (z : Int) (w : World), Calls Tryd.prog 51 #[.int .i64 z] w fun e w' => e = .returned (.bool false) ∧ w' = w := fun z w => by
    go_enter Tryd.func51, Tryd.ntmps51
    go_wp2
    go_ret
    exact ⟨by simp, rfl⟩
  have HN := Hid.mk N
  clear N
  rcases Int.lt_trichotomy a b with h | h | h
  · have HS : Hid (sgnI a b = -1) := by show _ = _; unfold sgnI; rw [if_pos h]
    go_enter Tryd.func42, Tryd.ntmps42
    go_wp2_with fail
    refine (HN.out a w).mono ?_
    rintro e w1 ⟨rfl, rfl⟩
    go_wp2_with fail
    refine (HN.out b _).mono ?_
    rintro e w1 ⟨rfl, rfl⟩
    go_wp2
    go_ret
    exact ⟨ret_int HS.out.symm, rfl⟩
  · subst h
    have HS : Hid (sgnI a a = 0) := by show _ = _; unfold sgnI; simp
    go_enter Tryd.func42, Tryd.ntmps42
    go_wp2_with fail
    refine (HN.out a w).mono ?_
    rintro e w1 ⟨rfl, rfl⟩
    go_wp2_with fail
    refine (HN.out a _).mono ?_
    rintro e w1 ⟨rfl, rfl⟩
    go_wp2
    go_ret
    exact ⟨ret_int HS.out.symm, rfl⟩
  · have h' : ¬ a < b := by omega
    have HS : Hid (sgnI a b = 1) := by show _ = _; unfold sgnI; rw [if_neg h', if_pos h]
    go_enter Tryd.func42, Tryd.ntmps42
    go_wp2_with fail
    refine (HN.out a w).mono ?_
    rintro e w1 ⟨rfl, rfl⟩
    go_wp2_with fail
    refine (HN.out b _).mono ?_
    rintro e w1 ⟨rfl, rfl⟩
    go_wp2
    go_ret
    exact ⟨ret_int HS.out.symm, rfl⟩

/-- The first of two that is not 0. -/
theorem or2_any (b : Nat) (x y : Int) (w : World) (c0 : w.cell? ⟨b, 0, none⟩ = some (.int .i64 x)) (c1 : w.cell? ⟨b, 1, none⟩ = some (.int .i64 y)) :
    Calls Tryd.prog 41 #[.slice (some ⟨b, 0, none⟩) 2 2] w fun e w' => e = .returned (.int .i64 (if x = 0 then y else x)) ∧ w' = w := by
  by_cases hx : x = 0
  · subst hx
    rw [if_pos rfl]
    by_cases hy : y = 0
    · subst hy
      go_enter Tryd.func41, Tryd.ntmps41
      go_wp2
      refine wp_loop_rounds 3 ?_
      rw [rounds_succ]
      go_wp2
      rw [rounds_succ]
      go_wp2
      rw [rounds_succ]
      go_wp2
      go_ret
      exact ⟨rfl, rfl⟩
    · have hb : (y == 0) = false := beq_eq_false_iff_ne.2 hy
      go_enter Tryd.func41, Tryd.ntmps41
      go_wp2
      refine wp_loop_rounds 3 ?_
      rw [rounds_succ]
      go_wp2
      rw [rounds_succ]
      go_wp2
      go_ret
      exact ⟨rfl, rfl⟩
  · rw [if_neg hx]
    have hb : (x == 0) = false := beq_eq_false_iff_ne.2 hx
    go_enter Tryd.func41, Tryd.ntmps41
    go_wp2
    refine wp_loop_rounds 3 ?_
    rw [rounds_succ]
    go_wp2
    go_ret
    exact ⟨rfl, rfl⟩

end Go.Proofs.YtpnaoahlfhbbmabDoor

/- columnSet.list and slices.Compare once more: they only draw onwards. -/
namespace Go.Proofs.YtpnaoahlfhbbmabDoor
open Go.RowKit

theorem append_drawn {P : Program} (w : World) (base : Nat) (t ty e : TypeId) (i : TypeInfo) (z : Value) (size bytes : Nat) (ht : P.underlying t = some (.slice e)) (hi : P.info? e = some i) (hz : i.zero = some z) (hsize : i.size = size) (hby : i.bytes = bytes)
    (v : Value) (n : Nat) (xs : List Value) (hown : w.ownsRow base e size v n xs) (a : Addr) (m c : Nat) (news : List Value) (hl : news.length = m * size) (hnews : ∀ j u, news[j]? = some u → w.cell? (a.add j) = some u) (h1 : ∀ u ∈ news, u.oneCell' = true)
    (hm : 0 < m) (h63 : n + m ≤ maxLen) (hbytes : (n + m) * bytes ≤ 140737488355328) {v' : Value} {w' : World} (hr : (Builtin.append_ #[t, t] ty #[v, .slice (some a) m c]).run P w = .ok v' w') : w.drawn ≤ w'.drawn := by
  subst hsize hby
  have hs : n + m ≤ 9223372036854775807 := by simp only [maxLen] at h63; omega
  rcases hown.2 with ⟨rfl, rfl⟩ | ⟨g, cap, cur, rfl, hbg, hg, hnc, hcm, hcs, htake⟩
  · have h9 := run_append_nil (P := P) w t ty e i z ht hi hz a m c news hl hnews (by omega) (by omega) (by have hb := hbytes; simp only [Nat.zero_add] at hb; omega)
    rw [h9] at hr
    cases hr
    simp
  · by_cases hroom : n + m ≤ cap
    · have hfit : n * i.size + news.length ≤ cur.size := by rw [hl, hcs, ← Nat.add_mul]; exact Nat.mul_le_mul_right _ hroom
      have h9 := run_append_room (P := P) w t ty e i ht hi g n cap cur hg a m c news hl hnews h1 hroom hfit
      rw [h9] at hr
      cases hr
      simp
    · have h9 := run_append_grow (P := P) w t ty e i z ht hi hz ⟨g, 0, none⟩ n cap xs hown.1 (hown.cells (g := g) rfl) a m c news hl hnews (by omega) (by omega) (growslice_fits (by omega) hbytes)
      rw [h9] at hr
      cases hr
      simp

theorem wpList_app_drawn {P : Program} {w : World} {ops : Array Oper} {rest : List Oper} {o : Oper} {a : Act} {Q : Exit → Act → World → Prop} (hgd : o.guard = none) (s x : Operand) (t : TypeId)
    (ho : o.op = .call { callee := .builtin .append, args := #[s, x], argTypes := #[t, t] })
    (base : Nat) (e : TypeId) (i : TypeInfo) (z : Value) (size bytes : Nat) (ht : P.underlying t = some (.slice e)) (hi : P.info? e = some i) (hz : i.zero = some z)
    (hsize : i.size = size) (hby : i.bytes = bytes) (hzs : z.cells.size = size) (hsz : 0 < size)
    (v : Value) (n : Nat) (xs : List Value) (hs : a.eval s = v) (hown : w.ownsRow base e size v n xs)
    (ad : Addr) (m c : Nat) (news : List Value) (hx : a.eval x = .slice (some ad) m c) (hl : news.length = m * size) (hat : ∀ (j : Nat) (u : Value), news[j]? = some u → w.cell? (ad.add j) = some u) (h1 : ∀ u ∈ news, u.oneCell' = true) (hm : 0 < m)
    (h63 : n + m ≤ maxLen) (hbytes : (n + m) * bytes ≤ 140737488355328) (hbase : base ≤ w.heap.size)
    (h : ∀ r cap w', w'.ownsRow base e size (.slice r (n + m) cap) (n + m) (xs ++ news) → w.grownBy w' v.ownBlock → w.drawn ≤ w'.drawn → wpList P ops Q rest (a.put o.dst (.slice r (n + m) cap)) w') :
    wpList P ops Q (o :: rest) a w :=
  wpList_plain hgd fun K hK => by
    obtain ⟨v', w', hr, h2, h3, _, h5⟩ := run_append_own_at (P := P) w base t o.type e i z size bytes ht hi hz hsize hby hzs hsz v n xs hown ad m c news hl hat h1 h63 hbytes hbase
    have h6 := append_drawn w base t o.type e i z size bytes ht hi hz hsize hby v n xs hown ad m c news hl hat h1 hm h63 hbytes hr
    obtain ⟨r, cap, rfl⟩ := owns_slice h2
    unfold Oper.wp execOp
    simp only [ho, resolve, invoke, builtin, Sem.run_bind, Sem.run_pure, Result.andThen_ok, List.map_toArray, List.map_cons, List.map_nil, hs, hx, hr]
    exact hK _ _ (h r cap w' h2 h3 h6)

set_option maxRecDepth 100000 in
set_option maxHeartbeats 2000000 in
theorem list_drawn (S : Nat) (w : World) (hS : S < 64) (ht : TabB w) :
    Calls Tryd.prog 45 #[.int .u64 (S : Nat)] w fun e w' => ∃ r m d, e = .returned (.slice r m d) ∧ (bl S).length = m ∧ w'.ownsRow w.heap.size 3 1 (.slice r m d) m ((bl S).map (.int .i64)) ∧ Below w.heap.size w w' ∧ w.drawn ≤ w'.drawn := by
  obtain ⟨i0, hi, hz0, hz1, hz2⟩ := info_parts Tryd.infoInt
  have HT := Hid.mk ht
  clear ht
  go_enter Tryd.func45, Tryd.ntmps45
  go_wp2
  go_loopg [0, 3] S (fun g p q wr => ∃ (s : Nat) (zs : List Int) (r : Option Addr) (m d : Nat), s = g ∧ s < 64 ∧ p = .int .u64 (s : Nat) ∧ q = .slice r m d ∧ bl S = zs ++ bl s ∧ zs.length = m ∧ wr.ownsRow w.heap.size 3 1 (.slice r m d) m (zs.map (.int .i64)) ∧ Below w.heap.size w wr ∧ Hid (w.drawn ≤ wr.drawn))
  case atStart => exact ⟨S, [], none, 0, 0, rfl, hS, rfl, rfl, rfl, rfl, World.ownsRow_nil _ _ _ _, Below.refl _ _, Hid.mk (Nat.le_refl _)⟩
  case round =>
    obtain ⟨s, zs, r, m, d, rfl, hs, rfl, rfl, hbl, hm, hown, hbw, hdr⟩ := hrel
    by_cases h0 : s = 0
    · have HB : Hid (bl S = zs) := by show _ = _; rw [hbl, h0, bl_zero, List.append_nil]
      have hsb : ((s : Int) != 0) = false := by rw [h0]; rfl
      have HO := Hid.mk hown
      have HM := Hid.mk hm
      clear hbl hown hm
      go_wp2
      go_ret
      exact ⟨r, m, d, rfl, by rw [HB.out]; exact HM.out, by rw [HB.out]; exact HO.out, hbw, hdr.out⟩
    · obtain ⟨b1, b2⟩ := bl_step s hs h0
      have hm6 : m ≤ 6 := by have h9 := bl_len S; rw [hbl, List.length_append] at h9; omega
      rw [b1] at hbl
      have hsb : ((s : Int) != 0) = true := bne_iff_ne.2 (by omega)
      have hsub : IntKind.u64.wrap ((s : Int) - 1) = ((s - 1 : Nat) : Int) := by
        rw [show (s : Int) - 1 = ((s - 1 : Nat) : Int) by omega]; exact wrap64_small (by omega)
      have hand := u64_and_nat s (s - 1) (by omega) (by omega)
      have K := Hid.mk (tz_any s wr hs h0 (TabIs.below HT.out hbw))
      obtain ⟨Z, hZ⟩ : ∃ Z, tz s = Z := ⟨_, rfl⟩
      obtain ⟨Q, hQ⟩ : ∃ Q, s &&& (s - 1) = Q := ⟨_, rfl⟩
      rw [hZ] at hbl K
      rw [hQ] at hbl hand b2
      have HBL := Hid.mk hbl
      have HM := Hid.mk hm
      have HO := Hid.mk hown
      have HB := Hid.mk hbw
      have z := hbw.size
      clear hbl hm hown hbw hZ hQ b1 h0
      go_wp2_with fail
      refine K.out.mono ?_
      rintro e w1 ⟨rfl, rfl⟩
      go_wp2_with (at_builtin; refine wpList_app_drawn rfl (.tmp 6) (.tmp 9) 23 rfl w.heap.size 3 i0 (.int .i64 0) 1 8 Tryd.underlying23 hi hz0 hz1 hz2 rfl (by decide) _ _ _ rfl (HO.out.alloc _) ⟨w1.heap.size, 0, none⟩ 1 1 [.int .i64 (Z : Nat)] rfl rfl (news_at w1 _ _) (by intro u hu; simp at hu; subst hu; rfl) (by decide) (by unfold maxLen; omega) (by omega) (by simp; omega) ?_)
      intro r3 cap3 w3 ho3 hg3 hd3
      have HB3 : Hid (Below w.heap.size w w3) := (HB.out.alloc z _).grown hg3 (by simp; omega) (fun j hj => (HO.out.lt j hj).1)
      have HO3 : Hid (w3.ownsRow w.heap.size 3 1 (.slice r3 (m + 1) cap3) (m + 1) ((zs ++ [(Z : Int)]).map (.int .i64))) := by
        show World.ownsRow _ _ _ _ _ _ _
        rw [List.map_append]; exact ho3
      have HD3 : Hid (w.drawn ≤ w3.drawn) := Hid.mk (Nat.le_trans hdr.out (by simpa using hd3))
      clear ho3 hg3 hd3 hdr HO HB K
      go_wp2
      go_roundg Q
      case measure => omega
      case rel => exact ⟨Q, zs ++ [(Z : Int)], r3, m + 1, cap3, rfl, by omega, rfl, rfl, by rw [HBL.out]; simp, by have := HM.out; simp; omega, HO3.out, HB3.out, HD3⟩

/-- The first number that is unlike, or the shorter first. -/
def lexI : List Int → List Int → Int
  | [], [] => 0
  | [], _ :: _ => -1
  | _ :: _, [] => 1
  | x :: xs, y :: ys => if sgnI x y = 0 then lexI xs ys else sgnI x y

set_option maxRecDepth 100000 in
set_option maxHeartbeats 2000000 in
theorem lexI_any (a : Option Addr) (n c : Nat) (zs : List Int) (a' : Option Addr) (n' c' : Nat) (ys : List Int) (w : World) (hz : zs.length = n) (hn : n ≤ 64) (ha : At w a zs) (hz' : ys.length = n') (hn' : n' ≤ 64) (ha' : At w a' ys) :
    Calls Tryd.prog 44 #[.slice a n c, .slice a' n' c'] w fun e w' => e = .returned (.int .i64 (lexI zs ys)) ∧ w' = w := by
  have HA := Hid.mk (And.intro ha ha')
  have HZ := Hid.mk (And.intro hz hz')
  clear ha ha' hz hz'
  go_enter Tryd.func44, Tryd.ntmps44
  go_wp2_with fail
  go_loopw [11] (fun i wr => ∃ k : Nat, k ≤ n ∧ k ≤ n' ∧ i = .int .i64 k ∧ lexI zs ys = lexI (zs.drop k) (ys.drop k) ∧ wr = w) (fun i _ => n - (intOf i).toNat)
  case atStart => exact ⟨0, Nat.zero_le _, Nat.zero_le _, rfl, rfl, rfl⟩
  case round =>
    obtain ⟨k, hk, hk', rfl, hlex, rfl⟩ := hrel
    by_cases hlt : k < n
    · have hki : (k : Int) < (n : Int) := by omega
      obtain ⟨b, off, hab, _, hc⟩ := HA.out.1.some (by have := HZ.out.1; omega)
      subst hab
      have hcx := hc k (by have := HZ.out.1; omega)
      have hdx : zs.drop k = zs.getD k 0 :: zs.drop (k + 1) := by rw [List.drop_eq_getElem_cons (by have := HZ.out.1; omega)]; simp [List.getD, show k < zs.length by have := HZ.out.1; omega]
      obtain ⟨x, hx⟩ : ∃ x, x = zs.getD k 0 := ⟨_, rfl⟩
      rw [← hx] at hcx hdx
      rw [hdx] at hlex
      by_cases hge : n' ≤ k
      · have hgi : (n' : Int) ≤ (k : Int) := by omega
        rw [show ys.drop k = [] from List.drop_of_length_le (by have := HZ.out.2; omega)] at hlex
        have HL : Hid (lexI zs ys = 1) := hlex
        clear hlex hdx hc hx
        go_wp2
        go_ret
        exact ⟨ret_int HL.out.symm, rfl⟩
      · have hgi : ¬ (n' : Int) ≤ (k : Int) := by omega
        have hki' : (k : Int) < (n' : Int) := by omega
        obtain ⟨b', off', hab', _, hc'⟩ := HA.out.2.some (by have := HZ.out.2; omega)
        subst hab'
        have hcy := hc' k (by have := HZ.out.2; omega)
        have hdy : ys.drop k = ys.getD k 0 :: ys.drop (k + 1) := by rw [List.drop_eq_getElem_cons (by have := HZ.out.2; omega)]; simp [List.getD, show k < ys.length by have := HZ.out.2; omega]
        obtain ⟨y, hy⟩ : ∃ y, y = ys.getD k 0 := ⟨_, rfl⟩
        rw [← hy] at hcy hdy
        rw [hdy] at hlex
        have HC := Hid.mk (cmpI_any x y wr)
        have hl2 : lexI zs ys = if sgnI x y = 0 then lexI (zs.drop (k + 1)) (ys.drop (k + 1)) else sgnI x y := hlex
        obtain ⟨S, hS⟩ : ∃ S, sgnI x y = S := ⟨_, rfl⟩
        rw [hS] at HC hl2
        have HL := Hid.mk hl2
        clear hlex hl2 hdx hdy hc hc' hx hy hS
        go_wp2_with fail
        refine HC.out.mono ?_
        rintro e w1 ⟨rfl, rfl⟩
        by_cases h0 : S = 0
        · have HL2 : Hid (lexI zs ys = lexI (zs.drop (k + 1)) (ys.drop (k + 1))) := by show _ = _; rw [HL.out, if_pos h0]
          subst h0
          go_wp2
          go_roundw
          case rel => exact ⟨k + 1, by omega, by omega, by go_num, HL2.out, by first | rfl | trivial⟩
          case measure => simp [intOf]; omega
        · have HL2 : Hid (lexI zs ys = S) := by show _ = _; rw [HL.out, if_neg h0]
          have hb : (S == 0) = false := beq_eq_false_iff_ne.2 h0
          have hb2 : (S != 0) = true := bne_iff_ne.2 h0
          go_wp2
          go_ret
          exact ⟨ret_int HL2.out.symm, rfl⟩
    · obtain rfl : k = n := by omega
      rw [List.drop_of_length_le (by have := HZ.out.1; omega)] at hlex
      have hkk : ¬ (k : Int) < (k : Int) := by omega
      by_cases hsh : k < n'
      · have hsi : (k : Int) < (n' : Int) := by omega
        have HL : Hid (lexI zs ys = -1) := by
          show _ = _
          rw [hlex, List.drop_eq_getElem_cons (by have := HZ.out.2; omega)]; rfl
        clear hlex
        go_wp2
        go_ret
        exact ⟨ret_int HL.out.symm, rfl⟩
      · have hsi : ¬ (k : Int) < (n' : Int) := by omega
        have HL : Hid (lexI zs ys = 0) := by
          show _ = _
          rw [hlex, List.drop_of_length_le (by have := HZ.out.2; omega)]; rfl
        clear hlex
        go_wp2
        go_ret
        exact ⟨ret_int HL.out.symm, rfl⟩

end Go.Proofs.YtpnaoahlfhbbmabDoor
