/- Several texts of one proof, in build order: SumK, RunS, StrH, GroundG. -/
import Derived.Test.YtmkhdocjabflkaaM18
import Derived.Test.YtmkhdocjabflkaaM20
import Derived.Test.YtmkhdocjabflkaaM19
import Derived.Test.YtmkhdocjabflkaaM26
import Derived.Test.YtmkhdocjabflkaaM14
import Derived.Test.YtmkhdocjabflkaaM7

/- Plain: the sums of the first lists; what differs from the one ahead. -/
namespace Go.Proofs.Ytmkhdocjabflkaa

/-- The first k lists, added. -/
def sumK (f : Nat → List WRow) : Nat → List WRow
  | 0 => []
  | k + 1 => putAll (sumK f k) (f k)
theorem sumK_lst {q n : Nat} {f : Nat → List WRow} (h : ∀ k, k < n → Lst q 60 1000000 (f k)) : ∀ k, k ≤ n → Lst q (60 * k) (1000000 * k) (sumK f k) := by
  intro k hk
  induction k with
  | zero => exact (Lst.nil q).mono (by omega) (by omega)
  | succ k ih =>
    have := (ih (by omega)).put (h k (by omega)) (by omega) (by omega)
    exact this.mono (by omega) (by push_cast; omega)
/-- Each less the one ahead. -/
def diffK (f : Nat → List WRow) (k : Nat) : List WRow := putAll (f k) (scaleW (prevK f k) (-1))
theorem prevK_lst {q n : Nat} {f : Nat → List WRow} (h : ∀ k, k < n → Lst q 60 1000000 (f k)) (k : Nat) (hk : k < n) : Lst q 60 1000000 (prevK f k) := by
  unfold prevK
  split
  · exact (Lst.nil q).mono (by omega) (by omega)
  · exact h (k - 1) (by omega)
theorem diffK_lst {q n : Nat} {f : Nat → List WRow} (h : ∀ k, k < n → Lst q 60 1000000 (f k)) (k : Nat) (hk : k < n) : Lst q 120 2000000 (diffK f k) :=
  ((h k hk).put (prevK_lst h k hk).neg (by omega) (by omega)).mono (by omega) (by omega)

end Go.Proofs.Ytmkhdocjabflkaa

/- Contract of impl.runningSums. -/
namespace Go.Proofs.Ytmkhdocjabflkaa
open Go.RowKit Go.Maps

theorem AtC.cell {w : World} {a : Option Addr} {q M n : Nat} {f : Nat → List WRow} {bs : List Nat} (h : AtC w a q M (upto f n) bs) {k : Nat} (hk : k < n) :
    ∃ b0 off, a = some ⟨b0, off, none⟩ ∧ (∀ i, i < n → w.cell? ⟨b0, off + i, none⟩ = some (.map (some (bat bs i)))) ∧ Cnt w (bat bs k) q M (f k) := by
  have hun := upto_length f n
  have hce := h.each k (by rw [hun]; exact hk)
  rw [upto_at f n k hk] at hce
  rcases h.cells with h' | ⟨b0, off, e, hc⟩
  · rw [h'] at hun; simp at hun; omega
  · rw [hun] at hc; exact ⟨b0, off, e, hc, hce⟩

set_option maxRecDepth 100000 in
set_option maxHeartbeats 2000000 in
theorem runningSums_any (a : Option Addr) (n c q : Nat) (f : Nat → List WRow) (bs0 : List Nat) (w : World) (hn : n ≤ 12) (hL : ∀ k, k < n → Lst q 60 1000000 (f k)) (ha : AtC w a q 60 (upto f n) bs0) :
    Calls Try.prog 77 #[.slice a n c] w fun e w' => ∃ r d bs, e = .returned (.slice r n d) ∧ OwnC w' w.heap.size r n d q 720 (upto (fun k => sumK f (k + 1)) n) bs ∧ Below w.heap.size w w' := by
  obtain ⟨i0, hi, hz0, hz1, hz2⟩ := info_parts Try.infoC
  have hmm := @run_makeMap Try.prog
  have B0 : Below w.heap.size w (w.alloc (.map #[] 0)) := (Below.refl _ _).alloc (Nat.le_refl _) _
  go_enter Try.func77, Try.ntmps77
  go_wp2
  go_loopw [3, 4, 10] (fun o h i wr => ∃ (k : Nat) (r : Option Addr) (d b : Nat) (bs : List Nat), k ≤ n ∧ i = .int .i64 k ∧ o = .slice r k d ∧ h = .map (some b) ∧ OwnC wr w.heap.size r k d q 720 (upto (fun k => sumK f (k + 1)) k) bs ∧ Cnt wr b q (60 * k) (sumK f k) ∧ Below w.heap.size w wr) (fun _ _ i _ => n - (intOf i).toNat)
  case atStart => exact ⟨0, none, 0, w.heap.size, [], Nat.zero_le _, rfl, rfl, rfl, OwnC.nil _ _ _ _, Cnt.empty w q 0, B0⟩
  case round =>
    obtain ⟨k, r, d, b, bs, hk, rfl, rfl, rfl, ho, hcn, hbw⟩ := hrel
    by_cases hlt : k < n
    · obtain ⟨b0, off, rfl, hc, hce⟩ := (ha.below hbw).cell hlt
      have hcx := hc k hlt
      have HU := Hid.mk (upto_succ (fun k => sumK f (k + 1)) k)
      have hki : (k : Int) < (n : Int) := by omega
      have HLK := Hid.mk (sumK_lst hL k (by omega)).within
      have HLF := Hid.mk (hL k hlt).within
      have HCE := Hid.mk hce
      have HCN := Hid.mk hcn
      have HO := Hid.mk ho
      generalize bat bs0 k = b1 at *
      clear hc hce hcn ho
      go_wp2_with (first | (go_at_call 104; refine (plus_any _ _ q _ _ (sumK f k) (f k) (1000000 * k) 1000000 _ HCN.out HCE.out (by omega) (by omega) (by omega) (by omega) HLK.out HLF.out).mono ?_; rintro e w3 ⟨b3, rfl, hk3, hc3, hb3⟩; have B4 := hbw.trans (hb3.mono hbw.size); have HO3 := Hid.mk (HO.out.below hb3); have HC3 : Hid (Cnt w3 b3 q (60 * (k + 1)) (sumK f (k + 1))) := (hc3.mono (by omega)); clear hc3 hbw hb3) | (at_builtin; refine wpList_append_lies _ rfl (.tmp 17) (.tmp 19) 116 rfl w.heap.size 74 i0 (.map none) 1 8 Try.underlying116 hi hz0 hz1 hz2 rfl (by decide) (.slice r k d) k (bs.map mapV) rfl (HO3.out.own.alloc _) ⟨w3.heap.size, 0, none⟩ 1 1 [.map (some b3)] (by simp [Act.eval]) rfl (by simpa using news_at w3 #[.map (some b3)] 74) (by intro u hu; simp at hu; subst hu; rfl) (by decide) (by unfold maxLen; omega) (by omega) (by have := B4.size; simp; omega) (w3.heap.size + 1) (by simp) ?_; intro g2 cap2 w5 hown5 hgrow5 hat5 hlt5))
      have hbA : Below w3.heap.size w3 (w3.alloc (.cells #[.map (some b3)] 74)) := (Below.refl _ _).alloc (Nat.le_refl _) _
      have HP : Hid (OwnC w5 w.heap.size (some ⟨g2, 0, none⟩) (k + 1) cap2 q 720 (upto (fun k => sumK f (k + 1)) (k + 1)) (bs ++ [b3])) := by
        show OwnC _ _ _ _ _ _ _ _ _
        rw [HU.out]
        exact HO3.out.push (Below.refl _ _) (HC3.out.mono (by omega)) hbA hown5 hgrow5
      have HC5 : Hid (Cnt w5 b3 q (60 * (k + 1)) (sumK f (k + 1))) := cnt_own (HC3.out.below hbA) (HO3.out.below hbA).own hgrow5
      have hrb : ∀ j, (Value.slice r k d).ownBlock = some j → w.heap.size ≤ j := fun j hj => (HO3.out.own.lt j hj).1
      have HB5 := Hid.mk ((B4.alloc B4.size _).grown hgrow5 (by have := B4.size; simp; omega) (fun j hj => hrb j hj))
      clear hown5 hgrow5 hat5 hlt5 HO HO3 hbA hrb B4 hcx
      go_wp2
      go_roundw
      case rel => exact ⟨k + 1, _, _, _, _, by omega, by go_num, rfl, rfl, HP.out, HC5.out, HB5.out⟩
      case measure => simp [intOf]; omega
    · obtain rfl : k = n := by omega
      go_wp2
      go_ret
      exact ⟨_, _, _, rfl, ho, hbw⟩

end Go.Proofs.Ytmkhdocjabflkaa

/- Contract of impl.Integrate. -/
namespace Go.Proofs.Ytmkhdocjabflkaa
open Go.RowKit Go.Shelf Go.Maps

set_option maxRecDepth 100000 in
set_option maxHeartbeats 4000000 in
theorem implIntegrate (a : Option Addr) (n c : Nat) (ss : List Tab) (p : Int) (w : World) (hs : SmU ss n) (ha : AtSM w a ss) :
    Calls Try.prog 25 #[.agg #[.int .i64 p, .slice a n c]] w fun e w' => StrAns e w' w.heap.size (strB p ss (upto (fun k => sumK (fun k => (tat ss k).2) (k + 1)) n)) p (tabsOf p.toNat (upto (fun k => sumK (fun k => (tat ss k).2) (k + 1)) n) n) ∧ Below w.heap.size w w' := by
  have hz := hs.1
  obtain ⟨W, hW⟩ : ∃ W, W = (w.alloc (.cells #[.int .i64 p, .slice a n c] 45)).alloc (.cells #[.int .i64 0, .slice none 0 0] 45) := ⟨_, rfl⟩
  have zW : W.heap.size = w.heap.size + 1 + 1 := by rw [hW]; simp
  have B0 : Below w.heap.size w W := by rw [hW]; exact ((Below.refl _ _).alloc (Nat.le_refl _) _).alloc (by simp) _
  have c0 : W.cell? ⟨w.heap.size, 0, none⟩ = some (.int .i64 p) := by rw [hW]; exact alloc_keeps (pair0 w _ _ _) _
  have c1 : W.cell? ⟨w.heap.size, 1, none⟩ = some (.slice a n c) := by rw [hW]; exact alloc_keeps (pair1 w _ _ _) _
  have q0 : W.heap[w.heap.size + 1]? = some (.cells #[.int .i64 0, .slice none 0 0] 45 (0, 0)) := by
    rw [hW]
    have := heap_alloc_new (w.alloc (.cells #[.int .i64 p, .slice a n c] 45)) (.cells #[.int .i64 0, .slice none 0 0] 45)
    rwa [World.size_alloc] at this
  have e0 : W.cell? ⟨w.heap.size + 1, 0, none⟩ = some (.int .i64 0) := by rw [cell_of_row _ _ 0 _ _ (0, 0) q0]; rfl
  have e1 : W.cell? ⟨w.heap.size + 1, 1, none⟩ = some (.slice none 0 0) := by rw [cell_of_row _ _ 1 _ _ (0, 0) q0]; rfl
  have f0 : W.frozen? ⟨w.heap.size + 1, 0, none⟩ = false := frozen_of_row _ _ 0 _ _ q0
  have f1 : W.frozen? ⟨w.heap.size + 1, 1, none⟩ = false := frozen_of_row _ _ 1 _ _ q0
  have HA := ha.below B0
  clear ha q0
  cases hg : goodS p ss with
  | false =>
    have HG := Hid.mk hg
    clear hg
    go_enter Try.func25, Try.ntmps25
    go_wp2_with fail
    rw [← hW]
    clear hW
    refine (implGoodStream _ _ _ ss _ _ hs HA).mono ?_
    rintro e w1 ⟨rfl, hb1⟩
    rw [HG.out]
    have B1 := B0.trans (hb1.mono B0.size)
    have f0 := frozen_later hb1 e0 f0
    have f1 := frozen_later hb1 e1 f1
    have e0 := cell_later hb1 e0
    have e1 := cell_later hb1 e1
    have c0 := cell_later hb1 c0
    have c1 := cell_later hb1 c1
    go_wp2
    refine bodyPost_ret (v := .tuple #[.agg #[.int .i64 0, .slice none 0 0], .bool false]) (by simp [results, Try.results25, go_sem, e0, e1]) rfl ⟨StrAns.zero (strB_no HG.out) rfl, ?_⟩
    exact (B1.setCell (by show w.heap.size ≤ w.heap.size + 1; omega) _).setCell (by show w.heap.size ≤ w.heap.size + 1; omega) _
  | true =>
    have HG := Hid.mk hg
    obtain ⟨hinc, hn12, hgd⟩ := goodS_parts hg
    rw [hz] at hn12 hgd
    obtain ⟨q, hq⟩ : ∃ q : Nat, p = q := ⟨p.toNat, by have := inc_range hinc; omega⟩
    subst hq
    have h6 : q ≤ 6 := by have := inc_range hinc; omega
    have HGD : Hid (∀ k, k < n → goodT q (tat ss k).2 = true) := fun k hk => (hgd k hk).2
    have HNB : Hid (strB q ss (upto (fun k => sumK (fun k => (tat ss k).2) (k + 1)) n) = allG q (upto (fun k => sumK (fun k => (tat ss k).2) (k + 1)) n)) := strB_yes HG.out
    clear hg hgd hinc
    go_enter Try.func25, Try.ntmps25
    go_wp2_with fail
    rw [← hW]
    clear hW
    refine (implGoodStream _ _ _ ss _ _ hs HA).mono ?_
    rintro e w1 ⟨rfl, hb1⟩
    rw [HG.out]
    have B1 := B0.trans (hb1.mono B0.size)
    have f0 := frozen_later hb1 e0 f0
    have f1 := frozen_later hb1 e1 f1
    have e0 := cell_later hb1 e0
    have e1 := cell_later hb1 e1
    have c0 := cell_later hb1 c0
    have c1 := cell_later hb1 c1
    have HA2 := HA.below hb1
    go_wp2_with fail
    refine wp_region_held_drew (S := fun w' => w'.cell? ⟨w.heap.size, 0, none⟩ = some (.int .i64 q) ∧ w'.cell? ⟨w.heap.size, 1, none⟩ = some (.slice a n c)) (by kernel_rfl) ?_ (fun hHeld => ?_)
    · (try dsimp only)
      exact ⟨c0, c1⟩
    refine wpAnyH_take (i := 0) (oi := ?_) (v := ?_) ?_ (by kernel_rfl) (by kernel_rfl) (by kernel_rfl) ?_ (Or.inl ⟨?_, ?_⟩) (by assumption) ?_
    rotate_left 2
    · (simp only [List.getElem?_toArray, List.getElem?_cons_zero]; rfl)
    · exact fun _ _ _ h => h
    · rfl
    · (intro wS hSw; (try dsimp only at hSw); go_simp; (try with_reducible rfl))
    (try simp only [Act.put, List.setIfInBounds_toArray, List.set_cons_zero, List.set_cons_succ])
    refine wpAnyH_take (i := 4) (oi := ?_) (v := ?_) ?_ (by kernel_rfl) (by kernel_rfl) (by kernel_rfl) ?_ (Or.inl ⟨?_, ?_⟩) (by assumption) ?_
    rotate_left 2
    · (simp only [List.getElem?_toArray, List.getElem?_cons_zero, List.getElem?_cons_succ]; rfl)
    · exact fun _ _ _ h => h
    · rfl
    · (intro wS hSw; (try dsimp only at hSw); go_simp; (try with_reducible rfl))
    (try simp only [Act.put, List.setIfInBounds_toArray, List.set_cons_zero, List.set_cons_succ])
    refine wpAnyH_take (i := 5) (oi := ?_) (v := ?_) ?_ (by kernel_rfl) (by kernel_rfl) (by kernel_rfl) ?_ (Or.inl ⟨?_, ?_⟩) (by assumption) ?_
    rotate_left 2
    · (simp only [List.getElem?_toArray, List.getElem?_cons_zero, List.getElem?_cons_succ]; rfl)
    · exact fun _ _ _ h => h
    · rfl
    · (intro wS hSw; (try dsimp only at hSw); go_simp; (try with_reducible rfl))
    (try simp only [Act.put, List.setIfInBounds_toArray, List.set_cons_zero, List.set_cons_succ])
    refine wpAnyH_ready (rs := [1]) (by kernel_rfl) (by simp) ?_
    refine AllReadyH.cons (o := ?_) ?_ (fun K hK => ?_) AllReadyH.nil
    rotate_left
    · (simp only [List.getElem?_toArray, List.getElem?_cons_zero, List.getElem?_cons_succ]; rfl)
    go_simp
    go_at_call 78; refine (countsOfStream_any _ _ _ q ss _ _ hs hn12 HGD.out (HA2.below (Below.refl _ _).drew)).mono ?_; rintro e w3 ⟨r3, d3, bs3, rfl, HC, hb3⟩; have f0 := frozen_later (w := w1.drew) hb3 e0 f0; have f1 := frozen_later (w := w1.drew) hb3 e1 f1; have e0 := cell_later hb3 e0; have e1 := cell_later hb3 e1; have c0 := cell_later hb3 c0; have c1 := cell_later hb3 c1; have B3 := B1.drew.trans (hb3.mono B1.size)
    (try go_wp2_with fail)
    refine hK.out _ _ ?_ (fun hHeld' => ?_)
    · (try dsimp only)
      exact ⟨c0, c1⟩
    clear hK K hHeld
    have hHeld := hHeld'
    clear hHeld'
    (try simp only [Act.put, List.setIfInBounds_toArray, List.set_cons_zero, List.set_cons_succ])
    refine wpAnyH_ready (rs := [2]) (by kernel_rfl) (by simp) ?_
    refine AllReadyH.cons (o := ?_) ?_ (fun K hK => ?_) AllReadyH.nil
    rotate_left
    · (simp only [List.getElem?_toArray, List.getElem?_cons_zero, List.getElem?_cons_succ]; rfl)
    go_simp
    go_at_call 77; refine (runningSums_any _ _ _ q (fun k => (tat ss k).2) bs3 _ hn12 (fun k hk => goodT_lst (HGD.out k hk)) HC.atC).mono ?_; rintro e w4 ⟨r4, d4, bs4, rfl, HC4, hb4⟩; obtain ⟨M4, hMe⟩ : ∃ M4, M4 = 720 := ⟨_, rfl⟩; rw [← hMe] at HC4; have hM4 : M4 ≤ 1000000 := (by omega); clear hMe; have f0 := frozen_later hb4 e0 f0; have f1 := frozen_later hb4 e1 f1; have e0 := cell_later hb4 e0; have e1 := cell_later hb4 e1; have c0 := cell_later hb4 c0; have c1 := cell_later hb4 c1; have B4 := B3.trans (hb4.mono B3.size)
    (try go_wp2_with fail)
    refine hK.out _ _ ?_ (fun hHeld' => ?_)
    · (try dsimp only)
      exact ⟨c0, c1⟩
    clear hK K hHeld
    have hHeld := hHeld'
    clear hHeld'
    (try simp only [Act.put, List.setIfInBounds_toArray, List.set_cons_zero, List.set_cons_succ])
    refine wpAnyH_ready (rs := [3]) (by kernel_rfl) (by simp) ?_
    refine AllReadyH.cons (o := ?_) ?_ (fun K hK => ?_) AllReadyH.nil
    rotate_left
    · (simp only [List.getElem?_toArray, List.getElem?_cons_zero, List.getElem?_cons_succ]; rfl)
    go_simp
    go_at_call 76; refine (values_any _ _ _ _).mono ?_; rintro e w5 ⟨rfl, hw5⟩; have hb5 : Below w4.heap.size w4 w5 := (by rw [hw5]; exact (Below.refl _ _).alloc (Nat.le_refl _) _); have hT5 : w5.cell? ⟨w4.heap.size, 0, none⟩ = some (.slice r4 n d4) := (by rw [hw5]; simp); clear hw5; have f0 := frozen_later hb5 e0 f0; have f1 := frozen_later hb5 e1 f1; have e0 := cell_later hb5 e0; have e1 := cell_later hb5 e1; have c0 := cell_later hb5 c0; have c1 := cell_later hb5 c1; have B5 := B4.trans (hb5.mono B4.size); have HH5 := values1_hands w4.heap.size r4 n d4 q M4 (upto (fun k => sumK (fun k => (tat ss k).2) (k + 1)) n) bs4 w5 HC4.lenx (by omega) hT5 (HC4.below hb5).atC
    (try go_wp2_with fail)
    refine hK.out _ _ ?_ (fun hHeld' => ?_)
    · (try dsimp only)
      exact ⟨c0, c1⟩
    clear hK K hHeld
    have hHeld := hHeld'
    clear hHeld'
    (try simp only [Act.put, List.setIfInBounds_toArray, List.set_cons_zero, List.set_cons_succ])
    refine wpAnyH_ready (rs := [6]) (by kernel_rfl) (by simp) ?_
    refine AllReadyH.cons (o := ?_) ?_ (fun K hK => ?_) AllReadyH.nil
    rotate_left
    · (simp only [List.getElem?_toArray, List.getElem?_cons_zero, List.getElem?_cons_succ]; rfl)
    go_simp
    go_at_call 75; refine (streamOf_any 124 #[.pointer (some ⟨w4.heap.size, 0, none⟩)] q M4 (upto (fun k => sumK (fun k => (tat ss k).2) (k + 1)) n) w5 (enters_of Try.func124 (by kernel_rfl) rfl) HH5 hM4 h6 (by rw [HC4.lenx]; exact hn12)).mono ?_; rintro e w6 ⟨⟨r6, m6, d6, rfl, ho6⟩, hb6⟩; generalize hok6 : allG q (upto (fun k => sumK (fun k => (tat ss k).2) (k + 1)) n) = ok6 at ho6 ⊢; have HOK := Hid.mk hok6; clear hok6; have t0 := frozen_later hb6 e0 f0; have t1 := frozen_later hb6 e1 f1; have s0 := cell_later hb6 e0; have s1 := cell_later hb6 e1; have i0 := cell_later hb6 c0; have i1 := cell_later hb6 c1
    (try go_wp2_with fail)
    refine hK.out _ _ ?_ (fun hHeld' => ?_)
    · (try dsimp only)
      exact ⟨i0, i1⟩
    clear hK K hHeld
    have hHeld := hHeld'
    clear hHeld'
    (try simp only [Act.put, List.setIfInBounds_toArray, List.set_cons_zero, List.set_cons_succ])
    refine wpAnyH_take (i := 7) (oi := ?_) (v := ?_) ?_ (by kernel_rfl) (by kernel_rfl) (by kernel_rfl) ?_ (Or.inl ⟨?_, ?_⟩) (by assumption) ?_
    rotate_left 2
    · (simp only [List.getElem?_toArray, List.getElem?_cons_zero, List.getElem?_cons_succ]; rfl)
    · exact fun _ _ _ h => h
    · rfl
    · (intro wS hSw; (try dsimp only at hSw); go_simp; (try with_reducible rfl))
    (try simp only [Act.put, List.setIfInBounds_toArray, List.set_cons_zero, List.set_cons_succ])
    refine wpAnyH_take (i := 8) (oi := ?_) (v := ?_) ?_ (by kernel_rfl) (by kernel_rfl) (by kernel_rfl) ?_ (Or.inl ⟨?_, ?_⟩) (by assumption) ?_
    rotate_left 2
    · (simp only [List.getElem?_toArray, List.getElem?_cons_zero, List.getElem?_cons_succ]; rfl)
    · exact fun _ _ _ h => h
    · rfl
    · (intro wS hSw; (try dsimp only at hSw); go_simp; (try with_reducible rfl))
    (try simp only [Act.put, List.setIfInBounds_toArray, List.set_cons_zero, List.set_cons_succ])
    refine wpAnyH_ready (rs := [9]) (by kernel_rfl) (by simp) ?_
    refine AllReadyH.cons (o := ?_) ?_ (fun K hK => ?_) AllReadyH.nil
    rotate_left
    · (simp only [List.getElem?_toArray, List.getElem?_cons_zero, List.getElem?_cons_succ]; rfl)
    go_simp
    skip
    (try go_wp2_with fail)
    refine hK.out _ _ ?_ (fun hHeld' => ?_)
    · (try dsimp only)
      exact ⟨keep_far (keep_far i0 (by omega)) (by omega), keep_far (keep_far i1 (by omega)) (by omega)⟩
    clear hK K hHeld
    have hHeld := hHeld'
    clear hHeld'
    (try simp only [Act.put, List.setIfInBounds_toArray, List.set_cons_zero, List.set_cons_succ])
    refine wpAnyH_take (i := 10) (oi := ?_) (v := ?_) ?_ (by kernel_rfl) (by kernel_rfl) (by kernel_rfl) ?_ (Or.inl ⟨?_, ?_⟩) (by assumption) ?_
    rotate_left 2
    · (simp only [List.getElem?_toArray, List.getElem?_cons_zero, List.getElem?_cons_succ]; rfl)
    · exact fun _ _ _ h => h
    · rfl
    · (intro wS hSw; (try dsimp only at hSw); go_simp; (try with_reducible rfl))
    (try simp only [Act.put, List.setIfInBounds_toArray, List.set_cons_zero, List.set_cons_succ])
    refine wpAnyH_done (by kernel_rfl) ?_ _
    have B6 := B5.trans (hb6.mono B5.size)
    have zR : w.heap.size + 1 < w5.heap.size := World.block_lt_of_cell? _ _ (by assumption : w5.cell? ⟨w.heap.size + 1, 0, none⟩ = _)
    have e0 := s0
    have e1 := s1
    have HLN := Hid.mk HC4.lenx
    clear HA HA2 hb1 hb3 hb4 hb5 hb6 hHeld HC HC4 HH5 hT5
    go_wp2
    refine bodyPost_ret (v := .tuple #[.agg #[.int .i64 (ansP ok6 q), .slice r6 m6 d6], .bool ok6]) (by simp [results, Try.results25, go_sem, e0, e1]) rfl ⟨?_, ?_⟩
    · rw [HNB.out, HOK.out]
      refine ⟨r6, m6, d6, rfl, ?_⟩
      have hTB : tabsOf (Int.toNat q) (upto (fun k => sumK (fun k => (tat ss k).2) (k + 1)) n) n = tabsOf q (upto (fun k => sumK (fun k => (tat ss k).2) (k + 1)) n) (upto (fun k => sumK (fun k => (tat ss k).2) (k + 1)) n).length := by rw [HLN.out]; rfl
      rw [hTB]
      exact (ho6.set2 (g := w.heap.size + 1) (.inl zR) _ _).widen (Nat.le_of_lt (Nat.lt_of_le_of_lt (Nat.le_succ _) zR)) (by simp [World.setCell]) (Nat.le_refl _)
    · exact (B6.setCell (by show w.heap.size ≤ w.heap.size + 1; omega) _).setCell (by show w.heap.size ≤ w.heap.size + 1; omega) _

end Go.Proofs.Ytmkhdocjabflkaa

/- Cells that mean weighted rows, all of them in blocks of G; what keeps them. -/
namespace Go.Proofs.Ytmkhdocjabflkaa
open Go.RowKit

/-- A slice of ints that lies in a block of G. -/
def AtG (G : Nat → Prop) (w : World) (a : Option Addr) (zs : List Int) : Prop := At w a zs ∧ (zs = [] ∨ ∃ b off, a = some ⟨b, off, none⟩ ∧ G b)
theorem AtG.below {G : Nat → Prop} {w w' : World} {a : Option Addr} {zs : List Int} (h : AtG G w a zs) (hb : Below w.heap.size w w') : AtG G w' a zs := ⟨h.1.below hb, h.2⟩
theorem AtG.owned {G : Nat → Prop} {w : World} {base : Nat} {e : TypeId} {a : Option Addr} {n c : Nat} {zs : List Int} (hG : ∀ k, base ≤ k → G k) (h : w.ownsRow base e 1 (.slice a n c) n (zs.map (.int .i64))) : AtG G w a zs := by
  refine ⟨At.owned h, ?_⟩
  rcases h.2 with ⟨_, hx⟩ | ⟨g, cap, cur, e, hb, _⟩
  · left
    have h1 := h.1
    rw [hx] at h1
    simp only [List.length_map, Nat.zero_mul] at h1
    exact List.eq_nil_of_length_eq_zero h1
  · cases e
    exact .inr ⟨g, 0, rfl, hG g hb⟩
theorem AtG.mono {G G' : Nat → Prop} {w : World} {a : Option Addr} {zs : List Int} (h : AtG G w a zs) (hG : ∀ k, k < w.heap.size → G k → G' k) : AtG G' w a zs := by
  refine ⟨h.1, ?_⟩
  rcases h.2 with h0 | ⟨b, off, rfl, hg⟩
  · exact .inl h0
  · rcases h.1 with h0 | ⟨b', off', e, hc⟩
    · exact .inl h0
    · by_cases hz : zs = []
      · exact .inl hz
      · cases e
        exact .inr ⟨b, off, rfl, hG b (World.block_lt_of_cell? _ _ (hc 0 (List.length_pos_iff.2 hz))) hg⟩
theorem AtG.grown {G : Nat → Prop} {w w' : World} {row : Option Nat} {a : Option Addr} {zs : List Int} (h : AtG G w a zs) (hg : w.grownBy w' row) (hr : ∀ k, row = some k → ¬ G k) : AtG G w' a zs := by
  refine ⟨?_, h.2⟩
  rcases h.2 with h0 | ⟨b, off, rfl, hb⟩
  · exact .inl h0
  · rcases h.1 with h0 | ⟨b', off', e, hc⟩
    · exact .inl h0
    · cases e
      exact .inr ⟨b, off, rfl, fun i hi => hg.cell (hc i hi) (fun e => hr b e.symm hb)⟩
theorem At.toG {w : World} {a : Option Addr} {zs : List Int} (h : At w a zs) : AtG (fun _ => True) w a zs := by
  refine ⟨h, ?_⟩
  rcases h with h0 | ⟨b, off, rfl, _⟩
  · exact .inl h0
  · exact .inr ⟨b, off, rfl, trivial⟩

/-- Cells that mean weighted rows. -/
def MeansG (G : Nat → Prop) (w : World) : List Value → List WRow → Prop
  | [], [] => True
  | u :: v :: cs, t :: ts => (∃ a c, u = .slice a t.1.length c ∧ (a = none → c = 0) ∧ AtG G w a t.1) ∧ t.1.length ≤ 9223372036854775807 ∧ v = .int .i64 t.2 ∧ MeansG G w cs ts
  | _, _ => False

theorem MeansG.nil (G : Nat → Prop) (w : World) : MeansG G w [] [] := trivial
theorem MeansG.one {G : Nat → Prop} {w : World} {a : Option Addr} {zs : List Int} {n c : Nat} {x : Int} (hn : zs.length = n) (h6 : n ≤ 9223372036854775807) (hnil : a = none → c = 0) (h : AtG G w a zs) : MeansG G w [.slice a n c, .int .i64 x] [(zs, x)] :=
  ⟨⟨a, c, by rw [hn], hnil, h⟩, by simp only [hn]; exact h6, rfl, trivial⟩

set_option linter.unusedVariables false in
theorem MeansG.length {G : Nat → Prop} {w : World} : ∀ {cs : List Value} {ts : List WRow}, MeansG G w cs ts → cs.length = ts.length * 2
  | [], [], _ => rfl
  | [], _ :: _, h => h.elim
  | [_], [], h => h.elim
  | [_], _ :: _, h => h.elim
  | _ :: _ :: _, [], h => h.elim
  | u :: v :: cs, t :: ts, ⟨_, _, _, h⟩ => by have := MeansG.length h; simp [this]; omega

set_option linter.unusedVariables false in
theorem MeansG.below {G : Nat → Prop} {w w' : World} (hb : Below w.heap.size w w') : ∀ {cs : List Value} {ts : List WRow}, MeansG G w cs ts → MeansG G w' cs ts
  | [], [], _ => trivial
  | [], _ :: _, h => h.elim
  | [_], [], h => h.elim
  | [_], _ :: _, h => h.elim
  | _ :: _ :: _, [], h => h.elim
  | u :: v :: cs, t :: ts, ⟨⟨a, c, h1, h0, h2⟩, h3, h4, h5⟩ => ⟨⟨a, c, h1, h0, h2.below hb⟩, h3, h4, MeansG.below hb h5⟩

set_option linter.unusedVariables false in
theorem MeansG.append {G : Nat → Prop} {w : World} : ∀ {cs cs' : List Value} {ts ts' : List WRow}, MeansG G w cs ts → MeansG G w cs' ts' → MeansG G w (cs ++ cs') (ts ++ ts')
  | [], _, [], _, _, h => h
  | [], _, _ :: _, _, h, _ => h.elim
  | [_], _, [], _, h, _ => h.elim
  | [_], _, _ :: _, _, h, _ => h.elim
  | _ :: _ :: _, _, [], _, h, _ => h.elim
  | u :: v :: cs, cs', t :: ts, ts', ⟨h1, h2, h3, h4⟩, h => ⟨h1, h2, h3, MeansG.append h4 h⟩

set_option linter.unusedVariables false in
theorem MeansG.take {G : Nat → Prop} {w : World} : ∀ {cs : List Value} {ts : List WRow} (k : Nat), MeansG G w cs ts → MeansG G w (cs.take (k * 2)) (ts.take k)
  | [], [], _, _ => by simp [MeansG]
  | [], _ :: _, _, h => h.elim
  | [_], [], _, h => h.elim
  | [_], _ :: _, _, h => h.elim
  | _ :: _ :: _, [], _, h => h.elim
  | u :: v :: cs, t :: ts, 0, _ => by simp [MeansG]
  | u :: v :: cs, t :: ts, k + 1, ⟨h1, h2, h3, h4⟩ => by
    rw [show (k + 1) * 2 = k * 2 + 1 + 1 by omega]
    exact ⟨h1, h2, h3, MeansG.take k h4⟩
set_option linter.unusedVariables false in
theorem MeansG.drop {G : Nat → Prop} {w : World} : ∀ {cs : List Value} {ts : List WRow} (k : Nat), MeansG G w cs ts → MeansG G w (cs.drop (k * 2)) (ts.drop k)
  | [], [], _, _ => by simp [MeansG]
  | [], _ :: _, _, h => h.elim
  | [_], [], _, h => h.elim
  | [_], _ :: _, _, h => h.elim
  | _ :: _ :: _, [], _, h => h.elim
  | u :: v :: cs, t :: ts, 0, h => by simpa using h
  | u :: v :: cs, t :: ts, k + 1, ⟨h1, h2, h3, h4⟩ => by
    rw [show (k + 1) * 2 = k * 2 + 1 + 1 by omega]
    exact MeansG.drop k h4

set_option linter.unusedVariables false in
theorem MeansG.atG {G : Nat → Prop} {w : World} : ∀ {cs : List Value} {ts : List WRow} (i : Nat), MeansG G w cs ts → i < ts.length → ∃ a c, cs[i * 2]? = some (.slice a (wat ts i).1.length c) ∧ cs[i * 2 + 1]? = some (.int .i64 (wat ts i).2) ∧ (wat ts i).1.length ≤ 9223372036854775807 ∧ (a = none → c = 0) ∧ AtG G w a (wat ts i).1
  | [], [], _, _, h => by simp at h
  | [], _ :: _, _, h, _ => h.elim
  | [_], [], _, h, _ => h.elim
  | [_], _ :: _, _, h, _ => h.elim
  | _ :: _ :: _, [], _, h, _ => h.elim
  | u :: v :: cs, t :: ts, 0, ⟨⟨a, c, h1, h0, h2⟩, h3, h4, _⟩, _ => ⟨a, c, by simp [wat, h1], by simp [wat, h4], by simpa [wat] using h3, h0, by simpa [wat] using h2⟩
  | u :: v :: cs, t :: ts, i + 1, ⟨_, _, _, h5⟩, hi => by
    obtain ⟨a, c, k1, k2, k3, k0, k4⟩ := MeansG.atG i h5 (by simpa using hi)
    have e : wat (t :: ts) (i + 1) = wat ts i := by simp [wat]
    rw [e]
    refine ⟨a, c, ?_, ?_, k3, k0, k4⟩
    · rw [show (i + 1) * 2 = i * 2 + 1 + 1 by omega]; simpa using k1
    · rw [show (i + 1) * 2 + 1 = (i * 2 + 1) + 1 + 1 by omega]; simpa using k2

set_option linter.unusedVariables false in
theorem MeansG.oneCell {G : Nat → Prop} {w : World} : ∀ {cs : List Value} {ts : List WRow}, MeansG G w cs ts → ∀ u ∈ cs, u.oneCell' = true
  | [], [], _, _, h => by cases h
  | [], _ :: _, h, _, _ => h.elim
  | [_], [], h, _, _ => h.elim
  | [_], _ :: _, h, _, _ => h.elim
  | _ :: _ :: _, [], h, _, _ => h.elim
  | u :: v :: cs, t :: ts, ⟨⟨a, c, h1, _, _⟩, _, h4, h5⟩, x, hx => by
    rcases List.mem_cons.1 hx with rfl | hx
    · subst h1; rfl
    · rcases List.mem_cons.1 hx with rfl | hx
      · subst h4; rfl
      · exact MeansG.oneCell h5 x hx

set_option linter.unusedVariables false in
theorem MeansG.means {G : Nat → Prop} {w : World} : ∀ {cs : List Value} {ts : List WRow}, MeansG G w cs ts → Means w cs ts
  | [], [], _ => trivial
  | [], _ :: _, h => h.elim
  | [_], [], h => h.elim
  | [_], _ :: _, h => h.elim
  | _ :: _ :: _, [], h => h.elim
  | u :: v :: cs, t :: ts, ⟨⟨a, c, h1, h0, h2⟩, h3, h4, h5⟩ => ⟨⟨a, c, h1, h0, h2.1⟩, h3, h4, MeansG.means h5⟩
set_option linter.unusedVariables false in
theorem MeansG.mono {G G' : Nat → Prop} {w : World} (hG : ∀ k, k < w.heap.size → G k → G' k) : ∀ {cs : List Value} {ts : List WRow}, MeansG G w cs ts → MeansG G' w cs ts
  | [], [], _ => trivial
  | [], _ :: _, h => h.elim
  | [_], [], h => h.elim
  | [_], _ :: _, h => h.elim
  | _ :: _ :: _, [], h => h.elim
  | u :: v :: cs, t :: ts, ⟨⟨a, c, h1, h0, h2⟩, h3, h4, h5⟩ => ⟨⟨a, c, h1, h0, h2.mono hG⟩, h3, h4, MeansG.mono hG h5⟩
set_option linter.unusedVariables false in
theorem MeansG.grown {G : Nat → Prop} {w w' : World} {row : Option Nat} (hg : w.grownBy w' row) (hr : ∀ k, row = some k → ¬ G k) : ∀ {cs : List Value} {ts : List WRow}, MeansG G w cs ts → MeansG G w' cs ts
  | [], [], _ => trivial
  | [], _ :: _, h => h.elim
  | [_], [], h => h.elim
  | [_], _ :: _, h => h.elim
  | _ :: _ :: _, [], h => h.elim
  | u :: v :: cs, t :: ts, ⟨⟨a, c, h1, h0, h2⟩, h3, h4, h5⟩ => ⟨⟨a, c, h1, h0, h2.grown hg hr⟩, h3, h4, MeansG.grown hg hr h5⟩
set_option linter.unusedVariables false in
theorem Means.toG {w : World} : ∀ {cs : List Value} {ts : List WRow}, Means w cs ts → MeansG (fun _ => True) w cs ts
  | [], [], _ => trivial
  | [], _ :: _, h => h.elim
  | [_], [], h => h.elim
  | [_], _ :: _, h => h.elim
  | _ :: _ :: _, [], h => h.elim
  | u :: v :: cs, t :: ts, ⟨⟨a, c, h1, h0, h2⟩, h3, h4, h5⟩ => ⟨⟨a, c, h1, h0, h2.toG⟩, h3, h4, Means.toG h5⟩
theorem MeansG.at {G : Nat → Prop} {w : World} {cs : List Value} {ts : List WRow} (i : Nat) (h : MeansG G w cs ts) (hi : i < ts.length) : ∃ a c, cs[i * 2]? = some (.slice a (wat ts i).1.length c) ∧ cs[i * 2 + 1]? = some (.int .i64 (wat ts i).2) ∧ (wat ts i).1.length ≤ 9223372036854775807 ∧ (a = none → c = 0) ∧ At w a (wat ts i).1 := h.means.at i hi

/-- A slice of weighted rows, all in blocks of G. -/
def AtMG (G : Nat → Prop) (w : World) (a : Option Addr) (ts : List WRow) : Prop :=
  ts = [] ∨ ∃ b off cs, a = some ⟨b, off, none⟩ ∧ G b ∧ MeansG G w cs ts ∧ ∀ j u, cs[j]? = some u → w.cell? ⟨b, off + j, none⟩ = some u
section
variable {G G' : Nat → Prop} {w w' : World} {a : Option Addr} {ts : List WRow}
theorem AtMG.atM (h : AtMG G w a ts) : AtM w a ts := h.imp id fun ⟨b, off, cs, e, _, hm, hc⟩ => ⟨b, off, cs, e, hm.means, hc⟩
theorem AtMG.below (h : AtMG G w a ts) (hb : Below w.heap.size w w') : AtMG G w' a ts := h.imp id fun ⟨b, off, cs, e, hg, hm, hc⟩ => ⟨b, off, cs, e, hg, hm.below hb, fun j u hj => cell_later hb (hc j u hj)⟩
theorem atMG_nil (G : Nat → Prop) (w : World) (a : Option Addr) : AtMG G w a [] := .inl rfl
theorem AtMG.mono (h : AtMG G w a ts) (hG : ∀ k, k < w.heap.size → G k → G' k) : AtMG G' w a ts := by
  rcases h with h | ⟨b, off, cs, e, hg, hm, hc⟩
  · exact .inl h
  · by_cases ht : ts = []
    · exact .inl ht
    · have hl := hm.length
      have hp := List.length_pos_iff.2 ht
      obtain ⟨u, hu⟩ : ∃ u, cs[0]? = some u := ⟨_, List.getElem?_eq_getElem (by omega)⟩
      exact .inr ⟨b, off, cs, e, hG b (World.block_lt_of_cell? _ _ (hc 0 u hu)) hg, hm.mono hG, hc⟩
theorem AtMG.grown {row : Option Nat} (h : AtMG G w a ts) (hg : w.grownBy w' row) (hr : ∀ k, row = some k → ¬ G k) : AtMG G w' a ts := by
  rcases h with h | ⟨b, off, cs, e, hb, hm, hc⟩
  · exact .inl h
  · exact .inr ⟨b, off, cs, e, hb, hm.grown hg hr, fun j u hj => hg.cell (hc j u hj) (fun e => hr b e.symm hb)⟩
theorem AtM.toG (h : AtM w a ts) (hG : ∀ k, k < w.heap.size → G k) : AtMG G w a ts := by
  have h1 : AtMG (fun _ => True) w a ts := h.imp id fun ⟨b, off, cs, e, hm, hc⟩ => ⟨b, off, cs, e, trivial, hm.toG, hc⟩
  exact h1.mono fun k hk _ => hG k hk
theorem atMG_cells {b off : Nat} (h : AtMG G w (some ⟨b, off, none⟩) ts) : ∃ cs, MeansG G w cs ts ∧ ∀ j u, cs[j]? = some u → w.cell? ⟨b, off + j, none⟩ = some u := by
  rcases h with rfl | ⟨b', off', cs, he, _, hm, hc⟩
  · exact ⟨[], trivial, fun j u h => by simp at h⟩
  · simp only [Option.some.injEq, Addr.mk.injEq, and_true] at he
    obtain ⟨rfl, rfl⟩ := he
    exact ⟨cs, hm, hc⟩
theorem MeansG.ownedMG {cs : List Value} {base : Nat} {e : TypeId} {n c : Nat} (h : MeansG G w cs ts) (hn : ts.length = n) (hG : ∀ k, base ≤ k → G k) (ho : w.ownsRow base e 2 (.slice a n c) n cs) : AtMG G w a ts := by
  have hl := h.length
  rcases ho.2 with ⟨h', rfl⟩ | ⟨g, cap, cur, h', hb, _⟩
  · left; exact List.eq_nil_of_length_eq_zero hn
  · simp only [Value.slice.injEq, true_and] at h'
    obtain ⟨rfl, rfl⟩ := h'
    refine .inr ⟨g, 0, cs, rfl, hG g hb, h, fun j u hj => ?_⟩
    have hj' := (List.getElem?_eq_some_iff.1 hj).1
    rw [Nat.zero_add, ho.cellAt j (by omega)]
    exact hj
end

end Go.Proofs.Ytmkhdocjabflkaa
