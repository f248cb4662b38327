/- Several texts of one proof, in build order: SumK, RunS, DiffS, StrK. -/
import Derived.Test.YtmkhdocjabflkaaM18
import Derived.Test.YtmkhdocjabflkaaM20
import Derived.Test.YtmkhdocjabflkaaM19
import Derived.Test.YtmkhdocjabflkaaM21
import Derived.Test.YtmkhdocjabflkaaM26
import Derived.Test.YtmkhdocjabflkaaM14

/- Plain: the sums of the first lists; what differs from the one ahead. -/
namespace Go.Proofs.Ytmkhdocjabflkaa

/-- The first k lists, added. -/
def sumK (f : Nat → List WRow) : Nat → List WRow
  | 0 => []
  | k + 1 => putAll (sumK f k) (f k)
theorem sumK_lst {q n : Nat} {f : Nat → List WRow} (h : ∀ k, k < n → Lst q 60 1000000 (f k)) : ∀ k, k ≤ n → Lst q (60 * k) (1000000 * k) (sumK f k) := by
  intro k hk
  induction k with
  | zero => exact (Lst.nil q).mono (by omega) (by omega)
  | succ k ih =>
    have := (ih (by omega)).put (h k (by omega)) (by omega) (by omega)
    exact this.mono (by omega) (by push_cast; omega)
/-- Each less the one ahead. -/
def diffK (f : Nat → List WRow) (k : Nat) : List WRow := putAll (f k) (scaleW (prevK f k) (-1))
theorem prevK_lst {q n : Nat} {f : Nat → List WRow} (h : ∀ k, k < n → Lst q 60 1000000 (f k)) (k : Nat) (hk : k < n) : Lst q 60 1000000 (prevK f k) := by
  unfold prevK
  split
  · exact (Lst.nil q).mono (by omega) (by omega)
  · exact h (k - 1) (by omega)
theorem diffK_lst {q n : Nat} {f : Nat → List WRow} (h : ∀ k, k < n → Lst q 60 1000000 (f k)) (k : Nat) (hk : k < n) : Lst q 120 2000000 (diffK f k) :=
  ((h k hk).put (prevK_lst h k hk).neg (by omega) (by omega)).mono (by omega) (by omega)

end Go.Proofs.Ytmkhdocjabflkaa

/- Contract of impl.runningSums. -/
namespace Go.Proofs.Ytmkhdocjabflkaa
open Go.RowKit Go.Maps

theorem AtC.cell {w : World} {a : Option Addr} {q M n : Nat} {f : Nat → List WRow} {bs : List Nat} (h : AtC w a q M (upto f n) bs) {k : Nat} (hk : k < n) :
    ∃ b0 off, a = some ⟨b0, off, none⟩ ∧ (∀ i, i < n → w.cell? ⟨b0, off + i, none⟩ = some (.map (some (bat bs i)))) ∧ Cnt w (bat bs k) q M (f k) := by
  have hun := upto_length f n
  have hce := h.each k (by rw [hun]; exact hk)
  rw [upto_at f n k hk] at hce
  rcases h.cells with h' | ⟨b0, off, e, hc⟩
  · rw [h'] at hun; simp at hun; omega
  · rw [hun] at hc; exact ⟨b0, off, e, hc, hce⟩

set_option maxRecDepth 100000 in
set_option maxHeartbeats 2000000 in
theorem runningSums_any (a : Option Addr) (n c q : Nat) (f : Nat → List WRow) (bs0 : List Nat) (w : World) (hn : n ≤ 12) (hL : ∀ k, k < n → Lst q 60 1000000 (f k)) (ha : AtC w a q 60 (upto f n) bs0) :
    Calls Try.prog 77 #[.slice a n c] w fun e w' => ∃ r d bs, e = .returned (.slice r n d) ∧ OwnC w' w.heap.size r n d q 720 (upto (fun k => sumK f (k + 1)) n) bs ∧ Below w.heap.size w w' := by
  obtain ⟨i0, hi, hz0, hz1, hz2⟩ := info_parts Try.infoC
  have hmm := @run_makeMap Try.prog
  have B0 : Below w.heap.size w (w.alloc (.map #[] 0)) := (Below.refl _ _).alloc (Nat.le_refl _) _
  go_enter Try.func77, Try.ntmps77
  go_wp2
  go_loopw [3, 4, 10] (fun o h i wr => ∃ (k : Nat) (r : Option Addr) (d b : Nat) (bs : List Nat), k ≤ n ∧ i = .int .i64 k ∧ o = .slice r k d ∧ h = .map (some b) ∧ OwnC wr w.heap.size r k d q 720 (upto (fun k => sumK f (k + 1)) k) bs ∧ Cnt wr b q (60 * k) (sumK f k) ∧ Below w.heap.size w wr) (fun _ _ i _ => n - (intOf i).toNat)
  case atStart => exact ⟨0, none, 0, w.heap.size, [], Nat.zero_le _, rfl, rfl, rfl, OwnC.nil _ _ _ _, Cnt.empty w q 0, B0⟩
  case round =>
    obtain ⟨k, r, d, b, bs, hk, rfl, rfl, rfl, ho, hcn, hbw⟩ := hrel
    by_cases hlt : k < n
    · obtain ⟨b0, off, rfl, hc, hce⟩ := (ha.below hbw).cell hlt
      have hcx := hc k hlt
      have HU := Hid.mk (upto_succ (fun k => sumK f (k + 1)) k)
      have hki : (k : Int) < (n : Int) := by omega
      have HLK := Hid.mk (sumK_lst hL k (by omega)).within
      have HLF := Hid.mk (hL k hlt).within
      have HCE := Hid.mk hce
      have HCN := Hid.mk hcn
      have HO := Hid.mk ho
      generalize bat bs0 k = b1 at *
      clear hc hce hcn ho
      go_wp2_with (first | (go_at_call 104; refine (plus_any _ _ q _ _ (sumK f k) (f k) (1000000 * k) 1000000 _ HCN.out HCE.out (by omega) (by omega) (by omega) (by omega) HLK.out HLF.out).mono ?_; rintro e w3 ⟨b3, rfl, hk3, hc3, hb3⟩; have B4 := hbw.trans (hb3.mono hbw.size); have HO3 := Hid.mk (HO.out.below hb3); have HC3 : Hid (Cnt w3 b3 q (60 * (k + 1)) (sumK f (k + 1))) := (hc3.mono (by omega)); clear hc3 hbw hb3) | (at_builtin; refine wpList_append_lies _ rfl (.tmp 17) (.tmp 19) 116 rfl w.heap.size 74 i0 (.map none) 1 8 Try.underlying116 hi hz0 hz1 hz2 rfl (by decide) (.slice r k d) k (bs.map mapV) rfl (HO3.out.own.alloc _) ⟨w3.heap.size, 0, none⟩ 1 1 [.map (some b3)] (by simp [Act.eval]) rfl (by simpa using news_at w3 #[.map (some b3)] 74) (by intro u hu; simp at hu; subst hu; rfl) (by decide) (by unfold maxLen; omega) (by omega) (by have := B4.size; simp; omega) (w3.heap.size + 1) (by simp) ?_; intro g2 cap2 w5 hown5 hgrow5 hat5 hlt5))
      have hbA : Below w3.heap.size w3 (w3.alloc (.cells #[.map (some b3)] 74)) := (Below.refl _ _).alloc (Nat.le_refl _) _
      have HP : Hid (OwnC w5 w.heap.size (some ⟨g2, 0, none⟩) (k + 1) cap2 q 720 (upto (fun k => sumK f (k + 1)) (k + 1)) (bs ++ [b3])) := by
        show OwnC _ _ _ _ _ _ _ _ _
        rw [HU.out]
        exact HO3.out.push (Below.refl _ _) (HC3.out.mono (by omega)) hbA hown5 hgrow5
      have HC5 : Hid (Cnt w5 b3 q (60 * (k + 1)) (sumK f (k + 1))) := cnt_own (HC3.out.below hbA) (HO3.out.below hbA).own hgrow5
      have hrb : ∀ j, (Value.slice r k d).ownBlock = some j → w.heap.size ≤ j := fun j hj => (HO3.out.own.lt j hj).1
      have HB5 := Hid.mk ((B4.alloc B4.size _).grown hgrow5 (by have := B4.size; simp; omega) (fun j hj => hrb j hj))
      clear hown5 hgrow5 hat5 hlt5 HO HO3 hbA hrb B4 hcx
      go_wp2
      go_roundw
      case rel => exact ⟨k + 1, _, _, _, _, by omega, by go_num, rfl, rfl, HP.out, HC5.out, HB5.out⟩
      case measure => simp [intOf]; omega
    · obtain rfl : k = n := by omega
      go_wp2
      go_ret
      exact ⟨_, _, _, rfl, ho, hbw⟩

end Go.Proofs.Ytmkhdocjabflkaa

/- Contract of impl.differences. -/
namespace Go.Proofs.Ytmkhdocjabflkaa
open Go.RowKit Go.Maps

set_option maxRecDepth 100000 in
set_option maxHeartbeats 4000000 in
theorem differences_any (a : Option Addr) (n c q : Nat) (f : Nat → List WRow) (bs0 : List Nat) (w : World) (hn : n ≤ 12) (hL : ∀ k, k < n → Lst q 60 1000000 (f k)) (ha : AtC w a q 60 (upto f n) bs0) :
    Calls Try.prog 82 #[.slice a n c] w fun e w' => ∃ r d bs, e = .returned (.slice r n d) ∧ OwnC w' w.heap.size r n d q 120 (upto (diffK f) n) bs ∧ Below w.heap.size w w' := by
  obtain ⟨i0, hi, hz0, hz1, hz2⟩ := info_parts Try.infoC
  go_enter Try.func82, Try.ntmps82
  go_wp2_with fail
  refine (delayed_any _ _ _ q 60 f bs0 _ hn ha).mono ?_
  rintro e w1 ⟨r1, d1, bs1, rfl, HC1, hb1⟩
  have HD := Hid.mk HC1.atC
  clear HC1
  go_wp2
  go_loopw [3, 9] (fun o i wr => ∃ (k : Nat) (r : Option Addr) (d : Nat) (bs : List Nat), k ≤ n ∧ i = .int .i64 k ∧ o = .slice r k d ∧ OwnC wr w1.heap.size r k d q 120 (upto (diffK f) k) bs ∧ Below w1.heap.size w1 wr) (fun _ i _ => n - (intOf i).toNat)
  case atStart => exact ⟨0, none, 0, [], Nat.zero_le _, rfl, rfl, OwnC.nil _ _ _ _, Below.refl _ _⟩
  case round =>
    obtain ⟨k, r, d, bs, hk, rfl, rfl, ho, hbw⟩ := hrel
    by_cases hlt : k < n
    · have B2 := hb1.trans (hbw.mono hb1.size)
      obtain ⟨b0, off, rfl, hc, hce⟩ := (ha.below B2).cell hlt
      obtain ⟨b2, off2, rfl, hc2, hce2⟩ := (HD.out.below hbw).cell hlt
      have hcx := hc k hlt
      have hcy := hc2 k hlt
      have hb0w : b0 < w.heap.size := by
        obtain ⟨b0', off', e', hc', _⟩ := ha.cell hlt
        cases e'
        exact World.block_lt_of_cell? _ _ (hc' k hlt)
      have HU := Hid.mk (upto_succ (diffK f) k)
      have hki : (k : Int) < (n : Int) := by omega
      have HLP := Hid.mk (prevK_lst hL k hlt).within
      have HLN := Hid.mk (prevK_lst hL k hlt).neg.within
      have HLF := Hid.mk (hL k hlt).within
      have HCE := Hid.mk hce
      have HCE2 := Hid.mk hce2
      have HO := Hid.mk ho
      have hz1w := hb1.size
      generalize bat bs0 k = m1 at *
      generalize bat bs1 k = m2 at *
      clear hc hce hc2 hce2 ho
      go_wp2_with fail
      refine wp_region_held_drew (S := fun w' => w'.cell? ⟨b0, off + k, none⟩ = some (.map (some m1))) (by kernel_rfl) ?_ (fun hHeld => ?_)
      · (try dsimp only)
        exact hcx
      refine wpAnyH_take (i := 0) (oi := ?_) (v := ?_) ?_ (by kernel_rfl) (by kernel_rfl) (by kernel_rfl) ?_ (Or.inl ⟨?_, ?_⟩) (by assumption) ?_
      rotate_left 2
      · (simp only [List.getElem?_toArray, List.getElem?_cons_zero]; rfl)
      · exact fun _ _ _ h => h
      · rfl
      · (intro wS hSw; (try dsimp only at hSw); go_simp; (try with_reducible rfl))
      (try simp only [Act.put, List.setIfInBounds_toArray, List.set_cons_zero, List.set_cons_succ])
      refine wpAnyH_take (i := 1) (oi := ?_) (v := ?_) ?_ (by kernel_rfl) (by kernel_rfl) (by kernel_rfl) ?_ (Or.inl ⟨?_, ?_⟩) (by assumption) ?_
      rotate_left 2
      · (simp only [List.getElem?_toArray, List.getElem?_cons_zero, List.getElem?_cons_succ]; rfl)
      · exact fun _ _ _ h => h
      · rfl
      · (intro wS hSw; (try dsimp only at hSw); go_simp; (try with_reducible rfl))
      (try simp only [Act.put, List.setIfInBounds_toArray, List.set_cons_zero, List.set_cons_succ])
      refine wpAnyH_take (i := 2) (oi := ?_) (v := ?_) ?_ (by kernel_rfl) (by kernel_rfl) (by kernel_rfl) ?_ (Or.inl ⟨?_, ?_⟩) (by assumption) ?_
      rotate_left 2
      · (simp only [List.getElem?_toArray, List.getElem?_cons_zero, List.getElem?_cons_succ]; rfl)
      · exact fun _ _ _ h => h
      · rfl
      · (intro wS hSw; (try dsimp only at hSw); go_simp; (try with_reducible rfl))
      (try simp only [Act.put, List.setIfInBounds_toArray, List.set_cons_zero, List.set_cons_succ])
      refine wpAnyH_take (i := 3) (oi := ?_) (v := ?_) ?_ (by kernel_rfl) (by kernel_rfl) (by kernel_rfl) ?_ (Or.inl ⟨?_, ?_⟩) (by assumption) ?_
      rotate_left 2
      · (simp only [List.getElem?_toArray, List.getElem?_cons_zero, List.getElem?_cons_succ]; rfl)
      · exact fun _ _ _ h => h
      · rfl
      · (intro wS hSw; (try dsimp only at hSw); go_simp; (try with_reducible rfl))
      (try simp only [Act.put, List.setIfInBounds_toArray, List.set_cons_zero, List.set_cons_succ])
      refine wpAnyH_take (i := 4) (oi := ?_) (v := ?_) ?_ (by kernel_rfl) (by kernel_rfl) (by kernel_rfl) ?_ (Or.inl ⟨?_, ?_⟩) (by assumption) ?_
      rotate_left 2
      · (simp only [List.getElem?_toArray, List.getElem?_cons_zero, List.getElem?_cons_succ]; rfl)
      · exact fun _ _ _ h => h
      · rfl
      · (intro wS hSw; (try dsimp only at hSw); go_simp; (try with_reducible rfl))
      (try simp only [Act.put, List.setIfInBounds_toArray, List.set_cons_zero, List.set_cons_succ])
      refine wpAnyH_take (i := 5) (oi := ?_) (v := ?_) ?_ (by kernel_rfl) (by kernel_rfl) (by kernel_rfl) ?_ (Or.inl ⟨?_, ?_⟩) (by assumption) ?_
      rotate_left 2
      · (simp only [List.getElem?_toArray, List.getElem?_cons_zero, List.getElem?_cons_succ]; rfl)
      · exact fun _ _ _ h => h
      · rfl
      · (intro wS hSw; (try dsimp only at hSw); go_simp; (try with_reducible rfl))
      (try simp only [Act.put, List.setIfInBounds_toArray, List.set_cons_zero, List.set_cons_succ])
      refine wpAnyH_ready (rs := [6]) (by kernel_rfl) (by simp) ?_
      refine AllReadyH.cons (o := ?_) ?_ (fun K hK => ?_) AllReadyH.nil
      rotate_left
      · (simp only [List.getElem?_toArray, List.getElem?_cons_zero, List.getElem?_cons_succ]; rfl)
      go_simp
      go_at_call 125; refine (negated_any _ q _ (prevK f k) 1000000 _ (HCE2.out.below (Below.refl _ _).drew) (by omega) (by omega) (by omega) HLP.out).mono ?_; rintro e w3 ⟨b3, rfl, hk3, hc3, hb3⟩; have hcx := cell_later hb3 hcx; have HC3 := Hid.mk hc3; have B3 := hbw.drew.trans (hb3.mono hbw.size); have HE3 := Hid.mk ((HCE.out.below (Below.refl _ _).drew).below hb3); have HO3 := Hid.mk ((HO.out.below (Below.refl _ _).drew).below hb3); clear hc3
      (try go_wp2_with fail)
      refine hK.out _ _ ?_ (fun hHeld' => ?_)
      · (try dsimp only)
        exact hcx
      clear hK K hHeld
      have hHeld := hHeld'
      clear hHeld'
      (try simp only [Act.put, List.setIfInBounds_toArray, List.set_cons_zero, List.set_cons_succ])
      refine wpAnyH_ready (rs := [7]) (by kernel_rfl) (by simp) ?_
      refine AllReadyH.cons (o := ?_) ?_ (fun K hK => ?_) AllReadyH.nil
      rotate_left
      · (simp only [List.getElem?_toArray, List.getElem?_cons_zero, List.getElem?_cons_succ]; rfl)
      go_simp
      go_at_call 104; refine (plus_any _ _ q _ _ (f k) (scaleW (prevK f k) (-1)) 1000000 1000000 _ HE3.out HC3.out (by omega) (by omega) (by omega) (by omega) HLF.out HLN.out).mono ?_; rintro e w4 ⟨b4, rfl, hk4, hc4, hb4⟩; have hcx := cell_later hb4 hcx; have B4 := B3.trans (hb4.mono B3.size); have HC4 : Hid (Cnt w4 b4 q 120 (diffK f k)) := hc4; have HO4 := Hid.mk (HO3.out.below hb4); clear hc4
      (try go_wp2_with fail)
      refine hK.out _ _ ?_ (fun hHeld' => ?_)
      · (try dsimp only)
        exact hcx
      clear hK K hHeld
      have hHeld := hHeld'
      clear hHeld'
      (try simp only [Act.put, List.setIfInBounds_toArray, List.set_cons_zero, List.set_cons_succ])
      refine wpAnyH_ready (rs := [8]) (by kernel_rfl) (by simp) ?_
      refine AllReadyH.cons (o := ?_) ?_ (fun K hK => ?_) AllReadyH.nil
      rotate_left
      · (simp only [List.getElem?_toArray, List.getElem?_cons_zero, List.getElem?_cons_succ]; rfl)
      go_simp
      skip
      (try go_wp2_with fail)
      refine hK.out _ _ ?_ (fun hHeld' => ?_)
      · (try dsimp only)
        exact cell_later ((Below.refl _ _).alloc (Nat.le_refl _) _) hcx
      clear hK K hHeld
      have hHeld := hHeld'
      clear hHeld'
      (try simp only [Act.put, List.setIfInBounds_toArray, List.set_cons_zero, List.set_cons_succ])
      refine wpAnyH_ready (rs := [9]) (by kernel_rfl) (by simp) ?_
      refine AllReadyH.cons (o := ?_) ?_ (fun K hK => ?_) AllReadyH.nil
      rotate_left
      · (simp only [List.getElem?_toArray, List.getElem?_cons_zero, List.getElem?_cons_succ]; rfl)
      refine step_append_lies _ rfl (.tmp 14) (.tmp 22) 116 rfl w1.heap.size 74 i0 (.map none) 1 8 Try.underlying116 hi hz0 hz1 hz2 rfl (by decide) (.slice r k d) k (bs.map mapV) (by simp [Act.eval]) (HO4.out.own.alloc _) ⟨w4.heap.size, 0, none⟩ 1 1 [.map (some b4)] (by simp [Act.eval]) rfl (by simpa using news_at w4 #[.map (some b4)] 74) (by intro u hu; simp at hu; subst hu; rfl) (by decide) (by unfold maxLen; omega) (by omega) (by have := B4.size; simp; omega) (w4.heap.size + 1) (by simp) ?_; intro g5 cap5 w5 hown5 hgrow5 hat5 hlt5; have hcx5 : w5.cell? ⟨b0, off + k, none⟩ = some (.map (some m1)) := hgrow5.cell (cell_later ((Below.refl _ _).alloc (Nat.le_refl _) _) hcx) (fun e => by have := (HO4.out.own.lt _ e.symm).1; simp at this; omega)
      refine hK.out _ _ ?_ (fun hHeld' => ?_)
      · (try dsimp only)
        exact hcx5
      clear hK K hHeld
      have hHeld := hHeld'
      clear hHeld'
      (try simp only [Act.put, List.setIfInBounds_toArray, List.set_cons_zero, List.set_cons_succ])
      refine wpAnyH_take (i := 10) (oi := ?_) (v := ?_) ?_ (by kernel_rfl) (by kernel_rfl) (by kernel_rfl) ?_ (Or.inl ⟨?_, ?_⟩) (by assumption) ?_
      rotate_left 2
      · (simp only [List.getElem?_toArray, List.getElem?_cons_zero, List.getElem?_cons_succ]; rfl)
      · exact fun _ _ _ h => h
      · rfl
      · (intro wS hSw; (try dsimp only at hSw); go_simp; (try with_reducible rfl))
      (try simp only [Act.put, List.setIfInBounds_toArray, List.set_cons_zero, List.set_cons_succ])
      refine wpAnyH_done (by kernel_rfl) ?_ _
      have hbA : Below w4.heap.size w4 (w4.alloc (.cells #[.map (some b4)] 74)) := (Below.refl _ _).alloc (Nat.le_refl _) _
      have HP : Hid (OwnC w5 w1.heap.size (some ⟨g5, 0, none⟩) (k + 1) cap5 q 120 (upto (diffK f) (k + 1)) (bs ++ [b4])) := by
        show OwnC _ _ _ _ _ _ _ _ _
        rw [HU.out]
        exact HO4.out.push (Below.refl _ _) HC4.out hbA hown5 hgrow5
      have hrb : ∀ j, (Value.slice r k d).ownBlock = some j → w1.heap.size ≤ j := fun j hj => (HO4.out.own.lt j hj).1
      have HB5 := Hid.mk ((B4.alloc B4.size _).grown hgrow5 (by have := B4.size; simp; omega) (fun j hj => hrb j hj))
      clear hown5 hgrow5 hat5 hlt5 HO HO3 HO4 hbA hrb B4 B3 hcx hcx5 hcy hHeld hbw B2 hb3 hb4
      go_wp2
      go_roundw
      case rel => exact ⟨k + 1, _, _, _, by omega, by go_num, rfl, HP.out, HB5.out⟩
      case measure => simp [intOf]; omega
    · obtain rfl : k = n := by omega
      have hzz := hb1.size
      go_wp2
      go_ret
      exact ⟨_, _, _, rfl, ⟨ho.len, ho.lenx, owns_mono ho.own hzz, ho.each⟩, hb1.trans (hbw.mono hzz)⟩

end Go.Proofs.Ytmkhdocjabflkaa

/- Contract of impl.Differentiate. -/
namespace Go.Proofs.Ytmkhdocjabflkaa
open Go.RowKit Go.Shelf Go.Maps

set_option maxRecDepth 100000 in
set_option maxHeartbeats 4000000 in
theorem implDifferentiate (a : Option Addr) (n c : Nat) (ss : List Tab) (p : Int) (w : World) (hs : SmU ss n) (ha : AtSM w a ss) :
    Calls Try.prog 29 #[.agg #[.int .i64 p, .slice a n c]] w fun e w' => StrAns e w' w.heap.size (strB p ss (upto (diffK (fun k => (tat ss k).2)) n)) p (tabsOf p.toNat (upto (diffK (fun k => (tat ss k).2)) n) n) ∧ Below w.heap.size w w' := by
  have hz := hs.1
  obtain ⟨W, hW⟩ : ∃ W, W = (w.alloc (.cells #[.int .i64 p, .slice a n c] 45)).alloc (.cells #[.int .i64 0, .slice none 0 0] 45) := ⟨_, rfl⟩
  have zW : W.heap.size = w.heap.size + 1 + 1 := by rw [hW]; simp
  have B0 : Below w.heap.size w W := by rw [hW]; exact ((Below.refl _ _).alloc (Nat.le_refl _) _).alloc (by simp) _
  have c0 : W.cell? ⟨w.heap.size, 0, none⟩ = some (.int .i64 p) := by rw [hW]; exact alloc_keeps (pair0 w _ _ _) _
  have c1 : W.cell? ⟨w.heap.size, 1, none⟩ = some (.slice a n c) := by rw [hW]; exact alloc_keeps (pair1 w _ _ _) _
  have q0 : W.heap[w.heap.size + 1]? = some (.cells #[.int .i64 0, .slice none 0 0] 45 (0, 0)) := by
    rw [hW]
    have := heap_alloc_new (w.alloc (.cells #[.int .i64 p, .slice a n c] 45)) (.cells #[.int .i64 0, .slice none 0 0] 45)
    rwa [World.size_alloc] at this
  have e0 : W.cell? ⟨w.heap.size + 1, 0, none⟩ = some (.int .i64 0) := by rw [cell_of_row _ _ 0 _ _ (0, 0) q0]; rfl
  have e1 : W.cell? ⟨w.heap.size + 1, 1, none⟩ = some (.slice none 0 0) := by rw [cell_of_row _ _ 1 _ _ (0, 0) q0]; rfl
  have f0 : W.frozen? ⟨w.heap.size + 1, 0, none⟩ = false := frozen_of_row _ _ 0 _ _ q0
  have f1 : W.frozen? ⟨w.heap.size + 1, 1, none⟩ = false := frozen_of_row _ _ 1 _ _ q0
  have HA := ha.below B0
  clear ha q0
  cases hg : goodS p ss with
  | false =>
    have HG := Hid.mk hg
    clear hg
    go_enter Try.func29, Try.ntmps29
    go_wp2_with fail
    rw [← hW]
    clear hW
    refine (implGoodStream _ _ _ ss _ _ hs HA).mono ?_
    rintro e w1 ⟨rfl, hb1⟩
    rw [HG.out]
    have B1 := B0.trans (hb1.mono B0.size)
    have f0 := frozen_later hb1 e0 f0
    have f1 := frozen_later hb1 e1 f1
    have e0 := cell_later hb1 e0
    have e1 := cell_later hb1 e1
    have c0 := cell_later hb1 c0
    have c1 := cell_later hb1 c1
    go_wp2
    refine bodyPost_ret (v := .tuple #[.agg #[.int .i64 0, .slice none 0 0], .bool false]) (by simp [results, Try.results29, go_sem, e0, e1]) rfl ⟨StrAns.zero (strB_no HG.out) rfl, ?_⟩
    exact (B1.setCell (by show w.heap.size ≤ w.heap.size + 1; omega) _).setCell (by show w.heap.size ≤ w.heap.size + 1; omega) _
  | true =>
    have HG := Hid.mk hg
    obtain ⟨hinc, hn12, hgd⟩ := goodS_parts hg
    rw [hz] at hn12 hgd
    obtain ⟨q, hq⟩ : ∃ q : Nat, p = q := ⟨p.toNat, by have := inc_range hinc; omega⟩
    subst hq
    have h6 : q ≤ 6 := by have := inc_range hinc; omega
    have HGD : Hid (∀ k, k < n → goodT q (tat ss k).2 = true) := fun k hk => (hgd k hk).2
    have HNB : Hid (strB q ss (upto (diffK (fun k => (tat ss k).2)) n) = allG q (upto (diffK (fun k => (tat ss k).2)) n)) := strB_yes HG.out
    clear hg hgd hinc
    go_enter Try.func29, Try.ntmps29
    go_wp2_with fail
    rw [← hW]
    clear hW
    refine (implGoodStream _ _ _ ss _ _ hs HA).mono ?_
    rintro e w1 ⟨rfl, hb1⟩
    rw [HG.out]
    have B1 := B0.trans (hb1.mono B0.size)
    have f0 := frozen_later hb1 e0 f0
    have f1 := frozen_later hb1 e1 f1
    have e0 := cell_later hb1 e0
    have e1 := cell_later hb1 e1
    have c0 := cell_later hb1 c0
    have c1 := cell_later hb1 c1
    have HA2 := HA.below hb1
    go_wp2_with fail
    refine wp_region_held_drew (S := fun w' => w'.cell? ⟨w.heap.size, 0, none⟩ = some (.int .i64 q) ∧ w'.cell? ⟨w.heap.size, 1, none⟩ = some (.slice a n c)) (by kernel_rfl) ?_ (fun hHeld => ?_)
    · (try dsimp only)
      exact ⟨c0, c1⟩
    refine wpAnyH_take (i := 0) (oi := ?_) (v := ?_) ?_ (by kernel_rfl) (by kernel_rfl) (by kernel_rfl) ?_ (Or.inl ⟨?_, ?_⟩) (by assumption) ?_
    rotate_left 2
    · (simp only [List.getElem?_toArray, List.getElem?_cons_zero]; rfl)
    · exact fun _ _ _ h => h
    · rfl
    · (intro wS hSw; (try dsimp only at hSw); go_simp; (try with_reducible rfl))
    (try simp only [Act.put, List.setIfInBounds_toArray, List.set_cons_zero, List.set_cons_succ])
    refine wpAnyH_take (i := 4) (oi := ?_) (v := ?_) ?_ (by kernel_rfl) (by kernel_rfl) (by kernel_rfl) ?_ (Or.inl ⟨?_, ?_⟩) (by assumption) ?_
    rotate_left 2
    · (simp only [List.getElem?_toArray, List.getElem?_cons_zero, List.getElem?_cons_succ]; rfl)
    · exact fun _ _ _ h => h
    · rfl
    · (intro wS hSw; (try dsimp only at hSw); go_simp; (try with_reducible rfl))
    (try simp only [Act.put, List.setIfInBounds_toArray, List.set_cons_zero, List.set_cons_succ])
    refine wpAnyH_take (i := 5) (oi := ?_) (v := ?_) ?_ (by kernel_rfl) (by kernel_rfl) (by kernel_rfl) ?_ (Or.inl ⟨?_, ?_⟩) (by assumption) ?_
    rotate_left 2
    · (simp only [List.getElem?_toArray, List.getElem?_cons_zero, List.getElem?_cons_succ]; rfl)
    · exact fun _ _ _ h => h
    · rfl
    · (intro wS hSw; (try dsimp only at hSw); go_simp; (try with_reducible rfl))
    (try simp only [Act.put, List.setIfInBounds_toArray, List.set_cons_zero, List.set_cons_succ])
    refine wpAnyH_ready (rs := [1]) (by kernel_rfl) (by simp) ?_
    refine AllReadyH.cons (o := ?_) ?_ (fun K hK => ?_) AllReadyH.nil
    rotate_left
    · (simp only [List.getElem?_toArray, List.getElem?_cons_zero, List.getElem?_cons_succ]; rfl)
    go_simp
    go_at_call 78; refine (countsOfStream_any _ _ _ q ss _ _ hs hn12 HGD.out (HA2.below (Below.refl _ _).drew)).mono ?_; rintro e w3 ⟨r3, d3, bs3, rfl, HC, hb3⟩; have f0 := frozen_later (w := w1.drew) hb3 e0 f0; have f1 := frozen_later (w := w1.drew) hb3 e1 f1; have e0 := cell_later hb3 e0; have e1 := cell_later hb3 e1; have c0 := cell_later hb3 c0; have c1 := cell_later hb3 c1; have B3 := B1.drew.trans (hb3.mono B1.size)
    (try go_wp2_with fail)
    refine hK.out _ _ ?_ (fun hHeld' => ?_)
    · (try dsimp only)
      exact ⟨c0, c1⟩
    clear hK K hHeld
    have hHeld := hHeld'
    clear hHeld'
    (try simp only [Act.put, List.setIfInBounds_toArray, List.set_cons_zero, List.set_cons_succ])
    refine wpAnyH_ready (rs := [2]) (by kernel_rfl) (by simp) ?_
    refine AllReadyH.cons (o := ?_) ?_ (fun K hK => ?_) AllReadyH.nil
    rotate_left
    · (simp only [List.getElem?_toArray, List.getElem?_cons_zero, List.getElem?_cons_succ]; rfl)
    go_simp
    go_at_call 82; refine (differences_any _ _ _ q (fun k => (tat ss k).2) bs3 _ hn12 (fun k hk => goodT_lst (HGD.out k hk)) HC.atC).mono ?_; rintro e w4 ⟨r4, d4, bs4, rfl, HC4, hb4⟩; obtain ⟨M4, hMe⟩ : ∃ M4, M4 = 120 := ⟨_, rfl⟩; rw [← hMe] at HC4; have hM4 : M4 ≤ 1000000 := (by omega); clear hMe; have f0 := frozen_later hb4 e0 f0; have f1 := frozen_later hb4 e1 f1; have e0 := cell_later hb4 e0; have e1 := cell_later hb4 e1; have c0 := cell_later hb4 c0; have c1 := cell_later hb4 c1; have B4 := B3.trans (hb4.mono B3.size)
    (try go_wp2_with fail)
    refine hK.out _ _ ?_ (fun hHeld' => ?_)
    · (try dsimp only)
      exact ⟨c0, c1⟩
    clear hK K hHeld
    have hHeld := hHeld'
    clear hHeld'
    (try simp only [Act.put, List.setIfInBounds_toArray, List.set_cons_zero, List.set_cons_succ])
    refine wpAnyH_ready (rs := [3]) (by kernel_rfl) (by simp) ?_
    refine AllReadyH.cons (o := ?_) ?_ (fun K hK => ?_) AllReadyH.nil
    rotate_left
    · (simp only [List.getElem?_toArray, List.getElem?_cons_zero, List.getElem?_cons_succ]; rfl)
    go_simp
    go_at_call 76; refine (values_any _ _ _ _).mono ?_; rintro e w5 ⟨rfl, hw5⟩; have hb5 : Below w4.heap.size w4 w5 := (by rw [hw5]; exact (Below.refl _ _).alloc (Nat.le_refl _) _); have hT5 : w5.cell? ⟨w4.heap.size, 0, none⟩ = some (.slice r4 n d4) := (by rw [hw5]; simp); clear hw5; have f0 := frozen_later hb5 e0 f0; have f1 := frozen_later hb5 e1 f1; have e0 := cell_later hb5 e0; have e1 := cell_later hb5 e1; have c0 := cell_later hb5 c0; have c1 := cell_later hb5 c1; have B5 := B4.trans (hb5.mono B4.size); have HH5 := values1_hands w4.heap.size r4 n d4 q M4 (upto (diffK (fun k => (tat ss k).2)) n) bs4 w5 HC4.lenx (by omega) hT5 (HC4.below hb5).atC
    (try go_wp2_with fail)
    refine hK.out _ _ ?_ (fun hHeld' => ?_)
    · (try dsimp only)
      exact ⟨c0, c1⟩
    clear hK K hHeld
    have hHeld := hHeld'
    clear hHeld'
    (try simp only [Act.put, List.setIfInBounds_toArray, List.set_cons_zero, List.set_cons_succ])
    refine wpAnyH_ready (rs := [6]) (by kernel_rfl) (by simp) ?_
    refine AllReadyH.cons (o := ?_) ?_ (fun K hK => ?_) AllReadyH.nil
    rotate_left
    · (simp only [List.getElem?_toArray, List.getElem?_cons_zero, List.getElem?_cons_succ]; rfl)
    go_simp
    go_at_call 75; refine (streamOf_any 124 #[.pointer (some ⟨w4.heap.size, 0, none⟩)] q M4 (upto (diffK (fun k => (tat ss k).2)) n) w5 (enters_of Try.func124 (by kernel_rfl) rfl) HH5 hM4 h6 (by rw [HC4.lenx]; exact hn12)).mono ?_; rintro e w6 ⟨⟨r6, m6, d6, rfl, ho6⟩, hb6⟩; generalize hok6 : allG q (upto (diffK (fun k => (tat ss k).2)) n) = ok6 at ho6 ⊢; have HOK := Hid.mk hok6; clear hok6; have t0 := frozen_later hb6 e0 f0; have t1 := frozen_later hb6 e1 f1; have s0 := cell_later hb6 e0; have s1 := cell_later hb6 e1; have i0 := cell_later hb6 c0; have i1 := cell_later hb6 c1
    (try go_wp2_with fail)
    refine hK.out _ _ ?_ (fun hHeld' => ?_)
    · (try dsimp only)
      exact ⟨i0, i1⟩
    clear hK K hHeld
    have hHeld := hHeld'
    clear hHeld'
    (try simp only [Act.put, List.setIfInBounds_toArray, List.set_cons_zero, List.set_cons_succ])
    refine wpAnyH_take (i := 7) (oi := ?_) (v := ?_) ?_ (by kernel_rfl) (by kernel_rfl) (by kernel_rfl) ?_ (Or.inl ⟨?_, ?_⟩) (by assumption) ?_
    rotate_left 2
    · (simp only [List.getElem?_toArray, List.getElem?_cons_zero, List.getElem?_cons_succ]; rfl)
    · exact fun _ _ _ h => h
    · rfl
    · (intro wS hSw; (try dsimp only at hSw); go_simp; (try with_reducible rfl))
    (try simp only [Act.put, List.setIfInBounds_toArray, List.set_cons_zero, List.set_cons_succ])
    refine wpAnyH_take (i := 8) (oi := ?_) (v := ?_) ?_ (by kernel_rfl) (by kernel_rfl) (by kernel_rfl) ?_ (Or.inl ⟨?_, ?_⟩) (by assumption) ?_
    rotate_left 2
    · (simp only [List.getElem?_toArray, List.getElem?_cons_zero, List.getElem?_cons_succ]; rfl)
    · exact fun _ _ _ h => h
    · rfl
    · (intro wS hSw; (try dsimp only at hSw); go_simp; (try with_reducible rfl))
    (try simp only [Act.put, List.setIfInBounds_toArray, List.set_cons_zero, List.set_cons_succ])
    refine wpAnyH_ready (rs := [9]) (by kernel_rfl) (by simp) ?_
    refine AllReadyH.cons (o := ?_) ?_ (fun K hK => ?_) AllReadyH.nil
    rotate_left
    · (simp only [List.getElem?_toArray, List.getElem?_cons_zero, List.getElem?_cons_succ]; rfl)
    go_simp
    skip
    (try go_wp2_with fail)
    refine hK.out _ _ ?_ (fun hHeld' => ?_)
    · (try dsimp only)
      exact ⟨keep_far (keep_far i0 (by omega)) (by omega), keep_far (keep_far i1 (by omega)) (by omega)⟩
    clear hK K hHeld
    have hHeld := hHeld'
    clear hHeld'
    (try simp only [Act.put, List.setIfInBounds_toArray, List.set_cons_zero, List.set_cons_succ])
    refine wpAnyH_take (i := 10) (oi := ?_) (v := ?_) ?_ (by kernel_rfl) (by kernel_rfl) (by kernel_rfl) ?_ (Or.inl ⟨?_, ?_⟩) (by assumption) ?_
    rotate_left 2
    · (simp only [List.getElem?_toArray, List.getElem?_cons_zero, List.getElem?_cons_succ]; rfl)
    · exact fun _ _ _ h => h
    · rfl
    · (intro wS hSw; (try dsimp only at hSw); go_simp; (try with_reducible rfl))
    (try simp only [Act.put, List.setIfInBounds_toArray, List.set_cons_zero, List.set_cons_succ])
    refine wpAnyH_done (by kernel_rfl) ?_ _
    have B6 := B5.trans (hb6.mono B5.size)
    have zR : w.heap.size + 1 < w5.heap.size := World.block_lt_of_cell? _ _ (by assumption : w5.cell? ⟨w.heap.size + 1, 0, none⟩ = _)
    have e0 := s0
    have e1 := s1
    have HLN := Hid.mk HC4.lenx
    clear HA HA2 hb1 hb3 hb4 hb5 hb6 hHeld HC HC4 HH5 hT5
    go_wp2
    refine bodyPost_ret (v := .tuple #[.agg #[.int .i64 (ansP ok6 q), .slice r6 m6 d6], .bool ok6]) (by simp [results, Try.results29, go_sem, e0, e1]) rfl ⟨?_, ?_⟩
    · rw [HNB.out, HOK.out]
      refine ⟨r6, m6, d6, rfl, ?_⟩
      have hTB : tabsOf (Int.toNat q) (upto (diffK (fun k => (tat ss k).2)) n) n = tabsOf q (upto (diffK (fun k => (tat ss k).2)) n) (upto (diffK (fun k => (tat ss k).2)) n).length := by rw [HLN.out]; rfl
      rw [hTB]
      exact (ho6.set2 (g := w.heap.size + 1) (.inl zR) _ _).widen (Nat.le_of_lt (Nat.lt_of_le_of_lt (Nat.le_succ _) zR)) (by simp [World.setCell]) (Nat.le_refl _)
    · exact (B6.setCell (by show w.heap.size ≤ w.heap.size + 1; omega) _).setCell (by show w.heap.size ≤ w.heap.size + 1; omega) _

end Go.Proofs.Ytmkhdocjabflkaa
