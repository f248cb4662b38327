/- Contracts of the laws' helpers over slices of slices of ints: szIntSS, toIntSS, eqIntSS, markIntSS. -/
import Derived.Test.YteggbamjfhbmfaaIntS
import Derived.Test.YteggbamjfhbmfaaGroundS
namespace Go.Proofs.Yteggbamjfhbmfaa
open Go.RowKit

theorem Try.infoInts : (Try.prog.info? 22).map (fun i => (i.zero, i.size, i.bytes)) = some (some (.slice none 0 0), 1, 24) := by kernel_rfl

set_option maxHeartbeats 1000000 in
theorem szIntSS_any (a : Option Addr) (n c : Nat) (zss : List (List Int)) (l : Int) (w : World) (hz : zss.length = n) (hn : n ≤ 9223372036854775807) (h0 : 0 ≤ l) (h1 : l ≤ 1048576) (ha : AtS w a zss) :
    Calls Try.prog 51 #[.slice a n c, .int .i64 l] w fun e w' => e = .returned (.int .i64 (leftOf l (n + tot zss n))) ∧ w' = w := by
  by_cases hb : l < n
  · have h' : l - (n : Int) < 0 := by omega
    go_enter Try.func51, Try.ntmps51
    go_wp2
    go_ret
    exact ⟨ret_int (leftOf_no (by omega)).symm, rfl⟩
  · have h' : ¬ l - (n : Int) < 0 := by omega
    by_cases hn0 : n = 0
    · subst hn0
      have ht : tot zss 0 = 0 := rfl
      go_enter Try.func51, Try.ntmps51
      go_wp2
      refine wp_loop_rounds 1 ?_
      rw [rounds_succ]
      go_wp2
      go_ret
      exact ⟨ret_int (by rw [ht, leftOf_yes (by omega)]; omega), rfl⟩
    · obtain ⟨b, off, rfl, hc⟩ := ha.some (by omega)
      clear ha
      go_enter Try.func51, Try.ntmps51
      go_wp2
      go_loop [1, 5] (fun q i => ∃ (k : Nat) (r : Int), k ≤ n ∧ i = .int .i64 k ∧ q = .int .i64 r ∧ 0 ≤ r ∧ r ≤ 1048576 ∧ r + tot zss k = l - n) (fun _ i => n - (intOf i).toNat)
      case atStart => exact ⟨0, l - n, Nat.zero_le _, rfl, rfl, by omega, by omega, by rw [tot_zero]; omega⟩
      case round =>
        obtain ⟨k, r, hk, rfl, rfl, hr0, hr1, hr⟩ := hrel
        by_cases hlt : k < n
        · obtain ⟨a', c', hcx, hm, hat⟩ := hc k (by omega)
          have hts := tot_succ zss k (by omega)
          have htm := tot_mono zss (k + 1) n (by omega)
          obtain ⟨m, hmm⟩ : ∃ m, m = (zss.getD k []).length := ⟨_, rfl⟩
          rw [← hmm] at hcx hm hts
          have HR := Hid.mk hr
          have HT := Hid.mk hts
          clear hmm hat hc hr hts
          by_cases hfit : r < m
          · go_wp2_with (go_at_call 36; refine (szIntS_any _ _ _ _ _ hm hr0 hr1).mono ?_; rintro e w' ⟨rfl, rfl⟩; rw [if_pos hfit])
            go_ret
            exact ⟨ret_int (leftOf_no (by have := HR.out; have := HT.out; omega)).symm, rfl⟩
          · have hd : ¬ r - (m : Int) < 0 := by omega
            go_wp2_with (go_at_call 36; refine (szIntS_any _ _ _ _ _ hm hr0 hr1).mono ?_; rintro e w' ⟨rfl, rfl⟩; rw [if_neg (by omega)])
            go_round
            case rel => exact ⟨k + 1, r - m, by omega, by go_num, rfl, by omega, by omega, by have := HR.out; have := HT.out; omega⟩
            case measure => simp [intOf]; omega
        · obtain rfl : k = n := by omega
          have HR := Hid.mk hr
          clear hr hc
          go_wp2
          go_ret
          exact ⟨ret_int (by have := HR.out; rw [leftOf_yes (by omega)]; omega), rfl⟩

theorem rows_store {w : World} {e : TypeId} {vs : List Value} {zss : List (List Int)} {k : Nat} {L : Nat → Nat} (h : RowsOwned w e vs zss k L) (hL : ∀ i, i < k → L 0 ≤ L i) {g j : Nat} (hg : g < L 0) (v : Value) (hj : k ≤ j) :
    RowsOwned (w.setCell ⟨g, j, none⟩ v) e (vs.set j v) zss k L := fun i hi => by
  obtain ⟨a, c, h1, h2, h3⟩ := h i hi
  refine ⟨a, c, ?_, ownsRow_setCell_below h2 (by have := hL i hi; simp; omega) _, h3⟩
  rw [List.getElem?_set_ne (by omega)]; exact h1

set_option maxHeartbeats 2000000 in
theorem toIntSS_any (a : Option Addr) (n c : Nat) (zss : List (List Int)) (w : World) (hz : zss.length = n) (hn : n ≤ 1048576) (hs : ∀ i, i < zss.length → (zss.getD i []).length ≤ 1048576) (ha : AtS w a zss) :
    Calls Try.prog 53 #[.slice a n c] w fun e w' => e = .returned (.slice (some ⟨w.heap.size, 0, none⟩) n n) ∧ OwnS w' w.heap.size w'.heap.size 22 3 w.heap.size n zss ∧ Below w.heap.size w w' := by
  obtain ⟨i0, hi, hz0, hz1, hz2⟩ := info_parts Try.infoInts
  go_enter Try.func53, Try.ntmps53
  go_wp2_with (at_make; refine wpList_make_full _ rfl _ _ 48 rfl w.heap.size 22 i0 (.slice none 0 0) 1 Try.underlying48 hi hz0 hz1 .i64 .i64 _ _ n rfl rfl rfl rfl (by rw [hz2]; omega) (by unfold maxLen; omega) (Nat.le_refl _) ?_; intro w1 hown hg)
  have hb1 : Below w.heap.size w w1 := (Below.refl _ _).grown hg (Nat.le_refl _) (by simp)
  obtain ⟨vs, hv0, hv1, zg⟩ : ∃ vs : List Value, vs.length = n ∧ w1.heap[w.heap.size]? = some (.cells vs.toArray 22 (0, 0)) ∧ w.heap.size < w1.heap.size := by
    rcases hown.2 with ⟨h', _⟩ | ⟨g', cap', cur, h', _, hg', _, _, hcs, _⟩
    · simp at h'
    · simp only [Value.slice.injEq, Option.some.injEq, Addr.mk.injEq, and_true, true_and] at h'
      obtain ⟨rfl, rfl⟩ := h'
      exact ⟨cur.toList, by simpa using hcs, by simpa using hg', (Array.getElem?_eq_some_iff.1 hg').1⟩
  clear hown hg
  go_loopw [4] (fun i wr => ∃ (k : Nat) (vs : List Value) (L : Nat → Nat), k ≤ n ∧ i = .int .i64 k ∧ vs.length = n ∧ wr.heap[w.heap.size]? = some (.cells vs.toArray 22 (0, 0)) ∧ w.heap.size < L 0 ∧ (∀ i, i < k → L i ≤ L (i + 1)) ∧ L k ≤ wr.heap.size ∧ RowsOwned wr 3 vs zss k L ∧ Below w.heap.size w wr) (fun i _ => n - (intOf i).toNat)
  case atStart => exact ⟨0, vs, fun _ => w.heap.size + 1, Nat.zero_le _, rfl, hv0, hv1, by simp, fun _ h => by omega, by simp; omega, fun i hi => by omega, hb1⟩
  case round =>
    clear hv0 hv1 hb1 zg vs
    obtain ⟨k, vs, L, hk, rfl, hv0, hv1, hL0, hLm, hLk, hrow, hbw⟩ := hrel
    by_cases hlt : k < n
    · obtain ⟨b, off, rfl, hc⟩ := (ha.below hbw).some (by omega)
      obtain ⟨a', c', hcx, _, hat⟩ := hc k (by omega)
      have hsm := hs k (by omega)
      have zg : w.heap.size < wr.heap.size := (Array.getElem?_eq_some_iff.1 hv1).1
      have hki : (k : Int) < (n : Int) := by omega
      obtain ⟨ys, hys⟩ : ∃ ys, ys = zss.getD k [] := ⟨_, rfl⟩
      obtain ⟨m, hm⟩ : ∃ m, ys.length = m := ⟨_, rfl⟩
      rw [← hys, hm] at hcx hsm
      rw [← hys] at hat
      have HYS := Hid.mk hys
      have HM := Hid.mk hm
      clear hys hm hc
      go_wp2_with fail
      refine (toIntS_any a' _ c' ys _ HM.out hsm hat).mono ?_
      rintro e w2 ⟨rfl, ho2, hb2⟩
      have hv2 : w2.heap[w.heap.size]? = some (.cells vs.toArray 22 (0, 0)) := (hb2.block _ zg).trans hv1
      have hrow2 := hrow.below hb2
      obtain ⟨u, hu⟩ : ∃ u, vs[k]? = some u := ⟨_, List.getElem?_eq_getElem (by omega)⟩
      have hco : w2.cell? ⟨w.heap.size, k, none⟩ = some u := by rw [cell_of_row w2 _ k _ _ (0, 0) hv2]; simpa using hu
      have hfo : w2.frozen? ⟨w.heap.size, k, none⟩ = false := frozen_of_row w2 _ k _ _ hv2
      have hmono := mono_le (n := k) (L := L) (fun i hi => hLm i hi)
      have z2 := hb2.size
      obtain ⟨V, hV⟩ : ∃ V, V = Value.slice (some ⟨wr.heap.size, 0, none⟩) m m := ⟨_, rfl⟩
      have R : RowsOwned (w2.setCell ⟨w.heap.size, k, none⟩ V) 3 (vs.set k V) zss (k + 1) (fun i => if i ≤ k then L i else w2.heap.size) := by
        intro i hi
        by_cases e : i < k
        · obtain ⟨a1, c1, h1, h2, h3⟩ := rows_store hrow2 (fun i hi => hmono 0 i (by omega) (by omega)) hL0 V (Nat.le_refl k) i e
          refine ⟨a1, c1, h1, ?_, ?_⟩
          · simpa [show i ≤ k by omega] using h2
          · simpa [show i + 1 ≤ k by omega] using h3
        · obtain rfl : i = k := by omega
          rw [← HYS.out, HM.out]
          refine ⟨some ⟨wr.heap.size, 0, none⟩, m, ?_, ?_, ?_⟩
          · rw [List.getElem?_set_self (by omega), hV]
          · simp only [Nat.le_refl, if_true]
            exact ownsRow_setCell_below (owns_mono ho2 hLk) (by have := hmono 0 i (by omega) (Nat.le_refl _); simp; omega) _
          · intro b' hb'
            have := (ho2.lt b' hb').2
            show b' < if i + 1 ≤ i then L (i + 1) else w2.heap.size
            rw [if_neg (by omega)]; exact this
      have HR := Hid.mk R
      have HV : Hid ((w2.setCell ⟨w.heap.size, k, none⟩ V).heap[w.heap.size]? = some (.cells (vs.set k V).toArray 22 (0, 0))) := by
        show _ = _
        rw [heap_setCell_same w2 _ k _ _ V hv2]; simp
      have HB : Hid (Below w.heap.size w (w2.setCell ⟨w.heap.size, k, none⟩ V)) := (hbw.trans (hb2.mono hbw.size)).setCell (Nat.le_refl _) _
      have HL := Hid.mk hLm
      have HK := Hid.mk hLk
      clear R hrow hrow2 ho2 hb2 hbw hv1 hv2 hmono hu hat hLm hLk
      subst hV
      clear hcx
      go_wp2
      go_roundw
      case rel =>
        refine ⟨k + 1, _, _, by omega, by go_num, by simpa using hv0, HV.out, by simpa using hL0, fun i hi => ?_, ?_, HR.out, HB.out⟩
        · have := HK.out
          by_cases e : i + 1 ≤ k
          · simpa [show i ≤ k by omega, e] using HL.out i (by omega)
          · obtain rfl : i = k := by omega
            show (if i ≤ i then L i else w2.heap.size) ≤ (if i + 1 ≤ i then L (i + 1) else w2.heap.size)
            rw [if_pos (Nat.le_refl _), if_neg (by omega)]; omega
        · show (if k + 1 ≤ k then L (k + 1) else w2.heap.size) ≤ _
          rw [if_neg (by omega)]; simp [World.setCell]
      case measure => simp [intOf]; omega
    · obtain rfl : k = n := by omega
      go_wp2
      go_ret
      exact ⟨rfl, ⟨vs, L, hz, hv0, Nat.le_refl _, hL0, hLm, hLk, Nat.le_refl _, hv1, hrow⟩, hbw⟩

theorem listNe_getD {zss zss' : List (List Int)} {k : Nat} (h : zss.getD k [] ≠ zss'.getD k []) : zss ≠ zss' := fun e => h (by rw [e])
theorem takeS_succ (zss : List (List Int)) (k : Nat) (h : k < zss.length) : zss.take (k + 1) = zss.take k ++ [zss.getD k []] := by
  rw [List.take_succ_eq_append_getElem h]; simp [List.getD, h]

set_option maxHeartbeats 2000000 in
theorem eqIntSS_any (a a' : Option Addr) (n n' c c' : Nat) (zss zss' : List (List Int)) (w : World) (hz : zss.length = n) (hz' : zss'.length = n') (hn : n ≤ 1048576) (hn' : n' ≤ 1048576)
    (hs : ∀ i, i < zss.length → (zss.getD i []).length ≤ 1048576) (hs' : ∀ i, i < zss'.length → (zss'.getD i []).length ≤ 1048576) (ha : AtS w a zss) (ha' : AtS w a' zss') :
    Calls Try.prog 55 #[.slice a n c, .slice a' n' c'] w fun e w' => e = .returned (.bool (decide (zss = zss'))) ∧ Below w.heap.size w w' := by
  by_cases hnn : n = n'
  · subst hnn
    by_cases h0 : n = 0
    · subst h0
      obtain rfl := List.eq_nil_of_length_eq_zero hz
      obtain rfl := List.eq_nil_of_length_eq_zero hz'
      go_enter Try.func55, Try.ntmps55
      go_wp2
      refine wp_loop_rounds 1 ?_
      rw [rounds_succ]
      go_wp2
      go_ret
      exact ⟨by simp, Below.refl _ _⟩
    · go_enter Try.func55, Try.ntmps55
      go_wp2
      go_loopw [5] (fun i wr => ∃ (k : Nat), k ≤ n ∧ i = .int .i64 k ∧ zss.take k = zss'.take k ∧ Below w.heap.size w wr) (fun i _ => n - (intOf i).toNat)
      case atStart => exact ⟨0, Nat.zero_le _, rfl, rfl, Below.refl _ _⟩
      case round =>
        obtain ⟨k, hk, rfl, ht, hbw⟩ := hrel
        by_cases hlt : k < n
        · obtain ⟨b, off, rfl, hc⟩ := (ha.below hbw).some (by omega)
          obtain ⟨b', off', rfl, hc'⟩ := (ha'.below hbw).some (by omega)
          obtain ⟨q, d, hcx, _, hat⟩ := hc k (by omega)
          obtain ⟨q', d', hcy, _, hat'⟩ := hc' k (by omega)
          have hm := hs k (by omega)
          have hm' := hs' k (by omega)
          have HT : Hid (zss.getD k [] = zss'.getD k [] → zss.take (k + 1) = zss'.take (k + 1)) := fun e => by
            rw [takeS_succ zss k (by omega), takeS_succ zss' k (by omega), ht, e]
          have HN : Hid (zss.getD k [] ≠ zss'.getD k [] → zss ≠ zss') := listNe_getD
          generalize zss.getD k [] = ys at *
          generalize zss'.getD k [] = ys' at *
          obtain ⟨m, hmm⟩ : ∃ m, ys.length = m := ⟨_, rfl⟩
          obtain ⟨m', hmm'⟩ : ∃ m, ys'.length = m := ⟨_, rfl⟩
          rw [hmm] at hcx hm
          rw [hmm'] at hcy hm'
          have HM := Hid.mk hmm
          have HM' := Hid.mk hmm'
          have hki : (k : Int) < (n : Int) := by omega
          clear ht hc hc' hmm hmm' ha ha' hs hs'
          go_wp2_with fail
          have hd : ∀ bl : Bool, decide (ys = ys') = bl → Hid (decide (ys = ys') = bl) := fun _ h => h
          cases hbl : decide (ys = ys') with
          | true =>
            have HD := Hid.mk hbl
            have he : ys = ys' := of_decide_eq_true hbl
            have HE := Hid.mk he
            clear hbl hd he
            go_region_held3 (fun w' => w'.cell? ⟨b, off + k, none⟩ = some (.slice q m d) ∧ w'.cell? ⟨b', off' + k, none⟩ = some (.slice q' m' d')) (refine ⟨?_, ?_⟩ <;> assumption)
              (first | (go_at_call 16; refine (eqIntS_any _ _ _ _ _ _ ys ys' _ HM.out HM'.out hm hm' hat.drew hat'.drew).mono ?_; rintro e w2 ⟨rfl, hb2⟩; rw [HD.out]; have e1 := cell_later hb2 hcx; have e2 := cell_later hb2 hcy))
            go_wp2
            go_roundw
            case rel => exact ⟨k + 1, by omega, by go_num, HT.out HE.out, hbw.drew.trans (hb2.mono hbw.size)⟩
            case measure => simp [intOf]; omega
          | false =>
            have HD := Hid.mk hbl
            have HE := Hid.mk (of_decide_eq_false hbl)
            clear hbl hd
            go_region_held3 (fun w' => w'.cell? ⟨b, off + k, none⟩ = some (.slice q m d) ∧ w'.cell? ⟨b', off' + k, none⟩ = some (.slice q' m' d')) (refine ⟨?_, ?_⟩ <;> assumption)
              (first | (go_at_call 16; refine (eqIntS_any _ _ _ _ _ _ ys ys' _ HM.out HM'.out hm hm' hat.drew hat'.drew).mono ?_; rintro e w2 ⟨rfl, hb2⟩; rw [HD.out]; have e1 := cell_later hb2 hcx; have e2 := cell_later hb2 hcy))
            go_wp2
            go_ret
            exact ⟨ret_bool (decide_eq_false (HN.out HE.out)).symm, hbw.drew.trans (hb2.mono hbw.size)⟩
        · go_wp2
          go_ret
          rw [List.take_of_length_le (by omega), List.take_of_length_le (by omega)] at ht
          exact ⟨ret_bool (decide_eq_true ht).symm, hbw⟩
  · go_enter Try.func55, Try.ntmps55
    go_wp2
    go_ret
    exact ⟨ret_bool (decide_eq_false (fun e => hnn (by rw [← hz, ← hz', e]))).symm, Below.refl _ _⟩

theorem toIntSS_at (a : Option Addr) (n c : Nat) (zss : List (List Int)) (w : World) (hz : zss.length = n) (hn : n ≤ 1048576) (hs : ∀ i, i < zss.length → (zss.getD i []).length ≤ 1048576) (ha : AtS w a zss) :
    Calls Try.prog 53 #[.slice a n c] w fun e w' => ∃ g, e = .returned (.slice (some ⟨g, 0, none⟩) n n) ∧ OwnS w' w.heap.size w'.heap.size 22 3 g n zss ∧ Below w.heap.size w w' :=
  (toIntSS_any a n c zss w hz hn hs ha).mono fun _ _ ⟨h1, h2, h3⟩ => ⟨_, h1, h2, h3⟩
theorem szIntSS_at (a : Option Addr) (n c : Nat) (zss : List (List Int)) (l : Int) (w : World) (hz : zss.length = n) (hn : n ≤ 9223372036854775807) (h0 : 0 ≤ l) (h1 : l ≤ 1048576) (ha : AtS w a zss) :
    Calls Try.prog 51 #[.slice a n c, .int .i64 l] w fun e w' => e = .returned (.int .i64 (leftOf l (n + tot zss n))) ∧ Below w.heap.size w w' :=
  (szIntSS_any a n c zss l w hz hn h0 h1 ha).mono fun _ _ ⟨h1, h2⟩ => ⟨h1, h2 ▸ Below.refl _ _⟩
theorem tot_each (zss : List (List Int)) (n : Nat) (hn : zss.length = n) (i : Nat) (hi : i < zss.length) : (zss.getD i []).length ≤ tot zss n := by
  have h1 := tot_succ zss i hi
  have h2 := tot_mono zss (i + 1) n (by omega)
  omega

end Go.Proofs.Yteggbamjfhbmfaa
