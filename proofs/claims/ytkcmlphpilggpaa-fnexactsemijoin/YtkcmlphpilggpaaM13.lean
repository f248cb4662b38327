/- Several texts of one proof, in build order: IntSS, MarkSS, LawP, IterP, PlainR. -/
import Derived.Test.YtkcmlphpilggpaaM3
import Derived.Test.YtkcmlphpilggpaaM1
import Derived.Test.YtkcmlphpilggpaaM11

/- Contracts of the laws' helpers over slices of slices of ints: szIntSS, toIntSS, eqIntSS, markIntSS. -/
namespace Go.Proofs.Ytkcmlphpilggpaa
open Go.RowKit

theorem Try.infoInts : (Try.prog.info? 22).map (fun i => (i.zero, i.size, i.bytes)) = some (some (.slice none 0 0), 1, 24) := by kernel_rfl

set_option maxHeartbeats 1000000 in
theorem szIntSS_any (a : Option Addr) (n c : Nat) (zss : List (List Int)) (l : Int) (w : World) (hz : zss.length = n) (hn : n ≤ 9223372036854775807) (h0 : 0 ≤ l) (h1 : l ≤ 1048576) (ha : AtS w a zss) :
    Calls Try.prog 16 #[.slice a n c, .int .i64 l] w fun e w' => e = .returned (.int .i64 (leftOf l (n + tot zss n))) ∧ w' = w := by
  by_cases hb : l < n
  · have h' : l - (n : Int) < 0 := by omega
    go_enter Try.func16, Try.ntmps16
    go_wp2
    go_ret
    exact ⟨ret_int (leftOf_no (by omega)).symm, rfl⟩
  · have h' : ¬ l - (n : Int) < 0 := by omega
    by_cases hn0 : n = 0
    · subst hn0
      have ht : tot zss 0 = 0 := rfl
      go_enter Try.func16, Try.ntmps16
      go_wp2
      refine wp_loop_rounds 1 ?_
      rw [rounds_succ]
      go_wp2
      go_ret
      exact ⟨ret_int (by rw [ht, leftOf_yes (by omega)]; omega), rfl⟩
    · obtain ⟨b, off, rfl, hc⟩ := ha.some (by omega)
      clear ha
      go_enter Try.func16, Try.ntmps16
      go_wp2
      go_loop [1, 5] (fun q i => ∃ (k : Nat) (r : Int), k ≤ n ∧ i = .int .i64 k ∧ q = .int .i64 r ∧ 0 ≤ r ∧ r ≤ 1048576 ∧ r + tot zss k = l - n) (fun _ i => n - (intOf i).toNat)
      case atStart => exact ⟨0, l - n, Nat.zero_le _, rfl, rfl, by omega, by omega, by rw [tot_zero]; omega⟩
      case round =>
        obtain ⟨k, r, hk, rfl, rfl, hr0, hr1, hr⟩ := hrel
        by_cases hlt : k < n
        · obtain ⟨a', c', hcx, hm, hat⟩ := hc k (by omega)
          have hts := tot_succ zss k (by omega)
          have htm := tot_mono zss (k + 1) n (by omega)
          obtain ⟨m, hmm⟩ : ∃ m, m = (zss.getD k []).length := ⟨_, rfl⟩
          rw [← hmm] at hcx hm hts
          have HR := Hid.mk hr
          have HT := Hid.mk hts
          clear hmm hat hc hr hts
          by_cases hfit : r < m
          · go_wp2_with (go_at_call 26; refine (szIntS_any _ _ _ _ _ hm hr0 hr1).mono ?_; rintro e w' ⟨rfl, rfl⟩; rw [if_pos hfit])
            go_ret
            exact ⟨ret_int (leftOf_no (by have := HR.out; have := HT.out; omega)).symm, rfl⟩
          · have hd : ¬ r - (m : Int) < 0 := by omega
            go_wp2_with (go_at_call 26; refine (szIntS_any _ _ _ _ _ hm hr0 hr1).mono ?_; rintro e w' ⟨rfl, rfl⟩; rw [if_neg (by omega)])
            go_round
            case rel => exact ⟨k + 1, r - m, by omega, by go_num, rfl, by omega, by omega, by have := HR.out; have := HT.out; omega⟩
            case measure => simp [intOf]; omega
        · obtain rfl : k = n := by omega
          have HR := Hid.mk hr
          clear hr hc
          go_wp2
          go_ret
          exact ⟨ret_int (by have := HR.out; rw [leftOf_yes (by omega)]; omega), rfl⟩

theorem rows_store {w : World} {e : TypeId} {vs : List Value} {zss : List (List Int)} {k : Nat} {L : Nat → Nat} (h : RowsOwned w e vs zss k L) (hL : ∀ i, i < k → L 0 ≤ L i) {g j : Nat} (hg : g < L 0) (v : Value) (hj : k ≤ j) :
    RowsOwned (w.setCell ⟨g, j, none⟩ v) e (vs.set j v) zss k L := fun i hi => by
  obtain ⟨a, c, h1, h2, h3⟩ := h i hi
  refine ⟨a, c, ?_, ownsRow_setCell_below h2 (by have := hL i hi; simp; omega) _, h3⟩
  rw [List.getElem?_set_ne (by omega)]; exact h1

set_option maxHeartbeats 2000000 in
theorem toIntSS_any (a : Option Addr) (n c : Nat) (zss : List (List Int)) (w : World) (hz : zss.length = n) (hn : n ≤ 1048576) (hs : ∀ i, i < zss.length → (zss.getD i []).length ≤ 1048576) (ha : AtS w a zss) :
    Calls Try.prog 19 #[.slice a n c] w fun e w' => e = .returned (.slice (some ⟨w.heap.size, 0, none⟩) n n) ∧ OwnS w' w.heap.size w'.heap.size 22 3 w.heap.size n zss ∧ Below w.heap.size w w' := by
  obtain ⟨i0, hi, hz0, hz1, hz2⟩ := info_parts Try.infoInts
  go_enter Try.func19, Try.ntmps19
  go_wp2_with (at_make; refine wpList_make_full _ rfl _ _ 42 rfl w.heap.size 22 i0 (.slice none 0 0) 1 Try.underlying42 hi hz0 hz1 .i64 .i64 _ _ n rfl rfl rfl rfl (by rw [hz2]; omega) (by unfold maxLen; omega) (Nat.le_refl _) ?_; intro w1 hown hg)
  have hb1 : Below w.heap.size w w1 := (Below.refl _ _).grown hg (Nat.le_refl _) (by simp)
  obtain ⟨vs, hv0, hv1, zg⟩ : ∃ vs : List Value, vs.length = n ∧ w1.heap[w.heap.size]? = some (.cells vs.toArray 22 (0, 0)) ∧ w.heap.size < w1.heap.size := by
    rcases hown.2 with ⟨h', _⟩ | ⟨g', cap', cur, h', _, hg', _, _, hcs, _⟩
    · simp at h'
    · simp only [Value.slice.injEq, Option.some.injEq, Addr.mk.injEq, and_true, true_and] at h'
      obtain ⟨rfl, rfl⟩ := h'
      exact ⟨cur.toList, by simpa using hcs, by simpa using hg', (Array.getElem?_eq_some_iff.1 hg').1⟩
  clear hown hg
  go_loopw [4] (fun i wr => ∃ (k : Nat) (vs : List Value) (L : Nat → Nat), k ≤ n ∧ i = .int .i64 k ∧ vs.length = n ∧ wr.heap[w.heap.size]? = some (.cells vs.toArray 22 (0, 0)) ∧ w.heap.size < L 0 ∧ (∀ i, i < k → L i ≤ L (i + 1)) ∧ L k ≤ wr.heap.size ∧ RowsOwned wr 3 vs zss k L ∧ Below w.heap.size w wr) (fun i _ => n - (intOf i).toNat)
  case atStart => exact ⟨0, vs, fun _ => w.heap.size + 1, Nat.zero_le _, rfl, hv0, hv1, by simp, fun _ h => by omega, by simp; omega, fun i hi => by omega, hb1⟩
  case round =>
    clear hv0 hv1 hb1 zg vs
    obtain ⟨k, vs, L, hk, rfl, hv0, hv1, hL0, hLm, hLk, hrow, hbw⟩ := hrel
    by_cases hlt : k < n
    · obtain ⟨b, off, rfl, hc⟩ := (ha.below hbw).some (by omega)
      obtain ⟨a', c', hcx, _, hat⟩ := hc k (by omega)
      have hsm := hs k (by omega)
      have zg : w.heap.size < wr.heap.size := (Array.getElem?_eq_some_iff.1 hv1).1
      have hki : (k : Int) < (n : Int) := by omega
      obtain ⟨ys, hys⟩ : ∃ ys, ys = zss.getD k [] := ⟨_, rfl⟩
      obtain ⟨m, hm⟩ : ∃ m, ys.length = m := ⟨_, rfl⟩
      rw [← hys, hm] at hcx hsm
      rw [← hys] at hat
      have HYS := Hid.mk hys
      have HM := Hid.mk hm
      clear hys hm hc
      go_wp2_with fail
      refine (toIntS_any a' _ c' ys _ HM.out hsm hat).mono ?_
      rintro e w2 ⟨rfl, ho2, hb2⟩
      have hv2 : w2.heap[w.heap.size]? = some (.cells vs.toArray 22 (0, 0)) := (hb2.block _ zg).trans hv1
      have hrow2 := hrow.below hb2
      obtain ⟨u, hu⟩ : ∃ u, vs[k]? = some u := ⟨_, List.getElem?_eq_getElem (by omega)⟩
      have hco : w2.cell? ⟨w.heap.size, k, none⟩ = some u := by rw [cell_of_row w2 _ k _ _ (0, 0) hv2]; simpa using hu
      have hfo : w2.frozen? ⟨w.heap.size, k, none⟩ = false := frozen_of_row w2 _ k _ _ hv2
      have hmono := mono_le (n := k) (L := L) (fun i hi => hLm i hi)
      have z2 := hb2.size
      obtain ⟨V, hV⟩ : ∃ V, V = Value.slice (some ⟨wr.heap.size, 0, none⟩) m m := ⟨_, rfl⟩
      have R : RowsOwned (w2.setCell ⟨w.heap.size, k, none⟩ V) 3 (vs.set k V) zss (k + 1) (fun i => if i ≤ k then L i else w2.heap.size) := by
        intro i hi
        by_cases e : i < k
        · obtain ⟨a1, c1, h1, h2, h3⟩ := rows_store hrow2 (fun i hi => hmono 0 i (by omega) (by omega)) hL0 V (Nat.le_refl k) i e
          refine ⟨a1, c1, h1, ?_, ?_⟩
          · simpa [show i ≤ k by omega] using h2
          · simpa [show i + 1 ≤ k by omega] using h3
        · obtain rfl : i = k := by omega
          rw [← HYS.out, HM.out]
          refine ⟨some ⟨wr.heap.size, 0, none⟩, m, ?_, ?_, ?_⟩
          · rw [List.getElem?_set_self (by omega), hV]
          · simp only [Nat.le_refl, if_true]
            exact ownsRow_setCell_below (owns_mono ho2 hLk) (by have := hmono 0 i (by omega) (Nat.le_refl _); simp; omega) _
          · intro b' hb'
            have := (ho2.lt b' hb').2
            show b' < if i + 1 ≤ i then L (i + 1) else w2.heap.size
            rw [if_neg (by omega)]; exact this
      have HR := Hid.mk R
      have HV : Hid ((w2.setCell ⟨w.heap.size, k, none⟩ V).heap[w.heap.size]? = some (.cells (vs.set k V).toArray 22 (0, 0))) := by
        show _ = _
        rw [heap_setCell_same w2 _ k _ _ V hv2]; simp
      have HB : Hid (Below w.heap.size w (w2.setCell ⟨w.heap.size, k, none⟩ V)) := (hbw.trans (hb2.mono hbw.size)).setCell (Nat.le_refl _) _
      have HL := Hid.mk hLm
      have HK := Hid.mk hLk
      clear R hrow hrow2 ho2 hb2 hbw hv1 hv2 hmono hu hat hLm hLk
      subst hV
      clear hcx
      go_wp2
      go_roundw
      case rel =>
        refine ⟨k + 1, _, _, by omega, by go_num, by simpa using hv0, HV.out, by simpa using hL0, fun i hi => ?_, ?_, HR.out, HB.out⟩
        · have := HK.out
          by_cases e : i + 1 ≤ k
          · simpa [show i ≤ k by omega, e] using HL.out i (by omega)
          · obtain rfl : i = k := by omega
            show (if i ≤ i then L i else w2.heap.size) ≤ (if i + 1 ≤ i then L (i + 1) else w2.heap.size)
            rw [if_pos (Nat.le_refl _), if_neg (by omega)]; omega
        · show (if k + 1 ≤ k then L (k + 1) else w2.heap.size) ≤ _
          rw [if_neg (by omega)]; simp [World.setCell]
      case measure => simp [intOf]; omega
    · obtain rfl : k = n := by omega
      go_wp2
      go_ret
      exact ⟨rfl, ⟨vs, L, hz, hv0, Nat.le_refl _, hL0, hLm, hLk, Nat.le_refl _, hv1, hrow⟩, hbw⟩

theorem listNe_getD {zss zss' : List (List Int)} {k : Nat} (h : zss.getD k [] ≠ zss'.getD k []) : zss ≠ zss' := fun e => h (by rw [e])
theorem takeS_succ (zss : List (List Int)) (k : Nat) (h : k < zss.length) : zss.take (k + 1) = zss.take k ++ [zss.getD k []] := by
  rw [List.take_succ_eq_append_getElem h]; simp [List.getD, h]

set_option maxHeartbeats 2000000 in
theorem eqIntSS_any (a a' : Option Addr) (n n' c c' : Nat) (zss zss' : List (List Int)) (w : World) (hz : zss.length = n) (hz' : zss'.length = n') (hn : n ≤ 1048576) (hn' : n' ≤ 1048576)
    (hs : ∀ i, i < zss.length → (zss.getD i []).length ≤ 1048576) (hs' : ∀ i, i < zss'.length → (zss'.getD i []).length ≤ 1048576) (ha : AtS w a zss) (ha' : AtS w a' zss') :
    Calls Try.prog 22 #[.slice a n c, .slice a' n' c'] w fun e w' => e = .returned (.bool (decide (zss = zss'))) ∧ Below w.heap.size w w' := by
  by_cases hnn : n = n'
  · subst hnn
    by_cases h0 : n = 0
    · subst h0
      obtain rfl := List.eq_nil_of_length_eq_zero hz
      obtain rfl := List.eq_nil_of_length_eq_zero hz'
      go_enter Try.func22, Try.ntmps22
      go_wp2
      refine wp_loop_rounds 1 ?_
      rw [rounds_succ]
      go_wp2
      go_ret
      exact ⟨by simp, Below.refl _ _⟩
    · go_enter Try.func22, Try.ntmps22
      go_wp2
      go_loopw [5] (fun i wr => ∃ (k : Nat), k ≤ n ∧ i = .int .i64 k ∧ zss.take k = zss'.take k ∧ Below w.heap.size w wr) (fun i _ => n - (intOf i).toNat)
      case atStart => exact ⟨0, Nat.zero_le _, rfl, rfl, Below.refl _ _⟩
      case round =>
        obtain ⟨k, hk, rfl, ht, hbw⟩ := hrel
        by_cases hlt : k < n
        · obtain ⟨b, off, rfl, hc⟩ := (ha.below hbw).some (by omega)
          obtain ⟨b', off', rfl, hc'⟩ := (ha'.below hbw).some (by omega)
          obtain ⟨q, d, hcx, _, hat⟩ := hc k (by omega)
          obtain ⟨q', d', hcy, _, hat'⟩ := hc' k (by omega)
          have hm := hs k (by omega)
          have hm' := hs' k (by omega)
          have HT : Hid (zss.getD k [] = zss'.getD k [] → zss.take (k + 1) = zss'.take (k + 1)) := fun e => by
            rw [takeS_succ zss k (by omega), takeS_succ zss' k (by omega), ht, e]
          have HN : Hid (zss.getD k [] ≠ zss'.getD k [] → zss ≠ zss') := listNe_getD
          generalize zss.getD k [] = ys at *
          generalize zss'.getD k [] = ys' at *
          obtain ⟨m, hmm⟩ : ∃ m, ys.length = m := ⟨_, rfl⟩
          obtain ⟨m', hmm'⟩ : ∃ m, ys'.length = m := ⟨_, rfl⟩
          rw [hmm] at hcx hm
          rw [hmm'] at hcy hm'
          have HM := Hid.mk hmm
          have HM' := Hid.mk hmm'
          have hki : (k : Int) < (n : Int) := by omega
          clear ht hc hc' hmm hmm' ha ha' hs hs'
          go_wp2_with fail
          have hd : ∀ bl : Bool, decide (ys = ys') = bl → Hid (decide (ys = ys') = bl) := fun _ h => h
          cases hbl : decide (ys = ys') with
          | true =>
            have HD := Hid.mk hbl
            have he : ys = ys' := of_decide_eq_true hbl
            have HE := Hid.mk he
            clear hbl hd he
            go_region_held3 (fun w' => w'.cell? ⟨b, off + k, none⟩ = some (.slice q m d) ∧ w'.cell? ⟨b', off' + k, none⟩ = some (.slice q' m' d')) (refine ⟨?_, ?_⟩ <;> assumption)
              (first | (go_at_call 11; refine (eqIntS_any _ _ _ _ _ _ ys ys' _ HM.out HM'.out hm hm' hat.drew hat'.drew).mono ?_; rintro e w2 ⟨rfl, hb2⟩; rw [HD.out]; have e1 := cell_later hb2 hcx; have e2 := cell_later hb2 hcy))
            go_wp2
            go_roundw
            case rel => exact ⟨k + 1, by omega, by go_num, HT.out HE.out, hbw.drew.trans (hb2.mono hbw.size)⟩
            case measure => simp [intOf]; omega
          | false =>
            have HD := Hid.mk hbl
            have HE := Hid.mk (of_decide_eq_false hbl)
            clear hbl hd
            go_region_held3 (fun w' => w'.cell? ⟨b, off + k, none⟩ = some (.slice q m d) ∧ w'.cell? ⟨b', off' + k, none⟩ = some (.slice q' m' d')) (refine ⟨?_, ?_⟩ <;> assumption)
              (first | (go_at_call 11; refine (eqIntS_any _ _ _ _ _ _ ys ys' _ HM.out HM'.out hm hm' hat.drew hat'.drew).mono ?_; rintro e w2 ⟨rfl, hb2⟩; rw [HD.out]; have e1 := cell_later hb2 hcx; have e2 := cell_later hb2 hcy))
            go_wp2
            go_ret
            exact ⟨ret_bool (decide_eq_false (HN.out HE.out)).symm, hbw.drew.trans (hb2.mono hbw.size)⟩
        · go_wp2
          go_ret
          rw [List.take_of_length_le (by omega), List.take_of_length_le (by omega)] at ht
          exact ⟨ret_bool (decide_eq_true ht).symm, hbw⟩
  · go_enter Try.func22, Try.ntmps22
    go_wp2
    go_ret
    exact ⟨ret_bool (decide_eq_false (fun e => hnn (by rw [← hz, ← hz', e]))).symm, Below.refl _ _⟩

theorem toIntSS_at (a : Option Addr) (n c : Nat) (zss : List (List Int)) (w : World) (hz : zss.length = n) (hn : n ≤ 1048576) (hs : ∀ i, i < zss.length → (zss.getD i []).length ≤ 1048576) (ha : AtS w a zss) :
    Calls Try.prog 19 #[.slice a n c] w fun e w' => ∃ g, e = .returned (.slice (some ⟨g, 0, none⟩) n n) ∧ OwnS w' w.heap.size w'.heap.size 22 3 g n zss ∧ Below w.heap.size w w' :=
  (toIntSS_any a n c zss w hz hn hs ha).mono fun _ _ ⟨h1, h2, h3⟩ => ⟨_, h1, h2, h3⟩
theorem szIntSS_at (a : Option Addr) (n c : Nat) (zss : List (List Int)) (l : Int) (w : World) (hz : zss.length = n) (hn : n ≤ 9223372036854775807) (h0 : 0 ≤ l) (h1 : l ≤ 1048576) (ha : AtS w a zss) :
    Calls Try.prog 16 #[.slice a n c, .int .i64 l] w fun e w' => e = .returned (.int .i64 (leftOf l (n + tot zss n))) ∧ Below w.heap.size w w' :=
  (szIntSS_any a n c zss l w hz hn h0 h1 ha).mono fun _ _ ⟨h1, h2⟩ => ⟨h1, h2 ▸ Below.refl _ _⟩
theorem tot_each (zss : List (List Int)) (n : Nat) (hn : zss.length = n) (i : Nat) (hi : i < zss.length) : (zss.getD i []).length ≤ tot zss n := by
  have h1 := tot_succ zss i hi
  have h2 := tot_mono zss (i + 1) n (by omega)
  omega

end Go.Proofs.Ytkcmlphpilggpaa

/- Contract of markIntSS: it writes into what it is handed alone. -/
namespace Go.Proofs.Ytkcmlphpilggpaa
open Go.RowKit

set_option maxHeartbeats 2000000 in
theorem markIntSS_any (lo hi : Nat) (g n : Nat) (zss : List (List Int)) (m : Int) (w : World) (hn : n ≤ 1048576) (hs : ∀ i, i < zss.length → (zss.getD i []).length ≤ 1048576) (ht : tot zss n ≤ 1048576) (h0 : 0 ≤ m) (h1 : m ≤ 268435456)
    (ho : OwnS w lo hi 22 3 g n zss) :
    Calls Try.prog 24 #[.slice (some ⟨g, 0, none⟩) n n, .int .i64 m] w fun e w' => e = .returned (.int .i64 (m + tot zss n)) ∧ Apart lo hi w w' := by
  obtain ⟨vs, L, hz, hv, hlo, hg0, hLm, hLn, hhi, hvb, hrow⟩ := ho
  have hmono := mono_le hLm
  go_enter Try.func24, Try.ntmps24
  go_wp2
  go_loopw [1, 5] (fun q i wr => ∃ k : Nat, k ≤ n ∧ i = .int .i64 k ∧ q = .int .i64 (m + tot zss k) ∧ wr.heap[g]? = some (.cells vs.toArray 22 (0, 0)) ∧
      (∀ i, k ≤ i → i < n → ∃ a c, vs[i]? = some (.slice a (zss.getD i []).length c) ∧ wr.ownsRow (L i) 3 1 (.slice a (zss.getD i []).length c) (zss.getD i []).length ((zss.getD i []).map (.int .i64)) ∧ ∀ b, (Value.slice a (zss.getD i []).length c).ownBlock = some b → b < L (i + 1)) ∧ Apart lo hi w wr) (fun _ i _ => n - (intOf i).toNat)
  case atStart => exact ⟨0, Nat.zero_le _, rfl, by simp [tot_zero], hvb, fun i _ hi => hrow i hi, Apart.refl _ _ _⟩
  case round =>
    clear hvb hrow
    obtain ⟨k, hk, rfl, rfl, hvb, hrow, hap⟩ := hrel
    by_cases hlt : k < n
    · obtain ⟨a, c, e1, e2, e3⟩ := hrow k (Nat.le_refl _) hlt
      have hcx : wr.cell? ⟨g, k, none⟩ = some (.slice a (zss.getD k []).length c) := by rw [cell_of_row wr g k _ _ (0, 0) hvb]; simpa using e1
      have hsm := hs k (by omega)
      have hts := tot_succ zss k (by omega)
      have htm := tot_mono zss (k + 1) n (by omega)
      obtain ⟨ys, hys⟩ : ∃ ys, ys = zss.getD k [] := ⟨_, rfl⟩
      obtain ⟨l, hl⟩ : ∃ l, ys.length = l := ⟨_, rfl⟩
      rw [← hys, hl] at hcx hsm hts e2
      rw [← hys] at e3
      rw [hl] at e3
      have HTS := Hid.mk hts
      have hb1 : m + (tot zss k : Int) ≤ 1073741824 := by omega
      have hb0 : 0 ≤ m + (tot zss k : Int) := by omega
      have HTM := Hid.mk htm
      have ltk := e2.lt
      obtain ⟨T, hT⟩ : ∃ T : Nat, tot zss k = T := ⟨_, rfl⟩
      rw [hT] at hb0 hb1 HTS
      rw [hT]
      have HT := Hid.mk hT
      have hki : (k : Int) < (n : Int) := by omega
      clear hys hl hts htm e1 hT
      go_wp2_with fail
      refine (markIntS_any _ _ _ _ _ _ _ hsm hb0 hb1 e2).mono ?_
      rintro e w2 ⟨rfl, ho2, hg2⟩
      have hrange : ∀ b, (Value.slice a l c).ownBlock = some b → L k ≤ b ∧ b < L (k + 1) := fun b hb => ⟨(ltk b hb).1, e3 b hb⟩
      have q1 := hmono 0 k (by omega) (by omega)
      have q2 := hmono (k + 1) n (by omega) (Nat.le_refl _)
      have hvb2 : w2.heap[g]? = some (.cells vs.toArray 22 (0, 0)) := by
        rw [hg2.block g (Array.getElem?_eq_some_iff.1 hvb).1 (fun e => by have := hrange g e.symm; omega)]; exact hvb
      have HR : Hid (∀ i, k + 1 ≤ i → i < n → ∃ a c, vs[i]? = some (.slice a (zss.getD i []).length c) ∧ w2.ownsRow (L i) 3 1 (.slice a (zss.getD i []).length c) (zss.getD i []).length ((zss.getD i []).map (.int .i64)) ∧ ∀ b, (Value.slice a (zss.getD i []).length c).ownBlock = some b → b < L (i + 1)) := fun i hi1 hi2 => by
        obtain ⟨a', c', k1, k2, k3⟩ := hrow i (by omega) hi2
        have lti := k2.lt
        exact ⟨a', c', k1, k2.kept hg2 (own_apart (lo := L i) (hi := L (i + 1)) (fun b hb => ⟨(lti b hb).1, k3 b hb⟩) hrange (.inr (hmono (k + 1) i (by omega) (by omega)))), k3⟩
      have HA : Hid (Apart lo hi w w2) := hap.trans (Apart.grown hg2 (fun b hb => by have := hrange b hb; omega))
      have HV := Hid.mk hvb2
      clear hvb2 hvb hrow hap hg2 ho2 e2 e3 hcx ltk hrange
      go_wp2
      go_roundw
      case rel => exact ⟨k + 1, by omega, by go_num, by have := HTS.out; go_num, HV.out, HR.out, HA.out⟩
      case measure => simp [intOf]; omega
    · obtain rfl : k = n := by omega
      have hTm : tot zss k ≤ 1048576 := ht
      go_wp2
      go_ret
      exact ⟨rfl, hap⟩

end Go.Proofs.Ytkcmlphpilggpaa

/- The laws' helpers over lists of pairs in one form, as LawG has them over tables. -/
namespace Go.Proofs.Ytkcmlphpilggpaa
open Go.RowKit

/-- A list of lists of ints that the laws' bound allows. -/
def SmP (zss : List (List Int)) (n : Nat) : Prop := zss.length = n ∧ n + tot zss n ≤ 1048576
theorem SmP.n {zss : List (List Int)} {n : Nat} (h : SmP zss n) : n ≤ 1048576 := by have := h.2; omega
theorem SmP.each {zss : List (List Int)} {n : Nat} (h : SmP zss n) : ∀ i, i < zss.length → (zss.getD i []).length ≤ 1048576 := fun i hi => by
  have := tot_each zss n h.1 i hi
  have := h.2
  omega

/-- A slice of lists that the call made: its blocks lie from lo on and below hi. -/
def OwnP (w : World) (lo hi : Nat) (a : Option Addr) (n c : Nat) (zss : List (List Int)) : Prop := ∃ g, a = some ⟨g, 0, none⟩ ∧ c = n ∧ OwnS w lo hi 22 3 g n zss
/-- What was marked: nothing is said of it any more. -/
def Gone (_ : World) (_ _ : Nat) : Prop := True

theorem OwnS.apart {w w' : World} {lo hi lo' hi' : Nat} {t e : TypeId} {g n : Nat} {zss : List (List Int)} (h : OwnS w lo hi t e g n zss) (hp : Apart lo' hi' w w') (hd : hi ≤ lo' ∨ hi' ≤ lo) : OwnS w' lo hi t e g n zss := by
  obtain ⟨vs, L, h1, h2, h3, h4, h5, h6, h7, h8, h9⟩ := h
  have hm := mono_le h5
  have q0 := hm 0 n (by omega) (Nat.le_refl _)
  refine ⟨vs, L, h1, h2, h3, h4, h5, h6, Nat.le_trans h7 hp.size, ?_, fun i hi => ?_⟩
  · exact (hp.block g (Array.getElem?_eq_some_iff.1 h8).1 (by omega)).trans h8
  · obtain ⟨a, c, k1, k2, k3⟩ := h9 i hi
    refine ⟨a, c, k1, hp.owns k2 (fun k hv => ?_), k3⟩
    have q1 := (k2.lt k hv).1
    have q2 := k3 k hv
    have q4 := hm 0 i (by omega) (by omega)
    have q5 := hm (i + 1) n (by omega) (Nat.le_refl _)
    omega

section
variable {w w' : World} {lo hi : Nat} {a : Option Addr} {n c : Nat} {zss : List (List Int)}
theorem OwnP.below (h : OwnP w lo hi a n c zss) (hb : Below w.heap.size w w') : OwnP w' lo hi a n c zss := by
  obtain ⟨g, h1, h2, h3⟩ := h
  exact ⟨g, h1, h2, h3.below hb⟩
theorem OwnP.apartW {lo' hi' : Nat} (h : OwnP w lo hi a n c zss) (hp : Apart lo' hi' w w') (hd : hi ≤ lo' ∨ hi' ≤ lo) : OwnP w' lo hi a n c zss := by
  obtain ⟨g, h1, h2, h3⟩ := h
  exact ⟨g, h1, h2, h3.apart hp hd⟩
theorem OwnP.at (h : OwnP w lo hi a n c zss) (hs : SmP zss n) : AtS w a zss := by
  obtain ⟨g, rfl, h2, h3⟩ := h
  exact h3.atS fun i hi => Nat.le_trans (hs.each i hi) (by decide)
theorem Gone.below (_ : Gone w lo hi) (_ : Below w.heap.size w w') : Gone w' lo hi := trivial
theorem Gone.apartW {lo' hi' : Nat} (_ : Gone w lo hi) (_ : Apart lo' hi' w w') (_ : hi ≤ lo' ∨ hi' ≤ lo) : Gone w' lo hi := trivial
end

theorem szIntSSG (a : Option Addr) (n c : Nat) (zss : List (List Int)) (l : Int) (w : World) (hz : zss.length = n) (hn : n ≤ 9223372036854775807) (h0 : 0 ≤ l) (h1 : l ≤ 1048576) (ha : AtS w a zss) :
    Calls Try.prog 16 #[.slice a n c, .int .i64 l] w fun e w' => e = .returned (.int .i64 (leftOf l ((n + tot zss n : Nat) : Int))) ∧ Below w.heap.size w w' :=
  (szIntSS_at a n c zss l w hz hn h0 h1 ha).mono fun _ _ ⟨h1, h2⟩ => ⟨by rw [h1, Int.natCast_add], h2⟩
theorem toIntSSG (a : Option Addr) (n c : Nat) (zss : List (List Int)) (w : World) (hs : SmP zss n) (ha : AtS w a zss) :
    Calls Try.prog 19 #[.slice a n c] w fun e w' => ∃ g, e = .returned (.slice (some ⟨g, 0, none⟩) n n) ∧ OwnP w' w.heap.size w'.heap.size (some ⟨g, 0, none⟩) n n zss ∧ Below w.heap.size w w' :=
  (toIntSS_at a n c zss w hs.1 hs.n hs.each ha).mono fun _ _ ⟨g, h1, h2, h3⟩ => ⟨g, h1, ⟨g, rfl, rfl, h2⟩, h3⟩
theorem eqIntSSG (a a' : Option Addr) (n c c' : Nat) (zss : List (List Int)) (w : World) (hs : SmP zss n) (ha : AtS w a zss) (ha' : AtS w a' zss) :
    Calls Try.prog 22 #[.slice a n c, .slice a' n c'] w fun e w' => e = .returned (.bool true) ∧ Below w.heap.size w w' :=
  (eqIntSS_any a a' n n c c' zss zss w hs.1 hs.1 hs.n hs.n hs.each hs.each ha ha').mono fun _ _ ⟨h1, h2⟩ => ⟨by rw [h1, decide_eq_true rfl], h2⟩
theorem markIntSSG (lo hi : Nat) (a : Option Addr) (n c : Nat) (zss : List (List Int)) (m : Int) (w : World) (hs : SmP zss n) (h0 : 0 ≤ m) (h1 : m ≤ 268435456) (ho : OwnP w lo hi a n c zss) :
    Calls Try.prog 24 #[.slice a n c, .int .i64 m] w fun e w' => e = .returned (.int .i64 (m + (tot zss n : Nat))) ∧ Gone w' lo hi ∧ Apart lo hi w w' := by
  obtain ⟨g, rfl, rfl, h⟩ := ho
  exact (markIntSS_any lo hi g _ zss m w hs.n hs.each (by have := hs.2; omega) h0 h1 h).mono fun _ _ ⟨h1, h2⟩ => ⟨h1, trivial, h2⟩

end Go.Proofs.Ytkcmlphpilggpaa

/- Plain: what a function hands out that passes on some of another one's rows. -/
namespace Go.Proofs.Ytkcmlphpilggpaa

/-- How many have been handed out when k rows have come. -/
def outW (g : WRow → Option WRow) (xs : List WRow) (k : Nat) : Nat := ((xs.take k).filterMap g).length
theorem outW_zero (g : WRow → Option WRow) (xs : List WRow) : outW g xs 0 = 0 := rfl
theorem outW_all (g : WRow → Option WRow) (xs : List WRow) : outW g xs xs.length = (xs.filterMap g).length := by simp [outW]
theorem outW_none {g : WRow → Option WRow} {xs : List WRow} {k : Nat} (h : k < xs.length) (hg : g (wat xs k) = none) : outW g xs (k + 1) = outW g xs k := by
  unfold outW
  rw [wtake_succ xs k h, List.filterMap_append, List.filterMap_cons, hg]
  simp
theorem outW_some {g : WRow → Option WRow} {xs : List WRow} {k : Nat} {v : WRow} (h : k < xs.length) (hg : g (wat xs k) = some v) :
    outW g xs (k + 1) = outW g xs k + 1 ∧ outW g xs k < (xs.filterMap g).length ∧ wat (xs.filterMap g) (outW g xs k) = v := by
  have e : xs.filterMap g = (xs.take k).filterMap g ++ v :: (xs.drop (k + 1)).filterMap g := by
    have h2 : xs = xs.take k ++ wat xs k :: xs.drop (k + 1) := by
      have h3 := (List.take_append_drop k xs).symm
      rw [List.drop_eq_getElem_cons h] at h3
      rw [show wat xs k = xs[k] by simp [wat, List.getD, h]]
      exact h3
    have h4 := congrArg (List.filterMap g) h2
    rw [List.filterMap_append, List.filterMap_cons, hg] at h4
    exact h4
  refine ⟨?_, ?_, ?_⟩
  · unfold outW
    rw [wtake_succ xs k h, List.filterMap_append, List.filterMap_cons, hg]
    simp
  · rw [e]; unfold outW; simp
  · rw [e]; unfold outW
    simp [wat, List.getD]

end Go.Proofs.Ytkcmlphpilggpaa

/- Contracts of impl.plainRows and of the function that it hands back. -/
namespace Go.Proofs.Ytkcmlphpilggpaa
open Go.RowKit Go.Shelf

attribute [local go_sem] Oper.semAt_some

/-- A row that is there, once. -/
def plainG (t : WRow) : Option WRow := if 0 < t.2 then some (t.1, 1) else none

/-- What a function that passes rows on holds while it does. -/
structure Passing (n₀ : Nat) (J : Nat → World → Prop) (W : World) (bx : Nat → Nat → Prop) (N : Nat) (g : WRow → Option WRow) (xs : List WRow) (v : Value) (t : TypeId) (k : Nat) (A : World) : Prop where
  told : J (outW g xs k) A
  box : A.heap[W.heap.size]? = some (.cells #[v] t (0, 0))
  low : Apart n₀ W.heap.size W A
  size : N ≤ A.heap.size

theorem Passing.keep {n₀ : Nat} {J : Nat → World → Prop} {W : World} {bx : Nat → Nat → Prop} {N : Nat} {g : WRow → Option WRow} {xs : List WRow} {v : Value} {t : TypeId} {k : Nat} {A B : World} (hJ : ∀ k A B, Below W.heap.size A B → J k A → J k B) (hN : W.heap.size < N)
    (h : Passing n₀ J W bx N g xs v t k A) (hb : Below N A B) : Passing n₀ J W bx N g xs v t k B := by
  have hs := h.size
  refine ⟨hJ _ _ _ (hb.mono (by omega)) h.told, (hb.block _ hN).trans h.box, ?_, Nat.le_trans h.size hb.size⟩
  exact ⟨hb.os.trans h.low.os, hb.tape.trans h.low.tape, hb.output.trans h.low.output, Nat.le_trans h.low.size hb.size, fun j hj hc => (hb.block j (by omega)).trans (h.low.block j hj hc)⟩

set_option maxRecDepth 100000 in
set_option maxHeartbeats 4000000 in
theorem plainRows1_hands (T gf : Nat) (lb : Array Value) (xs : List WRow) (w : World) (hT : w.cell? ⟨T, 0, none⟩ = some (.func (.func gf) #[] lb)) (eg : ∀ args w, (callFunc gf args).run Try.prog w = .ok (.enter gf args) w) (hH : Hands Try.prog gf lb xs w) :
    Hands Try.prog 100 #[.pointer (some ⟨T, 0, none⟩)] (xs.filterMap plainG) w := by
  intro n₀ l J W h1 h2 hb hJ hY h0
  refine callsIn_of_wp_marks Try.func100 rfl trivial ?_
  simp only [Try.ntmps100, List.size_toArray, List.length_cons, List.length_nil, Nat.reduceAdd, Nat.reduceSub, Array.replicate_succ, Array.replicate_zero, List.push_toArray, List.append_toArray, List.nil_append, List.cons_append]
  obtain ⟨W0, hW0⟩ : ∃ W0, W0 = W.alloc (.cells #[.func (.yield l) #[] #[]] 134) := ⟨_, rfl⟩
  have hbW : Below W.heap.size W W0 := by rw [hW0]; exact (Below.refl _ _).alloc (Nat.le_refl _) _
  have z0 : W0.heap.size = W.heap.size + 1 := by rw [hW0]; simp
  have hTW := cell_later hb hT
  have hTL : (W.alloc (.cells #[.func (.yield l) #[] #[]] 134)).cell? ⟨T, 0, none⟩ = some (.func (.func gf) #[] lb) := cell_later ((Below.refl _ _).alloc (Nat.le_refl _) _) hTW
  have I0 : Passing n₀ J W (fun _ _ => True) W0.heap.size plainG xs (.func (.yield l) #[] #[]) 134 0 W0 := by
    refine ⟨hJ 0 W W0 hbW h0, ?_, ⟨hbW.os, hbW.tape, hbW.output, hbW.size, fun j hj _ => hbW.block j hj⟩, Nat.le_refl _⟩
    rw [hW0]; exact heap_alloc_new W _
  gi_wp2
  rw [← hW0]
  clear hW0 hTL
  refine range_hands (gf := gf) (lb := lb) rfl eg hH (hb.trans (hbW.mono hb.size)) n₀ h1 (by omega) _ (fun k A B hB h => h.keep hJ (by omega) hB) I0 ?round ?done
  case round =>
    intro r k W1 b n c hr hkx hI hsz hrec hln hnil hat hfar
    obtain ⟨Y, hYk⟩ : ∃ Y, Y = wat xs k := ⟨_, rfl⟩
    rw [← hYk] at hln hat hfar ⊢
    obtain ⟨ys, x⟩ := Y
    simp only at hln hat hfar
    gi_wp2
    refine ⟨(Below.refl _ _).alloc (Nat.le_refl _) _, fun W3 hT3 _ => ?_⟩
    obtain ⟨W2, hW2⟩ : ∃ W2, W2 = W1.alloc (.cells #[.slice b n c] 97) := ⟨_, rfl⟩
    have hb2 : Below W1.heap.size W1 W2 := by rw [hW2]; exact (Below.refl _ _).alloc (Nat.le_refl _) _
    have cr : W2.cell? ⟨W1.heap.size, 0, none⟩ = some (.slice b n c) := by rw [hW2]; simp
    rw [← hW2] at hT3
    clear hW2
    have hI3 := (hI.keep hJ (by omega) (hb2.mono hsz)).keep hJ (by omega) (hT3.below hr)
    have cr3 := hT3.cell cr
    have cy3 : W3.cell? ⟨W.heap.size, 0, none⟩ = some (.func (.yield l) #[] #[]) := by rw [cell_of_row W3 _ 0 _ _ (0, 0) hI3.box]; rfl
    have hat3 := hT3.at (hat.below hb2)
    clear hI hat cr hT3
    by_cases hx : 0 < x
    · have hgx : plainG (wat xs k) = some (ys, 1) := by rw [← hYk]; exact if_pos hx
      obtain ⟨o1, o2, o3⟩ := outW_some hkx hgx
      obtain ⟨fn, tmps, assign, body, hy, hR⟩ := hY (outW plainG xs k) W3 b n c o2 hI3.told (by have := hI3.size; omega) (by rw [o3]; exact hln) hnil (by rw [o3]; exact hat3) (by rw [o3]; exact hfar.mono (by omega))
      rw [o3] at hy
      simp only at hy
      have HI3 := Hid.mk hI3
      have HO1 := Hid.mk o1
      clear hI3 o1 o3 hgx hYk
      gi_wp2
      refine ⟨rfl, hR.mono ?_⟩
      rintro e W4 ⟨rfl, hJ4, hap4⟩
      have hI3 := HI3.out
      have hfin : Passing n₀ J W (fun _ _ => True) W0.heap.size plainG xs (.func (.yield l) #[] #[]) 134 (k + 1) W4 := by
        refine ⟨by rw [HO1.out]; exact hJ4, (hap4.block _ (by have := hI3.size; omega) (.inr (Nat.le_refl _))).trans hI3.box, hI3.low.trans hap4, Nat.le_trans hI3.size hap4.size⟩
      have hapf : Apart n₀ W0.heap.size W3 W4 := ⟨hap4.os, hap4.tape, hap4.output, hap4.size, fun j hj hc => hap4.block j hj (by omega)⟩
      rw [z0] at hfin hapf
      clear hI3 HI3 hJ4 hap4 hR hy
      gi_wp2
      done
    · have hgx : plainG (wat xs k) = none := by rw [← hYk]; exact if_neg hx
      have o1 := outW_none hkx hgx
      have hxx : x ≤ 0 := by omega
      have hfin : Passing n₀ J W (fun _ _ => True) W0.heap.size plainG xs (.func (.yield l) #[] #[]) 134 (k + 1) W3 := ⟨by rw [o1]; exact hI3.told, hI3.box, hI3.low, hI3.size⟩
      have hapf : Apart n₀ W0.heap.size W3 W3 := Apart.refl _ _ _
      rw [z0] at hfin hapf
      clear hI3 hgx hYk o1
      gi_wp2
      refine ⟨fun _ h => (by cases h), ?_⟩
      gi_wp2
      done
  case done =>
    intro D A hD hI hap hdef
    have hto := hI.told
    rw [outW_all] at hto
    have hDl : D < A.heap.size := (Array.getElem?_eq_some_iff.1 hdef).1
    have hJf := hJ _ A (A.putObj D (.deferred none)) ((Below.refl _ _).grown (grownBy_putObj' A D _) (by omega) (fun j hj => by cases hj; omega)) hto
    have hapf : Apart n₀ W.heap.size W (A.putObj D (.deferred none)) := ⟨hI.low.os, hI.low.tape, hI.low.output, by have := hI.low.size; simp; omega, fun j hj hc => (World.putObj_heap_other (by omega)).trans (hI.low.block j hj hc)⟩
    gi_wp2
    refine ⟨by simp, .inl ⟨_, _, rfl, run_takeDeferred hdef, ?_⟩⟩
    exact ⟨_, results_none rfl _ _ _, ⟨_, rfl⟩, hJf, hapf⟩

end Go.Proofs.Ytkcmlphpilggpaa
