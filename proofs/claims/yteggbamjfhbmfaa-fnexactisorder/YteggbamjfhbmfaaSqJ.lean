/- slices.Sorted(slices.Values(l)), slices.Equal at ints, impl.areEachOnce. -/
import Derived.Test.YteggbamjfhbmfaaSqI
import Derived.Test.YteggbamjfhbmfaaOrP
namespace Go.Proofs.Yteggbamjfhbmfaa
open Go.RowKit

theorem values_any (a : Option Addr) (n c : Nat) (w : World) :
    Calls Try.prog 86 #[.slice a n c] w fun e w' => e = .returned (.func (.func 95) #[] #[.pointer (some ⟨w.heap.size, 0, none⟩)]) ∧ w' = w.alloc (.cells #[.slice a n c] 22) := by
  go_enter Try.func86, Try.ntmps86
  go_wp2
  go_ret
  exact ⟨rfl, rfl⟩

/-- The slices that the sorted list of a function value lies in. -/
theorem sorted_any (Bs : Nat) (a : Option Addr) (n c : Nat) (zs : List Int) (w : World) (hz : zs.length = n) (hn : n ≤ 1048576) (hBs : Bs < w.heap.size) (hcB : w.cell? ⟨Bs, 0, none⟩ = some (.slice a n c)) (ha : At w a zs) :
    Calls Try.prog 85 #[.func (.func 95) #[] #[.pointer (some ⟨Bs, 0, none⟩)]] w fun e w' => ∃ r d, e = .returned (.slice r n d) ∧ w'.ownsRow w.heap.size 3 1 (.slice r n d) n ((srtI zs).map (.int .i64)) ∧ Below w.heap.size w w' := by
  have KA := Hid.mk (appendSeq_in 3 (by omega) Bs a n c zs hz hn w hBs hcB ha)
  have KC : Hid (Calls Try.prog 94 #[.func (.func 95) #[] #[.pointer (some ⟨Bs, 0, none⟩)]] w fun e w' => ∃ r d, e = .returned (.slice r n d) ∧ w'.ownsRow w.heap.size 3 1 (.slice r n d) n (zs.map (.int .i64)) ∧ Below w.heap.size w w') := by
    show Calls _ _ _ _ _
    go_enter Try.func94, Try.ntmps94
    go_wp2_with fail
    refine (callsIn_wide.1 KA.out).mono ?_
    rintro e w1 ⟨v, rfl, ho, _, hb⟩
    obtain ⟨r, d, rfl⟩ : ∃ r d, v = .slice r n d := by
      rcases ho.2 with ⟨h1, h2⟩ | ⟨g, cap, cur, h1, _⟩
      · exact ⟨none, 0, by rw [h1, h2]⟩
      · exact ⟨_, _, h1⟩
    go_wp2
    go_ret
    exact ⟨r, d, rfl, ho, hb⟩
  clear KA
  go_enter Try.func85, Try.ntmps85
  go_wp2_with fail
  refine KC.out.mono ?_
  rintro e w1 ⟨r, d, rfl, ho, hb⟩
  have KS := Hid.mk (sortInts_own w.heap.size r n d zs w1 hz hn hb.size ho)
  have HB := Hid.mk hb
  clear ho hb
  go_wp2_with fail
  refine KS.out.mono ?_
  rintro e w2 ⟨rfl, ho2, hb2⟩
  go_wp2
  go_ret
  exact ⟨r, d, rfl, ho2, HB.out.trans hb2⟩

set_option maxHeartbeats 1000000 in
theorem equalInts_any (a a' : Option Addr) (n n' c c' : Nat) (zs zs' : List Int) (w : World) (hz : zs.length = n) (hz' : zs'.length = n') (hn : n ≤ 1048576) (hn' : n' ≤ 1048576) (ha : At w a zs) (ha' : At w a' zs') :
    Calls Try.prog 84 #[.slice a n c, .slice a' n' c'] w fun e w' => e = .returned (.bool (decide (zs = zs'))) ∧ Below w.heap.size w w' := by
  by_cases hnn : n = n'
  · subst hnn
    by_cases h0 : n = 0
    · subst h0
      obtain rfl := List.eq_nil_of_length_eq_zero hz
      obtain rfl := List.eq_nil_of_length_eq_zero hz'
      go_enter Try.func84, Try.ntmps84
      go_wp2
      refine wp_loop_rounds 1 ?_
      rw [rounds_succ]
      go_wp2
      go_ret
      exact ⟨by simp, Below.refl _ _⟩
    · obtain ⟨b, off, rfl, hb, hc⟩ := ha.some (by omega)
      obtain ⟨b', off', rfl, hb', hc'⟩ := ha'.some (by omega)
      clear ha ha'
      go_enter Try.func84, Try.ntmps84
      go_wp2
      go_loopw [13] (fun i wr => ∃ (k : Nat), k ≤ n ∧ i = .int .i64 k ∧ zs.take k = zs'.take k ∧ Below w.heap.size w wr) (fun i _ => n - (intOf i).toNat)
      case atStart => exact ⟨0, Nat.zero_le _, rfl, rfl, Below.refl _ _⟩
      case round =>
        obtain ⟨k, hk, rfl, ht, hbw⟩ := hrel
        by_cases hlt : k < n
        · have hcx : wr.cell? ⟨b, off + k, none⟩ = some (.int .i64 (zs.getD k 0)) := (hbw.cell hb).trans (hc k (by omega))
          have hcy : wr.cell? ⟨b', off' + k, none⟩ = some (.int .i64 (zs'.getD k 0)) := (hbw.cell hb').trans (hc' k (by omega))
          have HT : Hid (zs.getD k 0 = zs'.getD k 0 → zs.take (k + 1) = zs'.take (k + 1)) := fun e => by
            rw [take_succ_getD zs k (by omega), take_succ_getD zs' k (by omega), ht, e]
          have HN : Hid (zs.getD k 0 ≠ zs'.getD k 0 → zs ≠ zs') := ne_of_getD
          obtain ⟨x, hx⟩ : ∃ x, x = zs.getD k 0 := ⟨_, rfl⟩
          obtain ⟨y, hy⟩ : ∃ y, y = zs'.getD k 0 := ⟨_, rfl⟩
          rw [← hx] at hcx HT HN
          rw [← hy] at hcy HT HN
          clear hx hy ht hc hc'
          go_wp2
          go_quiet (fail)
          go_wp2
          · have hne : x ≠ y := by simpa using ‹(x != y) = true›
            go_ret
            exact ⟨by simp [HN.out hne], below_drewN hbw _⟩
          · have he : x = y := by simpa using ‹(x != y) = false›
            go_roundw
            case rel => exact ⟨k + 1, by omega, by go_num, HT.out he, below_drewN hbw _⟩
            case measure => simp [intOf]; omega
        · go_wp2
          go_ret
          exact ⟨by simp [take_all_eq (by omega) (by omega) ht], hbw⟩
  · go_enter Try.func84, Try.ntmps84
    go_wp2
    go_ret
    exact ⟨by have : zs ≠ zs' := fun e => hnn (by rw [← hz, ← hz', e]); simp [this], Below.refl _ _⟩

theorem srtI_len (l : List Int) : (srtI l).length = l.length := (srtI_perm l).length_eq

set_option maxHeartbeats 1000000 in
theorem eachOnce_any (a : Option Addr) (n c : Nat) (zs : List Int) (m : Nat) (w : World) (hz : zs.length = n) (hn : n ≤ 1048576) (hm : m ≤ 1048576) (ha : At w a zs) :
    Calls Try.prog 64 #[.slice a n c, .int .i64 (m : Nat)] w fun e w' => e = .returned (.bool (eachB zs m)) ∧ Below w.heap.size w w' := by
  obtain ⟨W, hW⟩ : ∃ W, W = w.alloc (.cells #[.slice a n c] 22) := ⟨_, rfl⟩
  have B0 : Below w.heap.size w W := by rw [hW]; exact (Below.refl _ _).alloc (Nat.le_refl _) _
  have q0 : W.cell? ⟨w.heap.size, 0, none⟩ = some (.slice a n c) := by rw [hW]; simp
  have zW : w.heap.size < W.heap.size := by rw [hW]; simp
  have KS := Hid.mk (sorted_any w.heap.size a n c zs W hz hn zW q0 (At.below ha B0))
  have HZ := Hid.mk hz
  clear hz ha
  go_enter Try.func64, Try.ntmps64
  go_wp2_with fail
  refine (values_any a n c w).mono ?_
  rintro e w1 ⟨rfl, hw1⟩
  rw [← hW] at hw1
  obtain rfl := hw1.symm
  clear hw1 hW
  go_wp2_with fail
  refine KS.out.mono ?_
  rintro e w2 ⟨r, d, rfl, ho, hb2⟩
  have KF := Hid.mk (firstNumbers_any m w2 hm)
  have HO := Hid.mk ho
  have B2 := Hid.mk (B0.trans (hb2.mono B0.size))
  clear ho hb2 KS
  go_wp2_with fail
  refine KF.out.mono ?_
  rintro e w3 ⟨r3, d3, rfl, ho3, hb3⟩
  have KE := Hid.mk (equalInts_any r r3 n m d d3 (srtI zs) (upN m) w3 (by rw [srtI_len]; exact HZ.out) (upN_len m) hn hm (At.below (At.owned HO.out) hb3) (At.owned ho3))
  have B3 := Hid.mk (B2.out.trans (hb3.mono B2.out.size))
  clear ho3 hb3 KF HO
  go_wp2_with fail
  refine KE.out.mono ?_
  rintro e w4 ⟨rfl, hb4⟩
  have B4 := Hid.mk (B3.out.trans (hb4.mono B3.out.size))
  clear hb4 KE
  go_wp2
  go_ret
  exact ⟨rfl, B4.out⟩

end Go.Proofs.Yteggbamjfhbmfaa
