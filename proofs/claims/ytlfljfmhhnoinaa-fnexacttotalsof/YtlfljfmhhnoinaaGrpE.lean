/- Contracts of the laws' helpers over groups: eqGroup, eqGroupS. -/
import Derived.Test.YtlfljfmhhnoinaaGrpH
namespace Go.Proofs.Ytlfljfmhhnoinaa
open Go.RowKit

set_option maxHeartbeats 1000000 in
theorem eqGroup_any (a a' : Option Addr) (n n' c c' : Nat) (zs zs' : List Int) (x x' y y' : Int) (w : World) (hz : zs.length = n) (hz' : zs'.length = n') (hn : n ≤ 1048576) (hn' : n' ≤ 1048576) (ha : At w a zs) (ha' : At w a' zs') :
    Calls Try.prog 18 #[.agg #[.slice a n c, .int .i64 x, .int .i64 y], .agg #[.slice a' n' c', .int .i64 x', .int .i64 y']] w fun e w' => e = .returned (.bool (decide ((zs, x, y) = (zs', x', y')))) ∧ Below w.heap.size w w' := by
  obtain ⟨W, hW⟩ : ∃ W, W = (w.alloc (.cells #[.slice a n c, .int .i64 x, .int .i64 y] 35)).alloc (.cells #[.slice a' n' c', .int .i64 x', .int .i64 y'] 35) := ⟨_, rfl⟩
  have B : Below w.heap.size w W := by rw [hW]; exact ((Below.refl _ _).alloc (Nat.le_refl _) _).alloc (by simp) _
  have HA : At W a zs := ha.below B
  have HA' : At W a' zs' := ha'.below B
  have c1 : W.cell? ⟨w.heap.size, 0, none⟩ = some (.slice a n c) := by rw [hW]; simp
  have c2 : W.cell? ⟨w.heap.size + 1, 0, none⟩ = some (.slice a' n' c') := by rw [hW]; simp
  have d1 : W.cell? ⟨w.heap.size, 1, none⟩ = some (.int .i64 x) := by rw [hW]; simp
  have d2 : W.cell? ⟨w.heap.size + 1, 1, none⟩ = some (.int .i64 x') := by rw [hW]; simp
  have f1 : W.cell? ⟨w.heap.size, 2, none⟩ = some (.int .i64 y) := by rw [hW]; simp
  have f2 : W.cell? ⟨w.heap.size + 1, 2, none⟩ = some (.int .i64 y') := by rw [hW]; simp
  clear ha ha'
  obtain ⟨e0, HE⟩ : ∃ e0 : Bool, Hid (decide (zs = zs') = e0) := ⟨_, Hid.mk rfl⟩
  obtain ⟨ex, hx⟩ : ∃ ex : Bool, (x != x') = ex := ⟨_, rfl⟩
  obtain ⟨ey, hy⟩ : ∃ ey : Bool, (y != y') = ey := ⟨_, rfl⟩
  have HD : Hid (decide ((zs, x, y) = (zs', x', y')) = (e0 && !ex && !ey)) := by
    show _ = _
    rw [← HE.out, ← hx, ← hy]
    by_cases h1 : zs = zs' <;> by_cases h2 : x = x' <;> by_cases h3 : y = y' <;> simp [h1, h2, h3]
  cases e0 <;> cases ex <;> cases ey
  all_goals
    go_enter Try.func18, Try.ntmps18
    go_wp2_with fail
    rw [← hW]
    clear hW
    refine (eqRow_any _ _ _ _ _ _ zs zs' _ hz hz' hn hn' HA HA').mono ?_
    rintro e w1 ⟨rfl, hb⟩
    rw [HE.out]
    have e1 := cell_later hb d1
    have e2 := cell_later hb d2
    have e3 := cell_later hb f1
    have e4 := cell_later hb f2
    clear d1 d2 c1 c2 f1 f2 HA HA'
    go_wp2
    go_ret
    exact ⟨ret_bool HD.out.symm, B.trans (hb.mono B.size)⟩

set_option maxHeartbeats 2000000 in
theorem eqGroupS_any (a a' : Option Addr) (n n' c c' : Nat) (ts ts' : List GRow) (w : World) (hz : ts.length = n) (hz' : ts'.length = n') (hn : n ≤ 1048576) (hn' : n' ≤ 1048576)
    (hs : ∀ i, i < n → (gat ts i).1.length ≤ 1048576) (hs' : ∀ i, i < n' → (gat ts' i).1.length ≤ 1048576) (ha : AtV w a ts) (ha' : AtV w a' ts') :
    Calls Try.prog 13 #[.slice a n c, .slice a' n' c'] w fun e w' => e = .returned (.bool (decide (ts = ts'))) ∧ Below w.heap.size w w' := by
  by_cases hnn : n = n'
  · subst hnn
    by_cases h0 : n = 0
    · subst h0
      obtain rfl := List.eq_nil_of_length_eq_zero hz
      obtain rfl := List.eq_nil_of_length_eq_zero hz'
      go_enter Try.func13, Try.ntmps13
      go_wp2
      refine wp_loop_rounds 1 ?_
      rw [rounds_succ]
      go_wp2
      go_ret
      exact ⟨by simp, Below.refl _ _⟩
    · go_enter Try.func13, Try.ntmps13
      go_wp2
      go_loopw [5] (fun i wr => ∃ (k : Nat), k ≤ n ∧ i = .int .i64 k ∧ ts.take k = ts'.take k ∧ Below w.heap.size w wr) (fun i _ => n - (intOf i).toNat)
      case atStart => exact ⟨0, Nat.zero_le _, rfl, rfl, Below.refl _ _⟩
      case round =>
        obtain ⟨k, hk, rfl, ht, hbw⟩ := hrel
        by_cases hlt : k < n
        · obtain ⟨b, off, rfl, hc⟩ := (ha.below hbw).some (by omega)
          obtain ⟨b', off', rfl, hc'⟩ := (ha'.below hbw).some (by omega)
          obtain ⟨q, d, hcx, hwx, hvx, _, hat⟩ := hc k (by omega)
          obtain ⟨q', d', hcy, hwy, hvy, _, hat'⟩ := hc' k (by omega)
          have hm := hs k (by omega)
          have hm' := hs' k (by omega)
          have HT : Hid (gat ts k = gat ts' k → ts.take (k + 1) = ts'.take (k + 1)) := fun e => by
            rw [vtake_succ ts k (by omega), vtake_succ ts' k (by omega), ht, e]
          have HN : Hid (gat ts k ≠ gat ts' k → ts ≠ ts') := vne_of
          generalize gat ts k = Y at *
          generalize gat ts' k = Y' at *
          obtain ⟨ys, x, y⟩ := Y
          obtain ⟨ys', x', y'⟩ := Y'
          simp only at hcx hcy hwx hwy hvx hvy hat hat' hm hm'
          obtain ⟨m, hmm⟩ : ∃ m, ys.length = m := ⟨_, rfl⟩
          obtain ⟨m', hmm'⟩ : ∃ m, ys'.length = m := ⟨_, rfl⟩
          rw [hmm] at hcx hm
          rw [hmm'] at hcy hm'
          have HM := Hid.mk hmm
          have HM' := Hid.mk hmm'
          have hki : (k : Int) < (n : Int) := by omega
          clear ht hc hc' hmm hmm' ha ha' hs hs'
          cases hbl : decide ((ys, x, y) = (ys', x', y')) with
          | true =>
            have HD := Hid.mk hbl
            have HE := Hid.mk (of_decide_eq_true hbl)
            clear hbl
            go_wp2_with fail
            go_region_held3 (fun w' => w'.cell? ⟨b, off + k * 3, none⟩ = some (.slice q m d) ∧ w'.cell? ⟨b, off + k * 3 + 1, none⟩ = some (.int .i64 x) ∧ w'.cell? ⟨b, off + k * 3 + 2, none⟩ = some (.int .i64 y) ∧ w'.cell? ⟨b', off' + k * 3, none⟩ = some (.slice q' m' d') ∧ w'.cell? ⟨b', off' + k * 3 + 1, none⟩ = some (.int .i64 x') ∧ w'.cell? ⟨b', off' + k * 3 + 2, none⟩ = some (.int .i64 y')) (refine ⟨?_, ?_, ?_, ?_, ?_, ?_⟩ <;> assumption)
              (first | (go_at_call 18; refine (eqGroup_any _ _ _ _ _ _ ys ys' _ _ _ _ _ HM.out HM'.out hm hm' hat.drew hat'.drew).mono ?_; rintro e w2 ⟨rfl, hb2⟩; rw [HD.out]; have e1 := cell_later hb2 hcx; have e2 := cell_later hb2 hcy; have e3 := cell_later hb2 hwx; have e4 := cell_later hb2 hwy; have e5 := cell_later hb2 hvx; have e6 := cell_later hb2 hvy))
            go_wp2
            go_roundw
            case rel => exact ⟨k + 1, by omega, by go_num, HT.out HE.out, hbw.drew.trans (hb2.mono hbw.size)⟩
            case measure => simp [intOf]; omega
          | false =>
            have HD := Hid.mk hbl
            have HE := Hid.mk (of_decide_eq_false hbl)
            clear hbl
            go_wp2_with fail
            go_region_held3 (fun w' => w'.cell? ⟨b, off + k * 3, none⟩ = some (.slice q m d) ∧ w'.cell? ⟨b, off + k * 3 + 1, none⟩ = some (.int .i64 x) ∧ w'.cell? ⟨b, off + k * 3 + 2, none⟩ = some (.int .i64 y) ∧ w'.cell? ⟨b', off' + k * 3, none⟩ = some (.slice q' m' d') ∧ w'.cell? ⟨b', off' + k * 3 + 1, none⟩ = some (.int .i64 x') ∧ w'.cell? ⟨b', off' + k * 3 + 2, none⟩ = some (.int .i64 y')) (refine ⟨?_, ?_, ?_, ?_, ?_, ?_⟩ <;> assumption)
              (first | (go_at_call 18; refine (eqGroup_any _ _ _ _ _ _ ys ys' _ _ _ _ _ HM.out HM'.out hm hm' hat.drew hat'.drew).mono ?_; rintro e w2 ⟨rfl, hb2⟩; rw [HD.out]; have e1 := cell_later hb2 hcx; have e2 := cell_later hb2 hcy; have e3 := cell_later hb2 hwx; have e4 := cell_later hb2 hwy; have e5 := cell_later hb2 hvx; have e6 := cell_later hb2 hvy))
            go_wp2
            go_ret
            exact ⟨ret_bool (decide_eq_false (HN.out HE.out)).symm, hbw.drew.trans (hb2.mono hbw.size)⟩
        · go_wp2
          go_ret
          exact ⟨ret_bool (decide_eq_true (vtake_all (by omega) (by omega) ht)).symm, hbw⟩
  · go_enter Try.func13, Try.ntmps13
    go_wp2
    go_ret
    exact ⟨ret_bool (decide_eq_false (fun e => hnn (by rw [← hz, ← hz', e]))).symm, Below.refl _ _⟩

end Go.Proofs.Ytlfljfmhhnoinaa
