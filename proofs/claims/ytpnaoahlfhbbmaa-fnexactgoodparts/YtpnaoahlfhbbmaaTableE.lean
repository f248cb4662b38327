/- Contracts of the laws' helpers over weighted rows: eqWeighted, eqWeightedS, eqTable. -/
import Derived.Test.YtpnaoahlfhbbmaaTableH
namespace Go.Proofs.Ytpnaoahlfhbbmaa
open Go.RowKit

set_option maxHeartbeats 1000000 in
theorem eqWeighted_any (a a' : Option Addr) (n n' c c' : Nat) (zs zs' : List Int) (x x' : Int) (w : World) (hz : zs.length = n) (hz' : zs'.length = n') (hn : n ≤ 1048576) (hn' : n' ≤ 1048576) (ha : At w a zs) (ha' : At w a' zs') :
    Calls Try.prog 57 #[.agg #[.slice a n c, .int .i64 x], .agg #[.slice a' n' c', .int .i64 x']] w fun e w' => e = .returned (.bool (decide ((zs, x) = (zs', x')))) ∧ Below w.heap.size w w' := by
  obtain ⟨W, hW⟩ : ∃ W, W = (w.alloc (.cells #[.slice a n c, .int .i64 x] 71)).alloc (.cells #[.slice a' n' c', .int .i64 x'] 71) := ⟨_, rfl⟩
  have B : Below w.heap.size w W := by rw [hW]; exact ((Below.refl _ _).alloc (Nat.le_refl _) _).alloc (by simp) _
  have HA : At W a zs := ha.below B
  have HA' : At W a' zs' := ha'.below B
  have c1 : W.cell? ⟨w.heap.size, 0, none⟩ = some (.slice a n c) := by rw [hW]; simp
  have c2 : W.cell? ⟨w.heap.size + 1, 0, none⟩ = some (.slice a' n' c') := by rw [hW]; simp
  have d1 : W.cell? ⟨w.heap.size, 1, none⟩ = some (.int .i64 x) := by rw [hW]; simp
  have d2 : W.cell? ⟨w.heap.size + 1, 1, none⟩ = some (.int .i64 x') := by rw [hW]; simp
  clear ha ha'
  by_cases he : zs = zs'
  · by_cases hx : x = x'
    · have hne : (x != x') = false := by simp [hx]
      have HD : Hid (decide ((zs, x) = (zs', x')) = true) := by show _ = _; simp [he, hx]
      have HE : Hid (decide (zs = zs') = true) := by show _ = _; simp [he]
      clear he hx
      go_enter Try.func57, Try.ntmps57
      go_wp2_with fail
      rw [← hW]
      clear hW
      refine (eqRow_any _ _ _ _ _ _ zs zs' _ hz hz' hn hn' HA HA').mono ?_
      rintro e w1 ⟨rfl, hb⟩
      rw [HE.out]
      have e1 := cell_later hb d1
      have e2 := cell_later hb d2
      clear d1 d2 c1 c2 HA HA'
      go_wp2
      go_ret
      exact ⟨ret_bool HD.out.symm, B.trans (hb.mono B.size)⟩
    · have hne : (x != x') = true := by simp [hx]
      have HD : Hid (decide ((zs, x) = (zs', x')) = false) := by show _ = _; simp [hx]
      have HE : Hid (decide (zs = zs') = true) := by show _ = _; simp [he]
      clear he hx
      go_enter Try.func57, Try.ntmps57
      go_wp2_with fail
      rw [← hW]
      clear hW
      refine (eqRow_any _ _ _ _ _ _ zs zs' _ hz hz' hn hn' HA HA').mono ?_
      rintro e w1 ⟨rfl, hb⟩
      rw [HE.out]
      have e1 := cell_later hb d1
      have e2 := cell_later hb d2
      clear d1 d2 c1 c2 HA HA'
      go_wp2
      go_ret
      exact ⟨ret_bool HD.out.symm, B.trans (hb.mono B.size)⟩
  · have HD : Hid (decide ((zs, x) = (zs', x')) = false) := by show _ = _; simp [he]
    have HE : Hid (decide (zs = zs') = false) := by show _ = _; simp [he]
    clear he
    go_enter Try.func57, Try.ntmps57
    go_wp2_with fail
    rw [← hW]
    clear hW
    refine (eqRow_any _ _ _ _ _ _ zs zs' _ hz hz' hn hn' HA HA').mono ?_
    rintro e w1 ⟨rfl, hb⟩
    rw [HE.out]
    clear d1 d2 c1 c2 HA HA'
    go_wp2
    go_ret
    exact ⟨ret_bool HD.out.symm, B.trans (hb.mono B.size)⟩

set_option maxHeartbeats 2000000 in
theorem eqWeightedS_any (a a' : Option Addr) (n n' c c' : Nat) (ts ts' : List WRow) (w : World) (hz : ts.length = n) (hz' : ts'.length = n') (hn : n ≤ 1048576) (hn' : n' ≤ 1048576)
    (hs : ∀ i, i < n → (wat ts i).1.length ≤ 1048576) (hs' : ∀ i, i < n' → (wat ts' i).1.length ≤ 1048576) (ha : AtW w a ts) (ha' : AtW w a' ts') :
    Calls Try.prog 37 #[.slice a n c, .slice a' n' c'] w fun e w' => e = .returned (.bool (decide (ts = ts'))) ∧ Below w.heap.size w w' := by
  by_cases hnn : n = n'
  · subst hnn
    by_cases h0 : n = 0
    · subst h0
      obtain rfl := List.eq_nil_of_length_eq_zero hz
      obtain rfl := List.eq_nil_of_length_eq_zero hz'
      go_enter Try.func37, Try.ntmps37
      go_wp2
      refine wp_loop_rounds 1 ?_
      rw [rounds_succ]
      go_wp2
      go_ret
      exact ⟨by simp, Below.refl _ _⟩
    · go_enter Try.func37, Try.ntmps37
      go_wp2
      go_loopw [5] (fun i wr => ∃ (k : Nat), k ≤ n ∧ i = .int .i64 k ∧ ts.take k = ts'.take k ∧ Below w.heap.size w wr) (fun i _ => n - (intOf i).toNat)
      case atStart => exact ⟨0, Nat.zero_le _, rfl, rfl, Below.refl _ _⟩
      case round =>
        obtain ⟨k, hk, rfl, ht, hbw⟩ := hrel
        by_cases hlt : k < n
        · obtain ⟨b, off, rfl, hc⟩ := (ha.below hbw).some (by omega)
          obtain ⟨b', off', rfl, hc'⟩ := (ha'.below hbw).some (by omega)
          obtain ⟨q, d, hcx, hwx, _, hat⟩ := hc k (by omega)
          obtain ⟨q', d', hcy, hwy, _, hat'⟩ := hc' k (by omega)
          have hm := hs k (by omega)
          have hm' := hs' k (by omega)
          have HT : Hid (wat ts k = wat ts' k → ts.take (k + 1) = ts'.take (k + 1)) := fun e => by
            rw [wtake_succ ts k (by omega), wtake_succ ts' k (by omega), ht, e]
          have HN : Hid (wat ts k ≠ wat ts' k → ts ≠ ts') := wne_of
          generalize wat ts k = Y at *
          generalize wat ts' k = Y' at *
          obtain ⟨ys, x⟩ := Y
          obtain ⟨ys', x'⟩ := Y'
          simp only at hcx hcy hwx hwy hat hat' hm hm'
          obtain ⟨m, hmm⟩ : ∃ m, ys.length = m := ⟨_, rfl⟩
          obtain ⟨m', hmm'⟩ : ∃ m, ys'.length = m := ⟨_, rfl⟩
          rw [hmm] at hcx hm
          rw [hmm'] at hcy hm'
          have HM := Hid.mk hmm
          have HM' := Hid.mk hmm'
          have hki : (k : Int) < (n : Int) := by omega
          clear ht hc hc' hmm hmm' ha ha' hs hs'
          cases hbl : decide ((ys, x) = (ys', x')) with
          | true =>
            have HD := Hid.mk hbl
            have HE := Hid.mk (of_decide_eq_true hbl)
            clear hbl
            go_wp2_with fail
            go_region_held3 (fun w' => w'.cell? ⟨b, off + k * 2, none⟩ = some (.slice q m d) ∧ w'.cell? ⟨b, off + k * 2 + 1, none⟩ = some (.int .i64 x) ∧ w'.cell? ⟨b', off' + k * 2, none⟩ = some (.slice q' m' d') ∧ w'.cell? ⟨b', off' + k * 2 + 1, none⟩ = some (.int .i64 x')) (refine ⟨?_, ?_, ?_, ?_⟩ <;> assumption)
              (first | (go_at_call 57; refine (eqWeighted_any _ _ _ _ _ _ ys ys' _ _ _ HM.out HM'.out hm hm' hat.drew hat'.drew).mono ?_; rintro e w2 ⟨rfl, hb2⟩; rw [HD.out]; have e1 := cell_later hb2 hcx; have e2 := cell_later hb2 hcy; have e3 := cell_later hb2 hwx; have e4 := cell_later hb2 hwy))
            go_wp2
            go_roundw
            case rel => exact ⟨k + 1, by omega, by go_num, HT.out HE.out, hbw.drew.trans (hb2.mono hbw.size)⟩
            case measure => simp [intOf]; omega
          | false =>
            have HD := Hid.mk hbl
            have HE := Hid.mk (of_decide_eq_false hbl)
            clear hbl
            go_wp2_with fail
            go_region_held3 (fun w' => w'.cell? ⟨b, off + k * 2, none⟩ = some (.slice q m d) ∧ w'.cell? ⟨b, off + k * 2 + 1, none⟩ = some (.int .i64 x) ∧ w'.cell? ⟨b', off' + k * 2, none⟩ = some (.slice q' m' d') ∧ w'.cell? ⟨b', off' + k * 2 + 1, none⟩ = some (.int .i64 x')) (refine ⟨?_, ?_, ?_, ?_⟩ <;> assumption)
              (first | (go_at_call 57; refine (eqWeighted_any _ _ _ _ _ _ ys ys' _ _ _ HM.out HM'.out hm hm' hat.drew hat'.drew).mono ?_; rintro e w2 ⟨rfl, hb2⟩; rw [HD.out]; have e1 := cell_later hb2 hcx; have e2 := cell_later hb2 hcy; have e3 := cell_later hb2 hwx; have e4 := cell_later hb2 hwy))
            go_wp2
            go_ret
            exact ⟨ret_bool (decide_eq_false (HN.out HE.out)).symm, hbw.drew.trans (hb2.mono hbw.size)⟩
        · go_wp2
          go_ret
          exact ⟨ret_bool (decide_eq_true (wtake_all (by omega) (by omega) ht)).symm, hbw⟩
  · go_enter Try.func37, Try.ntmps37
    go_wp2
    go_ret
    exact ⟨ret_bool (decide_eq_false (fun e => hnn (by rw [← hz, ← hz', e]))).symm, Below.refl _ _⟩

set_option maxHeartbeats 1000000 in
theorem eqTable_any (a a' : Option Addr) (n n' c c' : Nat) (ts ts' : List WRow) (p p' : Int) (w : World) (hz : ts.length = n) (hz' : ts'.length = n') (hn : n ≤ 1048576) (hn' : n' ≤ 1048576)
    (hs : ∀ i, i < n → (wat ts i).1.length ≤ 1048576) (hs' : ∀ i, i < n' → (wat ts' i).1.length ≤ 1048576) (ha : AtW w a ts) (ha' : AtW w a' ts') :
    Calls Try.prog 15 #[.agg #[.int .i64 p, .slice a n c], .agg #[.int .i64 p', .slice a' n' c']] w fun e w' => e = .returned (.bool (decide (p = p' ∧ ts = ts'))) ∧ Below w.heap.size w w' := by
  obtain ⟨W, hW⟩ : ∃ W, W = (w.alloc (.cells #[.int .i64 p, .slice a n c] 36)).alloc (.cells #[.int .i64 p', .slice a' n' c'] 36) := ⟨_, rfl⟩
  have B : Below w.heap.size w W := by rw [hW]; exact ((Below.refl _ _).alloc (Nat.le_refl _) _).alloc (by simp) _
  have HA : AtW W a ts := ha.below B
  have HA' : AtW W a' ts' := ha'.below B
  clear ha ha'
  by_cases hp : p = p'
  · have hne : (p != p') = false := by simp [hp]
    obtain ⟨d, HE, HD⟩ : ∃ d : Bool, Hid (decide (ts = ts') = d) ∧ Hid (decide (p = p' ∧ ts = ts') = d) := ⟨_, Hid.mk rfl, by show _ = _; simp [hp]⟩
    clear hp
    cases d
    all_goals
      go_enter Try.func15, Try.ntmps15
      go_wp2_with fail
      rw [← hW]
      clear hW
      refine (eqWeightedS_any _ _ _ _ _ _ ts ts' _ hz hz' hn hn' hs hs' HA HA').mono ?_
      rintro e w1 ⟨rfl, hb⟩
      rw [HE.out]
      clear HA HA'
      go_wp2
      go_ret
      exact ⟨ret_bool HD.out.symm, B.trans (hb.mono B.size)⟩
  · have hne : (p != p') = true := by simp [hp]
    have HD : Hid (decide (p = p' ∧ ts = ts') = false) := by show _ = _; simp [hp]
    clear hp
    go_enter Try.func15, Try.ntmps15
    go_wp2
    go_ret
    exact ⟨ret_bool HD.out.symm, by rw [← hW]; exact B⟩

end Go.Proofs.Ytpnaoahlfhbbmaa
