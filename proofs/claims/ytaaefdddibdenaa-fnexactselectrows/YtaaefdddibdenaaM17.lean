/- Contracts of spec.l3True, spec.l3Select, and of the function by which impl.SelectRows keeps rows. -/
import Derived.Test.YtaaefdddibdenaaM15
import Derived.Test.YtaaefdddibdenaaM16
namespace Go.Proofs.Ytaaefdddibdenaa
open Go.RowKit Go.Shelf

set_option maxRecDepth 100000 in
set_option maxHeartbeats 4000000 in
theorem l3True_any (a a' : Option Addr) (n c n' c' : Nat) (zs : List Int) (es : List Tst) (w : World) (hz : zs.length = n) (h6 : n ≤ 6) (hz' : es.length = n') (h8 : n' ≤ 8) (hg : ∀ k, k < es.length → goodE n (tat es k) = true) (ha : At w a zs) (ha' : AtE w a' es) :
    Calls Try.prog 61 #[.slice a' n' c', .agg #[.slice a n c]] w fun e w' => e = .returned (.bool (passAll zs es)) ∧ Below w.heap.size w w' := by
  obtain ⟨W, hW⟩ : ∃ W, W = w.alloc (.cells #[.slice a n c] 69) := ⟨_, rfl⟩
  have B0 : Below w.heap.size w W := by rw [hW]; exact (Below.refl _ _).alloc (Nat.le_refl _) _
  have c0 : W.cell? ⟨w.heap.size, 0, none⟩ = some (.slice a n c) := by rw [hW]; simp
  by_cases h0 : n' = 0
  · subst h0
    obtain rfl := List.eq_nil_of_length_eq_zero hz'
    go_enter Try.func61, Try.ntmps61
    go_wp2
    rw [← hW]
    clear hW
    refine wp_loop_rounds 1 ?_
    rw [rounds_succ]
    go_wp2
    go_ret
    exact ⟨ret_bool rfl, B0⟩
  · obtain ⟨b, off, rfl, hb, hc⟩ := (ha'.below B0).some (by omega)
    have HA := ha.below B0
    go_enter Try.func61, Try.ntmps61
    go_wp2
    rw [← hW]
    clear hW
    go_loopw [11] (fun i wr => ∃ (k : Nat), k ≤ n' ∧ i = .int .i64 k ∧ (es.take k).all (passE zs) = true ∧ Below W.heap.size W wr) (fun i _ => n' - (intOf i).toNat)
    case atStart => exact ⟨0, Nat.zero_le _, rfl, rfl, Below.refl _ _⟩
    case round =>
      obtain ⟨k, hk, rfl, hal, hbw⟩ := hrel
      by_cases hlt : k < n'
      · obtain ⟨hx, hy, hv⟩ := hc k (by omega)
        have hx := (hbw.cell hb).trans hx
        have hy := (hbw.cell hb).trans hy
        have hv := (hbw.cell hb).trans hv
        have hgk := hg k (by omega)
        have HS := Hid.mk (all_step (passE zs) es k (by omega))
        have HN : Hid (passE zs (tat es k) = false → passAll zs es = false) := fun e => all_not (by omega) e
        generalize tat es k = Y at *
        obtain ⟨x, y, v⟩ := Y
        simp only at hx hy hv
        have hg' : 0 ≤ y ∧ y < n ∧ ((1 ≤ x ∧ x ≤ 3 ∧ -100000 ≤ v ∧ v ≤ 100000) ∨ (x = 4 ∧ 0 ≤ v ∧ v < n)) := by simpa [goodE] using hgk
        obtain ⟨y', rfl⟩ : ∃ k : Nat, y = k := ⟨y.toNat, by omega⟩
        obtain ⟨d, of2, rfl, hd, hcz⟩ := (HA.below hbw).some (by omega)
        have hcy := hcz y' (by omega)
        have hyn : (y' : Int) < (n : Int) := by omega
        have hki : (k : Int) < (n' : Int) := by omega
        have cr := cell_later hbw c0
        have hbL : Below wr.heap.size wr (wr.alloc (.cells #[.int .i64 x, .int .i64 (y' : Int), .int .i64 v] 52)) := (Below.refl _ _).alloc (Nat.le_refl _) _
        have crL := cell_later hbL cr
        have hcyL := cell_later hbL hcy
        have HB := Hid.mk (hbw.trans (hbL.mono hbw.size))
        have HAL := Hid.mk hal
        have fin : ∀ P : Bool, Hid (passE zs (x, (y' : Int), v) = P → P = true → (es.take (k + 1)).all (passE zs) = true) := fun P e1 e2 => by rw [HS.out, HAL.out, e1, e2]; rfl
        by_cases h4 : x = 4
        · subst h4
          obtain ⟨v', rfl⟩ : ∃ k : Nat, v = k := ⟨v.toNat, by omega⟩
          have hcv := cell_later hbL (hcz v' (by omega))
          have hvn : (v' : Int) < (n : Int) := by omega
          have HP : Hid (passE zs (4, (y' : Int), (v' : Int)) = decide (zs.getD y' 0 = zs.getD v' 0)) := by show _ = _; simp [passE]
          clear hgk hg' hc hcz hal hg hcy
          generalize zs.getD y' 0 = cy at *
          generalize zs.getD v' 0 = cv at *
          by_cases hp : cy = cv
          · have HF := Hid.mk ((fin _).out HP.out (decide_eq_true hp))
            subst hp
            go_wp2
            go_roundw
            case rel => exact ⟨k + 1, by omega, by go_num, HF.out, HB.out⟩
            case measure => simp [intOf]; omega
          · have HF := Hid.mk (HN.out (HP.out.trans (decide_eq_false hp)))
            have hp' : (cy == cv) = false := by simpa using hp
            go_wp2
            go_ret
            exact ⟨ret_bool HF.out.symm, B0.trans (HB.out.mono B0.size)⟩
        · have HP : Hid (passE zs (x, (y' : Int), v) = if x = 1 then decide (zs.getD y' 0 = v) else if x = 2 then decide (zs.getD y' 0 < v) else decide (v < zs.getD y' 0)) := by
            show _ = _
            unfold passE
            have : x = 1 ∨ x = 2 ∨ x = 3 := by omega
            rcases this with rfl | rfl | rfl <;> simp
          have h3 : x = 1 ∨ x = 2 ∨ x = 3 := by omega
          clear hgk hg' hc hcz hal hg hcy h4
          generalize zs.getD y' 0 = cy at *
          rcases h3 with rfl | rfl | rfl
          · by_cases hp : cy = v
            · have HF := Hid.mk ((fin _).out HP.out (decide_eq_true hp))
              subst hp
              go_wp2
              go_roundw
              case rel => exact ⟨k + 1, by omega, by go_num, HF.out, HB.out⟩
              case measure => simp [intOf]; omega
            · have HF := Hid.mk (HN.out (HP.out.trans (decide_eq_false hp)))
              have hp' : (cy == v) = false := by simpa using hp
              go_wp2
              go_ret
              exact ⟨ret_bool HF.out.symm, B0.trans (HB.out.mono B0.size)⟩
          · by_cases hp : cy < v
            · have HF := Hid.mk ((fin _).out HP.out (decide_eq_true hp))
              go_wp2
              go_roundw
              case rel => exact ⟨k + 1, by omega, by go_num, HF.out, HB.out⟩
              case measure => simp [intOf]; omega
            · have HF := Hid.mk (HN.out (HP.out.trans (decide_eq_false hp)))
              have hp' : v ≤ cy := by omega
              go_wp2
              go_ret
              exact ⟨ret_bool HF.out.symm, B0.trans (HB.out.mono B0.size)⟩
          · by_cases hp : v < cy
            · have HF := Hid.mk ((fin _).out HP.out (decide_eq_true hp))
              go_wp2
              go_roundw
              case rel => exact ⟨k + 1, by omega, by go_num, HF.out, HB.out⟩
              case measure => simp [intOf]; omega
            · have HF := Hid.mk (HN.out (HP.out.trans (decide_eq_false hp)))
              have hp' : cy ≤ v := by omega
              go_wp2
              go_ret
              exact ⟨ret_bool HF.out.symm, B0.trans (HB.out.mono B0.size)⟩
      · obtain rfl : k = n' := by omega
        rw [← hz', List.take_length] at hal
        have HAL := Hid.mk hal
        clear hal
        go_wp2
        go_ret
        exact ⟨ret_bool (by unfold passAll; rw [HAL.out]), B0.trans (hbw.mono B0.size)⟩
end Go.Proofs.Ytaaefdddibdenaa
