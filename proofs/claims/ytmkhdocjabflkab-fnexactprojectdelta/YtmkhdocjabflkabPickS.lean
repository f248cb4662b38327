/- Contracts of spec.l1Columns, spec.l1Pick, spec.PickCells. -/
import Derived.Test.YtmkhdocjabflkabPick
namespace Go.Proofs.Ytmkhdocjabflkab
open Go.RowKit

set_option maxHeartbeats 1000000 in
theorem l1Columns_any (a : Option Addr) (n' c : Nat) (cols : List Int) (n : Nat) (w : World) (hz : cols.length = n') (hn' : n' ≤ 9223372036854775807) (_hn : n ≤ 9223372036854775807) (ha : At w a cols) :
    Calls Try.prog 49 #[.slice a n' c, .int .i64 n] w fun e w' => e = .returned (.bool (colsOk cols n)) ∧ w' = w := by
  by_cases h0 : n' = 0
  · subst h0
    obtain rfl := List.eq_nil_of_length_eq_zero hz
    go_enter Try.func49, Try.ntmps49
    go_wp2
    refine wp_loop_rounds 1 ?_
    rw [rounds_succ]
    go_wp2
    go_ret
    exact ⟨ret_bool (by simp [colsOk]), rfl⟩
  · obtain ⟨b, off, rfl, hb, hc⟩ := ha.some (by omega)
    clear ha
    go_enter Try.func49, Try.ntmps49
    go_wp2
    go_loop [9] (fun i => ∃ k : Nat, k ≤ n' ∧ i = .int .i64 k ∧ ∀ j, j < k → 0 ≤ cols.getD j 0 ∧ cols.getD j 0 < n) (fun i => n' - (intOf i).toNat)
    case atStart => exact ⟨0, Nat.zero_le _, rfl, fun j hj => by omega⟩
    case round =>
      obtain ⟨k, hk, rfl, hall⟩ := hrel
      by_cases hlt : k < n'
      · have hcx := hc k (by omega)
        have HN := Hid.mk (not_colsOk (cols := cols) (n := n) k (by omega))
        have HS : Hid (0 ≤ cols.getD k 0 → cols.getD k 0 < n → ∀ j, j < k + 1 → 0 ≤ cols.getD j 0 ∧ cols.getD j 0 < n) := fun h1 h2 j hj => by
          by_cases e : j = k
          · subst e; exact ⟨h1, h2⟩
          · exact hall j (by omega)
        clear hall hc
        obtain ⟨x, hx⟩ : ∃ x, x = cols.getD k 0 := ⟨_, rfl⟩
        rw [← hx] at hcx HN HS
        clear hx
        by_cases hlo : x < 0
        · go_wp2
          go_ret
          exact ⟨ret_bool (HN.out (.inl hlo)).symm, rfl⟩
        · by_cases hhi : (n : Int) ≤ x
          · go_wp2
            go_ret
            exact ⟨ret_bool (HN.out (.inr hhi)).symm, rfl⟩
          · go_wp2
            go_round
            case rel => exact ⟨k + 1, by omega, by go_num, HS.out (by omega) (by omega)⟩
            case measure => simp [intOf]; omega
      · by_cases h6 : n' ≤ 6
        · have HG := Hid.mk (colsOk_of (cols := cols) (n := n) (by omega) (fun j hj => hall j (by omega)))
          clear hall hc
          go_wp2
          go_ret
          exact ⟨ret_bool (by rw [HG.out]; simp; omega), rfl⟩
        · have HG := Hid.mk (colsOk_long (cols := cols) (n := n) (by omega))
          clear hall hc
          go_wp2
          go_ret
          exact ⟨ret_bool (by rw [HG.out]; simp; omega), rfl⟩

set_option maxHeartbeats 4000000 in
theorem l1Pick_any (a a' : Option Addr) (n n' c c' : Nat) (zs cols : List Int) (w : World) (hz : zs.length = n) (hz' : cols.length = n') (hn : n ≤ 9223372036854775807) (ha : At w a zs) (ha' : At w a' cols) (hok : colsOk cols zs.length = true) :
    Calls Try.prog 63 #[.agg #[.slice a n c], .slice a' n' c'] w fun e w' => ∃ r d, e = .returned (.agg #[.slice r n' d]) ∧
      w'.ownsRow w.heap.size 3 1 (.slice r n' d) n' ((pick zs cols).map (.int .i64)) ∧ Below w.heap.size w w' := by
  have h6 := colsOk_len hok
  have hall := fun j hj => colsOk_at hok j hj
  obtain ⟨i0, hi, hz0, hz1, hz2⟩ := info_parts Try.infoInt
  obtain ⟨w1, hW⟩ : ∃ w1, w1 = (w.alloc (.cells #[.slice a n c] 46)).alloc (.cells #[.slice none 0 0] 46) := ⟨_, rfl⟩
  have B1 : Below w.heap.size w w1 := by rw [hW]; exact ((Below.refl _ _).alloc (Nat.le_refl _) _).alloc (by simp) _
  have A1 : At w1 a zs := ha.below B1
  have A2 : At w1 a' cols := ha'.below B1
  have d1 : w1.cell? ⟨w.heap.size, 0, none⟩ = some (.slice a n c) := by rw [hW]; simp
  have d2 : w1.cell? ⟨w.heap.size + 1, 0, none⟩ = some (.slice none 0 0) := by rw [hW]; simp
  have e2 : w1.frozen? ⟨w.heap.size + 1, 0, none⟩ = false := by rw [hW]; simp
  have z1 : w1.heap.size = w.heap.size + 1 + 1 := by rw [hW]; simp
  have V0 : RowVar (w1.alloc (.cells #[.slice none 0 0] 46)) (w.heap.size + 1 + 1) 46 (w.heap.size + 1 + 1 + 1) 3 none 0 0 (pick zs (cols.take 0)) := RowVar.new z1.symm (by omega)
  have z1a : w1.heap.size ≤ w.heap.size + 1 + 1 := by omega
  have z1b : w.heap.size + 1 + 1 ≤ w1.heap.size := by omega
  clear ha ha' hok z1
  go_enter Try.func63, Try.ntmps63
  go_wp2
  rw [← hW]
  clear hW
  go_loopw [11] (fun i wr => ∃ (k : Nat) (r : Option Addr) (d : Nat), k ≤ n' ∧ i = .int .i64 k ∧ RowVar wr (w.heap.size + 1 + 1) 46 (w.heap.size + 1 + 1 + 1) 3 r k d (pick zs (cols.take k)) ∧ Below w1.heap.size w1 wr) (fun i _ => n' - (intOf i).toNat)
  case atStart => exact ⟨0, none, 0, Nat.zero_le _, rfl, V0, (Below.refl _ _).alloc (Nat.le_refl _) _⟩
  case round =>
    clear V0
    obtain ⟨k, r, d, hk, rfl, hv, hbw⟩ := hrel
    have g1 := cell_later hbw d1
    have g2 := cell_later hbw d2
    have g3 := frozen_later hbw d2 e2
    have BW := B1.trans (hbw.mono B1.size)
    have z2 := hbw.size
    by_cases hlt : k < n'
    · obtain ⟨b', off', rfl, hb', hc'⟩ := (A2.below hbw).some (by omega)
      have hcx := hc' k (by omega)
      have HS := Hid.mk (pick_succ zs cols k (by omega))
      obtain ⟨hx0, hx1⟩ := hall k (by omega)
      clear hc' hall
      obtain ⟨j, hj⟩ := Int.eq_ofNat_of_zero_le hx0
      rw [hj] at hcx hx1 HS
      have hjn : j < n := by omega
      obtain ⟨b, off, rfl, hb, hc⟩ := (A1.below hbw).some (by omega)
      have hcj := hc j (by omega)
      clear hc hj
      obtain ⟨y, hy⟩ : ∃ y, y = zs.getD ((j : Int)).toNat 0 := ⟨_, rfl⟩
      rw [← hy] at HS
      rw [show zs.getD j 0 = y by rw [hy]; rfl] at hcj
      clear hy
      have hcr := hv.cell
      have hfr := hv.frozen
      have zR : w.heap.size + 1 + 1 < wr.heap.size := World.block_lt_of_cell? _ _ hcr
      have zb : b < wr.heap.size := World.block_lt_of_cell? _ _ hcj
      have HO := Hid.mk (hv.own.alloc (.cells #[.int .i64 y] 3)).drew
      have HN := Hid.mk (news_at wr #[.int .i64 y] 3)
      go_wp2
      go_region_law (refine step_append_lies _ rfl (.tmp 16) (.tmp 22) 35 rfl (w.heap.size + 1 + 1 + 1) 3 i0 (.int .i64 0) 1 8 Try.underlying35 hi hz0 hz1 hz2 rfl (by decide) (.slice r k d) k _ (by simp [Act.eval]) HO.out ⟨wr.heap.size, 0, none⟩ 1 1 [.int .i64 y] (by simp [Act.eval]) rfl HN.out (by simp; rfl) (by decide) (by unfold maxLen; omega) (by omega) (by simp; omega) (wr.heap.size + 1) (by simp) ?_; intro g cap w2 hown1 hgrow' _ _; have hgrow := grown_undrew hgrow'; obtain ⟨t1, t2, hv1⟩ := hv.pushed hown1 hgrow)
      all_goals
        have HB := Hid.mk (hv.pushed_below (v := .slice (some ⟨g, 0, none⟩) (k + 1) cap) hgrow hbw z1a)
        rw [← HS.out] at hv1
        have HV := Hid.mk hv1
        clear hv1 hown1 hgrow hgrow' hv hbw HO HN t1 t2 hcr hfr hcj hcx
        go_wp2
        go_roundw
        case rel => exact ⟨k + 1, _, _, by omega, by go_num, HV.out, HB.out⟩
        case measure => simp [intOf]; omega
    · obtain rfl : k = n' := by omega
      rw [← hz', List.take_length, hz'] at hv
      have hcr := hv.cell
      clear hall
      go_wp2
      refine bodyPost_ret (v := .agg #[.slice r k d]) (by simp [results, Try.results63, go_sem, g2]) rfl ⟨r, d, rfl, ?_, ?_⟩
      · exact owns_mono (ownsRow_setCell_below hv.own (by simp) _) (by omega)
      · exact BW.setCell (by simp) _

end Go.Proofs.Ytmkhdocjabflkab
