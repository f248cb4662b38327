/- Contracts of impl.PickCells, spec.l1Columns, spec.l1Pick, spec.PickCells. -/
import Derived.Test.YtlfljfmhhnoinaaGoodRow
import Derived.Test.YtlfljfmhhnoinaaPlainPick
import Derived.Deep.AppendLies
import Derived.Deep.RegionLaw
namespace Go.Proofs.Ytlfljfmhhnoinaa
open Go.RowKit

set_option maxRecDepth 100000 in
set_option maxHeartbeats 4000000 in
theorem implPickCells (a a' : Option Addr) (n n' c c' : Nat) (zs cols : List Int) (w : World) (hz : zs.length = n) (hz' : cols.length = n') (hn : n ≤ 9223372036854775807) (hn' : n' ≤ 9223372036854775807) (ha : At w a zs) (ha' : At w a' cols) :
    Calls Try.prog 63 #[.agg #[.slice a n c], .slice a' n' c'] w fun e w' => ∃ r m d, e = .returned (.tuple #[.agg #[.slice r m d], .bool (pickOk zs cols)]) ∧
      (pickZ zs cols).length = m ∧ w'.ownsRow w.heap.size 3 1 (.slice r m d) m ((pickZ zs cols).map (.int .i64)) ∧ Below w.heap.size w w' := by
  obtain ⟨W, hW⟩ : ∃ W, W = (w.alloc (.cells #[.slice a n c] 33)).alloc (.cells #[.slice none 0 0] 33) := ⟨_, rfl⟩
  have B : Below w.heap.size w W := by rw [hW]; exact ((Below.refl _ _).alloc (Nat.le_refl _) _).alloc (by simp) _
  have HA : At W a zs := ha.below B
  have c1 : W.cell? ⟨w.heap.size, 0, none⟩ = some (.slice a n c) := by rw [hW]; simp
  have c2 : W.cell? ⟨w.heap.size + 1, 0, none⟩ = some (.slice none 0 0) := by rw [hW]; simp
  have f2 : W.frozen? ⟨w.heap.size + 1, 0, none⟩ = false := by rw [hW]; simp
  have no : pickOk zs cols = false → ∀ w2, Below w.heap.size w w2 → ∃ r m d, Ending.returned (.tuple #[.agg #[.slice none 0 0], .bool false]) = .returned (.tuple #[.agg #[.slice r m d], .bool (pickOk zs cols)]) ∧
      (pickZ zs cols).length = m ∧ w2.ownsRow w.heap.size 3 1 (.slice r m d) m ((pickZ zs cols).map (.int .i64)) ∧ Below w.heap.size w w2 := fun h w2 hb =>
    ⟨none, 0, 0, by rw [h], by simp [pickZ, h], by simp only [pickZ, h]; exact World.ownsRow_nil _ _ _ _, hb⟩
  have NO := Hid.mk no
  clear no
  cases hg : good zs with
  | false =>
    have HG := Hid.mk hg
    have HP : Hid (pickOk zs cols = false) := by simp [Hid, pickOk, hg]
    clear hg ha ha'
    go_enter Try.func63, Try.ntmps63
    go_wp2_with fail
    rw [← hW]
    refine (implGoodRow_any _ _ _ zs _ hz hn HA).mono ?_
    rintro e w1 ⟨rfl, hb1⟩
    rw [HG.out]
    have d2 := cell_later hb1 c2
    have e2 := frozen_later hb1 c2 f2
    clear hW
    go_wp2
    refine bodyPost_ret (v := .tuple #[.agg #[.slice none 0 0], .bool false]) (by simp [results, Try.results63, go_sem, d2]) rfl (NO.out HP.out _ ?_)
    exact (B.trans (hb1.mono B.size)).setCell (by simp) _
  | true =>
    have HG := Hid.mk hg
    by_cases h6 : n' ≤ 6
    · have HA' : At W a' cols := ha'.below B
      obtain ⟨i0, hi, hz0, hz1, hz2⟩ := info_parts Try.infoInt
      clear ha ha'
      go_enter Try.func63, Try.ntmps63
      go_wp2_with fail
      rw [← hW]
      refine (implGoodRow_any _ _ _ zs _ hz hn HA).mono ?_
      rintro e w1 ⟨rfl, hb1⟩
      rw [HG.out]
      have d1 := cell_later hb1 c1
      have d2 := cell_later hb1 c2
      have e2 := frozen_later hb1 c2 f2
      have A1 := HA.below hb1
      have A2 := HA'.below hb1
      have B1 := B.trans (hb1.mono B.size)
      have z1 : w.heap.size + 1 < w1.heap.size := World.block_lt_of_cell? _ _ d2
      clear hW hb1 c1 c2 f2 HA HA' B
      have V0 : RowVar (w1.alloc (.cells #[.slice none 0 0] 33)) w1.heap.size 33 (w1.heap.size + 1) 3 none 0 0 (pick zs (cols.take 0)) := RowVar.new rfl (by omega)
      go_wp2
      go_loopw [20] (fun i wr => ∃ (k : Nat) (r : Option Addr) (d : Nat), k ≤ n' ∧ i = .int .i64 k ∧ (∀ j, j < k → 0 ≤ cols.getD j 0 ∧ cols.getD j 0 < zs.length) ∧ RowVar wr w1.heap.size 33 (w1.heap.size + 1) 3 r k d (pick zs (cols.take k)) ∧ Below w1.heap.size w1 wr) (fun i _ => n' - (intOf i).toNat)
      case atStart => exact ⟨0, none, 0, Nat.zero_le _, rfl, fun j hj => by omega, V0, (Below.refl _ _).alloc (Nat.le_refl _) _⟩
      case round =>
        clear V0
        obtain ⟨k, r, d, hk, rfl, hall, hv, hbw⟩ := hrel
        have g1 := cell_later hbw d1
        have g2 := cell_later hbw d2
        have g3 := frozen_later hbw d2 e2
        have BW := B1.trans (hbw.mono B1.size)
        have z2 := hbw.size
        by_cases hlt : k < n'
        · obtain ⟨b', off', rfl, hb', hc'⟩ := (A2.below hbw).some (by omega)
          have hcx := hc' k (by omega)
          have HNo := Hid.mk (not_colsOk (cols := cols) (n := zs.length) k (by omega))
          have HS := Hid.mk (pick_succ zs cols k (by omega))
          have HAll := Hid.mk hall
          clear hc' hall
          by_cases hin : 0 ≤ cols.getD k 0 ∧ cols.getD k 0 < n
          · obtain ⟨hx0, hx1⟩ := hin
            have HX : Hid (0 ≤ cols.getD k 0 ∧ cols.getD k 0 < zs.length) := ⟨hx0, by omega⟩
            obtain ⟨j, hj⟩ := Int.eq_ofNat_of_zero_le hx0
            rw [hj] at hcx hx1 HS
            have HJ := Hid.mk hj
            have hjn : j < n := by omega
            obtain ⟨b, off, rfl, hb, hc⟩ := (A1.below hbw).some (by omega)
            have hcj := hc j (by omega)
            clear hc hj
            obtain ⟨y, hy⟩ : ∃ y, y = zs.getD ((j : Int)).toNat 0 := ⟨_, rfl⟩
            rw [← hy] at HS
            rw [show zs.getD j 0 = y by rw [hy]; rfl] at hcj
            clear hy
            have hcr := hv.cell
            have hfr := hv.frozen
            have zR : w1.heap.size < wr.heap.size := World.block_lt_of_cell? _ _ hcr
            have zb : b < wr.heap.size := World.block_lt_of_cell? _ _ hcj
            have HO := Hid.mk (hv.own.alloc (.cells #[.int .i64 y] 3)).drew
            have HN := Hid.mk (news_at wr #[.int .i64 y] 3)
            go_wp2
            go_region_law (refine step_append_lies _ rfl (.tmp 35) (.tmp 41) 29 rfl (w1.heap.size + 1) 3 i0 (.int .i64 0) 1 8 Try.underlying29 hi hz0 hz1 hz2 rfl (by decide) (.slice r k d) k _ (by simp [Act.eval]) HO.out ⟨wr.heap.size, 0, none⟩ 1 1 [.int .i64 y] (by simp [Act.eval]) rfl HN.out (by simp; rfl) (by decide) (by unfold maxLen; omega) (by omega) (by simp; omega) (wr.heap.size + 1) (by simp) ?_; intro g cap w2 hown1 hgrow' _ _; have hgrow := grown_undrew hgrow'; obtain ⟨t1, t2, hv1⟩ := hv.pushed hown1 hgrow)
            all_goals
              have HB := Hid.mk (hv.pushed_below (v := .slice (some ⟨g, 0, none⟩) (k + 1) cap) hgrow hbw (Nat.le_refl _))
              rw [← HS.out] at hv1
              have HV := Hid.mk hv1
              clear hv1 hown1 hgrow hgrow' hv hbw HO HN t1 t2 hcr hfr hcj hcx
              go_wp2
              go_roundw
              case rel =>
                refine ⟨k + 1, _, _, by omega, by go_num, fun j' hj' => ?_, HV.out, HB.out⟩
                by_cases e : j' = k
                · subst e; exact HX.out
                · exact HAll.out j' (by omega)
              case measure => simp [intOf]; omega
          · obtain ⟨x, hx⟩ : ∃ x, x = cols.getD k 0 := ⟨_, rfl⟩
            have HP : Hid (pickOk zs cols = false) := by
              have hno : colsOk cols zs.length = false := HNo.out (by omega)
              simp [Hid, pickOk, hno]
            rw [← hx] at hcx hin
            clear hx HS HNo HAll
            by_cases hneg : x < 0
            · go_wp2
              refine bodyPost_ret (v := .tuple #[.agg #[.slice none 0 0], .bool false]) (by simp [results, Try.results63, go_sem, g2]) rfl (NO.out HP.out _ ?_)
              exact BW.setCell (by simp) _
            · have hge : (n : Int) ≤ x := by omega
              go_wp2
              refine bodyPost_ret (v := .tuple #[.agg #[.slice none 0 0], .bool false]) (by simp [results, Try.results63, go_sem, g2]) rfl (NO.out HP.out _ ?_)
              exact BW.setCell (by simp) _
        · obtain rfl : k = n' := by omega
          have hok : pickOk zs cols = true := by
            have := colsOk_of (cols := cols) (n := zs.length) (by omega) (fun j hj => hall j (by omega))
            simp [pickOk, hg, this]
          have hpz : pick zs (cols.take k) = pickZ zs cols := by rw [← hz', List.take_length]; simp [pickZ, hok]
          rw [hpz] at hv
          have HP := Hid.mk hok
          have hcr := hv.cell
          clear hall hpz hok hg
          go_wp2
          refine bodyPost_ret (v := .tuple #[.agg #[.slice r k d], .bool true]) (by simp [results, Try.results63, go_sem, g2]) rfl ⟨r, k, d, by rw [HP.out], hv.1, ?_, ?_⟩
          · exact owns_mono (ownsRow_setCell_below hv.own (by simp; omega) _) (by omega)
          · exact BW.setCell (by simp) _
    · have HP : Hid (pickOk zs cols = false) := by simp [Hid, pickOk, colsOk_long (n := zs.length) (show 6 < cols.length by omega)]
      clear hg ha ha'
      go_enter Try.func63, Try.ntmps63
      go_wp2_with fail
      rw [← hW]
      refine (implGoodRow_any _ _ _ zs _ hz hn HA).mono ?_
      rintro e w1 ⟨rfl, hb1⟩
      rw [HG.out]
      have d2 := cell_later hb1 c2
      have e2 := frozen_later hb1 c2 f2
      clear hW
      go_wp2
      refine bodyPost_ret (v := .tuple #[.agg #[.slice none 0 0], .bool false]) (by simp [results, Try.results63, go_sem, d2]) rfl (NO.out HP.out _ ?_)
      exact (B.trans (hb1.mono B.size)).setCell (by simp) _

end Go.Proofs.Ytlfljfmhhnoinaa
