/- Several texts of one proof, in build order: Pick, IntSS, PlainJoin. -/
import Derived.Test.YtaaefdddibdenaaM3
import Derived.Test.YtaaefdddibdenaaM14
import Derived.Deep.AppendLies
import Derived.Deep.RegionLaw
import Derived.Test.YtaaefdddibdenaaM1

/- Contracts of impl.PickCells, spec.l1Columns, spec.l1Pick, spec.PickCells. -/
namespace Go.Proofs.Ytaaefdddibdenaa
open Go.RowKit

set_option maxRecDepth 100000 in
set_option maxHeartbeats 4000000 in
theorem implPickCells (a a' : Option Addr) (n n' c c' : Nat) (zs cols : List Int) (w : World) (hz : zs.length = n) (hz' : cols.length = n') (hn : n ≤ 9223372036854775807) (hn' : n' ≤ 9223372036854775807) (ha : At w a zs) (ha' : At w a' cols) :
    Calls Try.prog 77 #[.agg #[.slice a n c], .slice a' n' c'] w fun e w' => ∃ r m d, e = .returned (.tuple #[.agg #[.slice r m d], .bool (pickOk zs cols)]) ∧
      (pickZ zs cols).length = m ∧ w'.ownsRow w.heap.size 3 1 (.slice r m d) m ((pickZ zs cols).map (.int .i64)) ∧ Below w.heap.size w w' := by
  obtain ⟨W, hW⟩ : ∃ W, W = (w.alloc (.cells #[.slice a n c] 69)).alloc (.cells #[.slice none 0 0] 69) := ⟨_, rfl⟩
  have B : Below w.heap.size w W := by rw [hW]; exact ((Below.refl _ _).alloc (Nat.le_refl _) _).alloc (by simp) _
  have HA : At W a zs := ha.below B
  have c1 : W.cell? ⟨w.heap.size, 0, none⟩ = some (.slice a n c) := by rw [hW]; simp
  have c2 : W.cell? ⟨w.heap.size + 1, 0, none⟩ = some (.slice none 0 0) := by rw [hW]; simp
  have f2 : W.frozen? ⟨w.heap.size + 1, 0, none⟩ = false := by rw [hW]; simp
  have no : pickOk zs cols = false → ∀ w2, Below w.heap.size w w2 → ∃ r m d, Ending.returned (.tuple #[.agg #[.slice none 0 0], .bool false]) = .returned (.tuple #[.agg #[.slice r m d], .bool (pickOk zs cols)]) ∧
      (pickZ zs cols).length = m ∧ w2.ownsRow w.heap.size 3 1 (.slice r m d) m ((pickZ zs cols).map (.int .i64)) ∧ Below w.heap.size w w2 := fun h w2 hb =>
    ⟨none, 0, 0, by rw [h], by simp [pickZ, h], by simp only [pickZ, h]; exact World.ownsRow_nil _ _ _ _, hb⟩
  have NO := Hid.mk no
  clear no
  cases hg : good zs with
  | false =>
    have HG := Hid.mk hg
    have HP : Hid (pickOk zs cols = false) := by simp [Hid, pickOk, hg]
    clear hg ha ha'
    go_enter Try.func77, Try.ntmps77
    go_wp2_with fail
    rw [← hW]
    refine (implGoodRow_any _ _ _ zs _ hz hn HA).mono ?_
    rintro e w1 ⟨rfl, hb1⟩
    rw [HG.out]
    have d2 := cell_later hb1 c2
    have e2 := frozen_later hb1 c2 f2
    clear hW
    go_wp2
    refine bodyPost_ret (v := .tuple #[.agg #[.slice none 0 0], .bool false]) (by simp [results, Try.results77, go_sem, d2]) rfl (NO.out HP.out _ ?_)
    exact (B.trans (hb1.mono B.size)).setCell (by simp) _
  | true =>
    have HG := Hid.mk hg
    by_cases h6 : n' ≤ 6
    · have HA' : At W a' cols := ha'.below B
      obtain ⟨i0, hi, hz0, hz1, hz2⟩ := info_parts Try.infoInt
      clear ha ha'
      go_enter Try.func77, Try.ntmps77
      go_wp2_with fail
      rw [← hW]
      refine (implGoodRow_any _ _ _ zs _ hz hn HA).mono ?_
      rintro e w1 ⟨rfl, hb1⟩
      rw [HG.out]
      have d1 := cell_later hb1 c1
      have d2 := cell_later hb1 c2
      have e2 := frozen_later hb1 c2 f2
      have A1 := HA.below hb1
      have A2 := HA'.below hb1
      have B1 := B.trans (hb1.mono B.size)
      have z1 : w.heap.size + 1 < w1.heap.size := World.block_lt_of_cell? _ _ d2
      clear hW hb1 c1 c2 f2 HA HA' B
      have V0 : RowVar (w1.alloc (.cells #[.slice none 0 0] 69)) w1.heap.size 69 (w1.heap.size + 1) 3 none 0 0 (pick zs (cols.take 0)) := RowVar.new rfl (by omega)
      go_wp2
      go_loopw [20] (fun i wr => ∃ (k : Nat) (r : Option Addr) (d : Nat), k ≤ n' ∧ i = .int .i64 k ∧ (∀ j, j < k → 0 ≤ cols.getD j 0 ∧ cols.getD j 0 < zs.length) ∧ RowVar wr w1.heap.size 69 (w1.heap.size + 1) 3 r k d (pick zs (cols.take k)) ∧ Below w1.heap.size w1 wr) (fun i _ => n' - (intOf i).toNat)
      case atStart => exact ⟨0, none, 0, Nat.zero_le _, rfl, fun j hj => by omega, V0, (Below.refl _ _).alloc (Nat.le_refl _) _⟩
      case round =>
        clear V0
        obtain ⟨k, r, d, hk, rfl, hall, hv, hbw⟩ := hrel
        have g1 := cell_later hbw d1
        have g2 := cell_later hbw d2
        have g3 := frozen_later hbw d2 e2
        have BW := B1.trans (hbw.mono B1.size)
        have z2 := hbw.size
        by_cases hlt : k < n'
        · obtain ⟨b', off', rfl, hb', hc'⟩ := (A2.below hbw).some (by omega)
          have hcx := hc' k (by omega)
          have HNo := Hid.mk (not_colsOk (cols := cols) (n := zs.length) k (by omega))
          have HS := Hid.mk (pick_succ zs cols k (by omega))
          have HAll := Hid.mk hall
          clear hc' hall
          by_cases hin : 0 ≤ cols.getD k 0 ∧ cols.getD k 0 < n
          · obtain ⟨hx0, hx1⟩ := hin
            have HX : Hid (0 ≤ cols.getD k 0 ∧ cols.getD k 0 < zs.length) := ⟨hx0, by omega⟩
            obtain ⟨j, hj⟩ := Int.eq_ofNat_of_zero_le hx0
            rw [hj] at hcx hx1 HS
            have HJ := Hid.mk hj
            have hjn : j < n := by omega
            obtain ⟨b, off, rfl, hb, hc⟩ := (A1.below hbw).some (by omega)
            have hcj := hc j (by omega)
            clear hc hj
            obtain ⟨y, hy⟩ : ∃ y, y = zs.getD ((j : Int)).toNat 0 := ⟨_, rfl⟩
            rw [← hy] at HS
            rw [show zs.getD j 0 = y by rw [hy]; rfl] at hcj
            clear hy
            have hcr := hv.cell
            have hfr := hv.frozen
            have zR : w1.heap.size < wr.heap.size := World.block_lt_of_cell? _ _ hcr
            have zb : b < wr.heap.size := World.block_lt_of_cell? _ _ hcj
            have HO := Hid.mk (hv.own.alloc (.cells #[.int .i64 y] 3)).drew
            have HN := Hid.mk (news_at wr #[.int .i64 y] 3)
            go_wp2
            go_region_law (refine step_append_lies _ rfl (.tmp 35) (.tmp 41) 67 rfl (w1.heap.size + 1) 3 i0 (.int .i64 0) 1 8 Try.underlying67 hi hz0 hz1 hz2 rfl (by decide) (.slice r k d) k _ (by simp [Act.eval]) HO.out ⟨wr.heap.size, 0, none⟩ 1 1 [.int .i64 y] (by simp [Act.eval]) rfl HN.out (by simp; rfl) (by decide) (by unfold maxLen; omega) (by omega) (by simp; omega) (wr.heap.size + 1) (by simp) ?_; intro g cap w2 hown1 hgrow' _ _; have hgrow := grown_undrew hgrow'; obtain ⟨t1, t2, hv1⟩ := hv.pushed hown1 hgrow)
            all_goals
              have HB := Hid.mk (hv.pushed_below (v := .slice (some ⟨g, 0, none⟩) (k + 1) cap) hgrow hbw (Nat.le_refl _))
              rw [← HS.out] at hv1
              have HV := Hid.mk hv1
              clear hv1 hown1 hgrow hgrow' hv hbw HO HN t1 t2 hcr hfr hcj hcx
              go_wp2
              go_roundw
              case rel =>
                refine ⟨k + 1, _, _, by omega, by go_num, fun j' hj' => ?_, HV.out, HB.out⟩
                by_cases e : j' = k
                · subst e; exact HX.out
                · exact HAll.out j' (by omega)
              case measure => simp [intOf]; omega
          · obtain ⟨x, hx⟩ : ∃ x, x = cols.getD k 0 := ⟨_, rfl⟩
            have HP : Hid (pickOk zs cols = false) := by
              have hno : colsOk cols zs.length = false := HNo.out (by omega)
              simp [Hid, pickOk, hno]
            rw [← hx] at hcx hin
            clear hx HS HNo HAll
            by_cases hneg : x < 0
            · go_wp2
              refine bodyPost_ret (v := .tuple #[.agg #[.slice none 0 0], .bool false]) (by simp [results, Try.results77, go_sem, g2]) rfl (NO.out HP.out _ ?_)
              exact BW.setCell (by simp) _
            · have hge : (n : Int) ≤ x := by omega
              go_wp2
              refine bodyPost_ret (v := .tuple #[.agg #[.slice none 0 0], .bool false]) (by simp [results, Try.results77, go_sem, g2]) rfl (NO.out HP.out _ ?_)
              exact BW.setCell (by simp) _
        · obtain rfl : k = n' := by omega
          have hok : pickOk zs cols = true := by
            have := colsOk_of (cols := cols) (n := zs.length) (by omega) (fun j hj => hall j (by omega))
            simp [pickOk, hg, this]
          have hpz : pick zs (cols.take k) = pickZ zs cols := by rw [← hz', List.take_length]; simp [pickZ, hok]
          rw [hpz] at hv
          have HP := Hid.mk hok
          have hcr := hv.cell
          clear hall hpz hok hg
          go_wp2
          refine bodyPost_ret (v := .tuple #[.agg #[.slice r k d], .bool true]) (by simp [results, Try.results77, go_sem, g2]) rfl ⟨r, k, d, by rw [HP.out], hv.1, ?_, ?_⟩
          · exact owns_mono (ownsRow_setCell_below hv.own (by simp; omega) _) (by omega)
          · exact BW.setCell (by simp) _
    · have HP : Hid (pickOk zs cols = false) := by simp [Hid, pickOk, colsOk_long (n := zs.length) (show 6 < cols.length by omega)]
      clear hg ha ha'
      go_enter Try.func77, Try.ntmps77
      go_wp2_with fail
      rw [← hW]
      refine (implGoodRow_any _ _ _ zs _ hz hn HA).mono ?_
      rintro e w1 ⟨rfl, hb1⟩
      rw [HG.out]
      have d2 := cell_later hb1 c2
      have e2 := frozen_later hb1 c2 f2
      clear hW
      go_wp2
      refine bodyPost_ret (v := .tuple #[.agg #[.slice none 0 0], .bool false]) (by simp [results, Try.results77, go_sem, d2]) rfl (NO.out HP.out _ ?_)
      exact (B.trans (hb1.mono B.size)).setCell (by simp) _

end Go.Proofs.Ytaaefdddibdenaa

/- Contracts of the laws' helpers over slices of slices of ints: szIntSS, toIntSS, eqIntSS, markIntSS. -/
namespace Go.Proofs.Ytaaefdddibdenaa
open Go.RowKit

theorem Try.infoInts : (Try.prog.info? 67).map (fun i => (i.zero, i.size, i.bytes)) = some (some (.slice none 0 0), 1, 24) := by kernel_rfl

set_option maxHeartbeats 1000000 in
theorem szIntSS_any (a : Option Addr) (n c : Nat) (zss : List (List Int)) (l : Int) (w : World) (hz : zss.length = n) (hn : n ≤ 9223372036854775807) (h0 : 0 ≤ l) (h1 : l ≤ 1048576) (ha : AtS w a zss) :
    Calls Try.prog 20 #[.slice a n c, .int .i64 l] w fun e w' => e = .returned (.int .i64 (leftOf l (n + tot zss n))) ∧ w' = w := by
  by_cases hb : l < n
  · have h' : l - (n : Int) < 0 := by omega
    go_enter Try.func20, Try.ntmps20
    go_wp2
    go_ret
    exact ⟨ret_int (leftOf_no (by omega)).symm, rfl⟩
  · have h' : ¬ l - (n : Int) < 0 := by omega
    by_cases hn0 : n = 0
    · subst hn0
      have ht : tot zss 0 = 0 := rfl
      go_enter Try.func20, Try.ntmps20
      go_wp2
      refine wp_loop_rounds 1 ?_
      rw [rounds_succ]
      go_wp2
      go_ret
      exact ⟨ret_int (by rw [ht, leftOf_yes (by omega)]; omega), rfl⟩
    · obtain ⟨b, off, rfl, hc⟩ := ha.some (by omega)
      clear ha
      go_enter Try.func20, Try.ntmps20
      go_wp2
      go_loop [1, 5] (fun q i => ∃ (k : Nat) (r : Int), k ≤ n ∧ i = .int .i64 k ∧ q = .int .i64 r ∧ 0 ≤ r ∧ r ≤ 1048576 ∧ r + tot zss k = l - n) (fun _ i => n - (intOf i).toNat)
      case atStart => exact ⟨0, l - n, Nat.zero_le _, rfl, rfl, by omega, by omega, by rw [tot_zero]; omega⟩
      case round =>
        obtain ⟨k, r, hk, rfl, rfl, hr0, hr1, hr⟩ := hrel
        by_cases hlt : k < n
        · obtain ⟨a', c', hcx, hm, hat⟩ := hc k (by omega)
          have hts := tot_succ zss k (by omega)
          have htm := tot_mono zss (k + 1) n (by omega)
          obtain ⟨m, hmm⟩ : ∃ m, m = (zss.getD k []).length := ⟨_, rfl⟩
          rw [← hmm] at hcx hm hts
          have HR := Hid.mk hr
          have HT := Hid.mk hts
          clear hmm hat hc hr hts
          by_cases hfit : r < m
          · go_wp2_with (go_at_call 46; refine (szIntS_any _ _ _ _ _ hm hr0 hr1).mono ?_; rintro e w' ⟨rfl, rfl⟩; rw [if_pos hfit])
            go_ret
            exact ⟨ret_int (leftOf_no (by have := HR.out; have := HT.out; omega)).symm, rfl⟩
          · have hd : ¬ r - (m : Int) < 0 := by omega
            go_wp2_with (go_at_call 46; refine (szIntS_any _ _ _ _ _ hm hr0 hr1).mono ?_; rintro e w' ⟨rfl, rfl⟩; rw [if_neg (by omega)])
            go_round
            case rel => exact ⟨k + 1, r - m, by omega, by go_num, rfl, by omega, by omega, by have := HR.out; have := HT.out; omega⟩
            case measure => simp [intOf]; omega
        · obtain rfl : k = n := by omega
          have HR := Hid.mk hr
          clear hr hc
          go_wp2
          go_ret
          exact ⟨ret_int (by have := HR.out; rw [leftOf_yes (by omega)]; omega), rfl⟩

theorem rows_store {w : World} {e : TypeId} {vs : List Value} {zss : List (List Int)} {k : Nat} {L : Nat → Nat} (h : RowsOwned w e vs zss k L) (hL : ∀ i, i < k → L 0 ≤ L i) {g j : Nat} (hg : g < L 0) (v : Value) (hj : k ≤ j) :
    RowsOwned (w.setCell ⟨g, j, none⟩ v) e (vs.set j v) zss k L := fun i hi => by
  obtain ⟨a, c, h1, h2, h3⟩ := h i hi
  refine ⟨a, c, ?_, ownsRow_setCell_below h2 (by have := hL i hi; simp; omega) _, h3⟩
  rw [List.getElem?_set_ne (by omega)]; exact h1

set_option maxHeartbeats 2000000 in
theorem toIntSS_any (a : Option Addr) (n c : Nat) (zss : List (List Int)) (w : World) (hz : zss.length = n) (hn : n ≤ 1048576) (hs : ∀ i, i < zss.length → (zss.getD i []).length ≤ 1048576) (ha : AtS w a zss) :
    Calls Try.prog 22 #[.slice a n c] w fun e w' => e = .returned (.slice (some ⟨w.heap.size, 0, none⟩) n n) ∧ OwnS w' w.heap.size w'.heap.size 67 3 w.heap.size n zss ∧ Below w.heap.size w w' := by
  obtain ⟨i0, hi, hz0, hz1, hz2⟩ := info_parts Try.infoInts
  go_enter Try.func22, Try.ntmps22
  go_wp2_with (at_make; refine wpList_make_full _ rfl _ _ 43 rfl w.heap.size 67 i0 (.slice none 0 0) 1 Try.underlying43 hi hz0 hz1 .i64 .i64 _ _ n rfl rfl rfl rfl (by rw [hz2]; omega) (by unfold maxLen; omega) (Nat.le_refl _) ?_; intro w1 hown hg)
  have hb1 : Below w.heap.size w w1 := (Below.refl _ _).grown hg (Nat.le_refl _) (by simp)
  obtain ⟨vs, hv0, hv1, zg⟩ : ∃ vs : List Value, vs.length = n ∧ w1.heap[w.heap.size]? = some (.cells vs.toArray 67 (0, 0)) ∧ w.heap.size < w1.heap.size := by
    rcases hown.2 with ⟨h', _⟩ | ⟨g', cap', cur, h', _, hg', _, _, hcs, _⟩
    · simp at h'
    · simp only [Value.slice.injEq, Option.some.injEq, Addr.mk.injEq, and_true, true_and] at h'
      obtain ⟨rfl, rfl⟩ := h'
      exact ⟨cur.toList, by simpa using hcs, by simpa using hg', (Array.getElem?_eq_some_iff.1 hg').1⟩
  clear hown hg
  go_loopw [4] (fun i wr => ∃ (k : Nat) (vs : List Value) (L : Nat → Nat), k ≤ n ∧ i = .int .i64 k ∧ vs.length = n ∧ wr.heap[w.heap.size]? = some (.cells vs.toArray 67 (0, 0)) ∧ w.heap.size < L 0 ∧ (∀ i, i < k → L i ≤ L (i + 1)) ∧ L k ≤ wr.heap.size ∧ RowsOwned wr 3 vs zss k L ∧ Below w.heap.size w wr) (fun i _ => n - (intOf i).toNat)
  case atStart => exact ⟨0, vs, fun _ => w.heap.size + 1, Nat.zero_le _, rfl, hv0, hv1, by simp, fun _ h => by omega, by simp; omega, fun i hi => by omega, hb1⟩
  case round =>
    clear hv0 hv1 hb1 zg vs
    obtain ⟨k, vs, L, hk, rfl, hv0, hv1, hL0, hLm, hLk, hrow, hbw⟩ := hrel
    by_cases hlt : k < n
    · obtain ⟨b, off, rfl, hc⟩ := (ha.below hbw).some (by omega)
      obtain ⟨a', c', hcx, _, hat⟩ := hc k (by omega)
      have hsm := hs k (by omega)
      have zg : w.heap.size < wr.heap.size := (Array.getElem?_eq_some_iff.1 hv1).1
      have hki : (k : Int) < (n : Int) := by omega
      obtain ⟨ys, hys⟩ : ∃ ys, ys = zss.getD k [] := ⟨_, rfl⟩
      obtain ⟨m, hm⟩ : ∃ m, ys.length = m := ⟨_, rfl⟩
      rw [← hys, hm] at hcx hsm
      rw [← hys] at hat
      have HYS := Hid.mk hys
      have HM := Hid.mk hm
      clear hys hm hc
      go_wp2_with fail
      refine (toIntS_any a' _ c' ys _ HM.out hsm hat).mono ?_
      rintro e w2 ⟨rfl, ho2, hb2⟩
      have hv2 : w2.heap[w.heap.size]? = some (.cells vs.toArray 67 (0, 0)) := (hb2.block _ zg).trans hv1
      have hrow2 := hrow.below hb2
      obtain ⟨u, hu⟩ : ∃ u, vs[k]? = some u := ⟨_, List.getElem?_eq_getElem (by omega)⟩
      have hco : w2.cell? ⟨w.heap.size, k, none⟩ = some u := by rw [cell_of_row w2 _ k _ _ (0, 0) hv2]; simpa using hu
      have hfo : w2.frozen? ⟨w.heap.size, k, none⟩ = false := frozen_of_row w2 _ k _ _ hv2
      have hmono := mono_le (n := k) (L := L) (fun i hi => hLm i hi)
      have z2 := hb2.size
      obtain ⟨V, hV⟩ : ∃ V, V = Value.slice (some ⟨wr.heap.size, 0, none⟩) m m := ⟨_, rfl⟩
      have R : RowsOwned (w2.setCell ⟨w.heap.size, k, none⟩ V) 3 (vs.set k V) zss (k + 1) (fun i => if i ≤ k then L i else w2.heap.size) := by
        intro i hi
        by_cases e : i < k
        · obtain ⟨a1, c1, h1, h2, h3⟩ := rows_store hrow2 (fun i hi => hmono 0 i (by omega) (by omega)) hL0 V (Nat.le_refl k) i e
          refine ⟨a1, c1, h1, ?_, ?_⟩
          · simpa [show i ≤ k by omega] using h2
          · simpa [show i + 1 ≤ k by omega] using h3
        · obtain rfl : i = k := by omega
          rw [← HYS.out, HM.out]
          refine ⟨some ⟨wr.heap.size, 0, none⟩, m, ?_, ?_, ?_⟩
          · rw [List.getElem?_set_self (by omega), hV]
          · simp only [Nat.le_refl, if_true]
            exact ownsRow_setCell_below (owns_mono ho2 hLk) (by have := hmono 0 i (by omega) (Nat.le_refl _); simp; omega) _
          · intro b' hb'
            have := (ho2.lt b' hb').2
            show b' < if i + 1 ≤ i then L (i + 1) else w2.heap.size
            rw [if_neg (by omega)]; exact this
      have HR := Hid.mk R
      have HV : Hid ((w2.setCell ⟨w.heap.size, k, none⟩ V).heap[w.heap.size]? = some (.cells (vs.set k V).toArray 67 (0, 0))) := by
        show _ = _
        rw [heap_setCell_same w2 _ k _ _ V hv2]; simp
      have HB : Hid (Below w.heap.size w (w2.setCell ⟨w.heap.size, k, none⟩ V)) := (hbw.trans (hb2.mono hbw.size)).setCell (Nat.le_refl _) _
      have HL := Hid.mk hLm
      have HK := Hid.mk hLk
      clear R hrow hrow2 ho2 hb2 hbw hv1 hv2 hmono hu hat hLm hLk
      subst hV
      clear hcx
      go_wp2
      go_roundw
      case rel =>
        refine ⟨k + 1, _, _, by omega, by go_num, by simpa using hv0, HV.out, by simpa using hL0, fun i hi => ?_, ?_, HR.out, HB.out⟩
        · have := HK.out
          by_cases e : i + 1 ≤ k
          · simpa [show i ≤ k by omega, e] using HL.out i (by omega)
          · obtain rfl : i = k := by omega
            show (if i ≤ i then L i else w2.heap.size) ≤ (if i + 1 ≤ i then L (i + 1) else w2.heap.size)
            rw [if_pos (Nat.le_refl _), if_neg (by omega)]; omega
        · show (if k + 1 ≤ k then L (k + 1) else w2.heap.size) ≤ _
          rw [if_neg (by omega)]; simp [World.setCell]
      case measure => simp [intOf]; omega
    · obtain rfl : k = n := by omega
      go_wp2
      go_ret
      exact ⟨rfl, ⟨vs, L, hz, hv0, Nat.le_refl _, hL0, hLm, hLk, Nat.le_refl _, hv1, hrow⟩, hbw⟩

theorem listNe_getD {zss zss' : List (List Int)} {k : Nat} (h : zss.getD k [] ≠ zss'.getD k []) : zss ≠ zss' := fun e => h (by rw [e])
theorem takeS_succ (zss : List (List Int)) (k : Nat) (h : k < zss.length) : zss.take (k + 1) = zss.take k ++ [zss.getD k []] := by
  rw [List.take_succ_eq_append_getElem h]; simp [List.getD, h]

set_option maxHeartbeats 2000000 in
theorem eqIntSS_any (a a' : Option Addr) (n n' c c' : Nat) (zss zss' : List (List Int)) (w : World) (hz : zss.length = n) (hz' : zss'.length = n') (hn : n ≤ 1048576) (hn' : n' ≤ 1048576)
    (hs : ∀ i, i < zss.length → (zss.getD i []).length ≤ 1048576) (hs' : ∀ i, i < zss'.length → (zss'.getD i []).length ≤ 1048576) (ha : AtS w a zss) (ha' : AtS w a' zss') :
    Calls Try.prog 24 #[.slice a n c, .slice a' n' c'] w fun e w' => e = .returned (.bool (decide (zss = zss'))) ∧ Below w.heap.size w w' := by
  by_cases hnn : n = n'
  · subst hnn
    by_cases h0 : n = 0
    · subst h0
      obtain rfl := List.eq_nil_of_length_eq_zero hz
      obtain rfl := List.eq_nil_of_length_eq_zero hz'
      go_enter Try.func24, Try.ntmps24
      go_wp2
      refine wp_loop_rounds 1 ?_
      rw [rounds_succ]
      go_wp2
      go_ret
      exact ⟨by simp, Below.refl _ _⟩
    · go_enter Try.func24, Try.ntmps24
      go_wp2
      go_loopw [5] (fun i wr => ∃ (k : Nat), k ≤ n ∧ i = .int .i64 k ∧ zss.take k = zss'.take k ∧ Below w.heap.size w wr) (fun i _ => n - (intOf i).toNat)
      case atStart => exact ⟨0, Nat.zero_le _, rfl, rfl, Below.refl _ _⟩
      case round =>
        obtain ⟨k, hk, rfl, ht, hbw⟩ := hrel
        by_cases hlt : k < n
        · obtain ⟨b, off, rfl, hc⟩ := (ha.below hbw).some (by omega)
          obtain ⟨b', off', rfl, hc'⟩ := (ha'.below hbw).some (by omega)
          obtain ⟨q, d, hcx, _, hat⟩ := hc k (by omega)
          obtain ⟨q', d', hcy, _, hat'⟩ := hc' k (by omega)
          have hm := hs k (by omega)
          have hm' := hs' k (by omega)
          have HT : Hid (zss.getD k [] = zss'.getD k [] → zss.take (k + 1) = zss'.take (k + 1)) := fun e => by
            rw [takeS_succ zss k (by omega), takeS_succ zss' k (by omega), ht, e]
          have HN : Hid (zss.getD k [] ≠ zss'.getD k [] → zss ≠ zss') := listNe_getD
          generalize zss.getD k [] = ys at *
          generalize zss'.getD k [] = ys' at *
          obtain ⟨m, hmm⟩ : ∃ m, ys.length = m := ⟨_, rfl⟩
          obtain ⟨m', hmm'⟩ : ∃ m, ys'.length = m := ⟨_, rfl⟩
          rw [hmm] at hcx hm
          rw [hmm'] at hcy hm'
          have HM := Hid.mk hmm
          have HM' := Hid.mk hmm'
          have hki : (k : Int) < (n : Int) := by omega
          clear ht hc hc' hmm hmm' ha ha' hs hs'
          go_wp2_with fail
          have hd : ∀ bl : Bool, decide (ys = ys') = bl → Hid (decide (ys = ys') = bl) := fun _ h => h
          cases hbl : decide (ys = ys') with
          | true =>
            have HD := Hid.mk hbl
            have he : ys = ys' := of_decide_eq_true hbl
            have HE := Hid.mk he
            clear hbl hd he
            go_region_held3 (fun w' => w'.cell? ⟨b, off + k, none⟩ = some (.slice q m d) ∧ w'.cell? ⟨b', off' + k, none⟩ = some (.slice q' m' d')) (refine ⟨?_, ?_⟩ <;> assumption)
              (first | (go_at_call 54; refine (eqIntS_any _ _ _ _ _ _ ys ys' _ HM.out HM'.out hm hm' hat.drew hat'.drew).mono ?_; rintro e w2 ⟨rfl, hb2⟩; rw [HD.out]; have e1 := cell_later hb2 hcx; have e2 := cell_later hb2 hcy))
            go_wp2
            go_roundw
            case rel => exact ⟨k + 1, by omega, by go_num, HT.out HE.out, hbw.drew.trans (hb2.mono hbw.size)⟩
            case measure => simp [intOf]; omega
          | false =>
            have HD := Hid.mk hbl
            have HE := Hid.mk (of_decide_eq_false hbl)
            clear hbl hd
            go_region_held3 (fun w' => w'.cell? ⟨b, off + k, none⟩ = some (.slice q m d) ∧ w'.cell? ⟨b', off' + k, none⟩ = some (.slice q' m' d')) (refine ⟨?_, ?_⟩ <;> assumption)
              (first | (go_at_call 54; refine (eqIntS_any _ _ _ _ _ _ ys ys' _ HM.out HM'.out hm hm' hat.drew hat'.drew).mono ?_; rintro e w2 ⟨rfl, hb2⟩; rw [HD.out]; have e1 := cell_later hb2 hcx; have e2 := cell_later hb2 hcy))
            go_wp2
            go_ret
            exact ⟨ret_bool (decide_eq_false (HN.out HE.out)).symm, hbw.drew.trans (hb2.mono hbw.size)⟩
        · go_wp2
          go_ret
          rw [List.take_of_length_le (by omega), List.take_of_length_le (by omega)] at ht
          exact ⟨ret_bool (decide_eq_true ht).symm, hbw⟩
  · go_enter Try.func24, Try.ntmps24
    go_wp2
    go_ret
    exact ⟨ret_bool (decide_eq_false (fun e => hnn (by rw [← hz, ← hz', e]))).symm, Below.refl _ _⟩

theorem toIntSS_at (a : Option Addr) (n c : Nat) (zss : List (List Int)) (w : World) (hz : zss.length = n) (hn : n ≤ 1048576) (hs : ∀ i, i < zss.length → (zss.getD i []).length ≤ 1048576) (ha : AtS w a zss) :
    Calls Try.prog 22 #[.slice a n c] w fun e w' => ∃ g, e = .returned (.slice (some ⟨g, 0, none⟩) n n) ∧ OwnS w' w.heap.size w'.heap.size 67 3 g n zss ∧ Below w.heap.size w w' :=
  (toIntSS_any a n c zss w hz hn hs ha).mono fun _ _ ⟨h1, h2, h3⟩ => ⟨_, h1, h2, h3⟩
theorem szIntSS_at (a : Option Addr) (n c : Nat) (zss : List (List Int)) (l : Int) (w : World) (hz : zss.length = n) (hn : n ≤ 9223372036854775807) (h0 : 0 ≤ l) (h1 : l ≤ 1048576) (ha : AtS w a zss) :
    Calls Try.prog 20 #[.slice a n c, .int .i64 l] w fun e w' => e = .returned (.int .i64 (leftOf l (n + tot zss n))) ∧ Below w.heap.size w w' :=
  (szIntSS_any a n c zss l w hz hn h0 h1 ha).mono fun _ _ ⟨h1, h2⟩ => ⟨h1, h2 ▸ Below.refl _ _⟩
theorem tot_each (zss : List (List Int)) (n : Nat) (hn : zss.length = n) (i : Nat) (hi : i < zss.length) : (zss.getD i []).length ≤ tot zss n := by
  have h1 := tot_succ zss i hi
  have h2 := tot_mono zss (i + 1) n (by omega)
  omega

end Go.Proofs.Ytaaefdddibdenaa

/- Plain functions: pairs of columns, rows that are joined. -/
namespace Go.Proofs.Ytaaefdddibdenaa

def pairs2 (ps : List (List Int)) : Bool := decide (ps.length ≤ 6) && ps.all fun p => decide (p.length = 2)
def side (ps : List (List Int)) (s : Nat) : List Int := ps.map fun p => p.getD s 0
def pairIn (na nb : Nat) (p : List Int) : Bool := decide (p.length = 2) && colIn na (p.getD 0 0) && colIn nb (p.getD 1 0)
def pairsOk (ps : List (List Int)) (na nb : Nat) : Bool := decide (ps.length ≤ 6) && ps.all (pairIn na nb)
def restTo (ys cols : List Int) (k : Nat) : List Int := ((List.range k).filter fun (j : Nat) => !cols.contains (j : Int)).map fun (j : Nat) => ys.getD j 0
def joinZ (xs ys cols : List Int) : List Int := xs ++ restTo ys cols ys.length
def joinOk (xs ys : List Int) (ps : List (List Int)) : Bool :=
  good xs && good ys && pairsOk ps xs.length ys.length && decide (pick xs (side ps 0) = pick ys (side ps 1)) && decide ((joinZ xs ys (side ps 1)).length ≤ 6)
def joinAns (xs ys : List Int) (ps : List (List Int)) : List Int := if joinOk xs ys ps then joinZ xs ys (side ps 1) else []

theorem side_length (ps : List (List Int)) (s : Nat) : (side ps s).length = ps.length := by simp [side]
theorem side_take (ps : List (List Int)) (s k : Nat) (h : k < ps.length) : side (ps.take (k + 1)) s = side (ps.take k) s ++ [(ps.getD k []).getD s 0] := by
  unfold side
  rw [List.take_succ_eq_append_getElem h, List.map_append]
  simp [List.getD, h]
theorem side_getD (ps : List (List Int)) (s k : Nat) (h : k < ps.length) : (side ps s).getD k 0 = (ps.getD k []).getD s 0 := by
  simp [side, List.getD, h]
theorem restTo_skip (ys cols : List Int) (k : Nat) (h : cols.contains (k : Int) = true) : restTo ys cols (k + 1) = restTo ys cols k := by
  simp only [restTo, List.range_succ, List.filter_append, List.filter_cons, List.filter_nil, h, Bool.not_true, Bool.false_eq_true, if_false, List.append_nil]
theorem restTo_take (ys cols : List Int) (k : Nat) (h : cols.contains (k : Int) = false) : restTo ys cols (k + 1) = restTo ys cols k ++ [ys.getD k 0] := by
  simp only [restTo, List.range_succ, List.filter_append, List.map_append, List.filter_cons, List.filter_nil, h, Bool.not_false, if_true, List.map_cons, List.map_nil]
theorem restTo_length (ys cols : List Int) (k : Nat) : (restTo ys cols k).length ≤ k := by
  simp only [restTo, List.length_map]
  have := List.length_filter_le (fun j : Nat => !cols.contains (j : Int)) (List.range k)
  simpa using this

/-- The joined row while it is made. -/
def joinTo (xs ys cols : List Int) (k : Nat) : List Int := xs ++ restTo ys cols k
theorem joinTo_skip (xs ys cols : List Int) (k : Nat) (h : cols.contains (k : Int) = true) : joinTo xs ys cols (k + 1) = joinTo xs ys cols k := by rw [joinTo, joinTo, restTo_skip ys cols k h]
theorem joinTo_take (xs ys cols : List Int) (k : Nat) (h : cols.contains (k : Int) = false) : joinTo xs ys cols (k + 1) = joinTo xs ys cols k ++ [ys.getD k 0] := by rw [joinTo, joinTo, restTo_take ys cols k h, List.append_assoc]
theorem joinTo_length (xs ys cols : List Int) (k : Nat) : (joinTo xs ys cols k).length ≤ xs.length + k := by have := restTo_length ys cols k; simp [joinTo]; omega

theorem pairs2_at {ps : List (List Int)} (h : pairs2 ps = true) (k : Nat) (hk : k < ps.length) : (ps.getD k []).length = 2 := by
  simp only [pairs2, Bool.and_eq_true, decide_eq_true_eq, List.all_eq_true] at h
  have := h.2 ps[k] (List.getElem_mem hk)
  simpa [List.getD, hk] using this
theorem pairs2_len {ps : List (List Int)} (h : pairs2 ps = true) : ps.length ≤ 6 := by simp only [pairs2, Bool.and_eq_true, decide_eq_true_eq] at h; exact h.1
theorem pairs2_of {ps : List (List Int)} (hl : ps.length ≤ 6) (h : ∀ k, k < ps.length → (ps.getD k []).length = 2) : pairs2 ps = true := by
  simp only [pairs2, Bool.and_eq_true, decide_eq_true_eq, List.all_eq_true]
  refine ⟨hl, fun x hx => ?_⟩
  obtain ⟨k, hk, rfl⟩ := List.getElem_of_mem hx
  simpa [List.getD, hk] using h k hk
theorem pairs2_long {ps : List (List Int)} (h : 6 < ps.length) : pairs2 ps = false := by simp [pairs2]; omega
theorem not_pairs2 {ps : List (List Int)} (k : Nat) (hk : k < ps.length) (h : (ps.getD k []).length ≠ 2) : pairs2 ps = false := by
  cases hg : pairs2 ps with
  | false => rfl
  | true => exact absurd (pairs2_at hg k hk) h

theorem pairsOk_at {ps : List (List Int)} {na nb : Nat} (h : pairsOk ps na nb = true) (k : Nat) (hk : k < ps.length) :
    (ps.getD k []).length = 2 ∧ (0 ≤ (ps.getD k []).getD 0 0 ∧ (ps.getD k []).getD 0 0 < na) ∧ (0 ≤ (ps.getD k []).getD 1 0 ∧ (ps.getD k []).getD 1 0 < nb) := by
  simp only [pairsOk, pairIn, colIn, Bool.and_eq_true, decide_eq_true_eq, List.all_eq_true] at h
  have := h.2 ps[k] (List.getElem_mem hk)
  rw [show ps.getD k [] = ps[k] by simp [List.getD, hk]]
  exact ⟨this.1.1, this.1.2, this.2⟩
theorem pairsOk_len {ps : List (List Int)} {na nb : Nat} (h : pairsOk ps na nb = true) : ps.length ≤ 6 := by simp only [pairsOk, Bool.and_eq_true, decide_eq_true_eq] at h; exact h.1
theorem pairsOk_of {ps : List (List Int)} {na nb : Nat} (hl : ps.length ≤ 6) (h : ∀ k, k < ps.length → (ps.getD k []).length = 2 ∧ (0 ≤ (ps.getD k []).getD 0 0 ∧ (ps.getD k []).getD 0 0 < na) ∧ (0 ≤ (ps.getD k []).getD 1 0 ∧ (ps.getD k []).getD 1 0 < nb)) : pairsOk ps na nb = true := by
  simp only [pairsOk, pairIn, colIn, Bool.and_eq_true, decide_eq_true_eq, List.all_eq_true]
  refine ⟨hl, fun x hx => ?_⟩
  obtain ⟨k, hk, rfl⟩ := List.getElem_of_mem hx
  have := h k hk
  rw [show ps.getD k [] = ps[k] by simp [List.getD, hk]] at this
  exact ⟨⟨this.1, this.2.1⟩, this.2.2⟩
theorem pairsOk_long {ps : List (List Int)} {na nb : Nat} (h : 6 < ps.length) : pairsOk ps na nb = false := by simp [pairsOk]; omega
theorem not_pairsOk {ps : List (List Int)} {na nb : Nat} (k : Nat) (hk : k < ps.length) (h : ¬ ((ps.getD k []).length = 2 ∧ (0 ≤ (ps.getD k []).getD 0 0 ∧ (ps.getD k []).getD 0 0 < na) ∧ (0 ≤ (ps.getD k []).getD 1 0 ∧ (ps.getD k []).getD 1 0 < nb))) : pairsOk ps na nb = false := by
  cases hg : pairsOk ps na nb with
  | false => rfl
  | true => exact absurd (pairsOk_at hg k hk) h

theorem pairsOk_split (ps : List (List Int)) (na nb : Nat) : pairsOk ps na nb = (pairs2 ps && colsOk (side ps 0) na && colsOk (side ps 1) nb) := by
  rw [Bool.eq_iff_iff]
  simp only [Bool.and_eq_true]
  constructor
  · intro h
    have hl := pairsOk_len h
    refine ⟨⟨pairs2_of hl (fun k hk => (pairsOk_at h k hk).1), colsOk_of (by rw [side_length]; exact hl) (fun j hj => ?_)⟩, colsOk_of (by rw [side_length]; exact hl) (fun j hj => ?_)⟩
    · rw [side_length] at hj; rw [side_getD ps 0 j hj]; exact (pairsOk_at h j hj).2.1
    · rw [side_length] at hj; rw [side_getD ps 1 j hj]; exact (pairsOk_at h j hj).2.2
  · rintro ⟨⟨h1, h2⟩, h3⟩
    refine pairsOk_of (pairs2_len h1) (fun k hk => ⟨pairs2_at h1 k hk, ?_, ?_⟩)
    · have := colsOk_at h2 k (by rw [side_length]; exact hk); rwa [side_getD ps 0 k hk] at this
    · have := colsOk_at h3 k (by rw [side_length]; exact hk); rwa [side_getD ps 1 k hk] at this

theorem raised_dec {xs ys : List Int} (hl : xs.length = ys.length) : decide (raised xs = raised ys) = decide (xs = ys) := by
  rw [Bool.eq_iff_iff, decide_eq_true_eq, decide_eq_true_eq]
  constructor
  · intro h
    unfold raised at h
    have h2 := (List.append_inj h (by simpa using hl)).1
    apply List.ext_getElem hl
    intro i h1 h3
    have := congrArg (fun l => l.getD i 0) h2
    simp [List.getD, h1, h3] at this
    exact this
  · rintro rfl; rfl

theorem pick_good {zs cols : List Int} (h : pickOk zs cols = true) : ∀ k, k < (pick zs cols).length → -100000 ≤ (pick zs cols).getD k 0 ∧ (pick zs cols).getD k 0 ≤ 100000 := by
  intro k hk
  simp only [pickOk, Bool.and_eq_true] at h
  have hk' : k < cols.length := by simpa [pick] using hk
  have hc := colsOk_at h.2 k hk'
  rw [show (pick zs cols).getD k 0 = zs.getD (cols.getD k 0).toNat 0 by simp [pick, List.getD, hk']]
  exact good_cell h.1 _ (by omega)

theorem restTo_mem {ys cols : List Int} {k : Nat} (hk : k ≤ ys.length) : ∀ z ∈ restTo ys cols k, z ∈ ys := by
  intro z hz
  simp only [restTo, List.mem_map, List.mem_filter, List.mem_range] at hz
  obtain ⟨j, ⟨hj, _⟩, rfl⟩ := hz
  rw [show ys.getD j 0 = ys[j]'(by omega) by simp [List.getD, show j < ys.length by omega]]
  exact List.getElem_mem _

theorem good_joinZ {xs ys cols : List Int} (hx : good xs = true) (hy : good ys = true) : good (joinZ xs ys cols) = decide ((joinZ xs ys cols).length ≤ 6) := by
  have hall : (joinZ xs ys cols).all inb = true := by
    rw [List.all_eq_true]
    intro z hz
    rcases List.mem_append.1 hz with h | h
    · have := good_mem hx z h; simp [inb, this]
    · have := good_mem hy z (restTo_mem (Nat.le_refl _) z h); simp [inb, this]
  simp [good, hall]

end Go.Proofs.Ytaaefdddibdenaa
