/- Several texts of one proof, in build order: StrL, IterP, PlainPick, Pick, IntSS. -/
import Derived.Test.YtmkhdocjabflkaaM14
import Derived.Test.YtmkhdocjabflkaaM13
import Derived.Deep.DeepCutAuto
import Derived.Test.YtmkhdocjabflkaaM2
import Derived.Test.YtmkhdocjabflkaaM3
import Derived.Test.YtmkhdocjabflkaaM5
import Derived.Deep.AppendLies
import Derived.Deep.RegionLaw
import Derived.Test.YtmkhdocjabflkaaM1

/- Plain: streams that are told are small. -/
namespace Go.Proofs.Ytmkhdocjabflkaa
open Go.RowKit

theorem stot_le {ss : List Tab} {M : Nat} (h : ∀ i, i < ss.length → wtot (tat ss i).2 (tat ss i).2.length ≤ M) : ∀ k, k ≤ ss.length → stot ss k ≤ k * (M + 1) := by
  intro k hk
  induction k with
  | zero => simp [stot_zero]
  | succ k ih =>
    have h1 := ih (by omega)
    have h2 := h k (by omega)
    rw [stot_succ ss k (by omega), Nat.add_mul]
    omega
theorem goodT_w420 {p : Int} {ts : List WRow} (h : goodT p ts = true) : wtot ts ts.length ≤ 420 := by
  have h1 := wtot_le (M := 6) (fun t ht => good_len (goodL_mem (goodL_of_goodT h) t ht).1) ts.length (Nat.le_refl _)
  have h2 := (goodT_parts h).2.1
  omega
theorem ans_smallU {ok : Bool} {ss : List Tab} (h : ok = true → ss.length ≤ 12 ∧ ∀ i, i < ss.length → ∃ p : Int, goodT p (tat ss i).2 = true) : SmU (ansU ok ss) (ansU ok ss).length := by
  refine ⟨rfl, ?_⟩
  cases ok with
  | false => simp [ansU, stot]
  | true =>
    obtain ⟨h1, h2⟩ := h rfl
    have := stot_le (M := 420) (fun i hi => by obtain ⟨p, hp⟩ := h2 i hi; exact goodT_w420 hp) ss.length (Nat.le_refl _)
    show stot ss ss.length ≤ 1048576
    omega
theorem strB_small {p : Int} {ss : List Tab} {n : Nat} {L : List (List WRow)} (hz : ss.length = n) (h : strB p ss L = true) : (tabsOf p.toNat L n).length ≤ 12 ∧ ∀ i, i < (tabsOf p.toNat L n).length → ∃ p' : Int, goodT p' (tat (tabsOf p.toNat L n) i).2 = true := by
  simp only [strB, Bool.and_eq_true] at h
  have h12 := (goodS_parts h.1).2.1
  have hl : (tabsOf p.toNat L n).length = min n L.length := by simp [tabsOf]
  refine ⟨by omega, fun i hi => ⟨p.toNat, ?_⟩⟩
  rw [hl] at hi
  have hi2 : i < L.length := by omega
  have he : tat (tabsOf p.toNat L n) i = ((p.toNat : Int), L[i]) := by
    simp [tat, tabsOf, List.getD, show i < n by omega, hi2]
  rw [he]
  exact List.all_eq_true.1 h.2 _ (List.getElem_mem hi2)

end Go.Proofs.Ytmkhdocjabflkaa

/- Plain: what a function hands out that passes on some of another one's rows. -/
namespace Go.Proofs.Ytmkhdocjabflkaa

/-- How many have been handed out when k rows have come. -/
def outW (g : WRow → Option WRow) (xs : List WRow) (k : Nat) : Nat := ((xs.take k).filterMap g).length
theorem outW_zero (g : WRow → Option WRow) (xs : List WRow) : outW g xs 0 = 0 := rfl
theorem outW_all (g : WRow → Option WRow) (xs : List WRow) : outW g xs xs.length = (xs.filterMap g).length := by simp [outW]
theorem outW_none {g : WRow → Option WRow} {xs : List WRow} {k : Nat} (h : k < xs.length) (hg : g (wat xs k) = none) : outW g xs (k + 1) = outW g xs k := by
  unfold outW
  rw [wtake_succ xs k h, List.filterMap_append, List.filterMap_cons, hg]
  simp
theorem outW_some {g : WRow → Option WRow} {xs : List WRow} {k : Nat} {v : WRow} (h : k < xs.length) (hg : g (wat xs k) = some v) :
    outW g xs (k + 1) = outW g xs k + 1 ∧ outW g xs k < (xs.filterMap g).length ∧ wat (xs.filterMap g) (outW g xs k) = v := by
  have e : xs.filterMap g = (xs.take k).filterMap g ++ v :: (xs.drop (k + 1)).filterMap g := by
    have h2 : xs = xs.take k ++ wat xs k :: xs.drop (k + 1) := by
      have h3 := (List.take_append_drop k xs).symm
      rw [List.drop_eq_getElem_cons h] at h3
      rw [show wat xs k = xs[k] by simp [wat, List.getD, h]]
      exact h3
    have h4 := congrArg (List.filterMap g) h2
    rw [List.filterMap_append, List.filterMap_cons, hg] at h4
    exact h4
  refine ⟨?_, ?_, ?_⟩
  · unfold outW
    rw [wtake_succ xs k h, List.filterMap_append, List.filterMap_cons, hg]
    simp
  · rw [e]; unfold outW; simp
  · rw [e]; unfold outW
    simp [wat, List.getD]

end Go.Proofs.Ytmkhdocjabflkaa

/- Plain functions: picking cells. -/
namespace Go.Proofs.Ytmkhdocjabflkaa

def colIn (n : Nat) (k : Int) : Bool := decide (0 ≤ k) && decide (k < n)
def colsOk (cols : List Int) (n : Nat) : Bool := decide (cols.length ≤ 6) && cols.all (colIn n)
def pick (zs cols : List Int) : List Int := cols.map fun k => zs.getD k.toNat 0
def pickOk (zs cols : List Int) : Bool := good zs && colsOk cols zs.length
def pickZ (zs cols : List Int) : List Int := if pickOk zs cols then pick zs cols else []

theorem colsOk_of {cols : List Int} {n : Nat} (hl : cols.length ≤ 6) (h : ∀ j, j < cols.length → 0 ≤ cols.getD j 0 ∧ cols.getD j 0 < n) : colsOk cols n = true := by
  simp only [colsOk, Bool.and_eq_true, decide_eq_true_eq, List.all_eq_true, colIn]
  refine ⟨hl, fun x hx => ?_⟩
  obtain ⟨k, hk, rfl⟩ := List.getElem_of_mem hx
  simpa [List.getD, hk] using h k hk
theorem colsOk_at {cols : List Int} {n : Nat} (h : colsOk cols n = true) (k : Nat) (hk : k < cols.length) : 0 ≤ cols.getD k 0 ∧ cols.getD k 0 < n := by
  simp only [colsOk, Bool.and_eq_true, decide_eq_true_eq, List.all_eq_true, colIn] at h
  have := h.2 (cols[k]) (List.getElem_mem hk)
  simpa [List.getD, hk] using this
theorem colsOk_long {cols : List Int} {n : Nat} (h : 6 < cols.length) : colsOk cols n = false := by simp [colsOk]; omega
theorem colsOk_len {cols : List Int} {n : Nat} (h : colsOk cols n = true) : cols.length ≤ 6 := by
  simp only [colsOk, Bool.and_eq_true, decide_eq_true_eq] at h; exact h.1
theorem not_colsOk {cols : List Int} {n : Nat} (k : Nat) (hk : k < cols.length) (h : cols.getD k 0 < 0 ∨ (n : Int) ≤ cols.getD k 0) : colsOk cols n = false := by
  cases hg : colsOk cols n with
  | false => rfl
  | true => have := colsOk_at hg k hk; omega
theorem pick_succ (zs cols : List Int) (k : Nat) (h : k < cols.length) : pick zs (cols.take (k + 1)) = pick zs (cols.take k) ++ [zs.getD (cols.getD k 0).toNat 0] := by
  unfold pick
  rw [take_snocD cols k h, List.map_append]; rfl
theorem pick_length (zs cols : List Int) (k : Nat) (h : k ≤ cols.length) : (pick zs (cols.take k)).length = k := by simp [pick]; omega
theorem pickZ_small (zs cols : List Int) : (pickZ zs cols).length ≤ 6 := by
  unfold pickZ
  split
  · rename_i h
    simp only [pickOk, Bool.and_eq_true] at h
    have := colsOk_len h.2
    simpa [pick] using this
  · simp

end Go.Proofs.Ytmkhdocjabflkaa

/- Contracts of impl.PickCells, spec.l1Columns, spec.l1Pick, spec.PickCells. -/
namespace Go.Proofs.Ytmkhdocjabflkaa
open Go.RowKit

set_option maxRecDepth 100000 in
set_option maxHeartbeats 4000000 in
theorem implPickCells (a a' : Option Addr) (n n' c c' : Nat) (zs cols : List Int) (w : World) (hz : zs.length = n) (hz' : cols.length = n') (hn : n ≤ 9223372036854775807) (hn' : n' ≤ 9223372036854775807) (ha : At w a zs) (ha' : At w a' cols) :
    Calls Try.prog 117 #[.agg #[.slice a n c], .slice a' n' c'] w fun e w' => ∃ r m d, e = .returned (.tuple #[.agg #[.slice r m d], .bool (pickOk zs cols)]) ∧
      (pickZ zs cols).length = m ∧ w'.ownsRow w.heap.size 3 1 (.slice r m d) m ((pickZ zs cols).map (.int .i64)) ∧ Below w.heap.size w w' := by
  obtain ⟨W, hW⟩ : ∃ W, W = (w.alloc (.cells #[.slice a n c] 88)).alloc (.cells #[.slice none 0 0] 88) := ⟨_, rfl⟩
  have B : Below w.heap.size w W := by rw [hW]; exact ((Below.refl _ _).alloc (Nat.le_refl _) _).alloc (by simp) _
  have HA : At W a zs := ha.below B
  have c1 : W.cell? ⟨w.heap.size, 0, none⟩ = some (.slice a n c) := by rw [hW]; simp
  have c2 : W.cell? ⟨w.heap.size + 1, 0, none⟩ = some (.slice none 0 0) := by rw [hW]; simp
  have f2 : W.frozen? ⟨w.heap.size + 1, 0, none⟩ = false := by rw [hW]; simp
  have no : pickOk zs cols = false → ∀ w2, Below w.heap.size w w2 → ∃ r m d, Ending.returned (.tuple #[.agg #[.slice none 0 0], .bool false]) = .returned (.tuple #[.agg #[.slice r m d], .bool (pickOk zs cols)]) ∧
      (pickZ zs cols).length = m ∧ w2.ownsRow w.heap.size 3 1 (.slice r m d) m ((pickZ zs cols).map (.int .i64)) ∧ Below w.heap.size w w2 := fun h w2 hb =>
    ⟨none, 0, 0, by rw [h], by simp [pickZ, h], by simp only [pickZ, h]; exact World.ownsRow_nil _ _ _ _, hb⟩
  have NO := Hid.mk no
  clear no
  cases hg : good zs with
  | false =>
    have HG := Hid.mk hg
    have HP : Hid (pickOk zs cols = false) := by simp [Hid, pickOk, hg]
    clear hg ha ha'
    go_enter Try.func117, Try.ntmps117
    go_wp2_with fail
    rw [← hW]
    refine (implGoodRow_any _ _ _ zs _ hz hn HA).mono ?_
    rintro e w1 ⟨rfl, hb1⟩
    rw [HG.out]
    have d2 := cell_later hb1 c2
    have e2 := frozen_later hb1 c2 f2
    clear hW
    go_wp2
    refine bodyPost_ret (v := .tuple #[.agg #[.slice none 0 0], .bool false]) (by simp [results, Try.results117, go_sem, d2]) rfl (NO.out HP.out _ ?_)
    exact (B.trans (hb1.mono B.size)).setCell (by simp) _
  | true =>
    have HG := Hid.mk hg
    by_cases h6 : n' ≤ 6
    · have HA' : At W a' cols := ha'.below B
      obtain ⟨i0, hi, hz0, hz1, hz2⟩ := info_parts Try.infoInt
      clear ha ha'
      go_enter Try.func117, Try.ntmps117
      go_wp2_with fail
      rw [← hW]
      refine (implGoodRow_any _ _ _ zs _ hz hn HA).mono ?_
      rintro e w1 ⟨rfl, hb1⟩
      rw [HG.out]
      have d1 := cell_later hb1 c1
      have d2 := cell_later hb1 c2
      have e2 := frozen_later hb1 c2 f2
      have A1 := HA.below hb1
      have A2 := HA'.below hb1
      have B1 := B.trans (hb1.mono B.size)
      have z1 : w.heap.size + 1 < w1.heap.size := World.block_lt_of_cell? _ _ d2
      clear hW hb1 c1 c2 f2 HA HA' B
      have V0 : RowVar (w1.alloc (.cells #[.slice none 0 0] 88)) w1.heap.size 88 (w1.heap.size + 1) 3 none 0 0 (pick zs (cols.take 0)) := RowVar.new rfl (by omega)
      go_wp2
      go_loopw [20] (fun i wr => ∃ (k : Nat) (r : Option Addr) (d : Nat), k ≤ n' ∧ i = .int .i64 k ∧ (∀ j, j < k → 0 ≤ cols.getD j 0 ∧ cols.getD j 0 < zs.length) ∧ RowVar wr w1.heap.size 88 (w1.heap.size + 1) 3 r k d (pick zs (cols.take k)) ∧ Below w1.heap.size w1 wr) (fun i _ => n' - (intOf i).toNat)
      case atStart => exact ⟨0, none, 0, Nat.zero_le _, rfl, fun j hj => by omega, V0, (Below.refl _ _).alloc (Nat.le_refl _) _⟩
      case round =>
        clear V0
        obtain ⟨k, r, d, hk, rfl, hall, hv, hbw⟩ := hrel
        have g1 := cell_later hbw d1
        have g2 := cell_later hbw d2
        have g3 := frozen_later hbw d2 e2
        have BW := B1.trans (hbw.mono B1.size)
        have z2 := hbw.size
        by_cases hlt : k < n'
        · obtain ⟨b', off', rfl, hb', hc'⟩ := (A2.below hbw).some (by omega)
          have hcx := hc' k (by omega)
          have HNo := Hid.mk (not_colsOk (cols := cols) (n := zs.length) k (by omega))
          have HS := Hid.mk (pick_succ zs cols k (by omega))
          have HAll := Hid.mk hall
          clear hc' hall
          by_cases hin : 0 ≤ cols.getD k 0 ∧ cols.getD k 0 < n
          · obtain ⟨hx0, hx1⟩ := hin
            have HX : Hid (0 ≤ cols.getD k 0 ∧ cols.getD k 0 < zs.length) := ⟨hx0, by omega⟩
            obtain ⟨j, hj⟩ := Int.eq_ofNat_of_zero_le hx0
            rw [hj] at hcx hx1 HS
            have HJ := Hid.mk hj
            have hjn : j < n := by omega
            obtain ⟨b, off, rfl, hb, hc⟩ := (A1.below hbw).some (by omega)
            have hcj := hc j (by omega)
            clear hc hj
            obtain ⟨y, hy⟩ : ∃ y, y = zs.getD ((j : Int)).toNat 0 := ⟨_, rfl⟩
            rw [← hy] at HS
            rw [show zs.getD j 0 = y by rw [hy]; rfl] at hcj
            clear hy
            have hcr := hv.cell
            have hfr := hv.frozen
            have zR : w1.heap.size < wr.heap.size := World.block_lt_of_cell? _ _ hcr
            have zb : b < wr.heap.size := World.block_lt_of_cell? _ _ hcj
            have HO := Hid.mk (hv.own.alloc (.cells #[.int .i64 y] 3)).drew
            have HN := Hid.mk (news_at wr #[.int .i64 y] 3)
            go_wp2
            go_region_law (refine step_append_lies _ rfl (.tmp 35) (.tmp 41) 86 rfl (w1.heap.size + 1) 3 i0 (.int .i64 0) 1 8 Try.underlying86 hi hz0 hz1 hz2 rfl (by decide) (.slice r k d) k _ (by simp [Act.eval]) HO.out ⟨wr.heap.size, 0, none⟩ 1 1 [.int .i64 y] (by simp [Act.eval]) rfl HN.out (by simp; rfl) (by decide) (by unfold maxLen; omega) (by omega) (by simp; omega) (wr.heap.size + 1) (by simp) ?_; intro g cap w2 hown1 hgrow' _ _; have hgrow := grown_undrew hgrow'; obtain ⟨t1, t2, hv1⟩ := hv.pushed hown1 hgrow)
            all_goals
              have HB := Hid.mk (hv.pushed_below (v := .slice (some ⟨g, 0, none⟩) (k + 1) cap) hgrow hbw (Nat.le_refl _))
              rw [← HS.out] at hv1
              have HV := Hid.mk hv1
              clear hv1 hown1 hgrow hgrow' hv hbw HO HN t1 t2 hcr hfr hcj hcx
              go_wp2
              go_roundw
              case rel =>
                refine ⟨k + 1, _, _, by omega, by go_num, fun j' hj' => ?_, HV.out, HB.out⟩
                by_cases e : j' = k
                · subst e; exact HX.out
                · exact HAll.out j' (by omega)
              case measure => simp [intOf]; omega
          · obtain ⟨x, hx⟩ : ∃ x, x = cols.getD k 0 := ⟨_, rfl⟩
            have HP : Hid (pickOk zs cols = false) := by
              have hno : colsOk cols zs.length = false := HNo.out (by omega)
              simp [Hid, pickOk, hno]
            rw [← hx] at hcx hin
            clear hx HS HNo HAll
            by_cases hneg : x < 0
            · go_wp2
              refine bodyPost_ret (v := .tuple #[.agg #[.slice none 0 0], .bool false]) (by simp [results, Try.results117, go_sem, g2]) rfl (NO.out HP.out _ ?_)
              exact BW.setCell (by simp) _
            · have hge : (n : Int) ≤ x := by omega
              go_wp2
              refine bodyPost_ret (v := .tuple #[.agg #[.slice none 0 0], .bool false]) (by simp [results, Try.results117, go_sem, g2]) rfl (NO.out HP.out _ ?_)
              exact BW.setCell (by simp) _
        · obtain rfl : k = n' := by omega
          have hok : pickOk zs cols = true := by
            have := colsOk_of (cols := cols) (n := zs.length) (by omega) (fun j hj => hall j (by omega))
            simp [pickOk, hg, this]
          have hpz : pick zs (cols.take k) = pickZ zs cols := by rw [← hz', List.take_length]; simp [pickZ, hok]
          rw [hpz] at hv
          have HP := Hid.mk hok
          have hcr := hv.cell
          clear hall hpz hok hg
          go_wp2
          refine bodyPost_ret (v := .tuple #[.agg #[.slice r k d], .bool true]) (by simp [results, Try.results117, go_sem, g2]) rfl ⟨r, k, d, by rw [HP.out], hv.1, ?_, ?_⟩
          · exact owns_mono (ownsRow_setCell_below hv.own (by simp; omega) _) (by omega)
          · exact BW.setCell (by simp) _
    · have HP : Hid (pickOk zs cols = false) := by simp [Hid, pickOk, colsOk_long (n := zs.length) (show 6 < cols.length by omega)]
      clear hg ha ha'
      go_enter Try.func117, Try.ntmps117
      go_wp2_with fail
      rw [← hW]
      refine (implGoodRow_any _ _ _ zs _ hz hn HA).mono ?_
      rintro e w1 ⟨rfl, hb1⟩
      rw [HG.out]
      have d2 := cell_later hb1 c2
      have e2 := frozen_later hb1 c2 f2
      clear hW
      go_wp2
      refine bodyPost_ret (v := .tuple #[.agg #[.slice none 0 0], .bool false]) (by simp [results, Try.results117, go_sem, d2]) rfl (NO.out HP.out _ ?_)
      exact (B.trans (hb1.mono B.size)).setCell (by simp) _

end Go.Proofs.Ytmkhdocjabflkaa

/- Contracts of the laws' helpers over slices of slices of ints: szIntSS, toIntSS, eqIntSS, markIntSS. -/
namespace Go.Proofs.Ytmkhdocjabflkaa
open Go.RowKit

theorem Try.infoInts : (Try.prog.info? 86).map (fun i => (i.zero, i.size, i.bytes)) = some (some (.slice none 0 0), 1, 24) := by kernel_rfl

set_option maxHeartbeats 1000000 in
theorem szIntSS_any (a : Option Addr) (n c : Nat) (zss : List (List Int)) (l : Int) (w : World) (hz : zss.length = n) (hn : n ≤ 9223372036854775807) (h0 : 0 ≤ l) (h1 : l ≤ 1048576) (ha : AtS w a zss) :
    Calls Try.prog 33 #[.slice a n c, .int .i64 l] w fun e w' => e = .returned (.int .i64 (leftOf l (n + tot zss n))) ∧ w' = w := by
  by_cases hb : l < n
  · have h' : l - (n : Int) < 0 := by omega
    go_enter Try.func33, Try.ntmps33
    go_wp2
    go_ret
    exact ⟨ret_int (leftOf_no (by omega)).symm, rfl⟩
  · have h' : ¬ l - (n : Int) < 0 := by omega
    by_cases hn0 : n = 0
    · subst hn0
      have ht : tot zss 0 = 0 := rfl
      go_enter Try.func33, Try.ntmps33
      go_wp2
      refine wp_loop_rounds 1 ?_
      rw [rounds_succ]
      go_wp2
      go_ret
      exact ⟨ret_int (by rw [ht, leftOf_yes (by omega)]; omega), rfl⟩
    · obtain ⟨b, off, rfl, hc⟩ := ha.some (by omega)
      clear ha
      go_enter Try.func33, Try.ntmps33
      go_wp2
      go_loop [1, 5] (fun q i => ∃ (k : Nat) (r : Int), k ≤ n ∧ i = .int .i64 k ∧ q = .int .i64 r ∧ 0 ≤ r ∧ r ≤ 1048576 ∧ r + tot zss k = l - n) (fun _ i => n - (intOf i).toNat)
      case atStart => exact ⟨0, l - n, Nat.zero_le _, rfl, rfl, by omega, by omega, by rw [tot_zero]; omega⟩
      case round =>
        obtain ⟨k, r, hk, rfl, rfl, hr0, hr1, hr⟩ := hrel
        by_cases hlt : k < n
        · obtain ⟨a', c', hcx, hm, hat⟩ := hc k (by omega)
          have hts := tot_succ zss k (by omega)
          have htm := tot_mono zss (k + 1) n (by omega)
          obtain ⟨m, hmm⟩ : ∃ m, m = (zss.getD k []).length := ⟨_, rfl⟩
          rw [← hmm] at hcx hm hts
          have HR := Hid.mk hr
          have HT := Hid.mk hts
          clear hmm hat hc hr hts
          by_cases hfit : r < m
          · go_wp2_with (go_at_call 85; refine (szIntS_any _ _ _ _ _ hm hr0 hr1).mono ?_; rintro e w' ⟨rfl, rfl⟩; rw [if_pos hfit])
            go_ret
            exact ⟨ret_int (leftOf_no (by have := HR.out; have := HT.out; omega)).symm, rfl⟩
          · have hd : ¬ r - (m : Int) < 0 := by omega
            go_wp2_with (go_at_call 85; refine (szIntS_any _ _ _ _ _ hm hr0 hr1).mono ?_; rintro e w' ⟨rfl, rfl⟩; rw [if_neg (by omega)])
            go_round
            case rel => exact ⟨k + 1, r - m, by omega, by go_num, rfl, by omega, by omega, by have := HR.out; have := HT.out; omega⟩
            case measure => simp [intOf]; omega
        · obtain rfl : k = n := by omega
          have HR := Hid.mk hr
          clear hr hc
          go_wp2
          go_ret
          exact ⟨ret_int (by have := HR.out; rw [leftOf_yes (by omega)]; omega), rfl⟩

theorem rows_store {w : World} {e : TypeId} {vs : List Value} {zss : List (List Int)} {k : Nat} {L : Nat → Nat} (h : RowsOwned w e vs zss k L) (hL : ∀ i, i < k → L 0 ≤ L i) {g j : Nat} (hg : g < L 0) (v : Value) (hj : k ≤ j) :
    RowsOwned (w.setCell ⟨g, j, none⟩ v) e (vs.set j v) zss k L := fun i hi => by
  obtain ⟨a, c, h1, h2, h3⟩ := h i hi
  refine ⟨a, c, ?_, ownsRow_setCell_below h2 (by have := hL i hi; simp; omega) _, h3⟩
  rw [List.getElem?_set_ne (by omega)]; exact h1

set_option maxHeartbeats 2000000 in
theorem toIntSS_any (a : Option Addr) (n c : Nat) (zss : List (List Int)) (w : World) (hz : zss.length = n) (hn : n ≤ 1048576) (hs : ∀ i, i < zss.length → (zss.getD i []).length ≤ 1048576) (ha : AtS w a zss) :
    Calls Try.prog 35 #[.slice a n c] w fun e w' => e = .returned (.slice (some ⟨w.heap.size, 0, none⟩) n n) ∧ OwnS w' w.heap.size w'.heap.size 86 3 w.heap.size n zss ∧ Below w.heap.size w w' := by
  obtain ⟨i0, hi, hz0, hz1, hz2⟩ := info_parts Try.infoInts
  go_enter Try.func35, Try.ntmps35
  go_wp2_with (at_make; refine wpList_make_full _ rfl _ _ 26 rfl w.heap.size 86 i0 (.slice none 0 0) 1 Try.underlying26 hi hz0 hz1 .i64 .i64 _ _ n rfl rfl rfl rfl (by rw [hz2]; omega) (by unfold maxLen; omega) (Nat.le_refl _) ?_; intro w1 hown hg)
  have hb1 : Below w.heap.size w w1 := (Below.refl _ _).grown hg (Nat.le_refl _) (by simp)
  obtain ⟨vs, hv0, hv1, zg⟩ : ∃ vs : List Value, vs.length = n ∧ w1.heap[w.heap.size]? = some (.cells vs.toArray 86 (0, 0)) ∧ w.heap.size < w1.heap.size := by
    rcases hown.2 with ⟨h', _⟩ | ⟨g', cap', cur, h', _, hg', _, _, hcs, _⟩
    · simp at h'
    · simp only [Value.slice.injEq, Option.some.injEq, Addr.mk.injEq, and_true, true_and] at h'
      obtain ⟨rfl, rfl⟩ := h'
      exact ⟨cur.toList, by simpa using hcs, by simpa using hg', (Array.getElem?_eq_some_iff.1 hg').1⟩
  clear hown hg
  go_loopw [4] (fun i wr => ∃ (k : Nat) (vs : List Value) (L : Nat → Nat), k ≤ n ∧ i = .int .i64 k ∧ vs.length = n ∧ wr.heap[w.heap.size]? = some (.cells vs.toArray 86 (0, 0)) ∧ w.heap.size < L 0 ∧ (∀ i, i < k → L i ≤ L (i + 1)) ∧ L k ≤ wr.heap.size ∧ RowsOwned wr 3 vs zss k L ∧ Below w.heap.size w wr) (fun i _ => n - (intOf i).toNat)
  case atStart => exact ⟨0, vs, fun _ => w.heap.size + 1, Nat.zero_le _, rfl, hv0, hv1, by simp, fun _ h => by omega, by simp; omega, fun i hi => by omega, hb1⟩
  case round =>
    clear hv0 hv1 hb1 zg vs
    obtain ⟨k, vs, L, hk, rfl, hv0, hv1, hL0, hLm, hLk, hrow, hbw⟩ := hrel
    by_cases hlt : k < n
    · obtain ⟨b, off, rfl, hc⟩ := (ha.below hbw).some (by omega)
      obtain ⟨a', c', hcx, _, hat⟩ := hc k (by omega)
      have hsm := hs k (by omega)
      have zg : w.heap.size < wr.heap.size := (Array.getElem?_eq_some_iff.1 hv1).1
      have hki : (k : Int) < (n : Int) := by omega
      obtain ⟨ys, hys⟩ : ∃ ys, ys = zss.getD k [] := ⟨_, rfl⟩
      obtain ⟨m, hm⟩ : ∃ m, ys.length = m := ⟨_, rfl⟩
      rw [← hys, hm] at hcx hsm
      rw [← hys] at hat
      have HYS := Hid.mk hys
      have HM := Hid.mk hm
      clear hys hm hc
      go_wp2_with fail
      refine (toIntS_any a' _ c' ys _ HM.out hsm hat).mono ?_
      rintro e w2 ⟨rfl, ho2, hb2⟩
      have hv2 : w2.heap[w.heap.size]? = some (.cells vs.toArray 86 (0, 0)) := (hb2.block _ zg).trans hv1
      have hrow2 := hrow.below hb2
      obtain ⟨u, hu⟩ : ∃ u, vs[k]? = some u := ⟨_, List.getElem?_eq_getElem (by omega)⟩
      have hco : w2.cell? ⟨w.heap.size, k, none⟩ = some u := by rw [cell_of_row w2 _ k _ _ (0, 0) hv2]; simpa using hu
      have hfo : w2.frozen? ⟨w.heap.size, k, none⟩ = false := frozen_of_row w2 _ k _ _ hv2
      have hmono := mono_le (n := k) (L := L) (fun i hi => hLm i hi)
      have z2 := hb2.size
      obtain ⟨V, hV⟩ : ∃ V, V = Value.slice (some ⟨wr.heap.size, 0, none⟩) m m := ⟨_, rfl⟩
      have R : RowsOwned (w2.setCell ⟨w.heap.size, k, none⟩ V) 3 (vs.set k V) zss (k + 1) (fun i => if i ≤ k then L i else w2.heap.size) := by
        intro i hi
        by_cases e : i < k
        · obtain ⟨a1, c1, h1, h2, h3⟩ := rows_store hrow2 (fun i hi => hmono 0 i (by omega) (by omega)) hL0 V (Nat.le_refl k) i e
          refine ⟨a1, c1, h1, ?_, ?_⟩
          · simpa [show i ≤ k by omega] using h2
          · simpa [show i + 1 ≤ k by omega] using h3
        · obtain rfl : i = k := by omega
          rw [← HYS.out, HM.out]
          refine ⟨some ⟨wr.heap.size, 0, none⟩, m, ?_, ?_, ?_⟩
          · rw [List.getElem?_set_self (by omega), hV]
          · simp only [Nat.le_refl, if_true]
            exact ownsRow_setCell_below (owns_mono ho2 hLk) (by have := hmono 0 i (by omega) (Nat.le_refl _); simp; omega) _
          · intro b' hb'
            have := (ho2.lt b' hb').2
            show b' < if i + 1 ≤ i then L (i + 1) else w2.heap.size
            rw [if_neg (by omega)]; exact this
      have HR := Hid.mk R
      have HV : Hid ((w2.setCell ⟨w.heap.size, k, none⟩ V).heap[w.heap.size]? = some (.cells (vs.set k V).toArray 86 (0, 0))) := by
        show _ = _
        rw [heap_setCell_same w2 _ k _ _ V hv2]; simp
      have HB : Hid (Below w.heap.size w (w2.setCell ⟨w.heap.size, k, none⟩ V)) := (hbw.trans (hb2.mono hbw.size)).setCell (Nat.le_refl _) _
      have HL := Hid.mk hLm
      have HK := Hid.mk hLk
      clear R hrow hrow2 ho2 hb2 hbw hv1 hv2 hmono hu hat hLm hLk
      subst hV
      clear hcx
      go_wp2
      go_roundw
      case rel =>
        refine ⟨k + 1, _, _, by omega, by go_num, by simpa using hv0, HV.out, by simpa using hL0, fun i hi => ?_, ?_, HR.out, HB.out⟩
        · have := HK.out
          by_cases e : i + 1 ≤ k
          · simpa [show i ≤ k by omega, e] using HL.out i (by omega)
          · obtain rfl : i = k := by omega
            show (if i ≤ i then L i else w2.heap.size) ≤ (if i + 1 ≤ i then L (i + 1) else w2.heap.size)
            rw [if_pos (Nat.le_refl _), if_neg (by omega)]; omega
        · show (if k + 1 ≤ k then L (k + 1) else w2.heap.size) ≤ _
          rw [if_neg (by omega)]; simp [World.setCell]
      case measure => simp [intOf]; omega
    · obtain rfl : k = n := by omega
      go_wp2
      go_ret
      exact ⟨rfl, ⟨vs, L, hz, hv0, Nat.le_refl _, hL0, hLm, hLk, Nat.le_refl _, hv1, hrow⟩, hbw⟩

theorem listNe_getD {zss zss' : List (List Int)} {k : Nat} (h : zss.getD k [] ≠ zss'.getD k []) : zss ≠ zss' := fun e => h (by rw [e])
theorem takeS_succ (zss : List (List Int)) (k : Nat) (h : k < zss.length) : zss.take (k + 1) = zss.take k ++ [zss.getD k []] := by
  rw [List.take_succ_eq_append_getElem h]; simp [List.getD, h]

set_option maxHeartbeats 2000000 in
theorem eqIntSS_any (a a' : Option Addr) (n n' c c' : Nat) (zss zss' : List (List Int)) (w : World) (hz : zss.length = n) (hz' : zss'.length = n') (hn : n ≤ 1048576) (hn' : n' ≤ 1048576)
    (hs : ∀ i, i < zss.length → (zss.getD i []).length ≤ 1048576) (hs' : ∀ i, i < zss'.length → (zss'.getD i []).length ≤ 1048576) (ha : AtS w a zss) (ha' : AtS w a' zss') :
    Calls Try.prog 37 #[.slice a n c, .slice a' n' c'] w fun e w' => e = .returned (.bool (decide (zss = zss'))) ∧ Below w.heap.size w w' := by
  by_cases hnn : n = n'
  · subst hnn
    by_cases h0 : n = 0
    · subst h0
      obtain rfl := List.eq_nil_of_length_eq_zero hz
      obtain rfl := List.eq_nil_of_length_eq_zero hz'
      go_enter Try.func37, Try.ntmps37
      go_wp2
      refine wp_loop_rounds 1 ?_
      rw [rounds_succ]
      go_wp2
      go_ret
      exact ⟨by simp, Below.refl _ _⟩
    · go_enter Try.func37, Try.ntmps37
      go_wp2
      go_loopw [5] (fun i wr => ∃ (k : Nat), k ≤ n ∧ i = .int .i64 k ∧ zss.take k = zss'.take k ∧ Below w.heap.size w wr) (fun i _ => n - (intOf i).toNat)
      case atStart => exact ⟨0, Nat.zero_le _, rfl, rfl, Below.refl _ _⟩
      case round =>
        obtain ⟨k, hk, rfl, ht, hbw⟩ := hrel
        by_cases hlt : k < n
        · obtain ⟨b, off, rfl, hc⟩ := (ha.below hbw).some (by omega)
          obtain ⟨b', off', rfl, hc'⟩ := (ha'.below hbw).some (by omega)
          obtain ⟨q, d, hcx, _, hat⟩ := hc k (by omega)
          obtain ⟨q', d', hcy, _, hat'⟩ := hc' k (by omega)
          have hm := hs k (by omega)
          have hm' := hs' k (by omega)
          have HT : Hid (zss.getD k [] = zss'.getD k [] → zss.take (k + 1) = zss'.take (k + 1)) := fun e => by
            rw [takeS_succ zss k (by omega), takeS_succ zss' k (by omega), ht, e]
          have HN : Hid (zss.getD k [] ≠ zss'.getD k [] → zss ≠ zss') := listNe_getD
          generalize zss.getD k [] = ys at *
          generalize zss'.getD k [] = ys' at *
          obtain ⟨m, hmm⟩ : ∃ m, ys.length = m := ⟨_, rfl⟩
          obtain ⟨m', hmm'⟩ : ∃ m, ys'.length = m := ⟨_, rfl⟩
          rw [hmm] at hcx hm
          rw [hmm'] at hcy hm'
          have HM := Hid.mk hmm
          have HM' := Hid.mk hmm'
          have hki : (k : Int) < (n : Int) := by omega
          clear ht hc hc' hmm hmm' ha ha' hs hs'
          go_wp2_with fail
          have hd : ∀ bl : Bool, decide (ys = ys') = bl → Hid (decide (ys = ys') = bl) := fun _ h => h
          cases hbl : decide (ys = ys') with
          | true =>
            have HD := Hid.mk hbl
            have he : ys = ys' := of_decide_eq_true hbl
            have HE := Hid.mk he
            clear hbl hd he
            go_region_held3 (fun w' => w'.cell? ⟨b, off + k, none⟩ = some (.slice q m d) ∧ w'.cell? ⟨b', off' + k, none⟩ = some (.slice q' m' d')) (refine ⟨?_, ?_⟩ <;> assumption)
              (first | (go_at_call 89; refine (eqIntS_any _ _ _ _ _ _ ys ys' _ HM.out HM'.out hm hm' hat.drew hat'.drew).mono ?_; rintro e w2 ⟨rfl, hb2⟩; rw [HD.out]; have e1 := cell_later hb2 hcx; have e2 := cell_later hb2 hcy))
            go_wp2
            go_roundw
            case rel => exact ⟨k + 1, by omega, by go_num, HT.out HE.out, hbw.drew.trans (hb2.mono hbw.size)⟩
            case measure => simp [intOf]; omega
          | false =>
            have HD := Hid.mk hbl
            have HE := Hid.mk (of_decide_eq_false hbl)
            clear hbl hd
            go_region_held3 (fun w' => w'.cell? ⟨b, off + k, none⟩ = some (.slice q m d) ∧ w'.cell? ⟨b', off' + k, none⟩ = some (.slice q' m' d')) (refine ⟨?_, ?_⟩ <;> assumption)
              (first | (go_at_call 89; refine (eqIntS_any _ _ _ _ _ _ ys ys' _ HM.out HM'.out hm hm' hat.drew hat'.drew).mono ?_; rintro e w2 ⟨rfl, hb2⟩; rw [HD.out]; have e1 := cell_later hb2 hcx; have e2 := cell_later hb2 hcy))
            go_wp2
            go_ret
            exact ⟨ret_bool (decide_eq_false (HN.out HE.out)).symm, hbw.drew.trans (hb2.mono hbw.size)⟩
        · go_wp2
          go_ret
          rw [List.take_of_length_le (by omega), List.take_of_length_le (by omega)] at ht
          exact ⟨ret_bool (decide_eq_true ht).symm, hbw⟩
  · go_enter Try.func37, Try.ntmps37
    go_wp2
    go_ret
    exact ⟨ret_bool (decide_eq_false (fun e => hnn (by rw [← hz, ← hz', e]))).symm, Below.refl _ _⟩

theorem toIntSS_at (a : Option Addr) (n c : Nat) (zss : List (List Int)) (w : World) (hz : zss.length = n) (hn : n ≤ 1048576) (hs : ∀ i, i < zss.length → (zss.getD i []).length ≤ 1048576) (ha : AtS w a zss) :
    Calls Try.prog 35 #[.slice a n c] w fun e w' => ∃ g, e = .returned (.slice (some ⟨g, 0, none⟩) n n) ∧ OwnS w' w.heap.size w'.heap.size 86 3 g n zss ∧ Below w.heap.size w w' :=
  (toIntSS_any a n c zss w hz hn hs ha).mono fun _ _ ⟨h1, h2, h3⟩ => ⟨_, h1, h2, h3⟩
theorem szIntSS_at (a : Option Addr) (n c : Nat) (zss : List (List Int)) (l : Int) (w : World) (hz : zss.length = n) (hn : n ≤ 9223372036854775807) (h0 : 0 ≤ l) (h1 : l ≤ 1048576) (ha : AtS w a zss) :
    Calls Try.prog 33 #[.slice a n c, .int .i64 l] w fun e w' => e = .returned (.int .i64 (leftOf l (n + tot zss n))) ∧ Below w.heap.size w w' :=
  (szIntSS_any a n c zss l w hz hn h0 h1 ha).mono fun _ _ ⟨h1, h2⟩ => ⟨h1, h2 ▸ Below.refl _ _⟩
theorem tot_each (zss : List (List Int)) (n : Nat) (hn : zss.length = n) (i : Nat) (hi : i < zss.length) : (zss.getD i []).length ≤ tot zss n := by
  have h1 := tot_succ zss i hi
  have h2 := tot_mono zss (i + 1) n (by omega)
  omega

end Go.Proofs.Ytmkhdocjabflkaa
