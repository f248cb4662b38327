/- Several texts of one proof, in build order: Pick, PickR, PickS, SortA. -/
import Derived.Test.YtpnaoahlfhbbmaaM5
import Derived.Test.YtpnaoahlfhbbmaaM13
import Derived.Deep.AppendLies
import Derived.Deep.RegionLaw
import Derived.Test.YtpnaoahlfhbbmaaM7
import Derived.Test.YtpnaoahlfhbbmaaM6
import Derived.Test.YtpnaoahlfhbbmaaM4
import Derived.Shelf.SlSortCmp.InsertionK

/- Contracts of impl.PickCells, spec.l1Columns, spec.l1Pick, spec.PickCells. -/
namespace Go.Proofs.Ytpnaoahlfhbbmaa
open Go.RowKit

set_option maxRecDepth 100000 in
set_option maxHeartbeats 4000000 in
theorem implPickCells (a a' : Option Addr) (n n' c c' : Nat) (zs cols : List Int) (w : World) (hz : zs.length = n) (hz' : cols.length = n') (hn : n ≤ 9223372036854775807) (hn' : n' ≤ 9223372036854775807) (ha : At w a zs) (ha' : At w a' cols) :
    Calls Try.prog 66 #[.agg #[.slice a n c], .slice a' n' c'] w fun e w' => ∃ r m d, e = .returned (.tuple #[.agg #[.slice r m d], .bool (pickOk zs cols)]) ∧
      (pickZ zs cols).length = m ∧ w'.ownsRow w.heap.size 3 1 (.slice r m d) m ((pickZ zs cols).map (.int .i64)) ∧ Below w.heap.size w w' := by
  obtain ⟨W, hW⟩ : ∃ W, W = (w.alloc (.cells #[.slice a n c] 69)).alloc (.cells #[.slice none 0 0] 69) := ⟨_, rfl⟩
  have B : Below w.heap.size w W := by rw [hW]; exact ((Below.refl _ _).alloc (Nat.le_refl _) _).alloc (by simp) _
  have HA : At W a zs := ha.below B
  have c1 : W.cell? ⟨w.heap.size, 0, none⟩ = some (.slice a n c) := by rw [hW]; simp
  have c2 : W.cell? ⟨w.heap.size + 1, 0, none⟩ = some (.slice none 0 0) := by rw [hW]; simp
  have f2 : W.frozen? ⟨w.heap.size + 1, 0, none⟩ = false := by rw [hW]; simp
  have no : pickOk zs cols = false → ∀ w2, Below w.heap.size w w2 → ∃ r m d, Ending.returned (.tuple #[.agg #[.slice none 0 0], .bool false]) = .returned (.tuple #[.agg #[.slice r m d], .bool (pickOk zs cols)]) ∧
      (pickZ zs cols).length = m ∧ w2.ownsRow w.heap.size 3 1 (.slice r m d) m ((pickZ zs cols).map (.int .i64)) ∧ Below w.heap.size w w2 := fun h w2 hb =>
    ⟨none, 0, 0, by rw [h], by simp [pickZ, h], by simp only [pickZ, h]; exact World.ownsRow_nil _ _ _ _, hb⟩
  have NO := Hid.mk no
  clear no
  cases hg : good zs with
  | false =>
    have HG := Hid.mk hg
    have HP : Hid (pickOk zs cols = false) := by simp [Hid, pickOk, hg]
    clear hg ha ha'
    go_enter Try.func66, Try.ntmps66
    go_wp2_with fail
    rw [← hW]
    refine (implGoodRow_any _ _ _ zs _ hz hn HA).mono ?_
    rintro e w1 ⟨rfl, hb1⟩
    rw [HG.out]
    have d2 := cell_later hb1 c2
    have e2 := frozen_later hb1 c2 f2
    clear hW
    go_wp2
    refine bodyPost_ret (v := .tuple #[.agg #[.slice none 0 0], .bool false]) (by simp [results, Try.results66, go_sem, d2]) rfl (NO.out HP.out _ ?_)
    exact (B.trans (hb1.mono B.size)).setCell (by simp) _
  | true =>
    have HG := Hid.mk hg
    by_cases h6 : n' ≤ 6
    · have HA' : At W a' cols := ha'.below B
      obtain ⟨i0, hi, hz0, hz1, hz2⟩ := info_parts Try.infoInt
      clear ha ha'
      go_enter Try.func66, Try.ntmps66
      go_wp2_with fail
      rw [← hW]
      refine (implGoodRow_any _ _ _ zs _ hz hn HA).mono ?_
      rintro e w1 ⟨rfl, hb1⟩
      rw [HG.out]
      have d1 := cell_later hb1 c1
      have d2 := cell_later hb1 c2
      have e2 := frozen_later hb1 c2 f2
      have A1 := HA.below hb1
      have A2 := HA'.below hb1
      have B1 := B.trans (hb1.mono B.size)
      have z1 : w.heap.size + 1 < w1.heap.size := World.block_lt_of_cell? _ _ d2
      clear hW hb1 c1 c2 f2 HA HA' B
      have V0 : RowVar (w1.alloc (.cells #[.slice none 0 0] 69)) w1.heap.size 69 (w1.heap.size + 1) 3 none 0 0 (pick zs (cols.take 0)) := RowVar.new rfl (by omega)
      go_wp2
      go_loopw [20] (fun i wr => ∃ (k : Nat) (r : Option Addr) (d : Nat), k ≤ n' ∧ i = .int .i64 k ∧ (∀ j, j < k → 0 ≤ cols.getD j 0 ∧ cols.getD j 0 < zs.length) ∧ RowVar wr w1.heap.size 69 (w1.heap.size + 1) 3 r k d (pick zs (cols.take k)) ∧ Below w1.heap.size w1 wr) (fun i _ => n' - (intOf i).toNat)
      case atStart => exact ⟨0, none, 0, Nat.zero_le _, rfl, fun j hj => by omega, V0, (Below.refl _ _).alloc (Nat.le_refl _) _⟩
      case round =>
        clear V0
        obtain ⟨k, r, d, hk, rfl, hall, hv, hbw⟩ := hrel
        have g1 := cell_later hbw d1
        have g2 := cell_later hbw d2
        have g3 := frozen_later hbw d2 e2
        have BW := B1.trans (hbw.mono B1.size)
        have z2 := hbw.size
        by_cases hlt : k < n'
        · obtain ⟨b', off', rfl, hb', hc'⟩ := (A2.below hbw).some (by omega)
          have hcx := hc' k (by omega)
          have HNo := Hid.mk (not_colsOk (cols := cols) (n := zs.length) k (by omega))
          have HS := Hid.mk (pick_succ zs cols k (by omega))
          have HAll := Hid.mk hall
          clear hc' hall
          by_cases hin : 0 ≤ cols.getD k 0 ∧ cols.getD k 0 < n
          · obtain ⟨hx0, hx1⟩ := hin
            have HX : Hid (0 ≤ cols.getD k 0 ∧ cols.getD k 0 < zs.length) := ⟨hx0, by omega⟩
            obtain ⟨j, hj⟩ := Int.eq_ofNat_of_zero_le hx0
            rw [hj] at hcx hx1 HS
            have HJ := Hid.mk hj
            have hjn : j < n := by omega
            obtain ⟨b, off, rfl, hb, hc⟩ := (A1.below hbw).some (by omega)
            have hcj := hc j (by omega)
            clear hc hj
            obtain ⟨y, hy⟩ : ∃ y, y = zs.getD ((j : Int)).toNat 0 := ⟨_, rfl⟩
            rw [← hy] at HS
            rw [show zs.getD j 0 = y by rw [hy]; rfl] at hcj
            clear hy
            have hcr := hv.cell
            have hfr := hv.frozen
            have zR : w1.heap.size < wr.heap.size := World.block_lt_of_cell? _ _ hcr
            have zb : b < wr.heap.size := World.block_lt_of_cell? _ _ hcj
            have HO := Hid.mk (hv.own.alloc (.cells #[.int .i64 y] 3)).drew
            have HN := Hid.mk (news_at wr #[.int .i64 y] 3)
            go_wp2
            go_region_law (refine step_append_lies _ rfl (.tmp 35) (.tmp 41) 44 rfl (w1.heap.size + 1) 3 i0 (.int .i64 0) 1 8 Try.underlying44 hi hz0 hz1 hz2 rfl (by decide) (.slice r k d) k _ (by simp [Act.eval]) HO.out ⟨wr.heap.size, 0, none⟩ 1 1 [.int .i64 y] (by simp [Act.eval]) rfl HN.out (by simp; rfl) (by decide) (by unfold maxLen; omega) (by omega) (by simp; omega) (wr.heap.size + 1) (by simp) ?_; intro g cap w2 hown1 hgrow' _ _; have hgrow := grown_undrew hgrow'; obtain ⟨t1, t2, hv1⟩ := hv.pushed hown1 hgrow)
            all_goals
              have HB := Hid.mk (hv.pushed_below (v := .slice (some ⟨g, 0, none⟩) (k + 1) cap) hgrow hbw (Nat.le_refl _))
              rw [← HS.out] at hv1
              have HV := Hid.mk hv1
              clear hv1 hown1 hgrow hgrow' hv hbw HO HN t1 t2 hcr hfr hcj hcx
              go_wp2
              go_roundw
              case rel =>
                refine ⟨k + 1, _, _, by omega, by go_num, fun j' hj' => ?_, HV.out, HB.out⟩
                by_cases e : j' = k
                · subst e; exact HX.out
                · exact HAll.out j' (by omega)
              case measure => simp [intOf]; omega
          · obtain ⟨x, hx⟩ : ∃ x, x = cols.getD k 0 := ⟨_, rfl⟩
            have HP : Hid (pickOk zs cols = false) := by
              have hno : colsOk cols zs.length = false := HNo.out (by omega)
              simp [Hid, pickOk, hno]
            rw [← hx] at hcx hin
            clear hx HS HNo HAll
            by_cases hneg : x < 0
            · go_wp2
              refine bodyPost_ret (v := .tuple #[.agg #[.slice none 0 0], .bool false]) (by simp [results, Try.results66, go_sem, g2]) rfl (NO.out HP.out _ ?_)
              exact BW.setCell (by simp) _
            · have hge : (n : Int) ≤ x := by omega
              go_wp2
              refine bodyPost_ret (v := .tuple #[.agg #[.slice none 0 0], .bool false]) (by simp [results, Try.results66, go_sem, g2]) rfl (NO.out HP.out _ ?_)
              exact BW.setCell (by simp) _
        · obtain rfl : k = n' := by omega
          have hok : pickOk zs cols = true := by
            have := colsOk_of (cols := cols) (n := zs.length) (by omega) (fun j hj => hall j (by omega))
            simp [pickOk, hg, this]
          have hpz : pick zs (cols.take k) = pickZ zs cols := by rw [← hz', List.take_length]; simp [pickZ, hok]
          rw [hpz] at hv
          have HP := Hid.mk hok
          have hcr := hv.cell
          clear hall hpz hok hg
          go_wp2
          refine bodyPost_ret (v := .tuple #[.agg #[.slice r k d], .bool true]) (by simp [results, Try.results66, go_sem, g2]) rfl ⟨r, k, d, by rw [HP.out], hv.1, ?_, ?_⟩
          · exact owns_mono (ownsRow_setCell_below hv.own (by simp; omega) _) (by omega)
          · exact BW.setCell (by simp) _
    · have HP : Hid (pickOk zs cols = false) := by simp [Hid, pickOk, colsOk_long (n := zs.length) (show 6 < cols.length by omega)]
      clear hg ha ha'
      go_enter Try.func66, Try.ntmps66
      go_wp2_with fail
      rw [← hW]
      refine (implGoodRow_any _ _ _ zs _ hz hn HA).mono ?_
      rintro e w1 ⟨rfl, hb1⟩
      rw [HG.out]
      have d2 := cell_later hb1 c2
      have e2 := frozen_later hb1 c2 f2
      clear hW
      go_wp2
      refine bodyPost_ret (v := .tuple #[.agg #[.slice none 0 0], .bool false]) (by simp [results, Try.results66, go_sem, d2]) rfl (NO.out HP.out _ ?_)
      exact (B.trans (hb1.mono B.size)).setCell (by simp) _

end Go.Proofs.Ytpnaoahlfhbbmaa

/- Contracts of impl.pickedRows, of the function that it hands back, (impl.noughts: Nought). -/
namespace Go.Proofs.Ytpnaoahlfhbbmaa
open Go.RowKit Go.Shelf

attribute [local go_sem] Oper.semAt_some

def pickG (cols : List Int) (t : WRow) : Option WRow := some (pick t.1 cols, t.2)

theorem pickedRows_any (gf : Nat) (lb : Array Value) (a : Option Addr) (n c : Nat) (w : World) :
    Calls Try.prog 69 #[.func (.func gf) #[] lb, .slice a n c] w fun e w' => e = .returned (.func (.func 74) #[] #[.pointer (some ⟨w.heap.size, 0, none⟩), .pointer (some ⟨w.heap.size + 1, 0, none⟩)]) ∧ w' = (w.alloc (.cells #[.func (.func gf) #[] lb] 94)).alloc (.cells #[.slice a n c] 44) := by
  go_enter Try.func69, Try.ntmps69
  go_wp2
  go_ret
  exact ⟨rfl, rfl⟩

set_option maxRecDepth 100000 in
set_option maxHeartbeats 4000000 in
theorem pickedRows1_hands (T C gf : Nat) (lb : Array Value) (xs : List WRow) (a' : Option Addr) (n' c' : Nat) (cols : List Int) (w : World) (hT : w.cell? ⟨T, 0, none⟩ = some (.func (.func gf) #[] lb)) (hC : w.cell? ⟨C, 0, none⟩ = some (.slice a' n' c'))
    (eg : ∀ args w, (callFunc gf args).run Try.prog w = .ok (.enter gf args) w) (hH : Hands Try.prog gf lb xs w) (hz' : cols.length = n') (h6' : n' ≤ 6) (ha' : At w a' cols) (hQ : ∀ k, k < xs.length → pickOk (wat xs k).1 cols = true ∧ (wat xs k).1.length ≤ 6) :
    Hands Try.prog 74 #[.pointer (some ⟨T, 0, none⟩), .pointer (some ⟨C, 0, none⟩)] (xs.filterMap (pickG cols)) w := by
  intro n₀ l J W h1 h2 hb hJ hY h0
  refine callsIn_of_wp_marks Try.func74 rfl trivial ?_
  simp only [Try.ntmps74, List.size_toArray, List.length_cons, List.length_nil, Nat.reduceAdd, Nat.reduceSub, Array.replicate_succ, Array.replicate_zero, List.push_toArray, List.append_toArray, List.nil_append, List.cons_append]
  obtain ⟨W0, hW0⟩ : ∃ W0, W0 = W.alloc (.cells #[.func (.yield l) #[] #[]] 102) := ⟨_, rfl⟩
  have hbW : Below W.heap.size W W0 := by rw [hW0]; exact (Below.refl _ _).alloc (Nat.le_refl _) _
  have z0 : W0.heap.size = W.heap.size + 1 := by rw [hW0]; simp
  have hTW := cell_later hb hT
  have hTL : (W.alloc (.cells #[.func (.yield l) #[] #[]] 102)).cell? ⟨T, 0, none⟩ = some (.func (.func gf) #[] lb) := cell_later ((Below.refl _ _).alloc (Nat.le_refl _) _) hTW
  have I0 : Passing n₀ J W (fun _ _ => True) W0.heap.size (pickG cols) xs (.func (.yield l) #[] #[]) 102 0 W0 := by
    refine ⟨hJ 0 W W0 hbW h0, ?_, ⟨hbW.os, hbW.tape, hbW.output, hbW.size, fun j hj _ => hbW.block j hj⟩, Nat.le_refl _⟩
    rw [hW0]; exact heap_alloc_new W _
  gi_wp2
  rw [← hW0]
  clear hW0 hTL
  refine range_hands (gf := gf) (lb := lb) rfl eg hH (hb.trans (hbW.mono hb.size)) n₀ h1 (by omega) _ (fun k A B hB h => h.keep hJ (by omega) hB) I0 ?round ?done
  case round =>
    intro r k W1 b n c hr hkx hI hsz hrec hln hnil hat _
    have hq := hQ k hkx
    obtain ⟨Y, hYk⟩ : ∃ Y, Y = wat xs k := ⟨_, rfl⟩
    rw [← hYk] at hln hat hq ⊢
    obtain ⟨ys, x⟩ := Y
    simp only at hln hat hq
    have hgx : pickG cols (wat xs k) = some (pick ys cols, x) := by rw [← hYk]; rfl
    gi_wp2
    refine ⟨(Below.refl _ _).alloc (Nat.le_refl _) _, fun W3 hT3 _ => ?_⟩
    obtain ⟨W2, hW2⟩ : ∃ W2, W2 = W1.alloc (.cells #[.slice b n c] 69) := ⟨_, rfl⟩
    have hb2 : Below W1.heap.size W1 W2 := by rw [hW2]; exact (Below.refl _ _).alloc (Nat.le_refl _) _
    have cr : W2.cell? ⟨W1.heap.size, 0, none⟩ = some (.slice b n c) := by rw [hW2]; simp
    rw [← hW2] at hT3
    clear hW2
    have hI3 := (hI.keep hJ (by omega) (hb2.mono hsz)).keep hJ (by omega) (hT3.below hr)
    have cr3 := hT3.cell cr
    have cy3 : W3.cell? ⟨W.heap.size, 0, none⟩ = some (.func (.yield l) #[] #[]) := by rw [cell_of_row W3 _ 0 _ _ (0, 0) hI3.box]; rfl
    have hat3 := hT3.at (hat.below hb2)
    have hb3 : Below w.heap.size w W3 := hb.trans (hI3.low.below hb.size h1)
    have cc3 := cell_later hb3 hC
    have ha3 := ha'.below hb3
    obtain ⟨o1, o2, o3⟩ := outW_some hkx hgx
    have HI3 := Hid.mk hI3
    have HO1 := Hid.mk o1
    have HO3 := Hid.mk o3
    have HY := Hid.mk hY
    have HQ := Hid.mk hq.1
    have HLN := Hid.mk hln
    have l6 : n ≤ 6 := by have := hq.2; omega
    clear hI hat cr hT3 hI3 o1 o3 hgx hYk hY hq hln
    gi_wp2_with fail
    refine ⟨trivial, rfl, ?_⟩
    refine (callsIn_wide.2 (implPickCells _ _ _ _ _ _ ys cols _ HLN.out hz' (by omega) (by omega) hat3 ha3)).mono ?_
    rintro e W4 ⟨r4, m4, d4, rfl, hm4, ho4, hb4⟩
    rw [HQ.out]
    have hpz : pickZ ys cols = pick ys cols := by unfold pickZ; rw [if_pos HQ.out]
    rw [hpz] at hm4 ho4
    have hat4 := At.owned ho4
    have HFR : Hid (Far n₀ W.heap.size r4 (pick ys cols)) := Hid.mk (far_owned ho4 (by have := HI3.out.size; omega))
    have hF4 := owns_formed ho4
    obtain ⟨W5, hW5⟩ : ∃ W5, W5 = W4.alloc (.cells #[.slice r4 m4 d4] 69) := ⟨_, rfl⟩
    have hbL : Below W4.heap.size W4 (W4.alloc (.cells #[.slice r4 m4 d4] 69)) := (Below.refl _ _).alloc (Nat.le_refl _) _
    have hb5 : Below W4.heap.size W4 W5 := by rw [hW5]; exact hbL
    have hB5 : Below W3.heap.size W3 W5 := hb4.trans (hb5.mono hb4.size)
    have cy5 := cell_later hbL (cell_later hb4 cy3)
    have hI5 := HI3.out.keep hJ (by omega) (hB5.mono HI3.out.size)
    obtain ⟨fn, tmps, assign, body, hy, hR⟩ := HY.out (outW (pickG cols) xs k) W5 r4 m4 d4 o2 hI5.told (by have := hI5.size; omega) (by rw [HO3.out]; exact hm4) hF4.2.1 (by rw [HO3.out]; exact hat4.below hb5) (by rw [HO3.out]; exact HFR.out)
    rw [HO3.out] at hy
    simp only at hy
    rw [hW5] at hy
    have HI5 := Hid.mk hI5
    have HB5 := Hid.mk hB5
    have HR := Hid.mk hR
    clear hI5 HI3 HY hB5 hb5 ho4 hR
    gi_wp2
    refine ⟨rfl, ?_⟩
    rw [← hW5]
    refine HR.out.mono ?_
    rintro e W6 ⟨rfl, hJ6, hap6⟩
    have hI5 := HI5.out
    have hB5 := HB5.out
    have hfin : Passing n₀ J W (fun _ _ => True) W0.heap.size (pickG cols) xs (.func (.yield l) #[] #[]) 102 (k + 1) W6 := by
      refine ⟨by rw [HO1.out]; exact hJ6, (hap6.block _ (by have := hI5.size; omega) (.inr (Nat.le_refl _))).trans hI5.box, hI5.low.trans hap6, Nat.le_trans hI5.size hap6.size⟩
    have hapf : Apart n₀ W0.heap.size W3 W6 := ⟨hap6.os.trans hB5.os, hap6.tape.trans hB5.tape, hap6.output.trans hB5.output, Nat.le_trans hB5.size hap6.size, fun j hj hc => (hap6.block j (by have := hB5.size; omega) (by omega)).trans (hB5.block j hj)⟩
    rw [z0] at hfin hapf
    clear hI5 HI5 hB5 HB5 hJ6 hap6 HR hy
    gi_wp2
    done
  case done =>
    intro D A hD hI hap hdef
    have hto := hI.told
    rw [outW_all] at hto
    have hDl : D < A.heap.size := (Array.getElem?_eq_some_iff.1 hdef).1
    have hJf := hJ _ A (A.putObj D (.deferred none)) ((Below.refl _ _).grown (grownBy_putObj' A D _) (by omega) (fun j hj => by cases hj; omega)) hto
    have hapf : Apart n₀ W.heap.size W (A.putObj D (.deferred none)) := ⟨hI.low.os, hI.low.tape, hI.low.output, by have := hI.low.size; simp; omega, fun j hj hc => (World.putObj_heap_other (by omega)).trans (hI.low.block j hj hc)⟩
    gi_wp2
    refine ⟨by simp, .inl ⟨_, _, rfl, run_takeDeferred hdef, ?_⟩⟩
    exact ⟨_, results_none rfl _ _ _, ⟨_, rfl⟩, hJf, hapf⟩

end Go.Proofs.Ytpnaoahlfhbbmaa

/- Contracts of spec.l1Columns, spec.l1Pick, spec.PickCells. -/
namespace Go.Proofs.Ytpnaoahlfhbbmaa
open Go.RowKit

set_option maxHeartbeats 1000000 in
theorem l1Columns_any (a : Option Addr) (n' c : Nat) (cols : List Int) (n : Nat) (w : World) (hz : cols.length = n') (hn' : n' ≤ 9223372036854775807) (_hn : n ≤ 9223372036854775807) (ha : At w a cols) :
    Calls Try.prog 47 #[.slice a n' c, .int .i64 n] w fun e w' => e = .returned (.bool (colsOk cols n)) ∧ w' = w := by
  by_cases h0 : n' = 0
  · subst h0
    obtain rfl := List.eq_nil_of_length_eq_zero hz
    go_enter Try.func47, Try.ntmps47
    go_wp2
    refine wp_loop_rounds 1 ?_
    rw [rounds_succ]
    go_wp2
    go_ret
    exact ⟨ret_bool (by simp [colsOk]), rfl⟩
  · obtain ⟨b, off, rfl, hb, hc⟩ := ha.some (by omega)
    clear ha
    go_enter Try.func47, Try.ntmps47
    go_wp2
    go_loop [9] (fun i => ∃ k : Nat, k ≤ n' ∧ i = .int .i64 k ∧ ∀ j, j < k → 0 ≤ cols.getD j 0 ∧ cols.getD j 0 < n) (fun i => n' - (intOf i).toNat)
    case atStart => exact ⟨0, Nat.zero_le _, rfl, fun j hj => by omega⟩
    case round =>
      obtain ⟨k, hk, rfl, hall⟩ := hrel
      by_cases hlt : k < n'
      · have hcx := hc k (by omega)
        have HN := Hid.mk (not_colsOk (cols := cols) (n := n) k (by omega))
        have HS : Hid (0 ≤ cols.getD k 0 → cols.getD k 0 < n → ∀ j, j < k + 1 → 0 ≤ cols.getD j 0 ∧ cols.getD j 0 < n) := fun h1 h2 j hj => by
          by_cases e : j = k
          · subst e; exact ⟨h1, h2⟩
          · exact hall j (by omega)
        clear hall hc
        obtain ⟨x, hx⟩ : ∃ x, x = cols.getD k 0 := ⟨_, rfl⟩
        rw [← hx] at hcx HN HS
        clear hx
        by_cases hlo : x < 0
        · go_wp2
          go_ret
          exact ⟨ret_bool (HN.out (.inl hlo)).symm, rfl⟩
        · by_cases hhi : (n : Int) ≤ x
          · go_wp2
            go_ret
            exact ⟨ret_bool (HN.out (.inr hhi)).symm, rfl⟩
          · go_wp2
            go_round
            case rel => exact ⟨k + 1, by omega, by go_num, HS.out (by omega) (by omega)⟩
            case measure => simp [intOf]; omega
      · by_cases h6 : n' ≤ 6
        · have HG := Hid.mk (colsOk_of (cols := cols) (n := n) (by omega) (fun j hj => hall j (by omega)))
          clear hall hc
          go_wp2
          go_ret
          exact ⟨ret_bool (by rw [HG.out]; simp; omega), rfl⟩
        · have HG := Hid.mk (colsOk_long (cols := cols) (n := n) (by omega))
          clear hall hc
          go_wp2
          go_ret
          exact ⟨ret_bool (by rw [HG.out]; simp; omega), rfl⟩

set_option maxHeartbeats 4000000 in
theorem l1Pick_any (a a' : Option Addr) (n n' c c' : Nat) (zs cols : List Int) (w : World) (hz : zs.length = n) (hz' : cols.length = n') (hn : n ≤ 9223372036854775807) (ha : At w a zs) (ha' : At w a' cols) (hok : colsOk cols zs.length = true) :
    Calls Try.prog 62 #[.agg #[.slice a n c], .slice a' n' c'] w fun e w' => ∃ r d, e = .returned (.agg #[.slice r n' d]) ∧
      w'.ownsRow w.heap.size 3 1 (.slice r n' d) n' ((pick zs cols).map (.int .i64)) ∧ Below w.heap.size w w' := by
  have h6 := colsOk_len hok
  have hall := fun j hj => colsOk_at hok j hj
  obtain ⟨i0, hi, hz0, hz1, hz2⟩ := info_parts Try.infoInt
  obtain ⟨w1, hW⟩ : ∃ w1, w1 = (w.alloc (.cells #[.slice a n c] 69)).alloc (.cells #[.slice none 0 0] 69) := ⟨_, rfl⟩
  have B1 : Below w.heap.size w w1 := by rw [hW]; exact ((Below.refl _ _).alloc (Nat.le_refl _) _).alloc (by simp) _
  have A1 : At w1 a zs := ha.below B1
  have A2 : At w1 a' cols := ha'.below B1
  have d1 : w1.cell? ⟨w.heap.size, 0, none⟩ = some (.slice a n c) := by rw [hW]; simp
  have d2 : w1.cell? ⟨w.heap.size + 1, 0, none⟩ = some (.slice none 0 0) := by rw [hW]; simp
  have e2 : w1.frozen? ⟨w.heap.size + 1, 0, none⟩ = false := by rw [hW]; simp
  have z1 : w1.heap.size = w.heap.size + 1 + 1 := by rw [hW]; simp
  have V0 : RowVar (w1.alloc (.cells #[.slice none 0 0] 69)) (w.heap.size + 1 + 1) 69 (w.heap.size + 1 + 1 + 1) 3 none 0 0 (pick zs (cols.take 0)) := RowVar.new z1.symm (by omega)
  have z1a : w1.heap.size ≤ w.heap.size + 1 + 1 := by omega
  have z1b : w.heap.size + 1 + 1 ≤ w1.heap.size := by omega
  clear ha ha' hok z1
  go_enter Try.func62, Try.ntmps62
  go_wp2
  rw [← hW]
  clear hW
  go_loopw [11] (fun i wr => ∃ (k : Nat) (r : Option Addr) (d : Nat), k ≤ n' ∧ i = .int .i64 k ∧ RowVar wr (w.heap.size + 1 + 1) 69 (w.heap.size + 1 + 1 + 1) 3 r k d (pick zs (cols.take k)) ∧ Below w1.heap.size w1 wr) (fun i _ => n' - (intOf i).toNat)
  case atStart => exact ⟨0, none, 0, Nat.zero_le _, rfl, V0, (Below.refl _ _).alloc (Nat.le_refl _) _⟩
  case round =>
    clear V0
    obtain ⟨k, r, d, hk, rfl, hv, hbw⟩ := hrel
    have g1 := cell_later hbw d1
    have g2 := cell_later hbw d2
    have g3 := frozen_later hbw d2 e2
    have BW := B1.trans (hbw.mono B1.size)
    have z2 := hbw.size
    by_cases hlt : k < n'
    · obtain ⟨b', off', rfl, hb', hc'⟩ := (A2.below hbw).some (by omega)
      have hcx := hc' k (by omega)
      have HS := Hid.mk (pick_succ zs cols k (by omega))
      obtain ⟨hx0, hx1⟩ := hall k (by omega)
      clear hc' hall
      obtain ⟨j, hj⟩ := Int.eq_ofNat_of_zero_le hx0
      rw [hj] at hcx hx1 HS
      have hjn : j < n := by omega
      obtain ⟨b, off, rfl, hb, hc⟩ := (A1.below hbw).some (by omega)
      have hcj := hc j (by omega)
      clear hc hj
      obtain ⟨y, hy⟩ : ∃ y, y = zs.getD ((j : Int)).toNat 0 := ⟨_, rfl⟩
      rw [← hy] at HS
      rw [show zs.getD j 0 = y by rw [hy]; rfl] at hcj
      clear hy
      have hcr := hv.cell
      have hfr := hv.frozen
      have zR : w.heap.size + 1 + 1 < wr.heap.size := World.block_lt_of_cell? _ _ hcr
      have zb : b < wr.heap.size := World.block_lt_of_cell? _ _ hcj
      have HO := Hid.mk (hv.own.alloc (.cells #[.int .i64 y] 3)).drew
      have HN := Hid.mk (news_at wr #[.int .i64 y] 3)
      go_wp2
      go_region_law (refine step_append_lies _ rfl (.tmp 16) (.tmp 22) 44 rfl (w.heap.size + 1 + 1 + 1) 3 i0 (.int .i64 0) 1 8 Try.underlying44 hi hz0 hz1 hz2 rfl (by decide) (.slice r k d) k _ (by simp [Act.eval]) HO.out ⟨wr.heap.size, 0, none⟩ 1 1 [.int .i64 y] (by simp [Act.eval]) rfl HN.out (by simp; rfl) (by decide) (by unfold maxLen; omega) (by omega) (by simp; omega) (wr.heap.size + 1) (by simp) ?_; intro g cap w2 hown1 hgrow' _ _; have hgrow := grown_undrew hgrow'; obtain ⟨t1, t2, hv1⟩ := hv.pushed hown1 hgrow)
      all_goals
        have HB := Hid.mk (hv.pushed_below (v := .slice (some ⟨g, 0, none⟩) (k + 1) cap) hgrow hbw z1a)
        rw [← HS.out] at hv1
        have HV := Hid.mk hv1
        clear hv1 hown1 hgrow hgrow' hv hbw HO HN t1 t2 hcr hfr hcj hcx
        go_wp2
        go_roundw
        case rel => exact ⟨k + 1, _, _, by omega, by go_num, HV.out, HB.out⟩
        case measure => simp [intOf]; omega
    · obtain rfl : k = n' := by omega
      rw [← hz', List.take_length, hz'] at hv
      have hcr := hv.cell
      clear hall
      go_wp2
      refine bodyPost_ret (v := .agg #[.slice r k d]) (by simp [results, Try.results62, go_sem, g2]) rfl ⟨r, d, rfl, ?_, ?_⟩
      · exact owns_mono (ownsRow_setCell_below hv.own (by simp) _) (by omega)
      · exact BW.setCell (by simp) _

end Go.Proofs.Ytpnaoahlfhbbmaa

/- The order of arrays as slices.SortFunc asks it: impl.compareArrays lays two blocks, draws, and turns nothing else. -/
namespace Go.Proofs.Ytpnaoahlfhbbmaa
open Go.RowKit

set_option maxHeartbeats 1000000 in
theorem compareArrays_quiet (x0 x1 x2 x3 x4 x5 y0 y1 y2 y3 y4 y5 : Int) (xs ys : List Int) (hx : xs = [x0, x1, x2, x3, x4, x5]) (hy : ys = [y0, y1, y2, y3, y4, y5]) (w : World) :
    Calls Try.prog 53 #[.agg #[.int .i64 x0, .int .i64 x1, .int .i64 x2, .int .i64 x3, .int .i64 x4, .int .i64 x5], .agg #[.int .i64 y0, .int .i64 y1, .int .i64 y2, .int .i64 y3, .int .i64 y4, .int .i64 y5]] w fun e w' => e = .returned (.int .i64 (cmp xs ys)) ∧ ∃ q, w' = ((w.alloc (.cells #[.int .i64 x0, .int .i64 x1, .int .i64 x2, .int .i64 x3, .int .i64 x4, .int .i64 x5] 81)).alloc (.cells #[.int .i64 y0, .int .i64 y1, .int .i64 y2, .int .i64 y3, .int .i64 y4, .int .i64 y5] 81)).drewN q := by
  obtain ⟨W, hW⟩ : ∃ W, W = (w.alloc (.cells #[.int .i64 x0, .int .i64 x1, .int .i64 x2, .int .i64 x3, .int .i64 x4, .int .i64 x5] 81)).alloc (.cells #[.int .i64 y0, .int .i64 y1, .int .i64 y2, .int .i64 y3, .int .i64 y4, .int .i64 y5] 81) := ⟨_, rfl⟩
  have B : Below w.heap.size w W := by rw [hW]; exact ((Below.refl _ _).alloc (Nat.le_refl _) _).alloc (by simp) _
  have A1 : Arr W w.heap.size 81 xs := by rw [hW, hx]; exact (Arr.new rfl (by simp)).alloc _
  have A2 : Arr W (w.heap.size + 1) 81 ys := by rw [hW, hy]; exact Arr.new (by simp) (by simp)
  have HW := Hid.mk hW
  obtain ⟨i0, hi, hz0, hz1, hz2⟩ := info_parts Try.infoInt
  have hq : ∀ w, (Op.equalIn 10000 81 (.agg #[.int .i64 x0, .int .i64 x1, .int .i64 x2, .int .i64 x3, .int .i64 x4, .int .i64 x5]) (.agg #[.int .i64 y0, .int .i64 y1, .int .i64 y2, .int .i64 y3, .int .i64 y4, .int .i64 y5])).run Try.prog w = .ok (decide (xs = ys)) w := fun w => by
    rw [hx, hy]
    simpa using run_equal_ints w 9998 81 3 i0 Try.underlying81 Try.underlying3 hi hz1 [x0, x1, x2, x3, x4, x5] [y0, y1, y2, y3, y4, y5] rfl rfl
  have l1 : xs.length = 6 := by rw [hx]; rfl
  have l2 : ys.length = 6 := by rw [hy]; rfl
  clear hx hy hi hz0 hz1 hz2
  by_cases he : xs = ys
  · have HC : Hid (cmp xs ys = 0) := by rw [he]; exact cmp_self ys
    rw [decide_eq_true he] at hq
    clear he A1 A2
    go_enter Try.func53, Try.ntmps53
    go_wp2
    go_ret
    exact ⟨ret_int HC.out.symm, 0, rfl⟩
  · rw [decide_eq_false he] at hq
    have HN : Hid (xs ≠ ys) := he
    clear he
    go_enter Try.func53, Try.ntmps53
    go_wp2
    rw [← hW]
    clear hW hq
    go_loopw [5] (fun i wr => ∃ k : Nat, k ≤ 6 ∧ i = .int .i64 k ∧ xs.take k = ys.take k ∧ cmp xs ys = cmp (xs.drop k) (ys.drop k) ∧ ∃ q, wr = W.drewN q) (fun i _ => 7 - (intOf i).toNat)
    case atStart => exact ⟨0, Nat.zero_le _, rfl, rfl, by simp, 0, rfl⟩
    case round =>
      obtain ⟨k, hk, rfl, ht, hcmp, q, rfl⟩ := hrel
      have hlt : k < 6 := by
        rcases Nat.lt_or_ge k 6 with h | h
        · exact h
        · exact absurd (take_all_eq (by omega) (by omega) ht) HN.out
      have hcx := A1.cell k (by omega)
      have hcy := A2.cell k (by omega)
      have HT : Hid (xs.getD k 0 = ys.getD k 0 → xs.take (k + 1) = ys.take (k + 1)) := fun e => by
        rw [take_succ_getD xs k (by omega), take_succ_getD ys k (by omega), ht, e]
      have HD : Hid (cmp xs ys = _) := hcmp.trans (cmp_drop xs ys k (by omega) (by omega))
      clear ht hcmp A1 A2
      obtain ⟨x, hx⟩ : ∃ x, x = xs.getD k 0 := ⟨_, rfl⟩
      obtain ⟨y, hy⟩ : ∃ y, y = ys.getD k 0 := ⟨_, rfl⟩
      rw [← hx] at hcx HD HT
      rw [← hy] at hcy HD HT
      clear hx hy
      have hk6 : (k : Int) < 6 := by omega
      rcases Int.lt_trichotomy x y with h | h | h
      · have hne : (x == y) = false := by simp; omega
        go_wp2
        go_quiet (fail)
        go_wp2
        go_quiet (fail)
        go_wp2
        go_ret
        exact ⟨ret_int (by rw [HD.out, if_pos h]), _, by rw [← HW.out]; simp; rfl⟩
      · subst h
        go_wp2
        go_quiet (fail)
        go_wp2
        go_roundw
        case rel => exact ⟨k + 1, by omega, by go_num, HT.out (by trivial), by rw [HD.out, if_neg (by omega), if_neg (by omega)], _, rfl⟩
        case measure => simp [intOf]; omega
      · have hne : (x == y) = false := by simp; omega
        go_wp2
        go_quiet (fail)
        go_wp2
        go_quiet (fail)
        go_wp2
        go_ret
        exact ⟨ret_int (by rw [HD.out, if_neg (by omega), if_pos h]), _, by rw [← HW.out]; simp; rfl⟩

open Go.Shelf Go.Sort

/-- Six numbers. -/
abbrev Six := Int × Int × Int × Int × Int × Int
def Six.list (x : Six) : List Int := [x.1, x.2.1, x.2.2.1, x.2.2.2.1, x.2.2.2.2.1, x.2.2.2.2.2]
def Six.enc (x : Six) : List Value := [.int .i64 x.1, .int .i64 x.2.1, .int .i64 x.2.2.1, .int .i64 x.2.2.2.1, .int .i64 x.2.2.2.2.1, .int .i64 x.2.2.2.2.2]
def Six.cf (x y : Six) : Int := cmp (Six.list x) (Six.list y)
theorem Six.list_inj {x y : Six} (h : Six.list x = Six.list y) : x = y := by
  obtain ⟨a, b, c, d, e, f⟩ := x
  obtain ⟨a', b', c', d', e', f'⟩ := y
  simpa [Six.list] using h

theorem Six.lays (blk off size : Nat) (w : World) : CmpLays Try.prog 53 #[] Six.enc 6 Six.cf blk off size w := fun m os dk _ x y => by
  refine (compareArrays_quiet _ _ _ _ _ _ _ _ _ _ _ _ (Six.list x) (Six.list y) rfl rfl _).mono ?_
  rintro e w' ⟨rfl, q, rfl⟩
  exact ⟨rfl, q, _, by rw [alloc_eq_grow, alloc_eq_grow, grow_grow]; rfl⟩

theorem cmp_nlt {xs ys zs : List Int} (h1 : ¬ cmp xs ys < 0) (h2 : ¬ cmp ys zs < 0) : ¬ cmp xs zs < 0 := fun h => by
  have h3 := cmp_swap xs ys
  by_cases e : cmp ys xs < 0
  · exact h2 (cmp_trans e h)
  · have : cmp xs ys = 0 := by omega
    rw [cmp_eq this] at h
    exact h2 h

theorem Six.lt (x y : Six) : ltOf Six.cf x y = decide (cmp (Six.list x) (Six.list y) < 0) := rfl
theorem Six.swo : SWO (ltOf Six.cf) where
  irrefl x := by rw [Six.lt]; exact decide_eq_false (cmp_irrefl _)
  trans x y z h1 h2 := by rw [Six.lt, decide_eq_true_eq] at *; exact cmp_trans h1 h2
  ntrans x y z h1 h2 := by rw [Six.lt, decide_eq_false_iff_not] at *; exact cmp_nlt h1 h2
theorem Six.total (x y : Six) (h1 : ltOf Six.cf x y = false) (h2 : ltOf Six.cf y x = false) : x = y := by
  rw [Six.lt, decide_eq_false_iff_not] at h1 h2
  have := cmp_swap (Six.list x) (Six.list y)
  exact Six.list_inj (cmp_eq (by omega))

end Go.Proofs.Ytpnaoahlfhbbmaa
