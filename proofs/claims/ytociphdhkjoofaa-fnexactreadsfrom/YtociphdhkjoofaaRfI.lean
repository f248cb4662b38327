/- Contract of impl.ReadsFrom. -/
import Derived.Test.YtociphdhkjoofaaRfP
import Derived.Test.YtociphdhkjoofaaRpI
import Derived.Test.YtociphdhkjoofaaSrI
import Derived.Test.YtociphdhkjoofaaStepW
import Derived.Test.YtociphdhkjoofaaAppendAll
import Derived.Deep.CutBlock
namespace Go.Proofs.Ytociphdhkjoofaa
open Go.RowKit

theorem Try.infoSource : (Try.prog.info? 73).map (fun i => (i.zero, i.size, i.bytes)) = some (some (.agg #[.int .i64 0, .int .i64 0]), 2, 16) := by kernel_rfl
theorem fl_snocSo (xs : List TSource) (a b : Int) : (flSource (xs ++ [(a, b)])).map (Value.int .i64) = (flSource xs).map (Value.int .i64) ++ [.int .i64 a, .int .i64 b] := by
  unfold flSource; rw [flatF_snoc, List.map_append]; rfl
theorem own_cells4 {w : World} {g : Nat} {t : TypeId} {l : List Int} (hl : l.length = 4) (h : w.heap[g]? = some (.cells (l.map (.int .i64)).toArray t (0, 0))) : w.ownsRow g t 1 (.slice (some ⟨g, 0, none⟩) 4 4) 4 (l.map (.int .i64)) :=
  ⟨by simp [hl], .inr ⟨g, 4, _, rfl, Nat.le_refl _, h, Nat.le_refl _, by decide, by simp [hl], by rw [List.take_of_length_le (by simp [hl])]⟩⟩

set_option maxRecDepth 100000 in
set_option maxHeartbeats 1000000 in
theorem implReadsFrom (a : Option Addr) (n c : Nat) (xs : List TStep) (w : World) (hz : xs.length = n) (hn : n ≤ 1048576) (ha : At w a (flStep xs)) :
    Calls Try.prog 22 #[.slice a n c] w fun e w' => RfRet e w' w.heap.size (gpB xs) (rfA xs) (rfB xs) ∧ Below w.heap.size w w' := by
  obtain ⟨j0, hj0, hy0, hy1, hy2⟩ := info_parts Try.infoSource
  have KG := Hid.mk (implGoodSteps a n c xs w hz (by omega) ha)
  have HZ := Hid.mk hz
  have HA := Hid.mk ha
  clear hz ha
  go_enter Try.func22, Try.ntmps22
  go_wp2_with fail
  refine KG.out.mono ?_
  rintro e w1 ⟨rfl, hb1⟩
  clear KG
  cases hg : gpB xs with
  | false =>
    have HR := Hid.mk (RfRet.no (w' := w1) (lo := w.heap.size) hg hb1.size)
    go_wp2
    refine bodyPost_ret (v := .tuple #[.slice none 0 0, .slice none 0 0, .bool false]) (by simp [results, Try.results22, go_sem]) rfl ⟨HR.out, hb1⟩
  | true =>
  have HG := Hid.mk hg
  have HRA : Hid (rfA xs = srcs xs xs.length) := Hid.mk (by unfold rfA; rw [hg]; rfl)
  have HRB : Hid (rfB xs = lasts xs xs.length) := Hid.mk (by unfold rfB; rw [hg]; rfl)
  have hn40 : n ≤ 40 := by have := gp_len hg; have := HZ.out; omega
  clear hg
  obtain ⟨V, hV⟩ : ∃ V, V = w1.alloc (.cells #[.int .i64 (-1)] 3) := ⟨_, rfl⟩
  have hbV : Below w1.heap.size w1 V := by rw [hV]; exact (Below.refl _ _).alloc (Nat.le_refl _) _
  have cV : V.cell? ⟨w1.heap.size, 0, none⟩ = some (.int .i64 (-1)) := by rw [hV]; simp
  have KR := Hid.mk (repeat4_any w1.heap.size 0 1 (-1) V cV)
  have HBV := Hid.mk (hb1.trans (hbV.mono hb1.size))
  clear cV hbV hb1
  go_wp2_with fail
  rw [← hV]
  clear hV
  refine KR.out.mono ?_
  rintro e w2 ⟨rfl, hg2, hb2⟩
  obtain ⟨G, hG⟩ : ∃ G, V.heap.size = G := ⟨_, rfl⟩
  rw [hG] at hg2
  have hGl : G < w2.heap.size := (Array.getElem?_eq_some_iff.1 hg2).1
  have HB2 := Hid.mk (HBV.out.trans (hb2.mono HBV.out.size))
  have hwG : w.heap.size ≤ G := by rw [← hG]; exact HBV.out.size
  rw [hG]
  clear hb2 HBV KR hG
  go_wp2_with fail
  go_loopw [5, 16] (fun p i wr => ∃ (k m : Nat) (r : Option Addr) (d : Nat), k ≤ n ∧ i = .int .i64 k ∧ p = .slice r m d ∧ (srcs xs k).length = m ∧ wr.ownsRow w2.heap.size 73 2 (.slice r m d) m ((flSource (srcs xs k)).map (.int .i64)) ∧ wr.heap[G]? = some (.cells ((lasts xs k).map (.int .i64)).toArray 3 (0, 0)) ∧ w2.heap.size ≤ wr.heap.size ∧ Below w.heap.size w wr) (fun _ i _ => n - (intOf i).toNat)
  case atStart => exact ⟨0, 0, none, 0, Nat.zero_le _, rfl, rfl, rfl, World.ownsRow_nil _ _ _ _, hg2, Nat.le_refl _, HB2.out⟩
  case round =>
    clear hg2 HB2
    obtain ⟨k, m, r, d, hk, rfl, rfl, hm, ho, hh, hsz, hbw⟩ := hrel
    obtain ⟨wY, rfl⟩ : ∃ x, x = wr := ⟨_, rfl⟩
    by_cases hlt : k < n
    · obtain ⟨⟨x0, x1, x2⟩, hx⟩ : ∃ x, xs[k]? = some x := ⟨_, List.getElem?_eq_getElem (by have := HZ.out; omega)⟩
      obtain ⟨b, off, rfl, hb, hc⟩ := flStep_some HA.out (by have := HZ.out; omega)
      obtain ⟨c0, c1, c2⟩ := hc k _ hx
      have c0 := (hbw.cell hb).trans c0
      have c1 := (hbw.cell hb).trans c1
      have c2 := (hbw.cell hb).trans c2
      have hgx := gp_at HG.out hx
      simp only at c0 c1 c2 hgx
      obtain ⟨j, rfl⟩ : ∃ j : Nat, x2 = (j : Int) := ⟨x2.toNat, by omega⟩
      have hj4 : j < 4 := by omega
      have hki : (k : Int) < (n : Int) := by omega
      have hml : m ≤ 40 := by have := srcs_len xs k; omega
      obtain ⟨V, hV⟩ : ∃ V, V = wY.alloc (.cells #[.int .i64 x0, .int .i64 x1, .int .i64 (j : Int)] 64) := ⟨_, rfl⟩
      have hbV : Below wY.heap.size wY V := by rw [hV]; exact (Below.refl _ _).alloc (Nat.le_refl _) _
      have v1 : V.cell? ⟨wY.heap.size, 1, none⟩ = some (.int .i64 x1) := by rw [hV]; simp
      have v2 : V.cell? ⟨wY.heap.size, 2, none⟩ = some (.int .i64 (j : Int)) := by rw [hV]; simp
      have hhV := blk_below hh hbV
      have cG : V.cell? ⟨G, j, none⟩ = some (.int .i64 (lastAt xs (j : Int) k)) := blk_cell hhV j (by simp [lasts_get xs k j hj4])
      have HO := Hid.mk (owns_below ho hbV)
      have HB := Hid.mk (hbw.trans (hbV.mono hbw.size))
      have HH := Hid.mk hhV
      have hszV : w2.heap.size ≤ V.heap.size := Nat.le_trans hsz hbV.size
      have HX := Hid.mk hx
      have HM := Hid.mk hm
      have fG : V.frozen? ⟨G, j, none⟩ = false := blk_frozen hhV j
      clear hc hx ho hbw hbV hh hhV hm hsz
      go_upto_region 8 with fail
      rw [← hV]
      clear hV c0 c1 c2
      by_cases e1 : x1 = 1
      · subst e1
        obtain ⟨T, hT⟩ : ∃ T, lastAt xs (j : Int) k = T := ⟨_, rfl⟩
        have HS := Hid.mk (srcs_read HX.out)
        have HL := Hid.mk (lasts_read HX.out (by simp only; omega))
        rw [hT] at HS cG
        clear hT fG
        go_wp2_with (at_builtin; refine wpList_app_vals rfl (.tmp 25) (.tmp 33) 46 rfl w2.heap.size 73 j0 (.agg #[.int .i64 0, .int .i64 0]) 2 16 Try.underlying46 hj0 hy0 hy1 hy2 rfl (by decide) (.slice r m d) m _ rfl (owns_below HO.out ((Below.refl _ _).alloc (Nat.le_refl _) _)) (some ⟨V.heap.size, 0, none⟩) 1 1 [.int .i64 (k : Int), .int .i64 T] rfl rfl (fun ad he => by cases he; simpa using news_at V #[.int .i64 (k : Int), .int .i64 T] 73) (by simp; exact ⟨rfl, rfl⟩) (fun h => by cases h) (by unfold maxLen; omega) (by omega) (by simp; omega) ?_)
        intro r5 d5 w5 ho5 hg5 ht5
        have B5 : Below w2.heap.size V w5 := ((Below.refl _ _).alloc hszV _).grown hg5 (by simp; omega) (fun j hj => (HO.out.lt j hj).1)
        have HB5 : Hid (Below w.heap.size w w5) := HB.out.trans (B5.mono (by omega))
        have HH5 : Hid (w5.heap[G]? = some (.cells ((lasts xs (k + 1)).map (.int .i64)).toArray 3 (0, 0))) := by
          show _ = _
          rw [HL.out]; exact (B5.block G hGl).trans HH.out
        have HO5 : Hid (w5.ownsRow w2.heap.size 73 2 (.slice r5 (m + 1) d5) (m + 1) ((flSource (srcs xs (k + 1))).map (.int .i64))) := by
          show World.ownsRow _ _ _ _ _ _ _
          rw [HS.out, fl_snocSo]; exact ho5
        have HM5 : Hid ((srcs xs (k + 1)).length = m + 1) := by show _ = _; rw [HS.out, List.length_append, HM.out]; rfl
        have HZ5 : Hid (w2.heap.size ≤ w5.heap.size) := Nat.le_trans hszV B5.size
        clear ho5 hg5 ht5 B5 HO HB HH v1 v2 cG HS HL HX HM
        go_wp2
        go_roundw
        case rel => exact ⟨k + 1, m + 1, r5, d5, by omega, by go_num, rfl, HM5.out, HO5.out, HH5.out, HZ5.out, HB5.out⟩
        case measure => simp [intOf]; omega
      · obtain rfl : x1 = 2 := by omega
        have HS := Hid.mk (srcs_write HX.out (by simp only; omega))
        have HL := Hid.mk (lasts_write HX.out hj4)
        obtain ⟨U, hU⟩ : ∃ U, U = V.setCell ⟨G, j, none⟩ (.int .i64 (k : Int)) := ⟨_, rfl⟩
        have HBU : Hid (Below w.heap.size w U) := by rw [hU]; exact Hid.mk (HB.out.setCell hwG _)
        have HHU : Hid (U.heap[G]? = some (.cells ((lasts xs (k + 1)).map (.int .i64)).toArray 3 (0, 0))) := by
          show _ = _
          rw [HL.out, hU, blk_set HH.out j _, List.map_set]
          simp
        have HOU : Hid (U.ownsRow w2.heap.size 73 2 (.slice r m d) m ((flSource (srcs xs (k + 1))).map (.int .i64))) := by
          show World.ownsRow _ _ _ _ _ _ _
          rw [HS.out, hU]
          exact ownsRow_frame HO.out (fun i hi _ => Below.heap_setCell _ _ _ i (by have := (HO.out.lt i hi).1; simp; omega))
        have HMU : Hid ((srcs xs (k + 1)).length = m) := by show _ = _; rw [HS.out, HM.out]
        have HZU : Hid (w2.heap.size ≤ U.heap.size) := by rw [hU]; exact Hid.mk (by simpa [World.setCell] using hszV)
        clear HO HB HH HS HL HX HM
        go_wp2_with fail
        rw [← hU]
        clear hU
        go_roundw
        case rel => exact ⟨k + 1, m, r, d, by omega, by go_num, rfl, HMU.out, HOU.out, HHU.out, HZU.out, HBU.out⟩
        case measure => simp [intOf]; omega
    · obtain rfl : k = n := by omega
      have hki : ¬ (k : Int) < (k : Int) := by omega
      have HR : Hid (RfRet (.returned (.tuple #[.slice r m d, .slice (some ⟨G, 0, none⟩) 4 4, .bool true])) wY w.heap.size (gpB xs) (rfA xs) (rfB xs)) := by
        show RfRet _ _ _ _ _ _
        rw [HRA.out, HRB.out, HZ.out, HG.out]
        exact RfRet.mk hbw.size hm rfl (by have := srcs_len xs k; omega) (by omega) (owns_mono ho (by omega)) (owns_mono (own_cells4 rfl hh) hwG) (fun g hg e => by
          have h1 := (ho.lt g hg).1
          simp only [Value.ownBlock, Option.some.injEq] at e
          omega)
      have HB := Hid.mk hbw
      clear ho hh hm hbw
      go_wp2
      refine bodyPost_ret (v := .tuple #[.slice r m d, .slice (some ⟨G, 0, none⟩) 4 4, .bool true]) (by simp [results, Try.results22, go_sem]) rfl ⟨HR.out, HB.out⟩

end Go.Proofs.Ytociphdhkjoofaa
