/- Contracts of spec.l13Last and spec.ReadsFrom. -/
import Derived.Test.YtociphdhkjoofaaRfI
namespace Go.Proofs.Ytociphdhkjoofaa
open Go.RowKit

set_option maxRecDepth 100000 in
set_option maxHeartbeats 1000000 in
theorem l13Last_any (a : Option Addr) (n c : Nat) (xs : List TStep) (q : Nat) (it : Int) (w : World) (hz : xs.length = n) (hq : q ≤ n) (hn : n ≤ 1048576) (ha : At w a (flStep xs)) :
    Calls Try.prog 46 #[.slice a n c, .int .i64 q, .int .i64 it] w fun e w' => e = .returned (.int .i64 (lastAt xs it q)) ∧ Below w.heap.size w w' := by
  have HZ := Hid.mk hz
  have HA := Hid.mk ha
  clear hz ha
  have hwq : IntKind.i64.wrap ((q : Int) - 1) = (q : Int) - 1 := IntWalk.i64_in _ (by omega)
  go_enter Try.func46, Try.ntmps46
  go_wp2_with fail
  clear hwq
  go_loopw [7] (fun i wr => ∃ (j : Nat), j ≤ q ∧ i = .int .i64 ((j : Int) - 1) ∧ lastAt xs it q = lastAt xs it j ∧ Below w.heap.size w wr) (fun i _ => (intOf i + 1).toNat)
  case atStart => exact ⟨q, Nat.le_refl _, rfl, rfl, Below.refl _ _⟩
  case round =>
    obtain ⟨j, hj, rfl, ht, hbw⟩ := hrel
    obtain ⟨wY, rfl⟩ : ∃ x, x = wr := ⟨_, rfl⟩
    cases j with
    | zero =>
      have e0 : ((0 : Nat) : Int) - 1 = -1 := rfl
      rw [e0]
      have HT := Hid.mk ht
      clear ht
      go_wp2
      go_ret
      exact ⟨ret_int HT.out.symm, hbw⟩
    | succ p =>
      have e0 : ((p + 1 : Nat) : Int) - 1 = (p : Int) := by omega
      rw [e0]
      obtain ⟨⟨x0, x1, x2⟩, hx⟩ : ∃ x, xs[p]? = some x := ⟨_, List.getElem?_eq_getElem (by have := HZ.out; omega)⟩
      obtain ⟨b, off, rfl, hb, hc⟩ := flStep_some HA.out (by have := HZ.out; omega)
      obtain ⟨c0, c1, c2⟩ := hc p _ hx
      have c1 := (hbw.cell hb).trans c1
      have c2 := (hbw.cell hb).trans c2
      simp only at c1 c2
      have hpn : p < n := by omega
      have hwp : IntKind.i64.wrap ((p : Int) - 1) = (p : Int) - 1 := IntWalk.i64_in _ (by omega)
      have HT := Hid.mk ht
      have HX := Hid.mk hx
      clear ht hx hc c0 e0
      by_cases e1 : x1 = 2
      · subst e1
        by_cases e2 : x2 = it
        · subst e2
          have HV := Hid.mk (lastAt_yes HX.out)
          go_wp2
          go_ret
          exact ⟨ret_int (by rw [HT.out, HV.out]), hbw⟩
        · have e2' : (x2 == it) = false := beq_eq_false_iff_ne.2 e2
          have HV := Hid.mk (lastAt_no (it := it) HX.out (fun h => e2 h.2))
          go_wp2
          go_roundw
          case rel => exact ⟨p, by omega, rfl, by rw [HT.out, HV.out], hbw⟩
          case measure => simp [intOf]
      · have e1' : (x1 == 2) = false := beq_eq_false_iff_ne.2 e1
        have HV := Hid.mk (lastAt_no (it := it) HX.out (fun h => e1 h.1))
        go_wp2
        go_roundw
        case rel => exact ⟨p, by omega, rfl, by rw [HT.out, HV.out], hbw⟩
        case measure => simp [intOf]

theorem lasts_take (xs : List TStep) (k q : Nat) (hq : q < 4) : (lasts xs k).take (q + 1) = (lasts xs k).take q ++ [lastAt xs (q : Int) k] := by
  match q, hq with
  | 0, _ => rfl
  | 1, _ => rfl
  | 2, _ => rfl
  | 3, _ => rfl

set_option maxRecDepth 100000 in
set_option maxHeartbeats 2000000 in
theorem specReadsFrom (a : Option Addr) (n c : Nat) (xs : List TStep) (w : World) (hz : xs.length = n) (hn : n ≤ 1048576) (ha : At w a (flStep xs)) :
    Calls Try.prog 21 #[.slice a n c] w fun e w' => RfRet e w' w.heap.size (gpB xs) (rfA xs) (rfB xs) ∧ Below w.heap.size w w' := by
  obtain ⟨j0, hj0, hy0, hy1, hy2⟩ := info_parts Try.infoSource
  obtain ⟨i0, hi0, hx0, hx1, hx2⟩ := info_parts Try.infoInt
  have KG := Hid.mk (specGoodSteps a n c xs w hz (by omega) ha)
  have HZ := Hid.mk hz
  have HA := Hid.mk ha
  clear hz ha
  go_enter Try.func21, Try.ntmps21
  go_wp2_with fail
  refine KG.out.mono ?_
  rintro e w1 ⟨rfl, hb1⟩
  clear KG
  cases hg : gpB xs with
  | false =>
    have HR := Hid.mk (RfRet.no (w' := w1) (lo := w.heap.size) hg hb1.size)
    go_wp2
    refine bodyPost_ret (v := .tuple #[.slice none 0 0, .slice none 0 0, .bool false]) (by simp [results, Try.results21, go_sem]) rfl ⟨HR.out, hb1⟩
  | true =>
  have HG := Hid.mk hg
  have HRA : Hid (rfA xs = srcs xs xs.length) := Hid.mk (by unfold rfA; rw [hg]; rfl)
  have HRB : Hid (rfB xs = lasts xs xs.length) := Hid.mk (by unfold rfB; rw [hg]; rfl)
  have hn40 : n ≤ 40 := by have := gp_len hg; have := HZ.out; omega
  have HB1 := Hid.mk hb1
  clear hg hb1
  go_wp2_with fail
  go_loopw [5, 15] (fun p i wr => ∃ (k m : Nat) (r : Option Addr) (d : Nat), k ≤ n ∧ i = .int .i64 k ∧ p = .slice r m d ∧ (srcs xs k).length = m ∧ wr.ownsRow w.heap.size 73 2 (.slice r m d) m ((flSource (srcs xs k)).map (.int .i64)) ∧ Below w.heap.size w wr) (fun _ i _ => n - (intOf i).toNat)
  case atStart => exact ⟨0, 0, none, 0, Nat.zero_le _, rfl, rfl, rfl, World.ownsRow_nil _ _ _ _, HB1.out⟩
  case round =>
    clear HB1
    obtain ⟨k, m, r, d, hk, rfl, rfl, hm, ho, hbw⟩ := hrel
    obtain ⟨wY, rfl⟩ : ∃ x, x = wr := ⟨_, rfl⟩
    by_cases hlt : k < n
    · obtain ⟨⟨x0, x1, x2⟩, hx⟩ : ∃ x, xs[k]? = some x := ⟨_, List.getElem?_eq_getElem (by have := HZ.out; omega)⟩
      have hA := At.below HA.out hbw
      obtain ⟨b, off, rfl, hb, hc⟩ := flStep_some hA (by have := HZ.out; omega)
      obtain ⟨c0, c1, c2⟩ := hc k _ hx
      simp only at c0 c1 c2
      have hki : (k : Int) < (n : Int) := by omega
      have hml : m ≤ 40 := by have := srcs_len xs k; omega
      obtain ⟨V, hV⟩ : ∃ V, V = wY.alloc (.cells #[.int .i64 x0, .int .i64 x1, .int .i64 x2] 64) := ⟨_, rfl⟩
      have hbV : Below wY.heap.size wY V := by rw [hV]; exact (Below.refl _ _).alloc (Nat.le_refl _) _
      have v1 : V.cell? ⟨wY.heap.size, 1, none⟩ = some (.int .i64 x1) := by rw [hV]; simp
      have v2 : V.cell? ⟨wY.heap.size, 2, none⟩ = some (.int .i64 x2) := by rw [hV]; simp
      have KL := Hid.mk (l13Last_any (some ⟨b, off, none⟩) n c xs k x2 V HZ.out hk hn (At.below hA hbV))
      have HO := Hid.mk (owns_below ho hbV)
      have HB := Hid.mk (hbw.trans (hbV.mono hbw.size))
      have HX := Hid.mk hx
      have HM := Hid.mk hm
      clear hc hx ho hbw hbV hm hA
      go_upto_region 7 with fail
      rw [← hV]
      clear hV c0 c1 c2
      by_cases e1 : x1 = 1
      · subst e1
        obtain ⟨T, hT⟩ : ∃ T, lastAt xs x2 k = T := ⟨_, rfl⟩
        have HS := Hid.mk (srcs_read HX.out)
        rw [hT] at HS KL
        clear hT
        go_wp2_with fail
        refine KL.out.mono ?_
        rintro e w3 ⟨rfl, hb3⟩
        have HO3 := Hid.mk (owns_below HO.out hb3)
        have HB3 := Hid.mk (HB.out.trans (hb3.mono HB.out.size))
        have zw : w.heap.size ≤ w3.heap.size := HB3.out.size
        clear hb3 HO HB KL v1 v2
        go_wp2_with (at_builtin; refine wpList_app_vals rfl (.tmp 23) (.tmp 31) 46 rfl w.heap.size 73 j0 (.agg #[.int .i64 0, .int .i64 0]) 2 16 Try.underlying46 hj0 hy0 hy1 hy2 rfl (by decide) (.slice r m d) m _ rfl (owns_below HO3.out ((Below.refl _ _).alloc (Nat.le_refl _) _)) (some ⟨w3.heap.size, 0, none⟩) 1 1 [.int .i64 (k : Int), .int .i64 T] rfl rfl (fun ad he => by cases he; simpa using news_at w3 #[.int .i64 (k : Int), .int .i64 T] 73) (by simp; exact ⟨rfl, rfl⟩) (fun h => by cases h) (by unfold maxLen; omega) (by omega) (by simp; omega) ?_)
        intro r5 d5 w5 ho5 hg5 ht5
        have HB5 : Hid (Below w.heap.size w w5) := (HB3.out.alloc zw _).grown hg5 (by simp; omega) (fun j hj => (HO3.out.lt j hj).1)
        have HO5 : Hid (w5.ownsRow w.heap.size 73 2 (.slice r5 (m + 1) d5) (m + 1) ((flSource (srcs xs (k + 1))).map (.int .i64))) := by
          show World.ownsRow _ _ _ _ _ _ _
          rw [HS.out, fl_snocSo]; exact ho5
        have HM5 : Hid ((srcs xs (k + 1)).length = m + 1) := by show _ = _; rw [HS.out, List.length_append, HM.out]; rfl
        clear ho5 hg5 ht5 HO3 HB3 HS HX HM
        go_wp2
        go_roundw
        case rel => exact ⟨k + 1, m + 1, r5, d5, by omega, by go_num, rfl, HM5.out, HO5.out, HB5.out⟩
        case measure => simp [intOf]; omega
      · have e1' : (x1 == 1) = false := beq_eq_false_iff_ne.2 e1
        have HS := Hid.mk (srcs_write HX.out e1)
        have HO5 : Hid (V.ownsRow w.heap.size 73 2 (.slice r m d) m ((flSource (srcs xs (k + 1))).map (.int .i64))) := by
          show World.ownsRow _ _ _ _ _ _ _
          rw [HS.out]; exact HO.out
        have HM5 : Hid ((srcs xs (k + 1)).length = m) := by show _ = _; rw [HS.out, HM.out]
        clear HO HS HX HM KL
        go_wp2
        go_roundw
        case rel => exact ⟨k + 1, m, r, d, by omega, by go_num, rfl, HM5.out, HO5.out, HB.out⟩
        case measure => simp [intOf]; omega
    · obtain rfl : k = n := by omega
      have hki : ¬ (k : Int) < (k : Int) := by omega
      have HO := Hid.mk ho
      have HB := Hid.mk hbw
      have HM := Hid.mk hm
      have hmk : m ≤ 40 := by have := srcs_len xs k; omega
      have zY : w.heap.size ≤ wY.heap.size := hbw.size
      clear ho hbw hm
      go_wp2_with fail
      go_loopw [8, 9] (fun p i wr => ∃ (q : Nat) (r' : Option Addr) (d' : Nat), q ≤ 4 ∧ i = .int .i64 q ∧ p = .slice r' q d' ∧ wr.ownsRow wY.heap.size 3 1 (.slice r' q d') q (((lasts xs k).take q).map (.int .i64)) ∧ Below wY.heap.size wY wr) (fun _ i _ => 4 - (intOf i).toNat)
      case atStart => exact ⟨0, none, 0, Nat.zero_le _, rfl, rfl, World.ownsRow_nil _ _ _ _, Below.refl _ _⟩
      case round =>
        obtain ⟨q, r', d', hq, rfl, rfl, ho, hbw⟩ := hrel
        obtain ⟨wZ, rfl⟩ : ∃ x, x = wr := ⟨_, rfl⟩
        by_cases hq4 : q < 4
        · have KL := Hid.mk (l13Last_any a k c xs k (q : Int) wZ HZ.out (Nat.le_refl _) hn (At.below (At.below HA.out HB.out) hbw))
          have HTK := Hid.mk (lasts_take xs k q hq4)
          obtain ⟨T, hT⟩ : ∃ T, lastAt xs (q : Int) k = T := ⟨_, rfl⟩
          rw [hT] at KL HTK
          have hqi : (q : Int) < 4 := by omega
          have HO2 := Hid.mk ho
          have HB2 := Hid.mk hbw
          clear hT ho hbw
          go_wp2_with fail
          refine KL.out.mono ?_
          rintro e w3 ⟨rfl, hb3⟩
          have HO3 := Hid.mk (owns_below HO2.out hb3)
          have HB3 := Hid.mk (HB2.out.trans (hb3.mono HB2.out.size))
          have zw : wY.heap.size ≤ w3.heap.size := HB3.out.size
          clear hb3 HO2 HB2 KL
          go_wp2_with (at_builtin; refine wpList_app_vals rfl (.tmp 38) (.tmp 44) 22 rfl wY.heap.size 3 i0 (.int .i64 0) 1 8 Try.underlying22 hi0 hx0 hx1 hx2 rfl (by decide) (.slice r' q d') q _ rfl (owns_below HO3.out ((Below.refl _ _).alloc (Nat.le_refl _) _)) (some ⟨w3.heap.size, 0, none⟩) 1 1 [.int .i64 T] rfl rfl (fun ad he => by cases he; simpa using news_at w3 #[.int .i64 T] 3) (by simp; rfl) (fun h => by cases h) (by unfold maxLen; omega) (by omega) (by simp; omega) ?_)
          intro r5 d5 w5 ho5 hg5 ht5
          have HB5 : Hid (Below wY.heap.size wY w5) := (HB3.out.alloc zw _).grown hg5 (by simp; omega) (fun j hj => (HO3.out.lt j hj).1)
          have HO5 : Hid (w5.ownsRow wY.heap.size 3 1 (.slice r5 (q + 1) d5) (q + 1) (((lasts xs k).take (q + 1)).map (.int .i64))) := by
            show World.ownsRow _ _ _ _ _ _ _
            rw [HTK.out, List.map_append, List.map_take]; exact ho5
          clear ho5 hg5 ht5 HO3 HB3
          go_wp2
          go_roundw
          case rel => exact ⟨q + 1, r5, d5, by omega, by go_num, rfl, HO5.out, HB5.out⟩
          case measure => simp [intOf]; omega
        · obtain rfl : q = 4 := by omega
          have HR : Hid (RfRet (.returned (.tuple #[.slice r m d, .slice r' 4 d', .bool true])) wZ w.heap.size (gpB xs) (rfA xs) (rfB xs)) := by
            show RfRet _ _ _ _ _ _
            rw [HRA.out, HRB.out, HZ.out, HG.out]
            exact RfRet.mk (Nat.le_trans zY hbw.size) HM.out rfl (by omega) (by omega) (owns_below HO.out hbw) (owns_mono ho zY) (fun g hg e => by
              have h1 := (HO.out.lt g hg).2
              have h2 := (ho.lt g e).1
              omega)
          have HB2 := Hid.mk (HB.out.trans (hbw.mono zY))
          clear ho hbw
          go_wp2
          refine bodyPost_ret (v := .tuple #[.slice r m d, .slice r' 4 d', .bool true]) (by simp [results, Try.results21, go_sem]) rfl ⟨HR.out, HB2.out⟩

end Go.Proofs.Ytociphdhkjoofaa
