/- Several texts of one proof, in build order: SnI, CloM, CloN. -/
import Derived.Test.YtociphdhkjoofaaDoorM7
import Derived.Test.YtociphdhkjoofaaDoorM9
import Derived.Test.YtociphdhkjoofaaDoorM11
import Derived.Test.YtociphdhkjoofaaDoorM5
import Derived.Test.YtociphdhkjoofaaDoorM6

/- Contracts of impl.oneAfterTheOther and impl.SerialRun. -/
namespace Go.Proofs.YtociphdhkjoofaaDoor
open Go.RowKit

set_option maxRecDepth 100000 in
set_option maxHeartbeats 2000000 in
theorem oneAfter_any (a : Option Addr) (n c : Nat) (xs : List TStep) (oa : Option Addr) (on oc : Nat) (l : List Int) (w : World) (hz : xs.length = n) (hn : n ≤ 40) (ha : At w a (flStep xs)) (hl : l.length = on) (hon : on ≤ 1048576) (hoa : At w oa l) (hnd : l.Nodup) :
    Calls Tryd.prog 38 #[.slice a n c, .slice oa on oc] w fun e w' => ∃ r m d, e = .returned (.slice r m d) ∧ (oat xs l).length = m ∧ w'.ownsRow w.heap.size 46 3 (.slice r m d) m ((flStep (oat xs l)).map (.int .i64)) ∧ Below w.heap.size w w' := by
  obtain ⟨s0, hs0, ht0, ht1, ht2⟩ := info_parts Tryd.infFStep
  have HZ := Hid.mk hz
  have HAB := Hid.mk ha
  have HL := Hid.mk hl
  have HOA := Hid.mk hoa
  have HND := Hid.mk hnd
  clear hz ha hl hoa hnd
  go_enter Tryd.func38, Tryd.ntmps38
  go_wp2_with fail
  go_loopw [5, 12] (fun p i wr => ∃ (k m : Nat) (r : Option Addr) (d : Nat), k ≤ on ∧ i = .int .i64 k ∧ p = .slice r m d ∧ (oat xs (l.take k)).length = m ∧ wr.ownsRow w.heap.size 46 3 (.slice r m d) m ((flStep (oat xs (l.take k))).map (.int .i64)) ∧ Below w.heap.size w wr) (fun _ i _ => on - (intOf i).toNat)
  case atStart => exact ⟨0, 0, none, 0, Nat.zero_le _, rfl, rfl, rfl, World.ownsRow_nil _ _ _ _, Below.refl _ _⟩
  case round =>
    obtain ⟨k, m, r, d, hk, rfl, rfl, hm, ho, hbw⟩ := hrel
    obtain ⟨wY, rfl⟩ : ∃ x, x = wr := ⟨_, rfl⟩
    by_cases hlt : k < on
    · obtain ⟨t, ht⟩ : ∃ x, l[k]? = some x := ⟨_, List.getElem?_eq_getElem (by have := HL.out; omega)⟩
      obtain ⟨ob, ooff, rfl, hob, hoc⟩ := HOA.out.some (by have := HL.out; omega)
      have hct : wY.cell? ⟨ob, ooff + k, none⟩ = some (.int .i64 t) := by
        rw [(hbw.cell hob), hoc k (by have := HL.out; omega)]; simp [List.getD, ht]
      have HOAT := Hid.mk (oat_take (xs := xs) ht)
      have hA40 : (oat xs (l.take k)).length ≤ 40 := Nat.le_trans (oat_most (HND.out.sublist (List.take_sublist _ _))) (by have := HZ.out; omega)
      obtain ⟨A, hA⟩ : ∃ A, oat xs (l.take k) = A := ⟨_, rfl⟩
      rw [hA] at HOAT hA40 hm ho
      have hki : (k : Int) < (on : Int) := by omega
      have HM := Hid.mk hm
      have HO := Hid.mk ho
      have HB := Hid.mk hbw
      clear hA hm ho hbw hoc ht
      go_wp2_with fail
      go_loopw [5, 18] (fun p i wr => ∃ (j m : Nat) (r : Option Addr) (d : Nat), j ≤ n ∧ i = .int .i64 j ∧ p = .slice r m d ∧ (A ++ ofT (xs.take j) t).length = m ∧ wr.ownsRow w.heap.size 46 3 (.slice r m d) m ((flStep (A ++ ofT (xs.take j) t)).map (.int .i64)) ∧ Below w.heap.size w wr) (fun _ i _ => n - (intOf i).toNat)
      case atStart => exact ⟨0, m, r, d, Nat.zero_le _, rfl, rfl, by rw [List.take_zero, show ofT [] t = [] from rfl, List.append_nil]; exact HM.out, by rw [List.take_zero, show ofT [] t = [] from rfl, List.append_nil]; exact HO.out, HB.out⟩
      case round =>
        clear HM HO HB
        obtain ⟨j, m, r, d, hj, rfl, rfl, hm, ho, hbw⟩ := hrel
        obtain ⟨wZ, rfl⟩ : ∃ x, x = wr := ⟨_, rfl⟩
        have hofl : (ofT (xs.take j) t).length ≤ 40 := Nat.le_trans (List.length_filter_le _ _) (by rw [List.length_take]; have := HZ.out; omega)
        have hm80 : m ≤ 80 := by rw [← hm, List.length_append]; omega
        by_cases hjn : j < n
        · obtain ⟨⟨x0, x1, x2⟩, hx⟩ : ∃ x, xs[j]? = some x := ⟨_, List.getElem?_eq_getElem (by have := HZ.out; omega)⟩
          obtain ⟨b, off, rfl, hb, hc⟩ := flStep_some HAB.out (by have := HZ.out; omega)
          obtain ⟨c0, c1, c2⟩ := hc j _ hx
          have c0 := (hbw.cell hb).trans c0
          have c1 := (hbw.cell hb).trans c1
          have c2 := (hbw.cell hb).trans c2
          simp only at c0 c1 c2
          have hji : (j : Int) < (n : Int) := by omega
          obtain ⟨V, hV⟩ : ∃ V, V = wZ.alloc (.cells #[.int .i64 x0, .int .i64 x1, .int .i64 x2] 46) := ⟨_, rfl⟩
          have hbV : Below wZ.heap.size wZ V := by rw [hV]; exact (Below.refl _ _).alloc (Nat.le_refl _) _
          have v0 : V.cell? ⟨wZ.heap.size, 0, none⟩ = some (.int .i64 x0) := by rw [hV]; simp
          have v1 : V.cell? ⟨wZ.heap.size, 1, none⟩ = some (.int .i64 x1) := by rw [hV]; simp
          have v2 : V.cell? ⟨wZ.heap.size, 2, none⟩ = some (.int .i64 x2) := by rw [hV]; simp
          have HOV := Hid.mk (owns_below ho hbV)
          have HBV := Hid.mk (hbw.trans (hbV.mono hbw.size))
          have HTK := Hid.mk (ofT_take (t := t) hx)
          have HMV := Hid.mk hm
          have zw : w.heap.size ≤ V.heap.size := HBV.out.size
          clear hc hx ho hbw hbV hm hofl
          go_upto_region 8 with fail
          rw [← hV]
          clear hV c0 c1 c2
          by_cases e0 : x0 = t
          · subst e0
            rw [if_pos rfl] at HTK
            have e0' : (x0 == x0) = true := by simp
            obtain ⟨L, hL⟩ : ∃ L, (flStep (A ++ ofT (xs.take j) x0)).map (Value.int .i64) = L := ⟨_, rfl⟩
            have HLL : Hid ((flStep (A ++ ofT (xs.take (j + 1)) x0)).map (Value.int .i64) = L ++ [.int .i64 x0, .int .i64 x1, .int .i64 x2]) := Hid.mk (by rw [HTK.out, ← hL, ← List.append_assoc]; show (flatF enStep _).map _ = _; rw [flatF_snoc, List.map_append]; rfl)
            rw [hL] at HOV
            clear hL
            go_wp2_with (at_builtin; refine wpList_app_vals rfl (.tmp 26) (.tmp 28) 27 rfl w.heap.size 46 s0 (.agg #[.int .i64 0, .int .i64 0, .int .i64 0]) 3 24 Tryd.underlying27 hs0 ht0 ht1 ht2 rfl (by decide) (.slice r m d) m L rfl (owns_below HOV.out ((Below.refl _ _).alloc (Nat.le_refl _) _)) (some ⟨V.heap.size, 0, none⟩) 1 1 [.int .i64 x0, .int .i64 x1, .int .i64 x2] rfl rfl (fun ad he => by cases he; simpa using news_at V #[.int .i64 x0, .int .i64 x1, .int .i64 x2] 46) (by simp; exact ⟨rfl, rfl, rfl⟩) (fun h => by cases h) (by unfold maxLen; omega) (by omega) (by simp; omega) ?_)
            intro r5 d5 w5 ho5 hg5 ht5
            have HB5 : Hid (Below w.heap.size w w5) := (HBV.out.alloc zw _).grown hg5 (by simp; omega) (fun j hj => (HOV.out.lt j hj).1)
            have HO5 : Hid (w5.ownsRow w.heap.size 46 3 (.slice r5 (m + 1) d5) (m + 1) ((flStep (A ++ ofT (xs.take (j + 1)) x0)).map (.int .i64))) := Hid.mk (by rw [HLL.out]; exact ho5)
            have HM5 : Hid ((A ++ ofT (xs.take (j + 1)) x0).length = m + 1) := Hid.mk (by rw [HTK.out, ← List.append_assoc, List.length_append, HMV.out]; rfl)
            clear ho5 hg5 ht5 HOV HBV HMV v0 v1 v2 HLL HTK
            go_wp2
            go_roundw
            case rel => exact ⟨j + 1, m + 1, r5, d5, by omega, by go_num, rfl, HM5.out, HO5.out, HB5.out⟩
            case measure => simp [intOf]; omega
          · rw [if_neg e0] at HTK
            have e0' : (x0 == t) = false := beq_eq_false_iff_ne.2 e0
            have HO5 : Hid (V.ownsRow w.heap.size 46 3 (.slice r m d) m ((flStep (A ++ ofT (xs.take (j + 1)) t)).map (.int .i64))) := Hid.mk (by rw [HTK.out]; exact HOV.out)
            have HM5 : Hid ((A ++ ofT (xs.take (j + 1)) t).length = m) := Hid.mk (by rw [HTK.out]; exact HMV.out)
            clear HOV HMV HTK
            go_wp2
            go_roundw
            case rel => exact ⟨j + 1, m, r, d, by omega, by go_num, rfl, HM5.out, HO5.out, HBV.out⟩
            case measure => simp [intOf]; omega
        · obtain rfl : j = n := by omega
          have hji : ¬ (j : Int) < (j : Int) := by omega
          rw [List.take_of_length_le (show xs.length ≤ j by have := HZ.out; omega)] at hm ho
          have HM2 : Hid ((oat xs (l.take (k + 1))).length = m) := Hid.mk (by rw [HOAT.out]; exact hm)
          have HO2 : Hid (wZ.ownsRow w.heap.size 46 3 (.slice r m d) m ((flStep (oat xs (l.take (k + 1)))).map (.int .i64))) := Hid.mk (by rw [HOAT.out]; exact ho)
          have HB2 := Hid.mk hbw
          clear hm ho hbw hofl
          go_wp2
          go_roundw
          case rel => exact ⟨k + 1, m, r, d, by omega, by go_num, rfl, HM2.out, HO2.out, HB2.out⟩
          case measure => simp [intOf]; omega
    · obtain rfl : k = on := by omega
      have hki : ¬ (k : Int) < (k : Int) := by omega
      rw [List.take_of_length_le (show l.length ≤ k by have := HL.out; omega)] at hm ho
      have HM := Hid.mk hm
      have HO := Hid.mk ho
      clear hm ho
      go_wp2
      go_ret
      exact ⟨r, m, d, rfl, HM.out, HO.out, hbw⟩

set_option maxRecDepth 100000 in
set_option maxHeartbeats 2000000 in
theorem implSerialRun (a : Option Addr) (n c : Nat) (xs : List TStep) (oa : Option Addr) (on oc : Nat) (l : List Int) (w : World) (hz : xs.length = n) (hn : n ≤ 1048576) (ha : At w a (flStep xs)) (hl : l.length = on) (hon : on ≤ 1048576) (hoa : At w oa l) (ht : TabB w) :
    Calls Tryd.prog 22 #[.slice a n c, .slice oa on oc] w fun e w' => StepsRet e w' w.heap.size (snB xs l) (snL xs l) ∧ Below w.heap.size w w' := by
  have KG := Hid.mk (implGoodSteps a n c xs w hz (by omega) ha)
  have HZ := Hid.mk hz
  have HA := Hid.mk ha
  have HL := Hid.mk hl
  have HOA := Hid.mk hoa
  have HTB := Hid.mk ht
  have HNO : Hid (∀ w1 : World, Below w.heap.size w w1 → snB xs l = false → StepsRet (.returned (.tuple #[.slice none 0 0, .bool false])) w1 w.heap.size (snB xs l) (snL xs l) ∧ Below w.heap.size w w1) := Hid.mk (fun w1 hb h => ⟨by unfold snL; rw [h]; exact StepsRet.no, hb⟩)
  clear hz ha hl hoa ht
  cases hg : gpB xs with
  | false =>
    have HV : Hid (snB xs l = false) := Hid.mk (by unfold snB; rw [hg]; rfl)
    rw [hg] at KG
    go_enter Tryd.func22, Tryd.ntmps22
    go_wp2_with (go_at_call 27; refine KG.out.mono ?_; rintro e w1 ⟨rfl, hb1⟩)
    refine bodyPost_ret (v := .tuple #[.slice none 0 0, .bool false]) (by simp [results, Tryd.results22, go_sem]) rfl (HNO.out _ hb1 HV.out)
  | true =>
    rw [hg] at KG
    have hn40 : n ≤ 40 := by have := gp_len hg; have := HZ.out; omega
    have HG := Hid.mk hg
    have HTX : Hid (txS xs < 64) := Hid.mk (txS_lt fun y hy => (gp_txn hg y hy).2)
    have HV : Hid (snB xs l = decide (srtI l = bl (txS xs))) := Hid.mk (by unfold snB; rw [hg]; rfl)
    clear hg
    go_enter Tryd.func22, Tryd.ntmps22
    go_wp2_with fail
    refine KG.out.mono ?_
    rintro e w1 ⟨rfl, hb1⟩
    have KT := Hid.mk (txnsIn_any a n c xs w1 HZ.out HG.out (At.below HA.out hb1))
    have HB1 := Hid.mk hb1
    clear KG hb1
    go_wp2_with fail
    refine KT.out.mono ?_
    rintro e w2 ⟨rfl, hb2⟩
    have HB2 := Hid.mk (HB1.out.trans (hb2.mono HB1.out.size))
    have KL := Hid.mk (list_any (txS xs) w2 HTX.out (TabIs.below HTB.out HB2.out))
    clear KT hb2 HB1
    go_wp2_with fail
    refine KL.out.mono ?_
    rintro e w3 ⟨r3, m3, d3, rfl, hm3, ho3, hb3⟩
    have HB3 := Hid.mk (HB2.out.trans (hb3.mono HB2.out.size))
    have hm36 : m3 ≤ 6 := by rw [← hm3]; exact bl_len _
    have KE := Hid.mk (eachOnceL_any oa on oc l r3 m3 d3 (bl (txS xs)) w3 HL.out hon (At.below HOA.out HB3.out) hm3 (by omega) (At.owned ho3))
    rw [← HV.out] at KE
    clear KL hb3 HB2 hm3 ho3
    go_wp2_with fail
    refine KE.out.mono ?_
    rintro e w4 ⟨rfl, hb4⟩
    have HB4 := Hid.mk (HB3.out.trans (hb4.mono HB3.out.size))
    clear KE hb4 HB3
    cases hv : snB xs l with
    | false =>
      go_wp2
      refine bodyPost_ret (v := .tuple #[.slice none 0 0, .bool false]) (by simp [results, Tryd.results22, go_sem]) rfl (HNO.out _ HB4.out hv)
    | true =>
      have hnd : l.Nodup := by
        have h9 := hv
        rw [sn_same HG.out] at h9
        unfold snQ at h9
        simp only [Bool.and_eq_true, decide_eq_true_eq] at h9
        exact h9.1.1
      have KO := Hid.mk (oneAfter_any a n c xs oa on oc l w4 HZ.out hn40 (At.below HA.out HB4.out) HL.out hon (At.below HOA.out HB4.out) hnd)
      have HLL : Hid (snL xs l = oat xs l) := Hid.mk (by unfold snL; rw [hv]; rfl)
      have HVV := Hid.mk hv
      clear hv hnd
      go_wp2_with fail
      refine KO.out.mono ?_
      rintro e w5 ⟨r5, m5, d5, rfl, hm5, ho5, hb5⟩
      have HR : Hid (StepsRet (.returned (.tuple #[.slice r5 m5 d5, .bool true])) w5 w.heap.size (snB xs l) (snL xs l)) := Hid.mk (by
        rw [HVV.out, HLL.out]
        exact ⟨r5, m5, d5, rfl, hm5, owns_mono ho5 HB4.out.size⟩)
      have HB5 := Hid.mk (HB4.out.trans (hb5.mono HB4.out.size))
      clear KO hm5 ho5 hb5 HB4
      go_wp2
      refine bodyPost_ret (v := .tuple #[.slice r5 m5 d5, .bool true]) (by simp [results, Tryd.results22, go_sem]) rfl ⟨HR.out, HB5.out⟩

end Go.Proofs.YtociphdhkjoofaaDoor

/- Contracts of the model's l1Has, l7All, l7Put. -/
namespace Go.Proofs.YtociphdhkjoofaaDoor
open Go.RowKit

set_option maxHeartbeats 1000000 in
theorem l1Has_any (a : Option Addr) (n c : Nat) (zs : List Int) (x : Int) (w : World) (hz : zs.length = n) (hn : n ≤ 9223372036854775807) (ha : At w a zs) :
    Calls Tryd.prog 34 #[.slice a n c, .int .i64 x] w fun e w' => e = .returned (.bool (decide (x ∈ zs))) ∧ w' = w := by
  by_cases h0 : n = 0
  · subst h0
    obtain rfl := List.eq_nil_of_length_eq_zero hz
    go_enter Tryd.func34, Tryd.ntmps34
    go_wp2
    refine wp_loop_rounds 1 ?_
    rw [rounds_succ]
    go_wp2
    go_ret
    exact ⟨rfl, rfl⟩
  · obtain ⟨b, off, rfl, hb, hc⟩ := ha.some (by omega)
    clear ha
    go_enter Tryd.func34, Tryd.ntmps34
    go_wp2
    go_loopw [9] (fun i wr => ∃ (k : Nat), k ≤ n ∧ i = .int .i64 k ∧ (¬ x ∈ zs.take k) ∧ wr = w) (fun i _ => n - (intOf i).toNat)
    case atStart => exact ⟨0, Nat.zero_le _, rfl, by simp, rfl⟩
    case round =>
      obtain ⟨k, hk, rfl, ht, rfl⟩ := hrel
      by_cases hlt : k < n
      · have hcx : wr.cell? ⟨b, off + k, none⟩ = some (.int .i64 (zs.getD k 0)) := hc k (by omega)
        have hm : zs.getD k 0 ∈ zs := by simp [List.getD, show k < zs.length by omega]
        have hnx : zs.getD k 0 ≠ x → ¬ x ∈ zs.take (k + 1) := fun h => by
          rw [take_succ_getD zs k (by omega)]
          simp only [List.mem_append, List.mem_singleton, not_or]
          exact ⟨ht, fun e => h e.symm⟩
        obtain ⟨y, hy⟩ : ∃ y, y = zs.getD k 0 := ⟨_, rfl⟩
        rw [← hy] at hcx hm hnx
        have HM := Hid.mk hm
        have HN := Hid.mk hnx
        clear hc hm hnx hy ht
        by_cases he : y = x
        · subst he
          go_wp2
          go_ret
          exact ⟨by rw [decide_eq_true HM.out]; rfl, rfl⟩
        · go_wp2
          go_roundw
          case rel => exact ⟨k + 1, by omega, by go_num, HN.out he, trivial⟩
          case measure => simp [intOf]; omega
      · rw [List.take_of_length_le (by omega)] at ht
        have HT := Hid.mk ht
        clear ht
        go_wp2
        go_ret
        exact ⟨by rw [decide_eq_false HT.out]; rfl, rfl⟩

end Go.Proofs.YtociphdhkjoofaaDoor

/- Contracts of the model's l7Put and l7Closure. -/
namespace Go.Proofs.YtociphdhkjoofaaDoor
open Go.RowKit

theorem own_cap {w : World} {base : Nat} {e : TypeId} {size : Nat} {a : Option Addr} {n c : Nat} {xs : List Value} (h : w.ownsRow base e size (.slice a n c) n xs) : n ≤ c := by
  rcases h.2 with ⟨h', h0⟩ | ⟨g, cap, cur, h', _, _, h1, _⟩
  · simp at h'; omega
  · simp at h'; omega
theorem at_take {w : World} {b off : Nat} {zs : List Int} (k : Nat) (h : At w (some ⟨b, off, none⟩) zs) : At w (some ⟨b, off, none⟩) (zs.take k) := by
  rcases h with rfl | ⟨b', off', e, hc⟩
  · exact .inl (by simp)
  · refine .inr ⟨b', off', e, fun i hi => ?_⟩
    have hi' : i < zs.length := by have := List.length_take (i := k) (l := zs); omega
    have hik : i < k := by have := List.length_take (i := k) (l := zs); omega
    rw [hc i hi']
    simp [List.getD, hik]
theorem at_drop {w : World} {b off : Nat} {zs : List Int} (k : Nat) (h : At w (some ⟨b, off, none⟩) zs) : At w (some ⟨b, off + k, none⟩) (zs.drop k) := by
  rcases h with rfl | ⟨b', off', e, hc⟩
  · exact .inl (by simp)
  · simp only [Option.some.injEq, Addr.mk.injEq, and_true] at e
    obtain ⟨rfl, rfl⟩ := e
    refine .inr ⟨b, off + k, rfl, fun i hi => ?_⟩
    have hi' : k + i < zs.length := by simp at hi; omega
    rw [Nat.add_assoc, hc (k + i) hi']
    simp [List.getD]

set_option maxRecDepth 100000 in
set_option maxHeartbeats 4000000 in
theorem l7Put_any (B : Nat) (a : Option Addr) (n c : Nat) (zs : List Int) (x : Int) (w : World) (hz : zs.length = n) (hn : n ≤ 2097152) (hB : B ≤ w.heap.size) (ho : w.ownsRow B 3 1 (.slice a n c) n (zs.map (.int .i64))) :
    Calls Tryd.prog 41 #[.slice a n c, .int .i64 x] w fun e w' => ∃ r m d, e = .returned (.slice r m d) ∧ (insI zs x).length = m ∧ w'.ownsRow B 3 1 (.slice r m d) m ((insI zs x).map (.int .i64)) ∧ Below w.heap.size w w' := by
  obtain ⟨i0, hi, hz0, hz1, hz2⟩ := info_parts Tryd.infoInt
  have hat : At w a zs := At.owned ho
  have HC := Hid.mk (l1Has_any a n c zs x w hz (by omega) hat)
  by_cases hx : x ∈ zs
  · have hd : decide (x ∈ zs) = true := decide_eq_true hx
    rw [insI_yes hx]
    rw [hd] at HC
    have HO := Hid.mk ho
    have HZ := Hid.mk hz
    clear hat ho hz hx hd
    go_enter Tryd.func41, Tryd.ntmps41
    go_wp2_with fail
    refine HC.out.mono ?_
    rintro e w1 ⟨rfl, rfl⟩
    go_wp2
    go_ret
    exact ⟨a, n, c, rfl, HZ.out, HO.out, Below.refl _ _⟩
  · have hd : decide (x ∈ zs) = false := decide_eq_false hx
    rw [insI_no hx]
    rw [hd] at HC
    rcases ho.2 with ⟨hv, h0⟩ | ⟨g, cap, cur, hv, hbg, _⟩
    · simp only [Value.slice.injEq] at hv
      obtain ⟨rfl, _, rfl⟩ := hv
      subst h0
      obtain rfl := List.eq_nil_of_length_eq_zero hz
      clear hat ho hx hd
      go_enter Tryd.func41, Tryd.ntmps41
      go_wp2_with fail
      refine HC.out.mono ?_
      rintro e w1 ⟨rfl, rfl⟩
      go_wp2_with fail
      refine wp_loop_rounds 1 ?_
      rw [rounds_succ]
      go_wp2_with (at_builtin; refine wpList_append_all rfl (.tmp 25) (.tmp 28) 34 rfl w1.heap.size 3 i0 (.int .i64 0) 8 Tryd.underlying34 hi hz0 hz1 hz2 rfl (.slice none 0 0) 0 [] rfl (World.ownsRow_nil _ _ _ _) none 0 0 [] rfl rfl (.inl rfl) (fun _ => rfl) (by unfold maxLen; omega) (by omega) (Nat.le_refl _) ?_)
      intro r2 d2 w2 ho2 hg2
      have B2 : Below w1.heap.size w1 w2 := (Below.refl _ _).grown hg2 (Nat.le_refl _) (fun j hj => by cases hj)
      have HO2 := Hid.mk ho2
      have z2 := B2.size
      clear ho2 hg2
      go_wp2_with (at_builtin; refine wpList_append_lies _ rfl (.tmp 30) (.tmp 32) 34 rfl w1.heap.size 3 i0 (.int .i64 0) 1 8 Tryd.underlying34 hi hz0 hz1 hz2 rfl (by decide) _ _ _ rfl (HO2.out.alloc _) ⟨w2.heap.size, 0, none⟩ 1 1 [.int .i64 x] rfl rfl (news_at w2 _ _) (by intro u hu; simp at hu; subst hu; rfl) (by decide) (by unfold maxLen; omega) (by omega) (by simp; omega) (w2.heap.size + 1) (by simp) ?_)
      intro g3 cap3 w3 ho3 hg3 hat3 hlt3
      have B3 : Below w1.heap.size w1 w3 := (B2.alloc z2 _).grown hg3 (by simp; omega) (fun j hj => (HO2.out.lt j hj).1)
      have HO3 := Hid.mk ho3
      have z3 := B3.size
      clear ho3 hg3 hat3 HO2
      go_wp2_with (at_builtin; refine wpList_append_all rfl (.tmp 34) (.tmp 37) 34 rfl w1.heap.size 3 i0 (.int .i64 0) 8 Tryd.underlying34 hi hz0 hz1 hz2 rfl _ _ _ rfl HO3.out none 0 0 [] rfl rfl (.inl rfl) (fun _ => rfl) (by unfold maxLen; omega) (by omega) z3 ?_)
      intro r4 d4 w4 ho4 hg4
      have B4 : Below w1.heap.size w1 w4 := B3.grown hg4 z3 (fun j hj => (HO3.out.lt j hj).1)
      have HO4 := Hid.mk ho4
      clear ho4 hg4 HO3
      go_wp2
      go_ret
      exact ⟨r4, 1, d4, rfl, rfl, owns_mono HO4.out hB, B4⟩
    · simp only [Value.slice.injEq, true_and] at hv
      obtain ⟨rfl, rfl⟩ := hv
      have hcap := own_cap ho
      have hcx : ∀ k, k < n → w.cell? ⟨g, k, none⟩ = some (.int .i64 (zs.getD k 0)) := fun k hk => by
        rw [ho.cellAt k (by omega)]
        simp [List.getD, show k < zs.length by omega]
      have HAT := Hid.mk hat
      have HO := Hid.mk ho
      have HZ := Hid.mk hz
      have HCX := Hid.mk hcx
      clear hat ho hx hd hcx
      go_enter Tryd.func41, Tryd.ntmps41
      go_wp2_with fail
      refine HC.out.mono ?_
      rintro e w1 ⟨rfl, rfl⟩
      go_wp2_with fail
      go_loopw [5] (fun i wr => ∃ (k : Nat), k ≤ n ∧ i = .int .i64 k ∧ (∀ j, j < k → zs.getD j 0 < x) ∧ wr = w1) (fun i _ => n - (intOf i).toNat)
      case atStart => exact ⟨0, Nat.zero_le _, rfl, fun j h => by omega, rfl⟩
      case round =>
        obtain ⟨k, hk, rfl, hle, rfl⟩ := hrel
        have HL := Hid.mk hle
        clear hle
        have stop : (k < n → ¬ zs.getD k 0 < x) → Hid (lessN x zs = k) := fun h => Hid.mk (lessN_is x zs k (by omega) HL.out (fun hk => h (by omega)))
        by_cases hlt : k < n
        · have hc := HCX.out k hlt
          obtain ⟨y, hy⟩ : ∃ y, y = zs.getD k 0 := ⟨_, rfl⟩
          have hnx : y < x → ∀ j, j < k + 1 → zs.getD j 0 < x := fun h j hj => by
            by_cases hjk : j < k
            · exact HL.out j hjk
            · obtain rfl : j = k := by omega
              rw [← hy]; exact h
          rw [← hy] at hc stop
          have HN := Hid.mk hnx
          clear hy hnx
          by_cases hyx : y < x
          · clear stop
            go_wp2
            go_roundw
            case rel => exact ⟨k + 1, by omega, by go_num, HN.out hyx, trivial⟩
            case measure => simp [intOf]; omega
          · have HS := stop (fun _ => hyx)
            clear stop
            have hkn : k ≤ n := hk
            have HTK : Hid ((zs.take k).length = k) := by show _ = _; rw [List.length_take, HZ.out]; omega
            have HDK : Hid ((zs.drop k).length = n - k) := by show _ = _; rw [List.length_drop, HZ.out]
            go_wp2_with (at_builtin; refine wpList_append_all rfl (.tmp 25) (.tmp 28) 34 rfl wr.heap.size 3 i0 (.int .i64 0) 8 Tryd.underlying34 hi hz0 hz1 hz2 rfl (.slice none 0 0) 0 [] rfl (World.ownsRow_nil _ _ _ _) (some ⟨g, 0, none⟩) k c (zs.take k) (by simp [Act.eval]) HTK.out (at_take k HAT.out) (fun h => by cases h) (by unfold maxLen; omega) (by omega) (Nat.le_refl _) ?_)
            intro r2 d2 w2 ho2 hg2
            have B2 : Below wr.heap.size wr w2 := (Below.refl _ _).grown hg2 (Nat.le_refl _) (fun j hj => by cases hj)
            have HO2 := Hid.mk ho2
            have z2 := B2.size
            clear ho2 hg2
            go_wp2_with (at_builtin; refine wpList_append_lies _ rfl (.tmp 30) (.tmp 32) 34 rfl wr.heap.size 3 i0 (.int .i64 0) 1 8 Tryd.underlying34 hi hz0 hz1 hz2 rfl (by decide) _ _ _ rfl (HO2.out.alloc _) ⟨w2.heap.size, 0, none⟩ 1 1 [.int .i64 x] rfl rfl (news_at w2 _ _) (by intro u hu; simp at hu; subst hu; rfl) (by decide) (by unfold maxLen; omega) (by omega) (by simp; omega) (w2.heap.size + 1) (by simp) ?_)
            intro g3 cap3 w3 ho3 hg3 hat3 hlt3
            have B3 : Below wr.heap.size wr w3 := (B2.alloc z2 _).grown hg3 (by simp; omega) (fun j hj => (HO2.out.lt j hj).1)
            have HO3 := Hid.mk ho3
            have z3 := B3.size
            clear ho3 hg3 hat3 HO2
            go_wp2_with (at_builtin; refine wpList_append_all rfl (.tmp 34) (.tmp 37) 34 rfl wr.heap.size 3 i0 (.int .i64 0) 8 Tryd.underlying34 hi hz0 hz1 hz2 rfl _ _ _ rfl HO3.out (some ⟨g, 0 + k, none⟩) (n - k) (c - k) (zs.drop k) (by simp [Act.eval]) HDK.out (at_drop k (At.below HAT.out B3)) (fun h => by cases h) (by unfold maxLen; omega) (by omega) z3 ?_)
            intro r4 d4 w4 ho4 hg4
            have B4 : Below wr.heap.size wr w4 := B3.grown hg4 z3 (fun j hj => (HO3.out.lt j hj).1)
            have HO4 := Hid.mk ho4
            clear ho4 hg4 HO3
            go_wp2
            go_ret
            refine ⟨r4, k + 1 + (n - k), d4, rfl, ?_, ?_, B4⟩
            · rw [HS.out, List.length_append, List.length_cons, HTK.out, HDK.out]; omega
            · have h9 := owns_mono HO4.out hB
              rw [HS.out, List.map_append, List.map_cons]
              simpa using h9
        · have HS := stop (fun h => absurd h hlt)
          clear stop
          by_cases hck : c = k
          · have hck' : k = c := hck.symm
            subst hck'
            have hnk : k = n := by omega
            subst hnk
            have hkn : k ≤ k := hk
            have HTK : Hid ((zs.take k).length = k) := by show _ = _; rw [List.length_take, HZ.out]; omega
            have HDK : Hid ((zs.drop k).length = 0) := by show _ = _; rw [List.length_drop, HZ.out]; omega
            go_wp2_with (at_builtin; refine wpList_append_all rfl (.tmp 25) (.tmp 28) 34 rfl wr.heap.size 3 i0 (.int .i64 0) 8 Tryd.underlying34 hi hz0 hz1 hz2 rfl (.slice none 0 0) 0 [] rfl (World.ownsRow_nil _ _ _ _) (some ⟨g, 0, none⟩) k k (zs.take k) (by simp [Act.eval]) HTK.out (at_take k HAT.out) (fun h => by cases h) (by unfold maxLen; omega) (by omega) (Nat.le_refl _) ?_)
            intro r2 d2 w2 ho2 hg2
            have B2 : Below wr.heap.size wr w2 := (Below.refl _ _).grown hg2 (Nat.le_refl _) (fun j hj => by cases hj)
            have HO2 := Hid.mk ho2
            have z2 := B2.size
            clear ho2 hg2
            go_wp2_with (at_builtin; refine wpList_append_lies _ rfl (.tmp 30) (.tmp 32) 34 rfl wr.heap.size 3 i0 (.int .i64 0) 1 8 Tryd.underlying34 hi hz0 hz1 hz2 rfl (by decide) _ _ _ rfl (HO2.out.alloc _) ⟨w2.heap.size, 0, none⟩ 1 1 [.int .i64 x] rfl rfl (news_at w2 _ _) (by intro u hu; simp at hu; subst hu; rfl) (by decide) (by unfold maxLen; omega) (by omega) (by simp; omega) (w2.heap.size + 1) (by simp) ?_)
            intro g3 cap3 w3 ho3 hg3 hat3 hlt3
            have B3 : Below wr.heap.size wr w3 := (B2.alloc z2 _).grown hg3 (by simp; omega) (fun j hj => (HO2.out.lt j hj).1)
            have HO3 := Hid.mk ho3
            have z3 := B3.size
            clear ho3 hg3 hat3 HO2
            go_wp2_with (at_builtin; refine wpList_append_all rfl (.tmp 34) (.tmp 37) 34 rfl wr.heap.size 3 i0 (.int .i64 0) 8 Tryd.underlying34 hi hz0 hz1 hz2 rfl _ _ _ rfl HO3.out (some ⟨g, 0, none⟩) 0 0 (zs.drop k) (by simp [Act.eval]) HDK.out (.inl (List.drop_of_length_le (by have := HZ.out; omega))) (fun h => by cases h) (by unfold maxLen; omega) (by omega) z3 ?_)
            intro r4 d4 w4 ho4 hg4
            have B4 : Below wr.heap.size wr w4 := B3.grown hg4 z3 (fun j hj => (HO3.out.lt j hj).1)
            have HO4 := Hid.mk ho4
            clear ho4 hg4 HO3
            go_wp2
            go_ret
            refine ⟨r4, k + 1, d4, rfl, ?_, ?_, B4⟩
            · rw [HS.out, List.length_append, List.length_cons, HTK.out, HDK.out]
            · have h9 := owns_mono HO4.out hB
              rw [HS.out, List.map_append, List.map_cons]
              simpa using h9
          · skip
            have hkn : k ≤ n := hk
            have HTK : Hid ((zs.take k).length = k) := by show _ = _; rw [List.length_take, HZ.out]; omega
            have HDK : Hid ((zs.drop k).length = n - k) := by show _ = _; rw [List.length_drop, HZ.out]
            go_wp2_with (at_builtin; refine wpList_append_all rfl (.tmp 25) (.tmp 28) 34 rfl wr.heap.size 3 i0 (.int .i64 0) 8 Tryd.underlying34 hi hz0 hz1 hz2 rfl (.slice none 0 0) 0 [] rfl (World.ownsRow_nil _ _ _ _) (some ⟨g, 0, none⟩) k c (zs.take k) (by simp [Act.eval]) HTK.out (at_take k HAT.out) (fun h => by cases h) (by unfold maxLen; omega) (by omega) (Nat.le_refl _) ?_)
            intro r2 d2 w2 ho2 hg2
            have B2 : Below wr.heap.size wr w2 := (Below.refl _ _).grown hg2 (Nat.le_refl _) (fun j hj => by cases hj)
            have HO2 := Hid.mk ho2
            have z2 := B2.size
            clear ho2 hg2
            go_wp2_with (at_builtin; refine wpList_append_lies _ rfl (.tmp 30) (.tmp 32) 34 rfl wr.heap.size 3 i0 (.int .i64 0) 1 8 Tryd.underlying34 hi hz0 hz1 hz2 rfl (by decide) _ _ _ rfl (HO2.out.alloc _) ⟨w2.heap.size, 0, none⟩ 1 1 [.int .i64 x] rfl rfl (news_at w2 _ _) (by intro u hu; simp at hu; subst hu; rfl) (by decide) (by unfold maxLen; omega) (by omega) (by simp; omega) (w2.heap.size + 1) (by simp) ?_)
            intro g3 cap3 w3 ho3 hg3 hat3 hlt3
            have B3 : Below wr.heap.size wr w3 := (B2.alloc z2 _).grown hg3 (by simp; omega) (fun j hj => (HO2.out.lt j hj).1)
            have HO3 := Hid.mk ho3
            have z3 := B3.size
            clear ho3 hg3 hat3 HO2
            go_wp2_with (at_builtin; refine wpList_append_all rfl (.tmp 34) (.tmp 37) 34 rfl wr.heap.size 3 i0 (.int .i64 0) 8 Tryd.underlying34 hi hz0 hz1 hz2 rfl _ _ _ rfl HO3.out (some ⟨g, 0 + k, none⟩) (n - k) (c - k) (zs.drop k) (by simp [Act.eval]) HDK.out (at_drop k (At.below HAT.out B3)) (fun h => by cases h) (by unfold maxLen; omega) (by omega) z3 ?_)
            intro r4 d4 w4 ho4 hg4
            have B4 : Below wr.heap.size wr w4 := B3.grown hg4 z3 (fun j hj => (HO3.out.lt j hj).1)
            have HO4 := Hid.mk ho4
            clear ho4 hg4 HO3
            go_wp2
            go_ret
            refine ⟨r4, k + 1 + (n - k), d4, rfl, ?_, ?_, B4⟩
            · rw [HS.out, List.length_append, List.length_cons, HTK.out, HDK.out]; omega
            · have h9 := owns_mono HO4.out hB
              rw [HS.out, List.map_append, List.map_cons]
              simpa using h9

end Go.Proofs.YtociphdhkjoofaaDoor
