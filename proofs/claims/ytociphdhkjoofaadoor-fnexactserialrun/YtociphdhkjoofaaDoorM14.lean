/- Several texts of one proof, in build order: SoM, SnM, IntE, IntM. -/
import Derived.Test.YtociphdhkjoofaaDoorM5
import Derived.Test.YtociphdhkjoofaaDoorM13
import Derived.Test.YtociphdhkjoofaaDoorM7
import Derived.Test.YtociphdhkjoofaaDoorM3

/- Contracts of spec.l13Txns, spec.l13Order, spec.SerialOrder. -/
namespace Go.Proofs.YtociphdhkjoofaaDoor
open Go.RowKit

def lenW : Value → Nat
  | .slice _ n _ => n
  | _ => 0

set_option maxRecDepth 100000 in
set_option maxHeartbeats 1000000 in
theorem l13Txns_any (a : Option Addr) (n c : Nat) (xs : List TStep) (w : World) (hz : xs.length = n) (hg : gpB xs = true) (ha : At w a (flStep xs)) :
    Calls Tryd.prog 35 #[.slice a n c] w fun e w' => ∃ r m d, e = .returned (.slice r m d) ∧ (bl (txS xs)).length = m ∧ w'.ownsRow w.heap.size 3 1 (.slice r m d) m ((bl (txS xs)).map (.int .i64)) ∧ Below w.heap.size w w' := by
  have hn40 : n ≤ 40 := by have := gp_len hg; omega
  have HZ := Hid.mk hz
  have HA := Hid.mk ha
  have HG := Hid.mk hg
  clear hz ha hg
  go_enter Tryd.func35, Tryd.ntmps35
  go_wp2_with fail
  go_loopw [3, 8] (fun p i wr => ∃ (k m : Nat) (r : Option Addr) (d : Nat), k ≤ n ∧ i = .int .i64 k ∧ p = .slice r m d ∧ (bl (txS (xs.take k))).length = m ∧ wr.ownsRow w.heap.size 3 1 (.slice r m d) m ((bl (txS (xs.take k))).map (.int .i64)) ∧ Below w.heap.size w wr) (fun _ i _ => n - (intOf i).toNat)
  case atStart => exact ⟨0, 0, none, 0, Nat.zero_le _, rfl, rfl, by rw [List.take_zero]; decide, by rw [List.take_zero, show bl (txS []) = [] by decide]; exact World.ownsRow_nil _ _ _ _, Below.refl _ _⟩
  case round =>
    obtain ⟨k, m, r, d, hk, rfl, rfl, hm, ho, hbw⟩ := hrel
    obtain ⟨wY, rfl⟩ : ∃ x, x = wr := ⟨_, rfl⟩
    by_cases hlt : k < n
    · obtain ⟨⟨x0, x1, x2⟩, hx⟩ : ∃ x, xs[k]? = some x := ⟨_, List.getElem?_eq_getElem (by have := HZ.out; omega)⟩
      obtain ⟨b, off, rfl, hb, hc⟩ := flStep_some HA.out (by have := HZ.out; omega)
      obtain ⟨c0, c1, c2⟩ := hc k _ hx
      have c0 := (hbw.cell hb).trans c0
      have c1 := (hbw.cell hb).trans c1
      have c2 := (hbw.cell hb).trans c2
      have hgx := gp_at HG.out hx
      simp only at c0 c1 c2 hgx
      have hki : (k : Int) < (n : Int) := by omega
      have hm6 : m ≤ 6 := by rw [← hm]; exact bl_len _
      obtain ⟨S, hS⟩ : ∃ S, txS (xs.take k) = S := ⟨_, rfl⟩
      have hS6 : S < 64 := by rw [← hS]; exact txS_lt fun y hy => (gp_txn HG.out y (List.mem_of_mem_take hy)).2
      rw [hS] at hm ho
      have HN : Hid (bl (txS (xs.take (k + 1))) = insI (bl S) x0) := Hid.mk (by rw [txS_take hx, hS, insI_bl hS6 hgx.1 hgx.2.1])
      obtain ⟨V, hV⟩ : ∃ V, V = wY.alloc (.cells #[.int .i64 x0, .int .i64 x1, .int .i64 x2] 46) := ⟨_, rfl⟩
      have v0 : V.cell? ⟨wY.heap.size, 0, none⟩ = some (.int .i64 x0) := by rw [hV]; simp
      have hbV : Below wY.heap.size wY V := by rw [hV]; exact (Below.refl _ _).alloc (Nat.le_refl _) _
      have HB := Hid.mk (hbw.trans (hbV.mono hbw.size))
      have KP := Hid.mk (l7Put_any w.heap.size r m d (bl S) x0 V hm (by omega) HB.out.size (owns_below ho hbV))
      clear hc hx hS hbw hgx hbV hm ho
      go_upto_region 5 with fail
      rw [← hV]
      clear hV c0 c1 c2
      go_wp2_with fail
      refine KP.out.mono ?_
      rintro e w2 ⟨r2, m2, d2, rfl, hm2, ho2, hb2⟩
      have HM2 : Hid ((bl (txS (xs.take (k + 1)))).length = m2) := Hid.mk (by rw [HN.out]; exact hm2)
      have HO2 : Hid (w2.ownsRow w.heap.size 3 1 (.slice r2 m2 d2) m2 ((bl (txS (xs.take (k + 1)))).map (.int .i64))) := Hid.mk (by rw [HN.out]; exact ho2)
      have HB2 := Hid.mk (HB.out.trans (hb2.mono HB.out.size))
      clear hm2 ho2 hb2 KP
      go_wp2
      go_roundw
      case rel => exact ⟨k + 1, m2, r2, d2, by omega, by go_num, rfl, HM2.out, HO2.out, HB2.out⟩
      case measure => simp [intOf]; omega
    · obtain rfl : k = n := by omega
      have hki : ¬ (k : Int) < (k : Int) := by omega
      rw [List.take_of_length_le (by have := HZ.out; omega)] at hm ho
      have HM := Hid.mk hm
      have HO := Hid.mk ho
      clear hm ho
      go_wp2
      go_ret
      exact ⟨r, m, d, rfl, HM.out, HO.out, hbw⟩

theorem find_none_at {p : Int → Bool} {l : List Int} (h : ∀ (i : Nat) (x : Int), l[i]? = some x → p x = false) : l.find? p = none := by
  rw [List.find?_eq_none]
  intro x hx
  obtain ⟨i, hi, rfl⟩ := List.mem_iff_getElem.1 hx
  rw [h i _ (List.getElem?_eq_getElem hi)]; simp
theorem find_some_at {p : Int → Bool} {l : List Int} {j : Nat} {t : Int} (hno : ∀ (i : Nat) (x : Int), i < j → l[i]? = some x → p x = false) (h : l[j]? = some t) (hp : p t = true) : l.find? p = some t := by
  obtain ⟨hj, rfl⟩ := List.getElem?_eq_some_iff.1 h
  rw [List.find?_eq_some_iff_getElem]
  refine ⟨hp, j, hj, rfl, fun i hi => ?_⟩
  rw [hno i _ hi (List.getElem?_eq_getElem (by omega))]; rfl
theorem all_take {p : Int → Bool} {l : List Int} {j : Nat} {t : Int} (h : l[j]? = some t) : (l.take (j + 1)).all p = ((l.take j).all p && p t) := by
  obtain ⟨hj, rfl⟩ := List.getElem?_eq_some_iff.1 h
  rw [List.take_succ_eq_append_getElem hj, List.all_append]; simp

set_option maxRecDepth 100000 in
set_option maxHeartbeats 4000000 in
theorem l13Order_any (a : Option Addr) (n c : Nat) (xs : List TStep) (w : World) (hz : xs.length = n) (hnc : n ≤ c) (hg : gpB xs = true) (ha : At w a (flStep xs)) :
    Calls Tryd.prog 31 #[.slice a n c] w fun e w' => OdRet e w' w.heap.size (ordO (cfL xs) 6 (txS xs)).2 (ordO (cfL xs) 6 (txS xs)).1 ∧ Below w.heap.size w w' := by
  obtain ⟨i0, hi0, hx0, hx1, hx2⟩ := info_parts Tryd.infoInt
  have KC := Hid.mk (l13Conflicts_any a n c xs w hz hnc hg ha)
  have H6 : Hid (Six (cfL xs)) := Hid.mk (cfO_six (fun y hy => (gp_txn hg y hy).2) _)
  have HTX : Hid (txS xs < 64) := Hid.mk (txS_lt fun y hy => (gp_txn hg y hy).2)
  have KT : Hid (∀ w1 : World, Below w.heap.size w w1 → Calls Tryd.prog 35 #[.slice a n c] w1 fun e w' => ∃ r m d, e = .returned (.slice r m d) ∧ (bl (txS xs)).length = m ∧ w'.ownsRow w1.heap.size 3 1 (.slice r m d) m ((bl (txS xs)).map (.int .i64)) ∧ Below w1.heap.size w1 w') := Hid.mk (fun w1 h => l13Txns_any a n c xs w1 hz hg (At.below ha h))
  obtain ⟨cs, hcs⟩ : ∃ cs, cfL xs = cs := ⟨_, rfl⟩
  obtain ⟨T, hT⟩ : ∃ T, txS xs = T := ⟨_, rfl⟩
  rw [hcs] at KC H6 ⊢
  rw [hT] at KT HTX ⊢
  clear hz hg ha hcs hT
  go_enter Tryd.func31, Tryd.ntmps31
  go_wp2_with fail
  refine KC.out.mono ?_
  rintro e w1 ⟨⟨G, rfl, hwG, hr1⟩, hb1⟩
  have K2 := Hid.mk (KT.out w1 hb1)
  have HR1 := Hid.mk hr1
  have HB1 := Hid.mk hb1
  clear KC KT hr1 hb1
  go_wp2_with fail
  refine K2.out.mono ?_
  rintro e w2 ⟨r0, m0, d0, rfl, hm0, ho0, hb2⟩
  have HR2 := Hid.mk (HR1.out.below hb2)
  have HB2 := Hid.mk (HB1.out.trans (hb2.mono HB1.out.size))
  have HM0 := Hid.mk hm0
  have HA0 := Hid.mk (At.owned ho0)
  clear K2 HR1 HB1 hm0 ho0 hb2
  go_wp2_with fail
  go_loopw [5, 6] (fun p q wr => ∃ (L f : Nat) (acc : List Int) (lr : Option Addr) (lm ld : Nat) (r : Option Addr) (m d : Nat), L < 64 ∧ p = .slice lr lm ld ∧ q = .slice r m d ∧ (bl L).length = lm ∧ At wr lr (bl L) ∧ acc.length = m ∧ m + f = 6 ∧ lm ≤ f ∧ (ordO cs 6 T).1 = acc ++ (ordO cs f L).1 ∧ (ordO cs 6 T).2 = (ordO cs f L).2 ∧ wr.ownsRow w2.heap.size 3 1 (.slice r m d) m (acc.map (.int .i64)) ∧ (∀ b off, lr = some ⟨b, off, none⟩ → (Value.slice r m d).ownBlock ≠ some b) ∧ Below w2.heap.size w2 wr) (fun p _ _ => lenW p)
  case atStart => exact ⟨T, 6, [], r0, m0, d0, none, 0, 0, HTX.out, rfl, rfl, HM0.out, HA0.out, rfl, rfl, by rw [← HM0.out]; exact bl_len T, rfl, rfl, World.ownsRow_nil _ _ _ _, (fun b off _ h => by cases h), Below.refl _ _⟩
  case round =>
    clear HM0 HA0
    obtain ⟨L, f, acc, lr, lm, ld, r, m, d, hL, rfl, rfl, hlm, hat, hacc, hmf, hLf, h1, h2, ho, hsep, hbw2⟩ := hrel
    have hbw := HB2.out.trans (hbw2.mono HB2.out.size)
    have hrw := HR2.out.below hbw2
    obtain ⟨wY, rfl⟩ : ∃ x, x = wr := ⟨_, rfl⟩
    by_cases hL0 : lm = 0
    · subst hL0
      obtain rfl : L = 0 := (bl_nil6 L hL).1 (List.eq_nil_of_length_eq_zero hlm)
      rw [ordO_zero] at h1 h2
      have HR : Hid (OdRet (.returned (.tuple #[.slice r m d, .bool true])) wY w.heap.size (ordO cs 6 T).2 (ordO cs 6 T).1) := Hid.mk (by
        rw [h1, h2]
        exact ⟨r, m, d, rfl, by simpa using hacc, by simpa using owns_mono ho HB2.out.size⟩)
      clear h1 h2 ho hrw hat hlm
      go_wp2
      refine bodyPost_ret (v := .tuple #[.slice r m d, .bool true]) (by simp [results, Tryd.results31, go_sem]) rfl ⟨HR.out, hbw⟩
    · have hLne : L ≠ 0 := fun e => hL0 (by rw [← hlm, e]; decide)
      obtain ⟨f', rfl⟩ : ∃ f', f = f' + 1 := ⟨f - 1, by omega⟩
      have hlmp : 0 < lm := by omega
      have hlmi : (0 : Int) < (lm : Int) := by omega
      have hlm6 : lm ≤ 6 := by rw [← hlm]; exact bl_len L
      obtain ⟨lb, loff, rfl, _, hlc⟩ := hat.some (by omega)
      have H1 := Hid.mk h1
      have H2 := Hid.mk h2
      have HO := Hid.mk ho
      have HB := Hid.mk hbw
      have HAC := Hid.mk hacc
      have HLM := Hid.mk hlm
      have HLC := Hid.mk hlc
      have HRW := Hid.mk hrw
      have HAT := Hid.mk hat
      have hm6 : m ≤ 6 := by omega
      have zw : w2.heap.size ≤ wY.heap.size := hbw2.size
      have HSEP := Hid.mk (hsep lb loff rfl)
      have HBW2 := Hid.mk hbw2
      clear h1 h2 ho hbw hacc hlm hlc hrw hat hsep hbw2
      have HCX : Hid (∀ (j : Nat) (x : Int), (bl L)[j]? = some x → wY.cell? ⟨lb, loff + j, none⟩ = some (.int .i64 x)) := Hid.mk (fun j x hx => by
        rw [HLC.out j (List.getElem?_eq_some_iff.1 hx).1]; simp [List.getD, hx])
      go_wp2_with fail
      go_loopw [7, 22] (fun p i wr => ∃ (j : Nat), j ≤ lm ∧ i = .int .i64 j ∧ p = .int .i64 (-1) ∧ (∀ (i : Nat) (x : Int), i < j → (bl L)[i]? = some x → fre cs L x = false) ∧ wr = wY) (fun _ i _ => lm - (intOf i).toNat)
      case atStart => exact ⟨0, Nat.zero_le _, rfl, rfl, fun i x hi => by omega, rfl⟩
      case round =>
        obtain ⟨j, hj, rfl, rfl, hno, rfl⟩ := hrel
        obtain ⟨wY, rfl⟩ : ∃ x, x = wr := ⟨_, rfl⟩
        by_cases hlt : j < lm
        · obtain ⟨t, ht⟩ : ∃ x, (bl L)[j]? = some x := ⟨_, List.getElem?_eq_getElem (by have := HLM.out; omega)⟩
          have hct := HCX.out j t ht
          have hti := bl_in (List.mem_of_getElem? ht)
          have hji : (j : Int) < (lm : Int) := by omega
          have HNO := Hid.mk hno
          have HTT := Hid.mk ht
          clear hno ht
          go_wp2_with fail
          go_loopw [10, 28] (fun p i wr => ∃ (q : Nat), q ≤ lm ∧ i = .int .i64 q ∧ p = .bool (((bl L).take q).all fun o => !decide (t ∈ bl (cs.getD o.toNat 0))) ∧ wr = wY) (fun _ i _ => lm - (intOf i).toNat)
          case atStart => exact ⟨0, Nat.zero_le _, rfl, rfl, rfl⟩
          case round =>
            obtain ⟨q, hq, rfl, rfl, rfl⟩ := hrel
            obtain ⟨wY, rfl⟩ : ∃ x, x = wr := ⟨_, rfl⟩
            by_cases hqm : q < lm
            · obtain ⟨o, hoq⟩ : ∃ x, (bl L)[q]? = some x := ⟨_, List.getElem?_eq_getElem (by have := HLM.out; omega)⟩
              have hco := HCX.out q o hoq
              have hoi := bl_in (List.mem_of_getElem? hoq)
              obtain ⟨u, rfl⟩ : ∃ u : Nat, o = (u : Int) := ⟨o.toNat, by omega⟩
              have hu6 : u < 6 := by omega
              have hqi : (q : Int) < (lm : Int) := by omega
              have HTK := Hid.mk (all_take (p := fun o => !decide (t ∈ bl (cs.getD o.toNat 0))) hoq)
              simp only [Int.toNat_natCast] at HTK
              obtain ⟨cr, cm, cd, hcc, _, hcl, hco2⟩ := HRW.out.cell (t := u) (by rw [H6.out.1]; exact hu6)
              have KH := Hid.mk (l1Has_any cr cm cd (bl (cs.getD u 0)) t wY hcl (by have := bl_len (cs.getD u 0); omega) (At.owned hco2))
              clear hoq hoi hcl hco2
              cases hb : ((bl L).take q).all fun o => !decide (t ∈ bl (cs.getD o.toNat 0)) with
              | false =>
                rw [hb] at HTK
                go_wp2
                go_roundw
                case rel => exact ⟨q + 1, by omega, by go_num, by rw [HTK.out]; rfl, trivial⟩
                case measure => simp [intOf]; omega
              | true =>
                rw [hb] at HTK
                obtain ⟨v, hv⟩ : ∃ v, decide (t ∈ bl (cs.getD u 0)) = v := ⟨_, rfl⟩
                rw [hv] at KH HTK
                clear hv
                go_wp2_with (go_at_call 34; refine KH.out.mono ?_; rintro e w9 ⟨rfl, hw9⟩; obtain rfl := hw9.symm)
                go_roundw
                case rel => exact ⟨q + 1, by omega, by go_num, by rw [HTK.out]; rfl, trivial⟩
                case measure => simp [intOf]; omega
            · obtain rfl : q = lm := by omega
              have hqi : ¬ (q : Int) < (q : Int) := by omega
              rw [List.take_of_length_le (by have := HLM.out; omega)]
              cases hfr : fre cs L t with
              | false =>
                have HF : Hid (((bl L).all fun o => !decide (t ∈ bl (cs.getD o.toNat 0))) = false) := Hid.mk hfr
                rw [HF.out]
                have HN2 : Hid (∀ (i : Nat) (x : Int), i < j + 1 → (bl L)[i]? = some x → fre cs L x = false) := Hid.mk (fun i x hi hx => by
                  by_cases e : i < j
                  · exact HNO.out i x e hx
                  · obtain rfl : i = j := by omega
                    obtain rfl := Option.some.inj (HTT.out.symm.trans hx)
                    exact hfr)
                go_wp2
                go_roundw
                case rel => exact ⟨j + 1, by omega, by go_num, rfl, HN2.out, trivial⟩
                case measure => simp [intOf]; omega
              | true =>
                have HF : Hid (((bl L).all fun o => !decide (t ∈ bl (cs.getD o.toNat 0))) = true) := Hid.mk hfr
                rw [HF.out]
                have hn : nxt cs L = some t := find_some_at HNO.out HTT.out hfr
                have HE := Hid.mk (ordO_some (f := f') hLne hn)
                have htm := nxt_mem hn
                obtain ⟨p, rfl⟩ : ∃ p : Nat, t = (p : Int) := ⟨t.toNat, by omega⟩
                have hp6 : p < 6 := by omega
                rw [Int.toNat_natCast] at HE
                have HLS := Hid.mk (dfN_less L hL p hp6 htm)
                have HWO := Hid.mk (bl_wo L hL p hp6)
                have KW : Hid (∀ w5 : World, At w5 (some ⟨lb, loff, none⟩) (bl L) → Calls Tryd.prog 45 #[.slice (some ⟨lb, loff, none⟩) q ld, .int .i64 (p : Int)] w5 fun e w' => ∃ r m d, e = .returned (.slice r m d) ∧ (woI (bl L) (p : Int)).length = m ∧ w'.ownsRow w5.heap.size 3 1 (.slice r m d) m ((woI (bl L) (p : Int)).map (.int .i64)) ∧ Below w5.heap.size w5 w') := Hid.mk (fun w5 h5 => l11Without_any _ q ld (bl L) (p : Int) w5 HLM.out (by omega) h5)
                have hpi : ¬ (p : Int) < 0 := by omega
                clear hn htm hfr HNO HTT HCX hct
                go_wp2_with (at_builtin; refine wpList_app_vals rfl (.tmp 48) (.tmp 50) 34 rfl w2.heap.size 3 i0 (.int .i64 0) 1 8 Tryd.underlying34 hi0 hx0 hx1 hx2 rfl (by decide) (.slice r m d) m _ rfl (owns_below HO.out ((Below.refl _ _).alloc (Nat.le_refl _) _)) (some ⟨wY.heap.size, 0, none⟩) 1 1 [.int .i64 (p : Int)] rfl rfl (fun ad he => by cases he; simpa using news_at wY #[.int .i64 (p : Int)] 3) (by simp; rfl) (fun h => by cases h) (by unfold maxLen; omega) (by omega) (by simp; omega) ?_)
                intro r5 d5 w5 ho5 hg5 ht5
                have hB5 : Below w2.heap.size wY w5 := ((Below.refl _ _).alloc zw _).grown hg5 (by simp; omega) (fun j hj => (HO.out.lt j hj).1)
                have hO5 : Off (fun b => (Value.slice r m d).ownBlock = some b) wY w5 := (Off.below ((Below.refl _ _).alloc (Nat.le_refl _) _)).trans (Off.grown hg5 (fun k hk => hk))
                have HB5 := Hid.mk (HBW2.out.trans (hB5.mono (Nat.le_refl _)))
                have HO5 : Hid (w5.ownsRow w2.heap.size 3 1 (.slice r5 (m + 1) d5) (m + 1) ((acc ++ [(p : Int)]).map (.int .i64))) := Hid.mk (by rw [List.map_append]; exact ho5)
                have K5 := Hid.mk (KW.out w5 (.inr ⟨lb, loff, rfl, fun i hi => hO5.cell (HLC.out i hi) HSEP.out⟩))
                clear ho5 hg5 ht5 hB5 hO5 HO KW
                go_wp2_with fail
                refine K5.out.mono ?_
                rintro e w6 ⟨r6, m6, d6, rfl, hm6', ho6, hb6⟩
                rw [HWO.out] at hm6' ho6
                have HM6 := Hid.mk hm6'
                have HA6 := Hid.mk (At.owned ho6)
                have HO6 := Hid.mk (owns_below HO5.out hb6)
                have HB6 := Hid.mk (HB5.out.trans (hb6.mono HB5.out.size))
                have HS6 : Hid (∀ b off, r6 = some ⟨b, off, none⟩ → (Value.slice r5 (m + 1) d5).ownBlock ≠ some b) := Hid.mk (fun b off e h => by
                  have h1 := (HO5.out.lt b h).2
                  subst e
                  have h2 := (ho6.lt b rfl).1
                  omega)
                have hm6l : m6 + 1 = q := by have := HLS.out.2; have := HLM.out; omega
                clear hm6' ho6 hb6 K5 HO5 HB5
                go_wp2
                go_roundw
                case rel =>
                  refine ⟨dfN L (2 ^ p), f', acc ++ [(p : Int)], r6, m6, d6, r5, m + 1, d5, by have := HLS.out.1; omega, rfl, rfl, HM6.out, HA6.out, by simp [HAC.out], by omega, by omega, ?_, ?_, HO6.out, HS6.out, HB6.out⟩
                  · rw [H1.out, HE.out]; simp
                  · rw [H2.out, HE.out]
                case measure => simp [lenW]; omega
        · obtain rfl : j = lm := by omega
          have hji : ¬ (j : Int) < (j : Int) := by omega
          have hn : nxt cs L = none := find_none_at (fun i x hx => hno i x (by have := (List.getElem?_eq_some_iff.1 hx).1; have := HLM.out; omega) hx)
          have HE := Hid.mk (ordO_none (f := f') hLne hn)
          have HR : Hid (OdRet (.returned (.tuple #[.slice none 0 0, .bool false])) wY w.heap.size (ordO cs 6 T).2 (ordO cs 6 T).1) := Hid.mk (by
            rw [H1.out, H2.out, HE.out]
            exact ⟨none, 0, 0, rfl, rfl, World.ownsRow_nil _ _ _ _⟩)
          clear hno hn
          go_wp2
          refine bodyPost_ret (v := .tuple #[.slice none 0 0, .bool false]) (by simp [results, Tryd.results31, go_sem]) rfl ⟨HR.out, HB.out⟩

set_option maxRecDepth 100000 in
set_option maxHeartbeats 1000000 in
theorem specSerialOrder (a : Option Addr) (n c : Nat) (xs : List TStep) (w : World) (hz : xs.length = n) (hn : n ≤ 1048576) (hnc : n ≤ c) (ha : At w a (flStep xs)) :
    Calls Tryd.prog 15 #[.slice a n c] w fun e w' => SoRet e w' w.heap.size (soV xs) (gpB xs) (soL xs) ∧ Below w.heap.size w w' := by
  have KG := Hid.mk (specGoodSteps a n c xs w hz (by omega) ha)
  have HZ := Hid.mk hz
  have HA := Hid.mk ha
  clear hz ha
  go_enter Tryd.func15, Tryd.ntmps15
  go_wp2_with fail
  refine KG.out.mono ?_
  rintro e w1 ⟨rfl, hb1⟩
  clear KG
  cases hg : gpB xs with
  | false =>
    have HR : Hid (SoRet (.returned (.tuple #[.slice none 0 0, .bool false, .bool false])) w1 w.heap.size (soV xs) (gpB xs) (soL xs)) := Hid.mk (by
      have hv : soV xs = false := by unfold soV; rw [hg]; rfl
      rw [hg, hv, show soL xs = [] by unfold soL; rw [hv]; rfl]
      exact ⟨none, 0, 0, rfl, rfl, World.ownsRow_nil _ _ _ _⟩)
    go_wp2
    refine bodyPost_ret (v := .tuple #[.slice none 0 0, .bool false, .bool false]) (by simp [results, Tryd.results15, go_sem]) rfl ⟨HR.out, hb1⟩
  | true =>
    have KO := Hid.mk (l13Order_any a n c xs w1 HZ.out hnc hg (At.below HA.out hb1))
    have HV : Hid (soV xs = (ordO (cfL xs) 6 (txS xs)).2) := Hid.mk (by unfold soV; rw [hg]; rfl)
    have HG := Hid.mk hg
    have HB1 := Hid.mk hb1
    clear hg hb1
    go_wp2_with fail
    refine KO.out.mono ?_
    rintro e w4 ⟨⟨r, m, d, rfl, hm, ho⟩, hb4⟩
    have HR : Hid (SoRet (.returned (.tuple #[.slice r m d, .bool (ordO (cfL xs) 6 (txS xs)).2, .bool true])) w4 w.heap.size (soV xs) (gpB xs) (soL xs)) := Hid.mk (by
      have e : soL xs = if (ordO (cfL xs) 6 (txS xs)).2 then (ordO (cfL xs) 6 (txS xs)).1 else [] := by unfold soL; rw [HV.out]
      rw [HG.out, HV.out, e]
      exact ⟨r, m, d, rfl, hm, owns_mono ho HB1.out.size⟩)
    have HB4 := Hid.mk (HB1.out.trans (hb4.mono HB1.out.size))
    clear KO ho hb4 hm
    go_wp2
    refine bodyPost_ret (v := .tuple #[.slice r m d, .bool (ordO (cfL xs) 6 (txS xs)).2, .bool true]) (by simp [results, Tryd.results15, go_sem]) rfl ⟨HR.out, HB4.out⟩

end Go.Proofs.YtociphdhkjoofaaDoor

/- Contract of spec.SerialRun. -/
namespace Go.Proofs.YtociphdhkjoofaaDoor
open Go.RowKit

theorem own_types {w : World} {b1 b2 : Nat} {e1 e2 : TypeId} {k1 k2 n1 n2 : Nat} {v1 v2 : Value} {xs1 xs2 : List Value} (h1 : w.ownsRow b1 e1 k1 v1 n1 xs1) (h2 : w.ownsRow b2 e2 k2 v2 n2 xs2) (hne : e1 ≠ e2) {b : Nat} (hb : v1.ownBlock = some b) : v2.ownBlock ≠ some b := by
  intro hb2
  rcases h1.2 with ⟨rfl, _⟩ | ⟨g, cap, cur, rfl, _, hg, _⟩
  · cases hb
  · rcases h2.2 with ⟨rfl, _⟩ | ⟨g', cap', cur', rfl, _, hg', _⟩
    · cases hb2
    · simp only [Value.ownBlock, Option.some.injEq] at hb hb2
      subst hb hb2
      rw [hg] at hg'
      simp only [Option.some.injEq, Obj.cells.injEq] at hg'
      exact hne hg'.2.1
theorem own_other {w w' : World} {b1 b2 : Nat} {e1 e2 : TypeId} {k1 k2 n1 n2 : Nat} {v1 v2 : Value} {xs1 xs2 : List Value} (h1 : w.ownsRow b1 e1 k1 v1 n1 xs1) (h2 : w.ownsRow b2 e2 k2 v2 n2 xs2) (hne : e1 ≠ e2) (hg : w.grownBy w' v2.ownBlock) : w'.ownsRow b1 e1 k1 v1 n1 xs1 :=
  ownsRow_frame h1 (fun _ hb hlt => hg.block _ hlt (fun e => own_types h1 h2 hne hb e.symm))

set_option maxRecDepth 100000 in
set_option maxHeartbeats 4000000 in
theorem specSerialRun (a : Option Addr) (n c : Nat) (xs : List TStep) (oa : Option Addr) (on oc : Nat) (l : List Int) (w : World) (hz : xs.length = n) (hn : n ≤ 1048576) (ha : At w a (flStep xs)) (hl : l.length = on) (hon : on ≤ 1048576) (hoa : At w oa l) :
    Calls Tryd.prog 20 #[.slice a n c, .slice oa on oc] w fun e w' => StepsRet e w' w.heap.size (snB xs l) (snL xs l) ∧ Below w.heap.size w w' := by
  obtain ⟨s0, hs0, ht0, ht1, ht2⟩ := info_parts Tryd.infFStep
  obtain ⟨i0, hi0, hx0, hx1, hx2⟩ := info_parts Tryd.infoInt
  have KG := Hid.mk (specGoodSteps a n c xs w hz (by omega) ha)
  have HZ := Hid.mk hz
  have HAB := Hid.mk ha
  have HL := Hid.mk hl
  have HOA := Hid.mk hoa
  have HNO : Hid (∀ w1 : World, Below w.heap.size w w1 → snB xs l = false → StepsRet (.returned (.tuple #[.slice none 0 0, .bool false])) w1 w.heap.size (snB xs l) (snL xs l) ∧ Below w.heap.size w w1) := Hid.mk (fun w1 hb h => ⟨by unfold snL; rw [h]; exact StepsRet.no, hb⟩)
  clear hz ha hl hoa
  go_enter Tryd.func20, Tryd.ntmps20
  go_wp2_with fail
  refine KG.out.mono ?_
  rintro e w1 ⟨rfl, hb1⟩
  clear KG
  cases hg : gpB xs with
  | false =>
    have HV : Hid (snB xs l = false) := Hid.mk (by unfold snB; rw [hg]; rfl)
    go_wp2
    refine bodyPost_ret (v := .tuple #[.slice none 0 0, .bool false]) (by simp [results, Tryd.results20, go_sem]) rfl (HNO.out _ hb1 HV.out)
  | true =>
  have hn40 : n ≤ 40 := by have := gp_len hg; have := HZ.out; omega
  have HG := Hid.mk hg
  have HSAME := Hid.mk (sn_same hg l)
  have HB1 := Hid.mk hb1
  clear hg hb1
  go_wp2_with fail
  go_loopw [6, 7, 17] (fun s p i wr => ∃ (k m : Nat) (sr : Option Addr) (sd : Nat) (r : Option Addr) (d : Nat), k ≤ on ∧ i = .int .i64 k ∧ s = .slice sr k sd ∧ p = .slice r m d ∧ (l.take k).Nodup ∧ (∀ t ∈ l.take k, t ∈ bl (txS xs)) ∧ wr.ownsRow w.heap.size 3 1 (.slice sr k sd) k ((l.take k).map (.int .i64)) ∧ (oat xs (l.take k)).length = m ∧ wr.ownsRow w.heap.size 46 3 (.slice r m d) m ((flStep (oat xs (l.take k))).map (.int .i64)) ∧ Below w.heap.size w wr) (fun _ _ i _ => on - (intOf i).toNat)
  case atStart => exact ⟨0, 0, none, 0, none, 0, Nat.zero_le _, rfl, rfl, rfl, by simp, by simp, World.ownsRow_nil _ _ _ _, rfl, World.ownsRow_nil _ _ _ _, HB1.out⟩
  case round =>
    clear HB1
    obtain ⟨k, m, sr, sd, r, d, hk, rfl, rfl, rfl, hnd, hall, hsn, hm, ho, hbw⟩ := hrel
    obtain ⟨wY, rfl⟩ : ∃ x, x = wr := ⟨_, rfl⟩
    by_cases hlt : k < on
    · obtain ⟨t, ht⟩ : ∃ x, l[k]? = some x := ⟨_, List.getElem?_eq_getElem (by have := HL.out; omega)⟩
      obtain ⟨ob, ooff, rfl, hob, hoc⟩ := HOA.out.some (by have := HL.out; omega)
      have hct : wY.cell? ⟨ob, ooff + k, none⟩ = some (.int .i64 t) := by
        rw [(hbw.cell hob), hoc k (by have := HL.out; omega)]; simp [List.getD, ht]
      have hki : (k : Int) < (on : Int) := by omega
      have htl : (l.take k).length = k := by rw [List.length_take, HL.out]; omega
      have KH := Hid.mk (l1Has_any sr k sd (l.take k) t wY htl (by omega) (At.owned hsn))
      have HT := Hid.mk ht
      have HND := Hid.mk hnd
      have HALL := Hid.mk hall
      have HSN := Hid.mk hsn
      have HM := Hid.mk hm
      have HO := Hid.mk ho
      have HB := Hid.mk hbw
      clear ht hnd hall hsn hm ho hbw hoc htl
      by_cases hs : t ∈ l.take k
      · have HV : Hid (snB xs l = false) := Hid.mk (by rw [HSAME.out, snQ_no HT.out (.inl hs)]; rfl)
        rw [decide_eq_true hs] at KH
        go_wp2_with (go_at_call 34; refine KH.out.mono ?_; rintro e w9 ⟨rfl, hw9⟩; obtain rfl := hw9.symm)
        refine bodyPost_ret (v := .tuple #[.slice none 0 0, .bool false]) (by simp [results, Tryd.results20, go_sem]) rfl (HNO.out _ HB.out HV.out)
      rw [decide_eq_false hs] at KH
      have KX := Hid.mk (l13Txns_any a n c xs wY HZ.out HG.out (At.below HAB.out HB.out))
      go_wp2_with fail
      refine KH.out.mono ?_
      rintro e w9 ⟨rfl, hw9⟩
      obtain rfl := hw9.symm
      clear hw9 KH
      go_wp2_with fail
      refine KX.out.mono ?_
      rintro e w3 ⟨r3, m3, d3, rfl, hm3, ho3, hb3⟩
      have KH2 := Hid.mk (l1Has_any r3 m3 d3 (bl (txS xs)) t w3 hm3 (by have := bl_len (txS xs); omega) (At.owned ho3))
      have HSN3 := Hid.mk (owns_below HSN.out hb3)
      have HO3 := Hid.mk (owns_below HO.out hb3)
      have HB3 := Hid.mk (HB.out.trans (hb3.mono HB.out.size))
      have zw : w.heap.size ≤ w3.heap.size := HB3.out.size
      clear hm3 ho3 hb3 KX HSN HO HB hct
      by_cases hin : t ∈ bl (txS xs)
      · rw [decide_eq_true hin] at KH2
        have HND2 : Hid ((l.take (k + 1)).Nodup) := Hid.mk ((nodup_snoc HT.out).2 ⟨HND.out, hs⟩)
        have HTK : Hid (l.take (k + 1) = l.take k ++ [t]) := Hid.mk (by obtain ⟨hk9, h9⟩ := List.getElem?_eq_some_iff.1 HT.out; rw [List.take_succ_eq_append_getElem hk9, h9])
        have HALL2 : Hid (∀ u ∈ l.take (k + 1), u ∈ bl (txS xs)) := Hid.mk (fun u hu => by
          rw [HTK.out] at hu
          rcases List.mem_append.1 hu with h | h
          · exact HALL.out u h
          · rw [List.mem_singleton.1 h]; exact hin)
        have HOAT := Hid.mk (oat_take (xs := xs) HT.out)
        have hA40 : (oat xs (l.take k)).length ≤ 40 := Nat.le_trans (oat_most HND.out) (by have := HZ.out; omega)
        obtain ⟨A, hA⟩ : ∃ A, oat xs (l.take k) = A := ⟨_, rfl⟩
        rw [hA] at HOAT hA40 HM HO3
        obtain ⟨LS, hLS⟩ : ∃ LS, (l.take k).map (Value.int .i64) = LS := ⟨_, rfl⟩
        have HLS : Hid ((l.take (k + 1)).map (Value.int .i64) = LS ++ [.int .i64 t]) := Hid.mk (by rw [HTK.out, List.map_append, hLS]; rfl)
        rw [hLS] at HSN3
        clear hA hLS HTK
        go_wp2_with fail
        refine KH2.out.mono ?_
        rintro e w9 ⟨rfl, hw9⟩
        obtain rfl := hw9.symm
        clear hw9 KH2
        go_wp2_with (at_builtin; refine wpList_app_vals rfl (.tmp 31) (.tmp 33) 34 rfl w.heap.size 3 i0 (.int .i64 0) 1 8 Tryd.underlying34 hi0 hx0 hx1 hx2 rfl (by decide) (.slice sr k sd) k LS rfl (owns_below HSN3.out ((Below.refl _ _).alloc (Nat.le_refl _) _)) (some ⟨w3.heap.size, 0, none⟩) 1 1 [.int .i64 t] rfl rfl (fun ad he => by cases he; simpa using news_at w3 #[.int .i64 t] 3) (by simp; rfl) (fun h => by cases h) (by unfold maxLen; omega) (by omega) (by simp; omega) ?_)
        intro sr2 sd2 w4 ho4 hg4 ht4
        have HB : Hid (Below w.heap.size w w4) := (HB3.out.alloc zw _).grown hg4 (by simp; omega) (fun j hj => (HSN3.out.lt j hj).1)
        have HSN : Hid (w4.ownsRow w.heap.size 3 1 (.slice sr2 (k + 1) sd2) (k + 1) ((l.take (k + 1)).map (.int .i64))) := Hid.mk (by rw [HLS.out]; exact ho4)
        have HO : Hid (w4.ownsRow w.heap.size 46 3 (.slice r m d) m ((flStep A).map (.int .i64))) := Hid.mk (own_other (owns_below HO3.out ((Below.refl _ _).alloc (Nat.le_refl _) _)) (owns_below HSN3.out ((Below.refl _ _).alloc (Nat.le_refl _) _)) (by decide) hg4)
        clear ho4 hg4 ht4 HSN3 HO3 HB3 HLS zw
        obtain ⟨sr, rfl⟩ : ∃ x, x = sr2 := ⟨_, rfl⟩
        obtain ⟨sd, rfl⟩ : ∃ x, x = sd2 := ⟨_, rfl⟩
        go_wp2_with fail
        go_loopw [7, 37] (fun p i wr => ∃ (j m : Nat) (r : Option Addr) (d : Nat), j ≤ n ∧ i = .int .i64 j ∧ p = .slice r m d ∧ (A ++ ofT (xs.take j) t).length = m ∧ wr.ownsRow w.heap.size 46 3 (.slice r m d) m ((flStep (A ++ ofT (xs.take j) t)).map (.int .i64)) ∧ wr.ownsRow w.heap.size 3 1 (.slice sr (k + 1) sd) (k + 1) ((l.take (k + 1)).map (.int .i64)) ∧ Below w.heap.size w wr) (fun _ i _ => n - (intOf i).toNat)
        case atStart => exact ⟨0, m, r, d, Nat.zero_le _, rfl, rfl, by rw [List.take_zero, show ofT [] t = [] from rfl, List.append_nil]; exact HM.out, by rw [List.take_zero, show ofT [] t = [] from rfl, List.append_nil]; exact HO.out, HSN.out, HB.out⟩
        case round =>
          clear HM HO HB HSN
          obtain ⟨j, m, r, d, hj, rfl, rfl, hm, ho, hsn, hbw⟩ := hrel
          obtain ⟨wZ, rfl⟩ : ∃ x, x = wr := ⟨_, rfl⟩
          have hofl : (ofT (xs.take j) t).length ≤ 40 := Nat.le_trans (List.length_filter_le _ _) (by rw [List.length_take]; have := HZ.out; omega)
          have hm80 : m ≤ 80 := by rw [← hm, List.length_append]; omega
          by_cases hjn : j < n
          · obtain ⟨⟨x0, x1, x2⟩, hx⟩ : ∃ x, xs[j]? = some x := ⟨_, List.getElem?_eq_getElem (by have := HZ.out; omega)⟩
            obtain ⟨b, off, rfl, hb, hc⟩ := flStep_some HAB.out (by have := HZ.out; omega)
            obtain ⟨c0, c1, c2⟩ := hc j _ hx
            have c0 := (hbw.cell hb).trans c0
            have c1 := (hbw.cell hb).trans c1
            have c2 := (hbw.cell hb).trans c2
            simp only at c0 c1 c2
            have hji : (j : Int) < (n : Int) := by omega
            obtain ⟨V, hV⟩ : ∃ V, V = wZ.alloc (.cells #[.int .i64 x0, .int .i64 x1, .int .i64 x2] 46) := ⟨_, rfl⟩
            have hbV : Below wZ.heap.size wZ V := by rw [hV]; exact (Below.refl _ _).alloc (Nat.le_refl _) _
            have v0 : V.cell? ⟨wZ.heap.size, 0, none⟩ = some (.int .i64 x0) := by rw [hV]; simp
            have v1 : V.cell? ⟨wZ.heap.size, 1, none⟩ = some (.int .i64 x1) := by rw [hV]; simp
            have v2 : V.cell? ⟨wZ.heap.size, 2, none⟩ = some (.int .i64 x2) := by rw [hV]; simp
            have HOV := Hid.mk (owns_below ho hbV)
            have HBV := Hid.mk (hbw.trans (hbV.mono hbw.size))
            have HTK := Hid.mk (ofT_take (t := t) hx)
            have HMV := Hid.mk hm
            have HSV := Hid.mk (owns_below hsn hbV)
            clear hsn
            have zw : w.heap.size ≤ V.heap.size := HBV.out.size
            clear hc hx ho hbw hbV hm hofl
            go_upto_region 14 with fail
            rw [← hV]
            clear hV c0 c1 c2
            by_cases e0 : x0 = t
            · subst e0
              rw [if_pos rfl] at HTK
              have e0' : (x0 == x0) = true := by simp
              obtain ⟨L, hL⟩ : ∃ L, (flStep (A ++ ofT (xs.take j) x0)).map (Value.int .i64) = L := ⟨_, rfl⟩
              have HLL : Hid ((flStep (A ++ ofT (xs.take (j + 1)) x0)).map (Value.int .i64) = L ++ [.int .i64 x0, .int .i64 x1, .int .i64 x2]) := Hid.mk (by rw [HTK.out, ← hL, ← List.append_assoc]; show (flatF enStep _).map _ = _; rw [flatF_snoc, List.map_append]; rfl)
              rw [hL] at HOV
              clear hL
              go_wp2_with (at_builtin; refine wpList_app_vals rfl (.tmp 45) (.tmp 47) 27 rfl w.heap.size 46 s0 (.agg #[.int .i64 0, .int .i64 0, .int .i64 0]) 3 24 Tryd.underlying27 hs0 ht0 ht1 ht2 rfl (by decide) (.slice r m d) m L rfl (owns_below HOV.out ((Below.refl _ _).alloc (Nat.le_refl _) _)) (some ⟨V.heap.size, 0, none⟩) 1 1 [.int .i64 x0, .int .i64 x1, .int .i64 x2] rfl rfl (fun ad he => by cases he; simpa using news_at V #[.int .i64 x0, .int .i64 x1, .int .i64 x2] 46) (by simp; exact ⟨rfl, rfl, rfl⟩) (fun h => by cases h) (by unfold maxLen; omega) (by omega) (by simp; omega) ?_)
              intro r5 d5 w5 ho5 hg5 ht5
              have HB5 : Hid (Below w.heap.size w w5) := (HBV.out.alloc zw _).grown hg5 (by simp; omega) (fun j hj => (HOV.out.lt j hj).1)
              have HO5 : Hid (w5.ownsRow w.heap.size 46 3 (.slice r5 (m + 1) d5) (m + 1) ((flStep (A ++ ofT (xs.take (j + 1)) x0)).map (.int .i64))) := Hid.mk (by rw [HLL.out]; exact ho5)
              have HM5 : Hid ((A ++ ofT (xs.take (j + 1)) x0).length = m + 1) := Hid.mk (by rw [HTK.out, ← List.append_assoc, List.length_append, HMV.out]; rfl)
              have HS5 : Hid (w5.ownsRow w.heap.size 3 1 (.slice sr (k + 1) sd) (k + 1) ((l.take (k + 1)).map (.int .i64))) := Hid.mk (own_other (owns_below HSV.out ((Below.refl _ _).alloc (Nat.le_refl _) _)) (owns_below HOV.out ((Below.refl _ _).alloc (Nat.le_refl _) _)) (by decide) hg5)
              clear ho5 hg5 ht5 HOV HBV HMV v0 v1 v2 HLL HTK
              go_wp2
              go_roundw
              case rel => exact ⟨j + 1, m + 1, r5, d5, by omega, by go_num, rfl, HM5.out, HO5.out, HS5.out, HB5.out⟩
              case measure => simp [intOf]; omega
            · rw [if_neg e0] at HTK
              have e0' : (x0 == t) = false := beq_eq_false_iff_ne.2 e0
              have HO5 : Hid (V.ownsRow w.heap.size 46 3 (.slice r m d) m ((flStep (A ++ ofT (xs.take (j + 1)) t)).map (.int .i64))) := Hid.mk (by rw [HTK.out]; exact HOV.out)
              have HM5 : Hid ((A ++ ofT (xs.take (j + 1)) t).length = m) := Hid.mk (by rw [HTK.out]; exact HMV.out)
              clear HOV HMV HTK
              go_wp2
              go_roundw
              case rel => exact ⟨j + 1, m, r, d, by omega, by go_num, rfl, HM5.out, HO5.out, HSV.out, HBV.out⟩
              case measure => simp [intOf]; omega
          · obtain rfl : j = n := by omega
            have hji : ¬ (j : Int) < (j : Int) := by omega
            rw [List.take_of_length_le (show xs.length ≤ j by have := HZ.out; omega)] at hm ho
            have HM2 : Hid ((oat xs (l.take (k + 1))).length = m) := Hid.mk (by rw [HOAT.out]; exact hm)
            have HO2 : Hid (wZ.ownsRow w.heap.size 46 3 (.slice r m d) m ((flStep (oat xs (l.take (k + 1)))).map (.int .i64))) := Hid.mk (by rw [HOAT.out]; exact ho)
            have HB2 := Hid.mk hbw
            have HS2 := Hid.mk hsn
            clear hsn
            clear hm ho hbw hofl
            go_wp2
            go_roundw
            case rel => exact ⟨k + 1, m, sr, sd, r, d, by omega, by go_num, rfl, rfl, HND2.out, HALL2.out, HS2.out, HM2.out, HO2.out, HB2.out⟩
            case measure => simp [intOf]; omega

      · have HV : Hid (snB xs l = false) := Hid.mk (by rw [HSAME.out, snQ_no HT.out (.inr hin)]; rfl)
        rw [decide_eq_false hin] at KH2
        go_wp2_with (go_at_call 34; refine KH2.out.mono ?_; rintro e w9 ⟨rfl, hw9⟩; obtain rfl := hw9.symm)
        refine bodyPost_ret (v := .tuple #[.slice none 0 0, .bool false]) (by simp [results, Tryd.results20, go_sem]) rfl (HNO.out _ HB3.out HV.out)
    · obtain rfl : k = on := by omega
      have hki : ¬ (k : Int) < (k : Int) := by omega
      rw [List.take_of_length_le (show l.length ≤ k by have := HL.out; omega)] at hm ho hnd hall
      have HQ : Hid (snB xs l = decide ((oat xs l).length = xs.length)) := Hid.mk (by
        rw [HSAME.out, show snQ xs l = true by unfold snQ; simp only [Bool.and_eq_true, decide_eq_true_eq, List.all_eq_true]; exact ⟨hnd, hall⟩]; rfl)
      have HB := Hid.mk hbw
      by_cases hmn : m = n
      · have hmi : ((m : Int) != (n : Int)) = false := by rw [hmn]; simp
        have hv : snB xs l = true := by rw [HQ.out]; exact decide_eq_true (by rw [hm, HZ.out]; exact hmn)
        have HR : Hid (StepsRet (.returned (.tuple #[.slice r m d, .bool true])) wY w.heap.size (snB xs l) (snL xs l)) := Hid.mk (by
          rw [hv, show snL xs l = oat xs l by unfold snL; rw [hv]; rfl]
          exact ⟨r, m, d, rfl, hm, ho⟩)
        subst hmn
        clear hm ho hnd hall hsn hbw hv
        go_wp2
        refine bodyPost_ret (v := .tuple #[.slice r m d, .bool true]) (by simp [results, Tryd.results20, go_sem]) rfl ⟨HR.out, HB.out⟩
      · have hmi : ((m : Int) != (n : Int)) = true := bne_iff_ne.2 (by omega)
        have hmi' : ¬ (m : Int) = (n : Int) := by omega
        have HV : Hid (snB xs l = false) := Hid.mk (by rw [HQ.out]; exact decide_eq_false (by rw [hm, HZ.out]; exact hmn))
        clear hm ho hnd hall hsn hbw
        go_wp2
        refine bodyPost_ret (v := .tuple #[.slice none 0 0, .bool false]) (by simp [results, Tryd.results20, go_sem]) rfl (HNO.out _ HB.out HV.out)

end Go.Proofs.YtociphdhkjoofaaDoor

/- Slices of numbers that are alike are held equal. -/
namespace Go.Proofs.YtociphdhkjoofaaDoor
open Go.RowKit

theorem eqIntS_same (a a' : Option Addr) (n c c' : Nat) (zs : List Int) (w : World) (hz : zs.length = n) (hn : n ≤ 1048576) (ha : At w a zs) (ha' : At w a' zs) :
    Calls Tryd.prog 17 #[.slice a n c, .slice a' n c'] w fun e w' => e = .returned (.bool true) ∧ Below w.heap.size w w' :=
  (eqIntS_any a a' n n c c' zs zs w hz hz hn hn ha ha').mono fun _ _ ⟨h1, h2⟩ => ⟨by rw [h1, decide_eq_true rfl], h2⟩
end Go.Proofs.YtociphdhkjoofaaDoor

/- Slices of numbers, marked, as things that are owned. -/
namespace Go.Proofs.YtociphdhkjoofaaDoor
open Go.RowKit

theorem markInts_rep (F : Nat → Prop) (a : Option Addr) (n c : Nat) (zs : List Int) (m : Int) (w : World) (hn : n ≤ 1048576) (h0 : 0 ≤ m) (h1 : m ≤ 268435456) (ho : RInts.Own w F [.slice a n c] zs) :
    Calls Tryd.prog 18 #[.slice a n c, .int .i64 m] w fun e w' => e = .returned (.int .i64 (m + n)) ∧ RInts.Own w' F [.slice a n c] (mkInts m zs) ∧ Off F w w' := by
  obtain ⟨h2, h3, h4, h5⟩ := RInts.own_iff.1 ho
  refine (markIntS_any 0 a n c _ m w hn h0 (by omega) h4).mono fun e w' ⟨e1, e2, e3⟩ => ⟨e1, RInts.own_iff.2 ⟨by unfold mkInts; rw [marks_length, h2], h3, by unfold mkInts; rw [h2]; exact e2, h5⟩, Off.grown e3 h5⟩
end Go.Proofs.YtociphdhkjoofaaDoor
