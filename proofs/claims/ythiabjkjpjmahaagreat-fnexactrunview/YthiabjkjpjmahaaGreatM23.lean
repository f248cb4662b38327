/- Contract of spec.l6Check. -/
import Derived.Test.YthiabjkjpjmahaaGreatM22
import Derived.Test.YthiabjkjpjmahaaGreatM11
namespace Go.Proofs.YthiabjkjpjmahaaGreat
open Go.RowKit

/-- Some numbers and a yes or no. -/
theorem IntsRet.no {w' : World} {lo : Nat} {v : ViewD} (h : ckB v = false ∧ ckZ v = []) : IntsRet (.returned (.tuple #[.slice none 0 0, .bool false])) w' lo (ckB v) (ckZ v) := by
  rw [h.1, h.2]
  exact ⟨none, 0, 0, rfl, rfl, World.ownsRow_nil _ _ _ _⟩
theorem srcOk_not {ss : List Int} {k : Nat} {x : Int} (hk : ss[k]? = some x) (h : inc x = false) : srcOk ss = false := by
  have : ss.all inc = false := by
   rw [List.all_eq_false]
   exact ⟨x, List.mem_of_getElem? hk, by rw [h]; simp⟩
  simp [srcOk, this]
theorem noMore_not {x : PartD} (h : (x.K ≠ 2 ∧ 0 < x.ts.length) ∨ (x.K ≠ 3 ∧ 0 < x.cs.length) ∨ (x.K ≠ 4 ∧ 0 < x.ps.length) ∨ ((x.K ≠ 4 ∧ x.K ≠ 5 ∧ x.K ≠ 6) ∧ x.B ≠ 0)) : noMore x = false := by
  unfold noMore
  rcases h with h | h | h | h
  ·rw [decide_eq_false h.1, decide_eq_false (by omega : ¬ x.ts.length = 0)]; rfl
  ·rw [decide_eq_false h.1, decide_eq_false (by omega : ¬ x.cs.length = 0)]; simp
  ·rw [decide_eq_false h.1, decide_eq_false (by omega : ¬ x.ps.length = 0)]; simp
  ·rw [decide_eq_false (by omega : ¬ (x.K = 4 ∨ x.K = 5 ∨ x.K = 6)), decide_eq_false h.2]; simp
theorem partW_more {ss ah : List Int} {x : PartD} (h : noMore x = false) : partW ss ah x = none := by unfold partW; rw [h]; rfl
theorem partW_yes {ss ah : List Int} {x : PartD} (h : noMore x = true) : partW ss ah x = widthP ss ah x := by unfold partW; rw [h]; rfl
theorem noMore_yes {x : PartD} (h1 : x.K = 2 ∨ x.ts.length = 0) (h2 : x.K = 3 ∨ x.cs.length = 0) (h3 : x.K = 4 ∨ x.ps.length = 0) (h4 : (x.K = 4 ∨ x.K = 5 ∨ x.K = 6) ∨ x.B = 0) : noMore x = true := by
  unfold noMore
  simp only [Bool.and_eq_true, Bool.or_eq_true, decide_eq_true_eq]
  exact ⟨h1, h2, h3, h4⟩
theorem numAt_out {l : List Int} {i : Int} {n : Nat} (hl : l.length = n) (h : ¬ i < 0) (h' : ¬ (n : Int) ≤ i) : ∃ k : Nat, i = k ∧ k < n ∧ numAt l i = some (l.getD k 0) ∧ l[k]? = some (l.getD k 0) := by
  have hk : i.toNat < l.length := by omega
  refine ⟨i.toNat, by omega, by omega, ?_, by simp [List.getD, hk]⟩
  have := numAt_yes hk
  rw [show ((i.toNat : Nat) : Int) = i by omega] at this
  exact this

set_option maxRecDepth 100000 in
set_option maxHeartbeats 64000000 in
theorem l6Check_any (sa : Option Addr) (sn sc : Nat) (pa : Option Addr) (pn pc : Nat) (ss : List Int) (xs : List PartD) (w : World) (hsz : ss.length = sn) (hsn : sn ≤ 1048576) (hz : xs.length = pn) (hn : pn ≤ 1048576) (hs : ∀ (i : Nat) (x : PartD), xs[i]? = some x → SmPart x) (hsa : At w sa ss) (ha : AtSl RPart w pa xs) :
   Calls Tryz.prog 35 #[.agg #[.slice sa sn sc, .slice pa pn pc]] w fun e w' => IntsRet e w' w.heap.size (ckB (ss, xs)) (ckZ (ss, xs)) ∧ Below w.heap.size w w' := by
  obtain ⟨i0, hi, hz0, hz1, hz2⟩ := info_parts Tryz.infoInt
  obtain ⟨W, hW⟩ : ∃ W, W = w.alloc (.cells #[.slice sa sn sc, .slice pa pn pc] 26) := ⟨_, rfl⟩
  have B0 : Below w.heap.size w W := by rw [hW]; exact (Below.refl _ _).alloc (Nat.le_refl _) _
  have b0 : W.heap[w.heap.size]? = some (.cells #[.slice sa sn sc, .slice pa pn pc] 26 (0, 0)) := by rw [hW]; exact heap_alloc_new w _
  have HS := Hid.mk hs
  have HSA := Hid.mk hsa
  have HA := Hid.mk ha
  have HSZ := Hid.mk hsz
  have HZ := Hid.mk hz
  clear hs hsa ha hsz hz
  go_enter Tryz.func35, Tryz.ntmps35
  go_upto_region 2 with fail
  rw [← hW]
  clear hW
  go_loopw [15] (fun i wr => ∃ (k : Nat), k ≤ sn ∧ i = .int .i64 k ∧ (ss.take k).all inc = true ∧ Below W.heap.size W wr) (fun i _ => sn - (intOf i).toNat)
  case atStart => exact ⟨0, Nat.zero_le _, rfl, rfl, Below.refl _ _⟩
  case round =>
   obtain ⟨k, hk, rfl, hall, hbw⟩ := hrel
   have HBW : Hid (Below w.heap.size w wr) := B0.trans (hbw.mono B0.size)
   by_cases hlt : k < sn
   ·obtain ⟨b, off, hsa, hb, hc⟩ := At.some HSA.out (by rw [HSZ.out]; omega)
    subst hsa
    have hcx := cell_later HBW.out (hc k (by rw [HSZ.out]; omega))
    have hki : (k : Int) < (sn : Int) := by omega
    have HT := Hid.mk (all_take_succ (p := inc) (l := ss) (k := k) (by rw [HSZ.out]; omega))
    have hkl : k < ss.length := by rw [HSZ.out]; omega
    have hgk : ss[k]? = some (ss.getD k 0) := by simp [List.getD, hkl]
    have HM : Hid (inc (ss.getD k 0) = false → checkV (ss, xs) = none) := fun h => checkV_src (srcOk_not hgk h)
    clear hkl hgk
    have HAL := Hid.mk hall
    have HB := Hid.mk hbw
    obtain ⟨x, hx⟩ : ∃ x, x = ss.getD k 0 := ⟨_, rfl⟩
    rw [← hx] at hcx HT HM
    clear hx hc hall hbw
    go_wp2_with fail
    refine (l1In_any x 0 6 wr).mono ?_
    rintro e w1 ⟨rfl, hw1⟩
    have hb1 : Below wr.heap.size wr w1 := by first | exact hw1 | (rw [hw1]; exact Below.refl _ _)
    clear hw1
    have HIN : Hid (inc x = (decide (0 ≤ x) && decide (x ≤ 6))) := rfl
    have HB1 : Hid (Below W.heap.size W w1) := HB.out.trans (hb1.mono HB.out.size)
    have HBE : Hid (Below w.heap.size w w1) := HBW.out.trans (hb1.mono HBW.out.size)
    clear hb1
    cases hi' : inc x with
    | false =>
     have HN := Hid.mk (HM.out hi')
     have hd : decide (0 ≤ x ∧ x ≤ 6) = false := by rw [Bool.decide_and, ← HIN.out, hi']
     have hd2 : (decide (0 ≤ x) && decide (x ≤ 6)) = false := by rw [← HIN.out, hi']
     (try rw [hd]); (try rw [hd2])
     clear hi' hd hd2
     go_wp2
     exact bodyPost_ret (v := .tuple #[.slice none 0 0, .bool false]) (by simp [results, Tryz.results35, go_sem]) rfl ⟨IntsRet.no (ck_none HN.out), HBE.out⟩
    | true =>
     have HI := Hid.mk hi'
     have hd : decide (0 ≤ x ∧ x ≤ 6) = true := by rw [Bool.decide_and, ← HIN.out, hi']
     have hd2 : (decide (0 ≤ x) && decide (x ≤ 6)) = true := by rw [← HIN.out, hi']
     (try rw [hd]); (try rw [hd2])
     clear hi' hd hd2
     go_wp2
     go_roundw
     case rel => exact ⟨k + 1, by omega, by go_num, by rw [HT.out, HAL.out, HI.out]; rfl, HB1.out⟩
     case measure => simp [intOf]; omega
   ·obtain rfl : k = sn := by omega
    have HALL : Hid (ss.all inc = true) := by show _ = _; rw [List.take_of_length_le (by rw [HSZ.out]; exact Nat.le_refl _)] at hall; exact hall
    replace b0 := blk_below b0 hbw
    have c0 := blk_cell b0 0 (v := .slice sa k sc) rfl
    have c1 := blk_cell b0 1 (v := .slice pa pn pc) rfl
    have zW : w.heap.size < wr.heap.size := World.block_lt_of_cell? _ _ c1
    clear hall hbw
    go_wp2_with fail
    refine (l1In_any k 1 4 wr).mono ?_
    rintro e w1 ⟨rfl, hw1⟩
    have hb1 : Below wr.heap.size wr w1 := by first | exact hw1 | (rw [hw1]; exact Below.refl _ _)
    clear hw1
    have HB1 : Hid (Below w.heap.size w w1) := HBW.out.trans (hb1.mono HBW.out.size)
    replace b0 := blk_below b0 hb1
    replace c0 := cell_later hb1 c0
    replace c1 := cell_later hb1 c1
    have z1 := hb1.size
    clear hb1
    by_cases hs4 : 1 ≤ (k : Int) ∧ (k : Int) ≤ 4
    ·have hd : decide (1 ≤ (k : Int) ∧ (k : Int) ≤ 4) = true := decide_eq_true hs4
     have hd2 : (decide (1 ≤ (k : Int)) && decide ((k : Int) ≤ 4)) = true := by simpa using hs4
     (try rw [hd]); (try rw [hd2])
     have HO : Hid (srcOk ss = true) := by
      show _ = _
      unfold srcOk
      rw [HALL.out, HSZ.out, decide_eq_true (by omega), decide_eq_true (by omega)]; rfl
     clear hd hd2 hs4
     go_wp2_with fail
     refine (l1In_any pn 1 12 w1).mono ?_
     rintro e w2 ⟨rfl, hw2⟩
     have hb2 : Below w1.heap.size w1 w2 := by first | exact hw2 | (rw [hw2]; exact Below.refl _ _)
     clear hw2
     have HB2 : Hid (Below w.heap.size w w2) := HB1.out.trans (hb2.mono HB1.out.size)
     replace b0 := blk_below b0 hb2
     replace c1 := cell_later hb2 c1
     have z2 := hb2.size
     clear hb2 c0
     by_cases hp12 : 1 ≤ (pn : Int) ∧ (pn : Int) ≤ 12
     ·have hd : decide (1 ≤ (pn : Int) ∧ (pn : Int) ≤ 12) = true := decide_eq_true hp12
      have hd2 : (decide (1 ≤ (pn : Int)) && decide ((pn : Int) ≤ 12)) = true := by simpa using hp12
      (try rw [hd]); (try rw [hd2])
      have HC : Hid (checkV (ss, xs) = checkTo ss xs pn) := checkV_to HO.out HZ.out (by omega) (by omega)
      have hlo : 1 ≤ pn := by omega
      have hhi : pn ≤ 12 := by omega
      clear hd hd2 hp12
      go_upto_region 11 with fail
      go_loopw [6, 38] (fun q i wr => ∃ (k : Nat) (r' : Option Addr) (d' : Nat) (ah : List Int), k ≤ pn ∧ i = .int .i64 k ∧ q = .slice r' k d' ∧ checkTo ss xs k = some ah ∧ wr.ownsRow w2.heap.size 3 1 (.slice r' k d') k (ah.map (.int .i64)) ∧ Below w2.heap.size w2 wr) (fun _ i _ => pn - (intOf i).toNat)
      case atStart => exact ⟨0, none, 0, [], Nat.zero_le _, rfl, rfl, rfl, World.ownsRow_nil _ _ _ _, Below.refl _ _⟩
      case round =>
       obtain ⟨j, r', d', ah, hj, rfl, rfl, hck, hoi, hbw⟩ := hrel
       have zr := hbw.size
       have HBW2 : Hid (Below w.heap.size w wr) := HB2.out.trans (hbw.mono (by omega))
       by_cases hlt : j < pn
       ·obtain ⟨b, off, hpa, hc⟩ := HA.out.each (by rw [HZ.out]; omega)
        subst hpa
        obtain ⟨x, hx⟩ : ∃ x, xs[j]? = some x := ⟨_, List.getElem?_eq_getElem (by rw [HZ.out]; exact hlt)⟩
        obtain ⟨cx, hcx, hat⟩ := hc j x hx
        have hsm := HS.out j x hx
        obtain ⟨ta, tn, tc, ca, cn, cc, qa, qn, qc, rfl, ⟨t1, t2, t3⟩, ⟨u1, u2, u3⟩, ⟨v1, v2, v3⟩⟩ := RPart.at_open hat
        have g0 := cell_later HBW2.out (hcx 0 _ rfl)
        have g1 := cell_later HBW2.out (hcx 1 _ rfl)
        have g2 := cell_later HBW2.out (hcx 2 _ rfl)
        have g3 := cell_later HBW2.out (hcx 3 _ rfl)
        have g4 := cell_later HBW2.out (hcx 4 _ rfl)
        have g5 := cell_later HBW2.out (hcx 5 _ rfl)
        rw [RPart_k] at g0 g1 g2 g3 g4 g5
        rw [Nat.add_zero] at g0
        have hki : (j : Int) < (pn : Int) := by omega
        have hs1 := hsm.1
        have hs2 := hsm.2.1
        have hs3 := hsm.2.2.1
        have HNO : Hid (partW ss ah x = none → checkV (ss, xs) = none) := fun h => by
         rw [HC.out]
         refine checkTo_none (k := j + 1) ?_ (by omega)
         rw [checkTo_step hck hx, h]; rfl
        have HYES : Hid (∀ n, partW ss ah x = some n → checkTo ss xs (j + 1) = some (ah ++ [n])) := fun n h => by
         rw [checkTo_step hck hx, h]; rfl
        have HAI := Hid.mk (checkTo_some HALL.out hck)
        have HT := Hid.mk (And.intro t1 t3)
        have HU := Hid.mk (And.intro u1 u3)
        have HV := Hid.mk (And.intro v1 v3)
        rw [t1] at hs1
        rw [u1] at hs2
        rw [v1] at hs3
        have HOI := Hid.mk hoi
        have b0w := blk_below b0 hbw
        have s0 := blk_cell b0w 0 (v := .slice sa k sc) rfl
        have zww : w.heap.size < wr.heap.size := World.block_lt_of_cell? _ _ s0
        have HBW1 := Hid.mk hbw
        clear t1 t3 u1 u3 v1 v3 hx hoi hck hat hcx hc hsm hbw c1 b0 b0w
        obtain ⟨K, A, B, ts, zs, ps⟩ := x
        simp only [PartD.K, PartD.A, PartD.B, PartD.ts, PartD.cs, PartD.ps] at *
        obtain ⟨V, hV⟩ : ∃ V, V = wr.alloc (.cells #[.int .i64 K, .int .i64 A, .int .i64 B, .slice ta tn tc, .slice ca cn cc, .slice qa qn qc] 74) := ⟨_, rfl⟩
        have HVB : Hid (Below wr.heap.size wr V) := by rw [hV]; exact (Below.refl _ _).alloc (Nat.le_refl _) _
        have HVE : Hid (Below w.heap.size w V) := HBW2.out.trans (HVB.out.mono HBW2.out.size)
        have bo : V.heap[wr.heap.size]? = some (.cells #[.int .i64 K, .int .i64 A, .int .i64 B, .slice ta tn tc, .slice ca cn cc, .slice qa qn qc] 74 (0, 0)) := by rw [hV]; exact heap_alloc_new wr _
        have sV := cell_later HVB.out s0
        have zV : wr.heap.size < V.heap.size := (Array.getElem?_eq_some_iff.1 bo).1
        have HKT : Hid (K = 1 ∨ K = 2 ∨ K = 3 ∨ K = 4 ∨ K = 5 ∨ K = 6 ∨ K = 7 ∨ ¬ (1 ≤ K ∧ K ≤ 7)) := by show (K = 1 ∨ K = 2 ∨ K = 3 ∨ K = 4 ∨ K = 5 ∨ K = 6 ∨ K = 7 ∨ ¬ (1 ≤ K ∧ K ≤ 7)); omega
        rcases HKT.out with rfl | rfl | rfl | rfl | rfl | rfl | rfl | hkk
        ·as_aux_lemma =>
          clear HKT
          have HVX := Hid.mk hV
          by_cases c9 : 0 < tn
          ·have HN := Hid.mk (HNO.out (partW_more (noMore_not (.inl ⟨by show (1 : Int) ≠ 2; decide, by show 0 < ts.length; rw [HT.out.1]; exact c9⟩))))
           have c9' : (0 : Int) < (tn : Int) := by omega
           clear c9
           go_wp2
           exact bodyPost_ret (v := .tuple #[.slice none 0 0, .bool false]) (by simp [results, Tryz.results35, go_sem]) rfl ⟨IntsRet.no (ck_none HN.out), (by rw [← HVX.out]; exact HVE.out)⟩
          obtain rfl : tn = 0 := by omega
          clear c9
          by_cases c9 : 0 < cn
          ·have HN := Hid.mk (HNO.out (partW_more (noMore_not (.inr (.inl ⟨by show (1 : Int) ≠ 3; decide, by show 0 < zs.length; rw [HU.out.1]; exact c9⟩)))))
           have c9' : (0 : Int) < (cn : Int) := by omega
           clear c9
           go_wp2
           exact bodyPost_ret (v := .tuple #[.slice none 0 0, .bool false]) (by simp [results, Tryz.results35, go_sem]) rfl ⟨IntsRet.no (ck_none HN.out), (by rw [← HVX.out]; exact HVE.out)⟩
          obtain rfl : cn = 0 := by omega
          clear c9
          by_cases c9 : 0 < qn
          ·have HN := Hid.mk (HNO.out (partW_more (noMore_not (.inr (.inr (.inl ⟨by show (1 : Int) ≠ 4; decide, by show 0 < ps.length; rw [HV.out.1]; exact c9⟩))))))
           have c9' : (0 : Int) < (qn : Int) := by omega
           clear c9
           go_wp2
           exact bodyPost_ret (v := .tuple #[.slice none 0 0, .bool false]) (by simp [results, Tryz.results35, go_sem]) rfl ⟨IntsRet.no (ck_none HN.out), (by rw [← HVX.out]; exact HVE.out)⟩
          obtain rfl : qn = 0 := by omega
          clear c9
          by_cases c9 : B ≠ 0
          ·have HN := Hid.mk (HNO.out (partW_more (noMore_not (.inr (.inr (.inr ⟨by show (1 : Int) ≠ 4 ∧ (1 : Int) ≠ 5 ∧ (1 : Int) ≠ 6; decide, c9⟩))))))
           have c9' : (B != 0) = true := by simpa using c9
           clear c9
           go_wp2
           exact bodyPost_ret (v := .tuple #[.slice none 0 0, .bool false]) (by simp [results, Tryz.results35, go_sem]) rfl ⟨IntsRet.no (ck_none HN.out), (by rw [← HVX.out]; exact HVE.out)⟩
          obtain rfl : B = 0 := by omega
          clear c9
          have HNMY : Hid (noMore (1, A, 0, ts, zs, ps) = true) := noMore_yes (.inr (by show ts.length = 0; rw [HT.out.1])) (.inr (by show zs.length = 0; rw [HU.out.1])) (.inr (by show ps.length = 0; rw [HV.out.1])) (.inr rfl)
          have HWP : Hid (partW ss ah (1, A, 0, ts, zs, ps) = numAt ss A) := (partW_yes HNMY.out).trans (widthP_1 rfl)
          by_cases a9 : A < 0
          ·have hna : numAt ss A = none := numAt_no (.inl a9)
           have HN := Hid.mk (HNO.out (HWP.out.trans (hna)))
           clear hna
           go_wp2
           exact bodyPost_ret (v := .tuple #[.slice none 0 0, .bool false]) (by simp [results, Tryz.results35, go_sem]) rfl ⟨IntsRet.no (ck_none HN.out), (by rw [← HVX.out]; exact HVE.out)⟩
          have hA0 := a9
          clear a9
          by_cases a9 : (k : Int) ≤ A
          ·have hna : numAt ss A = none := numAt_no (.inr (by rw [HSZ.out]; exact a9))
           have HN := Hid.mk (HNO.out (HWP.out.trans (hna)))
           have a8 : ¬ A < 0 := by omega
           have a7 : ¬ A < (k : Int) := by omega
           clear hna
           go_wp2
           exact bodyPost_ret (v := .tuple #[.slice none 0 0, .bool false]) (by simp [results, Tryz.results35, go_sem]) rfl ⟨IntsRet.no (ck_none HN.out), (by rw [← HVX.out]; exact HVE.out)⟩
          have hA1 := a9
          clear a9
          obtain ⟨kA, rfl, hkA, hnA, hgA⟩ := numAt_out HSZ.out hA0 hA1
          have HNA := Hid.mk hnA
          have HN := Hid.mk (HYES.out _ (HWP.out.trans hnA))
          obtain ⟨bs, os, hsa', hbs, hcs⟩ := At.some (HSA.out.below HVE.out) (by rw [HSZ.out]; omega)
          subst hsa'
          have hcA := hcs kA (by rw [HSZ.out]; omega)
          obtain ⟨q, hq⟩ : ∃ q, ss.getD kA 0 = q := ⟨_, rfl⟩
          rw [hq] at HN hcA
          have hkA' : (kA : Int) < (k : Int) := by omega
          have hcA0 : wr.cell? ⟨bs, os + kA, none⟩ = some (.int .i64 q) := by
           obtain ⟨bs', os', hsa'', _, hcs'⟩ := At.some (HSA.out.below HBW2.out) (by rw [HSZ.out]; omega)
           cases hsa''
           rw [← hq]
           exact hcs' kA (by rw [HSZ.out]; omega)
          clear hcs hq hnA hgA HNA HWP HNO HYES
          go_upto_region 19 with fail
          rw [← hV]
          clear hV
          have o1 := blk_cell bo 1 (v := .int .i64 kA) rfl
          have HOV := Hid.mk (owns_below HOI.out HVB.out)
          go_wp2_with (at_builtin; refine wpList_append_lies _ rfl (.tmp 110) (.tmp 117) 23 rfl w2.heap.size 3 i0 (.int .i64 0) 1 8 Tryz.underlying23 hi hz0 hz1 hz2 rfl (by decide) _ _ _ rfl (HOV.out.alloc _) ⟨V.heap.size, 0, none⟩ 1 1 [.int .i64 q] rfl rfl (news_at V _ _) (by simp; rfl) (by decide) (by unfold maxLen; omega) (by omega) (by simp; omega) (V.heap.size + 1) (by simp) ?_)
          intro g7 cap7 w7 ho7 hg7 hat7 hlt7
          have HR7 : Hid (Below w2.heap.size w2 w7) := ((HBW1.out.trans (HVB.out.mono zr)).alloc (by omega) _).grown hg7 (by simp; omega) (fun j hj => (HOV.out.lt j hj).1)
          have HOI7 : Hid (w7.ownsRow w2.heap.size 3 1 (.slice (some ⟨g7, 0, none⟩) (j + 1) cap7) (j + 1) ((ah ++ [q]).map (.int .i64))) := by rw [List.map_append]; exact ho7
          clear ho7 hg7 hat7 hlt7
          go_wp2
          go_roundw
          case rel => exact ⟨j + 1, some ⟨g7, 0, none⟩, cap7, ah ++ [q], by omega, by go_num, rfl, HN.out, HOI7.out, HR7.out⟩
          case measure => simp [intOf]; omega
        ·as_aux_lemma =>
          clear HKT
          have HVX := Hid.mk hV
          by_cases c9 : 0 < cn
          ·have HN := Hid.mk (HNO.out (partW_more (noMore_not (.inr (.inl ⟨by show (2 : Int) ≠ 3; decide, by show 0 < zs.length; rw [HU.out.1]; exact c9⟩)))))
           have c9' : (0 : Int) < (cn : Int) := by omega
           clear c9
           go_wp2
           exact bodyPost_ret (v := .tuple #[.slice none 0 0, .bool false]) (by simp [results, Tryz.results35, go_sem]) rfl ⟨IntsRet.no (ck_none HN.out), (by rw [← HVX.out]; exact HVE.out)⟩
          obtain rfl : cn = 0 := by omega
          clear c9
          by_cases c9 : 0 < qn
          ·have HN := Hid.mk (HNO.out (partW_more (noMore_not (.inr (.inr (.inl ⟨by show (2 : Int) ≠ 4; decide, by show 0 < ps.length; rw [HV.out.1]; exact c9⟩))))))
           have c9' : (0 : Int) < (qn : Int) := by omega
           clear c9
           go_wp2
           exact bodyPost_ret (v := .tuple #[.slice none 0 0, .bool false]) (by simp [results, Tryz.results35, go_sem]) rfl ⟨IntsRet.no (ck_none HN.out), (by rw [← HVX.out]; exact HVE.out)⟩
          obtain rfl : qn = 0 := by omega
          clear c9
          by_cases c9 : B ≠ 0
          ·have HN := Hid.mk (HNO.out (partW_more (noMore_not (.inr (.inr (.inr ⟨by show (2 : Int) ≠ 4 ∧ (2 : Int) ≠ 5 ∧ (2 : Int) ≠ 6; decide, c9⟩))))))
           have c9' : (B != 0) = true := by simpa using c9
           clear c9
           go_wp2
           exact bodyPost_ret (v := .tuple #[.slice none 0 0, .bool false]) (by simp [results, Tryz.results35, go_sem]) rfl ⟨IntsRet.no (ck_none HN.out), (by rw [← HVX.out]; exact HVE.out)⟩
          obtain rfl : B = 0 := by omega
          clear c9
          have HNMY : Hid (noMore (2, A, 0, ts, zs, ps) = true) := noMore_yes (.inl rfl) (.inr (by show zs.length = 0; rw [HU.out.1])) (.inr (by show ps.length = 0; rw [HV.out.1])) (.inr rfl)
          have HWP : Hid (partW ss ah (2, A, 0, ts, zs, ps) = selAt ah A ts) := (partW_yes HNMY.out).trans (widthP_2 rfl)
          by_cases a9 : A < 0
          ·have hna : numAt ah A = none := numAt_no (.inl a9)
           have HN := Hid.mk (HNO.out (HWP.out.trans (by unfold selAt; rw [hna]; rfl)))
           clear hna
           go_wp2
           exact bodyPost_ret (v := .tuple #[.slice none 0 0, .bool false]) (by simp [results, Tryz.results35, go_sem]) rfl ⟨IntsRet.no (ck_none HN.out), (by rw [← HVX.out]; exact HVE.out)⟩
          have hA0 := a9
          clear a9
          by_cases a9 : (j : Int) ≤ A
          ·have hna : numAt ah A = none := numAt_no (.inr (by rw [HAI.out.1]; exact a9))
           have HN := Hid.mk (HNO.out (HWP.out.trans (by unfold selAt; rw [hna]; rfl)))
           have a8 : ¬ A < 0 := by omega
           have a7 : ¬ A < (j : Int) := by omega
           clear hna
           go_wp2
           exact bodyPost_ret (v := .tuple #[.slice none 0 0, .bool false]) (by simp [results, Tryz.results35, go_sem]) rfl ⟨IntsRet.no (ck_none HN.out), (by rw [← HVX.out]; exact HVE.out)⟩
          have hA1 := a9
          clear a9
          obtain ⟨kA, rfl, hkA, hnA, hgA⟩ := numAt_out HAI.out.1 hA0 hA1
          have HNA := Hid.mk hnA
          obtain ⟨a, ha, ha6⟩ := num_nat HAI.out.2 hnA
          rw [ha] at hnA HNA
          have hkA' : (kA : Int) < (j : Int) := by omega
          clear ha hgA
          have HATV : Hid (At V r' ah) := At.below (At.owned HOI.out) HVB.out
          clear hnA
          go_wp2_with fail
          rw [← hV]
          clear hV
          refine (cols_2 _ _ _ _ _ _ _ _ _ _ _ ts r' j d' ah a V HAI.out.1 (by omega) HATV.out HNA.out ha6 HT.out.1 hs1 (AtE.below HT.out.2 HVE.out)).mono ?_
          rintro e w5 ⟨⟨n5, ok5, rfl, hno5, hyes5⟩, hb5⟩
          have HNO5 := Hid.mk hno5
          have HYES5 := Hid.mk hyes5
          have HR5 : Hid (Below wr.heap.size wr w5) := HVB.out.trans (hb5.mono HVB.out.size)
          have HB5 : Hid (Below w.heap.size w w5) := HVE.out.trans (hb5.mono HVE.out.size)
          have z5 := HR5.out.size
          clear hno5 hyes5 hb5
          cases hO : partW ss ah (2, kA, 0, ts, zs, ps) with
          | none =>
           have hok : ok5 = false := HNO5.out (by rw [← HWP.out]; exact hO)
           subst hok
           have HN := Hid.mk (HNO.out hO)
           clear hO
           go_wp2
           exact bodyPost_ret (v := .tuple #[.slice none 0 0, .bool false]) (by simp [results, Tryz.results35, go_sem]) rfl ⟨IntsRet.no (ck_none HN.out), HB5.out⟩
          | some q =>
           obtain ⟨hok, hq⟩ := HYES5.out q (by rw [← HWP.out]; exact hO)
           subst hok hq
           have HN := Hid.mk (HYES.out _ hO)
           have HOV := Hid.mk (owns_below HOI.out HR5.out)
           clear hO
           go_wp2_with (at_builtin; refine wpList_append_lies _ rfl (.tmp 150) (.tmp 152) 23 rfl w2.heap.size 3 i0 (.int .i64 0) 1 8 Tryz.underlying23 hi hz0 hz1 hz2 rfl (by decide) _ _ _ rfl (HOV.out.alloc _) ⟨w5.heap.size, 0, none⟩ 1 1 [.int .i64 n5] rfl rfl (news_at w5 _ _) (by simp; rfl) (by decide) (by unfold maxLen; omega) (by omega) (by simp; omega) (w5.heap.size + 1) (by simp) ?_)
           intro g7 cap7 w7 ho7 hg7 hat7 hlt7
           have HR7 : Hid (Below w2.heap.size w2 w7) := ((HBW1.out.trans (HR5.out.mono zr)).alloc (by omega) _).grown hg7 (by simp; omega) (fun j hj => (HOV.out.lt j hj).1)
           have HOI7 : Hid (w7.ownsRow w2.heap.size 3 1 (.slice (some ⟨g7, 0, none⟩) (j + 1) cap7) (j + 1) ((ah ++ [n5]).map (.int .i64))) := by rw [List.map_append]; exact ho7
           clear ho7 hg7 hat7 hlt7
           go_wp2
           go_roundw
           case rel => exact ⟨j + 1, some ⟨g7, 0, none⟩, cap7, ah ++ [n5], by omega, by go_num, rfl, HN.out, HOI7.out, HR7.out⟩
           case measure => simp [intOf]; omega
        ·as_aux_lemma =>
          clear HKT
          have HVX := Hid.mk hV
          by_cases c9 : 0 < tn
          ·have HN := Hid.mk (HNO.out (partW_more (noMore_not (.inl ⟨by show (3 : Int) ≠ 2; decide, by show 0 < ts.length; rw [HT.out.1]; exact c9⟩))))
           have c9' : (0 : Int) < (tn : Int) := by omega
           clear c9
           go_wp2
           exact bodyPost_ret (v := .tuple #[.slice none 0 0, .bool false]) (by simp [results, Tryz.results35, go_sem]) rfl ⟨IntsRet.no (ck_none HN.out), (by rw [← HVX.out]; exact HVE.out)⟩
          obtain rfl : tn = 0 := by omega
          clear c9
          by_cases c9 : 0 < qn
          ·have HN := Hid.mk (HNO.out (partW_more (noMore_not (.inr (.inr (.inl ⟨by show (3 : Int) ≠ 4; decide, by show 0 < ps.length; rw [HV.out.1]; exact c9⟩))))))
           have c9' : (0 : Int) < (qn : Int) := by omega
           clear c9
           go_wp2
           exact bodyPost_ret (v := .tuple #[.slice none 0 0, .bool false]) (by simp [results, Tryz.results35, go_sem]) rfl ⟨IntsRet.no (ck_none HN.out), (by rw [← HVX.out]; exact HVE.out)⟩
          obtain rfl : qn = 0 := by omega
          clear c9
          by_cases c9 : B ≠ 0
          ·have HN := Hid.mk (HNO.out (partW_more (noMore_not (.inr (.inr (.inr ⟨by show (3 : Int) ≠ 4 ∧ (3 : Int) ≠ 5 ∧ (3 : Int) ≠ 6; decide, c9⟩))))))
           have c9' : (B != 0) = true := by simpa using c9
           clear c9
           go_wp2
           exact bodyPost_ret (v := .tuple #[.slice none 0 0, .bool false]) (by simp [results, Tryz.results35, go_sem]) rfl ⟨IntsRet.no (ck_none HN.out), (by rw [← HVX.out]; exact HVE.out)⟩
          obtain rfl : B = 0 := by omega
          clear c9
          have HNMY : Hid (noMore (3, A, 0, ts, zs, ps) = true) := noMore_yes (.inr (by show ts.length = 0; rw [HT.out.1])) (.inl rfl) (.inr (by show ps.length = 0; rw [HV.out.1])) (.inr rfl)
          have HWP : Hid (partW ss ah (3, A, 0, ts, zs, ps) = prjAt ah A zs) := (partW_yes HNMY.out).trans (widthP_3 rfl)
          by_cases a9 : A < 0
          ·have hna : numAt ah A = none := numAt_no (.inl a9)
           have HN := Hid.mk (HNO.out (HWP.out.trans (by unfold prjAt; rw [hna]; rfl)))
           clear hna
           go_wp2
           exact bodyPost_ret (v := .tuple #[.slice none 0 0, .bool false]) (by simp [results, Tryz.results35, go_sem]) rfl ⟨IntsRet.no (ck_none HN.out), (by rw [← HVX.out]; exact HVE.out)⟩
          have hA0 := a9
          clear a9
          by_cases a9 : (j : Int) ≤ A
          ·have hna : numAt ah A = none := numAt_no (.inr (by rw [HAI.out.1]; exact a9))
           have HN := Hid.mk (HNO.out (HWP.out.trans (by unfold prjAt; rw [hna]; rfl)))
           have a8 : ¬ A < 0 := by omega
           have a7 : ¬ A < (j : Int) := by omega
           clear hna
           go_wp2
           exact bodyPost_ret (v := .tuple #[.slice none 0 0, .bool false]) (by simp [results, Tryz.results35, go_sem]) rfl ⟨IntsRet.no (ck_none HN.out), (by rw [← HVX.out]; exact HVE.out)⟩
          have hA1 := a9
          clear a9
          obtain ⟨kA, rfl, hkA, hnA, hgA⟩ := numAt_out HAI.out.1 hA0 hA1
          have HNA := Hid.mk hnA
          obtain ⟨a, ha, ha6⟩ := num_nat HAI.out.2 hnA
          rw [ha] at hnA HNA
          have hkA' : (kA : Int) < (j : Int) := by omega
          clear ha hgA
          have HATV : Hid (At V r' ah) := At.below (At.owned HOI.out) HVB.out
          clear hnA
          go_wp2_with fail
          rw [← hV]
          clear hV
          refine (cols_3 _ _ _ _ _ _ _ _ _ _ _ zs r' j d' ah a V HAI.out.1 (by omega) HATV.out HNA.out ha6 HU.out.1 hs2 (At.below HU.out.2 HVE.out)).mono ?_
          rintro e w5 ⟨⟨n5, ok5, rfl, hno5, hyes5⟩, hb5⟩
          have HNO5 := Hid.mk hno5
          have HYES5 := Hid.mk hyes5
          have HR5 : Hid (Below wr.heap.size wr w5) := HVB.out.trans (hb5.mono HVB.out.size)
          have HB5 : Hid (Below w.heap.size w w5) := HVE.out.trans (hb5.mono HVE.out.size)
          have z5 := HR5.out.size
          clear hno5 hyes5 hb5
          cases hO : partW ss ah (3, kA, 0, ts, zs, ps) with
          | none =>
           have hok : ok5 = false := HNO5.out (by rw [← HWP.out]; exact hO)
           subst hok
           have HN := Hid.mk (HNO.out hO)
           clear hO
           go_wp2
           exact bodyPost_ret (v := .tuple #[.slice none 0 0, .bool false]) (by simp [results, Tryz.results35, go_sem]) rfl ⟨IntsRet.no (ck_none HN.out), HB5.out⟩
          | some q =>
           obtain ⟨hok, hq⟩ := HYES5.out q (by rw [← HWP.out]; exact hO)
           subst hok hq
           have HN := Hid.mk (HYES.out _ hO)
           have HOV := Hid.mk (owns_below HOI.out HR5.out)
           clear hO
           go_wp2_with (at_builtin; refine wpList_append_lies _ rfl (.tmp 150) (.tmp 152) 23 rfl w2.heap.size 3 i0 (.int .i64 0) 1 8 Tryz.underlying23 hi hz0 hz1 hz2 rfl (by decide) _ _ _ rfl (HOV.out.alloc _) ⟨w5.heap.size, 0, none⟩ 1 1 [.int .i64 n5] rfl rfl (news_at w5 _ _) (by simp; rfl) (by decide) (by unfold maxLen; omega) (by omega) (by simp; omega) (w5.heap.size + 1) (by simp) ?_)
           intro g7 cap7 w7 ho7 hg7 hat7 hlt7
           have HR7 : Hid (Below w2.heap.size w2 w7) := ((HBW1.out.trans (HR5.out.mono zr)).alloc (by omega) _).grown hg7 (by simp; omega) (fun j hj => (HOV.out.lt j hj).1)
           have HOI7 : Hid (w7.ownsRow w2.heap.size 3 1 (.slice (some ⟨g7, 0, none⟩) (j + 1) cap7) (j + 1) ((ah ++ [n5]).map (.int .i64))) := by rw [List.map_append]; exact ho7
           clear ho7 hg7 hat7 hlt7
           go_wp2
           go_roundw
           case rel => exact ⟨j + 1, some ⟨g7, 0, none⟩, cap7, ah ++ [n5], by omega, by go_num, rfl, HN.out, HOI7.out, HR7.out⟩
           case measure => simp [intOf]; omega
        ·as_aux_lemma =>
          clear HKT
          have HVX := Hid.mk hV
          by_cases c9 : 0 < tn
          ·have HN := Hid.mk (HNO.out (partW_more (noMore_not (.inl ⟨by show (4 : Int) ≠ 2; decide, by show 0 < ts.length; rw [HT.out.1]; exact c9⟩))))
           have c9' : (0 : Int) < (tn : Int) := by omega
           clear c9
           go_wp2
           exact bodyPost_ret (v := .tuple #[.slice none 0 0, .bool false]) (by simp [results, Tryz.results35, go_sem]) rfl ⟨IntsRet.no (ck_none HN.out), (by rw [← HVX.out]; exact HVE.out)⟩
          obtain rfl : tn = 0 := by omega
          clear c9
          by_cases c9 : 0 < cn
          ·have HN := Hid.mk (HNO.out (partW_more (noMore_not (.inr (.inl ⟨by show (4 : Int) ≠ 3; decide, by show 0 < zs.length; rw [HU.out.1]; exact c9⟩)))))
           have c9' : (0 : Int) < (cn : Int) := by omega
           clear c9
           go_wp2
           exact bodyPost_ret (v := .tuple #[.slice none 0 0, .bool false]) (by simp [results, Tryz.results35, go_sem]) rfl ⟨IntsRet.no (ck_none HN.out), (by rw [← HVX.out]; exact HVE.out)⟩
          obtain rfl : cn = 0 := by omega
          clear c9
          have HNMY : Hid (noMore (4, A, B, ts, zs, ps) = true) := noMore_yes (.inr (by show ts.length = 0; rw [HT.out.1])) (.inr (by show zs.length = 0; rw [HU.out.1])) (.inl rfl) (.inl (.inl rfl))
          have HWP : Hid (partW ss ah (4, A, B, ts, zs, ps) = jonAt ah A B ps) := (partW_yes HNMY.out).trans (widthP_4 rfl)
          by_cases a9 : A < 0
          ·have hna : numAt ah A = none := numAt_no (.inl a9)
           have HN := Hid.mk (HNO.out (HWP.out.trans (by unfold jonAt; rw [hna]; rfl)))
           clear hna
           go_wp2
           exact bodyPost_ret (v := .tuple #[.slice none 0 0, .bool false]) (by simp [results, Tryz.results35, go_sem]) rfl ⟨IntsRet.no (ck_none HN.out), (by rw [← HVX.out]; exact HVE.out)⟩
          have hA0 := a9
          clear a9
          by_cases a9 : (j : Int) ≤ A
          ·have hna : numAt ah A = none := numAt_no (.inr (by rw [HAI.out.1]; exact a9))
           have HN := Hid.mk (HNO.out (HWP.out.trans (by unfold jonAt; rw [hna]; rfl)))
           have a8 : ¬ A < 0 := by omega
           have a7 : ¬ A < (j : Int) := by omega
           clear hna
           go_wp2
           exact bodyPost_ret (v := .tuple #[.slice none 0 0, .bool false]) (by simp [results, Tryz.results35, go_sem]) rfl ⟨IntsRet.no (ck_none HN.out), (by rw [← HVX.out]; exact HVE.out)⟩
          have hA1 := a9
          clear a9
          obtain ⟨kA, rfl, hkA, hnA, hgA⟩ := numAt_out HAI.out.1 hA0 hA1
          have HNA := Hid.mk hnA
          obtain ⟨a, ha, ha6⟩ := num_nat HAI.out.2 hnA
          rw [ha] at hnA HNA
          have hkA' : (kA : Int) < (j : Int) := by omega
          clear ha hgA
          by_cases b9 : B < 0
          ·have hnb : numAt ah B = none := numAt_no (.inl b9)
           have HN := Hid.mk (HNO.out (HWP.out.trans (by unfold jonAt; rw [HNA.out, Option.bind_some, hnb]; rfl)))
           clear hnb
           go_wp2
           exact bodyPost_ret (v := .tuple #[.slice none 0 0, .bool false]) (by simp [results, Tryz.results35, go_sem]) rfl ⟨IntsRet.no (ck_none HN.out), (by rw [← HVX.out]; exact HVE.out)⟩
          have hB0 := b9
          clear b9
          by_cases b9 : (j : Int) ≤ B
          ·have hnb : numAt ah B = none := numAt_no (.inr (by rw [HAI.out.1]; exact b9))
           have HN := Hid.mk (HNO.out (HWP.out.trans (by unfold jonAt; rw [HNA.out, Option.bind_some, hnb]; rfl)))
           have b8 : ¬ B < 0 := by omega
           have b7 : ¬ B < (j : Int) := by omega
           clear hnb
           go_wp2
           exact bodyPost_ret (v := .tuple #[.slice none 0 0, .bool false]) (by simp [results, Tryz.results35, go_sem]) rfl ⟨IntsRet.no (ck_none HN.out), (by rw [← HVX.out]; exact HVE.out)⟩
          have hB1 := b9
          clear b9
          obtain ⟨kB, rfl, hkB, hnB, hgB⟩ := numAt_out HAI.out.1 hB0 hB1
          obtain ⟨a', ha', ha6'⟩ := num_nat HAI.out.2 hnB
          rw [ha'] at hnB
          have HNB := Hid.mk hnB
          have hkB' : (kB : Int) < (j : Int) := by omega
          clear ha' hgB hnB
          have HATV : Hid (At V r' ah) := At.below (At.owned HOI.out) HVB.out
          clear hnA
          go_wp2_with fail
          rw [← hV]
          clear hV
          refine (cols_4 _ _ _ _ _ _ _ _ _ _ _ ps a' r' j d' ah a V HAI.out.1 (by omega) HATV.out HNA.out ha6 HV.out.1 hs3 (AtS.below HV.out.2 HVE.out) HNB.out ha6').mono ?_
          rintro e w5 ⟨⟨n5, ok5, rfl, hno5, hyes5⟩, hb5⟩
          have HNO5 := Hid.mk hno5
          have HYES5 := Hid.mk hyes5
          have HR5 : Hid (Below wr.heap.size wr w5) := HVB.out.trans (hb5.mono HVB.out.size)
          have HB5 : Hid (Below w.heap.size w w5) := HVE.out.trans (hb5.mono HVE.out.size)
          have z5 := HR5.out.size
          clear hno5 hyes5 hb5
          cases hO : partW ss ah (4, kA, kB, ts, zs, ps) with
          | none =>
           have hok : ok5 = false := HNO5.out (by rw [← HWP.out]; exact hO)
           subst hok
           have HN := Hid.mk (HNO.out hO)
           clear hO
           go_wp2
           exact bodyPost_ret (v := .tuple #[.slice none 0 0, .bool false]) (by simp [results, Tryz.results35, go_sem]) rfl ⟨IntsRet.no (ck_none HN.out), HB5.out⟩
          | some q =>
           obtain ⟨hok, hq⟩ := HYES5.out q (by rw [← HWP.out]; exact hO)
           subst hok hq
           have HN := Hid.mk (HYES.out _ hO)
           have HOV := Hid.mk (owns_below HOI.out HR5.out)
           clear hO
           go_wp2_with (at_builtin; refine wpList_append_lies _ rfl (.tmp 150) (.tmp 152) 23 rfl w2.heap.size 3 i0 (.int .i64 0) 1 8 Tryz.underlying23 hi hz0 hz1 hz2 rfl (by decide) _ _ _ rfl (HOV.out.alloc _) ⟨w5.heap.size, 0, none⟩ 1 1 [.int .i64 n5] rfl rfl (news_at w5 _ _) (by simp; rfl) (by decide) (by unfold maxLen; omega) (by omega) (by simp; omega) (w5.heap.size + 1) (by simp) ?_)
           intro g7 cap7 w7 ho7 hg7 hat7 hlt7
           have HR7 : Hid (Below w2.heap.size w2 w7) := ((HBW1.out.trans (HR5.out.mono zr)).alloc (by omega) _).grown hg7 (by simp; omega) (fun j hj => (HOV.out.lt j hj).1)
           have HOI7 : Hid (w7.ownsRow w2.heap.size 3 1 (.slice (some ⟨g7, 0, none⟩) (j + 1) cap7) (j + 1) ((ah ++ [n5]).map (.int .i64))) := by rw [List.map_append]; exact ho7
           clear ho7 hg7 hat7 hlt7
           go_wp2
           go_roundw
           case rel => exact ⟨j + 1, some ⟨g7, 0, none⟩, cap7, ah ++ [n5], by omega, by go_num, rfl, HN.out, HOI7.out, HR7.out⟩
           case measure => simp [intOf]; omega
        ·as_aux_lemma =>
          clear HKT
          have HVX := Hid.mk hV
          by_cases c9 : 0 < tn
          ·have HN := Hid.mk (HNO.out (partW_more (noMore_not (.inl ⟨by show (5 : Int) ≠ 2; decide, by show 0 < ts.length; rw [HT.out.1]; exact c9⟩))))
           have c9' : (0 : Int) < (tn : Int) := by omega
           clear c9
           go_wp2
           exact bodyPost_ret (v := .tuple #[.slice none 0 0, .bool false]) (by simp [results, Tryz.results35, go_sem]) rfl ⟨IntsRet.no (ck_none HN.out), (by rw [← HVX.out]; exact HVE.out)⟩
          obtain rfl : tn = 0 := by omega
          clear c9
          by_cases c9 : 0 < cn
          ·have HN := Hid.mk (HNO.out (partW_more (noMore_not (.inr (.inl ⟨by show (5 : Int) ≠ 3; decide, by show 0 < zs.length; rw [HU.out.1]; exact c9⟩)))))
           have c9' : (0 : Int) < (cn : Int) := by omega
           clear c9
           go_wp2
           exact bodyPost_ret (v := .tuple #[.slice none 0 0, .bool false]) (by simp [results, Tryz.results35, go_sem]) rfl ⟨IntsRet.no (ck_none HN.out), (by rw [← HVX.out]; exact HVE.out)⟩
          obtain rfl : cn = 0 := by omega
          clear c9
          by_cases c9 : 0 < qn
          ·have HN := Hid.mk (HNO.out (partW_more (noMore_not (.inr (.inr (.inl ⟨by show (5 : Int) ≠ 4; decide, by show 0 < ps.length; rw [HV.out.1]; exact c9⟩))))))
           have c9' : (0 : Int) < (qn : Int) := by omega
           clear c9
           go_wp2
           exact bodyPost_ret (v := .tuple #[.slice none 0 0, .bool false]) (by simp [results, Tryz.results35, go_sem]) rfl ⟨IntsRet.no (ck_none HN.out), (by rw [← HVX.out]; exact HVE.out)⟩
          obtain rfl : qn = 0 := by omega
          clear c9
          have HNMY : Hid (noMore (5, A, B, ts, zs, ps) = true) := noMore_yes (.inr (by show ts.length = 0; rw [HT.out.1])) (.inr (by show zs.length = 0; rw [HU.out.1])) (.inr (by show ps.length = 0; rw [HV.out.1])) (.inl (.inr (.inl rfl)))
          have HWP : Hid (partW ss ah (5, A, B, ts, zs, ps) = twoAt ah A B) := (partW_yes HNMY.out).trans (widthP_5 rfl)
          by_cases a9 : A < 0
          ·have hna : numAt ah A = none := numAt_no (.inl a9)
           have HN := Hid.mk (HNO.out (HWP.out.trans (by unfold twoAt; rw [hna]; rfl)))
           clear hna
           go_wp2
           exact bodyPost_ret (v := .tuple #[.slice none 0 0, .bool false]) (by simp [results, Tryz.results35, go_sem]) rfl ⟨IntsRet.no (ck_none HN.out), (by rw [← HVX.out]; exact HVE.out)⟩
          have hA0 := a9
          clear a9
          by_cases a9 : (j : Int) ≤ A
          ·have hna : numAt ah A = none := numAt_no (.inr (by rw [HAI.out.1]; exact a9))
           have HN := Hid.mk (HNO.out (HWP.out.trans (by unfold twoAt; rw [hna]; rfl)))
           have a8 : ¬ A < 0 := by omega
           have a7 : ¬ A < (j : Int) := by omega
           clear hna
           go_wp2
           exact bodyPost_ret (v := .tuple #[.slice none 0 0, .bool false]) (by simp [results, Tryz.results35, go_sem]) rfl ⟨IntsRet.no (ck_none HN.out), (by rw [← HVX.out]; exact HVE.out)⟩
          have hA1 := a9
          clear a9
          obtain ⟨kA, rfl, hkA, hnA, hgA⟩ := numAt_out HAI.out.1 hA0 hA1
          have HNA := Hid.mk hnA
          obtain ⟨a, ha, ha6⟩ := num_nat HAI.out.2 hnA
          rw [ha] at hnA HNA
          have hkA' : (kA : Int) < (j : Int) := by omega
          clear ha hgA
          by_cases b9 : B < 0
          ·have hnb : numAt ah B = none := numAt_no (.inl b9)
           have HN := Hid.mk (HNO.out (HWP.out.trans (by unfold twoAt; rw [HNA.out, Option.bind_some, hnb]; rfl)))
           clear hnb
           go_wp2
           exact bodyPost_ret (v := .tuple #[.slice none 0 0, .bool false]) (by simp [results, Tryz.results35, go_sem]) rfl ⟨IntsRet.no (ck_none HN.out), (by rw [← HVX.out]; exact HVE.out)⟩
          have hB0 := b9
          clear b9
          by_cases b9 : (j : Int) ≤ B
          ·have hnb : numAt ah B = none := numAt_no (.inr (by rw [HAI.out.1]; exact b9))
           have HN := Hid.mk (HNO.out (HWP.out.trans (by unfold twoAt; rw [HNA.out, Option.bind_some, hnb]; rfl)))
           have b8 : ¬ B < 0 := by omega
           have b7 : ¬ B < (j : Int) := by omega
           clear hnb
           go_wp2
           exact bodyPost_ret (v := .tuple #[.slice none 0 0, .bool false]) (by simp [results, Tryz.results35, go_sem]) rfl ⟨IntsRet.no (ck_none HN.out), (by rw [← HVX.out]; exact HVE.out)⟩
          have hB1 := b9
          clear b9
          obtain ⟨kB, rfl, hkB, hnB, hgB⟩ := numAt_out HAI.out.1 hB0 hB1
          obtain ⟨a', ha', ha6'⟩ := num_nat HAI.out.2 hnB
          rw [ha'] at hnB
          have HNB := Hid.mk hnB
          have hkB' : (kB : Int) < (j : Int) := by omega
          clear ha' hgB hnB
          have HATV : Hid (At V r' ah) := At.below (At.owned HOI.out) HVB.out
          clear hnA
          go_wp2_with fail
          rw [← hV]
          clear hV
          refine (cols_5 _ _ _ _ _ _ _ _ _ _ _ a' r' j d' ah a V HAI.out.1 (by omega) HATV.out HNA.out ha6 HNB.out ha6').mono ?_
          rintro e w5 ⟨⟨n5, ok5, rfl, hno5, hyes5⟩, hb5⟩
          have HNO5 := Hid.mk hno5
          have HYES5 := Hid.mk hyes5
          have HR5 : Hid (Below wr.heap.size wr w5) := HVB.out.trans (hb5.mono HVB.out.size)
          have HB5 : Hid (Below w.heap.size w w5) := HVE.out.trans (hb5.mono HVE.out.size)
          have z5 := HR5.out.size
          clear hno5 hyes5 hb5
          cases hO : partW ss ah (5, kA, kB, ts, zs, ps) with
          | none =>
           have hok : ok5 = false := HNO5.out (by rw [← HWP.out]; exact hO)
           subst hok
           have HN := Hid.mk (HNO.out hO)
           clear hO
           go_wp2
           exact bodyPost_ret (v := .tuple #[.slice none 0 0, .bool false]) (by simp [results, Tryz.results35, go_sem]) rfl ⟨IntsRet.no (ck_none HN.out), HB5.out⟩
          | some q =>
           obtain ⟨hok, hq⟩ := HYES5.out q (by rw [← HWP.out]; exact hO)
           subst hok hq
           have HN := Hid.mk (HYES.out _ hO)
           have HOV := Hid.mk (owns_below HOI.out HR5.out)
           clear hO
           go_wp2_with (at_builtin; refine wpList_append_lies _ rfl (.tmp 150) (.tmp 152) 23 rfl w2.heap.size 3 i0 (.int .i64 0) 1 8 Tryz.underlying23 hi hz0 hz1 hz2 rfl (by decide) _ _ _ rfl (HOV.out.alloc _) ⟨w5.heap.size, 0, none⟩ 1 1 [.int .i64 n5] rfl rfl (news_at w5 _ _) (by simp; rfl) (by decide) (by unfold maxLen; omega) (by omega) (by simp; omega) (w5.heap.size + 1) (by simp) ?_)
           intro g7 cap7 w7 ho7 hg7 hat7 hlt7
           have HR7 : Hid (Below w2.heap.size w2 w7) := ((HBW1.out.trans (HR5.out.mono zr)).alloc (by omega) _).grown hg7 (by simp; omega) (fun j hj => (HOV.out.lt j hj).1)
           have HOI7 : Hid (w7.ownsRow w2.heap.size 3 1 (.slice (some ⟨g7, 0, none⟩) (j + 1) cap7) (j + 1) ((ah ++ [n5]).map (.int .i64))) := by rw [List.map_append]; exact ho7
           clear ho7 hg7 hat7 hlt7
           go_wp2
           go_roundw
           case rel => exact ⟨j + 1, some ⟨g7, 0, none⟩, cap7, ah ++ [n5], by omega, by go_num, rfl, HN.out, HOI7.out, HR7.out⟩
           case measure => simp [intOf]; omega
        ·as_aux_lemma =>
          clear HKT
          have HVX := Hid.mk hV
          by_cases c9 : 0 < tn
          ·have HN := Hid.mk (HNO.out (partW_more (noMore_not (.inl ⟨by show (6 : Int) ≠ 2; decide, by show 0 < ts.length; rw [HT.out.1]; exact c9⟩))))
           have c9' : (0 : Int) < (tn : Int) := by omega
           clear c9
           go_wp2
           exact bodyPost_ret (v := .tuple #[.slice none 0 0, .bool false]) (by simp [results, Tryz.results35, go_sem]) rfl ⟨IntsRet.no (ck_none HN.out), (by rw [← HVX.out]; exact HVE.out)⟩
          obtain rfl : tn = 0 := by omega
          clear c9
          by_cases c9 : 0 < cn
          ·have HN := Hid.mk (HNO.out (partW_more (noMore_not (.inr (.inl ⟨by show (6 : Int) ≠ 3; decide, by show 0 < zs.length; rw [HU.out.1]; exact c9⟩)))))
           have c9' : (0 : Int) < (cn : Int) := by omega
           clear c9
           go_wp2
           exact bodyPost_ret (v := .tuple #[.slice none 0 0, .bool false]) (by simp [results, Tryz.results35, go_sem]) rfl ⟨IntsRet.no (ck_none HN.out), (by rw [← HVX.out]; exact HVE.out)⟩
          obtain rfl : cn = 0 := by omega
          clear c9
          by_cases c9 : 0 < qn
          ·have HN := Hid.mk (HNO.out (partW_more (noMore_not (.inr (.inr (.inl ⟨by show (6 : Int) ≠ 4; decide, by show 0 < ps.length; rw [HV.out.1]; exact c9⟩))))))
           have c9' : (0 : Int) < (qn : Int) := by omega
           clear c9
           go_wp2
           exact bodyPost_ret (v := .tuple #[.slice none 0 0, .bool false]) (by simp [results, Tryz.results35, go_sem]) rfl ⟨IntsRet.no (ck_none HN.out), (by rw [← HVX.out]; exact HVE.out)⟩
          obtain rfl : qn = 0 := by omega
          clear c9
          have HNMY : Hid (noMore (6, A, B, ts, zs, ps) = true) := noMore_yes (.inr (by show ts.length = 0; rw [HT.out.1])) (.inr (by show zs.length = 0; rw [HU.out.1])) (.inr (by show ps.length = 0; rw [HV.out.1])) (.inl (.inr (.inr rfl)))
          have HWP : Hid (partW ss ah (6, A, B, ts, zs, ps) = twoAt ah A B) := (partW_yes HNMY.out).trans (widthP_6 rfl)
          by_cases a9 : A < 0
          ·have hna : numAt ah A = none := numAt_no (.inl a9)
           have HN := Hid.mk (HNO.out (HWP.out.trans (by unfold twoAt; rw [hna]; rfl)))
           clear hna
           go_wp2
           exact bodyPost_ret (v := .tuple #[.slice none 0 0, .bool false]) (by simp [results, Tryz.results35, go_sem]) rfl ⟨IntsRet.no (ck_none HN.out), (by rw [← HVX.out]; exact HVE.out)⟩
          have hA0 := a9
          clear a9
          by_cases a9 : (j : Int) ≤ A
          ·have hna : numAt ah A = none := numAt_no (.inr (by rw [HAI.out.1]; exact a9))
           have HN := Hid.mk (HNO.out (HWP.out.trans (by unfold twoAt; rw [hna]; rfl)))
           have a8 : ¬ A < 0 := by omega
           have a7 : ¬ A < (j : Int) := by omega
           clear hna
           go_wp2
           exact bodyPost_ret (v := .tuple #[.slice none 0 0, .bool false]) (by simp [results, Tryz.results35, go_sem]) rfl ⟨IntsRet.no (ck_none HN.out), (by rw [← HVX.out]; exact HVE.out)⟩
          have hA1 := a9
          clear a9
          obtain ⟨kA, rfl, hkA, hnA, hgA⟩ := numAt_out HAI.out.1 hA0 hA1
          have HNA := Hid.mk hnA
          obtain ⟨a, ha, ha6⟩ := num_nat HAI.out.2 hnA
          rw [ha] at hnA HNA
          have hkA' : (kA : Int) < (j : Int) := by omega
          clear ha hgA
          by_cases b9 : B < 0
          ·have hnb : numAt ah B = none := numAt_no (.inl b9)
           have HN := Hid.mk (HNO.out (HWP.out.trans (by unfold twoAt; rw [HNA.out, Option.bind_some, hnb]; rfl)))
           clear hnb
           go_wp2
           exact bodyPost_ret (v := .tuple #[.slice none 0 0, .bool false]) (by simp [results, Tryz.results35, go_sem]) rfl ⟨IntsRet.no (ck_none HN.out), (by rw [← HVX.out]; exact HVE.out)⟩
          have hB0 := b9
          clear b9
          by_cases b9 : (j : Int) ≤ B
          ·have hnb : numAt ah B = none := numAt_no (.inr (by rw [HAI.out.1]; exact b9))
           have HN := Hid.mk (HNO.out (HWP.out.trans (by unfold twoAt; rw [HNA.out, Option.bind_some, hnb]; rfl)))
           have b8 : ¬ B < 0 := by omega
           have b7 : ¬ B < (j : Int) := by omega
           clear hnb
           go_wp2
           exact bodyPost_ret (v := .tuple #[.slice none 0 0, .bool false]) (by simp [results, Tryz.results35, go_sem]) rfl ⟨IntsRet.no (ck_none HN.out), (by rw [← HVX.out]; exact HVE.out)⟩
          have hB1 := b9
          clear b9
          obtain ⟨kB, rfl, hkB, hnB, hgB⟩ := numAt_out HAI.out.1 hB0 hB1
          obtain ⟨a', ha', ha6'⟩ := num_nat HAI.out.2 hnB
          rw [ha'] at hnB
          have HNB := Hid.mk hnB
          have hkB' : (kB : Int) < (j : Int) := by omega
          clear ha' hgB hnB
          have HATV : Hid (At V r' ah) := At.below (At.owned HOI.out) HVB.out
          clear hnA
          go_wp2_with fail
          rw [← hV]
          clear hV
          refine (cols_6 _ _ _ _ _ _ _ _ _ _ _ a' r' j d' ah a V HAI.out.1 (by omega) HATV.out HNA.out ha6 HNB.out ha6').mono ?_
          rintro e w5 ⟨⟨n5, ok5, rfl, hno5, hyes5⟩, hb5⟩
          have HNO5 := Hid.mk hno5
          have HYES5 := Hid.mk hyes5
          have HR5 : Hid (Below wr.heap.size wr w5) := HVB.out.trans (hb5.mono HVB.out.size)
          have HB5 : Hid (Below w.heap.size w w5) := HVE.out.trans (hb5.mono HVE.out.size)
          have z5 := HR5.out.size
          clear hno5 hyes5 hb5
          cases hO : partW ss ah (6, kA, kB, ts, zs, ps) with
          | none =>
           have hok : ok5 = false := HNO5.out (by rw [← HWP.out]; exact hO)
           subst hok
           have HN := Hid.mk (HNO.out hO)
           clear hO
           go_wp2
           exact bodyPost_ret (v := .tuple #[.slice none 0 0, .bool false]) (by simp [results, Tryz.results35, go_sem]) rfl ⟨IntsRet.no (ck_none HN.out), HB5.out⟩
          | some q =>
           obtain ⟨hok, hq⟩ := HYES5.out q (by rw [← HWP.out]; exact hO)
           subst hok hq
           have HN := Hid.mk (HYES.out _ hO)
           have HOV := Hid.mk (owns_below HOI.out HR5.out)
           clear hO
           go_wp2_with (at_builtin; refine wpList_append_lies _ rfl (.tmp 150) (.tmp 152) 23 rfl w2.heap.size 3 i0 (.int .i64 0) 1 8 Tryz.underlying23 hi hz0 hz1 hz2 rfl (by decide) _ _ _ rfl (HOV.out.alloc _) ⟨w5.heap.size, 0, none⟩ 1 1 [.int .i64 n5] rfl rfl (news_at w5 _ _) (by simp; rfl) (by decide) (by unfold maxLen; omega) (by omega) (by simp; omega) (w5.heap.size + 1) (by simp) ?_)
           intro g7 cap7 w7 ho7 hg7 hat7 hlt7
           have HR7 : Hid (Below w2.heap.size w2 w7) := ((HBW1.out.trans (HR5.out.mono zr)).alloc (by omega) _).grown hg7 (by simp; omega) (fun j hj => (HOV.out.lt j hj).1)
           have HOI7 : Hid (w7.ownsRow w2.heap.size 3 1 (.slice (some ⟨g7, 0, none⟩) (j + 1) cap7) (j + 1) ((ah ++ [n5]).map (.int .i64))) := by rw [List.map_append]; exact ho7
           clear ho7 hg7 hat7 hlt7
           go_wp2
           go_roundw
           case rel => exact ⟨j + 1, some ⟨g7, 0, none⟩, cap7, ah ++ [n5], by omega, by go_num, rfl, HN.out, HOI7.out, HR7.out⟩
           case measure => simp [intOf]; omega
        ·as_aux_lemma =>
          clear HKT
          have HVX := Hid.mk hV
          by_cases c9 : 0 < tn
          ·have HN := Hid.mk (HNO.out (partW_more (noMore_not (.inl ⟨by show (7 : Int) ≠ 2; decide, by show 0 < ts.length; rw [HT.out.1]; exact c9⟩))))
           have c9' : (0 : Int) < (tn : Int) := by omega
           clear c9
           go_wp2
           exact bodyPost_ret (v := .tuple #[.slice none 0 0, .bool false]) (by simp [results, Tryz.results35, go_sem]) rfl ⟨IntsRet.no (ck_none HN.out), (by rw [← HVX.out]; exact HVE.out)⟩
          obtain rfl : tn = 0 := by omega
          clear c9
          by_cases c9 : 0 < cn
          ·have HN := Hid.mk (HNO.out (partW_more (noMore_not (.inr (.inl ⟨by show (7 : Int) ≠ 3; decide, by show 0 < zs.length; rw [HU.out.1]; exact c9⟩)))))
           have c9' : (0 : Int) < (cn : Int) := by omega
           clear c9
           go_wp2
           exact bodyPost_ret (v := .tuple #[.slice none 0 0, .bool false]) (by simp [results, Tryz.results35, go_sem]) rfl ⟨IntsRet.no (ck_none HN.out), (by rw [← HVX.out]; exact HVE.out)⟩
          obtain rfl : cn = 0 := by omega
          clear c9
          by_cases c9 : 0 < qn
          ·have HN := Hid.mk (HNO.out (partW_more (noMore_not (.inr (.inr (.inl ⟨by show (7 : Int) ≠ 4; decide, by show 0 < ps.length; rw [HV.out.1]; exact c9⟩))))))
           have c9' : (0 : Int) < (qn : Int) := by omega
           clear c9
           go_wp2
           exact bodyPost_ret (v := .tuple #[.slice none 0 0, .bool false]) (by simp [results, Tryz.results35, go_sem]) rfl ⟨IntsRet.no (ck_none HN.out), (by rw [← HVX.out]; exact HVE.out)⟩
          obtain rfl : qn = 0 := by omega
          clear c9
          by_cases c9 : B ≠ 0
          ·have HN := Hid.mk (HNO.out (partW_more (noMore_not (.inr (.inr (.inr ⟨by show (7 : Int) ≠ 4 ∧ (7 : Int) ≠ 5 ∧ (7 : Int) ≠ 6; decide, c9⟩))))))
           have c9' : (B != 0) = true := by simpa using c9
           clear c9
           go_wp2
           exact bodyPost_ret (v := .tuple #[.slice none 0 0, .bool false]) (by simp [results, Tryz.results35, go_sem]) rfl ⟨IntsRet.no (ck_none HN.out), (by rw [← HVX.out]; exact HVE.out)⟩
          obtain rfl : B = 0 := by omega
          clear c9
          have HNMY : Hid (noMore (7, A, 0, ts, zs, ps) = true) := noMore_yes (.inr (by show ts.length = 0; rw [HT.out.1])) (.inr (by show zs.length = 0; rw [HU.out.1])) (.inr (by show ps.length = 0; rw [HV.out.1])) (.inr rfl)
          have HWP : Hid (partW ss ah (7, A, 0, ts, zs, ps) = numAt ah A) := (partW_yes HNMY.out).trans (widthP_7 rfl)
          by_cases a9 : A < 0
          ·have hna : numAt ah A = none := numAt_no (.inl a9)
           have HN := Hid.mk (HNO.out (HWP.out.trans (hna)))
           clear hna
           go_wp2
           exact bodyPost_ret (v := .tuple #[.slice none 0 0, .bool false]) (by simp [results, Tryz.results35, go_sem]) rfl ⟨IntsRet.no (ck_none HN.out), (by rw [← HVX.out]; exact HVE.out)⟩
          have hA0 := a9
          clear a9
          by_cases a9 : (j : Int) ≤ A
          ·have hna : numAt ah A = none := numAt_no (.inr (by rw [HAI.out.1]; exact a9))
           have HN := Hid.mk (HNO.out (HWP.out.trans (hna)))
           have a8 : ¬ A < 0 := by omega
           have a7 : ¬ A < (j : Int) := by omega
           clear hna
           go_wp2
           exact bodyPost_ret (v := .tuple #[.slice none 0 0, .bool false]) (by simp [results, Tryz.results35, go_sem]) rfl ⟨IntsRet.no (ck_none HN.out), (by rw [← HVX.out]; exact HVE.out)⟩
          have hA1 := a9
          clear a9
          obtain ⟨kA, rfl, hkA, hnA, hgA⟩ := numAt_out HAI.out.1 hA0 hA1
          have HNA := Hid.mk hnA
          obtain ⟨a, ha, ha6⟩ := num_nat HAI.out.2 hnA
          rw [ha] at hnA HNA
          have hkA' : (kA : Int) < (j : Int) := by omega
          clear ha hgA
          have HATV : Hid (At V r' ah) := At.below (At.owned HOI.out) HVB.out
          clear hnA
          go_wp2_with fail
          rw [← hV]
          clear hV
          refine (cols_o 7 _ _ _ _ _ _ _ _ _ _ _ r' j d' ah a V HAI.out.1 (by omega) HATV.out HNA.out ha6 (by decide)).mono ?_
          rintro e w5 ⟨⟨n5, ok5, rfl, hno5, hyes5⟩, hb5⟩
          have HNO5 := Hid.mk hno5
          have HYES5 := Hid.mk hyes5
          have HR5 : Hid (Below wr.heap.size wr w5) := HVB.out.trans (hb5.mono HVB.out.size)
          have HB5 : Hid (Below w.heap.size w w5) := HVE.out.trans (hb5.mono HVE.out.size)
          have z5 := HR5.out.size
          clear hno5 hyes5 hb5
          cases hO : partW ss ah (7, kA, 0, ts, zs, ps) with
          | none =>
           have hok : ok5 = false := HNO5.out (by rw [if_pos rfl]; rw [← HWP.out]; exact hO)
           subst hok
           have HN := Hid.mk (HNO.out hO)
           clear hO
           go_wp2
           exact bodyPost_ret (v := .tuple #[.slice none 0 0, .bool false]) (by simp [results, Tryz.results35, go_sem]) rfl ⟨IntsRet.no (ck_none HN.out), HB5.out⟩
          | some q =>
           obtain ⟨hok, hq⟩ := HYES5.out q (by rw [if_pos rfl]; rw [← HWP.out]; exact hO)
           subst hok hq
           have HN := Hid.mk (HYES.out _ hO)
           have HOV := Hid.mk (owns_below HOI.out HR5.out)
           clear hO
           go_wp2_with (at_builtin; refine wpList_append_lies _ rfl (.tmp 150) (.tmp 152) 23 rfl w2.heap.size 3 i0 (.int .i64 0) 1 8 Tryz.underlying23 hi hz0 hz1 hz2 rfl (by decide) _ _ _ rfl (HOV.out.alloc _) ⟨w5.heap.size, 0, none⟩ 1 1 [.int .i64 n5] rfl rfl (news_at w5 _ _) (by simp; rfl) (by decide) (by unfold maxLen; omega) (by omega) (by simp; omega) (w5.heap.size + 1) (by simp) ?_)
           intro g7 cap7 w7 ho7 hg7 hat7 hlt7
           have HR7 : Hid (Below w2.heap.size w2 w7) := ((HBW1.out.trans (HR5.out.mono zr)).alloc (by omega) _).grown hg7 (by simp; omega) (fun j hj => (HOV.out.lt j hj).1)
           have HOI7 : Hid (w7.ownsRow w2.heap.size 3 1 (.slice (some ⟨g7, 0, none⟩) (j + 1) cap7) (j + 1) ((ah ++ [n5]).map (.int .i64))) := by rw [List.map_append]; exact ho7
           clear ho7 hg7 hat7 hlt7
           go_wp2
           go_roundw
           case rel => exact ⟨j + 1, some ⟨g7, 0, none⟩, cap7, ah ++ [n5], by omega, by go_num, rfl, HN.out, HOI7.out, HR7.out⟩
           case measure => simp [intOf]; omega
        ·as_aux_lemma =>
          clear HKT
          have k1 : ¬ K = 1 := by omega
          have k2 : ¬ K = 2 := by omega
          have k3 : ¬ K = 3 := by omega
          have k4 : ¬ K = 4 := by omega
          have k5 : ¬ K = 5 := by omega
          have k6 : ¬ K = 6 := by omega
          have k7 : ¬ K = 7 := by omega
          have k2' : (K != 2) = true := by simpa using k2
          have k3' : (K != 3) = true := by simpa using k3
          have k4' : (K != 4) = true := by simpa using k4
          have q1' : (K == 1) = false := by simpa using k1
          have q2' : (K == 2) = false := by simpa using k2
          have q3' : (K == 3) = false := by simpa using k3
          have q4' : (K == 4) = false := by simpa using k4
          have q5' : (K == 5) = false := by simpa using k5
          have q6' : (K == 6) = false := by simpa using k6
          have q7' : (K == 7) = false := by simpa using k7
          have HVX := Hid.mk hV
          by_cases c9 : 0 < tn
          ·have HN := Hid.mk (HNO.out (partW_more (noMore_not (.inl ⟨by show (K : Int) ≠ 2; omega, by show 0 < ts.length; rw [HT.out.1]; exact c9⟩))))
           have c9' : (0 : Int) < (tn : Int) := by omega
           clear c9
           go_wp2
           exact bodyPost_ret (v := .tuple #[.slice none 0 0, .bool false]) (by simp [results, Tryz.results35, go_sem]) rfl ⟨IntsRet.no (ck_none HN.out), (by rw [← HVX.out]; exact HVE.out)⟩
          obtain rfl : tn = 0 := by omega
          clear c9
          by_cases c9 : 0 < cn
          ·have HN := Hid.mk (HNO.out (partW_more (noMore_not (.inr (.inl ⟨by show (K : Int) ≠ 3; omega, by show 0 < zs.length; rw [HU.out.1]; exact c9⟩)))))
           have c9' : (0 : Int) < (cn : Int) := by omega
           clear c9
           go_wp2
           exact bodyPost_ret (v := .tuple #[.slice none 0 0, .bool false]) (by simp [results, Tryz.results35, go_sem]) rfl ⟨IntsRet.no (ck_none HN.out), (by rw [← HVX.out]; exact HVE.out)⟩
          obtain rfl : cn = 0 := by omega
          clear c9
          by_cases c9 : 0 < qn
          ·have HN := Hid.mk (HNO.out (partW_more (noMore_not (.inr (.inr (.inl ⟨by show (K : Int) ≠ 4; omega, by show 0 < ps.length; rw [HV.out.1]; exact c9⟩))))))
           have c9' : (0 : Int) < (qn : Int) := by omega
           clear c9
           go_wp2
           exact bodyPost_ret (v := .tuple #[.slice none 0 0, .bool false]) (by simp [results, Tryz.results35, go_sem]) rfl ⟨IntsRet.no (ck_none HN.out), (by rw [← HVX.out]; exact HVE.out)⟩
          obtain rfl : qn = 0 := by omega
          clear c9
          by_cases c9 : B ≠ 0
          ·have HN := Hid.mk (HNO.out (partW_more (noMore_not (.inr (.inr (.inr ⟨by show (K : Int) ≠ 4 ∧ (K : Int) ≠ 5 ∧ (K : Int) ≠ 6; omega, c9⟩))))))
           have c9' : (B != 0) = true := by simpa using c9
           clear c9
           go_wp2
           exact bodyPost_ret (v := .tuple #[.slice none 0 0, .bool false]) (by simp [results, Tryz.results35, go_sem]) rfl ⟨IntsRet.no (ck_none HN.out), (by rw [← HVX.out]; exact HVE.out)⟩
          obtain rfl : B = 0 := by omega
          clear c9
          have HNMY : Hid (noMore (K, A, 0, ts, zs, ps) = true) := noMore_yes (.inr (by show ts.length = 0; rw [HT.out.1])) (.inr (by show zs.length = 0; rw [HU.out.1])) (.inr (by show ps.length = 0; rw [HV.out.1])) (.inr rfl)
          have HWP : Hid (partW ss ah (K, A, 0, ts, zs, ps) = none) := (partW_yes HNMY.out).trans (widthP_no hkk)
          by_cases a9 : A < 0
          ·have hna : numAt ah A = none := numAt_no (.inl a9)
           have HN := Hid.mk (HNO.out (HWP.out.trans (rfl)))
           clear hna
           go_wp2
           exact bodyPost_ret (v := .tuple #[.slice none 0 0, .bool false]) (by simp [results, Tryz.results35, go_sem]) rfl ⟨IntsRet.no (ck_none HN.out), (by rw [← HVX.out]; exact HVE.out)⟩
          have hA0 := a9
          clear a9
          by_cases a9 : (j : Int) ≤ A
          ·have hna : numAt ah A = none := numAt_no (.inr (by rw [HAI.out.1]; exact a9))
           have HN := Hid.mk (HNO.out (HWP.out.trans (rfl)))
           have a8 : ¬ A < 0 := by omega
           have a7 : ¬ A < (j : Int) := by omega
           clear hna
           go_wp2
           exact bodyPost_ret (v := .tuple #[.slice none 0 0, .bool false]) (by simp [results, Tryz.results35, go_sem]) rfl ⟨IntsRet.no (ck_none HN.out), (by rw [← HVX.out]; exact HVE.out)⟩
          have hA1 := a9
          clear a9
          obtain ⟨kA, rfl, hkA, hnA, hgA⟩ := numAt_out HAI.out.1 hA0 hA1
          have HNA := Hid.mk hnA
          obtain ⟨a, ha, ha6⟩ := num_nat HAI.out.2 hnA
          rw [ha] at hnA HNA
          have hkA' : (kA : Int) < (j : Int) := by omega
          clear ha hgA
          have HATV : Hid (At V r' ah) := At.below (At.owned HOI.out) HVB.out
          clear hnA
          go_wp2_with fail
          rw [← hV]
          clear hV
          refine (cols_o K _ _ _ _ _ _ _ _ _ _ _ r' j d' ah a V HAI.out.1 (by omega) HATV.out HNA.out ha6 (by omega)).mono ?_
          rintro e w5 ⟨⟨n5, ok5, rfl, hno5, hyes5⟩, hb5⟩
          have HNO5 := Hid.mk hno5
          have HYES5 := Hid.mk hyes5
          have HR5 : Hid (Below wr.heap.size wr w5) := HVB.out.trans (hb5.mono HVB.out.size)
          have HB5 : Hid (Below w.heap.size w w5) := HVE.out.trans (hb5.mono HVE.out.size)
          have z5 := HR5.out.size
          clear hno5 hyes5 hb5
          cases hO : partW ss ah (K, kA, 0, ts, zs, ps) with
          | none =>
           have hok : ok5 = false := HNO5.out (by rw [if_neg (by omega)])
           subst hok
           have HN := Hid.mk (HNO.out hO)
           clear hO
           go_wp2
           exact bodyPost_ret (v := .tuple #[.slice none 0 0, .bool false]) (by simp [results, Tryz.results35, go_sem]) rfl ⟨IntsRet.no (ck_none HN.out), HB5.out⟩
          | some q =>
           obtain ⟨hok, hq⟩ := HYES5.out q (by rw [HWP.out] at hO; cases hO)
           subst hok hq
           have HN := Hid.mk (HYES.out _ hO)
           have HOV := Hid.mk (owns_below HOI.out HR5.out)
           clear hO
           go_wp2_with (at_builtin; refine wpList_append_lies _ rfl (.tmp 150) (.tmp 152) 23 rfl w2.heap.size 3 i0 (.int .i64 0) 1 8 Tryz.underlying23 hi hz0 hz1 hz2 rfl (by decide) _ _ _ rfl (HOV.out.alloc _) ⟨w5.heap.size, 0, none⟩ 1 1 [.int .i64 n5] rfl rfl (news_at w5 _ _) (by simp; rfl) (by decide) (by unfold maxLen; omega) (by omega) (by simp; omega) (w5.heap.size + 1) (by simp) ?_)
           intro g7 cap7 w7 ho7 hg7 hat7 hlt7
           have HR7 : Hid (Below w2.heap.size w2 w7) := ((HBW1.out.trans (HR5.out.mono zr)).alloc (by omega) _).grown hg7 (by simp; omega) (fun j hj => (HOV.out.lt j hj).1)
           have HOI7 : Hid (w7.ownsRow w2.heap.size 3 1 (.slice (some ⟨g7, 0, none⟩) (j + 1) cap7) (j + 1) ((ah ++ [n5]).map (.int .i64))) := by rw [List.map_append]; exact ho7
           clear ho7 hg7 hat7 hlt7
           go_wp2
           go_roundw
           case rel => exact ⟨j + 1, some ⟨g7, 0, none⟩, cap7, ah ++ [n5], by omega, by go_num, rfl, HN.out, HOI7.out, HR7.out⟩
           case measure => simp [intOf]; omega
       ·obtain rfl : j = pn := by omega
        have HRET : Hid (IntsRet (.returned (.tuple #[.slice r' j d', .bool true])) wr w.heap.size (ckB (ss, xs)) (ckZ (ss, xs))) := by
         show IntsRet _ _ _ _ _
         have h9 := ck_some (HC.out.trans hck)
         rw [h9.1, h9.2]
         exact ⟨r', j, d', rfl, (checkTo_some HALL.out hck).1, owns_mono hoi (by omega)⟩
        clear hck hoi hbw
        go_wp2
        exact bodyPost_ret (v := .tuple #[.slice r' j d', .bool true]) (by simp [results, Tryz.results35, go_sem]) rfl ⟨HRET.out, HBW2.out⟩
     ·have hd : decide (1 ≤ (pn : Int) ∧ (pn : Int) ≤ 12) = false := decide_eq_false hp12
      have hd2 : (decide (1 ≤ (pn : Int)) && decide ((pn : Int) ≤ 12)) = false := by simpa using hp12
      (try rw [hd]); (try rw [hd2])
      have HN : Hid (checkV (ss, xs) = none) := checkV_len (by show ¬ (1 ≤ xs.length ∧ xs.length ≤ 12); rw [HZ.out]; omega)
      clear hd hd2 hp12
      go_wp2
      exact bodyPost_ret (v := .tuple #[.slice none 0 0, .bool false]) (by simp [results, Tryz.results35, go_sem]) rfl ⟨IntsRet.no (ck_none HN.out), HB2.out⟩
    ·have hd : decide (1 ≤ (k : Int) ∧ (k : Int) ≤ 4) = false := decide_eq_false hs4
     have hd2 : (decide (1 ≤ (k : Int)) && decide ((k : Int) ≤ 4)) = false := by simpa using hs4
     (try rw [hd]); (try rw [hd2])
     have HN : Hid (checkV (ss, xs) = none) := checkV_src (by
      show srcOk ss = false
      unfold srcOk
      rw [HSZ.out]
      by_cases h1 : 1 ≤ k
      ·rw [decide_eq_false (by omega : ¬ k ≤ 4)]; simp
      ·rw [decide_eq_false h1]; rfl)
     clear hd hd2 hs4
     go_wp2
     exact bodyPost_ret (v := .tuple #[.slice none 0 0, .bool false]) (by simp [results, Tryz.results35, go_sem]) rfl ⟨IntsRet.no (ck_none HN.out), HB1.out⟩

end Go.Proofs.YthiabjkjpjmahaaGreat
