/- Contract of spec.PushDown. -/
import Derived.Test.YthdcjelahoiepabM21
import Derived.Test.YthdcjelahoiepabM22
import Derived.Test.YthdcjelahoiepabM18
import Derived.Test.YthdcjelahoiepabM23
namespace Go.Proofs.Ythdcjelahoiepab
open Go.RowKit

theorem RPart.own_A {w : World} {F : Nat → Prop} {K A B : Int} {ts : List Tst} {zs : List Int} {ps : List (List Int)} {ta : Option Addr} {tn tc : Nat} {ca : Option Addr} {cn cc : Nat} {pa : Option Addr} {pn pc : Nat}
    (h : RPart.Own w F (cellsP K A B ta tn tc ca cn cc pa pn pc) (K, A, B, ts, zs, ps)) (A' : Int) : RPart.Own w F (cellsP K A' B ta tn tc ca cn cc pa pn pc) (K, A', B, ts, zs, ps) := by
  obtain ⟨ta', tn', tc', ca', cn', cc', pa', pn', pc', F1, F2, F3, e, h1, h2, h3, f1, f2, f3, d12, d13, d23⟩ := RPart.own_open h
  simp only [cellsP, List.cons.injEq, Value.slice.injEq, true_and, and_true] at e
  obtain ⟨⟨rfl, rfl, rfl⟩, ⟨rfl, rfl, rfl⟩, rfl, rfl, rfl⟩ := e
  exact RPart.own_mk h1 h2 h3 f1 f2 f3 d12 d13 d23

set_option maxRecDepth 100000 in
set_option maxHeartbeats 32000000 in
theorem specPushDown (sa : Option Addr) (sn sc : Nat) (pa : Option Addr) (pn pc : Nat) (ss : List Int) (xs : List PartD) (w : World) (hsz : ss.length = sn) (hz : xs.length = pn) (hs : SmView (ss, xs)) (hsa : At w sa ss) (ha : AtSl RPart w pa xs) (hnil : sa = none → sc = 0) :
    Calls Try.prog 10 #[.agg #[.slice sa sn sc, .slice pa pn pc]] w fun e w' => PdRet e w' w.heap.size (ss, xs) ∧ Below w.heap.size w w' := by
  have hsn : sn ≤ 1048576 := by have := hs.src; simp only at this; omega
  have hpn : pn ≤ 1048576 := by have := hs.len; simp only at this; omega
  obtain ⟨i0, hi, hz0, hz1, hz2⟩ := info_parts Try.infoPart
  obtain ⟨W, hW⟩ : ∃ W, W = (w.alloc (.cells #[.slice sa sn sc, .slice pa pn pc] 31)).alloc (.cells #[.slice none 0 0, .slice none 0 0] 31) := ⟨_, rfl⟩
  have B0 : Below w.heap.size w W := by rw [hW]; exact ((Below.refl _ _).alloc (Nat.le_refl _) _).alloc (by simp) _
  have bB : W.heap[w.heap.size]? = some (.cells #[.slice sa sn sc, .slice pa pn pc] 31 (0, 0)) := by rw [hW]; exact blk_alloc (heap_alloc_new w _) _
  have bW : W.heap[w.heap.size + 1]? = some (.cells #[.slice none 0 0, .slice none 0 0] 31 (0, 0)) := by rw [hW]; have h9 := heap_alloc_new (w.alloc (.cells #[.slice sa sn sc, .slice pa pn pc] 31)) (.cells #[.slice none 0 0, .slice none 0 0] 31); simpa only [World.size_alloc] using h9
  have HC := Hid.mk (l6Check_any sa sn sc pa pn pc ss xs W hsz hsn hz hpn (fun i x hx => hs.part hx) (hsa.below B0) (ha.below B0))
  have HZ := Hid.mk hz
  have HSZ := Hid.mk hsz
  have HSM := Hid.mk hs
  have HNIL := Hid.mk hnil
  have HSA : Hid (At W sa ss) := hsa.below B0
  have HPA : Hid (AtSl RPart W pa xs) := ha.below B0
  clear hsz hz hs hsa ha hnil
  go_enter Try.func10, Try.ntmps10
  go_wp2_with fail
  rw [← hW]
  clear hW
  refine HC.out.mono ?_
  rintro e w1 ⟨⟨r, m, d, rfl, hm, ho⟩, hb1⟩
  have B1 := B0.trans (hb1.mono B0.size)
  have b1 := blk_below bW hb1
  have a1 := blk_below bB hb1
  clear hm ho HC
  cases hck : checkV (ss, xs) with
  | none =>
    rw [(ck_none hck).1]
    have p0 := blk_cell b1 0 (v := .slice none 0 0) rfl
    have p1 := blk_cell b1 1 (v := .slice none 0 0) rfl
    have f0 := blk_frozen b1 0
    have f1 := blk_frozen b1 1
    obtain ⟨Y, hY⟩ : ∃ u, u = stores w1 (w.heap.size + 1) 0 [.slice none 0 0, .slice none 0 0] := ⟨_, rfl⟩
    have D : Below w.heap.size w Y := by rw [hY]; exact stores_below _ _ _ _ B1 (by omega)
    have HR := Hid.mk (PdRet.no (w' := Y) (lo := w.heap.size) hck)
    have HY := Hid.mk hY
    have HD := Hid.mk D
    clear hck hb1 B0 b1 bW hY D
    go_wp2
    refine bodyPost_ret (v := .tuple #[.agg #[.slice none 0 0, .slice none 0 0], .bool false]) (by simp [results, Try.results10, go_sem, p0, p1]) rfl ⟨?_, ?_⟩
    · have h := HR.out
      rw [HY.out] at h
      exact h
    · have h := HD.out
      rw [HY.out] at h
      exact h
  | some ah =>
    rw [(ck_some hck).1]
    have hgood := checkV_good hck
    have hp1 : 1 ≤ pn := by have := hgood.2.1; simp only [HZ.out] at this; exact this
    have hp2 : pn ≤ 12 := by have := hgood.2.2.1; simp only [HZ.out] at this; exact this
    have HG := Hid.mk (good_parts hck)
    have HCK := Hid.mk (ck_some hck).1
    have c0 := blk_cell a1 0 (v := .slice sa sn sc) rfl
    have c1 := blk_cell a1 1 (v := .slice pa pn pc) rfl
    have HOW : Hid (Calls Try.prog 23 #[.agg #[.slice sa sn sc, .slice pa pn pc]] w1 fun e w' => ViewIs e w' w1.heap.size (ss, xs) ∧ Below w1.heap.size w1 w') := l6Own_any sa sn sc pa pn pc ss xs w1 HSZ.out hsn HZ.out (by omega) (fun i x hx => HSM.out.part hx) (HSA.out.below hb1) HNIL.out (HPA.out.below hb1)
    clear hck hgood bW bB hb1 B0 HSA HPA HNIL
    go_wp2_with fail
    refine HOW.out.mono ?_
    rintro e w2 ⟨⟨r0, d0, r9, d, rfl, ho⟩, hb2⟩
    simp only [HSZ.out, HZ.out] at ho ⊢
    have B2 : Below w.heap.size w w2 := B1.trans (hb2.mono B1.size)
    have b2 := blk_below b1 hb2
    have z1 : w.heap.size + 1 < w1.heap.size := (Array.getElem?_eq_some_iff.1 b1).1
    have z2 := hb2.size
    obtain ⟨c', d', F1, F2, he, hoi, hop, hF1, hF2, hF12⟩ := ho
    obtain ⟨r9', n9, d9, cells, G, rfl, hl⟩ := hop
    obtain ⟨si, ni, di, celli, Gi, rfl, hli⟩ := hoi
    simp only [List.cons_append, List.nil_append, List.cons.injEq, Value.slice.injEq, and_true] at he
    obtain ⟨⟨rfl, rfl, rfl⟩, rfl, rfl, rfl⟩ := he
    rcases hl.outer.2 with ⟨_, h00⟩ | ⟨g, cap, cur, hv, _, _, hcap, _⟩
    · omega
    simp only [Value.slice.injEq, true_and] at hv
    obtain ⟨rfl, rfl⟩ := hv
    obtain ⟨x, hx⟩ : ∃ x, xs[pn - 1]? = some x := ⟨_, List.getElem?_eq_getElem (by have := HZ.out; omega)⟩
    have hxl : xs[xs.length - 1]? = some x := by rw [HZ.out]; exact hx
    have HEACH : Hid (∀ (i : Nat) (y : PartD), xs[i]? = some y → ∃ cs, (∀ (j : Nat) (v : Value), cs[j]? = some v → w2.cell? ⟨g, i * 6 + j, none⟩ = some v) ∧ RPart.At w2 cs y) := by
      obtain ⟨b', off', hpa, hc⟩ := hl.atSl.each (show 0 < xs.length by rw [HZ.out]; omega)
      simp only [Option.some.injEq, Addr.mk.injEq, and_true] at hpa
      obtain ⟨rfl, rfl⟩ := hpa
      intro i y hy
      obtain ⟨cs, h1, h2⟩ := hc i y hy
      exact ⟨cs, fun j v hv => by have h9 := h1 j v hv; rw [RPart_k, Nat.zero_add] at h9; exact h9, h2⟩
    obtain ⟨cx, hcx, hat⟩ := HEACH.out _ _ hx
    obtain ⟨ta, tn, tc, ca, cn, cc, qa, qn, qc, rfl, ⟨ht1, ht2, ht3, ht4⟩, ⟨hu1, hu2, hu3, hu4⟩, ⟨hq1, hq2, hq3, hq4⟩⟩ := RPart.at_open4 hat
    obtain ⟨V6, hV6⟩ : ∃ u, u = w2.alloc (.cells #[.slice r0 sn d0, .slice (some ⟨g, 0, none⟩) pn d] 31) := ⟨_, rfl⟩
    have b6 : Below w2.heap.size w2 V6 := by rw [hV6]; exact (Below.refl _ _).alloc (Nat.le_refl _) _
    have v6 : V6.heap[w2.heap.size]? = some (.cells #[.slice r0 sn d0, .slice (some ⟨g, 0, none⟩) pn d] 31 (0, 0)) := by rw [hV6]; exact heap_alloc_new w2 _
    have z6 : w2.heap.size < V6.heap.size := (Array.getElem?_eq_some_iff.1 v6).1
    have m1 := blk_cell v6 1 (v := .slice (some ⟨g, 0, none⟩) pn d) rfl
    have g0 := cell_later b6 (hcx 0 _ rfl)
    have g1 := cell_later b6 (hcx 1 _ rfl)
    have g2 := cell_later b6 (hcx 2 _ rfl)
    have g3 := cell_later b6 (hcx 3 _ rfl)
    have g4 := cell_later b6 (hcx 4 _ rfl)
    have g5 := cell_later b6 (hcx 5 _ rfl)
    rw [Nat.add_zero] at g0
    have e1 : (pn : Int) - 1 = ((pn - 1 : Nat) : Int) := by omega
    have hlt1 : pn - 1 < pn := by omega
    have HLI := Hid.mk hli
    have HL := Hid.mk hl
    have HF1 := Hid.mk hF1
    have HF2 := Hid.mk hF2
    have HF12 := Hid.mk hF12
    have HXL := Hid.mk hxl
    have HX := Hid.mk hx
    have HGX := Hid.mk (HG.out _ _ hx)
    have HAX : Hid ((x.ts.length = tn ∧ AtE w2 ta x.ts ∧ (ta = none → tc = 0)) ∧ (x.cs.length = cn ∧ At w2 ca x.cs ∧ (ca = none → cc = 0)) ∧ (x.ps.length = qn ∧ AtSl RInts w2 qa x.ps)) := ⟨⟨ht1, ht3, ht4⟩, ⟨hu1, hu3, hu4⟩, ⟨hq1, hq3⟩⟩
    have HSX : Hid (SmPart x) := HSM.out.part hx
    have HBB := Hid.mk B2
    have HB6 := Hid.mk b6
    have HN2 := Hid.mk b2
    clear hli hl hF1 hF2 hF12 hxl hx hcx hat ht1 ht2 ht3 ht4 hu1 hu2 hu3 hu4 hq1 hq2 hq3 hq4 c0 c1 a1 b1 B1 B2 hb2 b2 HOW
    go_upto_region 5 with fail
    rw [← hV6]
    clear hV6
    obtain ⟨V8, hV8⟩ : ∃ u, u = V6.alloc (.cells #[.int .i64 x.K, .int .i64 x.A, .int .i64 x.B, .slice ta tn tc, .slice ca cn cc, .slice qa qn qc] 45) := ⟨_, rfl⟩
    have b8 : Below V6.heap.size V6 V8 := by rw [hV8]; exact (Below.refl _ _).alloc (Nat.le_refl _) _
    have v8 : V8.heap[V6.heap.size]? = some (.cells #[.int .i64 x.K, .int .i64 x.A, .int .i64 x.B, .slice ta tn tc, .slice ca cn cc, .slice qa qn qc] 45 (0, 0)) := by rw [hV8]; exact heap_alloc_new V6 _
    have z8 : V6.heap.size < V8.heap.size := (Array.getElem?_eq_some_iff.1 v8).1
    have w6 := blk_below v6 b8
    go_upto_region 7 with fail
    rw [← hV8]
    clear hV8 g0 g1 g2 g3 g4 g5 m1
    have m0 := blk_cell w6 0 (v := .slice r0 sn d0) rfl
    have m1 := blk_cell w6 1 (v := .slice (some ⟨g, 0, none⟩) pn d) rfl
    have n0 := blk_cell v8 0 (v := .int .i64 x.K) rfl
    have n1 := blk_cell v8 1 (v := .int .i64 x.A) rfl
    have B8 : Below w2.heap.size w2 V8 := HB6.out.trans (b8.mono HB6.out.size)
    have BB8 : Below w.heap.size w V8 := HBB.out.trans (B8.mono HBB.out.size)
    have c8 := blk_below HN2.out B8
    have p0 := blk_cell c8 0 (v := .slice none 0 0) rfl
    have p1 := blk_cell c8 1 (v := .slice none 0 0) rfl
    have f0 := blk_frozen c8 0
    have f1 := blk_frozen c8 1
    have HB8 := Hid.mk B8
    have HBB8 := Hid.mk BB8
    -- where nothing is pushed: the view as it was
    obtain ⟨Y, hY⟩ : ∃ u, u = stores V8 (w.heap.size + 1) 0 [.slice r0 sn d0, .slice (some ⟨g, 0, none⟩) pn d] := ⟨_, rfl⟩
    have HD : Hid (Below w.heap.size w Y) := by rw [hY]; exact stores_below _ _ _ _ BB8 (by omega)
    have HSAME : Hid (pushed xs = xs → PdRet (.returned (.tuple #[.agg #[.slice r0 sn d0, .slice (some ⟨g, 0, none⟩) pn d], .bool true])) Y w.heap.size (ss, xs)) := fun hpd => by
      have SO : Off (fun b => b = w.heap.size + 1) V8 Y := by rw [hY]; exact stores_off (F := fun b => b = w.heap.size + 1) _ _ _ _ rfl
      have h2 : pdV (ss, xs) = (ss, xs) := by unfold pdV; rw [HCK.out, hpd]; rfl
      show PdRet _ _ _ _
      unfold PdRet
      rw [h2, HCK.out]
      have hv : RView.Own w2 (From w1.heap.size w2.heap.size) [.slice r0 sn d0, .slice (some ⟨g, 0, none⟩) pn d] (ss, xs) := ⟨[_], [_], F1, F2, rfl, ⟨_, _, _, _, _, rfl, HLI.out⟩, ⟨_, _, _, _, _, rfl, HL.out⟩, HF1.out, HF2.out, HF12.out⟩
      have hv8 := RView.ownBelow hv B8
      have zY : Y.heap.size = V8.heap.size := by rw [hY]; exact stores_size _ _ _ _
      refine ⟨r0, sn, d0, some ⟨g, 0, none⟩, pn, d, rfl, HSZ.out, HZ.out, ?_⟩
      exact RView.mono (RView.ownOff hv8 SO (fun b h e => by have h9 := h.1; omega)) (fun b h => ⟨by have := h.1; omega, by have := h.2; have := B8.size; omega⟩)
    have HY := Hid.mk hY
    clear hY v6 b6 b8 c8 B8 BB8
    by_cases k2 : x.K = 2
    · obtain ⟨a0, a1⟩ := HGX.out.2.2 k2
      obtain ⟨j, hj⟩ : ∃ j : Nat, x.A = (j : Int) := ⟨x.A.toNat, by omega⟩
      have hjn : j < pn - 1 := by omega
      obtain ⟨u, hu⟩ : ∃ u, xs[j]? = some u := ⟨_, List.getElem?_eq_getElem (by have := HZ.out; omega)⟩
      have hul : xs[x.A.toNat]? = some u := by rw [hj]; exact hu
      obtain ⟨cu, hcu, hau⟩ := HEACH.out _ _ hu
      obtain ⟨tu, tun, tuc, cua, cun, cuc, qua, qun, quc, rfl, _⟩ := RPart.at_open4 hau
      have u0 := cell_later HB8.out (hcu 0 _ rfl)
      have u1 := cell_later HB8.out (hcu 1 _ rfl)
      have u2 := cell_later HB8.out (hcu 2 _ rfl)
      have u3 := cell_later HB8.out (hcu 3 _ rfl)
      have u4 := cell_later HB8.out (hcu 4 _ rfl)
      have u5 := cell_later HB8.out (hcu 5 _ rfl)
      rw [Nat.add_zero] at u0
      have hji : (j : Int) < (pn : Int) := by omega
      have hjp : j < pn := by omega
      rw [k2] at n0
      rw [hj] at n1
      rw [k2, hj] at v8
      have HU := Hid.mk hul
      have HA := Hid.mk hj
      have HK := Hid.mk k2
      clear hcu hau hu hul a0 a1 hj k2 HEACH
      by_cases k5 : u.K = 5
      · rw [k5] at u0
        have HK5 := Hid.mk k5
        clear k5
        by_cases hbig : 12 < pn + 2
        · have HR := Hid.mk (HSAME.out (pushed_many (by rw [HZ.out]; exact hbig)))
          have hbi : (12 : Int) < (pn : Int) + 2 := by omega
          go_wp2
          refine bodyPost_ret (v := .tuple #[.agg #[.slice r0 sn d0, .slice (some ⟨g, 0, none⟩) pn d], .bool true]) (by simp [results, Try.results10, go_sem, p0, p1]) rfl ⟨?_, ?_⟩
          · have h := HR.out
            rw [HY.out] at h
            exact h
          · have h := HD.out
            rw [HY.out] at h
            exact h
        · have hbi : ¬ (12 : Int) < (pn : Int) + 2 := by omega
          clear HSAME HD HY Y
          obtain ⟨V9, hV9⟩ : ∃ uw, uw = V8.alloc (.cells #[.int .i64 5, .int .i64 u.A, .int .i64 u.B, .slice tu tun tuc, .slice cua cun cuc, .slice qua qun quc] 45) := ⟨_, rfl⟩
          have b9 : Below V8.heap.size V8 V9 := by rw [hV9]; exact (Below.refl _ _).alloc (Nat.le_refl _) _
          have v9 : V9.heap[V8.heap.size]? = some (.cells #[.int .i64 5, .int .i64 u.A, .int .i64 u.B, .slice tu tun tuc, .slice cua cun cuc, .slice qua qun quc] 45 (0, 0)) := by rw [hV9]; exact heap_alloc_new V8 _
          have z9 : V8.heap.size < V9.heap.size := (Array.getElem?_eq_some_iff.1 v9).1
          have w8 := blk_below v8 b9
          have w9 := blk_below w6 b9
          go_upto_region 10 with fail
          rw [← hV9]
          clear hV9 u0 u1 u2 u3 u4 u5 n0 n1 m0 m1 v8 w6 p0 p1 f0 f1
          have B9 : Below w2.heap.size w2 V9 := HB8.out.trans (b9.mono HB8.out.size)
          have l0 := blk_cell w8 0 rfl
          have l1 := blk_cell w8 1 rfl
          have l2 := blk_cell w8 2 rfl
          have l3 := blk_cell w8 3 rfl
          have l4 := blk_cell w8 4 rfl
          have l5 := blk_cell w8 5 rfl
          have HSJ : Hid (SmPart (2, (j : Int), x.B, x.ts, x.cs, x.ps)) := HSX.out
          have HCA : Hid (Calls Try.prog 24 #[.agg #[.int .i64 2, .int .i64 j, .int .i64 x.B, .slice ta tn tc, .slice ca cn cc, .slice qa qn qc]] V9 fun e w' => PartRet e w' V9.heap.size (2, (j : Int), x.B, x.ts, x.cs, x.ps) ∧ Below V9.heap.size V9 w') :=
            l6OwnPart_any 2 j x.B ta tn tc ca cn cc qa qn qc x.ts x.cs x.ps V9 HAX.out.1.1 HAX.out.2.1.1 HAX.out.2.2.1 HSJ.out (At.below HAX.out.1.2.1 B9) HAX.out.1.2.2 (HAX.out.2.1.2.1.below B9) HAX.out.2.1.2.2 (HAX.out.2.2.2.below B9)
          go_wp2_with fail
          refine HCA.out.mono ?_
          rintro e w10 ⟨⟨ta1, tc1, ca1, cc1, pa1, pc1, rfl, ho10⟩, hb10⟩
          simp only [PartD.K, PartD.A, PartD.B, PartD.ts, PartD.cs, PartD.ps] at ho10 ⊢
          have z10 := hb10.size
          have y9 := blk_below v9 hb10
          have y8 := blk_below w8 hb10
          have y6 := blk_below w9 hb10
          have k9 := blk_cell y9 1 (v := .int .i64 u.A) rfl
          obtain ⟨V11, hV11⟩ : ∃ uw, uw = w10.alloc (.cells #[.int .i64 2, .int .i64 u.A, .int .i64 x.B, .slice ta1 x.ts.length tc1, .slice ca1 x.cs.length cc1, .slice pa1 x.ps.length pc1] 45) := ⟨_, rfl⟩
          have b11 : Below w10.heap.size w10 V11 := by rw [hV11]; exact (Below.refl _ _).alloc (Nat.le_refl _) _
          have v11 : V11.heap[w10.heap.size]? = some (.cells #[.int .i64 2, .int .i64 u.A, .int .i64 x.B, .slice ta1 x.ts.length tc1, .slice ca1 x.cs.length cc1, .slice pa1 x.ps.length pc1] 45 (0, 0)) := by rw [hV11]; exact heap_alloc_new w10 _
          have z11 : w10.heap.size < V11.heap.size := (Array.getElem?_eq_some_iff.1 v11).1
          have zq9 : V8.heap.size < w10.heap.size := by omega
          have HO10 := Hid.mk ho10
          have HB10 := Hid.mk hb10
          clear ho10 hb10 HCA
          go_upto_region 12 with fail
          rw [← hV11]
          clear hV11 l0 l1 l2 l3 l4 l5 k9
          have x9 := blk_below y9 b11
          have x8 := blk_below y8 b11
          have x6 := blk_below y6 b11
          have B11 : Below w2.heap.size w2 V11 := (B9.trans (HB10.out.mono B9.size)).trans (b11.mono (by have := B9.size; omega))
          have l0 := blk_cell x8 0 rfl
          have l1 := blk_cell x8 1 rfl
          have l2 := blk_cell x8 2 rfl
          have l3 := blk_cell x8 3 rfl
          have l4 := blk_cell x8 4 rfl
          have l5 := blk_cell x8 5 rfl
          have HCB : Hid (Calls Try.prog 24 #[.agg #[.int .i64 2, .int .i64 j, .int .i64 x.B, .slice ta tn tc, .slice ca cn cc, .slice qa qn qc]] V11 fun e w' => PartRet e w' V11.heap.size (2, (j : Int), x.B, x.ts, x.cs, x.ps) ∧ Below V11.heap.size V11 w') :=
            l6OwnPart_any 2 j x.B ta tn tc ca cn cc qa qn qc x.ts x.cs x.ps V11 HAX.out.1.1 HAX.out.2.1.1 HAX.out.2.2.1 HSJ.out (At.below HAX.out.1.2.1 B11) HAX.out.1.2.2 (HAX.out.2.1.2.1.below B11) HAX.out.2.1.2.2 (HAX.out.2.2.2.below B11)
          go_wp2_with fail
          refine HCB.out.mono ?_
          rintro e w12 ⟨⟨ta2, tc2, ca2, cc2, pa2, pc2, rfl, ho12⟩, hb12⟩
          simp only [PartD.K, PartD.A, PartD.B, PartD.ts, PartD.cs, PartD.ps] at ho12 ⊢
          have z12 := hb12.size
          have s9 := blk_below x9 hb12
          have k9 := blk_cell s9 2 (v := .int .i64 u.B) rfl
          obtain ⟨V13, hV13⟩ : ∃ uw, uw = w12.alloc (.cells #[.int .i64 2, .int .i64 u.B, .int .i64 x.B, .slice ta2 x.ts.length tc2, .slice ca2 x.cs.length cc2, .slice pa2 x.ps.length pc2] 45) := ⟨_, rfl⟩
          have b13 : Below w12.heap.size w12 V13 := by rw [hV13]; exact (Below.refl _ _).alloc (Nat.le_refl _) _
          have v13 : V13.heap[w12.heap.size]? = some (.cells #[.int .i64 2, .int .i64 u.B, .int .i64 x.B, .slice ta2 x.ts.length tc2, .slice ca2 x.cs.length cc2, .slice pa2 x.ps.length pc2] 45 (0, 0)) := by rw [hV13]; exact heap_alloc_new w12 _
          have z13 : w12.heap.size < V13.heap.size := (Array.getElem?_eq_some_iff.1 v13).1
          have zq9 : V8.heap.size < w12.heap.size := by omega
          have HO12 := Hid.mk ho12
          have HB12 := Hid.mk hb12
          clear ho12 hb12 HCB
          go_upto_region 14 with fail
          rw [← hV13]
          clear hV13 l0 l1 l2 l3 l4 l5 k9 s9 x9 x8 y9 y8 v9 w8
          
          have B13 : Below w2.heap.size w2 V13 := (B11.trans (HB12.out.mono B11.size)).trans (b13.mono (by have := B11.size; omega))
          have t11 := blk_below (blk_below v11 HB12.out) b13
          have t6 := blk_below (blk_below x6 HB12.out) b13
          have m1 := blk_cell t6 1 (v := .slice (some ⟨g, 0, none⟩) pn d) rfl
          have hs0 : V13.heap[w10.heap.size]? = some (.cells #[.int .i64 2, .int .i64 u.A, .int .i64 x.B, .slice ta1 x.ts.length tc1, .slice ca1 x.cs.length cc1, .slice pa1 x.ps.length pc1] 45 (0, 0)) ∧ V13.heap[w12.heap.size]? = some (.cells #[.int .i64 2, .int .i64 u.B, .int .i64 x.B, .slice ta2 x.ts.length tc2, .slice ca2 x.cs.length cc2, .slice pa2 x.ps.length pc2] 45 (0, 0)) := ⟨t11, v13⟩
          have hs1 : (V13.alloc (.cells #[.int .i64 2, .int .i64 u.A, .int .i64 x.B, .slice ta1 x.ts.length tc1, .slice ca1 x.cs.length cc1, .slice pa1 x.ps.length pc1, .int .i64 2, .int .i64 u.B, .int .i64 x.B, .slice ta2 x.ts.length tc2, .slice ca2 x.cs.length cc2, .slice pa2 x.ps.length pc2, .int .i64 5, .int .i64 ((pn - 1 : Nat) : Int), .int .i64 (((pn - 1 : Nat) : Int) + 1), .slice none 0 0, .slice none 0 0, .slice none 0 0] 45)).drew.heap[w10.heap.size]? = some (.cells #[.int .i64 2, .int .i64 u.A, .int .i64 x.B, .slice ta1 x.ts.length tc1, .slice ca1 x.cs.length cc1, .slice pa1 x.ps.length pc1] 45 (0, 0)) ∧ (V13.alloc (.cells #[.int .i64 2, .int .i64 u.A, .int .i64 x.B, .slice ta1 x.ts.length tc1, .slice ca1 x.cs.length cc1, .slice pa1 x.ps.length pc1, .int .i64 2, .int .i64 u.B, .int .i64 x.B, .slice ta2 x.ts.length tc2, .slice ca2 x.cs.length cc2, .slice pa2 x.ps.length pc2, .int .i64 5, .int .i64 ((pn - 1 : Nat) : Int), .int .i64 (((pn - 1 : Nat) : Int) + 1), .slice none 0 0, .slice none 0 0, .slice none 0 0] 45)).drew.heap[w12.heap.size]? = some (.cells #[.int .i64 2, .int .i64 u.B, .int .i64 x.B, .slice ta2 x.ts.length tc2, .slice ca2 x.cs.length cc2, .slice pa2 x.ps.length pc2] 45 (0, 0)) := ⟨blk_alloc t11 _, blk_alloc v13 _⟩
          have hg0 : g < w2.heap.size := (HF2.out g (HL.out.outerF g rfl)).2
          have hg1 : w1.heap.size ≤ g := (HF2.out g (HL.out.outerF g rfl)).1
          have HOWN : Hid (V13.ownsRow 0 45 6 (.slice (some ⟨g, 0, none⟩) (pn - 1) d) (pn - 1) (cells.take ((pn - 1) * 6))) := owns_below (owns_take HL.out.outer (by omega)) B13
          have hn1 : ((pn - 1 : Nat) : Int) + 1 < 9223372036854775808 := by omega
          have hpd : pn - 1 ≤ d := by omega
          have hwr : IntKind.i64.wrap (((pn - 1 : Nat) : Int) + 1) = ((pn - 1 : Nat) : Int) + 1 := IntWalk.i64_in _ (by omega)
          have HB10V : Hid (Below w10.heap.size w10 V13) := (b11.trans (HB12.out.mono b11.size)).trans (b13.mono (by omega))
          have HB12V := Hid.mk b13
          have HBV := Hid.mk B13
          have zz13 : w2.heap.size < V13.heap.size := by have := B11.size; omega
          clear v11 x6 y6 w9 b11 b13 b9 B9 B11 v13 t11
          refine wp_region_held_drew (S := fun w' => w'.heap[w10.heap.size]? = some (.cells #[.int .i64 2, .int .i64 u.A, .int .i64 x.B, .slice ta1 x.ts.length tc1, .slice ca1 x.cs.length cc1, .slice pa1 x.ps.length pc1] 45 (0, 0)) ∧ w'.heap[w12.heap.size]? = some (.cells #[.int .i64 2, .int .i64 u.B, .int .i64 x.B, .slice ta2 x.ts.length tc2, .slice ca2 x.cs.length cc2, .slice pa2 x.ps.length pc2] 45 (0, 0))) (by kernel_rfl) ?_ (fun hHeld => ?_)
          · (try dsimp only)
            (first | exact hs0 | exact hs1 | exact hs4 | exact hs5)
          refine wpAnyH_take (i := 0) (oi := ?_) (v := ?_) ?_ (by kernel_rfl) (by kernel_rfl) (by kernel_rfl) ?_ (Or.inl ⟨?_, ?_⟩) (by assumption) ?_
          rotate_left 2
          · (simp only [List.getElem?_toArray, List.getElem?_cons_zero]; rfl)
          · exact fun _ _ _ h => h
          · rfl
          · (intro wS hSw; (try dsimp only at hSw); go_simp; (try with_reducible rfl))
          (try simp only [Act.put, List.setIfInBounds_toArray, List.set_cons_zero, List.set_cons_succ])
          refine wpAnyH_take (i := 2) (oi := ?_) (v := ?_) ?_ (by kernel_rfl) (by kernel_rfl) (by kernel_rfl) ?_ (Or.inl ⟨?_, ?_⟩) (by assumption) ?_
          rotate_left 2
          · (simp only [List.getElem?_toArray, List.getElem?_cons_zero, List.getElem?_cons_succ]; rfl)
          · exact fun _ _ _ h => h
          · rfl
          · (intro wS hSw; (try dsimp only at hSw); go_simp; (try with_reducible rfl))
          (try simp only [Act.put, List.setIfInBounds_toArray, List.set_cons_zero, List.set_cons_succ])
          refine wpAnyH_take (i := 4) (oi := ?_) (v := ?_) ?_ (by kernel_rfl) (by kernel_rfl) (by kernel_rfl) ?_ (Or.inl ⟨?_, ?_⟩) (by assumption) ?_
          rotate_left 2
          · (simp only [List.getElem?_toArray, List.getElem?_cons_zero, List.getElem?_cons_succ]; rfl)
          · exact fun _ _ _ h => h
          · rfl
          · (intro wS hSw; (try dsimp only at hSw); have a0 := blk_cell hSw.1 0 (v := .int .i64 2) rfl; have a1 := blk_cell hSw.1 1 (v := .int .i64 u.A) rfl; have a2 := blk_cell hSw.1 2 (v := .int .i64 x.B) rfl; have a3 := blk_cell hSw.1 3 (v := .slice ta1 x.ts.length tc1) rfl; have a4 := blk_cell hSw.1 4 (v := .slice ca1 x.cs.length cc1) rfl; have a5 := blk_cell hSw.1 5 (v := .slice pa1 x.ps.length pc1) rfl; go_simp; (try with_reducible rfl))
          (try simp only [Act.put, List.setIfInBounds_toArray, List.set_cons_zero, List.set_cons_succ])
          refine wpAnyH_take (i := 5) (oi := ?_) (v := ?_) ?_ (by kernel_rfl) (by kernel_rfl) (by kernel_rfl) ?_ (Or.inl ⟨?_, ?_⟩) (by assumption) ?_
          rotate_left 2
          · (simp only [List.getElem?_toArray, List.getElem?_cons_zero, List.getElem?_cons_succ]; rfl)
          · exact fun _ _ _ h => h
          · rfl
          · (intro wS hSw; (try dsimp only at hSw); have a0 := blk_cell hSw.2 0 (v := .int .i64 2) rfl; have a1 := blk_cell hSw.2 1 (v := .int .i64 u.B) rfl; have a2 := blk_cell hSw.2 2 (v := .int .i64 x.B) rfl; have a3 := blk_cell hSw.2 3 (v := .slice ta2 x.ts.length tc2) rfl; have a4 := blk_cell hSw.2 4 (v := .slice ca2 x.cs.length cc2) rfl; have a5 := blk_cell hSw.2 5 (v := .slice pa2 x.ps.length pc2) rfl; go_simp; (try with_reducible rfl))
          (try simp only [Act.put, List.setIfInBounds_toArray, List.set_cons_zero, List.set_cons_succ])
          refine wpAnyH_take (i := 6) (oi := ?_) (v := ?_) ?_ (by kernel_rfl) (by kernel_rfl) (by kernel_rfl) ?_ (Or.inl ⟨?_, ?_⟩) (by assumption) ?_
          rotate_left 2
          · (simp only [List.getElem?_toArray, List.getElem?_cons_zero, List.getElem?_cons_succ]; rfl)
          · exact fun _ _ _ h => h
          · rfl
          · (intro wS hSw; (try dsimp only at hSw); go_simp; (try with_reducible rfl))
          (try simp only [Act.put, List.setIfInBounds_toArray, List.set_cons_zero, List.set_cons_succ])
          refine wpAnyH_take (i := 7) (oi := ?_) (v := ?_) ?_ (by kernel_rfl) (by kernel_rfl) (by kernel_rfl) ?_ (Or.inl ⟨?_, ?_⟩) (by assumption) ?_
          rotate_left 2
          · (simp only [List.getElem?_toArray, List.getElem?_cons_zero, List.getElem?_cons_succ]; rfl)
          · exact fun _ _ _ h => h
          · rfl
          · (intro wS hSw; (try dsimp only at hSw); go_simp; (try with_reducible rfl))
          (try simp only [Act.put, List.setIfInBounds_toArray, List.set_cons_zero, List.set_cons_succ])
          refine wpAnyH_take (i := 8) (oi := ?_) (v := ?_) ?_ (by kernel_rfl) (by kernel_rfl) (by kernel_rfl) ?_ (Or.inl ⟨?_, ?_⟩) (by assumption) ?_
          rotate_left 2
          · (simp only [List.getElem?_toArray, List.getElem?_cons_zero, List.getElem?_cons_succ]; rfl)
          · exact fun _ _ _ h => h
          · rfl
          · (intro wS hSw; (try dsimp only at hSw); go_simp; (try with_reducible rfl))
          (try simp only [Act.put, List.setIfInBounds_toArray, List.set_cons_zero, List.set_cons_succ])
          (try rw [hwr])
          refine wpAnyH_take (i := 9) (oi := ?_) (v := ?_) ?_ (by kernel_rfl) (by kernel_rfl) (by kernel_rfl) ?_ (Or.inl ⟨?_, ?_⟩) (by assumption) ?_
          rotate_left 2
          · (simp only [List.getElem?_toArray, List.getElem?_cons_zero, List.getElem?_cons_succ]; rfl)
          · exact fun _ _ _ h => h
          · rfl
          · (intro wS hSw; (try dsimp only at hSw); go_simp; (try with_reducible rfl))
          (try simp only [Act.put, List.setIfInBounds_toArray, List.set_cons_zero, List.set_cons_succ])
          refine wpAnyH_ready (rs := [1, 10]) (by kernel_rfl) (by simp) ?_
          refine AllReadyH.cons (o := ?_) ?_ (fun K hK => ?_) ?_
          rotate_left
          · (simp only [List.getElem?_toArray, List.getElem?_cons_zero, List.getElem?_cons_succ]; rfl)
          · go_simp
            (try go_wp2_with fail)
            refine hK.out _ _ ?_ (fun hHeld' => ?_)
            · (try dsimp only)
              (first | exact hs0 | exact hs1 | exact hs4 | exact hs5)
            clear hK K hHeld
            have hHeld := hHeld'
            clear hHeld'
            (try simp only [Act.put, List.setIfInBounds_toArray, List.set_cons_zero, List.set_cons_succ])
            refine wpAnyH_take (i := 3) (oi := ?_) (v := ?_) ?_ (by kernel_rfl) (by kernel_rfl) (by kernel_rfl) ?_ (Or.inl ⟨?_, ?_⟩) (by assumption) ?_
            rotate_left 2
            · (simp only [List.getElem?_toArray, List.getElem?_cons_zero, List.getElem?_cons_succ]; rfl)
            · exact fun _ _ _ h => h
            · rfl
            · (intro wS hSw; (try dsimp only at hSw); go_simp; (try with_reducible rfl))
            (try simp only [Act.put, List.setIfInBounds_toArray, List.set_cons_zero, List.set_cons_succ])
            refine wpAnyH_ready (rs := [10]) (by kernel_rfl) (by simp) ?_
            refine AllReadyH.cons (o := ?_) ?_ (fun K hK => ?_) AllReadyH.nil
            rotate_left
            · (simp only [List.getElem?_toArray, List.getElem?_cons_zero, List.getElem?_cons_succ]; rfl)
            go_simp
            skip
            (try go_wp2_with fail)
            refine hK.out _ _ ?_ (fun hHeld' => ?_)
            · (try dsimp only)
              (first | exact hs0 | exact hs1 | exact hs4 | exact hs5)
            clear hK K hHeld
            have hHeld := hHeld'
            clear hHeld'
            (try simp only [Act.put, List.setIfInBounds_toArray, List.set_cons_zero, List.set_cons_succ])
            refine wpAnyH_ready (rs := [11]) (by kernel_rfl) (by simp) ?_
            refine AllReadyH.cons (o := ?_) ?_ (fun K hK => ?_) AllReadyH.nil
            rotate_left
            · (simp only [List.getElem?_toArray, List.getElem?_cons_zero, List.getElem?_cons_succ]; rfl)
            refine step_append_vals rfl (.tmp 71) (.tmp 78) 29 rfl 0 45 i0 (.agg #[.int .i64 0, .int .i64 0, .int .i64 0, .slice none 0 0, .slice none 0 0, .slice none 0 0]) 6 96 Try.underlying29 hi hz0 hz1 hz2 rfl (by decide) (.slice (some ⟨g, 0, none⟩) (pn - 1) d) (pn - 1) (cells.take ((pn - 1) * 6)) (by simp [Act.eval]) (owns_below (HOWN.out.alloc _) (Below.refl _ _).drew) (some ⟨V13.heap.size, 0, none⟩) 3 3 [.int .i64 2, .int .i64 u.A, .int .i64 x.B, .slice ta1 x.ts.length tc1, .slice ca1 x.cs.length cc1, .slice pa1 x.ps.length pc1, .int .i64 2, .int .i64 u.B, .int .i64 x.B, .slice ta2 x.ts.length tc2, .slice ca2 x.cs.length cc2, .slice pa2 x.ps.length pc2, .int .i64 5, .int .i64 ((pn - 1 : Nat) : Int), .int .i64 (((pn - 1 : Nat) : Int) + 1), .slice none 0 0, .slice none 0 0, .slice none 0 0] (by simp [Act.eval]) rfl (fun ad he => by cases he; exact news_at V13 #[.int .i64 2, .int .i64 u.A, .int .i64 x.B, .slice ta1 x.ts.length tc1, .slice ca1 x.cs.length cc1, .slice pa1 x.ps.length pc1, .int .i64 2, .int .i64 u.B, .int .i64 x.B, .slice ta2 x.ts.length tc2, .slice ca2 x.cs.length cc2, .slice pa2 x.ps.length pc2, .int .i64 5, .int .i64 ((pn - 1 : Nat) : Int), .int .i64 (((pn - 1 : Nat) : Int) + 1), .slice none 0 0, .slice none 0 0, .slice none 0 0] 45) (by intro v hv; simp at hv; rcases hv with rfl | rfl | rfl | rfl | rfl | rfl | rfl | rfl | rfl | rfl | rfl | rfl | rfl | rfl | rfl | rfl | rfl | rfl <;> rfl) (fun h => by cases h) (by unfold maxLen; omega) (by omega) (Nat.zero_le _) ?_
            intro r4 d4 w15 ho4 hg4 ht4
            have BG : ∀ b, b < V13.heap.size → g ≠ b → w15.heap[b]? = V13.heap[b]? := fun b hb hn => (hg4.block b (by simp; omega) (fun e => hn (by simpa [Value.ownBlock] using e.symm))).trans (Below.heap_alloc V13 _ b hb)
            have k6 := (BG w2.heap.size (by omega) (by omega)).trans t6
            have e5 := blk_cell k6 1 (v := .slice (some ⟨g, 0, none⟩) pn d) rfl
            have f5 := blk_frozen k6 1
            have hs4 : w15.heap[w10.heap.size]? = some (.cells #[.int .i64 2, .int .i64 u.A, .int .i64 x.B, .slice ta1 x.ts.length tc1, .slice ca1 x.cs.length cc1, .slice pa1 x.ps.length pc1] 45 (0, 0)) ∧ w15.heap[w12.heap.size]? = some (.cells #[.int .i64 2, .int .i64 u.B, .int .i64 x.B, .slice ta2 x.ts.length tc2, .slice ca2 x.cs.length cc2, .slice pa2 x.ps.length pc2] 45 (0, 0)) := ⟨(BG _ (by omega) (by omega)).trans hs0.1, (BG _ (by omega) (by omega)).trans hs0.2⟩
            have hs5 : (w15.setCell ⟨w2.heap.size, 1, none⟩ (.slice r4 (pn - 1 + 3) d4)).heap[w10.heap.size]? = some (.cells #[.int .i64 2, .int .i64 u.A, .int .i64 x.B, .slice ta1 x.ts.length tc1, .slice ca1 x.cs.length cc1, .slice pa1 x.ps.length pc1] 45 (0, 0)) ∧ (w15.setCell ⟨w2.heap.size, 1, none⟩ (.slice r4 (pn - 1 + 3) d4)).heap[w12.heap.size]? = some (.cells #[.int .i64 2, .int .i64 u.B, .int .i64 x.B, .slice ta2 x.ts.length tc2, .slice ca2 x.cs.length cc2, .slice pa2 x.ps.length pc2] 45 (0, 0)) := ⟨blk_other hs4.1 (by simp; omega) _, blk_other hs4.2 (by simp; omega) _⟩
            refine hK.out _ _ ?_ (fun hHeld' => ?_)
            · (try dsimp only)
              (first | exact hs0 | exact hs1 | exact hs4 | exact hs5)
            clear hK K hHeld
            have hHeld := hHeld'
            clear hHeld'
            (try simp only [Act.put, List.setIfInBounds_toArray, List.set_cons_zero, List.set_cons_succ])
            refine wpAnyH_take (i := 12) (oi := ?_) (v := ?_) ?_ (by kernel_rfl) (by kernel_rfl) (by kernel_rfl) ?_ (Or.inl ⟨?_, ?_⟩) (by assumption) ?_
            rotate_left 2
            · (simp only [List.getElem?_toArray, List.getElem?_cons_zero, List.getElem?_cons_succ]; rfl)
            · exact fun _ _ _ h => h
            · rfl
            · (intro wS hSw; (try dsimp only at hSw); go_simp; (try with_reducible rfl))
            (try simp only [Act.put, List.setIfInBounds_toArray, List.set_cons_zero, List.set_cons_succ])
            refine wpAnyH_ready (rs := [13]) (by kernel_rfl) (by simp) ?_
            refine AllReadyH.cons (o := ?_) ?_ (fun K hK => ?_) AllReadyH.nil
            rotate_left
            · (simp only [List.getElem?_toArray, List.getElem?_cons_zero, List.getElem?_cons_succ]; rfl)
            go_simp
            skip
            (try go_wp2_with fail)
            refine hK.out _ _ ?_ (fun hHeld' => ?_)
            · (try dsimp only)
              (first | exact hs0 | exact hs1 | exact hs4 | exact hs5)
            clear hK K hHeld
            have hHeld := hHeld'
            clear hHeld'
            (try simp only [Act.put, List.setIfInBounds_toArray, List.set_cons_zero, List.set_cons_succ])
            refine wpAnyH_done (by kernel_rfl) ?_ _
            have z15 : V13.heap.size < w15.heap.size := by have h9 := hg4.size; simp at h9; omega
            obtain ⟨X, hX⟩ : ∃ uw, uw = w15.setCell ⟨w2.heap.size, 1, none⟩ (.slice r4 (pn - 1 + 3) d4) := ⟨_, rfl⟩
            have zX : X.heap.size = w15.heap.size := by rw [hX]; simp [World.setCell]
            have SX : Off (fun b => b = w2.heap.size) w15 X := by rw [hX]; exact Off.set (F := fun b => b = w2.heap.size) rfl _
            have x6 : X.heap[w2.heap.size]? = some (.cells #[.slice r0 sn d0, .slice r4 (pn - 1 + 3) d4] 31 (0, 0)) := by rw [hX]; exact blk_set k6 1 _
            have c15 := (BG (w.heap.size + 1) (by omega) (by omega)).trans (blk_below HN2.out HBV.out)
            have x1 : X.heap[w.heap.size + 1]? = some (.cells #[.slice none 0 0, .slice none 0 0] 31 (0, 0)) := by rw [hX]; exact blk_other c15 (by simp; omega) _
            have q0 := blk_cell x6 0 (v := .slice r0 sn d0) rfl
            have q1 := blk_cell x6 1 (v := .slice r4 (pn - 1 + 3) d4) rfl
            have p0 := blk_cell x1 0 (v := .slice none 0 0) rfl
            have p1 := blk_cell x1 1 (v := .slice none 0 0) rfl
            have f0 := blk_frozen x1 0
            have f1 := blk_frozen x1 1
            obtain ⟨Y, hY⟩ : ∃ uw, uw = stores X (w.heap.size + 1) 0 [.slice r0 sn d0, .slice r4 (pn - 1 + 3) d4] := ⟨_, rfl⟩
            have zY : Y.heap.size = X.heap.size := by rw [hY]; exact stores_size _ _ _ _
            have SY : Off (fun b => b = w.heap.size + 1) X Y := by rw [hY]; exact stores_off (F := fun b => b = w.heap.size + 1) _ _ _ _ rfl
            have BW13 : Below w.heap.size w V13 := HBB.out.trans (HBV.out.mono HBB.out.size)
            have B15 : Below w.heap.size w w15 := ((BW13.alloc BW13.size _).drew).grown hg4 (by have h9 := BW13.size; simp; omega) (fun k hk => by
              obtain rfl : g = k := by simpa [Value.ownBlock] using hk
              omega)
            have HD : Hid (Below w.heap.size w Y) := by
              rw [hY]
              refine stores_below _ _ _ _ ?_ (by omega)
              rw [hX]
              exact B15.setCell (by have := BW13.size; simp; omega) _
            have KEEP : ∀ b, b < V13.heap.size → g ≠ b → b ≠ w2.heap.size → b ≠ w.heap.size + 1 → Y.heap[b]? = V13.heap[b]? := fun b h1 h2 h3 h4 => (SY.block b (by omega) h4).trans ((SX.block b (by omega) h3).trans (BG b h1 h2))
            have hob : ∀ b, (Value.slice r4 (pn - 1 + 3) d4).ownBlock = some b → b = g ∨ V13.heap.size ≤ b := fun b hb => by
              rcases ht4 with h9 | h9
              · rw [h9] at hb
                left
                simpa [Value.ownBlock] using hb.symm
              · rw [h9] at hb
                simp at hb
                omega
            have hown : Y.ownsRow 0 45 6 (.slice r4 (pn - 1 + 3) d4) (pn - 1 + 3) (((cells.take ((pn - 1) * 6) ++ [.int .i64 2, .int .i64 u.A, .int .i64 x.B, .slice ta1 x.ts.length tc1, .slice ca1 x.cs.length cc1, .slice pa1 x.ps.length pc1]) ++ [.int .i64 2, .int .i64 u.B, .int .i64 x.B, .slice ta2 x.ts.length tc2, .slice ca2 x.cs.length cc2, .slice pa2 x.ps.length pc2]) ++ [.int .i64 5, .int .i64 ((pn - 1 : Nat) : Int), .int .i64 (((pn - 1 : Nat) : Int) + 1), .slice none 0 0, .slice none 0 0, .slice none 0 0]) := by
              rw [List.append_assoc, List.append_assoc]
              exact ownsRow_frame ho4 (fun b hb hlt => by
                have h9 := hob b hb
                rw [SY.block b (by omega) (fun e => by omega), SX.block b hlt (fun e => by omega)])
            have o1 : RPart.Own Y (From V9.heap.size w10.heap.size) [.int .i64 2, .int .i64 u.A, .int .i64 x.B, .slice ta1 x.ts.length tc1, .slice ca1 x.cs.length cc1, .slice pa1 x.ps.length pc1] (2, u.A, x.B, x.ts, x.cs, x.ps) := RPart.own_A (RPart.frame HO10.out (fun b h1 h2 => (KEEP b (by have := HB10V.out.size; omega) (by have := h1.1; omega) (by have := h1.1; omega) (by have := h1.1; omega)).trans (HB10V.out.block b h2))) u.A
            have o2 : RPart.Own Y (From V11.heap.size w12.heap.size) [.int .i64 2, .int .i64 u.B, .int .i64 x.B, .slice ta2 x.ts.length tc2, .slice ca2 x.cs.length cc2, .slice pa2 x.ps.length pc2] (2, u.B, x.B, x.ts, x.cs, x.ps) := RPart.own_A (RPart.frame HO12.out (fun b h1 h2 => (KEEP b (by omega) (by have := h1.1; omega) (by have := h1.1; omega) (by have := h1.1; omega)).trans (HB12V.out.block b h2))) u.B
            have o3 : RPart.Own Y noF [.int .i64 5, .int .i64 ((pn - 1 : Nat) : Int), .int .i64 (((pn - 1 : Nat) : Int) + 1), .slice none 0 0, .slice none 0 0, .slice none 0 0] (5, ((pn - 1 : Nat) : Int), ((pn - 1 : Nat) : Int) + 1, [], [], []) := RPart.own_bare Y noF 5 ((pn - 1 : Nat) : Int) (((pn - 1 : Nat) : Int) + 1)
            have HP : pushed xs = ((xs.take (pn - 1) ++ [(2, u.A, x.B, x.ts, x.cs, x.ps)]) ++ [(2, u.B, x.B, x.ts, x.cs, x.ps)]) ++ [(5, ((pn - 1 : Nat) : Int), ((pn - 1 : Nat) : Int) + 1, [], [], [])] := by
              have h9 := noMore_open HGX.out.2.1
              have hk := HK.out
              have hB : x.B = 0 := by rcases h9.2.2.2 with h | h; omega; exact h
              have hc : x.cs = [] := by rcases h9.2.1 with h | h; omega; exact h
              have hq : x.ps = [] := by rcases h9.2.2.1 with h | h; omega; exact h
              rw [pushed_some (selU_yes HXL.out HK.out HU.out HK5.out) (by rw [HZ.out]; exact hbig), HZ.out, hB, hc, hq, List.append_assoc, List.append_assoc]
              rfl
            have rows := (((RowsOf.of (HL.out.below HBV.out) (m := pn - 1) (by omega)).to (w' := Y) (F' := fun b => From w.heap.size Y.heap.size b ∧ ¬ F1 b) (ob' := (Value.slice r4 (pn - 1 + 3) d4).ownBlock) (fun i b hi hb hlt => by
                have h9 := HL.out.rowF i b (by omega) hb
                have h8 := HF2.out b h9.1
                exact KEEP b hlt (fun e => h9.2 (by rw [← e]; rfl)) (by have := h8.2; omega) (by have := h8.1; omega)) (fun i b hi hb => by
                have h9 := HL.out.rowF i b (by omega) hb
                have h8 := HF2.out b h9.1
                refine ⟨⟨⟨by have := h8.1; omega, by have := h8.2; omega⟩, fun e => HF12.out b e h9.1⟩, fun e => ?_⟩
                rcases hob b e with h7 | h7
                · exact h9.2 (by rw [h7]; rfl)
                · have := h8.2; omega)).add o1 (fun b hb => ⟨⟨⟨by have := hb.1; omega, by have := hb.2; omega⟩, fun e => by have := (HF1.out b e).2; have := hb.1; omega⟩, fun e => by rcases hob b e with h7 | h7 <;> (have := hb.1; have := hb.2; omega)⟩) (fun i b hi hb e => by have := (HF2.out b (HL.out.rowF i b (by omega) hb).1).2; have := e.1; omega)).add o2 (fun b hb => ⟨⟨⟨by have := hb.1; omega, by have := hb.2; omega⟩, fun e => by have := (HF1.out b e).2; have := hb.1; omega⟩, fun e => by rcases hob b e with h7 | h7 <;> (have := hb.1; have := hb.2; omega)⟩) (fun i b hi hb e => by
                by_cases ei : i = pn - 1
                · rw [if_pos ei] at hb
                  have := hb.2; have := e.1; omega
                · rw [if_neg ei] at hb
                  have := (HF2.out b (HL.out.rowF i b (by omega) hb).1).2; have := e.1; omega)
            have laid := (rows.add o3 (fun b hb => hb.elim) (fun i b hi hb e => e.elim)).laid (e := 45) (a := r4) (c := d4) (by omega) hown (fun b hb => by
              have h9 := hown.lt b hb
              rcases hob b hb with h7 | h7
              · exact ⟨⟨by omega, h9.2⟩, fun e => HF12.out b e (h7 ▸ HL.out.outerF g rfl)⟩
              · exact ⟨⟨by omega, h9.2⟩, fun e => by have := (HF1.out b e).2; omega⟩)
            have HR : Hid (PdRet (.returned (.tuple #[.agg #[.slice r0 sn d0, .slice r4 (pn - 1 + 3) d4], .bool true])) Y w.heap.size (ss, xs)) := by
              show PdRet _ _ _ _
              have h2 : pdV (ss, xs) = (ss, pushed xs) := by unfold pdV; rw [HCK.out]; rfl
              unfold PdRet
              rw [h2, HCK.out]
              refine ⟨r0, sn, d0, r4, pn - 1 + 3, d4, rfl, HSZ.out, by rw [HP]; exact laid.len, ?_⟩
              refine ⟨[_], [_], F1, fun b => From w.heap.size Y.heap.size b ∧ ¬ F1 b, rfl, ⟨_, _, _, _, _, rfl, HLI.out.frame (fun b h1 h2 => ?_)⟩, ?_, fun b h => ⟨by have := (HF1.out b h).1; omega, by have := (HF1.out b h).2; omega⟩, fun b h => h.1, fun b h1 h2 => h2.2 h1⟩
              · have h8 := HF1.out b h1
                exact (KEEP b (by omega) (fun e => HF12.out b h1 (e ▸ HL.out.outerF g rfl)) (by have := h8.2; omega) (by have := h8.1; omega)).trans (HBV.out.block b h2)
              · rw [HP]
                exact ⟨r4, _, d4, _, _, rfl, laid⟩
            have HY := Hid.mk hY
            have HX := Hid.mk hX
            clear laid rows HP o1 o2 o3 hown hob KEEP B15 BW13 SY zY SX zX x6 x1 c15 BG ho4 hg4 ht4 k6 e5 f5 hs4 hs5 hHeld hs0 hs1 t6 m1
            rw [← hX]
            clear hX hY
            go_wp2
            refine bodyPost_ret (v := .tuple #[.agg #[.slice r0 sn d0, .slice r4 (pn - 1 + 3) d4], .bool true]) (by simp [results, Try.results10, go_sem, p0, p1]) rfl ⟨?_, ?_⟩
            · have h := HR.out
              rw [HY.out] at h
              exact h
            · have h := HD.out
              rw [HY.out] at h
              exact h
          refine AllReadyH.cons (o := ?_) ?_ (fun K hK => ?_) AllReadyH.nil
          rotate_left
          · (simp only [List.getElem?_toArray, List.getElem?_cons_zero, List.getElem?_cons_succ]; rfl)
          · go_simp
            (try go_wp2_with fail)
            refine hK.out _ _ ?_ (fun hHeld' => ?_)
            · (try dsimp only)
              (first | exact hs0 | exact hs1 | exact hs4 | exact hs5)
            clear hK K hHeld
            have hHeld := hHeld'
            clear hHeld'
            (try simp only [Act.put, List.setIfInBounds_toArray, List.set_cons_zero, List.set_cons_succ])
            have u2 : (V13.alloc (.cells #[.int .i64 2, .int .i64 u.A, .int .i64 x.B, .slice ta1 x.ts.length tc1, .slice ca1 x.cs.length cc1, .slice pa1 x.ps.length pc1, .int .i64 2, .int .i64 u.B, .int .i64 x.B, .slice ta2 x.ts.length tc2, .slice ca2 x.cs.length cc2, .slice pa2 x.ps.length pc2, .int .i64 5, .int .i64 ((pn - 1 : Nat) : Int), .int .i64 (((pn - 1 : Nat) : Int) + 1), .slice none 0 0, .slice none 0 0, .slice none 0 0] 45)).cell? ⟨w2.heap.size, 1, none⟩ = some (.slice (some ⟨g, 0, none⟩) pn d) := cell_later ((Below.refl _ _).alloc (Nat.le_refl _) _) m1
            refine wpAnyH_ready (rs := [1]) (by kernel_rfl) (by simp) ?_
            refine AllReadyH.cons (o := ?_) ?_ (fun K hK => ?_) AllReadyH.nil
            rotate_left
            · (simp only [List.getElem?_toArray, List.getElem?_cons_zero, List.getElem?_cons_succ]; rfl)
            go_simp
            skip
            (try go_wp2_with fail)
            refine hK.out _ _ ?_ (fun hHeld' => ?_)
            · (try dsimp only)
              (first | exact hs0 | exact hs1 | exact hs4 | exact hs5)
            clear hK K hHeld
            have hHeld := hHeld'
            clear hHeld'
            (try simp only [Act.put, List.setIfInBounds_toArray, List.set_cons_zero, List.set_cons_succ])
            clear u2
            refine wpAnyH_take (i := 3) (oi := ?_) (v := ?_) ?_ (by kernel_rfl) (by kernel_rfl) (by kernel_rfl) ?_ (Or.inl ⟨?_, ?_⟩) (by assumption) ?_
            rotate_left 2
            · (simp only [List.getElem?_toArray, List.getElem?_cons_zero, List.getElem?_cons_succ]; rfl)
            · exact fun _ _ _ h => h
            · rfl
            · (intro wS hSw; (try dsimp only at hSw); go_simp; (try with_reducible rfl))
            (try simp only [Act.put, List.setIfInBounds_toArray, List.set_cons_zero, List.set_cons_succ])
            refine wpAnyH_ready (rs := [11]) (by kernel_rfl) (by simp) ?_
            refine AllReadyH.cons (o := ?_) ?_ (fun K hK => ?_) AllReadyH.nil
            rotate_left
            · (simp only [List.getElem?_toArray, List.getElem?_cons_zero, List.getElem?_cons_succ]; rfl)
            refine step_append_vals rfl (.tmp 71) (.tmp 78) 29 rfl 0 45 i0 (.agg #[.int .i64 0, .int .i64 0, .int .i64 0, .slice none 0 0, .slice none 0 0, .slice none 0 0]) 6 96 Try.underlying29 hi hz0 hz1 hz2 rfl (by decide) (.slice (some ⟨g, 0, none⟩) (pn - 1) d) (pn - 1) (cells.take ((pn - 1) * 6)) (by simp [Act.eval]) (owns_below (HOWN.out.alloc _) (Below.refl _ _).drew) (some ⟨V13.heap.size, 0, none⟩) 3 3 [.int .i64 2, .int .i64 u.A, .int .i64 x.B, .slice ta1 x.ts.length tc1, .slice ca1 x.cs.length cc1, .slice pa1 x.ps.length pc1, .int .i64 2, .int .i64 u.B, .int .i64 x.B, .slice ta2 x.ts.length tc2, .slice ca2 x.cs.length cc2, .slice pa2 x.ps.length pc2, .int .i64 5, .int .i64 ((pn - 1 : Nat) : Int), .int .i64 (((pn - 1 : Nat) : Int) + 1), .slice none 0 0, .slice none 0 0, .slice none 0 0] (by simp [Act.eval]) rfl (fun ad he => by cases he; exact news_at V13 #[.int .i64 2, .int .i64 u.A, .int .i64 x.B, .slice ta1 x.ts.length tc1, .slice ca1 x.cs.length cc1, .slice pa1 x.ps.length pc1, .int .i64 2, .int .i64 u.B, .int .i64 x.B, .slice ta2 x.ts.length tc2, .slice ca2 x.cs.length cc2, .slice pa2 x.ps.length pc2, .int .i64 5, .int .i64 ((pn - 1 : Nat) : Int), .int .i64 (((pn - 1 : Nat) : Int) + 1), .slice none 0 0, .slice none 0 0, .slice none 0 0] 45) (by intro v hv; simp at hv; rcases hv with rfl | rfl | rfl | rfl | rfl | rfl | rfl | rfl | rfl | rfl | rfl | rfl | rfl | rfl | rfl | rfl | rfl | rfl <;> rfl) (fun h => by cases h) (by unfold maxLen; omega) (by omega) (Nat.zero_le _) ?_
            intro r4 d4 w15 ho4 hg4 ht4
            have BG : ∀ b, b < V13.heap.size → g ≠ b → w15.heap[b]? = V13.heap[b]? := fun b hb hn => (hg4.block b (by simp; omega) (fun e => hn (by simpa [Value.ownBlock] using e.symm))).trans (Below.heap_alloc V13 _ b hb)
            have k6 := (BG w2.heap.size (by omega) (by omega)).trans t6
            have e5 := blk_cell k6 1 (v := .slice (some ⟨g, 0, none⟩) pn d) rfl
            have f5 := blk_frozen k6 1
            have hs4 : w15.heap[w10.heap.size]? = some (.cells #[.int .i64 2, .int .i64 u.A, .int .i64 x.B, .slice ta1 x.ts.length tc1, .slice ca1 x.cs.length cc1, .slice pa1 x.ps.length pc1] 45 (0, 0)) ∧ w15.heap[w12.heap.size]? = some (.cells #[.int .i64 2, .int .i64 u.B, .int .i64 x.B, .slice ta2 x.ts.length tc2, .slice ca2 x.cs.length cc2, .slice pa2 x.ps.length pc2] 45 (0, 0)) := ⟨(BG _ (by omega) (by omega)).trans hs0.1, (BG _ (by omega) (by omega)).trans hs0.2⟩
            have hs5 : (w15.setCell ⟨w2.heap.size, 1, none⟩ (.slice r4 (pn - 1 + 3) d4)).heap[w10.heap.size]? = some (.cells #[.int .i64 2, .int .i64 u.A, .int .i64 x.B, .slice ta1 x.ts.length tc1, .slice ca1 x.cs.length cc1, .slice pa1 x.ps.length pc1] 45 (0, 0)) ∧ (w15.setCell ⟨w2.heap.size, 1, none⟩ (.slice r4 (pn - 1 + 3) d4)).heap[w12.heap.size]? = some (.cells #[.int .i64 2, .int .i64 u.B, .int .i64 x.B, .slice ta2 x.ts.length tc2, .slice ca2 x.cs.length cc2, .slice pa2 x.ps.length pc2] 45 (0, 0)) := ⟨blk_other hs4.1 (by simp; omega) _, blk_other hs4.2 (by simp; omega) _⟩
            refine hK.out _ _ ?_ (fun hHeld' => ?_)
            · (try dsimp only)
              (first | exact hs0 | exact hs1 | exact hs4 | exact hs5)
            clear hK K hHeld
            have hHeld := hHeld'
            clear hHeld'
            (try simp only [Act.put, List.setIfInBounds_toArray, List.set_cons_zero, List.set_cons_succ])
            refine wpAnyH_take (i := 12) (oi := ?_) (v := ?_) ?_ (by kernel_rfl) (by kernel_rfl) (by kernel_rfl) ?_ (Or.inl ⟨?_, ?_⟩) (by assumption) ?_
            rotate_left 2
            · (simp only [List.getElem?_toArray, List.getElem?_cons_zero, List.getElem?_cons_succ]; rfl)
            · exact fun _ _ _ h => h
            · rfl
            · (intro wS hSw; (try dsimp only at hSw); go_simp; (try with_reducible rfl))
            (try simp only [Act.put, List.setIfInBounds_toArray, List.set_cons_zero, List.set_cons_succ])
            refine wpAnyH_ready (rs := [13]) (by kernel_rfl) (by simp) ?_
            refine AllReadyH.cons (o := ?_) ?_ (fun K hK => ?_) AllReadyH.nil
            rotate_left
            · (simp only [List.getElem?_toArray, List.getElem?_cons_zero, List.getElem?_cons_succ]; rfl)
            go_simp
            skip
            (try go_wp2_with fail)
            refine hK.out _ _ ?_ (fun hHeld' => ?_)
            · (try dsimp only)
              (first | exact hs0 | exact hs1 | exact hs4 | exact hs5)
            clear hK K hHeld
            have hHeld := hHeld'
            clear hHeld'
            (try simp only [Act.put, List.setIfInBounds_toArray, List.set_cons_zero, List.set_cons_succ])
            refine wpAnyH_done (by kernel_rfl) ?_ _
            have z15 : V13.heap.size < w15.heap.size := by have h9 := hg4.size; simp at h9; omega
            obtain ⟨X, hX⟩ : ∃ uw, uw = w15.setCell ⟨w2.heap.size, 1, none⟩ (.slice r4 (pn - 1 + 3) d4) := ⟨_, rfl⟩
            have zX : X.heap.size = w15.heap.size := by rw [hX]; simp [World.setCell]
            have SX : Off (fun b => b = w2.heap.size) w15 X := by rw [hX]; exact Off.set (F := fun b => b = w2.heap.size) rfl _
            have x6 : X.heap[w2.heap.size]? = some (.cells #[.slice r0 sn d0, .slice r4 (pn - 1 + 3) d4] 31 (0, 0)) := by rw [hX]; exact blk_set k6 1 _
            have c15 := (BG (w.heap.size + 1) (by omega) (by omega)).trans (blk_below HN2.out HBV.out)
            have x1 : X.heap[w.heap.size + 1]? = some (.cells #[.slice none 0 0, .slice none 0 0] 31 (0, 0)) := by rw [hX]; exact blk_other c15 (by simp; omega) _
            have q0 := blk_cell x6 0 (v := .slice r0 sn d0) rfl
            have q1 := blk_cell x6 1 (v := .slice r4 (pn - 1 + 3) d4) rfl
            have p0 := blk_cell x1 0 (v := .slice none 0 0) rfl
            have p1 := blk_cell x1 1 (v := .slice none 0 0) rfl
            have f0 := blk_frozen x1 0
            have f1 := blk_frozen x1 1
            obtain ⟨Y, hY⟩ : ∃ uw, uw = stores X (w.heap.size + 1) 0 [.slice r0 sn d0, .slice r4 (pn - 1 + 3) d4] := ⟨_, rfl⟩
            have zY : Y.heap.size = X.heap.size := by rw [hY]; exact stores_size _ _ _ _
            have SY : Off (fun b => b = w.heap.size + 1) X Y := by rw [hY]; exact stores_off (F := fun b => b = w.heap.size + 1) _ _ _ _ rfl
            have BW13 : Below w.heap.size w V13 := HBB.out.trans (HBV.out.mono HBB.out.size)
            have B15 : Below w.heap.size w w15 := ((BW13.alloc BW13.size _).drew).grown hg4 (by have h9 := BW13.size; simp; omega) (fun k hk => by
              obtain rfl : g = k := by simpa [Value.ownBlock] using hk
              omega)
            have HD : Hid (Below w.heap.size w Y) := by
              rw [hY]
              refine stores_below _ _ _ _ ?_ (by omega)
              rw [hX]
              exact B15.setCell (by have := BW13.size; simp; omega) _
            have KEEP : ∀ b, b < V13.heap.size → g ≠ b → b ≠ w2.heap.size → b ≠ w.heap.size + 1 → Y.heap[b]? = V13.heap[b]? := fun b h1 h2 h3 h4 => (SY.block b (by omega) h4).trans ((SX.block b (by omega) h3).trans (BG b h1 h2))
            have hob : ∀ b, (Value.slice r4 (pn - 1 + 3) d4).ownBlock = some b → b = g ∨ V13.heap.size ≤ b := fun b hb => by
              rcases ht4 with h9 | h9
              · rw [h9] at hb
                left
                simpa [Value.ownBlock] using hb.symm
              · rw [h9] at hb
                simp at hb
                omega
            have hown : Y.ownsRow 0 45 6 (.slice r4 (pn - 1 + 3) d4) (pn - 1 + 3) (((cells.take ((pn - 1) * 6) ++ [.int .i64 2, .int .i64 u.A, .int .i64 x.B, .slice ta1 x.ts.length tc1, .slice ca1 x.cs.length cc1, .slice pa1 x.ps.length pc1]) ++ [.int .i64 2, .int .i64 u.B, .int .i64 x.B, .slice ta2 x.ts.length tc2, .slice ca2 x.cs.length cc2, .slice pa2 x.ps.length pc2]) ++ [.int .i64 5, .int .i64 ((pn - 1 : Nat) : Int), .int .i64 (((pn - 1 : Nat) : Int) + 1), .slice none 0 0, .slice none 0 0, .slice none 0 0]) := by
              rw [List.append_assoc, List.append_assoc]
              exact ownsRow_frame ho4 (fun b hb hlt => by
                have h9 := hob b hb
                rw [SY.block b (by omega) (fun e => by omega), SX.block b hlt (fun e => by omega)])
            have o1 : RPart.Own Y (From V9.heap.size w10.heap.size) [.int .i64 2, .int .i64 u.A, .int .i64 x.B, .slice ta1 x.ts.length tc1, .slice ca1 x.cs.length cc1, .slice pa1 x.ps.length pc1] (2, u.A, x.B, x.ts, x.cs, x.ps) := RPart.own_A (RPart.frame HO10.out (fun b h1 h2 => (KEEP b (by have := HB10V.out.size; omega) (by have := h1.1; omega) (by have := h1.1; omega) (by have := h1.1; omega)).trans (HB10V.out.block b h2))) u.A
            have o2 : RPart.Own Y (From V11.heap.size w12.heap.size) [.int .i64 2, .int .i64 u.B, .int .i64 x.B, .slice ta2 x.ts.length tc2, .slice ca2 x.cs.length cc2, .slice pa2 x.ps.length pc2] (2, u.B, x.B, x.ts, x.cs, x.ps) := RPart.own_A (RPart.frame HO12.out (fun b h1 h2 => (KEEP b (by omega) (by have := h1.1; omega) (by have := h1.1; omega) (by have := h1.1; omega)).trans (HB12V.out.block b h2))) u.B
            have o3 : RPart.Own Y noF [.int .i64 5, .int .i64 ((pn - 1 : Nat) : Int), .int .i64 (((pn - 1 : Nat) : Int) + 1), .slice none 0 0, .slice none 0 0, .slice none 0 0] (5, ((pn - 1 : Nat) : Int), ((pn - 1 : Nat) : Int) + 1, [], [], []) := RPart.own_bare Y noF 5 ((pn - 1 : Nat) : Int) (((pn - 1 : Nat) : Int) + 1)
            have HP : pushed xs = ((xs.take (pn - 1) ++ [(2, u.A, x.B, x.ts, x.cs, x.ps)]) ++ [(2, u.B, x.B, x.ts, x.cs, x.ps)]) ++ [(5, ((pn - 1 : Nat) : Int), ((pn - 1 : Nat) : Int) + 1, [], [], [])] := by
              have h9 := noMore_open HGX.out.2.1
              have hk := HK.out
              have hB : x.B = 0 := by rcases h9.2.2.2 with h | h; omega; exact h
              have hc : x.cs = [] := by rcases h9.2.1 with h | h; omega; exact h
              have hq : x.ps = [] := by rcases h9.2.2.1 with h | h; omega; exact h
              rw [pushed_some (selU_yes HXL.out HK.out HU.out HK5.out) (by rw [HZ.out]; exact hbig), HZ.out, hB, hc, hq, List.append_assoc, List.append_assoc]
              rfl
            have rows := (((RowsOf.of (HL.out.below HBV.out) (m := pn - 1) (by omega)).to (w' := Y) (F' := fun b => From w.heap.size Y.heap.size b ∧ ¬ F1 b) (ob' := (Value.slice r4 (pn - 1 + 3) d4).ownBlock) (fun i b hi hb hlt => by
                have h9 := HL.out.rowF i b (by omega) hb
                have h8 := HF2.out b h9.1
                exact KEEP b hlt (fun e => h9.2 (by rw [← e]; rfl)) (by have := h8.2; omega) (by have := h8.1; omega)) (fun i b hi hb => by
                have h9 := HL.out.rowF i b (by omega) hb
                have h8 := HF2.out b h9.1
                refine ⟨⟨⟨by have := h8.1; omega, by have := h8.2; omega⟩, fun e => HF12.out b e h9.1⟩, fun e => ?_⟩
                rcases hob b e with h7 | h7
                · exact h9.2 (by rw [h7]; rfl)
                · have := h8.2; omega)).add o1 (fun b hb => ⟨⟨⟨by have := hb.1; omega, by have := hb.2; omega⟩, fun e => by have := (HF1.out b e).2; have := hb.1; omega⟩, fun e => by rcases hob b e with h7 | h7 <;> (have := hb.1; have := hb.2; omega)⟩) (fun i b hi hb e => by have := (HF2.out b (HL.out.rowF i b (by omega) hb).1).2; have := e.1; omega)).add o2 (fun b hb => ⟨⟨⟨by have := hb.1; omega, by have := hb.2; omega⟩, fun e => by have := (HF1.out b e).2; have := hb.1; omega⟩, fun e => by rcases hob b e with h7 | h7 <;> (have := hb.1; have := hb.2; omega)⟩) (fun i b hi hb e => by
                by_cases ei : i = pn - 1
                · rw [if_pos ei] at hb
                  have := hb.2; have := e.1; omega
                · rw [if_neg ei] at hb
                  have := (HF2.out b (HL.out.rowF i b (by omega) hb).1).2; have := e.1; omega)
            have laid := (rows.add o3 (fun b hb => hb.elim) (fun i b hi hb e => e.elim)).laid (e := 45) (a := r4) (c := d4) (by omega) hown (fun b hb => by
              have h9 := hown.lt b hb
              rcases hob b hb with h7 | h7
              · exact ⟨⟨by omega, h9.2⟩, fun e => HF12.out b e (h7 ▸ HL.out.outerF g rfl)⟩
              · exact ⟨⟨by omega, h9.2⟩, fun e => by have := (HF1.out b e).2; omega⟩)
            have HR : Hid (PdRet (.returned (.tuple #[.agg #[.slice r0 sn d0, .slice r4 (pn - 1 + 3) d4], .bool true])) Y w.heap.size (ss, xs)) := by
              show PdRet _ _ _ _
              have h2 : pdV (ss, xs) = (ss, pushed xs) := by unfold pdV; rw [HCK.out]; rfl
              unfold PdRet
              rw [h2, HCK.out]
              refine ⟨r0, sn, d0, r4, pn - 1 + 3, d4, rfl, HSZ.out, by rw [HP]; exact laid.len, ?_⟩
              refine ⟨[_], [_], F1, fun b => From w.heap.size Y.heap.size b ∧ ¬ F1 b, rfl, ⟨_, _, _, _, _, rfl, HLI.out.frame (fun b h1 h2 => ?_)⟩, ?_, fun b h => ⟨by have := (HF1.out b h).1; omega, by have := (HF1.out b h).2; omega⟩, fun b h => h.1, fun b h1 h2 => h2.2 h1⟩
              · have h8 := HF1.out b h1
                exact (KEEP b (by omega) (fun e => HF12.out b h1 (e ▸ HL.out.outerF g rfl)) (by have := h8.2; omega) (by have := h8.1; omega)).trans (HBV.out.block b h2)
              · rw [HP]
                exact ⟨r4, _, d4, _, _, rfl, laid⟩
            have HY := Hid.mk hY
            have HX := Hid.mk hX
            clear laid rows HP o1 o2 o3 hown hob KEEP B15 BW13 SY zY SX zX x6 x1 c15 BG ho4 hg4 ht4 k6 e5 f5 hs4 hs5 hHeld hs0 hs1 t6 m1
            rw [← hX]
            clear hX hY
            go_wp2
            refine bodyPost_ret (v := .tuple #[.agg #[.slice r0 sn d0, .slice r4 (pn - 1 + 3) d4], .bool true]) (by simp [results, Try.results10, go_sem, p0, p1]) rfl ⟨?_, ?_⟩
            · have h := HR.out
              rw [HY.out] at h
              exact h
            · have h := HD.out
              rw [HY.out] at h
              exact h
      · have HR := Hid.mk (HSAME.out (pushed_none (selU_not HXL.out HU.out k5)))
        generalize u.K = K at *
        have k3 : (K != 5) = true := by simp [k5]
        go_wp2
        refine bodyPost_ret (v := .tuple #[.agg #[.slice r0 sn d0, .slice (some ⟨g, 0, none⟩) pn d], .bool true]) (by simp [results, Try.results10, go_sem, p0, p1]) rfl ⟨?_, ?_⟩
        · have h := HR.out
          rw [HY.out] at h
          exact h
        · have h := HD.out
          rw [HY.out] at h
          exact h
    · have HR := Hid.mk (HSAME.out (pushed_none (selU_kind HXL.out k2)))
      generalize x.K = K at *
      have k3 : (K != 2) = true := by simp [k2]
      go_wp2
      refine bodyPost_ret (v := .tuple #[.agg #[.slice r0 sn d0, .slice (some ⟨g, 0, none⟩) pn d], .bool true]) (by simp [results, Try.results10, go_sem, p0, p1]) rfl ⟨?_, ?_⟩
      · have h := HR.out
        rw [HY.out] at h
        exact h
      · have h := HD.out
        rw [HY.out] at h
        exact h
  
end Go.Proofs.Ythdcjelahoiepab
