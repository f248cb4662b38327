/- Several texts of one proof, in build order: PairM, LawWaitsFor. -/
import Derived.Test.YtjjebodlekepaaaDoorM3
import Derived.Test.YtjjebodlekepaaaDoorM17
import Derived.Test.YtjjebodlekepaaaDoorM4
import Derived.Test.YtjjebodlekepaaaDoorM16

/- Contracts of the laws' eqIntSS, markIntSS, heldIntSS over things in memory (without views). -/
namespace Go.Proofs.YtjjebodlekepaaaDoor
open Go.RowKit

theorem eqIntSS_same (a a' : Option Addr) (n c c' : Nat) (zs : List (List Int)) (w : World) (hz : zs.length = n) (hn : n ≤ 1048576) (hs : ∀ i, i < zs.length → (zs.getD i []).length ≤ 1048576) (ha : AtS w a zs) (ha' : AtS w a' zs) :
    Calls Tryd.prog 14 #[.slice a n c, .slice a' n c'] w fun e w' => e = .returned (.bool true) ∧ Below w.heap.size w w' :=
  (eqIntSS_any a a' n n c c' zs zs w hz hz hn hn hs hs ha ha').mono fun _ _ ⟨h1, h2⟩ => ⟨by rw [h1, decide_eq_true rfl], h2⟩

set_option maxRecDepth 100000 in
set_option maxHeartbeats 4000000 in
theorem markPairs_rep (F : Nat → Prop) (a : Option Addr) (n c : Nat) (zss : List (List Int)) (m : Int) (w : World) (hn : n ≤ 1048576) (ht : tot zss n ≤ 1048576) (h0 : 0 ≤ m) (h1 : m ≤ 134217728) (ho : RPairs.Own w F [.slice a n c] zss) :
    Calls Tryd.prog 16 #[.slice a n c, .int .i64 m] w fun e w' => e = .returned (.int .i64 (m + tot zss n)) ∧ RPairs.Own w' F [.slice a n c] (mkPairs m zss) ∧ Off F w w' := by
  obtain ⟨a', n', c', cells, G, he, hl⟩ := ho
  simp only [List.cons.injEq, Value.slice.injEq, and_true] at he
  obtain ⟨rfl, rfl, rfl⟩ := he
  go_enter Tryd.func16, Tryd.ntmps16
  go_wp2
  go_loopw [1, 5] (fun q i wr => ∃ k : Nat, k ≤ n ∧ i = .int .i64 k ∧ q = .int .i64 (m + tot zss k) ∧ Laid RInts wr F 23 a n c (mkTo (fun m zs => mkInts m zs) List.length m zss k) cells G n ∧ Off F w wr) (fun _ i _ => n - (intOf i).toNat)
  case atStart => exact ⟨0, Nat.zero_le _, rfl, by simp [tot_zero], by rw [mkTo_zero]; exact hl, Off.refl _ _⟩
  case round =>
    have hzl := hl.len
    clear hl
    obtain ⟨k, hk, rfl, rfl, hl, hof⟩ := hrel
    by_cases hlt : k < n
    · obtain ⟨ys, hy⟩ : ∃ ys, zss[k]? = some ys := ⟨_, List.getElem?_eq_getElem (by omega)⟩
      have hrow := hl.row k ys hlt (mkTo_next _ _ hy)
      obtain ⟨a2, n2, c2, _, _, he2, _⟩ := hrow
      have hrow := hl.row k ys hlt (mkTo_next _ _ hy)
      rw [he2] at hrow
      rcases hl.outer.2 with ⟨_, h00⟩ | ⟨g, cap, cur, hv, _⟩
      · omega
      simp only [Value.slice.injEq, true_and] at hv
      obtain ⟨rfl, rfl⟩ := hv
      have hcl : cells.length = n * 1 := hl.outer.1
      have hcx : wr.cell? ⟨g, k, none⟩ = some (.slice a2 n2 c2) := by
        rw [hl.outer.cellAt k (show k < n * 1 by omega)]
        have h9 := sub_at (cells := cells) (o := k * 1) (k := 1) (j := 0) (by omega)
        have he3 : sub cells (k * 1) 1 = [.slice a2 n2 c2] := he2
        rw [he3] at h9
        simpa using h9.symm
      have hly : ys.length = n2 := (RInts.own_iff.1 hrow).1
      have hts := tot_succ zss k (by omega)
      have hgk : zss.getD k [] = ys := by simp [List.getD, hy]
      rw [hgk, hly] at hts
      have htm := tot_mono zss (k + 1) n (by omega)
      have HL := Hid.mk hl
      have HR := Hid.mk hrow
      have HO := Hid.mk hof
      have HY := Hid.mk hy
      have HLY := Hid.mk hly
      obtain ⟨T, hT⟩ : ∃ T, tot zss k = T := ⟨_, rfl⟩
      have HT := Hid.mk hT
      rw [hT] at hts ⊢
      have hn2 : n2 ≤ 1048576 := by omega
      have hmT : m + (T : Int) ≤ 268435456 := by omega
      have hki : (k : Int) < (n : Int) := by omega
      have HTS := Hid.mk hts
      have HE2 := Hid.mk he2
      clear hl hrow hof hy hly hT hts hgk he2 hcl htm
      go_wp2_with fail
      refine (markInts_rep (G k) a2 n2 c2 ys (m + T) wr hn2 (by omega) hmT HR.out).mono ?_
      rintro e w2 ⟨rfl, o2, f2⟩
      have hturn := HL.out.turn (w' := w2) (cells' := cells) (x' := mkInts (m + T) ys) hlt (fun b hb hn1 _ => f2.block b hb hn1) (ownsRow_frame HL.out.outer (fun b hb hlb => f2.block b hlb (fun hG => (HL.out.rowF k b hlt hG).2 hb))) (fun _ _ => rfl) (by rw [HE2.out]; exact o2)
      have HLN : Hid (Laid RInts w2 F 23 (some ⟨g, 0, none⟩) n c (mkTo (fun m zs => mkInts m zs) List.length m zss (k + 1)) cells G n) := by
        have h9 := mkTo_set (fun m zs => mkInts m zs) List.length (m := m) HY.out
        rw [szL_pairs, HT.out] at h9
        show Laid _ _ _ _ _ _ _ _ _ _ _
        rw [← h9]
        exact hturn
      have HON : Hid (Off F w w2) := HO.out.trans (f2.mono (fun b hb => (HL.out.rowF k b hlt hb).1))
      clear hturn o2 f2
      go_wp2
      go_roundw
      case rel => exact ⟨k + 1, by omega, by go_num, by rw [HTS.out]; congr 1; push_cast; omega, HLN.out, HON.out⟩
      case measure => simp [intOf]; omega
    · obtain rfl : k = n := by omega
      have HL := Hid.mk hl
      clear hl
      go_wp2
      go_ret
      refine ⟨rfl, ⟨_, _, _, cells, G, rfl, ?_⟩, hof⟩
      have h9 := HL.out
      rw [mkTo_all _ _ _ _ hzl] at h9
      exact h9

set_option maxRecDepth 100000 in
set_option maxHeartbeats 2000000 in
theorem heldPairs_rep (a : Option Addr) (n c : Nat) (zss : List (List Int)) (m : Int) (w : World) (hz : zss.length = n) (hn : n ≤ 1048576) (ht : tot zss n ≤ 1048576) (h0 : 0 ≤ m) (h1 : m ≤ 134217728) (ha : AtSl RInts w a (mkPairs m zss)) :
    Calls Tryd.prog 17 #[.slice a n c, .int .i64 m] w fun e w' => e = .returned (.int .i64 (m + tot zss n)) ∧ Below w.heap.size w w' := by
  have hl : (mkPairs m zss).length = n := by unfold mkPairs; rw [mkL_length, hz]
  by_cases hn0 : n = 0
  · subst hn0
    go_enter Tryd.func17, Tryd.ntmps17
    go_wp2
    refine wp_loop_rounds 1 ?_
    rw [rounds_succ]
    go_wp2
    go_ret
    exact ⟨by simp [tot], Below.refl _ _⟩
  go_enter Tryd.func17, Tryd.ntmps17
  go_wp2
  go_loopw [1, 5] (fun q i wr => ∃ k : Nat, k ≤ n ∧ i = .int .i64 k ∧ q = .int .i64 (m + tot zss k) ∧ Below w.heap.size w wr) (fun _ i _ => n - (intOf i).toNat)
  case atStart => exact ⟨0, Nat.zero_le _, rfl, by simp [tot_zero], Below.refl _ _⟩
  case round =>
    obtain ⟨k, hk, rfl, rfl, hbw⟩ := hrel
    by_cases hlt : k < n
    · obtain ⟨b, off, rfl, hc⟩ := (ha.below hbw).each (by omega)
      obtain ⟨ys, hy⟩ : ∃ ys, zss[k]? = some ys := ⟨_, List.getElem?_eq_getElem (by omega)⟩
      have hmk := mkL_at (fun m zs => mkInts m zs) List.length m zss k ys hy
      obtain ⟨cs, hcs, a2, n2, c2, rfl, e1, e2, e3, _⟩ := hc k _ hmk
      have hcx : wr.cell? ⟨b, off + k, none⟩ = some (.slice a2 n2 c2) := by simpa [RInts, Rep.slice] using hcs 0 _ rfl
      rw [szL_pairs] at e1 e3
      have hly : ys.length = n2 := by rw [← e1]; unfold mkInts; rw [marks_length]
      have hts := tot_succ zss k (by omega)
      have hgk : zss.getD k [] = ys := by simp [List.getD, hy]
      rw [hgk, hly] at hts
      have htm := tot_mono zss (k + 1) n (by omega)
      obtain ⟨T, hT⟩ : ∃ T, tot zss k = T := ⟨_, rfl⟩
      rw [hT] at hts e3 ⊢
      have hn2 : n2 ≤ 1048576 := by omega
      have hmT : m + (T : Int) ≤ 268435456 := by omega
      have hT0 : ¬ m + (T : Int) + (n2 : Int) < 0 := by omega
      have hki : (k : Int) < (n : Int) := by omega
      have HTS := Hid.mk hts
      have HA := Hid.mk (atSl_int.1 e3)
      have HLY := Hid.mk hly
      clear e1 e3 hly hts hgk hT htm hmk hcs hc hy ha
      go_wp2_with fail
      refine (heldInts_rep a2 n2 c2 ys (m + T) wr HLY.out hn2 (by omega) hmT HA.out).mono ?_
      rintro e w2 ⟨rfl, hb2⟩
      go_wp2
      go_roundw
      case rel => exact ⟨k + 1, by omega, by go_num, by rw [HTS.out]; congr 1; push_cast; omega, hbw.trans (hb2.mono hbw.size)⟩
      case measure => simp [intOf]; omega
    · obtain rfl : k = n := by omega
      go_wp2
      go_ret
      exact ⟨rfl, hbw⟩

end Go.Proofs.YtjjebodlekepaaaDoor

/- The law FnExactWaitsFor returns true at every input, and writes nothing that was there. -/
namespace Go.Proofs.YtjjebodlekepaaaDoor
open Go.RowKit

set_option maxRecDepth 100000 in
set_option maxHeartbeats 16000000 in
theorem lawWaitsFor (aa0 ba0 ca0 da0 ea0 : Option Addr) (an0 ac0 bn0 bc0 cn0 cc0 dn0 dc0 en0 ec0 : Nat) (z0 : TLk) (w : World) (ha0 : RLks.At w [.slice aa0 an0 ac0, .slice ba0 bn0 bc0, .slice ca0 cn0 cc0, .slice da0 dn0 dc0, .slice ea0 en0 ec0] z0) (htab : TabE w) :
    Calls Tryd.prog 4 #[.agg #[.slice aa0 an0 ac0, .slice ba0 bn0 bc0, .slice ca0 cn0 cc0, .slice da0 dn0 dc0, .slice ea0 en0 ec0]] w fun e w' => e = .returned (.bool true) ∧ Below w.heap.size w w' := by
  obtain ⟨za0, zb0, zc0, zd0, ze0⟩ := z0
  obtain ⟨⟨lka1_0, lka2_0, lka3_0, _⟩, ⟨lkb1_0, lkb2_0, lkb3_0, _⟩, ⟨lkc1_0, lkc2_0, lkc3_0, _⟩, ⟨lkd1_0, lkd2_0, lkd3_0, _⟩, ⟨lke1_0, lke2_0, lke3_0, _⟩⟩ := RLks.at_iff ha0
  have HA0 := Hid.mk (And.intro lka3_0 (And.intro lkb3_0 (And.intro lkc3_0 (And.intro lkd3_0 lke3_0))))
  have HZ0 : Hid (za0.length = an0 ∧ zb0.length = bn0 ∧ zc0.length = cn0 ∧ zd0.length = dn0 ∧ ze0.length = en0) := Hid.mk ⟨lka1_0, lkb1_0, lkc1_0, lkd1_0, lke1_0⟩
  clear ha0 lka1_0 lka3_0 lkb1_0 lkb3_0 lkc1_0 lkc3_0 lkd1_0 lkd3_0 lke1_0 lke3_0
  have HTAB := Hid.mk htab
  clear htab
  obtain ⟨W, hW⟩ : ∃ W, W = w.alloc (.cells #[.slice aa0 an0 ac0, .slice ba0 bn0 bc0, .slice ca0 cn0 cc0, .slice da0 dn0 dc0, .slice ea0 en0 ec0] 25) := ⟨_, rfl⟩
  have B0 : Below w.heap.size w W := by rw [hW]; exact (Below.refl _ _).alloc (Nat.le_refl _) _
  have zW : w.heap.size < W.heap.size := by rw [hW]; simp
  have p00_0 : W.cell? ⟨w.heap.size, 0, none⟩ = some (.slice aa0 an0 ac0) := by rw [hW]; simp
  have p01_0 : W.cell? ⟨w.heap.size, 1, none⟩ = some (.slice ba0 bn0 bc0) := by rw [hW]; simp
  have p02_0 : W.cell? ⟨w.heap.size, 2, none⟩ = some (.slice ca0 cn0 cc0) := by rw [hW]; simp
  have p03_0 : W.cell? ⟨w.heap.size, 3, none⟩ = some (.slice da0 dn0 dc0) := by rw [hW]; simp
  have p04_0 : W.cell? ⟨w.heap.size, 4, none⟩ = some (.slice ea0 en0 ec0) := by rw [hW]; simp
  obtain ⟨C0, hC0⟩ : ∃ C : Nat, lkcost (za0, zb0, zc0, zd0, ze0) = C := ⟨_, rfl⟩
  have HC0 := Hid.mk hC0
  clear hC0
  by_cases big0 : (1048576 : Int) < (C0 : Int)
  · go_enter Tryd.func4, Tryd.ntmps4
    go_wp2_with fail
    rw [← hW]
    clear hW
    refine (szLocks_rep aa0 ba0 ca0 da0 ea0 an0 bn0 cn0 dn0 en0 ac0 bc0 cc0 dc0 ec0 za0 zb0 zc0 zd0 ze0 _ _ HZ0.out lka2_0 lkb2_0 lkc2_0 lkd2_0 lke2_0 (by omega) (by omega)).mono ?_
    rintro e v0 ⟨rfl, hv0⟩
    rw [HC0.out, leftOf_no big0]
    have y0 := B0.trans (hv0.mono B0.size)
    go_wp2
    go_ret
    exact ⟨rfl, y0⟩
  have hl0 : ¬ (1048576 : Int) - (C0 : Int) < 0 := by omega
  have HSM0 : Hid (an0 ≤ 1048576 ∧ bn0 ≤ 1048576 ∧ cn0 ≤ 1048576 ∧ dn0 ≤ 1048576 ∧ en0 ≤ 1048576 ∧ lkmk (za0, zb0, zc0, zd0, ze0) ≤ 3145728) := Hid.mk (lks_small HZ0.out (by have := HC0.out; omega))
  have hsa0 := HSM0.out.1
  have hsb0 := HSM0.out.2.1
  have hsc0 := HSM0.out.2.2.1
  have hsd0 := HSM0.out.2.2.2.1
  have hse0 := HSM0.out.2.2.2.2.1
  have HVB0 := HSM0.out.2.2.2.2.2
  obtain ⟨V0, hV0⟩ : ∃ V : Nat, lkmk (za0, zb0, zc0, zd0, ze0) = V := ⟨_, rfl⟩
  rw [hV0] at HVB0
  have HV0 := Hid.mk hV0
  clear hV0
  obtain ⟨ok, ta, hsA, HS, HI⟩ : ∃ (ok : Bool) (ta : List (List Int)), SmK ta ta.length ∧ Hid (∀ (xa0 xb0 xc0 xd0 xe0 : Nat) (w : World) (F0 : Nat → Prop), RLks.Own w F0 [.slice (some ⟨xa0, 0, none⟩) an0 an0, .slice (some ⟨xb0, 0, none⟩) bn0 bn0, .slice (some ⟨xc0, 0, none⟩) cn0 cn0, .slice (some ⟨xd0, 0, none⟩) dn0 dn0, .slice (some ⟨xe0, 0, none⟩) en0 en0] (za0, zb0, zc0, zd0, ze0) → Calls Tryd.prog 12 #[.agg #[.slice (some ⟨xa0, 0, none⟩) an0 an0, .slice (some ⟨xb0, 0, none⟩) bn0 bn0, .slice (some ⟨xc0, 0, none⟩) cn0 cn0, .slice (some ⟨xd0, 0, none⟩) dn0 dn0, .slice (some ⟨xe0, 0, none⟩) en0 en0]] w fun e w' => KeysRet e w' w.heap.size ok ta ∧ Below w.heap.size w w') ∧ Hid (∀ (xa0 xb0 xc0 xd0 xe0 : Nat) (w : World) (F0 : Nat → Prop), RLks.Own w F0 [.slice (some ⟨xa0, 0, none⟩) an0 an0, .slice (some ⟨xb0, 0, none⟩) bn0 bn0, .slice (some ⟨xc0, 0, none⟩) cn0 cn0, .slice (some ⟨xd0, 0, none⟩) dn0 dn0, .slice (some ⟨xe0, 0, none⟩) en0 en0] (za0, zb0, zc0, zd0, ze0) → TabE w → Calls Tryd.prog 13 #[.agg #[.slice (some ⟨xa0, 0, none⟩) an0 an0, .slice (some ⟨xb0, 0, none⟩) bn0 bn0, .slice (some ⟨xc0, 0, none⟩) cn0 cn0, .slice (some ⟨xd0, 0, none⟩) dn0 dn0, .slice (some ⟨xe0, 0, none⟩) en0 en0]] w fun e w' => KeysRet e w' w.heap.size ok ta ∧ Below w.heap.size w w') := ⟨glB (za0, zb0, zc0, zd0, ze0), wfL (za0, zb0, zc0, zd0, ze0), wf_small _, fun xa0 xb0 xc0 xd0 xe0 w F0 o0 => specWaitsFor (some ⟨xa0, 0, none⟩) (some ⟨xb0, 0, none⟩) (some ⟨xc0, 0, none⟩) (some ⟨xd0, 0, none⟩) (some ⟨xe0, 0, none⟩) an0 an0 bn0 bn0 cn0 cn0 dn0 dn0 en0 en0 za0 zb0 zc0 zd0 ze0 w HZ0.out.1 hsa0 (Nat.le_refl _) (fun h => by cases h) (lks_at o0).1 HZ0.out.2.1 hsb0 (Nat.le_refl _) (fun h => by cases h) (lks_at o0).2.1 HZ0.out.2.2.1 hsc0 (Nat.le_refl _) (fun h => by cases h) (lks_at o0).2.2.1 HZ0.out.2.2.2.1 hsd0 (Nat.le_refl _) (fun h => by cases h) (lks_at o0).2.2.2.1 HZ0.out.2.2.2.2 hse0 (Nat.le_refl _) (fun h => by cases h) (lks_at o0).2.2.2.2, fun xa0 xb0 xc0 xd0 xe0 w F0 o0 ht => implWaitsFor (some ⟨xa0, 0, none⟩) (some ⟨xb0, 0, none⟩) (some ⟨xc0, 0, none⟩) (some ⟨xd0, 0, none⟩) (some ⟨xe0, 0, none⟩) an0 an0 bn0 bn0 cn0 cn0 dn0 dn0 en0 en0 za0 zb0 zc0 zd0 ze0 w HZ0.out.1 hsa0 (Nat.le_refl _) (fun h => by cases h) (lks_at o0).1 HZ0.out.2.1 hsb0 (Nat.le_refl _) (fun h => by cases h) (lks_at o0).2.1 HZ0.out.2.2.1 hsc0 (Nat.le_refl _) (fun h => by cases h) (lks_at o0).2.2.1 HZ0.out.2.2.2.1 hsd0 (Nat.le_refl _) (fun h => by cases h) (lks_at o0).2.2.2.1 HZ0.out.2.2.2.2 hse0 (Nat.le_refl _) (fun h => by cases h) (lks_at o0).2.2.2.2 ht.1 ht.2⟩
  obtain ⟨na, hna⟩ : ∃ na, ta.length = na := ⟨_, rfl⟩
  rw [hna] at hsA
  have hnA : na ≤ 1048576 := by have := hsA.2.1; omega
  have hvA := hsA.2.2.2
  have HSA := Hid.mk hsA
  obtain ⟨VA, hVA⟩ : ∃ V : Nat, tot ta na = V := ⟨_, rfl⟩
  rw [hVA] at hvA
  have HVA := Hid.mk hVA
  have HNA := Hid.mk hna
  clear hna hVA hsA
  go_enter Tryd.func4, Tryd.ntmps4
  go_wp2_with fail
  rw [← hW]
  clear hW
  refine (szLocks_rep aa0 ba0 ca0 da0 ea0 an0 bn0 cn0 dn0 en0 ac0 bc0 cc0 dc0 ec0 za0 zb0 zc0 zd0 ze0 _ _ HZ0.out lka2_0 lkb2_0 lkc2_0 lkd2_0 lke2_0 (by omega) (by omega)).mono ?_
  rintro e w1 ⟨rfl, hb1⟩
  rw [HC0.out, leftOf_yes (by omega)]
  have p00_1 := cell_later hb1 p00_0
  have p01_1 := cell_later hb1 p01_0
  have p02_1 := cell_later hb1 p02_0
  have p03_1 := cell_later hb1 p03_0
  have p04_1 := cell_later hb1 p04_0
  have B_1 := B0.trans (hb1.mono B0.size)
  have zz1 : W.heap.size ≤ w1.heap.size := hb1.size
  clear p00_0 p01_0 p02_0 p03_0 p04_0
  clear hb1
  go_wp2_with fail
  refine (toLocks_any aa0 ba0 ca0 da0 ea0 an0 bn0 cn0 dn0 en0 ac0 bc0 cc0 dc0 ec0 za0 zb0 zc0 zd0 ze0 _ HZ0.out.1 HZ0.out.2.1 HZ0.out.2.2.1 HZ0.out.2.2.2.1 HZ0.out.2.2.2.2 hsa0 hsb0 hsc0 hsd0 hse0 (At.below HA0.out.1 B_1) (At.below HA0.out.2.1 B_1) (At.below HA0.out.2.2.1 B_1) (At.below HA0.out.2.2.2.1 B_1) (At.below HA0.out.2.2.2.2 B_1)).mono ?_
  rintro e w2 ⟨g2_1, g2_2, g2_3, g2_4, g2_5, rfl, ho2, hb2⟩
  have ot0_2 := Hid.mk ho2
  clear ho2
  have p00_2 := cell_later hb2 p00_1
  have p01_2 := cell_later hb2 p01_1
  have p02_2 := cell_later hb2 p02_1
  have p03_2 := cell_later hb2 p03_1
  have p04_2 := cell_later hb2 p04_1
  have B_2 := B_1.trans (hb2.mono B_1.size)
  have zz2 : w1.heap.size ≤ w2.heap.size := hb2.size
  clear p00_1 p01_1 p02_1 p03_1 p04_1 B_1
  clear hb2
  go_wp2_with fail
  refine (HS.out _ _ _ _ _ _ _ ot0_2.out).mono ?_
  rintro e w3 ⟨⟨r3, m3, d3, rfl, ho3⟩, hb3⟩
  clear ot0_2
  obtain rfl : na = m3 := HNA.out.symm.trans (pairs_at ho3).1
  have oo_3 := Hid.mk ho3
  clear ho3
  have p00_3 := cell_later hb3 p00_2
  have p01_3 := cell_later hb3 p01_2
  have p02_3 := cell_later hb3 p02_2
  have p03_3 := cell_later hb3 p03_2
  have p04_3 := cell_later hb3 p04_2
  have B_3 := B_2.trans (hb3.mono B_2.size)
  have zz3 : w2.heap.size ≤ w3.heap.size := hb3.size
  clear p00_2 p01_2 p02_2 p03_2 p04_2 B_2
  clear hb3
  go_wp2_with fail
  refine (toLocks_any aa0 ba0 ca0 da0 ea0 an0 bn0 cn0 dn0 en0 ac0 bc0 cc0 dc0 ec0 za0 zb0 zc0 zd0 ze0 _ HZ0.out.1 HZ0.out.2.1 HZ0.out.2.2.1 HZ0.out.2.2.2.1 HZ0.out.2.2.2.2 hsa0 hsb0 hsc0 hsd0 hse0 (At.below HA0.out.1 B_3) (At.below HA0.out.2.1 B_3) (At.below HA0.out.2.2.1 B_3) (At.below HA0.out.2.2.2.1 B_3) (At.below HA0.out.2.2.2.2 B_3)).mono ?_
  rintro e w4 ⟨g4_1, g4_2, g4_3, g4_4, g4_5, rfl, ho4, hb4⟩
  have ox0_4 := Hid.mk ho4
  clear ho4
  have p00_4 := cell_later hb4 p00_3
  have p01_4 := cell_later hb4 p01_3
  have p02_4 := cell_later hb4 p02_3
  have p03_4 := cell_later hb4 p03_3
  have p04_4 := cell_later hb4 p04_3
  have oo_4 := Hid.mk (RPairs.ownBelow oo_3.out hb4)
  have B_4 := B_3.trans (hb4.mono B_3.size)
  have zz4 : w3.heap.size ≤ w4.heap.size := hb4.size
  clear p00_3 p01_3 p02_3 p03_3 p04_3 oo_3 B_3
  clear hb4
  obtain ⟨w5, hU5⟩ : ∃ u, u = w4.alloc (.cells #[.slice (some ⟨g4_1, 0, none⟩) an0 an0, .slice (some ⟨g4_2, 0, none⟩) bn0 bn0, .slice (some ⟨g4_3, 0, none⟩) cn0 cn0, .slice (some ⟨g4_4, 0, none⟩) dn0 dn0, .slice (some ⟨g4_5, 0, none⟩) en0 en0] 30) := ⟨_, rfl⟩
  have hb5 : Below w4.heap.size w4 w5 := by rw [hU5]; exact (Below.refl _ _).alloc (Nat.le_refl _) _
  have zl5 : w4.heap.size < w5.heap.size := by rw [hU5]; simp
  have nX00 : w5.cell? ⟨w4.heap.size, 0, none⟩ = some (.slice (some ⟨g4_1, 0, none⟩) an0 an0) := by rw [hU5]; simp
  have nX01 : w5.cell? ⟨w4.heap.size, 1, none⟩ = some (.slice (some ⟨g4_2, 0, none⟩) bn0 bn0) := by rw [hU5]; simp
  have nX02 : w5.cell? ⟨w4.heap.size, 2, none⟩ = some (.slice (some ⟨g4_3, 0, none⟩) cn0 cn0) := by rw [hU5]; simp
  have nX03 : w5.cell? ⟨w4.heap.size, 3, none⟩ = some (.slice (some ⟨g4_4, 0, none⟩) dn0 dn0) := by rw [hU5]; simp
  have nX04 : w5.cell? ⟨w4.heap.size, 4, none⟩ = some (.slice (some ⟨g4_5, 0, none⟩) en0 en0) := by rw [hU5]; simp
  have p00_5 := cell_later hb5 p00_4
  have p01_5 := cell_later hb5 p01_4
  have p02_5 := cell_later hb5 p02_4
  have p03_5 := cell_later hb5 p03_4
  have p04_5 := cell_later hb5 p04_4
  have oo_5 := Hid.mk (RPairs.ownBelow oo_4.out hb5)
  have ox0_5 := Hid.mk (RLks.ownBelow ox0_4.out hb5)
  have B_5 := B_4.trans (hb5.mono B_4.size)
  have zz5 : w4.heap.size ≤ w5.heap.size := hb5.size
  clear p00_4 p01_4 p02_4 p03_4 p04_4 oo_4 ox0_4 B_4
  clear hb5
  have xp00 := p00_5
  rw [hU5] at xp00
  have xp01 := p01_5
  rw [hU5] at xp01
  have xp02 := p02_5
  rw [hU5] at xp02
  have xp03 := p03_5
  rw [hU5] at xp03
  have xp04 := p04_5
  rw [hU5] at xp04
  have xX00 := nX00
  rw [hU5] at xX00
  have xX01 := nX01
  rw [hU5] at xX01
  have xX02 := nX02
  rw [hU5] at xX02
  have xX03 := nX03
  rw [hU5] at xX03
  have xX04 := nX04
  rw [hU5] at xX04
  go_wp2_with fail
  rw [← hU5]
  clear hU5
  clear xp00 xp01 xp02 xp03 xp04 xX00 xX01 xX02 xX03 xX04
  refine (HI.out _ _ _ _ _ _ _ ox0_5.out (TabE.below HTAB.out B_5)).mono ?_
  rintro e w6 ⟨⟨r6, m6, d6, rfl, ho6⟩, hb6⟩
  obtain rfl : na = m6 := HNA.out.symm.trans (pairs_at ho6).1
  have og_6 := Hid.mk ho6
  clear ho6
  have p00_6 := cell_later hb6 p00_5
  have p01_6 := cell_later hb6 p01_5
  have p02_6 := cell_later hb6 p02_5
  have p03_6 := cell_later hb6 p03_5
  have p04_6 := cell_later hb6 p04_5
  have X00_6 := cell_later hb6 nX00
  have X01_6 := cell_later hb6 nX01
  have X02_6 := cell_later hb6 nX02
  have X03_6 := cell_later hb6 nX03
  have X04_6 := cell_later hb6 nX04
  have oo_6 := Hid.mk (RPairs.ownBelow oo_5.out hb6)
  have ox0_6 := Hid.mk (RLks.ownBelow ox0_5.out hb6)
  have B_6 := B_5.trans (hb6.mono B_5.size)
  have zz6 : w5.heap.size ≤ w6.heap.size := hb6.size
  clear p00_5 p01_5 p02_5 p03_5 p04_5 nX00 nX01 nX02 nX03 nX04 oo_5 ox0_5 B_5
  clear hb6
  go_wp2_with fail
  refine (eqIntSS_same _ _ na _ _ ta _ HNA.out hnA HSA.out.2.2.1 (atSl_ints (pairs_at og_6.out).2) (atSl_ints (pairs_at oo_6.out).2)).mono ?_
  rintro e w7 ⟨rfl, hb7⟩
  have p00_7 := cell_later hb7 p00_6
  have p01_7 := cell_later hb7 p01_6
  have p02_7 := cell_later hb7 p02_6
  have p03_7 := cell_later hb7 p03_6
  have p04_7 := cell_later hb7 p04_6
  have X00_7 := cell_later hb7 X00_6
  have X01_7 := cell_later hb7 X01_6
  have X02_7 := cell_later hb7 X02_6
  have X03_7 := cell_later hb7 X03_6
  have X04_7 := cell_later hb7 X04_6
  have oo_7 := Hid.mk (RPairs.ownBelow oo_6.out hb7)
  have ox0_7 := Hid.mk (RLks.ownBelow ox0_6.out hb7)
  have og_7 := Hid.mk (RPairs.ownBelow og_6.out hb7)
  have B_7 := B_6.trans (hb7.mono B_6.size)
  have zz7 : w6.heap.size ≤ w7.heap.size := hb7.size
  clear p00_6 p01_6 p02_6 p03_6 p04_6 X00_6 X01_6 X02_6 X03_6 X04_6 oo_6 ox0_6 og_6 B_6
  clear hb7
  go_wp2_with fail
  refine wp_region_held_drew (S := fun w' => w'.cell? ⟨w4.heap.size, 0, none⟩ = some (.slice (some ⟨g4_1, 0, none⟩) an0 an0) ∧ w'.cell? ⟨w4.heap.size, 1, none⟩ = some (.slice (some ⟨g4_2, 0, none⟩) bn0 bn0) ∧ w'.cell? ⟨w4.heap.size, 2, none⟩ = some (.slice (some ⟨g4_3, 0, none⟩) cn0 cn0) ∧ w'.cell? ⟨w4.heap.size, 3, none⟩ = some (.slice (some ⟨g4_4, 0, none⟩) dn0 dn0) ∧ w'.cell? ⟨w4.heap.size, 4, none⟩ = some (.slice (some ⟨g4_5, 0, none⟩) en0 en0) ∧ w'.cell? ⟨w.heap.size, 0, none⟩ = some (.slice aa0 an0 ac0) ∧ w'.cell? ⟨w.heap.size, 1, none⟩ = some (.slice ba0 bn0 bc0) ∧ w'.cell? ⟨w.heap.size, 2, none⟩ = some (.slice ca0 cn0 cc0) ∧ w'.cell? ⟨w.heap.size, 3, none⟩ = some (.slice da0 dn0 dc0) ∧ w'.cell? ⟨w.heap.size, 4, none⟩ = some (.slice ea0 en0 ec0)) (by kernel_rfl) ?_ (fun hHeld => ?_)
  · (try dsimp only)
    exact ⟨X00_7, X01_7, X02_7, X03_7, X04_7, p00_7, p01_7, p02_7, p03_7, p04_7⟩
  refine tk 0 ?_
  refine tk 1 ?_
  refine wpAnyH_ready (rs := [2]) (by kernel_rfl) (by simp) ?_
  refine AllReadyH.cons (o := ?_) ?_ (fun K hK => ?_) AllReadyH.nil
  rotate_left
  · (simp only [List.getElem?_toArray, List.getElem?_cons_zero, List.getElem?_cons_succ]; rfl)
  go_simp
  go_at_call 9
  refine (toLocks_any aa0 ba0 ca0 da0 ea0 an0 bn0 cn0 dn0 en0 ac0 bc0 cc0 dc0 ec0 za0 zb0 zc0 zd0 ze0 _ HZ0.out.1 HZ0.out.2.1 HZ0.out.2.2.1 HZ0.out.2.2.2.1 HZ0.out.2.2.2.2 hsa0 hsb0 hsc0 hsd0 hse0 (At.below HA0.out.1 B_7.drew) (At.below HA0.out.2.1 B_7.drew) (At.below HA0.out.2.2.1 B_7.drew) (At.below HA0.out.2.2.2.1 B_7.drew) (At.below HA0.out.2.2.2.2 B_7.drew)).mono ?_
  rintro e w8 ⟨g8_1, g8_2, g8_3, g8_4, g8_5, rfl, ho8, hd8⟩
  have hb8 : Below w7.heap.size w7 w8 := (Below.refl _ _).drew.trans hd8
  clear hd8
  have oy_8 := Hid.mk ho8
  clear ho8
  have p00_8 := cell_later hb8 p00_7
  have p01_8 := cell_later hb8 p01_7
  have p02_8 := cell_later hb8 p02_7
  have p03_8 := cell_later hb8 p03_7
  have p04_8 := cell_later hb8 p04_7
  have X00_8 := cell_later hb8 X00_7
  have X01_8 := cell_later hb8 X01_7
  have X02_8 := cell_later hb8 X02_7
  have X03_8 := cell_later hb8 X03_7
  have X04_8 := cell_later hb8 X04_7
  have oo_8 := Hid.mk (RPairs.ownBelow oo_7.out hb8)
  have ox0_8 := Hid.mk (RLks.ownBelow ox0_7.out hb8)
  have og_8 := Hid.mk (RPairs.ownBelow og_7.out hb8)
  have B_8 := B_7.trans (hb8.mono B_7.size)
  have zz8 : w7.heap.size ≤ w8.heap.size := hb8.size
  clear p00_7 p01_7 p02_7 p03_7 p04_7 X00_7 X01_7 X02_7 X03_7 X04_7 oo_7 ox0_7 og_7 B_7
  clear hb8
  (try go_wp2_with fail)
  refine hK.out _ _ ?_ (fun hHeld' => ?_)
  · (try dsimp only)
    exact ⟨X00_8, X01_8, X02_8, X03_8, X04_8, p00_8, p01_8, p02_8, p03_8, p04_8⟩
  clear hK K hHeld
  have hHeld := hHeld'
  clear hHeld'
  (try simp only [Act.put, List.setIfInBounds_toArray, List.set_cons_zero, List.set_cons_succ])
  refine wpAnyH_ready (rs := [3]) (by kernel_rfl) (by simp) ?_
  refine AllReadyH.cons (o := ?_) ?_ (fun K hK => ?_) AllReadyH.nil
  rotate_left
  · (simp only [List.getElem?_toArray, List.getElem?_cons_zero, List.getElem?_cons_succ]; rfl)
  go_simp
  go_at_call 11
  refine (eqLocks_same _ _ _ _ _ _ _ _ _ _ an0 bn0 cn0 dn0 en0 _ _ _ _ _ _ _ _ _ _ za0 zb0 zc0 zd0 ze0 _ HZ0.out.1 HZ0.out.2.1 HZ0.out.2.2.1 HZ0.out.2.2.2.1 HZ0.out.2.2.2.2 hsa0 hsb0 hsc0 hsd0 hse0 (lks_at ox0_8.out).1 (lks_at oy_8.out).1 (lks_at ox0_8.out).2.1 (lks_at oy_8.out).2.1 (lks_at ox0_8.out).2.2.1 (lks_at oy_8.out).2.2.1 (lks_at ox0_8.out).2.2.2.1 (lks_at oy_8.out).2.2.2.1 (lks_at ox0_8.out).2.2.2.2 (lks_at oy_8.out).2.2.2.2).mono ?_
  rintro e w9 ⟨rfl, hb9⟩
  clear oy_8
  have p00_9 := cell_later hb9 p00_8
  have p01_9 := cell_later hb9 p01_8
  have p02_9 := cell_later hb9 p02_8
  have p03_9 := cell_later hb9 p03_8
  have p04_9 := cell_later hb9 p04_8
  have X00_9 := cell_later hb9 X00_8
  have X01_9 := cell_later hb9 X01_8
  have X02_9 := cell_later hb9 X02_8
  have X03_9 := cell_later hb9 X03_8
  have X04_9 := cell_later hb9 X04_8
  have oo_9 := Hid.mk (RPairs.ownBelow oo_8.out hb9)
  have ox0_9 := Hid.mk (RLks.ownBelow ox0_8.out hb9)
  have og_9 := Hid.mk (RPairs.ownBelow og_8.out hb9)
  have B_9 := B_8.trans (hb9.mono B_8.size)
  have zz9 : w8.heap.size ≤ w9.heap.size := hb9.size
  clear p00_8 p01_8 p02_8 p03_8 p04_8 X00_8 X01_8 X02_8 X03_8 X04_8 oo_8 ox0_8 og_8 B_8
  clear hb9
  (try go_wp2_with fail)
  refine hK.out _ _ ?_ (fun hHeld' => ?_)
  · (try dsimp only)
    exact ⟨X00_9, X01_9, X02_9, X03_9, X04_9, p00_9, p01_9, p02_9, p03_9, p04_9⟩
  clear hK K hHeld
  have hHeld := hHeld'
  clear hHeld'
  (try simp only [Act.put, List.setIfInBounds_toArray, List.set_cons_zero, List.set_cons_succ])
  refine tk 4 ?_
  refine wpAnyH_done (by kernel_rfl) ?_ _
  clear hHeld
  go_wp2_with fail
  refine (markLocks_rep (From (w3.heap.size) (w4.heap.size)) _ _ _ _ _ an0 bn0 cn0 dn0 en0 _ _ _ _ _ za0 zb0 zc0 zd0 ze0 _ _ hsa0 hsb0 hsc0 hsd0 hse0 (by omega) (by omega) (fun b h => by have h2 := h.2; omega) ox0_9.out).mono ?_
  rintro e w10 ⟨rfl, ho10, hg10⟩
  rw [HV0.out]
  have ox0_10 := Hid.mk ho10
  clear ho10
  have p00_10 := hg10.cell p00_9 (show ¬ From (w3.heap.size) (w4.heap.size) (w.heap.size) from fun h => by have h1 := h.1; have h2 := h.2; omega)
  have p01_10 := hg10.cell p01_9 (show ¬ From (w3.heap.size) (w4.heap.size) (w.heap.size) from fun h => by have h1 := h.1; have h2 := h.2; omega)
  have p02_10 := hg10.cell p02_9 (show ¬ From (w3.heap.size) (w4.heap.size) (w.heap.size) from fun h => by have h1 := h.1; have h2 := h.2; omega)
  have p03_10 := hg10.cell p03_9 (show ¬ From (w3.heap.size) (w4.heap.size) (w.heap.size) from fun h => by have h1 := h.1; have h2 := h.2; omega)
  have p04_10 := hg10.cell p04_9 (show ¬ From (w3.heap.size) (w4.heap.size) (w.heap.size) from fun h => by have h1 := h.1; have h2 := h.2; omega)
  have X00_10 := hg10.cell X00_9 (show ¬ From (w3.heap.size) (w4.heap.size) (w4.heap.size) from fun h => by have h1 := h.1; have h2 := h.2; omega)
  have X01_10 := hg10.cell X01_9 (show ¬ From (w3.heap.size) (w4.heap.size) (w4.heap.size) from fun h => by have h1 := h.1; have h2 := h.2; omega)
  have X02_10 := hg10.cell X02_9 (show ¬ From (w3.heap.size) (w4.heap.size) (w4.heap.size) from fun h => by have h1 := h.1; have h2 := h.2; omega)
  have X03_10 := hg10.cell X03_9 (show ¬ From (w3.heap.size) (w4.heap.size) (w4.heap.size) from fun h => by have h1 := h.1; have h2 := h.2; omega)
  have X04_10 := hg10.cell X04_9 (show ¬ From (w3.heap.size) (w4.heap.size) (w4.heap.size) from fun h => by have h1 := h.1; have h2 := h.2; omega)
  have oo_10 := Hid.mk (RPairs.ownOff oo_9.out hg10 (fun b h1 h2 => by have h3 := h1.1; have h4 := h1.2; have h5 := h2.1; have h6 := h2.2; omega))
  have og_10 := Hid.mk (RPairs.ownOff og_9.out hg10 (fun b h1 h2 => by have h3 := h1.1; have h4 := h1.2; have h5 := h2.1; have h6 := h2.2; omega))
  have B_10 := B_9.trans (hg10.toBelow (by omega) B_9.size)
  have zz10 : w9.heap.size ≤ w10.heap.size := hg10.size
  clear p00_9 p01_9 p02_9 p03_9 p04_9 X00_9 X01_9 X02_9 X03_9 X04_9 oo_9 ox0_9 og_9 B_9
  clear hg10
  have kpos : ¬ (1 : Int) + (V0 : Int) < 0 := by omega
  go_wp2_with fail
  refine (eqIntSS_same _ _ na _ _ ta _ HNA.out hnA HSA.out.2.2.1 (atSl_ints (pairs_at og_10.out).2) (atSl_ints (pairs_at oo_10.out).2)).mono ?_
  rintro e w11 ⟨rfl, hb11⟩
  have p00_11 := cell_later hb11 p00_10
  have p01_11 := cell_later hb11 p01_10
  have p02_11 := cell_later hb11 p02_10
  have p03_11 := cell_later hb11 p03_10
  have p04_11 := cell_later hb11 p04_10
  have X00_11 := cell_later hb11 X00_10
  have X01_11 := cell_later hb11 X01_10
  have X02_11 := cell_later hb11 X02_10
  have X03_11 := cell_later hb11 X03_10
  have X04_11 := cell_later hb11 X04_10
  have oo_11 := Hid.mk (RPairs.ownBelow oo_10.out hb11)
  have ox0_11 := Hid.mk (RLks.ownBelow ox0_10.out hb11)
  have og_11 := Hid.mk (RPairs.ownBelow og_10.out hb11)
  have B_11 := B_10.trans (hb11.mono B_10.size)
  have zz11 : w10.heap.size ≤ w11.heap.size := hb11.size
  clear p00_10 p01_10 p02_10 p03_10 p04_10 X00_10 X01_10 X02_10 X03_10 X04_10 oo_10 ox0_10 og_10 B_10
  clear hb11
  clear ox0_11
  go_wp2_with fail
  refine (markPairs_rep (From (w5.heap.size) (w6.heap.size)) _ na _ ta 1 _ hnA HSA.out.2.2.2 (by omega) (by omega) og_11.out).mono ?_
  rintro e w12 ⟨rfl, ho12, hg12⟩
  rw [HVA.out]
  have og_12 := Hid.mk ho12
  clear ho12
  have p00_12 := hg12.cell p00_11 (show ¬ From (w5.heap.size) (w6.heap.size) (w.heap.size) from fun h => by have h1 := h.1; have h2 := h.2; omega)
  have p01_12 := hg12.cell p01_11 (show ¬ From (w5.heap.size) (w6.heap.size) (w.heap.size) from fun h => by have h1 := h.1; have h2 := h.2; omega)
  have p02_12 := hg12.cell p02_11 (show ¬ From (w5.heap.size) (w6.heap.size) (w.heap.size) from fun h => by have h1 := h.1; have h2 := h.2; omega)
  have p03_12 := hg12.cell p03_11 (show ¬ From (w5.heap.size) (w6.heap.size) (w.heap.size) from fun h => by have h1 := h.1; have h2 := h.2; omega)
  have p04_12 := hg12.cell p04_11 (show ¬ From (w5.heap.size) (w6.heap.size) (w.heap.size) from fun h => by have h1 := h.1; have h2 := h.2; omega)
  have X00_12 := hg12.cell X00_11 (show ¬ From (w5.heap.size) (w6.heap.size) (w4.heap.size) from fun h => by have h1 := h.1; have h2 := h.2; omega)
  have X01_12 := hg12.cell X01_11 (show ¬ From (w5.heap.size) (w6.heap.size) (w4.heap.size) from fun h => by have h1 := h.1; have h2 := h.2; omega)
  have X02_12 := hg12.cell X02_11 (show ¬ From (w5.heap.size) (w6.heap.size) (w4.heap.size) from fun h => by have h1 := h.1; have h2 := h.2; omega)
  have X03_12 := hg12.cell X03_11 (show ¬ From (w5.heap.size) (w6.heap.size) (w4.heap.size) from fun h => by have h1 := h.1; have h2 := h.2; omega)
  have X04_12 := hg12.cell X04_11 (show ¬ From (w5.heap.size) (w6.heap.size) (w4.heap.size) from fun h => by have h1 := h.1; have h2 := h.2; omega)
  have oo_12 := Hid.mk (RPairs.ownOff oo_11.out hg12 (fun b h1 h2 => by have h3 := h1.1; have h4 := h1.2; have h5 := h2.1; have h6 := h2.2; omega))
  have B_12 := B_11.trans (hg12.toBelow (by omega) B_11.size)
  have zz12 : w11.heap.size ≤ w12.heap.size := hg12.size
  clear p00_11 p01_11 p02_11 p03_11 p04_11 X00_11 X01_11 X02_11 X03_11 X04_11 oo_11 og_11 B_11
  clear hg12
  have gpos : ¬ (1 : Int) + (VA : Int) < 0 := by omega
  go_wp2_with fail
  refine (heldPairs_rep _ na _ ta 1 _ HNA.out hnA HSA.out.2.2.2 (by omega) (by omega) (pairs_at og_12.out).2).mono ?_
  rintro e w13 ⟨rfl, hb13⟩
  rw [HVA.out]
  have p00_13 := cell_later hb13 p00_12
  have p01_13 := cell_later hb13 p01_12
  have p02_13 := cell_later hb13 p02_12
  have p03_13 := cell_later hb13 p03_12
  have p04_13 := cell_later hb13 p04_12
  have X00_13 := cell_later hb13 X00_12
  have X01_13 := cell_later hb13 X01_12
  have X02_13 := cell_later hb13 X02_12
  have X03_13 := cell_later hb13 X03_12
  have X04_13 := cell_later hb13 X04_12
  have oo_13 := Hid.mk (RPairs.ownBelow oo_12.out hb13)
  have og_13 := Hid.mk (RPairs.ownBelow og_12.out hb13)
  have B_13 := B_12.trans (hb13.mono B_12.size)
  have zz13 : w12.heap.size ≤ w13.heap.size := hb13.size
  clear p00_12 p01_12 p02_12 p03_12 p04_12 X00_12 X01_12 X02_12 X03_12 X04_12 oo_12 og_12 B_12
  clear hb13
  go_wp2_with fail
  refine (toLocks_any aa0 ba0 ca0 da0 ea0 an0 bn0 cn0 dn0 en0 ac0 bc0 cc0 dc0 ec0 za0 zb0 zc0 zd0 ze0 _ HZ0.out.1 HZ0.out.2.1 HZ0.out.2.2.1 HZ0.out.2.2.2.1 HZ0.out.2.2.2.2 hsa0 hsb0 hsc0 hsd0 hse0 (At.below HA0.out.1 B_13) (At.below HA0.out.2.1 B_13) (At.below HA0.out.2.2.1 B_13) (At.below HA0.out.2.2.2.1 B_13) (At.below HA0.out.2.2.2.2 B_13)).mono ?_
  rintro e w14 ⟨g14_1, g14_2, g14_3, g14_4, g14_5, rfl, ho14, hb14⟩
  have oh0_14 := Hid.mk ho14
  clear ho14
  have p00_14 := cell_later hb14 p00_13
  have p01_14 := cell_later hb14 p01_13
  have p02_14 := cell_later hb14 p02_13
  have p03_14 := cell_later hb14 p03_13
  have p04_14 := cell_later hb14 p04_13
  have X00_14 := cell_later hb14 X00_13
  have X01_14 := cell_later hb14 X01_13
  have X02_14 := cell_later hb14 X02_13
  have X03_14 := cell_later hb14 X03_13
  have X04_14 := cell_later hb14 X04_13
  have oo_14 := Hid.mk (RPairs.ownBelow oo_13.out hb14)
  have og_14 := Hid.mk (RPairs.ownBelow og_13.out hb14)
  have B_14 := B_13.trans (hb14.mono B_13.size)
  have zz14 : w13.heap.size ≤ w14.heap.size := hb14.size
  clear p00_13 p01_13 p02_13 p03_13 p04_13 X00_13 X01_13 X02_13 X03_13 X04_13 oo_13 og_13 B_13
  clear hb14
  go_wp2_with fail
  refine (HI.out _ _ _ _ _ _ _ oh0_14.out (TabE.below HTAB.out B_14)).mono ?_
  rintro e w15 ⟨⟨r15, m15, d15, rfl, ho15⟩, hb15⟩
  clear oh0_14
  obtain rfl : na = m15 := HNA.out.symm.trans (pairs_at ho15).1
  have ohg_15 := Hid.mk ho15
  clear ho15
  have p00_15 := cell_later hb15 p00_14
  have p01_15 := cell_later hb15 p01_14
  have p02_15 := cell_later hb15 p02_14
  have p03_15 := cell_later hb15 p03_14
  have p04_15 := cell_later hb15 p04_14
  have X00_15 := cell_later hb15 X00_14
  have X01_15 := cell_later hb15 X01_14
  have X02_15 := cell_later hb15 X02_14
  have X03_15 := cell_later hb15 X03_14
  have X04_15 := cell_later hb15 X04_14
  have oo_15 := Hid.mk (RPairs.ownBelow oo_14.out hb15)
  have og_15 := Hid.mk (RPairs.ownBelow og_14.out hb15)
  have B_15 := B_14.trans (hb15.mono B_14.size)
  have zz15 : w14.heap.size ≤ w15.heap.size := hb15.size
  clear p00_14 p01_14 p02_14 p03_14 p04_14 X00_14 X01_14 X02_14 X03_14 X04_14 oo_14 og_14 B_14
  clear hb15
  go_wp2_with fail
  refine (eqIntSS_same _ _ na _ _ ta _ HNA.out hnA HSA.out.2.2.1 (atSl_ints (pairs_at ohg_15.out).2) (atSl_ints (pairs_at oo_15.out).2)).mono ?_
  rintro e w16 ⟨rfl, hb16⟩
  have p00_16 := cell_later hb16 p00_15
  have p01_16 := cell_later hb16 p01_15
  have p02_16 := cell_later hb16 p02_15
  have p03_16 := cell_later hb16 p03_15
  have p04_16 := cell_later hb16 p04_15
  have X00_16 := cell_later hb16 X00_15
  have X01_16 := cell_later hb16 X01_15
  have X02_16 := cell_later hb16 X02_15
  have X03_16 := cell_later hb16 X03_15
  have X04_16 := cell_later hb16 X04_15
  have oo_16 := Hid.mk (RPairs.ownBelow oo_15.out hb16)
  have og_16 := Hid.mk (RPairs.ownBelow og_15.out hb16)
  have ohg_16 := Hid.mk (RPairs.ownBelow ohg_15.out hb16)
  have B_16 := B_15.trans (hb16.mono B_15.size)
  have zz16 : w15.heap.size ≤ w16.heap.size := hb16.size
  clear p00_15 p01_15 p02_15 p03_15 p04_15 X00_15 X01_15 X02_15 X03_15 X04_15 oo_15 og_15 ohg_15 B_15
  clear hb16
  go_wp2_with fail
  refine (heldPairs_rep _ na _ ta 1 _ HNA.out hnA HSA.out.2.2.2 (by omega) (by omega) (pairs_at og_16.out).2).mono ?_
  rintro e w17 ⟨rfl, hb17⟩
  rw [HVA.out]
  have p00_17 := cell_later hb17 p00_16
  have p01_17 := cell_later hb17 p01_16
  have p02_17 := cell_later hb17 p02_16
  have p03_17 := cell_later hb17 p03_16
  have p04_17 := cell_later hb17 p04_16
  have X00_17 := cell_later hb17 X00_16
  have X01_17 := cell_later hb17 X01_16
  have X02_17 := cell_later hb17 X02_16
  have X03_17 := cell_later hb17 X03_16
  have X04_17 := cell_later hb17 X04_16
  have oo_17 := Hid.mk (RPairs.ownBelow oo_16.out hb17)
  have og_17 := Hid.mk (RPairs.ownBelow og_16.out hb17)
  have ohg_17 := Hid.mk (RPairs.ownBelow ohg_16.out hb17)
  have B_17 := B_16.trans (hb17.mono B_16.size)
  have zz17 : w16.heap.size ≤ w17.heap.size := hb17.size
  clear p00_16 p01_16 p02_16 p03_16 p04_16 X00_16 X01_16 X02_16 X03_16 X04_16 oo_16 og_16 ohg_16 B_16
  clear hb17
  go_wp2
  go_ret
  exact ⟨rfl, B_17⟩

end Go.Proofs.YtjjebodlekepaaaDoor
