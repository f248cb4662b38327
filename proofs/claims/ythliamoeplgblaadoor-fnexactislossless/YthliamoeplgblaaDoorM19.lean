/- Several texts of one proof, in build order: PairM, LawT, DepH, DepT, IntE, DepE, DepM, LawD, LawD6. -/
import Derived.Test.YthliamoeplgblaaDoorM3
import Derived.Test.YthliamoeplgblaaDoorM8
import Derived.Test.YthliamoeplgblaaDoorM4
import Derived.Deep.CutBlock

/- Contracts of the laws' eqIntSS, markIntSS, heldIntSS over things in memory (without views). -/
namespace Go.Proofs.YthliamoeplgblaaDoor
open Go.RowKit

theorem eqIntSS_same (a a' : Option Addr) (n c c' : Nat) (zs : List (List Int)) (w : World) (hz : zs.length = n) (hn : n ≤ 1048576) (hs : ∀ i, i < zs.length → (zs.getD i []).length ≤ 1048576) (ha : AtS w a zs) (ha' : AtS w a' zs) :
    Calls Tryd.prog 10 #[.slice a n c, .slice a' n c'] w fun e w' => e = .returned (.bool true) ∧ Below w.heap.size w w' :=
  (eqIntSS_any a a' n n c c' zs zs w hz hz hn hn hs hs ha ha').mono fun _ _ ⟨h1, h2⟩ => ⟨by rw [h1, decide_eq_true rfl], h2⟩

set_option maxRecDepth 100000 in
set_option maxHeartbeats 4000000 in
theorem markPairs_rep (F : Nat → Prop) (a : Option Addr) (n c : Nat) (zss : List (List Int)) (m : Int) (w : World) (hn : n ≤ 1048576) (ht : tot zss n ≤ 1048576) (h0 : 0 ≤ m) (h1 : m ≤ 134217728) (ho : RPairs.Own w F [.slice a n c] zss) :
    Calls Tryd.prog 11 #[.slice a n c, .int .i64 m] w fun e w' => e = .returned (.int .i64 (m + tot zss n)) ∧ RPairs.Own w' F [.slice a n c] (mkPairs m zss) ∧ Off F w w' := by
  obtain ⟨a', n', c', cells, G, he, hl⟩ := ho
  simp only [List.cons.injEq, Value.slice.injEq, and_true] at he
  obtain ⟨rfl, rfl, rfl⟩ := he
  go_enter Tryd.func11, Tryd.ntmps11
  go_wp2
  go_loopw [1, 5] (fun q i wr => ∃ k : Nat, k ≤ n ∧ i = .int .i64 k ∧ q = .int .i64 (m + tot zss k) ∧ Laid RInts wr F 43 a n c (mkTo (fun m zs => mkInts m zs) List.length m zss k) cells G n ∧ Off F w wr) (fun _ i _ => n - (intOf i).toNat)
  case atStart => exact ⟨0, Nat.zero_le _, rfl, by simp [tot_zero], by rw [mkTo_zero]; exact hl, Off.refl _ _⟩
  case round =>
    have hzl := hl.len
    clear hl
    obtain ⟨k, hk, rfl, rfl, hl, hof⟩ := hrel
    by_cases hlt : k < n
    · obtain ⟨ys, hy⟩ : ∃ ys, zss[k]? = some ys := ⟨_, List.getElem?_eq_getElem (by omega)⟩
      have hrow := hl.row k ys hlt (mkTo_next _ _ hy)
      obtain ⟨a2, n2, c2, _, _, he2, _⟩ := hrow
      have hrow := hl.row k ys hlt (mkTo_next _ _ hy)
      rw [he2] at hrow
      rcases hl.outer.2 with ⟨_, h00⟩ | ⟨g, cap, cur, hv, _⟩
      · omega
      simp only [Value.slice.injEq, true_and] at hv
      obtain ⟨rfl, rfl⟩ := hv
      have hcl : cells.length = n * 1 := hl.outer.1
      have hcx : wr.cell? ⟨g, k, none⟩ = some (.slice a2 n2 c2) := by
        rw [hl.outer.cellAt k (show k < n * 1 by omega)]
        have h9 := sub_at (cells := cells) (o := k * 1) (k := 1) (j := 0) (by omega)
        have he3 : sub cells (k * 1) 1 = [.slice a2 n2 c2] := he2
        rw [he3] at h9
        simpa using h9.symm
      have hly : ys.length = n2 := (RInts.own_iff.1 hrow).1
      have hts := tot_succ zss k (by omega)
      have hgk : zss.getD k [] = ys := by simp [List.getD, hy]
      rw [hgk, hly] at hts
      have htm := tot_mono zss (k + 1) n (by omega)
      have HL := Hid.mk hl
      have HR := Hid.mk hrow
      have HO := Hid.mk hof
      have HY := Hid.mk hy
      have HLY := Hid.mk hly
      obtain ⟨T, hT⟩ : ∃ T, tot zss k = T := ⟨_, rfl⟩
      have HT := Hid.mk hT
      rw [hT] at hts ⊢
      have hn2 : n2 ≤ 1048576 := by omega
      have hmT : m + (T : Int) ≤ 268435456 := by omega
      have hki : (k : Int) < (n : Int) := by omega
      have HTS := Hid.mk hts
      have HE2 := Hid.mk he2
      clear hl hrow hof hy hly hT hts hgk he2 hcl htm
      go_wp2_with fail
      refine (markInts_rep (G k) a2 n2 c2 ys (m + T) wr hn2 (by omega) hmT HR.out).mono ?_
      rintro e w2 ⟨rfl, o2, f2⟩
      have hturn := HL.out.turn (w' := w2) (cells' := cells) (x' := mkInts (m + T) ys) hlt (fun b hb hn1 _ => f2.block b hb hn1) (ownsRow_frame HL.out.outer (fun b hb hlb => f2.block b hlb (fun hG => (HL.out.rowF k b hlt hG).2 hb))) (fun _ _ => rfl) (by rw [HE2.out]; exact o2)
      have HLN : Hid (Laid RInts w2 F 43 (some ⟨g, 0, none⟩) n c (mkTo (fun m zs => mkInts m zs) List.length m zss (k + 1)) cells G n) := by
        have h9 := mkTo_set (fun m zs => mkInts m zs) List.length (m := m) HY.out
        rw [szL_pairs, HT.out] at h9
        show Laid _ _ _ _ _ _ _ _ _ _ _
        rw [← h9]
        exact hturn
      have HON : Hid (Off F w w2) := HO.out.trans (f2.mono (fun b hb => (HL.out.rowF k b hlt hb).1))
      clear hturn o2 f2
      go_wp2
      go_roundw
      case rel => exact ⟨k + 1, by omega, by go_num, by rw [HTS.out]; congr 1; push_cast; omega, HLN.out, HON.out⟩
      case measure => simp [intOf]; omega
    · obtain rfl : k = n := by omega
      have HL := Hid.mk hl
      clear hl
      go_wp2
      go_ret
      refine ⟨rfl, ⟨_, _, _, cells, G, rfl, ?_⟩, hof⟩
      have h9 := HL.out
      rw [mkTo_all _ _ _ _ hzl] at h9
      exact h9

end Go.Proofs.YthliamoeplgblaaDoor

/- The laws' helpers over lists of lists of numbers, in one form. -/
namespace Go.Proofs.YthliamoeplgblaaDoor
open Go.RowKit

theorem szIntSS_nat (a : Option Addr) (n c : Nat) (zss : List (List Int)) (l : Int) (w : World) (hz : zss.length = n) (hn : n ≤ 9223372036854775807) (h0 : 0 ≤ l) (h1 : l ≤ 1048576) (ha : AtS w a zss) :
    Calls Tryd.prog 5 #[.slice a n c, .int .i64 l] w fun e w' => e = .returned (.int .i64 (leftOf l (n + tot zss n : Nat))) ∧ Below w.heap.size w w' :=
  (szIntSS_at a n c zss l w hz hn h0 h1 ha).mono fun _ _ ⟨h1, h2⟩ => ⟨by rw [h1]; push_cast; rfl, h2⟩
theorem pairs_atS {w : World} {F : Nat → Prop} {a : Option Addr} {n c : Nat} {zss : List (List Int)} (h : RPairs.Own w F [.slice a n c] zss) : AtS w a zss := by
  obtain ⟨a', n', c', e, t1, t2, t3, _⟩ := RPairs.toAt h
  simp only [List.cons.injEq, Value.slice.injEq, and_true] at e
  obtain ⟨rfl, rfl, rfl⟩ := e
  exact atSl_ints t3

end Go.Proofs.YthliamoeplgblaaDoor

/- Contracts of the laws' helpers over dependencies: szDepend, szDependS. -/
namespace Go.Proofs.YthliamoeplgblaaDoor
open Go.RowKit

set_option maxRecDepth 100000 in
set_option maxHeartbeats 1000000 in
theorem szDepend_any (sa : Option Addr) (sn sc : Nat) (pa : Option Addr) (pn pc : Nat) (ss : List Int) (xs : List Int) (l : Int) (w : World) (hs : ss.length = sn) (hsn : sn ≤ 9223372036854775807) (hz : xs.length = pn) (hn : pn ≤ 9223372036854775807) (h0 : 0 ≤ l) (h1 : l ≤ 1048576) :
    Calls Tryd.prog 31 #[.agg #[.slice sa sn sc, .slice pa pn pc], .int .i64 l] w fun e w' => e = .returned (.int .i64 (leftOf l (dcost (ss, xs)))) ∧ Below w.heap.size w w' := by
  have hv : dcost (ss, xs) = sn + pn := by unfold dcost; simp only; rw [hs, hz]
  rw [hv]
  clear hv
  obtain ⟨W, hW⟩ : ∃ W, W = w.alloc (.cells #[.slice sa sn sc, .slice pa pn pc] 57) := ⟨_, rfl⟩
  have B0 : Below w.heap.size w W := by rw [hW]; exact (Below.refl _ _).alloc (Nat.le_refl _) _
  have q1 : W.cell? ⟨w.heap.size, 1, none⟩ = some (.slice pa pn pc) := by rw [hW]; simp
  have HZ := Hid.mk hz
  clear hz hs
  by_cases c1 : l < sn
  · go_enter Tryd.func31, Tryd.ntmps31
    go_wp2_with fail
    rw [← hW]
    clear hW
    refine (szIntS_any sa sn sc l W hsn h0 h1).mono ?_
    rintro e w2 ⟨rfl, rfl⟩
    rw [if_pos c1]
    go_wp2
    go_ret
    exact ⟨ret_int (leftOf_no (by omega)).symm, B0⟩
  by_cases c2 : l - sn < (pn : Int)
  · go_enter Tryd.func31, Tryd.ntmps31
    have d1 : ¬ l - (sn : Int) < 0 := by omega
    go_wp2_with fail
    rw [← hW]
    clear hW
    refine (szIntS_any sa sn sc l W hsn h0 h1).mono ?_
    rintro e w2 ⟨rfl, rfl⟩
    rw [if_neg (by omega)]
    go_wp2_with fail
    refine (szIntS_any pa pn pc (l - sn) _ hn (by omega) (by omega)).mono ?_
    rintro e w3 ⟨rfl, rfl⟩
    rw [if_pos (by omega)]
    go_wp2
    go_ret
    exact ⟨ret_int (leftOf_no (by omega)).symm, B0⟩
  · go_enter Tryd.func31, Tryd.ntmps31
    have d1 : ¬ l - (sn : Int) < 0 := by omega
    have d2 : ¬ l - (sn : Int) - (pn : Int) < 0 := by omega
    go_wp2_with fail
    rw [← hW]
    clear hW
    refine (szIntS_any sa sn sc l W hsn h0 h1).mono ?_
    rintro e w2 ⟨rfl, rfl⟩
    rw [if_neg (by omega)]
    go_wp2_with fail
    refine (szIntS_any pa pn pc (l - sn) _ hn (by omega) (by omega)).mono ?_
    rintro e w3 ⟨rfl, rfl⟩
    rw [if_neg (by omega)]
    go_wp2
    go_ret
    exact ⟨ret_int (by rw [leftOf_yes (by omega)]; omega), B0⟩

set_option maxRecDepth 100000 in
set_option maxHeartbeats 2000000 in
theorem szDependS_any (a : Option Addr) (n c : Nat) (xs : List Dep) (l : Int) (w : World) (hz : xs.length = n) (hn : n ≤ 9223372036854775807) (h0 : 0 ≤ l) (h1 : l ≤ 1048576) (ha : AtD w a xs) :
    Calls Tryd.prog 14 #[.slice a n c, .int .i64 l] w fun e w' => e = .returned (.int .i64 (leftOf l (n + dsum xs n : Nat))) ∧ Below w.heap.size w w' := by
  by_cases hb : l < n
  · have h' : l - (n : Int) < 0 := by omega
    go_enter Tryd.func14, Tryd.ntmps14
    go_wp2
    go_ret
    exact ⟨ret_int (leftOf_no (by omega)).symm, Below.refl _ _⟩
  have h' : ¬ l - (n : Int) < 0 := by omega
  by_cases hn0 : n = 0
  · subst hn0
    have ht : dsum xs 0 = 0 := dsum_zero xs
    go_enter Tryd.func14, Tryd.ntmps14
    go_wp2
    refine wp_loop_rounds 1 ?_
    rw [rounds_succ]
    go_wp2
    go_ret
    exact ⟨ret_int (by rw [ht, leftOf_yes (by omega)]; omega), Below.refl _ _⟩
  · go_enter Tryd.func14, Tryd.ntmps14
    go_wp2
    go_loopw [1, 5] (fun q i wr => ∃ (k : Nat) (r : Int), k ≤ n ∧ i = .int .i64 k ∧ q = .int .i64 r ∧ 0 ≤ r ∧ r ≤ 1048576 ∧ r + dsum xs k = l - n ∧ Below w.heap.size w wr) (fun _ i _ => n - (intOf i).toNat)
    case atStart => exact ⟨0, l - n, Nat.zero_le _, rfl, rfl, by omega, by omega, by rw [dsum_zero]; omega, Below.refl _ _⟩
    case round =>
      obtain ⟨k, r, hk, rfl, rfl, hr0, hr1, hr, hbw⟩ := hrel
      by_cases hlt : k < n
      · obtain ⟨b, off, rfl, _, hc⟩ := AtD.row (AtSl.below ha hbw) (by omega)
        obtain ⟨⟨xf, xt⟩, hx⟩ : ∃ x, xs[k]? = some x := ⟨_, List.getElem?_eq_getElem (by omega)⟩
        obtain ⟨fa, fn, fc, ta, tn, tc, g0, g1, ⟨t1, t2, _⟩, ⟨u1, u2, _⟩⟩ := hc k _ hx
        have hts := dsum_succ hx
        have htm := dsum_mono xs (k + 1) n (by omega)
        have HR := Hid.mk hr
        have HT := Hid.mk hts
        have HM := Hid.mk htm
        have HX1 := Hid.mk t1
        have HX2 := Hid.mk u1
        have hki : (k : Int) < (n : Int) := by omega
        clear hc hr hts ha htm hx t1 u1
        by_cases hfit : r < dcost (xf, xt)
        · go_wp2_with fail
          refine (szDepend_any fa fn fc ta tn tc xf xt r wr HX1.out t2 HX2.out u2 hr0 hr1).mono ?_
          rintro e w' ⟨rfl, hb'⟩
          rw [leftOf_no hfit]
          go_wp2
          go_ret
          exact ⟨ret_int (leftOf_no (by have := HR.out; have := HT.out; have := HM.out; omega)).symm, hbw.trans (hb'.mono hbw.size)⟩
        · have hd : ¬ r - (dcost (xf, xt) : Int) < 0 := by omega
          go_wp2_with fail
          refine (szDepend_any fa fn fc ta tn tc xf xt r wr HX1.out t2 HX2.out u2 hr0 hr1).mono ?_
          rintro e w' ⟨rfl, hb'⟩
          rw [leftOf_yes (by omega)]
          go_wp2
          go_roundw
          case rel => exact ⟨k + 1, r - dcost (xf, xt), by omega, by go_num, rfl, by omega, by omega, by have := HR.out; have := HT.out; omega, hbw.trans (hb'.mono hbw.size)⟩
          case measure => simp [intOf]; omega
      · obtain rfl : k = n := by omega
        have HR := Hid.mk hr
        clear hr
        go_wp2
        go_ret
        exact ⟨ret_int (by have := HR.out; rw [leftOf_yes (by omega)]; omega), hbw⟩

end Go.Proofs.YthliamoeplgblaaDoor

/- Contracts of the laws' helpers over dependencies: toDepend, toDependS. -/
namespace Go.Proofs.YthliamoeplgblaaDoor
open Go.RowKit

set_option maxRecDepth 100000 in
set_option maxHeartbeats 2000000 in
theorem toDepend_any (sa : Option Addr) (sn sc : Nat) (pa : Option Addr) (pn pc : Nat) (ss : List Int) (xs : List Int) (w : World) (hsz : ss.length = sn) (hz : xs.length = pn) (hsn : sn ≤ 1048576) (hpn : pn ≤ 1048576) (hsa : At w sa ss) (ha : At w pa xs) :
    Calls Tryd.prog 34 #[.agg #[.slice sa sn sc, .slice pa pn pc]] w fun e w' => ∃ g1 g2, e = .returned (.agg #[.slice (some ⟨g1, 0, none⟩) sn sn, .slice (some ⟨g2, 0, none⟩) pn pn]) ∧
      RDep.Own w' (From w.heap.size w'.heap.size) [.slice (some ⟨g1, 0, none⟩) sn sn, .slice (some ⟨g2, 0, none⟩) pn pn] (ss, xs) ∧ Below w.heap.size w w' := by
  obtain ⟨W, hW⟩ : ∃ W, W = (((w.alloc (.cells #[.slice sa sn sc, .slice pa pn pc] 57)).alloc (.cells #[.slice none 0 0, .slice none 0 0] 61)).alloc (.cells #[.slice none 0 0, .slice none 0 0] 61)) := ⟨_, rfl⟩
  have B0 : Below w.heap.size w W := by rw [hW]; exact ((((Below.refl _ _).alloc (Nat.le_refl _) _).alloc (by simp) _).alloc (by simp; omega) _)
  have zW : w.heap.size + 2 < W.heap.size := by rw [hW]; simp
  have b2 : W.heap[w.heap.size + 1 + 1]? = some (.cells #[.slice none 0 0, .slice none 0 0] 61 (0, 0)) := by
    rw [hW]
    have q := heap_alloc_new ((w.alloc (.cells #[.slice sa sn sc, .slice pa pn pc] 57)).alloc (.cells #[.slice none 0 0, .slice none 0 0] 61)) (.cells #[.slice none 0 0, .slice none 0 0] 61)
    simpa only [World.size_alloc] using q
  have b1 : W.heap[w.heap.size + 1]? = some (.cells #[.slice none 0 0, .slice none 0 0] 61 (0, 0)) := by
    rw [hW]
    refine blk_alloc ?_ _
    have q := heap_alloc_new (w.alloc (.cells #[.slice sa sn sc, .slice pa pn pc] 57)) (.cells #[.slice none 0 0, .slice none 0 0] 61)
    simpa only [World.size_alloc] using q
  have b0 : W.heap[w.heap.size]? = some (.cells #[.slice sa sn sc, .slice pa pn pc] 57 (0, 0)) := by
    rw [hW]
    exact blk_alloc (blk_alloc (heap_alloc_new w _) _) _
  have U3 := Hid.mk hsa
  have V3 := Hid.mk ha
  have HU1 := Hid.mk hsz
  have HV1 := Hid.mk hz
  clear hsa ha hsz hz
  go_enter Tryd.func34, Tryd.ntmps34
  go_wp2_with fail
  rw [← hW]
  clear hW
  refine (toInts_rep sa sn sc ss W HU1.out hsn (At.below U3.out B0)).mono ?_
  rintro e w1 ⟨g1, rfl, o1, hb1⟩
  have k2 := blk_below b2 hb1
  have k1 := blk_below b1 hb1
  have k0 := blk_below b0 hb1
  clear b2 b1 b0
  have z1 := hb1.size
  have B1 : Below w.heap.size w w1 := B0.trans (hb1.mono (by omega))
  have q := blk_cell k2 0 (v := .slice none 0 0) rfl
  have f := blk_frozen k2 0
  have r := blk_cell k0 1 (v := .slice pa pn pc) rfl
  obtain ⟨X1, hX1⟩ : ∃ u, u = w1.setCell ⟨w.heap.size + 1 + 1, 0, none⟩ (.slice (some ⟨g1, 0, none⟩) sn sn) := ⟨_, rfl⟩
  have y1 : w1.heap.size ≤ X1.heap.size := by rw [hX1]; simp [World.setCell]
  have b2 : X1.heap[w.heap.size + 1 + 1]? = some (.cells #[.slice (some ⟨g1, 0, none⟩) sn sn, .slice none 0 0] 61 (0, 0)) := by rw [hX1]; exact blk_set k2 0 _
  have b1 : X1.heap[w.heap.size + 1]? = some (.cells #[.slice none 0 0, .slice none 0 0] 61 (0, 0)) := by rw [hX1]; exact blk_other k1 (by simp) _
  have C1 : Below w.heap.size w X1 := by rw [hX1]; exact B1.setCell (by simp; omega) _
  have S1 : Hid (Off (From w.heap.size (w.heap.size + 3)) w1 X1) := by rw [hX1]; exact Off.set ⟨by simp; omega, by simp⟩ _
  have O1 : Hid (RInts.Own X1 (From W.heap.size w1.heap.size) [.slice (some ⟨g1, 0, none⟩) sn sn] ss) := RInts.ownOff o1 S1.out (fun b h k => by have := h.1; have := k.2; omega)
  clear o1 hb1 S1 k2 k1 k0
  go_wp2_with fail
  rw [← hX1]
  clear hX1 q f r
  refine (toInts_rep pa pn pc xs X1 HV1.out hpn (At.below V3.out C1)).mono ?_
  rintro e w2 ⟨g2, rfl, o2, hb2⟩
  have k2 := blk_below b2 hb2
  have k1 := blk_below b1 hb2
  clear b2 b1
  have z2 := hb2.size
  have B2 : Below w.heap.size w w2 := C1.trans (hb2.mono (by omega))
  have q := blk_cell k2 1 (v := .slice none 0 0) rfl
  have f := blk_frozen k2 1
  obtain ⟨X2, hX2⟩ : ∃ u, u = w2.setCell ⟨w.heap.size + 1 + 1, 1, none⟩ (.slice (some ⟨g2, 0, none⟩) pn pn) := ⟨_, rfl⟩
  have y2 : w2.heap.size ≤ X2.heap.size := by rw [hX2]; simp [World.setCell]
  have b2 : X2.heap[w.heap.size + 1 + 1]? = some (.cells #[.slice (some ⟨g1, 0, none⟩) sn sn, .slice (some ⟨g2, 0, none⟩) pn pn] 61 (0, 0)) := by rw [hX2]; exact blk_set k2 1 _
  have b1 : X2.heap[w.heap.size + 1]? = some (.cells #[.slice none 0 0, .slice none 0 0] 61 (0, 0)) := by rw [hX2]; exact blk_other k1 (by simp) _
  have C2 : Below w.heap.size w X2 := by rw [hX2]; exact B2.setCell (by simp; omega) _
  have S2 : Hid (Off (From w.heap.size (w.heap.size + 3)) w2 X2) := by rw [hX2]; exact Off.set ⟨by simp; omega, by simp⟩ _
  have O2 : Hid (RInts.Own X2 (From W.heap.size w1.heap.size) [.slice (some ⟨g1, 0, none⟩) sn sn] ss) := RInts.ownOff (RInts.ownBelow O1.out hb2) S2.out (fun b h k => by have := h.1; have := k.2; omega)
  have Q2 : Hid (RInts.Own X2 (From X1.heap.size w2.heap.size) [.slice (some ⟨g2, 0, none⟩) pn pn] xs) := RInts.ownOff o2 S2.out (fun b h k => by have := h.1; have := k.2; omega)
  clear o2 hb2 S2 O1 k2 k1
  go_upto_region 4 with fail
  rw [← hX2]
  clear hX2 q f
  have u0 := blk_cell b2 0 (v := .slice (some ⟨g1, 0, none⟩) sn sn) rfl
  have u1 := blk_cell b2 1 (v := .slice (some ⟨g2, 0, none⟩) pn pn) rfl
  have p0 := blk_cell b1 0 (v := .slice none 0 0) rfl
  have p1 := blk_cell b1 1 (v := .slice none 0 0) rfl
  have f0 := blk_frozen b1 0
  have f1 := blk_frozen b1 1
  obtain ⟨Y, hY⟩ : ∃ u, u = stores X2 (w.heap.size + 1) 0 [.slice (some ⟨g1, 0, none⟩) sn sn, .slice (some ⟨g2, 0, none⟩) pn pn] := ⟨_, rfl⟩
  have D : Below w.heap.size w Y := by rw [hY]; exact stores_below _ _ _ _ C2 (by omega)
  have S : Off (From w.heap.size (w.heap.size + 3)) X2 Y := by rw [hY]; exact stores_off _ _ _ _ ⟨by omega, by omega⟩
  have zY : Y.heap.size = X2.heap.size := by rw [hY]; exact stores_size _ _ _ _
  have R : Hid (RDep.Own Y (From w.heap.size Y.heap.size) [.slice (some ⟨g1, 0, none⟩) sn sn, .slice (some ⟨g2, 0, none⟩) pn pn] (ss, xs)) :=
    ⟨[_], [_], _, _, rfl, RInts.ownOff O2.out S (fun b h k => by have := h.1; have := k.2; omega), RInts.ownOff Q2.out S (fun b h k => by have := h.1; have := k.2; omega), fun b h => ⟨by have := h.1; omega, by have := h.2; omega⟩, fun b h => ⟨by have := h.1; omega, by have := h.2; omega⟩, fun b h k => by have := h.2; have := k.1; omega⟩
  have HY := Hid.mk hY
  have HD := Hid.mk D
  clear S D O2 Q2 hY zY b1 b2 C2
  go_wp2
  refine bodyPost_ret (v := .agg #[.slice (some ⟨g1, 0, none⟩) sn sn, .slice (some ⟨g2, 0, none⟩) pn pn]) (by simp [results, Tryd.results34, go_sem, p0, p1]) rfl ⟨g1, g2, rfl, ?_, ?_⟩
  · have h := R.out
    rw [HY.out] at h
    exact h
  · have h := HD.out
    rw [HY.out] at h
    exact h

theorem Tryd.infoDepend : (Tryd.prog.info? 61).map (fun i => (i.zero, i.size, i.bytes)) = some (some (.agg #[.slice none 0 0, .slice none 0 0]), 2, 48) := by kernel_rfl

set_option maxRecDepth 100000 in
set_option maxHeartbeats 4000000 in
theorem toDependS_any (a : Option Addr) (n c : Nat) (xs : List Dep) (w : World) (hz : xs.length = n) (hn : n ≤ 1048576) (hs : ∀ (i : Nat) (x : Dep), xs[i]? = some x → SmDep x) (ha : AtD w a xs) :
    Calls Tryd.prog 16 #[.slice a n c] w fun e w' => ∃ g, e = .returned (.slice (some ⟨g, 0, none⟩) n n) ∧ RDeps.Own w' (From w.heap.size w'.heap.size) [.slice (some ⟨g, 0, none⟩) n n] xs ∧ Below w.heap.size w w' := by
  obtain ⟨i0, hi, hz0, hz1, hz2⟩ := info_parts Tryd.infoDepend
  go_enter Tryd.func16, Tryd.ntmps16
  go_wp2_with (at_make; refine wpList_make_full _ rfl _ _ 38 rfl w.heap.size 61 i0 (.agg #[.slice none 0 0, .slice none 0 0]) 2 Tryd.underlying38 hi hz0 hz1 .i64 .i64 _ _ n rfl rfl rfl rfl (by rw [hz2]; omega) (by unfold maxLen; omega) (Nat.le_refl _) ?_; intro w1 hown hg)
  have hb1 : Below w.heap.size w w1 := (Below.refl _ _).grown hg (Nat.le_refl _) (by simp)
  have hlt1 := (hown.lt w.heap.size rfl).2
  obtain ⟨cs, hcs⟩ : ∃ cs, cs = (madeCells (Value.agg #[.slice none 0 0, .slice none 0 0]).cells (n * 2)).toList := ⟨_, rfl⟩
  rw [← hcs] at hown
  have hst : Laid RDep w1 (From w.heap.size w1.heap.size) 61 (some ⟨w.heap.size, 0, none⟩) n n xs cs (fun _ _ => False) 0 := Laid.start hz (by omega) (owns_mono hown (Nat.zero_le _)) (fun b hb => hown.lt b hb) _
  clear hcs hown hg
  go_loopw [4] (fun i wr => ∃ (k : Nat) (cells : List Value) (G : Nat → Nat → Prop), k ≤ n ∧ i = .int .i64 k ∧ Laid RDep wr (From w.heap.size wr.heap.size) 61 (some ⟨w.heap.size, 0, none⟩) n n xs cells G k ∧ w.heap.size < wr.heap.size ∧ Below w.heap.size w wr) (fun i _ => n - (intOf i).toNat)
  case atStart => exact ⟨0, cs, _, Nat.zero_le _, rfl, hst, hlt1, hb1⟩
  case round =>
    clear hst hb1 hlt1 cs
    obtain ⟨k, cells, G, hk, rfl, ho, hzr, hbw⟩ := hrel
    by_cases hlt : k < n
    · obtain ⟨b, off, rfl, _, hc⟩ := AtD.row (AtSl.below ha hbw) (by omega)
      obtain ⟨x, hx⟩ : ∃ x, xs[k]? = some x := ⟨_, List.getElem?_eq_getElem (by omega)⟩
      obtain ⟨fa, fn, fc, ta, tn, tc, g0, g1, ⟨t1, t2, t3⟩, ⟨u1, u2, u3⟩⟩ := hc k x hx
      have hsm := hs k x hx
      have hki : (k : Int) < (n : Int) := by omega
      have HO := Hid.mk ho
      have HX := Hid.mk hx
      have HC := Hid.mk (toDepend_any fa fn fc ta tn tc x.1 x.2 wr t1 u1 (by have := hsm.1; omega) (by have := hsm.2; omega) t3 u3)
      clear hc ha ho hs hx t1 t3 u1 u3 hsm
      go_wp2_with fail
      refine HC.out.mono ?_
      rintro e w2 ⟨h1, h2, rfl, ho2, hb2⟩
      obtain ⟨g, hgg⟩ : ∃ g, g = w.heap.size := ⟨_, rfl⟩
      have hput := HO.out.put hlt (fun b hb => hb.2) hb2 HX.out ho2 (fun b hb => hb.1)
      have z2 := hb2.size
      have hput2 := hput.mono (F' := From w.heap.size w2.heap.size) (fun b hb => by rcases hb with hb | hb; exact ⟨hb.1, by have := hb.2; omega⟩; exact ⟨by have := hb.1; omega, hb.2⟩)
      have HP : Hid (Laid RDep ((w2.setCell ⟨w.heap.size, k * 2, none⟩ (.slice (some ⟨h1, 0, none⟩) fn fn)).setCell ⟨w.heap.size, k * 2 + 1, none⟩ (.slice (some ⟨h2, 0, none⟩) tn tn)) (From w.heap.size w2.heap.size) 61 (some ⟨w.heap.size, 0, none⟩) n n xs _ _ (k + 1)) := hput2
      have hout := (HO.out.below hb2).outer
      have hln := hout.1
      have hln : cells.length = n * 2 := hln
      obtain ⟨u0, hu0⟩ : ∃ u, cells[k * 2]? = some u := ⟨_, List.getElem?_eq_getElem (by omega)⟩
      have q0 : w2.cell? ⟨w.heap.size, k * 2, none⟩ = some u0 := (hout.cellAt _ (show k * 2 < n * 2 by omega)).trans hu0
      have f0 : w2.frozen? ⟨w.heap.size, k * 2, none⟩ = false := hout.frozenAt _
      clear hu0
      obtain ⟨u1, hu1⟩ : ∃ u, cells[k * 2 + 1]? = some u := ⟨_, List.getElem?_eq_getElem (by omega)⟩
      have q1 : w2.cell? ⟨w.heap.size, k * 2 + 1, none⟩ = some u1 := (hout.cellAt _ (show k * 2 + 1 < n * 2 by omega)).trans hu1
      have f1 : w2.frozen? ⟨w.heap.size, k * 2 + 1, none⟩ = false := hout.frozenAt _
      clear hu1
      have HB : Hid (Below w.heap.size w ((w2.setCell ⟨w.heap.size, k * 2, none⟩ (.slice (some ⟨h1, 0, none⟩) fn fn)).setCell ⟨w.heap.size, k * 2 + 1, none⟩ (.slice (some ⟨h2, 0, none⟩) tn tn))) := (((hbw.trans (hb2.mono hbw.size)).setCell (Nat.le_refl _) _).setCell (Nat.le_refl _) _)
      clear hput hput2 hout hln hb2 hbw ho2 g0 g1 hgg
      go_wp2
      go_roundw
      case rel => exact ⟨k + 1, _, _, by omega, by go_num, by simpa only [World.setCell, Array.size_modify] using HP.out, by simp [World.setCell]; omega, HB.out⟩
      case measure => simp [intOf]; omega
    · obtain rfl : k = n := by omega
      go_wp2
      go_ret
      exact ⟨_, rfl, ⟨_, _, _, _, _, rfl, ho⟩, hbw⟩

end Go.Proofs.YthliamoeplgblaaDoor

/- Slices of numbers that are alike are held equal. -/
namespace Go.Proofs.YthliamoeplgblaaDoor
open Go.RowKit

theorem eqIntS_same (a a' : Option Addr) (n c c' : Nat) (zs : List Int) (w : World) (hz : zs.length = n) (hn : n ≤ 1048576) (ha : At w a zs) (ha' : At w a' zs) :
    Calls Tryd.prog 27 #[.slice a n c, .slice a' n c'] w fun e w' => e = .returned (.bool true) ∧ Below w.heap.size w w' :=
  (eqIntS_any a a' n n c c' zs zs w hz hz hn hn ha ha').mono fun _ _ ⟨h1, h2⟩ => ⟨by rw [h1, decide_eq_true rfl], h2⟩
end Go.Proofs.YthliamoeplgblaaDoor

/- Contracts of the laws' helpers eqDepend, eqDependS over dependencies that are alike. -/
namespace Go.Proofs.YthliamoeplgblaaDoor
open Go.RowKit

set_option maxRecDepth 100000 in
set_option maxHeartbeats 2000000 in
theorem eqDepend_same (sa sa' : Option Addr) (sn sc sc' : Nat) (pa pa' : Option Addr) (pn pc pc' : Nat) (ss : List Int) (xs : List Int) (w : World) (hsz : ss.length = sn) (hz : xs.length = pn) (hsn : sn ≤ 1048576) (hpn : pn ≤ 1048576) (hsa : At w sa ss) (ha : At w pa xs) (hsa' : At w sa' ss) (ha' : At w pa' xs) :
    Calls Tryd.prog 38 #[.agg #[.slice sa sn sc, .slice pa pn pc], .agg #[.slice sa' sn sc', .slice pa' pn pc']] w fun e w' => e = .returned (.bool true) ∧ Below w.heap.size w w' := by
  obtain ⟨W, hW⟩ : ∃ W, W = ((w.alloc (.cells #[.slice sa sn sc, .slice pa pn pc] 61)).alloc (.cells #[.slice sa' sn sc', .slice pa' pn pc'] 61)) := ⟨_, rfl⟩
  have B0 : Below w.heap.size w W := by rw [hW]; exact (((Below.refl _ _).alloc (Nat.le_refl _) _).alloc (by simp) _)
  have q0 : W.cell? ⟨w.heap.size, 1, none⟩ = some (.slice pa pn pc) := by rw [hW]; simp
  have q1 : W.cell? ⟨w.heap.size + 1, 1, none⟩ = some (.slice pa' pn pc') := by rw [hW]; simp
  have U3 := Hid.mk (And.intro hsa hsa')
  have V3 := Hid.mk (And.intro ha ha')
  have HU1 := Hid.mk hsz
  have HV1 := Hid.mk hz
  clear hsa ha hsa' ha' hsz hz
  go_enter Tryd.func38, Tryd.ntmps38
  go_wp2_with fail
  rw [← hW]
  clear hW
  refine (eqIntS_same sa sa' sn sc sc' ss W HU1.out hsn (At.below U3.out.1 B0) (At.below U3.out.2 B0)).mono ?_
  rintro e w1 ⟨rfl, hb1⟩
  have B1 := B0.trans (hb1.mono B0.size)
  have q0 := cell_later hb1 q0
  have q1 := cell_later hb1 q1
  clear hb1 B0
  go_wp2_with fail
  refine (eqIntS_same pa pa' pn pc pc' xs w1 HV1.out hpn (At.below V3.out.1 B1) (At.below V3.out.2 B1)).mono ?_
  rintro e w2 ⟨rfl, hb2⟩
  go_wp2
  go_ret
  exact ⟨rfl, B1.trans (hb2.mono B1.size)⟩

set_option maxRecDepth 100000 in
set_option maxHeartbeats 4000000 in
theorem eqDependS_same (a a' : Option Addr) (n c c' : Nat) (xs : List Dep) (w : World) (hz : xs.length = n) (hn : n ≤ 1048576) (hs : ∀ (i : Nat) (x : Dep), xs[i]? = some x → SmDep x) (ha : AtD w a xs) (ha' : AtD w a' xs) :
    Calls Tryd.prog 18 #[.slice a n c, .slice a' n c'] w fun e w' => e = .returned (.bool true) ∧ Below w.heap.size w w' := by
  by_cases h0 : n = 0
  · subst h0
    go_enter Tryd.func18, Tryd.ntmps18
    go_wp2
    refine wp_loop_rounds 1 ?_
    rw [rounds_succ]
    go_wp2
    go_ret
    exact ⟨rfl, Below.refl _ _⟩
  · go_enter Tryd.func18, Tryd.ntmps18
    go_wp2
    go_loopw [5] (fun i wr => ∃ (k : Nat), k ≤ n ∧ i = .int .i64 k ∧ Below w.heap.size w wr) (fun i _ => n - (intOf i).toNat)
    case atStart => exact ⟨0, Nat.zero_le _, rfl, Below.refl _ _⟩
    case round =>
      obtain ⟨k, hk, rfl, hbw⟩ := hrel
      by_cases hlt : k < n
      · obtain ⟨b, off, rfl, _, hc⟩ := AtD.row (AtSl.below ha hbw) (by omega)
        obtain ⟨b', off', rfl, _, hc'⟩ := AtD.row (AtSl.below ha' hbw) (by omega)
        obtain ⟨x, hx⟩ : ∃ x, xs[k]? = some x := ⟨_, List.getElem?_eq_getElem (by omega)⟩
        obtain ⟨fa, fn, fc, ta, tn, tc, g0, g1, ⟨t1, t2, t3⟩, ⟨u1, u2, u3⟩⟩ := hc k x hx
        obtain ⟨fa', fn', fc', ta', tn', tc', h0, h1, ⟨t1', _, t3'⟩, ⟨u1', _, u3'⟩⟩ := hc' k x hx
        obtain rfl : fn = fn' := t1.symm.trans t1'
        obtain rfl : tn = tn' := u1.symm.trans u1'
        have hsm := hs k x hx
        have hki : (k : Int) < (n : Int) := by omega
        have HE : Hid (∀ w' : World, Below wr.heap.size wr w' → Calls Tryd.prog 38 #[.agg #[.slice fa fn fc, .slice ta tn tc], .agg #[.slice fa' fn fc', .slice ta' tn tc']] w' fun e w'' => e = .returned (.bool true) ∧ Below w'.heap.size w' w'') :=
          fun w' hw' => eqDepend_same fa fa' fn fc fc' ta ta' tn tc tc' x.1 x.2 w' t1 u1 (by have := hsm.1; omega) (by have := hsm.2; omega) (At.below t3 hw') (At.below u3 hw') (At.below t3' hw') (At.below u3' hw')
        clear hc hc' ha ha' hs hsm hx t1 t3 u1 u3 t1' t3' u1' u3'
        go_wp2_with fail
        go_region_held3 (fun w' => w'.cell? ⟨b, off + k * 2, none⟩ = some (.slice fa fn fc) ∧ w'.cell? ⟨b, off + k * 2 + 1, none⟩ = some (.slice ta tn tc) ∧ w'.cell? ⟨b', off' + k * 2, none⟩ = some (.slice fa' fn fc') ∧ w'.cell? ⟨b', off' + k * 2 + 1, none⟩ = some (.slice ta' tn tc')) (refine ⟨?_, ?_, ?_, ?_⟩ <;> assumption)
          (first | (go_at_call 38; refine (HE.out wr.drew (Below.refl _ _).drew).mono ?_; rintro e w2 ⟨rfl, hb2⟩; have e0 := cell_later hb2 g0; have e1 := cell_later hb2 g1; have d0 := cell_later hb2 h0; have d1 := cell_later hb2 h1) | fail)
        go_wp2
        go_roundw
        case rel => exact ⟨k + 1, by omega, by go_num, hbw.drew.trans (hb2.mono hbw.size)⟩
        case measure => simp [intOf]; omega
      · go_wp2
        go_ret
        exact ⟨rfl, hbw⟩

end Go.Proofs.YthliamoeplgblaaDoor

/- Contracts of the laws' markDepend, markDependS over things that are owned. -/
namespace Go.Proofs.YthliamoeplgblaaDoor
open Go.RowKit

def mkDep (m : Int) (x : Dep) : Dep := (mkInts m x.1, mkInts (m + x.1.length) x.2)
def mkDeps (m : Int) (xs : List Dep) : List Dep := mkL mkDep dcost m xs

end Go.Proofs.YthliamoeplgblaaDoor

/- The laws' helpers over dependencies in one form, as LawG has them over tables. -/
namespace Go.Proofs.YthliamoeplgblaaDoor
open Go.RowKit

/-- A slice of dependencies that the call made: its blocks lie from lo on and below hi. -/
def OwnD (w : World) (lo hi : Nat) (a : Option Addr) (n c : Nat) (xs : List Dep) : Prop := RDeps.Own w (From lo hi) [.slice a n c] xs

section
variable {w w' : World} {lo hi : Nat} {a : Option Addr} {n c : Nat} {xs : List Dep}
theorem OwnD.below (h : OwnD w lo hi a n c xs) (hb : Below w.heap.size w w') : OwnD w' lo hi a n c xs := RDeps.ownBelow h hb
theorem OwnD.apartW {lo' hi' : Nat} (h : OwnD w lo hi a n c xs) (hp : Apart lo' hi' w w') (hd : hi ≤ lo' ∨ hi' ≤ lo) : OwnD w' lo hi a n c xs :=
  RDeps.ownOff h (Off.of_apart hp) (fun b h1 h2 => by have := h1.1; have := h1.2; have := h2.1; have := h2.2; omega)
theorem OwnD.atD0 (h : OwnD w lo hi a n c xs) : AtD w a xs := by
  obtain ⟨a', n', c', e, _, _, h3, _⟩ := RDeps.toAt h
  simp only [List.cons.injEq, Value.slice.injEq, and_true] at e
  obtain ⟨rfl, rfl, rfl⟩ := e
  exact h3
theorem OwnD.atD (h : OwnD w lo hi a n c xs) (_hs : SmD xs n) : AtD w a xs := h.atD0
end

theorem toDependSG (a : Option Addr) (n c : Nat) (xs : List Dep) (w : World) (hs : SmD xs n) (ha : AtD w a xs) :
    Calls Tryd.prog 16 #[.slice a n c] w fun e w' => ∃ g, e = .returned (.slice (some ⟨g, 0, none⟩) n n) ∧ OwnD w' w.heap.size w'.heap.size (some ⟨g, 0, none⟩) n n xs ∧ Below w.heap.size w w' :=
  toDependS_any a n c xs w hs.1 hs.n (fun _ _ hx => hs.each hx) ha
theorem eqDependSG (a a' : Option Addr) (n c c' : Nat) (xs : List Dep) (w : World) (hs : SmD xs n) (ha : AtD w a xs) (ha' : AtD w a' xs) :
    Calls Tryd.prog 18 #[.slice a n c, .slice a' n c'] w fun e w' => e = .returned (.bool true) ∧ Below w.heap.size w w' :=
  eqDependS_same a a' n c c' xs w hs.1 hs.n (fun _ _ hx => hs.each hx) ha ha'
end Go.Proofs.YthliamoeplgblaaDoor

/- What the laws over dependencies lean on. -/
namespace Go.Proofs.YthliamoeplgblaaDoor
open Go.RowKit

theorem deps_at {w : World} {F : Nat → Prop} {a : Option Addr} {n c : Nat} {xs : List Dep} (h : RDeps.Own w F [.slice a n c] xs) : AtD w a xs := by
  obtain ⟨a', n', c', e, _, _, h3, _⟩ := RDeps.toAt h
  simp only [List.cons.injEq, Value.slice.injEq, and_true] at e
  obtain ⟨rfl, rfl, rfl⟩ := e
  exact h3
theorem dep_at {w : World} {F : Nat → Prop} {fa : Option Addr} {fn fc : Nat} {ta : Option Addr} {tn tc : Nat} {fs ts : List Int} (h : RDep.Own w F [.slice fa fn fc, .slice ta tn tc] (fs, ts)) : At w fa fs ∧ At w ta ts := by
  obtain ⟨⟨_, _, h3, _⟩, ⟨_, _, k3, _⟩⟩ := RDep.at_iff (RDep.toAt h)
  exact ⟨h3, k3⟩

end Go.Proofs.YthliamoeplgblaaDoor
