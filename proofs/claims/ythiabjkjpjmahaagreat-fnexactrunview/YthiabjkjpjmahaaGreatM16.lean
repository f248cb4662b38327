/- Several texts of one proof, in build order: ViewH, RepD, RepC, Blk. -/
import Derived.Test.YthiabjkjpjmahaaGreatM10
import Derived.Test.YthiabjkjpjmahaaGreatM3

/- Contracts of the laws' helpers over parts and views: szPart, szPartS, szView. -/
namespace Go.Proofs.YthiabjkjpjmahaaGreat
open Go.RowKit

set_option maxRecDepth 100000 in
set_option maxHeartbeats 2000000 in
theorem szPart_any (cs : List Value) (x : PartD) (l : Int) (w : World) (h0 : 0 ≤ l) (h1 : l ≤ 1048576) (h : RPart.At w cs x) :
    Calls Tryz.prog 90 #[.agg cs.toArray, .int .i64 l] w fun e w' => e = .returned (.int .i64 (leftOf l (pcost x))) ∧ Below w.heap.size w w' := by
  obtain ⟨ta, tn, tc, ca, cn, cc, pa, pn, pc, rfl, ⟨t1, t2, t3⟩, ⟨u1, u2, u3⟩, ⟨v1, v2, v3⟩⟩ := RPart.at_open h
  have hp : pcost x = tn + cn + (pn + tot x.ps pn) := by unfold pcost; rw [t1, u1, v1]
  rw [hp]
  clear h hp
  obtain ⟨K, A, B, ts, zs, ps⟩ := x
  simp only [PartD.K, PartD.A, PartD.B, PartD.ts, PartD.cs, PartD.ps] at *
  obtain ⟨W, hW⟩ : ∃ W, W = w.alloc (.cells #[.int .i64 K, .int .i64 A, .int .i64 B, .slice ta tn tc, .slice ca cn cc, .slice pa pn pc] 139) := ⟨_, rfl⟩
  have B0 : Below w.heap.size w W := by rw [hW]; exact (Below.refl _ _).alloc (Nat.le_refl _) _
  have q4 : W.cell? ⟨w.heap.size, 4, none⟩ = some (.slice ca cn cc) := by rw [hW]; simp
  have q5 : W.cell? ⟨w.heap.size, 5, none⟩ = some (.slice pa pn pc) := by rw [hW]; simp
  have T3 := Hid.mk (AtE.below t3 B0)
  have V3 := Hid.mk (AtS.below v3 B0)
  have V1 := Hid.mk v1
  have T1 := Hid.mk t1
  clear t3 u3 v3 v1 t1 u1
  by_cases c1 : l < tn
  · go_enter Tryz.func90, Tryz.ntmps90
    go_wp2_with fail
    rw [← hW]
    clear hW
    refine (szTestS_any ta tn tc ts l W T1.out t2 h0 h1 T3.out).mono ?_
    rintro e w1 ⟨rfl, hb1⟩
    rw [leftOf_no c1]
    go_wp2
    go_ret
    exact ⟨ret_int (leftOf_no (by omega)).symm, B0.trans (hb1.mono B0.size)⟩
  have d1 : ¬ l - (tn : Int) < 0 := by omega
  by_cases c2 : l - tn < cn
  · go_enter Tryz.func90, Tryz.ntmps90
    go_wp2_with fail
    rw [← hW]
    clear hW
    refine (szTestS_any ta tn tc ts l W T1.out t2 h0 h1 T3.out).mono ?_
    rintro e w1 ⟨rfl, hb1⟩
    rw [leftOf_yes (by omega)]
    have B1 := B0.trans (hb1.mono B0.size)
    have q4 := cell_later hb1 q4
    have HB := Hid.mk B1
    clear hb1 B0 B1
    go_wp2_with fail
    refine (szIntS_any ca cn cc (l - tn) w1 u2 (by omega) (by omega)).mono ?_
    rintro e w2 ⟨rfl, rfl⟩
    rw [if_pos (by omega)]
    go_wp2
    go_ret
    exact ⟨ret_int (leftOf_no (by omega)).symm, HB.out⟩
  have d2 : ¬ l - (tn : Int) - (cn : Int) < 0 := by omega
  by_cases c3 : l - tn - cn < ((pn + tot ps pn : Nat) : Int)
  · go_enter Tryz.func90, Tryz.ntmps90
    go_wp2_with fail
    rw [← hW]
    clear hW
    refine (szTestS_any ta tn tc ts l W T1.out t2 h0 h1 T3.out).mono ?_
    rintro e w1 ⟨rfl, hb1⟩
    rw [leftOf_yes (by omega)]
    have B1 := B0.trans (hb1.mono B0.size)
    have q4 := cell_later hb1 q4
    have q5 := cell_later hb1 q5
    have HB := Hid.mk B1
    have V4 := Hid.mk (V3.out.below hb1)
    clear hb1 B0 B1
    go_wp2_with fail
    refine (szIntS_any ca cn cc (l - tn) w1 u2 (by omega) (by omega)).mono ?_
    rintro e w2 ⟨rfl, rfl⟩
    rw [if_neg (by omega)]
    go_wp2_with fail
    refine (szIntSS_at pa pn pc ps (l - tn - cn) _ V1.out v2 (by omega) (by omega) V4.out).mono ?_
    rintro e w3 ⟨rfl, hb3⟩
    rw [leftOf_no (by omega)]
    go_wp2
    go_ret
    exact ⟨ret_int (leftOf_no (by omega)).symm, HB.out.trans (hb3.mono HB.out.size)⟩
  have d3 : ¬ l - (tn : Int) - (cn : Int) - (pn + tot ps pn : Nat) < 0 := by omega
  go_enter Tryz.func90, Tryz.ntmps90
  go_wp2_with fail
  rw [← hW]
  clear hW
  refine (szTestS_any ta tn tc ts l W T1.out t2 h0 h1 T3.out).mono ?_
  rintro e w1 ⟨rfl, hb1⟩
  rw [leftOf_yes (by omega)]
  have B1 := B0.trans (hb1.mono B0.size)
  have q4 := cell_later hb1 q4
  have q5 := cell_later hb1 q5
  have HB := Hid.mk B1
  have V4 := Hid.mk (V3.out.below hb1)
  clear hb1 B0 B1
  go_wp2_with fail
  refine (szIntS_any ca cn cc (l - tn) w1 u2 (by omega) (by omega)).mono ?_
  rintro e w2 ⟨rfl, rfl⟩
  rw [if_neg (by omega)]
  go_wp2_with fail
  refine (szIntSS_at pa pn pc ps (l - tn - cn) _ V1.out v2 (by omega) (by omega) V4.out).mono ?_
  rintro e w3 ⟨rfl, hb3⟩
  rw [leftOf_yes (by omega)]
  have d4 : ¬ l - (tn : Int) - (cn : Int) - ((pn : Int) + (tot ps pn : Nat)) < 0 := by omega
  go_wp2
  go_ret
  exact ⟨ret_int (by rw [leftOf_yes (by omega)]; omega), HB.out.trans (hb3.mono HB.out.size)⟩

set_option maxRecDepth 100000 in
set_option maxHeartbeats 2000000 in
theorem szPartS_any (a : Option Addr) (n c : Nat) (xs : List PartD) (l : Int) (w : World) (hz : xs.length = n) (hn : n ≤ 9223372036854775807) (h0 : 0 ≤ l) (h1 : l ≤ 1048576) (ha : AtSl RPart w a xs) :
    Calls Tryz.prog 49 #[.slice a n c, .int .i64 l] w fun e w' => e = .returned (.int .i64 (leftOf l (n + psum xs n : Nat))) ∧ Below w.heap.size w w' := by
  by_cases hb : l < n
  · have h' : l - (n : Int) < 0 := by omega
    go_enter Tryz.func49, Tryz.ntmps49
    go_wp2
    go_ret
    exact ⟨ret_int (leftOf_no (by omega)).symm, Below.refl _ _⟩
  have h' : ¬ l - (n : Int) < 0 := by omega
  by_cases hn0 : n = 0
  · subst hn0
    have ht : psum xs 0 = 0 := rfl
    go_enter Tryz.func49, Tryz.ntmps49
    go_wp2
    refine wp_loop_rounds 1 ?_
    rw [rounds_succ]
    go_wp2
    go_ret
    exact ⟨ret_int (by rw [ht, leftOf_yes (by omega)]; omega), Below.refl _ _⟩
  · go_enter Tryz.func49, Tryz.ntmps49
    go_wp2
    go_loopw [1, 5] (fun q i wr => ∃ (k : Nat) (r : Int), k ≤ n ∧ i = .int .i64 k ∧ q = .int .i64 r ∧ 0 ≤ r ∧ r ≤ 1048576 ∧ r + psum xs k = l - n ∧ Below w.heap.size w wr) (fun _ i _ => n - (intOf i).toNat)
    case atStart => exact ⟨0, l - n, Nat.zero_le _, rfl, rfl, by omega, by omega, by rw [psum_zero]; omega, Below.refl _ _⟩
    case round =>
      obtain ⟨k, r, hk, rfl, rfl, hr0, hr1, hr, hbw⟩ := hrel
      by_cases hlt : k < n
      · obtain ⟨b, off, rfl, hc⟩ := (ha.below hbw).each (by omega)
        obtain ⟨x, hx⟩ : ∃ x, xs[k]? = some x := ⟨_, List.getElem?_eq_getElem (by omega)⟩
        obtain ⟨cs, hcs, hat⟩ := hc k x hx
        have hts := psum_succ hx
        have htm := psum_mono xs (k + 1) n (by omega)
        have hopen := RPart.at_open hat
        obtain ⟨ta, tn, tc, ca, cn, cc, pa, pn, pc, rfl, _⟩ := hopen
        have g0 := hcs 0 _ rfl
        have g1 := hcs 1 _ rfl
        have g2 := hcs 2 _ rfl
        have g3 := hcs 3 _ rfl
        have g4 := hcs 4 _ rfl
        have g5 := hcs 5 _ rfl
        rw [RPart_k] at g0 g1 g2 g3 g4 g5
        rw [Nat.add_zero] at g0
        have HAT := Hid.mk hat
        have HR := Hid.mk hr
        have HT := Hid.mk hts
        have HM := Hid.mk htm
        have hki : (k : Int) < (n : Int) := by omega
        clear hat hc hr hts ha htm hx hcs
        generalize x.K = K at *
        generalize x.A = A at *
        generalize x.B = B at *
        by_cases hfit : r < pcost x
        · go_wp2_with fail
          refine (szPart_any _ x r wr hr0 hr1 HAT.out).mono ?_
          rintro e w' ⟨rfl, hb'⟩
          rw [leftOf_no hfit]
          go_wp2
          go_ret
          exact ⟨ret_int (leftOf_no (by have := HR.out; have := HT.out; have := HM.out; omega)).symm, hbw.trans (hb'.mono hbw.size)⟩
        · have hd : ¬ r - (pcost x : Int) < 0 := by omega
          go_wp2_with fail
          refine (szPart_any _ x r wr hr0 hr1 HAT.out).mono ?_
          rintro e w' ⟨rfl, hb'⟩
          rw [leftOf_yes (by omega)]
          go_wp2
          go_roundw
          case rel => exact ⟨k + 1, r - pcost x, by omega, by go_num, rfl, by omega, by omega, by have := HR.out; have := HT.out; omega, hbw.trans (hb'.mono hbw.size)⟩
          case measure => simp [intOf]; omega
      · obtain rfl : k = n := by omega
        have HR := Hid.mk hr
        clear hr
        go_wp2
        go_ret
        exact ⟨ret_int (by have := HR.out; rw [leftOf_yes (by omega)]; omega), hbw⟩

set_option maxRecDepth 100000 in
set_option maxHeartbeats 1000000 in
theorem szView_any (sa : Option Addr) (sn sc : Nat) (pa : Option Addr) (pn pc : Nat) (ss : List Int) (xs : List PartD) (l : Int) (w : World) (hs : ss.length = sn) (hsn : sn ≤ 9223372036854775807) (hz : xs.length = pn) (hn : pn ≤ 9223372036854775807) (h0 : 0 ≤ l) (h1 : l ≤ 1048576) (ha : AtSl RPart w pa xs) :
    Calls Tryz.prog 13 #[.agg #[.slice sa sn sc, .slice pa pn pc], .int .i64 l] w fun e w' => e = .returned (.int .i64 (leftOf l (vcost (ss, xs)))) ∧ Below w.heap.size w w' := by
  have hv : vcost (ss, xs) = sn + (pn + psum xs pn) := by unfold vcost; simp only; rw [hs, hz]
  rw [hv]
  clear hv
  obtain ⟨W, hW⟩ : ∃ W, W = w.alloc (.cells #[.slice sa sn sc, .slice pa pn pc] 41) := ⟨_, rfl⟩
  have B0 : Below w.heap.size w W := by rw [hW]; exact (Below.refl _ _).alloc (Nat.le_refl _) _
  have q1 : W.cell? ⟨w.heap.size, 1, none⟩ = some (.slice pa pn pc) := by rw [hW]; simp
  have HA := Hid.mk (ha.below B0)
  have HZ := Hid.mk hz
  clear ha hz hs
  by_cases c1 : l < sn
  · go_enter Tryz.func13, Tryz.ntmps13
    go_wp2_with fail
    rw [← hW]
    clear hW
    refine (szIntS_any sa sn sc l W hsn h0 h1).mono ?_
    rintro e w2 ⟨rfl, rfl⟩
    rw [if_pos c1]
    go_wp2
    go_ret
    exact ⟨ret_int (leftOf_no (by omega)).symm, B0⟩
  by_cases c2 : l - sn < ((pn + psum xs pn : Nat) : Int)
  · go_enter Tryz.func13, Tryz.ntmps13
    have d1 : ¬ l - (sn : Int) < 0 := by omega
    go_wp2_with fail
    rw [← hW]
    clear hW
    refine (szIntS_any sa sn sc l W hsn h0 h1).mono ?_
    rintro e w2 ⟨rfl, rfl⟩
    rw [if_neg (by omega)]
    go_wp2_with fail
    refine (szPartS_any pa pn pc xs (l - sn) _ HZ.out hn (by omega) (by omega) HA.out).mono ?_
    rintro e w3 ⟨rfl, hb3⟩
    rw [leftOf_no (by omega)]
    go_wp2
    go_ret
    exact ⟨ret_int (leftOf_no (by omega)).symm, B0.trans (hb3.mono B0.size)⟩
  · obtain ⟨s, hs⟩ : ∃ s : Nat, pn + psum xs pn = s := ⟨_, rfl⟩
    rw [hs] at c2 ⊢
    have HS := Hid.mk hs
    clear hs
    go_enter Tryz.func13, Tryz.ntmps13
    have d1 : ¬ l - (sn : Int) < 0 := by omega
    have d2 : ¬ l - (sn : Int) - (s : Int) < 0 := by omega
    go_wp2_with fail
    rw [← hW]
    clear hW
    refine (szIntS_any sa sn sc l W hsn h0 h1).mono ?_
    rintro e w2 ⟨rfl, rfl⟩
    rw [if_neg (by omega)]
    go_wp2_with fail
    refine (szPartS_any pa pn pc xs (l - sn) _ HZ.out hn (by omega) (by omega) HA.out).mono ?_
    rintro e w3 ⟨rfl, hb3⟩
    rw [HS.out, leftOf_yes (by omega)]
    go_wp2
    go_ret
    exact ⟨ret_int (by rw [leftOf_yes (by omega)]; omega), B0.trans (hb3.mono B0.size)⟩

end Go.Proofs.YthiabjkjpjmahaaGreat

/- The laws' copies of slices of numbers, of slices of numbers, as things that are owned. -/
namespace Go.Proofs.YthiabjkjpjmahaaGreat
open Go.RowKit

theorem toInts_rep (a : Option Addr) (n c : Nat) (zs : List Int) (w : World) (hz : zs.length = n) (hn : n ≤ 1048576) (ha : At w a zs) :
    Calls Tryz.prog 51 #[.slice a n c] w fun e w' => ∃ g, e = .returned (.slice (some ⟨g, 0, none⟩) n n) ∧ RInts.Own w' (From w.heap.size w'.heap.size) [.slice (some ⟨g, 0, none⟩) n n] zs ∧ Below w.heap.size w w' :=
  (toIntS_any a n c zs w hz hn ha).mono fun _ _ ⟨h1, h2, h3⟩ => ⟨_, h1, RInts.of_owns hz (by omega) h2, h3⟩
theorem toPairs_rep (a : Option Addr) (n c : Nat) (ps : List (List Int)) (w : World) (hz : ps.length = n) (hn : n ≤ 1048576) (hs : ∀ i, i < ps.length → (ps.getD i []).length ≤ 1048576) (ha : AtS w a ps) :
    Calls Tryz.prog 131 #[.slice a n c] w fun e w' => ∃ g, e = .returned (.slice (some ⟨g, 0, none⟩) n n) ∧ RPairs.Own w' (From w.heap.size w'.heap.size) [.slice (some ⟨g, 0, none⟩) n n] ps ∧ Below w.heap.size w w' :=
  (toIntSS_at a n c ps w hz hn hs ha).mono fun _ _ ⟨g, h1, h2, h3⟩ => ⟨g, h1, RPairs.of_own h2 hn hs, h3⟩

end Go.Proofs.YthiabjkjpjmahaaGreat

/- The laws' copies of slices of tests, as things that are owned. -/
namespace Go.Proofs.YthiabjkjpjmahaaGreat
open Go.RowKit

theorem toTests_rep (a : Option Addr) (n c : Nat) (es : List Tst) (w : World) (hz : es.length = n) (hn : n ≤ 1048576) (ha : AtE w a es) :
    Calls Tryz.prog 130 #[.slice a n c] w fun e w' => ∃ g, e = .returned (.slice (some ⟨g, 0, none⟩) n n) ∧ RTests.Own w' (From w.heap.size w'.heap.size) [.slice (some ⟨g, 0, none⟩) n n] es ∧ Below w.heap.size w w' :=
  (toTestS_any a n c es w hz hn ha).mono fun _ _ ⟨h1, h2, h3⟩ => ⟨_, h1, RTests.own_iff.2 ⟨hz, by omega, owns_mono h2 (Nat.zero_le _), fun b hb => h2.lt b hb⟩, h3⟩

end Go.Proofs.YthiabjkjpjmahaaGreat

/- A block of cells that a function holds: what is stored, what stays. -/
namespace Go.Proofs.YthiabjkjpjmahaaGreat
open Go.RowKit

theorem blk_set {w : World} {g : Nat} {cs : Array Value} {t : TypeId} (h : w.heap[g]? = some (.cells cs t (0, 0))) (k : Nat) (v : Value) : (w.setCell ⟨g, k, none⟩ v).heap[g]? = some (.cells (cs.setIfInBounds k v) t (0, 0)) := heap_setCell_same w g k cs t v h
theorem blk_cell {w : World} {g : Nat} {cs : Array Value} {t : TypeId} (h : w.heap[g]? = some (.cells cs t (0, 0))) (k : Nat) {v : Value} (hv : cs[k]? = some v) : w.cell? ⟨g, k, none⟩ = some v := by
  rw [cell_of_row w g k _ t (0, 0) h]; exact hv
theorem blk_frozen {w : World} {g : Nat} {cs : Array Value} {t : TypeId} (h : w.heap[g]? = some (.cells cs t (0, 0))) (k : Nat) : w.frozen? ⟨g, k, none⟩ = false := frozen_of_row w g k _ t h
theorem blk_below {w w' : World} {g : Nat} {o : Obj} (h : w.heap[g]? = some o) (hb : Below w.heap.size w w') : w'.heap[g]? = some o := (hb.block g (Array.getElem?_eq_some_iff.1 h).1).trans h
theorem blk_other {w : World} {g : Nat} {o : Obj} (h : w.heap[g]? = some o) {a : Addr} (ha : g ≠ a.block) (v : Value) : (w.setCell a v).heap[g]? = some o := (Below.heap_setCell w a v g ha).trans h
theorem blk_alloc {w : World} {g : Nat} {o : Obj} (h : w.heap[g]? = some o) (o' : Obj) : (w.alloc o').heap[g]? = some o := (Below.heap_alloc w o' g (Array.getElem?_eq_some_iff.1 h).1).trans h

end Go.Proofs.YthiabjkjpjmahaaGreat
