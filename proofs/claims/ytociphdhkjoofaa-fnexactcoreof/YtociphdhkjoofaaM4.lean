/- Several texts of one proof, in build order: QrH, RepD, Blk, QrT, IntE, QrE, IntM. -/
import Derived.Test.YtociphdhkjoofaaM3
import Derived.Deep.CutBlock

/- Contracts of the laws' helpers over queries: szAtom, szAtomS, szQuery. -/
namespace Go.Proofs.Ytociphdhkjoofaa
open Go.RowKit

set_option maxRecDepth 100000 in
set_option maxHeartbeats 1000000 in
theorem szAtom_any (p : Int) (pa : Option Addr) (pn pc : Nat) (xs : List Int) (l : Int) (w : World) (hz : xs.length = pn) (hn : pn ≤ 9223372036854775807) (h0 : 0 ≤ l) (h1 : l ≤ 1048576) :
    Calls Try.prog 49 #[.agg #[.int .i64 p, .slice pa pn pc], .int .i64 l] w fun e w' => e = .returned (.int .i64 (leftOf l (acost (p, xs)))) ∧ Below w.heap.size w w' := by
  have hv : acost (p, xs) = pn := by unfold acost; simp only; rw [hz]
  rw [hv]
  clear hv
  obtain ⟨W, hW⟩ : ∃ W, W = w.alloc (.cells #[.int .i64 p, .slice pa pn pc] 77) := ⟨_, rfl⟩
  have B0 : Below w.heap.size w W := by rw [hW]; exact (Below.refl _ _).alloc (Nat.le_refl _) _
  clear hz
  by_cases c1 : l < pn
  · go_enter Try.func49, Try.ntmps49
    go_wp2_with fail
    rw [← hW]
    clear hW
    refine (szIntS_any pa pn pc l W hn h0 h1).mono ?_
    rintro e w2 ⟨rfl, rfl⟩
    rw [if_pos c1]
    go_wp2
    go_ret
    exact ⟨ret_int (leftOf_no (by omega)).symm, B0⟩
  · go_enter Try.func49, Try.ntmps49
    have d1 : ¬ l - (pn : Int) < 0 := by omega
    go_wp2_with fail
    rw [← hW]
    clear hW
    refine (szIntS_any pa pn pc l W hn h0 h1).mono ?_
    rintro e w2 ⟨rfl, rfl⟩
    rw [if_neg (by omega)]
    go_wp2
    go_ret
    exact ⟨ret_int (by rw [leftOf_yes (by omega)]), B0⟩

set_option maxRecDepth 100000 in
set_option maxHeartbeats 2000000 in
theorem szAtomS_any (a : Option Addr) (n c : Nat) (xs : List Atm) (l : Int) (w : World) (hz : xs.length = n) (hn : n ≤ 9223372036854775807) (h0 : 0 ≤ l) (h1 : l ≤ 1048576) (ha : AtQ w a xs) :
    Calls Try.prog 29 #[.slice a n c, .int .i64 l] w fun e w' => e = .returned (.int .i64 (leftOf l (n + asum xs n : Nat))) ∧ Below w.heap.size w w' := by
  by_cases hb : l < n
  · have h' : l - (n : Int) < 0 := by omega
    go_enter Try.func29, Try.ntmps29
    go_wp2
    go_ret
    exact ⟨ret_int (leftOf_no (by omega)).symm, Below.refl _ _⟩
  have h' : ¬ l - (n : Int) < 0 := by omega
  by_cases hn0 : n = 0
  · subst hn0
    have ht : asum xs 0 = 0 := asum_zero xs
    go_enter Try.func29, Try.ntmps29
    go_wp2
    refine wp_loop_rounds 1 ?_
    rw [rounds_succ]
    go_wp2
    go_ret
    exact ⟨ret_int (by rw [ht, leftOf_yes (by omega)]; omega), Below.refl _ _⟩
  · go_enter Try.func29, Try.ntmps29
    go_wp2
    go_loopw [1, 5] (fun q i wr => ∃ (k : Nat) (r : Int), k ≤ n ∧ i = .int .i64 k ∧ q = .int .i64 r ∧ 0 ≤ r ∧ r ≤ 1048576 ∧ r + asum xs k = l - n ∧ Below w.heap.size w wr) (fun _ i _ => n - (intOf i).toNat)
    case atStart => exact ⟨0, l - n, Nat.zero_le _, rfl, rfl, by omega, by omega, by rw [asum_zero]; omega, Below.refl _ _⟩
    case round =>
      obtain ⟨k, r, hk, rfl, rfl, hr0, hr1, hr, hbw⟩ := hrel
      by_cases hlt : k < n
      · obtain ⟨b, off, rfl, _, hc⟩ := AtQ.row (AtSl.below ha hbw) (by omega)
        obtain ⟨⟨xp, xt⟩, hx⟩ : ∃ x, xs[k]? = some x := ⟨_, List.getElem?_eq_getElem (by omega)⟩
        obtain ⟨ta, tn, tc, g0, g1, u1, u2, _⟩ := hc k _ hx
        have hts := asum_succ hx
        have htm := asum_mono xs (k + 1) n (by omega)
        have HR := Hid.mk hr
        have HT := Hid.mk hts
        have HM := Hid.mk htm
        have HX2 := Hid.mk u1
        have hki : (k : Int) < (n : Int) := by omega
        clear hc hr hts ha htm hx u1
        by_cases hfit : r < acost (xp, xt)
        · go_wp2_with fail
          refine (szAtom_any xp ta tn tc xt r wr HX2.out u2 hr0 hr1).mono ?_
          rintro e w' ⟨rfl, hb'⟩
          rw [leftOf_no hfit]
          go_wp2
          go_ret
          exact ⟨ret_int (leftOf_no (by have := HR.out; have := HT.out; have := HM.out; omega)).symm, hbw.trans (hb'.mono hbw.size)⟩
        · have hd : ¬ r - (acost (xp, xt) : Int) < 0 := by omega
          go_wp2_with fail
          refine (szAtom_any xp ta tn tc xt r wr HX2.out u2 hr0 hr1).mono ?_
          rintro e w' ⟨rfl, hb'⟩
          rw [leftOf_yes (by omega)]
          go_wp2
          go_roundw
          case rel => exact ⟨k + 1, r - acost (xp, xt), by omega, by go_num, rfl, by omega, by omega, by have := HR.out; have := HT.out; omega, hbw.trans (hb'.mono hbw.size)⟩
          case measure => simp [intOf]; omega
      · obtain rfl : k = n := by omega
        have HR := Hid.mk hr
        clear hr
        go_wp2
        go_ret
        exact ⟨ret_int (by have := HR.out; rw [leftOf_yes (by omega)]; omega), hbw⟩

/-- What the laws count for a query. -/
def qcost (x : Qry) : Nat := x.1.length + (x.2.length + asum x.2 x.2.length)

set_option maxRecDepth 100000 in
set_option maxHeartbeats 1000000 in
theorem szQuery_any (sa : Option Addr) (sn sc : Nat) (pa : Option Addr) (pn pc : Nat) (ss : List Int) (xs : List Atm) (l : Int) (w : World) (hs : ss.length = sn) (hsn : sn ≤ 9223372036854775807) (hz : xs.length = pn) (hn : pn ≤ 9223372036854775807) (h0 : 0 ≤ l) (h1 : l ≤ 1048576) (ha : AtQ w pa xs) :
    Calls Try.prog 6 #[.agg #[.slice sa sn sc, .slice pa pn pc], .int .i64 l] w fun e w' => e = .returned (.int .i64 (leftOf l (qcost (ss, xs)))) ∧ Below w.heap.size w w' := by
  obtain ⟨C, hC⟩ : ∃ C, pn + asum xs pn = C := ⟨_, rfl⟩
  have hv : qcost (ss, xs) = sn + C := by unfold qcost; simp only; rw [hs, hz, hC]
  rw [hv]
  clear hv
  have HC := Hid.mk hC
  clear hC
  obtain ⟨W, hW⟩ : ∃ W, W = w.alloc (.cells #[.slice sa sn sc, .slice pa pn pc] 25) := ⟨_, rfl⟩
  have B0 : Below w.heap.size w W := by rw [hW]; exact (Below.refl _ _).alloc (Nat.le_refl _) _
  have q1 : W.cell? ⟨w.heap.size, 1, none⟩ = some (.slice pa pn pc) := by rw [hW]; simp
  have HZ := Hid.mk hz
  have HA := Hid.mk (AtSl.below ha B0)
  clear hz hs ha
  by_cases c1 : l < sn
  · go_enter Try.func6, Try.ntmps6
    go_wp2_with fail
    rw [← hW]
    clear hW
    refine (szIntS_any sa sn sc l W hsn h0 h1).mono ?_
    rintro e w2 ⟨rfl, rfl⟩
    rw [if_pos c1]
    go_wp2
    go_ret
    exact ⟨ret_int (leftOf_no (by omega)).symm, B0⟩
  by_cases c2 : l - sn < (C : Int)
  · go_enter Try.func6, Try.ntmps6
    have d1 : ¬ l - (sn : Int) < 0 := by omega
    go_wp2_with fail
    rw [← hW]
    clear hW
    refine (szIntS_any sa sn sc l W hsn h0 h1).mono ?_
    rintro e w2 ⟨rfl, h9⟩
    obtain rfl := h9.symm
    rw [if_neg (by omega)]
    go_wp2_with fail
    refine (szAtomS_any pa pn pc xs (l - sn) _ HZ.out hn (by omega) (by omega) HA.out).mono ?_
    rintro e w3 ⟨rfl, hb⟩
    rw [HC.out, leftOf_no c2]
    go_wp2
    go_ret
    exact ⟨ret_int (leftOf_no (by omega)).symm, B0.trans (hb.mono B0.size)⟩
  · go_enter Try.func6, Try.ntmps6
    have d1 : ¬ l - (sn : Int) < 0 := by omega
    have d2 : ¬ l - (sn : Int) - (C : Int) < 0 := by omega
    go_wp2_with fail
    rw [← hW]
    clear hW
    refine (szIntS_any sa sn sc l W hsn h0 h1).mono ?_
    rintro e w2 ⟨rfl, h9⟩
    obtain rfl := h9.symm
    rw [if_neg (by omega)]
    go_wp2_with fail
    refine (szAtomS_any pa pn pc xs (l - sn) _ HZ.out hn (by omega) (by omega) HA.out).mono ?_
    rintro e w3 ⟨rfl, hb⟩
    rw [HC.out, leftOf_yes (by omega)]
    go_wp2
    go_ret
    exact ⟨ret_int (by rw [leftOf_yes (by omega)]; omega), B0.trans (hb.mono B0.size)⟩

end Go.Proofs.Ytociphdhkjoofaa

/- The laws' copies of slices of numbers, of slices of numbers, as things that are owned. -/
namespace Go.Proofs.Ytociphdhkjoofaa
open Go.RowKit

theorem toInts_rep (a : Option Addr) (n c : Nat) (zs : List Int) (w : World) (hz : zs.length = n) (hn : n ≤ 1048576) (ha : At w a zs) :
    Calls Try.prog 9 #[.slice a n c] w fun e w' => ∃ g, e = .returned (.slice (some ⟨g, 0, none⟩) n n) ∧ RInts.Own w' (From w.heap.size w'.heap.size) [.slice (some ⟨g, 0, none⟩) n n] zs ∧ Below w.heap.size w w' :=
  (toIntS_any a n c zs w hz hn ha).mono fun _ _ ⟨h1, h2, h3⟩ => ⟨_, h1, RInts.of_owns hz (by omega) h2, h3⟩
end Go.Proofs.Ytociphdhkjoofaa

/- A block of cells that a function holds: what is stored, what stays. -/
namespace Go.Proofs.Ytociphdhkjoofaa
open Go.RowKit

theorem blk_set {w : World} {g : Nat} {cs : Array Value} {t : TypeId} (h : w.heap[g]? = some (.cells cs t (0, 0))) (k : Nat) (v : Value) : (w.setCell ⟨g, k, none⟩ v).heap[g]? = some (.cells (cs.setIfInBounds k v) t (0, 0)) := heap_setCell_same w g k cs t v h
theorem blk_cell {w : World} {g : Nat} {cs : Array Value} {t : TypeId} (h : w.heap[g]? = some (.cells cs t (0, 0))) (k : Nat) {v : Value} (hv : cs[k]? = some v) : w.cell? ⟨g, k, none⟩ = some v := by
  rw [cell_of_row w g k _ t (0, 0) h]; exact hv
theorem blk_frozen {w : World} {g : Nat} {cs : Array Value} {t : TypeId} (h : w.heap[g]? = some (.cells cs t (0, 0))) (k : Nat) : w.frozen? ⟨g, k, none⟩ = false := frozen_of_row w g k _ t h
theorem blk_below {w w' : World} {g : Nat} {o : Obj} (h : w.heap[g]? = some o) (hb : Below w.heap.size w w') : w'.heap[g]? = some o := (hb.block g (Array.getElem?_eq_some_iff.1 h).1).trans h
theorem blk_other {w : World} {g : Nat} {o : Obj} (h : w.heap[g]? = some o) {a : Addr} (ha : g ≠ a.block) (v : Value) : (w.setCell a v).heap[g]? = some o := (Below.heap_setCell w a v g ha).trans h
theorem blk_alloc {w : World} {g : Nat} {o : Obj} (h : w.heap[g]? = some o) (o' : Obj) : (w.alloc o').heap[g]? = some o := (Below.heap_alloc w o' g (Array.getElem?_eq_some_iff.1 h).1).trans h

end Go.Proofs.Ytociphdhkjoofaa

/- Contracts of the laws' helpers over queries: toAtom, toAtomS, toQuery. -/
namespace Go.Proofs.Ytociphdhkjoofaa
open Go.RowKit

theorem toAtom_any (p : Int) (a : Option Addr) (n c : Nat) (zss : List Int) (w : World) (hz : zss.length = n) (hn : n ≤ 1048576) (ha : At w a zss) :
    Calls Try.prog 55 #[.agg #[.int .i64 p, .slice a n c]] w fun e w' => ∃ g, e = .returned (.agg #[.int .i64 p, .slice (some ⟨g, 0, none⟩) n n]) ∧ RAtm.Own w' (From w.heap.size w'.heap.size) [.int .i64 p, .slice (some ⟨g, 0, none⟩) n n] (p, zss) ∧ Below w.heap.size w w' := by
  go_enter Try.func55, Try.ntmps55
  go_wp2_with fail
  refine (toInts_rep _ _ _ zss _ hz hn ?_).mono ?_
  · exact At.below ha ((((Below.refl _ _).alloc (Nat.le_refl _) _).alloc (by simp) _).alloc (by simp; omega) _)
  · rintro e w' ⟨g, rfl, hown, hb⟩
    obtain ⟨hc, hf⟩ := bcell hb
    have hz' : w.heap.size + 2 < w'.heap.size := by have := hb.size; simp at this; omega
    simp only [World.size_alloc] at hc hf hown
    go_wp2
    have dj : ∀ b, From (w.heap.size + 1 + 1 + 1) w'.heap.size b → ¬ From 0 (w.heap.size + 3) b := fun b h k => by have := h.1; have := k.2; omega
    have ho := RInts.ownOff (RInts.ownOff (RInts.ownOff hown (Off.set (F := From 0 (w.heap.size + 3)) (a := ⟨w.heap.size + 1 + 1, 1, none⟩) ⟨by simp, by simp⟩ (.slice (some ⟨g, 0, none⟩) n n)) dj) (Off.set (F := From 0 (w.heap.size + 3)) (a := ⟨w.heap.size + 1, 0, none⟩) ⟨by simp, by simp⟩ (.int .i64 p)) dj) (Off.set (F := From 0 (w.heap.size + 3)) (a := ⟨w.heap.size + 1, 1, none⟩) ⟨by simp, by simp⟩ (.slice (some ⟨g, 0, none⟩) n n)) dj
    refine bodyPost_ret (v := .agg #[.int .i64 p, .slice (some ⟨g, 0, none⟩) n n]) (by simp [results, Try.results55, go_sem, hc]) rfl ⟨_, rfl, RAtm.own_mk (RInts.mono ho fun b h => ⟨by have := h.1; omega, by have := h.2; simp only [World.setCell, Array.size_modify]; exact this⟩), ?_⟩
    exact (((((((Below.refl _ _).alloc (Nat.le_refl _) _).alloc (by simp) _).alloc (by simp; omega) _).trans (hb.mono (by simp; omega))).setCell (by simp; omega) _).setCell (by simp) _).setCell (by simp) _

theorem Try.infoAtom : (Try.prog.info? 58).map (fun i => (i.zero, i.size, i.bytes)) = some (some (.agg #[.int .i64 0, .slice none 0 0]), 2, 32) := by kernel_rfl

set_option maxRecDepth 100000 in
set_option maxHeartbeats 4000000 in
theorem toAtomS_any (a : Option Addr) (n c : Nat) (xs : List Atm) (w : World) (hz : xs.length = n) (hn : n ≤ 1048576) (hs : ∀ (i : Nat) (x : Atm), xs[i]? = some x → x.2.length ≤ 1048576) (ha : AtQ w a xs) :
    Calls Try.prog 33 #[.slice a n c] w fun e w' => ∃ g, e = .returned (.slice (some ⟨g, 0, none⟩) n n) ∧ RAtms.Own w' (From w.heap.size w'.heap.size) [.slice (some ⟨g, 0, none⟩) n n] xs ∧ Below w.heap.size w w' := by
  obtain ⟨i0, hi, hz0, hz1, hz2⟩ := info_parts Try.infoAtom
  go_enter Try.func33, Try.ntmps33
  go_wp2_with (at_make; refine wpList_make_full _ rfl _ _ 27 rfl w.heap.size 58 i0 (.agg #[.int .i64 0, .slice none 0 0]) 2 Try.underlying27 hi hz0 hz1 .i64 .i64 _ _ n rfl rfl rfl rfl (by rw [hz2]; omega) (by unfold maxLen; omega) (Nat.le_refl _) ?_; intro w1 hown hg)
  have hb1 : Below w.heap.size w w1 := (Below.refl _ _).grown hg (Nat.le_refl _) (by simp)
  have hlt1 := (hown.lt w.heap.size rfl).2
  obtain ⟨cs, hcs⟩ : ∃ cs, cs = (madeCells (Value.agg #[.int .i64 0, .slice none 0 0]).cells (n * 2)).toList := ⟨_, rfl⟩
  rw [← hcs] at hown
  have hst : Laid RAtm w1 (From w.heap.size w1.heap.size) 58 (some ⟨w.heap.size, 0, none⟩) n n xs cs (fun _ _ => False) 0 := Laid.start hz (by omega) (owns_mono hown (Nat.zero_le _)) (fun b hb => hown.lt b hb) _
  clear hcs hown hg
  go_loopw [4] (fun i wr => ∃ (k : Nat) (cells : List Value) (G : Nat → Nat → Prop), k ≤ n ∧ i = .int .i64 k ∧ Laid RAtm wr (From w.heap.size wr.heap.size) 58 (some ⟨w.heap.size, 0, none⟩) n n xs cells G k ∧ w.heap.size < wr.heap.size ∧ Below w.heap.size w wr) (fun i _ => n - (intOf i).toNat)
  case atStart => exact ⟨0, cs, _, Nat.zero_le _, rfl, hst, hlt1, hb1⟩
  case round =>
    clear hst hb1 hlt1 cs
    obtain ⟨k, cells, G, hk, rfl, ho, hzr, hbw⟩ := hrel
    by_cases hlt : k < n
    · obtain ⟨b, off, rfl, _, hc⟩ := AtQ.row (AtSl.below ha hbw) (by omega)
      obtain ⟨x, hx⟩ : ∃ x, xs[k]? = some x := ⟨_, List.getElem?_eq_getElem (by omega)⟩
      obtain ⟨ta, tn, tc, g0, g1, u1, u2, u3, _⟩ := hc k x hx
      have hsm := hs k x hx
      have hki : (k : Int) < (n : Int) := by omega
      have HO := Hid.mk ho
      have HX := Hid.mk hx
      have HC := Hid.mk (toAtom_any x.1 ta tn tc x.2 wr u1 (by omega) u3)
      clear hc ha ho hs hx u1 u3 hsm
      go_wp2_with fail
      refine HC.out.mono ?_
      rintro e w2 ⟨h2, rfl, ho2, hb2⟩
      obtain ⟨g, hgg⟩ : ∃ g, g = w.heap.size := ⟨_, rfl⟩
      have hput := HO.out.put hlt (fun b hb => hb.2) hb2 HX.out ho2 (fun b hb => hb.1)
      have z2 := hb2.size
      have hput2 := hput.mono (F' := From w.heap.size w2.heap.size) (fun b hb => by rcases hb with hb | hb; exact ⟨hb.1, by have := hb.2; omega⟩; exact ⟨by have := hb.1; omega, hb.2⟩)
      have HP : Hid (Laid RAtm ((w2.setCell ⟨w.heap.size, k * 2, none⟩ (.int .i64 x.1)).setCell ⟨w.heap.size, k * 2 + 1, none⟩ (.slice (some ⟨h2, 0, none⟩) tn tn)) (From w.heap.size w2.heap.size) 58 (some ⟨w.heap.size, 0, none⟩) n n xs _ _ (k + 1)) := hput2
      have hout := (HO.out.below hb2).outer
      have hln := hout.1
      have hln : cells.length = n * 2 := hln
      obtain ⟨u0, hu0⟩ : ∃ u, cells[k * 2]? = some u := ⟨_, List.getElem?_eq_getElem (by omega)⟩
      have q0 : w2.cell? ⟨w.heap.size, k * 2, none⟩ = some u0 := (hout.cellAt _ (show k * 2 < n * 2 by omega)).trans hu0
      have f0 : w2.frozen? ⟨w.heap.size, k * 2, none⟩ = false := hout.frozenAt _
      clear hu0
      obtain ⟨u1, hu1⟩ : ∃ u, cells[k * 2 + 1]? = some u := ⟨_, List.getElem?_eq_getElem (by omega)⟩
      have q1 : w2.cell? ⟨w.heap.size, k * 2 + 1, none⟩ = some u1 := (hout.cellAt _ (show k * 2 + 1 < n * 2 by omega)).trans hu1
      have f1 : w2.frozen? ⟨w.heap.size, k * 2 + 1, none⟩ = false := hout.frozenAt _
      clear hu1
      have HB : Hid (Below w.heap.size w ((w2.setCell ⟨w.heap.size, k * 2, none⟩ (.int .i64 x.1)).setCell ⟨w.heap.size, k * 2 + 1, none⟩ (.slice (some ⟨h2, 0, none⟩) tn tn))) := (((hbw.trans (hb2.mono hbw.size)).setCell (Nat.le_refl _) _).setCell (Nat.le_refl _) _)
      clear hput hput2 hout hln hb2 hbw ho2 g0 g1 hgg
      go_wp2
      go_roundw
      case rel => exact ⟨k + 1, _, _, by omega, by go_num, by simpa only [World.setCell, Array.size_modify] using HP.out, by simp [World.setCell]; omega, HB.out⟩
      case measure => simp [intOf]; omega
    · obtain rfl : k = n := by omega
      go_wp2
      go_ret
      exact ⟨_, rfl, ⟨_, _, _, _, _, rfl, ho⟩, hbw⟩

set_option maxRecDepth 100000 in
set_option maxHeartbeats 2000000 in
theorem toQuery_any (sa : Option Addr) (sn sc : Nat) (pa : Option Addr) (pn pc : Nat) (ss : List Int) (xs : List Atm) (w : World) (hsz : ss.length = sn) (hz : xs.length = pn) (hsn : sn ≤ 1048576) (hpn : pn ≤ 1048576) (hsm : ∀ (i : Nat) (x : Atm), xs[i]? = some x → x.2.length ≤ 1048576) (hsa : At w sa ss) (ha : AtQ w pa xs) :
    Calls Try.prog 8 #[.agg #[.slice sa sn sc, .slice pa pn pc]] w fun e w' => ∃ g1 g2, e = .returned (.agg #[.slice (some ⟨g1, 0, none⟩) sn sn, .slice (some ⟨g2, 0, none⟩) pn pn]) ∧
      RQry.Own w' (From w.heap.size w'.heap.size) [.slice (some ⟨g1, 0, none⟩) sn sn, .slice (some ⟨g2, 0, none⟩) pn pn] (ss, xs) ∧ Below w.heap.size w w' := by
  obtain ⟨W, hW⟩ : ∃ W, W = (((w.alloc (.cells #[.slice sa sn sc, .slice pa pn pc] 25)).alloc (.cells #[.slice none 0 0, .slice none 0 0] 29)).alloc (.cells #[.slice none 0 0, .slice none 0 0] 29)) := ⟨_, rfl⟩
  have B0 : Below w.heap.size w W := by rw [hW]; exact ((((Below.refl _ _).alloc (Nat.le_refl _) _).alloc (by simp) _).alloc (by simp; omega) _)
  have zW : w.heap.size + 2 < W.heap.size := by rw [hW]; simp
  have b2 : W.heap[w.heap.size + 1 + 1]? = some (.cells #[.slice none 0 0, .slice none 0 0] 29 (0, 0)) := by
    rw [hW]
    have q := heap_alloc_new ((w.alloc (.cells #[.slice sa sn sc, .slice pa pn pc] 25)).alloc (.cells #[.slice none 0 0, .slice none 0 0] 29)) (.cells #[.slice none 0 0, .slice none 0 0] 29)
    simpa only [World.size_alloc] using q
  have b1 : W.heap[w.heap.size + 1]? = some (.cells #[.slice none 0 0, .slice none 0 0] 29 (0, 0)) := by
    rw [hW]
    refine blk_alloc ?_ _
    have q := heap_alloc_new (w.alloc (.cells #[.slice sa sn sc, .slice pa pn pc] 25)) (.cells #[.slice none 0 0, .slice none 0 0] 29)
    simpa only [World.size_alloc] using q
  have b0 : W.heap[w.heap.size]? = some (.cells #[.slice sa sn sc, .slice pa pn pc] 25 (0, 0)) := by
    rw [hW]
    exact blk_alloc (blk_alloc (heap_alloc_new w _) _) _
  have U3 := Hid.mk hsa
  have V3 := Hid.mk ha
  have HSM := Hid.mk hsm
  have HU1 := Hid.mk hsz
  have HV1 := Hid.mk hz
  clear hsa ha hsz hz hsm
  go_enter Try.func8, Try.ntmps8
  go_wp2_with fail
  rw [← hW]
  clear hW
  refine (toInts_rep sa sn sc ss W HU1.out hsn (At.below U3.out B0)).mono ?_
  rintro e w1 ⟨g1, rfl, o1, hb1⟩
  have k2 := blk_below b2 hb1
  have k1 := blk_below b1 hb1
  have k0 := blk_below b0 hb1
  clear b2 b1 b0
  have z1 := hb1.size
  have B1 : Below w.heap.size w w1 := B0.trans (hb1.mono (by omega))
  have q := blk_cell k2 0 (v := .slice none 0 0) rfl
  have f := blk_frozen k2 0
  have r := blk_cell k0 1 (v := .slice pa pn pc) rfl
  obtain ⟨X1, hX1⟩ : ∃ u, u = w1.setCell ⟨w.heap.size + 1 + 1, 0, none⟩ (.slice (some ⟨g1, 0, none⟩) sn sn) := ⟨_, rfl⟩
  have y1 : w1.heap.size ≤ X1.heap.size := by rw [hX1]; simp [World.setCell]
  have b2 : X1.heap[w.heap.size + 1 + 1]? = some (.cells #[.slice (some ⟨g1, 0, none⟩) sn sn, .slice none 0 0] 29 (0, 0)) := by rw [hX1]; exact blk_set k2 0 _
  have b1 : X1.heap[w.heap.size + 1]? = some (.cells #[.slice none 0 0, .slice none 0 0] 29 (0, 0)) := by rw [hX1]; exact blk_other k1 (by simp) _
  have C1 : Below w.heap.size w X1 := by rw [hX1]; exact B1.setCell (by simp; omega) _
  have S1 : Hid (Off (From w.heap.size (w.heap.size + 3)) w1 X1) := by rw [hX1]; exact Off.set ⟨by simp; omega, by simp⟩ _
  have O1 : Hid (RInts.Own X1 (From W.heap.size w1.heap.size) [.slice (some ⟨g1, 0, none⟩) sn sn] ss) := RInts.ownOff o1 S1.out (fun b h k => by have := h.1; have := k.2; omega)
  clear o1 hb1 S1 k2 k1 k0
  go_wp2_with fail
  rw [← hX1]
  clear hX1 q f r
  refine (toAtomS_any pa pn pc xs X1 HV1.out hpn HSM.out (AtSl.below V3.out C1)).mono ?_
  rintro e w2 ⟨g2, rfl, o2, hb2⟩
  have k2 := blk_below b2 hb2
  have k1 := blk_below b1 hb2
  clear b2 b1
  have z2 := hb2.size
  have B2 : Below w.heap.size w w2 := C1.trans (hb2.mono (by omega))
  have q := blk_cell k2 1 (v := .slice none 0 0) rfl
  have f := blk_frozen k2 1
  obtain ⟨X2, hX2⟩ : ∃ u, u = w2.setCell ⟨w.heap.size + 1 + 1, 1, none⟩ (.slice (some ⟨g2, 0, none⟩) pn pn) := ⟨_, rfl⟩
  have y2 : w2.heap.size ≤ X2.heap.size := by rw [hX2]; simp [World.setCell]
  have b2 : X2.heap[w.heap.size + 1 + 1]? = some (.cells #[.slice (some ⟨g1, 0, none⟩) sn sn, .slice (some ⟨g2, 0, none⟩) pn pn] 29 (0, 0)) := by rw [hX2]; exact blk_set k2 1 _
  have b1 : X2.heap[w.heap.size + 1]? = some (.cells #[.slice none 0 0, .slice none 0 0] 29 (0, 0)) := by rw [hX2]; exact blk_other k1 (by simp) _
  have C2 : Below w.heap.size w X2 := by rw [hX2]; exact B2.setCell (by simp; omega) _
  have S2 : Hid (Off (From w.heap.size (w.heap.size + 3)) w2 X2) := by rw [hX2]; exact Off.set ⟨by simp; omega, by simp⟩ _
  have O2 : Hid (RInts.Own X2 (From W.heap.size w1.heap.size) [.slice (some ⟨g1, 0, none⟩) sn sn] ss) := RInts.ownOff (RInts.ownBelow O1.out hb2) S2.out (fun b h k => by have := h.1; have := k.2; omega)
  have Q2 : Hid (RAtms.Own X2 (From X1.heap.size w2.heap.size) [.slice (some ⟨g2, 0, none⟩) pn pn] xs) := RAtms.ownOff o2 S2.out (fun b h k => by have := h.1; have := k.2; omega)
  clear o2 hb2 S2 O1 k2 k1
  go_upto_region 4 with fail
  rw [← hX2]
  clear hX2 q f
  have u0 := blk_cell b2 0 (v := .slice (some ⟨g1, 0, none⟩) sn sn) rfl
  have u1 := blk_cell b2 1 (v := .slice (some ⟨g2, 0, none⟩) pn pn) rfl
  have p0 := blk_cell b1 0 (v := .slice none 0 0) rfl
  have p1 := blk_cell b1 1 (v := .slice none 0 0) rfl
  have f0 := blk_frozen b1 0
  have f1 := blk_frozen b1 1
  obtain ⟨Y, hY⟩ : ∃ u, u = stores X2 (w.heap.size + 1) 0 [.slice (some ⟨g1, 0, none⟩) sn sn, .slice (some ⟨g2, 0, none⟩) pn pn] := ⟨_, rfl⟩
  have D : Below w.heap.size w Y := by rw [hY]; exact stores_below _ _ _ _ C2 (by omega)
  have S : Off (From w.heap.size (w.heap.size + 3)) X2 Y := by rw [hY]; exact stores_off _ _ _ _ ⟨by omega, by omega⟩
  have zY : Y.heap.size = X2.heap.size := by rw [hY]; exact stores_size _ _ _ _
  have R : Hid (RQry.Own Y (From w.heap.size Y.heap.size) [.slice (some ⟨g1, 0, none⟩) sn sn, .slice (some ⟨g2, 0, none⟩) pn pn] (ss, xs)) :=
    ⟨[_], [_], _, _, rfl, RInts.ownOff O2.out S (fun b h k => by have := h.1; have := k.2; omega), RAtms.ownOff Q2.out S (fun b h k => by have := h.1; have := k.2; omega), fun b h => ⟨by have := h.1; omega, by have := h.2; omega⟩, fun b h => ⟨by have := h.1; omega, by have := h.2; omega⟩, fun b h k => by have := h.2; have := k.1; omega⟩
  have HY := Hid.mk hY
  have HD := Hid.mk D
  clear S D O2 Q2 hY zY b1 b2 C2
  go_wp2
  refine bodyPost_ret (v := .agg #[.slice (some ⟨g1, 0, none⟩) sn sn, .slice (some ⟨g2, 0, none⟩) pn pn]) (by simp [results, Try.results8, go_sem, p0, p1]) rfl ⟨g1, g2, rfl, ?_, ?_⟩
  · have h := R.out
    rw [HY.out] at h
    exact h
  · have h := HD.out
    rw [HY.out] at h
    exact h

end Go.Proofs.Ytociphdhkjoofaa

/- Slices of numbers that are alike are held equal. -/
namespace Go.Proofs.Ytociphdhkjoofaa
open Go.RowKit

theorem eqIntS_same (a a' : Option Addr) (n c c' : Nat) (zs : List Int) (w : World) (hz : zs.length = n) (hn : n ≤ 1048576) (ha : At w a zs) (ha' : At w a' zs) :
    Calls Try.prog 12 #[.slice a n c, .slice a' n c'] w fun e w' => e = .returned (.bool true) ∧ Below w.heap.size w w' :=
  (eqIntS_any a a' n n c c' zs zs w hz hz hn hn ha ha').mono fun _ _ ⟨h1, h2⟩ => ⟨by rw [h1, decide_eq_true rfl], h2⟩
end Go.Proofs.Ytociphdhkjoofaa

/- Contracts of the laws' helpers over queries that are alike: eqAtom, eqAtomS, eqQuery. -/
namespace Go.Proofs.Ytociphdhkjoofaa
open Go.RowKit

theorem eqAtom_same (p : Int) (a a' : Option Addr) (n c c' : Nat) (zss : List Int) (w : World) (hz : zss.length = n) (hn : n ≤ 1048576) (ha : At w a zss) (ha' : At w a' zss) :
    Calls Try.prog 62 #[.agg #[.int .i64 p, .slice a n c], .agg #[.int .i64 p, .slice a' n c']] w fun e w' => e = .returned (.bool true) ∧ Below w.heap.size w w' := by
  obtain ⟨W, hW⟩ : ∃ W, W = (w.alloc (.cells #[.int .i64 p, .slice a n c] 58)).alloc (.cells #[.int .i64 p, .slice a' n c'] 58) := ⟨_, rfl⟩
  have B : Below w.heap.size w W := by rw [hW]; exact ((Below.refl _ _).alloc (Nat.le_refl _) _).alloc (by simp) _
  have HA := Hid.mk (ha.below B)
  have HA' := Hid.mk (ha'.below B)
  clear ha ha'
  go_enter Try.func62, Try.ntmps62
  go_wp2_with fail
  rw [← hW]
  clear hW
  refine (eqIntS_same _ _ _ _ _ zss _ hz hn HA.out HA'.out).mono ?_
  rintro e w1 ⟨rfl, hb⟩
  go_wp2
  go_ret
  exact ⟨rfl, B.trans (hb.mono B.size)⟩

set_option maxRecDepth 100000 in
set_option maxHeartbeats 4000000 in
theorem eqAtomS_same (a a' : Option Addr) (n c c' : Nat) (xs : List Atm) (w : World) (hz : xs.length = n) (hn : n ≤ 1048576) (hs : ∀ (i : Nat) (x : Atm), xs[i]? = some x → x.2.length ≤ 1048576) (ha : AtQ w a xs) (ha' : AtQ w a' xs) :
    Calls Try.prog 38 #[.slice a n c, .slice a' n c'] w fun e w' => e = .returned (.bool true) ∧ Below w.heap.size w w' := by
  by_cases h0 : n = 0
  · subst h0
    go_enter Try.func38, Try.ntmps38
    go_wp2
    refine wp_loop_rounds 1 ?_
    rw [rounds_succ]
    go_wp2
    go_ret
    exact ⟨rfl, Below.refl _ _⟩
  · go_enter Try.func38, Try.ntmps38
    go_wp2
    go_loopw [5] (fun i wr => ∃ (k : Nat), k ≤ n ∧ i = .int .i64 k ∧ Below w.heap.size w wr) (fun i _ => n - (intOf i).toNat)
    case atStart => exact ⟨0, Nat.zero_le _, rfl, Below.refl _ _⟩
    case round =>
      obtain ⟨k, hk, rfl, hbw⟩ := hrel
      by_cases hlt : k < n
      · obtain ⟨b, off, rfl, _, hc⟩ := AtQ.row (AtSl.below ha hbw) (by omega)
        obtain ⟨b', off', rfl, _, hc'⟩ := AtQ.row (AtSl.below ha' hbw) (by omega)
        obtain ⟨x, hx⟩ : ∃ x, xs[k]? = some x := ⟨_, List.getElem?_eq_getElem (by omega)⟩
        obtain ⟨ta, tn, tc, g0, g1, u1, u2, u3, _⟩ := hc k x hx
        obtain ⟨ta', tn', tc', h0, h1, u1', _, u3', _⟩ := hc' k x hx
        obtain rfl : tn = tn' := u1.symm.trans u1'
        have hsm := hs k x hx
        have hki : (k : Int) < (n : Int) := by omega
        have HE : Hid (∀ w' : World, Below wr.heap.size wr w' → Calls Try.prog 62 #[.agg #[.int .i64 x.1, .slice ta tn tc], .agg #[.int .i64 x.1, .slice ta' tn tc']] w' fun e w'' => e = .returned (.bool true) ∧ Below w'.heap.size w' w'') :=
          fun w' hw' => eqAtom_same x.1 ta ta' tn tc tc' x.2 w' u1 (by omega) (At.below u3 hw') (At.below u3' hw')
        clear hc hc' ha ha' hs hsm hx u1 u3 u1' u3'
        go_wp2_with fail
        go_region_held3 (fun w' => w'.cell? ⟨b, off + k * 2, none⟩ = some (.int .i64 x.1) ∧ w'.cell? ⟨b, off + k * 2 + 1, none⟩ = some (.slice ta tn tc) ∧ w'.cell? ⟨b', off' + k * 2, none⟩ = some (.int .i64 x.1) ∧ w'.cell? ⟨b', off' + k * 2 + 1, none⟩ = some (.slice ta' tn tc')) (refine ⟨?_, ?_, ?_, ?_⟩ <;> assumption)
          (first | (go_at_call 62; refine (HE.out wr.drew (Below.refl _ _).drew).mono ?_; rintro e w2 ⟨rfl, hb2⟩; have e0 := cell_later hb2 g0; have e1 := cell_later hb2 g1; have d0 := cell_later hb2 h0; have d1 := cell_later hb2 h1) | fail)
        go_wp2
        go_roundw
        case rel => exact ⟨k + 1, by omega, by go_num, hbw.drew.trans (hb2.mono hbw.size)⟩
        case measure => simp [intOf]; omega
      · go_wp2
        go_ret
        exact ⟨rfl, hbw⟩

set_option maxRecDepth 100000 in
set_option maxHeartbeats 2000000 in
theorem eqQuery_same (sa sa' : Option Addr) (sn sc sc' : Nat) (pa pa' : Option Addr) (pn pc pc' : Nat) (ss : List Int) (xs : List Atm) (w : World) (hsz : ss.length = sn) (hz : xs.length = pn) (hsn : sn ≤ 1048576) (hpn : pn ≤ 1048576) (hsm : ∀ (i : Nat) (x : Atm), xs[i]? = some x → x.2.length ≤ 1048576) (hsa : At w sa ss) (ha : AtQ w pa xs) (hsa' : At w sa' ss) (ha' : AtQ w pa' xs) :
    Calls Try.prog 11 #[.agg #[.slice sa sn sc, .slice pa pn pc], .agg #[.slice sa' sn sc', .slice pa' pn pc']] w fun e w' => e = .returned (.bool true) ∧ Below w.heap.size w w' := by
  obtain ⟨W, hW⟩ : ∃ W, W = ((w.alloc (.cells #[.slice sa sn sc, .slice pa pn pc] 29)).alloc (.cells #[.slice sa' sn sc', .slice pa' pn pc'] 29)) := ⟨_, rfl⟩
  have B0 : Below w.heap.size w W := by rw [hW]; exact (((Below.refl _ _).alloc (Nat.le_refl _) _).alloc (by simp) _)
  have q0 : W.cell? ⟨w.heap.size, 1, none⟩ = some (.slice pa pn pc) := by rw [hW]; simp
  have q1 : W.cell? ⟨w.heap.size + 1, 1, none⟩ = some (.slice pa' pn pc') := by rw [hW]; simp
  have U3 := Hid.mk (And.intro hsa hsa')
  have V3 := Hid.mk (And.intro ha ha')
  have HU1 := Hid.mk hsz
  have HSM := Hid.mk hsm
  have HV1 := Hid.mk hz
  clear hsa ha hsa' ha' hsz hz hsm
  go_enter Try.func11, Try.ntmps11
  go_wp2_with fail
  rw [← hW]
  clear hW
  refine (eqIntS_same sa sa' sn sc sc' ss W HU1.out hsn (At.below U3.out.1 B0) (At.below U3.out.2 B0)).mono ?_
  rintro e w1 ⟨rfl, hb1⟩
  have B1 := B0.trans (hb1.mono B0.size)
  have q0 := cell_later hb1 q0
  have q1 := cell_later hb1 q1
  clear hb1 B0
  go_wp2_with fail
  refine (eqAtomS_same pa pa' pn pc pc' xs w1 HV1.out hpn HSM.out (AtSl.below V3.out.1 B1) (AtSl.below V3.out.2 B1)).mono ?_
  rintro e w2 ⟨rfl, hb2⟩
  go_wp2
  go_ret
  exact ⟨rfl, B1.trans (hb2.mono B1.size)⟩

end Go.Proofs.Ytociphdhkjoofaa

/- Slices of numbers, marked, as things that are owned. -/
namespace Go.Proofs.Ytociphdhkjoofaa
open Go.RowKit

theorem markInts_rep (F : Nat → Prop) (a : Option Addr) (n c : Nat) (zs : List Int) (m : Int) (w : World) (hn : n ≤ 1048576) (h0 : 0 ≤ m) (h1 : m ≤ 268435456) (ho : RInts.Own w F [.slice a n c] zs) :
    Calls Try.prog 14 #[.slice a n c, .int .i64 m] w fun e w' => e = .returned (.int .i64 (m + n)) ∧ RInts.Own w' F [.slice a n c] (mkInts m zs) ∧ Off F w w' := by
  obtain ⟨h2, h3, h4, h5⟩ := RInts.own_iff.1 ho
  refine (markIntS_any 0 a n c _ m w hn h0 (by omega) h4).mono fun e w' ⟨e1, e2, e3⟩ => ⟨e1, RInts.own_iff.2 ⟨by unfold mkInts; rw [marks_length, h2], h3, by unfold mkInts; rw [h2]; exact e2, h5⟩, Off.grown e3 h5⟩
end Go.Proofs.Ytociphdhkjoofaa
