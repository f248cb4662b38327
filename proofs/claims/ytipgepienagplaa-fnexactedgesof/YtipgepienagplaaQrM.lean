/- Contracts of the laws' markAtomS, markQuery over things that are owned. -/
import Derived.Test.YtipgepienagplaaQrE
import Derived.Test.YtipgepienagplaaIntM
namespace Go.Proofs.Ytipgepienagplaa
open Go.RowKit

def mkAtm (m : Int) (x : Atm) : Atm := (m, mkInts (m + 1) x.2)
def mkAtms (m : Int) (xs : List Atm) : List Atm := mkL mkAtm amk m xs
def qmk (x : Qry) : Nat := x.1.length + msum x.2 x.2.length
theorem qry_small {hs : List Int} {xs : List Atm} {hn n : Nat} (h1 : hs.length = hn) (h2 : xs.length = n) (h : qcost (hs, xs) ≤ 1048576) : hn ≤ 1048576 ∧ SmA xs n ∧ qmk (hs, xs) ≤ 1048576 := by
  have hm := msum_eq xs xs.length (Nat.le_refl _)
  unfold qcost at h
  unfold qmk
  simp only at h ⊢
  subst h1 h2
  refine ⟨by omega, ⟨rfl, by omega⟩, by rw [hm]; omega⟩
def mkQry (m : Int) (x : Qry) : Qry := (mkInts m x.1, mkAtms (m + x.1.length) x.2)

set_option maxRecDepth 100000 in
set_option maxHeartbeats 4000000 in
theorem markAtomS_rep (F : Nat → Prop) (a : Option Addr) (n c : Nat) (xs : List Atm) (m : Int) (w : World) (hn : n ≤ 1048576) (ht : msum xs n ≤ 1048576) (h0 : 0 ≤ m) (h1 : m ≤ 134217728) (ho : RAtms.Own w F [.slice a n c] xs) :
    Calls Try.prog 61 #[.slice a n c, .int .i64 m] w fun e w' => e = .returned (.int .i64 (m + msum xs n)) ∧ RAtms.Own w' F [.slice a n c] (mkAtms m xs) ∧ Off F w w' := by
  obtain ⟨a', n', c', cells, G, he, hl⟩ := ho
  simp only [List.cons.injEq, Value.slice.injEq, and_true] at he
  obtain ⟨rfl, rfl, rfl⟩ := he
  go_enter Try.func61, Try.ntmps61
  go_wp2
  go_loopw [1, 5] (fun q i wr => ∃ (k : Nat) (cells : List Value), k ≤ n ∧ i = .int .i64 k ∧ q = .int .i64 (m + msum xs k) ∧ Laid RAtm wr F 81 a n c (mkTo mkAtm amk m xs k) cells G n ∧ Off F w wr) (fun _ i _ => n - (intOf i).toNat)
  case atStart => exact ⟨0, cells, Nat.zero_le _, rfl, by simp [msum_zero], by rw [mkTo_zero]; exact hl, Off.refl _ _⟩
  case round =>
    have hzl := hl.len
    clear hl cells
    obtain ⟨k, cells, hk, rfl, rfl, hl, hof⟩ := hrel
    by_cases hlt : k < n
    · obtain ⟨x, hx⟩ : ∃ x, xs[k]? = some x := ⟨_, List.getElem?_eq_getElem (by omega)⟩
      have hrow := hl.row k x hlt (mkTo_next _ _ hx)
      obtain ⟨ta, tn, tc, hcs, r1⟩ := RAtm.own_open hrow
      rcases hl.outer.2 with ⟨_, h00⟩ | ⟨g, cap, cur, hv, _⟩
      · omega
      simp only [Value.slice.injEq, true_and] at hv
      obtain ⟨rfl, rfl⟩ := hv
      have hcl : cells.length = n * 2 := hl.outer.1
      have hcs2 : sub cells (k * 2) 2 = [.int .i64 x.1, .slice ta tn tc] := hcs
      have c1 : cells[k * 2 + 1]? = some (.slice ta tn tc) := by
        have h9 := sub_at (cells := cells) (o := k * 2) (k := 2) (j := 1) (by omega)
        rw [hcs2] at h9
        simpa using h9.symm
      have ht1 : x.2.length = tn := (RInts.own_iff.1 r1).1
      have hts := msum_succ hx
      have htm := msum_mono xs (k + 1) n (by omega)
      have hps : amk x = 1 + tn := by unfold amk; rw [ht1]
      have hgG : ¬ G k g := fun h => (hl.rowF k g hlt h).2 rfl
      have HL := Hid.mk hl
      have HO := Hid.mk hof
      have HX := Hid.mk hx
      obtain ⟨T, hT⟩ : ∃ T, msum xs k = T := ⟨_, rfl⟩
      have HT := Hid.mk hT
      rw [hps] at hts
      rw [hT] at hts ⊢
      have hs1 : tn ≤ 1048576 := by omega
      have HTS := Hid.mk hts
      have HC2 := Hid.mk hcs2
      have hki : (k : Int) < (n : Int) := by omega
      obtain ⟨M, hM⟩ : ∃ M : Int, M = m + T := ⟨_, rfl⟩
      have hM0 : 0 ≤ M := by omega
      have hM1 : M ≤ 140000000 := by omega
      have HM := Hid.mk hM
      rw [← hM]
      have q0 : wr.cell? ⟨g, k * 2, none⟩ = some (.int .i64 x.1) := by
        rw [hl.outer.cellAt _ (show k * 2 < n * 2 by omega)]
        have h9 := sub_at (cells := cells) (o := k * 2) (k := 2) (j := 0) (by omega)
        rw [hcs2] at h9
        simpa using h9.symm
      have f0 : wr.frozen? ⟨g, k * 2, none⟩ = false := HL.out.outer.frozenAt _
      have q1 : wr.cell? ⟨g, k * 2 + 1, none⟩ = some (.slice ta tn tc) := (HL.out.outer.cellAt _ (show k * 2 + 1 < n * 2 by omega)).trans c1
      obtain ⟨X, hX⟩ : ∃ u, u = wr.setCell ⟨g, k * 2, none⟩ (.int .i64 M) := ⟨_, rfl⟩
      have hXs : X = stores wr g (k * 2) [.int .i64 M] := hX
      have oX : X.ownsRow 0 81 2 (.slice (some ⟨g, 0, none⟩) n c) n (sets cells (k * 2) [.int .i64 M]) := by rw [hXs]; exact owns_stores HL.out.outer _ _
      have fX : Off (fun b => b = g) wr X := by rw [hXs]; exact stores_off (F := fun b => b = g) _ _ _ _ rfl
      have R1 : Hid (RInts.Own X (G k) [.slice ta tn tc] x.2) := RInts.ownOff r1 fX (fun b hb e => hgG (e ▸ hb))
      have cX : (sets cells (k * 2) [.int .i64 M])[k * 2 + 1]? = some (.slice ta tn tc) := (sets_far _ _ _ _ (by simp only [List.length_cons, List.length_nil]; omega)).trans c1
      have x1 : X.cell? ⟨g, k * 2 + 1, none⟩ = some (.slice ta tn tc) := (oX.cellAt _ (show k * 2 + 1 < n * 2 by omega)).trans cX
      have HSB : Hid (sub (sets cells (k * 2) [.int .i64 M]) (k * 2) 2 = [.int .i64 M, .slice ta tn tc]) := by
        apply List.ext_getElem?
        intro j
        match j with
        | 0 =>
          rw [sub_at (by omega)]
          have := sets_in cells (k * 2) [.int .i64 M] 0 (by simp) (by simp; omega)
          simpa using this
        | 1 => rw [sub_at (by omega), cX]; rfl
        | j + 2 => rw [List.getElem?_eq_none (by simp [sub]; omega)]; simp
      have HOX := Hid.mk oX
      have HFX := Hid.mk fX
      have HGG := Hid.mk hgG
      clear hl hrow hof hx hT hts hps hcs2 hcs hM ht1 hXs oX fX r1 hgG htm hcl c1 cX ht
      go_wp2_with fail
      rw [← hX]
      clear hX q0 q1 f0
      refine (markInts_rep (G k) ta tn tc x.2 (M + 1) X hs1 (by omega) (by omega) R1.out).mono ?_
      rintro e w3 ⟨rfl, o3, g3⟩
      have hturn := HL.out.turn (w' := w3) (cells' := sets cells (k * 2) [.int .i64 M]) (x' := mkAtm M x) hlt
        (fun b hb hn1 hn2 => (g3.block b (Nat.lt_of_lt_of_le hb HFX.out.size) hn1).trans (HFX.out.block b hb (fun e => hn2 (by simp [Value.ownBlock, e]))))
        (ownsRow_frame HOX.out (fun b hb hlb => g3.block b hlb (fun hG => (HL.out.rowF k b hlt hG).2 hb)))
        (fun j hj => sub_sets_far _ _ _ _ _ (by have := mul_far (k := 2) hj; simp only [List.length_cons, List.length_nil]; show j * 2 + 2 ≤ k * 2 ∨ k * 2 + 1 ≤ j * 2; omega))
        (by
          show RAtm.Own w3 (G k) (sub (sets cells (k * 2) [.int .i64 M]) (k * 2) 2) (mkAtm M x)
          rw [HSB.out]
          exact RAtm.own_mk o3)
      have HLN : Hid (Laid RAtm w3 F 81 (some ⟨g, 0, none⟩) n c (mkTo mkAtm amk m xs (k + 1)) (sets cells (k * 2) [.int .i64 M]) G n) := by
        have h9 := mkTo_set mkAtm amk (m := m) HX.out
        have h8 : szL amk xs k = T := HT.out
        rw [h8, ← HM.out] at h9
        show Laid _ _ _ _ _ _ _ _ _ _ _
        rw [← h9]
        exact hturn
      have HON : Hid (Off F w w3) := HO.out.trans ((HFX.out.mono (fun b hb => by rw [hb]; exact HL.out.outerF g rfl)).trans (g3.mono (fun b hb => (HL.out.rowF k b hlt hb).1)))
      clear hturn o3 g3 x1 R1
      go_wp2
      go_roundw
      case rel => exact ⟨k + 1, _, by omega, by go_num, by rw [HTS.out, HM.out]; congr 1; push_cast; omega, HLN.out, HON.out⟩
      case measure => simp [intOf]; omega
    · obtain rfl : k = n := by omega
      have HL := Hid.mk hl
      clear hl
      go_wp2
      go_ret
      refine ⟨rfl, ⟨_, _, _, cells, G, rfl, ?_⟩, hof⟩
      have h9 := HL.out
      rw [mkTo_all _ _ _ _ hzl] at h9
      exact h9

set_option maxRecDepth 100000 in
set_option maxHeartbeats 2000000 in
theorem markQuery_rep (F : Nat → Prop) (sa : Option Addr) (sn sc : Nat) (pa : Option Addr) (pn pc : Nat) (ss : List Int) (xs : List Atm) (m : Int) (w : World) (hsn : sn ≤ 1048576) (hpn : pn ≤ 1048576) (ht : msum xs pn ≤ 1048576) (h0 : 0 ≤ m) (h1 : m ≤ 16777216) (hF : ∀ b, F b → b < w.heap.size) (ho : RQry.Own w F [.slice sa sn sc, .slice pa pn pc] (ss, xs)) :
    Calls Try.prog 18 #[.agg #[.slice sa sn sc, .slice pa pn pc], .int .i64 m] w fun e w' => e = .returned (.int .i64 (m + qmk (ss, xs))) ∧ RQry.Own w' F [.slice sa sn sc, .slice pa pn pc] (mkQry m (ss, xs)) ∧ Off F w w' := by
  obtain ⟨c1, c2, F1, F2, hcc, h2, h3, d1, d2, d12⟩ := ho
  obtain ⟨a1, n1, k1, cells1, G1, rfl, l1⟩ := h2
  obtain ⟨a2, n2, k2, cells2, G2, rfl, l2⟩ := h3
  simp only [List.cons_append, List.nil_append, List.cons.injEq, Value.slice.injEq, and_true] at hcc
  obtain ⟨⟨rfl, rfl, rfl⟩, rfl, rfl, rfl⟩ := hcc
  have r1 : RInts.Own w F1 [.slice sa sn sc] ss := ⟨_, _, _, _, _, rfl, l1⟩
  have r2 : RAtms.Own w F2 [.slice pa pn pc] xs := ⟨_, _, _, _, _, rfl, l2⟩
  have hz1 : ss.length = sn := l1.len
  have hz2 : xs.length = pn := l2.len
  have hv : qmk (ss, xs) = sn + msum xs pn := by unfold qmk; simp only; rw [hz1, hz2]
  rw [hv]
  obtain ⟨W, hW⟩ : ∃ W, W = w.alloc (.cells #[.slice sa sn sc, .slice pa pn pc] 34) := ⟨_, rfl⟩
  have B0 : Below w.heap.size w W := by rw [hW]; exact (Below.refl _ _).alloc (Nat.le_refl _) _
  have q1 : W.cell? ⟨w.heap.size, 1, none⟩ = some (.slice pa pn pc) := by rw [hW]; simp
  have R1 := Hid.mk (RInts.ownBelow r1 B0)
  have R2 := Hid.mk (RAtms.ownBelow r2 B0)
  have HD := Hid.mk (And.intro d1 (And.intro d2 d12))
  have HZ1 := Hid.mk hz1
  have HF1 : Hid (¬ F1 w.heap.size) := fun h => by have := hF _ (d1 _ h); omega
  clear l1 l2 r1 r2 d1 d2 d12 hz1 hz2 hv
  go_enter Try.func18, Try.ntmps18
  go_wp2_with fail
  rw [← hW]
  clear hW
  refine (markInts_rep F1 sa sn sc ss m W hsn h0 (by omega) R1.out).mono ?_
  rintro e w1 ⟨rfl, o1, g1⟩
  have q1 := g1.cell q1 HF1.out
  have O1 := Hid.mk o1
  have R2' := Hid.mk (RAtms.ownOff R2.out g1 (fun b hb h => HD.out.2.2 b h hb))
  have G1 := Hid.mk g1
  clear o1 g1 R1 R2
  go_wp2_with fail
  refine (markAtomS_rep F2 pa pn pc xs (m + sn) w1 hpn ht (by omega) (by omega) R2'.out).mono ?_
  rintro e w2 ⟨rfl, o2, g2⟩
  have HR : Hid (RQry.Own w2 F [.slice sa sn sc, .slice pa pn pc] (mkQry m (ss, xs))) := by
    show RQry.Own _ _ _ _
    unfold mkQry
    simp only [HZ1.out]
    exact ⟨[_], [_], F1, F2, rfl, RInts.ownOff O1.out g2 (fun b hb h => HD.out.2.2 b hb h), o2, HD.out.1, HD.out.2.1, HD.out.2.2⟩
  have HO : Hid (Off F w w2) := (Off.below B0).trans ((G1.out.mono HD.out.1).trans (g2.mono HD.out.2.1))
  clear o2 g2 O1 R2' G1 q1
  go_wp2
  go_ret
  exact ⟨ret_int (by push_cast; omega), HR.out, HO.out⟩

end Go.Proofs.Ytipgepienagplaa
