/- Several texts of one proof, in build order: QrM, DepG, DepP, ColP, RepP. -/
import Derived.Test.YtipgepienagplaaM4
import Derived.Test.YtipgepienagplaaM3
import Derived.Laws.BitsAllLaws
import Derived.Test.YtipgepienagplaaM1

/- Contracts of the laws' markAtomS, markQuery over things that are owned. -/
namespace Go.Proofs.Ytipgepienagplaa
open Go.RowKit

def mkAtm (m : Int) (x : Atm) : Atm := (m, mkInts (m + 1) x.2)
def mkAtms (m : Int) (xs : List Atm) : List Atm := mkL mkAtm amk m xs
def qmk (x : Qry) : Nat := x.1.length + msum x.2 x.2.length
theorem qry_small {hs : List Int} {xs : List Atm} {hn n : Nat} (h1 : hs.length = hn) (h2 : xs.length = n) (h : qcost (hs, xs) ≤ 1048576) : hn ≤ 1048576 ∧ SmA xs n ∧ qmk (hs, xs) ≤ 1048576 := by
  have hm := msum_eq xs xs.length (Nat.le_refl _)
  unfold qcost at h
  unfold qmk
  simp only at h ⊢
  subst h1 h2
  refine ⟨by omega, ⟨rfl, by omega⟩, by rw [hm]; omega⟩
def mkQry (m : Int) (x : Qry) : Qry := (mkInts m x.1, mkAtms (m + x.1.length) x.2)

set_option maxRecDepth 100000 in
set_option maxHeartbeats 4000000 in
theorem markAtomS_rep (F : Nat → Prop) (a : Option Addr) (n c : Nat) (xs : List Atm) (m : Int) (w : World) (hn : n ≤ 1048576) (ht : msum xs n ≤ 1048576) (h0 : 0 ≤ m) (h1 : m ≤ 134217728) (ho : RAtms.Own w F [.slice a n c] xs) :
    Calls Try.prog 61 #[.slice a n c, .int .i64 m] w fun e w' => e = .returned (.int .i64 (m + msum xs n)) ∧ RAtms.Own w' F [.slice a n c] (mkAtms m xs) ∧ Off F w w' := by
  obtain ⟨a', n', c', cells, G, he, hl⟩ := ho
  simp only [List.cons.injEq, Value.slice.injEq, and_true] at he
  obtain ⟨rfl, rfl, rfl⟩ := he
  go_enter Try.func61, Try.ntmps61
  go_wp2
  go_loopw [1, 5] (fun q i wr => ∃ (k : Nat) (cells : List Value), k ≤ n ∧ i = .int .i64 k ∧ q = .int .i64 (m + msum xs k) ∧ Laid RAtm wr F 81 a n c (mkTo mkAtm amk m xs k) cells G n ∧ Off F w wr) (fun _ i _ => n - (intOf i).toNat)
  case atStart => exact ⟨0, cells, Nat.zero_le _, rfl, by simp [msum_zero], by rw [mkTo_zero]; exact hl, Off.refl _ _⟩
  case round =>
    have hzl := hl.len
    clear hl cells
    obtain ⟨k, cells, hk, rfl, rfl, hl, hof⟩ := hrel
    by_cases hlt : k < n
    · obtain ⟨x, hx⟩ : ∃ x, xs[k]? = some x := ⟨_, List.getElem?_eq_getElem (by omega)⟩
      have hrow := hl.row k x hlt (mkTo_next _ _ hx)
      obtain ⟨ta, tn, tc, hcs, r1⟩ := RAtm.own_open hrow
      rcases hl.outer.2 with ⟨_, h00⟩ | ⟨g, cap, cur, hv, _⟩
      · omega
      simp only [Value.slice.injEq, true_and] at hv
      obtain ⟨rfl, rfl⟩ := hv
      have hcl : cells.length = n * 2 := hl.outer.1
      have hcs2 : sub cells (k * 2) 2 = [.int .i64 x.1, .slice ta tn tc] := hcs
      have c1 : cells[k * 2 + 1]? = some (.slice ta tn tc) := by
        have h9 := sub_at (cells := cells) (o := k * 2) (k := 2) (j := 1) (by omega)
        rw [hcs2] at h9
        simpa using h9.symm
      have ht1 : x.2.length = tn := (RInts.own_iff.1 r1).1
      have hts := msum_succ hx
      have htm := msum_mono xs (k + 1) n (by omega)
      have hps : amk x = 1 + tn := by unfold amk; rw [ht1]
      have hgG : ¬ G k g := fun h => (hl.rowF k g hlt h).2 rfl
      have HL := Hid.mk hl
      have HO := Hid.mk hof
      have HX := Hid.mk hx
      obtain ⟨T, hT⟩ : ∃ T, msum xs k = T := ⟨_, rfl⟩
      have HT := Hid.mk hT
      rw [hps] at hts
      rw [hT] at hts ⊢
      have hs1 : tn ≤ 1048576 := by omega
      have HTS := Hid.mk hts
      have HC2 := Hid.mk hcs2
      have hki : (k : Int) < (n : Int) := by omega
      obtain ⟨M, hM⟩ : ∃ M : Int, M = m + T := ⟨_, rfl⟩
      have hM0 : 0 ≤ M := by omega
      have hM1 : M ≤ 140000000 := by omega
      have HM := Hid.mk hM
      rw [← hM]
      have q0 : wr.cell? ⟨g, k * 2, none⟩ = some (.int .i64 x.1) := by
        rw [hl.outer.cellAt _ (show k * 2 < n * 2 by omega)]
        have h9 := sub_at (cells := cells) (o := k * 2) (k := 2) (j := 0) (by omega)
        rw [hcs2] at h9
        simpa using h9.symm
      have f0 : wr.frozen? ⟨g, k * 2, none⟩ = false := HL.out.outer.frozenAt _
      have q1 : wr.cell? ⟨g, k * 2 + 1, none⟩ = some (.slice ta tn tc) := (HL.out.outer.cellAt _ (show k * 2 + 1 < n * 2 by omega)).trans c1
      obtain ⟨X, hX⟩ : ∃ u, u = wr.setCell ⟨g, k * 2, none⟩ (.int .i64 M) := ⟨_, rfl⟩
      have hXs : X = stores wr g (k * 2) [.int .i64 M] := hX
      have oX : X.ownsRow 0 81 2 (.slice (some ⟨g, 0, none⟩) n c) n (sets cells (k * 2) [.int .i64 M]) := by rw [hXs]; exact owns_stores HL.out.outer _ _
      have fX : Off (fun b => b = g) wr X := by rw [hXs]; exact stores_off (F := fun b => b = g) _ _ _ _ rfl
      have R1 : Hid (RInts.Own X (G k) [.slice ta tn tc] x.2) := RInts.ownOff r1 fX (fun b hb e => hgG (e ▸ hb))
      have cX : (sets cells (k * 2) [.int .i64 M])[k * 2 + 1]? = some (.slice ta tn tc) := (sets_far _ _ _ _ (by simp only [List.length_cons, List.length_nil]; omega)).trans c1
      have x1 : X.cell? ⟨g, k * 2 + 1, none⟩ = some (.slice ta tn tc) := (oX.cellAt _ (show k * 2 + 1 < n * 2 by omega)).trans cX
      have HSB : Hid (sub (sets cells (k * 2) [.int .i64 M]) (k * 2) 2 = [.int .i64 M, .slice ta tn tc]) := by
        apply List.ext_getElem?
        intro j
        match j with
        | 0 =>
          rw [sub_at (by omega)]
          have := sets_in cells (k * 2) [.int .i64 M] 0 (by simp) (by simp; omega)
          simpa using this
        | 1 => rw [sub_at (by omega), cX]; rfl
        | j + 2 => rw [List.getElem?_eq_none (by simp [sub]; omega)]; simp
      have HOX := Hid.mk oX
      have HFX := Hid.mk fX
      have HGG := Hid.mk hgG
      clear hl hrow hof hx hT hts hps hcs2 hcs hM ht1 hXs oX fX r1 hgG htm hcl c1 cX ht
      go_wp2_with fail
      rw [← hX]
      clear hX q0 q1 f0
      refine (markInts_rep (G k) ta tn tc x.2 (M + 1) X hs1 (by omega) (by omega) R1.out).mono ?_
      rintro e w3 ⟨rfl, o3, g3⟩
      have hturn := HL.out.turn (w' := w3) (cells' := sets cells (k * 2) [.int .i64 M]) (x' := mkAtm M x) hlt
        (fun b hb hn1 hn2 => (g3.block b (Nat.lt_of_lt_of_le hb HFX.out.size) hn1).trans (HFX.out.block b hb (fun e => hn2 (by simp [Value.ownBlock, e]))))
        (ownsRow_frame HOX.out (fun b hb hlb => g3.block b hlb (fun hG => (HL.out.rowF k b hlt hG).2 hb)))
        (fun j hj => sub_sets_far _ _ _ _ _ (by have := mul_far (k := 2) hj; simp only [List.length_cons, List.length_nil]; show j * 2 + 2 ≤ k * 2 ∨ k * 2 + 1 ≤ j * 2; omega))
        (by
          show RAtm.Own w3 (G k) (sub (sets cells (k * 2) [.int .i64 M]) (k * 2) 2) (mkAtm M x)
          rw [HSB.out]
          exact RAtm.own_mk o3)
      have HLN : Hid (Laid RAtm w3 F 81 (some ⟨g, 0, none⟩) n c (mkTo mkAtm amk m xs (k + 1)) (sets cells (k * 2) [.int .i64 M]) G n) := by
        have h9 := mkTo_set mkAtm amk (m := m) HX.out
        have h8 : szL amk xs k = T := HT.out
        rw [h8, ← HM.out] at h9
        show Laid _ _ _ _ _ _ _ _ _ _ _
        rw [← h9]
        exact hturn
      have HON : Hid (Off F w w3) := HO.out.trans ((HFX.out.mono (fun b hb => by rw [hb]; exact HL.out.outerF g rfl)).trans (g3.mono (fun b hb => (HL.out.rowF k b hlt hb).1)))
      clear hturn o3 g3 x1 R1
      go_wp2
      go_roundw
      case rel => exact ⟨k + 1, _, by omega, by go_num, by rw [HTS.out, HM.out]; congr 1; push_cast; omega, HLN.out, HON.out⟩
      case measure => simp [intOf]; omega
    · obtain rfl : k = n := by omega
      have HL := Hid.mk hl
      clear hl
      go_wp2
      go_ret
      refine ⟨rfl, ⟨_, _, _, cells, G, rfl, ?_⟩, hof⟩
      have h9 := HL.out
      rw [mkTo_all _ _ _ _ hzl] at h9
      exact h9

set_option maxRecDepth 100000 in
set_option maxHeartbeats 2000000 in
theorem markQuery_rep (F : Nat → Prop) (sa : Option Addr) (sn sc : Nat) (pa : Option Addr) (pn pc : Nat) (ss : List Int) (xs : List Atm) (m : Int) (w : World) (hsn : sn ≤ 1048576) (hpn : pn ≤ 1048576) (ht : msum xs pn ≤ 1048576) (h0 : 0 ≤ m) (h1 : m ≤ 16777216) (hF : ∀ b, F b → b < w.heap.size) (ho : RQry.Own w F [.slice sa sn sc, .slice pa pn pc] (ss, xs)) :
    Calls Try.prog 18 #[.agg #[.slice sa sn sc, .slice pa pn pc], .int .i64 m] w fun e w' => e = .returned (.int .i64 (m + qmk (ss, xs))) ∧ RQry.Own w' F [.slice sa sn sc, .slice pa pn pc] (mkQry m (ss, xs)) ∧ Off F w w' := by
  obtain ⟨c1, c2, F1, F2, hcc, h2, h3, d1, d2, d12⟩ := ho
  obtain ⟨a1, n1, k1, cells1, G1, rfl, l1⟩ := h2
  obtain ⟨a2, n2, k2, cells2, G2, rfl, l2⟩ := h3
  simp only [List.cons_append, List.nil_append, List.cons.injEq, Value.slice.injEq, and_true] at hcc
  obtain ⟨⟨rfl, rfl, rfl⟩, rfl, rfl, rfl⟩ := hcc
  have r1 : RInts.Own w F1 [.slice sa sn sc] ss := ⟨_, _, _, _, _, rfl, l1⟩
  have r2 : RAtms.Own w F2 [.slice pa pn pc] xs := ⟨_, _, _, _, _, rfl, l2⟩
  have hz1 : ss.length = sn := l1.len
  have hz2 : xs.length = pn := l2.len
  have hv : qmk (ss, xs) = sn + msum xs pn := by unfold qmk; simp only; rw [hz1, hz2]
  rw [hv]
  obtain ⟨W, hW⟩ : ∃ W, W = w.alloc (.cells #[.slice sa sn sc, .slice pa pn pc] 34) := ⟨_, rfl⟩
  have B0 : Below w.heap.size w W := by rw [hW]; exact (Below.refl _ _).alloc (Nat.le_refl _) _
  have q1 : W.cell? ⟨w.heap.size, 1, none⟩ = some (.slice pa pn pc) := by rw [hW]; simp
  have R1 := Hid.mk (RInts.ownBelow r1 B0)
  have R2 := Hid.mk (RAtms.ownBelow r2 B0)
  have HD := Hid.mk (And.intro d1 (And.intro d2 d12))
  have HZ1 := Hid.mk hz1
  have HF1 : Hid (¬ F1 w.heap.size) := fun h => by have := hF _ (d1 _ h); omega
  clear l1 l2 r1 r2 d1 d2 d12 hz1 hz2 hv
  go_enter Try.func18, Try.ntmps18
  go_wp2_with fail
  rw [← hW]
  clear hW
  refine (markInts_rep F1 sa sn sc ss m W hsn h0 (by omega) R1.out).mono ?_
  rintro e w1 ⟨rfl, o1, g1⟩
  have q1 := g1.cell q1 HF1.out
  have O1 := Hid.mk o1
  have R2' := Hid.mk (RAtms.ownOff R2.out g1 (fun b hb h => HD.out.2.2 b h hb))
  have G1 := Hid.mk g1
  clear o1 g1 R1 R2
  go_wp2_with fail
  refine (markAtomS_rep F2 pa pn pc xs (m + sn) w1 hpn ht (by omega) (by omega) R2'.out).mono ?_
  rintro e w2 ⟨rfl, o2, g2⟩
  have HR : Hid (RQry.Own w2 F [.slice sa sn sc, .slice pa pn pc] (mkQry m (ss, xs))) := by
    show RQry.Own _ _ _ _
    unfold mkQry
    simp only [HZ1.out]
    exact ⟨[_], [_], F1, F2, rfl, RInts.ownOff O1.out g2 (fun b hb h => HD.out.2.2 b hb h), o2, HD.out.1, HD.out.2.1, HD.out.2.2⟩
  have HO : Hid (Off F w w2) := (Off.below B0).trans ((G1.out.mono HD.out.1).trans (g2.mono HD.out.2.1))
  clear o2 g2 O1 R2' G1 q1
  go_wp2
  go_ret
  exact ⟨ret_int (by push_cast; omega), HR.out, HO.out⟩

end Go.Proofs.Ytipgepienagplaa

/- Dependencies as things in memory. -/
namespace Go.Proofs.Ytipgepienagplaa
open Go.RowKit

/-- A dependency: From, To. -/
abbrev Dep := List Int × List Int
abbrev RDep : Rep Dep := Rep.pair RInts RInts
theorem RDep_k : RDep.k = 2 := rfl

theorem RDep.at_open {w : World} {cs : List Value} {x : Dep} (h : RDep.At w cs x) : ∃ fa fn fc ta tn tc, cs = [.slice fa fn fc, .slice ta tn tc] ∧
    (x.1.length = fn ∧ fn ≤ 9223372036854775807 ∧ At w fa x.1) ∧ (x.2.length = tn ∧ tn ≤ 9223372036854775807 ∧ At w ta x.2) := by
  obtain ⟨c1, c2, rfl, ⟨fa, fn, fc, rfl, t1, t2, t3, _⟩, ⟨ta, tn, tc, rfl, u1, u2, u3, _⟩⟩ := h
  exact ⟨fa, fn, fc, ta, tn, tc, rfl, ⟨t1, t2, atSl_int.1 t3⟩, ⟨u1, u2, atSl_int.1 u3⟩⟩

/-- What a dependency by value is, slice by slice. -/
theorem RDep.at_iff {w : World} {fa : Option Addr} {fn fc : Nat} {ta : Option Addr} {tn tc : Nat} {x : Dep} (h : RDep.At w [.slice fa fn fc, .slice ta tn tc] x) :
    (x.1.length = fn ∧ fn ≤ 9223372036854775807 ∧ At w fa x.1 ∧ (fa = none → fc = 0)) ∧ (x.2.length = tn ∧ tn ≤ 9223372036854775807 ∧ At w ta x.2 ∧ (ta = none → tc = 0)) := by
  obtain ⟨c1, c2, e, ⟨fa', fn', fc', rfl, t1, t2, t3, t4⟩, ⟨ta', tn', tc', rfl, u1, u2, u3, u4⟩⟩ := h
  simp only [List.cons_append, List.nil_append, List.cons.injEq, Value.slice.injEq, and_true] at e
  obtain ⟨⟨rfl, rfl, rfl⟩, rfl, rfl, rfl⟩ := e
  exact ⟨⟨t1, t2, atSl_int.1 t3, t4⟩, ⟨u1, u2, atSl_int.1 u3, u4⟩⟩

theorem RDep.own_mk {w : World} {F F1 F2 : Nat → Prop} {fs ts : List Int} {fa : Option Addr} {fn fc : Nat} {ta : Option Addr} {tn tc : Nat}
    (h1 : RInts.Own w F1 [.slice fa fn fc] fs) (h2 : RInts.Own w F2 [.slice ta tn tc] ts) (f1 : ∀ b, F1 b → F b) (f2 : ∀ b, F2 b → F b) (d12 : ∀ b, F1 b → ¬ F2 b) : RDep.Own w F [.slice fa fn fc, .slice ta tn tc] (fs, ts) :=
  ⟨[_], [_], F1, F2, rfl, h1, h2, f1, f2, d12⟩

theorem RDep.own_open {w : World} {F : Nat → Prop} {cs : List Value} {x : Dep} (h : RDep.Own w F cs x) : ∃ fa fn fc ta tn tc F1 F2, cs = [.slice fa fn fc, .slice ta tn tc] ∧
    RInts.Own w F1 [.slice fa fn fc] x.1 ∧ RInts.Own w F2 [.slice ta tn tc] x.2 ∧ (∀ b, F1 b → F b) ∧ (∀ b, F2 b → F b) ∧ (∀ b, F1 b → ¬ F2 b) := by
  obtain ⟨c1, d1, F1, F2, rfl, h1, h2, a1, a2, a3⟩ := h
  obtain ⟨ta, tn, tc, tcells, tG, rfl, tl⟩ := h1
  obtain ⟨ca, cn, cc, ccells, cG, rfl, cl⟩ := h2
  exact ⟨ta, tn, tc, ca, cn, cc, F1, F2, rfl, ⟨ta, tn, tc, tcells, tG, rfl, tl⟩, ⟨ca, cn, cc, ccells, cG, rfl, cl⟩, a1, a2, a3⟩

/-- How many slots the laws count for a dependency; and for some. -/
def dcost (x : Dep) : Nat := x.1.length + x.2.length
abbrev dsum (xs : List Dep) (k : Nat) : Nat := szL dcost xs k
theorem dsum_zero (xs : List Dep) : dsum xs 0 = 0 := by simp [dsum, szL]
theorem dsum_succ {xs : List Dep} {k : Nat} {x : Dep} (h : xs[k]? = some x) : dsum xs (k + 1) = dsum xs k + dcost x := szL_succ dcost h
theorem dsum_mono (xs : List Dep) (j k : Nat) (h : j ≤ k) : dsum xs j ≤ dsum xs k := szL_mono dcost xs j k h
theorem dsum_each {xs : List Dep} {n i : Nat} {x : Dep} (hn : xs.length = n) (h : xs[i]? = some x) : dcost x ≤ dsum xs n := by
  have hi := (List.getElem?_eq_some_iff.1 h).1
  have h1 := szL_succ dcost h
  have h2 := szL_mono dcost xs (i + 1) n (by omega)
  show dcost x ≤ szL dcost xs n
  omega

/-- Dependencies within the laws' bound. -/
def SmDep (x : Dep) : Prop := x.1.length ≤ 1048576 ∧ x.2.length ≤ 1048576
theorem SmDep.of {x : Dep} (h : dcost x ≤ 1048576) : SmDep x := by unfold dcost at h; exact ⟨by omega, by omega⟩
def SmD (xs : List Dep) (n : Nat) : Prop := xs.length = n ∧ n + dsum xs n ≤ 1048576
theorem SmD.n {xs : List Dep} {n : Nat} (h : SmD xs n) : n ≤ 1048576 := by have := h.2; omega
theorem SmD.sum {xs : List Dep} {n : Nat} (h : SmD xs n) : dsum xs n ≤ 1048576 := by have := h.2; omega
theorem SmD.each {xs : List Dep} {n : Nat} (h : SmD xs n) {i : Nat} {x : Dep} (hx : xs[i]? = some x) : SmDep x := by
  have := dsum_each h.1 hx
  have := h.2
  exact SmDep.of (by omega)

/-- A slice of dependencies as it is read: what a row of it is. -/
abbrev AtD (w : World) (a : Option Addr) (xs : List Dep) : Prop := AtSl RDep w a xs
theorem AtD.row {w : World} {a : Option Addr} {xs : List Dep} (h : AtD w a xs) (hp : 0 < xs.length) : ∃ b off, a = some ⟨b, off, none⟩ ∧ b < w.heap.size ∧ ∀ (i : Nat) (x : Dep), xs[i]? = some x → ∃ fa fn fc ta tn tc,
    w.cell? ⟨b, off + i * 2, none⟩ = some (.slice fa fn fc) ∧ w.cell? ⟨b, off + i * 2 + 1, none⟩ = some (.slice ta tn tc) ∧ (x.1.length = fn ∧ fn ≤ 9223372036854775807 ∧ At w fa x.1) ∧ (x.2.length = tn ∧ tn ≤ 9223372036854775807 ∧ At w ta x.2) := by
  obtain ⟨b, off, rfl, hc⟩ := AtSl.each h hp
  have row : ∀ (i : Nat) (x : Dep), xs[i]? = some x → ∃ fa fn fc ta tn tc,
    w.cell? ⟨b, off + i * 2, none⟩ = some (.slice fa fn fc) ∧ w.cell? ⟨b, off + i * 2 + 1, none⟩ = some (.slice ta tn tc) ∧ (x.1.length = fn ∧ fn ≤ 9223372036854775807 ∧ At w fa x.1) ∧ (x.2.length = tn ∧ tn ≤ 9223372036854775807 ∧ At w ta x.2) := by
    intro i x hx
    obtain ⟨cs, h1, h2⟩ := hc i x hx
    obtain ⟨fa, fn, fc, ta, tn, tc, rfl, t, u⟩ := RDep.at_open h2
    exact ⟨fa, fn, fc, ta, tn, tc, h1 0 _ rfl, h1 1 _ rfl, t, u⟩
  refine ⟨b, off, rfl, ?_, row⟩
  obtain ⟨fa, fn, fc, ta, tn, tc, h1, _⟩ := row 0 xs[0] (List.getElem?_eq_getElem hp)
  exact World.block_lt_of_cell? _ _ h1

theorem AtD.rowD {w : World} {a : Option Addr} {xs : List Dep} (h : AtD w a xs) (hp : 0 < xs.length) : ∃ b off, a = some ⟨b, off, none⟩ ∧ ∀ (i : Nat) (x : Dep), xs[i]? = some x → ∃ fa fn fc ta tn tc,
    w.cell? ⟨b, off + i * 2, none⟩ = some (.slice fa fn fc) ∧ w.cell? ⟨b, off + i * 2 + 1, none⟩ = some (.slice ta tn tc) ∧ RDep.At w [.slice fa fn fc, .slice ta tn tc] x := by
  obtain ⟨b, off, rfl, hc⟩ := AtSl.each h hp
  refine ⟨b, off, rfl, fun i x hx => ?_⟩
  obtain ⟨cs, h1, h2⟩ := hc i x hx
  obtain ⟨fa, fn, fc, ta, tn, tc, rfl, t, u⟩ := RDep.at_open h2
  exact ⟨fa, fn, fc, ta, tn, tc, h1 0 _ rfl, h1 1 _ rfl, h2⟩
theorem AtD.one {w : World} {b : Nat} {fa : Option Addr} {fn fc : Nat} {ta : Option Addr} {tn tc : Nat} {x : Dep} (h0 : w.cell? ⟨b, 0, none⟩ = some (.slice fa fn fc)) (h1 : w.cell? ⟨b, 1, none⟩ = some (.slice ta tn tc)) (h : RDep.At w [.slice fa fn fc, .slice ta tn tc] x) :
    AtD w (some ⟨b, 0, none⟩) [x] := by
  refine .inr ⟨b, 0, rfl, fun i y hy => ?_⟩
  have hi : i = 0 := by have := (List.getElem?_eq_some_iff.1 hy).1; simp at this; omega
  subst hi
  obtain rfl : x = y := by simpa using hy
  refine ⟨_, fun j v hv => ?_, h⟩
  match j, hv with
  | 0, hv => obtain rfl := Option.some.inj hv; simpa using h0
  | 1, hv => obtain rfl := Option.some.inj hv; simpa using h1

end Go.Proofs.Ytipgepienagplaa

/- Plain: rising lists of columns, and dependencies that are good. -/
namespace Go.Proofs.Ytipgepienagplaa
open Go.RowKit

/-- Rising behind p, and below c. -/
def risB (c : Int) : Int → List Int → Bool
  | _, [] => true
  | p, z :: zs => decide (p < z) && (decide (z < c) && risB c z zs)
def ris (c : Int) (l : List Int) : Bool := risB c (-1) l
theorem risB_done (c p : Int) (zs : List Int) (n : Nat) (h : zs.length = n) : risB c p (zs.drop n) = true := by
  rw [List.drop_of_length_le (by omega)]; rfl
theorem risB_step (c p : Int) (zs : List Int) (k : Nat) (h : k < zs.length) : risB c p (zs.drop k) = (decide (p < zs.getD k 0) && (decide (zs.getD k 0 < c) && risB c (zs.getD k 0) (zs.drop (k + 1)))) := by
  rw [List.drop_eq_getElem_cons h]
  have e : zs.getD k 0 = zs[k] := by simp [List.getD, h]
  rw [e]
  rfl
def goodDep (c : Int) (d : Dep) : Bool := ris c d.1 && ris c d.2
def allDep (c : Int) (l : List Dep) : Bool := l.all (goodDep c)
def goodDeps (l : List Dep) (c : Int) : Bool := decide (1 ≤ c) && (decide (c ≤ 6) && (decide (l.length ≤ 10) && allDep c l))
theorem allDep_done (c : Int) (xs : List Dep) (n : Nat) (h : xs.length = n) : allDep c (xs.drop n) = true := by
  rw [List.drop_of_length_le (by omega)]; rfl
theorem allDep_step (c : Int) {xs : List Dep} {k : Nat} {x : Dep} (h : xs[k]? = some x) : allDep c (xs.drop k) = (ris c x.1 && (ris c x.2 && allDep c (xs.drop (k + 1)))) := by
  obtain ⟨hk, rfl⟩ := List.getElem?_eq_some_iff.1 h
  rw [List.drop_eq_getElem_cons hk]
  show (ris c xs[k].1 && ris c xs[k].2 && allDep c _) = _
  rw [Bool.and_assoc]

end Go.Proofs.Ytipgepienagplaa

/- Plain: sets of columns as numbers below 64, and what they tell. -/
namespace Go.Proofs.Ytipgepienagplaa
open Go.RowKit

/-- The columns of a set, rising. -/
def bl (s : Nat) : List Int := ((List.range 6).filter (fun i => s.testBit i)).map Int.ofNat
/-- The set of some columns. -/
def mk (l : List Int) : Nat := l.foldl (fun s k => s ||| 2 ^ k.toNat) 0
/-- One set within another one. -/
def sb (a b : Nat) : Bool := a ||| b == b

theorem sb_iff {a b : Nat} : sb a b = true ↔ a ||| b = b := by unfold sb; exact beq_iff_eq
theorem sb_bit {a b : Nat} (h : sb a b = true) (i : Nat) (hi : a.testBit i = true) : b.testBit i = true := by
  rw [← sb_iff.1 h, Nat.testBit_or, hi]; rfl
theorem sb_of_bits {a b : Nat} (h : ∀ i, a.testBit i = true → b.testBit i = true) : sb a b = true := by
  rw [sb_iff]
  apply Nat.eq_of_testBit_eq
  intro i
  rw [Nat.testBit_or]
  cases ha : a.testBit i with
  | false => rfl
  | true => rw [h i ha]; rfl
theorem sb_refl (a : Nat) : sb a a = true := sb_of_bits fun _ h => h
theorem sb_trans {a b c : Nat} (h : sb a b = true) (k : sb b c = true) : sb a c = true := sb_of_bits fun i hi => sb_bit k i (sb_bit h i hi)
theorem sb_or_left (a b : Nat) : sb a (a ||| b) = true := sb_of_bits fun i hi => by rw [Nat.testBit_or, hi]; rfl
theorem sb_or_right (a b : Nat) : sb b (a ||| b) = true := sb_of_bits fun i hi => by rw [Nat.testBit_or, hi]; simp
theorem sb_or {a b c : Nat} (h : sb a c = true) (k : sb b c = true) : sb (a ||| b) c = true := sb_of_bits fun i hi => by
  rw [Nat.testBit_or] at hi
  cases ha : a.testBit i with
  | true => exact sb_bit h i ha
  | false => rw [ha] at hi; exact sb_bit k i (by simpa using hi)
theorem sb_antisymm {a b : Nat} (h : sb a b = true) (k : sb b a = true) : a = b := by
  have h1 := sb_iff.1 h
  have h2 := sb_iff.1 k
  rw [Nat.or_comm] at h2
  exact h2.symm.trans h1
theorem or_lt64 {a b : Nat} (h : a < 64) (k : b < 64) : a ||| b < 64 := Nat.or_lt_two_pow (n := 6) h k
theorem lt_or {a b : Nat} (h : sb b a = false) : a < a ||| b := by
  have h1 : a ≤ a ||| b := Nat.left_le_or
  have h2 : a ≠ a ||| b := fun e => by
    have : sb b a = true := sb_iff.2 (by rw [Nat.or_comm]; exact e.symm)
    rw [h] at this; cases this
  omega
theorem andNot_sb {a b : Nat} (ha : a < 64) (hb : b < 64) : (a &&& (18446744073709551615 - b) = 0) ↔ sb a b = true := by
  have key : ∀ i, i < 64 → (18446744073709551615 - b).testBit i = !(b.testBit i) := fun i hi => by
    have := Nat.testBit_two_pow_sub_succ (x := b) (n := 64) (by omega) i
    rw [show (2 ^ 64 - (b + 1)) = 18446744073709551615 - b by omega] at this
    rw [this]; simp [hi]
  constructor
  · intro h
    refine sb_of_bits fun i hi => ?_
    have h6 : i < 64 := by
      by_cases h6 : i < 64
      · exact h6
      · rw [Nat.testBit_lt_two_pow (Nat.lt_of_lt_of_le ha (by have : 2 ^ 6 ≤ 2 ^ i := Nat.pow_le_pow_right (by omega) (by omega); omega))] at hi; cases hi
    have h1 : (a &&& (18446744073709551615 - b)).testBit i = false := by rw [h]; simp
    rw [Nat.testBit_and, hi, key i h6] at h1
    simpa using h1
  · intro h
    apply Nat.eq_of_testBit_eq
    intro i
    rw [Nat.testBit_and]
    simp only [Nat.zero_testBit]
    cases hi : a.testBit i with
    | false => rfl
    | true =>
      have h6 : i < 64 := by
        by_cases h6 : i < 64
        · exact h6
        · rw [Nat.testBit_lt_two_pow (Nat.lt_of_lt_of_le ha (by have : 2 ^ 6 ≤ 2 ^ i := Nat.pow_le_pow_right (by omega) (by omega); omega))] at hi; cases hi
      rw [key i h6, sb_bit h i hi]; rfl

/-- Rising lists with the same numbers are the same. -/
theorem srt_ext : ∀ {a b : List Int}, a.Pairwise (· < ·) → b.Pairwise (· < ·) → (∀ x, x ∈ a ↔ x ∈ b) → a = b
  | [], [], _, _, _ => rfl
  | [], y :: b, _, _, h => absurd ((h y).2 (by simp)) (by simp)
  | x :: a, [], _, _, h => absurd ((h x).1 (by simp)) (by simp)
  | x :: a, y :: b, ha, hb, h => by
    obtain ⟨ha1, ha2⟩ := List.pairwise_cons.1 ha
    obtain ⟨hb1, hb2⟩ := List.pairwise_cons.1 hb
    have e : x = y := by
      have h1 := (h x).1 (by simp)
      have h2 := (h y).2 (by simp)
      simp only [List.mem_cons] at h1 h2
      rcases h1 with h1 | h1
      · exact h1
      · rcases h2 with h2 | h2
        · exact h2.symm
        · have := hb1 x h1; have := ha1 y h2; omega
    subst e
    congr 1
    refine srt_ext ha2 hb2 fun z => ?_
    constructor
    · intro hz
      have := (h z).1 (by simp [hz])
      simp only [List.mem_cons] at this
      rcases this with rfl | this
      · have := ha1 z hz; omega
      · exact this
    · intro hz
      have := (h z).2 (by simp [hz])
      simp only [List.mem_cons] at this
      rcases this with rfl | this
      · have := hb1 z hz; omega
      · exact this

theorem mem_bl {s : Nat} {x : Int} : x ∈ bl s ↔ ∃ i : Nat, i < 6 ∧ s.testBit i = true ∧ x = (i : Int) := by
  unfold bl
  simp only [List.mem_map, List.mem_filter, List.mem_range]
  constructor
  · rintro ⟨i, ⟨h1, h2⟩, rfl⟩; exact ⟨i, h1, h2, rfl⟩
  · rintro ⟨i, h1, h2, rfl⟩; exact ⟨i, ⟨h1, h2⟩, rfl⟩
theorem bl_sorted (s : Nat) : (bl s).Pairwise (· < ·) := by
  unfold bl
  rw [List.pairwise_map]
  refine List.Pairwise.imp ?_ ((List.pairwise_lt_range (n := 6)).filter _)
  intro a b h
  show (a : Int) < (b : Int)
  omega
theorem mk_bit (l : List Int) (hl : ∀ x ∈ l, 0 ≤ x) (i : Nat) : (mk l).testBit i = true ↔ (i : Int) ∈ l := by
  have key : ∀ (l : List Int) (s : Nat), (∀ x ∈ l, 0 ≤ x) → ((l.foldl (fun s k => s ||| 2 ^ k.toNat) s).testBit i = true ↔ s.testBit i = true ∨ (i : Int) ∈ l) := by
    intro l
    induction l with
    | nil => intro s _; simp
    | cons x l ih =>
      intro s h
      rw [List.foldl_cons, ih _ (fun y hy => h y (by simp [hy])), Nat.testBit_or, Nat.testBit_two_pow]
      have hx := h x (by simp)
      simp only [Bool.or_eq_true, decide_eq_true_eq, List.mem_cons]
      constructor
      · rintro ((h1 | h1) | h1)
        · exact .inl h1
        · exact .inr (.inl (by omega))
        · exact .inr (.inr h1)
      · rintro (h1 | h1 | h1)
        · exact .inl (.inl h1)
        · exact .inl (.inr (by omega))
        · exact .inr h1
  have := key l 0 hl
  simpa [mk] using this
theorem risB_mem {c p : Int} {l : List Int} (h : risB c p l = true) : l.Pairwise (· < ·) ∧ ∀ x ∈ l, p < x ∧ x < c := by
  induction l generalizing p with
  | nil => exact ⟨List.Pairwise.nil, fun x hx => by cases hx⟩
  | cons z l ih =>
    simp only [risB, Bool.and_eq_true, decide_eq_true_eq] at h
    obtain ⟨h1, h2, h3⟩ := h
    obtain ⟨k1, k2⟩ := ih h3
    refine ⟨List.pairwise_cons.2 ⟨fun x hx => (k2 x hx).1, k1⟩, fun x hx => ?_⟩
    simp only [List.mem_cons] at hx
    rcases hx with rfl | hx
    · exact ⟨h1, h2⟩
    · have := k2 x hx; exact ⟨by omega, this.2⟩
theorem ris_nonneg {c : Int} {l : List Int} (h : ris c l = true) : ∀ x ∈ l, 0 ≤ x := fun x hx => by have := ((risB_mem h).2 x hx).1; omega
theorem bl_mk {c : Int} {l : List Int} (hc : c ≤ 6) (h : ris c l = true) : bl (mk l) = l := by
  refine srt_ext (bl_sorted _) (risB_mem h).1 fun x => ?_
  rw [mem_bl]
  have hn := ris_nonneg h
  constructor
  · rintro ⟨i, _, h2, rfl⟩; exact (mk_bit l hn i).1 h2
  · intro hx
    have h1 := (risB_mem h).2 x hx
    have h0 := hn x hx
    refine ⟨x.toNat, by omega, (mk_bit l hn x.toNat).2 (by rw [Int.toNat_of_nonneg h0]; exact hx), by omega⟩
theorem mk_lt {c : Int} {l : List Int} (hc : c ≤ 6) (h : ris c l = true) : mk l < 64 := by
  refine Nat.lt_pow_two_of_testBit (n := 6) _ fun i hi => ?_
  cases hb : (mk l).testBit i with
  | false => rfl
  | true =>
    have := ((risB_mem h).2 _ ((mk_bit l (ris_nonneg h) i).1 hb)).2
    omega
theorem bl_len (s : Nat) : (bl s).length ≤ 6 := by
  unfold bl
  rw [List.length_map]
  exact Nat.le_trans (List.length_filter_le _ _) (by simp)
theorem bl_in {s : Nat} {x : Int} (h : x ∈ bl s) : 0 ≤ x ∧ x < 6 := by obtain ⟨i, h1, _, rfl⟩ := mem_bl.1 h; omega

/-- What is told, by one step and another one, and no more: T of S. -/
def clsd (l : List (Nat × Nat)) (T : Nat) : Prop := ∀ d ∈ l, sb d.1 T = true → sb d.2 T = true
structure IsClo (l : List (Nat × Nat)) (S T : Nat) : Prop where
  lt : T < 64
  has : sb S T = true
  all : clsd l T
  least : ∀ U, sb S U = true → clsd l U → sb T U = true
theorem IsClo.eq {l : List (Nat × Nat)} {S T T' : Nat} (h : IsClo l S T) (k : IsClo l S T') : T = T' := sb_antisymm (h.least _ k.has k.all) (k.least _ h.has h.all)
noncomputable def clo (l : List (Nat × Nat)) (S : Nat) : Nat := Classical.epsilon (IsClo l S)
theorem IsClo.clo_eq {l : List (Nat × Nat)} {S T : Nat} (h : IsClo l S T) : clo l S = T := (Classical.epsilon_spec (p := IsClo l S) ⟨T, h⟩).eq h
theorem IsClo.is {l : List (Nat × Nat)} {S T : Nat} (h : IsClo l S T) : IsClo l S (clo l S) := by rw [h.clo_eq]; exact h
def dm (d : Dep) : Nat × Nat := (mk d.1, mk d.2)
def dms (l : List Dep) : List (Nat × Nat) := l.map dm

end Go.Proofs.Ytipgepienagplaa

/- One more thing at a slice's end. -/
namespace Go.Proofs.Ytipgepienagplaa
open Go.RowKit

section
variable {α : Type} {A : Rep α} {w w2 w4 : World} {F H F' : Nat → Prop} {e : TypeId} {a a' : Option Addr} {n c c' : Nat} {xs : List α} {cells vs : List Value} {G : Nat → Nat → Prop} {x : α}

theorem sub_append_left {cells vs : List Value} {o k : Nat} (h : o + k ≤ cells.length) : sub (cells ++ vs) o k = sub cells o k := by
  unfold sub
  rw [List.drop_append_of_le_length (by omega), List.take_append_of_le_length (by simp; omega)]
theorem sub_append_right {cells vs : List Value} {k : Nat} (h : vs.length = k) : sub (cells ++ vs) cells.length k = vs := by
  unfold sub
  rw [List.drop_left, ← h, List.take_length]

/-- Behind 'append(l, x)': the slice lies in its old block, or in a new one. -/
theorem Laid.push (h : Laid A w F e a n c xs cells G n) (hF : ∀ b, F b → b < w.heap.size) (hb : Below w.heap.size w w2) (ho : A.Own w2 H vs x) (hH : ∀ b, H b → w.heap.size ≤ b ∧ b < w2.heap.size)
    (hg : ∀ b, b < w2.heap.size → (Value.slice a n c).ownBlock ≠ some b → w4.heap[b]? = w2.heap[b]?) (hown : w4.ownsRow 0 e A.k (.slice a' (n + 1) c') (n + 1) (cells ++ vs))
    (hat : (Value.slice a' (n + 1) c').ownBlock = (Value.slice a n c).ownBlock ∨ ∀ b, (Value.slice a' (n + 1) c').ownBlock = some b → w2.heap.size ≤ b) (hbig : n + 1 ≤ 9223372036854775807)
    (hF1 : ∀ b, F b → F' b) (hF2 : ∀ b, H b → F' b) (hF3 : ∀ b, (Value.slice a' (n + 1) c').ownBlock = some b → F' b) :
    Laid A w4 F' e a' (n + 1) c' (xs ++ [x]) (cells ++ vs) (fun i => if i = n then H else G i) (n + 1) := by
  have hl := A.ownLen ho
  have hcl : cells.length = n * A.k := h.outer.1
  have hz := hb.size
  have hB : ∀ i b, i < n → G i b → b < w.heap.size ∧ (Value.slice a n c).ownBlock ≠ some b := fun i b hi hg' => ⟨hF b (h.rowF i b hi hg').1, (h.rowF i b hi hg').2⟩
  have hO : ∀ b, (Value.slice a n c).ownBlock = some b → b < w.heap.size := fun b hb' => hF b (h.outerF b hb')
  refine ⟨by simp [h.len], hbig, hown, hF3, fun i y hi hy => ?_, fun i b hi hb' => ?_, fun i j b hi hj hij hb' => ?_⟩
  · by_cases ei : i = n
    · subst ei
      simp only [if_true]
      obtain rfl : x = y := by
        rw [List.getElem?_append_right (by rw [h.len]; exact Nat.le_refl _)] at hy
        simpa [h.len] using hy
      have := sub_append_right (cells := cells) hl
      rw [hcl] at this
      rw [this]
      exact A.frame ho (fun b hb' _ => hg b (hH b hb').2 (fun e' => by have := hO b e'; have := (hH b hb').1; omega))
    · simp only [if_neg ei]
      have hi' : i < n := by omega
      rw [List.getElem?_append_left (by rw [h.len]; exact hi')] at hy
      rw [sub_append_left (by rw [hcl]; exact at_mul hi')]
      exact A.frame (A.ownBelow (h.row i y hi' hy) hb) (fun b hb' _ => hg b (by have := (hB i b hi' hb').1; omega) (hB i b hi' hb').2)
  · by_cases ei : i = n
    · subst ei
      simp only [if_true] at hb'
      refine ⟨hF2 b hb', fun e' => ?_⟩
      have h1 := hH b hb'
      rcases hat with h2 | h2
      · rw [h2] at e'
        have := hO b e'
        omega
      · have := h2 b e'
        omega
    · simp only [if_neg ei] at hb'
      have h1 := hB i b (by omega) hb'
      refine ⟨hF1 b (h.rowF i b (by omega) hb').1, fun e' => ?_⟩
      rcases hat with h2 | h2
      · rw [h2] at e'; exact h1.2 e'
      · have := h2 b e'
        omega
  · by_cases ei : i = n
    · subst ei
      simp only [if_true] at hb'
      simp only [if_neg (Ne.symm hij)]
      intro e'
      have := (hB j b (by omega) e').1
      have := (hH b hb').1
      omega
    · simp only [if_neg ei] at hb'
      by_cases ej : j = n
      · simp only [if_pos ej]
        intro e'
        have := (hB i b (by omega) hb').1
        have := (hH b e').1
        omega
      · simp only [if_neg ej]
        exact h.apart i j b (by omega) (by omega) hij hb'

/-- A slice of nothing. -/
theorem Laid.none (A : Rep α) (w : World) (F : Nat → Prop) (e : TypeId) : Laid A w F e none 0 0 [] [] (fun _ _ => False) 0 :=
  ⟨rfl, by omega, World.ownsRow_nil _ _ _ _, fun b hb => (by cases hb), fun i x h => by omega, fun i b h => by omega, fun i j b h => by omega⟩
end

end Go.Proofs.Ytipgepienagplaa
