/- Several texts of one proof, in build order: QrM, WyP, WyW. -/
import Derived.Test.YtociphdhkjoofaaM4
import Derived.Test.YtociphdhkjoofaaM0
import Derived.Test.YtociphdhkjoofaaRows
import Derived.Deep.CutBlock

/- Contracts of the laws' markAtomS, markQuery over things that are owned. -/
namespace Go.Proofs.Ytociphdhkjoofaa
open Go.RowKit

def mkAtm (m : Int) (x : Atm) : Atm := (m, mkInts (m + 1) x.2)
def mkAtms (m : Int) (xs : List Atm) : List Atm := mkL mkAtm amk m xs
def qmk (x : Qry) : Nat := x.1.length + msum x.2 x.2.length
theorem qry_small {hs : List Int} {xs : List Atm} {hn n : Nat} (h1 : hs.length = hn) (h2 : xs.length = n) (h : qcost (hs, xs) ≤ 1048576) : hn ≤ 1048576 ∧ SmA xs n ∧ qmk (hs, xs) ≤ 1048576 := by
  have hm := msum_eq xs xs.length (Nat.le_refl _)
  unfold qcost at h
  unfold qmk
  simp only at h ⊢
  subst h1 h2
  refine ⟨by omega, ⟨rfl, by omega⟩, by rw [hm]; omega⟩
def mkQry (m : Int) (x : Qry) : Qry := (mkInts m x.1, mkAtms (m + x.1.length) x.2)

set_option maxRecDepth 100000 in
set_option maxHeartbeats 4000000 in
theorem markAtomS_rep (F : Nat → Prop) (a : Option Addr) (n c : Nat) (xs : List Atm) (m : Int) (w : World) (hn : n ≤ 1048576) (ht : msum xs n ≤ 1048576) (h0 : 0 ≤ m) (h1 : m ≤ 134217728) (ho : RAtms.Own w F [.slice a n c] xs) :
    Calls Try.prog 39 #[.slice a n c, .int .i64 m] w fun e w' => e = .returned (.int .i64 (m + msum xs n)) ∧ RAtms.Own w' F [.slice a n c] (mkAtms m xs) ∧ Off F w w' := by
  obtain ⟨a', n', c', cells, G, he, hl⟩ := ho
  simp only [List.cons.injEq, Value.slice.injEq, and_true] at he
  obtain ⟨rfl, rfl, rfl⟩ := he
  go_enter Try.func39, Try.ntmps39
  go_wp2
  go_loopw [1, 5] (fun q i wr => ∃ (k : Nat) (cells : List Value), k ≤ n ∧ i = .int .i64 k ∧ q = .int .i64 (m + msum xs k) ∧ Laid RAtm wr F 58 a n c (mkTo mkAtm amk m xs k) cells G n ∧ Off F w wr) (fun _ i _ => n - (intOf i).toNat)
  case atStart => exact ⟨0, cells, Nat.zero_le _, rfl, by simp [msum_zero], by rw [mkTo_zero]; exact hl, Off.refl _ _⟩
  case round =>
    have hzl := hl.len
    clear hl cells
    obtain ⟨k, cells, hk, rfl, rfl, hl, hof⟩ := hrel
    by_cases hlt : k < n
    · obtain ⟨x, hx⟩ : ∃ x, xs[k]? = some x := ⟨_, List.getElem?_eq_getElem (by omega)⟩
      have hrow := hl.row k x hlt (mkTo_next _ _ hx)
      obtain ⟨ta, tn, tc, hcs, r1⟩ := RAtm.own_open hrow
      rcases hl.outer.2 with ⟨_, h00⟩ | ⟨g, cap, cur, hv, _⟩
      · omega
      simp only [Value.slice.injEq, true_and] at hv
      obtain ⟨rfl, rfl⟩ := hv
      have hcl : cells.length = n * 2 := hl.outer.1
      have hcs2 : sub cells (k * 2) 2 = [.int .i64 x.1, .slice ta tn tc] := hcs
      have c1 : cells[k * 2 + 1]? = some (.slice ta tn tc) := by
        have h9 := sub_at (cells := cells) (o := k * 2) (k := 2) (j := 1) (by omega)
        rw [hcs2] at h9
        simpa using h9.symm
      have ht1 : x.2.length = tn := (RInts.own_iff.1 r1).1
      have hts := msum_succ hx
      have htm := msum_mono xs (k + 1) n (by omega)
      have hps : amk x = 1 + tn := by unfold amk; rw [ht1]
      have hgG : ¬ G k g := fun h => (hl.rowF k g hlt h).2 rfl
      have HL := Hid.mk hl
      have HO := Hid.mk hof
      have HX := Hid.mk hx
      obtain ⟨T, hT⟩ : ∃ T, msum xs k = T := ⟨_, rfl⟩
      have HT := Hid.mk hT
      rw [hps] at hts
      rw [hT] at hts ⊢
      have hs1 : tn ≤ 1048576 := by omega
      have HTS := Hid.mk hts
      have HC2 := Hid.mk hcs2
      have hki : (k : Int) < (n : Int) := by omega
      obtain ⟨M, hM⟩ : ∃ M : Int, M = m + T := ⟨_, rfl⟩
      have hM0 : 0 ≤ M := by omega
      have hM1 : M ≤ 140000000 := by omega
      have HM := Hid.mk hM
      rw [← hM]
      have q0 : wr.cell? ⟨g, k * 2, none⟩ = some (.int .i64 x.1) := by
        rw [hl.outer.cellAt _ (show k * 2 < n * 2 by omega)]
        have h9 := sub_at (cells := cells) (o := k * 2) (k := 2) (j := 0) (by omega)
        rw [hcs2] at h9
        simpa using h9.symm
      have f0 : wr.frozen? ⟨g, k * 2, none⟩ = false := HL.out.outer.frozenAt _
      have q1 : wr.cell? ⟨g, k * 2 + 1, none⟩ = some (.slice ta tn tc) := (HL.out.outer.cellAt _ (show k * 2 + 1 < n * 2 by omega)).trans c1
      obtain ⟨X, hX⟩ : ∃ u, u = wr.setCell ⟨g, k * 2, none⟩ (.int .i64 M) := ⟨_, rfl⟩
      have hXs : X = stores wr g (k * 2) [.int .i64 M] := hX
      have oX : X.ownsRow 0 58 2 (.slice (some ⟨g, 0, none⟩) n c) n (sets cells (k * 2) [.int .i64 M]) := by rw [hXs]; exact owns_stores HL.out.outer _ _
      have fX : Off (fun b => b = g) wr X := by rw [hXs]; exact stores_off (F := fun b => b = g) _ _ _ _ rfl
      have R1 : Hid (RInts.Own X (G k) [.slice ta tn tc] x.2) := RInts.ownOff r1 fX (fun b hb e => hgG (e ▸ hb))
      have cX : (sets cells (k * 2) [.int .i64 M])[k * 2 + 1]? = some (.slice ta tn tc) := (sets_far _ _ _ _ (by simp only [List.length_cons, List.length_nil]; omega)).trans c1
      have x1 : X.cell? ⟨g, k * 2 + 1, none⟩ = some (.slice ta tn tc) := (oX.cellAt _ (show k * 2 + 1 < n * 2 by omega)).trans cX
      have HSB : Hid (sub (sets cells (k * 2) [.int .i64 M]) (k * 2) 2 = [.int .i64 M, .slice ta tn tc]) := by
        apply List.ext_getElem?
        intro j
        match j with
        | 0 =>
          rw [sub_at (by omega)]
          have := sets_in cells (k * 2) [.int .i64 M] 0 (by simp) (by simp; omega)
          simpa using this
        | 1 => rw [sub_at (by omega), cX]; rfl
        | j + 2 => rw [List.getElem?_eq_none (by simp [sub]; omega)]; simp
      have HOX := Hid.mk oX
      have HFX := Hid.mk fX
      have HGG := Hid.mk hgG
      clear hl hrow hof hx hT hts hps hcs2 hcs hM ht1 hXs oX fX r1 hgG htm hcl c1 cX ht
      go_wp2_with fail
      rw [← hX]
      clear hX q0 q1 f0
      refine (markInts_rep (G k) ta tn tc x.2 (M + 1) X hs1 (by omega) (by omega) R1.out).mono ?_
      rintro e w3 ⟨rfl, o3, g3⟩
      have hturn := HL.out.turn (w' := w3) (cells' := sets cells (k * 2) [.int .i64 M]) (x' := mkAtm M x) hlt
        (fun b hb hn1 hn2 => (g3.block b (Nat.lt_of_lt_of_le hb HFX.out.size) hn1).trans (HFX.out.block b hb (fun e => hn2 (by simp [Value.ownBlock, e]))))
        (ownsRow_frame HOX.out (fun b hb hlb => g3.block b hlb (fun hG => (HL.out.rowF k b hlt hG).2 hb)))
        (fun j hj => sub_sets_far _ _ _ _ _ (by have := mul_far (k := 2) hj; simp only [List.length_cons, List.length_nil]; show j * 2 + 2 ≤ k * 2 ∨ k * 2 + 1 ≤ j * 2; omega))
        (by
          show RAtm.Own w3 (G k) (sub (sets cells (k * 2) [.int .i64 M]) (k * 2) 2) (mkAtm M x)
          rw [HSB.out]
          exact RAtm.own_mk o3)
      have HLN : Hid (Laid RAtm w3 F 58 (some ⟨g, 0, none⟩) n c (mkTo mkAtm amk m xs (k + 1)) (sets cells (k * 2) [.int .i64 M]) G n) := by
        have h9 := mkTo_set mkAtm amk (m := m) HX.out
        have h8 : szL amk xs k = T := HT.out
        rw [h8, ← HM.out] at h9
        show Laid _ _ _ _ _ _ _ _ _ _ _
        rw [← h9]
        exact hturn
      have HON : Hid (Off F w w3) := HO.out.trans ((HFX.out.mono (fun b hb => by rw [hb]; exact HL.out.outerF g rfl)).trans (g3.mono (fun b hb => (HL.out.rowF k b hlt hb).1)))
      clear hturn o3 g3 x1 R1
      go_wp2
      go_roundw
      case rel => exact ⟨k + 1, _, by omega, by go_num, by rw [HTS.out, HM.out]; congr 1; push_cast; omega, HLN.out, HON.out⟩
      case measure => simp [intOf]; omega
    · obtain rfl : k = n := by omega
      have HL := Hid.mk hl
      clear hl
      go_wp2
      go_ret
      refine ⟨rfl, ⟨_, _, _, cells, G, rfl, ?_⟩, hof⟩
      have h9 := HL.out
      rw [mkTo_all _ _ _ _ hzl] at h9
      exact h9

set_option maxRecDepth 100000 in
set_option maxHeartbeats 2000000 in
theorem markQuery_rep (F : Nat → Prop) (sa : Option Addr) (sn sc : Nat) (pa : Option Addr) (pn pc : Nat) (ss : List Int) (xs : List Atm) (m : Int) (w : World) (hsn : sn ≤ 1048576) (hpn : pn ≤ 1048576) (ht : msum xs pn ≤ 1048576) (h0 : 0 ≤ m) (h1 : m ≤ 16777216) (hF : ∀ b, F b → b < w.heap.size) (ho : RQry.Own w F [.slice sa sn sc, .slice pa pn pc] (ss, xs)) :
    Calls Try.prog 13 #[.agg #[.slice sa sn sc, .slice pa pn pc], .int .i64 m] w fun e w' => e = .returned (.int .i64 (m + qmk (ss, xs))) ∧ RQry.Own w' F [.slice sa sn sc, .slice pa pn pc] (mkQry m (ss, xs)) ∧ Off F w w' := by
  obtain ⟨c1, c2, F1, F2, hcc, h2, h3, d1, d2, d12⟩ := ho
  obtain ⟨a1, n1, k1, cells1, G1, rfl, l1⟩ := h2
  obtain ⟨a2, n2, k2, cells2, G2, rfl, l2⟩ := h3
  simp only [List.cons_append, List.nil_append, List.cons.injEq, Value.slice.injEq, and_true] at hcc
  obtain ⟨⟨rfl, rfl, rfl⟩, rfl, rfl, rfl⟩ := hcc
  have r1 : RInts.Own w F1 [.slice sa sn sc] ss := ⟨_, _, _, _, _, rfl, l1⟩
  have r2 : RAtms.Own w F2 [.slice pa pn pc] xs := ⟨_, _, _, _, _, rfl, l2⟩
  have hz1 : ss.length = sn := l1.len
  have hz2 : xs.length = pn := l2.len
  have hv : qmk (ss, xs) = sn + msum xs pn := by unfold qmk; simp only; rw [hz1, hz2]
  rw [hv]
  obtain ⟨W, hW⟩ : ∃ W, W = w.alloc (.cells #[.slice sa sn sc, .slice pa pn pc] 29) := ⟨_, rfl⟩
  have B0 : Below w.heap.size w W := by rw [hW]; exact (Below.refl _ _).alloc (Nat.le_refl _) _
  have q1 : W.cell? ⟨w.heap.size, 1, none⟩ = some (.slice pa pn pc) := by rw [hW]; simp
  have R1 := Hid.mk (RInts.ownBelow r1 B0)
  have R2 := Hid.mk (RAtms.ownBelow r2 B0)
  have HD := Hid.mk (And.intro d1 (And.intro d2 d12))
  have HZ1 := Hid.mk hz1
  have HF1 : Hid (¬ F1 w.heap.size) := fun h => by have := hF _ (d1 _ h); omega
  clear l1 l2 r1 r2 d1 d2 d12 hz1 hz2 hv
  go_enter Try.func13, Try.ntmps13
  go_wp2_with fail
  rw [← hW]
  clear hW
  refine (markInts_rep F1 sa sn sc ss m W hsn h0 (by omega) R1.out).mono ?_
  rintro e w1 ⟨rfl, o1, g1⟩
  have q1 := g1.cell q1 HF1.out
  have O1 := Hid.mk o1
  have R2' := Hid.mk (RAtms.ownOff R2.out g1 (fun b hb h => HD.out.2.2 b h hb))
  have G1 := Hid.mk g1
  clear o1 g1 R1 R2
  go_wp2_with fail
  refine (markAtomS_rep F2 pa pn pc xs (m + sn) w1 hpn ht (by omega) (by omega) R2'.out).mono ?_
  rintro e w2 ⟨rfl, o2, g2⟩
  have HR : Hid (RQry.Own w2 F [.slice sa sn sc, .slice pa pn pc] (mkQry m (ss, xs))) := by
    show RQry.Own _ _ _ _
    unfold mkQry
    simp only [HZ1.out]
    exact ⟨[_], [_], F1, F2, rfl, RInts.ownOff O1.out g2 (fun b hb h => HD.out.2.2 b hb h), o2, HD.out.1, HD.out.2.1, HD.out.2.2⟩
  have HO : Hid (Off F w w2) := (Off.below B0).trans ((G1.out.mono HD.out.1).trans (g2.mono HD.out.2.1))
  clear o2 g2 O1 R2' G1 q1
  go_wp2
  go_ret
  exact ⟨ret_int (by push_cast; omega), HR.out, HO.out⟩

end Go.Proofs.Ytociphdhkjoofaa

/- Plain: ways: what number each of six variables has, if one; and as cells. -/
namespace Go.Proofs.Ytociphdhkjoofaa

abbrev Wy := List (Option Int)
def wcells (m : Wy) : List Value := m.map (fun o => Value.bool o.isSome) ++ m.map (fun o => Value.int .i64 (o.getD 0))
def wy0 : Wy := [none, none, none, none, none, none]
/-- A variable's number is told: what is known then, and whether it may be. -/
def wWith (m : Wy) (v x : Int) : Wy × Bool := match m.getD v.toNat none with
  | some y => (m, y == x)
  | none => (m.set v.toNat (some x), true)
/-- Several, one behind the other. -/
def wAll : Wy → List Int → List Int → Wy × Bool
  | m, [], _ => (m, true)
  | m, v :: vs, xs => if (wWith m v (xs.headD 0)).2 then wAll (wWith m v (xs.headD 0)).1 vs xs.tail else (wy0, false)

theorem wWith_len (m : Wy) (v x : Int) : (wWith m v x).1.length = m.length := by
  unfold wWith
  split <;> simp
theorem wAll_len : ∀ (m : Wy) (vs xs : List Int), m.length = 6 → (wAll m vs xs).1.length = 6
  | m, [], _, h => h
  | m, v :: vs, xs, h => by
    unfold wAll
    split
    · exact wAll_len _ vs _ (by rw [wWith_len, h])
    · rfl
theorem wcells_open {m : Wy} (h : m.length = 6) : ∃ (k0 k1 k2 k3 k4 k5 : Bool) (n0 n1 n2 n3 n4 n5 : Int),
    wcells m = [.bool k0, .bool k1, .bool k2, .bool k3, .bool k4, .bool k5, .int .i64 n0, .int .i64 n1, .int .i64 n2, .int .i64 n3, .int .i64 n4, .int .i64 n5] := by
  match m, h with
  | [o0, o1, o2, o3, o4, o5], _ => exact ⟨_, _, _, _, _, _, _, _, _, _, _, _, rfl⟩
theorem wcells0 : wcells wy0 = [.bool false, .bool false, .bool false, .bool false, .bool false, .bool false, .int .i64 0, .int .i64 0, .int .i64 0, .int .i64 0, .int .i64 0, .int .i64 0] := rfl
theorem wcells_len (m : Wy) : (wcells m).length = m.length + m.length := by simp [wcells]
theorem wcells_num {m : Wy} {v : Nat} (h : m.length = 6) (hv : v < 6) : (wcells m)[6 + v]? = some (.int .i64 ((m.getD v none).getD 0)) := by
  match m, h with
  | [o0, o1, o2, o3, o4, o5], _ =>
    have hh : v = 0 ∨ v = 1 ∨ v = 2 ∨ v = 3 ∨ v = 4 ∨ v = 5 := by omega
    rcases hh with rfl | rfl | rfl | rfl | rfl | rfl <;> rfl
theorem wAll_cons {m : Wy} {v : Int} {vs xs : List Int} : wAll m (v :: vs) xs = if (wWith m v (xs.headD 0)).2 then wAll (wWith m v (xs.headD 0)).1 vs xs.tail else (wy0, false) := rfl

end Go.Proofs.Ytociphdhkjoofaa

/- Contracts of impl.way.with, at each variable. -/
namespace Go.Proofs.Ytociphdhkjoofaa
open Go.RowKit

set_option maxRecDepth 100000 in
set_option maxHeartbeats 4000000 in
theorem with0_new (k1 k2 k3 k4 k5 : Bool) (n0 n1 n2 n3 n4 n5 : Int) (x : Int) (w : World) :
    Calls Try.prog 85 #[.agg #[.bool false, .bool k1, .bool k2, .bool k3, .bool k4, .bool k5, .int .i64 n0, .int .i64 n1, .int .i64 n2, .int .i64 n3, .int .i64 n4, .int .i64 n5], .int .i64 0, .int .i64 x] w fun e w' => e = .returned (.tuple #[.agg #[.bool true, .bool k1, .bool k2, .bool k3, .bool k4, .bool k5, .int .i64 x, .int .i64 n1, .int .i64 n2, .int .i64 n3, .int .i64 n4, .int .i64 n5], .bool true]) ∧ Below w.heap.size w w' := by
  go_enter Try.func85, Try.ntmps85
  go_wp2
  exact bodyPost_ret (v := .tuple #[.agg #[.bool true, .bool k1, .bool k2, .bool k3, .bool k4, .bool k5, .int .i64 x, .int .i64 n1, .int .i64 n2, .int .i64 n3, .int .i64 n4, .int .i64 n5], .bool true]) (by simp [results, Try.results85, go_sem]) rfl ⟨rfl, ((Below.refl _ _).alloc (Nat.le_refl _) _).alloc (by simp) _⟩

set_option maxRecDepth 100000 in
set_option maxHeartbeats 4000000 in
theorem with0_old (k1 k2 k3 k4 k5 : Bool) (n0 n1 n2 n3 n4 n5 : Int) (x : Int) (w : World) :
    Calls Try.prog 85 #[.agg #[.bool true, .bool k1, .bool k2, .bool k3, .bool k4, .bool k5, .int .i64 n0, .int .i64 n1, .int .i64 n2, .int .i64 n3, .int .i64 n4, .int .i64 n5], .int .i64 0, .int .i64 x] w fun e w' => e = .returned (.tuple #[.agg #[.bool true, .bool k1, .bool k2, .bool k3, .bool k4, .bool k5, .int .i64 n0, .int .i64 n1, .int .i64 n2, .int .i64 n3, .int .i64 n4, .int .i64 n5], .bool (n0 == x)]) ∧ Below w.heap.size w w' := by
  go_enter Try.func85, Try.ntmps85
  go_wp2_with fail
  go_region
  go_wp2
  exact bodyPost_ret (v := .tuple #[.agg #[.bool true, .bool k1, .bool k2, .bool k3, .bool k4, .bool k5, .int .i64 n0, .int .i64 n1, .int .i64 n2, .int .i64 n3, .int .i64 n4, .int .i64 n5], .bool (n0 == x)]) (by simp [results, Try.results85, go_sem]) rfl ⟨rfl, (((Below.refl _ _).alloc (Nat.le_refl _) _).alloc (by simp) _).drew⟩

set_option maxRecDepth 100000 in
set_option maxHeartbeats 4000000 in
theorem with1_new (k0 k2 k3 k4 k5 : Bool) (n0 n1 n2 n3 n4 n5 : Int) (x : Int) (w : World) :
    Calls Try.prog 85 #[.agg #[.bool k0, .bool false, .bool k2, .bool k3, .bool k4, .bool k5, .int .i64 n0, .int .i64 n1, .int .i64 n2, .int .i64 n3, .int .i64 n4, .int .i64 n5], .int .i64 1, .int .i64 x] w fun e w' => e = .returned (.tuple #[.agg #[.bool k0, .bool true, .bool k2, .bool k3, .bool k4, .bool k5, .int .i64 n0, .int .i64 x, .int .i64 n2, .int .i64 n3, .int .i64 n4, .int .i64 n5], .bool true]) ∧ Below w.heap.size w w' := by
  go_enter Try.func85, Try.ntmps85
  go_wp2
  exact bodyPost_ret (v := .tuple #[.agg #[.bool k0, .bool true, .bool k2, .bool k3, .bool k4, .bool k5, .int .i64 n0, .int .i64 x, .int .i64 n2, .int .i64 n3, .int .i64 n4, .int .i64 n5], .bool true]) (by simp [results, Try.results85, go_sem]) rfl ⟨rfl, ((Below.refl _ _).alloc (Nat.le_refl _) _).alloc (by simp) _⟩

set_option maxRecDepth 100000 in
set_option maxHeartbeats 4000000 in
theorem with1_old (k0 k2 k3 k4 k5 : Bool) (n0 n1 n2 n3 n4 n5 : Int) (x : Int) (w : World) :
    Calls Try.prog 85 #[.agg #[.bool k0, .bool true, .bool k2, .bool k3, .bool k4, .bool k5, .int .i64 n0, .int .i64 n1, .int .i64 n2, .int .i64 n3, .int .i64 n4, .int .i64 n5], .int .i64 1, .int .i64 x] w fun e w' => e = .returned (.tuple #[.agg #[.bool k0, .bool true, .bool k2, .bool k3, .bool k4, .bool k5, .int .i64 n0, .int .i64 n1, .int .i64 n2, .int .i64 n3, .int .i64 n4, .int .i64 n5], .bool (n1 == x)]) ∧ Below w.heap.size w w' := by
  go_enter Try.func85, Try.ntmps85
  go_wp2_with fail
  go_region
  go_wp2
  exact bodyPost_ret (v := .tuple #[.agg #[.bool k0, .bool true, .bool k2, .bool k3, .bool k4, .bool k5, .int .i64 n0, .int .i64 n1, .int .i64 n2, .int .i64 n3, .int .i64 n4, .int .i64 n5], .bool (n1 == x)]) (by simp [results, Try.results85, go_sem]) rfl ⟨rfl, (((Below.refl _ _).alloc (Nat.le_refl _) _).alloc (by simp) _).drew⟩

set_option maxRecDepth 100000 in
set_option maxHeartbeats 4000000 in
theorem with2_new (k0 k1 k3 k4 k5 : Bool) (n0 n1 n2 n3 n4 n5 : Int) (x : Int) (w : World) :
    Calls Try.prog 85 #[.agg #[.bool k0, .bool k1, .bool false, .bool k3, .bool k4, .bool k5, .int .i64 n0, .int .i64 n1, .int .i64 n2, .int .i64 n3, .int .i64 n4, .int .i64 n5], .int .i64 2, .int .i64 x] w fun e w' => e = .returned (.tuple #[.agg #[.bool k0, .bool k1, .bool true, .bool k3, .bool k4, .bool k5, .int .i64 n0, .int .i64 n1, .int .i64 x, .int .i64 n3, .int .i64 n4, .int .i64 n5], .bool true]) ∧ Below w.heap.size w w' := by
  go_enter Try.func85, Try.ntmps85
  go_wp2
  exact bodyPost_ret (v := .tuple #[.agg #[.bool k0, .bool k1, .bool true, .bool k3, .bool k4, .bool k5, .int .i64 n0, .int .i64 n1, .int .i64 x, .int .i64 n3, .int .i64 n4, .int .i64 n5], .bool true]) (by simp [results, Try.results85, go_sem]) rfl ⟨rfl, ((Below.refl _ _).alloc (Nat.le_refl _) _).alloc (by simp) _⟩

set_option maxRecDepth 100000 in
set_option maxHeartbeats 4000000 in
theorem with2_old (k0 k1 k3 k4 k5 : Bool) (n0 n1 n2 n3 n4 n5 : Int) (x : Int) (w : World) :
    Calls Try.prog 85 #[.agg #[.bool k0, .bool k1, .bool true, .bool k3, .bool k4, .bool k5, .int .i64 n0, .int .i64 n1, .int .i64 n2, .int .i64 n3, .int .i64 n4, .int .i64 n5], .int .i64 2, .int .i64 x] w fun e w' => e = .returned (.tuple #[.agg #[.bool k0, .bool k1, .bool true, .bool k3, .bool k4, .bool k5, .int .i64 n0, .int .i64 n1, .int .i64 n2, .int .i64 n3, .int .i64 n4, .int .i64 n5], .bool (n2 == x)]) ∧ Below w.heap.size w w' := by
  go_enter Try.func85, Try.ntmps85
  go_wp2_with fail
  go_region
  go_wp2
  exact bodyPost_ret (v := .tuple #[.agg #[.bool k0, .bool k1, .bool true, .bool k3, .bool k4, .bool k5, .int .i64 n0, .int .i64 n1, .int .i64 n2, .int .i64 n3, .int .i64 n4, .int .i64 n5], .bool (n2 == x)]) (by simp [results, Try.results85, go_sem]) rfl ⟨rfl, (((Below.refl _ _).alloc (Nat.le_refl _) _).alloc (by simp) _).drew⟩

set_option maxRecDepth 100000 in
set_option maxHeartbeats 4000000 in
theorem with3_new (k0 k1 k2 k4 k5 : Bool) (n0 n1 n2 n3 n4 n5 : Int) (x : Int) (w : World) :
    Calls Try.prog 85 #[.agg #[.bool k0, .bool k1, .bool k2, .bool false, .bool k4, .bool k5, .int .i64 n0, .int .i64 n1, .int .i64 n2, .int .i64 n3, .int .i64 n4, .int .i64 n5], .int .i64 3, .int .i64 x] w fun e w' => e = .returned (.tuple #[.agg #[.bool k0, .bool k1, .bool k2, .bool true, .bool k4, .bool k5, .int .i64 n0, .int .i64 n1, .int .i64 n2, .int .i64 x, .int .i64 n4, .int .i64 n5], .bool true]) ∧ Below w.heap.size w w' := by
  go_enter Try.func85, Try.ntmps85
  go_wp2
  exact bodyPost_ret (v := .tuple #[.agg #[.bool k0, .bool k1, .bool k2, .bool true, .bool k4, .bool k5, .int .i64 n0, .int .i64 n1, .int .i64 n2, .int .i64 x, .int .i64 n4, .int .i64 n5], .bool true]) (by simp [results, Try.results85, go_sem]) rfl ⟨rfl, ((Below.refl _ _).alloc (Nat.le_refl _) _).alloc (by simp) _⟩

set_option maxRecDepth 100000 in
set_option maxHeartbeats 4000000 in
theorem with3_old (k0 k1 k2 k4 k5 : Bool) (n0 n1 n2 n3 n4 n5 : Int) (x : Int) (w : World) :
    Calls Try.prog 85 #[.agg #[.bool k0, .bool k1, .bool k2, .bool true, .bool k4, .bool k5, .int .i64 n0, .int .i64 n1, .int .i64 n2, .int .i64 n3, .int .i64 n4, .int .i64 n5], .int .i64 3, .int .i64 x] w fun e w' => e = .returned (.tuple #[.agg #[.bool k0, .bool k1, .bool k2, .bool true, .bool k4, .bool k5, .int .i64 n0, .int .i64 n1, .int .i64 n2, .int .i64 n3, .int .i64 n4, .int .i64 n5], .bool (n3 == x)]) ∧ Below w.heap.size w w' := by
  go_enter Try.func85, Try.ntmps85
  go_wp2_with fail
  go_region
  go_wp2
  exact bodyPost_ret (v := .tuple #[.agg #[.bool k0, .bool k1, .bool k2, .bool true, .bool k4, .bool k5, .int .i64 n0, .int .i64 n1, .int .i64 n2, .int .i64 n3, .int .i64 n4, .int .i64 n5], .bool (n3 == x)]) (by simp [results, Try.results85, go_sem]) rfl ⟨rfl, (((Below.refl _ _).alloc (Nat.le_refl _) _).alloc (by simp) _).drew⟩

set_option maxRecDepth 100000 in
set_option maxHeartbeats 4000000 in
theorem with4_new (k0 k1 k2 k3 k5 : Bool) (n0 n1 n2 n3 n4 n5 : Int) (x : Int) (w : World) :
    Calls Try.prog 85 #[.agg #[.bool k0, .bool k1, .bool k2, .bool k3, .bool false, .bool k5, .int .i64 n0, .int .i64 n1, .int .i64 n2, .int .i64 n3, .int .i64 n4, .int .i64 n5], .int .i64 4, .int .i64 x] w fun e w' => e = .returned (.tuple #[.agg #[.bool k0, .bool k1, .bool k2, .bool k3, .bool true, .bool k5, .int .i64 n0, .int .i64 n1, .int .i64 n2, .int .i64 n3, .int .i64 x, .int .i64 n5], .bool true]) ∧ Below w.heap.size w w' := by
  go_enter Try.func85, Try.ntmps85
  go_wp2
  exact bodyPost_ret (v := .tuple #[.agg #[.bool k0, .bool k1, .bool k2, .bool k3, .bool true, .bool k5, .int .i64 n0, .int .i64 n1, .int .i64 n2, .int .i64 n3, .int .i64 x, .int .i64 n5], .bool true]) (by simp [results, Try.results85, go_sem]) rfl ⟨rfl, ((Below.refl _ _).alloc (Nat.le_refl _) _).alloc (by simp) _⟩

set_option maxRecDepth 100000 in
set_option maxHeartbeats 4000000 in
theorem with4_old (k0 k1 k2 k3 k5 : Bool) (n0 n1 n2 n3 n4 n5 : Int) (x : Int) (w : World) :
    Calls Try.prog 85 #[.agg #[.bool k0, .bool k1, .bool k2, .bool k3, .bool true, .bool k5, .int .i64 n0, .int .i64 n1, .int .i64 n2, .int .i64 n3, .int .i64 n4, .int .i64 n5], .int .i64 4, .int .i64 x] w fun e w' => e = .returned (.tuple #[.agg #[.bool k0, .bool k1, .bool k2, .bool k3, .bool true, .bool k5, .int .i64 n0, .int .i64 n1, .int .i64 n2, .int .i64 n3, .int .i64 n4, .int .i64 n5], .bool (n4 == x)]) ∧ Below w.heap.size w w' := by
  go_enter Try.func85, Try.ntmps85
  go_wp2_with fail
  go_region
  go_wp2
  exact bodyPost_ret (v := .tuple #[.agg #[.bool k0, .bool k1, .bool k2, .bool k3, .bool true, .bool k5, .int .i64 n0, .int .i64 n1, .int .i64 n2, .int .i64 n3, .int .i64 n4, .int .i64 n5], .bool (n4 == x)]) (by simp [results, Try.results85, go_sem]) rfl ⟨rfl, (((Below.refl _ _).alloc (Nat.le_refl _) _).alloc (by simp) _).drew⟩

set_option maxRecDepth 100000 in
set_option maxHeartbeats 4000000 in
theorem with5_new (k0 k1 k2 k3 k4 : Bool) (n0 n1 n2 n3 n4 n5 : Int) (x : Int) (w : World) :
    Calls Try.prog 85 #[.agg #[.bool k0, .bool k1, .bool k2, .bool k3, .bool k4, .bool false, .int .i64 n0, .int .i64 n1, .int .i64 n2, .int .i64 n3, .int .i64 n4, .int .i64 n5], .int .i64 5, .int .i64 x] w fun e w' => e = .returned (.tuple #[.agg #[.bool k0, .bool k1, .bool k2, .bool k3, .bool k4, .bool true, .int .i64 n0, .int .i64 n1, .int .i64 n2, .int .i64 n3, .int .i64 n4, .int .i64 x], .bool true]) ∧ Below w.heap.size w w' := by
  go_enter Try.func85, Try.ntmps85
  go_wp2
  exact bodyPost_ret (v := .tuple #[.agg #[.bool k0, .bool k1, .bool k2, .bool k3, .bool k4, .bool true, .int .i64 n0, .int .i64 n1, .int .i64 n2, .int .i64 n3, .int .i64 n4, .int .i64 x], .bool true]) (by simp [results, Try.results85, go_sem]) rfl ⟨rfl, ((Below.refl _ _).alloc (Nat.le_refl _) _).alloc (by simp) _⟩

set_option maxRecDepth 100000 in
set_option maxHeartbeats 4000000 in
theorem with5_old (k0 k1 k2 k3 k4 : Bool) (n0 n1 n2 n3 n4 n5 : Int) (x : Int) (w : World) :
    Calls Try.prog 85 #[.agg #[.bool k0, .bool k1, .bool k2, .bool k3, .bool k4, .bool true, .int .i64 n0, .int .i64 n1, .int .i64 n2, .int .i64 n3, .int .i64 n4, .int .i64 n5], .int .i64 5, .int .i64 x] w fun e w' => e = .returned (.tuple #[.agg #[.bool k0, .bool k1, .bool k2, .bool k3, .bool k4, .bool true, .int .i64 n0, .int .i64 n1, .int .i64 n2, .int .i64 n3, .int .i64 n4, .int .i64 n5], .bool (n5 == x)]) ∧ Below w.heap.size w w' := by
  go_enter Try.func85, Try.ntmps85
  go_wp2_with fail
  go_region
  go_wp2
  exact bodyPost_ret (v := .tuple #[.agg #[.bool k0, .bool k1, .bool k2, .bool k3, .bool k4, .bool true, .int .i64 n0, .int .i64 n1, .int .i64 n2, .int .i64 n3, .int .i64 n4, .int .i64 n5], .bool (n5 == x)]) (by simp [results, Try.results85, go_sem]) rfl ⟨rfl, (((Below.refl _ _).alloc (Nat.le_refl _) _).alloc (by simp) _).drew⟩

theorem with_any (m : Wy) (v x : Int) (w : World) (hm : m.length = 6) (h0 : 0 ≤ v) (h6 : v < 6) :
    Calls Try.prog 85 #[.agg (wcells m).toArray, .int .i64 v, .int .i64 x] w fun e w' => e = .returned (.tuple #[.agg (wcells (wWith m v x).1).toArray, .bool (wWith m v x).2]) ∧ Below w.heap.size w w' := by
  match m, hm with
  | [o0, o1, o2, o3, o4, o5], _ =>
    have hv : v = 0 ∨ v = 1 ∨ v = 2 ∨ v = 3 ∨ v = 4 ∨ v = 5 := by omega
    rcases hv with rfl | rfl | rfl | rfl | rfl | rfl
    · cases o0 with
      | none => exact with0_new o1.isSome o2.isSome o3.isSome o4.isSome o5.isSome 0 (o1.getD 0) (o2.getD 0) (o3.getD 0) (o4.getD 0) (o5.getD 0) x w
      | some y => exact with0_old o1.isSome o2.isSome o3.isSome o4.isSome o5.isSome y (o1.getD 0) (o2.getD 0) (o3.getD 0) (o4.getD 0) (o5.getD 0) x w
    · cases o1 with
      | none => exact with1_new o0.isSome o2.isSome o3.isSome o4.isSome o5.isSome (o0.getD 0) 0 (o2.getD 0) (o3.getD 0) (o4.getD 0) (o5.getD 0) x w
      | some y => exact with1_old o0.isSome o2.isSome o3.isSome o4.isSome o5.isSome (o0.getD 0) y (o2.getD 0) (o3.getD 0) (o4.getD 0) (o5.getD 0) x w
    · cases o2 with
      | none => exact with2_new o0.isSome o1.isSome o3.isSome o4.isSome o5.isSome (o0.getD 0) (o1.getD 0) 0 (o3.getD 0) (o4.getD 0) (o5.getD 0) x w
      | some y => exact with2_old o0.isSome o1.isSome o3.isSome o4.isSome o5.isSome (o0.getD 0) (o1.getD 0) y (o3.getD 0) (o4.getD 0) (o5.getD 0) x w
    · cases o3 with
      | none => exact with3_new o0.isSome o1.isSome o2.isSome o4.isSome o5.isSome (o0.getD 0) (o1.getD 0) (o2.getD 0) 0 (o4.getD 0) (o5.getD 0) x w
      | some y => exact with3_old o0.isSome o1.isSome o2.isSome o4.isSome o5.isSome (o0.getD 0) (o1.getD 0) (o2.getD 0) y (o4.getD 0) (o5.getD 0) x w
    · cases o4 with
      | none => exact with4_new o0.isSome o1.isSome o2.isSome o3.isSome o5.isSome (o0.getD 0) (o1.getD 0) (o2.getD 0) (o3.getD 0) 0 (o5.getD 0) x w
      | some y => exact with4_old o0.isSome o1.isSome o2.isSome o3.isSome o5.isSome (o0.getD 0) (o1.getD 0) (o2.getD 0) (o3.getD 0) y (o5.getD 0) x w
    · cases o5 with
      | none => exact with5_new o0.isSome o1.isSome o2.isSome o3.isSome o4.isSome (o0.getD 0) (o1.getD 0) (o2.getD 0) (o3.getD 0) (o4.getD 0) 0 x w
      | some y => exact with5_old o0.isSome o1.isSome o2.isSome o3.isSome o4.isSome (o0.getD 0) (o1.getD 0) (o2.getD 0) (o3.getD 0) (o4.getD 0) y x w

end Go.Proofs.Ytociphdhkjoofaa
