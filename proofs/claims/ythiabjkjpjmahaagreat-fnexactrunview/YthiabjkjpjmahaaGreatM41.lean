/- Several texts of one proof, in build order: RvX, MkP, IntM, ViewM, IntE. -/
import Derived.Test.YthiabjkjpjmahaaGreatM38
import Derived.Test.YthiabjkjpjmahaaGreatM40
import Derived.Test.YthiabjkjpjmahaaGreatM10
import Derived.Test.YthiabjkjpjmahaaGreatM22
import Derived.Test.YthiabjkjpjmahaaGreatM17
import Derived.Test.YthiabjkjpjmahaaGreatM30
import Derived.Test.YthiabjkjpjmahaaGreatM3

/- Contracts of RunView, the program's and the model's. -/
namespace Go.Proofs.YthiabjkjpjmahaaGreat
open Go.RowKit

/-- What RunView answers. -/
def rvT (v : ViewD) (l : List Tab) : Tab := tat (raL v l) ((raL v l).length - 1)
theorem OwnU.last {w : World} {lo hi : Nat} {a : Option Addr} {n c : Nat} {ss : List Tab} (h : OwnU w lo hi a n c ss) (hn : 0 < n) :
    ∃ g a' c' L H, a = some ⟨g, 0, none⟩ ∧ w.cell? ⟨g, (n - 1) * 2, none⟩ = some (.int .i64 (tat ss (n - 1)).1) ∧ w.cell? ⟨g, (n - 1) * 2 + 1, none⟩ = some (.slice a' (tat ss (n - 1)).2.length c') ∧ OwnT w L H a' (tat ss (n - 1)).2.length c' (tat ss (n - 1)).2 ∧ lo ≤ L ∧ H ≤ hi := by
  obtain ⟨cells, L, H, h⟩ := h
  rcases h.outer.2 with ⟨_, h0⟩ | ⟨g, cap, cur, hv, _⟩
  · omega
  · simp only [Value.slice.injEq, true_and] at hv
    obtain ⟨rfl, rfl⟩ := hv
    obtain ⟨a', c', k1, k2, k3⟩ := h.row (n - 1) (by omega)
    have hw := h.within (n - 1) (by omega)
    exact ⟨g, a', c', L (n - 1), H (n - 1), rfl, by rw [h.outer.cellAt _ (by omega)]; exact k1, by rw [h.outer.cellAt _ (by omega)]; exact k2, k3, hw.1, hw.2⟩
theorem raO_len {v : ViewD} {l ah : List Tab} (h : raO v l = some ah) : 0 < ah.length ∧ ah.length ≤ 12 := by
  unfold raO at h
  split at h
  · rename_i hc
    have h1 := runTo_some h
    cases hk : checkV v with
    | none => rw [(ck_none hk).1] at hc; simp at hc
    | some wd => have := checkV_good hk; omega
  · cases h

set_option maxRecDepth 100000 in
set_option maxHeartbeats 4000000 in
theorem implRunView (sa : Option Addr) (sn sc : Nat) (pa : Option Addr) (pn pc : Nat) (ss : List Int) (xs : List PartD) (la : Option Addr) (ln lc : Nat) (l : List Tab) (w : World) (hsz : ss.length = sn) (hz : xs.length = pn) (hs : SmView (ss, xs)) (hsa : At w sa ss) (ha : AtSl RPart w pa xs) (hl : SmU l ln) (hla : AtSM w la l) :
    Calls Tryz.prog 12 #[.agg #[.slice sa sn sc, .slice pa pn pc], .slice la ln lc] w fun e w' => TabAns e w' w.heap.size (raB (ss, xs) l) (rvT (ss, xs) l).1 (rvT (ss, xs) l).2 ∧ Below w.heap.size w w' := by
  obtain ⟨V, hV⟩ : ∃ V, V = w.alloc (.cells #[.slice sa sn sc, .slice pa pn pc] 26) := ⟨_, rfl⟩
  have bV : Below w.heap.size w V := by rw [hV]; exact (Below.refl _ _).alloc (Nat.le_refl _) _
  have zV : V.heap.size = w.heap.size + 1 := by rw [hV]; simp
  obtain ⟨W, hW⟩ : ∃ W, W = V.alloc (.cells #[.int .i64 0, .slice none 0 0] 32) := ⟨_, rfl⟩
  have bW : Below V.heap.size V W := by rw [hW]; exact (Below.refl _ _).alloc (Nat.le_refl _) _
  have q0 : W.heap[w.heap.size + 1]? = some (.cells #[.int .i64 0, .slice none 0 0] 32 (0, 0)) := by rw [hW, ← zV]; exact heap_alloc_new V _
  have B0 := bV.trans (bW.mono bV.size)
  have e0 := blk_cell q0 0 (v := .int .i64 0) rfl
  have e1 := blk_cell q0 1 (v := .slice none 0 0) rfl
  have f0 : W.frozen? ⟨w.heap.size + 1, 0, none⟩ = false := frozen_of_row _ _ 0 _ _ q0
  have f1 : W.frozen? ⟨w.heap.size + 1, 1, none⟩ = false := frozen_of_row _ _ 1 _ _ q0
  have v0 : W.cell? ⟨w.heap.size, 0, none⟩ = some (.slice sa sn sc) := cell_later bW (by rw [hV]; exact pair0 _ _ _ _)
  have v1 : W.cell? ⟨w.heap.size, 1, none⟩ = some (.slice pa pn pc) := cell_later bW (by rw [hV]; exact pair1 _ _ _ _)
  rw [hV] at hW
  have K := Hid.mk (implRunAll sa sn sc pa pn pc ss xs la ln lc l W hsz hz hs (hsa.below B0) (ha.below B0) hl (hla.below B0))
  have zW : w.heap.size + 1 < W.heap.size := World.block_lt_of_cell? _ _ e0
  clear hsz hz hs hsa ha hl hla bV bW q0 hV zV
  go_enter Tryz.func12, Tryz.ntmps12
  go_upto_region 1 with fail
  rw [← hW]
  clear hW
  go_wp2_with fail
  refine K.out.mono ?_
  rintro e w1 ⟨⟨r, m, d, rfl, ho⟩, hb1⟩
  have B1 := B0.trans (hb1.mono B0.size)
  have f0 := frozen_later hb1 e0 f0
  have f1 := frozen_later hb1 e1 f1
  have e0 := cell_later hb1 e0
  have e1 := cell_later hb1 e1
  have z1 := hb1.size
  clear K hb1 B0 v0 v1
  cases hr : raO (ss, xs) l with
  | none =>
    have HN := Hid.mk (ra_none hr).1
    clear hr ho
    go_wp2
    refine bodyPost_ret (v := .tuple #[.agg #[.int .i64 0, .slice none 0 0], .bool false]) (by simp [results, Tryz.results12, go_sem, e0, e1]) rfl ⟨TabAns.zero HN.out rfl, ?_⟩
    exact (B1.setCell (by show w.heap.size ≤ w.heap.size + 1; omega) _).setCell (by show w.heap.size ≤ w.heap.size + 1; omega) _
  | some ah =>
    rw [hr] at ho
    have ho : OwnU w1 W.heap.size w1.heap.size r m d ah := ho
    have hm : ah.length = m := ho.len
    have hl2 := raO_len hr
    obtain ⟨g, a', c', L, H, rfl, g0, g1, hT, hL, hH⟩ := ho.last (by omega)
    have e3 : rvT (ss, xs) l = tat ah (m - 1) := by unfold rvT; rw [(ra_some hr).2, hm]
    obtain ⟨⟨pp, us⟩, hpu⟩ : ∃ t, tat ah (m - 1) = t := ⟨_, rfl⟩
    rw [hpu] at g0 g1 hT e3
    simp only at g0 g1 hT
    obtain ⟨mm, hmm⟩ : ∃ mm, us.length = mm := ⟨_, rfl⟩
    rw [hmm] at g1 hT
    have HA : Hid (TabAns (.returned (.tuple #[.agg #[.int .i64 pp, .slice a' mm c'], .bool true])) ((w1.setCell ⟨w.heap.size + 1, 0, none⟩ (.int .i64 pp)).setCell ⟨w.heap.size + 1, 1, none⟩ (.slice a' mm c')) w.heap.size (raB (ss, xs) l) (rvT (ss, xs) l).1 (rvT (ss, xs) l).2) := by
      rw [(ra_some hr).1, e3]
      obtain ⟨cells, hT⟩ := hT
      have h9 := OwnWk.widen hT (Nat.le_refl L) (Nat.le_trans hH (Nat.le_refl _)) (Nat.le_refl w1.heap.size)
      exact ⟨a', _, c', cells, rfl, OwnWk.stored (R := w.heap.size + 1) (lo' := w.heap.size) h9 (by omega) (by omega) _ _⟩
    have HB : Hid (Below w.heap.size w ((w1.setCell ⟨w.heap.size + 1, 0, none⟩ (.int .i64 pp)).setCell ⟨w.heap.size + 1, 1, none⟩ (.slice a' mm c'))) := (B1.setCell (by show w.heap.size ≤ w.heap.size + 1; omega) _).setCell (by show w.heap.size ≤ w.heap.size + 1; omega) _
    have hj2 : m ≤ 12 := by omega
    have hj1 : 0 < m := by omega
    clear hr ho hm hl2 hT hL hH B1 e3 hpu hmm
    obtain ⟨j, hj⟩ : ∃ j, m = j + 1 := ⟨m - 1, by omega⟩
    subst hj
    rw [show j + 1 - 1 = j by omega] at g0 g1
    have e9 : ((j + 1 : Nat) : Int) - 1 = (j : Int) := by omega
    have hji : (j : Int) < ((j + 1 : Nat) : Int) := by omega
    go_wp2
    exact bodyPost_ret (v := .tuple #[.agg #[.int .i64 pp, .slice a' mm c'], .bool true]) (by simp [results, Tryz.results12, go_sem, e0, e1]) rfl ⟨HA.out, HB.out⟩

set_option maxRecDepth 100000 in
set_option maxHeartbeats 4000000 in
theorem specRunView (sa : Option Addr) (sn sc : Nat) (pa : Option Addr) (pn pc : Nat) (ss : List Int) (xs : List PartD) (la : Option Addr) (ln lc : Nat) (l : List Tab) (w : World) (hsz : ss.length = sn) (hz : xs.length = pn) (hs : SmView (ss, xs)) (hsa : At w sa ss) (ha : AtSl RPart w pa xs) (hl : SmU l ln) (hla : AtSM w la l) :
    Calls Tryz.prog 15 #[.agg #[.slice sa sn sc, .slice pa pn pc], .slice la ln lc] w fun e w' => TabAns e w' w.heap.size (raB (ss, xs) l) (rvT (ss, xs) l).1 (rvT (ss, xs) l).2 ∧ Below w.heap.size w w' := by
  obtain ⟨V, hV⟩ : ∃ V, V = w.alloc (.cells #[.slice sa sn sc, .slice pa pn pc] 26) := ⟨_, rfl⟩
  have bV : Below w.heap.size w V := by rw [hV]; exact (Below.refl _ _).alloc (Nat.le_refl _) _
  have zV : V.heap.size = w.heap.size + 1 := by rw [hV]; simp
  obtain ⟨W, hW⟩ : ∃ W, W = V.alloc (.cells #[.int .i64 0, .slice none 0 0] 32) := ⟨_, rfl⟩
  have bW : Below V.heap.size V W := by rw [hW]; exact (Below.refl _ _).alloc (Nat.le_refl _) _
  have q0 : W.heap[w.heap.size + 1]? = some (.cells #[.int .i64 0, .slice none 0 0] 32 (0, 0)) := by rw [hW, ← zV]; exact heap_alloc_new V _
  have B0 := bV.trans (bW.mono bV.size)
  have e0 := blk_cell q0 0 (v := .int .i64 0) rfl
  have e1 := blk_cell q0 1 (v := .slice none 0 0) rfl
  have f0 : W.frozen? ⟨w.heap.size + 1, 0, none⟩ = false := frozen_of_row _ _ 0 _ _ q0
  have f1 : W.frozen? ⟨w.heap.size + 1, 1, none⟩ = false := frozen_of_row _ _ 1 _ _ q0
  have v0 : W.cell? ⟨w.heap.size, 0, none⟩ = some (.slice sa sn sc) := cell_later bW (by rw [hV]; exact pair0 _ _ _ _)
  have v1 : W.cell? ⟨w.heap.size, 1, none⟩ = some (.slice pa pn pc) := cell_later bW (by rw [hV]; exact pair1 _ _ _ _)
  rw [hV] at hW
  have K := Hid.mk (specRunAll sa sn sc pa pn pc ss xs la ln lc l W hsz hz hs (hsa.below B0) (ha.below B0) hl (hla.below B0))
  have zW : w.heap.size + 1 < W.heap.size := World.block_lt_of_cell? _ _ e0
  clear hsz hz hs hsa ha hl hla bV bW q0 hV zV
  go_enter Tryz.func15, Tryz.ntmps15
  go_upto_region 1 with fail
  rw [← hW]
  clear hW
  go_wp2_with fail
  refine K.out.mono ?_
  rintro e w1 ⟨⟨r, m, d, rfl, ho⟩, hb1⟩
  have B1 := B0.trans (hb1.mono B0.size)
  have f0 := frozen_later hb1 e0 f0
  have f1 := frozen_later hb1 e1 f1
  have e0 := cell_later hb1 e0
  have e1 := cell_later hb1 e1
  have z1 := hb1.size
  clear K hb1 B0 v0 v1
  cases hr : raO (ss, xs) l with
  | none =>
    have HN := Hid.mk (ra_none hr).1
    clear hr ho
    go_wp2
    refine bodyPost_ret (v := .tuple #[.agg #[.int .i64 0, .slice none 0 0], .bool false]) (by simp [results, Tryz.results15, go_sem, e0, e1]) rfl ⟨TabAns.zero HN.out rfl, ?_⟩
    exact (B1.setCell (by show w.heap.size ≤ w.heap.size + 1; omega) _).setCell (by show w.heap.size ≤ w.heap.size + 1; omega) _
  | some ah =>
    rw [hr] at ho
    have ho : OwnU w1 W.heap.size w1.heap.size r m d ah := ho
    have hm : ah.length = m := ho.len
    have hl2 := raO_len hr
    obtain ⟨g, a', c', L, H, rfl, g0, g1, hT, hL, hH⟩ := ho.last (by omega)
    have e3 : rvT (ss, xs) l = tat ah (m - 1) := by unfold rvT; rw [(ra_some hr).2, hm]
    obtain ⟨⟨pp, us⟩, hpu⟩ : ∃ t, tat ah (m - 1) = t := ⟨_, rfl⟩
    rw [hpu] at g0 g1 hT e3
    simp only at g0 g1 hT
    obtain ⟨mm, hmm⟩ : ∃ mm, us.length = mm := ⟨_, rfl⟩
    rw [hmm] at g1 hT
    have HA : Hid (TabAns (.returned (.tuple #[.agg #[.int .i64 pp, .slice a' mm c'], .bool true])) ((w1.setCell ⟨w.heap.size + 1, 0, none⟩ (.int .i64 pp)).setCell ⟨w.heap.size + 1, 1, none⟩ (.slice a' mm c')) w.heap.size (raB (ss, xs) l) (rvT (ss, xs) l).1 (rvT (ss, xs) l).2) := by
      rw [(ra_some hr).1, e3]
      obtain ⟨cells, hT⟩ := hT
      have h9 := OwnWk.widen hT (Nat.le_refl L) (Nat.le_trans hH (Nat.le_refl _)) (Nat.le_refl w1.heap.size)
      exact ⟨a', _, c', cells, rfl, OwnWk.stored (R := w.heap.size + 1) (lo' := w.heap.size) h9 (by omega) (by omega) _ _⟩
    have HB : Hid (Below w.heap.size w ((w1.setCell ⟨w.heap.size + 1, 0, none⟩ (.int .i64 pp)).setCell ⟨w.heap.size + 1, 1, none⟩ (.slice a' mm c'))) := (B1.setCell (by show w.heap.size ≤ w.heap.size + 1; omega) _).setCell (by show w.heap.size ≤ w.heap.size + 1; omega) _
    have hj2 : m ≤ 12 := by omega
    have hj1 : 0 < m := by omega
    clear hr ho hm hl2 hT hL hH B1 e3 hpu hmm
    obtain ⟨j, hj⟩ : ∃ j, m = j + 1 := ⟨m - 1, by omega⟩
    subst hj
    rw [show j + 1 - 1 = j by omega] at g0 g1
    have e9 : ((j + 1 : Nat) : Int) - 1 = (j : Int) := by omega
    have hji : (j : Int) < ((j + 1 : Nat) : Int) := by omega
    go_wp2
    exact bodyPost_ret (v := .tuple #[.agg #[.int .i64 pp, .slice a' mm c'], .bool true]) (by simp [results, Tryz.results15, go_sem, e0, e1]) rfl ⟨HA.out, HB.out⟩

end Go.Proofs.YthiabjkjpjmahaaGreat

/- Plain: things as the laws mark them, one behind the other. -/
namespace Go.Proofs.YthiabjkjpjmahaaGreat
open Go.RowKit

def mkTests (m : Int) (es : List Tst) : List Tst := mkL (fun m _ => (m, m + 1, m + 2)) (fun _ => 3) m es
theorem flat_mk : ∀ (m : Int) (es : List Tst), flatE (mkTests m es) = marks m (es.length * 3)
  | m, [] => rfl
  | m, e :: es => by
    have ih := flat_mk (m + 3) es
    have e1 : flatE (mkTests m (e :: es)) = m :: (m + 1) :: (m + 2) :: flatE (mkTests (m + 3) es) := rfl
    rw [e1, ih, show (e :: es).length * 3 = es.length * 3 + 1 + 1 + 1 by simp; omega, marks_succ, marks_succ, marks_succ]
    rw [show m + 1 + 1 = m + 2 by omega, show m + 2 + 1 = m + 3 by omega]
/-- How many marks a part takes. -/
def psize (x : PartD) : Nat := 3 + x.ts.length * 3 + x.cs.length + tot x.ps x.ps.length
def mkPart (m : Int) (x : PartD) : PartD :=
  (m, m + 1, m + 2, mkTests (m + 3) x.ts, mkInts (m + 3 + (x.ts.length * 3 : Nat)) x.cs, mkPairs (m + 3 + (x.ts.length * 3 : Nat) + x.cs.length) x.ps)
def mkParts (m : Int) (xs : List PartD) : List PartD := mkL mkPart psize m xs
def mkView (m : Int) (v : ViewD) : ViewD := (mkInts m v.1, mkParts (m + v.1.length) v.2)
def vsize (v : ViewD) : Nat := v.1.length + szL psize v.2 v.2.length
theorem psize_le (x : PartD) : psize x ≤ 3 * pcost x + 3 := by unfold psize pcost; omega
theorem szL_psize (xs : List PartD) : ∀ k, k ≤ xs.length → szL psize xs k ≤ 3 * psum xs k + 3 * k
  | 0, _ => by simp [szL, psum]
  | k + 1, h => by
    have hx : xs[k]? = some xs[k] := List.getElem?_eq_getElem (by omega)
    have ih := szL_psize xs k (by omega)
    rw [szL_succ psize hx, psum_succ hx]
    have := psize_le xs[k]
    omega
theorem SmView.size {v : ViewD} (h : SmView v) : szL psize v.2 v.2.length ≤ 6291456 ∧ vsize v ≤ 8388608 := by
  have h1 := szL_psize v.2 v.2.length (Nat.le_refl _)
  unfold SmView vcost at h
  unfold vsize
  omega
/-- Views that the laws mark, hold and compare: each part within the bound, few parts or a bound on all. -/
structure Sm2 (v : ViewD) : Prop where
  src : v.1.length ≤ 1048576
  len : v.2.length ≤ 1048576
  part : ∀ {i : Nat} {x : PartD}, v.2[i]? = some x → SmPart x
  size : szL psize v.2 v.2.length ≤ 16777216 ∧ vsize v ≤ 17825792
theorem SmView.two {v : ViewD} (h : SmView v) : Sm2 v := ⟨h.src, h.len, fun hx => h.part hx, by have h1 := h.size; omega⟩
theorem Sm2.of {v : ViewD} (h1 : v.1.length ≤ 1048576) (h2 : v.2.length ≤ 1048576) (h3 : ∀ (i : Nat) (x : PartD), v.2[i]? = some x → SmPart x) (h4 : szL psize v.2 v.2.length ≤ 16777216) : Sm2 v :=
  ⟨h1, h2, fun hx => h3 _ _ hx, h4, by unfold vsize; omega⟩

end Go.Proofs.YthiabjkjpjmahaaGreat

/- Slices of numbers, marked, as things that are owned. -/
namespace Go.Proofs.YthiabjkjpjmahaaGreat
open Go.RowKit

theorem markInts_rep (F : Nat → Prop) (a : Option Addr) (n c : Nat) (zs : List Int) (m : Int) (w : World) (hn : n ≤ 1048576) (h0 : 0 ≤ m) (h1 : m ≤ 268435456) (ho : RInts.Own w F [.slice a n c] zs) :
    Calls Tryz.prog 57 #[.slice a n c, .int .i64 m] w fun e w' => e = .returned (.int .i64 (m + n)) ∧ RInts.Own w' F [.slice a n c] (mkInts m zs) ∧ Off F w w' := by
  obtain ⟨h2, h3, h4, h5⟩ := RInts.own_iff.1 ho
  refine (markIntS_any 0 a n c _ m w hn h0 (by omega) h4).mono fun e w' ⟨e1, e2, e3⟩ => ⟨e1, RInts.own_iff.2 ⟨by unfold mkInts; rw [marks_length, h2], h3, by unfold mkInts; rw [h2]; exact e2, h5⟩, Off.grown e3 h5⟩
end Go.Proofs.YthiabjkjpjmahaaGreat

/- Contracts of the laws' markIntSS, markPartS, markView over things that are owned. -/
namespace Go.Proofs.YthiabjkjpjmahaaGreat
open Go.RowKit

theorem markTests_rep (F : Nat → Prop) (a : Option Addr) (n c : Nat) (es : List Tst) (m : Int) (w : World) (hn : n ≤ 1048576) (h0 : 0 ≤ m) (h1 : m ≤ 268435456) (ho : RTests.Own w F [.slice a n c] es) :
    Calls Tryz.prog 96 #[.slice a n c, .int .i64 m] w fun e w' => e = .returned (.int .i64 (m + (n * 3 : Nat))) ∧ RTests.Own w' F [.slice a n c] (mkTests m es) ∧ Off F w w' := by
  obtain ⟨h2, h3, h4, h5⟩ := RTests.own_iff.1 ho
  refine (markTestS_any 0 a n c _ m w hn h0 (by omega) h4).mono fun e w' ⟨e1, e2, e3⟩ => ⟨e1, RTests.own_iff.2 ⟨by unfold mkTests; rw [mkL_length, h2], h3, by rw [flat_mk, h2]; exact e2, h5⟩, Off.grown e3 h5⟩

set_option maxRecDepth 100000 in
set_option maxHeartbeats 4000000 in
theorem markPairs_rep (F : Nat → Prop) (a : Option Addr) (n c : Nat) (zss : List (List Int)) (m : Int) (w : World) (hn : n ≤ 1048576) (ht : tot zss n ≤ 1048576) (h0 : 0 ≤ m) (h1 : m ≤ 134217728) (ho : RPairs.Own w F [.slice a n c] zss) :
    Calls Tryz.prog 97 #[.slice a n c, .int .i64 m] w fun e w' => e = .returned (.int .i64 (m + tot zss n)) ∧ RPairs.Own w' F [.slice a n c] (mkPairs m zss) ∧ Off F w w' := by
  obtain ⟨a', n', c', cells, G, he, hl⟩ := ho
  simp only [List.cons.injEq, Value.slice.injEq, and_true] at he
  obtain ⟨rfl, rfl, rfl⟩ := he
  go_enter Tryz.func97, Tryz.ntmps97
  go_wp2
  go_loopw [1, 5] (fun q i wr => ∃ k : Nat, k ≤ n ∧ i = .int .i64 k ∧ q = .int .i64 (m + tot zss k) ∧ Laid RInts wr F 23 a n c (mkTo (fun m zs => mkInts m zs) List.length m zss k) cells G n ∧ Off F w wr) (fun _ i _ => n - (intOf i).toNat)
  case atStart => exact ⟨0, Nat.zero_le _, rfl, by simp [tot_zero], by rw [mkTo_zero]; exact hl, Off.refl _ _⟩
  case round =>
    have hzl := hl.len
    clear hl
    obtain ⟨k, hk, rfl, rfl, hl, hof⟩ := hrel
    by_cases hlt : k < n
    · obtain ⟨ys, hy⟩ : ∃ ys, zss[k]? = some ys := ⟨_, List.getElem?_eq_getElem (by omega)⟩
      have hrow := hl.row k ys hlt (mkTo_next _ _ hy)
      obtain ⟨a2, n2, c2, _, _, he2, _⟩ := hrow
      have hrow := hl.row k ys hlt (mkTo_next _ _ hy)
      rw [he2] at hrow
      rcases hl.outer.2 with ⟨_, h00⟩ | ⟨g, cap, cur, hv, _⟩
      · omega
      simp only [Value.slice.injEq, true_and] at hv
      obtain ⟨rfl, rfl⟩ := hv
      have hcl : cells.length = n * 1 := hl.outer.1
      have hcx : wr.cell? ⟨g, k, none⟩ = some (.slice a2 n2 c2) := by
        rw [hl.outer.cellAt k (show k < n * 1 by omega)]
        have h9 := sub_at (cells := cells) (o := k * 1) (k := 1) (j := 0) (by omega)
        have he3 : sub cells (k * 1) 1 = [.slice a2 n2 c2] := he2
        rw [he3] at h9
        simpa using h9.symm
      have hly : ys.length = n2 := (RInts.own_iff.1 hrow).1
      have hts := tot_succ zss k (by omega)
      have hgk : zss.getD k [] = ys := by simp [List.getD, hy]
      rw [hgk, hly] at hts
      have htm := tot_mono zss (k + 1) n (by omega)
      have HL := Hid.mk hl
      have HR := Hid.mk hrow
      have HO := Hid.mk hof
      have HY := Hid.mk hy
      have HLY := Hid.mk hly
      obtain ⟨T, hT⟩ : ∃ T, tot zss k = T := ⟨_, rfl⟩
      have HT := Hid.mk hT
      rw [hT] at hts ⊢
      have hn2 : n2 ≤ 1048576 := by omega
      have hmT : m + (T : Int) ≤ 268435456 := by omega
      have hki : (k : Int) < (n : Int) := by omega
      have HTS := Hid.mk hts
      have HE2 := Hid.mk he2
      clear hl hrow hof hy hly hT hts hgk he2 hcl htm
      go_wp2_with fail
      refine (markInts_rep (G k) a2 n2 c2 ys (m + T) wr hn2 (by omega) hmT HR.out).mono ?_
      rintro e w2 ⟨rfl, o2, f2⟩
      have hturn := HL.out.turn (w' := w2) (cells' := cells) (x' := mkInts (m + T) ys) hlt (fun b hb hn1 _ => f2.block b hb hn1) (ownsRow_frame HL.out.outer (fun b hb hlb => f2.block b hlb (fun hG => (HL.out.rowF k b hlt hG).2 hb))) (fun _ _ => rfl) (by rw [HE2.out]; exact o2)
      have HLN : Hid (Laid RInts w2 F 23 (some ⟨g, 0, none⟩) n c (mkTo (fun m zs => mkInts m zs) List.length m zss (k + 1)) cells G n) := by
        have h9 := mkTo_set (fun m zs => mkInts m zs) List.length (m := m) HY.out
        rw [szL_pairs, HT.out] at h9
        show Laid _ _ _ _ _ _ _ _ _ _ _
        rw [← h9]
        exact hturn
      have HON : Hid (Off F w w2) := HO.out.trans (f2.mono (fun b hb => (HL.out.rowF k b hlt hb).1))
      clear hturn o2 f2
      go_wp2
      go_roundw
      case rel => exact ⟨k + 1, by omega, by go_num, by rw [HTS.out]; congr 1; push_cast; omega, HLN.out, HON.out⟩
      case measure => simp [intOf]; omega
    · obtain rfl : k = n := by omega
      have HL := Hid.mk hl
      clear hl
      go_wp2
      go_ret
      refine ⟨rfl, ⟨_, _, _, cells, G, rfl, ?_⟩, hof⟩
      have h9 := HL.out
      rw [mkTo_all _ _ _ _ hzl] at h9
      exact h9

theorem sub_six {zs : List Value} {o : Nat} {a b c d e f : Value} (h : sub zs o 6 = [a, b, c, d, e, f]) : zs[o]? = some a ∧ zs[o + 1]? = some b ∧ zs[o + 2]? = some c ∧ zs[o + 3]? = some d ∧ zs[o + 4]? = some e ∧ zs[o + 5]? = some f := by
  have g : ∀ j, j < 6 → zs[o + j]? = [a, b, c, d, e, f][j]? := fun j hj => by rw [← h, sub_at hj]
  exact ⟨g 0 (by omega), g 1 (by omega), g 2 (by omega), g 3 (by omega), g 4 (by omega), g 5 (by omega)⟩
theorem sub_set3 {zs : List Value} {o : Nat} {a b c d e f : Value} (h : sub zs o 6 = [a, b, c, d, e, f]) (hl : o + 6 ≤ zs.length) (x y z : Value) : sub (sets zs o [x, y, z]) o 6 = [x, y, z, d, e, f] := by
  obtain ⟨_, _, _, h3, h4, h5⟩ := sub_six h
  apply List.ext_getElem?
  intro j
  by_cases hj : j < 6
  · rw [sub_at hj]
    match j, hj with
    | 0, _ => exact sets_in zs o [x, y, z] 0 (by simp) (by simp; omega)
    | 1, _ => exact sets_in zs o [x, y, z] 1 (by simp) (by simp; omega)
    | 2, _ => exact sets_in zs o [x, y, z] 2 (by simp) (by simp; omega)
    | 3, _ => rw [sets_far _ _ _ _ (by simp)]; exact h3
    | 4, _ => rw [sets_far _ _ _ _ (by simp)]; exact h4
    | 5, _ => rw [sets_far _ _ _ _ (by simp)]; exact h5
  · rw [List.getElem?_eq_none (by simp [sub]; omega), List.getElem?_eq_none (by simp; omega)]

set_option maxRecDepth 100000 in
set_option maxHeartbeats 8000000 in
theorem markPartS_rep (F : Nat → Prop) (a : Option Addr) (n c : Nat) (xs : List PartD) (m : Int) (w : World) (hn : n ≤ 1048576) (hs : ∀ (i : Nat) (x : PartD), xs[i]? = some x → SmPart x) (ht : szL psize xs n ≤ 16777216) (h0 : 0 ≤ m) (h1 : m ≤ 33554432) (ho : RParts.Own w F [.slice a n c] xs) :
    Calls Tryz.prog 58 #[.slice a n c, .int .i64 m] w fun e w' => e = .returned (.int .i64 (m + szL psize xs n)) ∧ RParts.Own w' F [.slice a n c] (mkParts m xs) ∧ Off F w w' := by
  obtain ⟨a', n', c', cells, G, he, hl⟩ := ho
  simp only [List.cons.injEq, Value.slice.injEq, and_true] at he
  obtain ⟨rfl, rfl, rfl⟩ := he
  have HSM := Hid.mk hs
  clear hs
  go_enter Tryz.func58, Tryz.ntmps58
  go_wp2
  go_loopw [1, 5] (fun q i wr => ∃ (k : Nat) (cells : List Value), k ≤ n ∧ i = .int .i64 k ∧ q = .int .i64 (m + szL psize xs k) ∧ Laid RPart wr F 74 a n c (mkTo mkPart psize m xs k) cells G n ∧ Off F w wr) (fun _ i _ => n - (intOf i).toNat)
  case atStart => exact ⟨0, cells, Nat.zero_le _, rfl, by simp [szL], by rw [mkTo_zero]; exact hl, Off.refl _ _⟩
  case round =>
    have hzl := hl.len
    clear hl cells
    obtain ⟨k, cells, hk, rfl, rfl, hl, hof⟩ := hrel
    by_cases hlt : k < n
    · obtain ⟨x, hx⟩ : ∃ x, xs[k]? = some x := ⟨_, List.getElem?_eq_getElem (by omega)⟩
      have hrow := hl.row k x hlt (mkTo_next _ _ hx)
      obtain ⟨ta, tn, tc, ca, cn, cc, pa, pn, pc, F1, F2, F3, hcs, r1, r2, r3, d1, d2, d3, d12, d13, d23⟩ := RPart.own_open hrow
      rcases hl.outer.2 with ⟨_, h00⟩ | ⟨g, cap, cur, hv, _⟩
      · omega
      simp only [Value.slice.injEq, true_and] at hv
      obtain ⟨rfl, rfl⟩ := hv
      have hcl : cells.length = n * 6 := hl.outer.1
      have hcs6 : sub cells (k * 6) 6 = _ := hcs
      have hsm := HSM.out k x hx
      have ht1 : x.ts.length = tn := (RTests.own_iff.1 r1).1
      have hc1 : x.cs.length = cn := (RInts.own_iff.1 r2).1
      have hp1 : x.ps.length = pn := by obtain ⟨_, _, _, _, _, e9, l9⟩ := r3; simp only [List.cons.injEq, Value.slice.injEq, and_true] at e9; rw [l9.len, e9.2.1]
      have hs1 := hsm.1
      have hs2 := hsm.2.1
      have hs3 := hsm.2.2.1
      have hs4 := hsm.2.2.2
      have hts := szL_succ psize hx
      have htm := szL_mono psize xs (k + 1) n (by omega)
      have hps : psize x = 3 + tn * 3 + cn + tot x.ps pn := by unfold psize; rw [ht1, hc1, hp1]
      rw [ht1] at hs1
      rw [hc1] at hs2
      rw [hp1] at hs3 hs4
      have hgG : ¬ G k g := fun h => (hl.rowF k g hlt h).2 rfl
      have HL := Hid.mk hl
      have HO := Hid.mk hof
      have HX := Hid.mk hx
      obtain ⟨T, hT⟩ : ∃ T, szL psize xs k = T := ⟨_, rfl⟩
      have HT := Hid.mk hT
      rw [hT] at hts ⊢
      have HTS := Hid.mk hts
      have HPS := Hid.mk hps
      have HC6 := Hid.mk hcs6
      have hki : (k : Int) < (n : Int) := by omega
      obtain ⟨M, hM⟩ : ∃ M : Int, M = m + T := ⟨_, rfl⟩
      have hM0 : 0 ≤ M := by omega
      have hM1 : M ≤ 67108864 := by omega
      have HM := Hid.mk hM
      rw [← hM]
      have HT1 := Hid.mk ht1
      have HC1 := Hid.mk hc1
      have HP1 := Hid.mk hp1
      obtain ⟨u0, hu0⟩ : ∃ u, cells[k * 6]? = some u := ⟨_, List.getElem?_eq_getElem (by omega)⟩
      have q0 : wr.cell? ⟨g, k * 6, none⟩ = some u0 := (HL.out.outer.cellAt _ (show k * 6 < n * 6 by omega)).trans hu0
      have f0 : wr.frozen? ⟨g, k * 6, none⟩ = false := HL.out.outer.frozenAt _
      obtain ⟨u1, hu1⟩ : ∃ u, cells[k * 6 + 1]? = some u := ⟨_, List.getElem?_eq_getElem (by omega)⟩
      have q1 : wr.cell? ⟨g, k * 6 + 1, none⟩ = some u1 := (HL.out.outer.cellAt _ (show k * 6 + 1 < n * 6 by omega)).trans hu1
      have f1 : wr.frozen? ⟨g, k * 6 + 1, none⟩ = false := HL.out.outer.frozenAt _
      obtain ⟨u2, hu2⟩ : ∃ u, cells[k * 6 + 2]? = some u := ⟨_, List.getElem?_eq_getElem (by omega)⟩
      have q2 : wr.cell? ⟨g, k * 6 + 2, none⟩ = some u2 := (HL.out.outer.cellAt _ (show k * 6 + 2 < n * 6 by omega)).trans hu2
      have f2 : wr.frozen? ⟨g, k * 6 + 2, none⟩ = false := HL.out.outer.frozenAt _
      have q3 : wr.cell? ⟨g, k * 6 + 3, none⟩ = some (.slice ta tn tc) := (HL.out.outer.cellAt _ (show k * 6 + 3 < n * 6 by omega)).trans (sub_six hcs6).2.2.2.1
      have q4 : wr.cell? ⟨g, k * 6 + 4, none⟩ = some (.slice ca cn cc) := (HL.out.outer.cellAt _ (show k * 6 + 4 < n * 6 by omega)).trans (sub_six hcs6).2.2.2.2.1
      have q5 : wr.cell? ⟨g, k * 6 + 5, none⟩ = some (.slice pa pn pc) := (HL.out.outer.cellAt _ (show k * 6 + 5 < n * 6 by omega)).trans (sub_six hcs6).2.2.2.2.2
      obtain ⟨X, hX⟩ : ∃ u, u = ((wr.setCell ⟨g, k * 6, none⟩ (.int .i64 M)).setCell ⟨g, k * 6 + 1, none⟩ (.int .i64 (M + 1))).setCell ⟨g, k * 6 + 2, none⟩ (.int .i64 (M + 1 + 1)) := ⟨_, rfl⟩
      have hXs : X = stores wr g (k * 6) [.int .i64 M, .int .i64 (M + 1), .int .i64 (M + 2)] := by rw [hX, show M + 1 + 1 = M + 2 by omega]; rfl
      have oX : X.ownsRow 0 74 6 (.slice (some ⟨g, 0, none⟩) n c) n (sets cells (k * 6) [.int .i64 M, .int .i64 (M + 1), .int .i64 (M + 2)]) := by rw [hXs]; exact owns_stores HL.out.outer _ _
      have fX : Off (fun b => b = g) wr X := by rw [hXs]; exact stores_off (F := fun b => b = g) _ _ _ _ rfl
      have R1 : Hid (RTests.Own X F1 [.slice ta tn tc] x.ts) := RTests.ownOff r1 fX (fun b hb e => hgG (e ▸ d1 b hb))
      have R2 : Hid (RInts.Own X F2 [.slice ca cn cc] x.cs) := RInts.ownOff r2 fX (fun b hb e => hgG (e ▸ d2 b hb))
      have R3 : Hid (RPairs.Own X F3 [.slice pa pn pc] x.ps) := RPairs.ownOff r3 fX (fun b hb e => hgG (e ▸ d3 b hb))
      have x3 : X.cell? ⟨g, k * 6 + 3, none⟩ = some (.slice ta tn tc) := (oX.cellAt _ (show k * 6 + 3 < n * 6 by omega)).trans ((sets_far _ _ _ _ (by simp only [List.length_cons, List.length_nil]; omega)).trans (sub_six hcs6).2.2.2.1)
      have x4 : X.cell? ⟨g, k * 6 + 4, none⟩ = some (.slice ca cn cc) := (oX.cellAt _ (show k * 6 + 4 < n * 6 by omega)).trans ((sets_far _ _ _ _ (by simp only [List.length_cons, List.length_nil]; omega)).trans (sub_six hcs6).2.2.2.2.1)
      have x5 : X.cell? ⟨g, k * 6 + 5, none⟩ = some (.slice pa pn pc) := (oX.cellAt _ (show k * 6 + 5 < n * 6 by omega)).trans ((sets_far _ _ _ _ (by simp only [List.length_cons, List.length_nil]; omega)).trans (sub_six hcs6).2.2.2.2.2)
      have HOX := Hid.mk oX
      have HFX := Hid.mk fX
      have HD := Hid.mk (And.intro d1 (And.intro d2 (And.intro d3 (And.intro d12 (And.intro d13 d23)))))
      have HGG := Hid.mk hgG
      clear hl hrow hof hx hT hts hps hcs6 hcs hM ht1 hc1 hp1 hu0 hu1 hu2 hXs oX fX r1 r2 r3 d1 d2 d3 d12 d13 d23 hgG hsm htm hcl
      go_wp2_with fail
      rw [← hX]
      clear hX q0 q1 q2 q3 q4 q5 f0 f1 f2
      refine (markTests_rep F1 ta tn tc x.ts (M + 1 + 1 + 1) X hs1 (by omega) (by omega) R1.out).mono ?_
      rintro e w1 ⟨rfl, o1, g1⟩
      have x4 := g1.cell x4 (fun h => HGG.out (HD.out.1 _ h))
      have x5 := g1.cell x5 (fun h => HGG.out (HD.out.1 _ h))
      have O1 := Hid.mk o1
      have R2' := Hid.mk (RInts.ownOff R2.out g1 (fun b hb h => HD.out.2.2.2.1 b h hb))
      have R3' := Hid.mk (RPairs.ownOff R3.out g1 (fun b hb h => HD.out.2.2.2.2.1 b h hb))
      have G1 := Hid.mk g1
      clear o1 g1 R1 R2 R3 x3
      go_wp2_with fail
      refine (markInts_rep F2 ca cn cc x.cs (M + 1 + 1 + 1 + (tn * 3 : Nat)) w1 hs2 (by omega) (by omega) R2'.out).mono ?_
      rintro e w2 ⟨rfl, o2, g2⟩
      have x5 := g2.cell x5 (fun h => HGG.out (HD.out.2.1 _ h))
      have O2 := Hid.mk o2
      have O1' := Hid.mk (RTests.ownOff O1.out g2 (fun b hb h => HD.out.2.2.2.1 b hb h))
      have R3'' := Hid.mk (RPairs.ownOff R3'.out g2 (fun b hb h => HD.out.2.2.2.2.2 b h hb))
      have G2 := Hid.mk g2
      clear o2 g2 R2' R3' O1
      go_wp2_with fail
      refine (markPairs_rep F3 pa pn pc x.ps (M + 1 + 1 + 1 + (tn * 3 : Nat) + cn) w2 hs3 hs4 (by omega) (by omega) R3''.out).mono ?_
      rintro e w3 ⟨rfl, o3, g3⟩
      have O1'' := RTests.ownOff O1'.out g3 (fun b hb h => HD.out.2.2.2.2.1 b hb h)
      have O2' := RInts.ownOff O2.out g3 (fun b hb h => HD.out.2.2.2.2.2 b hb h)
      have hoff : Off (G k) X w3 := ((G1.out.mono HD.out.1).trans (G2.out.mono HD.out.2.1)).trans (g3.mono HD.out.2.2.1)
      have hturn := HL.out.turn (w' := w3) (cells' := sets cells (k * 6) [.int .i64 M, .int .i64 (M + 1), .int .i64 (M + 2)]) (x' := mkPart M x) hlt
        (fun b hb hn1 hn2 => (hoff.block b (Nat.lt_of_lt_of_le hb HFX.out.size) hn1).trans (HFX.out.block b hb (fun e => hn2 (by simp [Value.ownBlock, e]))))
        (ownsRow_frame HOX.out (fun b hb hlb => hoff.block b hlb (fun hG => (HL.out.rowF k b hlt hG).2 hb)))
        (fun j hj => sub_sets_far _ _ _ _ _ (by have := mul_far (k := 6) hj; simp only [List.length_cons, List.length_nil]; show j * 6 + 6 ≤ k * 6 ∨ k * 6 + 3 ≤ j * 6; omega))
        (by
          show RPart.Own w3 (G k) (sub (sets cells (k * 6) [.int .i64 M, .int .i64 (M + 1), .int .i64 (M + 2)]) (k * 6) 6) (mkPart M x)
          rw [sub_set3 HC6.out (by have h9 : cells.length = n * 6 := HL.out.outer.1; omega)]
          unfold mkPart
          rw [HT1.out, HC1.out]
          rw [show M + 1 + 1 + 1 = M + 3 by omega] at O1'' O2' o3
          exact RPart.own_mk O1'' O2' o3 HD.out.1 HD.out.2.1 HD.out.2.2.1 HD.out.2.2.2.1 HD.out.2.2.2.2.1 HD.out.2.2.2.2.2)
      have HLN : Hid (Laid RPart w3 F 74 (some ⟨g, 0, none⟩) n c (mkTo mkPart psize m xs (k + 1)) (sets cells (k * 6) [.int .i64 M, .int .i64 (M + 1), .int .i64 (M + 2)]) G n) := by
        have h9 := mkTo_set mkPart psize (m := m) HX.out
        rw [HT.out, ← HM.out] at h9
        show Laid _ _ _ _ _ _ _ _ _ _ _
        rw [← h9]
        exact hturn
      have HON : Hid (Off F w w3) := HO.out.trans ((HFX.out.mono (fun b hb => by rw [hb]; exact HL.out.outerF g rfl)).trans (hoff.mono (fun b hb => (HL.out.rowF k b hlt hb).1)))
      clear hturn hoff o3 g3 O1'' O2' G1 G2 O1' O2 R3'' x4 x5
      go_wp2
      go_roundw
      case rel => exact ⟨k + 1, _, by omega, by go_num, by rw [HTS.out, HPS.out, HM.out]; congr 1; push_cast; omega, HLN.out, HON.out⟩
      case measure => simp [intOf]; omega
    · obtain rfl : k = n := by omega
      have HL := Hid.mk hl
      clear hl
      go_wp2
      go_ret
      refine ⟨rfl, ⟨_, _, _, cells, G, rfl, ?_⟩, hof⟩
      have h9 := HL.out
      rw [mkTo_all _ _ _ _ hzl] at h9
      exact h9

set_option maxRecDepth 100000 in
set_option maxHeartbeats 2000000 in
theorem markView_rep (F : Nat → Prop) (sa : Option Addr) (sn sc : Nat) (pa : Option Addr) (pn pc : Nat) (ss : List Int) (xs : List PartD) (m : Int) (w : World) (hs : Sm2 (ss, xs)) (h0 : 0 ≤ m) (h1 : m ≤ 16777216) (hF : ∀ b, F b → b < w.heap.size) (ho : RView.Own w F [.slice sa sn sc, .slice pa pn pc] (ss, xs)) :
    Calls Tryz.prog 21 #[.agg #[.slice sa sn sc, .slice pa pn pc], .int .i64 m] w fun e w' => e = .returned (.int .i64 (m + vsize (ss, xs))) ∧ RView.Own w' F [.slice sa sn sc, .slice pa pn pc] (mkView m (ss, xs)) ∧ Off F w w' := by
  obtain ⟨c1, c2, F1, F2, hcc, h2, h3, d1, d2, d12⟩ := ho
  obtain ⟨a1, n1, k1, cells1, G1, rfl, l1⟩ := h2
  obtain ⟨a2, n2, k2, cells2, G2, rfl, l2⟩ := h3
  simp only [List.cons_append, List.nil_append, List.cons.injEq, Value.slice.injEq, and_true] at hcc
  obtain ⟨⟨rfl, rfl, rfl⟩, rfl, rfl, rfl⟩ := hcc
  have r1 : RInts.Own w F1 [.slice sa sn sc] ss := ⟨_, _, _, _, _, rfl, l1⟩
  have r2 : RParts.Own w F2 [.slice pa pn pc] xs := ⟨_, _, _, _, _, rfl, l2⟩
  have hz1 : ss.length = sn := l1.len
  have hz2 : xs.length = pn := l2.len
  have hv : vsize (ss, xs) = sn + szL psize xs pn := by unfold vsize; simp only; rw [hz1, hz2]
  have hsn : sn ≤ 1048576 := by have := hs.src; simp only at this; omega
  have hpn : pn ≤ 1048576 := by have := hs.len; simp only at this; omega
  have hsz := hs.size
  rw [hv] at hsz ⊢
  simp only [hz2] at hsz
  have HS : Hid (∀ (i : Nat) (x : PartD), xs[i]? = some x → SmPart x) := fun i x hx => hs.part hx
  obtain ⟨W, hW⟩ : ∃ W, W = w.alloc (.cells #[.slice sa sn sc, .slice pa pn pc] 26) := ⟨_, rfl⟩
  have B0 : Below w.heap.size w W := by rw [hW]; exact (Below.refl _ _).alloc (Nat.le_refl _) _
  have q1 : W.cell? ⟨w.heap.size, 1, none⟩ = some (.slice pa pn pc) := by rw [hW]; simp
  have R1 := Hid.mk (RInts.ownBelow r1 B0)
  have R2 := Hid.mk (RParts.ownBelow r2 B0)
  have HD := Hid.mk (And.intro d1 (And.intro d2 d12))
  have HZ1 := Hid.mk hz1
  have HF1 : Hid (¬ F1 w.heap.size) := fun h => by have := hF _ (d1 _ h); omega
  have htp := hsz.1
  clear l1 l2 r1 r2 d1 d2 d12 hz1 hz2 hv hs hsz
  go_enter Tryz.func21, Tryz.ntmps21
  go_wp2_with fail
  rw [← hW]
  clear hW
  refine (markInts_rep F1 sa sn sc ss m W hsn h0 (by omega) R1.out).mono ?_
  rintro e w1 ⟨rfl, o1, g1⟩
  have q1 := g1.cell q1 HF1.out
  have O1 := Hid.mk o1
  have R2' := Hid.mk (RParts.ownOff R2.out g1 (fun b hb h => HD.out.2.2 b h hb))
  have G1 := Hid.mk g1
  clear o1 g1 R1 R2
  go_wp2_with fail
  refine (markPartS_rep F2 pa pn pc xs (m + sn) w1 hpn HS.out htp (by omega) (by omega) R2'.out).mono ?_
  rintro e w2 ⟨rfl, o2, g2⟩
  have HR : Hid (RView.Own w2 F [.slice sa sn sc, .slice pa pn pc] (mkView m (ss, xs))) := by
    show RView.Own _ _ _ _
    unfold mkView
    simp only [HZ1.out]
    exact ⟨[_], [_], F1, F2, rfl, RInts.ownOff O1.out g2 (fun b hb h => HD.out.2.2 b hb h), o2, HD.out.1, HD.out.2.1, HD.out.2.2⟩
  have HO : Hid (Off F w w2) := (Off.below B0).trans ((G1.out.mono HD.out.1).trans (g2.mono HD.out.2.1))
  clear o2 g2 O1 R2' G1 q1
  go_wp2
  go_ret
  exact ⟨ret_int (by push_cast; omega), HR.out, HO.out⟩

end Go.Proofs.YthiabjkjpjmahaaGreat

/- Slices of numbers that are alike are held equal. -/
namespace Go.Proofs.YthiabjkjpjmahaaGreat
open Go.RowKit

theorem eqIntS_same (a a' : Option Addr) (n c c' : Nat) (zs : List Int) (w : World) (hz : zs.length = n) (hn : n ≤ 1048576) (ha : At w a zs) (ha' : At w a' zs) :
    Calls Tryz.prog 55 #[.slice a n c, .slice a' n c'] w fun e w' => e = .returned (.bool true) ∧ Below w.heap.size w w' :=
  (eqIntS_any a a' n n c c' zs zs w hz hz hn hn ha ha').mono fun _ _ ⟨h1, h2⟩ => ⟨by rw [h1, decide_eq_true rfl], h2⟩
end Go.Proofs.YthiabjkjpjmahaaGreat
