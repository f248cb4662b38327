/- Several texts of one proof, in build order: MkP, PushQ, TestL, ViewM. -/
import Derived.Test.YthdcjelahoiepabM7
import Derived.Test.YthdcjelahoiepabM24
import Derived.Test.YthdcjelahoiepabM6
import Derived.Test.YthdcjelahoiepabM11

/- Plain: things as the laws mark them, one behind the other. -/
namespace Go.Proofs.Ythdcjelahoiepab
open Go.RowKit

section
variable {α : Type} (f : Int → α → α) (sz : α → Nat)
def mkL : Int → List α → List α
  | _, [] => []
  | m, x :: xs => f m x :: mkL (m + sz x) xs
def szL (xs : List α) (k : Nat) : Nat := ((xs.take k).map sz).sum
theorem mkL_length : ∀ (m : Int) (xs : List α), (mkL f sz m xs).length = xs.length
  | _, [] => rfl
  | m, x :: xs => by simp [mkL, mkL_length]
theorem szL_succ {xs : List α} {k : Nat} {x : α} (h : xs[k]? = some x) : szL sz xs (k + 1) = szL sz xs k + sz x := by
  have hk := (List.getElem?_eq_some_iff.1 h).1
  unfold szL
  rw [List.take_succ_eq_append_getElem hk, List.map_append, List.sum_append, (List.getElem?_eq_some_iff.1 h).2]
  simp
theorem mkL_at : ∀ (m : Int) (xs : List α) (k : Nat) (x : α), xs[k]? = some x → (mkL f sz m xs)[k]? = some (f (m + szL sz xs k) x)
  | m, y :: xs, 0, x, h => by
    simp at h
    subst h
    simp [mkL, szL]
  | m, y :: xs, k + 1, x, h => by
    have ih := mkL_at (m + sz y) xs k x (by simpa using h)
    have e : szL sz (y :: xs) (k + 1) = sz y + szL sz xs k := by simp [szL]
    rw [e]
    simp only [mkL, List.getElem?_cons_succ, ih]
    congr 2
    omega
/-- The first k are marked. -/
def mkTo (m : Int) (xs : List α) (k : Nat) : List α := (mkL f sz m xs).take k ++ xs.drop k
theorem mkTo_zero (m : Int) (xs : List α) : mkTo f sz m xs 0 = xs := by simp [mkTo]
theorem mkTo_all (m : Int) (xs : List α) {n : Nat} (h : xs.length = n) : mkTo f sz m xs n = mkL f sz m xs := by
  unfold mkTo
  rw [List.take_of_length_le (by rw [mkL_length]; omega), List.drop_of_length_le (by omega), List.append_nil]
theorem mkTo_next {m : Int} {xs : List α} {k : Nat} {x : α} (h : xs[k]? = some x) : (mkTo f sz m xs k)[k]? = some x := by
  have hk := (List.getElem?_eq_some_iff.1 h).1
  unfold mkTo
  have hl : ((mkL f sz m xs).take k).length = k := by rw [List.length_take, mkL_length]; omega
  rw [List.getElem?_append_right (by omega), hl, Nat.sub_self]
  simpa using h
theorem mkTo_set {m : Int} {xs : List α} {k : Nat} {x : α} (h : xs[k]? = some x) : (mkTo f sz m xs k).set k (f (m + szL sz xs k) x) = mkTo f sz m xs (k + 1) := by
  have hk := (List.getElem?_eq_some_iff.1 h).1
  have hm := mkL_at f sz m xs k x h
  have hl : ((mkL f sz m xs).take k).length = k := by rw [List.length_take, mkL_length]; omega
  unfold mkTo
  rw [List.set_append_right _ _ (by omega), hl, Nat.sub_self, List.drop_eq_getElem_cons hk, List.set_cons_zero]
  obtain ⟨hk2, hm2⟩ := List.getElem?_eq_some_iff.1 hm
  rw [List.take_succ_eq_append_getElem hk2, hm2, List.append_assoc]
  rfl
theorem mkTo_length (m : Int) (xs : List α) (k : Nat) : (mkTo f sz m xs k).length = xs.length := by
  unfold mkTo
  rw [List.length_append, List.length_take, List.length_drop, mkL_length]
  omega
end

def mkInts (m : Int) (zs : List Int) : List Int := marks m zs.length
def mkPairs (m : Int) (ps : List (List Int)) : List (List Int) := mkL (fun m zs => mkInts m zs) List.length m ps
def mkTests (m : Int) (es : List Tst) : List Tst := mkL (fun m _ => (m, m + 1, m + 2)) (fun _ => 3) m es
theorem szL_pairs (ps : List (List Int)) (k : Nat) : szL List.length ps k = tot ps k := rfl
theorem marks_succ (m : Int) (n : Nat) : marks m (n + 1) = m :: marks (m + 1) n := by
  unfold marks
  rw [List.range_succ_eq_map, List.map_cons, List.map_map]
  simp only [List.cons.injEq]
  refine ⟨by simp, ?_⟩
  apply List.map_congr_left
  intro i _
  simp only [Function.comp]
  push_cast
  omega
theorem flat_mk : ∀ (m : Int) (es : List Tst), flatE (mkTests m es) = marks m (es.length * 3)
  | m, [] => rfl
  | m, e :: es => by
    have ih := flat_mk (m + 3) es
    have e1 : flatE (mkTests m (e :: es)) = m :: (m + 1) :: (m + 2) :: flatE (mkTests (m + 3) es) := rfl
    rw [e1, ih, show (e :: es).length * 3 = es.length * 3 + 1 + 1 + 1 by simp; omega, marks_succ, marks_succ, marks_succ]
    rw [show m + 1 + 1 = m + 2 by omega, show m + 2 + 1 = m + 3 by omega]
/-- How many marks a part takes. -/
def psize (x : PartD) : Nat := 3 + x.ts.length * 3 + x.cs.length + tot x.ps x.ps.length
def mkPart (m : Int) (x : PartD) : PartD :=
  (m, m + 1, m + 2, mkTests (m + 3) x.ts, mkInts (m + 3 + (x.ts.length * 3 : Nat)) x.cs, mkPairs (m + 3 + (x.ts.length * 3 : Nat) + x.cs.length) x.ps)
def mkParts (m : Int) (xs : List PartD) : List PartD := mkL mkPart psize m xs
def mkView (m : Int) (v : ViewD) : ViewD := (mkInts m v.1, mkParts (m + v.1.length) v.2)
def vsize (v : ViewD) : Nat := v.1.length + szL psize v.2 v.2.length
theorem psize_le (x : PartD) : psize x ≤ 3 * pcost x + 3 := by unfold psize pcost; omega
theorem szL_psize (xs : List PartD) : ∀ k, k ≤ xs.length → szL psize xs k ≤ 3 * psum xs k + 3 * k
  | 0, _ => by simp [szL, psum]
  | k + 1, h => by
    have hx : xs[k]? = some xs[k] := List.getElem?_eq_getElem (by omega)
    have ih := szL_psize xs k (by omega)
    rw [szL_succ psize hx, psum_succ hx]
    have := psize_le xs[k]
    omega
theorem SmView.size {v : ViewD} (h : SmView v) : szL psize v.2 v.2.length ≤ 6291456 ∧ vsize v ≤ 8388608 := by
  have h1 := szL_psize v.2 v.2.length (Nat.le_refl _)
  unfold SmView vcost at h
  unfold vsize
  omega
/-- Views that the laws mark, hold and compare: each part within the bound, few parts or a bound on all. -/
structure Sm2 (v : ViewD) : Prop where
  src : v.1.length ≤ 1048576
  len : v.2.length ≤ 1048576
  part : ∀ {i : Nat} {x : PartD}, v.2[i]? = some x → SmPart x
  size : szL psize v.2 v.2.length ≤ 16777216 ∧ vsize v ≤ 17825792
theorem SmView.two {v : ViewD} (h : SmView v) : Sm2 v := ⟨h.src, h.len, fun hx => h.part hx, by have h1 := h.size; omega⟩
theorem Sm2.of {v : ViewD} (h1 : v.1.length ≤ 1048576) (h2 : v.2.length ≤ 1048576) (h3 : ∀ (i : Nat) (x : PartD), v.2[i]? = some x → SmPart x) (h4 : szL psize v.2 v.2.length ≤ 16777216) : Sm2 v :=
  ⟨h1, h2, fun hx => h3 _ _ hx, h4, by unfold vsize; omega⟩
theorem szL_mono {α : Type} (sz : α → Nat) (xs : List α) (j k : Nat) (h : j ≤ k) : szL sz xs j ≤ szL sz xs k := by
  obtain ⟨d, rfl⟩ := Nat.le.dest h
  induction d with
  | zero => exact Nat.le_refl _
  | succ d ih =>
    by_cases hk : j + d < xs.length
    · rw [show j + (d + 1) = (j + d) + 1 from rfl, szL_succ sz (List.getElem?_eq_getElem hk)]; have := ih (by omega); omega
    · have e1 : szL sz xs (j + (d + 1)) = szL sz xs (j + d) := by unfold szL; rw [List.take_of_length_le (by omega), List.take_of_length_le (by omega)]
      rw [e1]; exact ih (by omega)

end Go.Proofs.Ythdcjelahoiepab

/- What PushDown answers is small. -/
namespace Go.Proofs.Ythdcjelahoiepab
open Go.RowKit

theorem pushed_len {xs : List PartD} (h : xs.length ≤ 12) : (pushed xs).length ≤ 12 := by
  cases hs : selU xs with
  | none => rw [pushed_none hs]; exact h
  | some xu =>
    obtain ⟨y, u⟩ := xu
    by_cases hb : 12 < xs.length + 2
    · rw [pushed_many hb]; exact h
    · rw [pushed_some hs hb, List.length_append, List.length_take]
      simp
      omega
theorem szL_all {α : Type} (sz : α → Nat) (xs : List α) : szL sz xs xs.length = (xs.map sz).sum := by unfold szL; rw [List.take_length]
theorem sum_take {α : Type} (sz : α → Nat) (xs : List α) (n : Nat) : ((xs.take n).map sz).sum ≤ (xs.map sz).sum := by
  have h := List.take_append_drop n xs
  have h2 : (xs.map sz).sum = ((xs.take n ++ xs.drop n).map sz).sum := by rw [h]
  rw [h2, List.map_append, List.sum_append]
  omega
theorem pushed_size {xs : List PartD} (h : ∀ (i : Nat) (x : PartD), xs[i]? = some x → pcost x ≤ 1048576) (hx : szL psize xs xs.length ≤ 6291456) : szL psize (pushed xs) (pushed xs).length ≤ 16777216 := by
  cases hs : selU xs with
  | none => rw [pushed_none hs]; omega
  | some xu =>
    obtain ⟨y, u⟩ := xu
    by_cases hb : 12 < xs.length + 2
    · rw [pushed_many hb]; omega
    · have h1 := sum_take psize xs (xs.length - 1)
      have h2 := h _ _ (selU_open hs).1
      have h3 : y.ts.length ≤ 1048576 := by unfold pcost at h2; omega
      have e1 : ∀ A : Int, psize (2, A, 0, y.ts, [], []) ≤ 3 * 1048576 + 3 := fun A => by
        have h4 := psize_le (2, A, 0, y.ts, [], [])
        have h5 : pcost (2, A, 0, y.ts, [], []) = y.ts.length := by show y.ts.length + 0 + (0 + 0) = _; omega
        rw [h5] at h4
        omega
      have e3 : ∀ A B : Int, psize (5, A, B, [], [], []) ≤ 3 := fun A B => by
        have h4 := psize_le (5, A, B, [], [], [])
        have h5 : pcost (5, A, B, [], [], []) = 0 := rfl
        rw [h5] at h4
        omega
      have g1 := e1 u.A
      have g2 := e1 u.B
      have g3 := e3 ((xs.length - 1 : Nat) : Int) (((xs.length - 1 : Nat) : Int) + 1)
      rw [szL_all] at hx
      rw [szL_all, pushed_some hs hb, List.map_append, List.sum_append]
      simp only [List.map_cons, List.map_nil, List.sum_cons, List.sum_nil]
      omega
theorem pd_small {v : ViewD} (h : SmView v) : Sm2 (pdV v) := by
  unfold pdV
  split
  · rename_i hc
    cases hck : checkV v with
    | none => rw [(ck_none hck).1] at hc; cases hc
    | some ah =>
      have hg := checkV_good hck
      have hl := pushed_len hg.2.2.1
      exact Sm2.of h.src (by simp only; omega) (fun i x hx => (pushed_parts (fun i x hx => ⟨(good_parts hck i x hx).1, (good_parts hck i x hx).2.1, h.part hx⟩) i x hx).2.2) (pushed_size (fun i x hx => by
        have h1 := psum_each rfl hx
        have h2 : vcost v ≤ 1048576 := h
        unfold vcost at h2
        omega) h.size.1)
  · exact Sm2.of (Nat.zero_le _) (Nat.zero_le _) (fun i x hx => by simp at hx) (Nat.zero_le _)

end Go.Proofs.Ythdcjelahoiepab

/- markTestS, and the laws' helpers over lists of tests in one form. -/
namespace Go.Proofs.Ythdcjelahoiepab
open Go.RowKit

set_option maxRecDepth 100000 in
set_option maxHeartbeats 2000000 in
theorem markTestS_any (base : Nat) (a : Option Addr) (n c : Nat) (cs : List Value) (m : Int) (w : World) (hn : n ≤ 1048576) (h0 : 0 ≤ m) (h1 : m ≤ 1073741824) (hown : w.ownsRow base 102 3 (.slice a n c) n cs) :
    Calls Try.prog 40 #[.slice a n c, .int .i64 m] w fun e w' => e = .returned (.int .i64 (m + (n * 3 : Nat))) ∧
      w'.ownsRow base 102 3 (.slice a n c) n ((marks m (n * 3)).map (.int .i64)) ∧ w.grownBy w' (Value.slice a n c).ownBlock := by
  rcases hown.2 with ⟨hv, h00⟩ | ⟨g, cap, cur, hv, hjunk⟩
  · simp only [Value.slice.injEq] at hv
    obtain ⟨rfl, rfl, rfl⟩ := hv
    go_enter Try.func40, Try.ntmps40
    go_wp2
    refine wp_loop_rounds 1 ?_
    rw [rounds_succ]
    go_wp2
    go_ret
    exact ⟨by simp, by simpa [marks] using World.ownsRow_nil w base 102 3, World.grownBy.refl _ _⟩
  · simp only [Value.slice.injEq, true_and] at hv
    obtain ⟨rfl, rfl⟩ := hv
    clear hjunk
    have hu0 := Upto.zero (cs := cs) (zs := marks m (n * 3)) (by rw [marks_length]; simpa using hown.1)
    go_enter Try.func40, Try.ntmps40
    go_wp2
    go_loopw [1, 5] (fun q i wr => ∃ (k : Nat) (cs : List Value), k ≤ n ∧ i = .int .i64 k ∧ q = .int .i64 (m + 3 * (k : Int)) ∧ Upto cs (marks m (n * 3)) (k * 3) ∧ wr.ownsRow base 102 3 (.slice (some ⟨g, 0, none⟩) n c) n cs ∧ w.grownBy wr (some g)) (fun _ i _ => n - (intOf i).toNat)
    case atStart => exact ⟨0, cs, Nat.zero_le _, rfl, by simp, hu0, hown, World.grownBy.refl _ _⟩
    case round =>
      clear hown hu0 cs
      obtain ⟨k, cs, hk, rfl, rfl, hu, hown, hbw⟩ := hrel
      by_cases hlt : k < n
      · have hlen : cs.length = n * 3 := by rw [hu.1, marks_length]
        have hset := hu.set3 (by rw [marks_length]; omega)
        rw [marks_getD m (n * 3) (k * 3) (by omega), marks_getD m (n * 3) (k * 3 + 1) (by omega), marks_getD m (n * 3) (k * 3 + 2) (by omega)] at hset
        obtain ⟨x, hx⟩ : ∃ x : Int, x = m + 3 * (k : Int) := ⟨_, rfl⟩
        rw [show m + ((k * 3 : Nat) : Int) = x by omega, show m + ((k * 3 + 1 : Nat) : Int) = x + 1 by omega, show m + ((k * 3 + 2 : Nat) : Int) = x + 1 + 1 by omega] at hset
        have HU := Hid.mk hset
        have HX := Hid.mk hx
        have x0 : 0 ≤ x := by omega
        have x1 : x ≤ 1077000000 := by omega
        rw [← hx]
        clear hset hu hx
        obtain ⟨u0, hu0⟩ : ∃ u, cs[k * 3]? = some u := ⟨_, List.getElem?_eq_getElem (by omega)⟩
        obtain ⟨u1, hu1⟩ : ∃ u, cs[k * 3 + 1]? = some u := ⟨_, List.getElem?_eq_getElem (by omega)⟩
        obtain ⟨u2, hu2⟩ : ∃ u, cs[k * 3 + 2]? = some u := ⟨_, List.getElem?_eq_getElem (by omega)⟩
        have q0 : wr.cell? ⟨g, k * 3, none⟩ = some u0 := (hown.cellAt _ (by omega)).trans hu0
        have q1 : wr.cell? ⟨g, k * 3 + 1, none⟩ = some u1 := (hown.cellAt _ (by omega)).trans hu1
        have q2 : wr.cell? ⟨g, k * 3 + 2, none⟩ = some u2 := (hown.cellAt _ (by omega)).trans hu2
        have p0 : wr.frozen? ⟨g, k * 3, none⟩ = false := hown.frozenAt _
        have p1 : wr.frozen? ⟨g, k * 3 + 1, none⟩ = false := hown.frozenAt _
        have p2 : wr.frozen? ⟨g, k * 3 + 2, none⟩ = false := hown.frozenAt _
        have s1 := hown.stored (k * 3) (.int .i64 x)
        have s2 := s1.1.stored (k * 3 + 1) (.int .i64 (x + 1))
        have s3 := s2.1.stored (k * 3 + 2) (.int .i64 (x + 1 + 1))
        have HO := Hid.mk s3.1
        have HB := Hid.mk (grown_trans (grown_trans (grown_trans hbw s1.2) s2.2) s3.2)
        have hki : (k : Int) < (n : Int) := by omega
        clear s1 s2 s3 hu0 hu1 hu2 hown hbw
        go_wp2
        go_roundw
        case rel => exact ⟨k + 1, _, by omega, by go_num, by have := HX.out; first | (go_num; omega) | (congr 1; omega), HU.out, HO.out, HB.out⟩
        case measure => simp [intOf]; omega
      · obtain rfl : k = n := by omega
        rw [hu.all (by rw [marks_length]; omega)] at hown
        go_wp2
        go_ret
        exact ⟨ret_int (by omega), hown, hbw⟩

/-- A list of tests that the laws' bound allows. -/
def SmE (es : List Tst) (n : Nat) : Prop := es.length = n ∧ n ≤ 1048576
theorem SmE.n {es : List Tst} {n : Nat} (h : SmE es n) : n ≤ 1048576 := h.2
def OwnF (w : World) (lo hi : Nat) (a : Option Addr) (n c : Nat) (zs : List Int) : Prop :=
  w.ownsRow lo 102 3 (.slice a n c) n (zs.map (.int .i64)) ∧ (∀ k, (Value.slice a n c).ownBlock = some k → lo ≤ k ∧ k < hi)
/-- A slice of tests that the call made: its block lies from lo on and below hi. -/
def OwnE (w : World) (lo hi : Nat) (a : Option Addr) (n c : Nat) (es : List Tst) : Prop := OwnF w lo hi a n c (flatE es)

section
variable {w w' : World} {lo hi : Nat} {a : Option Addr} {n c : Nat} {es : List Tst} {zs : List Int}
theorem OwnF.below (h : OwnF w lo hi a n c zs) (hb : Below w.heap.size w w') : OwnF w' lo hi a n c zs := ⟨h.1.kept (Below.toGrown hb none) (by simp; exact Classical.em _), h.2⟩
theorem OwnF.apartW {lo' hi' : Nat} (h : OwnF w lo hi a n c zs) (hp : Apart lo' hi' w w') (hd : hi ≤ lo' ∨ hi' ≤ lo) : OwnF w' lo hi a n c zs := ⟨hp.owns h.1 (fun k hk => by have := h.2 k hk; omega), h.2⟩
theorem OwnE.below (h : OwnE w lo hi a n c es) (hb : Below w.heap.size w w') : OwnE w' lo hi a n c es := OwnF.below h hb
theorem OwnE.apartW {lo' hi' : Nat} (h : OwnE w lo hi a n c es) (hp : Apart lo' hi' w w') (hd : hi ≤ lo' ∨ hi' ≤ lo) : OwnE w' lo hi a n c es := OwnF.apartW h hp hd
theorem OwnE.atE (h : OwnE w lo hi a n c es) (_hs : SmE es n) : AtE w a es := At.owned3 h.1
end

theorem toTestSG (a : Option Addr) (n c : Nat) (es : List Tst) (w : World) (hs : SmE es n) (ha : AtE w a es) :
    Calls Try.prog 50 #[.slice a n c] w fun e w' => ∃ g, e = .returned (.slice (some ⟨g, 0, none⟩) n n) ∧ OwnE w' w.heap.size w'.heap.size (some ⟨g, 0, none⟩) n n es ∧ Below w.heap.size w w' :=
  (toTestS_any a n c es w hs.1 hs.2 ha).mono fun _ _ ⟨h1, h2, h3⟩ => ⟨_, h1, ⟨h2, fun k hk => h2.lt k hk⟩, h3⟩
theorem eqTestSG (a a' : Option Addr) (n c c' : Nat) (es : List Tst) (w : World) (hs : SmE es n) (ha : AtE w a es) (ha' : AtE w a' es) :
    Calls Try.prog 53 #[.slice a n c, .slice a' n c'] w fun e w' => e = .returned (.bool true) ∧ Below w.heap.size w w' :=
  eqTestS_same a a' n c c' es w hs.1 hs.2 ha ha'
theorem markTestSG (lo hi : Nat) (a : Option Addr) (n c : Nat) (es : List Tst) (m : Int) (w : World) (hs : SmE es n) (h0 : 0 ≤ m) (h1 : m ≤ 268435456) (ho : OwnE w lo hi a n c es) :
    Calls Try.prog 40 #[.slice a n c, .int .i64 m] w fun e w' => e = .returned (.int .i64 (m + (n * 3 : Nat))) ∧ OwnF w' lo hi a n c (marks m (n * 3)) ∧ Apart lo hi w w' :=
  (markTestS_any lo a n c _ m w hs.2 h0 (by omega) ho.1).mono fun _ _ ⟨h1, h2, h3⟩ => ⟨h1, ⟨h2, ho.2⟩, Apart.grown h3 ho.2⟩

end Go.Proofs.Ythdcjelahoiepab

/- Contracts of the laws' markIntSS, markPartS, markView over things that are owned. -/
namespace Go.Proofs.Ythdcjelahoiepab
open Go.RowKit

theorem markInts_rep (F : Nat → Prop) (a : Option Addr) (n c : Nat) (zs : List Int) (m : Int) (w : World) (hn : n ≤ 1048576) (h0 : 0 ≤ m) (h1 : m ≤ 268435456) (ho : RInts.Own w F [.slice a n c] zs) :
    Calls Try.prog 27 #[.slice a n c, .int .i64 m] w fun e w' => e = .returned (.int .i64 (m + n)) ∧ RInts.Own w' F [.slice a n c] (mkInts m zs) ∧ Off F w w' := by
  obtain ⟨h2, h3, h4, h5⟩ := RInts.own_iff.1 ho
  refine (markIntS_any 0 a n c _ m w hn h0 (by omega) h4).mono fun e w' ⟨e1, e2, e3⟩ => ⟨e1, RInts.own_iff.2 ⟨by unfold mkInts; rw [marks_length, h2], h3, by unfold mkInts; rw [h2]; exact e2, h5⟩, Off.grown e3 h5⟩
theorem markTests_rep (F : Nat → Prop) (a : Option Addr) (n c : Nat) (es : List Tst) (m : Int) (w : World) (hn : n ≤ 1048576) (h0 : 0 ≤ m) (h1 : m ≤ 268435456) (ho : RTests.Own w F [.slice a n c] es) :
    Calls Try.prog 40 #[.slice a n c, .int .i64 m] w fun e w' => e = .returned (.int .i64 (m + (n * 3 : Nat))) ∧ RTests.Own w' F [.slice a n c] (mkTests m es) ∧ Off F w w' := by
  obtain ⟨h2, h3, h4, h5⟩ := RTests.own_iff.1 ho
  refine (markTestS_any 0 a n c _ m w hn h0 (by omega) h4).mono fun e w' ⟨e1, e2, e3⟩ => ⟨e1, RTests.own_iff.2 ⟨by unfold mkTests; rw [mkL_length, h2], h3, by rw [flat_mk, h2]; exact e2, h5⟩, Off.grown e3 h5⟩

set_option maxRecDepth 100000 in
set_option maxHeartbeats 4000000 in
theorem markPairs_rep (F : Nat → Prop) (a : Option Addr) (n c : Nat) (zss : List (List Int)) (m : Int) (w : World) (hn : n ≤ 1048576) (ht : tot zss n ≤ 1048576) (h0 : 0 ≤ m) (h1 : m ≤ 134217728) (ho : RPairs.Own w F [.slice a n c] zss) :
    Calls Try.prog 41 #[.slice a n c, .int .i64 m] w fun e w' => e = .returned (.int .i64 (m + tot zss n)) ∧ RPairs.Own w' F [.slice a n c] (mkPairs m zss) ∧ Off F w w' := by
  obtain ⟨a', n', c', cells, G, he, hl⟩ := ho
  simp only [List.cons.injEq, Value.slice.injEq, and_true] at he
  obtain ⟨rfl, rfl, rfl⟩ := he
  go_enter Try.func41, Try.ntmps41
  go_wp2
  go_loopw [1, 5] (fun q i wr => ∃ k : Nat, k ≤ n ∧ i = .int .i64 k ∧ q = .int .i64 (m + tot zss k) ∧ Laid RInts wr F 22 a n c (mkTo (fun m zs => mkInts m zs) List.length m zss k) cells G n ∧ Off F w wr) (fun _ i _ => n - (intOf i).toNat)
  case atStart => exact ⟨0, Nat.zero_le _, rfl, by simp [tot_zero], by rw [mkTo_zero]; exact hl, Off.refl _ _⟩
  case round =>
    have hzl := hl.len
    clear hl
    obtain ⟨k, hk, rfl, rfl, hl, hof⟩ := hrel
    by_cases hlt : k < n
    · obtain ⟨ys, hy⟩ : ∃ ys, zss[k]? = some ys := ⟨_, List.getElem?_eq_getElem (by omega)⟩
      have hrow := hl.row k ys hlt (mkTo_next _ _ hy)
      obtain ⟨a2, n2, c2, _, _, he2, _⟩ := hrow
      have hrow := hl.row k ys hlt (mkTo_next _ _ hy)
      rw [he2] at hrow
      rcases hl.outer.2 with ⟨_, h00⟩ | ⟨g, cap, cur, hv, _⟩
      · omega
      simp only [Value.slice.injEq, true_and] at hv
      obtain ⟨rfl, rfl⟩ := hv
      have hcl : cells.length = n * 1 := hl.outer.1
      have hcx : wr.cell? ⟨g, k, none⟩ = some (.slice a2 n2 c2) := by
        rw [hl.outer.cellAt k (show k < n * 1 by omega)]
        have h9 := sub_at (cells := cells) (o := k * 1) (k := 1) (j := 0) (by omega)
        have he3 : sub cells (k * 1) 1 = [.slice a2 n2 c2] := he2
        rw [he3] at h9
        simpa using h9.symm
      have hly : ys.length = n2 := (RInts.own_iff.1 hrow).1
      have hts := tot_succ zss k (by omega)
      have hgk : zss.getD k [] = ys := by simp [List.getD, hy]
      rw [hgk, hly] at hts
      have htm := tot_mono zss (k + 1) n (by omega)
      have HL := Hid.mk hl
      have HR := Hid.mk hrow
      have HO := Hid.mk hof
      have HY := Hid.mk hy
      have HLY := Hid.mk hly
      obtain ⟨T, hT⟩ : ∃ T, tot zss k = T := ⟨_, rfl⟩
      have HT := Hid.mk hT
      rw [hT] at hts ⊢
      have hn2 : n2 ≤ 1048576 := by omega
      have hmT : m + (T : Int) ≤ 268435456 := by omega
      have hki : (k : Int) < (n : Int) := by omega
      have HTS := Hid.mk hts
      have HE2 := Hid.mk he2
      clear hl hrow hof hy hly hT hts hgk he2 hcl htm
      go_wp2_with fail
      refine (markInts_rep (G k) a2 n2 c2 ys (m + T) wr hn2 (by omega) hmT HR.out).mono ?_
      rintro e w2 ⟨rfl, o2, f2⟩
      have hturn := HL.out.turn (w' := w2) (cells' := cells) (x' := mkInts (m + T) ys) hlt (fun b hb hn1 _ => f2.block b hb hn1) (ownsRow_frame HL.out.outer (fun b hb hlb => f2.block b hlb (fun hG => (HL.out.rowF k b hlt hG).2 hb))) (fun _ _ => rfl) (by rw [HE2.out]; exact o2)
      have HLN : Hid (Laid RInts w2 F 22 (some ⟨g, 0, none⟩) n c (mkTo (fun m zs => mkInts m zs) List.length m zss (k + 1)) cells G n) := by
        have h9 := mkTo_set (fun m zs => mkInts m zs) List.length (m := m) HY.out
        rw [szL_pairs, HT.out] at h9
        show Laid _ _ _ _ _ _ _ _ _ _ _
        rw [← h9]
        exact hturn
      have HON : Hid (Off F w w2) := HO.out.trans (f2.mono (fun b hb => (HL.out.rowF k b hlt hb).1))
      clear hturn o2 f2
      go_wp2
      go_roundw
      case rel => exact ⟨k + 1, by omega, by go_num, by rw [HTS.out]; congr 1; push_cast; omega, HLN.out, HON.out⟩
      case measure => simp [intOf]; omega
    · obtain rfl : k = n := by omega
      have HL := Hid.mk hl
      clear hl
      go_wp2
      go_ret
      refine ⟨rfl, ⟨_, _, _, cells, G, rfl, ?_⟩, hof⟩
      have h9 := HL.out
      rw [mkTo_all _ _ _ _ hzl] at h9
      exact h9

theorem sub_six {zs : List Value} {o : Nat} {a b c d e f : Value} (h : sub zs o 6 = [a, b, c, d, e, f]) : zs[o]? = some a ∧ zs[o + 1]? = some b ∧ zs[o + 2]? = some c ∧ zs[o + 3]? = some d ∧ zs[o + 4]? = some e ∧ zs[o + 5]? = some f := by
  have g : ∀ j, j < 6 → zs[o + j]? = [a, b, c, d, e, f][j]? := fun j hj => by rw [← h, sub_at hj]
  exact ⟨g 0 (by omega), g 1 (by omega), g 2 (by omega), g 3 (by omega), g 4 (by omega), g 5 (by omega)⟩
theorem sub_set3 {zs : List Value} {o : Nat} {a b c d e f : Value} (h : sub zs o 6 = [a, b, c, d, e, f]) (hl : o + 6 ≤ zs.length) (x y z : Value) : sub (sets zs o [x, y, z]) o 6 = [x, y, z, d, e, f] := by
  obtain ⟨_, _, _, h3, h4, h5⟩ := sub_six h
  apply List.ext_getElem?
  intro j
  by_cases hj : j < 6
  · rw [sub_at hj]
    match j, hj with
    | 0, _ => exact sets_in zs o [x, y, z] 0 (by simp) (by simp; omega)
    | 1, _ => exact sets_in zs o [x, y, z] 1 (by simp) (by simp; omega)
    | 2, _ => exact sets_in zs o [x, y, z] 2 (by simp) (by simp; omega)
    | 3, _ => rw [sets_far _ _ _ _ (by simp)]; exact h3
    | 4, _ => rw [sets_far _ _ _ _ (by simp)]; exact h4
    | 5, _ => rw [sets_far _ _ _ _ (by simp)]; exact h5
  · rw [List.getElem?_eq_none (by simp [sub]; omega), List.getElem?_eq_none (by simp; omega)]

set_option maxRecDepth 100000 in
set_option maxHeartbeats 8000000 in
theorem markPartS_rep (F : Nat → Prop) (a : Option Addr) (n c : Nat) (xs : List PartD) (m : Int) (w : World) (hn : n ≤ 1048576) (hs : ∀ (i : Nat) (x : PartD), xs[i]? = some x → SmPart x) (ht : szL psize xs n ≤ 16777216) (h0 : 0 ≤ m) (h1 : m ≤ 33554432) (ho : RParts.Own w F [.slice a n c] xs) :
    Calls Try.prog 28 #[.slice a n c, .int .i64 m] w fun e w' => e = .returned (.int .i64 (m + szL psize xs n)) ∧ RParts.Own w' F [.slice a n c] (mkParts m xs) ∧ Off F w w' := by
  obtain ⟨a', n', c', cells, G, he, hl⟩ := ho
  simp only [List.cons.injEq, Value.slice.injEq, and_true] at he
  obtain ⟨rfl, rfl, rfl⟩ := he
  have HSM := Hid.mk hs
  clear hs
  go_enter Try.func28, Try.ntmps28
  go_wp2
  go_loopw [1, 5] (fun q i wr => ∃ (k : Nat) (cells : List Value), k ≤ n ∧ i = .int .i64 k ∧ q = .int .i64 (m + szL psize xs k) ∧ Laid RPart wr F 45 a n c (mkTo mkPart psize m xs k) cells G n ∧ Off F w wr) (fun _ i _ => n - (intOf i).toNat)
  case atStart => exact ⟨0, cells, Nat.zero_le _, rfl, by simp [szL], by rw [mkTo_zero]; exact hl, Off.refl _ _⟩
  case round =>
    have hzl := hl.len
    clear hl cells
    obtain ⟨k, cells, hk, rfl, rfl, hl, hof⟩ := hrel
    by_cases hlt : k < n
    · obtain ⟨x, hx⟩ : ∃ x, xs[k]? = some x := ⟨_, List.getElem?_eq_getElem (by omega)⟩
      have hrow := hl.row k x hlt (mkTo_next _ _ hx)
      obtain ⟨ta, tn, tc, ca, cn, cc, pa, pn, pc, F1, F2, F3, hcs, r1, r2, r3, d1, d2, d3, d12, d13, d23⟩ := RPart.own_open hrow
      rcases hl.outer.2 with ⟨_, h00⟩ | ⟨g, cap, cur, hv, _⟩
      · omega
      simp only [Value.slice.injEq, true_and] at hv
      obtain ⟨rfl, rfl⟩ := hv
      have hcl : cells.length = n * 6 := hl.outer.1
      have hcs6 : sub cells (k * 6) 6 = _ := hcs
      have hsm := HSM.out k x hx
      have ht1 : x.ts.length = tn := (RTests.own_iff.1 r1).1
      have hc1 : x.cs.length = cn := (RInts.own_iff.1 r2).1
      have hp1 : x.ps.length = pn := by obtain ⟨_, _, _, _, _, e9, l9⟩ := r3; simp only [List.cons.injEq, Value.slice.injEq, and_true] at e9; rw [l9.len, e9.2.1]
      have hs1 := hsm.1
      have hs2 := hsm.2.1
      have hs3 := hsm.2.2.1
      have hs4 := hsm.2.2.2
      have hts := szL_succ psize hx
      have htm := szL_mono psize xs (k + 1) n (by omega)
      have hps : psize x = 3 + tn * 3 + cn + tot x.ps pn := by unfold psize; rw [ht1, hc1, hp1]
      rw [ht1] at hs1
      rw [hc1] at hs2
      rw [hp1] at hs3 hs4
      have hgG : ¬ G k g := fun h => (hl.rowF k g hlt h).2 rfl
      have HL := Hid.mk hl
      have HO := Hid.mk hof
      have HX := Hid.mk hx
      obtain ⟨T, hT⟩ : ∃ T, szL psize xs k = T := ⟨_, rfl⟩
      have HT := Hid.mk hT
      rw [hT] at hts ⊢
      have HTS := Hid.mk hts
      have HPS := Hid.mk hps
      have HC6 := Hid.mk hcs6
      have hki : (k : Int) < (n : Int) := by omega
      obtain ⟨M, hM⟩ : ∃ M : Int, M = m + T := ⟨_, rfl⟩
      have hM0 : 0 ≤ M := by omega
      have hM1 : M ≤ 67108864 := by omega
      have HM := Hid.mk hM
      rw [← hM]
      have HT1 := Hid.mk ht1
      have HC1 := Hid.mk hc1
      have HP1 := Hid.mk hp1
      obtain ⟨u0, hu0⟩ : ∃ u, cells[k * 6]? = some u := ⟨_, List.getElem?_eq_getElem (by omega)⟩
      have q0 : wr.cell? ⟨g, k * 6, none⟩ = some u0 := (HL.out.outer.cellAt _ (show k * 6 < n * 6 by omega)).trans hu0
      have f0 : wr.frozen? ⟨g, k * 6, none⟩ = false := HL.out.outer.frozenAt _
      obtain ⟨u1, hu1⟩ : ∃ u, cells[k * 6 + 1]? = some u := ⟨_, List.getElem?_eq_getElem (by omega)⟩
      have q1 : wr.cell? ⟨g, k * 6 + 1, none⟩ = some u1 := (HL.out.outer.cellAt _ (show k * 6 + 1 < n * 6 by omega)).trans hu1
      have f1 : wr.frozen? ⟨g, k * 6 + 1, none⟩ = false := HL.out.outer.frozenAt _
      obtain ⟨u2, hu2⟩ : ∃ u, cells[k * 6 + 2]? = some u := ⟨_, List.getElem?_eq_getElem (by omega)⟩
      have q2 : wr.cell? ⟨g, k * 6 + 2, none⟩ = some u2 := (HL.out.outer.cellAt _ (show k * 6 + 2 < n * 6 by omega)).trans hu2
      have f2 : wr.frozen? ⟨g, k * 6 + 2, none⟩ = false := HL.out.outer.frozenAt _
      have q3 : wr.cell? ⟨g, k * 6 + 3, none⟩ = some (.slice ta tn tc) := (HL.out.outer.cellAt _ (show k * 6 + 3 < n * 6 by omega)).trans (sub_six hcs6).2.2.2.1
      have q4 : wr.cell? ⟨g, k * 6 + 4, none⟩ = some (.slice ca cn cc) := (HL.out.outer.cellAt _ (show k * 6 + 4 < n * 6 by omega)).trans (sub_six hcs6).2.2.2.2.1
      have q5 : wr.cell? ⟨g, k * 6 + 5, none⟩ = some (.slice pa pn pc) := (HL.out.outer.cellAt _ (show k * 6 + 5 < n * 6 by omega)).trans (sub_six hcs6).2.2.2.2.2
      obtain ⟨X, hX⟩ : ∃ u, u = ((wr.setCell ⟨g, k * 6, none⟩ (.int .i64 M)).setCell ⟨g, k * 6 + 1, none⟩ (.int .i64 (M + 1))).setCell ⟨g, k * 6 + 2, none⟩ (.int .i64 (M + 1 + 1)) := ⟨_, rfl⟩
      have hXs : X = stores wr g (k * 6) [.int .i64 M, .int .i64 (M + 1), .int .i64 (M + 2)] := by rw [hX, show M + 1 + 1 = M + 2 by omega]; rfl
      have oX : X.ownsRow 0 45 6 (.slice (some ⟨g, 0, none⟩) n c) n (sets cells (k * 6) [.int .i64 M, .int .i64 (M + 1), .int .i64 (M + 2)]) := by rw [hXs]; exact owns_stores HL.out.outer _ _
      have fX : Off (fun b => b = g) wr X := by rw [hXs]; exact stores_off (F := fun b => b = g) _ _ _ _ rfl
      have R1 : Hid (RTests.Own X F1 [.slice ta tn tc] x.ts) := RTests.ownOff r1 fX (fun b hb e => hgG (e ▸ d1 b hb))
      have R2 : Hid (RInts.Own X F2 [.slice ca cn cc] x.cs) := RInts.ownOff r2 fX (fun b hb e => hgG (e ▸ d2 b hb))
      have R3 : Hid (RPairs.Own X F3 [.slice pa pn pc] x.ps) := RPairs.ownOff r3 fX (fun b hb e => hgG (e ▸ d3 b hb))
      have x3 : X.cell? ⟨g, k * 6 + 3, none⟩ = some (.slice ta tn tc) := (oX.cellAt _ (show k * 6 + 3 < n * 6 by omega)).trans ((sets_far _ _ _ _ (by simp only [List.length_cons, List.length_nil]; omega)).trans (sub_six hcs6).2.2.2.1)
      have x4 : X.cell? ⟨g, k * 6 + 4, none⟩ = some (.slice ca cn cc) := (oX.cellAt _ (show k * 6 + 4 < n * 6 by omega)).trans ((sets_far _ _ _ _ (by simp only [List.length_cons, List.length_nil]; omega)).trans (sub_six hcs6).2.2.2.2.1)
      have x5 : X.cell? ⟨g, k * 6 + 5, none⟩ = some (.slice pa pn pc) := (oX.cellAt _ (show k * 6 + 5 < n * 6 by omega)).trans ((sets_far _ _ _ _ (by simp only [List.length_cons, List.length_nil]; omega)).trans (sub_six hcs6).2.2.2.2.2)
      have HOX := Hid.mk oX
      have HFX := Hid.mk fX
      have HD := Hid.mk (And.intro d1 (And.intro d2 (And.intro d3 (And.intro d12 (And.intro d13 d23)))))
      have HGG := Hid.mk hgG
      clear hl hrow hof hx hT hts hps hcs6 hcs hM ht1 hc1 hp1 hu0 hu1 hu2 hXs oX fX r1 r2 r3 d1 d2 d3 d12 d13 d23 hgG hsm htm hcl
      go_wp2_with fail
      rw [← hX]
      clear hX q0 q1 q2 q3 q4 q5 f0 f1 f2
      refine (markTests_rep F1 ta tn tc x.ts (M + 1 + 1 + 1) X hs1 (by omega) (by omega) R1.out).mono ?_
      rintro e w1 ⟨rfl, o1, g1⟩
      have x4 := g1.cell x4 (fun h => HGG.out (HD.out.1 _ h))
      have x5 := g1.cell x5 (fun h => HGG.out (HD.out.1 _ h))
      have O1 := Hid.mk o1
      have R2' := Hid.mk (RInts.ownOff R2.out g1 (fun b hb h => HD.out.2.2.2.1 b h hb))
      have R3' := Hid.mk (RPairs.ownOff R3.out g1 (fun b hb h => HD.out.2.2.2.2.1 b h hb))
      have G1 := Hid.mk g1
      clear o1 g1 R1 R2 R3 x3
      go_wp2_with fail
      refine (markInts_rep F2 ca cn cc x.cs (M + 1 + 1 + 1 + (tn * 3 : Nat)) w1 hs2 (by omega) (by omega) R2'.out).mono ?_
      rintro e w2 ⟨rfl, o2, g2⟩
      have x5 := g2.cell x5 (fun h => HGG.out (HD.out.2.1 _ h))
      have O2 := Hid.mk o2
      have O1' := Hid.mk (RTests.ownOff O1.out g2 (fun b hb h => HD.out.2.2.2.1 b hb h))
      have R3'' := Hid.mk (RPairs.ownOff R3'.out g2 (fun b hb h => HD.out.2.2.2.2.2 b h hb))
      have G2 := Hid.mk g2
      clear o2 g2 R2' R3' O1
      go_wp2_with fail
      refine (markPairs_rep F3 pa pn pc x.ps (M + 1 + 1 + 1 + (tn * 3 : Nat) + cn) w2 hs3 hs4 (by omega) (by omega) R3''.out).mono ?_
      rintro e w3 ⟨rfl, o3, g3⟩
      have O1'' := RTests.ownOff O1'.out g3 (fun b hb h => HD.out.2.2.2.2.1 b hb h)
      have O2' := RInts.ownOff O2.out g3 (fun b hb h => HD.out.2.2.2.2.2 b hb h)
      have hoff : Off (G k) X w3 := ((G1.out.mono HD.out.1).trans (G2.out.mono HD.out.2.1)).trans (g3.mono HD.out.2.2.1)
      have hturn := HL.out.turn (w' := w3) (cells' := sets cells (k * 6) [.int .i64 M, .int .i64 (M + 1), .int .i64 (M + 2)]) (x' := mkPart M x) hlt
        (fun b hb hn1 hn2 => (hoff.block b (Nat.lt_of_lt_of_le hb HFX.out.size) hn1).trans (HFX.out.block b hb (fun e => hn2 (by simp [Value.ownBlock, e]))))
        (ownsRow_frame HOX.out (fun b hb hlb => hoff.block b hlb (fun hG => (HL.out.rowF k b hlt hG).2 hb)))
        (fun j hj => sub_sets_far _ _ _ _ _ (by have := mul_far (k := 6) hj; simp only [List.length_cons, List.length_nil]; show j * 6 + 6 ≤ k * 6 ∨ k * 6 + 3 ≤ j * 6; omega))
        (by
          show RPart.Own w3 (G k) (sub (sets cells (k * 6) [.int .i64 M, .int .i64 (M + 1), .int .i64 (M + 2)]) (k * 6) 6) (mkPart M x)
          rw [sub_set3 HC6.out (by have h9 : cells.length = n * 6 := HL.out.outer.1; omega)]
          unfold mkPart
          rw [HT1.out, HC1.out]
          rw [show M + 1 + 1 + 1 = M + 3 by omega] at O1'' O2' o3
          exact RPart.own_mk O1'' O2' o3 HD.out.1 HD.out.2.1 HD.out.2.2.1 HD.out.2.2.2.1 HD.out.2.2.2.2.1 HD.out.2.2.2.2.2)
      have HLN : Hid (Laid RPart w3 F 45 (some ⟨g, 0, none⟩) n c (mkTo mkPart psize m xs (k + 1)) (sets cells (k * 6) [.int .i64 M, .int .i64 (M + 1), .int .i64 (M + 2)]) G n) := by
        have h9 := mkTo_set mkPart psize (m := m) HX.out
        rw [HT.out, ← HM.out] at h9
        show Laid _ _ _ _ _ _ _ _ _ _ _
        rw [← h9]
        exact hturn
      have HON : Hid (Off F w w3) := HO.out.trans ((HFX.out.mono (fun b hb => by rw [hb]; exact HL.out.outerF g rfl)).trans (hoff.mono (fun b hb => (HL.out.rowF k b hlt hb).1)))
      clear hturn hoff o3 g3 O1'' O2' G1 G2 O1' O2 R3'' x4 x5
      go_wp2
      go_roundw
      case rel => exact ⟨k + 1, _, by omega, by go_num, by rw [HTS.out, HPS.out, HM.out]; congr 1; push_cast; omega, HLN.out, HON.out⟩
      case measure => simp [intOf]; omega
    · obtain rfl : k = n := by omega
      have HL := Hid.mk hl
      clear hl
      go_wp2
      go_ret
      refine ⟨rfl, ⟨_, _, _, cells, G, rfl, ?_⟩, hof⟩
      have h9 := HL.out
      rw [mkTo_all _ _ _ _ hzl] at h9
      exact h9

set_option maxRecDepth 100000 in
set_option maxHeartbeats 2000000 in
theorem markView_rep (F : Nat → Prop) (sa : Option Addr) (sn sc : Nat) (pa : Option Addr) (pn pc : Nat) (ss : List Int) (xs : List PartD) (m : Int) (w : World) (hs : Sm2 (ss, xs)) (h0 : 0 ≤ m) (h1 : m ≤ 16777216) (hF : ∀ b, F b → b < w.heap.size) (ho : RView.Own w F [.slice sa sn sc, .slice pa pn pc] (ss, xs)) :
    Calls Try.prog 12 #[.agg #[.slice sa sn sc, .slice pa pn pc], .int .i64 m] w fun e w' => e = .returned (.int .i64 (m + vsize (ss, xs))) ∧ RView.Own w' F [.slice sa sn sc, .slice pa pn pc] (mkView m (ss, xs)) ∧ Off F w w' := by
  obtain ⟨c1, c2, F1, F2, hcc, h2, h3, d1, d2, d12⟩ := ho
  obtain ⟨a1, n1, k1, cells1, G1, rfl, l1⟩ := h2
  obtain ⟨a2, n2, k2, cells2, G2, rfl, l2⟩ := h3
  simp only [List.cons_append, List.nil_append, List.cons.injEq, Value.slice.injEq, and_true] at hcc
  obtain ⟨⟨rfl, rfl, rfl⟩, rfl, rfl, rfl⟩ := hcc
  have r1 : RInts.Own w F1 [.slice sa sn sc] ss := ⟨_, _, _, _, _, rfl, l1⟩
  have r2 : RParts.Own w F2 [.slice pa pn pc] xs := ⟨_, _, _, _, _, rfl, l2⟩
  have hz1 : ss.length = sn := l1.len
  have hz2 : xs.length = pn := l2.len
  have hv : vsize (ss, xs) = sn + szL psize xs pn := by unfold vsize; simp only; rw [hz1, hz2]
  have hsn : sn ≤ 1048576 := by have := hs.src; simp only at this; omega
  have hpn : pn ≤ 1048576 := by have := hs.len; simp only at this; omega
  have hsz := hs.size
  rw [hv] at hsz ⊢
  simp only [hz2] at hsz
  have HS : Hid (∀ (i : Nat) (x : PartD), xs[i]? = some x → SmPart x) := fun i x hx => hs.part hx
  obtain ⟨W, hW⟩ : ∃ W, W = w.alloc (.cells #[.slice sa sn sc, .slice pa pn pc] 31) := ⟨_, rfl⟩
  have B0 : Below w.heap.size w W := by rw [hW]; exact (Below.refl _ _).alloc (Nat.le_refl _) _
  have q1 : W.cell? ⟨w.heap.size, 1, none⟩ = some (.slice pa pn pc) := by rw [hW]; simp
  have R1 := Hid.mk (RInts.ownBelow r1 B0)
  have R2 := Hid.mk (RParts.ownBelow r2 B0)
  have HD := Hid.mk (And.intro d1 (And.intro d2 d12))
  have HZ1 := Hid.mk hz1
  have HF1 : Hid (¬ F1 w.heap.size) := fun h => by have := hF _ (d1 _ h); omega
  have htp := hsz.1
  clear l1 l2 r1 r2 d1 d2 d12 hz1 hz2 hv hs hsz
  go_enter Try.func12, Try.ntmps12
  go_wp2_with fail
  rw [← hW]
  clear hW
  refine (markInts_rep F1 sa sn sc ss m W hsn h0 (by omega) R1.out).mono ?_
  rintro e w1 ⟨rfl, o1, g1⟩
  have q1 := g1.cell q1 HF1.out
  have O1 := Hid.mk o1
  have R2' := Hid.mk (RParts.ownOff R2.out g1 (fun b hb h => HD.out.2.2 b h hb))
  have G1 := Hid.mk g1
  clear o1 g1 R1 R2
  go_wp2_with fail
  refine (markPartS_rep F2 pa pn pc xs (m + sn) w1 hpn HS.out htp (by omega) (by omega) R2'.out).mono ?_
  rintro e w2 ⟨rfl, o2, g2⟩
  have HR : Hid (RView.Own w2 F [.slice sa sn sc, .slice pa pn pc] (mkView m (ss, xs))) := by
    show RView.Own _ _ _ _
    unfold mkView
    simp only [HZ1.out]
    exact ⟨[_], [_], F1, F2, rfl, RInts.ownOff O1.out g2 (fun b hb h => HD.out.2.2 b hb h), o2, HD.out.1, HD.out.2.1, HD.out.2.2⟩
  have HO : Hid (Off F w w2) := (Off.below B0).trans ((G1.out.mono HD.out.1).trans (g2.mono HD.out.2.1))
  clear o2 g2 O1 R2' G1 q1
  go_wp2
  go_ret
  exact ⟨ret_int (by push_cast; omega), HR.out, HO.out⟩

end Go.Proofs.Ythdcjelahoiepab
