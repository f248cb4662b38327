/- Lists of tests in memory: three ints each; contracts of the laws' helpers szTestS, toTestS, eqTestS, markTestS. -/
import Derived.Test.YtogokgegkakmbabIntS
import Derived.Test.YtogokgegkakmbabGroundS
import Derived.Test.YtogokgegkakmbabGroundT
import Derived.Test.YtogokgegkakmbabLawG
import Derived.Deep.RegionHeld3
namespace Go.Proofs.Ytogokgegkakmbab
open Go.RowKit

/-- A test: its kind, its column, its value. -/
abbrev Tst := Int × Int × Int
def flatE (es : List Tst) : List Int := es.flatMap fun t => [t.1, t.2.1, t.2.2]
def tat (es : List Tst) (k : Nat) : Tst := es.getD k (0, 0, 0)
theorem flatE_len (es : List Tst) : (flatE es).length = es.length * 3 := by
  induction es with
  | nil => rfl
  | cons t es ih => unfold flatE at *; rw [List.flatMap_cons, List.length_append, ih]; simp; omega
theorem flatE_at : ∀ (es : List Tst) (k : Nat), k < es.length → (flatE es).getD (k * 3) 0 = (tat es k).1 ∧ (flatE es).getD (k * 3 + 1) 0 = (tat es k).2.1 ∧ (flatE es).getD (k * 3 + 2) 0 = (tat es k).2.2
  | t :: es, 0, _ => ⟨rfl, rfl, rfl⟩
  | t :: es, k + 1, h => by
    have ih := flatE_at es k (by simpa using h)
    have e : flatE (t :: es) = t.1 :: t.2.1 :: t.2.2 :: flatE es := rfl
    have e1 : (k + 1) * 3 = k * 3 + 1 + 1 + 1 := by omega
    have e2 : (k + 1) * 3 + 1 = k * 3 + 1 + 1 + 1 + 1 := by omega
    have e3 : (k + 1) * 3 + 2 = k * 3 + 2 + 1 + 1 + 1 := by omega
    rw [e, e1]
    refine ⟨?_, ?_, ?_⟩
    · simpa [List.getD, tat] using ih.1
    · rw [show k * 3 + 1 + 1 + 1 + 1 = (k * 3 + 1) + 1 + 1 + 1 by omega]; simpa [List.getD, tat] using ih.2.1
    · rw [show k * 3 + 1 + 1 + 1 + 2 = (k * 3 + 2) + 1 + 1 + 1 by omega]; simpa [List.getD, tat] using ih.2.2

/-- A slice of tests. -/
def AtE (w : World) (a : Option Addr) (es : List Tst) : Prop := At w a (flatE es)
theorem AtE.below {w w' : World} {a : Option Addr} {es : List Tst} (h : AtE w a es) (hb : Below w.heap.size w w') : AtE w' a es := At.below h hb
theorem AtE.drew {w : World} {a : Option Addr} {es : List Tst} (h : AtE w a es) : AtE w.drew a es := At.drew h
theorem AtE.some {w : World} {a : Option Addr} {es : List Tst} (h : AtE w a es) (hp : 0 < es.length) :
    ∃ b off, a = some ⟨b, off, none⟩ ∧ b < w.heap.size ∧ ∀ k, k < es.length → w.cell? ⟨b, off + k * 3, none⟩ = some (.int .i64 (tat es k).1) ∧ w.cell? ⟨b, off + k * 3 + 1, none⟩ = some (.int .i64 (tat es k).2.1) ∧ w.cell? ⟨b, off + k * 3 + 2, none⟩ = some (.int .i64 (tat es k).2.2) := by
  obtain ⟨b, off, rfl, hb, hc⟩ := At.some h (by rw [flatE_len]; omega)
  refine ⟨b, off, rfl, hb, fun k hk => ?_⟩
  have e := flatE_at es k hk
  have hl := flatE_len es
  refine ⟨?_, ?_, ?_⟩
  · rw [hc (k * 3) (by omega), e.1]
  · rw [Nat.add_assoc, hc (k * 3 + 1) (by omega), e.2.1]
  · rw [Nat.add_assoc, hc (k * 3 + 2) (by omega), e.2.2]
theorem At.owned3 {w : World} {base : Nat} {e : TypeId} {a : Option Addr} {n c : Nat} {zs : List Int}
    (h : w.ownsRow base e 3 (.slice a n c) n (zs.map (.int .i64))) : At w a zs := by
  have hl := h.1
  rcases h.2 with ⟨h', rfl⟩ | ⟨g, cap, cur, h', _⟩
  · left; simpa using hl
  · right
    simp only [Value.slice.injEq, true_and] at h'
    obtain ⟨rfl, rfl⟩ := h'
    refine ⟨g, 0, rfl, fun i hi => ?_⟩
    rw [Nat.zero_add, h.cellAt i (by simp at hl; omega)]
    simp [List.getD, hi]

theorem Try.infoTest : (Try.prog.info? 64).map (fun i => (i.zero, i.size, i.bytes)) = some (some (.agg #[.int .i64 0, .int .i64 0, .int .i64 0]), 3, 24) := by kernel_rfl

theorem szTestS_any (a : Option Addr) (n c : Nat) (_es : List Tst) (l : Int) (w : World) (_hz : _es.length = n) (hn : n ≤ 9223372036854775807) (h0 : 0 ≤ l) (h1 : l ≤ 1048576) (_ha : AtE w a _es) :
    Calls Try.prog 10 #[.slice a n c, .int .i64 l] w fun e w' => e = .returned (.int .i64 (leftOf l n)) ∧ Below w.heap.size w w' := by
  by_cases h : l < n
  · have h' : l - (n : Int) < 0 := by omega
    go_enter Try.func10, Try.ntmps10
    go_wp2
    go_ret
    exact ⟨ret_int (leftOf_no (by omega)).symm, Below.refl _ _⟩
  · have h' : ¬ l - (n : Int) < 0 := by omega
    go_enter Try.func10, Try.ntmps10
    go_wp2
    go_ret
    exact ⟨ret_int (by rw [leftOf_yes (by omega)]), Below.refl _ _⟩

set_option maxRecDepth 100000 in
set_option maxHeartbeats 400000 in
theorem toTest_any (x y z : Int) (w : World) :
    Calls Try.prog 43 #[.agg #[.int .i64 x, .int .i64 y, .int .i64 z]] w fun e w' => e = .returned (.agg #[.int .i64 x, .int .i64 y, .int .i64 z]) ∧ Below w.heap.size w w' := by
  go_enter Try.func43, Try.ntmps43
  go_wp2
  refine bodyPost_ret (v := .agg #[.int .i64 x, .int .i64 y, .int .i64 z]) (by simp [results, Try.results43, go_sem]) rfl ⟨rfl, ?_⟩
  exact (((Below.refl _ _).alloc (Nat.le_refl _) _).alloc (by simp) _).alloc (by simp; omega) _

set_option maxRecDepth 100000 in
set_option maxHeartbeats 400000 in
theorem eqTest_same (x y z : Int) (w : World) :
    Calls Try.prog 52 #[.agg #[.int .i64 x, .int .i64 y, .int .i64 z], .agg #[.int .i64 x, .int .i64 y, .int .i64 z]] w fun e w' => e = .returned (.bool true) ∧ Below w.heap.size w w' := by
  go_enter Try.func52, Try.ntmps52
  go_wp2
  go_ret
  exact ⟨rfl, ((Below.refl _ _).alloc (Nat.le_refl _) _).alloc (by simp) _⟩

theorem Upto.set3 {cs : List Value} {zs : List Int} {k : Nat} (h : Upto cs zs (k * 3)) (hk : k * 3 + 2 < zs.length) :
    Upto (((cs.set (k * 3) (.int .i64 (zs.getD (k * 3) 0))).set (k * 3 + 1) (.int .i64 (zs.getD (k * 3 + 1) 0))).set (k * 3 + 2) (.int .i64 (zs.getD (k * 3 + 2) 0))) zs ((k + 1) * 3) := by
  have := ((h.set (by omega)).set (by omega)).set (k := k * 3 + 1 + 1) (by omega)
  rw [show (k + 1) * 3 = k * 3 + 1 + 1 + 1 by omega]
  exact this

set_option maxRecDepth 100000 in
set_option maxHeartbeats 1000000 in
theorem toTestS_any (a : Option Addr) (n c : Nat) (es : List Tst) (w : World) (hz : es.length = n) (hn : n ≤ 1048576) (ha : AtE w a es) :
    Calls Try.prog 13 #[.slice a n c] w fun e w' => e = .returned (.slice (some ⟨w.heap.size, 0, none⟩) n n) ∧
      w'.ownsRow w.heap.size 64 3 (.slice (some ⟨w.heap.size, 0, none⟩) n n) n ((flatE es).map (.int .i64)) ∧ Below w.heap.size w w' := by
  obtain ⟨i0, hi, hz0, hz1, hz2⟩ := info_parts Try.infoTest
  by_cases h00 : n = 0
  · subst h00
    go_enter Try.func13, Try.ntmps13
    go_wp2_with (at_make; refine wpList_make_full _ rfl _ _ 34 rfl w.heap.size 64 i0 (.agg #[.int .i64 0, .int .i64 0, .int .i64 0]) 3 Try.underlying34 hi hz0 hz1 .i64 .i64 _ _ 0 rfl rfl rfl rfl (by simp) (by simp) (Nat.le_refl _) ?_; intro w1 hown hg)
    refine wp_loop_rounds 1 ?_
    rw [rounds_succ]
    go_wp2
    go_ret
    obtain rfl : es = [] := List.eq_nil_of_length_eq_zero hz
    exact ⟨rfl, by simpa [madeCells, flatE] using hown, (Below.refl _ _).grown hg (Nat.le_refl _) (by simp)⟩
  · obtain ⟨b, off, rfl, hb, hc⟩ := ha.some (by omega)
    have HFA := Hid.mk (flatE_at es)
    have HFL : Hid ((flatE es).length = n * 3) := by show _ = _; rw [flatE_len, hz]
    go_enter Try.func13, Try.ntmps13
    go_wp2_with (at_make; refine wpList_make_full _ rfl _ _ 34 rfl w.heap.size 64 i0 (.agg #[.int .i64 0, .int .i64 0, .int .i64 0]) 3 Try.underlying34 hi hz0 hz1 .i64 .i64 _ _ n rfl rfl rfl rfl (by rw [hz2]; omega) (by unfold maxLen; omega) (Nat.le_refl _) ?_; intro w1 hown hg)
    have hb1 : Below w.heap.size w w1 := (Below.refl _ _).grown hg (Nat.le_refl _) (by simp)
    have hs0 : (madeCells (Value.agg #[.int .i64 0, .int .i64 0, .int .i64 0]).cells (n * 3)).toList.length = (flatE es).length := by rw [HFL.out]; simp [madeCells]
    have hu0 := Upto.zero hs0
    obtain ⟨cs, hcs⟩ : ∃ cs, cs = (madeCells (Value.agg #[.int .i64 0, .int .i64 0, .int .i64 0]).cells (n * 3)).toList := ⟨_, rfl⟩
    rw [← hcs] at hown hu0
    clear hcs hs0 hg
    go_loopw [4] (fun i wr => ∃ (k : Nat) (cs : List Value), k ≤ n ∧ i = .int .i64 k ∧ Upto cs (flatE es) (k * 3) ∧ wr.ownsRow w.heap.size 64 3 (.slice (some ⟨w.heap.size, 0, none⟩) n n) n cs ∧ Below w.heap.size w wr) (fun i _ => n - (intOf i).toNat)
    case atStart => exact ⟨0, cs, Nat.zero_le _, rfl, hu0, hown, hb1⟩
    case round =>
      clear hown hu0 hb1 cs
      obtain ⟨k, cs, hk, rfl, hu, hown, hbw⟩ := hrel
      by_cases hlt : k < n
      · obtain ⟨hx, hy, hv⟩ := hc k (by omega)
        obtain ⟨f1, f2, f3⟩ := HFA.out k (by omega)
        have hx := (hbw.cell hb).trans hx
        have hy := (hbw.cell hb).trans hy
        have hv := (hbw.cell hb).trans hv
        have HU := Hid.mk (hu.set3 (by rw [HFL.out]; omega))
        rw [f1, f2, f3] at HU
        have hlen : cs.length = n * 3 := by rw [hu.1]; exact HFL.out
        clear f1 f2 f3 hu hc
        generalize tat es k = Y at *
        obtain ⟨x, y, v⟩ := Y
        simp only at hx hy hv HU
        have hki : (k : Int) < (n : Int) := by omega
        go_wp2_with fail
        refine (toTest_any x y v _).mono ?_
        rintro e w2 ⟨rfl, hb2⟩
        have ho2 := hown.kept (Below.toGrown hb2 none) (by simp; exact Classical.em _)
        have B2 := hbw.trans (hb2.mono hbw.size)
        obtain ⟨u0, hu0⟩ : ∃ u, cs[k * 3]? = some u := ⟨_, List.getElem?_eq_getElem (by omega)⟩
        obtain ⟨u1, hu1⟩ : ∃ u, cs[k * 3 + 1]? = some u := ⟨_, List.getElem?_eq_getElem (by omega)⟩
        obtain ⟨u2, hu2⟩ : ∃ u, cs[k * 3 + 2]? = some u := ⟨_, List.getElem?_eq_getElem (by omega)⟩
        have q0 : w2.cell? ⟨w.heap.size, k * 3, none⟩ = some u0 := (ho2.cellAt _ (by omega)).trans hu0
        have q1 : w2.cell? ⟨w.heap.size, k * 3 + 1, none⟩ = some u1 := (ho2.cellAt _ (by omega)).trans hu1
        have q2 : w2.cell? ⟨w.heap.size, k * 3 + 2, none⟩ = some u2 := (ho2.cellAt _ (by omega)).trans hu2
        have p0 : w2.frozen? ⟨w.heap.size, k * 3, none⟩ = false := ho2.frozenAt _
        have p1 : w2.frozen? ⟨w.heap.size, k * 3 + 1, none⟩ = false := ho2.frozenAt _
        have p2 : w2.frozen? ⟨w.heap.size, k * 3 + 2, none⟩ = false := ho2.frozenAt _
        have s1 := (ho2.stored (k * 3) (.int .i64 x)).1
        have s2 := (s1.stored (k * 3 + 1) (.int .i64 y)).1
        have HO := Hid.mk (s2.stored (k * 3 + 2) (.int .i64 v)).1
        have HB : Hid (Below w.heap.size w (((w2.setCell ⟨w.heap.size, k * 3, none⟩ (.int .i64 x)).setCell ⟨w.heap.size, k * 3 + 1, none⟩ (.int .i64 y)).setCell ⟨w.heap.size, k * 3 + 2, none⟩ (.int .i64 v))) := ((B2.setCell (Nat.le_refl _) _).setCell (Nat.le_refl _) _).setCell (Nat.le_refl _) _
        clear s1 s2 hu0 hu1 hu2 ho2 hown hbw B2 hb2 hx hy hv
        go_wp2
        go_roundw
        case rel => exact ⟨k + 1, _, by omega, by go_num, HU.out, HO.out, HB.out⟩
        case measure => simp [intOf]; omega
      · obtain rfl : k = n := by omega
        rw [hu.all (by rw [HFL.out]; omega)] at hown
        go_wp2
        go_ret
        exact ⟨rfl, hown, hbw⟩

set_option maxRecDepth 100000 in
set_option maxHeartbeats 1000000 in
theorem eqTestS_same (a a' : Option Addr) (n c c' : Nat) (es : List Tst) (w : World) (hz : es.length = n) (hn : n ≤ 1048576) (ha : AtE w a es) (ha' : AtE w a' es) :
    Calls Try.prog 16 #[.slice a n c, .slice a' n c'] w fun e w' => e = .returned (.bool true) ∧ Below w.heap.size w w' := by
  by_cases h0 : n = 0
  · subst h0
    go_enter Try.func16, Try.ntmps16
    go_wp2
    refine wp_loop_rounds 1 ?_
    rw [rounds_succ]
    go_wp2
    go_ret
    exact ⟨rfl, Below.refl _ _⟩
  · obtain ⟨b, off, rfl, hb, hc⟩ := ha.some (by omega)
    obtain ⟨b', off', rfl, hb', hc'⟩ := ha'.some (by omega)
    clear ha ha'
    go_enter Try.func16, Try.ntmps16
    go_wp2
    go_loopw [5] (fun i wr => ∃ (k : Nat), k ≤ n ∧ i = .int .i64 k ∧ Below w.heap.size w wr) (fun i _ => n - (intOf i).toNat)
    case atStart => exact ⟨0, Nat.zero_le _, rfl, Below.refl _ _⟩
    case round =>
      obtain ⟨k, hk, rfl, hbw⟩ := hrel
      by_cases hlt : k < n
      · obtain ⟨hx, hy, hv⟩ := hc k (by omega)
        obtain ⟨hx', hy', hv'⟩ := hc' k (by omega)
        have hx := (hbw.cell hb).trans hx
        have hy := (hbw.cell hb).trans hy
        have hv := (hbw.cell hb).trans hv
        have hx' := (hbw.cell hb').trans hx'
        have hy' := (hbw.cell hb').trans hy'
        have hv' := (hbw.cell hb').trans hv'
        generalize tat es k = Y at *
        obtain ⟨x, y, v⟩ := Y
        simp only at hx hy hv hx' hy' hv'
        have hki : (k : Int) < (n : Int) := by omega
        clear hc hc'
        go_wp2_with fail
        go_region_held3 (fun w' => w'.cell? ⟨b, off + k * 3, none⟩ = some (.int .i64 x) ∧ w'.cell? ⟨b, off + k * 3 + 1, none⟩ = some (.int .i64 y) ∧ w'.cell? ⟨b, off + k * 3 + 2, none⟩ = some (.int .i64 v) ∧ w'.cell? ⟨b', off' + k * 3, none⟩ = some (.int .i64 x) ∧ w'.cell? ⟨b', off' + k * 3 + 1, none⟩ = some (.int .i64 y) ∧ w'.cell? ⟨b', off' + k * 3 + 2, none⟩ = some (.int .i64 v)) (refine ⟨?_, ?_, ?_, ?_, ?_, ?_⟩ <;> assumption)
          (first | (go_at_call 52; refine (eqTest_same x y v _).mono ?_; rintro e w2 ⟨rfl, hb2⟩; have e1 := cell_later hb2 hx; have e2 := cell_later hb2 hy; have e3 := cell_later hb2 hv; have e4 := cell_later hb2 hx'; have e5 := cell_later hb2 hy'; have e6 := cell_later hb2 hv') | fail)
        go_wp2
        go_roundw
        case rel => exact ⟨k + 1, by omega, by go_num, hbw.drew.trans (hb2.mono hbw.size)⟩
        case measure => simp [intOf]; omega
      · go_wp2
        go_ret
        exact ⟨rfl, hbw⟩
end Go.Proofs.Ytogokgegkakmbab
