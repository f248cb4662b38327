/- Several texts of one proof, in build order: LawG, TestS, RepI, ViewG, TestG. -/
import Derived.Deep.DeepCutAuto
import Derived.Test.YthiabjkjpjmahaaGreatM4
import Derived.Test.YthiabjkjpjmahaaGreatM9
import Derived.Test.YthiabjkjpjmahaaGreatM3
import Derived.Test.YthiabjkjpjmahaaGreatM0
import Derived.Deep.RegionHeld3
import Derived.Test.YthiabjkjpjmahaaGreatM5

/- The laws' helpers over tables in one form: what they make, hold equal, mark, find held. -/
namespace Go.Proofs.YthiabjkjpjmahaaGreat
open Go.RowKit

/-- A list of weighted rows that the laws' bound allows. -/
def SmT (ts : List WRow) (n : Nat) : Prop := ts.length = n ∧ wtot ts n ≤ 1048576
theorem SmT.n {ts : List WRow} {n : Nat} (h : SmT ts n) : n ≤ 1048576 := by have := wtot_len ts n (by have := h.1; omega); have := h.2; omega
theorem SmT.row {ts : List WRow} {n : Nat} (h : SmT ts n) : ∀ i, i < n → (wat ts i).1.length ≤ 1048576 := fun i hi => Nat.le_trans (wtot_each ts n h.1 i hi) h.2
theorem SmT.rowx {ts : List WRow} {n : Nat} (h : SmT ts n) : ∀ i, i < n → (wat ts i).1.length ≤ 9223372036854775807 := fun i hi => Nat.le_trans (h.row i hi) (by decide)

/-- A slice of weighted rows that the call made: all its blocks lie from lo on and below hi. -/
def OwnT (w : World) (lo hi : Nat) (a : Option Addr) (n c : Nat) (ts : List WRow) : Prop := ∃ cells, OwnW w lo hi 82 3 a n c ts cells

section
variable {w w' : World} {lo hi : Nat} {a : Option Addr} {n c : Nat} {ts : List WRow}
theorem OwnT.below (h : OwnT w lo hi a n c ts) (hb : Below w.heap.size w w') : OwnT w' lo hi a n c ts := by obtain ⟨cs, h⟩ := h; exact ⟨cs, h.below hb⟩
theorem OwnT.apartW {lo' hi' : Nat} (h : OwnT w lo hi a n c ts) (hp : Apart lo' hi' w w') (hd : hi ≤ lo' ∨ hi' ≤ lo) : OwnT w' lo hi a n c ts := by obtain ⟨cs, h⟩ := h; exact ⟨cs, h.apartW hp hd⟩
theorem OwnT.atW (h : OwnT w lo hi a n c ts) (hs : SmT ts n) : AtW w a ts := by obtain ⟨cs, h⟩ := h; exact OwnWk.atW h hs.rowx
theorem OwnT.atM (h : OwnT w lo hi a n c ts) (hs : SmT ts n) : AtM w a ts := by obtain ⟨cs, h⟩ := h; exact OwnWk.atM h hs.rowx
theorem OwnT.formed (h : OwnT w lo hi a n c ts) : Formed a n c := by obtain ⟨cs, h⟩ := h; exact owns_formed h.outer
theorem OwnT.len (h : OwnT w lo hi a n c ts) : ts.length = n := by obtain ⟨cs, h⟩ := h; exact h.len
theorem OwnT.atMark {m : Int} (h : OwnT w lo hi a n c (markW m ts)) (hs : SmT ts n) : AtW w a (markW m ts) := by
  obtain ⟨cs, h⟩ := h
  refine OwnWk.atW h fun i hi => ?_
  rw [markW_at m ts i (by have := hs.1; omega)]
  simp only [marks_length]
  exact hs.rowx i hi
end

theorem toTableG (a : Option Addr) (n c : Nat) (ts : List WRow) (p : Int) (w : World) (hs : SmT ts n) (ha : AtW w a ts) :
    Calls Tryz.prog 53 #[.agg #[.int .i64 p, .slice a n c]] w fun e w' => ∃ g, e = .returned (.agg #[.int .i64 p, .slice (some ⟨g, 0, none⟩) n n]) ∧ OwnT w' w.heap.size w'.heap.size (some ⟨g, 0, none⟩) n n ts ∧ Below w.heap.size w w' :=
  (toTable_any a n c ts p w hs.1 hs.n hs.row ha).mono fun _ _ ⟨g, cs, h1, h2, h3⟩ => ⟨g, h1, ⟨cs, h2⟩, h3⟩
theorem eqTableG (a a' : Option Addr) (n c c' : Nat) (ts : List WRow) (p : Int) (w : World) (hs : SmT ts n) (ha : AtW w a ts) (ha' : AtW w a' ts) :
    Calls Tryz.prog 18 #[.agg #[.int .i64 p, .slice a n c], .agg #[.int .i64 p, .slice a' n c']] w fun e w' => e = .returned (.bool true) ∧ Below w.heap.size w w' :=
  (eqTable_any a a' n n c c' ts ts p p w hs.1 hs.1 hs.n hs.n hs.row hs.row ha ha').mono fun _ _ ⟨h1, h2⟩ => ⟨by rw [h1, decide_eq_true ⟨rfl, rfl⟩], h2⟩
theorem markTableG (lo hi : Nat) (a : Option Addr) (n c : Nat) (ts : List WRow) (p m : Int) (w : World) (hs : SmT ts n) (h0 : 0 ≤ m) (h1 : m ≤ 268435456) (ho : OwnT w lo hi a n c ts) :
    Calls Tryz.prog 23 #[.agg #[.int .i64 p, .slice a n c], .int .i64 m] w fun e w' => e = .returned (.int .i64 (m + wtot ts n)) ∧ OwnT w' lo hi a n c (markW m ts) ∧ Apart lo hi w w' := by
  obtain ⟨cs, ho⟩ := ho
  exact markTable_any lo hi a n c ts p cs m w hs.row hs.2 h0 h1 ho
theorem markWeightedSG (lo hi : Nat) (a : Option Addr) (n c : Nat) (ts : List WRow) (m : Int) (w : World) (hs : SmT ts n) (h0 : 0 ≤ m) (h1 : m ≤ 268435456) (ho : OwnT w lo hi a n c ts) :
    Calls Tryz.prog 59 #[.slice a n c, .int .i64 m] w fun e w' => e = .returned (.int .i64 (m + wtot ts n)) ∧ OwnT w' lo hi a n c (markW m ts) ∧ Apart lo hi w w' := by
  obtain ⟨cs, ho⟩ := ho
  exact markWeightedS_any lo hi a n c ts cs m w hs.row hs.2 h0 h1 ho
theorem heldTableG (a : Option Addr) (n c : Nat) (ts : List WRow) (p m : Int) (w : World) (hs : SmT ts n) (h0 : 0 ≤ m) (h1 : m ≤ 268435456) (ha : AtW w a (markW m ts)) :
    Calls Tryz.prog 24 #[.agg #[.int .i64 p, .slice a n c], .int .i64 m] w fun e w' => e = .returned (.int .i64 (m + wtot ts n)) ∧ Below w.heap.size w w' :=
  heldTable_any a n c ts p m w hs.1 hs.row hs.2 h0 h1 ha

theorem wtot_le {ts : List WRow} {M : Nat} (h : ∀ t ∈ ts, t.1.length ≤ M) : ∀ k, k ≤ ts.length → wtot ts k ≤ k * (M + 1) := by
  intro k hk
  induction k with
  | zero => simp [wtot_zero]
  | succ k ih =>
    have h1 := ih (by omega)
    have h2 := h _ (wat_mem (show k < ts.length by omega))
    rw [wtot_succ ts k (by omega), Nat.add_mul]
    omega
theorem goodT_wtot {p : Int} {ts : List WRow} (h : goodT p ts = true) : wtot ts ts.length ≤ 1048576 := by
  have h1 := wtot_le (M := 6) (fun t ht => good_len (goodL_mem (goodL_of_goodT h) t ht).1) ts.length (Nat.le_refl _)
  have h2 := (goodT_parts h).2.1
  omega
/-- What is told is small. -/
theorem ans_small {ok : Bool} {p : Int} {ts : List WRow} (h : ok = true → goodT p ts = true) : SmT (ansT ok ts) (ansT ok ts).length := by
  refine ⟨rfl, ?_⟩
  cases ok with
  | false => simp [ansT, wtot]
  | true => exact goodT_wtot (h rfl)

theorem set2_heap {w : World} {g : Nat} {x y : Value} {t : TypeId} (h : w.heap[g]? = some (.cells #[x, y] t (0, 0))) (u v : Value) : ((w.setCell ⟨g, 0, none⟩ u).setCell ⟨g, 1, none⟩ v).heap[g]? = some (.cells #[u, v] t (0, 0)) := by
  have h1 := heap_setCell_same w g 0 _ t u h
  have h2 := heap_setCell_same _ g 1 _ t v h1
  rw [h2]; rfl
theorem set2_0 {w : World} {g : Nat} {x y : Value} {t : TypeId} (h : w.heap[g]? = some (.cells #[x, y] t (0, 0))) (u v : Value) : ((w.setCell ⟨g, 0, none⟩ u).setCell ⟨g, 1, none⟩ v).cell? ⟨g, 0, none⟩ = some u := by
  rw [cell_of_row _ _ 0 _ _ (0, 0) (set2_heap h u v)]; rfl
theorem set2_1 {w : World} {g : Nat} {x y : Value} {t : TypeId} (h : w.heap[g]? = some (.cells #[x, y] t (0, 0))) (u v : Value) : ((w.setCell ⟨g, 0, none⟩ u).setCell ⟨g, 1, none⟩ v).cell? ⟨g, 1, none⟩ = some v := by
  rw [cell_of_row _ _ 1 _ _ (0, 0) (set2_heap h u v)]; rfl
end Go.Proofs.YthiabjkjpjmahaaGreat

/- Lists of tests in memory: three ints each; contracts of the laws' helpers szTestS, toTestS, eqTestS, markTestS. -/
namespace Go.Proofs.YthiabjkjpjmahaaGreat
open Go.RowKit

/-- A test: its kind, its column, its value. -/
abbrev Tst := Int × Int × Int
def flatE (es : List Tst) : List Int := es.flatMap fun t => [t.1, t.2.1, t.2.2]
def tet (es : List Tst) (k : Nat) : Tst := es.getD k (0, 0, 0)
theorem flatE_len (es : List Tst) : (flatE es).length = es.length * 3 := by
  induction es with
  | nil => rfl
  | cons t es ih => unfold flatE at *; rw [List.flatMap_cons, List.length_append, ih]; simp; omega
theorem flatE_at : ∀ (es : List Tst) (k : Nat), k < es.length → (flatE es).getD (k * 3) 0 = (tet es k).1 ∧ (flatE es).getD (k * 3 + 1) 0 = (tet es k).2.1 ∧ (flatE es).getD (k * 3 + 2) 0 = (tet es k).2.2
  | t :: es, 0, _ => ⟨rfl, rfl, rfl⟩
  | t :: es, k + 1, h => by
    have ih := flatE_at es k (by simpa using h)
    have e : flatE (t :: es) = t.1 :: t.2.1 :: t.2.2 :: flatE es := rfl
    have e1 : (k + 1) * 3 = k * 3 + 1 + 1 + 1 := by omega
    have e2 : (k + 1) * 3 + 1 = k * 3 + 1 + 1 + 1 + 1 := by omega
    have e3 : (k + 1) * 3 + 2 = k * 3 + 2 + 1 + 1 + 1 := by omega
    rw [e, e1]
    refine ⟨?_, ?_, ?_⟩
    · simpa [List.getD, tet] using ih.1
    · rw [show k * 3 + 1 + 1 + 1 + 1 = (k * 3 + 1) + 1 + 1 + 1 by omega]; simpa [List.getD, tet] using ih.2.1
    · rw [show k * 3 + 1 + 1 + 1 + 2 = (k * 3 + 2) + 1 + 1 + 1 by omega]; simpa [List.getD, tet] using ih.2.2

/-- A slice of tests. -/
def AtE (w : World) (a : Option Addr) (es : List Tst) : Prop := At w a (flatE es)
theorem AtE.below {w w' : World} {a : Option Addr} {es : List Tst} (h : AtE w a es) (hb : Below w.heap.size w w') : AtE w' a es := At.below h hb
theorem AtE.drew {w : World} {a : Option Addr} {es : List Tst} (h : AtE w a es) : AtE w.drew a es := At.drew h
theorem AtE.some {w : World} {a : Option Addr} {es : List Tst} (h : AtE w a es) (hp : 0 < es.length) :
    ∃ b off, a = some ⟨b, off, none⟩ ∧ b < w.heap.size ∧ ∀ k, k < es.length → w.cell? ⟨b, off + k * 3, none⟩ = some (.int .i64 (tet es k).1) ∧ w.cell? ⟨b, off + k * 3 + 1, none⟩ = some (.int .i64 (tet es k).2.1) ∧ w.cell? ⟨b, off + k * 3 + 2, none⟩ = some (.int .i64 (tet es k).2.2) := by
  obtain ⟨b, off, rfl, hb, hc⟩ := At.some h (by rw [flatE_len]; omega)
  refine ⟨b, off, rfl, hb, fun k hk => ?_⟩
  have e := flatE_at es k hk
  have hl := flatE_len es
  refine ⟨?_, ?_, ?_⟩
  · rw [hc (k * 3) (by omega), e.1]
  · rw [Nat.add_assoc, hc (k * 3 + 1) (by omega), e.2.1]
  · rw [Nat.add_assoc, hc (k * 3 + 2) (by omega), e.2.2]
theorem Tryz.infoTest : (Tryz.prog.info? 148).map (fun i => (i.zero, i.size, i.bytes)) = some (some (.agg #[.int .i64 0, .int .i64 0, .int .i64 0]), 3, 24) := by kernel_rfl

theorem szTestS_any (a : Option Addr) (n c : Nat) (_es : List Tst) (l : Int) (w : World) (_hz : _es.length = n) (hn : n ≤ 9223372036854775807) (h0 : 0 ≤ l) (h1 : l ≤ 1048576) (_ha : AtE w a _es) :
    Calls Tryz.prog 127 #[.slice a n c, .int .i64 l] w fun e w' => e = .returned (.int .i64 (leftOf l n)) ∧ Below w.heap.size w w' := by
  by_cases h : l < n
  · have h' : l - (n : Int) < 0 := by omega
    go_enter Tryz.func127, Tryz.ntmps127
    go_wp2
    go_ret
    exact ⟨ret_int (leftOf_no (by omega)).symm, Below.refl _ _⟩
  · have h' : ¬ l - (n : Int) < 0 := by omega
    go_enter Tryz.func127, Tryz.ntmps127
    go_wp2
    go_ret
    exact ⟨ret_int (by rw [leftOf_yes (by omega)]), Below.refl _ _⟩

set_option maxRecDepth 100000 in
set_option maxHeartbeats 400000 in
theorem toTest_any (x y z : Int) (w : World) :
    Calls Tryz.prog 158 #[.agg #[.int .i64 x, .int .i64 y, .int .i64 z]] w fun e w' => e = .returned (.agg #[.int .i64 x, .int .i64 y, .int .i64 z]) ∧ Below w.heap.size w w' := by
  go_enter Tryz.func158, Tryz.ntmps158
  go_wp2
  refine bodyPost_ret (v := .agg #[.int .i64 x, .int .i64 y, .int .i64 z]) (by simp [results, Tryz.results158, go_sem]) rfl ⟨rfl, ?_⟩
  exact (((Below.refl _ _).alloc (Nat.le_refl _) _).alloc (by simp) _).alloc (by simp; omega) _

set_option maxRecDepth 100000 in
set_option maxHeartbeats 400000 in
theorem eqTest_same (x y z : Int) (w : World) :
    Calls Tryz.prog 160 #[.agg #[.int .i64 x, .int .i64 y, .int .i64 z], .agg #[.int .i64 x, .int .i64 y, .int .i64 z]] w fun e w' => e = .returned (.bool true) ∧ Below w.heap.size w w' := by
  go_enter Tryz.func160, Tryz.ntmps160
  go_wp2
  go_ret
  exact ⟨rfl, ((Below.refl _ _).alloc (Nat.le_refl _) _).alloc (by simp) _⟩

theorem Upto.set3 {cs : List Value} {zs : List Int} {k : Nat} (h : Upto cs zs (k * 3)) (hk : k * 3 + 2 < zs.length) :
    Upto (((cs.set (k * 3) (.int .i64 (zs.getD (k * 3) 0))).set (k * 3 + 1) (.int .i64 (zs.getD (k * 3 + 1) 0))).set (k * 3 + 2) (.int .i64 (zs.getD (k * 3 + 2) 0))) zs ((k + 1) * 3) := by
  have := ((h.set (by omega)).set (by omega)).set (k := k * 3 + 1 + 1) (by omega)
  rw [show (k + 1) * 3 = k * 3 + 1 + 1 + 1 by omega]
  exact this

set_option maxRecDepth 100000 in
set_option maxHeartbeats 1000000 in
theorem toTestS_any (a : Option Addr) (n c : Nat) (es : List Tst) (w : World) (hz : es.length = n) (hn : n ≤ 1048576) (ha : AtE w a es) :
    Calls Tryz.prog 130 #[.slice a n c] w fun e w' => e = .returned (.slice (some ⟨w.heap.size, 0, none⟩) n n) ∧
      w'.ownsRow w.heap.size 148 3 (.slice (some ⟨w.heap.size, 0, none⟩) n n) n ((flatE es).map (.int .i64)) ∧ Below w.heap.size w w' := by
  obtain ⟨i0, hi, hz0, hz1, hz2⟩ := info_parts Tryz.infoTest
  by_cases h00 : n = 0
  · subst h00
    go_enter Tryz.func130, Tryz.ntmps130
    go_wp2_with (at_make; refine wpList_make_full _ rfl _ _ 71 rfl w.heap.size 148 i0 (.agg #[.int .i64 0, .int .i64 0, .int .i64 0]) 3 Tryz.underlying71 hi hz0 hz1 .i64 .i64 _ _ 0 rfl rfl rfl rfl (by simp) (by simp) (Nat.le_refl _) ?_; intro w1 hown hg)
    refine wp_loop_rounds 1 ?_
    rw [rounds_succ]
    go_wp2
    go_ret
    obtain rfl : es = [] := List.eq_nil_of_length_eq_zero hz
    exact ⟨rfl, by simpa [madeCells, flatE] using hown, (Below.refl _ _).grown hg (Nat.le_refl _) (by simp)⟩
  · obtain ⟨b, off, rfl, hb, hc⟩ := ha.some (by omega)
    have HFA := Hid.mk (flatE_at es)
    have HFL : Hid ((flatE es).length = n * 3) := by show _ = _; rw [flatE_len, hz]
    go_enter Tryz.func130, Tryz.ntmps130
    go_wp2_with (at_make; refine wpList_make_full _ rfl _ _ 71 rfl w.heap.size 148 i0 (.agg #[.int .i64 0, .int .i64 0, .int .i64 0]) 3 Tryz.underlying71 hi hz0 hz1 .i64 .i64 _ _ n rfl rfl rfl rfl (by rw [hz2]; omega) (by unfold maxLen; omega) (Nat.le_refl _) ?_; intro w1 hown hg)
    have hb1 : Below w.heap.size w w1 := (Below.refl _ _).grown hg (Nat.le_refl _) (by simp)
    have hs0 : (madeCells (Value.agg #[.int .i64 0, .int .i64 0, .int .i64 0]).cells (n * 3)).toList.length = (flatE es).length := by rw [HFL.out]; simp [madeCells]
    have hu0 := Upto.zero hs0
    obtain ⟨cs, hcs⟩ : ∃ cs, cs = (madeCells (Value.agg #[.int .i64 0, .int .i64 0, .int .i64 0]).cells (n * 3)).toList := ⟨_, rfl⟩
    rw [← hcs] at hown hu0
    clear hcs hs0 hg
    go_loopw [4] (fun i wr => ∃ (k : Nat) (cs : List Value), k ≤ n ∧ i = .int .i64 k ∧ Upto cs (flatE es) (k * 3) ∧ wr.ownsRow w.heap.size 148 3 (.slice (some ⟨w.heap.size, 0, none⟩) n n) n cs ∧ Below w.heap.size w wr) (fun i _ => n - (intOf i).toNat)
    case atStart => exact ⟨0, cs, Nat.zero_le _, rfl, hu0, hown, hb1⟩
    case round =>
      clear hown hu0 hb1 cs
      obtain ⟨k, cs, hk, rfl, hu, hown, hbw⟩ := hrel
      by_cases hlt : k < n
      · obtain ⟨hx, hy, hv⟩ := hc k (by omega)
        obtain ⟨f1, f2, f3⟩ := HFA.out k (by omega)
        have hx := (hbw.cell hb).trans hx
        have hy := (hbw.cell hb).trans hy
        have hv := (hbw.cell hb).trans hv
        have HU := Hid.mk (hu.set3 (by rw [HFL.out]; omega))
        rw [f1, f2, f3] at HU
        have hlen : cs.length = n * 3 := by rw [hu.1]; exact HFL.out
        clear f1 f2 f3 hu hc
        generalize tet es k = Y at *
        obtain ⟨x, y, v⟩ := Y
        simp only at hx hy hv HU
        have hki : (k : Int) < (n : Int) := by omega
        go_wp2_with fail
        refine (toTest_any x y v _).mono ?_
        rintro e w2 ⟨rfl, hb2⟩
        have ho2 := hown.kept (Below.toGrown hb2 none) (by simp; exact Classical.em _)
        have B2 := hbw.trans (hb2.mono hbw.size)
        obtain ⟨u0, hu0⟩ : ∃ u, cs[k * 3]? = some u := ⟨_, List.getElem?_eq_getElem (by omega)⟩
        obtain ⟨u1, hu1⟩ : ∃ u, cs[k * 3 + 1]? = some u := ⟨_, List.getElem?_eq_getElem (by omega)⟩
        obtain ⟨u2, hu2⟩ : ∃ u, cs[k * 3 + 2]? = some u := ⟨_, List.getElem?_eq_getElem (by omega)⟩
        have q0 : w2.cell? ⟨w.heap.size, k * 3, none⟩ = some u0 := (ho2.cellAt _ (by omega)).trans hu0
        have q1 : w2.cell? ⟨w.heap.size, k * 3 + 1, none⟩ = some u1 := (ho2.cellAt _ (by omega)).trans hu1
        have q2 : w2.cell? ⟨w.heap.size, k * 3 + 2, none⟩ = some u2 := (ho2.cellAt _ (by omega)).trans hu2
        have p0 : w2.frozen? ⟨w.heap.size, k * 3, none⟩ = false := ho2.frozenAt _
        have p1 : w2.frozen? ⟨w.heap.size, k * 3 + 1, none⟩ = false := ho2.frozenAt _
        have p2 : w2.frozen? ⟨w.heap.size, k * 3 + 2, none⟩ = false := ho2.frozenAt _
        have s1 := (ho2.stored (k * 3) (.int .i64 x)).1
        have s2 := (s1.stored (k * 3 + 1) (.int .i64 y)).1
        have HO := Hid.mk (s2.stored (k * 3 + 2) (.int .i64 v)).1
        have HB : Hid (Below w.heap.size w (((w2.setCell ⟨w.heap.size, k * 3, none⟩ (.int .i64 x)).setCell ⟨w.heap.size, k * 3 + 1, none⟩ (.int .i64 y)).setCell ⟨w.heap.size, k * 3 + 2, none⟩ (.int .i64 v))) := ((B2.setCell (Nat.le_refl _) _).setCell (Nat.le_refl _) _).setCell (Nat.le_refl _) _
        clear s1 s2 hu0 hu1 hu2 ho2 hown hbw B2 hb2 hx hy hv
        go_wp2
        go_roundw
        case rel => exact ⟨k + 1, _, by omega, by go_num, HU.out, HO.out, HB.out⟩
        case measure => simp [intOf]; omega
      · obtain rfl : k = n := by omega
        rw [hu.all (by rw [HFL.out]; omega)] at hown
        go_wp2
        go_ret
        exact ⟨rfl, hown, hbw⟩

set_option maxRecDepth 100000 in
set_option maxHeartbeats 1000000 in
theorem eqTestS_same (a a' : Option Addr) (n c c' : Nat) (es : List Tst) (w : World) (hz : es.length = n) (hn : n ≤ 1048576) (ha : AtE w a es) (ha' : AtE w a' es) :
    Calls Tryz.prog 134 #[.slice a n c, .slice a' n c'] w fun e w' => e = .returned (.bool true) ∧ Below w.heap.size w w' := by
  by_cases h0 : n = 0
  · subst h0
    go_enter Tryz.func134, Tryz.ntmps134
    go_wp2
    refine wp_loop_rounds 1 ?_
    rw [rounds_succ]
    go_wp2
    go_ret
    exact ⟨rfl, Below.refl _ _⟩
  · obtain ⟨b, off, rfl, hb, hc⟩ := ha.some (by omega)
    obtain ⟨b', off', rfl, hb', hc'⟩ := ha'.some (by omega)
    clear ha ha'
    go_enter Tryz.func134, Tryz.ntmps134
    go_wp2
    go_loopw [5] (fun i wr => ∃ (k : Nat), k ≤ n ∧ i = .int .i64 k ∧ Below w.heap.size w wr) (fun i _ => n - (intOf i).toNat)
    case atStart => exact ⟨0, Nat.zero_le _, rfl, Below.refl _ _⟩
    case round =>
      obtain ⟨k, hk, rfl, hbw⟩ := hrel
      by_cases hlt : k < n
      · obtain ⟨hx, hy, hv⟩ := hc k (by omega)
        obtain ⟨hx', hy', hv'⟩ := hc' k (by omega)
        have hx := (hbw.cell hb).trans hx
        have hy := (hbw.cell hb).trans hy
        have hv := (hbw.cell hb).trans hv
        have hx' := (hbw.cell hb').trans hx'
        have hy' := (hbw.cell hb').trans hy'
        have hv' := (hbw.cell hb').trans hv'
        generalize tet es k = Y at *
        obtain ⟨x, y, v⟩ := Y
        simp only at hx hy hv hx' hy' hv'
        have hki : (k : Int) < (n : Int) := by omega
        clear hc hc'
        go_wp2_with fail
        go_region_held3 (fun w' => w'.cell? ⟨b, off + k * 3, none⟩ = some (.int .i64 x) ∧ w'.cell? ⟨b, off + k * 3 + 1, none⟩ = some (.int .i64 y) ∧ w'.cell? ⟨b, off + k * 3 + 2, none⟩ = some (.int .i64 v) ∧ w'.cell? ⟨b', off' + k * 3, none⟩ = some (.int .i64 x) ∧ w'.cell? ⟨b', off' + k * 3 + 1, none⟩ = some (.int .i64 y) ∧ w'.cell? ⟨b', off' + k * 3 + 2, none⟩ = some (.int .i64 v)) (refine ⟨?_, ?_, ?_, ?_, ?_, ?_⟩ <;> assumption)
          (first | (go_at_call 160; refine (eqTest_same x y v _).mono ?_; rintro e w2 ⟨rfl, hb2⟩; have e1 := cell_later hb2 hx; have e2 := cell_later hb2 hy; have e3 := cell_later hb2 hv; have e4 := cell_later hb2 hx'; have e5 := cell_later hb2 hy'; have e6 := cell_later hb2 hv') | fail)
        go_wp2
        go_roundw
        case rel => exact ⟨k + 1, by omega, by go_num, hbw.drew.trans (hb2.mono hbw.size)⟩
        case measure => simp [intOf]; omega
      · go_wp2
        go_ret
        exact ⟨rfl, hbw⟩
end Go.Proofs.YthiabjkjpjmahaaGreat

/- Slices of tests as things in memory. -/
namespace Go.Proofs.YthiabjkjpjmahaaGreat
open Go.RowKit

abbrev RTest : Rep Tst := Rep.pair Rep.int (Rep.pair Rep.int Rep.int)
abbrev RTests : Rep (List Tst) := Rep.slice 148 RTest

theorem atSl_test {w : World} {a : Option Addr} {es : List Tst} : AtSl RTest w a es ↔ AtE w a es := by
  constructor
  · rintro (h | ⟨b, off, rfl, hc⟩)
    · subst h; exact .inl rfl
    · refine .inr ⟨b, off, rfl, fun j hj => ?_⟩
      rw [flatE_len] at hj
      have hk : j / 3 < es.length := by omega
      obtain ⟨cs, h1, h2⟩ := hc (j / 3) es[j / 3] (List.getElem?_eq_getElem hk)
      obtain ⟨c1, c2, rfl, e1, c3, c4, rfl, e3, e4⟩ := h2
      obtain rfl : c1 = _ := e1
      obtain rfl : c3 = _ := e3
      obtain rfl : c4 = _ := e4
      have hf := flatE_at es (j / 3) hk
      have ht : tet es (j / 3) = es[j / 3] := by simp [tet, List.getD, hk]
      rw [ht] at hf
      have g0 := h1 0 _ rfl
      have g1 := h1 1 _ rfl
      have g2 := h1 2 _ rfl
      simp only [Rep.pair, Rep.int] at g0 g1 g2
      have hmod : j % 3 = 0 ∨ j % 3 = 1 ∨ j % 3 = 2 := by omega
      rcases hmod with hm | hm | hm
      · have e : j = j / 3 * 3 := by omega
        rw [show off + j = off + j / 3 * (1 + (1 + 1)) + 0 by omega, g0, ← hf.1, ← e]
      · have e : j = j / 3 * 3 + 1 := by omega
        rw [show off + j = off + j / 3 * (1 + (1 + 1)) + 1 by omega, g1, ← hf.2.1, ← e]
      · have e : j = j / 3 * 3 + 2 := by omega
        rw [show off + j = off + j / 3 * (1 + (1 + 1)) + 2 by omega, g2, ← hf.2.2, ← e]
  · intro h
    by_cases h0 : es.length = 0
    · exact .inl (List.eq_nil_of_length_eq_zero h0)
    · obtain ⟨b, off, rfl, _, hc⟩ := h.some (by omega)
      refine .inr ⟨b, off, rfl, fun i x hx => ?_⟩
      have hi := (List.getElem?_eq_some_iff.1 hx).1
      obtain ⟨g0, g1, g2⟩ := hc i hi
      have ht : tet es i = x := by simp [tet, List.getD, hx]
      rw [ht] at g0 g1 g2
      refine ⟨[.int .i64 x.1, .int .i64 x.2.1, .int .i64 x.2.2], fun j v hv => ?_, [.int .i64 x.1], _, rfl, rfl, [.int .i64 x.2.1], _, rfl, rfl, rfl⟩
      simp only [Rep.pair, Rep.int]
      match j, hv with
      | 0, hv => obtain rfl := Option.some.inj hv; simpa using g0
      | 1, hv => obtain rfl := Option.some.inj hv; simpa using g1
      | 2, hv => obtain rfl := Option.some.inj hv; simpa using g2

theorem sub_three {zs : List Value} {i : Nat} {x y z : Value} (h0 : zs[i * 3]? = some x) (h1 : zs[i * 3 + 1]? = some y) (h2 : zs[i * 3 + 2]? = some z) : sub zs (i * 3) 3 = [x, y, z] := by
  apply List.ext_getElem?
  intro j
  by_cases hj : j < 3
  · rw [sub_at hj]
    match j, hj with
    | 0, _ => simpa using h0
    | 1, _ => simpa using h1
    | 2, _ => simpa using h2
  · rw [List.getElem?_eq_none (by simp [sub]; omega), List.getElem?_eq_none (by simp; omega)]

theorem RTests.own_iff {w : World} {F : Nat → Prop} {a : Option Addr} {n c : Nat} {es : List Tst} :
    RTests.Own w F [.slice a n c] es ↔ es.length = n ∧ n ≤ 9223372036854775807 ∧ w.ownsRow 0 148 3 (.slice a n c) n ((flatE es).map (.int .i64)) ∧ ∀ b, (Value.slice a n c).ownBlock = some b → F b := by
  constructor
  · rintro ⟨a', n', c', cells, G, e, h⟩
    simp only [List.cons.injEq, Value.slice.injEq, and_true] at e
    obtain ⟨rfl, rfl, rfl⟩ := e
    have hcl : cells.length = n * 3 := h.outer.1
    have hc : cells = (flatE es).map (.int .i64) := by
      refine cells_ints (by rw [flatE_len, hcl, h.len]) (fun j x hx => ?_)
      have hj : j < es.length * 3 := by rw [← flatE_len]; exact (List.getElem?_eq_some_iff.1 hx).1
      have hk : j / 3 < es.length := by omega
      obtain ⟨c1, c2, _, _, e1, e2, ⟨c3, c4, _, _, e3, e4, e5, _⟩, _⟩ := h.row (j / 3) es[j / 3] (by rw [← h.len]; exact hk) (List.getElem?_eq_getElem hk)
      obtain rfl : c1 = _ := e2
      obtain rfl : c3 = _ := e4
      obtain rfl : c4 = _ := e5
      rw [e3] at e1
      have hf := flatE_at es (j / 3) hk
      have ht : tet es (j / 3) = es[j / 3] := by simp [tet, List.getD, hk]
      rw [ht] at hf
      have hx' : (flatE es).getD j 0 = x := by simp [List.getD, hx]
      have hmod : j % 3 = 0 ∨ j % 3 = 1 ∨ j % 3 = 2 := by omega
      rcases hmod with hm | hm | hm
      · have e2 : (sub cells (j / 3 * 3) 3)[0]? = cells[j / 3 * 3 + 0]? := sub_at (by omega)
        have e6 : sub cells (j / 3 * 3) 3 = _ := e1
        rw [e6, show j / 3 * 3 + 0 = j by omega] at e2
        rw [show j / 3 * 3 = j by omega, hx'] at hf
        rw [← e2, hf.1]; rfl
      · have e2 : (sub cells (j / 3 * 3) 3)[1]? = cells[j / 3 * 3 + 1]? := sub_at (by omega)
        have e6 : sub cells (j / 3 * 3) 3 = _ := e1
        rw [e6, show j / 3 * 3 + 1 = j by omega] at e2
        rw [show j / 3 * 3 + 1 = j by omega, hx'] at hf
        rw [← e2, hf.2.1]; rfl
      · have e2 : (sub cells (j / 3 * 3) 3)[2]? = cells[j / 3 * 3 + 2]? := sub_at (by omega)
        have e6 : sub cells (j / 3 * 3) 3 = _ := e1
        rw [e6, show j / 3 * 3 + 2 = j by omega] at e2
        rw [show j / 3 * 3 + 2 = j by omega, hx'] at hf
        rw [← e2, hf.2.2]; rfl
    refine ⟨h.len, h.big, ?_, h.outerF⟩
    rw [← hc]; exact h.outer
  · rintro ⟨h1, h2, h3, h4⟩
    refine ⟨a, n, c, _, fun _ _ => False, rfl, h1, h2, h3, h4, fun i x hi hx => ?_, fun i b hi hb => hb.elim, fun i j b _ _ _ hb => hb.elim⟩
    have hi' := (List.getElem?_eq_some_iff.1 hx).1
    have hf := flatE_at es i hi'
    have ht : tet es i = x := by simp [tet, List.getD, hx]
    rw [ht] at hf
    have hl := flatE_len es
    have look : ∀ j, j < (flatE es).length → ((flatE es).map (Value.int .i64))[j]? = some (.int .i64 ((flatE es).getD j 0)) := fun j hj => by simp [List.getD, hj]
    refine ⟨[.int .i64 x.1], [.int .i64 x.2.1, .int .i64 x.2.2], fun _ => False, fun _ => False, ?_, rfl, ⟨[.int .i64 x.2.1], _, fun _ => False, fun _ => False, rfl, rfl, rfl, fun b hb => hb, fun b hb => hb, fun b hb => hb.elim⟩, fun b hb => hb, fun b hb => hb, fun b hb => hb.elim⟩
    refine sub_three ?_ ?_ ?_
    · rw [look _ (by omega), hf.1]
    · rw [look _ (by omega), hf.2.1]
    · rw [look _ (by omega), hf.2.2]

end Go.Proofs.YthiabjkjpjmahaaGreat

/- Parts of views, and views, as things in memory. -/
namespace Go.Proofs.YthiabjkjpjmahaaGreat
open Go.RowKit

/-- A part: its kind, A, B, tests, columns, pairs. -/
abbrev PartD := Int × Int × Int × List Tst × List Int × List (List Int)
abbrev PartD.K (x : PartD) : Int := x.1
abbrev PartD.A (x : PartD) : Int := x.2.1
abbrev PartD.B (x : PartD) : Int := x.2.2.1
abbrev PartD.ts (x : PartD) : List Tst := x.2.2.2.1
abbrev PartD.cs (x : PartD) : List Int := x.2.2.2.2.1
abbrev PartD.ps (x : PartD) : List (List Int) := x.2.2.2.2.2
abbrev RPart : Rep PartD := Rep.pair Rep.int (Rep.pair Rep.int (Rep.pair Rep.int (Rep.pair RTests (Rep.pair RInts RPairs))))
abbrev RParts : Rep (List PartD) := Rep.slice 74 RPart
abbrev ViewD := List Int × List PartD
abbrev RView : Rep ViewD := Rep.pair RInts RParts
theorem RPart_k : RPart.k = 6 := rfl

/-- The cells of a part. -/
abbrev cellsP (k a b : Int) (ta : Option Addr) (tn tc : Nat) (ca : Option Addr) (cn cc : Nat) (pa : Option Addr) (pn pc : Nat) : List Value :=
  [.int .i64 k, .int .i64 a, .int .i64 b, .slice ta tn tc, .slice ca cn cc, .slice pa pn pc]

theorem RPart.at_open4 {w : World} {cs : List Value} {x : PartD} (h : RPart.At w cs x) : ∃ ta tn tc ca cn cc pa pn pc, cs = cellsP x.K x.A x.B ta tn tc ca cn cc pa pn pc ∧
    (x.ts.length = tn ∧ tn ≤ 9223372036854775807 ∧ AtE w ta x.ts ∧ (ta = none → tc = 0)) ∧ (x.cs.length = cn ∧ cn ≤ 9223372036854775807 ∧ At w ca x.cs ∧ (ca = none → cc = 0)) ∧ (x.ps.length = pn ∧ pn ≤ 9223372036854775807 ∧ AtSl RInts w pa x.ps ∧ (pa = none → pc = 0)) := by
  obtain ⟨c1, d1, rfl, e1, c2, d2, rfl, e2, c3, d3, rfl, e3, c4, d4, rfl, ⟨ta, tn, tc, rfl, t1, t2, t3, t4⟩, c5, d5, rfl, ⟨ca, cn, cc, rfl, u1, u2, u3, u4⟩, ⟨pa, pn, pc, rfl, v1, v2, v3, v4⟩⟩ := h
  obtain rfl : c1 = _ := e1
  obtain rfl : c2 = _ := e2
  obtain rfl : c3 = _ := e3
  exact ⟨ta, tn, tc, ca, cn, cc, pa, pn, pc, rfl, ⟨t1, t2, atSl_test.1 t3, t4⟩, ⟨u1, u2, atSl_int.1 u3, u4⟩, ⟨v1, v2, v3, v4⟩⟩

theorem RPart.at_open {w : World} {cs : List Value} {x : PartD} (h : RPart.At w cs x) : ∃ ta tn tc ca cn cc pa pn pc, cs = cellsP x.K x.A x.B ta tn tc ca cn cc pa pn pc ∧
    (x.ts.length = tn ∧ tn ≤ 9223372036854775807 ∧ AtE w ta x.ts) ∧ (x.cs.length = cn ∧ cn ≤ 9223372036854775807 ∧ At w ca x.cs) ∧ (x.ps.length = pn ∧ pn ≤ 9223372036854775807 ∧ AtS w pa x.ps) := by
  obtain ⟨ta, tn, tc, ca, cn, cc, pa, pn, pc, e, ⟨t1, t2, t3, _⟩, ⟨u1, u2, u3, _⟩, ⟨v1, v2, v3, _⟩⟩ := RPart.at_open4 h
  exact ⟨ta, tn, tc, ca, cn, cc, pa, pn, pc, e, ⟨t1, t2, t3⟩, ⟨u1, u2, u3⟩, ⟨v1, v2, atSl_ints v3⟩⟩

theorem RPart.own_mk {w : World} {F F1 F2 F3 : Nat → Prop} {k a b : Int} {ts : List Tst} {zs : List Int} {ps : List (List Int)} {ta : Option Addr} {tn tc : Nat} {ca : Option Addr} {cn cc : Nat} {pa : Option Addr} {pn pc : Nat}
    (h1 : RTests.Own w F1 [.slice ta tn tc] ts) (h2 : RInts.Own w F2 [.slice ca cn cc] zs) (h3 : RPairs.Own w F3 [.slice pa pn pc] ps) (f1 : ∀ b, F1 b → F b) (f2 : ∀ b, F2 b → F b) (f3 : ∀ b, F3 b → F b)
    (d12 : ∀ b, F1 b → ¬ F2 b) (d13 : ∀ b, F1 b → ¬ F3 b) (d23 : ∀ b, F2 b → ¬ F3 b) : RPart.Own w F (cellsP k a b ta tn tc ca cn cc pa pn pc) (k, a, b, ts, zs, ps) := by
  have no : ∀ (G : Nat → Prop) b, (fun _ => False : Nat → Prop) b → ¬ G b := fun _ _ h => h.elim
  refine ⟨[.int .i64 k], _, fun _ => False, F, rfl, rfl, ⟨[.int .i64 a], _, fun _ => False, F, rfl, rfl, ⟨[.int .i64 b], _, fun _ => False, F, rfl, rfl, ⟨[_], _, F1, fun b => F2 b ∨ F3 b, rfl, h1, ⟨[_], _, F2, F3, rfl, h2, h3, fun b h => .inl h, fun b h => .inr h, d23⟩, f1, ?_, ?_⟩, fun b h => h.elim, fun b h => h, no _⟩, fun b h => h.elim, fun b h => h, no _⟩, fun b h => h.elim, fun b h => h, no _⟩
  · rintro b (h | h)
    · exact f2 b h
    · exact f3 b h
  · rintro b hb (h | h)
    · exact d12 b hb h
    · exact d13 b hb h

theorem RPart.own_open {w : World} {F : Nat → Prop} {cs : List Value} {x : PartD} (h : RPart.Own w F cs x) : ∃ ta tn tc ca cn cc pa pn pc F1 F2 F3, cs = cellsP x.K x.A x.B ta tn tc ca cn cc pa pn pc ∧
    RTests.Own w F1 [.slice ta tn tc] x.ts ∧ RInts.Own w F2 [.slice ca cn cc] x.cs ∧ RPairs.Own w F3 [.slice pa pn pc] x.ps ∧ (∀ b, F1 b → F b) ∧ (∀ b, F2 b → F b) ∧ (∀ b, F3 b → F b) ∧ (∀ b, F1 b → ¬ F2 b) ∧ (∀ b, F1 b → ¬ F3 b) ∧ (∀ b, F2 b → ¬ F3 b) := by
  obtain ⟨c1, d1, _, G1, rfl, e1, ⟨c2, d2, _, G2, rfl, e2, ⟨c3, d3, _, G3, rfl, e3, ⟨c4, d4, F1, G4, rfl, h1, ⟨c5, d5, F2, F3, rfl, h2, h3, a1, a2, a3⟩, b1, b2, b3⟩, _, i1, _⟩, _, i2, _⟩, _, i3, _⟩ := h
  obtain rfl : c1 = _ := e1
  obtain rfl : c2 = _ := e2
  obtain rfl : c3 = _ := e3
  obtain ⟨ta, tn, tc, tcells, tG, rfl, tl⟩ := h1
  obtain ⟨ca, cn, cc, ccells, cG, rfl, cl⟩ := h2
  obtain ⟨pa, pn, pc, pcells, pG, rfl, pl⟩ := h3
  exact ⟨ta, tn, tc, ca, cn, cc, pa, pn, pc, F1, F2, F3, rfl, ⟨ta, tn, tc, tcells, tG, rfl, tl⟩, ⟨ca, cn, cc, ccells, cG, rfl, cl⟩, ⟨pa, pn, pc, pcells, pG, rfl, pl⟩, fun b h => i3 b (i2 b (i1 b (b1 b h))), fun b h => i3 b (i2 b (i1 b (b2 b (a1 b h)))), fun b h => i3 b (i2 b (i1 b (b2 b (a2 b h)))),
    fun b h k => b3 b h (a1 b k), fun b h k => b3 b h (a2 b k), a3⟩

/-- How many slots the laws count for a part; and for some. -/
def pcost (x : PartD) : Nat := x.ts.length + x.cs.length + (x.ps.length + tot x.ps x.ps.length)
def psum (xs : List PartD) (k : Nat) : Nat := ((xs.take k).map pcost).sum
theorem psum_zero (xs : List PartD) : psum xs 0 = 0 := rfl
theorem psum_succ {xs : List PartD} {k : Nat} {x : PartD} (h : xs[k]? = some x) : psum xs (k + 1) = psum xs k + pcost x := by
  have hk := (List.getElem?_eq_some_iff.1 h).1
  have hx := (List.getElem?_eq_some_iff.1 h).2
  unfold psum
  rw [List.take_succ_eq_append_getElem hk, List.map_append, List.sum_append, hx]
  simp
theorem psum_mono (xs : List PartD) (j k : Nat) (h : j ≤ k) : psum xs j ≤ psum xs k := by
  obtain ⟨d, rfl⟩ := Nat.le.dest h
  induction d with
  | zero => exact Nat.le_refl _
  | succ d ih =>
    by_cases hk : j + d < xs.length
    · rw [show j + (d + 1) = (j + d) + 1 from rfl, psum_succ (List.getElem?_eq_getElem hk)]; have := ih (by omega); omega
    · have e1 : psum xs (j + (d + 1)) = psum xs (j + d) := by unfold psum; rw [List.take_of_length_le (by omega), List.take_of_length_le (by omega)]
      rw [e1]; exact ih (by omega)
theorem psum_each {xs : List PartD} {n i : Nat} {x : PartD} (hn : xs.length = n) (h : xs[i]? = some x) : pcost x ≤ psum xs n := by
  have hi := (List.getElem?_eq_some_iff.1 h).1
  have h1 := psum_succ h
  have h2 := psum_mono xs (i + 1) n (by omega)
  omega
def vcost (v : ViewD) : Nat := v.1.length + (v.2.length + psum v.2 v.2.length)

/-- Parts within the laws' bound. -/
def SmPart (x : PartD) : Prop := x.ts.length ≤ 1048576 ∧ x.cs.length ≤ 1048576 ∧ x.ps.length ≤ 1048576 ∧ tot x.ps x.ps.length ≤ 1048576
theorem SmPart.of {x : PartD} (h : pcost x ≤ 1048576) : SmPart x := by unfold pcost at h; exact ⟨by omega, by omega, by omega, by omega⟩
theorem SmPart.each {x : PartD} (h : SmPart x) : ∀ i, i < x.ps.length → (x.ps.getD i []).length ≤ 1048576 := fun i hi => by
  have := tot_each x.ps x.ps.length rfl i hi
  have := h.2.2.2
  omega
def SmView (v : ViewD) : Prop := vcost v ≤ 1048576
theorem SmView.src {v : ViewD} (h : SmView v) : v.1.length ≤ 1048576 := by unfold SmView vcost at h; omega
theorem SmView.len {v : ViewD} (h : SmView v) : v.2.length ≤ 1048576 := by unfold SmView vcost at h; omega
theorem SmView.part {v : ViewD} (h : SmView v) {i : Nat} {x : PartD} (hx : v.2[i]? = some x) : SmPart x := by
  have := psum_each rfl hx
  unfold SmView vcost at h
  exact SmPart.of (by omega)

end Go.Proofs.YthiabjkjpjmahaaGreat

/- Contracts of impl.goodTest, impl.passes. -/
namespace Go.Proofs.YthiabjkjpjmahaaGreat
open Go.RowKit

/-- A test that rows of so many columns can be put to. -/
def goodE (n : Int) (t : Tst) : Bool := decide (0 ≤ t.2.1 ∧ t.2.1 < n ∧ ((1 ≤ t.1 ∧ t.1 ≤ 3 ∧ -100000 ≤ t.2.2 ∧ t.2.2 ≤ 100000) ∨ (t.1 = 4 ∧ 0 ≤ t.2.2 ∧ t.2.2 < n)))
def passE (zs : List Int) (t : Tst) : Bool :=
  if t.1 = 1 then decide (zs.getD t.2.1.toNat 0 = t.2.2) else if t.1 = 2 then decide (zs.getD t.2.1.toNat 0 < t.2.2) else if t.1 = 3 then decide (t.2.2 < zs.getD t.2.1.toNat 0) else decide (zs.getD t.2.1.toNat 0 = zs.getD t.2.2.toNat 0)

set_option maxRecDepth 100000 in
set_option maxHeartbeats 2000000 in
theorem goodTest_any (q : Int) (x y v : Int) (w : World) :
    Calls Tryz.prog 162 #[.agg #[.int .i64 x, .int .i64 y, .int .i64 v], .int .i64 q] w fun e w' => e = .returned (.bool (goodE q (x, y, v))) ∧ Below w.heap.size w w' := by
  have hb : Below w.heap.size w (w.alloc (.cells #[.int .i64 x, .int .i64 y, .int .i64 v] 148)) := (Below.refl _ _).alloc (Nat.le_refl _) _
  go_enter Tryz.func162, Tryz.ntmps162
  go_wp2
  all_goals (go_ret; refine ⟨ret_bool (Bool.eq_iff_iff.2 ?_), hb⟩; clear hb; unfold goodE; (try simp only [beq_iff_eq, beq_eq_false_iff_ne, ne_eq] at *); (try simp only [decide_eq_true_eq, Bool.false_eq_true, false_iff]); omega)

set_option maxRecDepth 100000 in
set_option maxHeartbeats 4000000 in
theorem passes_any (a : Option Addr) (n c : Nat) (zs : List Int) (x y v : Int) (w : World) (hz : zs.length = n) (hn : n ≤ 6) (hg : goodE n (x, y, v) = true) (ha : At w a zs) :
    Calls Tryz.prog 165 #[.agg #[.slice a n c], .agg #[.int .i64 x, .int .i64 y, .int .i64 v]] w fun e w' => e = .returned (.bool (passE zs (x, y, v))) ∧ Below w.heap.size w w' := by
  have hg' : 0 ≤ y ∧ y < n ∧ ((1 ≤ x ∧ x ≤ 3 ∧ -100000 ≤ v ∧ v ≤ 100000) ∨ (x = 4 ∧ 0 ≤ v ∧ v < n)) := by simpa [goodE] using hg
  obtain ⟨y', rfl⟩ : ∃ k : Nat, y = k := ⟨y.toNat, by omega⟩
  obtain ⟨b, off, rfl, hbk, hc⟩ := ha.some (by omega)
  have hcy := hc y' (by omega)
  have hb : Below w.heap.size w ((w.alloc (.cells #[.slice (some ⟨b, off, none⟩) n c] 80)).alloc (.cells #[.int .i64 x, .int .i64 (y' : Int), .int .i64 v] 148)) := ((Below.refl _ _).alloc (Nat.le_refl _) _).alloc (by simp) _
  have hby : b < w.heap.size + 1 := by omega
  have hyn : (y' : Int) < (n : Int) := by omega
  by_cases h4 : x = 4
  · subst h4
    obtain ⟨v', rfl⟩ : ∃ k : Nat, v = k := ⟨v.toNat, by omega⟩
    have hcv := hc v' (by omega)
    have hvn : (v' : Int) < (n : Int) := by omega
    have HP : Hid (passE zs (4, (y' : Int), (v' : Int)) = decide (zs.getD y' 0 = zs.getD v' 0)) := by show _ = _; simp [passE]
    clear hg hg' hc ha
    generalize zs.getD y' 0 = cy at *
    generalize zs.getD v' 0 = cv at *
    go_enter Tryz.func165, Tryz.ntmps165
    go_wp2
    go_ret
    exact ⟨ret_bool (by rw [HP.out]; rfl), hb⟩
  · have HP : Hid (passE zs (x, (y' : Int), v) = if x = 1 then decide (zs.getD y' 0 = v) else if x = 2 then decide (zs.getD y' 0 < v) else decide (v < zs.getD y' 0)) := by
      show _ = _
      unfold passE
      have : x = 1 ∨ x = 2 ∨ x = 3 := by omega
      rcases this with rfl | rfl | rfl <;> simp
    have h3 : x = 1 ∨ x = 2 ∨ x = 3 := by omega
    clear hg hg' hc ha
    generalize zs.getD y' 0 = cy at *
    rcases h3 with rfl | rfl | rfl
    · go_enter Tryz.func165, Tryz.ntmps165
      go_wp2
      go_ret
      exact ⟨ret_bool (by rw [HP.out]; rfl), hb⟩
    · go_enter Tryz.func165, Tryz.ntmps165
      go_wp2
      go_ret
      exact ⟨ret_bool (by rw [HP.out]; rfl), hb⟩
    · go_enter Tryz.func165, Tryz.ntmps165
      go_wp2
      go_ret
      exact ⟨ret_bool (by rw [HP.out]; rfl), hb⟩
end Go.Proofs.YthiabjkjpjmahaaGreat
