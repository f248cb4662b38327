/- Several texts of one proof, in build order: WSum, LawG, TestS, IntSS. -/
import Derived.Test.YthdcjelahoiepabM4
import Derived.Test.YthdcjelahoiepabM5
import Derived.Deep.DeepCutAuto
import Derived.Test.YthdcjelahoiepabM3
import Derived.Test.YthdcjelahoiepabM0
import Derived.Deep.RegionHeld3

/- Plain: what is told by summing weights up, and by putting them one by one, is one list. -/
namespace Go.Proofs.Ythdcjelahoiepab
open Go.RowKit

/-- What a function that tells a table or nothing hands back. -/
def ansP (ok : Bool) (p : Int) : Int := if ok then p else 0
def ansT (ok : Bool) (ts : List WRow) : List WRow := if ok then ts else []
/-- What NewTable tells. -/
def newB (p : Int) (l : List WRow) : Bool := inc p && (decide (l.length ≤ 200) && (goodL p l && goodT p (putAll [] l)))
theorem newB_col {p : Int} {l : List WRow} (h : inc p = false) : newB p l = false := by simp [newB, h]
theorem newB_len {p : Int} {l : List WRow} (h : 200 < l.length) : newB p l = false := by
  have : decide (l.length ≤ 200) = false := by simp; omega
  simp [newB, this]
theorem newB_list {p : Int} {l : List WRow} (h : goodL p l = false) : newB p l = false := by simp [newB, h]
theorem newB_good {p : Int} {l : List WRow} (h1 : inc p = true) (h2 : l.length ≤ 200) (h3 : goodL p l = true) : newB p l = goodT p (putAll [] l) := by simp [newB, h1, h2, h3]

theorem keysTo_mem {ts : List WRow} {k : Nat} {a : List Int} (h : a ∈ keysTo ts k) : ∃ t ∈ ts, a = raised t.1 := by
  unfold keysTo at h
  rw [List.mem_reverse] at h
  obtain ⟨t, ht, rfl⟩ := List.mem_map.1 h
  exact ⟨t, List.mem_of_mem_take ht, rfl⟩
theorem goodL_mem {p : Int} {ts : List WRow} (h : goodL p ts = true) : ∀ t ∈ ts, good t.1 = true ∧ (t.1.length : Int) = p ∧ -1000000 ≤ t.2 ∧ t.2 ≤ 1000000 := fun t ht => goodW_cells (List.all_eq_true.1 h t ht)
theorem keys_list {q : Nat} {ts : List WRow} (h : goodL q ts = true) (k : Nat) : Keys q (keysTo ts k) := fun a ha => by
  obtain ⟨t, ht, rfl⟩ := keysTo_mem ha
  have := goodL_mem h t ht
  exact ⟨t.1, this.1, by omega, rfl⟩
theorem keys_append {q : Nat} {S S' : List (List Int)} (h : Keys q S) (h' : Keys q S') : Keys q (S ++ S') := fun a ha => by
  rcases List.mem_append.1 ha with ha | ha
  · exact h a ha
  · exact h' a ha

theorem Tells.unique {q : Nat} {f : List Int → Int} {ts us : List WRow} (h : Tells q f ts) (k : Tells q f us) : ts = us := by
  refine rises_ext h.rises k.rises h.noZero k.noZero fun zs => ?_
  by_cases e : good zs = true ∧ zs.length = q
  · rw [h.weight zs e.1 e.2, k.weight zs e.1 e.2]
  · rw [wOf_absent fun t ht e' => e (by rw [← e']; exact h.rows t ht), wOf_absent fun t ht e' => e (by rw [← e']; exact k.rows t ht)]

/-- The sum by arrays is the sum by rows. -/
theorem sumAt_sumW {ts : List WRow} {zs : List Int} {n : Nat} (hn : ts.length = n) (times : Int) (hg : ∀ t ∈ ts, good t.1 = true) (hz : good zs = true) : sumAt ts n times (raised zs) = sumW ts zs * times := by
  unfold sumAt sumW
  rw [List.take_of_length_le (by omega)]
  clear hn
  induction ts with
  | nil => simp
  | cons t ts ih =>
    rw [List.map_cons, List.map_cons, List.sum_cons, List.sum_cons, ih fun s hs => hg s (by simp [hs]), Int.add_mul]
    congr 1
    by_cases e : t.1 = zs
    · rw [if_pos e, if_pos (by rw [e])]
    · rw [if_neg e, if_neg (fun h => e (raised_inj (hg t (by simp)) hz h))]; simp

theorem sumW_absent {ts : List WRow} {zs : List Int} (h : ∀ t ∈ ts, t.1 ≠ zs) : sumW ts zs = 0 := by
  unfold sumW
  induction ts with
  | nil => rfl
  | cons t ts ih => rw [List.map_cons, List.sum_cons, if_neg (h t (by simp)), ih fun s hs => h s (by simp [hs])]; rfl
theorem sumW_rises {ts : List WRow} {zs : List Int} (h : Rises ts) : sumW ts zs = wOf ts zs := by
  induction ts with
  | nil => rfl
  | cons t ts ih =>
    obtain ⟨h1, h2⟩ := List.pairwise_cons.1 h
    have e : sumW (t :: ts) zs = (if t.1 = zs then t.2 else 0) + sumW ts zs := by simp [sumW]
    rw [e, ih h2, wOf_cons]
    by_cases e2 : t.1 = zs
    · rw [if_pos e2, if_pos e2, wOf_absent fun s hs e3 => cmp_ne (h1 s hs) (e2.trans e3.symm)]; omega
    · rw [if_neg e2, if_neg e2]; omega

theorem tells_put {q : Nat} {f : List Int → Int} {ts l : List WRow} (hr : Rises ts) (hn : NoZero ts) (hrow : ∀ t ∈ ts, good t.1 = true ∧ t.1.length = q) (hl : ∀ t ∈ l, good t.1 = true ∧ t.1.length = q)
    (hf : ∀ zs, good zs = true → zs.length = q → f (raised zs) = wOf ts zs + sumW l zs) : Tells q f (putAll ts l) where
  rises := putAll_rises hr
  noZero := putAll_nozero hn
  rows := fun t ht => by
    rcases putAll_rows ht with ⟨s, hs, e⟩ | ⟨s, hs, e⟩
    · rw [← e]; exact hrow s hs
    · rw [← e]; exact hl s hs
  weight := fun zs h1 h2 => by rw [putAll_wOf zs hr, hf zs h1 h2]

theorem tells_new {q n : Nat} {ts : List WRow} (hz : ts.length = n) (h : goodL q ts = true) : Tells q (sumAt ts n 1) (putAll [] ts) :=
  tells_put List.Pairwise.nil (fun t ht => by cases ht) (fun t ht => by cases ht) (fun t ht => by have := goodL_mem h t ht; exact ⟨this.1, by omega⟩)
    fun zs h1 _ => by rw [sumAt_sumW hz 1 (fun t ht => (goodL_mem h t ht).1) h1, wOf_nil]; omega

end Go.Proofs.Ythdcjelahoiepab

/- The laws' helpers over tables in one form: what they make, hold equal, mark, find held. -/
namespace Go.Proofs.Ythdcjelahoiepab
open Go.RowKit

/-- A list of weighted rows that the laws' bound allows. -/
def SmT (ts : List WRow) (n : Nat) : Prop := ts.length = n ∧ wtot ts n ≤ 1048576
theorem SmT.n {ts : List WRow} {n : Nat} (h : SmT ts n) : n ≤ 1048576 := by have := wtot_len ts n (by have := h.1; omega); have := h.2; omega
theorem SmT.row {ts : List WRow} {n : Nat} (h : SmT ts n) : ∀ i, i < n → (wat ts i).1.length ≤ 1048576 := fun i hi => Nat.le_trans (wtot_each ts n h.1 i hi) h.2
theorem SmT.rowx {ts : List WRow} {n : Nat} (h : SmT ts n) : ∀ i, i < n → (wat ts i).1.length ≤ 9223372036854775807 := fun i hi => Nat.le_trans (h.row i hi) (by decide)

section
variable {w w' : World} {lo hi : Nat} {a : Option Addr} {n c : Nat} {ts : List WRow}
end

theorem wtot_le {ts : List WRow} {M : Nat} (h : ∀ t ∈ ts, t.1.length ≤ M) : ∀ k, k ≤ ts.length → wtot ts k ≤ k * (M + 1) := by
  intro k hk
  induction k with
  | zero => simp [wtot_zero]
  | succ k ih =>
    have h1 := ih (by omega)
    have h2 := h _ (wat_mem (show k < ts.length by omega))
    rw [wtot_succ ts k (by omega), Nat.add_mul]
    omega
theorem goodT_wtot {p : Int} {ts : List WRow} (h : goodT p ts = true) : wtot ts ts.length ≤ 1048576 := by
  have h1 := wtot_le (M := 6) (fun t ht => good_len (goodL_mem (goodL_of_goodT h) t ht).1) ts.length (Nat.le_refl _)
  have h2 := (goodT_parts h).2.1
  omega
/-- What is told is small. -/
theorem ans_small {ok : Bool} {p : Int} {ts : List WRow} (h : ok = true → goodT p ts = true) : SmT (ansT ok ts) (ansT ok ts).length := by
  refine ⟨rfl, ?_⟩
  cases ok with
  | false => simp [ansT, wtot]
  | true => exact goodT_wtot (h rfl)

theorem newB_goodT {p : Int} {l : List WRow} (h : newB p l = true) : goodT p (putAll [] l) = true := by
  simp only [newB, Bool.and_eq_true] at h
  exact h.2.2.2
/-- Outside lo .. hi - 1 a call's new memory is its own. -/
theorem Below.toApart {w w' : World} (h : Below w.heap.size w w') (lo hi : Nat) : Apart lo hi w w' := ⟨h.os, h.tape, h.output, h.size, fun k hk _ => h.block k hk⟩


theorem set2_heap {w : World} {g : Nat} {x y : Value} {t : TypeId} (h : w.heap[g]? = some (.cells #[x, y] t (0, 0))) (u v : Value) : ((w.setCell ⟨g, 0, none⟩ u).setCell ⟨g, 1, none⟩ v).heap[g]? = some (.cells #[u, v] t (0, 0)) := by
  have h1 := heap_setCell_same w g 0 _ t u h
  have h2 := heap_setCell_same _ g 1 _ t v h1
  rw [h2]; rfl
theorem set2_0 {w : World} {g : Nat} {x y : Value} {t : TypeId} (h : w.heap[g]? = some (.cells #[x, y] t (0, 0))) (u v : Value) : ((w.setCell ⟨g, 0, none⟩ u).setCell ⟨g, 1, none⟩ v).cell? ⟨g, 0, none⟩ = some u := by
  rw [cell_of_row _ _ 0 _ _ (0, 0) (set2_heap h u v)]; rfl
theorem set2_1 {w : World} {g : Nat} {x y : Value} {t : TypeId} (h : w.heap[g]? = some (.cells #[x, y] t (0, 0))) (u v : Value) : ((w.setCell ⟨g, 0, none⟩ u).setCell ⟨g, 1, none⟩ v).cell? ⟨g, 1, none⟩ = some v := by
  rw [cell_of_row _ _ 1 _ _ (0, 0) (set2_heap h u v)]; rfl
end Go.Proofs.Ythdcjelahoiepab

/- Lists of tests in memory: three ints each; contracts of the laws' helpers szTestS, toTestS, eqTestS, markTestS. -/
namespace Go.Proofs.Ythdcjelahoiepab
open Go.RowKit

/-- A test: its kind, its column, its value. -/
abbrev Tst := Int × Int × Int
def flatE (es : List Tst) : List Int := es.flatMap fun t => [t.1, t.2.1, t.2.2]
def tat (es : List Tst) (k : Nat) : Tst := es.getD k (0, 0, 0)
theorem flatE_len (es : List Tst) : (flatE es).length = es.length * 3 := by
  induction es with
  | nil => rfl
  | cons t es ih => unfold flatE at *; rw [List.flatMap_cons, List.length_append, ih]; simp; omega
theorem flatE_at : ∀ (es : List Tst) (k : Nat), k < es.length → (flatE es).getD (k * 3) 0 = (tat es k).1 ∧ (flatE es).getD (k * 3 + 1) 0 = (tat es k).2.1 ∧ (flatE es).getD (k * 3 + 2) 0 = (tat es k).2.2
  | t :: es, 0, _ => ⟨rfl, rfl, rfl⟩
  | t :: es, k + 1, h => by
    have ih := flatE_at es k (by simpa using h)
    have e : flatE (t :: es) = t.1 :: t.2.1 :: t.2.2 :: flatE es := rfl
    have e1 : (k + 1) * 3 = k * 3 + 1 + 1 + 1 := by omega
    have e2 : (k + 1) * 3 + 1 = k * 3 + 1 + 1 + 1 + 1 := by omega
    have e3 : (k + 1) * 3 + 2 = k * 3 + 2 + 1 + 1 + 1 := by omega
    rw [e, e1]
    refine ⟨?_, ?_, ?_⟩
    · simpa [List.getD, tat] using ih.1
    · rw [show k * 3 + 1 + 1 + 1 + 1 = (k * 3 + 1) + 1 + 1 + 1 by omega]; simpa [List.getD, tat] using ih.2.1
    · rw [show k * 3 + 1 + 1 + 1 + 2 = (k * 3 + 2) + 1 + 1 + 1 by omega]; simpa [List.getD, tat] using ih.2.2

/-- A slice of tests. -/
def AtE (w : World) (a : Option Addr) (es : List Tst) : Prop := At w a (flatE es)
theorem AtE.below {w w' : World} {a : Option Addr} {es : List Tst} (h : AtE w a es) (hb : Below w.heap.size w w') : AtE w' a es := At.below h hb
theorem AtE.drew {w : World} {a : Option Addr} {es : List Tst} (h : AtE w a es) : AtE w.drew a es := At.drew h
theorem AtE.some {w : World} {a : Option Addr} {es : List Tst} (h : AtE w a es) (hp : 0 < es.length) :
    ∃ b off, a = some ⟨b, off, none⟩ ∧ b < w.heap.size ∧ ∀ k, k < es.length → w.cell? ⟨b, off + k * 3, none⟩ = some (.int .i64 (tat es k).1) ∧ w.cell? ⟨b, off + k * 3 + 1, none⟩ = some (.int .i64 (tat es k).2.1) ∧ w.cell? ⟨b, off + k * 3 + 2, none⟩ = some (.int .i64 (tat es k).2.2) := by
  obtain ⟨b, off, rfl, hb, hc⟩ := At.some h (by rw [flatE_len]; omega)
  refine ⟨b, off, rfl, hb, fun k hk => ?_⟩
  have e := flatE_at es k hk
  have hl := flatE_len es
  refine ⟨?_, ?_, ?_⟩
  · rw [hc (k * 3) (by omega), e.1]
  · rw [Nat.add_assoc, hc (k * 3 + 1) (by omega), e.2.1]
  · rw [Nat.add_assoc, hc (k * 3 + 2) (by omega), e.2.2]
theorem At.owned3 {w : World} {base : Nat} {e : TypeId} {a : Option Addr} {n c : Nat} {zs : List Int}
    (h : w.ownsRow base e 3 (.slice a n c) n (zs.map (.int .i64))) : At w a zs := by
  have hl := h.1
  rcases h.2 with ⟨h', rfl⟩ | ⟨g, cap, cur, h', _⟩
  · left; simpa using hl
  · right
    simp only [Value.slice.injEq, true_and] at h'
    obtain ⟨rfl, rfl⟩ := h'
    refine ⟨g, 0, rfl, fun i hi => ?_⟩
    rw [Nat.zero_add, h.cellAt i (by simp at hl; omega)]
    simp [List.getD, hi]

theorem Try.infoTest : (Try.prog.info? 102).map (fun i => (i.zero, i.size, i.bytes)) = some (some (.agg #[.int .i64 0, .int .i64 0, .int .i64 0]), 3, 24) := by kernel_rfl

theorem szTestS_any (a : Option Addr) (n c : Nat) (_es : List Tst) (l : Int) (w : World) (_hz : _es.length = n) (hn : n ≤ 9223372036854775807) (h0 : 0 ≤ l) (h1 : l ≤ 1048576) (_ha : AtE w a _es) :
    Calls Try.prog 44 #[.slice a n c, .int .i64 l] w fun e w' => e = .returned (.int .i64 (leftOf l n)) ∧ Below w.heap.size w w' := by
  by_cases h : l < n
  · have h' : l - (n : Int) < 0 := by omega
    go_enter Try.func44, Try.ntmps44
    go_wp2
    go_ret
    exact ⟨ret_int (leftOf_no (by omega)).symm, Below.refl _ _⟩
  · have h' : ¬ l - (n : Int) < 0 := by omega
    go_enter Try.func44, Try.ntmps44
    go_wp2
    go_ret
    exact ⟨ret_int (by rw [leftOf_yes (by omega)]), Below.refl _ _⟩

set_option maxRecDepth 100000 in
set_option maxHeartbeats 400000 in
theorem toTest_any (x y z : Int) (w : World) :
    Calls Try.prog 55 #[.agg #[.int .i64 x, .int .i64 y, .int .i64 z]] w fun e w' => e = .returned (.agg #[.int .i64 x, .int .i64 y, .int .i64 z]) ∧ Below w.heap.size w w' := by
  go_enter Try.func55, Try.ntmps55
  go_wp2
  refine bodyPost_ret (v := .agg #[.int .i64 x, .int .i64 y, .int .i64 z]) (by simp [results, Try.results55, go_sem]) rfl ⟨rfl, ?_⟩
  exact (((Below.refl _ _).alloc (Nat.le_refl _) _).alloc (by simp) _).alloc (by simp; omega) _

set_option maxRecDepth 100000 in
set_option maxHeartbeats 400000 in
theorem eqTest_same (x y z : Int) (w : World) :
    Calls Try.prog 56 #[.agg #[.int .i64 x, .int .i64 y, .int .i64 z], .agg #[.int .i64 x, .int .i64 y, .int .i64 z]] w fun e w' => e = .returned (.bool true) ∧ Below w.heap.size w w' := by
  go_enter Try.func56, Try.ntmps56
  go_wp2
  go_ret
  exact ⟨rfl, ((Below.refl _ _).alloc (Nat.le_refl _) _).alloc (by simp) _⟩

theorem Upto.set3 {cs : List Value} {zs : List Int} {k : Nat} (h : Upto cs zs (k * 3)) (hk : k * 3 + 2 < zs.length) :
    Upto (((cs.set (k * 3) (.int .i64 (zs.getD (k * 3) 0))).set (k * 3 + 1) (.int .i64 (zs.getD (k * 3 + 1) 0))).set (k * 3 + 2) (.int .i64 (zs.getD (k * 3 + 2) 0))) zs ((k + 1) * 3) := by
  have := ((h.set (by omega)).set (by omega)).set (k := k * 3 + 1 + 1) (by omega)
  rw [show (k + 1) * 3 = k * 3 + 1 + 1 + 1 by omega]
  exact this

set_option maxRecDepth 100000 in
set_option maxHeartbeats 1000000 in
theorem toTestS_any (a : Option Addr) (n c : Nat) (es : List Tst) (w : World) (hz : es.length = n) (hn : n ≤ 1048576) (ha : AtE w a es) :
    Calls Try.prog 50 #[.slice a n c] w fun e w' => e = .returned (.slice (some ⟨w.heap.size, 0, none⟩) n n) ∧
      w'.ownsRow w.heap.size 102 3 (.slice (some ⟨w.heap.size, 0, none⟩) n n) n ((flatE es).map (.int .i64)) ∧ Below w.heap.size w w' := by
  obtain ⟨i0, hi, hz0, hz1, hz2⟩ := info_parts Try.infoTest
  by_cases h00 : n = 0
  · subst h00
    go_enter Try.func50, Try.ntmps50
    go_wp2_with (at_make; refine wpList_make_full _ rfl _ _ 42 rfl w.heap.size 102 i0 (.agg #[.int .i64 0, .int .i64 0, .int .i64 0]) 3 Try.underlying42 hi hz0 hz1 .i64 .i64 _ _ 0 rfl rfl rfl rfl (by simp) (by simp) (Nat.le_refl _) ?_; intro w1 hown hg)
    refine wp_loop_rounds 1 ?_
    rw [rounds_succ]
    go_wp2
    go_ret
    obtain rfl : es = [] := List.eq_nil_of_length_eq_zero hz
    exact ⟨rfl, by simpa [madeCells, flatE] using hown, (Below.refl _ _).grown hg (Nat.le_refl _) (by simp)⟩
  · obtain ⟨b, off, rfl, hb, hc⟩ := ha.some (by omega)
    have HFA := Hid.mk (flatE_at es)
    have HFL : Hid ((flatE es).length = n * 3) := by show _ = _; rw [flatE_len, hz]
    go_enter Try.func50, Try.ntmps50
    go_wp2_with (at_make; refine wpList_make_full _ rfl _ _ 42 rfl w.heap.size 102 i0 (.agg #[.int .i64 0, .int .i64 0, .int .i64 0]) 3 Try.underlying42 hi hz0 hz1 .i64 .i64 _ _ n rfl rfl rfl rfl (by rw [hz2]; omega) (by unfold maxLen; omega) (Nat.le_refl _) ?_; intro w1 hown hg)
    have hb1 : Below w.heap.size w w1 := (Below.refl _ _).grown hg (Nat.le_refl _) (by simp)
    have hs0 : (madeCells (Value.agg #[.int .i64 0, .int .i64 0, .int .i64 0]).cells (n * 3)).toList.length = (flatE es).length := by rw [HFL.out]; simp [madeCells]
    have hu0 := Upto.zero hs0
    obtain ⟨cs, hcs⟩ : ∃ cs, cs = (madeCells (Value.agg #[.int .i64 0, .int .i64 0, .int .i64 0]).cells (n * 3)).toList := ⟨_, rfl⟩
    rw [← hcs] at hown hu0
    clear hcs hs0 hg
    go_loopw [4] (fun i wr => ∃ (k : Nat) (cs : List Value), k ≤ n ∧ i = .int .i64 k ∧ Upto cs (flatE es) (k * 3) ∧ wr.ownsRow w.heap.size 102 3 (.slice (some ⟨w.heap.size, 0, none⟩) n n) n cs ∧ Below w.heap.size w wr) (fun i _ => n - (intOf i).toNat)
    case atStart => exact ⟨0, cs, Nat.zero_le _, rfl, hu0, hown, hb1⟩
    case round =>
      clear hown hu0 hb1 cs
      obtain ⟨k, cs, hk, rfl, hu, hown, hbw⟩ := hrel
      by_cases hlt : k < n
      · obtain ⟨hx, hy, hv⟩ := hc k (by omega)
        obtain ⟨f1, f2, f3⟩ := HFA.out k (by omega)
        have hx := (hbw.cell hb).trans hx
        have hy := (hbw.cell hb).trans hy
        have hv := (hbw.cell hb).trans hv
        have HU := Hid.mk (hu.set3 (by rw [HFL.out]; omega))
        rw [f1, f2, f3] at HU
        have hlen : cs.length = n * 3 := by rw [hu.1]; exact HFL.out
        clear f1 f2 f3 hu hc
        generalize tat es k = Y at *
        obtain ⟨x, y, v⟩ := Y
        simp only at hx hy hv HU
        have hki : (k : Int) < (n : Int) := by omega
        go_wp2_with fail
        refine (toTest_any x y v _).mono ?_
        rintro e w2 ⟨rfl, hb2⟩
        have ho2 := hown.kept (Below.toGrown hb2 none) (by simp; exact Classical.em _)
        have B2 := hbw.trans (hb2.mono hbw.size)
        obtain ⟨u0, hu0⟩ : ∃ u, cs[k * 3]? = some u := ⟨_, List.getElem?_eq_getElem (by omega)⟩
        obtain ⟨u1, hu1⟩ : ∃ u, cs[k * 3 + 1]? = some u := ⟨_, List.getElem?_eq_getElem (by omega)⟩
        obtain ⟨u2, hu2⟩ : ∃ u, cs[k * 3 + 2]? = some u := ⟨_, List.getElem?_eq_getElem (by omega)⟩
        have q0 : w2.cell? ⟨w.heap.size, k * 3, none⟩ = some u0 := (ho2.cellAt _ (by omega)).trans hu0
        have q1 : w2.cell? ⟨w.heap.size, k * 3 + 1, none⟩ = some u1 := (ho2.cellAt _ (by omega)).trans hu1
        have q2 : w2.cell? ⟨w.heap.size, k * 3 + 2, none⟩ = some u2 := (ho2.cellAt _ (by omega)).trans hu2
        have p0 : w2.frozen? ⟨w.heap.size, k * 3, none⟩ = false := ho2.frozenAt _
        have p1 : w2.frozen? ⟨w.heap.size, k * 3 + 1, none⟩ = false := ho2.frozenAt _
        have p2 : w2.frozen? ⟨w.heap.size, k * 3 + 2, none⟩ = false := ho2.frozenAt _
        have s1 := (ho2.stored (k * 3) (.int .i64 x)).1
        have s2 := (s1.stored (k * 3 + 1) (.int .i64 y)).1
        have HO := Hid.mk (s2.stored (k * 3 + 2) (.int .i64 v)).1
        have HB : Hid (Below w.heap.size w (((w2.setCell ⟨w.heap.size, k * 3, none⟩ (.int .i64 x)).setCell ⟨w.heap.size, k * 3 + 1, none⟩ (.int .i64 y)).setCell ⟨w.heap.size, k * 3 + 2, none⟩ (.int .i64 v))) := ((B2.setCell (Nat.le_refl _) _).setCell (Nat.le_refl _) _).setCell (Nat.le_refl _) _
        clear s1 s2 hu0 hu1 hu2 ho2 hown hbw B2 hb2 hx hy hv
        go_wp2
        go_roundw
        case rel => exact ⟨k + 1, _, by omega, by go_num, HU.out, HO.out, HB.out⟩
        case measure => simp [intOf]; omega
      · obtain rfl : k = n := by omega
        rw [hu.all (by rw [HFL.out]; omega)] at hown
        go_wp2
        go_ret
        exact ⟨rfl, hown, hbw⟩

set_option maxRecDepth 100000 in
set_option maxHeartbeats 1000000 in
theorem eqTestS_same (a a' : Option Addr) (n c c' : Nat) (es : List Tst) (w : World) (hz : es.length = n) (hn : n ≤ 1048576) (ha : AtE w a es) (ha' : AtE w a' es) :
    Calls Try.prog 53 #[.slice a n c, .slice a' n c'] w fun e w' => e = .returned (.bool true) ∧ Below w.heap.size w w' := by
  by_cases h0 : n = 0
  · subst h0
    go_enter Try.func53, Try.ntmps53
    go_wp2
    refine wp_loop_rounds 1 ?_
    rw [rounds_succ]
    go_wp2
    go_ret
    exact ⟨rfl, Below.refl _ _⟩
  · obtain ⟨b, off, rfl, hb, hc⟩ := ha.some (by omega)
    obtain ⟨b', off', rfl, hb', hc'⟩ := ha'.some (by omega)
    clear ha ha'
    go_enter Try.func53, Try.ntmps53
    go_wp2
    go_loopw [5] (fun i wr => ∃ (k : Nat), k ≤ n ∧ i = .int .i64 k ∧ Below w.heap.size w wr) (fun i _ => n - (intOf i).toNat)
    case atStart => exact ⟨0, Nat.zero_le _, rfl, Below.refl _ _⟩
    case round =>
      obtain ⟨k, hk, rfl, hbw⟩ := hrel
      by_cases hlt : k < n
      · obtain ⟨hx, hy, hv⟩ := hc k (by omega)
        obtain ⟨hx', hy', hv'⟩ := hc' k (by omega)
        have hx := (hbw.cell hb).trans hx
        have hy := (hbw.cell hb).trans hy
        have hv := (hbw.cell hb).trans hv
        have hx' := (hbw.cell hb').trans hx'
        have hy' := (hbw.cell hb').trans hy'
        have hv' := (hbw.cell hb').trans hv'
        generalize tat es k = Y at *
        obtain ⟨x, y, v⟩ := Y
        simp only at hx hy hv hx' hy' hv'
        have hki : (k : Int) < (n : Int) := by omega
        clear hc hc'
        go_wp2_with fail
        go_region_held3 (fun w' => w'.cell? ⟨b, off + k * 3, none⟩ = some (.int .i64 x) ∧ w'.cell? ⟨b, off + k * 3 + 1, none⟩ = some (.int .i64 y) ∧ w'.cell? ⟨b, off + k * 3 + 2, none⟩ = some (.int .i64 v) ∧ w'.cell? ⟨b', off' + k * 3, none⟩ = some (.int .i64 x) ∧ w'.cell? ⟨b', off' + k * 3 + 1, none⟩ = some (.int .i64 y) ∧ w'.cell? ⟨b', off' + k * 3 + 2, none⟩ = some (.int .i64 v)) (refine ⟨?_, ?_, ?_, ?_, ?_, ?_⟩ <;> assumption)
          (first | (go_at_call 56; refine (eqTest_same x y v _).mono ?_; rintro e w2 ⟨rfl, hb2⟩; have e1 := cell_later hb2 hx; have e2 := cell_later hb2 hy; have e3 := cell_later hb2 hv; have e4 := cell_later hb2 hx'; have e5 := cell_later hb2 hy'; have e6 := cell_later hb2 hv') | fail)
        go_wp2
        go_roundw
        case rel => exact ⟨k + 1, by omega, by go_num, hbw.drew.trans (hb2.mono hbw.size)⟩
        case measure => simp [intOf]; omega
      · go_wp2
        go_ret
        exact ⟨rfl, hbw⟩
end Go.Proofs.Ythdcjelahoiepab

/- Contracts of the laws' helpers over slices of slices of ints: szIntSS, toIntSS, eqIntSS, markIntSS. -/
namespace Go.Proofs.Ythdcjelahoiepab
open Go.RowKit

theorem Try.infoInts : (Try.prog.info? 22).map (fun i => (i.zero, i.size, i.bytes)) = some (some (.slice none 0 0), 1, 24) := by kernel_rfl

set_option maxHeartbeats 1000000 in
theorem szIntSS_any (a : Option Addr) (n c : Nat) (zss : List (List Int)) (l : Int) (w : World) (hz : zss.length = n) (hn : n ≤ 9223372036854775807) (h0 : 0 ≤ l) (h1 : l ≤ 1048576) (ha : AtS w a zss) :
    Calls Try.prog 45 #[.slice a n c, .int .i64 l] w fun e w' => e = .returned (.int .i64 (leftOf l (n + tot zss n))) ∧ w' = w := by
  by_cases hb : l < n
  · have h' : l - (n : Int) < 0 := by omega
    go_enter Try.func45, Try.ntmps45
    go_wp2
    go_ret
    exact ⟨ret_int (leftOf_no (by omega)).symm, rfl⟩
  · have h' : ¬ l - (n : Int) < 0 := by omega
    by_cases hn0 : n = 0
    · subst hn0
      have ht : tot zss 0 = 0 := rfl
      go_enter Try.func45, Try.ntmps45
      go_wp2
      refine wp_loop_rounds 1 ?_
      rw [rounds_succ]
      go_wp2
      go_ret
      exact ⟨ret_int (by rw [ht, leftOf_yes (by omega)]; omega), rfl⟩
    · obtain ⟨b, off, rfl, hc⟩ := ha.some (by omega)
      clear ha
      go_enter Try.func45, Try.ntmps45
      go_wp2
      go_loop [1, 5] (fun q i => ∃ (k : Nat) (r : Int), k ≤ n ∧ i = .int .i64 k ∧ q = .int .i64 r ∧ 0 ≤ r ∧ r ≤ 1048576 ∧ r + tot zss k = l - n) (fun _ i => n - (intOf i).toNat)
      case atStart => exact ⟨0, l - n, Nat.zero_le _, rfl, rfl, by omega, by omega, by rw [tot_zero]; omega⟩
      case round =>
        obtain ⟨k, r, hk, rfl, rfl, hr0, hr1, hr⟩ := hrel
        by_cases hlt : k < n
        · obtain ⟨a', c', hcx, hm, hat⟩ := hc k (by omega)
          have hts := tot_succ zss k (by omega)
          have htm := tot_mono zss (k + 1) n (by omega)
          obtain ⟨m, hmm⟩ : ∃ m, m = (zss.getD k []).length := ⟨_, rfl⟩
          rw [← hmm] at hcx hm hts
          have HR := Hid.mk hr
          have HT := Hid.mk hts
          clear hmm hat hc hr hts
          by_cases hfit : r < m
          · go_wp2_with (go_at_call 14; refine (szIntS_any _ _ _ _ _ hm hr0 hr1).mono ?_; rintro e w' ⟨rfl, rfl⟩; rw [if_pos hfit])
            go_ret
            exact ⟨ret_int (leftOf_no (by have := HR.out; have := HT.out; omega)).symm, rfl⟩
          · have hd : ¬ r - (m : Int) < 0 := by omega
            go_wp2_with (go_at_call 14; refine (szIntS_any _ _ _ _ _ hm hr0 hr1).mono ?_; rintro e w' ⟨rfl, rfl⟩; rw [if_neg (by omega)])
            go_round
            case rel => exact ⟨k + 1, r - m, by omega, by go_num, rfl, by omega, by omega, by have := HR.out; have := HT.out; omega⟩
            case measure => simp [intOf]; omega
        · obtain rfl : k = n := by omega
          have HR := Hid.mk hr
          clear hr hc
          go_wp2
          go_ret
          exact ⟨ret_int (by have := HR.out; rw [leftOf_yes (by omega)]; omega), rfl⟩

theorem rows_store {w : World} {e : TypeId} {vs : List Value} {zss : List (List Int)} {k : Nat} {L : Nat → Nat} (h : RowsOwned w e vs zss k L) (hL : ∀ i, i < k → L 0 ≤ L i) {g j : Nat} (hg : g < L 0) (v : Value) (hj : k ≤ j) :
    RowsOwned (w.setCell ⟨g, j, none⟩ v) e (vs.set j v) zss k L := fun i hi => by
  obtain ⟨a, c, h1, h2, h3⟩ := h i hi
  refine ⟨a, c, ?_, ownsRow_setCell_below h2 (by have := hL i hi; simp; omega) _, h3⟩
  rw [List.getElem?_set_ne (by omega)]; exact h1

set_option maxHeartbeats 2000000 in
theorem toIntSS_any (a : Option Addr) (n c : Nat) (zss : List (List Int)) (w : World) (hz : zss.length = n) (hn : n ≤ 1048576) (hs : ∀ i, i < zss.length → (zss.getD i []).length ≤ 1048576) (ha : AtS w a zss) :
    Calls Try.prog 51 #[.slice a n c] w fun e w' => e = .returned (.slice (some ⟨w.heap.size, 0, none⟩) n n) ∧ OwnS w' w.heap.size w'.heap.size 22 3 w.heap.size n zss ∧ Below w.heap.size w w' := by
  obtain ⟨i0, hi, hz0, hz1, hz2⟩ := info_parts Try.infoInts
  go_enter Try.func51, Try.ntmps51
  go_wp2_with (at_make; refine wpList_make_full _ rfl _ _ 43 rfl w.heap.size 22 i0 (.slice none 0 0) 1 Try.underlying43 hi hz0 hz1 .i64 .i64 _ _ n rfl rfl rfl rfl (by rw [hz2]; omega) (by unfold maxLen; omega) (Nat.le_refl _) ?_; intro w1 hown hg)
  have hb1 : Below w.heap.size w w1 := (Below.refl _ _).grown hg (Nat.le_refl _) (by simp)
  obtain ⟨vs, hv0, hv1, zg⟩ : ∃ vs : List Value, vs.length = n ∧ w1.heap[w.heap.size]? = some (.cells vs.toArray 22 (0, 0)) ∧ w.heap.size < w1.heap.size := by
    rcases hown.2 with ⟨h', _⟩ | ⟨g', cap', cur, h', _, hg', _, _, hcs, _⟩
    · simp at h'
    · simp only [Value.slice.injEq, Option.some.injEq, Addr.mk.injEq, and_true, true_and] at h'
      obtain ⟨rfl, rfl⟩ := h'
      exact ⟨cur.toList, by simpa using hcs, by simpa using hg', (Array.getElem?_eq_some_iff.1 hg').1⟩
  clear hown hg
  go_loopw [4] (fun i wr => ∃ (k : Nat) (vs : List Value) (L : Nat → Nat), k ≤ n ∧ i = .int .i64 k ∧ vs.length = n ∧ wr.heap[w.heap.size]? = some (.cells vs.toArray 22 (0, 0)) ∧ w.heap.size < L 0 ∧ (∀ i, i < k → L i ≤ L (i + 1)) ∧ L k ≤ wr.heap.size ∧ RowsOwned wr 3 vs zss k L ∧ Below w.heap.size w wr) (fun i _ => n - (intOf i).toNat)
  case atStart => exact ⟨0, vs, fun _ => w.heap.size + 1, Nat.zero_le _, rfl, hv0, hv1, by simp, fun _ h => by omega, by simp; omega, fun i hi => by omega, hb1⟩
  case round =>
    clear hv0 hv1 hb1 zg vs
    obtain ⟨k, vs, L, hk, rfl, hv0, hv1, hL0, hLm, hLk, hrow, hbw⟩ := hrel
    by_cases hlt : k < n
    · obtain ⟨b, off, rfl, hc⟩ := (ha.below hbw).some (by omega)
      obtain ⟨a', c', hcx, _, hat⟩ := hc k (by omega)
      have hsm := hs k (by omega)
      have zg : w.heap.size < wr.heap.size := (Array.getElem?_eq_some_iff.1 hv1).1
      have hki : (k : Int) < (n : Int) := by omega
      obtain ⟨ys, hys⟩ : ∃ ys, ys = zss.getD k [] := ⟨_, rfl⟩
      obtain ⟨m, hm⟩ : ∃ m, ys.length = m := ⟨_, rfl⟩
      rw [← hys, hm] at hcx hsm
      rw [← hys] at hat
      have HYS := Hid.mk hys
      have HM := Hid.mk hm
      clear hys hm hc
      go_wp2_with fail
      refine (toIntS_any a' _ c' ys _ HM.out hsm hat).mono ?_
      rintro e w2 ⟨rfl, ho2, hb2⟩
      have hv2 : w2.heap[w.heap.size]? = some (.cells vs.toArray 22 (0, 0)) := (hb2.block _ zg).trans hv1
      have hrow2 := hrow.below hb2
      obtain ⟨u, hu⟩ : ∃ u, vs[k]? = some u := ⟨_, List.getElem?_eq_getElem (by omega)⟩
      have hco : w2.cell? ⟨w.heap.size, k, none⟩ = some u := by rw [cell_of_row w2 _ k _ _ (0, 0) hv2]; simpa using hu
      have hfo : w2.frozen? ⟨w.heap.size, k, none⟩ = false := frozen_of_row w2 _ k _ _ hv2
      have hmono := mono_le (n := k) (L := L) (fun i hi => hLm i hi)
      have z2 := hb2.size
      obtain ⟨V, hV⟩ : ∃ V, V = Value.slice (some ⟨wr.heap.size, 0, none⟩) m m := ⟨_, rfl⟩
      have R : RowsOwned (w2.setCell ⟨w.heap.size, k, none⟩ V) 3 (vs.set k V) zss (k + 1) (fun i => if i ≤ k then L i else w2.heap.size) := by
        intro i hi
        by_cases e : i < k
        · obtain ⟨a1, c1, h1, h2, h3⟩ := rows_store hrow2 (fun i hi => hmono 0 i (by omega) (by omega)) hL0 V (Nat.le_refl k) i e
          refine ⟨a1, c1, h1, ?_, ?_⟩
          · simpa [show i ≤ k by omega] using h2
          · simpa [show i + 1 ≤ k by omega] using h3
        · obtain rfl : i = k := by omega
          rw [← HYS.out, HM.out]
          refine ⟨some ⟨wr.heap.size, 0, none⟩, m, ?_, ?_, ?_⟩
          · rw [List.getElem?_set_self (by omega), hV]
          · simp only [Nat.le_refl, if_true]
            exact ownsRow_setCell_below (owns_mono ho2 hLk) (by have := hmono 0 i (by omega) (Nat.le_refl _); simp; omega) _
          · intro b' hb'
            have := (ho2.lt b' hb').2
            show b' < if i + 1 ≤ i then L (i + 1) else w2.heap.size
            rw [if_neg (by omega)]; exact this
      have HR := Hid.mk R
      have HV : Hid ((w2.setCell ⟨w.heap.size, k, none⟩ V).heap[w.heap.size]? = some (.cells (vs.set k V).toArray 22 (0, 0))) := by
        show _ = _
        rw [heap_setCell_same w2 _ k _ _ V hv2]; simp
      have HB : Hid (Below w.heap.size w (w2.setCell ⟨w.heap.size, k, none⟩ V)) := (hbw.trans (hb2.mono hbw.size)).setCell (Nat.le_refl _) _
      have HL := Hid.mk hLm
      have HK := Hid.mk hLk
      clear R hrow hrow2 ho2 hb2 hbw hv1 hv2 hmono hu hat hLm hLk
      subst hV
      clear hcx
      go_wp2
      go_roundw
      case rel =>
        refine ⟨k + 1, _, _, by omega, by go_num, by simpa using hv0, HV.out, by simpa using hL0, fun i hi => ?_, ?_, HR.out, HB.out⟩
        · have := HK.out
          by_cases e : i + 1 ≤ k
          · simpa [show i ≤ k by omega, e] using HL.out i (by omega)
          · obtain rfl : i = k := by omega
            show (if i ≤ i then L i else w2.heap.size) ≤ (if i + 1 ≤ i then L (i + 1) else w2.heap.size)
            rw [if_pos (Nat.le_refl _), if_neg (by omega)]; omega
        · show (if k + 1 ≤ k then L (k + 1) else w2.heap.size) ≤ _
          rw [if_neg (by omega)]; simp [World.setCell]
      case measure => simp [intOf]; omega
    · obtain rfl : k = n := by omega
      go_wp2
      go_ret
      exact ⟨rfl, ⟨vs, L, hz, hv0, Nat.le_refl _, hL0, hLm, hLk, Nat.le_refl _, hv1, hrow⟩, hbw⟩

theorem listNe_getD {zss zss' : List (List Int)} {k : Nat} (h : zss.getD k [] ≠ zss'.getD k []) : zss ≠ zss' := fun e => h (by rw [e])
theorem takeS_succ (zss : List (List Int)) (k : Nat) (h : k < zss.length) : zss.take (k + 1) = zss.take k ++ [zss.getD k []] := by
  rw [List.take_succ_eq_append_getElem h]; simp [List.getD, h]

set_option maxHeartbeats 2000000 in
theorem eqIntSS_any (a a' : Option Addr) (n n' c c' : Nat) (zss zss' : List (List Int)) (w : World) (hz : zss.length = n) (hz' : zss'.length = n') (hn : n ≤ 1048576) (hn' : n' ≤ 1048576)
    (hs : ∀ i, i < zss.length → (zss.getD i []).length ≤ 1048576) (hs' : ∀ i, i < zss'.length → (zss'.getD i []).length ≤ 1048576) (ha : AtS w a zss) (ha' : AtS w a' zss') :
    Calls Try.prog 54 #[.slice a n c, .slice a' n' c'] w fun e w' => e = .returned (.bool (decide (zss = zss'))) ∧ Below w.heap.size w w' := by
  by_cases hnn : n = n'
  · subst hnn
    by_cases h0 : n = 0
    · subst h0
      obtain rfl := List.eq_nil_of_length_eq_zero hz
      obtain rfl := List.eq_nil_of_length_eq_zero hz'
      go_enter Try.func54, Try.ntmps54
      go_wp2
      refine wp_loop_rounds 1 ?_
      rw [rounds_succ]
      go_wp2
      go_ret
      exact ⟨by simp, Below.refl _ _⟩
    · go_enter Try.func54, Try.ntmps54
      go_wp2
      go_loopw [5] (fun i wr => ∃ (k : Nat), k ≤ n ∧ i = .int .i64 k ∧ zss.take k = zss'.take k ∧ Below w.heap.size w wr) (fun i _ => n - (intOf i).toNat)
      case atStart => exact ⟨0, Nat.zero_le _, rfl, rfl, Below.refl _ _⟩
      case round =>
        obtain ⟨k, hk, rfl, ht, hbw⟩ := hrel
        by_cases hlt : k < n
        · obtain ⟨b, off, rfl, hc⟩ := (ha.below hbw).some (by omega)
          obtain ⟨b', off', rfl, hc'⟩ := (ha'.below hbw).some (by omega)
          obtain ⟨q, d, hcx, _, hat⟩ := hc k (by omega)
          obtain ⟨q', d', hcy, _, hat'⟩ := hc' k (by omega)
          have hm := hs k (by omega)
          have hm' := hs' k (by omega)
          have HT : Hid (zss.getD k [] = zss'.getD k [] → zss.take (k + 1) = zss'.take (k + 1)) := fun e => by
            rw [takeS_succ zss k (by omega), takeS_succ zss' k (by omega), ht, e]
          have HN : Hid (zss.getD k [] ≠ zss'.getD k [] → zss ≠ zss') := listNe_getD
          generalize zss.getD k [] = ys at *
          generalize zss'.getD k [] = ys' at *
          obtain ⟨m, hmm⟩ : ∃ m, ys.length = m := ⟨_, rfl⟩
          obtain ⟨m', hmm'⟩ : ∃ m, ys'.length = m := ⟨_, rfl⟩
          rw [hmm] at hcx hm
          rw [hmm'] at hcy hm'
          have HM := Hid.mk hmm
          have HM' := Hid.mk hmm'
          have hki : (k : Int) < (n : Int) := by omega
          clear ht hc hc' hmm hmm' ha ha' hs hs'
          go_wp2_with fail
          have hd : ∀ bl : Bool, decide (ys = ys') = bl → Hid (decide (ys = ys') = bl) := fun _ h => h
          cases hbl : decide (ys = ys') with
          | true =>
            have HD := Hid.mk hbl
            have he : ys = ys' := of_decide_eq_true hbl
            have HE := Hid.mk he
            clear hbl hd he
            go_region_held3 (fun w' => w'.cell? ⟨b, off + k, none⟩ = some (.slice q m d) ∧ w'.cell? ⟨b', off' + k, none⟩ = some (.slice q' m' d')) (refine ⟨?_, ?_⟩ <;> assumption)
              (first | (go_at_call 21; refine (eqIntS_any _ _ _ _ _ _ ys ys' _ HM.out HM'.out hm hm' hat.drew hat'.drew).mono ?_; rintro e w2 ⟨rfl, hb2⟩; rw [HD.out]; have e1 := cell_later hb2 hcx; have e2 := cell_later hb2 hcy))
            go_wp2
            go_roundw
            case rel => exact ⟨k + 1, by omega, by go_num, HT.out HE.out, hbw.drew.trans (hb2.mono hbw.size)⟩
            case measure => simp [intOf]; omega
          | false =>
            have HD := Hid.mk hbl
            have HE := Hid.mk (of_decide_eq_false hbl)
            clear hbl hd
            go_region_held3 (fun w' => w'.cell? ⟨b, off + k, none⟩ = some (.slice q m d) ∧ w'.cell? ⟨b', off' + k, none⟩ = some (.slice q' m' d')) (refine ⟨?_, ?_⟩ <;> assumption)
              (first | (go_at_call 21; refine (eqIntS_any _ _ _ _ _ _ ys ys' _ HM.out HM'.out hm hm' hat.drew hat'.drew).mono ?_; rintro e w2 ⟨rfl, hb2⟩; rw [HD.out]; have e1 := cell_later hb2 hcx; have e2 := cell_later hb2 hcy))
            go_wp2
            go_ret
            exact ⟨ret_bool (decide_eq_false (HN.out HE.out)).symm, hbw.drew.trans (hb2.mono hbw.size)⟩
        · go_wp2
          go_ret
          rw [List.take_of_length_le (by omega), List.take_of_length_le (by omega)] at ht
          exact ⟨ret_bool (decide_eq_true ht).symm, hbw⟩
  · go_enter Try.func54, Try.ntmps54
    go_wp2
    go_ret
    exact ⟨ret_bool (decide_eq_false (fun e => hnn (by rw [← hz, ← hz', e]))).symm, Below.refl _ _⟩

theorem toIntSS_at (a : Option Addr) (n c : Nat) (zss : List (List Int)) (w : World) (hz : zss.length = n) (hn : n ≤ 1048576) (hs : ∀ i, i < zss.length → (zss.getD i []).length ≤ 1048576) (ha : AtS w a zss) :
    Calls Try.prog 51 #[.slice a n c] w fun e w' => ∃ g, e = .returned (.slice (some ⟨g, 0, none⟩) n n) ∧ OwnS w' w.heap.size w'.heap.size 22 3 g n zss ∧ Below w.heap.size w w' :=
  (toIntSS_any a n c zss w hz hn hs ha).mono fun _ _ ⟨h1, h2, h3⟩ => ⟨_, h1, h2, h3⟩
theorem szIntSS_at (a : Option Addr) (n c : Nat) (zss : List (List Int)) (l : Int) (w : World) (hz : zss.length = n) (hn : n ≤ 9223372036854775807) (h0 : 0 ≤ l) (h1 : l ≤ 1048576) (ha : AtS w a zss) :
    Calls Try.prog 45 #[.slice a n c, .int .i64 l] w fun e w' => e = .returned (.int .i64 (leftOf l (n + tot zss n))) ∧ Below w.heap.size w w' :=
  (szIntSS_any a n c zss l w hz hn h0 h1 ha).mono fun _ _ ⟨h1, h2⟩ => ⟨h1, h2 ▸ Below.refl _ _⟩
theorem tot_each (zss : List (List Int)) (n : Nat) (hn : zss.length = n) (i : Nat) (hi : i < zss.length) : (zss.getD i []).length ≤ tot zss n := by
  have h1 := tot_succ zss i hi
  have h2 := tot_mono zss (i + 1) n (by omega)
  omega

end Go.Proofs.Ythdcjelahoiepab
