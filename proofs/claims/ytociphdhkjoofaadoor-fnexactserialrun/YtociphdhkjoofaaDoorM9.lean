/- Several texts of one proof, in build order: RepR, SrtI, SqI, SqJ, SqK, L1In, SrI. -/
import Derived.Test.YtociphdhkjoofaaDoorM6
import Derived.Test.YtociphdhkjoofaaDoorM0
import Derived.Test.YtociphdhkjoofaaDoorShelfQ
import Derived.Sort.OwnSortedInts
import Derived.RangeFuncBox
import Derived.RangeFuncLeaves
import Derived.RangeFuncNested
import Derived.Shelf.Abstract
import Derived.WalkKit
import Derived.OwnWalkIn
import Derived.TacticsInMore
import Derived.LoopNIn
import Derived.LoopIn
import Derived.Maps.AppendAt
import Derived.Test.YtociphdhkjoofaaDoorRows
import Derived.Test.YtociphdhkjoofaaDoorM5
import Derived.Test.YtociphdhkjoofaaDoorM3
import Derived.Test.YtociphdhkjoofaaDoorM4
import Derived.Deep.CutBlock

/- Rows of a slice, one by one: a slice that is cut and grown at its end. -/
namespace Go.Proofs.YtociphdhkjoofaaDoor
open Go.RowKit

structure RowsOf {α : Type} (A : Rep α) (w : World) (F : Nat → Prop) (ob : Option Nat) (n : Nat) (xs : List α) (cells : List Value) (G : Nat → Nat → Prop) : Prop where
  len : xs.length = n
  clen : cells.length = n * A.k
  row : ∀ i x, i < n → xs[i]? = some x → A.Own w (G i) (sub cells (i * A.k) A.k) x
  rowF : ∀ i b, i < n → G i b → F b ∧ ob ≠ some b
  apart : ∀ i j b, i < n → j < n → i ≠ j → G i b → ¬ G j b

section
variable {α : Type} {A : Rep α} {w w' : World} {F F' H : Nat → Prop} {e : TypeId} {a : Option Addr} {n m c : Nat} {xs : List α} {cells vs : List Value} {G : Nat → Nat → Prop} {x : α} {ob ob' : Option Nat}

theorem sub_take {cells : List Value} {o k m : Nat} (h : o + k ≤ m) : sub (cells.take m) o k = sub cells o k := by
  unfold sub
  rw [List.drop_take, List.take_take, Nat.min_eq_left (by omega)]

theorem RowsOf.of (h : Laid A w F e a n c xs cells G n) (hm : m ≤ n) : RowsOf A w F (Value.slice a n c).ownBlock m (xs.take m) (cells.take (m * A.k)) G where
  len := by rw [List.length_take, h.len]; omega
  clen := by
    have h1 : cells.length = n * A.k := h.outer.1
    have h2 := Nat.mul_le_mul_right A.k hm
    rw [List.length_take, h1]; omega
  row := fun i x hi hx => by
    rw [List.getElem?_take, if_pos hi] at hx
    rw [sub_take (at_mul hi)]
    exact h.row i x (by omega) hx
  rowF := fun i b hi hb => h.rowF i b (by omega) hb
  apart := fun i j b hi hj hij => h.apart i j b (by omega) (by omega) hij

theorem RowsOf.to (h : RowsOf A w F ob n xs cells G) (hf : ∀ i b, i < n → G i b → b < w.heap.size → w'.heap[b]? = w.heap[b]?) (hF : ∀ i b, i < n → G i b → F' b ∧ ob' ≠ some b) : RowsOf A w' F' ob' n xs cells G where
  len := h.len
  clen := h.clen
  row := fun i x hi hx => A.frame (h.row i x hi hx) (fun b h1 h2 => hf i b hi h1 h2)
  rowF := hF
  apart := h.apart

theorem RowsOf.add (h : RowsOf A w F ob n xs cells G) (ho : A.Own w H vs x) (hH : ∀ b, H b → F b ∧ ob ≠ some b) (hd : ∀ i b, i < n → G i b → ¬ H b) : RowsOf A w F ob (n + 1) (xs ++ [x]) (cells ++ vs) (fun i => if i = n then H else G i) where
  len := by simp [h.len]
  clen := by rw [List.length_append, h.clen, A.ownLen ho, Nat.succ_mul]
  row := fun i y hi hy => by
    by_cases ei : i = n
    · subst ei
      simp only [if_true]
      obtain rfl : x = y := by
        rw [List.getElem?_append_right (by rw [h.len]; exact Nat.le_refl _)] at hy
        simpa [h.len] using hy
      have := sub_append_right (cells := cells) (A.ownLen ho)
      rw [h.clen] at this
      rw [this]
      exact ho
    · simp only [if_neg ei]
      have hi' : i < n := by omega
      rw [List.getElem?_append_left (by rw [h.len]; exact hi')] at hy
      rw [sub_append_left (by rw [h.clen]; exact at_mul hi')]
      exact h.row i y hi' hy
  rowF := fun i b hi hb => by
    by_cases ei : i = n
    · simp only [if_pos ei] at hb; exact hH b hb
    · simp only [if_neg ei] at hb; exact h.rowF i b (by omega) hb
  apart := fun i j b hi hj hij hb => by
    by_cases ei : i = n
    · simp only [if_pos ei] at hb
      rw [if_neg (by omega)]
      exact fun hj' => hd j b (by omega) hj' hb
    · simp only [if_neg ei] at hb
      by_cases ej : j = n
      · rw [if_pos ej]
        exact hd i b (by omega) hb
      · rw [if_neg ej]
        exact h.apart i j b (by omega) (by omega) hij hb

theorem RowsOf.laid (h : RowsOf A w F (Value.slice a n c).ownBlock n xs cells G) (hbig : n ≤ 9223372036854775807) (ho : w.ownsRow 0 e A.k (.slice a n c) n cells) (hF : ∀ b, (Value.slice a n c).ownBlock = some b → F b) : Laid A w F e a n c xs cells G n :=
  ⟨h.len, hbig, ho, hF, h.row, h.rowF, h.apart⟩

theorem owns_take {base : Nat} {size : Nat} {g : Nat} {ys : List Value} (h : w.ownsRow base e size (.slice (some ⟨g, 0, none⟩) n c) n ys) (hm : m ≤ n) : w.ownsRow base e size (.slice (some ⟨g, 0, none⟩) m c) m (ys.take (m * size)) := by
  have h2 := Nat.mul_le_mul_right size hm
  refine ⟨by rw [List.length_take, h.1]; omega, ?_⟩
  rcases h.2 with ⟨h0, _⟩ | ⟨g', cap, cur, e1, e2, e3, e4, e5, e6, e7⟩
  · cases h0
  · simp only [Value.slice.injEq, Option.some.injEq, Addr.mk.injEq, and_true, true_and] at e1
    obtain ⟨rfl, rfl⟩ := e1
    refine .inr ⟨g, c, cur, rfl, e2, e3, by omega, e5, e6, ?_⟩
    rw [← e7, List.take_take, Nat.min_eq_left h2]
end

end Go.Proofs.YtociphdhkjoofaaDoor

/- slices.Sort and slices.Compact at ints, over a slice that the call owns. -/
namespace Go.Proofs.YtociphdhkjoofaaDoor
open Go.RowKit Go.Sort

theorem sortInts_own (B : Nat) (a : Option Addr) (n c : Nat) (zs : List Int) (w : World) (hz : zs.length = n) (hn : n ≤ 1048576) (hB : B ≤ w.heap.size) (ho : w.ownsRow B 3 1 (.slice a n c) n (zs.map (.int .i64))) :
    Calls Tryd.prog 53 #[.slice a n c] w fun e w' => e = .returned (.tuple #[]) ∧ w'.ownsRow B 3 1 (.slice a n c) n ((zs.mergeSort fun x y => decide (x ≤ y)).map (.int .i64)) ∧ Below B w w' := by
  by_cases h0 : n = 0
  · subst h0
    obtain rfl := List.eq_nil_of_length_eq_zero hz
    refine (Tryd.slices_Sort_int_none a c w).mono ?_
    rintro e w' ⟨rfl, rfl⟩
    exact ⟨rfl, by simpa using ho, Below.refl _ _⟩
  · rcases ho.2 with ⟨_, h⟩ | ⟨g, cap, cur, hv, hb, hg, hc1, hc2, hc3, hc4⟩
    · exact absurd h h0
    · simp only [Value.slice.injEq, true_and] at hv
      obtain ⟨rfl, rfl⟩ := hv
      have hcur : cur.toList.take zs.length = zs.map (.int .i64) := by rw [hz]; simpa using hc4
      have hH := holds_of_blockI hg hcur
      have h9 := Tryd.slices_Sort_int g 0 c zs w hH (Array.getElem?_eq_some_iff.1 hg).1 (by omega)
      rw [hz] at h9
      refine h9.mono ?_
      rintro e w' ⟨rfl, q, os, rfl⟩
      have hl : (zs.mergeSort fun x y => decide (x ≤ y)).length = zs.length := List.length_mergeSort ..
      have ho2 := ownsRow_sortedI (n := q) (os := os) (ss := zs) hl hb hg (by omega) hc2 hc3
      rw [hz] at ho2
      exact ⟨rfl, ho2, (Below.refl _ _).grown (grownBy_sortedI _) hB (fun j hj => by cases hj; exact hb)⟩

end Go.Proofs.YtociphdhkjoofaaDoor

/- slices.Values, slices.AppendSeq, Collect, Sorted and Equal at ints. -/
namespace Go.Proofs.YtociphdhkjoofaaDoor
open Go.RowKit Go.Shelf

/-- What has come when k rounds are over. -/
def upto (zs : List Int) (k : Nat) : List Int := (List.range k).map fun j => zs[j]?.getD 0
theorem upto_succ (zs : List Int) (k : Nat) : upto zs (k + 1) = upto zs k ++ [zs[k]?.getD 0] := by simp [upto, List.range_succ]
theorem upto_length (zs : List Int) (k : Nat) : (upto zs k).length = k := by simp [upto]
theorem upto_all (zs : List Int) : upto zs zs.length = zs := by
  apply List.ext_getElem
  · simp [upto]
  · intro i h1 h2
    simp [upto, h2]
theorem upto_take (zs : List Int) {k : Nat} (hk : k ≤ zs.length) : upto zs k = zs.take k := by
  apply List.ext_getElem
  · simp [upto, hk]
  · intro i h1 h2
    have : i < zs.length := by simp [upto] at h1; omega
    simp [upto, this]

section
attribute [local go_sem] Oper.semAt_some

set_option maxRecDepth 100000 in
set_option maxHeartbeats 2000000 in
theorem values1_in (n : Nat) (hn : 1 ≤ n) (l Bs n₀ b off len cap : Nat) (zs : List Int) (hreach : len ≤ 1048576) (hb : b < n₀) (J Jx : List Int → World → Prop)
    (hY : ∀ pre x W, J pre W → pre.length < len → YieldAt Fence.wide (n - 1) Tryd.prog l #[.int .i64 x] W fun e W' =>
      (e = .returned (.bool true) ∧ J (pre ++ [x]) W' ∧ Below n₀ W W') ∨ (e = .returned (.bool false) ∧ Jx (pre ++ [x]) W'))
    (W : World) (hBs : W.cell? ⟨Bs, 0, none⟩ = some (.slice (some ⟨b, off, none⟩) len cap)) (hc : ∀ j, j < len → W.cell? ⟨b, off + j, none⟩ = some (.int .i64 (zs[j]?.getD 0))) (h0 : J [] W) :
    CallsIn Fence.wide n Tryd.prog 54 #[.func (.yield l) #[] #[], .pointer (some ⟨Bs, 0, none⟩)] W fun e W' => (∃ v, e = .returned v) ∧
      ((∃ ys, ys = upto zs len ∧ J ys W') ∨ (∃ pre, (∃ k, k ≤ len ∧ pre = upto zs k) ∧ Jx pre W')) := by
  refine callsIn_of_wp Tryd.func54 rfl trivial ?_ rfl
  simp only [Tryd.ntmps54, List.size_toArray, List.length_cons, List.length_nil, Nat.reduceAdd, Nat.reduceSub, Array.replicate_succ, Array.replicate_zero, List.push_toArray, List.append_toArray, List.nil_append, List.cons_append]
  gi_wp2
  gi_loopw [7] (fun i wr => ∃ k : Nat, k ≤ len ∧ i = .int .i64 k ∧ J (upto zs k) wr ∧ Below n₀ W wr)
    (fun i _ => len - (intOf i).toNat)
  case atStart => exact ⟨0, Nat.zero_le _, rfl, h0, Below.refl _ _⟩
  case round =>
    obtain ⟨k, hk, rfl, hJs, hnx⟩ := hrel
    have hcx : k < len → wr.cell? ⟨b, off + k, none⟩ = some (.int .i64 (zs[k]?.getD 0)) := fun h => (hnx.cell (p := ⟨b, off + k, none⟩) hb).trans (hc k h)
    by_cases hlt : k < len
    · obtain ⟨fn, tmps, assign, body, hy, hR⟩ := hY _ (zs[k]?.getD 0) wr hJs (by rw [upto_length]; exact hlt)
      have hcx' := hcx hlt
      have hki : (k : Int) < (len : Int) := by omega
      gi_wp2
      refine hR.mono ?_
      rintro e W3 (⟨rfl, hJ3, hk3⟩ | ⟨rfl, hJx3⟩)
      · gi_wp2
        go_roundw
        case rel => exact ⟨k + 1, by omega, by go_num, by rw [upto_succ]; exact hJ3, hnx.trans hk3⟩
        case measure => simp [intOf]; omega
      · gi_wp2
        refine bodyPost_ret (results_none rfl _ _ _) rfl ?_
        exact ⟨⟨_, rfl⟩, .inr ⟨_, ⟨k + 1, by omega, (upto_succ _ _).symm⟩, hJx3⟩⟩
    · obtain rfl : k = len := by omega
      have hki : ¬ (k : Int) < (k : Int) := by omega
      gi_wp2
      go_end0
      exact ⟨⟨_, rfl⟩, .inl hJs⟩

set_option maxRecDepth 100000 in
set_option maxHeartbeats 1000000 in
theorem values1_nil_in (n : Nat) (l Bs : Nat) (a : Option Addr) (c : Nat) (J : List Int → World → Prop) (W : World) (hBs : W.cell? ⟨Bs, 0, none⟩ = some (.slice a 0 c)) (h0 : J [] W) :
    CallsIn Fence.wide n Tryd.prog 54 #[.func (.yield l) #[] #[], .pointer (some ⟨Bs, 0, none⟩)] W fun e W' => (∃ v, e = .returned v) ∧ J [] W' := by
  refine callsIn_of_wp Tryd.func54 rfl trivial ?_ rfl
  simp only [Tryd.ntmps54, List.size_toArray, List.length_cons, List.length_nil, Nat.reduceAdd, Nat.reduceSub, Array.replicate_succ, Array.replicate_zero, List.push_toArray, List.append_toArray, List.nil_append, List.cons_append]
  gi_wp2
  gi_loopw [7] (fun i wr => i = .int .i64 0 ∧ J [] wr) (fun _ _ => 0)
  case atStart => exact ⟨rfl, h0⟩
  case round =>
    obtain ⟨rfl, hJs⟩ := hrel
    gi_wp2
    go_end0
    exact ⟨⟨_, rfl⟩, hJs⟩

theorem values_stops (n : Nat) (hn : 1 ≤ n) (Bs n₀ : Nat) (a : Option Addr) (len c : Nat) (zs : List Int) (hz : zs.length = len) (hreach : len ≤ 1048576) (w : World) (hBs : Bs < w.heap.size)
    (hc : w.cell? ⟨Bs, 0, none⟩ = some (.slice a len c)) (ha : At w a zs) (hlow : ∀ p, a = some p → 0 < len → p.block < n₀) :
    SeqStopsK Fence.wide n Tryd.prog 54 #[.pointer (some ⟨Bs, 0, none⟩)] (fun x : Int => #[Value.int .i64 x]) (Below n₀) (fun ys => ys = zs) (fun pre => pre <+: zs) len w := fun l J Jx W hW _ _ hY h0 => by
  have hc' := (hW.cell (p := ⟨Bs, 0, none⟩) hBs).trans hc
  by_cases h00 : len = 0
  · subst h00
    obtain rfl := List.eq_nil_of_length_eq_zero hz
    exact (values1_nil_in n l Bs a c J W hc' h0).mono fun e W' ⟨he, hj⟩ => ⟨he, .inl ⟨_, rfl, hj⟩⟩
  · obtain ⟨b, off, rfl, hb, hcs⟩ := ha.some (by omega)
    have hcs' : ∀ j, j < len → W.cell? ⟨b, off + j, none⟩ = some (.int .i64 (zs[j]?.getD 0)) := fun j hj => (hW.cell (p := ⟨b, off + j, none⟩) hb).trans ((hcs j (by omega)).trans (by rw [List.getD_eq_getElem?_getD]))
    refine (values1_in n hn l Bs n₀ b off len c zs hreach (hlow _ rfl (by omega)) J Jx hY W hc' hcs' h0).mono ?_
    rintro e W' ⟨he, ⟨ys, rfl, hj⟩ | ⟨pre, ⟨k, hk, rfl⟩, hj⟩⟩
    · exact ⟨he, .inl ⟨_, by rw [← hz]; exact upto_all zs, hj⟩⟩
    · exact ⟨he, .inr ⟨_, by rw [upto_take zs (by omega)]; exact List.take_prefix _ _, hj⟩⟩

set_option maxRecDepth 100000 in
set_option maxHeartbeats 2000000 in
/-- slices.AppendSeq of the nil slice and slices.Values. -/
theorem appendSeq_in (n : Nat) (hn : 3 ≤ n) (Bs : Nat) (a : Option Addr) (len c : Nat) (zs : List Int) (hz : zs.length = len) (hlen : len ≤ 1048576) (w : World) (hBs : Bs < w.heap.size) (hcB : w.cell? ⟨Bs, 0, none⟩ = some (.slice a len c)) (ha : At w a zs) :
    CallsIn Fence.wide n Tryd.prog 57 #[.slice none 0 0, .func (.func 54) #[] #[.pointer (some ⟨Bs, 0, none⟩)]] w fun e W' =>
      ∃ v, e = .returned v ∧ W'.ownsRow w.heap.size 3 1 v len (zs.map (Value.int .i64)) ∧ (v = .slice none 0 0 ↔ zs = []) ∧ Below w.heap.size w W' := by
  have h1 : 1 ≤ n := by omega
  obtain ⟨i0, hi, hz0, hz1, hz2⟩ := info_parts Tryd.infoInt
  have hlow : ∀ p, a = some p → 0 < len → p.block < w.heap.size := fun p hp h0 => by
    obtain ⟨b, off, e, hb, _⟩ := ha.some (by omega)
    rw [hp] at e; cases e; exact hb
  refine callsIn_of_wp_marks Tryd.func57 rfl trivial ?_ rfl
  simp only [Tryd.ntmps57, List.size_toArray, List.length_cons, List.length_nil, Nat.reduceAdd, Nat.reduceSub, Array.replicate_succ, Array.replicate_zero, List.push_toArray, List.append_toArray, List.nil_append, List.cons_append]
  gi_wp2
  have bO := Boxed.new w 34 (.slice none 0 0)
  have hB0 : Below w.heap.size w (w.alloc (.cells #[.slice none 0 0] 34)) := (Below.refl _ w).alloc (Nat.le_refl _) _
  refine wpIn_rangeFunc_ownG rfl h1 (gf := 54) (lb := #[.pointer (some ⟨Bs, 0, none⟩)]) rfl trivial (enters_of Tryd.func54 (by kernel_rfl) rfl)
    (values_stops (n - 1) (by omega) Bs w.heap.size a len c zs hz hlen _ (by simp; omega) (cell_later hB0 hcB) (ha.below hB0) hlow) belowK_t (belowK_b (by simp)) (Below.refl _ _) (fun _ => rfl)
    (fun pre W => (∃ v, Boxed W w.heap.size 34 v ∧ W.ownsRow w.heap.size 3 1 v pre.length (pre.map (Value.int .i64)) ∧ (v = .slice none 0 0 ↔ pre = [])) ∧ Below w.heap.size w W)
    (fun _ _ _ => False)
    (OwnFrom.and (Own.from (holdsRow_own w.heap.size w.heap.size 34 3 1 (fun pre => pre.length) (fun pre => pre.map (Value.int .i64)) (fun pre v => v = .slice none 0 0 ↔ pre = [])) _) (ownFrom_below (Nat.le_refl _) (by simp)))
    (fun _ _ _ _ _ hs _ _ => hs)
    ⟨⟨_, bO, World.ownsRow_nil _ _ _ _, by simp⟩, hB0⟩
    (fun x => { tmps := #[.slice none 0 0, .func (.func 54) #[] #[.pointer (some ⟨Bs, 0, none⟩)], .pointer (some ⟨w.heap.size, 0, none⟩), undef, .slice none 0 0, .int .i64 x, .func (.func 54) #[] #[.pointer (some ⟨Bs, 0, none⟩)], .int .i64 x, undef, undef, undef, undef, undef], defers := [] }) ?assign ?body ?done ?stop
  case assign =>
    intro l x W K hK
    gi_wp2
    exact hK
  case body =>
    rintro l pre x W ⟨⟨v, hv, hrow, hnil⟩, hB⟩ hlt
    have hc := hv.cell
    gi_wp2_with (gi_at_builtin; refine wpListIn_append_own _ rfl _ _ 34 rfl w.heap.size 3 i0 (.int .i64 0) 1 8 Tryd.underlying34 hi hz0 hz1 hz2 rfl (by decide) _ _ _ rfl (hrow.alloc _) ⟨W.heap.size, 0, none⟩ 1 1 [.int .i64 x] rfl rfl (cell_one_new _ _ _) (by simp [Value.oneCell']) (by unfold maxLen; omega) (by omega) (by have := hB.size; simp; omega) ?_; intro v' w1 hown' hgrow _; obtain ⟨g', cap', rfl⟩ := ownsRow_succ hown'; obtain ⟨hv1, hv2, hr2, hk2, hb2⟩ := hv.appended (by decide) hrow hB.size (Nat.le_refl _) hown' hgrow; have hc1 := hv1.cell; have hf1 := hv1.frozen)
    exact ⟨hk2.from _, hb2, ⟨_, hv2, by simpa using hr2, by simp⟩, hB.trans hb2⟩
  case done =>
    rintro D ys W hD rfl ⟨⟨v, hv, hrow, hnil⟩, hB⟩ hK
    have hc := hv.cell
    gi_wp2
    refine ⟨by simp, .inl ⟨_, _, rfl, run_takeDeferred hK, ?_⟩⟩
    rw [hz] at hrow
    exact ⟨_, results_tmp rfl _ _ _, v, rfl, ownsRow_putObj hrow _ hK rfl, hnil, hB.trans (belowK_b (w := w) (Nat.le_refl _) W D _ _ (by simp at hD; omega) hK rfl rfl)⟩
  case stop =>
    rintro D c pre W _ _ h _
    exact h.elim
end

end Go.Proofs.YtociphdhkjoofaaDoor

/- slices.Sorted(slices.Values(l)), slices.Equal at ints, impl.areEachOnce. -/
namespace Go.Proofs.YtociphdhkjoofaaDoor
open Go.RowKit

theorem values_any (a : Option Addr) (n c : Nat) (w : World) :
    Calls Tryd.prog 49 #[.slice a n c] w fun e w' => e = .returned (.func (.func 54) #[] #[.pointer (some ⟨w.heap.size, 0, none⟩)]) ∧ w' = w.alloc (.cells #[.slice a n c] 34) := by
  go_enter Tryd.func49, Tryd.ntmps49
  go_wp2
  go_ret
  exact ⟨rfl, rfl⟩

/-- The slices that the sorted list of a function value lies in. -/
theorem sorted_any (Bs : Nat) (a : Option Addr) (n c : Nat) (zs : List Int) (w : World) (hz : zs.length = n) (hn : n ≤ 1048576) (hBs : Bs < w.heap.size) (hcB : w.cell? ⟨Bs, 0, none⟩ = some (.slice a n c)) (ha : At w a zs) :
    Calls Tryd.prog 48 #[.func (.func 54) #[] #[.pointer (some ⟨Bs, 0, none⟩)]] w fun e w' => ∃ r d, e = .returned (.slice r n d) ∧ w'.ownsRow w.heap.size 3 1 (.slice r n d) n ((srtI zs).map (.int .i64)) ∧ Below w.heap.size w w' := by
  have KA := Hid.mk (appendSeq_in 3 (by omega) Bs a n c zs hz hn w hBs hcB ha)
  have KC : Hid (Calls Tryd.prog 52 #[.func (.func 54) #[] #[.pointer (some ⟨Bs, 0, none⟩)]] w fun e w' => ∃ r d, e = .returned (.slice r n d) ∧ w'.ownsRow w.heap.size 3 1 (.slice r n d) n (zs.map (.int .i64)) ∧ Below w.heap.size w w') := by
    show Calls _ _ _ _ _
    go_enter Tryd.func52, Tryd.ntmps52
    go_wp2_with fail
    refine (callsIn_wide.1 KA.out).mono ?_
    rintro e w1 ⟨v, rfl, ho, _, hb⟩
    obtain ⟨r, d, rfl⟩ : ∃ r d, v = .slice r n d := by
      rcases ho.2 with ⟨h1, h2⟩ | ⟨g, cap, cur, h1, _⟩
      · exact ⟨none, 0, by rw [h1, h2]⟩
      · exact ⟨_, _, h1⟩
    go_wp2
    go_ret
    exact ⟨r, d, rfl, ho, hb⟩
  clear KA
  go_enter Tryd.func48, Tryd.ntmps48
  go_wp2_with fail
  refine KC.out.mono ?_
  rintro e w1 ⟨r, d, rfl, ho, hb⟩
  have KS := Hid.mk (sortInts_own w.heap.size r n d zs w1 hz hn hb.size ho)
  have HB := Hid.mk hb
  clear ho hb
  go_wp2_with fail
  refine KS.out.mono ?_
  rintro e w2 ⟨rfl, ho2, hb2⟩
  go_wp2
  go_ret
  exact ⟨r, d, rfl, ho2, HB.out.trans hb2⟩

set_option maxHeartbeats 1000000 in
theorem equalInts_any (a a' : Option Addr) (n n' c c' : Nat) (zs zs' : List Int) (w : World) (hz : zs.length = n) (hz' : zs'.length = n') (hn : n ≤ 1048576) (hn' : n' ≤ 1048576) (ha : At w a zs) (ha' : At w a' zs') :
    Calls Tryd.prog 47 #[.slice a n c, .slice a' n' c'] w fun e w' => e = .returned (.bool (decide (zs = zs'))) ∧ Below w.heap.size w w' := by
  by_cases hnn : n = n'
  · subst hnn
    by_cases h0 : n = 0
    · subst h0
      obtain rfl := List.eq_nil_of_length_eq_zero hz
      obtain rfl := List.eq_nil_of_length_eq_zero hz'
      go_enter Tryd.func47, Tryd.ntmps47
      go_wp2
      refine wp_loop_rounds 1 ?_
      rw [rounds_succ]
      go_wp2
      go_ret
      exact ⟨by simp, Below.refl _ _⟩
    · obtain ⟨b, off, rfl, hb, hc⟩ := ha.some (by omega)
      obtain ⟨b', off', rfl, hb', hc'⟩ := ha'.some (by omega)
      clear ha ha'
      go_enter Tryd.func47, Tryd.ntmps47
      go_wp2
      go_loopw [13] (fun i wr => ∃ (k : Nat), k ≤ n ∧ i = .int .i64 k ∧ zs.take k = zs'.take k ∧ Below w.heap.size w wr) (fun i _ => n - (intOf i).toNat)
      case atStart => exact ⟨0, Nat.zero_le _, rfl, rfl, Below.refl _ _⟩
      case round =>
        obtain ⟨k, hk, rfl, ht, hbw⟩ := hrel
        by_cases hlt : k < n
        · have hcx : wr.cell? ⟨b, off + k, none⟩ = some (.int .i64 (zs.getD k 0)) := (hbw.cell hb).trans (hc k (by omega))
          have hcy : wr.cell? ⟨b', off' + k, none⟩ = some (.int .i64 (zs'.getD k 0)) := (hbw.cell hb').trans (hc' k (by omega))
          have HT : Hid (zs.getD k 0 = zs'.getD k 0 → zs.take (k + 1) = zs'.take (k + 1)) := fun e => by
            rw [take_succ_getD zs k (by omega), take_succ_getD zs' k (by omega), ht, e]
          have HN : Hid (zs.getD k 0 ≠ zs'.getD k 0 → zs ≠ zs') := ne_of_getD
          obtain ⟨x, hx⟩ : ∃ x, x = zs.getD k 0 := ⟨_, rfl⟩
          obtain ⟨y, hy⟩ : ∃ y, y = zs'.getD k 0 := ⟨_, rfl⟩
          rw [← hx] at hcx HT HN
          rw [← hy] at hcy HT HN
          clear hx hy ht hc hc'
          go_wp2
          go_quiet (fail)
          go_wp2
          · have hne : x ≠ y := by simpa using ‹(x != y) = true›
            go_ret
            exact ⟨by simp [HN.out hne], below_drewN hbw _⟩
          · have he : x = y := by simpa using ‹(x != y) = false›
            go_roundw
            case rel => exact ⟨k + 1, by omega, by go_num, HT.out he, below_drewN hbw _⟩
            case measure => simp [intOf]; omega
        · go_wp2
          go_ret
          exact ⟨by simp [take_all_eq (by omega) (by omega) ht], hbw⟩
  · go_enter Tryd.func47, Tryd.ntmps47
    go_wp2
    go_ret
    exact ⟨by have : zs ≠ zs' := fun e => hnn (by rw [← hz, ← hz', e]); simp [this], Below.refl _ _⟩

theorem srtI_len (l : List Int) : (srtI l).length = l.length := (srtI_perm l).length_eq

end Go.Proofs.YtociphdhkjoofaaDoor

/- Contract of impl.areEachOnce: any list, held against a rising one. -/
namespace Go.Proofs.YtociphdhkjoofaaDoor
open Go.RowKit

set_option maxHeartbeats 1000000 in
theorem eachOnceL_any (a : Option Addr) (n c : Nat) (zs : List Int) (a' : Option Addr) (n' c' : Nat) (ys : List Int) (w : World) (hz : zs.length = n) (hn : n ≤ 1048576) (ha : At w a zs) (hy : ys.length = n') (hn' : n' ≤ 1048576) (ha' : At w a' ys) :
    Calls Tryd.prog 36 #[.slice a n c, .slice a' n' c'] w fun e w' => e = .returned (.bool (decide (srtI zs = ys))) ∧ Below w.heap.size w w' := by
  obtain ⟨W, hW⟩ : ∃ W, W = w.alloc (.cells #[.slice a n c] 34) := ⟨_, rfl⟩
  have B0 : Below w.heap.size w W := by rw [hW]; exact (Below.refl _ _).alloc (Nat.le_refl _) _
  have q0 : W.cell? ⟨w.heap.size, 0, none⟩ = some (.slice a n c) := by rw [hW]; simp
  have zW : w.heap.size < W.heap.size := by rw [hW]; simp
  have KS := Hid.mk (sorted_any w.heap.size a n c zs W hz hn zW q0 (At.below ha B0))
  have HZ := Hid.mk hz
  have HY := Hid.mk hy
  have HA := Hid.mk ha'
  clear hz ha hy ha'
  go_enter Tryd.func36, Tryd.ntmps36
  go_wp2_with fail
  refine (values_any a n c w).mono ?_
  rintro e w1 ⟨rfl, hw1⟩
  rw [← hW] at hw1
  obtain rfl := hw1.symm
  clear hw1 hW
  go_wp2_with fail
  refine KS.out.mono ?_
  rintro e w2 ⟨r, d, rfl, ho, hb2⟩
  have B2 := Hid.mk (B0.trans (hb2.mono B0.size))
  have KE := Hid.mk (equalInts_any r a' n n' d c' (srtI zs) ys w2 (by rw [srtI_len]; exact HZ.out) HY.out hn hn' (At.owned ho) (At.below HA.out B2.out))
  clear ho hb2 KS
  go_wp2_with fail
  refine KE.out.mono ?_
  rintro e w4 ⟨rfl, hb4⟩
  have B4 := Hid.mk (B2.out.trans (hb4.mono B2.out.size))
  clear hb4 KE
  go_wp2
  go_ret
  exact ⟨rfl, B4.out⟩

end Go.Proofs.YtociphdhkjoofaaDoor

/- Contract of spec.l1In. -/
namespace Go.Proofs.YtociphdhkjoofaaDoor
open Go.RowKit

theorem l1In_any (x lo hi : Int) (w : World) :
    Calls Tryd.prog 39 #[.int .i64 x, .int .i64 lo, .int .i64 hi] w fun e w' => e = .returned (.bool (decide (lo ≤ x) && decide (x ≤ hi))) ∧ w' = w := by
  by_cases h : lo ≤ x
  · have h1 : decide (lo ≤ x) = true := decide_eq_true h
    go_enter Tryd.func39, Tryd.ntmps39
    go_wp2
    go_ret
    exact ⟨ret_bool (by simp [h]), rfl⟩
  · have h1 : decide (lo ≤ x) = false := decide_eq_false h
    go_enter Tryd.func39, Tryd.ntmps39
    go_wp2
    go_ret
    exact ⟨ret_bool (by simp), rfl⟩

end Go.Proofs.YtociphdhkjoofaaDoor

/- Contracts of GoodSteps, the program's and the model's. -/
namespace Go.Proofs.YtociphdhkjoofaaDoor
open Go.RowKit

set_option maxRecDepth 100000 in
set_option maxHeartbeats 1000000 in
theorem isNoStep_any (x0 x1 x2 : Int) (w : World) :
    Calls Tryd.prog 43 #[.agg #[.int .i64 x0, .int .i64 x1, .int .i64 x2]] w fun e w' => e = .returned (.bool (!stOk (x0, x1, x2))) ∧ Below w.heap.size w w' := by
  obtain ⟨V, hV⟩ : ∃ V, V = w.alloc (.cells #[.int .i64 x0, .int .i64 x1, .int .i64 x2] 46) := ⟨_, rfl⟩
  have hB : Below w.heap.size w V := by rw [hV]; exact (Below.refl _ _).alloc (Nat.le_refl _) _
  clear hB hV V
  by_cases q1 : x1 = 1
  · subst q1
    go_enter Tryd.func43, Tryd.ntmps43
    go_wp2
    all_goals
      go_ret
      refine ⟨ret_bool ?_, (Below.refl _ _).alloc (Nat.le_refl _) _⟩
      first
        | (rw [stOk_no (by simp only; omega)]; simp <;> omega)
        | (rw [stOk_iff.2 (by simp only; omega)]; simp <;> omega)
  · by_cases q2 : x1 = 2
    · subst q2
      go_enter Tryd.func43, Tryd.ntmps43
      go_wp2
      all_goals
        go_ret
        refine ⟨ret_bool ?_, (Below.refl _ _).alloc (Nat.le_refl _) _⟩
        first
          | (rw [stOk_no (by simp only; omega)]; simp <;> omega)
          | (rw [stOk_iff.2 (by simp only; omega)]; simp <;> omega)
    · have HN : Hid (stOk (x0, x1, x2) = false) := Hid.mk (stOk_no (by simp only; omega))
      have q1' : (x1 == 1) = false := beq_eq_false_iff_ne.2 q1
      have q2' : (x1 == 2) = false := beq_eq_false_iff_ne.2 q2
      go_enter Tryd.func43, Tryd.ntmps43
      go_wp2
      all_goals
        go_ret
        refine ⟨ret_bool ?_, (Below.refl _ _).alloc (Nat.le_refl _) _⟩
        rw [HN.out]
        simp <;> omega

set_option maxRecDepth 100000 in
set_option maxHeartbeats 2000000 in
theorem indexNoStep_any (a : Option Addr) (n c : Nat) (xs : List TStep) (w : World) (hz : xs.length = n) (hn : n ≤ 9223372036854775807) (ha : At w a (flStep xs)) :
    Calls Tryd.prog 51 #[.slice a n c, .func (.func 43) #[] #[]] w fun e w' => (∃ k : Int, e = .returned (.int .i64 k) ∧ decide (0 ≤ k) = !xs.all stOk) ∧ Below w.heap.size w w' := by
  have HZ := Hid.mk hz
  have HA := Hid.mk ha
  clear hz ha
  go_enter Tryd.func51, Tryd.ntmps51
  go_wp2_with fail
  go_loopw [8] (fun i wr => ∃ (k : Nat), k ≤ n ∧ i = .int .i64 k ∧ xs.all stOk = (xs.drop k).all stOk ∧ Below w.heap.size w wr) (fun i _ => n - (intOf i).toNat)
  case atStart => exact ⟨0, Nat.zero_le _, rfl, rfl, Below.refl _ _⟩
  case round =>
    obtain ⟨k, hk, rfl, ht, hbw⟩ := hrel
    obtain ⟨wY, rfl⟩ : ∃ x, x = wr := ⟨_, rfl⟩
    by_cases hlt : k < n
    · obtain ⟨⟨x0, x1, x2⟩, hx⟩ : ∃ x, xs[k]? = some x := ⟨_, List.getElem?_eq_getElem (by have := HZ.out; omega)⟩
      obtain ⟨b, off, rfl, hb, hc⟩ := flStep_some HA.out (by have := HZ.out; omega)
      obtain ⟨c0, c1, c2⟩ := hc k _ hx
      have c0 := (hbw.cell hb).trans c0
      have c1 := (hbw.cell hb).trans c1
      have c2 := (hbw.cell hb).trans c2
      rw [all_step hx] at ht
      have HT := Hid.mk ht
      have HBW := Hid.mk hbw
      have hki : (k : Int) < (n : Int) := by omega
      have K := Hid.mk (isNoStep_any x0 x1 x2 wY)
      clear hc hx ht hbw
      simp only at c0 c1 c2
      cases hr : stOk (x0, x1, x2) with
      | false =>
        rw [hr] at K
        go_wp2_with fail
        refine K.out.mono ?_
        rintro e w3 ⟨rfl, hb3⟩
        have HB3 := Hid.mk (HBW.out.trans (hb3.mono HBW.out.size))
        clear hb3 K
        go_wp2
        go_ret
        exact ⟨⟨k, rfl, by rw [HT.out, hr]; simp⟩, HB3.out⟩
      | true =>
        rw [hr] at K
        go_wp2_with fail
        refine K.out.mono ?_
        rintro e w3 ⟨rfl, hb3⟩
        have HB3 := Hid.mk (HBW.out.trans (hb3.mono HBW.out.size))
        clear hb3 K
        go_wp2
        go_roundw
        case rel => exact ⟨k + 1, by omega, by go_num, by rw [HT.out, hr]; rfl, HB3.out⟩
        case measure => simp [intOf]; omega
    · rw [all_done (by have := HZ.out; omega)] at ht
      have HT := Hid.mk ht
      clear ht
      go_wp2
      go_ret
      exact ⟨⟨-1, rfl, by rw [HT.out]; rfl⟩, hbw⟩

set_option maxRecDepth 100000 in
set_option maxHeartbeats 2000000 in
theorem hasNoStep_any (a : Option Addr) (n c : Nat) (xs : List TStep) (w : World) (hz : xs.length = n) (hn : n ≤ 9223372036854775807) (ha : At w a (flStep xs)) :
    Calls Tryd.prog 42 #[.slice a n c, .func (.func 43) #[] #[]] w fun e w' => e = .returned (.bool (!xs.all stOk)) ∧ Below w.heap.size w w' := by
  have K := Hid.mk (indexNoStep_any a n c xs w hz hn ha)
  clear ha hz
  go_enter Tryd.func42, Tryd.ntmps42
  go_wp2_with fail
  refine K.out.mono ?_
  rintro e w2 ⟨⟨k, rfl, hk⟩, hb⟩
  have HK := Hid.mk hk
  clear K hk
  go_wp2
  go_ret
  exact ⟨ret_bool HK.out, hb⟩

set_option maxRecDepth 100000 in
set_option maxHeartbeats 2000000 in
theorem implGoodSteps (a : Option Addr) (n c : Nat) (xs : List TStep) (w : World) (hz : xs.length = n) (hn : n ≤ 9223372036854775807) (ha : At w a (flStep xs)) :
    Calls Tryd.prog 27 #[.slice a n c] w fun e w' => e = .returned (.bool (gpB xs)) ∧ Below w.heap.size w w' := by
  by_cases h40 : 40 < n
  · have h40' : ¬ (n : Int) ≤ 40 := by omega
    have HG : Hid (gpB xs = false) := by show _ = _; unfold gpB; rw [decide_eq_false (by omega)]; rfl
    clear hz ha
    go_enter Tryd.func27, Tryd.ntmps27
    go_wp2
    go_ret
    exact ⟨ret_bool HG.out.symm, Below.refl _ _⟩
  · have h40' : (n : Int) ≤ 40 := by omega
    have HG : Hid (gpB xs = xs.all stOk) := by show _ = _; unfold gpB; rw [decide_eq_true (by omega)]; rfl
    have K := Hid.mk (hasNoStep_any a n c xs w hz hn ha)
    clear hz ha
    go_enter Tryd.func27, Tryd.ntmps27
    go_wp2_with fail
    refine K.out.mono ?_
    rintro e w2 ⟨rfl, hb⟩
    clear K
    go_wp2
    go_ret
    exact ⟨ret_bool (by rw [HG.out]), hb⟩

set_option maxRecDepth 100000 in
set_option maxHeartbeats 4000000 in
theorem specGoodSteps (a : Option Addr) (n c : Nat) (xs : List TStep) (w : World) (hz : xs.length = n) (hn : n ≤ 9223372036854775807) (ha : At w a (flStep xs)) :
    Calls Tryd.prog 24 #[.slice a n c] w fun e w' => e = .returned (.bool (gpB xs)) ∧ Below w.heap.size w w' := by
  have HZ := Hid.mk hz
  have HA := Hid.mk ha
  clear hz ha
  go_enter Tryd.func24, Tryd.ntmps24
  go_wp2_with fail
  go_loopw [7] (fun i wr => ∃ (k : Nat), k ≤ n ∧ i = .int .i64 k ∧ xs.all stOk = (xs.drop k).all stOk ∧ Below w.heap.size w wr) (fun i _ => n - (intOf i).toNat)
  case atStart => exact ⟨0, Nat.zero_le _, rfl, rfl, Below.refl _ _⟩
  case round =>
    obtain ⟨k, hk, rfl, ht, hbw⟩ := hrel
    obtain ⟨wY, rfl⟩ : ∃ x, x = wr := ⟨_, rfl⟩
    by_cases hlt : k < n
    · obtain ⟨⟨x0, x1, x2⟩, hx⟩ : ∃ x, xs[k]? = some x := ⟨_, List.getElem?_eq_getElem (by have := HZ.out; omega)⟩
      obtain ⟨b, off, rfl, hb, hc⟩ := flStep_some HA.out (by have := HZ.out; omega)
      obtain ⟨c0, c1, c2⟩ := hc k _ hx
      have c0 := (hbw.cell hb).trans c0
      have c1 := (hbw.cell hb).trans c1
      have c2 := (hbw.cell hb).trans c2
      rw [all_step hx] at ht
      have HT := Hid.mk ht
      have hki : (k : Int) < (n : Int) := by omega
      obtain ⟨V, hV⟩ : ∃ V, V = wY.alloc (.cells #[.int .i64 x0, .int .i64 x1, .int .i64 x2] 46) := ⟨_, rfl⟩
      have hbV : Below w.heap.size w V := by rw [hV]; exact hbw.alloc hbw.size _
      have HB := Hid.mk hbV
      clear hc hx ht hbw hbV
      simp only at c0 c1 c2
      have HNO : Hid (stOk (x0, x1, x2) = false → gpB xs = false) := Hid.mk (fun h => by unfold gpB; rw [HT.out, h]; simp)
      by_cases e1 : x0 < 0
      · go_wp2
        go_ret
        exact ⟨ret_bool (HNO.out (stOk_no (by simp only; omega))).symm, by rw [← hV]; exact HB.out⟩
      by_cases e2 : 6 ≤ x0
      · go_wp2
        go_ret
        exact ⟨ret_bool (HNO.out (stOk_no (by simp only; omega))).symm, by rw [← hV]; exact HB.out⟩
      by_cases e3 : x2 < 0
      · go_wp2
        go_ret
        exact ⟨ret_bool (HNO.out (stOk_no (by simp only; omega))).symm, by rw [← hV]; exact HB.out⟩
      by_cases e4 : 4 ≤ x2
      · go_wp2
        go_ret
        exact ⟨ret_bool (HNO.out (stOk_no (by simp only; omega))).symm, by rw [← hV]; exact HB.out⟩
      have K := Hid.mk (fun w => l1In_any x1 1 2 w)
      by_cases e5 : 1 ≤ x1 ∧ x1 ≤ 2
      · have HY : Hid (stOk (x0, x1, x2) = true) := Hid.mk (stOk_iff.2 (by simp only; omega))
        rw [decide_eq_true e5.1, decide_eq_true e5.2] at K
        go_wp2_with (go_at_call 39; refine (K.out _).mono ?_; rintro e w5 ⟨rfl, hw5⟩; obtain rfl := hw5.symm)
        rw [← hV]
        go_roundw
        case rel => exact ⟨k + 1, by omega, by go_num, by rw [HT.out, HY.out]; rfl, HB.out⟩
        case measure => simp [intOf]; omega
      · have HY : Hid (stOk (x0, x1, x2) = false) := Hid.mk (stOk_no (by simp only; omega))
        have e6 : (decide (1 ≤ x1) && decide (x1 ≤ 2)) = false := by simp only [Bool.and_eq_false_iff, decide_eq_false_iff_not]; omega
        rw [e6] at K
        go_wp2_with (go_at_call 39; refine (K.out _).mono ?_; rintro e w5 ⟨rfl, hw5⟩; obtain rfl := hw5.symm)
        go_ret
        exact ⟨ret_bool (HNO.out HY.out).symm, by rw [← hV]; exact HB.out⟩
    · rw [all_done (by have := HZ.out; omega)] at ht
      have HT := Hid.mk ht
      clear ht
      have HG : Hid (gpB xs = decide ((n : Int) ≤ 40)) := Hid.mk (by unfold gpB; rw [HT.out, Bool.and_true]; have := HZ.out; rw [Bool.eq_iff_iff]; simp only [decide_eq_true_eq]; omega)
      go_wp2
      go_ret
      exact ⟨ret_bool HG.out.symm, hbw⟩

end Go.Proofs.YtociphdhkjoofaaDoor
