/- Several texts of one proof, in build order: ItP, SqI, SqJ, EdI, ErQ. -/
import Derived.Test.YteggbamjfhbmfaaM11
import Derived.Test.YteggbamjfhbmfaaM12
import Derived.RangeFuncBox
import Derived.RangeFuncLeaves
import Derived.RangeFuncNested
import Derived.Shelf.Abstract
import Derived.WalkKit
import Derived.OwnWalkIn
import Derived.TacticsInMore
import Derived.LoopNIn
import Derived.LoopIn
import Derived.Maps.AppendAt
import Derived.Test.YteggbamjfhbmfaaRows
import Derived.Test.YteggbamjfhbmfaaM6
import Derived.Test.YteggbamjfhbmfaaM9
import Derived.Test.YteggbamjfhbmfaaM3
import Derived.Deep.CutBlock
import Derived.Test.YteggbamjfhbmfaaM4

/- Plain: ears that are a tree: the program's question and the model's are one. -/
namespace Go.Proofs.Yteggbamjfhbmfaa
open Go.RowKit

def itA (es : List TEar) : List Int := es.map fun e => e.1
/-- Each ear but the last hangs on one behind it; the last one on none. -/
def hngs (E : List (List Int)) : List TEar → Bool
  | [] => true
  | [x] => decide (x.2 = -1)
  | x :: y :: r => hangB E (itA (x :: y :: r)) x.1 x.2 && hngs E (y :: r)
def treB (E : List (List Int)) (es : List TEar) : Bool := eachB (itA es) E.length && hngs E es
/-- What the model asks of one ear, of those behind it. -/
def stA (zs : List Atm) (x : TEar) (seen : List Int) : Bool := decide (x.2 ∈ seen) && ((bl (mk (shT zs seen (edge (zs.getD x.1.toNat (0, [])))))).all fun v => decide (v ∈ atv zs x.2))
def stR (zs : List Atm) (x : TEar) (seen : List Int) (last : Bool) : Bool := ((decide (0 ≤ x.1) && decide (x.1 < (zs.length : Int))) && !decide (x.1 ∈ seen)) && (decide (x.2 = -1) == last)
def stp (zs : List Atm) (x : TEar) (seen : List Int) (last : Bool) : Bool := stR zs x seen last && (decide (x.2 = -1) || stA zs x seen)
def mdS (zs : List Atm) : List TEar → Bool
  | [] => true
  | x :: r => mdS zs r && stp zs x (itA r).reverse r.isEmpty
theorem mdS_drop (zs : List Atm) : ∀ (es : List TEar) (k : Nat), mdS zs es = true → mdS zs (es.drop k) = true
  | [], k, _ => by simp [mdS]
  | x :: r, 0, h => h
  | x :: r, k + 1, h => by
    simp only [mdS, Bool.and_eq_true] at h
    exact mdS_drop zs r k h.1
theorem mdS_at (zs : List Atm) {es : List TEar} {k : Nat} {x : TEar} (h : es[k]? = some x) : mdS zs (es.drop k) = (mdS zs (es.drop (k + 1)) && stp zs x (itA (es.drop (k + 1))).reverse (es.drop (k + 1)).isEmpty) := by
  obtain ⟨hk, rfl⟩ := List.getElem?_eq_some_iff.1 h
  rw [List.drop_eq_getElem_cons hk]; rfl
theorem hngs_at (E : List (List Int)) {es : List TEar} {k : Nat} {x : TEar} (h : es[k]? = some x) (hk : k + 1 < es.length) : hngs E (es.drop k) = (hangB E (itA (es.drop k)) x.1 x.2 && hngs E (es.drop (k + 1))) := by
  obtain ⟨hl, rfl⟩ := List.getElem?_eq_some_iff.1 h
  rw [List.drop_eq_getElem_cons hl, List.drop_eq_getElem_cons hk]; rfl
theorem hngs_last (E : List (List Int)) {es : List TEar} {k : Nat} {x : TEar} (h : es[k]? = some x) (hk : k + 1 = es.length) : hngs E (es.drop k) = decide (x.2 = -1) := by
  obtain ⟨hl, rfl⟩ := List.getElem?_eq_some_iff.1 h
  rw [List.drop_eq_getElem_cons hl, List.drop_of_length_le (by omega)]; rfl

theorem mk_mem {a b : List Int} (ha : ∀ x ∈ a, 0 ≤ x) (hb : ∀ x ∈ b, 0 ≤ x) (h : ∀ x, x ∈ a ↔ x ∈ b) : mk a = mk b := by
  apply Nat.eq_of_testBit_eq
  intro i
  rw [Bool.eq_iff_iff, mk_bit a ha, mk_bit b hb, h]
theorem stA_hang {zs : List Atm} (hok : ∀ x ∈ zs, aOk x = true) {x : TEar} {r : List Int} (ht : TbL zs.length (x.1 :: r)) : hangB (edges zs) (x.1 :: r) x.1 x.2 = stA zs x r.reverse := by
  obtain ⟨a, u⟩ := x
  have hlen : (edges zs).length = zs.length := edges_len zs
  have hnd := List.nodup_cons.1 ht.nd
  have ha := ht.lt a (List.mem_cons_self ..)
  obtain ⟨k, rfl⟩ : ∃ k : Nat, a = (k : Int) := ⟨a.toNat, by omega⟩
  have hk : k < zs.length := by omega
  obtain ⟨y, hy⟩ : ∃ y, zs[k]? = some y := ⟨_, List.getElem?_eq_getElem hk⟩
  have hL : Atoms (edges zs) ((k : Int) :: r) := fun o ho => by have := ht.lt o ho; rw [hlen]; exact this
  have hwo : woI ((k : Int) :: r) (k : Int) = r := by
    have h1 : woI ((k : Int) :: r) (k : Int) = woI r (k : Int) := by simp [woI]
    rw [h1]
    unfold woI
    rw [List.filter_eq_self]
    intro o ho
    simp only [decide_eq_true_eq]
    exact fun e => hnd.1 (e ▸ ho)
  have hyA := hok y (List.mem_of_getElem? hy)
  have hgy : zs.getD ((k : Int)).toNat (0, []) = y := by simp [List.getD, hy]
  unfold stA
  simp only
  rw [hgy]
  by_cases hu : u ∈ r
  · have h9 := shared_hang hok hL hy (o := u) (by rw [hwo]; exact hu)
    rw [hwo] at h9
    rw [← h9, decide_eq_true (List.mem_reverse.2 hu), Bool.true_and]
    have e : mk (shT zs r (edge y)) = mk (shT zs r.reverse (edge y)) := by
      refine mk_mem (fun v hv => (shared_in hyA r v hv).1) (fun v hv => (shared_in hyA _ v hv).1) (fun v => ?_)
      rw [mem_shT, mem_shT]
      simp only [List.mem_reverse]
    rw [e]
  · rw [decide_eq_false (fun h => hu (List.mem_reverse.1 h)), Bool.false_and]
    unfold hangB
    by_cases e : u = (k : Int)
    · rw [decide_eq_false (fun h => h e)]; rfl
    · rw [decide_eq_false (show ¬ u ∈ (k : Int) :: r from fun h => by rcases List.mem_cons.1 h with h | h; exact e h; exact hu h)]; simp
theorem mdS_tbl {zs : List Atm} : ∀ es : List TEar, mdS zs es = true → TbL zs.length (itA es)
  | [], _ => ⟨by simp [itA], fun x hx => by simp [itA] at hx⟩
  | x :: r, h => by
    simp only [mdS, stp, stR, Bool.and_eq_true, decide_eq_true_eq, Bool.not_eq_true', decide_eq_false_iff_not, List.mem_reverse] at h
    have ih := mdS_tbl r h.1
    have hx := h.2.1.1
    refine ⟨?_, ?_⟩
    · show (x.1 :: itA r).Nodup
      exact List.nodup_cons.2 ⟨hx.2, ih.nd⟩
    · intro y hy
      rcases List.mem_cons.1 (show y ∈ x.1 :: itA r from hy) with rfl | hy
      · exact hx.1
      · exact ih.lt y hy
theorem tree_step {zs : List Atm} (hok : ∀ x ∈ zs, aOk x = true) : ∀ es : List TEar, TbL zs.length (itA es) → es ≠ [] → mdS zs es = hngs (edges zs) es
  | [], _, h => absurd rfl h
  | [x], ht, _ => by
    have hx := ht.lt x.1 (by simp [itA])
    simp only [mdS, hngs, stp, stR, itA, List.map_nil, List.reverse_nil, List.isEmpty_nil, Bool.true_and]
    rw [decide_eq_true hx.1, decide_eq_true hx.2]
    cases hu : decide (x.2 = -1) <;> simp
  | x :: y :: r, ht, _ => by
    have hnd := List.nodup_cons.1 (show (x.1 :: itA (y :: r)).Nodup from ht.nd)
    have ht' : TbL zs.length (itA (y :: r)) := ⟨hnd.2, fun z hz => ht.lt z (List.mem_cons_of_mem _ hz)⟩
    have ih := tree_step hok (y :: r) ht' (by simp)
    have hx := ht.lt x.1 (List.mem_cons_self ..)
    have hst := stA_hang hok (x := x) (r := itA (y :: r)) ht
    have e1 : mdS zs (x :: y :: r) = (mdS zs (y :: r) && stp zs x (itA (y :: r)).reverse false) := rfl
    have e2 : hngs (edges zs) (x :: y :: r) = (hangB (edges zs) (itA (x :: y :: r)) x.1 x.2 && hngs (edges zs) (y :: r)) := rfl
    rw [e1, e2, ih, Bool.and_comm]
    congr 1
    show stp zs x (itA (y :: r)).reverse false = hangB (edges zs) (x.1 :: itA (y :: r)) x.1 x.2
    rw [hst]
    unfold stp stR
    rw [decide_eq_true hx.1, decide_eq_true hx.2, decide_eq_false (fun h => hnd.1 (List.mem_reverse.1 h))]
    by_cases hu : x.2 = -1
    · have hn : stA zs x (itA (y :: r)).reverse = false := by
        unfold stA
        rw [decide_eq_false (fun h => by have := ht'.lt _ (List.mem_reverse.1 h); omega)]; rfl
      rw [hn, decide_eq_true hu]; rfl
    · rw [decide_eq_false hu]; simp
theorem each_of {n : Nat} (hn : n ≤ 6) {l : List Int} (ht : TbL n l) (hl : l.length = n) : eachB l n = true := by
  rw [← isoB_each hn]
  simp only [isoB, Bool.and_eq_true, decide_eq_true_eq, List.all_eq_true]
  refine ⟨hl, fun x hx => by have := ht.lt x hx; omega, ?_⟩
  have := (putI_nodup l [] (by simpa using ht.nd)).length_eq
  simpa using this
/-- **The program's question is the model's.** -/
theorem tree_same {zs : List Atm} (hok : ∀ x ∈ zs, aOk x = true) (h1 : 1 ≤ zs.length) (h6 : zs.length ≤ 6) (es : List TEar) : treB (edges zs) es = (mdS zs es && decide (es.length = zs.length)) := by
  unfold treB
  rw [edges_len]
  rw [Bool.eq_iff_iff]
  simp only [Bool.and_eq_true, decide_eq_true_eq]
  have hne : es.length = zs.length → es ≠ [] := fun h e => by rw [e] at h; simp at h; omega
  constructor
  · rintro ⟨h, hh⟩
    have hp := eachB_iff.1 h
    have ht := each_tbl hp
    have hl : es.length = zs.length := by have := hp.length_eq; rw [upN_len] at this; simpa [itA] using this
    exact ⟨by rw [tree_step hok es ht (hne hl)]; exact hh, hl⟩
  · rintro ⟨h, hl⟩
    have ht := mdS_tbl es h
    exact ⟨each_of h6 ht (by simpa [itA] using hl), by rw [← tree_step hok es ht (hne hl)]; exact h⟩

end Go.Proofs.Yteggbamjfhbmfaa

/- slices.Values, slices.AppendSeq, Collect, Sorted and Equal at ints. -/
namespace Go.Proofs.Yteggbamjfhbmfaa
open Go.RowKit Go.Shelf

/-- What has come when k rounds are over. -/
def upto (zs : List Int) (k : Nat) : List Int := (List.range k).map fun j => zs[j]?.getD 0
theorem upto_succ (zs : List Int) (k : Nat) : upto zs (k + 1) = upto zs k ++ [zs[k]?.getD 0] := by simp [upto, List.range_succ]
theorem upto_length (zs : List Int) (k : Nat) : (upto zs k).length = k := by simp [upto]
theorem upto_all (zs : List Int) : upto zs zs.length = zs := by
  apply List.ext_getElem
  · simp [upto]
  · intro i h1 h2
    simp [upto, h2]
theorem upto_take (zs : List Int) {k : Nat} (hk : k ≤ zs.length) : upto zs k = zs.take k := by
  apply List.ext_getElem
  · simp [upto, hk]
  · intro i h1 h2
    have : i < zs.length := by simp [upto] at h1; omega
    simp [upto, this]

section
attribute [local go_sem] Oper.semAt_some

set_option maxRecDepth 100000 in
set_option maxHeartbeats 2000000 in
theorem values1_in (n : Nat) (hn : 1 ≤ n) (l Bs n₀ b off len cap : Nat) (zs : List Int) (hreach : len ≤ 1048576) (hb : b < n₀) (J Jx : List Int → World → Prop)
    (hY : ∀ pre x W, J pre W → pre.length < len → YieldAt Fence.wide (n - 1) Try.prog l #[.int .i64 x] W fun e W' =>
      (e = .returned (.bool true) ∧ J (pre ++ [x]) W' ∧ Below n₀ W W') ∨ (e = .returned (.bool false) ∧ Jx (pre ++ [x]) W'))
    (W : World) (hBs : W.cell? ⟨Bs, 0, none⟩ = some (.slice (some ⟨b, off, none⟩) len cap)) (hc : ∀ j, j < len → W.cell? ⟨b, off + j, none⟩ = some (.int .i64 (zs[j]?.getD 0))) (h0 : J [] W) :
    CallsIn Fence.wide n Try.prog 95 #[.func (.yield l) #[] #[], .pointer (some ⟨Bs, 0, none⟩)] W fun e W' => (∃ v, e = .returned v) ∧
      ((∃ ys, ys = upto zs len ∧ J ys W') ∨ (∃ pre, (∃ k, k ≤ len ∧ pre = upto zs k) ∧ Jx pre W')) := by
  refine callsIn_of_wp Try.func95 rfl trivial ?_ rfl
  simp only [Try.ntmps95, List.size_toArray, List.length_cons, List.length_nil, Nat.reduceAdd, Nat.reduceSub, Array.replicate_succ, Array.replicate_zero, List.push_toArray, List.append_toArray, List.nil_append, List.cons_append]
  gi_wp2
  gi_loopw [7] (fun i wr => ∃ k : Nat, k ≤ len ∧ i = .int .i64 k ∧ J (upto zs k) wr ∧ Below n₀ W wr)
    (fun i _ => len - (intOf i).toNat)
  case atStart => exact ⟨0, Nat.zero_le _, rfl, h0, Below.refl _ _⟩
  case round =>
    obtain ⟨k, hk, rfl, hJs, hnx⟩ := hrel
    have hcx : k < len → wr.cell? ⟨b, off + k, none⟩ = some (.int .i64 (zs[k]?.getD 0)) := fun h => (hnx.cell (p := ⟨b, off + k, none⟩) hb).trans (hc k h)
    by_cases hlt : k < len
    · obtain ⟨fn, tmps, assign, body, hy, hR⟩ := hY _ (zs[k]?.getD 0) wr hJs (by rw [upto_length]; exact hlt)
      have hcx' := hcx hlt
      have hki : (k : Int) < (len : Int) := by omega
      gi_wp2
      refine hR.mono ?_
      rintro e W3 (⟨rfl, hJ3, hk3⟩ | ⟨rfl, hJx3⟩)
      · gi_wp2
        go_roundw
        case rel => exact ⟨k + 1, by omega, by go_num, by rw [upto_succ]; exact hJ3, hnx.trans hk3⟩
        case measure => simp [intOf]; omega
      · gi_wp2
        refine bodyPost_ret (results_none rfl _ _ _) rfl ?_
        exact ⟨⟨_, rfl⟩, .inr ⟨_, ⟨k + 1, by omega, (upto_succ _ _).symm⟩, hJx3⟩⟩
    · obtain rfl : k = len := by omega
      have hki : ¬ (k : Int) < (k : Int) := by omega
      gi_wp2
      go_end0
      exact ⟨⟨_, rfl⟩, .inl hJs⟩

set_option maxRecDepth 100000 in
set_option maxHeartbeats 1000000 in
theorem values1_nil_in (n : Nat) (l Bs : Nat) (a : Option Addr) (c : Nat) (J : List Int → World → Prop) (W : World) (hBs : W.cell? ⟨Bs, 0, none⟩ = some (.slice a 0 c)) (h0 : J [] W) :
    CallsIn Fence.wide n Try.prog 95 #[.func (.yield l) #[] #[], .pointer (some ⟨Bs, 0, none⟩)] W fun e W' => (∃ v, e = .returned v) ∧ J [] W' := by
  refine callsIn_of_wp Try.func95 rfl trivial ?_ rfl
  simp only [Try.ntmps95, List.size_toArray, List.length_cons, List.length_nil, Nat.reduceAdd, Nat.reduceSub, Array.replicate_succ, Array.replicate_zero, List.push_toArray, List.append_toArray, List.nil_append, List.cons_append]
  gi_wp2
  gi_loopw [7] (fun i wr => i = .int .i64 0 ∧ J [] wr) (fun _ _ => 0)
  case atStart => exact ⟨rfl, h0⟩
  case round =>
    obtain ⟨rfl, hJs⟩ := hrel
    gi_wp2
    go_end0
    exact ⟨⟨_, rfl⟩, hJs⟩

theorem values_stops (n : Nat) (hn : 1 ≤ n) (Bs n₀ : Nat) (a : Option Addr) (len c : Nat) (zs : List Int) (hz : zs.length = len) (hreach : len ≤ 1048576) (w : World) (hBs : Bs < w.heap.size)
    (hc : w.cell? ⟨Bs, 0, none⟩ = some (.slice a len c)) (ha : At w a zs) (hlow : ∀ p, a = some p → 0 < len → p.block < n₀) :
    SeqStopsK Fence.wide n Try.prog 95 #[.pointer (some ⟨Bs, 0, none⟩)] (fun x : Int => #[Value.int .i64 x]) (Below n₀) (fun ys => ys = zs) (fun pre => pre <+: zs) len w := fun l J Jx W hW _ _ hY h0 => by
  have hc' := (hW.cell (p := ⟨Bs, 0, none⟩) hBs).trans hc
  by_cases h00 : len = 0
  · subst h00
    obtain rfl := List.eq_nil_of_length_eq_zero hz
    exact (values1_nil_in n l Bs a c J W hc' h0).mono fun e W' ⟨he, hj⟩ => ⟨he, .inl ⟨_, rfl, hj⟩⟩
  · obtain ⟨b, off, rfl, hb, hcs⟩ := ha.some (by omega)
    have hcs' : ∀ j, j < len → W.cell? ⟨b, off + j, none⟩ = some (.int .i64 (zs[j]?.getD 0)) := fun j hj => (hW.cell (p := ⟨b, off + j, none⟩) hb).trans ((hcs j (by omega)).trans (by rw [List.getD_eq_getElem?_getD]))
    refine (values1_in n hn l Bs n₀ b off len c zs hreach (hlow _ rfl (by omega)) J Jx hY W hc' hcs' h0).mono ?_
    rintro e W' ⟨he, ⟨ys, rfl, hj⟩ | ⟨pre, ⟨k, hk, rfl⟩, hj⟩⟩
    · exact ⟨he, .inl ⟨_, by rw [← hz]; exact upto_all zs, hj⟩⟩
    · exact ⟨he, .inr ⟨_, by rw [upto_take zs (by omega)]; exact List.take_prefix _ _, hj⟩⟩

set_option maxRecDepth 100000 in
set_option maxHeartbeats 2000000 in
/-- slices.AppendSeq of the nil slice and slices.Values. -/
theorem appendSeq_in (n : Nat) (hn : 3 ≤ n) (Bs : Nat) (a : Option Addr) (len c : Nat) (zs : List Int) (hz : zs.length = len) (hlen : len ≤ 1048576) (w : World) (hBs : Bs < w.heap.size) (hcB : w.cell? ⟨Bs, 0, none⟩ = some (.slice a len c)) (ha : At w a zs) :
    CallsIn Fence.wide n Try.prog 99 #[.slice none 0 0, .func (.func 95) #[] #[.pointer (some ⟨Bs, 0, none⟩)]] w fun e W' =>
      ∃ v, e = .returned v ∧ W'.ownsRow w.heap.size 3 1 v len (zs.map (Value.int .i64)) ∧ (v = .slice none 0 0 ↔ zs = []) ∧ Below w.heap.size w W' := by
  have h1 : 1 ≤ n := by omega
  obtain ⟨i0, hi, hz0, hz1, hz2⟩ := info_parts Try.infoInt
  have hlow : ∀ p, a = some p → 0 < len → p.block < w.heap.size := fun p hp h0 => by
    obtain ⟨b, off, e, hb, _⟩ := ha.some (by omega)
    rw [hp] at e; cases e; exact hb
  refine callsIn_of_wp_marks Try.func99 rfl trivial ?_ rfl
  simp only [Try.ntmps99, List.size_toArray, List.length_cons, List.length_nil, Nat.reduceAdd, Nat.reduceSub, Array.replicate_succ, Array.replicate_zero, List.push_toArray, List.append_toArray, List.nil_append, List.cons_append]
  gi_wp2
  have bO := Boxed.new w 22 (.slice none 0 0)
  have hB0 : Below w.heap.size w (w.alloc (.cells #[.slice none 0 0] 22)) := (Below.refl _ w).alloc (Nat.le_refl _) _
  refine wpIn_rangeFunc_ownG rfl h1 (gf := 95) (lb := #[.pointer (some ⟨Bs, 0, none⟩)]) rfl trivial (enters_of Try.func95 (by kernel_rfl) rfl)
    (values_stops (n - 1) (by omega) Bs w.heap.size a len c zs hz hlen _ (by simp; omega) (cell_later hB0 hcB) (ha.below hB0) hlow) belowK_t (belowK_b (by simp)) (Below.refl _ _) (fun _ => rfl)
    (fun pre W => (∃ v, Boxed W w.heap.size 22 v ∧ W.ownsRow w.heap.size 3 1 v pre.length (pre.map (Value.int .i64)) ∧ (v = .slice none 0 0 ↔ pre = [])) ∧ Below w.heap.size w W)
    (fun _ _ _ => False)
    (OwnFrom.and (Own.from (holdsRow_own w.heap.size w.heap.size 22 3 1 (fun pre => pre.length) (fun pre => pre.map (Value.int .i64)) (fun pre v => v = .slice none 0 0 ↔ pre = [])) _) (ownFrom_below (Nat.le_refl _) (by simp)))
    (fun _ _ _ _ _ hs _ _ => hs)
    ⟨⟨_, bO, World.ownsRow_nil _ _ _ _, by simp⟩, hB0⟩
    (fun x => { tmps := #[.slice none 0 0, .func (.func 95) #[] #[.pointer (some ⟨Bs, 0, none⟩)], .pointer (some ⟨w.heap.size, 0, none⟩), undef, .slice none 0 0, .int .i64 x, .func (.func 95) #[] #[.pointer (some ⟨Bs, 0, none⟩)], .int .i64 x, undef, undef, undef, undef, undef], defers := [] }) ?assign ?body ?done ?stop
  case assign =>
    intro l x W K hK
    gi_wp2
    exact hK
  case body =>
    rintro l pre x W ⟨⟨v, hv, hrow, hnil⟩, hB⟩ hlt
    have hc := hv.cell
    gi_wp2_with (gi_at_builtin; refine wpListIn_append_own _ rfl _ _ 22 rfl w.heap.size 3 i0 (.int .i64 0) 1 8 Try.underlying22 hi hz0 hz1 hz2 rfl (by decide) _ _ _ rfl (hrow.alloc _) ⟨W.heap.size, 0, none⟩ 1 1 [.int .i64 x] rfl rfl (cell_one_new _ _ _) (by simp [Value.oneCell']) (by unfold maxLen; omega) (by omega) (by have := hB.size; simp; omega) ?_; intro v' w1 hown' hgrow _; obtain ⟨g', cap', rfl⟩ := ownsRow_succ hown'; obtain ⟨hv1, hv2, hr2, hk2, hb2⟩ := hv.appended (by decide) hrow hB.size (Nat.le_refl _) hown' hgrow; have hc1 := hv1.cell; have hf1 := hv1.frozen)
    exact ⟨hk2.from _, hb2, ⟨_, hv2, by simpa using hr2, by simp⟩, hB.trans hb2⟩
  case done =>
    rintro D ys W hD rfl ⟨⟨v, hv, hrow, hnil⟩, hB⟩ hK
    have hc := hv.cell
    gi_wp2
    refine ⟨by simp, .inl ⟨_, _, rfl, run_takeDeferred hK, ?_⟩⟩
    rw [hz] at hrow
    exact ⟨_, results_tmp rfl _ _ _, v, rfl, ownsRow_putObj hrow _ hK rfl, hnil, hB.trans (belowK_b (w := w) (Nat.le_refl _) W D _ _ (by simp at hD; omega) hK rfl rfl)⟩
  case stop =>
    rintro D c pre W _ _ h _
    exact h.elim
end

end Go.Proofs.Yteggbamjfhbmfaa

/- slices.Sorted(slices.Values(l)), slices.Equal at ints, impl.areEachOnce. -/
namespace Go.Proofs.Yteggbamjfhbmfaa
open Go.RowKit

theorem values_any (a : Option Addr) (n c : Nat) (w : World) :
    Calls Try.prog 86 #[.slice a n c] w fun e w' => e = .returned (.func (.func 95) #[] #[.pointer (some ⟨w.heap.size, 0, none⟩)]) ∧ w' = w.alloc (.cells #[.slice a n c] 22) := by
  go_enter Try.func86, Try.ntmps86
  go_wp2
  go_ret
  exact ⟨rfl, rfl⟩

/-- The slices that the sorted list of a function value lies in. -/
theorem sorted_any (Bs : Nat) (a : Option Addr) (n c : Nat) (zs : List Int) (w : World) (hz : zs.length = n) (hn : n ≤ 1048576) (hBs : Bs < w.heap.size) (hcB : w.cell? ⟨Bs, 0, none⟩ = some (.slice a n c)) (ha : At w a zs) :
    Calls Try.prog 85 #[.func (.func 95) #[] #[.pointer (some ⟨Bs, 0, none⟩)]] w fun e w' => ∃ r d, e = .returned (.slice r n d) ∧ w'.ownsRow w.heap.size 3 1 (.slice r n d) n ((srtI zs).map (.int .i64)) ∧ Below w.heap.size w w' := by
  have KA := Hid.mk (appendSeq_in 3 (by omega) Bs a n c zs hz hn w hBs hcB ha)
  have KC : Hid (Calls Try.prog 94 #[.func (.func 95) #[] #[.pointer (some ⟨Bs, 0, none⟩)]] w fun e w' => ∃ r d, e = .returned (.slice r n d) ∧ w'.ownsRow w.heap.size 3 1 (.slice r n d) n (zs.map (.int .i64)) ∧ Below w.heap.size w w') := by
    show Calls _ _ _ _ _
    go_enter Try.func94, Try.ntmps94
    go_wp2_with fail
    refine (callsIn_wide.1 KA.out).mono ?_
    rintro e w1 ⟨v, rfl, ho, _, hb⟩
    obtain ⟨r, d, rfl⟩ : ∃ r d, v = .slice r n d := by
      rcases ho.2 with ⟨h1, h2⟩ | ⟨g, cap, cur, h1, _⟩
      · exact ⟨none, 0, by rw [h1, h2]⟩
      · exact ⟨_, _, h1⟩
    go_wp2
    go_ret
    exact ⟨r, d, rfl, ho, hb⟩
  clear KA
  go_enter Try.func85, Try.ntmps85
  go_wp2_with fail
  refine KC.out.mono ?_
  rintro e w1 ⟨r, d, rfl, ho, hb⟩
  have KS := Hid.mk (sortInts_own w.heap.size r n d zs w1 hz hn hb.size ho)
  have HB := Hid.mk hb
  clear ho hb
  go_wp2_with fail
  refine KS.out.mono ?_
  rintro e w2 ⟨rfl, ho2, hb2⟩
  go_wp2
  go_ret
  exact ⟨r, d, rfl, ho2, HB.out.trans hb2⟩

set_option maxHeartbeats 1000000 in
theorem equalInts_any (a a' : Option Addr) (n n' c c' : Nat) (zs zs' : List Int) (w : World) (hz : zs.length = n) (hz' : zs'.length = n') (hn : n ≤ 1048576) (hn' : n' ≤ 1048576) (ha : At w a zs) (ha' : At w a' zs') :
    Calls Try.prog 84 #[.slice a n c, .slice a' n' c'] w fun e w' => e = .returned (.bool (decide (zs = zs'))) ∧ Below w.heap.size w w' := by
  by_cases hnn : n = n'
  · subst hnn
    by_cases h0 : n = 0
    · subst h0
      obtain rfl := List.eq_nil_of_length_eq_zero hz
      obtain rfl := List.eq_nil_of_length_eq_zero hz'
      go_enter Try.func84, Try.ntmps84
      go_wp2
      refine wp_loop_rounds 1 ?_
      rw [rounds_succ]
      go_wp2
      go_ret
      exact ⟨by simp, Below.refl _ _⟩
    · obtain ⟨b, off, rfl, hb, hc⟩ := ha.some (by omega)
      obtain ⟨b', off', rfl, hb', hc'⟩ := ha'.some (by omega)
      clear ha ha'
      go_enter Try.func84, Try.ntmps84
      go_wp2
      go_loopw [13] (fun i wr => ∃ (k : Nat), k ≤ n ∧ i = .int .i64 k ∧ zs.take k = zs'.take k ∧ Below w.heap.size w wr) (fun i _ => n - (intOf i).toNat)
      case atStart => exact ⟨0, Nat.zero_le _, rfl, rfl, Below.refl _ _⟩
      case round =>
        obtain ⟨k, hk, rfl, ht, hbw⟩ := hrel
        by_cases hlt : k < n
        · have hcx : wr.cell? ⟨b, off + k, none⟩ = some (.int .i64 (zs.getD k 0)) := (hbw.cell hb).trans (hc k (by omega))
          have hcy : wr.cell? ⟨b', off' + k, none⟩ = some (.int .i64 (zs'.getD k 0)) := (hbw.cell hb').trans (hc' k (by omega))
          have HT : Hid (zs.getD k 0 = zs'.getD k 0 → zs.take (k + 1) = zs'.take (k + 1)) := fun e => by
            rw [take_succ_getD zs k (by omega), take_succ_getD zs' k (by omega), ht, e]
          have HN : Hid (zs.getD k 0 ≠ zs'.getD k 0 → zs ≠ zs') := ne_of_getD
          obtain ⟨x, hx⟩ : ∃ x, x = zs.getD k 0 := ⟨_, rfl⟩
          obtain ⟨y, hy⟩ : ∃ y, y = zs'.getD k 0 := ⟨_, rfl⟩
          rw [← hx] at hcx HT HN
          rw [← hy] at hcy HT HN
          clear hx hy ht hc hc'
          go_wp2
          go_quiet (fail)
          go_wp2
          · have hne : x ≠ y := by simpa using ‹(x != y) = true›
            go_ret
            exact ⟨by simp [HN.out hne], below_drewN hbw _⟩
          · have he : x = y := by simpa using ‹(x != y) = false›
            go_roundw
            case rel => exact ⟨k + 1, by omega, by go_num, HT.out he, below_drewN hbw _⟩
            case measure => simp [intOf]; omega
        · go_wp2
          go_ret
          exact ⟨by simp [take_all_eq (by omega) (by omega) ht], hbw⟩
  · go_enter Try.func84, Try.ntmps84
    go_wp2
    go_ret
    exact ⟨by have : zs ≠ zs' := fun e => hnn (by rw [← hz, ← hz', e]); simp [this], Below.refl _ _⟩

theorem srtI_len (l : List Int) : (srtI l).length = l.length := (srtI_perm l).length_eq

set_option maxHeartbeats 1000000 in
theorem eachOnce_any (a : Option Addr) (n c : Nat) (zs : List Int) (m : Nat) (w : World) (hz : zs.length = n) (hn : n ≤ 1048576) (hm : m ≤ 1048576) (ha : At w a zs) :
    Calls Try.prog 64 #[.slice a n c, .int .i64 (m : Nat)] w fun e w' => e = .returned (.bool (eachB zs m)) ∧ Below w.heap.size w w' := by
  obtain ⟨W, hW⟩ : ∃ W, W = w.alloc (.cells #[.slice a n c] 22) := ⟨_, rfl⟩
  have B0 : Below w.heap.size w W := by rw [hW]; exact (Below.refl _ _).alloc (Nat.le_refl _) _
  have q0 : W.cell? ⟨w.heap.size, 0, none⟩ = some (.slice a n c) := by rw [hW]; simp
  have zW : w.heap.size < W.heap.size := by rw [hW]; simp
  have KS := Hid.mk (sorted_any w.heap.size a n c zs W hz hn zW q0 (At.below ha B0))
  have HZ := Hid.mk hz
  clear hz ha
  go_enter Try.func64, Try.ntmps64
  go_wp2_with fail
  refine (values_any a n c w).mono ?_
  rintro e w1 ⟨rfl, hw1⟩
  rw [← hW] at hw1
  obtain rfl := hw1.symm
  clear hw1 hW
  go_wp2_with fail
  refine KS.out.mono ?_
  rintro e w2 ⟨r, d, rfl, ho, hb2⟩
  have KF := Hid.mk (firstNumbers_any m w2 hm)
  have HO := Hid.mk ho
  have B2 := Hid.mk (B0.trans (hb2.mono B0.size))
  clear ho hb2 KS
  go_wp2_with fail
  refine KF.out.mono ?_
  rintro e w3 ⟨r3, d3, rfl, ho3, hb3⟩
  have KE := Hid.mk (equalInts_any r r3 n m d d3 (srtI zs) (upN m) w3 (by rw [srtI_len]; exact HZ.out) (upN_len m) hn hm (At.below (At.owned HO.out) hb3) (At.owned ho3))
  have B3 := Hid.mk (B2.out.trans (hb3.mono B2.out.size))
  clear ho3 hb3 KF HO
  go_wp2_with fail
  refine KE.out.mono ?_
  rintro e w4 ⟨rfl, hb4⟩
  have B4 := Hid.mk (B3.out.trans (hb4.mono B3.out.size))
  clear hb4 KE
  go_wp2
  go_ret
  exact ⟨rfl, B4.out⟩

end Go.Proofs.Yteggbamjfhbmfaa

/- Contract of impl.EdgesOf. -/
namespace Go.Proofs.Yteggbamjfhbmfaa
open Go.RowKit

theorem atQ_one {w : World} {B : Nat} {x : Atm} {va : Option Addr} {vn vc : Nat} (h0 : w.cell? ⟨B, 0, none⟩ = some (.int .i64 x.1)) (h1 : w.cell? ⟨B, 1, none⟩ = some (.slice va vn vc)) (u1 : x.2.length = vn) (u2 : vn ≤ 9223372036854775807) (u3 : At w va x.2) (u4 : va = none → vc = 0) : AtQ w (some ⟨B, 0, none⟩) [x] := by
  refine .inr ⟨B, 0, rfl, fun i y hy => ?_⟩
  match i, hy with
  | 0, hy =>
    obtain rfl : x = y := by simpa using hy
    refine ⟨[.int .i64 x.1, .slice va vn vc], fun j v hv => ?_, [.int .i64 x.1], [.slice va vn vc], rfl, rfl, va, vn, vc, rfl, u1, u2, atSl_int.2 u3, u4⟩
    match j, hv with
    | 0, hv => obtain rfl := Option.some.inj hv; simpa using h0
    | 1, hv => obtain rfl := Option.some.inj hv; simpa using h1
    | j + 2, hv => simp at hv
  | i + 1, hy => simp at hy

set_option maxRecDepth 100000 in
set_option maxHeartbeats 4000000 in
theorem implEdgesOf (ha : Option Addr) (hn hc : Nat) (hs : List Int) (a : Option Addr) (n c : Nat) (zs : List Atm) (ta : Option Addr) (tn tc : Nat) (ts : List Int) (w : World) (hh : hs.length = hn) (hhb : hn ≤ 9223372036854775807) (hat : At w ha hs) (hz : zs.length = n) (hb : n ≤ 9223372036854775807) (haz : AtQ w a zs) (htz : ts.length = tn) (htb : tn ≤ 9223372036854775807) (hta : At w ta ts) :
    Calls Try.prog 41 #[.agg #[.slice ha hn hc, .slice a n c], .slice ta tn tc] w fun e w' => KeysRet e w' w.heap.size (gqB hs zs ts) (edL hs zs ts) ∧ Below w.heap.size w w' := by
  obtain ⟨k0, hk, hx0, hx1, hx2⟩ := info_parts Try.infoInts
  obtain ⟨W, hW⟩ : ∃ W, W = w.alloc (.cells #[.slice ha hn hc, .slice a n c] 32) := ⟨_, rfl⟩
  have B0 : Below w.heap.size w W := by rw [hW]; exact (Below.refl _ _).alloc (Nat.le_refl _) _
  have q0 : W.cell? ⟨w.heap.size, 0, none⟩ = some (.slice ha hn hc) := by rw [hW]; exact pair0 w _ _ _
  have q1 : W.cell? ⟨w.heap.size, 1, none⟩ = some (.slice a n c) := by rw [hW]; exact pair1 w _ _ _
  have zW : w.heap.size < W.heap.size := by rw [hW]; simp
  have HZ := Hid.mk hz
  have HA := Hid.mk haz
  have HC := Hid.mk (implGoodQuery ha hn hc hs a n c zs ta tn tc ts W hh hhb (At.below hat B0) hz hb (AtSl.below haz B0) htz htb (At.below hta B0))
  clear hh hat hz haz htz hta
  go_enter Try.func41, Try.ntmps41
  go_upto_region 1 with fail
  rw [← hW]
  clear hW
  go_wp2_with fail
  refine HC.out.mono ?_
  rintro e w1 ⟨rfl, B1⟩
  have q0 := cell_later B1 q0
  have q1 := cell_later B1 q1
  have BW := B0.trans (B1.mono B0.size)
  have zw1 := B1.size
  cases hg : gqB hs zs ts with
  | false =>
    have HN := Hid.mk (keysRet_none w1 w.heap.size hg (edL_no hg))
    clear hg
    go_wp2
    exact bodyPost_ret (v := .tuple #[.slice none 0 0, .bool false]) (by simp [results, Try.results41, go_sem]) rfl ⟨HN.out, BW⟩
  | true =>
    have HOK := Hid.mk (gq_ok hg)
    have HE := Hid.mk (edL_yes hg)
    have HG := Hid.mk hg
    have hn5 : n ≤ 5 := by have := HOK.out.1; have := HZ.out; omega
    have HBW := Hid.mk BW
    clear hg BW B1
    go_wp2_with fail
    go_loopw [6, 18] (fun p i wr => ∃ (k : Nat) (r : Option Addr) (d : Nat) (cells : List Value) (G : Nat → Nat → Prop), k ≤ n ∧ i = .int .i64 k ∧ p = .slice r k d ∧ Laid RInts wr (From w.heap.size wr.heap.size) 22 r k d (edges (zs.take k)) cells G k ∧ Below w.heap.size w wr) (fun _ i _ => n - (intOf i).toNat)
    case atStart => exact ⟨0, none, 0, [], _, Nat.zero_le _, rfl, rfl, Laid.none _ _ _ _, HBW.out⟩
    case round =>
      clear HBW q0 q1 zw1 HC zW B0
      obtain ⟨k, r, d, cells, G, hk1, rfl, rfl, hlaid, hbw⟩ := hrel
      obtain ⟨wY, rfl⟩ : ∃ x, x = wr := ⟨_, rfl⟩
      by_cases hlt : k < n
      · obtain ⟨x, hx⟩ : ∃ x, zs[k]? = some x := ⟨_, List.getElem?_eq_getElem (by have := HZ.out; omega)⟩
        have HAK : Hid (aOk x = true) := HOK.out.2 x (List.mem_of_getElem? hx)
        have HTK := Hid.mk (edges_take zs k hx)
        obtain ⟨b, off, rfl, _, hc⟩ := AtQ.row HA.out (by have := HZ.out; omega)
        obtain ⟨va, vn, vc, g0, g1, u1, u2, u3, u4⟩ := hc k x hx
        have g0 := cell_later hbw g0
        have g1 := cell_later hbw g1
        have hki : (k : Int) < (n : Int) := by omega
        have zY := hbw.size
        have HV := Hid.mk (At.below u3 hbw)
        have HV4 := Hid.mk u4
        have HV1 := Hid.mk u1
        have HLA := Hid.mk hlaid
        have HB := Hid.mk hbw
        obtain ⟨U, hU⟩ : ∃ U, U = wY.alloc (.cells #[.int .i64 x.1, .slice va vn vc] 76) := ⟨_, rfl⟩
        have BU : Below wY.heap.size wY U := by rw [hU]; exact (Below.refl _ _).alloc (Nat.le_refl _) _
        have p0 : U.cell? ⟨wY.heap.size, 0, none⟩ = some (.int .i64 x.1) := by rw [hU]; exact pair0 wY _ _ _
        have p1 : U.cell? ⟨wY.heap.size, 1, none⟩ = some (.slice va vn vc) := by rw [hU]; exact pair1 wY _ _ _
        have zU : wY.heap.size < U.heap.size := by rw [hU]; simp
        clear hlaid hbw hc u1 u3 u4 hx
        go_upto_region 7 with fail
        rw [← hU]
        clear hU g0 g1
        obtain ⟨V, hV⟩ : ∃ V, V = U.alloc (.cells #[.int .i64 x.1, .slice va vn vc] 76) := ⟨_, rfl⟩
        have BV : Below U.heap.size U V := by rw [hV]; exact (Below.refl _ _).alloc (Nat.le_refl _) _
        have v0 : V.cell? ⟨U.heap.size, 0, none⟩ = some (.int .i64 x.1) := by rw [hV]; exact pair0 U _ _ _
        have v1 : V.cell? ⟨U.heap.size, 1, none⟩ = some (.slice va vn vc) := by rw [hV]; exact pair1 U _ _ _
        have hone : AtQ V (some ⟨U.heap.size, 0, none⟩) [x] := atQ_one v0 v1 HV1.out u2 (At.below (At.below HV.out BU) BV) HV4.out
        have HC2 := Hid.mk (implVarsIn none 0 0 (some ⟨U.heap.size, 0, none⟩) 1 1 [x] V rfl (by omega) hone)
        rw [(qv_one HAK.out).1, (qv_one HAK.out).2] at HC2
        have zV := BV.size
        clear v0 v1 hone
        go_wp2_with fail
        rw [← hV]
        refine HC2.out.mono ?_
        rintro e w2 ⟨⟨r2, m2, d2, rfl, hl2, ho2⟩, hb2⟩
        have HOI : Hid (RInts.Own w2 (From wY.heap.size w2.heap.size) [.slice r2 m2 d2] (edge x)) := RInts.mono (RInts.of_owns hl2 (by have := bl_len (mk x.2); have : (edge x).length ≤ 6 := this; omega) ho2) (fun b h => ⟨by have := h.1; omega, h.2⟩)
        have HB2 : Hid (Below wY.heap.size wY w2) := BU.trans ((BV.mono (by omega)).trans (hb2.mono (by omega)))
        have HW4 : Hid (w2.ownsRow w.heap.size 22 1 (.slice r k d) k cells) := HLA.out.base HB2.out
        have z2 := HB2.out.size
        clear hl2 ho2 hb2 HC2
        go_wp2_with (at_builtin; refine wpList_app_vals rfl (.tmp 29) (.tmp 31) 48 rfl w.heap.size 22 k0 (.slice none 0 0) 1 24 Try.underlying48 hk hx0 hx1 hx2 rfl (by decide) (.slice r k d) k cells rfl (HW4.out.alloc _) (some ⟨w2.heap.size, 0, none⟩) 1 1 [.slice r2 m2 d2] rfl rfl (fun ad he => by cases he; simpa using news_at w2 #[.slice r2 m2 d2] 22) (by simp; rfl) (fun h => by cases h) (by unfold maxLen; omega) (by omega) (by simp; omega) ?_)
        intro r4 d4 w5 ho4 hg4 ht4
        obtain ⟨G', HL'⟩ : ∃ G', Hid (Laid RInts w5 (From w.heap.size w5.heap.size) 22 r4 (k + 1) d4 (edges (zs.take (k + 1))) (cells ++ [.slice r2 m2 d2]) G' (k + 1)) := by
          rw [HTK.out]
          obtain ⟨G', h⟩ := HLA.out.told zY HB2.out HOI.out ho4 hg4 (by omega) ht4
          exact ⟨G', Hid.mk h⟩
        have HB5 := Hid.mk (HLA.out.told_below HB.out zY HB2.out hg4)
        clear ho4 hg4 ht4 HLA HB HB2 HW4 HOI
        go_wp2
        go_roundw
        case rel => exact ⟨k + 1, r4, d4, _, G', by omega, by go_num, rfl, HL'.out, HB5.out⟩
        case measure => simp [intOf]; omega
      · obtain rfl : k = n := by omega
        rw [List.take_of_length_le (by have := HZ.out; omega), ← HE.out] at hlaid
        have HR : Hid (KeysRet (.returned (.tuple #[.slice r k d, .bool true])) wY w.heap.size (gqB hs zs ts) (edL hs zs ts)) := by
          show KeysRet _ _ _ _ _
          rw [HG.out]
          exact ⟨r, k, d, rfl, _, _, _, cells, G, rfl, hlaid⟩
        have HB := Hid.mk hbw
        have hki : ¬ (k : Int) < (k : Int) := by omega
        clear hlaid hbw
        go_wp2
        exact bodyPost_ret (v := .tuple #[.slice r k d, .bool true]) (by simp [results, Try.results41, go_sem]) rfl ⟨HR.out, HB.out⟩

end Go.Proofs.Yteggbamjfhbmfaa

/- Plain: all ears, one behind the other; ears in memory. -/
namespace Go.Proofs.Yteggbamjfhbmfaa
open Go.RowKit

def earsF (E : List (List Int)) : Nat → List Int → List (Int × Int) × Bool
  | 0, _ => ([], false)
  | f + 1, L => if L.length ≤ 1 then ([(L.getD 0 0, -1)], true) else match earO E L with
    | none => ([], false)
    | some ku => (ku :: (earsF E f (woI L ku.1)).1, (earsF E f (woI L ku.1)).2)
theorem earsF_end {E : List (List Int)} {f : Nat} {L : List Int} (h : L.length ≤ 1) : earsF E (f + 1) L = ([(L.getD 0 0, -1)], true) := by rw [earsF, if_pos h]
theorem earsF_none {E : List (List Int)} {f : Nat} {L : List Int} (h : ¬ L.length ≤ 1) (h2 : earO E L = none) : earsF E (f + 1) L = ([], false) := by rw [earsF, if_neg h, h2]
theorem earsF_some {E : List (List Int)} {f : Nat} {L : List Int} {ku : Int × Int} (h : ¬ L.length ≤ 1) (h2 : earO E L = some ku) : earsF E (f + 1) L = (ku :: (earsF E f (woI L ku.1)).1, (earsF E f (woI L ku.1)).2) := by rw [earsF, if_neg h, h2]
theorem earO_mem {E : List (List Int)} {L : List Int} {ku : Int × Int} (h : earO E L = some ku) : ku.1 ∈ L := by
  unfold earO at h
  cases hf : L.find? fun k => decide (upI E L k ≠ -1) with
  | none => rw [hf] at h; simp at h
  | some k => rw [hf] at h; simp at h; subst h; exact List.mem_of_find?_eq_some hf
theorem woI_nodup {L : List Int} (h : L.Nodup) (x : Int) : (woI L x).Nodup := h.filter _
theorem woI_lenN : ∀ {L : List Int}, L.Nodup → ∀ {x : Int}, x ∈ L → (woI L x).length + 1 = L.length
  | [], _, x, h => by cases h
  | y :: L, hn, x, h => by
    rw [List.nodup_cons] at hn
    by_cases e : y = x
    · subst e
      have : woI (y :: L) y = L := by
        unfold woI
        rw [List.filter_cons_of_neg (by simp), List.filter_eq_self.2]
        intro a ha
        exact decide_eq_true (fun e => hn.1 (e ▸ ha))
      rw [this, List.length_cons]
    · have h2 : x ∈ L := by
        rcases List.mem_cons.1 h with h | h
        · exact absurd h.symm e
        · exact h
      have h3 := woI_lenN hn.2 h2
      have : woI (y :: L) x = y :: woI L x := by unfold woI; rw [List.filter_cons_of_pos (by simpa using e)]
      rw [this, List.length_cons, List.length_cons, h3]
theorem woI_atoms {E : List (List Int)} {L : List Int} (h : Atoms E L) (x : Int) : Atoms E (woI L x) := fun o ho => h o (mem_woI.1 ho).1
theorem upN_nodup (n : Nat) : (upN n).Nodup := by
  unfold upN
  exact List.pairwise_map.2 (List.Pairwise.imp (fun {a b} h e => h (by omega)) (List.nodup_range (n := n)))
theorem upN_atoms {E : List (List Int)} {n : Nat} (h : E.length = n) : Atoms E (upN n) := fun o ho => by
  unfold upN at ho
  obtain ⟨i, hi, rfl⟩ := List.mem_map.1 ho
  rw [List.mem_range] at hi
  exact ⟨by omega, by omega⟩

def flatE (l : List (Int × Int)) : List Value := l.flatMap fun x => [.int .i64 x.1, .int .i64 x.2]
theorem flatE_snoc (l : List (Int × Int)) (x : Int × Int) : flatE (l ++ [x]) = flatE l ++ [.int .i64 x.1, .int .i64 x.2] := by simp [flatE]
theorem Try.infoEar : (Try.prog.info? 71).map (fun i => (i.zero, i.size, i.bytes)) = some (some (.agg #[.int .i64 0, .int .i64 0]), 2, 16) := by kernel_rfl
/-- Ears that are told, whether all were taken, and whether. -/
def EarRet (e : Ending) (w' : World) (lo : Nat) (all ok : Bool) (ears : List (Int × Int)) : Prop := ∃ r m d, e = .returned (.tuple #[.slice r m d, .bool all, .bool ok]) ∧ ears.length = m ∧ w'.ownsRow lo 71 2 (.slice r m d) m (flatE ears)

end Go.Proofs.Yteggbamjfhbmfaa
