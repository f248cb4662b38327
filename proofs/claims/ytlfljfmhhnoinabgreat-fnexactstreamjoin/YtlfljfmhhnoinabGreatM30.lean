/- Several texts of one proof, in build order: NewT, AddT, SpecA, OfW, DDX, StrOf. -/
import Derived.Test.YtlfljfmhhnoinabGreatM29
import Derived.Test.YtlfljfmhhnoinabGreatM10
import Derived.Test.YtlfljfmhhnoinabGreatM9
import Derived.Test.YtlfljfmhhnoinabGreatM13
import Derived.Test.YtlfljfmhhnoinabGreatM17
import Derived.Test.YtlfljfmhhnoinabGreatM8
import Derived.Test.YtlfljfmhhnoinabGreatM4
import Derived.Test.YtlfljfmhhnoinabGreatM11
import Derived.Test.YtlfljfmhhnoinabGreatM26
import Derived.Test.YtlfljfmhhnoinabGreatM20
import Derived.Test.YtlfljfmhhnoinabGreatM14
import Derived.Maps.OwnIn

/- Contracts of impl.NewTable, impl.AddTables, impl.ScaleTable, impl.NegateTable, impl.EmptyTable. -/
namespace Go.Proofs.YtlfljfmhhnoinabGreat
open Go.RowKit Go.Maps

end Go.Proofs.YtlfljfmhhnoinabGreat

/- Contracts of impl.goodAlike, impl.AddTables, impl.ScaleTable, impl.NegateTable, impl.EmptyTable. -/
namespace Go.Proofs.YtlfljfmhhnoinabGreat
open Go.RowKit Go.Maps

/-- What AddTables tells. -/
def addB (p : Int) (ts : List WRow) (p' : Int) (ts' : List WRow) : Bool := alike p ts p' ts' && goodT p (putAll ts ts')
theorem addB_no {p : Int} {ts : List WRow} {p' : Int} {ts' : List WRow} (h : alike p ts p' ts' = false) : addB p ts p' ts' = false := by simp [addB, h]
theorem addB_yes {p : Int} {ts : List WRow} {p' : Int} {ts' : List WRow} (h : alike p ts p' ts' = true) : addB p ts p' ts' = goodT p (putAll ts ts') := by simp [addB, h]
theorem sumAt_bound {ts : List WRow} {p : Int} (h : goodT p ts = true) {n : Nat} (hn : ts.length = n) (x : List Int) : -1000000000000 ≤ sumAt ts n 1 x ∧ sumAt ts n 1 x ≤ 1000000000000 := by
  have h60 := goodT_len60 h
  have key : ∀ k, k ≤ n → -1000000 * (k : Int) ≤ sumAt ts k 1 x ∧ sumAt ts k 1 x ≤ 1000000 * (k : Int) := by
    intro k hk
    induction k with
    | zero => simp [sumAt_zero]
    | succ k ih =>
      have hi := ih (by omega)
      have hg := goodT_cells h k (by omega)
      rw [sumAt_succ ts k 1 x (by omega)]
      by_cases e : raised (wat ts k).1 = x
      · rw [if_pos e]; push_cast; omega
      · rw [if_neg e]; push_cast; omega
  have := key n (Nat.le_refl _)
  omega
theorem tells_add {q n n' : Nat} {ts ts' : List WRow} (hz : ts.length = n) (hz' : ts'.length = n') (h : goodT q ts = true) (h' : goodT q ts' = true) : Tells q (fun x => sumAt ts n 1 x + sumAt ts' n' 1 x) (putAll ts ts') :=
  tells_put (goodT_rises h) (goodT_noZero h) (goodT_mem h) (goodT_mem h') fun zs h1 _ => by
    rw [sumAt_sumW hz 1 (fun t ht => (goodT_mem h t ht).1) h1, sumAt_sumW hz' 1 (fun t ht => (goodT_mem h' t ht).1) h1, sumW_rises (goodT_rises h)]; omega

end Go.Proofs.YtlfljfmhhnoinabGreat

/- Contracts of spec.l2Add and spec.l2Scale. -/
namespace Go.Proofs.YtlfljfmhhnoinabGreat
open Go.RowKit

theorem wrap64_in {v : Int} (h1 : -9223372036854775808 ≤ v) (h2 : v ≤ 9223372036854775807) : wrap64 v = v := by unfold wrap64; omega

/-- Weights that were put stay within their sum. -/
theorem putAll_ok {ts l : List WRow} {M0 M : Int} (h0 : 0 ≤ M0) (hM : 0 ≤ M) (hr : Rises ts) (ht : ∀ t ∈ ts, t.1.length ≤ 6 ∧ -M0 ≤ t.2 ∧ t.2 ≤ M0) (hl : ∀ t ∈ l, t.1.length ≤ 6 ∧ -M ≤ t.2 ∧ t.2 ≤ M) :
    ∀ t ∈ putAll ts l, t.1.length ≤ 6 ∧ -(M0 + M * l.length) ≤ t.2 ∧ t.2 ≤ M0 + M * l.length := fun t h => by
  have h6 : t.1.length ≤ 6 := by
    rcases putAll_rows h with ⟨s, hs, e⟩ | ⟨s, hs, e⟩
    · rw [← e]; exact (ht s hs).1
    · rw [← e]; exact (hl s hs).1
  have hw := wOf_mem (putAll_rises (l := l) hr) h
  rw [putAll_wOf t.1 hr] at hw
  have b1 := wOf_bound (zs := t.1) h0 (fun s hs => (ht s hs).2)
  have b2 := sumW_bound (zs := t.1) hM (fun s hs => (hl s hs).2)
  omega

theorem mem_of_at {ts : List WRow} {Q : WRow → Prop} (h : ∀ k, k < ts.length → Q (wat ts k)) : ∀ t ∈ ts, Q t := fun t ht => by
  obtain ⟨k, hk, rfl⟩ := List.getElem_of_mem ht
  have := h k hk
  rwa [show wat ts k = ts[k] by simp [wat, List.getD, hk]] at this

set_option maxRecDepth 100000 in
set_option maxHeartbeats 4000000 in
theorem l2Add_gen (a a' : Option Addr) (n n' c c' : Nat) (ts ts' : List WRow) (w : World) (hz : ts.length = n) (hz' : ts'.length = n') (hn : n ≤ 500000) (hn' : n' ≤ 500000) (hF : Formed a n c)
    (hgo : ∀ k, k ≤ n' → ∀ t ∈ putAll ts (ts'.take k), t.1.length ≤ 6 ∧ -4000000000000000000 ≤ t.2 ∧ t.2 ≤ 4000000000000000000) (hg' : ∀ t ∈ ts', t.1.length ≤ 6 ∧ -4000000000000000000 ≤ t.2 ∧ t.2 ≤ 4000000000000000000) (ha : AtM w a ts) (ha' : AtM w a' ts') :
    Calls Tryz.prog 21 #[.slice a n c, .slice a' n' c'] w fun e w' => ∃ r k d, e = .returned (.slice r k d) ∧ (putAll ts ts').length = k ∧ Formed r k d ∧ AtM w' r (putAll ts ts') ∧ Below w.heap.size w w' := by
  go_enter Tryz.func21, Tryz.ntmps21
  go_wp2
  go_loopw [5, 11] (fun o i wr => ∃ (k : Nat) (r : Option Addr) (m d : Nat), k ≤ n' ∧ i = .int .i64 k ∧ o = .slice r m d ∧ (putAll ts (ts'.take k)).length = m ∧ Formed r m d ∧ AtM wr r (putAll ts (ts'.take k)) ∧ Below w.heap.size w wr) (fun _ i _ => n' - (intOf i).toNat)
  case atStart => exact ⟨0, a, n, c, Nat.zero_le _, rfl, rfl, hz, hF, ha, Below.refl _ _⟩
  case round =>
    obtain ⟨k, r, m, d, hk, rfl, rfl, hm, hFr, har, hbw⟩ := hrel
    by_cases hlt : k < n'
    · obtain ⟨b, off, rfl, hc⟩ := (ha'.below hbw).some (by omega)
      obtain ⟨q, dd, hcx, hwx, hm1, hnil, hat⟩ := hc k (by omega)
      have hgk := at_of_mem hg' k (by omega)
      have HS := Hid.mk (putAll_take ts ts' k (by omega))
      have hki : (k : Int) < (n' : Int) := by omega
      have hml : m ≤ n + k := by have := putAll_len (ts'.take k) ts; rw [List.length_take] at this; omega
      have hok : ∀ j, j < m → (wat (putAll ts (ts'.take k)) j).1.length ≤ 6 ∧ -4000000000000000000 ≤ (wat (putAll ts (ts'.take k)) j).2 ∧ (wat (putAll ts (ts'.take k)) j).2 ≤ 4000000000000000000 := fun j hj => at_of_mem (hgo k hk) j (show j < (putAll ts (ts'.take k)).length by omega)
      generalize wat ts' k = Y at *
      obtain ⟨ys, x⟩ := Y
      simp only at hcx hwx hat hm1 hgk HS
      obtain ⟨m2, hmm⟩ : ∃ m2, ys.length = m2 := ⟨_, rfl⟩
      rw [hmm] at hcx hm1 hgk
      have HM := Hid.mk hmm
      obtain ⟨h6, hx1, hx2⟩ := hgk
      obtain ⟨V, hV⟩ : ∃ V, V = wr.alloc (.cells #[.slice q m2 dd, .int .i64 x] 78) := ⟨_, rfl⟩
      have hbV : Below wr.heap.size wr V := by rw [hV]; exact (Below.refl _ _).alloc (Nat.le_refl _) _
      have B1 := hbw.trans (hbV.mono hbw.size)
      clear hmm hc
      go_wp2_with fail
      rw [← hV]
      clear hV hcx hwx
      refine (l2Put_any _ _ _ _ _ _ (putAll ts (ts'.take k)) ys x _ hm HM.out (by omega) hFr h6 hnil hok (by omega) (by omega) (har.below hbV) (hat.below hbV)).mono ?_
      rintro e w2 ⟨r2, m3, d2, rfl, hm3, hF2, ha2, hb2⟩
      rw [← HS.out] at hm3 ha2
      have HM3 := Hid.mk hm3
      have HF2 := Hid.mk hF2
      have HA2 := Hid.mk ha2
      have HB := Hid.mk (B1.trans (hb2.mono B1.size))
      clear hm3 hF2 ha2 hb2 B1 hbw har hm hFr hok hat hbV
      go_wp2
      go_roundw
      case rel => exact ⟨k + 1, _, _, _, by omega, by go_num, rfl, HM3.out, HF2.out, HA2.out, HB.out⟩
      case measure => simp [intOf]; omega
    · obtain rfl : k = n' := by omega
      rw [wtake_all' ts' hz'] at hm har
      go_wp2
      go_ret
      exact ⟨_, _, _, rfl, hm, hFr, har, hbw⟩

theorem l2Add_any (a a' : Option Addr) (n n' c c' : Nat) (ts ts' : List WRow) (w : World) (hz : ts.length = n) (hz' : ts'.length = n') (hn : n ≤ 2048) (hn' : n' ≤ 2048) (hF : Formed a n c) (hr : Rises ts)
    (hg : ∀ t ∈ ts, t.1.length ≤ 6 ∧ -1000000 ≤ t.2 ∧ t.2 ≤ 1000000) (hg' : ∀ t ∈ ts', t.1.length ≤ 6 ∧ -1000000 ≤ t.2 ∧ t.2 ≤ 1000000) (ha : AtM w a ts) (ha' : AtM w a' ts') :
    Calls Tryz.prog 21 #[.slice a n c, .slice a' n' c'] w fun e w' => ∃ r k d, e = .returned (.slice r k d) ∧ (putAll ts ts').length = k ∧ Formed r k d ∧ AtM w' r (putAll ts ts') ∧ Below w.heap.size w w' := by
  refine l2Add_gen a a' n n' c c' ts ts' w hz hz' (by omega) (by omega) hF (fun k hk t ht => ?_) (fun t ht => by have := hg' t ht; omega) ha ha'
  have := putAll_ok (M0 := 1000000) (M := 1000000) (by omega) (by omega) hr hg (fun t ht => hg' t (List.mem_of_mem_take ht)) t ht
  rw [List.length_take] at this
  refine ⟨this.1, ?_, ?_⟩ <;> omega


theorem scaleW_take (ts : List WRow) (t : Int) (k : Nat) (h : k < ts.length) (ht : t ≠ 0) : scaleW (ts.take (k + 1)) t = scaleW (ts.take k) t ++ [((wat ts k).1, t * (wat ts k).2)] := by
  unfold scaleW
  rw [if_neg ht, if_neg ht, wtake_succ ts k h, List.map_append]
  rfl
theorem scaleW_len (ts : List WRow) (t : Int) (ht : t ≠ 0) : (scaleW ts t).length = ts.length := by unfold scaleW; rw [if_neg ht, List.length_map]

end Go.Proofs.YtlfljfmhhnoinabGreat

/- Contract of spec.l2Of, and what sums of a table's own rows are. -/
namespace Go.Proofs.YtlfljfmhhnoinabGreat
open Go.RowKit Go.Maps

theorem sumAt_wOf {ts : List WRow} {zs : List Int} (hg : ∀ t ∈ ts, good t.1 = true) (hz : good zs = true) (hr : Rises ts) : sumAt ts ts.length 1 (raised zs) = wOf ts zs := by
  unfold sumAt
  rw [List.take_length]
  induction ts with
  | nil => rfl
  | cons t ts ih =>
    obtain ⟨h1, h2⟩ := List.pairwise_cons.1 hr
    rw [List.map_cons, List.sum_cons, ih (fun s hs => hg s (by simp [hs])) h2, wOf_cons]
    by_cases e : t.1 = zs
    · rw [if_pos (by rw [e]), if_pos e, wOf_absent (fun s hs => by rw [← e]; exact (cmp_ne (h1 s hs)).symm)]; omega
    · rw [if_neg (fun h => e (raised_inj (hg t (by simp)) hz h)), if_neg e]; omega
theorem goodT_rows {p : Int} {ts : List WRow} (h : goodT p ts = true) : ∀ t ∈ ts, good t.1 = true := fun t ht => by
  obtain ⟨k, hk, rfl⟩ := List.getElem_of_mem ht
  have := (goodW_cells (stepB_good ((goodT_parts h).2.2 k hk))).1
  simpa [wat, List.getD, hk] using this

end Go.Proofs.YtlfljfmhhnoinabGreat

/- Contracts of impl.DistinctDelta and spec.DistinctDelta. -/
namespace Go.Proofs.YtlfljfmhhnoinabGreat
open Go.RowKit Go.Maps

theorem ddB_no {p : Int} {ts : List WRow} {p' : Int} {us : List WRow} (h : addB p ts p' us = false) : ddB p ts p' us = false := by
  unfold addB at h
  unfold ddB
  cases ha : alike p ts p' us with
  | false => rfl
  | true => rw [ha] at h; simp at h; simp [h]
theorem ddB_yes {p : Int} {ts : List WRow} {p' : Int} {us : List WRow} (h : addB p ts p' us = true) : ddB p ts p' us = goodT p (ddW ts us) := by
  unfold addB at h
  unfold ddB
  simp only [Bool.and_eq_true] at h
  simp [h.1, h.2]
theorem ddB_goodT {p : Int} {ts : List WRow} {p' : Int} {us : List WRow} (h : ddB p ts p' us = true) : goodT p (ddW ts us) = true := by
  simp only [ddB, Bool.and_eq_true] at h
  exact h.2.2
theorem addB_parts {p : Int} {ts : List WRow} {p' : Int} {us : List WRow} (h : addB p ts p' us = true) : goodT p ts = true ∧ goodT p' us = true ∧ p = p' ∧ goodT p (putAll ts us) = true := by
  unfold addB at h
  simp only [Bool.and_eq_true] at h
  have := alike_parts h.1
  exact ⟨this.1, this.2.1, this.2.2, h.2⟩
/-- A map that tells a list, told as a table. -/
theorem cnt_table (b q M : Nat) (xs : List WRow) (w : World) (hx : Cnt w b q M xs) (hM : M ≤ 1000000) (h6 : q ≤ 6) :
    Calls Tryz.prog 51 #[.map (some b), .int .i64 q] w fun e w' => TabRet e w' w.heap.size (goodT q xs) (tellP q xs) (tellT q xs) ∧ Below w.heap.size w w' := by
  obtain ⟨cnt, D, f, S, hown, hm, hS, hT, hcM⟩ := hx
  refine (table_any b cnt D f S q w (by omega) h6 hown hm hS).mono ?_
  rintro e w' ⟨us, h1, h2, h3⟩
  rw [← h2.unique hT]
  exact ⟨h1, h3⟩

end Go.Proofs.YtlfljfmhhnoinabGreat

/- Contract of impl.streamOf: whatever function hands out the maps. -/
namespace Go.Proofs.YtlfljfmhhnoinabGreat
open Go.RowKit Go.Shelf Go.Maps

/-- What the range's body finds: the columns, the result's two variables, the stream so far. -/
structure Strm (w : World) (q : Nat) (xss : List (List WRow)) (k : Nat) (W : World) : Prop where
  col : W.heap[w.heap.size]? = some (.cells #[.int .i64 q] 3 (0, 0))
  res : W.heap[w.heap.size + 1]? = some (.cells #[.int .i64 0, .slice none 0 0] 30 (0, 0))
  flag : W.heap[w.heap.size + 1 + 1]? = some (.cells #[.bool false] 4 (0, 0))
  var : ∃ r d cells L H, W.heap[w.heap.size + 1 + 1 + 1]? = some (.cells #[.int .i64 q, .slice r k d] 30 (0, 0)) ∧ OwnUk W (w.heap.size + 6) W.heap.size r k d (tabsOf q xss k) cells L H k
  good : ∀ j, j < k → goodT q (lat xss j) = true
  low : Below w.heap.size w W
  size : w.heap.size + 4 ≤ W.heap.size
/-- What is left behind where a table is refused. -/
structure StrmX (w : World) (q : Nat) (xss : List (List WRow)) (k : Nat) (W : World) : Prop where
  res : W.heap[w.heap.size + 1]? = some (.cells #[.int .i64 0, .slice none 0 0] 30 (0, 0))
  flag : W.heap[w.heap.size + 1 + 1]? = some (.cells #[.bool false] 4 (0, 0))
  bad : goodT q (lat xss k) = false
  low : Below w.heap.size w W
  size : w.heap.size + 4 ≤ W.heap.size
section
variable {w A B : World} {q : Nat} {xss : List (List WRow)} {k : Nat}
theorem Strm.keep (h : Strm w q xss k A) (hb : Below A.heap.size A B) : Strm w q xss k B := by
  have z := h.size
  obtain ⟨r, d, cells, L, H, h1, h2⟩ := h.var
  exact ⟨(hb.block _ (by omega)).trans h.col, (hb.block _ (by omega)).trans h.res, (hb.block _ (by omega)).trans h.flag, ⟨r, d, cells, L, H, (hb.block _ (by omega)).trans h1, (h2.below hb).widen (Nat.le_refl _) hb.size (Nat.le_refl _)⟩, h.good, h.low.trans (hb.mono h.low.size), Nat.le_trans z hb.size⟩
theorem StrmX.keep (h : StrmX w q xss k A) (hb : Below A.heap.size A B) : StrmX w q xss k B := by
  have z := h.size
  exact ⟨(hb.block _ (by omega)).trans h.res, (hb.block _ (by omega)).trans h.flag, h.bad, h.low.trans (hb.mono h.low.size), Nat.le_trans z hb.size⟩
theorem Strm.turn (h : Strm w q xss k A) (hT : Turned (w.heap.size + 4 + 1) A B) : Strm w q xss k B := by
  have z := h.size
  have zs := hT.size
  have hk : ∀ j, j < A.heap.size → j ≠ w.heap.size + 4 + 1 → B.heap[j]? = A.heap[j]? := fun j hj hne => hT.grown.block j hj (fun e => hne (by simpa using e))
  obtain ⟨r, d, cells, L, H, h1, h2⟩ := h.var
  exact ⟨(hk _ (by omega) (by omega)).trans h.col, (hk _ (by omega) (by omega)).trans h.res, (hk _ (by omega) (by omega)).trans h.flag, ⟨r, d, cells, L, H, (hk _ (by omega) (by omega)).trans h1, by rw [zs]; exact h2.kept hT.grown (fun j hj => by simp at hj; omega)⟩, h.good, h.low.trans (hT.below (by omega)), by omega⟩
theorem StrmX.turn (h : StrmX w q xss k A) (hT : Turned (w.heap.size + 4 + 1) A B) : StrmX w q xss k B := by
  have z := h.size
  have zs := hT.size
  have hk : ∀ j, j < A.heap.size → j ≠ w.heap.size + 4 + 1 → B.heap[j]? = A.heap[j]? := fun j hj hne => hT.grown.block j hj (fun e => hne (by simpa using e))
  exact ⟨(hk _ (by omega) (by omega)).trans h.res, (hk _ (by omega) (by omega)).trans h.flag, h.bad, h.low.trans (hT.below (by omega)), by omega⟩
end

attribute [local go_sem] Oper.semAt_some in
set_option maxRecDepth 100000 in
set_option maxHeartbeats 8000000 in
theorem streamOf_any (gf : Nat) (lb : Array Value) (q M : Nat) (xss : List (List WRow)) (w : World) (eg : ∀ args w, (callFunc gf args).run Tryz.prog w = .ok (.enter gf args) w) (hH : HandsM Tryz.prog gf lb q M xss w) (hM : M ≤ 1000000) (h6 : q ≤ 6) (hn : xss.length ≤ 12) :
    Calls Tryz.prog 27 #[.func (.func gf) #[] lb, .int .i64 q] w fun e w' => StrAns e w' w.heap.size (allG q xss) q (tabsOf q xss xss.length) ∧ Below w.heap.size w w' := by
  obtain ⟨i0, hi, hz0, hz1, hz2⟩ := info_parts Tryz.infoT
  refine (callsIn_wide (n := 0)).1 ?_
  refine callsIn_of_wp_marks Tryz.func27 rfl trivial ?_
  simp only [Tryz.ntmps27, List.size_toArray, List.length_cons, List.length_nil, Nat.reduceAdd, Nat.reduceSub, Array.replicate_succ, Array.replicate_zero, List.push_toArray, List.append_toArray, List.nil_append, List.cons_append]
  gi_wp2
  obtain ⟨W0, hW0⟩ : ∃ W0, W0 = (((w.alloc (.cells #[.int .i64 q] 3)).alloc (.cells #[.int .i64 0, .slice none 0 0] 30)).alloc (.cells #[.bool false] 4)).alloc (.cells #[.int .i64 q, .slice none 0 0] 30) := ⟨_, rfl⟩
  rw [← hW0]
  have z0 : W0.heap.size = w.heap.size + 4 := by rw [hW0]; simp
  have B0 : Below w.heap.size w W0 := by rw [hW0]; exact ((((Below.refl _ _).alloc (Nat.le_refl _) _).alloc (by simp) _).alloc (by simp <;> omega) _).alloc (by simp <;> omega) _
  have I0 : Strm w q xss 0 W0 := by
    refine ⟨?_, ?_, ?_, ⟨none, 0, [], fun _ => 0, fun _ => 0, ?_, ?_⟩, fun j hj => by omega, B0, by omega⟩
    · rw [hW0]; exact (Below.heap_alloc _ _ _ (by simp <;> omega)).trans ((Below.heap_alloc _ _ _ (by simp <;> omega)).trans ((Below.heap_alloc _ _ _ (by simp)).trans (heap_alloc_new w _)))
    · rw [hW0]; have := heap_alloc_new (w.alloc (.cells #[.int .i64 q] 3)) (.cells #[.int .i64 0, .slice none 0 0] 30); rw [World.size_alloc] at this; exact (Below.heap_alloc _ _ _ (by simp <;> omega)).trans ((Below.heap_alloc _ _ _ (by simp)).trans this)
    · rw [hW0]; have := heap_alloc_new ((w.alloc (.cells #[.int .i64 q] 3)).alloc (.cells #[.int .i64 0, .slice none 0 0] 30)) (.cells #[.bool false] 4); rw [World.size_alloc, World.size_alloc] at this; exact (Below.heap_alloc _ _ _ (by simp)).trans this
    · rw [hW0]; have := heap_alloc_new (((w.alloc (.cells #[.int .i64 q] 3)).alloc (.cells #[.int .i64 0, .slice none 0 0] 30)).alloc (.cells #[.bool false] 4)) (.cells #[.int .i64 q, .slice none 0 0] 30); rwa [World.size_alloc, World.size_alloc, World.size_alloc] at this
    · exact OwnUk.start rfl (Nat.le_refl _) (World.ownsRow_nil _ _ _ _) (fun b hb => by cases hb)
  clear hW0
  refine range_handsM (gf := gf) (lb := lb) rfl eg hH B0 w.heap.size (Nat.le_refl _) (by omega) (Strm w q xss) (StrmX w q xss) (fun k A B hb h => h.keep hb) (fun k A B hb h => h.keep hb) (fun k A B hT h => h.turn (by rw [← z0]; exact hT)) (fun k A B hT h => h.turn (by rw [← z0]; exact hT)) I0 ?round ?done ?leave
  case round =>
    intro k W1 b hk hI hsz hrec hcn
    gi_wp2
    refine ⟨Below.refl _ _, fun W3 hT hr3 => ?_⟩
    have hT' : Turned (w.heap.size + 4 + 1) W1 W3 := by rw [← z0]; exact hT
    have hI3 := hI.turn hT'
    have hc3 := hcn.turned hT
    have z3 := hI3.size
    have zT : w.heap.size + 4 + 1 < W3.heap.size := by have := hT.size; omega
    obtain ⟨r, d, cells, L, H, hvar, hou⟩ := hI3.var
    have c0 : W3.cell? ⟨w.heap.size, 0, none⟩ = some (.int .i64 q) := by rw [cell_of_row W3 _ 0 _ _ (0, 0) hI3.col]; rfl
    have e0 : W3.cell? ⟨w.heap.size + 1, 0, none⟩ = some (.int .i64 0) := by rw [cell_of_row W3 _ 0 _ _ (0, 0) hI3.res]; rfl
    have e1 : W3.cell? ⟨w.heap.size + 1, 1, none⟩ = some (.slice none 0 0) := by rw [cell_of_row W3 _ 1 _ _ (0, 0) hI3.res]; rfl
    have f0 : W3.frozen? ⟨w.heap.size + 1, 0, none⟩ = false := frozen_of_row W3 _ 0 _ _ hI3.res
    have f1 : W3.frozen? ⟨w.heap.size + 1, 1, none⟩ = false := frozen_of_row W3 _ 1 _ _ hI3.res
    have g0 : W3.cell? ⟨w.heap.size + 1 + 1, 0, none⟩ = some (.bool false) := by rw [cell_of_row W3 _ 0 _ _ (0, 0) hI3.flag]; rfl
    have g1 : W3.frozen? ⟨w.heap.size + 1 + 1, 0, none⟩ = false := frozen_of_row W3 _ 0 _ _ hI3.flag
    have t1 : W3.cell? ⟨w.heap.size + 1 + 1 + 1, 1, none⟩ = some (.slice r k d) := by rw [cell_of_row W3 _ 1 _ _ (0, 0) hvar]; rfl
    have u1 : W3.frozen? ⟨w.heap.size + 1 + 1 + 1, 1, none⟩ = false := frozen_of_row W3 _ 1 _ _ hvar
    have hls := tabsOf_succ q xss k hk
    obtain ⟨X, hX⟩ : ∃ X, lat xss k = X := ⟨_, rfl⟩
    rw [hX] at hls hc3
    have HX := Hid.mk hX
    have HLS := Hid.mk hls
    have HI3 := Hid.mk hI3
    have HOU := Hid.mk hou
    have HV := Hid.mk hvar
    clear hI hcn hI3 hou hvar hls hX
    cases hg : goodT q X with
    | false =>
      have HG := Hid.mk hg
      gi_wp2_with fail
      refine ⟨trivial, rfl, ?_⟩
      refine (callsIn_wide.2 (cnt_table b q M X W3 hc3 hM h6)).mono ?_
      rintro e w4 ⟨⟨r4, m4, d4, cells4, rfl, ho4⟩, hb4⟩
      rw [hg]
      clear hg
      have f0 := frozen_later hb4 e0 f0
      have f1 := frozen_later hb4 e1 f1
      have g1 := frozen_later hb4 g0 g1
      have e0 := cell_later hb4 e0
      have e1 := cell_later hb4 e1
      have g0 := cell_later hb4 g0
      have hbA : Below w4.heap.size w4 (w4.alloc (.cells #[.int .i64 (tellP q X), .slice r4 m4 d4] 48)) := (Below.refl _ _).alloc (Nat.le_refl _) _
      have f0 := frozen_later hbA e0 f0
      have f1 := frozen_later hbA e1 f1
      have g1 := frozen_later hbA g0 g1
      have e0 := cell_later hbA e0
      have e1 := cell_later hbA e1
      have g0 := cell_later hbA g0
      have hr4 : w4.heap[w.heap.size + 1]? = some (.cells #[.int .i64 0, .slice none 0 0] 30 (0, 0)) := (hb4.block _ (by omega)).trans HI3.out.res
      have hf4 : w4.heap[w.heap.size + 1 + 1]? = some (.cells #[.bool false] 4 (0, 0)) := (hb4.block _ (by omega)).trans HI3.out.flag
      have z4 := hb4.size
      obtain ⟨V, hV⟩ : ∃ V, V = w4.alloc (.cells #[.int .i64 (tellP q X), .slice r4 m4 d4] 48) := ⟨_, rfl⟩
      have zV : V.heap.size = w4.heap.size + 1 := by rw [hV]; simp
      have hVk : ∀ j, j < w4.heap.size → V.heap[j]? = w4.heap[j]? := fun j hj => by rw [hV]; exact Below.heap_alloc _ _ _ hj
      have BV : Below w.heap.size W3 V := (hb4.mono (by omega)).trans (by rw [hV]; exact (hbA.mono (by omega)))
      gi_wp2
      rw [← hV]
      obtain ⟨U, hU⟩ : ∃ U, U = (V.setCell ⟨w.heap.size + 1, 0, none⟩ (.int .i64 0)).setCell ⟨w.heap.size + 1, 1, none⟩ (.slice none 0 0) := ⟨_, rfl⟩
      rw [← hU]
      have zU : U.heap.size = V.heap.size := by rw [hU]; simp [World.setCell]
      have hUr : U.heap[w.heap.size + 1]? = some (.cells #[.int .i64 0, .slice none 0 0] 30 (0, 0)) := by rw [hU]; exact set2_heap ((hVk _ (by omega)).trans hr4) _ _
      have hUk : ∀ j, j ≠ w.heap.size + 1 → U.heap[j]? = V.heap[j]? := fun j hj => by rw [hU]; exact (Below.heap_setCell _ _ _ j (by simpa using hj)).trans (Below.heap_setCell _ _ _ j (by simpa using hj))
      have hUf : U.heap[w.heap.size + 1 + 1]? = some (.cells #[.bool false] 4 (0, 0)) := (hUk _ (by omega)).trans ((hVk _ (by omega)).trans hf4)
      have BU : Below w.heap.size W3 U := by rw [hU]; exact (BV.setCell (by show w.heap.size ≤ w.heap.size + 1; omega) _).setCell (by show w.heap.size ≤ w.heap.size + 1; omega) _
      have BX : Below w.heap.size W3 (U.setCell ⟨w.heap.size + 1 + 1, 0, none⟩ (.bool false)) := BU.setCell (by show w.heap.size ≤ w.heap.size + 1 + 1; omega) _
      have hXk : ∀ j, j < W3.heap.size → j ≠ w.heap.size + 1 → j ≠ w.heap.size + 1 + 1 → (U.setCell ⟨w.heap.size + 1 + 1, 0, none⟩ (.bool false)).heap[j]? = W3.heap[j]? := fun j hj h1 h2 =>
        (Below.heap_setCell _ _ _ j (by simpa using h2)).trans ((hUk j h1).trans ((hVk j (by omega)).trans (hb4.block j hj)))
      refine ⟨⟨(Below.heap_setCell _ _ _ _ (by simp)).trans hUr, heap_setCell_same U _ 0 _ _ _ hUf, by rw [HX.out]; exact HG.out, HI3.out.low.trans BX, by simp [World.setCell]; omega⟩, BX, hXk _ (by omega) (by omega) (by omega), ?_⟩
      exact (hXk _ (by omega) (by omega) (by omega)).trans (Array.getElem?_eq_getElem _)
    | true =>
      have HG := Hid.mk hg
      gi_wp2_with fail
      refine ⟨trivial, rfl, ?_⟩
      refine (callsIn_wide.2 (cnt_table b q M X W3 hc3 hM h6)).mono ?_
      rintro e w4 ⟨⟨r4, m4, d4, cells4, rfl, ho4⟩, hb4⟩
      rw [hg]
      have hP : tellP q X = q := by simp [tellP, hg]
      have hTT : tellT q X = X := by simp [tellT, hg]
      rw [hP]
      rw [hTT] at ho4
      clear hg hP hTT
      have u1 := frozen_later hb4 t1 u1
      have t1 := cell_later hb4 t1
      have z4 := hb4.size
      have HO4 := Hid.mk (HOU.out.below hb4)
      have hbA : Below w4.heap.size w4 (w4.alloc (.cells #[.int .i64 q, .slice r4 m4 d4] 48)) := (Below.refl _ _).alloc (Nat.le_refl _) _
      have t1 := cell_later hbA t1
      have hv4 : w4.heap[w.heap.size + 1 + 1 + 1]? = some (.cells #[.int .i64 q, .slice r k d] 30 (0, 0)) := (hb4.block _ (by omega)).trans HV.out
      gi_wp2_with (gi_at_builtin; refine wpListIn_append_own_at _ rfl _ _ 28 rfl (w.heap.size + 6) 48 i0 (.agg #[.int .i64 0, .slice none 0 0]) 2 32 Tryz.underlying28 hi hz0 hz1 hz2 rfl (by decide) (.slice r k d) k cells rfl ((HO4.out.outer.alloc _).alloc _) ⟨w4.heap.size + 1, 0, none⟩ 1 1 [.int .i64 q, .slice r4 m4 d4] (by simp [Act.eval]) rfl (by simpa using news_at (w4.alloc (.cells #[.int .i64 q, .slice r4 m4 d4] 48)) #[.int .i64 q, .slice r4 m4 d4] 48) (by intro u hu; simp at hu; rcases hu with rfl | rfl <;> rfl) (by unfold maxLen; omega) (by omega) (by simp; omega) ?_; intro v5 w5 hown5 hgrow5 hnil5 hat5; obtain ⟨g5, cap5, rfl⟩ := ownsRow_succ hown5; have hne5 : some (w.heap.size + 1 + 1 + 1) ≠ (Value.slice r k d).ownBlock := (fun e => by have := (HO4.out.blocks _ e.symm).1; omega); have hv5 : w5.heap[w.heap.size + 1 + 1 + 1]? = some (.cells #[.int .i64 q, .slice r k d] 30 (0, 0)) := (hgrow5.block _ (by simp; omega) hne5).trans ((Below.heap_alloc _ _ _ (by simp; omega)).trans ((Below.heap_alloc _ _ _ (by omega)).trans hv4)); have t5 : w5.cell? ⟨w.heap.size + 1 + 1 + 1, 1, none⟩ = some (.slice r k d) := (by rw [cell_of_row w5 _ 1 _ _ (0, 0) hv5]; rfl); have u5 : w5.frozen? ⟨w.heap.size + 1 + 1 + 1, 1, none⟩ = false := frozen_of_row w5 _ 1 _ _ hv5)
      have hob : ∀ j, (Value.slice r k d).ownBlock = some j → w.heap.size + 6 ≤ j := fun j hj => (HO4.out.blocks j hj).1
      have hk5 : ∀ j, j < W3.heap.size → j < w.heap.size + 6 → w5.heap[j]? = W3.heap[j]? := fun j hj h1 =>
        (hgrow5.block j (by simp; omega) (fun e => by have := hob j e.symm; omega)).trans ((Below.heap_alloc _ _ _ (by simp; omega)).trans ((Below.heap_alloc _ _ _ (by omega)).trans (hb4.block j hj)))
      have hbB : Below w4.heap.size w4 ((w4.alloc (.cells #[.int .i64 q, .slice r4 m4 d4] 48)).alloc (.cells #[.int .i64 q, .slice r4 m4 d4] 48)) := ((Below.refl _ _).alloc (Nat.le_refl _) _).alloc (by simp) _
      have hpu := HOU.out.pushed (p := q) (by omega) hb4 (show X.length = m4 from OwnWk.len ho4) ⟨cells4, ho4⟩ hbB hown5 hgrow5 (by
        rcases hat5 with e | e
        · left; simpa [Value.ownBlock] using e.symm
        · right; simp [Value.ownBlock] at e; omega) ((hown5.lt g5 rfl).2)
      rw [← HLS.out] at hpu
      have z5 : w4.heap.size + 1 + 1 ≤ w5.heap.size := by have := hgrow5.size; simpa using this
      have B5 : Below w.heap.size W3 w5 := ((hb4.mono (by omega)).trans (hbB.mono (by omega))).grown hgrow5 (by simp; omega) (fun j hj => by have := hob j hj; omega)
      have B6 := B5.setCell (p := ⟨w.heap.size + 1 + 1 + 1, 1, none⟩) (by show w.heap.size ≤ w.heap.size + 1 + 1 + 1; omega) (.slice (some ⟨g5, 0, none⟩) (k + 1) cap5)
      have h6k : ∀ j, j ≠ w.heap.size + 1 + 1 + 1 → (w5.setCell ⟨w.heap.size + 1 + 1 + 1, 1, none⟩ (.slice (some ⟨g5, 0, none⟩) (k + 1) cap5)).heap[j]? = w5.heap[j]? := fun j hj => Below.heap_setCell _ _ _ j (by simpa using hj)
      have hI3 := HI3.out
      have hpu6 := hpu.setCell (a0 := ⟨w.heap.size + 1 + 1 + 1, 1, none⟩) (.inl (by show w.heap.size + 1 + 1 + 1 < _; omega)) (.slice (some ⟨g5, 0, none⟩) (k + 1) cap5)
      have z6 : (w5.setCell ⟨w.heap.size + 1 + 1 + 1, 1, none⟩ (.slice (some ⟨g5, 0, none⟩) (k + 1) cap5)).heap.size = w5.heap.size := by simp [World.setCell]
      rw [← z6] at hpu6
      refine ⟨⟨(h6k _ (by omega)).trans ((hk5 _ (by omega) (by omega)).trans hI3.col), (h6k _ (by omega)).trans ((hk5 _ (by omega) (by omega)).trans hI3.res), (h6k _ (by omega)).trans ((hk5 _ (by omega) (by omega)).trans hI3.flag),
        ⟨_, _, _, _, _, heap_setCell_same w5 _ 1 _ _ _ hv5, hpu6⟩, fun j hj => ?_, hI3.low.trans B6, by simp [World.setCell]; omega⟩, B6, (h6k _ (by omega)).trans (hk5 _ (by omega) (by omega)), ?_⟩
      · by_cases e : j = k
        · subst e; rw [HX.out]; exact HG.out
        · exact hI3.good j (by omega)
      · exact ((h6k _ (by omega)).trans (hk5 _ (by omega) (by omega))).trans (Array.getElem?_eq_getElem _)
  case done =>
    intro W hI hbb hdef
    obtain ⟨r, d, cells, L, H, hvar, hou⟩ := hI.var
    have z := hI.size
    have e0 : W.cell? ⟨w.heap.size + 1, 0, none⟩ = some (.int .i64 0) := by rw [cell_of_row W _ 0 _ _ (0, 0) hI.res]; rfl
    have e1 : W.cell? ⟨w.heap.size + 1, 1, none⟩ = some (.slice none 0 0) := by rw [cell_of_row W _ 1 _ _ (0, 0) hI.res]; rfl
    have f0 : W.frozen? ⟨w.heap.size + 1, 0, none⟩ = false := frozen_of_row W _ 0 _ _ hI.res
    have f1 : W.frozen? ⟨w.heap.size + 1, 1, none⟩ = false := frozen_of_row W _ 1 _ _ hI.res
    have g0 : W.cell? ⟨w.heap.size + 1 + 1, 0, none⟩ = some (.bool false) := by rw [cell_of_row W _ 0 _ _ (0, 0) hI.flag]; rfl
    have g1 : W.frozen? ⟨w.heap.size + 1 + 1, 0, none⟩ = false := frozen_of_row W _ 0 _ _ hI.flag
    have t0 : W.cell? ⟨w.heap.size + 1 + 1 + 1, 0, none⟩ = some (.int .i64 q) := by rw [cell_of_row W _ 0 _ _ (0, 0) hvar]; rfl
    have t1 : W.cell? ⟨w.heap.size + 1 + 1 + 1, 1, none⟩ = some (.slice r xss.length d) := by rw [cell_of_row W _ 1 _ _ (0, 0) hvar]; rfl
    have HI := Hid.mk hI
    have HOU := Hid.mk hou
    rw [z0] at hdef ⊢
    have hDl : w.heap.size + 4 < W.heap.size := (Array.getElem?_eq_some_iff.1 hdef).1
    clear hI hou hvar
    gi_wp2
    obtain ⟨U, hU⟩ : ∃ U, U = ((W.setCell ⟨w.heap.size + 1, 0, none⟩ (.int .i64 q)).setCell ⟨w.heap.size + 1, 1, none⟩ (.slice r xss.length d)) := ⟨_, rfl⟩
    rw [← hU]
    have hUr : U.heap[w.heap.size + 1]? = some (.cells #[.int .i64 q, .slice r xss.length d] 30 (0, 0)) := by rw [hU]; exact set2_heap HI.out.res _ _
    have hUk : ∀ j, j ≠ w.heap.size + 1 → U.heap[j]? = W.heap[j]? := fun j hj => by rw [hU]; exact (Below.heap_setCell _ _ _ j (by simpa using hj)).trans (Below.heap_setCell _ _ _ j (by simpa using hj))
    have hUf : U.heap[w.heap.size + 1 + 1]? = some (.cells #[.bool false] 4 (0, 0)) := (hUk _ (by omega)).trans HI.out.flag
    obtain ⟨X, hX⟩ : ∃ X, X = U.setCell ⟨w.heap.size + 1 + 1, 0, none⟩ (.bool true) := ⟨_, rfl⟩
    rw [← hX]
    have hXr : X.heap[w.heap.size + 1]? = some (.cells #[.int .i64 q, .slice r xss.length d] 30 (0, 0)) := by rw [hX]; exact (Below.heap_setCell _ _ _ _ (by simp)).trans hUr
    have hXf : X.heap[w.heap.size + 1 + 1]? = some (.cells #[.bool true] 4 (0, 0)) := by rw [hX]; exact heap_setCell_same U _ 0 _ _ _ hUf
    have hXd : X.heap[w.heap.size + 4]? = some (.deferred (some [])) := by rw [hX]; exact (Below.heap_setCell _ _ _ _ (by simp <;> omega)).trans ((hUk _ (by omega)).trans hdef)
    have hoX : OwnUk X (w.heap.size + 6) W.heap.size r xss.length d (tabsOf q xss xss.length) cells L H xss.length := by
      rw [hX, hU]
      exact ((HOU.out.setCell (a0 := ⟨w.heap.size + 1, 0, none⟩) (.inl (by show w.heap.size + 1 < _; omega)) _).setCell (a0 := ⟨w.heap.size + 1, 1, none⟩) (.inl (by show w.heap.size + 1 < _; omega)) _).setCell (a0 := ⟨w.heap.size + 1 + 1, 0, none⟩) (.inl (by show w.heap.size + 1 + 1 < _; omega)) _
    have BX : Below w.heap.size w X := by
      rw [hX, hU]
      exact ((HI.out.low.setCell (by show w.heap.size ≤ w.heap.size + 1; omega) _).setCell (by show w.heap.size ≤ w.heap.size + 1; omega) _).setCell (by show w.heap.size ≤ w.heap.size + 1 + 1; omega) _
    have zX : X.heap.size = W.heap.size := by rw [hX, hU]; simp [World.setCell]
    have hne1 : w.heap.size + 1 ≠ w.heap.size + 4 := by omega
    have hne2 : w.heap.size + 1 + 1 ≠ w.heap.size + 4 := by omega
    have k0 : (X.putObj (w.heap.size + 4) (.deferred none)).cell? ⟨w.heap.size + 1, 0, none⟩ = some (.int .i64 q) := (World.cell?_of_block (World.putObj_heap_other hne1)).trans (by rw [cell_of_row X _ 0 _ _ (0, 0) hXr]; rfl)
    have k1 : (X.putObj (w.heap.size + 4) (.deferred none)).cell? ⟨w.heap.size + 1, 1, none⟩ = some (.slice r xss.length d) := (World.cell?_of_block (World.putObj_heap_other hne1)).trans (by rw [cell_of_row X _ 1 _ _ (0, 0) hXr]; rfl)
    have k2 : (X.putObj (w.heap.size + 4) (.deferred none)).cell? ⟨w.heap.size + 1 + 1, 0, none⟩ = some (.bool true) := (World.cell?_of_block (World.putObj_heap_other hne2)).trans (by rw [cell_of_row X _ 0 _ _ (0, 0) hXf]; rfl)
    have BF : Below w.heap.size w (X.putObj (w.heap.size + 4) (.deferred none)) := BX.grown (grownBy_putObj' _ _ _) BX.size (fun j hj => by cases hj; omega)
    have oF : OwnU (X.putObj (w.heap.size + 4) (.deferred none)) w.heap.size (X.putObj (w.heap.size + 4) (.deferred none)).heap.size r xss.length d (tabsOf q xss xss.length) :=
      ⟨_, _, _, (hoX.kept (grownBy_putObj' _ _ _) (fun j hj => by cases hj; exact .inl (by omega))).widen (by omega) (by simp; omega) (Nat.le_refl _)⟩
    have hok := allG_yes HI.out.good
    refine ⟨by simp, .inl ⟨_, _, rfl, run_takeDeferred hXd, ?_⟩⟩
    refine ⟨.tuple #[.agg #[.int .i64 q, .slice r xss.length d], .bool true], by simp [results, Tryz.results27, go_sem, k0, k1, k2], ?_, BF⟩
    rw [hok]
    exact ⟨r, xss.length, d, rfl, oF⟩
  case leave =>
    intro k W hk hI hbb hdef
    have z := hI.size
    rw [z0] at hdef ⊢
    have hok := allG_no hk hI.bad
    have hne1 : w.heap.size + 1 ≠ w.heap.size + 4 := by omega
    have hne2 : w.heap.size + 1 + 1 ≠ w.heap.size + 4 := by omega
    have k0 : (W.putObj (w.heap.size + 4) (.deferred none)).cell? ⟨w.heap.size + 1, 0, none⟩ = some (.int .i64 0) := (World.cell?_of_block (World.putObj_heap_other hne1)).trans (by rw [cell_of_row W _ 0 _ _ (0, 0) hI.res]; rfl)
    have k1 : (W.putObj (w.heap.size + 4) (.deferred none)).cell? ⟨w.heap.size + 1, 1, none⟩ = some (.slice none 0 0) := (World.cell?_of_block (World.putObj_heap_other hne1)).trans (by rw [cell_of_row W _ 1 _ _ (0, 0) hI.res]; rfl)
    have k2 : (W.putObj (w.heap.size + 4) (.deferred none)).cell? ⟨w.heap.size + 1 + 1, 0, none⟩ = some (.bool false) := (World.cell?_of_block (World.putObj_heap_other hne2)).trans (by rw [cell_of_row W _ 0 _ _ (0, 0) hI.flag]; rfl)
    have BF : Below w.heap.size w (W.putObj (w.heap.size + 4) (.deferred none)) := hI.low.grown (grownBy_putObj' _ _ _) hI.low.size (fun j hj => by cases hj; omega)
    gi_wp2
    refine ⟨by simp, .inl ⟨_, _, rfl, run_takeDeferred hdef, ?_⟩⟩
    refine ⟨.tuple #[.agg #[.int .i64 0, .slice none 0 0], .bool false], by simp [results, Tryz.results27, go_sem, k0, k1, k2], StrAns.zero hok rfl, BF⟩

end Go.Proofs.YtlfljfmhhnoinabGreat
