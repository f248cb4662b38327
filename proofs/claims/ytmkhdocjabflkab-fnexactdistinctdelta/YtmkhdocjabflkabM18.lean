/- Several texts of one proof, in build order: NewT, AddT, SpecA, OfW, DDX. -/
import Derived.Test.YtmkhdocjabflkabM17
import Derived.Test.YtmkhdocjabflkabM13
import Derived.Test.YtmkhdocjabflkabM9
import Derived.Test.YtmkhdocjabflkabM11
import Derived.Test.YtmkhdocjabflkabM8
import Derived.Test.YtmkhdocjabflkabM4
import Derived.Test.YtmkhdocjabflkabM10
import Derived.Test.YtmkhdocjabflkabM14

/- Contracts of impl.NewTable, impl.AddTables, impl.ScaleTable, impl.NegateTable, impl.EmptyTable. -/
namespace Go.Proofs.Ytmkhdocjabflkab
open Go.RowKit Go.Maps

end Go.Proofs.Ytmkhdocjabflkab

/- Contracts of impl.goodAlike, impl.AddTables, impl.ScaleTable, impl.NegateTable, impl.EmptyTable. -/
namespace Go.Proofs.Ytmkhdocjabflkab
open Go.RowKit Go.Maps

/-- What AddTables tells. -/
def addB (p : Int) (ts : List WRow) (p' : Int) (ts' : List WRow) : Bool := alike p ts p' ts' && goodT p (putAll ts ts')
theorem addB_no {p : Int} {ts : List WRow} {p' : Int} {ts' : List WRow} (h : alike p ts p' ts' = false) : addB p ts p' ts' = false := by simp [addB, h]
theorem addB_yes {p : Int} {ts : List WRow} {p' : Int} {ts' : List WRow} (h : alike p ts p' ts' = true) : addB p ts p' ts' = goodT p (putAll ts ts') := by simp [addB, h]
theorem sumAt_bound {ts : List WRow} {p : Int} (h : goodT p ts = true) {n : Nat} (hn : ts.length = n) (x : List Int) : -1000000000000 ≤ sumAt ts n 1 x ∧ sumAt ts n 1 x ≤ 1000000000000 := by
  have h60 := goodT_len60 h
  have key : ∀ k, k ≤ n → -1000000 * (k : Int) ≤ sumAt ts k 1 x ∧ sumAt ts k 1 x ≤ 1000000 * (k : Int) := by
    intro k hk
    induction k with
    | zero => simp [sumAt_zero]
    | succ k ih =>
      have hi := ih (by omega)
      have hg := goodT_cells h k (by omega)
      rw [sumAt_succ ts k 1 x (by omega)]
      by_cases e : raised (wat ts k).1 = x
      · rw [if_pos e]; push_cast; omega
      · rw [if_neg e]; push_cast; omega
  have := key n (Nat.le_refl _)
  omega
theorem tells_add {q n n' : Nat} {ts ts' : List WRow} (hz : ts.length = n) (hz' : ts'.length = n') (h : goodT q ts = true) (h' : goodT q ts' = true) : Tells q (fun x => sumAt ts n 1 x + sumAt ts' n' 1 x) (putAll ts ts') :=
  tells_put (goodT_rises h) (goodT_noZero h) (goodT_mem h) (goodT_mem h') fun zs h1 _ => by
    rw [sumAt_sumW hz 1 (fun t ht => (goodT_mem h t ht).1) h1, sumAt_sumW hz' 1 (fun t ht => (goodT_mem h' t ht).1) h1, sumW_rises (goodT_rises h)]; omega

set_option maxRecDepth 100000 in
set_option maxHeartbeats 4000000 in
theorem implAddTables (a a' : Option Addr) (n n' c c' : Nat) (ts ts' : List WRow) (p p' : Int) (w : World) (hz : ts.length = n) (hz' : ts'.length = n') (hn : n ≤ 1048576) (hn' : n' ≤ 1048576) (ha : AtW w a ts) (ha' : AtW w a' ts') :
    Calls Try.prog 23 #[.agg #[.int .i64 p, .slice a n c], .agg #[.int .i64 p', .slice a' n' c']] w fun e w' => TabAns e w' w.heap.size (addB p ts p' ts') p (putAll ts ts') ∧ Below w.heap.size w w' := by
  obtain ⟨W, hW⟩ : ∃ W, W = ((w.alloc (.cells #[.int .i64 p, .slice a n c] 28)).alloc (.cells #[.int .i64 p', .slice a' n' c'] 28)).alloc (.cells #[.int .i64 0, .slice none 0 0] 28) := ⟨_, rfl⟩
  have zW : W.heap.size = w.heap.size + 1 + 1 + 1 := by rw [hW]; simp
  have B0 : Below w.heap.size w W := by rw [hW]; exact (((Below.refl _ _).alloc (Nat.le_refl _) _).alloc (by simp) _).alloc (by simp; omega) _
  have c0 : W.cell? ⟨w.heap.size, 0, none⟩ = some (.int .i64 p) := by rw [hW]; exact alloc_keeps (alloc_keeps (pair0 w _ _ _) _) _
  have c1 : W.cell? ⟨w.heap.size, 1, none⟩ = some (.slice a n c) := by rw [hW]; exact alloc_keeps (alloc_keeps (pair1 w _ _ _) _) _
  have b1 : W.cell? ⟨w.heap.size + 1, 1, none⟩ = some (.slice a' n' c') := by rw [hW]; refine alloc_keeps ?_ _; have := pair1 (w.alloc (.cells #[.int .i64 p, .slice a n c] 28)) (.int .i64 p') (.slice a' n' c') 28; rwa [World.size_alloc] at this
  have b0 : W.cell? ⟨w.heap.size + 1, 0, none⟩ = some (.int .i64 p') := by rw [hW]; refine alloc_keeps ?_ _; have := pair0 (w.alloc (.cells #[.int .i64 p, .slice a n c] 28)) (.int .i64 p') (.slice a' n' c') 28; rwa [World.size_alloc] at this
  have q0 : W.heap[w.heap.size + 1 + 1]? = some (.cells #[.int .i64 0, .slice none 0 0] 28 (0, 0)) := by
    rw [hW]
    have := heap_alloc_new ((w.alloc (.cells #[.int .i64 p, .slice a n c] 28)).alloc (.cells #[.int .i64 p', .slice a' n' c'] 28)) (.cells #[.int .i64 0, .slice none 0 0] 28)
    rwa [World.size_alloc, World.size_alloc] at this

  have e0 : W.cell? ⟨w.heap.size + 1 + 1, 0, none⟩ = some (.int .i64 0) := by rw [cell_of_row _ _ 0 _ _ (0, 0) q0]; rfl
  have e1 : W.cell? ⟨w.heap.size + 1 + 1, 1, none⟩ = some (.slice none 0 0) := by rw [cell_of_row _ _ 1 _ _ (0, 0) q0]; rfl
  have f0 : W.frozen? ⟨w.heap.size + 1 + 1, 0, none⟩ = false := frozen_of_row _ _ 0 _ _ q0
  have f1 : W.frozen? ⟨w.heap.size + 1 + 1, 1, none⟩ = false := frozen_of_row _ _ 1 _ _ q0
  have HA := ha.below B0
  have HA' := ha'.below B0
  clear ha ha' q0
  go_enter Try.func23, Try.ntmps23
  go_wp2_with fail
  rw [← hW]
  clear hW
  refine (goodAlike_any _ _ _ _ _ _ ts ts' _ _ _ hz hz' hn hn' HA HA').mono ?_
  rintro e w1 ⟨rfl, hb1⟩
  have B1 := B0.trans (hb1.mono B0.size)
  have g0 := cell_later hb1 e0
  have g1 := cell_later hb1 e1
  have k0 := frozen_later hb1 e0 f0
  have k1 := frozen_later hb1 e1 f1
  have c0 := cell_later hb1 c0
  have c1 := cell_later hb1 c1
  have b1 := cell_later hb1 b1
  have HA := HA.below hb1
  have HA' := HA'.below hb1
  clear e0 e1 f0 f1 b0 hb1
  cases hal : alike p ts p' ts' with
  | false =>
    have HL := Hid.mk hal
    clear hal
    go_wp2
    refine bodyPost_ret (v := .tuple #[.agg #[.int .i64 0, .slice none 0 0], .bool false]) (by simp [results, Try.results23, go_sem, g0, g1]) rfl ⟨TabAns.zero (addB_no HL.out) rfl, ?_⟩
    exact (B1.setCell (by show w.heap.size ≤ w.heap.size + 1 + 1; omega) _).setCell (by show w.heap.size ≤ w.heap.size + 1 + 1; omega) _
  | true =>
    have HL := Hid.mk hal
    obtain ⟨hg, hg', rfl⟩ := alike_parts hal
    obtain ⟨q, hq⟩ : ∃ q : Nat, p = q := ⟨p.toNat, by have := inc_range (goodT_parts hg).1; omega⟩
    subst hq
    have h6 : q ≤ 6 := by have := inc_range (goodT_parts hg).1; omega
    have n60 := goodT_len60 hg
    have n60' := goodT_len60 hg'
    have HGC := Hid.mk hg
    have HGC' := Hid.mk hg'
    clear hal hg hg'
    go_wp2_with fail
    refine (sumsOf_any _ _ _ ts _ _ hz (by omega) (by decide) (by decide) (fun k hk => goodT_cells HGC.out k (by omega)) HA).mono ?_
    rintro e w2 ⟨b, D, rfl, hbb, ho2, hm2, hb2⟩
    have B2 := B1.trans (hb2.mono B1.size)
    have g0 := cell_later hb2 g0
    have k0 := frozen_later hb2 (by assumption) k0
    have k1 := frozen_later hb2 g1 k1
    have g1 := cell_later hb2 g1
    have c0 := cell_later hb2 c0
    have b1 := cell_later hb2 b1
    have HA' := HA'.below hb2
    have z1 : w.heap.size + 1 + 1 < w1.heap.size := World.block_lt_of_cell? _ _ (by assumption : w1.cell? ⟨w.heap.size + 1 + 1, 1, none⟩ = _)
    go_wp2_with fail
    refine (add_any b n D _ _ _ _ _ ts' _ _ hz' (by omega) (by omega) (by decide) (by decide) (fun k hk => goodT_cells HGC'.out k (by omega)) (fun x => sumAt_bound HGC.out hz x) HA' ho2 hm2).mono ?_
    rintro e w3 ⟨rfl, D', ho3, hm3, hg3⟩
    have B3 := B2.grown hg3 B2.size (fun j hj => by cases hj; have := B1.size; omega)
    have kk0 : w3.frozen? ⟨w.heap.size + 1 + 1, 0, none⟩ = false := (World.frozen?_of_block (hg3.block (w.heap.size + 1 + 1) (by have := hb2.size; omega) (by simp; omega))).trans k0
    have kk1 : w3.frozen? ⟨w.heap.size + 1 + 1, 1, none⟩ = false := (World.frozen?_of_block (hg3.block (w.heap.size + 1 + 1) (by have := hb2.size; omega) (by simp; omega))).trans k1
    have g0 := hg3.cell g0 (by simp; omega)
    have g1 := hg3.cell g1 (by simp; omega)
    have c0 := hg3.cell c0 (by simp; omega)
    go_wp2_with fail
    refine (table_any b (n + n') D' _ _ q _ (by omega) h6 ho3 hm3 (keys_append (keys_list (goodL_of_goodT HGC'.out) _) (keys_list (goodL_of_goodT HGC.out) _))).mono ?_
    rintro e w4 ⟨us, ⟨r4, m4, d4, cells4, rfl, ho4⟩, hT, hb4⟩
    have hus : us = putAll ts ts' := hT.unique (tells_add hz hz' HGC.out HGC'.out)
    subst hus
    have B4 := B3.trans (hb4.mono B3.size)
    have s0 := cell_later hb4 g0
    have s1 := cell_later hb4 g1
    have i0 := frozen_later hb4 g0 kk0
    have i1 := frozen_later hb4 g1 kk1
    have z3 : w.heap.size + 1 + 1 < w3.heap.size := World.block_lt_of_cell? _ _ g0
    have HNB : Hid (addB q ts q ts' = goodT q (putAll ts ts')) := addB_yes HL.out
    clear c0 c1 b1 HA HA' ho2 hm2 ho3 hm3 hT hb2 hb4 hg3
    go_wp2
    refine bodyPost_ret (v := .tuple #[.agg #[.int .i64 (tellP q (putAll ts ts')), .slice r4 m4 d4], .bool (goodT q (putAll ts ts'))]) (by simp [results, Try.results23, go_sem, s0, s1]) rfl ⟨TabAns.tell HNB.out ⟨r4, m4, d4, cells4, rfl, ho4.stored z3 (by omega) _ _⟩, ?_⟩
    exact (B4.setCell (by show w.heap.size ≤ w.heap.size + 1 + 1; omega) _).setCell (by show w.heap.size ≤ w.heap.size + 1 + 1; omega) _

end Go.Proofs.Ytmkhdocjabflkab

/- Contracts of spec.l2Add and spec.l2Scale. -/
namespace Go.Proofs.Ytmkhdocjabflkab
open Go.RowKit

theorem wrap64_in {v : Int} (h1 : -9223372036854775808 ≤ v) (h2 : v ≤ 9223372036854775807) : wrap64 v = v := by unfold wrap64; omega

/-- Weights that were put stay within their sum. -/
theorem putAll_ok {ts l : List WRow} {M0 M : Int} (h0 : 0 ≤ M0) (hM : 0 ≤ M) (hr : Rises ts) (ht : ∀ t ∈ ts, t.1.length ≤ 6 ∧ -M0 ≤ t.2 ∧ t.2 ≤ M0) (hl : ∀ t ∈ l, t.1.length ≤ 6 ∧ -M ≤ t.2 ∧ t.2 ≤ M) :
    ∀ t ∈ putAll ts l, t.1.length ≤ 6 ∧ -(M0 + M * l.length) ≤ t.2 ∧ t.2 ≤ M0 + M * l.length := fun t h => by
  have h6 : t.1.length ≤ 6 := by
    rcases putAll_rows h with ⟨s, hs, e⟩ | ⟨s, hs, e⟩
    · rw [← e]; exact (ht s hs).1
    · rw [← e]; exact (hl s hs).1
  have hw := wOf_mem (putAll_rises (l := l) hr) h
  rw [putAll_wOf t.1 hr] at hw
  have b1 := wOf_bound (zs := t.1) h0 (fun s hs => (ht s hs).2)
  have b2 := sumW_bound (zs := t.1) hM (fun s hs => (hl s hs).2)
  omega

theorem mem_of_at {ts : List WRow} {Q : WRow → Prop} (h : ∀ k, k < ts.length → Q (wat ts k)) : ∀ t ∈ ts, Q t := fun t ht => by
  obtain ⟨k, hk, rfl⟩ := List.getElem_of_mem ht
  have := h k hk
  rwa [show wat ts k = ts[k] by simp [wat, List.getD, hk]] at this

set_option maxRecDepth 100000 in
set_option maxHeartbeats 4000000 in
theorem l2Add_gen (a a' : Option Addr) (n n' c c' : Nat) (ts ts' : List WRow) (w : World) (hz : ts.length = n) (hz' : ts'.length = n') (hn : n ≤ 500000) (hn' : n' ≤ 500000) (hF : Formed a n c)
    (hgo : ∀ k, k ≤ n' → ∀ t ∈ putAll ts (ts'.take k), t.1.length ≤ 6 ∧ -4000000000000000000 ≤ t.2 ∧ t.2 ≤ 4000000000000000000) (hg' : ∀ t ∈ ts', t.1.length ≤ 6 ∧ -4000000000000000000 ≤ t.2 ∧ t.2 ≤ 4000000000000000000) (ha : AtM w a ts) (ha' : AtM w a' ts') :
    Calls Try.prog 20 #[.slice a n c, .slice a' n' c'] w fun e w' => ∃ r k d, e = .returned (.slice r k d) ∧ (putAll ts ts').length = k ∧ Formed r k d ∧ AtM w' r (putAll ts ts') ∧ Below w.heap.size w w' := by
  go_enter Try.func20, Try.ntmps20
  go_wp2
  go_loopw [5, 11] (fun o i wr => ∃ (k : Nat) (r : Option Addr) (m d : Nat), k ≤ n' ∧ i = .int .i64 k ∧ o = .slice r m d ∧ (putAll ts (ts'.take k)).length = m ∧ Formed r m d ∧ AtM wr r (putAll ts (ts'.take k)) ∧ Below w.heap.size w wr) (fun _ i _ => n' - (intOf i).toNat)
  case atStart => exact ⟨0, a, n, c, Nat.zero_le _, rfl, rfl, hz, hF, ha, Below.refl _ _⟩
  case round =>
    obtain ⟨k, r, m, d, hk, rfl, rfl, hm, hFr, har, hbw⟩ := hrel
    by_cases hlt : k < n'
    · obtain ⟨b, off, rfl, hc⟩ := (ha'.below hbw).some (by omega)
      obtain ⟨q, dd, hcx, hwx, hm1, hnil, hat⟩ := hc k (by omega)
      have hgk := at_of_mem hg' k (by omega)
      have HS := Hid.mk (putAll_take ts ts' k (by omega))
      have hki : (k : Int) < (n' : Int) := by omega
      have hml : m ≤ n + k := by have := putAll_len (ts'.take k) ts; rw [List.length_take] at this; omega
      have hok : ∀ j, j < m → (wat (putAll ts (ts'.take k)) j).1.length ≤ 6 ∧ -4000000000000000000 ≤ (wat (putAll ts (ts'.take k)) j).2 ∧ (wat (putAll ts (ts'.take k)) j).2 ≤ 4000000000000000000 := fun j hj => at_of_mem (hgo k hk) j (show j < (putAll ts (ts'.take k)).length by omega)
      generalize wat ts' k = Y at *
      obtain ⟨ys, x⟩ := Y
      simp only at hcx hwx hat hm1 hgk HS
      obtain ⟨m2, hmm⟩ : ∃ m2, ys.length = m2 := ⟨_, rfl⟩
      rw [hmm] at hcx hm1 hgk
      have HM := Hid.mk hmm
      obtain ⟨h6, hx1, hx2⟩ := hgk
      obtain ⟨V, hV⟩ : ∃ V, V = wr.alloc (.cells #[.slice q m2 dd, .int .i64 x] 48) := ⟨_, rfl⟩
      have hbV : Below wr.heap.size wr V := by rw [hV]; exact (Below.refl _ _).alloc (Nat.le_refl _) _
      have B1 := hbw.trans (hbV.mono hbw.size)
      clear hmm hc
      go_wp2_with fail
      rw [← hV]
      clear hV hcx hwx
      refine (l2Put_any _ _ _ _ _ _ (putAll ts (ts'.take k)) ys x _ hm HM.out (by omega) hFr h6 hnil hok (by omega) (by omega) (har.below hbV) (hat.below hbV)).mono ?_
      rintro e w2 ⟨r2, m3, d2, rfl, hm3, hF2, ha2, hb2⟩
      rw [← HS.out] at hm3 ha2
      have HM3 := Hid.mk hm3
      have HF2 := Hid.mk hF2
      have HA2 := Hid.mk ha2
      have HB := Hid.mk (B1.trans (hb2.mono B1.size))
      clear hm3 hF2 ha2 hb2 B1 hbw har hm hFr hok hat hbV
      go_wp2
      go_roundw
      case rel => exact ⟨k + 1, _, _, _, by omega, by go_num, rfl, HM3.out, HF2.out, HA2.out, HB.out⟩
      case measure => simp [intOf]; omega
    · obtain rfl : k = n' := by omega
      rw [wtake_all' ts' hz'] at hm har
      go_wp2
      go_ret
      exact ⟨_, _, _, rfl, hm, hFr, har, hbw⟩

theorem l2Add_any (a a' : Option Addr) (n n' c c' : Nat) (ts ts' : List WRow) (w : World) (hz : ts.length = n) (hz' : ts'.length = n') (hn : n ≤ 2048) (hn' : n' ≤ 2048) (hF : Formed a n c) (hr : Rises ts)
    (hg : ∀ t ∈ ts, t.1.length ≤ 6 ∧ -1000000 ≤ t.2 ∧ t.2 ≤ 1000000) (hg' : ∀ t ∈ ts', t.1.length ≤ 6 ∧ -1000000 ≤ t.2 ∧ t.2 ≤ 1000000) (ha : AtM w a ts) (ha' : AtM w a' ts') :
    Calls Try.prog 20 #[.slice a n c, .slice a' n' c'] w fun e w' => ∃ r k d, e = .returned (.slice r k d) ∧ (putAll ts ts').length = k ∧ Formed r k d ∧ AtM w' r (putAll ts ts') ∧ Below w.heap.size w w' := by
  refine l2Add_gen a a' n n' c c' ts ts' w hz hz' (by omega) (by omega) hF (fun k hk t ht => ?_) (fun t ht => by have := hg' t ht; omega) ha ha'
  have := putAll_ok (M0 := 1000000) (M := 1000000) (by omega) (by omega) hr hg (fun t ht => hg' t (List.mem_of_mem_take ht)) t ht
  rw [List.length_take] at this
  refine ⟨this.1, ?_, ?_⟩ <;> omega


theorem scaleW_take (ts : List WRow) (t : Int) (k : Nat) (h : k < ts.length) (ht : t ≠ 0) : scaleW (ts.take (k + 1)) t = scaleW (ts.take k) t ++ [((wat ts k).1, t * (wat ts k).2)] := by
  unfold scaleW
  rw [if_neg ht, if_neg ht, wtake_succ ts k h, List.map_append]
  rfl
theorem scaleW_len (ts : List WRow) (t : Int) (ht : t ≠ 0) : (scaleW ts t).length = ts.length := by unfold scaleW; rw [if_neg ht, List.length_map]

end Go.Proofs.Ytmkhdocjabflkab

/- Contract of spec.l2Of, and what sums of a table's own rows are. -/
namespace Go.Proofs.Ytmkhdocjabflkab
open Go.RowKit Go.Maps

theorem sumAt_wOf {ts : List WRow} {zs : List Int} (hg : ∀ t ∈ ts, good t.1 = true) (hz : good zs = true) (hr : Rises ts) : sumAt ts ts.length 1 (raised zs) = wOf ts zs := by
  unfold sumAt
  rw [List.take_length]
  induction ts with
  | nil => rfl
  | cons t ts ih =>
    obtain ⟨h1, h2⟩ := List.pairwise_cons.1 hr
    rw [List.map_cons, List.sum_cons, ih (fun s hs => hg s (by simp [hs])) h2, wOf_cons]
    by_cases e : t.1 = zs
    · rw [if_pos (by rw [e]), if_pos e, wOf_absent (fun s hs => by rw [← e]; exact (cmp_ne (h1 s hs)).symm)]; omega
    · rw [if_neg (fun h => e (raised_inj (hg t (by simp)) hz h)), if_neg e]; omega
theorem goodT_rows {p : Int} {ts : List WRow} (h : goodT p ts = true) : ∀ t ∈ ts, good t.1 = true := fun t ht => by
  obtain ⟨k, hk, rfl⟩ := List.getElem_of_mem ht
  have := (goodW_cells (stepB_good ((goodT_parts h).2.2 k hk))).1
  simpa [wat, List.getD, hk] using this

set_option maxHeartbeats 2000000 in
theorem l2Of_any (a a' : Option Addr) (n n' c c' : Nat) (ts : List WRow) (p : Int) (zs : List Int) (w : World) (hz : ts.length = n) (hz' : zs.length = n') (hn : n ≤ 1048576) (l6 : n' ≤ 6) (hgr : ∀ k, k < n → (wat ts k).1.length ≤ 6) (ha : AtW w a ts) (ha' : At w a' zs) :
    Calls Try.prog 21 #[.agg #[.int .i64 p, .slice a n c], .agg #[.slice a' n' c']] w fun e w' => e = .returned (.int .i64 (wOf ts zs)) ∧ Below w.heap.size w w' := by
  obtain ⟨W, hW⟩ : ∃ W, W = (w.alloc (.cells #[.int .i64 p, .slice a n c] 28)).alloc (.cells #[.slice a' n' c'] 46) := ⟨_, rfl⟩
  have B0 : Below w.heap.size w W := by rw [hW]; exact ((Below.refl _ _).alloc (Nat.le_refl _) _).alloc (by simp) _
  have t0 : W.cell? ⟨w.heap.size, 1, none⟩ = some (.slice a n c) := by rw [hW]; simp
  have p0 : W.cell? ⟨w.heap.size, 0, none⟩ = some (.int .i64 p) := by rw [hW]; simp
  have r0 : W.cell? ⟨w.heap.size + 1, 0, none⟩ = some (.slice a' n' c') := by rw [hW]; simp
  have HA := ha.below B0
  have HR := ha'.below B0
  clear ha ha'
  go_enter Try.func21, Try.ntmps21
  go_wp2
  rw [← hW]
  clear hW
  go_loopw [10] (fun i wr => ∃ (k : Nat), k ≤ n ∧ i = .int .i64 k ∧ wOf ts zs = wOf (ts.drop k) zs ∧ Below W.heap.size W wr) (fun i _ => n - (intOf i).toNat)
  case atStart => exact ⟨0, Nat.zero_le _, rfl, rfl, Below.refl _ _⟩
  case round =>
    obtain ⟨k, hk, rfl, hw0, hbw⟩ := hrel
    have B2 := B0.trans (hbw.mono B0.size)
    by_cases hlt : k < n
    · obtain ⟨b, off, rfl, hc⟩ := (HA.below hbw).some (by omega)
      obtain ⟨q, d, hcx, hwx, hm, hat⟩ := hc k (by omega)
      have h6 := hgr k hlt
      have HD := Hid.mk (hw0.trans (wOf_drop ts k zs (by omega)))
      have HR1 := HR.below hbw
      have r1 := cell_later hbw r0
      have hki : (k : Int) < (n : Int) := by omega
      generalize wat ts k = Y at *
      obtain ⟨ys, x⟩ := Y
      simp only at hcx hwx hat hm h6 HD
      obtain ⟨m, hmm⟩ : ∃ m, ys.length = m := ⟨_, rfl⟩
      rw [hmm] at hcx hm h6
      have HM := Hid.mk hmm
      clear hmm hc hw0 t0 p0 r0 HA HR
      obtain ⟨V, hV⟩ : ∃ V, V = wr.alloc (.cells #[.slice q m d, .int .i64 x] 48) := ⟨_, rfl⟩
      have hbV : Below wr.heap.size wr V := by rw [hV]; exact (Below.refl _ _).alloc (Nat.le_refl _) _
      have r2 := cell_later hbV r1
      have c3 : V.cell? ⟨wr.heap.size, 0, none⟩ = some (.slice q m d) := by rw [hV]; exact pair0 wr _ _ _
      have c4 : V.cell? ⟨wr.heap.size, 1, none⟩ = some (.int .i64 x) := by rw [hV]; exact pair1 wr _ _ _
      have HAx := hat.below hbV
      have HRx := HR1.below hbV
      have B3 := B2.trans (hbV.mono B2.size)
      have V3 := hbw.trans (hbV.mono hbw.size)
      have r2' := r2
      rw [hV] at r2'
      go_wp2_with fail
      rw [← hV]
      clear hV hcx hwx r1 r2' hat HR1 hbV
      refine (l1Compare_any _ _ _ _ _ _ ys zs _ HM.out hz' h6 l6 HAx HRx).mono ?_
      rintro e w2 ⟨rfl, hb2⟩
      have c5 := cell_later hb2 c4
      clear c3 c4 r2 HAx HRx
      by_cases e : ys = zs
      · have hcm : (cmp ys zs == 0) = true := by rw [e, cmp_self]; rfl
        have HX : Hid (wOf ts zs = x) := HD.out.trans (if_pos e)
        clear e HD
        go_wp2
        go_ret
        exact ⟨ret_int HX.out.symm, B3.trans (hb2.mono B3.size)⟩
      · have hcm : (cmp ys zs == 0) = false := by
          simp only [beq_eq_false_iff_ne]
          exact fun h => e (cmp_eq h)
        have HX : Hid (wOf ts zs = wOf (ts.drop (k + 1)) zs) := HD.out.trans (if_neg e)
        clear e HD
        go_wp2
        go_roundw
        case rel => exact ⟨k + 1, by omega, by go_num, HX.out, V3.trans (hb2.mono V3.size)⟩
        case measure => simp [intOf]; omega
    · have HX : Hid (wOf ts zs = 0) := by show _ = _; rw [hw0, List.drop_of_length_le (by omega)]; rfl
      clear hw0
      go_wp2
      go_ret
      exact ⟨ret_int HX.out.symm, B2⟩


end Go.Proofs.Ytmkhdocjabflkab

/- Contracts of impl.DistinctDelta and spec.DistinctDelta. -/
namespace Go.Proofs.Ytmkhdocjabflkab
open Go.RowKit Go.Maps

theorem ddB_no {p : Int} {ts : List WRow} {p' : Int} {us : List WRow} (h : addB p ts p' us = false) : ddB p ts p' us = false := by
  unfold addB at h
  unfold ddB
  cases ha : alike p ts p' us with
  | false => rfl
  | true => rw [ha] at h; simp at h; simp [h]
theorem ddB_yes {p : Int} {ts : List WRow} {p' : Int} {us : List WRow} (h : addB p ts p' us = true) : ddB p ts p' us = goodT p (ddW ts us) := by
  unfold addB at h
  unfold ddB
  simp only [Bool.and_eq_true] at h
  simp [h.1, h.2]
theorem ddB_goodT {p : Int} {ts : List WRow} {p' : Int} {us : List WRow} (h : ddB p ts p' us = true) : goodT p (ddW ts us) = true := by
  simp only [ddB, Bool.and_eq_true] at h
  exact h.2.2
theorem addB_parts {p : Int} {ts : List WRow} {p' : Int} {us : List WRow} (h : addB p ts p' us = true) : goodT p ts = true ∧ goodT p' us = true ∧ p = p' ∧ goodT p (putAll ts us) = true := by
  unfold addB at h
  simp only [Bool.and_eq_true] at h
  have := alike_parts h.1
  exact ⟨this.1, this.2.1, this.2.2, h.2⟩
/-- A map that tells a list, told as a table. -/
theorem cnt_table (b q M : Nat) (xs : List WRow) (w : World) (hx : Cnt w b q M xs) (hM : M ≤ 1000000) (h6 : q ≤ 6) :
    Calls Try.prog 26 #[.map (some b), .int .i64 q] w fun e w' => TabRet e w' w.heap.size (goodT q xs) (tellP q xs) (tellT q xs) ∧ Below w.heap.size w w' := by
  obtain ⟨cnt, D, f, S, hown, hm, hS, hT, hcM⟩ := hx
  refine (table_any b cnt D f S q w (by omega) h6 hown hm hS).mono ?_
  rintro e w' ⟨us, h1, h2, h3⟩
  rw [← h2.unique hT]
  exact ⟨h1, h3⟩

set_option maxRecDepth 100000 in
set_option maxHeartbeats 4000000 in
theorem implDistinctDelta (a a' : Option Addr) (n n' c c' : Nat) (ts ts' : List WRow) (p p' : Int) (w : World) (hz : ts.length = n) (hz' : ts'.length = n') (hn : n ≤ 1048576) (hn' : n' ≤ 1048576) (ha : AtM w a ts) (ha' : AtM w a' ts') :
    Calls Try.prog 8 #[.agg #[.int .i64 p, .slice a n c], .agg #[.int .i64 p', .slice a' n' c']] w fun e w' => TabAns e w' w.heap.size (ddB p ts p' ts') p (ddW ts ts') ∧ Below w.heap.size w w' := by
  obtain ⟨W, hW⟩ : ∃ W, W = ((w.alloc (.cells #[.int .i64 p, .slice a n c] 28)).alloc (.cells #[.int .i64 p', .slice a' n' c'] 28)).alloc (.cells #[.int .i64 0, .slice none 0 0] 28) := ⟨_, rfl⟩
  have zW : W.heap.size = w.heap.size + 1 + 1 + 1 := by rw [hW]; simp
  have B0 : Below w.heap.size w W := by rw [hW]; exact (((Below.refl _ _).alloc (Nat.le_refl _) _).alloc (by simp) _).alloc (by simp; omega) _
  have c0 : W.cell? ⟨w.heap.size, 0, none⟩ = some (.int .i64 p) := by rw [hW]; exact alloc_keeps (alloc_keeps (pair0 w _ _ _) _) _
  have c1 : W.cell? ⟨w.heap.size, 1, none⟩ = some (.slice a n c) := by rw [hW]; exact alloc_keeps (alloc_keeps (pair1 w _ _ _) _) _
  have b1 : W.cell? ⟨w.heap.size + 1, 1, none⟩ = some (.slice a' n' c') := by rw [hW]; refine alloc_keeps ?_ _; have := pair1 (w.alloc (.cells #[.int .i64 p, .slice a n c] 28)) (.int .i64 p') (.slice a' n' c') 28; rwa [World.size_alloc] at this
  have b0 : W.cell? ⟨w.heap.size + 1, 0, none⟩ = some (.int .i64 p') := by rw [hW]; refine alloc_keeps ?_ _; have := pair0 (w.alloc (.cells #[.int .i64 p, .slice a n c] 28)) (.int .i64 p') (.slice a' n' c') 28; rwa [World.size_alloc] at this
  have q0 : W.heap[w.heap.size + 1 + 1]? = some (.cells #[.int .i64 0, .slice none 0 0] 28 (0, 0)) := by
    rw [hW]
    have := heap_alloc_new ((w.alloc (.cells #[.int .i64 p, .slice a n c] 28)).alloc (.cells #[.int .i64 p', .slice a' n' c'] 28)) (.cells #[.int .i64 0, .slice none 0 0] 28)
    rwa [World.size_alloc, World.size_alloc] at this
  have e0 : W.cell? ⟨w.heap.size + 1 + 1, 0, none⟩ = some (.int .i64 0) := by rw [cell_of_row _ _ 0 _ _ (0, 0) q0]; rfl
  have e1 : W.cell? ⟨w.heap.size + 1 + 1, 1, none⟩ = some (.slice none 0 0) := by rw [cell_of_row _ _ 1 _ _ (0, 0) q0]; rfl
  have f0 : W.frozen? ⟨w.heap.size + 1 + 1, 0, none⟩ = false := frozen_of_row _ _ 0 _ _ q0
  have f1 : W.frozen? ⟨w.heap.size + 1 + 1, 1, none⟩ = false := frozen_of_row _ _ 1 _ _ q0
  have HA := ha.below B0
  have HA' := ha'.below B0
  clear ha ha' q0
  cases hg : addB p ts p' ts' with
  | false =>
    have HG := Hid.mk hg
    clear hg
    go_enter Try.func8, Try.ntmps8
    go_wp2_with fail
    rw [← hW]
    clear hW
    refine (implAddTables _ _ _ _ _ _ ts ts' _ _ _ hz hz' hn hn' HA.atW HA'.atW).mono ?_
    rintro e w1 ⟨⟨r1, m1, d1, cells1, rfl, ho1⟩, hb1⟩
    rw [HG.out]
    have B1 := B0.trans (hb1.mono B0.size)
    clear ho1 cells1
    obtain ⟨V, hV⟩ : ∃ V, V = w1.alloc (.cells #[.int .i64 (ansP false p), .slice r1 m1 d1] 28) := ⟨_, rfl⟩
    have hbV : Below w1.heap.size w1 V := by rw [hV]; exact (Below.refl _ _).alloc (Nat.le_refl _) _
    have B2 := B1.trans (hbV.mono B1.size)
    have f0 := frozen_later hb1 e0 f0
    have f1 := frozen_later hb1 e1 f1
    have e0 := cell_later hb1 e0
    have e1 := cell_later hb1 e1
    have c0 := cell_later hb1 c0
    have c1 := cell_later hb1 c1
    have b0 := cell_later hb1 b0
    have b1 := cell_later hb1 b1
    have f0 := frozen_later hbV e0 f0
    have f1 := frozen_later hbV e1 f1
    have e0 := cell_later hbV e0
    have e1 := cell_later hbV e1
    rw [hV] at e0 e1 f0 f1 B2
    clear hV hbV
    go_wp2
    refine bodyPost_ret (v := .tuple #[.agg #[.int .i64 0, .slice none 0 0], .bool false]) (by simp [results, Try.results8, go_sem, e0, e1]) rfl ⟨TabAns.zero (ddB_no HG.out) rfl, ?_⟩
    exact (B2.setCell (by show w.heap.size ≤ w.heap.size + 1 + 1; omega) _).setCell (by show w.heap.size ≤ w.heap.size + 1 + 1; omega) _
  | true =>
    have HG := Hid.mk hg
    obtain ⟨gt, gu, hpp, _⟩ := addB_parts hg
    subst hpp
    obtain ⟨q, hq⟩ : ∃ q : Nat, p = q := ⟨p.toNat, by have := inc_range (goodT_parts gt).1; omega⟩
    subst hq
    have h6 : q ≤ 6 := by have := inc_range (goodT_parts gt).1; omega
    have GT := Hid.mk gt
    have GU := Hid.mk gu
    clear hg gt gu
    go_enter Try.func8, Try.ntmps8
    go_wp2_with fail
    rw [← hW]
    clear hW
    refine (implAddTables _ _ _ _ _ _ ts ts' _ _ _ hz hz' hn hn' HA.atW HA'.atW).mono ?_
    rintro e w1 ⟨⟨r1, m1, d1, cells1, rfl, ho1⟩, hb1⟩
    rw [HG.out]
    have B1 := B0.trans (hb1.mono B0.size)
    clear ho1 cells1
    obtain ⟨V, hV⟩ : ∃ V, V = w1.alloc (.cells #[.int .i64 (ansP true q), .slice r1 m1 d1] 28) := ⟨_, rfl⟩
    have hbV : Below w1.heap.size w1 V := by rw [hV]; exact (Below.refl _ _).alloc (Nat.le_refl _) _
    have B2 := B1.trans (hbV.mono B1.size)
    have f0 := frozen_later hb1 e0 f0
    have f1 := frozen_later hb1 e1 f1
    have e0 := cell_later hb1 e0
    have e1 := cell_later hb1 e1
    have c0 := cell_later hb1 c0
    have c1 := cell_later hb1 c1
    have b0 := cell_later hb1 b0
    have b1 := cell_later hb1 b1
    have HA2 := (HA.below hb1).below hbV
    have HA2' := (HA'.below hb1).below hbV
    have HNB : Hid (ddB q ts q ts' = goodT q (ddW ts ts')) := ddB_yes HG.out
    go_wp2_with fail
    rw [← hV]
    have f0 := frozen_later hbV e0 f0
    have f1 := frozen_later hbV e1 f1
    have e0 := cell_later hbV e0
    have e1 := cell_later hbV e1
    have c0 := cell_later hbV c0
    have c1 := cell_later hbV c1
    have b0 := cell_later hbV b0
    have b1 := cell_later hbV b1
    clear hV
    refine wp_region_held_drew (S := fun w' => w'.cell? ⟨w.heap.size, 0, none⟩ = some (.int .i64 q) ∧ w'.cell? ⟨w.heap.size, 1, none⟩ = some (.slice a n c) ∧ w'.cell? ⟨w.heap.size + 1, 0, none⟩ = some (.int .i64 q) ∧ w'.cell? ⟨w.heap.size + 1, 1, none⟩ = some (.slice a' n' c')) (by kernel_rfl) ?_ (fun hHeld => ?_)
    · (try dsimp only)
      exact ⟨c0, c1, b0, b1⟩
    refine wpAnyH_take (i := 0) (oi := ?_) (v := ?_) ?_ (by kernel_rfl) (by kernel_rfl) (by kernel_rfl) ?_ (Or.inl ⟨?_, ?_⟩) (by assumption) ?_
    rotate_left 2
    · (simp only [List.getElem?_toArray, List.getElem?_cons_zero]; rfl)
    · exact fun _ _ _ h => h
    · rfl
    · (intro wS hSw; (try dsimp only at hSw); go_simp; (try with_reducible rfl))
    (try simp only [Act.put, List.setIfInBounds_toArray, List.set_cons_zero, List.set_cons_succ])
    refine wpAnyH_take (i := 2) (oi := ?_) (v := ?_) ?_ (by kernel_rfl) (by kernel_rfl) (by kernel_rfl) ?_ (Or.inl ⟨?_, ?_⟩) (by assumption) ?_
    rotate_left 2
    · (simp only [List.getElem?_toArray, List.getElem?_cons_zero, List.getElem?_cons_succ]; rfl)
    · exact fun _ _ _ h => h
    · rfl
    · (intro wS hSw; (try dsimp only at hSw); go_simp; (try with_reducible rfl))
    (try simp only [Act.put, List.setIfInBounds_toArray, List.set_cons_zero, List.set_cons_succ])
    refine wpAnyH_take (i := 5) (oi := ?_) (v := ?_) ?_ (by kernel_rfl) (by kernel_rfl) (by kernel_rfl) ?_ (Or.inl ⟨?_, ?_⟩) (by assumption) ?_
    rotate_left 2
    · (simp only [List.getElem?_toArray, List.getElem?_cons_zero, List.getElem?_cons_succ]; rfl)
    · exact fun _ _ _ h => h
    · rfl
    · (intro wS hSw; (try dsimp only at hSw); go_simp; (try with_reducible rfl))
    (try simp only [Act.put, List.setIfInBounds_toArray, List.set_cons_zero, List.set_cons_succ])
    refine wpAnyH_take (i := 6) (oi := ?_) (v := ?_) ?_ (by kernel_rfl) (by kernel_rfl) (by kernel_rfl) ?_ (Or.inl ⟨?_, ?_⟩) (by assumption) ?_
    rotate_left 2
    · (simp only [List.getElem?_toArray, List.getElem?_cons_zero, List.getElem?_cons_succ]; rfl)
    · exact fun _ _ _ h => h
    · rfl
    · (intro wS hSw; (try dsimp only at hSw); go_simp; (try with_reducible rfl))
    (try simp only [Act.put, List.setIfInBounds_toArray, List.set_cons_zero, List.set_cons_succ])
    refine wpAnyH_ready (rs := [1]) (by kernel_rfl) (by simp) ?_
    refine AllReadyH.cons (o := ?_) ?_ (fun K hK => ?_) AllReadyH.nil
    rotate_left
    · (simp only [List.getElem?_toArray, List.getElem?_cons_zero, List.getElem?_cons_succ]; rfl)
    go_simp
    go_at_call 25; refine (countsOf_any _ _ _ q ts _ _ hz GT.out HA2.drew.atW).mono ?_; rintro e w3 ⟨k3, rfl, hk3, hc3, hb3⟩; have f0 := frozen_later (w := V.drew) hb3 e0 f0; have f1 := frozen_later (w := V.drew) hb3 e1 f1; have e0 := cell_later hb3 e0; have e1 := cell_later hb3 e1; have c0 := cell_later hb3 c0; have c1 := cell_later hb3 c1; have b0 := cell_later hb3 b0; have b1 := cell_later hb3 b1; have HA3 := HA2'.drew.below hb3; have B3 := B2.drew.trans (hb3.mono B2.size)
    (try go_wp2_with fail)
    refine hK.out _ _ ?_ (fun hHeld' => ?_)
    · (try dsimp only)
      exact ⟨c0, c1, b0, b1⟩
    clear hK K hHeld
    have hHeld := hHeld'
    clear hHeld'
    (try simp only [Act.put, List.setIfInBounds_toArray, List.set_cons_zero, List.set_cons_succ])
    refine wpAnyH_ready (rs := [3]) (by kernel_rfl) (by simp) ?_
    refine AllReadyH.cons (o := ?_) ?_ (fun K hK => ?_) AllReadyH.nil
    rotate_left
    · (simp only [List.getElem?_toArray, List.getElem?_cons_zero, List.getElem?_cons_succ]; rfl)
    go_simp
    go_at_call 25; refine (countsOf_any _ _ _ q ts' _ _ hz' GU.out HA3.atW).mono ?_; rintro e w4 ⟨k4, rfl, hk4, hc4, hb4⟩; have f0 := frozen_later hb4 e0 f0; have f1 := frozen_later hb4 e1 f1; have e0 := cell_later hb4 e0; have e1 := cell_later hb4 e1; have c0 := cell_later hb4 c0; have c1 := cell_later hb4 c1; have b0 := cell_later hb4 b0; have b1 := cell_later hb4 b1; have hc3 := hc3.below hb4; have B4 := B3.trans (hb4.mono B3.size)
    (try go_wp2_with fail)
    refine hK.out _ _ ?_ (fun hHeld' => ?_)
    · (try dsimp only)
      exact ⟨c0, c1, b0, b1⟩
    clear hK K hHeld
    have hHeld := hHeld'
    clear hHeld'
    (try simp only [Act.put, List.setIfInBounds_toArray, List.set_cons_zero, List.set_cons_succ])
    refine wpAnyH_ready (rs := [4]) (by kernel_rfl) (by simp) ?_
    refine AllReadyH.cons (o := ?_) ?_ (fun K hK => ?_) AllReadyH.nil
    rotate_left
    · (simp only [List.getElem?_toArray, List.getElem?_cons_zero, List.getElem?_cons_succ]; rfl)
    go_simp
    go_at_call 24; refine (distinctDelta_any _ _ q _ _ ts ts' 1000000 1000000 _ hc3 hc4 (by omega) (by omega) (by omega) (by omega) (goodT_lst GT.out).within (goodT_lst GU.out).within).mono ?_; rintro e w5 ⟨k5, rfl, hk5, hc5, hb5⟩; have f0 := frozen_later hb5 e0 f0; have f1 := frozen_later hb5 e1 f1; have e0 := cell_later hb5 e0; have e1 := cell_later hb5 e1; have c0 := cell_later hb5 c0; have c1 := cell_later hb5 c1; have b0 := cell_later hb5 b0; have b1 := cell_later hb5 b1; have B5 := B4.trans (hb5.mono B4.size)
    (try go_wp2_with fail)
    refine hK.out _ _ ?_ (fun hHeld' => ?_)
    · (try dsimp only)
      exact ⟨c0, c1, b0, b1⟩
    clear hK K hHeld
    have hHeld := hHeld'
    clear hHeld'
    (try simp only [Act.put, List.setIfInBounds_toArray, List.set_cons_zero, List.set_cons_succ])
    refine wpAnyH_ready (rs := [7]) (by kernel_rfl) (by simp) ?_
    refine AllReadyH.cons (o := ?_) ?_ (fun K hK => ?_) AllReadyH.nil
    rotate_left
    · (simp only [List.getElem?_toArray, List.getElem?_cons_zero, List.getElem?_cons_succ]; rfl)
    go_simp
    go_at_call 26; refine (cnt_table _ q _ (ddW ts ts') _ hc5 (by omega) h6).mono ?_; rintro e w6 ⟨⟨r6, m6, d6, cells6, rfl, ho6⟩, hb6⟩; have t0 := frozen_later hb6 e0 f0; have t1 := frozen_later hb6 e1 f1; have s0 := cell_later hb6 e0; have s1 := cell_later hb6 e1; have i0 := cell_later hb6 c0; have i1 := cell_later hb6 c1; have j0 := cell_later hb6 b0; have j1 := cell_later hb6 b1
    (try go_wp2_with fail)
    refine hK.out _ _ ?_ (fun hHeld' => ?_)
    · (try dsimp only)
      exact ⟨i0, i1, j0, j1⟩
    clear hK K hHeld
    have hHeld := hHeld'
    clear hHeld'
    (try simp only [Act.put, List.setIfInBounds_toArray, List.set_cons_zero, List.set_cons_succ])
    refine wpAnyH_take (i := 8) (oi := ?_) (v := ?_) ?_ (by kernel_rfl) (by kernel_rfl) (by kernel_rfl) ?_ (Or.inl ⟨?_, ?_⟩) (by assumption) ?_
    rotate_left 2
    · (simp only [List.getElem?_toArray, List.getElem?_cons_zero, List.getElem?_cons_succ]; rfl)
    · exact fun _ _ _ h => h
    · rfl
    · (intro wS hSw; (try dsimp only at hSw); go_simp; (try with_reducible rfl))
    (try simp only [Act.put, List.setIfInBounds_toArray, List.set_cons_zero, List.set_cons_succ])
    refine wpAnyH_take (i := 9) (oi := ?_) (v := ?_) ?_ (by kernel_rfl) (by kernel_rfl) (by kernel_rfl) ?_ (Or.inl ⟨?_, ?_⟩) (by assumption) ?_
    rotate_left 2
    · (simp only [List.getElem?_toArray, List.getElem?_cons_zero, List.getElem?_cons_succ]; rfl)
    · exact fun _ _ _ h => h
    · rfl
    · (intro wS hSw; (try dsimp only at hSw); go_simp; (try with_reducible rfl))
    (try simp only [Act.put, List.setIfInBounds_toArray, List.set_cons_zero, List.set_cons_succ])
    refine wpAnyH_ready (rs := [10]) (by kernel_rfl) (by simp) ?_
    refine AllReadyH.cons (o := ?_) ?_ (fun K hK => ?_) AllReadyH.nil
    rotate_left
    · (simp only [List.getElem?_toArray, List.getElem?_cons_zero, List.getElem?_cons_succ]; rfl)
    go_simp
    skip
    (try go_wp2_with fail)
    refine hK.out _ _ ?_ (fun hHeld' => ?_)
    · (try dsimp only)
      exact ⟨keep_far (keep_far i0 (by omega)) (by omega), keep_far (keep_far i1 (by omega)) (by omega), keep_far (keep_far j0 (by omega)) (by omega), keep_far (keep_far j1 (by omega)) (by omega)⟩
    clear hK K hHeld
    have hHeld := hHeld'
    clear hHeld'
    (try simp only [Act.put, List.setIfInBounds_toArray, List.set_cons_zero, List.set_cons_succ])
    refine wpAnyH_take (i := 11) (oi := ?_) (v := ?_) ?_ (by kernel_rfl) (by kernel_rfl) (by kernel_rfl) ?_ (Or.inl ⟨?_, ?_⟩) (by assumption) ?_
    rotate_left 2
    · (simp only [List.getElem?_toArray, List.getElem?_cons_zero, List.getElem?_cons_succ]; rfl)
    · exact fun _ _ _ h => h
    · rfl
    · (intro wS hSw; (try dsimp only at hSw); go_simp; (try with_reducible rfl))
    (try simp only [Act.put, List.setIfInBounds_toArray, List.set_cons_zero, List.set_cons_succ])
    refine wpAnyH_done (by kernel_rfl) ?_ _
    have B6 := B5.trans (hb6.mono B5.size)
    have zR : w.heap.size + 1 + 1 < w5.heap.size := World.block_lt_of_cell? _ _ (by assumption : w5.cell? ⟨w.heap.size + 1 + 1, 0, none⟩ = _)
    have e0 := s0
    have e1 := s1
    clear HA HA' HA2 HA2' HA3 hb1 hbV hb3 hb4 hb5 hb6 hHeld hc3 hc4 hc5
    go_wp2
    refine bodyPost_ret (v := .tuple #[.agg #[.int .i64 _, .slice r6 m6 d6], .bool _]) (by simp [results, Try.results8, go_sem, e0, e1]) rfl ⟨TabAns.tell HNB.out ⟨r6, m6, d6, cells6, rfl, ho6.stored zR (by omega) _ _⟩, ?_⟩
    exact (B6.setCell (by show w.heap.size ≤ w.heap.size + 1 + 1; omega) _).setCell (by show w.heap.size ≤ w.heap.size + 1 + 1; omega) _
end Go.Proofs.Ytmkhdocjabflkab
