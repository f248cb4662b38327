/- Several texts of one proof, in build order: NewT, AddT, SpecA, OfW. -/
import Derived.Test.YtmkhdocjabflkaaM25
import Derived.Test.YtmkhdocjabflkaaM18
import Derived.Test.YtmkhdocjabflkaaM9
import Derived.Test.YtmkhdocjabflkaaM12
import Derived.Test.YtmkhdocjabflkaaM8
import Derived.Test.YtmkhdocjabflkaaM4
import Derived.Test.YtmkhdocjabflkaaM11

/- Contracts of impl.NewTable, impl.AddTables, impl.ScaleTable, impl.NegateTable, impl.EmptyTable. -/
namespace Go.Proofs.Ytmkhdocjabflkaa
open Go.RowKit Go.Maps

end Go.Proofs.Ytmkhdocjabflkaa

/- Contracts of impl.goodAlike, impl.AddTables, impl.ScaleTable, impl.NegateTable, impl.EmptyTable. -/
namespace Go.Proofs.Ytmkhdocjabflkaa
open Go.RowKit Go.Maps

/-- What AddTables tells. -/
def addB (p : Int) (ts : List WRow) (p' : Int) (ts' : List WRow) : Bool := alike p ts p' ts' && goodT p (putAll ts ts')
theorem addB_no {p : Int} {ts : List WRow} {p' : Int} {ts' : List WRow} (h : alike p ts p' ts' = false) : addB p ts p' ts' = false := by simp [addB, h]
theorem addB_yes {p : Int} {ts : List WRow} {p' : Int} {ts' : List WRow} (h : alike p ts p' ts' = true) : addB p ts p' ts' = goodT p (putAll ts ts') := by simp [addB, h]
theorem sumAt_bound {ts : List WRow} {p : Int} (h : goodT p ts = true) {n : Nat} (hn : ts.length = n) (x : List Int) : -1000000000000 ≤ sumAt ts n 1 x ∧ sumAt ts n 1 x ≤ 1000000000000 := by
  have h60 := goodT_len60 h
  have key : ∀ k, k ≤ n → -1000000 * (k : Int) ≤ sumAt ts k 1 x ∧ sumAt ts k 1 x ≤ 1000000 * (k : Int) := by
    intro k hk
    induction k with
    | zero => simp [sumAt_zero]
    | succ k ih =>
      have hi := ih (by omega)
      have hg := goodT_cells h k (by omega)
      rw [sumAt_succ ts k 1 x (by omega)]
      by_cases e : raised (wat ts k).1 = x
      · rw [if_pos e]; push_cast; omega
      · rw [if_neg e]; push_cast; omega
  have := key n (Nat.le_refl _)
  omega
theorem tells_add {q n n' : Nat} {ts ts' : List WRow} (hz : ts.length = n) (hz' : ts'.length = n') (h : goodT q ts = true) (h' : goodT q ts' = true) : Tells q (fun x => sumAt ts n 1 x + sumAt ts' n' 1 x) (putAll ts ts') :=
  tells_put (goodT_rises h) (goodT_noZero h) (goodT_mem h) (goodT_mem h') fun zs h1 _ => by
    rw [sumAt_sumW hz 1 (fun t ht => (goodT_mem h t ht).1) h1, sumAt_sumW hz' 1 (fun t ht => (goodT_mem h' t ht).1) h1, sumW_rises (goodT_rises h)]; omega

set_option maxRecDepth 100000 in
set_option maxHeartbeats 4000000 in
theorem implAddTables (a a' : Option Addr) (n n' c c' : Nat) (ts ts' : List WRow) (p p' : Int) (w : World) (hz : ts.length = n) (hz' : ts'.length = n') (hn : n ≤ 1048576) (hn' : n' ≤ 1048576) (ha : AtW w a ts) (ha' : AtW w a' ts') :
    Calls Try.prog 13 #[.agg #[.int .i64 p, .slice a n c], .agg #[.int .i64 p', .slice a' n' c']] w fun e w' => TabAns e w' w.heap.size (addB p ts p' ts') p (putAll ts ts') ∧ Below w.heap.size w w' := by
  obtain ⟨W, hW⟩ : ∃ W, W = ((w.alloc (.cells #[.int .i64 p, .slice a n c] 25)).alloc (.cells #[.int .i64 p', .slice a' n' c'] 25)).alloc (.cells #[.int .i64 0, .slice none 0 0] 25) := ⟨_, rfl⟩
  have zW : W.heap.size = w.heap.size + 1 + 1 + 1 := by rw [hW]; simp
  have B0 : Below w.heap.size w W := by rw [hW]; exact (((Below.refl _ _).alloc (Nat.le_refl _) _).alloc (by simp) _).alloc (by simp; omega) _
  have c0 : W.cell? ⟨w.heap.size, 0, none⟩ = some (.int .i64 p) := by rw [hW]; exact alloc_keeps (alloc_keeps (pair0 w _ _ _) _) _
  have c1 : W.cell? ⟨w.heap.size, 1, none⟩ = some (.slice a n c) := by rw [hW]; exact alloc_keeps (alloc_keeps (pair1 w _ _ _) _) _
  have b1 : W.cell? ⟨w.heap.size + 1, 1, none⟩ = some (.slice a' n' c') := by rw [hW]; refine alloc_keeps ?_ _; have := pair1 (w.alloc (.cells #[.int .i64 p, .slice a n c] 25)) (.int .i64 p') (.slice a' n' c') 25; rwa [World.size_alloc] at this
  have b0 : W.cell? ⟨w.heap.size + 1, 0, none⟩ = some (.int .i64 p') := by rw [hW]; refine alloc_keeps ?_ _; have := pair0 (w.alloc (.cells #[.int .i64 p, .slice a n c] 25)) (.int .i64 p') (.slice a' n' c') 25; rwa [World.size_alloc] at this
  have q0 : W.heap[w.heap.size + 1 + 1]? = some (.cells #[.int .i64 0, .slice none 0 0] 25 (0, 0)) := by
    rw [hW]
    have := heap_alloc_new ((w.alloc (.cells #[.int .i64 p, .slice a n c] 25)).alloc (.cells #[.int .i64 p', .slice a' n' c'] 25)) (.cells #[.int .i64 0, .slice none 0 0] 25)
    rwa [World.size_alloc, World.size_alloc] at this

  have e0 : W.cell? ⟨w.heap.size + 1 + 1, 0, none⟩ = some (.int .i64 0) := by rw [cell_of_row _ _ 0 _ _ (0, 0) q0]; rfl
  have e1 : W.cell? ⟨w.heap.size + 1 + 1, 1, none⟩ = some (.slice none 0 0) := by rw [cell_of_row _ _ 1 _ _ (0, 0) q0]; rfl
  have f0 : W.frozen? ⟨w.heap.size + 1 + 1, 0, none⟩ = false := frozen_of_row _ _ 0 _ _ q0
  have f1 : W.frozen? ⟨w.heap.size + 1 + 1, 1, none⟩ = false := frozen_of_row _ _ 1 _ _ q0
  have HA := ha.below B0
  have HA' := ha'.below B0
  clear ha ha' q0
  go_enter Try.func13, Try.ntmps13
  go_wp2_with fail
  rw [← hW]
  clear hW
  refine (goodAlike_any _ _ _ _ _ _ ts ts' _ _ _ hz hz' hn hn' HA HA').mono ?_
  rintro e w1 ⟨rfl, hb1⟩
  have B1 := B0.trans (hb1.mono B0.size)
  have g0 := cell_later hb1 e0
  have g1 := cell_later hb1 e1
  have k0 := frozen_later hb1 e0 f0
  have k1 := frozen_later hb1 e1 f1
  have c0 := cell_later hb1 c0
  have c1 := cell_later hb1 c1
  have b1 := cell_later hb1 b1
  have HA := HA.below hb1
  have HA' := HA'.below hb1
  clear e0 e1 f0 f1 b0 hb1
  cases hal : alike p ts p' ts' with
  | false =>
    have HL := Hid.mk hal
    clear hal
    go_wp2
    refine bodyPost_ret (v := .tuple #[.agg #[.int .i64 0, .slice none 0 0], .bool false]) (by simp [results, Try.results13, go_sem, g0, g1]) rfl ⟨TabAns.zero (addB_no HL.out) rfl, ?_⟩
    exact (B1.setCell (by show w.heap.size ≤ w.heap.size + 1 + 1; omega) _).setCell (by show w.heap.size ≤ w.heap.size + 1 + 1; omega) _
  | true =>
    have HL := Hid.mk hal
    obtain ⟨hg, hg', rfl⟩ := alike_parts hal
    obtain ⟨q, hq⟩ : ∃ q : Nat, p = q := ⟨p.toNat, by have := inc_range (goodT_parts hg).1; omega⟩
    subst hq
    have h6 : q ≤ 6 := by have := inc_range (goodT_parts hg).1; omega
    have n60 := goodT_len60 hg
    have n60' := goodT_len60 hg'
    have HGC := Hid.mk hg
    have HGC' := Hid.mk hg'
    clear hal hg hg'
    go_wp2_with fail
    refine (sumsOf_any _ _ _ ts _ _ hz (by omega) (by decide) (by decide) (fun k hk => goodT_cells HGC.out k (by omega)) HA).mono ?_
    rintro e w2 ⟨b, D, rfl, hbb, ho2, hm2, hb2⟩
    have B2 := B1.trans (hb2.mono B1.size)
    have g0 := cell_later hb2 g0
    have k0 := frozen_later hb2 (by assumption) k0
    have k1 := frozen_later hb2 g1 k1
    have g1 := cell_later hb2 g1
    have c0 := cell_later hb2 c0
    have b1 := cell_later hb2 b1
    have HA' := HA'.below hb2
    have z1 : w.heap.size + 1 + 1 < w1.heap.size := World.block_lt_of_cell? _ _ (by assumption : w1.cell? ⟨w.heap.size + 1 + 1, 1, none⟩ = _)
    go_wp2_with fail
    refine (add_any b n D _ _ _ _ _ ts' _ _ hz' (by omega) (by omega) (by decide) (by decide) (fun k hk => goodT_cells HGC'.out k (by omega)) (fun x => sumAt_bound HGC.out hz x) HA' ho2 hm2).mono ?_
    rintro e w3 ⟨rfl, D', ho3, hm3, hg3⟩
    have B3 := B2.grown hg3 B2.size (fun j hj => by cases hj; have := B1.size; omega)
    have kk0 : w3.frozen? ⟨w.heap.size + 1 + 1, 0, none⟩ = false := (World.frozen?_of_block (hg3.block (w.heap.size + 1 + 1) (by have := hb2.size; omega) (by simp; omega))).trans k0
    have kk1 : w3.frozen? ⟨w.heap.size + 1 + 1, 1, none⟩ = false := (World.frozen?_of_block (hg3.block (w.heap.size + 1 + 1) (by have := hb2.size; omega) (by simp; omega))).trans k1
    have g0 := hg3.cell g0 (by simp; omega)
    have g1 := hg3.cell g1 (by simp; omega)
    have c0 := hg3.cell c0 (by simp; omega)
    go_wp2_with fail
    refine (table_any b (n + n') D' _ _ q _ (by omega) h6 ho3 hm3 (keys_append (keys_list (goodL_of_goodT HGC'.out) _) (keys_list (goodL_of_goodT HGC.out) _))).mono ?_
    rintro e w4 ⟨us, ⟨r4, m4, d4, cells4, rfl, ho4⟩, hT, hb4⟩
    have hus : us = putAll ts ts' := hT.unique (tells_add hz hz' HGC.out HGC'.out)
    subst hus
    have B4 := B3.trans (hb4.mono B3.size)
    have s0 := cell_later hb4 g0
    have s1 := cell_later hb4 g1
    have i0 := frozen_later hb4 g0 kk0
    have i1 := frozen_later hb4 g1 kk1
    have z3 : w.heap.size + 1 + 1 < w3.heap.size := World.block_lt_of_cell? _ _ g0
    have HNB : Hid (addB q ts q ts' = goodT q (putAll ts ts')) := addB_yes HL.out
    clear c0 c1 b1 HA HA' ho2 hm2 ho3 hm3 hT hb2 hb4 hg3
    go_wp2
    refine bodyPost_ret (v := .tuple #[.agg #[.int .i64 (tellP q (putAll ts ts')), .slice r4 m4 d4], .bool (goodT q (putAll ts ts'))]) (by simp [results, Try.results13, go_sem, s0, s1]) rfl ⟨TabAns.tell HNB.out ⟨r4, m4, d4, cells4, rfl, ho4.stored z3 (by omega) _ _⟩, ?_⟩
    exact (B4.setCell (by show w.heap.size ≤ w.heap.size + 1 + 1; omega) _).setCell (by show w.heap.size ≤ w.heap.size + 1 + 1; omega) _

end Go.Proofs.Ytmkhdocjabflkaa

/- Contracts of spec.l2Add and spec.l2Scale. -/
namespace Go.Proofs.Ytmkhdocjabflkaa
open Go.RowKit

theorem wrap64_in {v : Int} (h1 : -9223372036854775808 ≤ v) (h2 : v ≤ 9223372036854775807) : wrap64 v = v := by unfold wrap64; omega

/-- Weights that were put stay within their sum. -/
theorem putAll_ok {ts l : List WRow} {M0 M : Int} (h0 : 0 ≤ M0) (hM : 0 ≤ M) (hr : Rises ts) (ht : ∀ t ∈ ts, t.1.length ≤ 6 ∧ -M0 ≤ t.2 ∧ t.2 ≤ M0) (hl : ∀ t ∈ l, t.1.length ≤ 6 ∧ -M ≤ t.2 ∧ t.2 ≤ M) :
    ∀ t ∈ putAll ts l, t.1.length ≤ 6 ∧ -(M0 + M * l.length) ≤ t.2 ∧ t.2 ≤ M0 + M * l.length := fun t h => by
  have h6 : t.1.length ≤ 6 := by
    rcases putAll_rows h with ⟨s, hs, e⟩ | ⟨s, hs, e⟩
    · rw [← e]; exact (ht s hs).1
    · rw [← e]; exact (hl s hs).1
  have hw := wOf_mem (putAll_rises (l := l) hr) h
  rw [putAll_wOf t.1 hr] at hw
  have b1 := wOf_bound (zs := t.1) h0 (fun s hs => (ht s hs).2)
  have b2 := sumW_bound (zs := t.1) hM (fun s hs => (hl s hs).2)
  omega

theorem mem_of_at {ts : List WRow} {Q : WRow → Prop} (h : ∀ k, k < ts.length → Q (wat ts k)) : ∀ t ∈ ts, Q t := fun t ht => by
  obtain ⟨k, hk, rfl⟩ := List.getElem_of_mem ht
  have := h k hk
  rwa [show wat ts k = ts[k] by simp [wat, List.getD, hk]] at this

set_option maxRecDepth 100000 in
set_option maxHeartbeats 4000000 in
theorem l2Add_gen (a a' : Option Addr) (n n' c c' : Nat) (ts ts' : List WRow) (w : World) (hz : ts.length = n) (hz' : ts'.length = n') (hn : n ≤ 500000) (hn' : n' ≤ 500000) (hF : Formed a n c)
    (hgo : ∀ k, k ≤ n' → ∀ t ∈ putAll ts (ts'.take k), t.1.length ≤ 6 ∧ -4000000000000000000 ≤ t.2 ∧ t.2 ≤ 4000000000000000000) (hg' : ∀ t ∈ ts', t.1.length ≤ 6 ∧ -4000000000000000000 ≤ t.2 ∧ t.2 ≤ 4000000000000000000) (ha : AtM w a ts) (ha' : AtM w a' ts') :
    Calls Try.prog 66 #[.slice a n c, .slice a' n' c'] w fun e w' => ∃ r k d, e = .returned (.slice r k d) ∧ (putAll ts ts').length = k ∧ Formed r k d ∧ AtM w' r (putAll ts ts') ∧ Below w.heap.size w w' := by
  go_enter Try.func66, Try.ntmps66
  go_wp2
  go_loopw [5, 11] (fun o i wr => ∃ (k : Nat) (r : Option Addr) (m d : Nat), k ≤ n' ∧ i = .int .i64 k ∧ o = .slice r m d ∧ (putAll ts (ts'.take k)).length = m ∧ Formed r m d ∧ AtM wr r (putAll ts (ts'.take k)) ∧ Below w.heap.size w wr) (fun _ i _ => n' - (intOf i).toNat)
  case atStart => exact ⟨0, a, n, c, Nat.zero_le _, rfl, rfl, hz, hF, ha, Below.refl _ _⟩
  case round =>
    obtain ⟨k, r, m, d, hk, rfl, rfl, hm, hFr, har, hbw⟩ := hrel
    by_cases hlt : k < n'
    · obtain ⟨b, off, rfl, hc⟩ := (ha'.below hbw).some (by omega)
      obtain ⟨q, dd, hcx, hwx, hm1, hnil, hat⟩ := hc k (by omega)
      have hgk := at_of_mem hg' k (by omega)
      have HS := Hid.mk (putAll_take ts ts' k (by omega))
      have hki : (k : Int) < (n' : Int) := by omega
      have hml : m ≤ n + k := by have := putAll_len (ts'.take k) ts; rw [List.length_take] at this; omega
      have hok : ∀ j, j < m → (wat (putAll ts (ts'.take k)) j).1.length ≤ 6 ∧ -4000000000000000000 ≤ (wat (putAll ts (ts'.take k)) j).2 ∧ (wat (putAll ts (ts'.take k)) j).2 ≤ 4000000000000000000 := fun j hj => at_of_mem (hgo k hk) j (show j < (putAll ts (ts'.take k)).length by omega)
      generalize wat ts' k = Y at *
      obtain ⟨ys, x⟩ := Y
      simp only at hcx hwx hat hm1 hgk HS
      obtain ⟨m2, hmm⟩ : ∃ m2, ys.length = m2 := ⟨_, rfl⟩
      rw [hmm] at hcx hm1 hgk
      have HM := Hid.mk hmm
      obtain ⟨h6, hx1, hx2⟩ := hgk
      obtain ⟨V, hV⟩ : ∃ V, V = wr.alloc (.cells #[.slice q m2 dd, .int .i64 x] 90) := ⟨_, rfl⟩
      have hbV : Below wr.heap.size wr V := by rw [hV]; exact (Below.refl _ _).alloc (Nat.le_refl _) _
      have B1 := hbw.trans (hbV.mono hbw.size)
      clear hmm hc
      go_wp2_with fail
      rw [← hV]
      clear hV hcx hwx
      refine (l2Put_any _ _ _ _ _ _ (putAll ts (ts'.take k)) ys x _ hm HM.out (by omega) hFr h6 hnil hok (by omega) (by omega) (har.below hbV) (hat.below hbV)).mono ?_
      rintro e w2 ⟨r2, m3, d2, rfl, hm3, hF2, ha2, hb2⟩
      rw [← HS.out] at hm3 ha2
      have HM3 := Hid.mk hm3
      have HF2 := Hid.mk hF2
      have HA2 := Hid.mk ha2
      have HB := Hid.mk (B1.trans (hb2.mono B1.size))
      clear hm3 hF2 ha2 hb2 B1 hbw har hm hFr hok hat hbV
      go_wp2
      go_roundw
      case rel => exact ⟨k + 1, _, _, _, by omega, by go_num, rfl, HM3.out, HF2.out, HA2.out, HB.out⟩
      case measure => simp [intOf]; omega
    · obtain rfl : k = n' := by omega
      rw [wtake_all' ts' hz'] at hm har
      go_wp2
      go_ret
      exact ⟨_, _, _, rfl, hm, hFr, har, hbw⟩

theorem l2Add_any (a a' : Option Addr) (n n' c c' : Nat) (ts ts' : List WRow) (w : World) (hz : ts.length = n) (hz' : ts'.length = n') (hn : n ≤ 2048) (hn' : n' ≤ 2048) (hF : Formed a n c) (hr : Rises ts)
    (hg : ∀ t ∈ ts, t.1.length ≤ 6 ∧ -1000000 ≤ t.2 ∧ t.2 ≤ 1000000) (hg' : ∀ t ∈ ts', t.1.length ≤ 6 ∧ -1000000 ≤ t.2 ∧ t.2 ≤ 1000000) (ha : AtM w a ts) (ha' : AtM w a' ts') :
    Calls Try.prog 66 #[.slice a n c, .slice a' n' c'] w fun e w' => ∃ r k d, e = .returned (.slice r k d) ∧ (putAll ts ts').length = k ∧ Formed r k d ∧ AtM w' r (putAll ts ts') ∧ Below w.heap.size w w' := by
  refine l2Add_gen a a' n n' c c' ts ts' w hz hz' (by omega) (by omega) hF (fun k hk t ht => ?_) (fun t ht => by have := hg' t ht; omega) ha ha'
  have := putAll_ok (M0 := 1000000) (M := 1000000) (by omega) (by omega) hr hg (fun t ht => hg' t (List.mem_of_mem_take ht)) t ht
  rw [List.length_take] at this
  refine ⟨this.1, ?_, ?_⟩ <;> omega


theorem scaleW_take (ts : List WRow) (t : Int) (k : Nat) (h : k < ts.length) (ht : t ≠ 0) : scaleW (ts.take (k + 1)) t = scaleW (ts.take k) t ++ [((wat ts k).1, t * (wat ts k).2)] := by
  unfold scaleW
  rw [if_neg ht, if_neg ht, wtake_succ ts k h, List.map_append]
  rfl
theorem scaleW_len (ts : List WRow) (t : Int) (ht : t ≠ 0) : (scaleW ts t).length = ts.length := by unfold scaleW; rw [if_neg ht, List.length_map]

set_option maxRecDepth 100000 in
set_option maxHeartbeats 4000000 in
theorem l2Scale_any (a : Option Addr) (n c : Nat) (ts : List WRow) (t : Int) (w : World) (hz : ts.length = n) (hn : n ≤ 2048) (h1 : -1000 ≤ t) (h2 : t ≤ 1000)
    (hg : ∀ s ∈ ts, s.1.length ≤ 6 ∧ -1000000 ≤ s.2 ∧ s.2 ≤ 1000000) (ha : AtM w a ts) :
    Calls Try.prog 81 #[.slice a n c, .int .i64 t] w fun e w' => ∃ r k d, e = .returned (.slice r k d) ∧ (scaleW ts t).length = k ∧ AtM w' r (scaleW ts t) ∧ Below w.heap.size w w' := by
  obtain ⟨i0, hi, hz0, hz1, hz2⟩ := info_parts Try.infoW
  by_cases ht : t = 0
  · have hne : (t != 0) = false := by simp [ht]
    have HT := Hid.mk ht
    clear ht
    go_enter Try.func81, Try.ntmps81
    go_wp2
    go_loopw [5, 10] (fun o i wr => ∃ (k : Nat), k ≤ n ∧ i = .int .i64 k ∧ o = .slice none 0 0 ∧ Below w.heap.size w wr) (fun _ i _ => n - (intOf i).toNat)
    case atStart => exact ⟨0, Nat.zero_le _, rfl, rfl, Below.refl _ _⟩
    case round =>
      obtain ⟨k, hk, rfl, rfl, hbw⟩ := hrel
      by_cases hlt : k < n
      · obtain ⟨b, off, rfl, hc⟩ := (ha.below hbw).some (by omega)
        obtain ⟨q, dd, hcx, hwx, hm1, hnil, hat⟩ := hc k (by omega)
        have hki : (k : Int) < (n : Int) := by omega
        clear hc
        go_wp2
        go_roundw
        case rel => exact ⟨k + 1, by omega, by go_num, rfl, hbw.alloc hbw.size _⟩
        case measure => simp [intOf]; omega
      · go_wp2
        go_ret
        have hs : scaleW ts t = [] := if_pos HT.out
        rw [hs]
        exact ⟨_, _, _, rfl, rfl, atM_nil _ _, hbw⟩
  · have hne : (t != 0) = true := by simp [ht]
    have HT := Hid.mk ht
    clear ht
    go_enter Try.func81, Try.ntmps81
    go_wp2
    go_loopw [5, 10] (fun o i wr => ∃ (k : Nat) (r : Option Addr) (d : Nat) (cs : List Value), k ≤ n ∧ i = .int .i64 k ∧ o = .slice r k d ∧ wr.ownsRow w.heap.size 90 2 (.slice r k d) k cs ∧ Means w cs (scaleW (ts.take k) t) ∧ Below w.heap.size w wr) (fun _ i _ => n - (intOf i).toNat)
    case atStart => exact ⟨0, none, 0, [], Nat.zero_le _, rfl, rfl, World.ownsRow_nil _ _ _ _, by rw [show scaleW (ts.take 0) t = [] by unfold scaleW; rw [if_neg HT.out]; rfl]; trivial, Below.refl _ _⟩
    case round =>
      obtain ⟨k, r, d, cs, hk, rfl, rfl, ho, hme, hbw⟩ := hrel
      by_cases hlt : k < n
      · obtain ⟨b, off, rfl, hc⟩ := ha.some (by omega)
        obtain ⟨q, dd, hcx, hwx, hm1, hnil, hat⟩ := hc k (by omega)
        have hgk := at_of_mem hg k (by omega)
        have HS := Hid.mk (scaleW_take ts t k (by omega) HT.out)
        have hki : (k : Int) < (n : Int) := by omega
        generalize wat ts k = Y at *
        obtain ⟨ys, x⟩ := Y
        simp only at hcx hwx hat hm1 hgk HS
        obtain ⟨m2, hmm⟩ : ∃ m2, ys.length = m2 := ⟨_, rfl⟩
        rw [hmm] at hcx hm1 hgk
        have HM := Hid.mk hmm
        obtain ⟨h6, hx1, hx2⟩ := hgk
        have hmul := mul_bound hx1 hx2 h1 h2
        have hmw : IntKind.i64.wrap (t * x) = t * x := IntWalk.i64_in _ (by rw [Int.mul_comm]; omega)
        have HATW := Hid.mk hat
        have hcx := cell_later hbw hcx
        have hwx := cell_later hbw hwx
        obtain ⟨V, hV⟩ : ∃ V, V = wr.alloc (.cells #[.slice q m2 dd, .int .i64 x] 90) := ⟨_, rfl⟩
        have hbV : Below wr.heap.size wr V := by rw [hV]; exact (Below.refl _ _).alloc (Nat.le_refl _) _
        have c3 : V.cell? ⟨wr.heap.size, 0, none⟩ = some (.slice q m2 dd) := by rw [hV]; exact pair0 wr _ _ _
        have c4 : V.cell? ⟨wr.heap.size, 1, none⟩ = some (.int .i64 x) := by rw [hV]; exact pair1 wr _ _ _
        have zV : V.heap.size = wr.heap.size + 1 := by rw [hV]; simp
        have oV := owns_below ho hbV
        have zz := hbw.size
        clear hmm hc hat
        obtain ⟨y, hy⟩ : ∃ y, y = t * x := ⟨_, rfl⟩
        have hmw2 : wrap64 (t * x) = y := by rw [hy]; exact wrap64_in (by rw [Int.mul_comm]; omega) (by rw [Int.mul_comm]; omega)
        rw [← hy] at HS
        clear hy hmw
        subst hV
        go_wp2_with (at_builtin; refine wpList_append_lies _ rfl (.tmp 16) (.tmp 24) 23 rfl w.heap.size 90 i0 (.agg #[.slice none 0 0, .int .i64 0]) 2 32 Try.underlying23 hi hz0 hz1 hz2 rfl (by decide) (.slice r k d) k cs rfl (oV.alloc _) ⟨wr.heap.size + 1, 0, none⟩ 1 1 [.slice q m2 dd, .int .i64 y] (by simp [Act.eval]) rfl (by simpa using news_at (wr.alloc (.cells #[.slice q m2 dd, .int .i64 x] 90)) #[.slice q m2 dd, .int .i64 y] 90) (by intro u hu; simp at hu; rcases hu with rfl | rfl <;> rfl) (by decide) (by unfold maxLen; omega) (by omega) (by simp; omega) (wr.heap.size + 1 + 1) (by simp) ?_; intro g2 cap2 w4 hown4 hgrow4 hat4 hlt4)
        have hgr : wr.grownBy w4 (Value.slice r k d).ownBlock := grown_alloc (grown_alloc hgrow4)
        have B4 : Below w.heap.size w w4 := hbw.grown hgr hbw.size (fun j hj => (ho.lt j hj).1)
        have HB := Hid.mk B4
        have HO := Hid.mk hown4
        have HME : Hid (Means w (cs ++ [.slice q m2 dd, .int .i64 y]) (scaleW (ts.take (k + 1)) t)) := by
          show Means _ _ _
          rw [HS.out]
          exact hme.append (Means.one HM.out (by omega) hnil HATW.out)
        clear hown4 hgrow4 hat4 hlt4 hgr B4 ho hme hbw hcx hwx c3 c4 oV hbV
        go_wp2
        go_roundw
        case rel => exact ⟨k + 1, _, _, _, by omega, by go_num, rfl, HO.out, HME.out, HB.out⟩
        case measure => simp [intOf]; omega
      · obtain rfl : k = n := by omega
        rw [wtake_all' ts hz] at hme
        have hl : (scaleW ts t).length = k := by rw [scaleW_len ts t HT.out]; exact hz
        go_wp2
        go_ret
        exact ⟨_, _, _, rfl, hl, (hme.below hbw).ownedM hl ho, hbw⟩

end Go.Proofs.Ytmkhdocjabflkaa

/- Contract of spec.l2Of, and what sums of a table's own rows are. -/
namespace Go.Proofs.Ytmkhdocjabflkaa
open Go.RowKit Go.Maps

theorem sumAt_wOf {ts : List WRow} {zs : List Int} (hg : ∀ t ∈ ts, good t.1 = true) (hz : good zs = true) (hr : Rises ts) : sumAt ts ts.length 1 (raised zs) = wOf ts zs := by
  unfold sumAt
  rw [List.take_length]
  induction ts with
  | nil => rfl
  | cons t ts ih =>
    obtain ⟨h1, h2⟩ := List.pairwise_cons.1 hr
    rw [List.map_cons, List.sum_cons, ih (fun s hs => hg s (by simp [hs])) h2, wOf_cons]
    by_cases e : t.1 = zs
    · rw [if_pos (by rw [e]), if_pos e, wOf_absent (fun s hs => by rw [← e]; exact (cmp_ne (h1 s hs)).symm)]; omega
    · rw [if_neg (fun h => e (raised_inj (hg t (by simp)) hz h)), if_neg e]; omega
theorem goodT_rows {p : Int} {ts : List WRow} (h : goodT p ts = true) : ∀ t ∈ ts, good t.1 = true := fun t ht => by
  obtain ⟨k, hk, rfl⟩ := List.getElem_of_mem ht
  have := (goodW_cells (stepB_good ((goodT_parts h).2.2 k hk))).1
  simpa [wat, List.getD, hk] using this

set_option maxHeartbeats 2000000 in
theorem l2Of_any (a a' : Option Addr) (n n' c c' : Nat) (ts : List WRow) (p : Int) (zs : List Int) (w : World) (hz : ts.length = n) (hz' : zs.length = n') (hn : n ≤ 1048576) (l6 : n' ≤ 6) (hgr : ∀ k, k < n → (wat ts k).1.length ≤ 6) (ha : AtW w a ts) (ha' : At w a' zs) :
    Calls Try.prog 67 #[.agg #[.int .i64 p, .slice a n c], .agg #[.slice a' n' c']] w fun e w' => e = .returned (.int .i64 (wOf ts zs)) ∧ Below w.heap.size w w' := by
  obtain ⟨W, hW⟩ : ∃ W, W = (w.alloc (.cells #[.int .i64 p, .slice a n c] 25)).alloc (.cells #[.slice a' n' c'] 88) := ⟨_, rfl⟩
  have B0 : Below w.heap.size w W := by rw [hW]; exact ((Below.refl _ _).alloc (Nat.le_refl _) _).alloc (by simp) _
  have t0 : W.cell? ⟨w.heap.size, 1, none⟩ = some (.slice a n c) := by rw [hW]; simp
  have p0 : W.cell? ⟨w.heap.size, 0, none⟩ = some (.int .i64 p) := by rw [hW]; simp
  have r0 : W.cell? ⟨w.heap.size + 1, 0, none⟩ = some (.slice a' n' c') := by rw [hW]; simp
  have HA := ha.below B0
  have HR := ha'.below B0
  clear ha ha'
  go_enter Try.func67, Try.ntmps67
  go_wp2
  rw [← hW]
  clear hW
  go_loopw [10] (fun i wr => ∃ (k : Nat), k ≤ n ∧ i = .int .i64 k ∧ wOf ts zs = wOf (ts.drop k) zs ∧ Below W.heap.size W wr) (fun i _ => n - (intOf i).toNat)
  case atStart => exact ⟨0, Nat.zero_le _, rfl, rfl, Below.refl _ _⟩
  case round =>
    obtain ⟨k, hk, rfl, hw0, hbw⟩ := hrel
    have B2 := B0.trans (hbw.mono B0.size)
    by_cases hlt : k < n
    · obtain ⟨b, off, rfl, hc⟩ := (HA.below hbw).some (by omega)
      obtain ⟨q, d, hcx, hwx, hm, hat⟩ := hc k (by omega)
      have h6 := hgr k hlt
      have HD := Hid.mk (hw0.trans (wOf_drop ts k zs (by omega)))
      have HR1 := HR.below hbw
      have r1 := cell_later hbw r0
      have hki : (k : Int) < (n : Int) := by omega
      generalize wat ts k = Y at *
      obtain ⟨ys, x⟩ := Y
      simp only at hcx hwx hat hm h6 HD
      obtain ⟨m, hmm⟩ : ∃ m, ys.length = m := ⟨_, rfl⟩
      rw [hmm] at hcx hm h6
      have HM := Hid.mk hmm
      clear hmm hc hw0 t0 p0 r0 HA HR
      obtain ⟨V, hV⟩ : ∃ V, V = wr.alloc (.cells #[.slice q m d, .int .i64 x] 90) := ⟨_, rfl⟩
      have hbV : Below wr.heap.size wr V := by rw [hV]; exact (Below.refl _ _).alloc (Nat.le_refl _) _
      have r2 := cell_later hbV r1
      have c3 : V.cell? ⟨wr.heap.size, 0, none⟩ = some (.slice q m d) := by rw [hV]; exact pair0 wr _ _ _
      have c4 : V.cell? ⟨wr.heap.size, 1, none⟩ = some (.int .i64 x) := by rw [hV]; exact pair1 wr _ _ _
      have HAx := hat.below hbV
      have HRx := HR1.below hbV
      have B3 := B2.trans (hbV.mono B2.size)
      have V3 := hbw.trans (hbV.mono hbw.size)
      have r2' := r2
      rw [hV] at r2'
      go_wp2_with fail
      rw [← hV]
      clear hV hcx hwx r1 r2' hat HR1 hbV
      refine (l1Compare_any _ _ _ _ _ _ ys zs _ HM.out hz' h6 l6 HAx HRx).mono ?_
      rintro e w2 ⟨rfl, hb2⟩
      have c5 := cell_later hb2 c4
      clear c3 c4 r2 HAx HRx
      by_cases e : ys = zs
      · have hcm : (cmp ys zs == 0) = true := by rw [e, cmp_self]; rfl
        have HX : Hid (wOf ts zs = x) := HD.out.trans (if_pos e)
        clear e HD
        go_wp2
        go_ret
        exact ⟨ret_int HX.out.symm, B3.trans (hb2.mono B3.size)⟩
      · have hcm : (cmp ys zs == 0) = false := by
          simp only [beq_eq_false_iff_ne]
          exact fun h => e (cmp_eq h)
        have HX : Hid (wOf ts zs = wOf (ts.drop (k + 1)) zs) := HD.out.trans (if_neg e)
        clear e HD
        go_wp2
        go_roundw
        case rel => exact ⟨k + 1, by omega, by go_num, HX.out, V3.trans (hb2.mono V3.size)⟩
        case measure => simp [intOf]; omega
    · have HX : Hid (wOf ts zs = 0) := by show _ = _; rw [hw0, List.drop_of_length_le (by omega)]; rfl
      clear hw0
      go_wp2
      go_ret
      exact ⟨ret_int HX.out.symm, B2⟩


end Go.Proofs.Ytmkhdocjabflkaa
