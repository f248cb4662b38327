/- Several texts of one proof, in build order: ScaleT, Dist, PickR. -/
import Derived.Test.YthiabjkjpjmahaaGreatM30
import Derived.Test.YthiabjkjpjmahaaGreatM24
import Derived.Test.YthiabjkjpjmahaaGreatM29
import Derived.Test.YthiabjkjpjmahaaGreatM12
import Derived.Test.YthiabjkjpjmahaaGreatM11
import Derived.Test.YthiabjkjpjmahaaGreatM13
import Derived.Test.YthiabjkjpjmahaaGreatM8

/- Contracts of impl.ScaleTable, impl.NegateTable, impl.EmptyTable. -/
namespace Go.Proofs.YthiabjkjpjmahaaGreat
open Go.RowKit Go.Maps

/-- Each weight so many times. -/
def inS (t : Int) : Bool := decide (-1000 ≤ t) && decide (t ≤ 1000)
/-- What ScaleTable tells. -/
def scaleB (p : Int) (ts : List WRow) (t : Int) : Bool := goodT p ts && (inS t && goodT p (scaleW ts t))
theorem scaleB_no {p : Int} {ts : List WRow} {t : Int} (h : goodT p ts = false) : scaleB p ts t = false := by simp [scaleB, h]
theorem scaleB_out {p : Int} {ts : List WRow} {t : Int} (h : inS t = false) : scaleB p ts t = false := by simp [scaleB, h]
theorem scaleB_yes {p : Int} {ts : List WRow} {t : Int} (h : goodT p ts = true) (h' : inS t = true) : scaleB p ts t = goodT p (scaleW ts t) := by simp [scaleB, h, h']
theorem wOf_scale (ts : List WRow) (t : Int) (zs : List Int) : wOf (ts.map fun s => (s.1, t * s.2)) zs = t * wOf ts zs := by
  induction ts with
  | nil => simp [wOf_nil]
  | cons s ts ih =>
    rw [List.map_cons, wOf_cons, wOf_cons, ih]
    by_cases e : s.1 = zs
    · rw [if_pos e, if_pos e]
    · rw [if_neg e, if_neg e]
theorem tells_scale {q n : Nat} {ts : List WRow} (hz : ts.length = n) (h : goodT q ts = true) (t : Int) : Tells q (sumAt ts n t) (scaleW ts t) := by
  have hf : ∀ zs, good zs = true → sumAt ts n t (raised zs) = t * wOf ts zs := fun zs h1 => by
    rw [sumAt_sumW hz t (fun s hs => (goodT_mem h s hs).1) h1, sumW_rises (goodT_rises h), Int.mul_comm]
  unfold scaleW
  by_cases e : t = 0
  · rw [if_pos e]
    exact ⟨List.Pairwise.nil, fun s hs => (by cases hs), fun s hs => (by cases hs), fun zs h1 _ => by rw [hf zs h1, e, wOf_nil]; simp⟩
  · rw [if_neg e]
    refine ⟨?_, ?_, ?_, fun zs h1 _ => by rw [hf zs h1, wOf_scale]⟩
    · unfold Rises
      rw [List.pairwise_map]
      exact goodT_rises h
    · intro s hs
      obtain ⟨u, hu, rfl⟩ := List.mem_map.1 hs
      exact Int.mul_ne_zero e (goodT_noZero h u hu)
    · intro s hs
      obtain ⟨u, hu, rfl⟩ := List.mem_map.1 hs
      exact goodT_mem h u hu


set_option maxRecDepth 100000 in
set_option maxHeartbeats 4000000 in
theorem implScaleTable (a : Option Addr) (n c : Nat) (ts : List WRow) (p : Int) (t : Int) (w : World) (hz : ts.length = n) (hn : n ≤ 1048576) (ha : AtW w a ts) :
    Calls Tryz.prog 107 #[.agg #[.int .i64 p, .slice a n c], .int .i64 t] w fun e w' => TabAns e w' w.heap.size (scaleB p ts t) p (scaleW ts t) ∧ Below w.heap.size w w' := by
  obtain ⟨W, hW⟩ : ∃ W, W = (w.alloc (.cells #[.int .i64 p, .slice a n c] 32)).alloc (.cells #[.int .i64 0, .slice none 0 0] 32) := ⟨_, rfl⟩
  have zW : W.heap.size = w.heap.size + 1 + 1 := by rw [hW]; simp
  have B0 : Below w.heap.size w W := by rw [hW]; exact ((Below.refl _ _).alloc (Nat.le_refl _) _).alloc (by simp) _
  have c0 : W.cell? ⟨w.heap.size, 0, none⟩ = some (.int .i64 p) := by rw [hW]; exact alloc_keeps (pair0 w _ _ _) _
  have c1 : W.cell? ⟨w.heap.size, 1, none⟩ = some (.slice a n c) := by rw [hW]; exact alloc_keeps (pair1 w _ _ _) _
  have q0 : W.heap[w.heap.size + 1]? = some (.cells #[.int .i64 0, .slice none 0 0] 32 (0, 0)) := by
    rw [hW]
    have := heap_alloc_new (w.alloc (.cells #[.int .i64 p, .slice a n c] 32)) (.cells #[.int .i64 0, .slice none 0 0] 32)
    rwa [World.size_alloc] at this
  have e0 : W.cell? ⟨w.heap.size + 1, 0, none⟩ = some (.int .i64 0) := by rw [cell_of_row _ _ 0 _ _ (0, 0) q0]; rfl
  have e1 : W.cell? ⟨w.heap.size + 1, 1, none⟩ = some (.slice none 0 0) := by rw [cell_of_row _ _ 1 _ _ (0, 0) q0]; rfl
  have f0 : W.frozen? ⟨w.heap.size + 1, 0, none⟩ = false := frozen_of_row _ _ 0 _ _ q0
  have f1 : W.frozen? ⟨w.heap.size + 1, 1, none⟩ = false := frozen_of_row _ _ 1 _ _ q0
  have HA := ha.below B0
  clear ha q0
  cases hg : goodT p ts with
  | false =>
    have HG := Hid.mk hg
    clear hg
    go_enter Tryz.func107, Tryz.ntmps107
    go_wp2_with fail
    rw [← hW]
    clear hW
    refine (implGoodTable_any _ _ _ ts _ _ hz hn HA).mono ?_
    rintro e w1 ⟨rfl, hb1⟩
    rw [HG.out]
    have B1 := B0.trans (hb1.mono B0.size)
    have g0 := cell_later hb1 e0
    have g1 := cell_later hb1 e1
    have k0 := frozen_later hb1 e0 f0
    have k1 := frozen_later hb1 e1 f1
    go_wp2
    refine bodyPost_ret (v := .tuple #[.agg #[.int .i64 0, .slice none 0 0], .bool false]) (by simp [results, Tryz.results107, go_sem, g0, g1]) rfl ⟨TabAns.zero (scaleB_no HG.out) rfl, ?_⟩
    exact (B1.setCell (by show w.heap.size ≤ w.heap.size + 1; omega) _).setCell (by show w.heap.size ≤ w.heap.size + 1; omega) _
  | true =>
    have HG := Hid.mk hg
    obtain ⟨q, hq⟩ : ∃ q : Nat, p = q := ⟨p.toNat, by have := inc_range (goodT_parts hg).1; omega⟩
    subst hq
    have h6 : q ≤ 6 := by have := inc_range (goodT_parts hg).1; omega
    have n60 := goodT_len60 hg
    clear hg
    by_cases h1 : -1000 ≤ t
    · have h1' : ¬ t < -1000 := by omega
      by_cases h2 : t ≤ 1000
      · have h2' : ¬ 1000 < t := by omega
        have HI : Hid (inS t = true) := by show _ = _; simp [inS, h1, h2]
        go_enter Tryz.func107, Tryz.ntmps107
        go_wp2_with fail
        rw [← hW]
        clear hW
        refine (implGoodTable_any _ _ _ ts _ _ hz hn HA).mono ?_
        rintro e w1 ⟨rfl, hb1⟩
        rw [HG.out]
        have B1 := B0.trans (hb1.mono B0.size)
        have g0 := cell_later hb1 e0
        have g1 := cell_later hb1 e1
        have k0 := frozen_later hb1 e0 f0
        have k1 := frozen_later hb1 e1 f1
        have c0 := cell_later hb1 c0
        have c1 := cell_later hb1 c1
        have HA := HA.below hb1
        go_wp2_with fail
        refine wp_region_held_drew (S := fun w' => w'.cell? ⟨w.heap.size, 0, none⟩ = some (.int .i64 q) ∧ w'.cell? ⟨w.heap.size, 1, none⟩ = some (.slice a n c)) (by kernel_rfl) ?_ (fun hHeld => ?_)
        · (try dsimp only)
          exact ⟨c0, c1⟩
        refine tk 0 ?_
        refine tk 1 ?_
        refine tk 2 ?_
        refine tk 4 ?_
        refine tk 5 ?_
        refine tr 3 (fun K hK => ?_)
        go_simp
        go_at_call 45; refine (sumsOf_any _ _ _ ts _ _ hz (by omega) h1 h2 (fun k hk => goodT_cells HG.out k (by omega)) HA.drew).mono ?_; rintro e w2 ⟨b, D, rfl, hbb, ho2, hm2, hb2⟩; have d0 := cell_later hb2 c0; have d1 := cell_later hb2 c1; have l0 := cell_later hb2 g0; have l1 := cell_later hb2 g1; have j0 := frozen_later (w := w1.drew) hb2 g0 k0; have j1 := frozen_later (w := w1.drew) hb2 g1 k1
        (try go_wp2_with fail)
        refine hK.out _ _ ?_ (fun hHeld' => ?_)
        · (try dsimp only)
          exact ⟨d0, d1⟩
        clear hK K hHeld
        have hHeld := hHeld'
        clear hHeld'
        (try simp only [Act.put, List.setIfInBounds_toArray, List.set_cons_zero, List.set_cons_succ])
        refine tr 6 (fun K hK => ?_)
        go_simp
        go_at_call 47; refine (table_any b n D _ _ q _ (by omega) h6 ho2 hm2 (keys_list (goodL_of_goodT HG.out) _)).mono ?_; rintro e w3 ⟨us, ⟨r3, m3, d3, cells3, rfl, ho3⟩, hT, hb3⟩; have i0 := cell_later hb3 d0; have i1 := cell_later hb3 d1; have s0 := cell_later hb3 l0; have s1 := cell_later hb3 l1; have t0 := frozen_later hb3 l0 j0; have t1 := frozen_later hb3 l1 j1
        (try go_wp2_with fail)
        refine hK.out _ _ ?_ (fun hHeld' => ?_)
        · (try dsimp only)
          exact ⟨i0, i1⟩
        clear hK K hHeld
        have hHeld := hHeld'
        clear hHeld'
        (try simp only [Act.put, List.setIfInBounds_toArray, List.set_cons_zero, List.set_cons_succ])
        refine tk 7 ?_
        refine tk 8 ?_
        refine tr 9 (fun K hK => ?_)
        go_simp
        skip
        (try go_wp2_with fail)
        refine hK.out _ _ ?_ (fun hHeld' => ?_)
        · (try dsimp only)
          exact ⟨keep_far (keep_far i0 (by omega)) (by omega), keep_far (keep_far i1 (by omega)) (by omega)⟩
        clear hK K hHeld
        have hHeld := hHeld'
        clear hHeld'
        (try simp only [Act.put, List.setIfInBounds_toArray, List.set_cons_zero, List.set_cons_succ])
        refine tk 10 ?_
        refine wpAnyH_done (by kernel_rfl) ?_ _
        have hus : us = scaleW ts t := hT.unique (tells_scale hz HG.out t)
        subst hus
        have B2 := B1.drew.trans (hb2.mono B1.size)
        have B3 := B2.trans (hb3.mono B2.size)
        have z2 : w.heap.size + 1 < w2.heap.size := World.block_lt_of_cell? _ _ l0
        have HNB : Hid (scaleB q ts t = goodT q (scaleW ts t)) := scaleB_yes HG.out HI.out
        clear c0 c1 HA ho2 hm2 hT hb1 hb2 hb3 d0 d1 l0 l1 i0 i1 hHeld
        go_wp2
        refine bodyPost_ret (v := .tuple #[.agg #[.int .i64 (tellP q (scaleW ts t)), .slice r3 m3 d3], .bool (goodT q (scaleW ts t))]) (by simp [results, Tryz.results107, go_sem, s0, s1]) rfl ⟨TabAns.tell HNB.out ⟨r3, m3, d3, cells3, rfl, ho3.stored z2 (by omega) _ _⟩, ?_⟩
        exact (B3.setCell (by show w.heap.size ≤ w.heap.size + 1; omega) _).setCell (by show w.heap.size ≤ w.heap.size + 1; omega) _
      · have h2' : 1000 < t := by omega
        have HI : Hid (inS t = false) := by show _ = _; simp [inS, h2]
        go_enter Tryz.func107, Tryz.ntmps107
        go_wp2_with fail
        rw [← hW]
        clear hW
        refine (implGoodTable_any _ _ _ ts _ _ hz hn HA).mono ?_
        rintro e w1 ⟨rfl, hb1⟩
        rw [HG.out]
        have B1 := B0.trans (hb1.mono B0.size)
        have g0 := cell_later hb1 e0
        have g1 := cell_later hb1 e1
        have k0 := frozen_later hb1 e0 f0
        have k1 := frozen_later hb1 e1 f1
        go_wp2
        refine bodyPost_ret (v := .tuple #[.agg #[.int .i64 0, .slice none 0 0], .bool false]) (by simp [results, Tryz.results107, go_sem, g0, g1]) rfl ⟨TabAns.zero (scaleB_out HI.out) rfl, ?_⟩
        exact (B1.setCell (by show w.heap.size ≤ w.heap.size + 1; omega) _).setCell (by show w.heap.size ≤ w.heap.size + 1; omega) _
    · have h1' : t < -1000 := by omega
      have HI : Hid (inS t = false) := by show _ = _; simp [inS, h1]
      go_enter Tryz.func107, Tryz.ntmps107
      go_wp2_with fail
      rw [← hW]
      clear hW
      refine (implGoodTable_any _ _ _ ts _ _ hz hn HA).mono ?_
      rintro e w1 ⟨rfl, hb1⟩
      rw [HG.out]
      have B1 := B0.trans (hb1.mono B0.size)
      have g0 := cell_later hb1 e0
      have g1 := cell_later hb1 e1
      have k0 := frozen_later hb1 e0 f0
      have k1 := frozen_later hb1 e1 f1
      go_wp2
      refine bodyPost_ret (v := .tuple #[.agg #[.int .i64 0, .slice none 0 0], .bool false]) (by simp [results, Tryz.results107, go_sem, g0, g1]) rfl ⟨TabAns.zero (scaleB_out HI.out) rfl, ?_⟩
      exact (B1.setCell (by show w.heap.size ≤ w.heap.size + 1; omega) _).setCell (by show w.heap.size ≤ w.heap.size + 1; omega) _

set_option maxHeartbeats 4000000 in
theorem implNegateTable (a : Option Addr) (n c : Nat) (ts : List WRow) (p : Int) (w : World) (hz : ts.length = n) (hn : n ≤ 1048576) (ha : AtW w a ts) :
    Calls Tryz.prog 111 #[.agg #[.int .i64 p, .slice a n c]] w fun e w' => TabAns e w' w.heap.size (scaleB p ts (-1)) p (scaleW ts (-1)) ∧ Below w.heap.size w w' := by
  obtain ⟨W, hW⟩ : ∃ W, W = (w.alloc (.cells #[.int .i64 p, .slice a n c] 32)).alloc (.cells #[.int .i64 0, .slice none 0 0] 32) := ⟨_, rfl⟩
  have zW : W.heap.size = w.heap.size + 1 + 1 := by rw [hW]; simp
  have B0 : Below w.heap.size w W := by rw [hW]; exact ((Below.refl _ _).alloc (Nat.le_refl _) _).alloc (by simp) _
  have c0 : W.cell? ⟨w.heap.size, 0, none⟩ = some (.int .i64 p) := by rw [hW]; exact alloc_keeps (pair0 w _ _ _) _
  have c1 : W.cell? ⟨w.heap.size, 1, none⟩ = some (.slice a n c) := by rw [hW]; exact alloc_keeps (pair1 w _ _ _) _
  have q0 : W.heap[w.heap.size + 1]? = some (.cells #[.int .i64 0, .slice none 0 0] 32 (0, 0)) := by
    rw [hW]
    have := heap_alloc_new (w.alloc (.cells #[.int .i64 p, .slice a n c] 32)) (.cells #[.int .i64 0, .slice none 0 0] 32)
    rwa [World.size_alloc] at this
  have e0 : W.cell? ⟨w.heap.size + 1, 0, none⟩ = some (.int .i64 0) := by rw [cell_of_row _ _ 0 _ _ (0, 0) q0]; rfl
  have e1 : W.cell? ⟨w.heap.size + 1, 1, none⟩ = some (.slice none 0 0) := by rw [cell_of_row _ _ 1 _ _ (0, 0) q0]; rfl
  have f0 : W.frozen? ⟨w.heap.size + 1, 0, none⟩ = false := frozen_of_row _ _ 0 _ _ q0
  have f1 : W.frozen? ⟨w.heap.size + 1, 1, none⟩ = false := frozen_of_row _ _ 1 _ _ q0
  have HA := ha.below B0
  clear ha q0
  go_enter Tryz.func111, Tryz.ntmps111
  go_wp2_with fail
  rw [← hW]
  clear hW
  refine (implScaleTable _ _ _ ts _ _ _ hz hn HA).mono ?_
  rintro e w1 ⟨⟨r1, m1, d1, cells1, rfl, ho1⟩, hb1⟩
  have g0 := cell_later hb1 e0
  have g1 := cell_later hb1 e1
  have k0 := frozen_later hb1 e0 f0
  have k1 := frozen_later hb1 e1 f1
  have B1 := B0.trans (hb1.mono B0.size)
  have zR : w.heap.size + 1 < W.heap.size := by omega
  clear e0 e1 f0 f1 hb1
  go_wp2
  refine bodyPost_ret (v := .tuple #[.agg #[.int .i64 _, .slice r1 m1 d1], .bool _]) (by simp [results, Tryz.results111, go_sem, g0, g1]) rfl ⟨⟨r1, m1, d1, cells1, rfl, ho1.stored zR (by omega) _ _⟩, ?_⟩
  exact (B1.setCell (by show w.heap.size ≤ w.heap.size + 1; omega) _).setCell (by show w.heap.size ≤ w.heap.size + 1; omega) _

end Go.Proofs.YthiabjkjpjmahaaGreat

/- Contracts of impl.plainRows, impl.DistinctTable, spec.l3Distinct, spec.DistinctTable. -/
namespace Go.Proofs.YthiabjkjpjmahaaGreat
open Go.RowKit Go.Shelf

theorem plainRows_any (gf : Nat) (lb : Array Value) (w : World) :
    Calls Tryz.prog 150 #[.func (.func gf) #[] lb] w fun e w' => e = .returned (.func (.func 171) #[] #[.pointer (some ⟨w.heap.size, 0, none⟩)]) ∧ w' = w.alloc (.cells #[.func (.func gf) #[] lb] 195) := by
  go_enter Tryz.func150, Tryz.ntmps150
  go_wp2
  go_ret
  exact ⟨rfl, rfl⟩

/-- The rows that are there, once. -/
def distW (ts : List WRow) : List WRow := ts.filterMap plainG
def distB (p : Int) (ts : List WRow) : Bool := goodT p ts && goodT p (distW ts)
theorem distB_no {p : Int} {ts : List WRow} (h : goodT p ts = false) : distB p ts = false := by simp [distB, h]
theorem distB_yes {p : Int} {ts : List WRow} (h : goodT p ts = true) : distB p ts = goodT p (distW ts) := by simp [distB, h]
theorem plainG_some {t s : WRow} (h : plainG t = some s) : s = (t.1, 1) ∧ 0 < t.2 := by
  unfold plainG at h
  split at h
  · exact ⟨by simpa using h.symm, by assumption⟩
  · cases h
theorem tells_dist {q : Nat} {ts : List WRow} (h : goodT q ts = true) : Tells q (sumAt (distW ts) (distW ts).length 1) (distW ts) :=
  tells_self (rises_some (fun t s hs => by rw [(plainG_some hs).1]) (goodT_rises h)) (fun t ht => by obtain ⟨s, hs, e⟩ := some_mem ht; rw [(plainG_some e).1]; simp) (fun t ht => by obtain ⟨s, hs, e⟩ := some_mem ht; rw [(plainG_some e).1]; exact goodT_mem h s hs)
theorem distW_len (ts : List WRow) : (distW ts).length ≤ ts.length := List.length_filterMap_le _ _
theorem distW_ok {p : Int} {ts : List WRow} (h : goodT p ts = true) : ∀ t ∈ distW ts, good t.1 = true ∧ -1000000000000 ≤ t.2 ∧ t.2 ≤ 1000000000000 := fun t ht => by
  obtain ⟨s, hs, e⟩ := some_mem ht
  rw [(plainG_some e).1]
  exact ⟨(goodL_mem (goodL_of_goodT h) s hs).1, by simp, by simp⟩

set_option maxRecDepth 100000 in
set_option maxHeartbeats 4000000 in
theorem implDistinctTable (a : Option Addr) (n c : Nat) (ts : List WRow) (p : Int) (w : World) (hz : ts.length = n) (hn : n ≤ 1048576) (ha : AtM w a ts) :
    Calls Tryz.prog 112 #[.agg #[.int .i64 p, .slice a n c]] w fun e w' => TabAns e w' w.heap.size (distB p ts) p (distW ts) ∧ Below w.heap.size w w' := by
  obtain ⟨W, hW⟩ : ∃ W, W = (w.alloc (.cells #[.int .i64 p, .slice a n c] 32)).alloc (.cells #[.int .i64 0, .slice none 0 0] 32) := ⟨_, rfl⟩
  have zW : W.heap.size = w.heap.size + 1 + 1 := by rw [hW]; simp
  have B0 : Below w.heap.size w W := by rw [hW]; exact ((Below.refl _ _).alloc (Nat.le_refl _) _).alloc (by simp) _
  have c0 : W.cell? ⟨w.heap.size, 0, none⟩ = some (.int .i64 p) := by rw [hW]; exact alloc_keeps (pair0 w _ _ _) _
  have c1 : W.cell? ⟨w.heap.size, 1, none⟩ = some (.slice a n c) := by rw [hW]; exact alloc_keeps (pair1 w _ _ _) _
  have q0 : W.heap[w.heap.size + 1]? = some (.cells #[.int .i64 0, .slice none 0 0] 32 (0, 0)) := by
    rw [hW]
    have := heap_alloc_new (w.alloc (.cells #[.int .i64 p, .slice a n c] 32)) (.cells #[.int .i64 0, .slice none 0 0] 32)
    rwa [World.size_alloc] at this
  have e0 : W.cell? ⟨w.heap.size + 1, 0, none⟩ = some (.int .i64 0) := by rw [cell_of_row _ _ 0 _ _ (0, 0) q0]; rfl
  have e1 : W.cell? ⟨w.heap.size + 1, 1, none⟩ = some (.slice none 0 0) := by rw [cell_of_row _ _ 1 _ _ (0, 0) q0]; rfl
  have f0 : W.frozen? ⟨w.heap.size + 1, 0, none⟩ = false := frozen_of_row _ _ 0 _ _ q0
  have f1 : W.frozen? ⟨w.heap.size + 1, 1, none⟩ = false := frozen_of_row _ _ 1 _ _ q0
  have HA := ha.below B0
  clear ha q0
  cases hg : goodT p ts with
  | false =>
    have HG := Hid.mk hg
    clear hg
    go_enter Tryz.func112, Tryz.ntmps112
    go_wp2_with fail
    rw [← hW]
    clear hW
    refine (implGoodTable_any _ _ _ ts _ _ hz hn HA.atW).mono ?_
    rintro e w1 ⟨rfl, hb1⟩
    rw [HG.out]
    have B1 := B0.trans (hb1.mono B0.size)
    have f0 := frozen_later hb1 e0 f0
    have f1 := frozen_later hb1 e1 f1
    have e0 := cell_later hb1 e0
    have e1 := cell_later hb1 e1
    have c0 := cell_later hb1 c0
    have c1 := cell_later hb1 c1
    go_wp2
    refine bodyPost_ret (v := .tuple #[.agg #[.int .i64 0, .slice none 0 0], .bool false]) (by simp [results, Tryz.results112, go_sem, e0, e1]) rfl ⟨TabAns.zero (distB_no HG.out) rfl, ?_⟩
    exact (B1.setCell (by show w.heap.size ≤ w.heap.size + 1; omega) _).setCell (by show w.heap.size ≤ w.heap.size + 1; omega) _
  | true =>
    have HG := Hid.mk hg
    obtain ⟨q, hq⟩ : ∃ q : Nat, p = q := ⟨p.toNat, by have := inc_range (goodT_parts hg).1; omega⟩
    subst hq
    have h6 : q ≤ 6 := by have := inc_range (goodT_parts hg).1; omega
    have n60 := goodT_len60 hg
    clear hg
    go_enter Tryz.func112, Tryz.ntmps112
    go_wp2_with fail
    rw [← hW]
    clear hW
    refine (implGoodTable_any _ _ _ ts _ _ hz hn HA.atW).mono ?_
    rintro e w1 ⟨rfl, hb1⟩
    rw [HG.out]
    have B1 := B0.trans (hb1.mono B0.size)
    have f0 := frozen_later hb1 e0 f0
    have f1 := frozen_later hb1 e1 f1
    have e0 := cell_later hb1 e0
    have e1 := cell_later hb1 e1
    have c0 := cell_later hb1 c0
    have c1 := cell_later hb1 c1
    have HA2 := HA.below hb1
    have HNB : Hid (distB q ts = goodT q (distW ts)) := distB_yes HG.out
    go_wp2_with fail
    refine wp_region_held_drew (S := fun w' => w'.cell? ⟨w.heap.size, 0, none⟩ = some (.int .i64 q) ∧ w'.cell? ⟨w.heap.size, 1, none⟩ = some (.slice a n c)) (by kernel_rfl) ?_ (fun hHeld => ?_)
    · (try dsimp only)
      exact ⟨c0, c1⟩
    refine tk 0 ?_
    refine tk 3 ?_
    refine tk 4 ?_
    refine tr 1 (fun K hK => ?_)
    go_simp
    go_at_call 141; refine (rowsOf_any _ _ _ _ _).mono ?_; rintro e w2 ⟨rfl, hw2⟩; have hb2 : Below w1.drew.heap.size w1.drew w2 := (by rw [hw2]; exact (Below.refl _ _).alloc (Nat.le_refl _) _); have t2 : w2.cell? ⟨w1.heap.size, 1, none⟩ = some (.slice a n c) := (by rw [hw2]; exact pair1 w1.drew _ _ _); have f0 := frozen_later (w := w1.drew) hb2 e0 f0; have f1 := frozen_later (w := w1.drew) hb2 e1 f1; have e0 := cell_later hb2 e0; have e1 := cell_later hb2 e1; have c0 := cell_later hb2 c0; have c1 := cell_later hb2 c1; have HA3 := HA2.drew.below hb2; have B2 := B1.drew.trans (hb2.mono B1.size); have hR := rowsOf1_hands w1.heap.size a n c ts w2 hz hn t2 HA3; clear hw2
    (try go_wp2_with fail)
    refine hK.out _ _ ?_ (fun hHeld' => ?_)
    · (try dsimp only)
      exact ⟨c0, c1⟩
    clear hK K hHeld
    have hHeld := hHeld'
    clear hHeld'
    (try simp only [Act.put, List.setIfInBounds_toArray, List.set_cons_zero, List.set_cons_succ])
    refine tr 2 (fun K hK => ?_)
    go_simp
    go_at_call 150; refine (plainRows_any _ _ _).mono ?_; rintro e w3 ⟨rfl, hw3⟩; have hb3 : Below w2.heap.size w2 w3 := (by rw [hw3]; exact (Below.refl _ _).alloc (Nat.le_refl _) _); have t3 : w3.cell? ⟨w2.heap.size, 0, none⟩ = some (.func (.func 164) #[] #[.pointer (some ⟨w1.heap.size, 0, none⟩)]) := (by rw [hw3]; simp); have f0 := frozen_later hb3 e0 f0; have f1 := frozen_later hb3 e1 f1; have e0 := cell_later hb3 e0; have e1 := cell_later hb3 e1; have c0 := cell_later hb3 c0; have c1 := cell_later hb3 c1; have B3 := B2.trans (hb3.mono B2.size); have hP := plainRows1_hands w2.heap.size 164 #[.pointer (some ⟨w1.heap.size, 0, none⟩)] ts w3 t3 (enters_of Tryz.func164 (by kernel_rfl) rfl) (hR.later hb3); clear hw3
    (try go_wp2_with fail)
    refine hK.out _ _ ?_ (fun hHeld' => ?_)
    · (try dsimp only)
      exact ⟨c0, c1⟩
    clear hK K hHeld
    have hHeld := hHeld'
    clear hHeld'
    (try simp only [Act.put, List.setIfInBounds_toArray, List.set_cons_zero, List.set_cons_succ])
    refine tr 5 (fun K hK => ?_)
    go_simp
    go_at_call 144; refine (tableOf_any 171 #[.pointer (some ⟨w2.heap.size, 0, none⟩)] (distW ts) q w3 (enters_of Tryz.func171 (by kernel_rfl) rfl) hP h6 (by have := distW_len ts; omega) (at_of_mem (distW_ok HG.out)) (fun t ht => ((tells_dist HG.out).rows t ht).2)).mono ?_; rintro e w4 ⟨us, ⟨r4, m4, d4, cells4, rfl, ho4⟩, hTl, hb4⟩; have t0 := frozen_later hb4 e0 f0; have t1 := frozen_later hb4 e1 f1; have s0 := cell_later hb4 e0; have s1 := cell_later hb4 e1; have i0 := cell_later hb4 c0; have i1 := cell_later hb4 c1
    (try go_wp2_with fail)
    refine hK.out _ _ ?_ (fun hHeld' => ?_)
    · (try dsimp only)
      exact ⟨i0, i1⟩
    clear hK K hHeld
    have hHeld := hHeld'
    clear hHeld'
    (try simp only [Act.put, List.setIfInBounds_toArray, List.set_cons_zero, List.set_cons_succ])
    refine tk 6 ?_
    refine tk 7 ?_
    refine tr 8 (fun K hK => ?_)
    go_simp
    skip
    (try go_wp2_with fail)
    refine hK.out _ _ ?_ (fun hHeld' => ?_)
    · (try dsimp only)
      exact ⟨keep_far (keep_far i0 (by omega)) (by omega), keep_far (keep_far i1 (by omega)) (by omega)⟩
    clear hK K hHeld
    have hHeld := hHeld'
    clear hHeld'
    (try simp only [Act.put, List.setIfInBounds_toArray, List.set_cons_zero, List.set_cons_succ])
    refine tk 9 ?_
    refine wpAnyH_done (by kernel_rfl) ?_ _
    have hus : us = distW ts := hTl.unique (tells_dist HG.out)
    subst hus
    have B4 := B3.trans (hb4.mono B3.size)
    have zR : w.heap.size + 1 < w3.heap.size := World.block_lt_of_cell? _ _ (by assumption : w3.cell? ⟨w.heap.size + 1, 0, none⟩ = _)
    have e0 := s0
    have e1 := s1
    clear HA HA2 HA3 hb1 hb2 hb3 hb4 hHeld hR hP hTl
    go_wp2
    refine bodyPost_ret (v := .tuple #[.agg #[.int .i64 _, .slice r4 m4 d4], .bool _]) (by simp [results, Tryz.results112, go_sem, e0, e1]) rfl ⟨TabAns.tell HNB.out ⟨r4, m4, d4, cells4, rfl, ho4.stored zR (by omega) _ _⟩, ?_⟩
    exact (B4.setCell (by show w.heap.size ≤ w.heap.size + 1; omega) _).setCell (by show w.heap.size ≤ w.heap.size + 1; omega) _

theorem distW_take (ts : List WRow) (k : Nat) (h : k < ts.length) : distW (ts.take (k + 1)) = distW (ts.take k) ++ (plainG (wat ts k)).toList := by
  unfold distW
  rw [wtake_succ ts k h, List.filterMap_append, List.filterMap_cons]
  cases plainG (wat ts k) <;> rfl

set_option maxRecDepth 100000 in
set_option maxHeartbeats 4000000 in
theorem l3Distinct_any (a : Option Addr) (n c : Nat) (ts : List WRow) (w : World) (hz : ts.length = n) (hn : n ≤ 2048) (hg : ∀ s ∈ ts, s.1.length ≤ 6) (ha : AtM w a ts) :
    Calls Tryz.prog 79 #[.slice a n c] w fun e w' => ∃ r k d, e = .returned (.slice r k d) ∧ (distW ts).length = k ∧ AtM w' r (distW ts) ∧ Below w.heap.size w w' := by
  obtain ⟨i0, hi, hz0, hz1, hz2⟩ := info_parts Tryz.infoW
  go_enter Tryz.func79, Tryz.ntmps79
  go_wp2
  go_loopw [3, 8] (fun o i wr => ∃ (k m : Nat) (r : Option Addr) (d : Nat) (cs : List Value), k ≤ n ∧ m ≤ k ∧ i = .int .i64 k ∧ o = .slice r m d ∧ (distW (ts.take k)).length = m ∧ wr.ownsRow w.heap.size 82 2 (.slice r m d) m cs ∧ Means w cs (distW (ts.take k)) ∧ Below w.heap.size w wr) (fun _ i _ => n - (intOf i).toNat)
  case atStart => exact ⟨0, 0, none, 0, [], Nat.zero_le _, Nat.le_refl _, rfl, rfl, rfl, World.ownsRow_nil _ _ _ _, trivial, Below.refl _ _⟩
  case round =>
    obtain ⟨k, m, r, d, cs, hk, hmk, rfl, rfl, hml, ho, hme, hbw⟩ := hrel
    by_cases hlt : k < n
    · obtain ⟨b, off, rfl, hc⟩ := ha.some (by omega)
      obtain ⟨q, dd, hcx, hwx, hm1, hnil, hat⟩ := hc k (by omega)
      have hgk := at_of_mem hg k (by omega)
      have HS := Hid.mk (distW_take ts k (by omega))
      have hki : (k : Int) < (n : Int) := by omega
      generalize wat ts k = Y at *
      obtain ⟨ys, x⟩ := Y
      simp only at hcx hwx hat hm1 hgk
      obtain ⟨m2, hmm⟩ : ∃ m2, ys.length = m2 := ⟨_, rfl⟩
      rw [hmm] at hcx hm1 hgk
      have HM := Hid.mk hmm
      have HATW := Hid.mk hat
      have hcx := cell_later hbw hcx
      have hwx := cell_later hbw hwx
      have zz := hbw.size
      clear hmm hc hat
      by_cases hx : 0 < x
      · have HSX : Hid (distW (ts.take (k + 1)) = distW (ts.take k) ++ [(ys, 1)]) := by show _ = _; rw [HS.out]; unfold plainG; rw [if_pos hx]; rfl
        have oV := ho.alloc (.cells #[.slice q m2 dd, .int .i64 x] 82)
        go_wp2_with (at_builtin; refine wpList_append_lies _ rfl (.tmp 15) (.tmp 19) 30 rfl w.heap.size 82 i0 (.agg #[.slice none 0 0, .int .i64 0]) 2 32 Tryz.underlying30 hi hz0 hz1 hz2 rfl (by decide) (.slice r m d) m cs rfl (oV.alloc _) ⟨wr.heap.size + 1, 0, none⟩ 1 1 [.slice q m2 dd, .int .i64 1] (by simp [Act.eval]) rfl (by simpa using news_at (wr.alloc (.cells #[.slice q m2 dd, .int .i64 x] 82)) #[.slice q m2 dd, .int .i64 1] 82) (by intro u hu; simp at hu; rcases hu with rfl | rfl <;> rfl) (by decide) (by unfold maxLen; omega) (by omega) (by simp; omega) (wr.heap.size + 1 + 1) (by simp) ?_; intro g2 cap2 w4 hown4 hgrow4 hat4 hlt4)
        have hgr : wr.grownBy w4 (Value.slice r m d).ownBlock := grown_alloc (grown_alloc hgrow4)
        have HB := Hid.mk (hbw.grown hgr hbw.size (fun j hj => (ho.lt j hj).1))
        have HO := Hid.mk hown4
        have HME : Hid (Means w (cs ++ [.slice q m2 dd, .int .i64 1]) (distW (ts.take (k + 1)))) := by
          show Means _ _ _
          rw [HSX.out]
          exact hme.append (Means.one HM.out (by omega) hnil HATW.out)
        have HL : Hid ((distW (ts.take (k + 1))).length = m + 1) := by show _ = _; rw [HSX.out, List.length_append, hml]; rfl
        clear hown4 hgrow4 hat4 hlt4 hgr ho hme hbw hcx hwx oV hml
        go_wp2
        go_roundw
        case rel => exact ⟨k + 1, m + 1, _, _, _, by omega, by omega, by go_num, rfl, HL.out, HO.out, HME.out, HB.out⟩
        case measure => simp [intOf]; omega
      · have HSX : Hid (distW (ts.take (k + 1)) = distW (ts.take k)) := by show _ = _; rw [HS.out]; unfold plainG; rw [if_neg hx]; simp
        have hxx : x ≤ 0 := by omega
        have HO := Hid.mk (ho.alloc (.cells #[.slice q m2 dd, .int .i64 x] 82))
        have HB := Hid.mk (hbw.alloc hbw.size (.cells #[.slice q m2 dd, .int .i64 x] 82))
        have HL : Hid ((distW (ts.take (k + 1))).length = m) := by show _ = _; rw [HSX.out, hml]
        have HME : Hid (Means w cs (distW (ts.take (k + 1)))) := by show Means _ _ _; rw [HSX.out]; exact hme
        clear ho hme hbw hml
        go_wp2
        go_roundw
        case rel => exact ⟨k + 1, m, _, _, _, by omega, by omega, by go_num, rfl, HL.out, HO.out, HME.out, HB.out⟩
        case measure => simp [intOf]; omega
    · obtain rfl : k = n := by omega
      rw [wtake_all' ts hz] at hme hml
      go_wp2
      go_ret
      exact ⟨_, _, _, rfl, hml, (hme.below hbw).ownedM hml ho, hbw⟩

end Go.Proofs.YthiabjkjpjmahaaGreat

/- Contracts of impl.pickedRows, of the function that it hands back, (impl.noughts: Nought). -/
namespace Go.Proofs.YthiabjkjpjmahaaGreat
open Go.RowKit Go.Shelf

attribute [local go_sem] Oper.semAt_some

def pickG (cols : List Int) (t : WRow) : Option WRow := some (pick t.1 cols, t.2)

theorem pickedRows_any (gf : Nat) (lb : Array Value) (a : Option Addr) (n c : Nat) (w : World) :
    Calls Tryz.prog 147 #[.func (.func gf) #[] lb, .slice a n c] w fun e w' => e = .returned (.func (.func 166) #[] #[.pointer (some ⟨w.heap.size, 0, none⟩), .pointer (some ⟨w.heap.size + 1, 0, none⟩)]) ∧ w' = (w.alloc (.cells #[.func (.func gf) #[] lb] 195)).alloc (.cells #[.slice a n c] 23) := by
  go_enter Tryz.func147, Tryz.ntmps147
  go_wp2
  go_ret
  exact ⟨rfl, rfl⟩

set_option maxRecDepth 100000 in
set_option maxHeartbeats 4000000 in
theorem pickedRows1_hands (T C gf : Nat) (lb : Array Value) (xs : List WRow) (a' : Option Addr) (n' c' : Nat) (cols : List Int) (w : World) (hT : w.cell? ⟨T, 0, none⟩ = some (.func (.func gf) #[] lb)) (hC : w.cell? ⟨C, 0, none⟩ = some (.slice a' n' c'))
    (eg : ∀ args w, (callFunc gf args).run Tryz.prog w = .ok (.enter gf args) w) (hH : Hands Tryz.prog gf lb xs w) (hz' : cols.length = n') (h6' : n' ≤ 6) (ha' : At w a' cols) (hQ : ∀ k, k < xs.length → pickOk (wat xs k).1 cols = true ∧ (wat xs k).1.length ≤ 6) :
    Hands Tryz.prog 166 #[.pointer (some ⟨T, 0, none⟩), .pointer (some ⟨C, 0, none⟩)] (xs.filterMap (pickG cols)) w := by
  intro n₀ l J W h1 h2 hb hJ hY h0
  refine callsIn_of_wp_marks Tryz.func166 rfl trivial ?_
  simp only [Tryz.ntmps166, List.size_toArray, List.length_cons, List.length_nil, Nat.reduceAdd, Nat.reduceSub, Array.replicate_succ, Array.replicate_zero, List.push_toArray, List.append_toArray, List.nil_append, List.cons_append]
  obtain ⟨W0, hW0⟩ : ∃ W0, W0 = W.alloc (.cells #[.func (.yield l) #[] #[]] 221) := ⟨_, rfl⟩
  have hbW : Below W.heap.size W W0 := by rw [hW0]; exact (Below.refl _ _).alloc (Nat.le_refl _) _
  have z0 : W0.heap.size = W.heap.size + 1 := by rw [hW0]; simp
  have hTW := cell_later hb hT
  have hTL : (W.alloc (.cells #[.func (.yield l) #[] #[]] 221)).cell? ⟨T, 0, none⟩ = some (.func (.func gf) #[] lb) := cell_later ((Below.refl _ _).alloc (Nat.le_refl _) _) hTW
  have I0 : Passing n₀ J W (fun _ _ => True) W0.heap.size (pickG cols) xs (.func (.yield l) #[] #[]) 221 0 W0 := by
    refine ⟨hJ 0 W W0 hbW h0, ?_, ⟨hbW.os, hbW.tape, hbW.output, hbW.size, fun j hj _ => hbW.block j hj⟩, Nat.le_refl _⟩
    rw [hW0]; exact heap_alloc_new W _
  gi_wp2
  rw [← hW0]
  clear hW0 hTL
  refine range_hands (gf := gf) (lb := lb) rfl eg hH (hb.trans (hbW.mono hb.size)) n₀ h1 (by omega) _ (fun k A B hB h => h.keep hJ (by omega) hB) I0 ?round ?done
  case round =>
    intro r k W1 b n c hr hkx hI hsz hrec hln hnil hat _
    have hq := hQ k hkx
    obtain ⟨Y, hYk⟩ : ∃ Y, Y = wat xs k := ⟨_, rfl⟩
    rw [← hYk] at hln hat hq ⊢
    obtain ⟨ys, x⟩ := Y
    simp only at hln hat hq
    have hgx : pickG cols (wat xs k) = some (pick ys cols, x) := by rw [← hYk]; rfl
    gi_wp2
    refine ⟨(Below.refl _ _).alloc (Nat.le_refl _) _, fun W3 hT3 _ => ?_⟩
    obtain ⟨W2, hW2⟩ : ∃ W2, W2 = W1.alloc (.cells #[.slice b n c] 80) := ⟨_, rfl⟩
    have hb2 : Below W1.heap.size W1 W2 := by rw [hW2]; exact (Below.refl _ _).alloc (Nat.le_refl _) _
    have cr : W2.cell? ⟨W1.heap.size, 0, none⟩ = some (.slice b n c) := by rw [hW2]; simp
    rw [← hW2] at hT3
    clear hW2
    have hI3 := (hI.keep hJ (by omega) (hb2.mono hsz)).keep hJ (by omega) (hT3.below hr)
    have cr3 := hT3.cell cr
    have cy3 : W3.cell? ⟨W.heap.size, 0, none⟩ = some (.func (.yield l) #[] #[]) := by rw [cell_of_row W3 _ 0 _ _ (0, 0) hI3.box]; rfl
    have hat3 := hT3.at (hat.below hb2)
    have hb3 : Below w.heap.size w W3 := hb.trans (hI3.low.below hb.size h1)
    have cc3 := cell_later hb3 hC
    have ha3 := ha'.below hb3
    obtain ⟨o1, o2, o3⟩ := outW_some hkx hgx
    have HI3 := Hid.mk hI3
    have HO1 := Hid.mk o1
    have HO3 := Hid.mk o3
    have HY := Hid.mk hY
    have HQ := Hid.mk hq.1
    have HLN := Hid.mk hln
    have l6 : n ≤ 6 := by have := hq.2; omega
    clear hI hat cr hT3 hI3 o1 o3 hgx hYk hY hq hln
    gi_wp2_with fail
    refine ⟨trivial, rfl, ?_⟩
    refine (callsIn_wide.2 (implPickCells _ _ _ _ _ _ ys cols _ HLN.out hz' (by omega) (by omega) hat3 ha3)).mono ?_
    rintro e W4 ⟨r4, m4, d4, rfl, hm4, ho4, hb4⟩
    rw [HQ.out]
    have hpz : pickZ ys cols = pick ys cols := by unfold pickZ; rw [if_pos HQ.out]
    rw [hpz] at hm4 ho4
    have hat4 := At.owned ho4
    have HFR : Hid (Far n₀ W.heap.size r4 (pick ys cols)) := Hid.mk (far_owned ho4 (by have := HI3.out.size; omega))
    have hF4 := owns_formed ho4
    obtain ⟨W5, hW5⟩ : ∃ W5, W5 = W4.alloc (.cells #[.slice r4 m4 d4] 80) := ⟨_, rfl⟩
    have hbL : Below W4.heap.size W4 (W4.alloc (.cells #[.slice r4 m4 d4] 80)) := (Below.refl _ _).alloc (Nat.le_refl _) _
    have hb5 : Below W4.heap.size W4 W5 := by rw [hW5]; exact hbL
    have hB5 : Below W3.heap.size W3 W5 := hb4.trans (hb5.mono hb4.size)
    have cy5 := cell_later hbL (cell_later hb4 cy3)
    have hI5 := HI3.out.keep hJ (by omega) (hB5.mono HI3.out.size)
    obtain ⟨fn, tmps, assign, body, hy, hR⟩ := HY.out (outW (pickG cols) xs k) W5 r4 m4 d4 o2 hI5.told (by have := hI5.size; omega) (by rw [HO3.out]; exact hm4) hF4.2.1 (by rw [HO3.out]; exact hat4.below hb5) (by rw [HO3.out]; exact HFR.out)
    rw [HO3.out] at hy
    simp only at hy
    rw [hW5] at hy
    have HI5 := Hid.mk hI5
    have HB5 := Hid.mk hB5
    have HR := Hid.mk hR
    clear hI5 HI3 HY hB5 hb5 ho4 hR
    gi_wp2
    refine ⟨rfl, ?_⟩
    rw [← hW5]
    refine HR.out.mono ?_
    rintro e W6 ⟨rfl, hJ6, hap6⟩
    have hI5 := HI5.out
    have hB5 := HB5.out
    have hfin : Passing n₀ J W (fun _ _ => True) W0.heap.size (pickG cols) xs (.func (.yield l) #[] #[]) 221 (k + 1) W6 := by
      refine ⟨by rw [HO1.out]; exact hJ6, (hap6.block _ (by have := hI5.size; omega) (.inr (Nat.le_refl _))).trans hI5.box, hI5.low.trans hap6, Nat.le_trans hI5.size hap6.size⟩
    have hapf : Apart n₀ W0.heap.size W3 W6 := ⟨hap6.os.trans hB5.os, hap6.tape.trans hB5.tape, hap6.output.trans hB5.output, Nat.le_trans hB5.size hap6.size, fun j hj hc => (hap6.block j (by have := hB5.size; omega) (by omega)).trans (hB5.block j hj)⟩
    rw [z0] at hfin hapf
    clear hI5 HI5 hB5 HB5 hJ6 hap6 HR hy
    gi_wp2
    done
  case done =>
    intro D A hD hI hap hdef
    have hto := hI.told
    rw [outW_all] at hto
    have hDl : D < A.heap.size := (Array.getElem?_eq_some_iff.1 hdef).1
    have hJf := hJ _ A (A.putObj D (.deferred none)) ((Below.refl _ _).grown (grownBy_putObj' A D _) (by omega) (fun j hj => by cases hj; omega)) hto
    have hapf : Apart n₀ W.heap.size W (A.putObj D (.deferred none)) := ⟨hI.low.os, hI.low.tape, hI.low.output, by have := hI.low.size; simp; omega, fun j hj hc => (World.putObj_heap_other (by omega)).trans (hI.low.block j hj hc)⟩
    gi_wp2
    refine ⟨by simp, .inl ⟨_, _, rfl, run_takeDeferred hdef, ?_⟩⟩
    exact ⟨_, results_none rfl _ _ _, ⟨_, rfl⟩, hJf, hapf⟩

end Go.Proofs.YthiabjkjpjmahaaGreat
