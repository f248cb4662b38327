/- Contracts of impl.NewTable, impl.AddTables, impl.ScaleTable, impl.NegateTable, impl.EmptyTable. -/
import Derived.Test.YtogokgegkakmbaaTell
import Derived.Test.YtogokgegkakmbaaGoodTI
import Derived.Test.YtogokgegkakmbaaWSum
namespace Go.Proofs.Ytogokgegkakmbaa
open Go.RowKit Go.Maps

theorem OwnWk.stored {w : World} {lo hi R : Nat} {te ti : TypeId} {a : Option Addr} {n c : Nat} {ts : List WRow} {cells : List Value} {lo' : Nat} (h : OwnW w lo hi te ti a n c ts cells) (hR : R < lo) (hlo : lo' ≤ lo) (u v : Value) :
    OwnW ((w.setCell ⟨R, 0, none⟩ u).setCell ⟨R, 1, none⟩ v) lo' ((w.setCell ⟨R, 0, none⟩ u).setCell ⟨R, 1, none⟩ v).heap.size te ti a n c ts cells :=
  ((h.setCell (a0 := ⟨R, 0, none⟩) (.inl hR) u).setCell (a0 := ⟨R, 1, none⟩) (.inl hR) v).widen hlo (by have := h.top; simp [World.setCell]; omega) (Nat.le_refl _)

set_option maxRecDepth 100000 in
set_option maxHeartbeats 4000000 in
theorem implNewTable (a : Option Addr) (n c : Nat) (ts : List WRow) (p : Int) (w : World) (hz : ts.length = n) (hn : n ≤ 1048576) (ha : AtW w a ts) :
    Calls Try.prog 11 #[.int .i64 p, .slice a n c] w fun e w' => TabAns e w' w.heap.size (newB p ts) p (putAll [] ts) ∧ Below w.heap.size w w' := by

  have B0 : Below w.heap.size w (w.alloc (.cells #[.int .i64 0, .slice none 0 0] 26)) := (Below.refl _ _).alloc (Nat.le_refl _) _
  have q0 : (w.alloc (.cells #[.int .i64 0, .slice none 0 0] 26)).heap[w.heap.size]? = some (.cells #[.int .i64 0, .slice none 0 0] 26 (0, 0)) := heap_alloc_new w _
  have e0 : (w.alloc (.cells #[.int .i64 0, .slice none 0 0] 26)).cell? ⟨w.heap.size, 0, none⟩ = some (.int .i64 0) := by rw [cell_of_row _ _ 0 _ _ (0, 0) q0]; rfl
  have e1 : (w.alloc (.cells #[.int .i64 0, .slice none 0 0] 26)).cell? ⟨w.heap.size, 1, none⟩ = some (.slice none 0 0) := by rw [cell_of_row _ _ 1 _ _ (0, 0) q0]; rfl
  have f0 : (w.alloc (.cells #[.int .i64 0, .slice none 0 0] 26)).frozen? ⟨w.heap.size, 0, none⟩ = false := frozen_of_row _ _ 0 _ _ q0
  have f1 : (w.alloc (.cells #[.int .i64 0, .slice none 0 0] 26)).frozen? ⟨w.heap.size, 1, none⟩ = false := frozen_of_row _ _ 1 _ _ q0
  have HA := ha.below B0
  cases hi : inc p with
  | false =>
    have HI := Hid.mk hi
    clear hi
    go_enter Try.func11, Try.ntmps11
    go_wp2_with fail
    refine (goodColumns_any _ _).mono ?_
    rintro e w1 ⟨rfl, rfl⟩
    rw [HI.out]

    go_wp2
    refine bodyPost_ret (v := .tuple #[.agg #[.int .i64 0, .slice none 0 0], .bool false]) (by simp [results, Try.results11, go_sem, e0, e1]) rfl ⟨TabAns.zero (newB_col HI.out) rfl, ?_⟩
    first | exact (B0.setCell (by simp) _).setCell (by simp) _ | exact B0
  | true =>
    have HI := Hid.mk hi
    clear hi
    by_cases h200 : n ≤ 200
    · have hn2 : ¬ (200 : Int) < (n : Int) := by omega
      cases hl : goodL p ts with
      | false =>
        have HL := Hid.mk hl
        clear hl
        go_enter Try.func11, Try.ntmps11
        go_wp2_with fail
        refine (goodColumns_any _ _).mono ?_
        rintro e w1 ⟨rfl, rfl⟩
        rw [HI.out]
        go_wp2_with fail
        refine (goodWeighted_any _ _ _ ts _ _ hz hn HA).mono ?_
        rintro e w1 ⟨rfl, hb1⟩
        rw [HL.out]
        have e0 := cell_later hb1 e0
        have e1' := e1
        have g0 := frozen_later hb1 (by assumption) f0
        have g1 := frozen_later hb1 e1 f1
        have e1 := cell_later hb1 e1
        have B1 := B0.trans (hb1.mono B0.size)

        go_wp2
        refine bodyPost_ret (v := .tuple #[.agg #[.int .i64 0, .slice none 0 0], .bool false]) (by simp [results, Try.results11, go_sem, e0, e1]) rfl ⟨TabAns.zero (newB_list HL.out) rfl, ?_⟩
        first | exact (B1.setCell (by simp) _).setCell (by simp) _ | exact B1
      | true =>
        have HL := Hid.mk hl
        have hg : ∀ k, k < n → good (wat ts k).1 = true ∧ -1000000 ≤ (wat ts k).2 ∧ (wat ts k).2 ≤ 1000000 := fun k hk => by
          have := goodW_cells (goodL_at hl k (by omega))
          exact ⟨this.1, this.2.2⟩
        clear hl
        obtain ⟨q, hq⟩ : ∃ q : Nat, p = q := ⟨p.toNat, by have := inc_range HI.out; omega⟩
        subst hq
        have h6 : q ≤ 6 := by have := inc_range HI.out; omega
        go_enter Try.func11, Try.ntmps11
        go_wp2_with fail
        refine (goodColumns_any _ _).mono ?_
        rintro e w1 ⟨rfl, rfl⟩
        rw [HI.out]
        go_wp2_with fail
        refine (goodWeighted_any _ _ _ ts _ _ hz hn HA).mono ?_
        rintro e w1 ⟨rfl, hb1⟩
        rw [HL.out]
        have B1 := B0.trans (hb1.mono B0.size)
        have g0 := cell_later hb1 e0
        have g1 := cell_later hb1 e1
        have k0 := frozen_later hb1 e0 f0
        have k1 := frozen_later hb1 e1 f1
        go_wp2_with fail
        refine (sumsOf_any _ _ _ ts _ _ hz h200 (by decide) (by decide) hg (HA.below hb1)).mono ?_
        rintro e w2 ⟨b, D, rfl, hbb, ho2, hm2, hb2⟩
        have B2 := B1.trans (hb2.mono B1.size)
        have l0 := cell_later hb2 g0
        have l1 := cell_later hb2 g1
        have j0 := frozen_later hb2 g0 k0
        have j1 := frozen_later hb2 g1 k1
        go_wp2_with fail
        refine (table_any b n D _ _ q _ (by omega) h6 ho2 hm2 (keys_list HL.out n)).mono ?_
        rintro e w3 ⟨us, ⟨r3, m3, d3, cells3, rfl, ho3⟩, hT, hb3⟩
        have B3 := B2.trans (hb3.mono B2.size)
        have hus : us = putAll [] ts := hT.unique (tells_new hz HL.out)
        subst hus
        have s0 := cell_later hb3 l0
        have s1 := cell_later hb3 l1
        have i0 := frozen_later hb3 l0 j0
        have i1 := frozen_later hb3 l1 j1
        have z2 : w.heap.size < w2.heap.size := World.block_lt_of_cell? _ _ l0
        have HNB : Hid (newB q ts = goodT q (putAll [] ts)) := newB_good HI.out (by omega) HL.out
        clear e0 e1 f0 f1 g0 g1 k0 k1 l0 l1 j0 j1 ho2 hm2 hT hb1 hb2 hb3 hg HA ha q0
        go_wp2
        refine bodyPost_ret (v := .tuple #[.agg #[.int .i64 (tellP q (putAll [] ts)), .slice r3 m3 d3], .bool (goodT q (putAll [] ts))]) (by simp [results, Try.results11, go_sem, s0, s1]) rfl ⟨TabAns.tell HNB.out ⟨r3, m3, d3, cells3, rfl, ho3.stored z2 (by omega) _ _⟩, ?_⟩
        exact (B3.setCell (by simp) _).setCell (by simp) _

    · have hn2 : (200 : Int) < (n : Int) := by omega
      go_enter Try.func11, Try.ntmps11
      go_wp2_with fail
      refine (goodColumns_any _ _).mono ?_
      rintro e w1 ⟨rfl, rfl⟩
      rw [HI.out]

      go_wp2
      refine bodyPost_ret (v := .tuple #[.agg #[.int .i64 0, .slice none 0 0], .bool false]) (by simp [results, Try.results11, go_sem, e0, e1]) rfl ⟨TabAns.zero (newB_len (by omega)) rfl, ?_⟩
      first | exact (B0.setCell (by simp) _).setCell (by simp) _ | exact B0
end Go.Proofs.Ytogokgegkakmbaa
