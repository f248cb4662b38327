/- slices.Sort and slices.Compact at ints, over a slice that the call owns. -/
import Derived.Test.YteggbamjfhbmfaaGround
import Derived.Test.YteggbamjfhbmfaaShelfQ
import Derived.Test.YteggbamjfhbmfaaRepR
import Derived.Sort.OwnSortedInts
namespace Go.Proofs.Yteggbamjfhbmfaa
open Go.RowKit Go.Sort

theorem sortInts_own (B : Nat) (a : Option Addr) (n c : Nat) (zs : List Int) (w : World) (hz : zs.length = n) (hn : n ≤ 1048576) (hB : B ≤ w.heap.size) (ho : w.ownsRow B 3 1 (.slice a n c) n (zs.map (.int .i64))) :
    Calls Try.prog 91 #[.slice a n c] w fun e w' => e = .returned (.tuple #[]) ∧ w'.ownsRow B 3 1 (.slice a n c) n ((zs.mergeSort fun x y => decide (x ≤ y)).map (.int .i64)) ∧ Below B w w' := by
  by_cases h0 : n = 0
  · subst h0
    obtain rfl := List.eq_nil_of_length_eq_zero hz
    refine (Try.slices_Sort_int_none a c w).mono ?_
    rintro e w' ⟨rfl, rfl⟩
    exact ⟨rfl, by simpa using ho, Below.refl _ _⟩
  · rcases ho.2 with ⟨_, h⟩ | ⟨g, cap, cur, hv, hb, hg, hc1, hc2, hc3, hc4⟩
    · exact absurd h h0
    · simp only [Value.slice.injEq, true_and] at hv
      obtain ⟨rfl, rfl⟩ := hv
      have hcur : cur.toList.take zs.length = zs.map (.int .i64) := by rw [hz]; simpa using hc4
      have hH := holds_of_blockI hg hcur
      have h9 := Try.slices_Sort_int g 0 c zs w hH (Array.getElem?_eq_some_iff.1 hg).1 (by omega)
      rw [hz] at h9
      refine h9.mono ?_
      rintro e w' ⟨rfl, q, os, rfl⟩
      have hl : (zs.mergeSort fun x y => decide (x ≤ y)).length = zs.length := List.length_mergeSort ..
      have ho2 := ownsRow_sortedI (n := q) (os := os) (ss := zs) hl hb hg (by omega) hc2 hc3
      rw [hz] at ho2
      exact ⟨rfl, ho2, (Below.refl _ _).grown (grownBy_sortedI _) hB (fun j hj => by cases hj; exact hb)⟩

theorem compactInts_own (B : Nat) (a : Option Addr) (n c : Nat) (zs : List Int) (w : World) (hz : zs.length = n) (hn : n ≤ 1048576) (hB : B ≤ w.heap.size) (ho : w.ownsRow B 3 1 (.slice a n c) n (zs.map (.int .i64))) :
    Calls Try.prog 92 #[.slice a n c] w fun e w' => ∃ m, e = .returned (.slice a m c) ∧ (Lib.compact zs).length = m ∧ w'.ownsRow B 3 1 (.slice a m c) m ((Lib.compact zs).map (.int .i64)) ∧ Below B w w' := by
  by_cases h0 : n = 0
  · subst h0
    obtain rfl := List.eq_nil_of_length_eq_zero hz
    refine (Try.slices_Compact_int_empty a c w).mono ?_
    rintro e w' ⟨rfl, rfl⟩
    exact ⟨0, rfl, rfl, by simpa [Lib.compact, Lib.compactUpTo] using ho, Below.refl _ _⟩
  · rcases ho.2 with ⟨_, h⟩ | ⟨g, cap, cur, hv, hb, hg, hc1, hc2, hc3, hc4⟩
    · exact absurd h h0
    · simp only [Value.slice.injEq, true_and] at hv
      obtain ⟨rfl, rfl⟩ := hv
      have hcur : cur.toList.take zs.length = zs.map (.int .i64) := by rw [hz]; simpa using hc4
      have hH := holds_of_blockI hg hcur
      have h9 := Try.slices_Compact_int g 0 c zs w hH (by omega) (by omega)
      rw [hz] at h9
      refine h9.mono ?_
      rintro e w' ⟨rfl, q, rfl⟩
      have hle : (Lib.compact zs).length ≤ n := by
        rw [← hz]
        unfold Lib.compact Lib.compactUpTo
        rw [List.length_map]
        exact Nat.le_trans (List.length_filter_le _ _) (by simp)
      obtain ⟨ts, hts⟩ : ∃ ts, ts = Lib.compact zs ++ List.replicate (n - (Lib.compact zs).length) (0 : Int) := ⟨_, rfl⟩
      have hl : ts.length = zs.length := by rw [hts, List.length_append, List.length_replicate, hz]; omega
      rw [← hts]
      have ho2 := ownsRow_sortedI (n := q) (os := #[]) (ss := zs) hl hb hg (by omega) hc2 hc3
      have hg2 : w.grownBy (grow (putRow (Value.int .i64) (Sort.ahead w q) g 0 ts.toArray) #[]) (some g) := grownBy_sortedI _
      rw [hz] at ho2
      rw [grow_empty] at ho2 hg2
      have ho3 := owns_take ho2 hle
      have ht : (ts.map (Value.int .i64)).take ((Lib.compact zs).length * 1) = (Lib.compact zs).map (.int .i64) := by
        rw [Nat.mul_one, ← List.map_take, hts, List.take_left']
        rfl
      rw [ht] at ho3
      exact ⟨_, rfl, rfl, ho3, (Below.refl _ _).grown hg2 hB (fun j hj => by cases hj; exact hb)⟩

end Go.Proofs.Yteggbamjfhbmfaa
