/- slices.SortFunc at arrays of six ints, by the shelf's contract; the row behind it. -/
import Derived.Test.YtlfljfmhhnoinaaSortA
import Derived.Test.YtlfljfmhhnoinaaShelf
import Derived.Shelf.SlSortCmp.NoneTotal
namespace Go.Proofs.Ytlfljfmhhnoinaa
open Go.RowKit Go.Shelf Go.Sort

/-- The six-number arrays in the order of cmp. -/
def sorted (ks : List Six) : List Six := ks.mergeSort fun x y => !(ltOf Six.cf) y x

theorem sorted_perm (ks : List Six) : (sorted ks).Perm ks := List.mergeSort_perm _ _
theorem sorted_rises {ks : List Six} (h : ks.Nodup) : (sorted ks).Pairwise fun x y => cmp (Six.list x) (Six.list y) < 0 := by
  have h1 : (sorted ks).Pairwise fun x y => (!(ltOf Six.cf) y x) = true := List.pairwise_mergeSort (fun a b c hab hbc => by
      simp only [Bool.not_eq_true'] at *
      exact Six.swo.ntrans c b a hbc hab) (fun a b => by
      simp only [Bool.or_eq_true, Bool.not_eq_true']
      by_cases e : (ltOf Six.cf) b a = true
      · right
        cases e2 : (ltOf Six.cf) a b with
        | false => rfl
        | true => have := Six.swo.trans a b a e2 e; rw [Six.swo.irrefl] at this; cases this
      · left; simpa using e) ks
  have h2 : (sorted ks).Nodup := (sorted_perm ks).nodup_iff.2 h
  refine (h1.and h2).imp fun {x y} ⟨hxy, hne⟩ => ?_
  simp only [Bool.not_eq_true'] at hxy
  rw [Six.lt, decide_eq_false_iff_not] at hxy
  have hs := cmp_swap (Six.list x) (Six.list y)
  have hn : cmp (Six.list x) (Six.list y) ≠ 0 := fun e => hne (Six.list_inj (cmp_eq e))
  omega

theorem six_get (x : Six) (t : Nat) (h : t < 6) : (Six.enc x)[t]? = some ((Six.enc x)[t]!) := by
  have : (Six.enc x).length = 6 := rfl
  rw [List.getElem?_eq_getElem (by omega), getElem!_pos _ _ (by omega)]
theorem flat_get (l : List Six) : ∀ t, t < l.length * 6 → (l.flatMap Six.enc)[t]? = some ((Six.enc (l.toArray[t / 6]!))[t % 6]!) := by
  induction l with
  | nil => intro t h; simp at h
  | cons x l ih =>
    intro t h
    have hx : (Six.enc x).length = 6 := rfl
    rw [List.flatMap_cons]
    by_cases h6 : t < 6
    · rw [List.getElem?_append_left (by omega), six_get x t h6, show t / 6 = 0 by omega, show t % 6 = t by omega]
      simp
    · simp only [List.length_cons] at h
      rw [List.getElem?_append_right (by omega), hx, ih (t - 6) (by omega), show (t - 6) % 6 = t % 6 by omega, show t / 6 = (t - 6) / 6 + 1 by omega]
      simp
theorem flat_length (l : List Six) : (l.flatMap Six.enc).length = l.length * 6 := by
  induction l with
  | nil => rfl
  | cons x l ih => rw [List.flatMap_cons, List.length_append, ih]; simp [Six.enc]; omega

theorem holdsK_of_own {w : World} {base g n c : Nat} {e : TypeId} {ks : List Six} (hn : ks.length = n) (h : w.ownsRow base e 6 (.slice (some ⟨g, 0, none⟩) n c) n (ks.flatMap Six.enc)) : HoldsK Six.enc 6 w g 0 ks.toArray := by
  intro j hj
  rw [size_flatK] at hj
  have hj' : j < n * 6 := by simpa [hn] using hj
  refine ⟨?_, by rw [Nat.zero_add]; exact h.frozenAt j⟩
  rw [Nat.zero_add, h.cellAt j hj', flat_get ks j (by omega), get_flatK _ _ _ _ hj]
  rfl

theorem owns_sorted {w : World} {base g n c m : Nat} {e : TypeId} {os : Array Obj} {ks ts : List Six} (ht : ts.length = n) (h : w.ownsRow base e 6 (.slice (some ⟨g, 0, none⟩) n c) n (ks.flatMap Six.enc)) :
    (sortWorldK Six.enc 6 w g 0 m ts.toArray os).ownsRow base e 6 (.slice (some ⟨g, 0, none⟩) n c) n (ts.flatMap Six.enc) ∧ w.grownBy (sortWorldK Six.enc 6 w g 0 m ts.toArray os) (some g) := by
  rcases h.2 with ⟨hv, _⟩ | ⟨g', cap, cur, hv, hbase, hb, h1, h2, h3, h4⟩
  · simp at hv
  · simp only [Value.slice.injEq, Option.some.injEq, Addr.mk.injEq, and_true, true_and] at hv
    obtain ⟨rfl, rfl⟩ := hv
    have hg : g < w.heap.size := (Array.getElem?_eq_some_iff.1 hb).1
    have hsz : (putRow id (Sort.ahead w m) g 0 (flatK Six.enc 6 ts.toArray)).heap.size = w.heap.size := by simp [putRow, mapBlock, Sort.ahead]
    refine ⟨⟨by rw [flat_length, ht], .inr ⟨g, c, putCells id 0 (flatK Six.enc 6 ts.toArray) cur, rfl, hbase, ?_, h1, h2, by simp [putCells, h3], ?_⟩⟩, rfl, rfl, rfl, ?_, fun k hk hne => ?_⟩
    · unfold sortWorldK putRowK
      rw [heap_grow_old _ _ (by rw [hsz]; exact hg)]
      simp [putRow, mapBlock, Sort.ahead, Array.getElem?_modify, hb, onCells]
    · apply List.ext_getElem?
      intro j
      have hlf := flat_length ts
      by_cases hj : j < n * 6
      · rw [List.getElem?_take_of_lt hj, Array.getElem?_toList, flat_get ts j (by omega)]
        have hjc : j < cur.size := by rw [h3]; exact Nat.lt_of_lt_of_le hj (Nat.mul_le_mul_right 6 h1)
        have hjd : j < ts.length * 6 := by omega
        have hfk := get_flatK Six.enc 6 ts.toArray j (by simpa using hjd)
        simp only [putCells, Array.getElem?_mapIdx, Array.getElem?_eq_getElem hjc, Option.map_some]
        rw [if_pos ⟨Nat.zero_le _, by rw [size_flatK]; simpa using hjd⟩]
        simp only [id, Nat.sub_zero]
        rw [hfk]
      · rw [List.getElem?_eq_none (by rw [List.length_take]; omega), List.getElem?_eq_none (by omega)]
    · unfold sortWorldK putRowK
      simp [grow, hsz]
    · unfold sortWorldK putRowK
      rw [heap_grow_old _ _ (by rw [hsz]; exact hk)]
      have : g ≠ k := fun e => hne (by rw [e])
      simp [putRow, mapBlock, Sort.ahead, Array.getElem?_modify, this]

theorem sortFunc_any (g n cap base : Nat) (e : TypeId) (ks : List Six) (w : World) (hn : ks.length = n) (h1000 : n ≤ 1048576) (h : w.ownsRow base e 6 (.slice (some ⟨g, 0, none⟩) n cap) n (ks.flatMap Six.enc)) :
    Calls Try.prog 77 #[.slice (some ⟨g, 0, none⟩) n cap, .func (.func 46) #[] #[]] w fun e' w' => e' = .returned (.tuple #[]) ∧
      w'.ownsRow base e 6 (.slice (some ⟨g, 0, none⟩) n cap) n ((sorted ks).flatMap Six.enc) ∧ w.grownBy w' (some g) := by
  have eg : ∀ args w, (callFunc 46 args).run Try.prog w = .ok (.enter 46 args) w := enters_of Try.func46 (by kernel_rfl) rfl
  have hd : ks.toArray.size = n := by simpa using hn
  have hcon := AnyQ.slices_SortFunc_total Try.sortA 6 Try.isAgg72 Try.sizeOf72 Six.enc (fun _ => rfl) (fun x v hv => by simp [Six.enc] at hv; rcases hv with rfl | rfl | rfl | rfl | rfl | rfl <;> rfl) Six.cf Six.swo 46 #[] g 0 cap ks.toArray w eg (Six.lays g 0 ks.toArray.size w) (holdsK_of_own hn h) ((h.lt g rfl).2) (by rw [hd]; omega) Six.total
  rw [hd] at hcon
  refine Calls.mono hcon ?_
  rintro e' w' ⟨rfl, m, os, rfl⟩
  have hs : (sorted ks).length = n := by rw [(sorted_perm ks).length_eq]; exact hn
  exact ⟨rfl, owns_sorted hs h⟩

theorem sortNone_any (p : Option Addr) (cap : Nat) (fv : Value) (w : World) :
    Calls Try.prog 77 #[.slice p 0 cap, fv] w fun e w' => e = .returned (.tuple #[]) ∧ w' = w := AnyF.slices_SortFunc_none Try.sortA p cap fv w

end Go.Proofs.Ytlfljfmhhnoinaa
