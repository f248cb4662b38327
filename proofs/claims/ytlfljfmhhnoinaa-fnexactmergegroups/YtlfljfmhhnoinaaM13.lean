/- Several texts of one proof, in build order: SortF, InV, AddV. -/
import Derived.Test.YtlfljfmhhnoinaaM6
import Derived.Test.YtlfljfmhhnoinaaShelf
import Derived.Shelf.SlSortCmp.NoneTotal
import Derived.Test.YtlfljfmhhnoinaaM7
import Derived.Deep.AppendLies
import Derived.Laws.StructEq
import Derived.Test.YtlfljfmhhnoinaaM9

/- slices.SortFunc at arrays of six ints, by the shelf's contract; the row behind it. -/
namespace Go.Proofs.Ytlfljfmhhnoinaa
open Go.RowKit Go.Shelf Go.Sort

/-- The six-number arrays in the order of cmp. -/
def sorted (ks : List Six) : List Six := ks.mergeSort fun x y => !(ltOf Six.cf) y x

theorem sorted_perm (ks : List Six) : (sorted ks).Perm ks := List.mergeSort_perm _ _
theorem sorted_rises {ks : List Six} (h : ks.Nodup) : (sorted ks).Pairwise fun x y => cmp (Six.list x) (Six.list y) < 0 := by
  have h1 : (sorted ks).Pairwise fun x y => (!(ltOf Six.cf) y x) = true := List.pairwise_mergeSort (fun a b c hab hbc => by
      simp only [Bool.not_eq_true'] at *
      exact Six.swo.ntrans c b a hbc hab) (fun a b => by
      simp only [Bool.or_eq_true, Bool.not_eq_true']
      by_cases e : (ltOf Six.cf) b a = true
      · right
        cases e2 : (ltOf Six.cf) a b with
        | false => rfl
        | true => have := Six.swo.trans a b a e2 e; rw [Six.swo.irrefl] at this; cases this
      · left; simpa using e) ks
  have h2 : (sorted ks).Nodup := (sorted_perm ks).nodup_iff.2 h
  refine (h1.and h2).imp fun {x y} ⟨hxy, hne⟩ => ?_
  simp only [Bool.not_eq_true'] at hxy
  rw [Six.lt, decide_eq_false_iff_not] at hxy
  have hs := cmp_swap (Six.list x) (Six.list y)
  have hn : cmp (Six.list x) (Six.list y) ≠ 0 := fun e => hne (Six.list_inj (cmp_eq e))
  omega

theorem six_get (x : Six) (t : Nat) (h : t < 6) : (Six.enc x)[t]? = some ((Six.enc x)[t]!) := by
  have : (Six.enc x).length = 6 := rfl
  rw [List.getElem?_eq_getElem (by omega), getElem!_pos _ _ (by omega)]
theorem flat_get (l : List Six) : ∀ t, t < l.length * 6 → (l.flatMap Six.enc)[t]? = some ((Six.enc (l.toArray[t / 6]!))[t % 6]!) := by
  induction l with
  | nil => intro t h; simp at h
  | cons x l ih =>
    intro t h
    have hx : (Six.enc x).length = 6 := rfl
    rw [List.flatMap_cons]
    by_cases h6 : t < 6
    · rw [List.getElem?_append_left (by omega), six_get x t h6, show t / 6 = 0 by omega, show t % 6 = t by omega]
      simp
    · simp only [List.length_cons] at h
      rw [List.getElem?_append_right (by omega), hx, ih (t - 6) (by omega), show (t - 6) % 6 = t % 6 by omega, show t / 6 = (t - 6) / 6 + 1 by omega]
      simp
theorem flat_length (l : List Six) : (l.flatMap Six.enc).length = l.length * 6 := by
  induction l with
  | nil => rfl
  | cons x l ih => rw [List.flatMap_cons, List.length_append, ih]; simp [Six.enc]; omega

theorem holdsK_of_own {w : World} {base g n c : Nat} {e : TypeId} {ks : List Six} (hn : ks.length = n) (h : w.ownsRow base e 6 (.slice (some ⟨g, 0, none⟩) n c) n (ks.flatMap Six.enc)) : HoldsK Six.enc 6 w g 0 ks.toArray := by
  intro j hj
  rw [size_flatK] at hj
  have hj' : j < n * 6 := by simpa [hn] using hj
  refine ⟨?_, by rw [Nat.zero_add]; exact h.frozenAt j⟩
  rw [Nat.zero_add, h.cellAt j hj', flat_get ks j (by omega), get_flatK _ _ _ _ hj]
  rfl

theorem owns_sorted {w : World} {base g n c m : Nat} {e : TypeId} {os : Array Obj} {ks ts : List Six} (ht : ts.length = n) (h : w.ownsRow base e 6 (.slice (some ⟨g, 0, none⟩) n c) n (ks.flatMap Six.enc)) :
    (sortWorldK Six.enc 6 w g 0 m ts.toArray os).ownsRow base e 6 (.slice (some ⟨g, 0, none⟩) n c) n (ts.flatMap Six.enc) ∧ w.grownBy (sortWorldK Six.enc 6 w g 0 m ts.toArray os) (some g) := by
  rcases h.2 with ⟨hv, _⟩ | ⟨g', cap, cur, hv, hbase, hb, h1, h2, h3, h4⟩
  · simp at hv
  · simp only [Value.slice.injEq, Option.some.injEq, Addr.mk.injEq, and_true, true_and] at hv
    obtain ⟨rfl, rfl⟩ := hv
    have hg : g < w.heap.size := (Array.getElem?_eq_some_iff.1 hb).1
    have hsz : (putRow id (Sort.ahead w m) g 0 (flatK Six.enc 6 ts.toArray)).heap.size = w.heap.size := by simp [putRow, mapBlock, Sort.ahead]
    refine ⟨⟨by rw [flat_length, ht], .inr ⟨g, c, putCells id 0 (flatK Six.enc 6 ts.toArray) cur, rfl, hbase, ?_, h1, h2, by simp [putCells, h3], ?_⟩⟩, rfl, rfl, rfl, ?_, fun k hk hne => ?_⟩
    · unfold sortWorldK putRowK
      rw [heap_grow_old _ _ (by rw [hsz]; exact hg)]
      simp [putRow, mapBlock, Sort.ahead, Array.getElem?_modify, hb, onCells]
    · apply List.ext_getElem?
      intro j
      have hlf := flat_length ts
      by_cases hj : j < n * 6
      · rw [List.getElem?_take_of_lt hj, Array.getElem?_toList, flat_get ts j (by omega)]
        have hjc : j < cur.size := by rw [h3]; exact Nat.lt_of_lt_of_le hj (Nat.mul_le_mul_right 6 h1)
        have hjd : j < ts.length * 6 := by omega
        have hfk := get_flatK Six.enc 6 ts.toArray j (by simpa using hjd)
        simp only [putCells, Array.getElem?_mapIdx, Array.getElem?_eq_getElem hjc, Option.map_some]
        rw [if_pos ⟨Nat.zero_le _, by rw [size_flatK]; simpa using hjd⟩]
        simp only [id, Nat.sub_zero]
        rw [hfk]
      · rw [List.getElem?_eq_none (by rw [List.length_take]; omega), List.getElem?_eq_none (by omega)]
    · unfold sortWorldK putRowK
      simp [grow, hsz]
    · unfold sortWorldK putRowK
      rw [heap_grow_old _ _ (by rw [hsz]; exact hk)]
      have : g ≠ k := fun e => hne (by rw [e])
      simp [putRow, mapBlock, Sort.ahead, Array.getElem?_modify, this]

theorem sortFunc_any (g n cap base : Nat) (e : TypeId) (ks : List Six) (w : World) (hn : ks.length = n) (h1000 : n ≤ 1048576) (h : w.ownsRow base e 6 (.slice (some ⟨g, 0, none⟩) n cap) n (ks.flatMap Six.enc)) :
    Calls Try.prog 77 #[.slice (some ⟨g, 0, none⟩) n cap, .func (.func 46) #[] #[]] w fun e' w' => e' = .returned (.tuple #[]) ∧
      w'.ownsRow base e 6 (.slice (some ⟨g, 0, none⟩) n cap) n ((sorted ks).flatMap Six.enc) ∧ w.grownBy w' (some g) := by
  have eg : ∀ args w, (callFunc 46 args).run Try.prog w = .ok (.enter 46 args) w := enters_of Try.func46 (by kernel_rfl) rfl
  have hd : ks.toArray.size = n := by simpa using hn
  have hcon := AnyQ.slices_SortFunc_total Try.sortA 6 Try.isAgg72 Try.sizeOf72 Six.enc (fun _ => rfl) (fun x v hv => by simp [Six.enc] at hv; rcases hv with rfl | rfl | rfl | rfl | rfl | rfl <;> rfl) Six.cf Six.swo 46 #[] g 0 cap ks.toArray w eg (Six.lays g 0 ks.toArray.size w) (holdsK_of_own hn h) ((h.lt g rfl).2) (by rw [hd]; omega) Six.total
  rw [hd] at hcon
  refine Calls.mono hcon ?_
  rintro e' w' ⟨rfl, m, os, rfl⟩
  have hs : (sorted ks).length = n := by rw [(sorted_perm ks).length_eq]; exact hn
  exact ⟨rfl, owns_sorted hs h⟩

theorem sortNone_any (p : Option Addr) (cap : Nat) (fv : Value) (w : World) :
    Calls Try.prog 77 #[.slice p 0 cap, fv] w fun e w' => e = .returned (.tuple #[]) ∧ w' = w := AnyF.slices_SortFunc_none Try.sortA p cap fv w

end Go.Proofs.Ytlfljfmhhnoinaa

/- Contract of impl.groupSums.inOrder. -/
namespace Go.Proofs.Ytlfljfmhhnoinaa
open Go.RowKit Go.Maps

/-- The arrays that the range has passed. -/
structure PassedV (D : DataW Unit) (left : Lit → Bool) (ks : List Six) : Prop where
  fits : ∀ x ∈ ks, Fits (Six.list x)
  once : ks.Nodup
  just : ∀ x : Six, Fits (Six.list x) → (x ∈ ks ↔ (Maps.has D (klit (Six.list x)) = true ∧ left (klit (Six.list x)) = false))

theorem PassedV.start (D : DataW Unit) : PassedV D (Maps.has D) [] := ⟨by simp, by simp, fun x _ => by
  constructor
  · intro h; cases h
  · rintro ⟨h1, h2⟩; rw [h1] at h2; cases h2⟩

theorem PassedV.step {D : DataW Unit} {left : Lit → Bool} {ks : List Six} (h : PassedV D left ks) {x : Six} (hx : Fits (Six.list x)) (hl : left (klit (Six.list x)) = true) (hh : Maps.has D (klit (Six.list x)) = true) :
    PassedV D (fun z => left z && !z.sameKey (klit (Six.list x))) (ks ++ [x]) := by
  have hself : (klit (Six.list x)).sameKey (klit (Six.list x)) = true := WideAt.sameKey_self (klit_key hx)
  have hoth : ∀ y : Six, Fits (Six.list y) → y ≠ x → (klit (Six.list y)).sameKey (klit (Six.list x)) = false := fun y hy hne =>
    sameKey_ne (fun e => hne (Six.list_inj (klit_inj hy hx e)))
  have hnot : x ∉ ks := fun hm => by have := ((h.just x hx).1 hm).2; rw [hl] at this; cases this
  refine ⟨fun y hy => ?_, ?_, fun y hy => ?_⟩
  · rcases List.mem_append.1 hy with h1 | h1
    · exact h.fits y h1
    · obtain rfl : y = x := by simpa using h1
      exact hx
  · rw [List.nodup_append]
    exact ⟨h.once, by simp, fun a ha b hb e => by obtain rfl : b = x := by simpa using hb
                                                  exact hnot (e ▸ ha)⟩
  · by_cases e : y = x
    · subst e
      simp [hself, hh]
    · have := h.just y hy
      simp only [List.mem_append, List.mem_singleton, e, or_false, hoth y hy e, Bool.not_false, Bool.and_true]
      exact this

set_option maxRecDepth 100000 in
set_option maxHeartbeats 2000000 in
theorem inOrderV (b cnt : Nat) (D : DataW Unit) (w : World) (hcnt : cnt ≤ 1048576) (hown : w.ownsMap Try.prog 72 amtElem b cnt D) :
    Calls Try.prog 75 #[.map (some b)] w fun e w' => ∃ (ks : List Six) (r : Option Addr) (d n : Nat), e = .returned (.slice r n d) ∧ ks.length = n ∧ n ≤ cnt ∧ w'.ownsRow (w.heap.size + 1) 72 6 (.slice r n d) n (ks.flatMap Six.enc) ∧
      (ks.Pairwise fun x y => cmp (Six.list x) (Six.list y) < 0) ∧ (∀ x ∈ ks, Fits (Six.list x)) ∧ (∀ x : Six, Fits (Six.list x) → (x ∈ ks ↔ Maps.has D (klit (Six.list x)) = true)) ∧ Below w.heap.size w w' := by
  obtain ⟨i0, hi, hz0, hz1, hz2⟩ := info_parts Try.infoA
  have hsz := hown.size_le
  go_enter Try.func75, Try.ntmps75
  go_wp2_with (first | (at_range; refine wpList_range_own _ rfl _ 90 rfl 72 77 Try.keyedA Try.underlying90 _ b cnt D rfl hown ?_; intro w0 hrg0 hg0 hs0) | go_in)
  go_frame
  have B0 : Below w.heap.size w w0 := (Below.refl _ _).grown hg0 (Nat.le_refl _) (by simp)
  go_loopw [3] (fun o wr => ∃ (left : Lit → Bool) (c0 : Nat) (ks : List Six) (r : Option Addr) (d : Nat), o = .slice r ks.length d ∧ wr.ranges Try.prog 72 amtElem b w.heap.size cnt D left c0 ∧ PassedV D left ks ∧ ks.length + c0 ≤ cnt ∧
      wr.ownsRow (w.heap.size + 1) 72 6 (.slice r ks.length d) ks.length (ks.flatMap Six.enc) ∧ Below w.heap.size w wr) (fun _ wr => wr.rangeLeft b w.heap.size)
  case atStart => exact ⟨_, _, [], none, 0, rfl, hrg0, PassedV.start D, by simpa using hsz, World.ownsRow_nil _ _ _ _, B0⟩
  case round =>
    clear hrg0 hg0 hs0 B0 w0
    obtain ⟨left, c0, ks, r, d, rfl, hrg, hP, hlen, ho, hbw⟩ := hrel
    go_wp2_with (first | (at_next; refine wpList_next_ranges _ rfl _ rfl 72 Try.keyedA amtElem Six.val amtVal (fun _ _ h => six_key h) (fun v y hv => by obtain ⟨c, rfl, _⟩ := amtElem_inv hv; exact ⟨c, rfl⟩) b w.heap.size cnt D left c0 rfl hrg ?_ ?_) | go_in)
    · intro h00 hl0
      have hs : ∀ ks' : List Six, ks'.Perm ks → (∀ x ∈ ks', Fits (Six.list x)) ∧ (∀ x : Six, Fits (Six.list x) → (x ∈ ks' ↔ Maps.has D (klit (Six.list x)) = true)) := fun ks' hp =>
        ⟨fun x hx => hP.fits x (hp.mem_iff.1 hx), fun x hx => by rw [hp.mem_iff, hP.just x hx, hl0]; simp⟩
      have HSS := Hid.mk hs
      have HON := Hid.mk hP.once
      obtain ⟨n, hn⟩ : ∃ n, ks.length = n := ⟨_, rfl⟩
      rw [hn] at ho hlen
      have HN := Hid.mk hn
      rw [hn]
      clear hl0 hs hP hrg hn
      by_cases hn0 : n = 0
      · subst hn0
        obtain rfl : ks = [] := List.eq_nil_of_length_eq_zero HN.out
        go_wp2_with fail
        refine (sortNone_any _ _ _ _).mono ?_
        rintro e w2 ⟨rfl, rfl⟩
        go_wp2
        go_ret
        exact ⟨[], r, d, 0, rfl, rfl, by omega, ho, List.Pairwise.nil, (HSS.out [] (List.Perm.refl _)).1, (HSS.out [] (List.Perm.refl _)).2, hbw⟩
      · obtain ⟨g, hgv⟩ : ∃ g, r = some ⟨g, 0, none⟩ := by
          rcases ho.2 with ⟨_, h⟩ | ⟨g, cap, cur, hv, _⟩
          · omega
          · simp only [Value.slice.injEq, true_and] at hv
            exact ⟨g, hv.1⟩
        subst hgv
        have hgl := (ho.lt g rfl).1
        go_wp2_with fail
        refine (sortFunc_any g n d _ _ ks _ HN.out (by omega) ho).mono ?_
        rintro e w2 ⟨rfl, ho2, hg2⟩
        have HB := Hid.mk (hbw.grown hg2 hbw.size (fun j hj => by cases hj; omega))
        clear hg2 hbw ho
        go_wp2
        go_ret
        exact ⟨sorted ks, some ⟨g, 0, none⟩, d, n, rfl, (sorted_perm ks).length_eq.trans HN.out, by omega, ho2, sorted_rises HON.out, (HSS.out _ (sorted_perm ks)).1, (HSS.out _ (sorted_perm ks)).2, HB.out⟩
    · intro x0 x1 x2 x3 x4 x5 c ck kl yd yp w1 cnt1 hkey hlk hv hat hrg1 hlt hg1 hs1 hen
      have hbw1 : Below w.heap.size w w1 := hbw.grown hg1 hbw.size (fun j hj => by cases hj; exact Nat.le_refl _)
      have ho1 : w1.ownsRow (w.heap.size + 1) 72 6 (.slice r ks.length d) ks.length (ks.flatMap Six.enc) := ho.kept hg1 (by
        cases hv' : (Value.slice r ks.length d).ownBlock with
        | none => exact .inl rfl
        | some k => exact .inr (fun e => by have := (ho.lt k hv').1; simp at e; omega))
      obtain ⟨zs, hfz, hvz, rfl⟩ := keyOf_arr_inv hkey
      obtain rfl : zs = Six.list (x0, x1, x2, x3, x4, x5) := (arrV_inj (by rw [← hvz]; rfl)).symm
      have hhas : Maps.has D (klit (Six.list (x0, x1, x2, x3, x4, x5))) = true := has_true_of_atKey hat
      have hst := hP.step hfz hlk hhas
      have HST := Hid.mk hst
      have HRG := Hid.mk hrg1
      have HBW := Hid.mk hbw1
      have hlf := hrg.left_eq
      have HLF := Hid.mk hlf
      have z1 : w.heap.size + 1 ≤ w1.heap.size := by rw [hs1]; have := hrg.lt; omega
      clear hst hrg1 hbw1 hlf hat hkey hv hlk hvz hhas hg1 ho hbw hrg hP hs1
      simp only [Six.val, amtVal] at hen
      have hbl := hown.lt
      have hks : ks.length ≤ 1048576 := by omega
      obtain ⟨n, hn⟩ : ∃ n, ks.length = n := ⟨_, rfl⟩
      rw [hn] at ho1 hks
      have HN := Hid.mk hn
      have HO1 := ho1
      rw [hn]
      clear hn
      go_wp2_with (at_builtin; refine wpList_append_lies _ rfl (.tmp 11) (.tmp 13) 102 rfl (w.heap.size + 1) 72 i0 (.agg #[.int .i64 0, .int .i64 0, .int .i64 0, .int .i64 0, .int .i64 0, .int .i64 0]) 6 48 Try.underlying102 hi hz0 hz1 hz2 rfl (by decide) _ _ _ rfl ((HO1.alloc _).alloc _) ⟨w1.heap.size + 1, 0, none⟩ 1 1 [.int .i64 x0, .int .i64 x1, .int .i64 x2, .int .i64 x3, .int .i64 x4, .int .i64 x5] rfl rfl (by simpa using news_at (w1.alloc (.cells #[.int .i64 x0, .int .i64 x1, .int .i64 x2, .int .i64 x3, .int .i64 x4, .int .i64 x5] 72)) #[.int .i64 x0, .int .i64 x1, .int .i64 x2, .int .i64 x3, .int .i64 x4, .int .i64 x5] 72) (by intro u hu; simp at hu; rcases hu with rfl | rfl | rfl | rfl | rfl | rfl <;> rfl) (by decide) (by unfold maxLen; omega) (by omega) (by simp; omega) (w1.heap.size + 1 + 1) (by simp) ?_; intro g2 cap2 w4 hown4 hgrow4 hat4 hlt4)
      have hgr : w1.grownBy w4 (Value.slice r n d).ownBlock := grown_alloc (grown_alloc hgrow4)
      have hrb : ∀ k, (Value.slice r n d).ownBlock = some k → w.heap.size + 1 ≤ k := fun k hk => (ho1.lt k hk).1
      have HR4 := Hid.mk (HRG.out.kept hgr (fun e => by have := hrb b e.symm; omega) (fun e => by have := hrb _ e.symm; omega))
      have HB4 : Hid (Below w.heap.size w w4) := HBW.out.grown hgr HBW.out.size (fun j hj => by have := hrb j hj; omega)
      have HO4 : Hid (w4.ownsRow (w.heap.size + 1) 72 6 (.slice (some ⟨g2, 0, none⟩) (ks ++ [(x0, x1, x2, x3, x4, x5)]).length cap2) (ks ++ [(x0, x1, x2, x3, x4, x5)]).length ((ks ++ [(x0, x1, x2, x3, x4, x5)]).flatMap Six.enc)) := by
        have hl : (ks ++ [(x0, x1, x2, x3, x4, x5)]).length = n + 1 := by rw [List.length_append, HN.out]; rfl
        rw [hl, List.flatMap_append]
        exact hown4
      have HLN : Hid ((ks ++ [(x0, x1, x2, x3, x4, x5)]).length = n + 1) := by show _ = _; rw [List.length_append, HN.out]; rfl
      clear hown4 hgrow4 hat4 hlt4 hgr hrb ho1 HO1
      go_wp2
      go_roundw
      case rel => exact ⟨_, cnt1, ks ++ [(x0, x1, x2, x3, x4, x5)], some ⟨g2, 0, none⟩, cap2, by rw [HLN.out], HR4.out, HST.out, by rw [HLN.out]; have := HN.out; omega, HO4.out, HB4.out⟩
      case measure => rw [HR4.out.left_eq, HLF.out]; exact hlt

end Go.Proofs.Ytlfljfmhhnoinaa

/- Contract of impl.groupSums.add. -/
namespace Go.Proofs.Ytlfljfmhhnoinaa
open Go.RowKit Go.Maps

theorem Try.zeroAmt (w : World) : (zeroValue 77).run Try.prog w = .ok (amtVal (0, 0)) w := by kernel_rfl
theorem Try.fieldA0 (a b : Int) (w : World) : (Instr.field 77 (.agg #[.int .i64 a, .int .i64 b]) 0).run Try.prog w = .ok (.int .i64 a) w := by kernel_rfl
theorem Try.fieldA1 (a b : Int) (w : World) : (Instr.field 77 (.agg #[.int .i64 a, .int .i64 b]) 1).run Try.prog w = .ok (.int .i64 b) w := by kernel_rfl
theorem lookV {w : World} {b cnt : Nat} {D : DataW Unit} {f : List Int → Amt} (ho : w.ownsMap Try.prog 72 amtElem b cnt D) (hm : MapV D f) (x0 x1 x2 x3 x4 x5 : Int) (hf : Fits [x0, x1, x2, x3, x4, x5]) :
    (Instr.lookup 90 (.map (some b)) (.agg #[.int .i64 x0, .int .i64 x1, .int .i64 x2, .int .i64 x3, .int .i64 x4, .int .i64 x5]) false).run Try.prog w = .ok (amtVal (f [x0, x1, x2, x3, x4, x5])) w := by
  obtain ⟨v, ps, h1, h2⟩ := ho.lookup Try.keyedA Try.underlying90 (Try.zeroAmt w) (amtElem_mk (0, 0)) (keyOf_arr _ hf)
  obtain ⟨c, rfl, hc⟩ := amtElem_inv h2
  have : D.atKey (klit [x0, x1, x2, x3, x4, x5]) (amtD (0, 0)) = amtD c := congrArg Prod.fst hc
  rw [← hm.at hf this]
  exact h1

set_option maxRecDepth 100000 in
set_option maxHeartbeats 4000000 in
theorem addV_any (a : Option Addr) (n c b q M : Nat) (ts : List GRow) (zs : List Int) (x y B C : Int) (w : World) (hz : zs.length = n) (hg : good zs = true) (hl : zs.length = q) (hM : M ≤ 1000000) (hB0 : 0 ≤ B) (hts : ∀ t ∈ ts, InA B t.2) (hxy : InA C (x, y)) (hBC : B + C ≤ 4000000000000000000) (ha : At w a zs) (hm : CntV w b q M ts) :
    Calls Try.prog 64 #[.map (some b), .agg #[.slice a n c], .agg #[.int .i64 x, .int .i64 y]] w fun e w' => e = .returned (.tuple #[]) ∧ CntV w' b q (M + 1) (putV ts zs (x, y)) ∧ w.grownBy w' (some b) := by
  have hbl := hm.lt
  have h6 : n ≤ 6 := by have := good_len hg; omega
  have HVB := Hid.mk (vOf_bound (zs := zs) hB0 hts)
  obtain ⟨cnt, D, f, hown, hmv, hT, hcM⟩ := hm
  have HMV := Hid.mk hmv
  have HT := Hid.mk hT
  have HW := Hid.mk (hT.weight zs hg hl)
  obtain ⟨W, hW⟩ : ∃ W, W = (w.alloc (.cells #[.slice a n c] 33)).alloc (.cells #[.int .i64 x, .int .i64 y] 77) := ⟨_, rfl⟩
  have zW : W.heap.size = w.heap.size + 1 + 1 := by rw [hW]; simp
  have B0 : Below w.heap.size w W := by rw [hW]; exact ((Below.refl _ _).alloc (Nat.le_refl _) _).alloc (by simp) _
  have m0 : W.cell? ⟨w.heap.size + 1, 0, none⟩ = some (.int .i64 x) := by rw [hW]; have := pair0 (w.alloc (.cells #[.slice a n c] 33)) (.int .i64 x) (.int .i64 y) 77; rwa [World.size_alloc] at this
  have m1 : W.cell? ⟨w.heap.size + 1, 1, none⟩ = some (.int .i64 y) := by rw [hW]; have := pair1 (w.alloc (.cells #[.slice a n c] 33)) (.int .i64 x) (.int .i64 y) 77; rwa [World.size_alloc] at this
  have HA := ha.below B0
  have hownW := hown.kept (Below.toGrown B0 none) (by simp)
  clear ha hown hmv hT
  have fA0 := Try.fieldA0
  have fA1 := Try.fieldA1
  go_enter Try.func64, Try.ntmps64
  go_wp2_with fail
  rw [← hW]
  clear hW
  refine (arrayOf_any _ _ _ zs _ hz h6 (fun k hk => good_cell hg k (by omega)) HA).mono ?_
  rintro e w1 ⟨x0, x1, x2, x3, x4, x5, rfl, hr, hb1⟩
  have B1 := B0.trans (hb1.mono B0.size)
  have hown1 := hownW.kept (Below.toGrown hb1 none) (by simp)
  replace m0 := cell_later hb1 m0
  replace m1 := cell_later hb1 m1
  clear hb1 HA B0 hownW
  have hfit := fits_raised hg
  rw [hr] at hfit
  have HFX := Hid.mk hfit
  have HR := Hid.mk hr
  rw [hr] at HW
  obtain ⟨⟨c1, c2⟩, hc⟩ : ∃ c : Amt, c = f [x0, x1, x2, x3, x4, x5] := ⟨_, rfl⟩
  have HC := Hid.mk hc
  have HVB2 : Hid (InA B (c1, c2)) := by have := HVB.out; rw [HW.out, ← hc] at this; exact this
  obtain ⟨P, hP⟩ : ∃ P, P = c1 + x := ⟨_, rfl⟩
  obtain ⟨Q, hQ⟩ : ∃ Q, Q = c2 + y := ⟨_, rfl⟩
  have hwP : IntKind.i64.wrap (c1 + x) = P := by
    obtain ⟨g1, g2, g3, g4⟩ := HVB2.out.add hxy
    simp only [addA] at g1 g2
    rw [IntWalk.i64_in _ (by omega)]; exact hP.symm
  have hwQ : IntKind.i64.wrap (c2 + y) = Q := by
    obtain ⟨g1, g2, g3, g4⟩ := HVB2.out.add hxy
    simp only [addA] at g3 g4
    rw [IntWalk.i64_in _ (by omega)]; exact hQ.symm
  have HPQ : Hid ((P, Q) = addA (f [x0, x1, x2, x3, x4, x5]) (x, y)) := by show _ = _; rw [hP, hQ, ← hc]; rfl
  clear hc hP hQ hfit hr
  obtain ⟨V, hV⟩ : ∃ V, V = w1.alloc (.cells #[.int .i64 x0, .int .i64 x1, .int .i64 x2, .int .i64 x3, .int .i64 x4, .int .i64 x5] 72) := ⟨_, rfl⟩
  have hbV : Below w1.heap.size w1 V := by rw [hV]; exact (Below.refl _ _).alloc (Nat.le_refl _) _
  have zV : V.heap.size = w1.heap.size + 1 := by rw [hV]; simp
  have qV : V.heap[w1.heap.size]? = some (.cells #[.int .i64 x0, .int .i64 x1, .int .i64 x2, .int .i64 x3, .int .i64 x4, .int .i64 x5] 72 (0, 0)) := by rw [hV]; exact heap_alloc_new w1 _
  have cV : V.cell? ⟨w1.heap.size, 0, none⟩ = some (.int .i64 x0) ∧ V.cell? ⟨w1.heap.size, 1, none⟩ = some (.int .i64 x1) ∧ V.cell? ⟨w1.heap.size, 2, none⟩ = some (.int .i64 x2) ∧ V.cell? ⟨w1.heap.size, 3, none⟩ = some (.int .i64 x3) ∧ V.cell? ⟨w1.heap.size, 4, none⟩ = some (.int .i64 x4) ∧ V.cell? ⟨w1.heap.size, 5, none⟩ = some (.int .i64 x5) := ⟨by rw [cell_of_row V _ 0 _ _ (0, 0) qV]; rfl, by rw [cell_of_row V _ 1 _ _ (0, 0) qV]; rfl, by rw [cell_of_row V _ 2 _ _ (0, 0) qV]; rfl, by rw [cell_of_row V _ 3 _ _ (0, 0) qV]; rfl, by rw [cell_of_row V _ 4 _ _ (0, 0) qV]; rfl, by rw [cell_of_row V _ 5 _ _ (0, 0) qV]; rfl⟩
  have hownV := hown1.kept (Below.toGrown hbV none) (by simp)
  have LKF : Hid (∀ w0 : World, w0.ownsMap Try.prog 72 amtElem b cnt D → (Instr.lookup 90 (.map (some b)) (.agg #[.int .i64 x0, .int .i64 x1, .int .i64 x2, .int .i64 x3, .int .i64 x4, .int .i64 x5]) false).run Try.prog w0 = .ok (.agg #[.int .i64 c1, .int .i64 c2]) w0) := fun w0 h0 => by have := lookV h0 HMV.out x0 x1 x2 x3 x4 x5 HFX.out; rw [← HC.out] at this; exact this
  have B2 := B1.trans (hbV.mono B1.size)
  replace m0 := cell_later hbV m0
  replace m1 := cell_later hbV m1
  have z1 := B1.size
  go_wp2_with fail
  rw [← hV]
  clear hV hbV B1 hown1 qV
  refine wp_region_held_drew (S := fun w' => w'.cell? ⟨w1.heap.size, 0, none⟩ = some (.int .i64 x0) ∧ w'.cell? ⟨w1.heap.size, 1, none⟩ = some (.int .i64 x1) ∧ w'.cell? ⟨w1.heap.size, 2, none⟩ = some (.int .i64 x2) ∧ w'.cell? ⟨w1.heap.size, 3, none⟩ = some (.int .i64 x3) ∧ w'.cell? ⟨w1.heap.size, 4, none⟩ = some (.int .i64 x4) ∧ w'.cell? ⟨w1.heap.size, 5, none⟩ = some (.int .i64 x5) ∧ w'.cell? ⟨w.heap.size + 1, 0, none⟩ = some (.int .i64 x) ∧ w'.cell? ⟨w.heap.size + 1, 1, none⟩ = some (.int .i64 y) ∧ (Instr.lookup 90 (.map (some b)) (.agg #[.int .i64 x0, .int .i64 x1, .int .i64 x2, .int .i64 x3, .int .i64 x4, .int .i64 x5]) false).run Try.prog w' = .ok (.agg #[.int .i64 c1, .int .i64 c2]) w') (by kernel_rfl) ?_ (fun hHeld => ?_)
  · (try dsimp only)
    exact ⟨cV.1, cV.2.1, cV.2.2.1, cV.2.2.2.1, cV.2.2.2.2.1, cV.2.2.2.2.2, m0, m1, LKF.out _ hownV.drew⟩
  refine wpAnyH_take (i := 0) (oi := ?_) (v := ?_) ?_ (by kernel_rfl) (by kernel_rfl) (by kernel_rfl) ?_ (Or.inl ⟨?_, ?_⟩) (by assumption) ?_
  rotate_left 2
  · (simp only [List.getElem?_toArray, List.getElem?_cons_zero]; rfl)
  · exact fun _ _ _ h => h
  · rfl
  · (intro wS hSw; (try dsimp only at hSw); go_simp; (try with_reducible rfl))
  (try simp only [Act.put, List.setIfInBounds_toArray, List.set_cons_zero, List.set_cons_succ])
  refine wpAnyH_take (i := 1) (oi := ?_) (v := ?_) ?_ (by kernel_rfl) (by kernel_rfl) (by kernel_rfl) ?_ (Or.inl ⟨?_, ?_⟩) (by assumption) ?_
  rotate_left 2
  · (simp only [List.getElem?_toArray, List.getElem?_cons_zero, List.getElem?_cons_succ]; rfl)
  · exact fun _ _ _ h => h
  · rfl
  · (intro wS hSw; (try dsimp only at hSw); go_simp; (try with_reducible rfl))
  (try simp only [Act.put, List.setIfInBounds_toArray, List.set_cons_zero, List.set_cons_succ])
  refine wpAnyH_take (i := 2) (oi := ?_) (v := ?_) ?_ (by kernel_rfl) (by kernel_rfl) (by kernel_rfl) ?_ (Or.inl ⟨?_, ?_⟩) (by assumption) ?_
  rotate_left 2
  · (simp only [List.getElem?_toArray, List.getElem?_cons_zero, List.getElem?_cons_succ]; rfl)
  · exact fun _ _ _ h => h
  · rfl
  · (intro wS hSw; (try dsimp only at hSw); go_simp; (try with_reducible rfl))
  (try simp only [Act.put, List.setIfInBounds_toArray, List.set_cons_zero, List.set_cons_succ])
  refine wpAnyH_take (i := 3) (oi := ?_) (v := ?_) ?_ (by kernel_rfl) (by kernel_rfl) (by kernel_rfl) ?_ (Or.inl ⟨?_, ?_⟩) (by assumption) ?_
  rotate_left 2
  · (simp only [List.getElem?_toArray, List.getElem?_cons_zero, List.getElem?_cons_succ]; rfl)
  · exact fun _ _ _ h => h
  · rfl
  · (intro wS hSw; (try dsimp only at hSw); go_simp; (try with_reducible rfl))
  (try simp only [Act.put, List.setIfInBounds_toArray, List.set_cons_zero, List.set_cons_succ])
  refine wpAnyH_take (i := 4) (oi := ?_) (v := ?_) ?_ (by kernel_rfl) (by kernel_rfl) (by kernel_rfl) ?_ (Or.inl ⟨?_, ?_⟩) (by assumption) ?_
  rotate_left 2
  · (simp only [List.getElem?_toArray, List.getElem?_cons_zero, List.getElem?_cons_succ]; rfl)
  · exact fun _ _ _ h => h
  · rfl
  · (intro wS hSw; (try dsimp only at hSw); go_simp; (try with_reducible rfl))
  (try simp only [Act.put, List.setIfInBounds_toArray, List.set_cons_zero, List.set_cons_succ])
  refine wpAnyH_take (i := 5) (oi := ?_) (v := ?_) ?_ (by kernel_rfl) (by kernel_rfl) (by kernel_rfl) ?_ (Or.inl ⟨?_, ?_⟩) (by assumption) ?_
  rotate_left 2
  · (simp only [List.getElem?_toArray, List.getElem?_cons_zero, List.getElem?_cons_succ]; rfl)
  · exact fun _ _ _ h => h
  · rfl
  · (intro wS hSw; (try dsimp only at hSw); go_simp; (try with_reducible rfl))
  (try simp only [Act.put, List.setIfInBounds_toArray, List.set_cons_zero, List.set_cons_succ])
  refine wpAnyH_take (i := 6) (oi := ?_) (v := ?_) ?_ (by kernel_rfl) (by kernel_rfl) (by kernel_rfl) ?_ (Or.inl ⟨?_, ?_⟩) (by assumption) ?_
  rotate_left 2
  · (simp only [List.getElem?_toArray, List.getElem?_cons_zero, List.getElem?_cons_succ]; rfl)
  · exact fun _ _ _ h => h
  · rfl
  · (intro wS hSw; (try dsimp only at hSw); go_simp; (try with_reducible rfl))
  (try simp only [Act.put, List.setIfInBounds_toArray, List.set_cons_zero, List.set_cons_succ])
  refine wpAnyH_take (i := 7) (oi := ?_) (v := ?_) ?_ (by kernel_rfl) (by kernel_rfl) (by kernel_rfl) ?_ (Or.inl ⟨?_, ?_⟩) (by assumption) ?_
  rotate_left 2
  · (simp only [List.getElem?_toArray, List.getElem?_cons_zero, List.getElem?_cons_succ]; rfl)
  · exact fun _ _ _ h => h
  · rfl
  · (intro wS hSw; (try dsimp only at hSw); go_simp; (try with_reducible rfl))
  (try simp only [Act.put, List.setIfInBounds_toArray, List.set_cons_zero, List.set_cons_succ])
  refine wpAnyH_take (i := 8) (oi := ?_) (v := ?_) ?_ (by kernel_rfl) (by kernel_rfl) (by kernel_rfl) ?_ (Or.inl ⟨?_, ?_⟩) (by assumption) ?_
  rotate_left 2
  · (simp only [List.getElem?_toArray, List.getElem?_cons_zero, List.getElem?_cons_succ]; rfl)
  · exact fun _ _ _ h => h
  · rfl
  · (intro wS hSw; (try dsimp only at hSw); go_simp; (try with_reducible rfl))
  (try simp only [Act.put, List.setIfInBounds_toArray, List.set_cons_zero, List.set_cons_succ])
  refine wpAnyH_take (i := 9) (oi := ?_) (v := ?_) ?_ (by kernel_rfl) (by kernel_rfl) (by kernel_rfl) ?_ (Or.inl ⟨?_, ?_⟩) (by assumption) ?_
  rotate_left 2
  · (simp only [List.getElem?_toArray, List.getElem?_cons_zero, List.getElem?_cons_succ]; rfl)
  · exact fun _ _ _ h => h
  · rfl
  · (intro wS hSw; (try dsimp only at hSw); go_simp; (try with_reducible rfl))
  (try simp only [Act.put, List.setIfInBounds_toArray, List.set_cons_zero, List.set_cons_succ])
  refine wpAnyH_take (i := 10) (oi := ?_) (v := ?_) ?_ (by kernel_rfl) (by kernel_rfl) (by kernel_rfl) ?_ (Or.inl ⟨?_, ?_⟩) (by assumption) ?_
  rotate_left 2
  · (simp only [List.getElem?_toArray, List.getElem?_cons_zero, List.getElem?_cons_succ]; rfl)
  · exact fun _ _ _ h => h
  · rfl
  · (intro wS hSw; (try dsimp only at hSw); go_simp; (try with_reducible rfl))
  (try simp only [Act.put, List.setIfInBounds_toArray, List.set_cons_zero, List.set_cons_succ])
  refine wpAnyH_take (i := 11) (oi := ?_) (v := ?_) ?_ (by kernel_rfl) (by kernel_rfl) (by kernel_rfl) ?_ (Or.inl ⟨?_, ?_⟩) (by assumption) ?_
  rotate_left 2
  · (simp only [List.getElem?_toArray, List.getElem?_cons_zero, List.getElem?_cons_succ]; rfl)
  · exact fun _ _ _ h => h
  · rfl
  · (intro wS hSw; (try dsimp only at hSw); go_simp; (try with_reducible rfl))
  (try simp only [Act.put, List.setIfInBounds_toArray, List.set_cons_zero, List.set_cons_succ])
  refine wpAnyH_take (i := 12) (oi := ?_) (v := ?_) ?_ (by kernel_rfl) (by kernel_rfl) (by kernel_rfl) ?_ (Or.inl ⟨?_, ?_⟩) (by assumption) ?_
  rotate_left 2
  · (simp only [List.getElem?_toArray, List.getElem?_cons_zero, List.getElem?_cons_succ]; rfl)
  · exact fun _ _ _ h => h
  · rfl
  · (intro wS hSw; (try dsimp only at hSw); go_simp; (try with_reducible rfl))
  (try simp only [Act.put, List.setIfInBounds_toArray, List.set_cons_zero, List.set_cons_succ])
  refine wpAnyH_take (i := 13) (oi := ?_) (v := ?_) ?_ (by kernel_rfl) (by kernel_rfl) (by kernel_rfl) ?_ (Or.inl ⟨?_, ?_⟩) (by assumption) ?_
  rotate_left 2
  · (simp only [List.getElem?_toArray, List.getElem?_cons_zero, List.getElem?_cons_succ]; rfl)
  · exact fun _ _ _ h => h
  · rfl
  · (intro wS hSw; (try dsimp only at hSw); go_simp; (try with_reducible rfl))
  (try simp only [Act.put, List.setIfInBounds_toArray, List.set_cons_zero, List.set_cons_succ])
  refine wpAnyH_take (i := 14) (oi := ?_) (v := ?_) ?_ (by kernel_rfl) (by kernel_rfl) (by kernel_rfl) ?_ (Or.inl ⟨?_, ?_⟩) (by assumption) ?_
  rotate_left 2
  · (simp only [List.getElem?_toArray, List.getElem?_cons_zero, List.getElem?_cons_succ]; rfl)
  · exact fun _ _ _ h => h
  · rfl
  · (intro wS hSw; (try dsimp only at hSw); go_simp; (try with_reducible rfl))
  (try simp only [Act.put, List.setIfInBounds_toArray, List.set_cons_zero, List.set_cons_succ])
  have cD : V.drew.cell? ⟨w1.heap.size, 0, none⟩ = some (.int .i64 x0) ∧ V.drew.cell? ⟨w1.heap.size, 1, none⟩ = some (.int .i64 x1) ∧ V.drew.cell? ⟨w1.heap.size, 2, none⟩ = some (.int .i64 x2) ∧ V.drew.cell? ⟨w1.heap.size, 3, none⟩ = some (.int .i64 x3) ∧ V.drew.cell? ⟨w1.heap.size, 4, none⟩ = some (.int .i64 x4) ∧ V.drew.cell? ⟨w1.heap.size, 5, none⟩ = some (.int .i64 x5) := six_later (w := V) (Below.refl _ _).drew cV
  have n0 : V.drew.cell? ⟨w.heap.size + 1, 0, none⟩ = some (.int .i64 x) := m0
  have n1 : V.drew.cell? ⟨w.heap.size + 1, 1, none⟩ = some (.int .i64 y) := m1
  refine wpAnyH_ready (rs := [15]) (by kernel_rfl) (by simp) ?_
  refine AllReadyH.cons (o := ?_) ?_ (fun K hK => ?_) AllReadyH.nil
  rotate_left
  · (simp only [List.getElem?_toArray, List.getElem?_cons_zero, List.getElem?_cons_succ]; rfl)
  go_simp
  skip
  (try go_wp2_with fail)
  refine hK.out _ _ ?_ (fun hHeld' => ?_)
  · (try dsimp only)
    exact ⟨(six_later ((Below.refl _ _).alloc (Nat.le_refl _) _) cD).1, (six_later ((Below.refl _ _).alloc (Nat.le_refl _) _) cD).2.1, (six_later ((Below.refl _ _).alloc (Nat.le_refl _) _) cD).2.2.1, (six_later ((Below.refl _ _).alloc (Nat.le_refl _) _) cD).2.2.2.1, (six_later ((Below.refl _ _).alloc (Nat.le_refl _) _) cD).2.2.2.2.1, (six_later ((Below.refl _ _).alloc (Nat.le_refl _) _) cD).2.2.2.2.2, cell_later ((Below.refl _ _).alloc (Nat.le_refl _) _) n0, cell_later ((Below.refl _ _).alloc (Nat.le_refl _) _) n1, LKF.out _ (hownV.drew.alloc _)⟩
  clear hK K hHeld
  have hHeld := hHeld'
  clear hHeld'
  (try simp only [Act.put, List.setIfInBounds_toArray, List.set_cons_zero, List.set_cons_succ])
  refine wpAnyH_ready (rs := [16]) (by kernel_rfl) (by simp) ?_
  refine AllReadyH.cons (o := ?_) ?_ (fun K hK => ?_) AllReadyH.nil
  rotate_left
  · (simp only [List.getElem?_toArray, List.getElem?_cons_zero, List.getElem?_cons_succ]; rfl)
  go_simp
  skip
  (try go_wp2_with fail)
  refine hK.out _ _ ?_ (fun hHeld' => ?_)
  · (try dsimp only)
    exact ⟨(six_later ((Below.refl _ _).alloc (Nat.le_refl _) _) cD).1, (six_later ((Below.refl _ _).alloc (Nat.le_refl _) _) cD).2.1, (six_later ((Below.refl _ _).alloc (Nat.le_refl _) _) cD).2.2.1, (six_later ((Below.refl _ _).alloc (Nat.le_refl _) _) cD).2.2.2.1, (six_later ((Below.refl _ _).alloc (Nat.le_refl _) _) cD).2.2.2.2.1, (six_later ((Below.refl _ _).alloc (Nat.le_refl _) _) cD).2.2.2.2.2, cell_later ((Below.refl _ _).alloc (Nat.le_refl _) _) n0, cell_later ((Below.refl _ _).alloc (Nat.le_refl _) _) n1, LKF.out _ (hownV.drew.alloc _)⟩
  clear hK K hHeld
  have hHeld := hHeld'
  clear hHeld'
  (try simp only [Act.put, List.setIfInBounds_toArray, List.set_cons_zero, List.set_cons_succ])
  refine wpAnyH_done (by kernel_rfl) ?_ _
  obtain ⟨U, hU⟩ : ∃ U, U = (V.alloc (.cells #[.int .i64 P, .int .i64 Q] 77)).drew := ⟨_, rfl⟩
  have zU : U.heap.size = V.heap.size + 1 := by rw [hU, drew_size]; simp
  have B3 : Below w.heap.size w U := by rw [hU]; exact (B2.alloc B2.size _).drew
  have hownU : U.ownsMap Try.prog 72 amtElem b cnt D := by rw [hU]; exact (hownV.alloc _).drew
  have cU : U.cell? ⟨w1.heap.size, 0, none⟩ = some (.int .i64 x0) ∧ U.cell? ⟨w1.heap.size, 1, none⟩ = some (.int .i64 x1) ∧ U.cell? ⟨w1.heap.size, 2, none⟩ = some (.int .i64 x2) ∧ U.cell? ⟨w1.heap.size, 3, none⟩ = some (.int .i64 x3) ∧ U.cell? ⟨w1.heap.size, 4, none⟩ = some (.int .i64 x4) ∧ U.cell? ⟨w1.heap.size, 5, none⟩ = some (.int .i64 x5) := by rw [hU]; exact six_later (w := V.alloc _) (Below.refl _ _).drew (six_later (w := V) ((Below.refl _ _).alloc (Nat.le_refl _) _) cV)
  have u0 : U.cell? ⟨w1.heap.size + 1, 0, none⟩ = some (.int .i64 P) := by rw [← zV, hU]; exact cell_later (w := V.alloc _) (Below.refl _ _).drew (pair0 V _ _ _)
  have u1 : U.cell? ⟨w1.heap.size + 1, 1, none⟩ = some (.int .i64 Q) := by rw [← zV, hU]; exact cell_later (w := V.alloc _) (Below.refl _ _).drew (pair1 V _ _ _)
  obtain ⟨d0, d1, d2, d3, d4, d5⟩ := cU
  rw [← hU]
  clear hU hHeld cV cD n0 n1 B2 hownV m0 m1
  have hmax : cnt < maxLen := by unfold maxLen; omega
  have HKEY := Hid.mk (keyOf_arr [x0, x1, x2, x3, x4, x5] HFX.out)
  by_cases hp : P = 0
  · have hpp : (P == 0) = true := by simp [hp]
    by_cases hq : Q = 0
    · have hqq : (Q == 0) = true := by simp [hq]
      have HZ : Hid (addA (f [x0, x1, x2, x3, x4, x5]) (x, y) = (0, 0)) := by show _ = _; rw [← HPQ.out, hp, hq]
      clear hp hq
      go_wp2_with (first | (at_delete; refine wpList_delete_own _ rfl _ _ 90 72 rfl 77 Try.keyedA Try.underlying90 _ b cnt D rfl hownU _ _ rfl HKEY.out ?_; intro w5 hown5 hturn5) | go_in)
      refine bodyPost_ret (v := .tuple #[]) (by simp [results, Try.results64, go_sem]) rfl ⟨rfl, ⟨cnt, _, _, hown5, (HMV.out.del HFX.out).congr (fun z => ?_), HT.out.put hg hl (x, y), by omega⟩, grown_trans (Below.toGrown B3 _) hturn5.grown⟩
      rw [HR.out]
      by_cases e : z = [x0, x1, x2, x3, x4, x5]
      · subst e; rw [if_pos rfl, if_pos rfl, HZ.out]
      · rw [if_neg e, if_neg e]
    · have hqq : (Q == 0) = false := by simp [hq]
      have HZ : Hid (addA (f [x0, x1, x2, x3, x4, x5]) (x, y) ≠ (0, 0)) := by show _ ≠ _; rw [← HPQ.out]; simp [hq]
      clear hp hq
      go_wp2_with (first | (at_mapUpdate; refine wpList_mapUpdate_own _ rfl _ _ _ 90 rfl 72 77 Try.keyedA Try.underlying90 _ b cnt D rfl hownU hmax _ _ _ rfl rfl HKEY.out _ [] (amtElem_mk (P, Q)) ?_; intro w5 hown5 hgr5) | go_in)
      refine bodyPost_end (v := .tuple #[]) (by simp [results, Try.results64, go_sem]) rfl ⟨rfl, ⟨cnt + 1, _, _, hown5, (by rw [HPQ.out]; exact HMV.out.put hownU.isMap HFX.out HZ.out : MapV _ _).congr (fun z => ?_), HT.out.put hg hl (x, y), by omega⟩, grown_trans (Below.toGrown B3 _) hgr5⟩
      rw [HR.out]
      by_cases e : z = [x0, x1, x2, x3, x4, x5]
      · subst e; simp
      · rw [if_neg e, if_neg e]
  · have hpp : (P == 0) = false := by simp [hp]
    have HZ : Hid (addA (f [x0, x1, x2, x3, x4, x5]) (x, y) ≠ (0, 0)) := by show _ ≠ _; rw [← HPQ.out]; simp [hp]
    clear hp
    go_wp2_with (first | (at_mapUpdate; refine wpList_mapUpdate_own _ rfl _ _ _ 90 rfl 72 77 Try.keyedA Try.underlying90 _ b cnt D rfl hownU hmax _ _ _ rfl rfl HKEY.out _ [] (amtElem_mk (P, Q)) ?_; intro w5 hown5 hgr5) | go_in)
    refine bodyPost_end (v := .tuple #[]) (by simp [results, Try.results64, go_sem]) rfl ⟨rfl, ⟨cnt + 1, _, _, hown5, (by rw [HPQ.out]; exact HMV.out.put hownU.isMap HFX.out HZ.out : MapV _ _).congr (fun z => ?_), HT.out.put hg hl (x, y), by omega⟩, grown_trans (Below.toGrown B3 _) hgr5⟩
    rw [HR.out]
    by_cases e : z = [x0, x1, x2, x3, x4, x5]
    · subst e; simp
    · rw [if_neg e, if_neg e]

end Go.Proofs.Ytlfljfmhhnoinaa
