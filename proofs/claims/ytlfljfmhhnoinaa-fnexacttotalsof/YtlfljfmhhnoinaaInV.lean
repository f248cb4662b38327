/- Contract of impl.groupSums.inOrder. -/
import Derived.Test.YtlfljfmhhnoinaaSortF
import Derived.Test.YtlfljfmhhnoinaaMapV
import Derived.Deep.AppendLies
namespace Go.Proofs.Ytlfljfmhhnoinaa
open Go.RowKit Go.Maps

/-- The arrays that the range has passed. -/
structure PassedV (D : DataW Unit) (left : Lit → Bool) (ks : List Six) : Prop where
  fits : ∀ x ∈ ks, Fits (Six.list x)
  once : ks.Nodup
  just : ∀ x : Six, Fits (Six.list x) → (x ∈ ks ↔ (Maps.has D (klit (Six.list x)) = true ∧ left (klit (Six.list x)) = false))

theorem PassedV.start (D : DataW Unit) : PassedV D (Maps.has D) [] := ⟨by simp, by simp, fun x _ => by
  constructor
  · intro h; cases h
  · rintro ⟨h1, h2⟩; rw [h1] at h2; cases h2⟩

theorem PassedV.step {D : DataW Unit} {left : Lit → Bool} {ks : List Six} (h : PassedV D left ks) {x : Six} (hx : Fits (Six.list x)) (hl : left (klit (Six.list x)) = true) (hh : Maps.has D (klit (Six.list x)) = true) :
    PassedV D (fun z => left z && !z.sameKey (klit (Six.list x))) (ks ++ [x]) := by
  have hself : (klit (Six.list x)).sameKey (klit (Six.list x)) = true := WideAt.sameKey_self (klit_key hx)
  have hoth : ∀ y : Six, Fits (Six.list y) → y ≠ x → (klit (Six.list y)).sameKey (klit (Six.list x)) = false := fun y hy hne =>
    sameKey_ne (fun e => hne (Six.list_inj (klit_inj hy hx e)))
  have hnot : x ∉ ks := fun hm => by have := ((h.just x hx).1 hm).2; rw [hl] at this; cases this
  refine ⟨fun y hy => ?_, ?_, fun y hy => ?_⟩
  · rcases List.mem_append.1 hy with h1 | h1
    · exact h.fits y h1
    · obtain rfl : y = x := by simpa using h1
      exact hx
  · rw [List.nodup_append]
    exact ⟨h.once, by simp, fun a ha b hb e => by obtain rfl : b = x := by simpa using hb
                                                  exact hnot (e ▸ ha)⟩
  · by_cases e : y = x
    · subst e
      simp [hself, hh]
    · have := h.just y hy
      simp only [List.mem_append, List.mem_singleton, e, or_false, hoth y hy e, Bool.not_false, Bool.and_true]
      exact this

set_option maxRecDepth 100000 in
set_option maxHeartbeats 2000000 in
theorem inOrderV (b cnt : Nat) (D : DataW Unit) (w : World) (hcnt : cnt ≤ 1048576) (hown : w.ownsMap Try.prog 72 amtElem b cnt D) :
    Calls Try.prog 75 #[.map (some b)] w fun e w' => ∃ (ks : List Six) (r : Option Addr) (d n : Nat), e = .returned (.slice r n d) ∧ ks.length = n ∧ n ≤ cnt ∧ w'.ownsRow (w.heap.size + 1) 72 6 (.slice r n d) n (ks.flatMap Six.enc) ∧
      (ks.Pairwise fun x y => cmp (Six.list x) (Six.list y) < 0) ∧ (∀ x ∈ ks, Fits (Six.list x)) ∧ (∀ x : Six, Fits (Six.list x) → (x ∈ ks ↔ Maps.has D (klit (Six.list x)) = true)) ∧ Below w.heap.size w w' := by
  obtain ⟨i0, hi, hz0, hz1, hz2⟩ := info_parts Try.infoA
  have hsz := hown.size_le
  go_enter Try.func75, Try.ntmps75
  go_wp2_with (first | (at_range; refine wpList_range_own _ rfl _ 90 rfl 72 77 Try.keyedA Try.underlying90 _ b cnt D rfl hown ?_; intro w0 hrg0 hg0 hs0) | go_in)
  go_frame
  have B0 : Below w.heap.size w w0 := (Below.refl _ _).grown hg0 (Nat.le_refl _) (by simp)
  go_loopw [3] (fun o wr => ∃ (left : Lit → Bool) (c0 : Nat) (ks : List Six) (r : Option Addr) (d : Nat), o = .slice r ks.length d ∧ wr.ranges Try.prog 72 amtElem b w.heap.size cnt D left c0 ∧ PassedV D left ks ∧ ks.length + c0 ≤ cnt ∧
      wr.ownsRow (w.heap.size + 1) 72 6 (.slice r ks.length d) ks.length (ks.flatMap Six.enc) ∧ Below w.heap.size w wr) (fun _ wr => wr.rangeLeft b w.heap.size)
  case atStart => exact ⟨_, _, [], none, 0, rfl, hrg0, PassedV.start D, by simpa using hsz, World.ownsRow_nil _ _ _ _, B0⟩
  case round =>
    clear hrg0 hg0 hs0 B0 w0
    obtain ⟨left, c0, ks, r, d, rfl, hrg, hP, hlen, ho, hbw⟩ := hrel
    go_wp2_with (first | (at_next; refine wpList_next_ranges _ rfl _ rfl 72 Try.keyedA amtElem Six.val amtVal (fun _ _ h => six_key h) (fun v y hv => by obtain ⟨c, rfl, _⟩ := amtElem_inv hv; exact ⟨c, rfl⟩) b w.heap.size cnt D left c0 rfl hrg ?_ ?_) | go_in)
    · intro h00 hl0
      have hs : ∀ ks' : List Six, ks'.Perm ks → (∀ x ∈ ks', Fits (Six.list x)) ∧ (∀ x : Six, Fits (Six.list x) → (x ∈ ks' ↔ Maps.has D (klit (Six.list x)) = true)) := fun ks' hp =>
        ⟨fun x hx => hP.fits x (hp.mem_iff.1 hx), fun x hx => by rw [hp.mem_iff, hP.just x hx, hl0]; simp⟩
      have HSS := Hid.mk hs
      have HON := Hid.mk hP.once
      obtain ⟨n, hn⟩ : ∃ n, ks.length = n := ⟨_, rfl⟩
      rw [hn] at ho hlen
      have HN := Hid.mk hn
      rw [hn]
      clear hl0 hs hP hrg hn
      by_cases hn0 : n = 0
      · subst hn0
        obtain rfl : ks = [] := List.eq_nil_of_length_eq_zero HN.out
        go_wp2_with fail
        refine (sortNone_any _ _ _ _).mono ?_
        rintro e w2 ⟨rfl, rfl⟩
        go_wp2
        go_ret
        exact ⟨[], r, d, 0, rfl, rfl, by omega, ho, List.Pairwise.nil, (HSS.out [] (List.Perm.refl _)).1, (HSS.out [] (List.Perm.refl _)).2, hbw⟩
      · obtain ⟨g, hgv⟩ : ∃ g, r = some ⟨g, 0, none⟩ := by
          rcases ho.2 with ⟨_, h⟩ | ⟨g, cap, cur, hv, _⟩
          · omega
          · simp only [Value.slice.injEq, true_and] at hv
            exact ⟨g, hv.1⟩
        subst hgv
        have hgl := (ho.lt g rfl).1
        go_wp2_with fail
        refine (sortFunc_any g n d _ _ ks _ HN.out (by omega) ho).mono ?_
        rintro e w2 ⟨rfl, ho2, hg2⟩
        have HB := Hid.mk (hbw.grown hg2 hbw.size (fun j hj => by cases hj; omega))
        clear hg2 hbw ho
        go_wp2
        go_ret
        exact ⟨sorted ks, some ⟨g, 0, none⟩, d, n, rfl, (sorted_perm ks).length_eq.trans HN.out, by omega, ho2, sorted_rises HON.out, (HSS.out _ (sorted_perm ks)).1, (HSS.out _ (sorted_perm ks)).2, HB.out⟩
    · intro x0 x1 x2 x3 x4 x5 c ck kl yd yp w1 cnt1 hkey hlk hv hat hrg1 hlt hg1 hs1 hen
      have hbw1 : Below w.heap.size w w1 := hbw.grown hg1 hbw.size (fun j hj => by cases hj; exact Nat.le_refl _)
      have ho1 : w1.ownsRow (w.heap.size + 1) 72 6 (.slice r ks.length d) ks.length (ks.flatMap Six.enc) := ho.kept hg1 (by
        cases hv' : (Value.slice r ks.length d).ownBlock with
        | none => exact .inl rfl
        | some k => exact .inr (fun e => by have := (ho.lt k hv').1; simp at e; omega))
      obtain ⟨zs, hfz, hvz, rfl⟩ := keyOf_arr_inv hkey
      obtain rfl : zs = Six.list (x0, x1, x2, x3, x4, x5) := (arrV_inj (by rw [← hvz]; rfl)).symm
      have hhas : Maps.has D (klit (Six.list (x0, x1, x2, x3, x4, x5))) = true := has_true_of_atKey hat
      have hst := hP.step hfz hlk hhas
      have HST := Hid.mk hst
      have HRG := Hid.mk hrg1
      have HBW := Hid.mk hbw1
      have hlf := hrg.left_eq
      have HLF := Hid.mk hlf
      have z1 : w.heap.size + 1 ≤ w1.heap.size := by rw [hs1]; have := hrg.lt; omega
      clear hst hrg1 hbw1 hlf hat hkey hv hlk hvz hhas hg1 ho hbw hrg hP hs1
      simp only [Six.val, amtVal] at hen
      have hbl := hown.lt
      have hks : ks.length ≤ 1048576 := by omega
      obtain ⟨n, hn⟩ : ∃ n, ks.length = n := ⟨_, rfl⟩
      rw [hn] at ho1 hks
      have HN := Hid.mk hn
      have HO1 := ho1
      rw [hn]
      clear hn
      go_wp2_with (at_builtin; refine wpList_append_lies _ rfl (.tmp 11) (.tmp 13) 102 rfl (w.heap.size + 1) 72 i0 (.agg #[.int .i64 0, .int .i64 0, .int .i64 0, .int .i64 0, .int .i64 0, .int .i64 0]) 6 48 Try.underlying102 hi hz0 hz1 hz2 rfl (by decide) _ _ _ rfl ((HO1.alloc _).alloc _) ⟨w1.heap.size + 1, 0, none⟩ 1 1 [.int .i64 x0, .int .i64 x1, .int .i64 x2, .int .i64 x3, .int .i64 x4, .int .i64 x5] rfl rfl (by simpa using news_at (w1.alloc (.cells #[.int .i64 x0, .int .i64 x1, .int .i64 x2, .int .i64 x3, .int .i64 x4, .int .i64 x5] 72)) #[.int .i64 x0, .int .i64 x1, .int .i64 x2, .int .i64 x3, .int .i64 x4, .int .i64 x5] 72) (by intro u hu; simp at hu; rcases hu with rfl | rfl | rfl | rfl | rfl | rfl <;> rfl) (by decide) (by unfold maxLen; omega) (by omega) (by simp; omega) (w1.heap.size + 1 + 1) (by simp) ?_; intro g2 cap2 w4 hown4 hgrow4 hat4 hlt4)
      have hgr : w1.grownBy w4 (Value.slice r n d).ownBlock := grown_alloc (grown_alloc hgrow4)
      have hrb : ∀ k, (Value.slice r n d).ownBlock = some k → w.heap.size + 1 ≤ k := fun k hk => (ho1.lt k hk).1
      have HR4 := Hid.mk (HRG.out.kept hgr (fun e => by have := hrb b e.symm; omega) (fun e => by have := hrb _ e.symm; omega))
      have HB4 : Hid (Below w.heap.size w w4) := HBW.out.grown hgr HBW.out.size (fun j hj => by have := hrb j hj; omega)
      have HO4 : Hid (w4.ownsRow (w.heap.size + 1) 72 6 (.slice (some ⟨g2, 0, none⟩) (ks ++ [(x0, x1, x2, x3, x4, x5)]).length cap2) (ks ++ [(x0, x1, x2, x3, x4, x5)]).length ((ks ++ [(x0, x1, x2, x3, x4, x5)]).flatMap Six.enc)) := by
        have hl : (ks ++ [(x0, x1, x2, x3, x4, x5)]).length = n + 1 := by rw [List.length_append, HN.out]; rfl
        rw [hl, List.flatMap_append]
        exact hown4
      have HLN : Hid ((ks ++ [(x0, x1, x2, x3, x4, x5)]).length = n + 1) := by show _ = _; rw [List.length_append, HN.out]; rfl
      clear hown4 hgrow4 hat4 hlt4 hgr hrb ho1 HO1
      go_wp2
      go_roundw
      case rel => exact ⟨_, cnt1, ks ++ [(x0, x1, x2, x3, x4, x5)], some ⟨g2, 0, none⟩, cap2, by rw [HLN.out], HR4.out, HST.out, by rw [HLN.out]; have := HN.out; omega, HO4.out, HB4.out⟩
      case measure => rw [HR4.out.left_eq, HLF.out]; exact hlt

end Go.Proofs.Ytlfljfmhhnoinaa
