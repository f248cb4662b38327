/- Contract of the program's read. -/
import Derived.Test.YtmbjmmnodcebbaaM6
import Derived.Test.YtmbjmmnodcebbaaM7
namespace Go.Proofs.Ytmbjmmnodcebbaa
open Go.RowKit

theorem cell_far2 {w : World} {b o o' : Nat} (v : Value) (h : o' ≠ o) : (w.setCell ⟨b, o, none⟩ v).cell? ⟨b, o', none⟩ = w.cell? ⟨b, o', none⟩ := World.cell?_setCell_other (h := fun e => h (congrArg Addr.off e).symm) ..

set_option maxRecDepth 100000 in
set_option maxHeartbeats 2000000 in
theorem read_no (F : Nat → Prop) (a0 : Option Addr) (n0 c0 : Nat) (a2 : Option Addr) (n2 c2 : Nat) (a3 : Option Addr) (n3 c3 : Nat) (a4 : Option Addr) (n4 c4 : Nat) (t la up : Int) (src pd : List Int) (ps : List TPrepared) (ou : List Int) (w : World) (ht : t = n0) (ho : RSink.Own w F [.slice a0 n0 c0, .int .i64 t, .slice a2 n2 c2, .slice a3 n3 c3, .slice a4 n4 c4, .int .i64 la, .int .i64 up] (src, t, pd, ps, ou, la, up)) :
    Calls Try.prog 41 #[.agg #[.slice a0 n0 c0, .int .i64 t, .slice a2 n2 c2, .slice a3 n3 c3, .slice a4 n4 c4, .int .i64 la, .int .i64 up]] w fun e w' => KRet e w w' F false (src, t, pd, ps, ou, la, up) ∧ Below w.heap.size w w' := by
  obtain ⟨W, hW⟩ : ∃ W, W = (w.alloc (.cells #[.slice a0 n0 c0, .int .i64 t, .slice a2 n2 c2, .slice a3 n3 c3, .slice a4 n4 c4, .int .i64 la, .int .i64 up] 29)).alloc (.cells #[.slice none 0 0, .int .i64 0, .slice none 0 0, .slice none 0 0, .slice none 0 0, .int .i64 0, .int .i64 0] 29) := ⟨_, rfl⟩
  have B0 : Below w.heap.size w W := by rw [hW]; exact ((Below.refl _ _).alloc (Nat.le_refl _) _).alloc (by simp) _
  have b0 : W.heap[w.heap.size]? = some (.cells #[.slice a0 n0 c0, .int .i64 t, .slice a2 n2 c2, .slice a3 n3 c3, .slice a4 n4 c4, .int .i64 la, .int .i64 up] 29 (0, 0)) := by rw [hW]; exact blk_alloc (heap_alloc_new w _) _
  have b1 : W.heap[w.heap.size + 1]? = some (.cells #[.slice none 0 0, .int .i64 0, .slice none 0 0, .slice none 0 0, .slice none 0 0, .int .i64 0, .int .i64 0] 29 (0, 0)) := by
    rw [hW]
    have q := heap_alloc_new (w.alloc (.cells #[.slice a0 n0 c0, .int .i64 t, .slice a2 n2 c2, .slice a3 n3 c3, .slice a4 n4 c4, .int .i64 la, .int .i64 up] 29)) (.cells #[.slice none 0 0, .int .i64 0, .slice none 0 0, .slice none 0 0, .slice none 0 0, .int .i64 0, .int .i64 0] 29)
    simpa only [World.size_alloc] using q
  have zW : W.heap.size = w.heap.size + 2 := by rw [hW]; simp
  have p0 := blk_cell b0 0 (v := .slice a0 n0 c0) rfl
  have p1 := blk_cell b0 1 (v := .int .i64 t) rfl
  have p2 := blk_cell b0 2 (v := .slice a2 n2 c2) rfl
  have p3 := blk_cell b0 3 (v := .slice a3 n3 c3) rfl
  have p4 := blk_cell b0 4 (v := .slice a4 n4 c4) rfl
  have p5 := blk_cell b0 5 (v := .int .i64 la) rfl
  have p6 := blk_cell b0 6 (v := .int .i64 up) rfl
  have y0 := blk_cell b1 0 (v := .slice none 0 0) rfl
  have y1 := blk_cell b1 1 (v := .int .i64 0) rfl
  have y2 := blk_cell b1 2 (v := .slice none 0 0) rfl
  have y3 := blk_cell b1 3 (v := .slice none 0 0) rfl
  have y4 := blk_cell b1 4 (v := .slice none 0 0) rfl
  have y5 := blk_cell b1 5 (v := .int .i64 0) rfl
  have y6 := blk_cell b1 6 (v := .int .i64 0) rfl
  have fz0 := blk_frozen b1 0
  have fz1 := blk_frozen b1 1
  have fz2 := blk_frozen b1 2
  have fz3 := blk_frozen b1 3
  have fz4 := blk_frozen b1 4
  have fz5 := blk_frozen b1 5
  have fz6 := blk_frozen b1 6
  have htb : ((t : Int) == (n0 : Int)) = true := beq_iff_eq.2 ht
  clear ht
  go_enter Try.func41, Try.ntmps41
  go_upto_region 1 with fail
  rw [← hW]
  clear hW
  go_upto_region 2 with fail
  obtain ⟨Y, hY⟩ : ∃ u, u = stores W (w.heap.size + 1) 0 [.slice a0 n0 c0, .int .i64 t, .slice a2 n2 c2, .slice a3 n3 c3, .slice a4 n4 c4, .int .i64 la, .int .i64 up] := ⟨_, rfl⟩
  have S : Off (fun b => b = w.heap.size + 1) W Y := by rw [hY]; exact stores_off (F := fun b => b = w.heap.size + 1) _ _ _ _ rfl
  have zY : Y.heap.size = W.heap.size := by rw [hY]; exact stores_size _ _ _ _
  have D : Below w.heap.size w Y := by rw [hY]; exact stores_below _ _ _ _ B0 (by omega)
  have R : Hid (KRet (.returned (.tuple #[.agg #[.slice a0 n0 c0, .int .i64 t, .slice a2 n2 c2, .slice a3 n3 c3, .slice a4 n4 c4, .int .i64 la, .int .i64 up], .bool false])) w Y F false (src, t, pd, ps, ou, la, up) ∧ Below w.heap.size w Y) := Hid.mk
    ⟨⟨a0, n0, c0, a2, n2, c2, a3, n3, c3, a4, n4, c4, rfl, RSink.mono (RSink.ownBelow ho D) (fun b h => .inl h), Off.below D⟩, D⟩
  have HY := Hid.mk hY
  clear S hY zY D b0 b1 B0 zW
  go_wp2
  refine bodyPost_ret (v := .tuple #[.agg #[.slice a0 n0 c0, .int .i64 t, .slice a2 n2 c2, .slice a3 n3 c3, .slice a4 n4 c4, .int .i64 la, .int .i64 up], .bool false]) (by simp [results, Try.results41, go_sem, y0, y1, y2, y3, y4, y5, y6]) rfl ?_
  have h := R.out
  rw [HY.out] at h
  exact h

set_option maxRecDepth 100000 in
set_option maxHeartbeats 2000000 in
theorem read_yes (F : Nat → Prop) (a0 : Option Addr) (n0 c0 : Nat) (a2 : Option Addr) (n2 c2 : Nat) (a3 : Option Addr) (n3 c3 : Nat) (a4 : Option Addr) (n4 c4 : Nat) (T : Nat) (la up : Int) (src pd : List Int) (ps : List TPrepared) (ou : List Int) (x : Int) (w : World) (hF : ∀ b, F b → b < w.heap.size) (hx : src[T]? = some x) (hn0 : n0 ≤ 1048576) (hn2 : n2 ≤ 1048576) (ho : RSink.Own w F [.slice a0 n0 c0, .int .i64 (T : Nat), .slice a2 n2 c2, .slice a3 n3 c3, .slice a4 n4 c4, .int .i64 la, .int .i64 up] (src, (T : Int), pd, ps, ou, la, up)) :
    Calls Try.prog 41 #[.agg #[.slice a0 n0 c0, .int .i64 (T : Nat), .slice a2 n2 c2, .slice a3 n3 c3, .slice a4 n4 c4, .int .i64 la, .int .i64 up]] w fun e w' => KRet e w w' F true (src, ((T : Int) + 1), pd ++ [x], ps, ou, la, up) := by
  obtain ⟨W, hW⟩ : ∃ W, W = (w.alloc (.cells #[.slice a0 n0 c0, .int .i64 (T : Nat), .slice a2 n2 c2, .slice a3 n3 c3, .slice a4 n4 c4, .int .i64 la, .int .i64 up] 29)).alloc (.cells #[.slice none 0 0, .int .i64 0, .slice none 0 0, .slice none 0 0, .slice none 0 0, .int .i64 0, .int .i64 0] 29) := ⟨_, rfl⟩
  have B0 : Below w.heap.size w W := by rw [hW]; exact ((Below.refl _ _).alloc (Nat.le_refl _) _).alloc (by simp) _
  have b0 : W.heap[w.heap.size]? = some (.cells #[.slice a0 n0 c0, .int .i64 (T : Nat), .slice a2 n2 c2, .slice a3 n3 c3, .slice a4 n4 c4, .int .i64 la, .int .i64 up] 29 (0, 0)) := by rw [hW]; exact blk_alloc (heap_alloc_new w _) _
  have b1 : W.heap[w.heap.size + 1]? = some (.cells #[.slice none 0 0, .int .i64 0, .slice none 0 0, .slice none 0 0, .slice none 0 0, .int .i64 0, .int .i64 0] 29 (0, 0)) := by
    rw [hW]
    have q := heap_alloc_new (w.alloc (.cells #[.slice a0 n0 c0, .int .i64 (T : Nat), .slice a2 n2 c2, .slice a3 n3 c3, .slice a4 n4 c4, .int .i64 la, .int .i64 up] 29)) (.cells #[.slice none 0 0, .int .i64 0, .slice none 0 0, .slice none 0 0, .slice none 0 0, .int .i64 0, .int .i64 0] 29)
    simpa only [World.size_alloc] using q
  have zW : W.heap.size = w.heap.size + 2 := by rw [hW]; simp
  obtain ⟨i0, hi0, hx0, hx1, hx2⟩ := info_parts Try.infoInt
  obtain ⟨F0, F2, F3, F4, h0, h2, h3, h4, f0, f2, f3, f4, d02, d03, d04, d23, d24, d34⟩ := RSink.own_iff ho
  obtain ⟨o2l, _, o2, o2F⟩ := RInts.own_iff.1 h2
  obtain ⟨o0l, _, o0, o0F⟩ := RInts.own_iff.1 h0
  have hTn : T < n0 := by have := (List.getElem?_eq_some_iff.1 hx).1; omega
  have hTi : (T : Int) < (n0 : Int) := by omega
  have htb : ((T : Int) == (n0 : Int)) = false := beq_eq_false_iff_ne.2 (by omega)
  have hwT : IntKind.i64.wrap ((T : Int) + 1) = (T : Int) + 1 := IntWalk.i64_in _ (by omega)
  obtain ⟨b, off, hab, hbF0, hbl, hcx⟩ : ∃ b off, a0 = some ⟨b, off, none⟩ ∧ F0 b ∧ b < w.heap.size ∧ W.cell? ⟨b, off + T, none⟩ = some (.int .i64 x) := by
    rcases o0.2 with ⟨_, h9⟩ | ⟨g, cap, cur, hv, _, hg, _⟩
    · omega
    · simp only [Value.slice.injEq, true_and] at hv
      refine ⟨g, 0, hv.1, o0F g (by rw [hv.1]; rfl), (Array.getElem?_eq_some_iff.1 hg).1, ?_⟩
      have hoW := owns_below o0 B0
      rw [hv.1] at hoW
      rw [Nat.zero_add, hoW.cellAt T (by omega), List.getElem?_map, hx]
      rfl
  subst hab
  have hbF2 : ¬ F2 b := d02 b hbF0
  have hbN : b ≠ w.heap.size := by omega
  have HO2W := Hid.mk (owns_below o2 B0)
  have HF2 := Hid.mk o2F
  have HL2 := Hid.mk o2l
  have B0W := Hid.mk B0
  have zlW : w.heap.size < W.heap.size := by omega
  have hbW : b < W.heap.size := by omega
  have p0 := blk_cell b0 0 (v := .slice (some ⟨b, off, none⟩) n0 c0) rfl
  have p1 := blk_cell b0 1 (v := .int .i64 (T : Nat)) rfl
  have p2 := blk_cell b0 2 (v := .slice a2 n2 c2) rfl
  have p3 := blk_cell b0 3 (v := .slice a3 n3 c3) rfl
  have p4 := blk_cell b0 4 (v := .slice a4 n4 c4) rfl
  have p5 := blk_cell b0 5 (v := .int .i64 la) rfl
  have p6 := blk_cell b0 6 (v := .int .i64 up) rfl
  have s2 := hcx
  clear o2 o2l o0 o0l hcx hx o0F
  go_enter Try.func41, Try.ntmps41
  go_upto_region 1 with fail
  rw [← hW]
  clear hW
  go_upto_region 3 with fail
  have s0 := p0
  have s1 := p1
  clear p0 p1 p2 p3 p4 p5 p6
  refine wp_region_held_drew (S := fun w' => w'.cell? ⟨w.heap.size, 0, none⟩ = some (.slice (some ⟨b, off, none⟩) n0 c0) ∧ w'.cell? ⟨w.heap.size, 1, none⟩ = some (.int .i64 (T : Nat)) ∧ w'.cell? ⟨b, off + T, none⟩ = some (.int .i64 x)) (by kernel_rfl) ?_ (fun hHeld => ?_)
  · (try dsimp only)
    exact ⟨s0, s1, s2⟩
  refine tk 0 ?_
  refine tk 2 ?_
  refine tk 3 ?_
  refine tk 4 ?_
  refine tk 5 ?_
  refine tk 6 ?_
  refine tk 7 ?_
  obtain ⟨u0, hu0⟩ : ∃ u, u = W.drew := ⟨_, rfl⟩
  have Y0 : Below W.heap.size W u0 := by rw [hu0]; exact (Below.refl _ _).drew
  have pb : u0.heap[w.heap.size]? = some (.cells #[.slice (some ⟨b, off, none⟩) n0 c0, .int .i64 (T : Nat), .slice a2 n2 c2, .slice a3 n3 c3, .slice a4 n4 c4, .int .i64 la, .int .i64 up] 29 (0, 0)) := by rw [hu0]; exact b0
  have s0 := cell_later Y0 s0
  have s1 := cell_later Y0 s1
  have s2 := cell_later Y0 s2
  have b1 : u0.heap[w.heap.size + 1]? = some (.cells #[.slice none 0 0, .int .i64 0, .slice none 0 0, .slice none 0 0, .slice none 0 0, .int .i64 0, .int .i64 0] 29 (0, 0)) := by rw [hu0]; exact b1
  rw [← hu0]
  clear hu0
  have qsl := blk_cell (v := .slice a2 n2 c2) pb 2 rfl
  refine wpAnyH_ready (rs := [1, 8]) (by kernel_rfl) (by simp) ?_
  refine AllReadyH.cons (o := ?_) ?_ (fun K hK => ?_) ?_
  rotate_left
  · (simp only [List.getElem?_toArray, List.getElem?_cons_zero, List.getElem?_cons_succ]; rfl)
  · go_simp
    (try go_wp2_with fail)
    refine hK.out _ _ ?_ (fun hHeld' => ?_)
    · (try dsimp only)
      exact ⟨s0, s1, s2⟩
    clear hK K hHeld
    have hHeld := hHeld'
    clear hHeld'
    (try simp only [Act.put, List.setIfInBounds_toArray, List.set_cons_zero, List.set_cons_succ])
    refine wpAnyH_ready (rs := [8]) (by kernel_rfl) (by simp) ?_
    refine AllReadyH.cons (o := ?_) ?_ (fun K hK => ?_) AllReadyH.nil
    rotate_left
    · (simp only [List.getElem?_toArray, List.getElem?_cons_zero, List.getElem?_cons_succ]; rfl)
    go_simp
    (try go_wp2_with fail)
    refine hK.out _ _ ?_ (fun hHeld' => ?_)
    · (try dsimp only)
      exact ⟨cell_later ((Below.refl _ _).alloc (Nat.le_refl _) _) s0, cell_later ((Below.refl _ _).alloc (Nat.le_refl _) _) s1, cell_later ((Below.refl _ _).alloc (Nat.le_refl _) _) s2⟩
    clear hK K hHeld
    have hHeld := hHeld'
    clear hHeld'
    (try simp only [Act.put, List.setIfInBounds_toArray, List.set_cons_zero, List.set_cons_succ])
    obtain ⟨vk2, hv2⟩ : ∃ u, u = u0.alloc (.cells #[.int .i64 x] 3) := ⟨_, rfl⟩
    have hbk2 : Below u0.heap.size u0 vk2 := by rw [hv2]; exact (Below.refl _ _).alloc (Nat.le_refl _) _
    have HBk2 : Below W.heap.size W vk2 := Y0.trans (hbk2.mono Y0.size)
    have s0 := cell_later hbk2 s0
    have s1 := cell_later hbk2 s1
    have s2 := cell_later hbk2 s2
    have pb := blk_below pb hbk2
    have b1 := blk_below b1 hbk2
    have nw0 : vk2.cell? ⟨u0.heap.size, 0, none⟩ = some (.int .i64 x) := by rw [hv2]; simp
    have zN : W.heap.size ≤ u0.heap.size := Y0.size
    rw [← hv2]
    clear hv2
    refine wpAnyH_ready (rs := [9]) (by kernel_rfl) (by simp) ?_
    refine AllReadyH.cons (o := ?_) ?_ (fun K hK => ?_) AllReadyH.nil
    rotate_left
    · (simp only [List.getElem?_toArray, List.getElem?_cons_zero, List.getElem?_cons_succ]; rfl)
    refine step_append_vals rfl (.tmp 12) (.tmp 19) 22 rfl 0 3 i0 (.int .i64 0) 1 8 Try.underlying22 hi0 hx0 hx1 hx2 rfl (by decide) (.slice a2 n2 c2) n2 (pd.map (.int .i64)) (by simp [Act.eval]) (owns_below HO2W.out HBk2) (some ⟨u0.heap.size, 0, none⟩) 1 1 [.int .i64 x] (by simp [Act.eval]) rfl (fun ad he => by cases he; intro j u hu; match j, hu with | 0, hu => (obtain rfl := Option.some.inj hu; exact nw0)) (by intro u hu; simp at hu; rw [hu]; rfl) (fun h => by cases h) (by unfold maxLen; omega) (by omega) (Nat.zero_le _) (fun r d wk3 ho2 hg2 ht2 => ?_)
    have HO : Hid (Off (fun b => F2 b ∨ w.heap.size ≤ b) w wk3) := Hid.mk (((Off.below (F := fun b => F2 b ∨ w.heap.size ≤ b) (B0W.out)).trans (Off.below HBk2)).trans (Off.grown hg2 (fun k hk => .inl (HF2.out k hk))))
    have zc := HBk2.size
    have zd := hg2.size
    have hold : ∀ k, w.heap.size ≤ k → k < vk2.heap.size → wk3.heap[k]? = vk2.heap[k]? := fun k hk hk2 => hg2.block k hk2 (fun e => by have := hF k (f2 k (HF2.out k e.symm)); omega)
    have pb := (hold w.heap.size (by omega) (by omega)).trans pb
    have b1 := (hold (w.heap.size + 1) (by omega) (by omega)).trans b1
    have s0 := blk_cell pb 0 (v := .slice (some ⟨b, off, none⟩) n0 c0) rfl
    have s1 := blk_cell pb 1 (v := .int .i64 (T : Nat)) rfl
    have s2 : wk3.cell? ⟨b, off + T, none⟩ = some (.int .i64 x) := (Off.grown (F := fun k => F2 k) hg2 (fun k hk => HF2.out k hk)).cell s2 hbF2
    have HAT : Hid (∀ b, (Value.slice r (n2 + 1) d).ownBlock = some b → F2 b ∨ (w.heap.size + 2 ≤ b ∧ b < wk3.heap.size)) := Hid.mk (fun b hb => by
      have hlt := (ho2.lt b hb).2
      rcases ht2 with q | q
      · rw [q] at hb; exact .inl (HF2.out b hb)
      · rw [q] at hb
        have h2 := Option.some.inj hb
        exact .inr ⟨by omega, hlt⟩)
    have HO2 := Hid.mk ho2
    have qs2 := blk_cell (v := .slice a2 n2 c2) pb 2 rfl
    have fs2 := blk_frozen pb 2
    clear hold hg2 ht2 ho2 nw0
    refine hK.out _ _ ?_ (fun hHeld' => ?_)
    · (try dsimp only)
      exact ⟨s0, s1, s2⟩
    clear hK K hHeld
    have hHeld := hHeld'
    clear hHeld'
    (try simp only [Act.put, List.setIfInBounds_toArray, List.set_cons_zero, List.set_cons_succ])
    refine tk 10 ?_
    have qs0 := blk_cell pb 0 rfl
    have qs1 := blk_cell pb 1 rfl
    have fs0 := blk_frozen pb 0
    have fs1 := blk_frozen pb 1
    refine wpAnyH_ready (rs := [11]) (by kernel_rfl) (by simp) ?_
    refine AllReadyH.cons (o := ?_) ?_ (fun K hK => ?_) AllReadyH.nil
    rotate_left
    · (simp only [List.getElem?_toArray, List.getElem?_cons_zero, List.getElem?_cons_succ]; rfl)
    go_simp
    (try go_wp2_with fail)
    refine hK.out _ _ ?_ (fun hHeld' => ?_)
    · (try dsimp only)
      exact ⟨(cell_far2 _ (by simp)).trans s0, (cell_far2 _ (by simp)).trans s1, (World.cell?_of_block (Below.heap_setCell _ _ _ _ hbN)).trans s2⟩
    clear hK K hHeld
    have hHeld := hHeld'
    clear hHeld'
    (try simp only [Act.put, List.setIfInBounds_toArray, List.set_cons_zero, List.set_cons_succ])
    refine wpAnyH_done (by kernel_rfl) ?_ _
    obtain ⟨X2, hX2⟩ : ∃ u, u = wk3.setCell ⟨w.heap.size, 2, none⟩ (.slice r (n2 + 1) d) := ⟨_, rfl⟩
    have e0 : X2.heap[w.heap.size]? = some (.cells #[.slice (some ⟨b, off, none⟩) n0 c0, .int .i64 (T : Nat), .slice r (n2 + 1) d, .slice a3 n3 c3, .slice a4 n4 c4, .int .i64 la, .int .i64 up] 29 (0, 0)) := by rw [hX2]; exact blk_set pb 2 _
    have e1 : X2.heap[w.heap.size + 1]? = some (.cells #[.slice none 0 0, .int .i64 0, .slice none 0 0, .slice none 0 0, .slice none 0 0, .int .i64 0, .int .i64 0] 29 (0, 0)) := by rw [hX2]; exact blk_other b1 (by simp) _
    have hS : Off (fun b => b = w.heap.size) wk3 X2 := by rw [hX2]; exact Off.set (F := fun b => b = w.heap.size) (a := ⟨w.heap.size, 2, none⟩) rfl _
    rw [← hX2]
    clear hX2 pb b1 s0 s1 s2 hHeld
    have t1 := blk_cell e0 1 (v := .int .i64 (T : Nat)) rfl
    have g1 := blk_frozen e0 1
    obtain ⟨X3, hX3⟩ : ∃ u, u = X2.setCell ⟨w.heap.size, 1, none⟩ (.int .i64 ((T : Int) + 1)) := ⟨_, rfl⟩
    have k0 : X3.heap[w.heap.size]? = some (.cells #[.slice (some ⟨b, off, none⟩) n0 c0, .int .i64 ((T : Int) + 1), .slice r (n2 + 1) d, .slice a3 n3 c3, .slice a4 n4 c4, .int .i64 la, .int .i64 up] 29 (0, 0)) := by rw [hX3]; exact blk_set e0 1 _
    have k1 : X3.heap[w.heap.size + 1]? = some (.cells #[.slice none 0 0, .int .i64 0, .slice none 0 0, .slice none 0 0, .slice none 0 0, .int .i64 0, .int .i64 0] 29 (0, 0)) := by rw [hX3]; exact blk_other e1 (by simp) _
    have hS : Off (fun b => b = w.heap.size) wk3 X3 := hS.trans (by rw [hX3]; exact Off.set (F := fun b => b = w.heap.size) (a := ⟨w.heap.size, 1, none⟩) rfl _)
    go_upto_region 5 with fail
    rw [← hX3]
    clear hX3 t1 g1 e0 e1
    have z4 := hS.size
    have HOW := Hid.mk (ownsRow_frame HO2.out (fun b hb hl => hS.block b hl (fun e => by
      have h2 : b = w.heap.size := e
      rcases HAT.out b hb with q | q
      · have := hF b (f2 b q); omega
      · omega)))
    have HNB : Hid (∀ b, (Value.slice r (n2 + 1) d).ownBlock = some b → b ≠ w.heap.size + 1) := Hid.mk (fun b hb e => by
      rcases HAT.out b hb with q | q
      · have := hF b (f2 b q); omega
      · omega)
    have HO := Hid.mk (HO.out.trans (hS.mono (F' := fun b => F2 b ∨ w.heap.size ≤ b) (fun b h => .inr (by have h2 : b = w.heap.size := h; omega))))
    have p0 := blk_cell k0 0 (v := .slice (some ⟨b, off, none⟩) n0 c0) rfl
    have p1 := blk_cell k0 1 (v := .int .i64 ((T : Int) + 1)) rfl
    have p2 := blk_cell k0 2 (v := .slice r (n2 + 1) d) rfl
    have p3 := blk_cell k0 3 (v := .slice a3 n3 c3) rfl
    have p4 := blk_cell k0 4 (v := .slice a4 n4 c4) rfl
    have p5 := blk_cell k0 5 (v := .int .i64 la) rfl
    have p6 := blk_cell k0 6 (v := .int .i64 up) rfl
    have y0 := blk_cell k1 0 (v := .slice none 0 0) rfl
    have y1 := blk_cell k1 1 (v := .int .i64 0) rfl
    have y2 := blk_cell k1 2 (v := .slice none 0 0) rfl
    have y3 := blk_cell k1 3 (v := .slice none 0 0) rfl
    have y4 := blk_cell k1 4 (v := .slice none 0 0) rfl
    have y5 := blk_cell k1 5 (v := .int .i64 0) rfl
    have y6 := blk_cell k1 6 (v := .int .i64 0) rfl
    have fz0 := blk_frozen k1 0
    have fz1 := blk_frozen k1 1
    have fz2 := blk_frozen k1 2
    have fz3 := blk_frozen k1 3
    have fz4 := blk_frozen k1 4
    have fz5 := blk_frozen k1 5
    have fz6 := blk_frozen k1 6
    clear hS HO2
    obtain ⟨Y, hY⟩ : ∃ u, u = stores X3 (w.heap.size + 1) 0 [.slice (some ⟨b, off, none⟩) n0 c0, .int .i64 ((T : Int) + 1), .slice r (n2 + 1) d, .slice a3 n3 c3, .slice a4 n4 c4, .int .i64 la, .int .i64 up] := ⟨_, rfl⟩
    have S : Off (fun b => b = w.heap.size + 1) X3 Y := by rw [hY]; exact stores_off (F := fun b => b = w.heap.size + 1) _ _ _ _ rfl
    have zY : Y.heap.size = X3.heap.size := by rw [hY]; exact stores_size _ _ _ _
    have HY2 := Hid.mk (HO.out.trans (S.mono (F' := fun b => F2 b ∨ w.heap.size ≤ b) (fun b h => .inr (by have h2 : b = w.heap.size + 1 := h; omega))))
    have R : Hid (KRet (.returned (.tuple #[.agg #[.slice (some ⟨b, off, none⟩) n0 c0, .int .i64 ((T : Int) + 1), .slice r (n2 + 1) d, .slice a3 n3 c3, .slice a4 n4 c4, .int .i64 la, .int .i64 up], .bool true])) w Y F true (src, ((T : Int) + 1), pd ++ [x], ps, ou, la, up)) := Hid.mk
      ⟨some ⟨b, off, none⟩, n0, c0, r, n2 + 1, d, a3, n3, c3, a4, n4, c4, rfl, RSink.own_mk (F0 := F0) (F2 := fun b => F2 b ∨ (w.heap.size ≤ b ∧ b < Y.heap.size)) (F3 := F3) (F4 := F4)
        (RInts.ownOff h0 HY2.out (fun b k q => q.elim (d02 b k) (fun q => by have := hF b (f0 b k); omega)))
        (RInts.own_iff.2 ⟨by rw [List.length_append, HL2.out]; rfl, by omega, by
          rw [List.map_append]
          exact ownsRow_frame HOW.out (fun b hb _ => S.block b (by have := (HOW.out.lt b hb).2; omega) (fun e => by have h2 : b = w.heap.size + 1 := e; exact HNB.out b hb h2)), fun b hb => (HAT.out b hb).imp id (fun h => ⟨by omega, by omega⟩)⟩)
        (RPrepareds.ownOff h3 HY2.out (fun b k q => q.elim (fun q => d23 b q k) (fun q => by have := hF b (f3 b k); omega)))
        (RInts.ownOff h4 HY2.out (fun b k q => q.elim (fun q => d24 b q k) (fun q => by have := hF b (f4 b k); omega)))
        (fun b h => .inl (f0 b h)) (fun b h => h.elim (fun h => .inl (f2 b h)) .inr) (fun b h => .inl (f3 b h)) (fun b h => .inl (f4 b h)) (fun b h k => k.elim (d02 b h) (fun k => by have := hF b (f0 b h); omega)) d03 d04 (fun b h k => h.elim (fun h => d23 b h k) (fun h => by have := hF b (f3 b k); omega)) (fun b h k => h.elim (fun h => d24 b h k) (fun h => by have := hF b (f4 b k); omega)) d34,
        Off.cut (HY2.out.mono (fun b h => h.elim (fun h => .inl (f2 b h)) .inr))⟩
    have HY := Hid.mk hY
    clear S hY zY HO HOW k0 k1
    go_wp2
    refine bodyPost_ret (v := .tuple #[.agg #[.slice (some ⟨b, off, none⟩) n0 c0, .int .i64 ((T : Int) + 1), .slice r (n2 + 1) d, .slice a3 n3 c3, .slice a4 n4 c4, .int .i64 la, .int .i64 up], .bool true]) (by simp [results, Try.results41, go_sem, y0, y1, y2, y3, y4, y5, y6]) rfl ?_
    have h := R.out
    rw [HY.out] at h
    exact h
  refine AllReadyH.cons (o := ?_) ?_ (fun K hK => ?_) AllReadyH.nil
  rotate_left
  · (simp only [List.getElem?_toArray, List.getElem?_cons_zero, List.getElem?_cons_succ]; rfl)
  · go_simp
    (try go_wp2_with fail)
    refine hK.out _ _ ?_ (fun hHeld' => ?_)
    · (try dsimp only)
      exact ⟨cell_later ((Below.refl _ _).alloc (Nat.le_refl _) _) s0, cell_later ((Below.refl _ _).alloc (Nat.le_refl _) _) s1, cell_later ((Below.refl _ _).alloc (Nat.le_refl _) _) s2⟩
    clear hK K hHeld
    have hHeld := hHeld'
    clear hHeld'
    (try simp only [Act.put, List.setIfInBounds_toArray, List.set_cons_zero, List.set_cons_succ])
    obtain ⟨vk5, hv5⟩ : ∃ u, u = u0.alloc (.cells #[.int .i64 x] 3) := ⟨_, rfl⟩
    have hbk5 : Below u0.heap.size u0 vk5 := by rw [hv5]; exact (Below.refl _ _).alloc (Nat.le_refl _) _
    have HBk5 : Below W.heap.size W vk5 := Y0.trans (hbk5.mono Y0.size)
    have s0 := cell_later hbk5 s0
    have s1 := cell_later hbk5 s1
    have s2 := cell_later hbk5 s2
    have pb := blk_below pb hbk5
    have b1 := blk_below b1 hbk5
    have nw0 : vk5.cell? ⟨u0.heap.size, 0, none⟩ = some (.int .i64 x) := by rw [hv5]; simp
    have zN : W.heap.size ≤ u0.heap.size := Y0.size
    rw [← hv5]
    clear hv5
    have qsl := blk_cell (v := .slice a2 n2 c2) pb 2 rfl
    refine wpAnyH_ready (rs := [1]) (by kernel_rfl) (by simp) ?_
    refine AllReadyH.cons (o := ?_) ?_ (fun K hK => ?_) AllReadyH.nil
    rotate_left
    · (simp only [List.getElem?_toArray, List.getElem?_cons_zero, List.getElem?_cons_succ]; rfl)
    go_simp
    (try go_wp2_with fail)
    refine hK.out _ _ ?_ (fun hHeld' => ?_)
    · (try dsimp only)
      exact ⟨s0, s1, s2⟩
    clear hK K hHeld
    have hHeld := hHeld'
    clear hHeld'
    (try simp only [Act.put, List.setIfInBounds_toArray, List.set_cons_zero, List.set_cons_succ])
    refine wpAnyH_ready (rs := [9]) (by kernel_rfl) (by simp) ?_
    refine AllReadyH.cons (o := ?_) ?_ (fun K hK => ?_) AllReadyH.nil
    rotate_left
    · (simp only [List.getElem?_toArray, List.getElem?_cons_zero, List.getElem?_cons_succ]; rfl)
    refine step_append_vals rfl (.tmp 12) (.tmp 19) 22 rfl 0 3 i0 (.int .i64 0) 1 8 Try.underlying22 hi0 hx0 hx1 hx2 rfl (by decide) (.slice a2 n2 c2) n2 (pd.map (.int .i64)) (by simp [Act.eval]) (owns_below HO2W.out HBk5) (some ⟨u0.heap.size, 0, none⟩) 1 1 [.int .i64 x] (by simp [Act.eval]) rfl (fun ad he => by cases he; intro j u hu; match j, hu with | 0, hu => (obtain rfl := Option.some.inj hu; exact nw0)) (by intro u hu; simp at hu; rw [hu]; rfl) (fun h => by cases h) (by unfold maxLen; omega) (by omega) (Nat.zero_le _) (fun r d wk7 ho2 hg2 ht2 => ?_)
    have HO : Hid (Off (fun b => F2 b ∨ w.heap.size ≤ b) w wk7) := Hid.mk (((Off.below (F := fun b => F2 b ∨ w.heap.size ≤ b) (B0W.out)).trans (Off.below HBk5)).trans (Off.grown hg2 (fun k hk => .inl (HF2.out k hk))))
    have zc := HBk5.size
    have zd := hg2.size
    have hold : ∀ k, w.heap.size ≤ k → k < vk5.heap.size → wk7.heap[k]? = vk5.heap[k]? := fun k hk hk2 => hg2.block k hk2 (fun e => by have := hF k (f2 k (HF2.out k e.symm)); omega)
    have pb := (hold w.heap.size (by omega) (by omega)).trans pb
    have b1 := (hold (w.heap.size + 1) (by omega) (by omega)).trans b1
    have s0 := blk_cell pb 0 (v := .slice (some ⟨b, off, none⟩) n0 c0) rfl
    have s1 := blk_cell pb 1 (v := .int .i64 (T : Nat)) rfl
    have s2 : wk7.cell? ⟨b, off + T, none⟩ = some (.int .i64 x) := (Off.grown (F := fun k => F2 k) hg2 (fun k hk => HF2.out k hk)).cell s2 hbF2
    have HAT : Hid (∀ b, (Value.slice r (n2 + 1) d).ownBlock = some b → F2 b ∨ (w.heap.size + 2 ≤ b ∧ b < wk7.heap.size)) := Hid.mk (fun b hb => by
      have hlt := (ho2.lt b hb).2
      rcases ht2 with q | q
      · rw [q] at hb; exact .inl (HF2.out b hb)
      · rw [q] at hb
        have h2 := Option.some.inj hb
        exact .inr ⟨by omega, hlt⟩)
    have HO2 := Hid.mk ho2
    have qs2 := blk_cell (v := .slice a2 n2 c2) pb 2 rfl
    have fs2 := blk_frozen pb 2
    clear hold hg2 ht2 ho2 nw0
    refine hK.out _ _ ?_ (fun hHeld' => ?_)
    · (try dsimp only)
      exact ⟨s0, s1, s2⟩
    clear hK K hHeld
    have hHeld := hHeld'
    clear hHeld'
    (try simp only [Act.put, List.setIfInBounds_toArray, List.set_cons_zero, List.set_cons_succ])
    refine tk 10 ?_
    have qs0 := blk_cell pb 0 rfl
    have qs1 := blk_cell pb 1 rfl
    have fs0 := blk_frozen pb 0
    have fs1 := blk_frozen pb 1
    refine wpAnyH_ready (rs := [11]) (by kernel_rfl) (by simp) ?_
    refine AllReadyH.cons (o := ?_) ?_ (fun K hK => ?_) AllReadyH.nil
    rotate_left
    · (simp only [List.getElem?_toArray, List.getElem?_cons_zero, List.getElem?_cons_succ]; rfl)
    go_simp
    (try go_wp2_with fail)
    refine hK.out _ _ ?_ (fun hHeld' => ?_)
    · (try dsimp only)
      exact ⟨(cell_far2 _ (by simp)).trans s0, (cell_far2 _ (by simp)).trans s1, (World.cell?_of_block (Below.heap_setCell _ _ _ _ hbN)).trans s2⟩
    clear hK K hHeld
    have hHeld := hHeld'
    clear hHeld'
    (try simp only [Act.put, List.setIfInBounds_toArray, List.set_cons_zero, List.set_cons_succ])
    refine wpAnyH_done (by kernel_rfl) ?_ _
    obtain ⟨X2, hX2⟩ : ∃ u, u = wk7.setCell ⟨w.heap.size, 2, none⟩ (.slice r (n2 + 1) d) := ⟨_, rfl⟩
    have e0 : X2.heap[w.heap.size]? = some (.cells #[.slice (some ⟨b, off, none⟩) n0 c0, .int .i64 (T : Nat), .slice r (n2 + 1) d, .slice a3 n3 c3, .slice a4 n4 c4, .int .i64 la, .int .i64 up] 29 (0, 0)) := by rw [hX2]; exact blk_set pb 2 _
    have e1 : X2.heap[w.heap.size + 1]? = some (.cells #[.slice none 0 0, .int .i64 0, .slice none 0 0, .slice none 0 0, .slice none 0 0, .int .i64 0, .int .i64 0] 29 (0, 0)) := by rw [hX2]; exact blk_other b1 (by simp) _
    have hS : Off (fun b => b = w.heap.size) wk7 X2 := by rw [hX2]; exact Off.set (F := fun b => b = w.heap.size) (a := ⟨w.heap.size, 2, none⟩) rfl _
    rw [← hX2]
    clear hX2 pb b1 s0 s1 s2 hHeld
    have t1 := blk_cell e0 1 (v := .int .i64 (T : Nat)) rfl
    have g1 := blk_frozen e0 1
    obtain ⟨X3, hX3⟩ : ∃ u, u = X2.setCell ⟨w.heap.size, 1, none⟩ (.int .i64 ((T : Int) + 1)) := ⟨_, rfl⟩
    have k0 : X3.heap[w.heap.size]? = some (.cells #[.slice (some ⟨b, off, none⟩) n0 c0, .int .i64 ((T : Int) + 1), .slice r (n2 + 1) d, .slice a3 n3 c3, .slice a4 n4 c4, .int .i64 la, .int .i64 up] 29 (0, 0)) := by rw [hX3]; exact blk_set e0 1 _
    have k1 : X3.heap[w.heap.size + 1]? = some (.cells #[.slice none 0 0, .int .i64 0, .slice none 0 0, .slice none 0 0, .slice none 0 0, .int .i64 0, .int .i64 0] 29 (0, 0)) := by rw [hX3]; exact blk_other e1 (by simp) _
    have hS : Off (fun b => b = w.heap.size) wk7 X3 := hS.trans (by rw [hX3]; exact Off.set (F := fun b => b = w.heap.size) (a := ⟨w.heap.size, 1, none⟩) rfl _)
    go_upto_region 5 with fail
    rw [← hX3]
    clear hX3 t1 g1 e0 e1
    have z4 := hS.size
    have HOW := Hid.mk (ownsRow_frame HO2.out (fun b hb hl => hS.block b hl (fun e => by
      have h2 : b = w.heap.size := e
      rcases HAT.out b hb with q | q
      · have := hF b (f2 b q); omega
      · omega)))
    have HNB : Hid (∀ b, (Value.slice r (n2 + 1) d).ownBlock = some b → b ≠ w.heap.size + 1) := Hid.mk (fun b hb e => by
      rcases HAT.out b hb with q | q
      · have := hF b (f2 b q); omega
      · omega)
    have HO := Hid.mk (HO.out.trans (hS.mono (F' := fun b => F2 b ∨ w.heap.size ≤ b) (fun b h => .inr (by have h2 : b = w.heap.size := h; omega))))
    have p0 := blk_cell k0 0 (v := .slice (some ⟨b, off, none⟩) n0 c0) rfl
    have p1 := blk_cell k0 1 (v := .int .i64 ((T : Int) + 1)) rfl
    have p2 := blk_cell k0 2 (v := .slice r (n2 + 1) d) rfl
    have p3 := blk_cell k0 3 (v := .slice a3 n3 c3) rfl
    have p4 := blk_cell k0 4 (v := .slice a4 n4 c4) rfl
    have p5 := blk_cell k0 5 (v := .int .i64 la) rfl
    have p6 := blk_cell k0 6 (v := .int .i64 up) rfl
    have y0 := blk_cell k1 0 (v := .slice none 0 0) rfl
    have y1 := blk_cell k1 1 (v := .int .i64 0) rfl
    have y2 := blk_cell k1 2 (v := .slice none 0 0) rfl
    have y3 := blk_cell k1 3 (v := .slice none 0 0) rfl
    have y4 := blk_cell k1 4 (v := .slice none 0 0) rfl
    have y5 := blk_cell k1 5 (v := .int .i64 0) rfl
    have y6 := blk_cell k1 6 (v := .int .i64 0) rfl
    have fz0 := blk_frozen k1 0
    have fz1 := blk_frozen k1 1
    have fz2 := blk_frozen k1 2
    have fz3 := blk_frozen k1 3
    have fz4 := blk_frozen k1 4
    have fz5 := blk_frozen k1 5
    have fz6 := blk_frozen k1 6
    clear hS HO2
    obtain ⟨Y, hY⟩ : ∃ u, u = stores X3 (w.heap.size + 1) 0 [.slice (some ⟨b, off, none⟩) n0 c0, .int .i64 ((T : Int) + 1), .slice r (n2 + 1) d, .slice a3 n3 c3, .slice a4 n4 c4, .int .i64 la, .int .i64 up] := ⟨_, rfl⟩
    have S : Off (fun b => b = w.heap.size + 1) X3 Y := by rw [hY]; exact stores_off (F := fun b => b = w.heap.size + 1) _ _ _ _ rfl
    have zY : Y.heap.size = X3.heap.size := by rw [hY]; exact stores_size _ _ _ _
    have HY2 := Hid.mk (HO.out.trans (S.mono (F' := fun b => F2 b ∨ w.heap.size ≤ b) (fun b h => .inr (by have h2 : b = w.heap.size + 1 := h; omega))))
    have R : Hid (KRet (.returned (.tuple #[.agg #[.slice (some ⟨b, off, none⟩) n0 c0, .int .i64 ((T : Int) + 1), .slice r (n2 + 1) d, .slice a3 n3 c3, .slice a4 n4 c4, .int .i64 la, .int .i64 up], .bool true])) w Y F true (src, ((T : Int) + 1), pd ++ [x], ps, ou, la, up)) := Hid.mk
      ⟨some ⟨b, off, none⟩, n0, c0, r, n2 + 1, d, a3, n3, c3, a4, n4, c4, rfl, RSink.own_mk (F0 := F0) (F2 := fun b => F2 b ∨ (w.heap.size ≤ b ∧ b < Y.heap.size)) (F3 := F3) (F4 := F4)
        (RInts.ownOff h0 HY2.out (fun b k q => q.elim (d02 b k) (fun q => by have := hF b (f0 b k); omega)))
        (RInts.own_iff.2 ⟨by rw [List.length_append, HL2.out]; rfl, by omega, by
          rw [List.map_append]
          exact ownsRow_frame HOW.out (fun b hb _ => S.block b (by have := (HOW.out.lt b hb).2; omega) (fun e => by have h2 : b = w.heap.size + 1 := e; exact HNB.out b hb h2)), fun b hb => (HAT.out b hb).imp id (fun h => ⟨by omega, by omega⟩)⟩)
        (RPrepareds.ownOff h3 HY2.out (fun b k q => q.elim (fun q => d23 b q k) (fun q => by have := hF b (f3 b k); omega)))
        (RInts.ownOff h4 HY2.out (fun b k q => q.elim (fun q => d24 b q k) (fun q => by have := hF b (f4 b k); omega)))
        (fun b h => .inl (f0 b h)) (fun b h => h.elim (fun h => .inl (f2 b h)) .inr) (fun b h => .inl (f3 b h)) (fun b h => .inl (f4 b h)) (fun b h k => k.elim (d02 b h) (fun k => by have := hF b (f0 b h); omega)) d03 d04 (fun b h k => h.elim (fun h => d23 b h k) (fun h => by have := hF b (f3 b k); omega)) (fun b h k => h.elim (fun h => d24 b h k) (fun h => by have := hF b (f4 b k); omega)) d34,
        Off.cut (HY2.out.mono (fun b h => h.elim (fun h => .inl (f2 b h)) .inr))⟩
    have HY := Hid.mk hY
    clear S hY zY HO HOW k0 k1
    go_wp2
    refine bodyPost_ret (v := .tuple #[.agg #[.slice (some ⟨b, off, none⟩) n0 c0, .int .i64 ((T : Int) + 1), .slice r (n2 + 1) d, .slice a3 n3 c3, .slice a4 n4 c4, .int .i64 la, .int .i64 up], .bool true]) (by simp [results, Try.results41, go_sem, y0, y1, y2, y3, y4, y5, y6]) rfl ?_
    have h := R.out
    rw [HY.out] at h
    exact h

end Go.Proofs.Ytmbjmmnodcebbaa
