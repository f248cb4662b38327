/- Several texts of one proof, in build order: PrS, FrS. -/
import Derived.Test.YtmbjmmnodcebbaaM11
import Derived.Test.YtmbjmmnodcebbaaM6

/- Contracts of the model's l16Step at SinkPrepare. -/
namespace Go.Proofs.Ytmbjmmnodcebbaa
open Go.RowKit

set_option maxRecDepth 100000 in
set_option maxHeartbeats 2000000 in
theorem step2_no (F : Nat → Prop) (a0 : Option Addr) (n0 c0 : Nat) (a2 : Option Addr) (n2 c2 : Nat) (a3 : Option Addr) (n3 c3 : Nat) (a4 : Option Addr) (n4 c4 : Nat) (t la up : Int) (src pd : List Int) (ps : List TPrepared) (ou : List Int) (w : World) (hc : n2 = 0 ∨ n3 = 4 ∨ 1000 < la + (n3 : Int) + 1) (h34 : n3 ≤ 4) (hl0 : 0 ≤ la) (hl1 : la ≤ 1000) (ho : RSink.Own w F [.slice a0 n0 c0, .int .i64 t, .slice a2 n2 c2, .slice a3 n3 c3, .slice a4 n4 c4, .int .i64 la, .int .i64 up] (src, t, pd, ps, ou, la, up)) :
    Calls Try.prog 26 #[.agg #[.slice a0 n0 c0, .int .i64 t, .slice a2 n2 c2, .slice a3 n3 c3, .slice a4 n4 c4, .int .i64 la, .int .i64 up], .int .i64 2] w fun e w' => KRet e w w' F false (src, t, pd, ps, ou, la, up) ∧ Below w.heap.size w w' := by
  obtain ⟨W, hW⟩ : ∃ W, W = (w.alloc (.cells #[.slice a0 n0 c0, .int .i64 t, .slice a2 n2 c2, .slice a3 n3 c3, .slice a4 n4 c4, .int .i64 la, .int .i64 up] 29)).alloc (.cells #[.slice none 0 0, .int .i64 0, .slice none 0 0, .slice none 0 0, .slice none 0 0, .int .i64 0, .int .i64 0] 29) := ⟨_, rfl⟩
  have B0 : Below w.heap.size w W := by rw [hW]; exact ((Below.refl _ _).alloc (Nat.le_refl _) _).alloc (by simp) _
  have b0 : W.heap[w.heap.size]? = some (.cells #[.slice a0 n0 c0, .int .i64 t, .slice a2 n2 c2, .slice a3 n3 c3, .slice a4 n4 c4, .int .i64 la, .int .i64 up] 29 (0, 0)) := by rw [hW]; exact blk_alloc (heap_alloc_new w _) _
  have b1 : W.heap[w.heap.size + 1]? = some (.cells #[.slice none 0 0, .int .i64 0, .slice none 0 0, .slice none 0 0, .slice none 0 0, .int .i64 0, .int .i64 0] 29 (0, 0)) := by
    rw [hW]
    have q := heap_alloc_new (w.alloc (.cells #[.slice a0 n0 c0, .int .i64 t, .slice a2 n2 c2, .slice a3 n3 c3, .slice a4 n4 c4, .int .i64 la, .int .i64 up] 29)) (.cells #[.slice none 0 0, .int .i64 0, .slice none 0 0, .slice none 0 0, .slice none 0 0, .int .i64 0, .int .i64 0] 29)
    simpa only [World.size_alloc] using q
  have zW : W.heap.size = w.heap.size + 2 := by rw [hW]; simp
  have p0 := blk_cell b0 0 (v := .slice a0 n0 c0) rfl
  have p1 := blk_cell b0 1 (v := .int .i64 t) rfl
  have p2 := blk_cell b0 2 (v := .slice a2 n2 c2) rfl
  have p3 := blk_cell b0 3 (v := .slice a3 n3 c3) rfl
  have p4 := blk_cell b0 4 (v := .slice a4 n4 c4) rfl
  have p5 := blk_cell b0 5 (v := .int .i64 la) rfl
  have p6 := blk_cell b0 6 (v := .int .i64 up) rfl
  have y0 := blk_cell b1 0 (v := .slice none 0 0) rfl
  have y1 := blk_cell b1 1 (v := .int .i64 0) rfl
  have y2 := blk_cell b1 2 (v := .slice none 0 0) rfl
  have y3 := blk_cell b1 3 (v := .slice none 0 0) rfl
  have y4 := blk_cell b1 4 (v := .slice none 0 0) rfl
  have y5 := blk_cell b1 5 (v := .int .i64 0) rfl
  have y6 := blk_cell b1 6 (v := .int .i64 0) rfl
  have fz0 := blk_frozen b1 0
  have fz1 := blk_frozen b1 1
  have fz2 := blk_frozen b1 2
  have fz3 := blk_frozen b1 3
  have fz4 := blk_frozen b1 4
  have fz5 := blk_frozen b1 5
  have fz6 := blk_frozen b1 6
  have hw1 : IntKind.i64.wrap (la + (n3 : Int)) = la + (n3 : Int) := IntWalk.i64_in _ (by omega)
  have hw2 : IntKind.i64.wrap (la + (n3 : Int) + 1) = la + (n3 : Int) + 1 := IntWalk.i64_in _ (by omega)
  by_cases h20 : n2 = 0
  · have hb2 : ((n2 : Int) == 0) = true := beq_iff_eq.2 (by omega)
    clear hc h34 hl0 hl1 h20
    go_enter Try.func26, Try.ntmps26
    go_upto_region 1 with fail
    rw [← hW]
    clear hW
    go_upto_region 11 with fail
    obtain ⟨Y, hY⟩ : ∃ u, u = stores W (w.heap.size + 1) 0 [.slice a0 n0 c0, .int .i64 t, .slice a2 n2 c2, .slice a3 n3 c3, .slice a4 n4 c4, .int .i64 la, .int .i64 up] := ⟨_, rfl⟩
    have S : Off (fun b => b = w.heap.size + 1) W Y := by rw [hY]; exact stores_off (F := fun b => b = w.heap.size + 1) _ _ _ _ rfl
    have zY : Y.heap.size = W.heap.size := by rw [hY]; exact stores_size _ _ _ _
    have D : Below w.heap.size w Y := by rw [hY]; exact stores_below _ _ _ _ B0 (by omega)
    have R : Hid (KRet (.returned (.tuple #[.agg #[.slice a0 n0 c0, .int .i64 t, .slice a2 n2 c2, .slice a3 n3 c3, .slice a4 n4 c4, .int .i64 la, .int .i64 up], .bool false])) w Y F false (src, t, pd, ps, ou, la, up) ∧ Below w.heap.size w Y) := Hid.mk
      ⟨⟨a0, n0, c0, a2, n2, c2, a3, n3, c3, a4, n4, c4, rfl, RSink.mono (RSink.ownBelow ho D) (fun b h => .inl h), Off.below D⟩, D⟩
    have HY := Hid.mk hY
    clear S hY zY D b0 b1 B0 zW
    go_wp2
    refine bodyPost_ret (v := .tuple #[.agg #[.slice a0 n0 c0, .int .i64 t, .slice a2 n2 c2, .slice a3 n3 c3, .slice a4 n4 c4, .int .i64 la, .int .i64 up], .bool false]) (by simp [results, Try.results26, go_sem, y0, y1, y2, y3, y4, y5, y6]) rfl ?_
    have h := R.out
    rw [HY.out] at h
    exact h
  by_cases h44 : n3 = 4
  · have hb2 : ((n2 : Int) == 0) = false := beq_eq_false_iff_ne.2 (by omega)
    have hb4 : (4 : Int) ≤ (n3 : Int) := by omega
    clear hc h34 hl0 hl1 h20 h44
    go_enter Try.func26, Try.ntmps26
    go_upto_region 1 with fail
    rw [← hW]
    clear hW
    go_upto_region 11 with fail
    obtain ⟨Y, hY⟩ : ∃ u, u = stores W (w.heap.size + 1) 0 [.slice a0 n0 c0, .int .i64 t, .slice a2 n2 c2, .slice a3 n3 c3, .slice a4 n4 c4, .int .i64 la, .int .i64 up] := ⟨_, rfl⟩
    have S : Off (fun b => b = w.heap.size + 1) W Y := by rw [hY]; exact stores_off (F := fun b => b = w.heap.size + 1) _ _ _ _ rfl
    have zY : Y.heap.size = W.heap.size := by rw [hY]; exact stores_size _ _ _ _
    have D : Below w.heap.size w Y := by rw [hY]; exact stores_below _ _ _ _ B0 (by omega)
    have R : Hid (KRet (.returned (.tuple #[.agg #[.slice a0 n0 c0, .int .i64 t, .slice a2 n2 c2, .slice a3 n3 c3, .slice a4 n4 c4, .int .i64 la, .int .i64 up], .bool false])) w Y F false (src, t, pd, ps, ou, la, up) ∧ Below w.heap.size w Y) := Hid.mk
      ⟨⟨a0, n0, c0, a2, n2, c2, a3, n3, c3, a4, n4, c4, rfl, RSink.mono (RSink.ownBelow ho D) (fun b h => .inl h), Off.below D⟩, D⟩
    have HY := Hid.mk hY
    clear S hY zY D b0 b1 B0 zW
    go_wp2
    refine bodyPost_ret (v := .tuple #[.agg #[.slice a0 n0 c0, .int .i64 t, .slice a2 n2 c2, .slice a3 n3 c3, .slice a4 n4 c4, .int .i64 la, .int .i64 up], .bool false]) (by simp [results, Try.results26, go_sem, y0, y1, y2, y3, y4, y5, y6]) rfl ?_
    have h := R.out
    rw [HY.out] at h
    exact h
  have hb2 : ((n2 : Int) == 0) = false := beq_eq_false_iff_ne.2 (by omega)
  have hb4 : ¬ (4 : Int) ≤ (n3 : Int) := by omega
  have hb5 : (1000 : Int) ≤ la + (n3 : Int) := by omega
  clear hc h34 hl0 hl1 h20 h44
  go_enter Try.func26, Try.ntmps26
  go_upto_region 1 with fail
  rw [← hW]
  clear hW
  go_upto_region 11 with fail
  obtain ⟨Y, hY⟩ : ∃ u, u = stores W (w.heap.size + 1) 0 [.slice a0 n0 c0, .int .i64 t, .slice a2 n2 c2, .slice a3 n3 c3, .slice a4 n4 c4, .int .i64 la, .int .i64 up] := ⟨_, rfl⟩
  have S : Off (fun b => b = w.heap.size + 1) W Y := by rw [hY]; exact stores_off (F := fun b => b = w.heap.size + 1) _ _ _ _ rfl
  have zY : Y.heap.size = W.heap.size := by rw [hY]; exact stores_size _ _ _ _
  have D : Below w.heap.size w Y := by rw [hY]; exact stores_below _ _ _ _ B0 (by omega)
  have R : Hid (KRet (.returned (.tuple #[.agg #[.slice a0 n0 c0, .int .i64 t, .slice a2 n2 c2, .slice a3 n3 c3, .slice a4 n4 c4, .int .i64 la, .int .i64 up], .bool false])) w Y F false (src, t, pd, ps, ou, la, up) ∧ Below w.heap.size w Y) := Hid.mk
    ⟨⟨a0, n0, c0, a2, n2, c2, a3, n3, c3, a4, n4, c4, rfl, RSink.mono (RSink.ownBelow ho D) (fun b h => .inl h), Off.below D⟩, D⟩
  have HY := Hid.mk hY
  clear S hY zY D b0 b1 B0 zW
  go_wp2
  refine bodyPost_ret (v := .tuple #[.agg #[.slice a0 n0 c0, .int .i64 t, .slice a2 n2 c2, .slice a3 n3 c3, .slice a4 n4 c4, .int .i64 la, .int .i64 up], .bool false]) (by simp [results, Try.results26, go_sem, y0, y1, y2, y3, y4, y5, y6]) rfl ?_
  have h := R.out
  rw [HY.out] at h
  exact h

set_option maxRecDepth 100000 in
set_option maxHeartbeats 2000000 in
theorem step2_yes (F : Nat → Prop) (a0 : Option Addr) (n0 c0 : Nat) (a2 : Option Addr) (n2 c2 : Nat) (a3 : Option Addr) (n3 c3 : Nat) (a4 : Option Addr) (n4 c4 : Nat) (t la up : Int) (src pd : List Int) (ps : List TPrepared) (ou : List Int) (w : World) (hF : ∀ b, F b → b < w.heap.size) (h2p : 0 < n2) (h34 : n3 < 4) (hl0 : 0 ≤ la) (hl1 : la + (n3 : Int) + 1 ≤ 1000) (ho : RSink.Own w F [.slice a0 n0 c0, .int .i64 t, .slice a2 n2 c2, .slice a3 n3 c3, .slice a4 n4 c4, .int .i64 la, .int .i64 up] (src, t, pd, ps, ou, la, up)) :
    Calls Try.prog 26 #[.agg #[.slice a0 n0 c0, .int .i64 t, .slice a2 n2 c2, .slice a3 n3 c3, .slice a4 n4 c4, .int .i64 la, .int .i64 up], .int .i64 2] w fun e w' => KRet e w w' F true (src, t, [], ps ++ [(la + (n3 : Int) + 1, t, pd)], ou, la, up) := by
  obtain ⟨W, hW⟩ : ∃ W, W = (w.alloc (.cells #[.slice a0 n0 c0, .int .i64 t, .slice a2 n2 c2, .slice a3 n3 c3, .slice a4 n4 c4, .int .i64 la, .int .i64 up] 29)).alloc (.cells #[.slice none 0 0, .int .i64 0, .slice none 0 0, .slice none 0 0, .slice none 0 0, .int .i64 0, .int .i64 0] 29) := ⟨_, rfl⟩
  have B0 : Below w.heap.size w W := by rw [hW]; exact ((Below.refl _ _).alloc (Nat.le_refl _) _).alloc (by simp) _
  have b0 : W.heap[w.heap.size]? = some (.cells #[.slice a0 n0 c0, .int .i64 t, .slice a2 n2 c2, .slice a3 n3 c3, .slice a4 n4 c4, .int .i64 la, .int .i64 up] 29 (0, 0)) := by rw [hW]; exact blk_alloc (heap_alloc_new w _) _
  have b1 : W.heap[w.heap.size + 1]? = some (.cells #[.slice none 0 0, .int .i64 0, .slice none 0 0, .slice none 0 0, .slice none 0 0, .int .i64 0, .int .i64 0] 29 (0, 0)) := by
    rw [hW]
    have q := heap_alloc_new (w.alloc (.cells #[.slice a0 n0 c0, .int .i64 t, .slice a2 n2 c2, .slice a3 n3 c3, .slice a4 n4 c4, .int .i64 la, .int .i64 up] 29)) (.cells #[.slice none 0 0, .int .i64 0, .slice none 0 0, .slice none 0 0, .slice none 0 0, .int .i64 0, .int .i64 0] 29)
    simpa only [World.size_alloc] using q
  have zW : W.heap.size = w.heap.size + 2 := by rw [hW]; simp
  obtain ⟨i0, hi0, hx0, hx1, hx2⟩ := info_parts Try.infoPrepared
  obtain ⟨F0, F2, F3, F4, h0, h2, h3, h4, f0, f2, f3, f4, d02, d03, d04, d23, d24, d34⟩ := RSink.own_iff ho
  have h3k := h3
  obtain ⟨a3', n3', c3', cs, G, hcs, hL⟩ := h3k
  simp only [List.cons.injEq, Value.slice.injEq, and_true] at hcs
  obtain ⟨rfl, rfl, rfl⟩ := hcs
  have hb2 : ((n2 : Int) == 0) = false := beq_eq_false_iff_ne.2 (by omega)
  have hb4 : ¬ (4 : Int) ≤ (n3 : Int) := by omega
  have hb5 : ¬ (1000 : Int) ≤ la + (n3 : Int) := by omega
  have hw1 : IntKind.i64.wrap (la + (n3 : Int)) = la + (n3 : Int) := IntWalk.i64_in _ (by omega)
  have hw2 : IntKind.i64.wrap (la + (n3 : Int) + 1) = la + (n3 : Int) + 1 := IntWalk.i64_in _ (by omega)
  have HL := Hid.mk hL
  have HLB := Hid.mk (owns_below hL.outer B0)
  have H2 := Hid.mk h2
  have HN : Hid (∀ Z : World, Z = W.alloc (.cells #[.int .i64 (la + (n3 : Int) + 1), .int .i64 t, .slice a2 n2 c2] 64) → Z.cell? ⟨W.heap.size, 0, none⟩ = some (.int .i64 (la + (n3 : Int) + 1)) ∧ Z.cell? ⟨W.heap.size, 1, none⟩ = some (.int .i64 t) ∧ Z.cell? ⟨W.heap.size, 2, none⟩ = some (.slice a2 n2 c2)) := Hid.mk (fun Z hZ => by rw [hZ]; simp)
  have p0 := blk_cell b0 0 (v := .slice a0 n0 c0) rfl
  have p1 := blk_cell b0 1 (v := .int .i64 t) rfl
  have p2 := blk_cell b0 2 (v := .slice a2 n2 c2) rfl
  have p3 := blk_cell b0 3 (v := .slice a3 n3 c3) rfl
  have p4 := blk_cell b0 4 (v := .slice a4 n4 c4) rfl
  have p5 := blk_cell b0 5 (v := .int .i64 la) rfl
  have p6 := blk_cell b0 6 (v := .int .i64 up) rfl
  have HB0 := Hid.mk b0
  clear hL h2 h3
  have hzz : w.heap.size + 2 = W.heap.size := by omega
  have HZZ := Hid.mk hzz
  have zWa : w.heap.size + 2 ≤ W.heap.size := by omega
  have zWb : W.heap.size ≤ w.heap.size + 2 := by omega
  clear hzz zW
  go_enter Try.func26, Try.ntmps26
  go_upto_region 1 with fail
  rw [← hW]
  clear hW
  go_upto_region 12 with fail
  have hq := HN.out _ rfl
  have bA : Below W.heap.size W (W.alloc (.cells #[.int .i64 (la + (n3 : Int) + 1), .int .i64 t, .slice a2 n2 c2] 64)) := (Below.refl _ _).alloc (Nat.le_refl _) _
  go_wp2_with (at_builtin; refine wpList_app_vals rfl (.tmp 56) (.tmp 67) 27 rfl 0 64 i0 (.agg #[.int .i64 0, .int .i64 0, .slice none 0 0]) 3 40 Try.underlying27 hi0 hx0 hx1 hx2 rfl (by decide) (.slice a3 n3 c3) n3 cs rfl (owns_below HLB.out bA) (some ⟨W.heap.size, 0, none⟩) 1 1 [.int .i64 (la + (n3 : Int) + 1), .int .i64 t, .slice a2 n2 c2] rfl rfl (fun ad he => by cases he; intro j u hu; match j, hu with | 0, hu => (obtain rfl := Option.some.inj hu; exact hq.1) | 1, hu => (obtain rfl := Option.some.inj hu; exact hq.2.1) | 2, hu => (obtain rfl := Option.some.inj hu; exact hq.2.2)) (by intro u hu; simp at hu; rcases hu with rfl | rfl | rfl <;> rfl) (fun h => by cases h) (by unfold maxLen; omega) (by omega) (Nat.zero_le _) ?_)
  intro r d w2 ho2 hg2 ht2
  have zZ : (W.alloc (.cells #[.int .i64 (la + (n3 : Int) + 1), .int .i64 t, .slice a2 n2 c2] 64)).heap.size = W.heap.size + 1 := by simp
  obtain ⟨Z, hZ⟩ : ∃ Z, W.alloc (.cells #[.int .i64 (la + (n3 : Int) + 1), .int .i64 t, .slice a2 n2 c2] 64) = Z := ⟨_, rfl⟩
  rw [hZ] at hg2 bA zZ
  have hold : ∀ k, k < Z.heap.size → (Value.slice a3 n3 c3).ownBlock ≠ some k → w2.heap[k]? = Z.heap[k]? := fun k hk hn => hg2.block k hk (fun e => hn e.symm)
  have hnF : ∀ k, w.heap.size ≤ k → (Value.slice a3 n3 c3).ownBlock ≠ some k := fun k hk e => by have := hF k (f3 k (HL.out.outerF k e)); omega
  have z2 := hg2.size
  have k0 := (hold w.heap.size (by omega) (hnF _ (by omega))).trans (blk_below HB0.out bA)
  have k1 := (hold (w.heap.size + 1) (by omega) (hnF _ (by omega))).trans (blk_below b1 bA)
  have hout : ∀ b, (Value.slice r (n3 + 1) d).ownBlock = some b → F3 b ∨ (w.heap.size + 3 ≤ b ∧ b < w2.heap.size) := fun b hb => by
    have hlt := (ho2.lt b hb).2
    rcases ht2 with q | q
    · rw [q] at hb; exact .inl (HL.out.outerF b hb)
    · rw [q] at hb
      have h2 := Option.some.inj hb
      exact .inr ⟨by omega, hlt⟩
  have hwh : ∀ b, b < w.heap.size → (Value.slice a3 n3 c3).ownBlock ≠ some b → w2.heap[b]? = w.heap[b]? := fun b hb hn => (hold b (by omega) hn).trans ((bA.block b (by omega)).trans (B0.block b hb))
  have HLD : Hid (Laid RPrepared w2 (fun b => (F3 b ∨ F2 b) ∨ (w.heap.size + 3 ≤ b ∧ b < w2.heap.size)) 64 r (n3 + 1) d (ps ++ [(la + (n3 : Int) + 1, t, pd)]) (cs ++ [.int .i64 (la + (n3 : Int) + 1), .int .i64 t, .slice a2 n2 c2]) (fun i => if i = n3 then F2 else G i) (n3 + 1)) := Hid.mk
    (laid_pushAt HL.out (fun b h => hF b (f3 b h)) (RPrepared.own_mk (RInts.frame H2.out (fun b h hl => hwh b hl (fun e => d23 b h (HL.out.outerF b e)))) (fun _ h => h)) (fun b h => ⟨fun e => d23 b h e, hF b (f2 b h)⟩) hwh ho2
      (ht2.imp id (fun q b e => by rw [q] at e; have := Option.some.inj e; omega)) (by omega) (fun b h => .inl (.inl h)) (fun b h => .inl (.inr h)) (fun b e => (hout b e).imp .inl id))
  have HLN : Hid (∀ b, ((F3 b ∨ F2 b) ∨ (w.heap.size + 3 ≤ b ∧ b < w2.heap.size)) → ¬ (b = w.heap.size ∨ b = w.heap.size + 1)) := Hid.mk (fun b h e => by
    rcases h with (h | h) | h
    · have := hF b (f3 b h); rcases e with e | e <;> omega
    · have := hF b (f2 b h); rcases e with e | e <;> omega
    · rcases e with e | e <;> omega)
  have HO : Off (fun b => F3 b ∨ w.heap.size ≤ b) w w2 := (Off.below (B0.trans (bA.mono B0.size))).trans (Off.grown hg2 (fun k hk => .inl (HL.out.outerF k hk)))
  clear ho2 hg2 ht2 hold hnF hwh hout p0 p1 p2 p3 p4 p5 p6 bA zZ hq
  obtain ⟨X2, hX2⟩ : ∃ u, u = w2.setCell ⟨w.heap.size, 3, none⟩ (.slice r (n3 + 1) d) := ⟨_, rfl⟩
  have e0 : X2.heap[w.heap.size]? = some (.cells #[.slice a0 n0 c0, .int .i64 t, .slice a2 n2 c2, .slice r (n3 + 1) d, .slice a4 n4 c4, .int .i64 la, .int .i64 up] 29 (0, 0)) := by rw [hX2]; exact blk_set k0 3 _
  have e1 : X2.heap[w.heap.size + 1]? = some (.cells #[.slice none 0 0, .int .i64 0, .slice none 0 0, .slice none 0 0, .slice none 0 0, .int .i64 0, .int .i64 0] 29 (0, 0)) := by rw [hX2]; exact blk_other k1 (by simp) _
  have hS : Off (fun b => b = w.heap.size) w2 X2 := by rw [hX2]; exact Off.set (F := fun b => b = w.heap.size) (a := ⟨w.heap.size, 3, none⟩) rfl _
  have q3 := blk_cell k0 3 (v := .slice a3 n3 c3) rfl
  have g3 := blk_frozen k0 3
  go_upto_region 13 with fail
  rw [← hX2]
  clear hX2 q3 g3 k0 k1
  obtain ⟨X3, hX3⟩ : ∃ u, u = X2.setCell ⟨w.heap.size, 2, none⟩ (.slice none 0 0) := ⟨_, rfl⟩
  have k0 : X3.heap[w.heap.size]? = some (.cells #[.slice a0 n0 c0, .int .i64 t, .slice none 0 0, .slice r (n3 + 1) d, .slice a4 n4 c4, .int .i64 la, .int .i64 up] 29 (0, 0)) := by rw [hX3]; exact blk_set e0 2 _
  have k1 : X3.heap[w.heap.size + 1]? = some (.cells #[.slice none 0 0, .int .i64 0, .slice none 0 0, .slice none 0 0, .slice none 0 0, .int .i64 0, .int .i64 0] 29 (0, 0)) := by rw [hX3]; exact blk_other e1 (by simp) _
  have hS : Off (fun b => b = w.heap.size) w2 X3 := hS.trans (by rw [hX3]; exact Off.set (F := fun b => b = w.heap.size) (a := ⟨w.heap.size, 2, none⟩) rfl _)
  have q2 := blk_cell e0 2 (v := .slice a2 n2 c2) rfl
  have g2 := blk_frozen e0 2
  go_upto_region 14 with fail
  rw [← hX3]
  clear hX3 q2 g2 e0 e1
  have z4 := hS.size
  have HON := Hid.mk hS
  have HLD := Hid.mk (HLD.out.frame (fun b k hb => hS.block b hb (fun e => HLN.out b k (.inl e))))
  have HO := Hid.mk (HO.trans (hS.mono (F' := fun b => F3 b ∨ w.heap.size ≤ b) (fun b h => .inr (by have h2 : b = w.heap.size := h; omega))))
  have h2 := H2.out
  have h3 : True := trivial
  have p0 := blk_cell k0 0 (v := .slice a0 n0 c0) rfl
  have p1 := blk_cell k0 1 (v := .int .i64 t) rfl
  have p2 := blk_cell k0 2 (v := .slice none 0 0) rfl
  have p3 := blk_cell k0 3 (v := .slice r (n3 + 1) d) rfl
  have p4 := blk_cell k0 4 (v := .slice a4 n4 c4) rfl
  have p5 := blk_cell k0 5 (v := .int .i64 la) rfl
  have p6 := blk_cell k0 6 (v := .int .i64 up) rfl
  have y0 := blk_cell k1 0 (v := .slice none 0 0) rfl
  have y1 := blk_cell k1 1 (v := .int .i64 0) rfl
  have y2 := blk_cell k1 2 (v := .slice none 0 0) rfl
  have y3 := blk_cell k1 3 (v := .slice none 0 0) rfl
  have y4 := blk_cell k1 4 (v := .slice none 0 0) rfl
  have y5 := blk_cell k1 5 (v := .int .i64 0) rfl
  have y6 := blk_cell k1 6 (v := .int .i64 0) rfl
  have fz0 := blk_frozen k1 0
  have fz1 := blk_frozen k1 1
  have fz2 := blk_frozen k1 2
  have fz3 := blk_frozen k1 3
  have fz4 := blk_frozen k1 4
  have fz5 := blk_frozen k1 5
  have fz6 := blk_frozen k1 6
  clear hS HL HLB HN HB0 h2 h3
  obtain ⟨Y, hY⟩ : ∃ u, u = stores X3 (w.heap.size + 1) 0 [.slice a0 n0 c0, .int .i64 t, .slice none 0 0, .slice r (n3 + 1) d, .slice a4 n4 c4, .int .i64 la, .int .i64 up] := ⟨_, rfl⟩
  have S : Off (fun b => b = w.heap.size + 1) X3 Y := by rw [hY]; exact stores_off (F := fun b => b = w.heap.size + 1) _ _ _ _ rfl
  have zY : Y.heap.size = X3.heap.size := by rw [hY]; exact stores_size _ _ _ _
  have HY2 := Hid.mk (HO.out.trans (S.mono (F' := fun b => F3 b ∨ w.heap.size ≤ b) (fun b h => .inr (by have h2 : b = w.heap.size + 1 := h; omega))))
  have R : Hid (KRet (.returned (.tuple #[.agg #[.slice a0 n0 c0, .int .i64 t, .slice none 0 0, .slice r (n3 + 1) d, .slice a4 n4 c4, .int .i64 la, .int .i64 up], .bool true])) w Y F true (src, t, [], ps ++ [(la + (n3 : Int) + 1, t, pd)], ou, la, up)) := Hid.mk
    ⟨a0, n0, c0, none, 0, 0, r, n3 + 1, d, a4, n4, c4, rfl, RSink.own_mk (F0 := F0) (F2 := fun _ => False) (F3 := fun b => (F3 b ∨ F2 b) ∨ (w.heap.size ≤ b ∧ b < Y.heap.size)) (F4 := F4)
      (RInts.ownOff h0 HY2.out (fun b k q => q.elim (d03 b k) (fun q => by have := hF b (f0 b k); omega)))
      (RInts.void _ _)
      ⟨r, n3 + 1, d, _, _, rfl, (HLD.out.frame (fun b k hb => (S.block b hb (fun e => HLN.out b k (.inr e))))).mono (fun b h => h.elim .inl (fun q => .inr ⟨by omega, by omega⟩))⟩
      (RInts.ownOff h4 HY2.out (fun b k q => q.elim (fun q => d34 b q k) (fun q => by have := hF b (f4 b k); omega)))
      (fun b h => .inl (f0 b h)) (fun _ h => h.elim) (fun b h => h.elim (fun h => .inl (h.elim (f3 b) (f2 b))) .inr) (fun b h => .inl (f4 b h)) (fun _ _ h => h.elim) (fun b h k => k.elim (fun k => k.elim (d03 b h) (d02 b h)) (fun k => by have := hF b (f0 b h); omega)) d04 (fun _ h => h.elim) (fun _ h => h.elim) (fun b h k => h.elim (fun h => h.elim (fun h => d34 b h k) (fun h => d24 b h k)) (fun h => by have := hF b (f4 b k); omega)),
      Off.cut (HY2.out.mono (fun b h => h.elim (fun h => .inl (f3 b h)) .inr))⟩
  have HY := Hid.mk hY
  clear S hY zY HO HON k0 k1
  go_wp2
  refine bodyPost_ret (v := .tuple #[.agg #[.slice a0 n0 c0, .int .i64 t, .slice none 0 0, .slice r (n3 + 1) d, .slice a4 n4 c4, .int .i64 la, .int .i64 up], .bool true]) (by simp [results, Try.results26, go_sem, y0, y1, y2, y3, y4, y5, y6]) rfl ?_
  have h := R.out
  rw [HY.out] at h
  exact h

end Go.Proofs.Ytmbjmmnodcebbaa

/- Contracts of the model's l16From and l16Crash. -/
namespace Go.Proofs.Ytmbjmmnodcebbaa
open Go.RowKit

theorem l16From_any (a0 : Option Addr) (n0 c0 : Nat) (t : Int) (a2 : Option Addr) (n2 c2 : Nat) (a3 : Option Addr) (n3 c3 : Nat) (a4 : Option Addr) (n4 c4 : Nat) (la up : Int) (ps : List TPrepared) (w : World) (h3 : ps.length = n3) (hb3 : n3 ≤ 9223372036854775807) (ha : AtSl RPrepared w a3 ps) :
    Calls Try.prog 58 #[.agg #[.slice a0 n0 c0, .int .i64 t, .slice a2 n2 c2, .slice a3 n3 c3, .slice a4 n4 c4, .int .i64 la, .int .i64 up]] w fun e w' => e = .returned (.int .i64 (upF up ps)) ∧ Below w.heap.size w w' := by
  obtain ⟨W, hW⟩ : ∃ W, W = w.alloc (.cells #[.slice a0 n0 c0, .int .i64 t, .slice a2 n2 c2, .slice a3 n3 c3, .slice a4 n4 c4, .int .i64 la, .int .i64 up] 29) := ⟨_, rfl⟩
  have B0 : Below w.heap.size w W := by rw [hW]; exact (Below.refl _ _).alloc (Nat.le_refl _) _
  have p3 : W.cell? ⟨w.heap.size, 3, none⟩ = some (.slice a3 n3 c3) := by rw [hW]; simp
  have p6 : W.cell? ⟨w.heap.size, 6, none⟩ = some (.int .i64 up) := by rw [hW]; simp
  by_cases h0 : n3 = 0
  · have hup : upF up ps = up := upF_nil (by omega)
    have hn0 : ¬ (0 : Int) < (n3 : Int) := by omega
    rw [hup]
    clear hup h0 ha h3
    go_enter Try.func58, Try.ntmps58
    go_upto_region 1 with fail
    rw [← hW]
    clear hW
    go_wp2
    go_ret
    exact ⟨rfl, B0⟩
  · obtain ⟨b, off, rfl, _, hc⟩ := RPrepared.row (AtSl.below ha B0) (by omega)
    obtain ⟨⟨x0, x1, x2⟩, hx⟩ : ∃ x, ps[n3 - 1]? = some x := ⟨_, List.getElem?_eq_getElem (by omega)⟩
    obtain ⟨d, l, e, _, g1, _, _⟩ := hc _ _ hx
    have hup : upF up ps = x1 := upF_last (n := n3 - 1) (by omega) hx
    have hn0 : (0 : Int) < (n3 : Int) := by omega
    have hw1 : IntKind.i64.wrap ((n3 : Int) - 1) = ((n3 - 1 : Nat) : Int) := by rw [IntWalk.i64_in _ (by omega)]; omega
    have hlt : n3 - 1 < n3 := by omega
    have hlti : ((n3 - 1 : Nat) : Int) < (n3 : Int) := by omega
    simp only at g1
    rw [hup]
    clear hup h0 ha h3 hc hx
    go_enter Try.func58, Try.ntmps58
    go_upto_region 1 with fail
    rw [← hW]
    clear hW
    go_wp2
    go_ret
    exact ⟨rfl, B0⟩

/-- A sink that is told by one who holds it. -/
def CrRet (e : Ending) (w w' : World) (F : Nat → Prop) (x : TSink) : Prop :=
  ∃ r0 m0 d0 r2 m2 d2 r3 m3 d3 r4 m4 d4, e = .returned (.agg #[.slice r0 m0 d0, .int .i64 x.2.1, .slice r2 m2 d2, .slice r3 m3 d3, .slice r4 m4 d4, .int .i64 x.2.2.2.2.2.1, .int .i64 x.2.2.2.2.2.2]) ∧
    RSink.Own w' (Gr F w w') [.slice r0 m0 d0, .int .i64 x.2.1, .slice r2 m2 d2, .slice r3 m3 d3, .slice r4 m4 d4, .int .i64 x.2.2.2.2.2.1, .int .i64 x.2.2.2.2.2.2] x ∧ Below w.heap.size w w'

set_option maxRecDepth 100000 in
set_option maxHeartbeats 2000000 in
theorem l16Crash_any (F : Nat → Prop) (a0 : Option Addr) (n0 c0 : Nat) (a2 : Option Addr) (n2 c2 : Nat) (a3 : Option Addr) (n3 c3 : Nat) (a4 : Option Addr) (n4 c4 : Nat) (t la up : Int) (src pd : List Int) (ps : List TPrepared) (ou : List Int) (w : World) (ho : RSink.Own w F [.slice a0 n0 c0, .int .i64 t, .slice a2 n2 c2, .slice a3 n3 c3, .slice a4 n4 c4, .int .i64 la, .int .i64 up] (src, t, pd, ps, ou, la, up)) :
    Calls Try.prog 46 #[.agg #[.slice a0 n0 c0, .int .i64 t, .slice a2 n2 c2, .slice a3 n3 c3, .slice a4 n4 c4, .int .i64 la, .int .i64 up]] w fun e w' => CrRet e w w' F (src, upF up ps, [], ps, ou, la, up) := by
  obtain ⟨W, hW⟩ : ∃ W, W = (w.alloc (.cells #[.slice a0 n0 c0, .int .i64 t, .slice a2 n2 c2, .slice a3 n3 c3, .slice a4 n4 c4, .int .i64 la, .int .i64 up] 29)).alloc (.cells #[.slice none 0 0, .int .i64 0, .slice none 0 0, .slice none 0 0, .slice none 0 0, .int .i64 0, .int .i64 0] 29) := ⟨_, rfl⟩
  have B0 : Below w.heap.size w W := by rw [hW]; exact ((Below.refl _ _).alloc (Nat.le_refl _) _).alloc (by simp) _
  have b0 : W.heap[w.heap.size]? = some (.cells #[.slice a0 n0 c0, .int .i64 t, .slice a2 n2 c2, .slice a3 n3 c3, .slice a4 n4 c4, .int .i64 la, .int .i64 up] 29 (0, 0)) := by rw [hW]; exact blk_alloc (heap_alloc_new w _) _
  have b1 : W.heap[w.heap.size + 1]? = some (.cells #[.slice none 0 0, .int .i64 0, .slice none 0 0, .slice none 0 0, .slice none 0 0, .int .i64 0, .int .i64 0] 29 (0, 0)) := by
    rw [hW]
    have q := heap_alloc_new (w.alloc (.cells #[.slice a0 n0 c0, .int .i64 t, .slice a2 n2 c2, .slice a3 n3 c3, .slice a4 n4 c4, .int .i64 la, .int .i64 up] 29)) (.cells #[.slice none 0 0, .int .i64 0, .slice none 0 0, .slice none 0 0, .slice none 0 0, .int .i64 0, .int .i64 0] 29)
    simpa only [World.size_alloc] using q
  have zW : W.heap.size = w.heap.size + 2 := by rw [hW]; simp
  obtain ⟨F0, F2, F3, F4, h0, h2, h3, h4, f0, f2, f3, f4, d02, d03, d04, d23, d24, d34⟩ := RSink.own_iff ho
  have h3l := RPrepareds.atSl h3
  have hb3 : n3 ≤ 9223372036854775807 := (RSink.at_iff (RSink.toAt ho)).2.2.1.2.1
  have KS := Hid.mk (l16From_any a0 n0 c0 t a2 n2 c2 a3 n3 c3 a4 n4 c4 la up ps W h3l.1 hb3 (AtSl.below h3l.2 B0))
  have p0 := blk_cell b0 0 (v := .slice a0 n0 c0) rfl
  have p1 := blk_cell b0 1 (v := .int .i64 t) rfl
  have p2 := blk_cell b0 2 (v := .slice a2 n2 c2) rfl
  have p3 := blk_cell b0 3 (v := .slice a3 n3 c3) rfl
  have p4 := blk_cell b0 4 (v := .slice a4 n4 c4) rfl
  have p5 := blk_cell b0 5 (v := .int .i64 la) rfl
  have p6 := blk_cell b0 6 (v := .int .i64 up) rfl
  obtain ⟨V, hV⟩ : ∃ V, upF up ps = V := ⟨_, rfl⟩
  rw [hV] at KS ⊢
  clear hV h3l hb3
  go_enter Try.func46, Try.ntmps46
  go_upto_region 1 with fail
  rw [← hW]
  clear hW
  go_wp2_with fail
  refine KS.out.mono ?_
  rintro e w2 ⟨rfl, hb2⟩
  have k0 := blk_below b0 hb2
  have k1 := blk_below b1 hb2
  have z2 := hb2.size
  have C2 : Below w.heap.size w w2 := B0.trans (hb2.mono B0.size)
  obtain ⟨X3, hX3⟩ : ∃ u, u = w2.setCell ⟨w.heap.size, 1, none⟩ (.int .i64 V) := ⟨_, rfl⟩
  have e0 : X3.heap[w.heap.size]? = some (.cells #[.slice a0 n0 c0, .int .i64 V, .slice a2 n2 c2, .slice a3 n3 c3, .slice a4 n4 c4, .int .i64 la, .int .i64 up] 29 (0, 0)) := by rw [hX3]; exact blk_set k0 1 _
  have e1 : X3.heap[w.heap.size + 1]? = some (.cells #[.slice none 0 0, .int .i64 0, .slice none 0 0, .slice none 0 0, .slice none 0 0, .int .i64 0, .int .i64 0] 29 (0, 0)) := by rw [hX3]; exact blk_other k1 (by simp) _
  have C1 : Below w.heap.size w X3 := by rw [hX3]; exact C2.setCell (Nat.le_refl _) _
  have z3 : w2.heap.size ≤ X3.heap.size := by rw [hX3]; simp [World.setCell]
  have q1 := blk_cell k0 1 (v := .int .i64 t) rfl
  have g1 := blk_frozen k0 1
  clear p0 p1 p2 p3 p4 p5 p6 KS
  go_upto_region 2 with fail
  rw [← hX3]
  clear hX3 q1 g1
  obtain ⟨X4, hX4⟩ : ∃ u, u = X3.setCell ⟨w.heap.size, 2, none⟩ (.slice none 0 0) := ⟨_, rfl⟩
  have k0 : X4.heap[w.heap.size]? = some (.cells #[.slice a0 n0 c0, .int .i64 V, .slice none 0 0, .slice a3 n3 c3, .slice a4 n4 c4, .int .i64 la, .int .i64 up] 29 (0, 0)) := by rw [hX4]; exact blk_set e0 2 _
  have k1 : X4.heap[w.heap.size + 1]? = some (.cells #[.slice none 0 0, .int .i64 0, .slice none 0 0, .slice none 0 0, .slice none 0 0, .int .i64 0, .int .i64 0] 29 (0, 0)) := by rw [hX4]; exact blk_other e1 (by simp) _
  have C3 : Below w.heap.size w X4 := by rw [hX4]; exact C1.setCell (Nat.le_refl _) _
  have z4 : X3.heap.size ≤ X4.heap.size := by rw [hX4]; simp [World.setCell]
  have q2 := blk_cell e0 2 (v := .slice a2 n2 c2) rfl
  have g2 := blk_frozen e0 2
  go_upto_region 3 with fail
  rw [← hX4]
  clear hX4 q2 g2
  have p0 := blk_cell k0 0 (v := .slice a0 n0 c0) rfl
  have p1 := blk_cell k0 1 (v := .int .i64 V) rfl
  have p2 := blk_cell k0 2 (v := .slice none 0 0) rfl
  have p3 := blk_cell k0 3 (v := .slice a3 n3 c3) rfl
  have p4 := blk_cell k0 4 (v := .slice a4 n4 c4) rfl
  have p5 := blk_cell k0 5 (v := .int .i64 la) rfl
  have p6 := blk_cell k0 6 (v := .int .i64 up) rfl
  have y0 := blk_cell k1 0 (v := .slice none 0 0) rfl
  have y1 := blk_cell k1 1 (v := .int .i64 0) rfl
  have y2 := blk_cell k1 2 (v := .slice none 0 0) rfl
  have y3 := blk_cell k1 3 (v := .slice none 0 0) rfl
  have y4 := blk_cell k1 4 (v := .slice none 0 0) rfl
  have y5 := blk_cell k1 5 (v := .int .i64 0) rfl
  have y6 := blk_cell k1 6 (v := .int .i64 0) rfl
  have fz0 := blk_frozen k1 0
  have fz1 := blk_frozen k1 1
  have fz2 := blk_frozen k1 2
  have fz3 := blk_frozen k1 3
  have fz4 := blk_frozen k1 4
  have fz5 := blk_frozen k1 5
  have fz6 := blk_frozen k1 6
  obtain ⟨Y, hY⟩ : ∃ u, u = stores X4 (w.heap.size + 1) 0 [.slice a0 n0 c0, .int .i64 V, .slice none 0 0, .slice a3 n3 c3, .slice a4 n4 c4, .int .i64 la, .int .i64 up] := ⟨_, rfl⟩
  have S : Off (fun b => b = w.heap.size + 1) X4 Y := by rw [hY]; exact stores_off (F := fun b => b = w.heap.size + 1) _ _ _ _ rfl
  have zY : Y.heap.size = X4.heap.size := by rw [hY]; exact stores_size _ _ _ _
  have D : Below w.heap.size w Y := by rw [hY]; exact stores_below _ _ _ _ C3 (by omega)
  have R : Hid (CrRet (.returned (.agg #[.slice a0 n0 c0, .int .i64 V, .slice none 0 0, .slice a3 n3 c3, .slice a4 n4 c4, .int .i64 la, .int .i64 up])) w Y F (src, V, [], ps, ou, la, up)) := Hid.mk
    ⟨a0, n0, c0, none, 0, 0, a3, n3, c3, a4, n4, c4, rfl, RSink.own_mk (F2 := fun _ => False) (RInts.ownBelow h0 D) (RInts.void _ _) (RPrepareds.ownBelow h3 D) (RInts.ownBelow h4 D) (fun b h => .inl (f0 b h)) (fun _ h => h.elim) (fun b h => .inl (f3 b h)) (fun b h => .inl (f4 b h)) (fun _ _ h => h.elim) d03 d04 (fun _ h => h.elim) (fun _ h => h.elim) d34, D⟩
  have HY := Hid.mk hY
  clear S hY zY D k0 k1 e0 e1 C1 C2 C3
  go_wp2
  refine bodyPost_ret (v := .agg #[.slice a0 n0 c0, .int .i64 V, .slice none 0 0, .slice a3 n3 c3, .slice a4 n4 c4, .int .i64 la, .int .i64 up]) (by simp [results, Try.results46, go_sem, y0, y1, y2, y3, y4, y5, y6]) rfl ?_
  have h := R.out
  rw [HY.out] at h
  exact h

end Go.Proofs.Ytmbjmmnodcebbaa
