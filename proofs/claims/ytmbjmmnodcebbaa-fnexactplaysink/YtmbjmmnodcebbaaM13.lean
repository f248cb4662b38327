/- Several texts of one proof, in build order: PrS, AgI. -/
import Derived.Test.YtmbjmmnodcebbaaM12
import Derived.Test.YtmbjmmnodcebbaaM6

/- Contracts of the model's l16Step at SinkPrepare. -/
namespace Go.Proofs.Ytmbjmmnodcebbaa
open Go.RowKit

set_option maxRecDepth 100000 in
set_option maxHeartbeats 2000000 in
theorem step2_no (F : Nat → Prop) (a0 : Option Addr) (n0 c0 : Nat) (a2 : Option Addr) (n2 c2 : Nat) (a3 : Option Addr) (n3 c3 : Nat) (a4 : Option Addr) (n4 c4 : Nat) (t la up : Int) (src pd : List Int) (ps : List TPrepared) (ou : List Int) (w : World) (hc : n2 = 0 ∨ n3 = 4 ∨ 1000 < la + (n3 : Int) + 1) (h34 : n3 ≤ 4) (hl0 : 0 ≤ la) (hl1 : la ≤ 1000) (ho : RSink.Own w F [.slice a0 n0 c0, .int .i64 t, .slice a2 n2 c2, .slice a3 n3 c3, .slice a4 n4 c4, .int .i64 la, .int .i64 up] (src, t, pd, ps, ou, la, up)) :
    Calls Try.prog 26 #[.agg #[.slice a0 n0 c0, .int .i64 t, .slice a2 n2 c2, .slice a3 n3 c3, .slice a4 n4 c4, .int .i64 la, .int .i64 up], .int .i64 2] w fun e w' => KRet e w w' F false (src, t, pd, ps, ou, la, up) ∧ Below w.heap.size w w' := by
  obtain ⟨W, hW⟩ : ∃ W, W = (w.alloc (.cells #[.slice a0 n0 c0, .int .i64 t, .slice a2 n2 c2, .slice a3 n3 c3, .slice a4 n4 c4, .int .i64 la, .int .i64 up] 29)).alloc (.cells #[.slice none 0 0, .int .i64 0, .slice none 0 0, .slice none 0 0, .slice none 0 0, .int .i64 0, .int .i64 0] 29) := ⟨_, rfl⟩
  have B0 : Below w.heap.size w W := by rw [hW]; exact ((Below.refl _ _).alloc (Nat.le_refl _) _).alloc (by simp) _
  have b0 : W.heap[w.heap.size]? = some (.cells #[.slice a0 n0 c0, .int .i64 t, .slice a2 n2 c2, .slice a3 n3 c3, .slice a4 n4 c4, .int .i64 la, .int .i64 up] 29 (0, 0)) := by rw [hW]; exact blk_alloc (heap_alloc_new w _) _
  have b1 : W.heap[w.heap.size + 1]? = some (.cells #[.slice none 0 0, .int .i64 0, .slice none 0 0, .slice none 0 0, .slice none 0 0, .int .i64 0, .int .i64 0] 29 (0, 0)) := by
    rw [hW]
    have q := heap_alloc_new (w.alloc (.cells #[.slice a0 n0 c0, .int .i64 t, .slice a2 n2 c2, .slice a3 n3 c3, .slice a4 n4 c4, .int .i64 la, .int .i64 up] 29)) (.cells #[.slice none 0 0, .int .i64 0, .slice none 0 0, .slice none 0 0, .slice none 0 0, .int .i64 0, .int .i64 0] 29)
    simpa only [World.size_alloc] using q
  have zW : W.heap.size = w.heap.size + 2 := by rw [hW]; simp
  have p0 := blk_cell b0 0 (v := .slice a0 n0 c0) rfl
  have p1 := blk_cell b0 1 (v := .int .i64 t) rfl
  have p2 := blk_cell b0 2 (v := .slice a2 n2 c2) rfl
  have p3 := blk_cell b0 3 (v := .slice a3 n3 c3) rfl
  have p4 := blk_cell b0 4 (v := .slice a4 n4 c4) rfl
  have p5 := blk_cell b0 5 (v := .int .i64 la) rfl
  have p6 := blk_cell b0 6 (v := .int .i64 up) rfl
  have y0 := blk_cell b1 0 (v := .slice none 0 0) rfl
  have y1 := blk_cell b1 1 (v := .int .i64 0) rfl
  have y2 := blk_cell b1 2 (v := .slice none 0 0) rfl
  have y3 := blk_cell b1 3 (v := .slice none 0 0) rfl
  have y4 := blk_cell b1 4 (v := .slice none 0 0) rfl
  have y5 := blk_cell b1 5 (v := .int .i64 0) rfl
  have y6 := blk_cell b1 6 (v := .int .i64 0) rfl
  have fz0 := blk_frozen b1 0
  have fz1 := blk_frozen b1 1
  have fz2 := blk_frozen b1 2
  have fz3 := blk_frozen b1 3
  have fz4 := blk_frozen b1 4
  have fz5 := blk_frozen b1 5
  have fz6 := blk_frozen b1 6
  have hw1 : IntKind.i64.wrap (la + (n3 : Int)) = la + (n3 : Int) := IntWalk.i64_in _ (by omega)
  have hw2 : IntKind.i64.wrap (la + (n3 : Int) + 1) = la + (n3 : Int) + 1 := IntWalk.i64_in _ (by omega)
  by_cases h20 : n2 = 0
  · have hb2 : ((n2 : Int) == 0) = true := beq_iff_eq.2 (by omega)
    clear hc h34 hl0 hl1 h20
    go_enter Try.func26, Try.ntmps26
    go_upto_region 1 with fail
    rw [← hW]
    clear hW
    go_upto_region 11 with fail
    obtain ⟨Y, hY⟩ : ∃ u, u = stores W (w.heap.size + 1) 0 [.slice a0 n0 c0, .int .i64 t, .slice a2 n2 c2, .slice a3 n3 c3, .slice a4 n4 c4, .int .i64 la, .int .i64 up] := ⟨_, rfl⟩
    have S : Off (fun b => b = w.heap.size + 1) W Y := by rw [hY]; exact stores_off (F := fun b => b = w.heap.size + 1) _ _ _ _ rfl
    have zY : Y.heap.size = W.heap.size := by rw [hY]; exact stores_size _ _ _ _
    have D : Below w.heap.size w Y := by rw [hY]; exact stores_below _ _ _ _ B0 (by omega)
    have R : Hid (KRet (.returned (.tuple #[.agg #[.slice a0 n0 c0, .int .i64 t, .slice a2 n2 c2, .slice a3 n3 c3, .slice a4 n4 c4, .int .i64 la, .int .i64 up], .bool false])) w Y F false (src, t, pd, ps, ou, la, up) ∧ Below w.heap.size w Y) := Hid.mk
      ⟨⟨a0, n0, c0, a2, n2, c2, a3, n3, c3, a4, n4, c4, rfl, RSink.mono (RSink.ownBelow ho D) (fun b h => .inl h), Off.below D⟩, D⟩
    have HY := Hid.mk hY
    clear S hY zY D b0 b1 B0 zW
    go_wp2
    refine bodyPost_ret (v := .tuple #[.agg #[.slice a0 n0 c0, .int .i64 t, .slice a2 n2 c2, .slice a3 n3 c3, .slice a4 n4 c4, .int .i64 la, .int .i64 up], .bool false]) (by simp [results, Try.results26, go_sem, y0, y1, y2, y3, y4, y5, y6]) rfl ?_
    have h := R.out
    rw [HY.out] at h
    exact h
  by_cases h44 : n3 = 4
  · have hb2 : ((n2 : Int) == 0) = false := beq_eq_false_iff_ne.2 (by omega)
    have hb4 : (4 : Int) ≤ (n3 : Int) := by omega
    clear hc h34 hl0 hl1 h20 h44
    go_enter Try.func26, Try.ntmps26
    go_upto_region 1 with fail
    rw [← hW]
    clear hW
    go_upto_region 11 with fail
    obtain ⟨Y, hY⟩ : ∃ u, u = stores W (w.heap.size + 1) 0 [.slice a0 n0 c0, .int .i64 t, .slice a2 n2 c2, .slice a3 n3 c3, .slice a4 n4 c4, .int .i64 la, .int .i64 up] := ⟨_, rfl⟩
    have S : Off (fun b => b = w.heap.size + 1) W Y := by rw [hY]; exact stores_off (F := fun b => b = w.heap.size + 1) _ _ _ _ rfl
    have zY : Y.heap.size = W.heap.size := by rw [hY]; exact stores_size _ _ _ _
    have D : Below w.heap.size w Y := by rw [hY]; exact stores_below _ _ _ _ B0 (by omega)
    have R : Hid (KRet (.returned (.tuple #[.agg #[.slice a0 n0 c0, .int .i64 t, .slice a2 n2 c2, .slice a3 n3 c3, .slice a4 n4 c4, .int .i64 la, .int .i64 up], .bool false])) w Y F false (src, t, pd, ps, ou, la, up) ∧ Below w.heap.size w Y) := Hid.mk
      ⟨⟨a0, n0, c0, a2, n2, c2, a3, n3, c3, a4, n4, c4, rfl, RSink.mono (RSink.ownBelow ho D) (fun b h => .inl h), Off.below D⟩, D⟩
    have HY := Hid.mk hY
    clear S hY zY D b0 b1 B0 zW
    go_wp2
    refine bodyPost_ret (v := .tuple #[.agg #[.slice a0 n0 c0, .int .i64 t, .slice a2 n2 c2, .slice a3 n3 c3, .slice a4 n4 c4, .int .i64 la, .int .i64 up], .bool false]) (by simp [results, Try.results26, go_sem, y0, y1, y2, y3, y4, y5, y6]) rfl ?_
    have h := R.out
    rw [HY.out] at h
    exact h
  have hb2 : ((n2 : Int) == 0) = false := beq_eq_false_iff_ne.2 (by omega)
  have hb4 : ¬ (4 : Int) ≤ (n3 : Int) := by omega
  have hb5 : (1000 : Int) ≤ la + (n3 : Int) := by omega
  clear hc h34 hl0 hl1 h20 h44
  go_enter Try.func26, Try.ntmps26
  go_upto_region 1 with fail
  rw [← hW]
  clear hW
  go_upto_region 11 with fail
  obtain ⟨Y, hY⟩ : ∃ u, u = stores W (w.heap.size + 1) 0 [.slice a0 n0 c0, .int .i64 t, .slice a2 n2 c2, .slice a3 n3 c3, .slice a4 n4 c4, .int .i64 la, .int .i64 up] := ⟨_, rfl⟩
  have S : Off (fun b => b = w.heap.size + 1) W Y := by rw [hY]; exact stores_off (F := fun b => b = w.heap.size + 1) _ _ _ _ rfl
  have zY : Y.heap.size = W.heap.size := by rw [hY]; exact stores_size _ _ _ _
  have D : Below w.heap.size w Y := by rw [hY]; exact stores_below _ _ _ _ B0 (by omega)
  have R : Hid (KRet (.returned (.tuple #[.agg #[.slice a0 n0 c0, .int .i64 t, .slice a2 n2 c2, .slice a3 n3 c3, .slice a4 n4 c4, .int .i64 la, .int .i64 up], .bool false])) w Y F false (src, t, pd, ps, ou, la, up) ∧ Below w.heap.size w Y) := Hid.mk
    ⟨⟨a0, n0, c0, a2, n2, c2, a3, n3, c3, a4, n4, c4, rfl, RSink.mono (RSink.ownBelow ho D) (fun b h => .inl h), Off.below D⟩, D⟩
  have HY := Hid.mk hY
  clear S hY zY D b0 b1 B0 zW
  go_wp2
  refine bodyPost_ret (v := .tuple #[.agg #[.slice a0 n0 c0, .int .i64 t, .slice a2 n2 c2, .slice a3 n3 c3, .slice a4 n4 c4, .int .i64 la, .int .i64 up], .bool false]) (by simp [results, Try.results26, go_sem, y0, y1, y2, y3, y4, y5, y6]) rfl ?_
  have h := R.out
  rw [HY.out] at h
  exact h

set_option maxRecDepth 100000 in
set_option maxHeartbeats 2000000 in
theorem step2_yes (F : Nat → Prop) (a0 : Option Addr) (n0 c0 : Nat) (a2 : Option Addr) (n2 c2 : Nat) (a3 : Option Addr) (n3 c3 : Nat) (a4 : Option Addr) (n4 c4 : Nat) (t la up : Int) (src pd : List Int) (ps : List TPrepared) (ou : List Int) (w : World) (hF : ∀ b, F b → b < w.heap.size) (h2p : 0 < n2) (h34 : n3 < 4) (hl0 : 0 ≤ la) (hl1 : la + (n3 : Int) + 1 ≤ 1000) (ho : RSink.Own w F [.slice a0 n0 c0, .int .i64 t, .slice a2 n2 c2, .slice a3 n3 c3, .slice a4 n4 c4, .int .i64 la, .int .i64 up] (src, t, pd, ps, ou, la, up)) :
    Calls Try.prog 26 #[.agg #[.slice a0 n0 c0, .int .i64 t, .slice a2 n2 c2, .slice a3 n3 c3, .slice a4 n4 c4, .int .i64 la, .int .i64 up], .int .i64 2] w fun e w' => KRet e w w' F true (src, t, [], ps ++ [(la + (n3 : Int) + 1, t, pd)], ou, la, up) := by
  obtain ⟨W, hW⟩ : ∃ W, W = (w.alloc (.cells #[.slice a0 n0 c0, .int .i64 t, .slice a2 n2 c2, .slice a3 n3 c3, .slice a4 n4 c4, .int .i64 la, .int .i64 up] 29)).alloc (.cells #[.slice none 0 0, .int .i64 0, .slice none 0 0, .slice none 0 0, .slice none 0 0, .int .i64 0, .int .i64 0] 29) := ⟨_, rfl⟩
  have B0 : Below w.heap.size w W := by rw [hW]; exact ((Below.refl _ _).alloc (Nat.le_refl _) _).alloc (by simp) _
  have b0 : W.heap[w.heap.size]? = some (.cells #[.slice a0 n0 c0, .int .i64 t, .slice a2 n2 c2, .slice a3 n3 c3, .slice a4 n4 c4, .int .i64 la, .int .i64 up] 29 (0, 0)) := by rw [hW]; exact blk_alloc (heap_alloc_new w _) _
  have b1 : W.heap[w.heap.size + 1]? = some (.cells #[.slice none 0 0, .int .i64 0, .slice none 0 0, .slice none 0 0, .slice none 0 0, .int .i64 0, .int .i64 0] 29 (0, 0)) := by
    rw [hW]
    have q := heap_alloc_new (w.alloc (.cells #[.slice a0 n0 c0, .int .i64 t, .slice a2 n2 c2, .slice a3 n3 c3, .slice a4 n4 c4, .int .i64 la, .int .i64 up] 29)) (.cells #[.slice none 0 0, .int .i64 0, .slice none 0 0, .slice none 0 0, .slice none 0 0, .int .i64 0, .int .i64 0] 29)
    simpa only [World.size_alloc] using q
  have zW : W.heap.size = w.heap.size + 2 := by rw [hW]; simp
  obtain ⟨i0, hi0, hx0, hx1, hx2⟩ := info_parts Try.infoPrepared
  obtain ⟨F0, F2, F3, F4, h0, h2, h3, h4, f0, f2, f3, f4, d02, d03, d04, d23, d24, d34⟩ := RSink.own_iff ho
  have h3k := h3
  obtain ⟨a3', n3', c3', cs, G, hcs, hL⟩ := h3k
  simp only [List.cons.injEq, Value.slice.injEq, and_true] at hcs
  obtain ⟨rfl, rfl, rfl⟩ := hcs
  have hb2 : ((n2 : Int) == 0) = false := beq_eq_false_iff_ne.2 (by omega)
  have hb4 : ¬ (4 : Int) ≤ (n3 : Int) := by omega
  have hb5 : ¬ (1000 : Int) ≤ la + (n3 : Int) := by omega
  have hw1 : IntKind.i64.wrap (la + (n3 : Int)) = la + (n3 : Int) := IntWalk.i64_in _ (by omega)
  have hw2 : IntKind.i64.wrap (la + (n3 : Int) + 1) = la + (n3 : Int) + 1 := IntWalk.i64_in _ (by omega)
  have HL := Hid.mk hL
  have HLB := Hid.mk (owns_below hL.outer B0)
  have H2 := Hid.mk h2
  have HN : Hid (∀ Z : World, Z = W.alloc (.cells #[.int .i64 (la + (n3 : Int) + 1), .int .i64 t, .slice a2 n2 c2] 64) → Z.cell? ⟨W.heap.size, 0, none⟩ = some (.int .i64 (la + (n3 : Int) + 1)) ∧ Z.cell? ⟨W.heap.size, 1, none⟩ = some (.int .i64 t) ∧ Z.cell? ⟨W.heap.size, 2, none⟩ = some (.slice a2 n2 c2)) := Hid.mk (fun Z hZ => by rw [hZ]; simp)
  have p0 := blk_cell b0 0 (v := .slice a0 n0 c0) rfl
  have p1 := blk_cell b0 1 (v := .int .i64 t) rfl
  have p2 := blk_cell b0 2 (v := .slice a2 n2 c2) rfl
  have p3 := blk_cell b0 3 (v := .slice a3 n3 c3) rfl
  have p4 := blk_cell b0 4 (v := .slice a4 n4 c4) rfl
  have p5 := blk_cell b0 5 (v := .int .i64 la) rfl
  have p6 := blk_cell b0 6 (v := .int .i64 up) rfl
  have HB0 := Hid.mk b0
  clear hL h2 h3
  have hzz : w.heap.size + 2 = W.heap.size := by omega
  have HZZ := Hid.mk hzz
  have zWa : w.heap.size + 2 ≤ W.heap.size := by omega
  have zWb : W.heap.size ≤ w.heap.size + 2 := by omega
  clear hzz zW
  go_enter Try.func26, Try.ntmps26
  go_upto_region 1 with fail
  rw [← hW]
  clear hW
  go_upto_region 12 with fail
  have hq := HN.out _ rfl
  have bA : Below W.heap.size W (W.alloc (.cells #[.int .i64 (la + (n3 : Int) + 1), .int .i64 t, .slice a2 n2 c2] 64)) := (Below.refl _ _).alloc (Nat.le_refl _) _
  go_wp2_with (at_builtin; refine wpList_app_vals rfl (.tmp 56) (.tmp 67) 27 rfl 0 64 i0 (.agg #[.int .i64 0, .int .i64 0, .slice none 0 0]) 3 40 Try.underlying27 hi0 hx0 hx1 hx2 rfl (by decide) (.slice a3 n3 c3) n3 cs rfl (owns_below HLB.out bA) (some ⟨W.heap.size, 0, none⟩) 1 1 [.int .i64 (la + (n3 : Int) + 1), .int .i64 t, .slice a2 n2 c2] rfl rfl (fun ad he => by cases he; intro j u hu; match j, hu with | 0, hu => (obtain rfl := Option.some.inj hu; exact hq.1) | 1, hu => (obtain rfl := Option.some.inj hu; exact hq.2.1) | 2, hu => (obtain rfl := Option.some.inj hu; exact hq.2.2)) (by intro u hu; simp at hu; rcases hu with rfl | rfl | rfl <;> rfl) (fun h => by cases h) (by unfold maxLen; omega) (by omega) (Nat.zero_le _) ?_)
  intro r d w2 ho2 hg2 ht2
  have zZ : (W.alloc (.cells #[.int .i64 (la + (n3 : Int) + 1), .int .i64 t, .slice a2 n2 c2] 64)).heap.size = W.heap.size + 1 := by simp
  obtain ⟨Z, hZ⟩ : ∃ Z, W.alloc (.cells #[.int .i64 (la + (n3 : Int) + 1), .int .i64 t, .slice a2 n2 c2] 64) = Z := ⟨_, rfl⟩
  rw [hZ] at hg2 bA zZ
  have hold : ∀ k, k < Z.heap.size → (Value.slice a3 n3 c3).ownBlock ≠ some k → w2.heap[k]? = Z.heap[k]? := fun k hk hn => hg2.block k hk (fun e => hn e.symm)
  have hnF : ∀ k, w.heap.size ≤ k → (Value.slice a3 n3 c3).ownBlock ≠ some k := fun k hk e => by have := hF k (f3 k (HL.out.outerF k e)); omega
  have z2 := hg2.size
  have k0 := (hold w.heap.size (by omega) (hnF _ (by omega))).trans (blk_below HB0.out bA)
  have k1 := (hold (w.heap.size + 1) (by omega) (hnF _ (by omega))).trans (blk_below b1 bA)
  have hout : ∀ b, (Value.slice r (n3 + 1) d).ownBlock = some b → F3 b ∨ (w.heap.size + 3 ≤ b ∧ b < w2.heap.size) := fun b hb => by
    have hlt := (ho2.lt b hb).2
    rcases ht2 with q | q
    · rw [q] at hb; exact .inl (HL.out.outerF b hb)
    · rw [q] at hb
      have h2 := Option.some.inj hb
      exact .inr ⟨by omega, hlt⟩
  have hwh : ∀ b, b < w.heap.size → (Value.slice a3 n3 c3).ownBlock ≠ some b → w2.heap[b]? = w.heap[b]? := fun b hb hn => (hold b (by omega) hn).trans ((bA.block b (by omega)).trans (B0.block b hb))
  have HLD : Hid (Laid RPrepared w2 (fun b => (F3 b ∨ F2 b) ∨ (w.heap.size + 3 ≤ b ∧ b < w2.heap.size)) 64 r (n3 + 1) d (ps ++ [(la + (n3 : Int) + 1, t, pd)]) (cs ++ [.int .i64 (la + (n3 : Int) + 1), .int .i64 t, .slice a2 n2 c2]) (fun i => if i = n3 then F2 else G i) (n3 + 1)) := Hid.mk
    (laid_pushAt HL.out (fun b h => hF b (f3 b h)) (RPrepared.own_mk (RInts.frame H2.out (fun b h hl => hwh b hl (fun e => d23 b h (HL.out.outerF b e)))) (fun _ h => h)) (fun b h => ⟨fun e => d23 b h e, hF b (f2 b h)⟩) hwh ho2
      (ht2.imp id (fun q b e => by rw [q] at e; have := Option.some.inj e; omega)) (by omega) (fun b h => .inl (.inl h)) (fun b h => .inl (.inr h)) (fun b e => (hout b e).imp .inl id))
  have HLN : Hid (∀ b, ((F3 b ∨ F2 b) ∨ (w.heap.size + 3 ≤ b ∧ b < w2.heap.size)) → ¬ (b = w.heap.size ∨ b = w.heap.size + 1)) := Hid.mk (fun b h e => by
    rcases h with (h | h) | h
    · have := hF b (f3 b h); rcases e with e | e <;> omega
    · have := hF b (f2 b h); rcases e with e | e <;> omega
    · rcases e with e | e <;> omega)
  have HO : Off (fun b => F3 b ∨ w.heap.size ≤ b) w w2 := (Off.below (B0.trans (bA.mono B0.size))).trans (Off.grown hg2 (fun k hk => .inl (HL.out.outerF k hk)))
  clear ho2 hg2 ht2 hold hnF hwh hout p0 p1 p2 p3 p4 p5 p6 bA zZ hq
  obtain ⟨X2, hX2⟩ : ∃ u, u = w2.setCell ⟨w.heap.size, 3, none⟩ (.slice r (n3 + 1) d) := ⟨_, rfl⟩
  have e0 : X2.heap[w.heap.size]? = some (.cells #[.slice a0 n0 c0, .int .i64 t, .slice a2 n2 c2, .slice r (n3 + 1) d, .slice a4 n4 c4, .int .i64 la, .int .i64 up] 29 (0, 0)) := by rw [hX2]; exact blk_set k0 3 _
  have e1 : X2.heap[w.heap.size + 1]? = some (.cells #[.slice none 0 0, .int .i64 0, .slice none 0 0, .slice none 0 0, .slice none 0 0, .int .i64 0, .int .i64 0] 29 (0, 0)) := by rw [hX2]; exact blk_other k1 (by simp) _
  have hS : Off (fun b => b = w.heap.size) w2 X2 := by rw [hX2]; exact Off.set (F := fun b => b = w.heap.size) (a := ⟨w.heap.size, 3, none⟩) rfl _
  have q3 := blk_cell k0 3 (v := .slice a3 n3 c3) rfl
  have g3 := blk_frozen k0 3
  go_upto_region 13 with fail
  rw [← hX2]
  clear hX2 q3 g3 k0 k1
  obtain ⟨X3, hX3⟩ : ∃ u, u = X2.setCell ⟨w.heap.size, 2, none⟩ (.slice none 0 0) := ⟨_, rfl⟩
  have k0 : X3.heap[w.heap.size]? = some (.cells #[.slice a0 n0 c0, .int .i64 t, .slice none 0 0, .slice r (n3 + 1) d, .slice a4 n4 c4, .int .i64 la, .int .i64 up] 29 (0, 0)) := by rw [hX3]; exact blk_set e0 2 _
  have k1 : X3.heap[w.heap.size + 1]? = some (.cells #[.slice none 0 0, .int .i64 0, .slice none 0 0, .slice none 0 0, .slice none 0 0, .int .i64 0, .int .i64 0] 29 (0, 0)) := by rw [hX3]; exact blk_other e1 (by simp) _
  have hS : Off (fun b => b = w.heap.size) w2 X3 := hS.trans (by rw [hX3]; exact Off.set (F := fun b => b = w.heap.size) (a := ⟨w.heap.size, 2, none⟩) rfl _)
  have q2 := blk_cell e0 2 (v := .slice a2 n2 c2) rfl
  have g2 := blk_frozen e0 2
  go_upto_region 14 with fail
  rw [← hX3]
  clear hX3 q2 g2 e0 e1
  have z4 := hS.size
  have HON := Hid.mk hS
  have HLD := Hid.mk (HLD.out.frame (fun b k hb => hS.block b hb (fun e => HLN.out b k (.inl e))))
  have HO := Hid.mk (HO.trans (hS.mono (F' := fun b => F3 b ∨ w.heap.size ≤ b) (fun b h => .inr (by have h2 : b = w.heap.size := h; omega))))
  have h2 := H2.out
  have h3 : True := trivial
  have p0 := blk_cell k0 0 (v := .slice a0 n0 c0) rfl
  have p1 := blk_cell k0 1 (v := .int .i64 t) rfl
  have p2 := blk_cell k0 2 (v := .slice none 0 0) rfl
  have p3 := blk_cell k0 3 (v := .slice r (n3 + 1) d) rfl
  have p4 := blk_cell k0 4 (v := .slice a4 n4 c4) rfl
  have p5 := blk_cell k0 5 (v := .int .i64 la) rfl
  have p6 := blk_cell k0 6 (v := .int .i64 up) rfl
  have y0 := blk_cell k1 0 (v := .slice none 0 0) rfl
  have y1 := blk_cell k1 1 (v := .int .i64 0) rfl
  have y2 := blk_cell k1 2 (v := .slice none 0 0) rfl
  have y3 := blk_cell k1 3 (v := .slice none 0 0) rfl
  have y4 := blk_cell k1 4 (v := .slice none 0 0) rfl
  have y5 := blk_cell k1 5 (v := .int .i64 0) rfl
  have y6 := blk_cell k1 6 (v := .int .i64 0) rfl
  have fz0 := blk_frozen k1 0
  have fz1 := blk_frozen k1 1
  have fz2 := blk_frozen k1 2
  have fz3 := blk_frozen k1 3
  have fz4 := blk_frozen k1 4
  have fz5 := blk_frozen k1 5
  have fz6 := blk_frozen k1 6
  clear hS HL HLB HN HB0 h2 h3
  obtain ⟨Y, hY⟩ : ∃ u, u = stores X3 (w.heap.size + 1) 0 [.slice a0 n0 c0, .int .i64 t, .slice none 0 0, .slice r (n3 + 1) d, .slice a4 n4 c4, .int .i64 la, .int .i64 up] := ⟨_, rfl⟩
  have S : Off (fun b => b = w.heap.size + 1) X3 Y := by rw [hY]; exact stores_off (F := fun b => b = w.heap.size + 1) _ _ _ _ rfl
  have zY : Y.heap.size = X3.heap.size := by rw [hY]; exact stores_size _ _ _ _
  have HY2 := Hid.mk (HO.out.trans (S.mono (F' := fun b => F3 b ∨ w.heap.size ≤ b) (fun b h => .inr (by have h2 : b = w.heap.size + 1 := h; omega))))
  have R : Hid (KRet (.returned (.tuple #[.agg #[.slice a0 n0 c0, .int .i64 t, .slice none 0 0, .slice r (n3 + 1) d, .slice a4 n4 c4, .int .i64 la, .int .i64 up], .bool true])) w Y F true (src, t, [], ps ++ [(la + (n3 : Int) + 1, t, pd)], ou, la, up)) := Hid.mk
    ⟨a0, n0, c0, none, 0, 0, r, n3 + 1, d, a4, n4, c4, rfl, RSink.own_mk (F0 := F0) (F2 := fun _ => False) (F3 := fun b => (F3 b ∨ F2 b) ∨ (w.heap.size ≤ b ∧ b < Y.heap.size)) (F4 := F4)
      (RInts.ownOff h0 HY2.out (fun b k q => q.elim (d03 b k) (fun q => by have := hF b (f0 b k); omega)))
      (RInts.void _ _)
      ⟨r, n3 + 1, d, _, _, rfl, (HLD.out.frame (fun b k hb => (S.block b hb (fun e => HLN.out b k (.inr e))))).mono (fun b h => h.elim .inl (fun q => .inr ⟨by omega, by omega⟩))⟩
      (RInts.ownOff h4 HY2.out (fun b k q => q.elim (fun q => d34 b q k) (fun q => by have := hF b (f4 b k); omega)))
      (fun b h => .inl (f0 b h)) (fun _ h => h.elim) (fun b h => h.elim (fun h => .inl (h.elim (f3 b) (f2 b))) .inr) (fun b h => .inl (f4 b h)) (fun _ _ h => h.elim) (fun b h k => k.elim (fun k => k.elim (d03 b h) (d02 b h)) (fun k => by have := hF b (f0 b h); omega)) d04 (fun _ h => h.elim) (fun _ h => h.elim) (fun b h k => h.elim (fun h => h.elim (fun h => d34 b h k) (fun h => d24 b h k)) (fun h => by have := hF b (f4 b k); omega)),
      Off.cut (HY2.out.mono (fun b h => h.elim (fun h => .inl (f3 b h)) .inr))⟩
  have HY := Hid.mk hY
  clear S hY zY HO HON k0 k1
  go_wp2
  refine bodyPost_ret (v := .tuple #[.agg #[.slice a0 n0 c0, .int .i64 t, .slice none 0 0, .slice r (n3 + 1) d, .slice a4 n4 c4, .int .i64 la, .int .i64 up], .bool true]) (by simp [results, Try.results26, go_sem, y0, y1, y2, y3, y4, y5, y6]) rfl ?_
  have h := R.out
  rw [HY.out] at h
  exact h

end Go.Proofs.Ytmbjmmnodcebbaa

/- Contract of the program's again, over whatever step. -/
namespace Go.Proofs.Ytmbjmmnodcebbaa
open Go.RowKit

/-- A step as often as it can be done, n times at most: what comes of it, and how often. -/
def itK (f : TSink → TSink × Bool) : Nat → TSink → TSink × Nat
  | 0, x => (x, 0)
  | n + 1, x => if (f x).2 then ((itK f n (f x).1).1, (itK f n (f x).1).2 + 1) else (x, 0)
theorem itK_no {f : TSink → TSink × Bool} {x : TSink} {n : Nat} (h : (f x).2 = false) : itK f n x = (x, 0) := by
  cases n with
  | zero => rfl
  | succ n => unfold itK; rw [h]; rfl
theorem itK_yes {f : TSink → TSink × Bool} {x : TSink} {n : Nat} (h : (f x).2 = true) : itK f (n + 1) x = ((itK f n (f x).1).1, (itK f n (f x).1).2 + 1) := by
  show (if (f x).2 then _ else _) = _
  rw [h]; rfl
/-- A sink and a number. -/
def ARet (e : Ending) (w w' : World) (F : Nat → Prop) (k : Int) (x : TSink) : Prop :=
  ∃ r0 m0 d0 r2 m2 d2 r3 m3 d3 r4 m4 d4, e = .returned (.tuple #[.agg #[.slice r0 m0 d0, .int .i64 x.2.1, .slice r2 m2 d2, .slice r3 m3 d3, .slice r4 m4 d4, .int .i64 x.2.2.2.2.2.1, .int .i64 x.2.2.2.2.2.2], .int .i64 k]) ∧
    RSink.Own w' (Gr F w w') [.slice r0 m0 d0, .int .i64 x.2.1, .slice r2 m2 d2, .slice r3 m3 d3, .slice r4 m4 d4, .int .i64 x.2.2.2.2.2.1, .int .i64 x.2.2.2.2.2.2] x ∧ Off F w w'
/-- What a step's function does with a sink that it is handed for good. -/
def StepK (g : Nat) (f : TSink → TSink × Bool) (P : TSink → Prop) : Prop := ∀ (F : Nat → Prop) (a0 : Option Addr) (n0 c0 : Nat) (a2 : Option Addr) (n2 c2 : Nat) (a3 : Option Addr) (n3 c3 : Nat) (a4 : Option Addr) (n4 c4 : Nat) (t la up : Int) (src pd : List Int) (ps : List TPrepared) (ou : List Int) (w : World),
  P (src, t, pd, ps, ou, la, up) → (∀ b, F b → b < w.heap.size) → RSink.Own w F [.slice a0 n0 c0, .int .i64 t, .slice a2 n2 c2, .slice a3 n3 c3, .slice a4 n4 c4, .int .i64 la, .int .i64 up] (src, t, pd, ps, ou, la, up) →
    Calls Try.prog g #[.agg #[.slice a0 n0 c0, .int .i64 t, .slice a2 n2 c2, .slice a3 n3 c3, .slice a4 n4 c4, .int .i64 la, .int .i64 up]] w fun e w' => KRet e w w' F (f (src, t, pd, ps, ou, la, up)).2 (f (src, t, pd, ps, ou, la, up)).1 ∧ ((f (src, t, pd, ps, ou, la, up)).2 = false → Below w.heap.size w w')

set_option maxRecDepth 100000 in
set_option maxHeartbeats 8000000 in
theorem again_any (g : Nat) (f : TSink → TSink × Bool) (P : TSink → Prop) (μ : TSink → Nat) (eg : ∀ args w, (callFunc g args).run Try.prog w = .ok (.enter g args) w) (hst : StepK g f P) (hP : ∀ x, P x → (f x).2 = true → P (f x).1 ∧ μ (f x).1 + 1 = μ x)
    (F : Nat → Prop) (a0 : Option Addr) (n0 c0 : Nat) (a2 : Option Addr) (n2 c2 : Nat) (a3 : Option Addr) (n3 c3 : Nat) (a4 : Option Addr) (n4 c4 : Nat) (t la up : Int) (src pd : List Int) (ps : List TPrepared) (ou : List Int) (w : World) (hp : P (src, t, pd, ps, ou, la, up)) (hM : μ (src, t, pd, ps, ou, la, up) ≤ 1000) (hF : ∀ b, F b → b < w.heap.size) (ho : RSink.Own w F [.slice a0 n0 c0, .int .i64 t, .slice a2 n2 c2, .slice a3 n3 c3, .slice a4 n4 c4, .int .i64 la, .int .i64 up] (src, t, pd, ps, ou, la, up)) :
    Calls Try.prog 39 #[.agg #[.slice a0 n0 c0, .int .i64 t, .slice a2 n2 c2, .slice a3 n3 c3, .slice a4 n4 c4, .int .i64 la, .int .i64 up], .func (.func g) #[] #[]] w fun e w' => ARet e w w' F ((itK f (μ (src, t, pd, ps, ou, la, up)) (src, t, pd, ps, ou, la, up)).2 : Nat) (itK f (μ (src, t, pd, ps, ou, la, up)) (src, t, pd, ps, ou, la, up)).1 := by
  obtain ⟨W, hW⟩ : ∃ W, W = (w.alloc (.cells #[.slice a0 n0 c0, .int .i64 t, .slice a2 n2 c2, .slice a3 n3 c3, .slice a4 n4 c4, .int .i64 la, .int .i64 up] 29)).alloc (.cells #[.slice none 0 0, .int .i64 0, .slice none 0 0, .slice none 0 0, .slice none 0 0, .int .i64 0, .int .i64 0] 29) := ⟨_, rfl⟩
  have B0 : Below w.heap.size w W := by rw [hW]; exact ((Below.refl _ _).alloc (Nat.le_refl _) _).alloc (by simp) _
  have b0 : W.heap[w.heap.size]? = some (.cells #[.slice a0 n0 c0, .int .i64 t, .slice a2 n2 c2, .slice a3 n3 c3, .slice a4 n4 c4, .int .i64 la, .int .i64 up] 29 (0, 0)) := by rw [hW]; exact blk_alloc (heap_alloc_new w _) _
  have b1 : W.heap[w.heap.size + 1]? = some (.cells #[.slice none 0 0, .int .i64 0, .slice none 0 0, .slice none 0 0, .slice none 0 0, .int .i64 0, .int .i64 0] 29 (0, 0)) := by
    rw [hW]
    have q := heap_alloc_new (w.alloc (.cells #[.slice a0 n0 c0, .int .i64 t, .slice a2 n2 c2, .slice a3 n3 c3, .slice a4 n4 c4, .int .i64 la, .int .i64 up] 29)) (.cells #[.slice none 0 0, .int .i64 0, .slice none 0 0, .slice none 0 0, .slice none 0 0, .int .i64 0, .int .i64 0] 29)
    simpa only [World.size_alloc] using q
  have zW : W.heap.size = w.heap.size + 2 := by rw [hW]; simp
  obtain ⟨M, hMM⟩ : ∃ M, μ (src, t, pd, ps, ou, la, up) = M := ⟨_, rfl⟩
  obtain ⟨XX, hXX⟩ : ∃ x, (itK f (μ (src, t, pd, ps, ou, la, up)) (src, t, pd, ps, ou, la, up)).1 = x := ⟨_, rfl⟩
  obtain ⟨XK, hXK⟩ : ∃ x, (itK f (μ (src, t, pd, ps, ou, la, up)) (src, t, pd, ps, ou, la, up)).2 = x := ⟨_, rfl⟩
  rw [hXX, hXK]
  have hM2 : M ≤ 1000 := by omega
  have HMM := Hid.mk hMM
  have HXX := Hid.mk hXX
  have HXK := Hid.mk hXK
  have HST := Hid.mk hst
  have HP := Hid.mk hP
  have HPX := Hid.mk hp
  have HOX := Hid.mk (RSink.ownBelow ho B0)
  clear hMM hXX hXK hM hst hP hp ho
  go_enter Try.func39, Try.ntmps39
  go_upto_region 1 with fail
  rw [← hW]
  clear hW
  go_wp2_with fail
  go_loopw [6] (fun i wr => ∃ (j : Nat) (ysrc : List Int) (yt : Int) (ypd : List Int) (yps : List TPrepared) (you : List Int) (yl yu : Int) (G : Nat → Prop) (b0 : Option Addr) (l0 k0 : Nat) (b2 : Option Addr) (l2 k2 : Nat) (b3 : Option Addr) (l3 k3 : Nat) (b4 : Option Addr) (l4 k4 : Nat),
    i = .int .i64 j ∧ wr.heap[w.heap.size]? = some (.cells #[.slice b0 l0 k0, .int .i64 yt, .slice b2 l2 k2, .slice b3 l3 k3, .slice b4 l4 k4, .int .i64 yl, .int .i64 yu] 29 (0, 0)) ∧ wr.heap[w.heap.size + 1]? = some (.cells #[.slice none 0 0, .int .i64 0, .slice none 0 0, .slice none 0 0, .slice none 0 0, .int .i64 0, .int .i64 0] 29 (0, 0)) ∧ RSink.Own wr G [.slice b0 l0 k0, .int .i64 yt, .slice b2 l2 k2, .slice b3 l3 k3, .slice b4 l4 k4, .int .i64 yl, .int .i64 yu] (ysrc, yt, ypd, yps, you, yl, yu) ∧ P (ysrc, yt, ypd, yps, you, yl, yu) ∧ (itK f (μ (ysrc, yt, ypd, yps, you, yl, yu)) (ysrc, yt, ypd, yps, you, yl, yu)).1 = XX ∧ j + (itK f (μ (ysrc, yt, ypd, yps, you, yl, yu)) (ysrc, yt, ypd, yps, you, yl, yu)).2 = XK ∧ j + μ (ysrc, yt, ypd, yps, you, yl, yu) = M ∧
    (∀ b, G b → F b ∨ (w.heap.size + 2 ≤ b ∧ b < wr.heap.size)) ∧ Off F w wr ∧ w.heap.size + 2 ≤ wr.heap.size) (fun i _ => 1001 - (intOf i).toNat)
  case atStart => exact ⟨0, src, t, pd, ps, ou, la, up, F, a0, n0, c0, a2, n2, c2, a3, n3, c3, a4, n4, c4, rfl, b0, b1, HOX.out, HPX.out, HXX.out, by rw [HXK.out]; omega, by rw [HMM.out]; omega, fun b h => .inl h, Off.below B0, by omega⟩
  case round =>
    obtain ⟨j, ysrc, yt, ypd, yps, you, yl, yu, G, b0, l0, k0, b2, l2, k2, b3, l3, k3, b4, l4, k4, rfl, e0, e1, hoy, hpy, hx, hk, hj, hgf, hof, hz⟩ := hrel
    obtain ⟨wY, rfl⟩ : ∃ x, x = wr := ⟨_, rfl⟩
    have hG : ∀ b, G b → b < wY.heap.size := fun b h => (hgf b h).elim (fun q => by have := hF b q; omega) (fun q => q.2)
    obtain ⟨⟨zsrc, zt, zpd, zps, zou, zl, zu⟩, hz1⟩ : ∃ z, (f (ysrc, yt, ypd, yps, you, yl, yu)).1 = z := ⟨_, rfl⟩
    obtain ⟨OK, hok⟩ : ∃ b, (f (ysrc, yt, ypd, yps, you, yl, yu)).2 = b := ⟨_, rfl⟩
    have KS := Hid.mk (HST.out G b0 l0 k0 b2 l2 k2 b3 l3 k3 b4 l4 k4 yt yl yu ysrc ypd yps you wY hpy hG hoy)
    rw [hz1, hok] at KS
    have hj1 : IntKind.i64.wrap ((j : Int) + 1) = ((j + 1 : Nat) : Int) := by rw [IntWalk.i64_in _ (by omega)]; omega
    have HPY := Hid.mk (HP.out _ hpy)
    rw [hz1, hok] at HPY
    have HX := Hid.mk hx
    have HK := Hid.mk hk
    have HJ := Hid.mk hj
    have HGF := Hid.mk hgf
    have HOF := Hid.mk hof
    have HOK := Hid.mk hok
    have HZ1 := Hid.mk hz1
    have HHG := Hid.mk hG
    have HOYY := Hid.mk hoy
    have p0 := blk_cell e0 0 (v := .slice b0 l0 k0) rfl
    have p1 := blk_cell e0 1 (v := .int .i64 yt) rfl
    have p2 := blk_cell e0 2 (v := .slice b2 l2 k2) rfl
    have p3 := blk_cell e0 3 (v := .slice b3 l3 k3) rfl
    have p4 := blk_cell e0 4 (v := .slice b4 l4 k4) rfl
    have p5 := blk_cell e0 5 (v := .int .i64 yl) rfl
    have p6 := blk_cell e0 6 (v := .int .i64 yu) rfl
    clear hx hk hj hgf hof hok hz1 hpy hG hoy
    go_wp2_with fail
    refine KS.out.mono ?_
    rintro e w1 ⟨⟨r0, m0, d0, r2, m2, d2, r3, m3, d3, r4, m4, d4, rfl, ho1, hO1⟩, hbel⟩
    have HBEL := Hid.mk hbel
    simp only at ho1
    have hnG : ∀ b, w.heap.size ≤ b → b < w.heap.size + 2 → ¬ G b := fun b h1 h2 h => (HGF.out b h).elim (fun q => by have := hF b q; omega) (fun q => by omega)
    have e0 := (hO1.block w.heap.size (by omega) (hnG _ (by omega) (by omega))).trans e0
    have e1 := (hO1.block (w.heap.size + 1) (by omega) (hnG _ (by omega) (by omega))).trans e1
    have z1 := hO1.size
    have HB1 := Hid.mk hO1
    have HO1 := Hid.mk ho1
    clear ho1 hO1 hnG hbel KS p0 p1 p2 p3 p4 p5 p6
    obtain ⟨X, hX⟩ : ∃ u, u = w1.alloc (.cells #[.slice r0 m0 d0, .int .i64 zt, .slice r2 m2 d2, .slice r3 m3 d3, .slice r4 m4 d4, .int .i64 zl, .int .i64 zu] 29) := ⟨_, rfl⟩
    have bX : Below w1.heap.size w1 X := by rw [hX]; exact (Below.refl _ _).alloc (Nat.le_refl _) _
    have x0 : X.heap[w1.heap.size]? = some (.cells #[.slice r0 m0 d0, .int .i64 zt, .slice r2 m2 d2, .slice r3 m3 d3, .slice r4 m4 d4, .int .i64 zl, .int .i64 zu] 29 (0, 0)) := by rw [hX]; exact heap_alloc_new w1 _
    have e0 := blk_below e0 bX
    have e1 := blk_below e1 bX
    have zX := bX.size
    have zX2 : w1.heap.size < X.heap.size := by rw [hX]; simp
    go_upto_region 4 with fail
    (try simp only)
    rw [← hX]
    clear hX
    cases OK with
    | false =>
      have HOY := Hid.mk (RSink.ownBelow HOYY.out (HBEL.out rfl))
      have HNO := HOK
      have p0 := blk_cell e0 0 (v := .slice b0 l0 k0) rfl
      have p1 := blk_cell e0 1 (v := .int .i64 yt) rfl
      have p2 := blk_cell e0 2 (v := .slice b2 l2 k2) rfl
      have p3 := blk_cell e0 3 (v := .slice b3 l3 k3) rfl
      have p4 := blk_cell e0 4 (v := .slice b4 l4 k4) rfl
      have p5 := blk_cell e0 5 (v := .int .i64 yl) rfl
      have p6 := blk_cell e0 6 (v := .int .i64 yu) rfl
      have y0 := blk_cell e1 0 (v := .slice none 0 0) rfl
      have y1 := blk_cell e1 1 (v := .int .i64 0) rfl
      have y2 := blk_cell e1 2 (v := .slice none 0 0) rfl
      have y3 := blk_cell e1 3 (v := .slice none 0 0) rfl
      have y4 := blk_cell e1 4 (v := .slice none 0 0) rfl
      have y5 := blk_cell e1 5 (v := .int .i64 0) rfl
      have y6 := blk_cell e1 6 (v := .int .i64 0) rfl
      have fz0 := blk_frozen e1 0
      have fz1 := blk_frozen e1 1
      have fz2 := blk_frozen e1 2
      have fz3 := blk_frozen e1 3
      have fz4 := blk_frozen e1 4
      have fz5 := blk_frozen e1 5
      have fz6 := blk_frozen e1 6
      obtain ⟨Y, hY⟩ : ∃ u, u = stores X (w.heap.size + 1) 0 [.slice b0 l0 k0, .int .i64 yt, .slice b2 l2 k2, .slice b3 l3 k3, .slice b4 l4 k4, .int .i64 yl, .int .i64 yu] := ⟨_, rfl⟩
      have S : Off (fun b => b = w.heap.size + 1) X Y := by rw [hY]; exact stores_off (F := fun b => b = w.heap.size + 1) _ _ _ _ rfl
      have zY : Y.heap.size = X.heap.size := by rw [hY]; exact stores_size _ _ _ _
      have D : Off F w Y := by rw [hY]; exact Off.cut ((HOF.out.mono (fun b h => .inl h)).trans ((HB1.out.mono (fun b h => (HGF.out b h).elim .inl (fun h => .inr (by omega)))).trans ((Off.below (F := fun b => F b ∨ w.heap.size ≤ b) bX).trans (stores_off (F := fun b => F b ∨ w.heap.size ≤ b) _ _ _ _ (.inr (by omega))))))
      have R : Hid (ARet (.returned (.tuple #[.agg #[.slice b0 l0 k0, .int .i64 yt, .slice b2 l2 k2, .slice b3 l3 k3, .slice b4 l4 k4, .int .i64 yl, .int .i64 yu], .int .i64 (j : Nat)])) w Y F (XK : Nat) XX) := Hid.mk (by
        have e1 : XX = (ysrc, yt, ypd, yps, you, yl, yu) := by rw [← HX.out, itK_no HNO.out]
        have e2 : (j : Nat) = XK := by have q := HK.out; rw [itK_no HNO.out] at q; simpa using q
        rw [e1, ← e2]
        exact ⟨b0, l0, k0, b2, l2, k2, b3, l3, k3, b4, l4, k4, rfl, RSink.mono (RSink.ownOff (RSink.ownBelow HOY.out bX) S (fun b h e => by have h2 : b = w.heap.size + 1 := e; rcases HGF.out b h with q | q; have := hF b q; omega; omega)) (fun b h => (HGF.out b h).elim .inl (fun q => .inr ⟨by omega, by omega⟩)), D⟩)
      clear D
      have HY := Hid.mk hY
      clear S hY zY HO1 HPY HBEL
      go_wp2
      refine bodyPost_ret (v := .tuple #[.agg #[.slice b0 l0 k0, .int .i64 yt, .slice b2 l2 k2, .slice b3 l3 k3, .slice b4 l4 k4, .int .i64 yl, .int .i64 yu], .int .i64 (j : Nat)]) (by simp [results, Try.results39, go_sem, y0, y1, y2, y3, y4, y5, y6]) rfl ?_
      have h := R.out
      rw [HY.out] at h
      exact h
    | true =>
      obtain ⟨hpz, hmz⟩ := HPY.out rfl
      have p0 := blk_cell x0 0 (v := .slice r0 m0 d0) rfl
      have p1 := blk_cell x0 1 (v := .int .i64 zt) rfl
      have p2 := blk_cell x0 2 (v := .slice r2 m2 d2) rfl
      have p3 := blk_cell x0 3 (v := .slice r3 m3 d3) rfl
      have p4 := blk_cell x0 4 (v := .slice r4 m4 d4) rfl
      have p5 := blk_cell x0 5 (v := .int .i64 zl) rfl
      have p6 := blk_cell x0 6 (v := .int .i64 zu) rfl
      have y0 := blk_cell e0 0 (v := .slice b0 l0 k0) rfl
      have y1 := blk_cell e0 1 (v := .int .i64 yt) rfl
      have y2 := blk_cell e0 2 (v := .slice b2 l2 k2) rfl
      have y3 := blk_cell e0 3 (v := .slice b3 l3 k3) rfl
      have y4 := blk_cell e0 4 (v := .slice b4 l4 k4) rfl
      have y5 := blk_cell e0 5 (v := .int .i64 yl) rfl
      have y6 := blk_cell e0 6 (v := .int .i64 yu) rfl
      have fz0 := blk_frozen e0 0
      have fz1 := blk_frozen e0 1
      have fz2 := blk_frozen e0 2
      have fz3 := blk_frozen e0 3
      have fz4 := blk_frozen e0 4
      have fz5 := blk_frozen e0 5
      have fz6 := blk_frozen e0 6
      obtain ⟨X2, hX2⟩ : ∃ u, u = (((((((X.setCell ⟨w.heap.size, 0, none⟩ (.slice r0 m0 d0)).setCell ⟨w.heap.size, 1, none⟩ (.int .i64 zt)).setCell ⟨w.heap.size, 2, none⟩ (.slice r2 m2 d2)).setCell ⟨w.heap.size, 3, none⟩ (.slice r3 m3 d3)).setCell ⟨w.heap.size, 4, none⟩ (.slice r4 m4 d4)).setCell ⟨w.heap.size, 5, none⟩ (.int .i64 zl)).setCell ⟨w.heap.size, 6, none⟩ (.int .i64 zu)) := ⟨_, rfl⟩
      have e0' : X2.heap[w.heap.size]? = some (.cells #[.slice r0 m0 d0, .int .i64 zt, .slice r2 m2 d2, .slice r3 m3 d3, .slice r4 m4 d4, .int .i64 zl, .int .i64 zu] 29 (0, 0)) := by rw [hX2]; exact (blk_set (blk_set (blk_set (blk_set (blk_set (blk_set (blk_set e0 0 _) 1 _) 2 _) 3 _) 4 _) 5 _) 6 _)
      have e1' : X2.heap[w.heap.size + 1]? = some (.cells #[.slice none 0 0, .int .i64 0, .slice none 0 0, .slice none 0 0, .slice none 0 0, .int .i64 0, .int .i64 0] 29 (0, 0)) := by rw [hX2]; exact (blk_other (blk_other (blk_other (blk_other (blk_other (blk_other (blk_other e1 (by simp) _) (by simp) _) (by simp) _) (by simp) _) (by simp) _) (by simp) _) (by simp) _)
      have hS2 : Off (fun b => b = w.heap.size) X X2 := by rw [hX2]; exact stores_off (F := fun b => b = w.heap.size) X w.heap.size 0 [.slice r0 m0 d0, .int .i64 zt, .slice r2 m2 d2, .slice r3 m3 d3, .slice r4 m4 d4, .int .i64 zl, .int .i64 zu] rfl
      have z2 : X2.heap.size = X.heap.size := by rw [hX2]; exact stores_size X w.heap.size 0 [.slice r0 m0 d0, .int .i64 zt, .slice r2 m2 d2, .slice r3 m3 d3, .slice r4 m4 d4, .int .i64 zl, .int .i64 zu]
      have HREL : Hid (∃ (ysrc : List Int) (yt : Int) (ypd : List Int) (yps : List TPrepared) (you : List Int) (yl yu : Int) (G : Nat → Prop) (b0 : Option Addr) (l0 k0 : Nat) (b2 : Option Addr) (l2 k2 : Nat) (b3 : Option Addr) (l3 k3 : Nat) (b4 : Option Addr) (l4 k4 : Nat),
        X2.heap[w.heap.size]? = some (.cells #[.slice b0 l0 k0, .int .i64 yt, .slice b2 l2 k2, .slice b3 l3 k3, .slice b4 l4 k4, .int .i64 yl, .int .i64 yu] 29 (0, 0)) ∧ X2.heap[w.heap.size + 1]? = some (.cells #[.slice none 0 0, .int .i64 0, .slice none 0 0, .slice none 0 0, .slice none 0 0, .int .i64 0, .int .i64 0] 29 (0, 0)) ∧ RSink.Own X2 G [.slice b0 l0 k0, .int .i64 yt, .slice b2 l2 k2, .slice b3 l3 k3, .slice b4 l4 k4, .int .i64 yl, .int .i64 yu] (ysrc, yt, ypd, yps, you, yl, yu) ∧ P (ysrc, yt, ypd, yps, you, yl, yu) ∧ (itK f (μ (ysrc, yt, ypd, yps, you, yl, yu)) (ysrc, yt, ypd, yps, you, yl, yu)).1 = XX ∧ (j + 1) + (itK f (μ (ysrc, yt, ypd, yps, you, yl, yu)) (ysrc, yt, ypd, yps, you, yl, yu)).2 = XK ∧ (j + 1) + μ (ysrc, yt, ypd, yps, you, yl, yu) = M ∧
        (∀ b, G b → F b ∨ (w.heap.size + 2 ≤ b ∧ b < X2.heap.size)) ∧ Off F w X2 ∧ w.heap.size + 2 ≤ X2.heap.size) := Hid.mk (by
        have hx := HX.out
        have hk := HK.out
        have hj := HJ.out
        rw [← hmz, itK_yes HOK.out, HZ1.out] at hx hk
        rw [← hmz] at hj
        refine ⟨zsrc, zt, zpd, zps, zou, zl, zu, Gr G wY w1, r0, m0, d0, r2, m2, d2, r3, m3, d3, r4, m4, d4, e0', e1', ?_, hpz, hx, by rw [← hk]; simp only; omega, by omega, ?_, ?_, by omega⟩
        · exact RSink.ownOff (RSink.ownBelow HO1.out bX) hS2 (fun b h e => by
            have h2 : b = w.heap.size := e
            rcases h with h | h
            · exact (HGF.out b h).elim (fun q => by have := hF b q; omega) (fun q => by omega)
            · have := h.1; omega)
        · intro b h
          rcases h with h | h
          · exact (HGF.out b h).imp id (fun q => ⟨q.1, by omega⟩)
          · exact .inr ⟨by have := h.1; omega, by have := h.2; omega⟩
        · exact Off.cut ((((HOF.out.mono (fun b h => .inl h)).trans (HB1.out.mono (fun b h => (HGF.out b h).elim .inl (fun h => .inr (by omega))))).trans (Off.below (F := fun b => F b ∨ w.heap.size ≤ b) bX)).trans (hS2.mono (fun b e => .inr (by have h2 : b = w.heap.size := e; omega)))))
      have HJJ : Hid (j + 1 ≤ 1000) := Hid.mk (by have := HJ.out; omega)
      clear hpz hmz e0' e1' hS2 z2 HOK HZ1 HX HK HPY HBEL HOYY
      go_upto_region 2 with fail
      rw [← hX2]
      clear hX2
      go_wp2
      go_roundw
      case rel =>
        obtain ⟨ysrc, yt, ypd, yps, you, yl, yu, G, b0, l0, k0, b2, l2, k2, b3, l3, k3, b4, l4, k4, q1, q2, q3, q4, q5, q6, q7, q8, q9, q10⟩ := HREL.out
        exact ⟨j + 1, ysrc, yt, ypd, yps, you, yl, yu, G, b0, l0, k0, b2, l2, k2, b3, l3, k3, b4, l4, k4, by go_num, q1, q2, q3, q4, q5, q6, q7, q8, q9, q10⟩
      case measure => have := HJJ.out; simp [intOf]; omega

end Go.Proofs.Ytmbjmmnodcebbaa
