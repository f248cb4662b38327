/- Contracts of the model's l16Step at SinkPrepare, over a stored list that was cut. -/
import Derived.Test.YtmbjmmnodcebbaaM14
import Derived.Test.YtmbjmmnodcebbaaM16
namespace Go.Proofs.Ytmbjmmnodcebbaa
open Go.RowKit

set_option maxRecDepth 100000 in
set_option maxHeartbeats 2000000 in
theorem step2g_no (a0 : Option Addr) (n0 c0 : Nat) (a2 : Option Addr) (n2 c2 : Nat) (e3 : Option Addr) (m3 i3 : Nat) (a4 : Option Addr) (n4 c4 : Nat) (t la up : Int) (w : World) (hc : n2 = 0 ∨ m3 = 4 ∨ 1000 < la + (m3 : Int) + 1) (h34 : m3 ≤ 4) (hl0 : 0 ≤ la) (hl1 : la ≤ 1000) :
    Calls Try.prog 26 #[.agg #[.slice a0 n0 c0, .int .i64 t, .slice a2 n2 c2, .slice e3 m3 i3, .slice a4 n4 c4, .int .i64 la, .int .i64 up], .int .i64 2] w fun e w' => SameRet e w w' #[.slice a0 n0 c0, .int .i64 t, .slice a2 n2 c2, .slice e3 m3 i3, .slice a4 n4 c4, .int .i64 la, .int .i64 up] := by
  obtain ⟨W, hW⟩ : ∃ W, W = (w.alloc (.cells #[.slice a0 n0 c0, .int .i64 t, .slice a2 n2 c2, .slice e3 m3 i3, .slice a4 n4 c4, .int .i64 la, .int .i64 up] 29)).alloc (.cells #[.slice none 0 0, .int .i64 0, .slice none 0 0, .slice none 0 0, .slice none 0 0, .int .i64 0, .int .i64 0] 29) := ⟨_, rfl⟩
  have B0 : Below w.heap.size w W := by rw [hW]; exact ((Below.refl _ _).alloc (Nat.le_refl _) _).alloc (by simp) _
  have b0 : W.heap[w.heap.size]? = some (.cells #[.slice a0 n0 c0, .int .i64 t, .slice a2 n2 c2, .slice e3 m3 i3, .slice a4 n4 c4, .int .i64 la, .int .i64 up] 29 (0, 0)) := by rw [hW]; exact blk_alloc (heap_alloc_new w _) _
  have b1 : W.heap[w.heap.size + 1]? = some (.cells #[.slice none 0 0, .int .i64 0, .slice none 0 0, .slice none 0 0, .slice none 0 0, .int .i64 0, .int .i64 0] 29 (0, 0)) := by
    rw [hW]
    have q := heap_alloc_new (w.alloc (.cells #[.slice a0 n0 c0, .int .i64 t, .slice a2 n2 c2, .slice e3 m3 i3, .slice a4 n4 c4, .int .i64 la, .int .i64 up] 29)) (.cells #[.slice none 0 0, .int .i64 0, .slice none 0 0, .slice none 0 0, .slice none 0 0, .int .i64 0, .int .i64 0] 29)
    simpa only [World.size_alloc] using q
  have zW : W.heap.size = w.heap.size + 2 := by rw [hW]; simp
  have p0 := blk_cell b0 0 (v := .slice a0 n0 c0) rfl
  have p1 := blk_cell b0 1 (v := .int .i64 t) rfl
  have p2 := blk_cell b0 2 (v := .slice a2 n2 c2) rfl
  have p3 := blk_cell b0 3 (v := .slice e3 m3 i3) rfl
  have p4 := blk_cell b0 4 (v := .slice a4 n4 c4) rfl
  have p5 := blk_cell b0 5 (v := .int .i64 la) rfl
  have p6 := blk_cell b0 6 (v := .int .i64 up) rfl
  have y0 := blk_cell b1 0 (v := .slice none 0 0) rfl
  have y1 := blk_cell b1 1 (v := .int .i64 0) rfl
  have y2 := blk_cell b1 2 (v := .slice none 0 0) rfl
  have y3 := blk_cell b1 3 (v := .slice none 0 0) rfl
  have y4 := blk_cell b1 4 (v := .slice none 0 0) rfl
  have y5 := blk_cell b1 5 (v := .int .i64 0) rfl
  have y6 := blk_cell b1 6 (v := .int .i64 0) rfl
  have fz0 := blk_frozen b1 0
  have fz1 := blk_frozen b1 1
  have fz2 := blk_frozen b1 2
  have fz3 := blk_frozen b1 3
  have fz4 := blk_frozen b1 4
  have fz5 := blk_frozen b1 5
  have fz6 := blk_frozen b1 6
  have hw1 : IntKind.i64.wrap (la + (m3 : Int)) = la + (m3 : Int) := IntWalk.i64_in _ (by omega)
  have hw2 : IntKind.i64.wrap (la + (m3 : Int) + 1) = la + (m3 : Int) + 1 := IntWalk.i64_in _ (by omega)
  by_cases h20 : n2 = 0
  · have hb2 : ((n2 : Int) == 0) = true := beq_iff_eq.2 (by omega)
    clear hc h34 hl0 hl1 h20
    go_enter Try.func26, Try.ntmps26
    go_upto_region 1 with fail
    rw [← hW]
    clear hW
    go_upto_region 11 with fail
    obtain ⟨Y, hY⟩ : ∃ u, u = stores W (w.heap.size + 1) 0 [.slice a0 n0 c0, .int .i64 t, .slice a2 n2 c2, .slice e3 m3 i3, .slice a4 n4 c4, .int .i64 la, .int .i64 up] := ⟨_, rfl⟩
    have S : Off (fun b => b = w.heap.size + 1) W Y := by rw [hY]; exact stores_off (F := fun b => b = w.heap.size + 1) _ _ _ _ rfl
    have zY : Y.heap.size = W.heap.size := by rw [hY]; exact stores_size _ _ _ _
    have D : Below w.heap.size w Y := by rw [hY]; exact stores_below _ _ _ _ B0 (by omega)
    have R : Hid (SameRet (.returned (.tuple #[.agg #[.slice a0 n0 c0, .int .i64 t, .slice a2 n2 c2, .slice e3 m3 i3, .slice a4 n4 c4, .int .i64 la, .int .i64 up], .bool false])) w Y #[.slice a0 n0 c0, .int .i64 t, .slice a2 n2 c2, .slice e3 m3 i3, .slice a4 n4 c4, .int .i64 la, .int .i64 up]) := Hid.mk ⟨rfl, D⟩
    have HY := Hid.mk hY
    clear S hY zY D b0 b1 B0 zW
    go_wp2
    refine bodyPost_ret (v := .tuple #[.agg #[.slice a0 n0 c0, .int .i64 t, .slice a2 n2 c2, .slice e3 m3 i3, .slice a4 n4 c4, .int .i64 la, .int .i64 up], .bool false]) (by simp [results, Try.results26, go_sem, y0, y1, y2, y3, y4, y5, y6]) rfl ?_
    have h := R.out
    rw [HY.out] at h
    exact h
  by_cases h44 : m3 = 4
  · have hb2 : ((n2 : Int) == 0) = false := beq_eq_false_iff_ne.2 (by omega)
    have hb4 : (4 : Int) ≤ (m3 : Int) := by omega
    clear hc h34 hl0 hl1 h20 h44
    go_enter Try.func26, Try.ntmps26
    go_upto_region 1 with fail
    rw [← hW]
    clear hW
    go_upto_region 11 with fail
    obtain ⟨Y, hY⟩ : ∃ u, u = stores W (w.heap.size + 1) 0 [.slice a0 n0 c0, .int .i64 t, .slice a2 n2 c2, .slice e3 m3 i3, .slice a4 n4 c4, .int .i64 la, .int .i64 up] := ⟨_, rfl⟩
    have S : Off (fun b => b = w.heap.size + 1) W Y := by rw [hY]; exact stores_off (F := fun b => b = w.heap.size + 1) _ _ _ _ rfl
    have zY : Y.heap.size = W.heap.size := by rw [hY]; exact stores_size _ _ _ _
    have D : Below w.heap.size w Y := by rw [hY]; exact stores_below _ _ _ _ B0 (by omega)
    have R : Hid (SameRet (.returned (.tuple #[.agg #[.slice a0 n0 c0, .int .i64 t, .slice a2 n2 c2, .slice e3 m3 i3, .slice a4 n4 c4, .int .i64 la, .int .i64 up], .bool false])) w Y #[.slice a0 n0 c0, .int .i64 t, .slice a2 n2 c2, .slice e3 m3 i3, .slice a4 n4 c4, .int .i64 la, .int .i64 up]) := Hid.mk ⟨rfl, D⟩
    have HY := Hid.mk hY
    clear S hY zY D b0 b1 B0 zW
    go_wp2
    refine bodyPost_ret (v := .tuple #[.agg #[.slice a0 n0 c0, .int .i64 t, .slice a2 n2 c2, .slice e3 m3 i3, .slice a4 n4 c4, .int .i64 la, .int .i64 up], .bool false]) (by simp [results, Try.results26, go_sem, y0, y1, y2, y3, y4, y5, y6]) rfl ?_
    have h := R.out
    rw [HY.out] at h
    exact h
  have hb2 : ((n2 : Int) == 0) = false := beq_eq_false_iff_ne.2 (by omega)
  have hb4 : ¬ (4 : Int) ≤ (m3 : Int) := by omega
  have hb5 : (1000 : Int) ≤ la + (m3 : Int) := by omega
  clear hc h34 hl0 hl1 h20 h44
  go_enter Try.func26, Try.ntmps26
  go_upto_region 1 with fail
  rw [← hW]
  clear hW
  go_upto_region 11 with fail
  obtain ⟨Y, hY⟩ : ∃ u, u = stores W (w.heap.size + 1) 0 [.slice a0 n0 c0, .int .i64 t, .slice a2 n2 c2, .slice e3 m3 i3, .slice a4 n4 c4, .int .i64 la, .int .i64 up] := ⟨_, rfl⟩
  have S : Off (fun b => b = w.heap.size + 1) W Y := by rw [hY]; exact stores_off (F := fun b => b = w.heap.size + 1) _ _ _ _ rfl
  have zY : Y.heap.size = W.heap.size := by rw [hY]; exact stores_size _ _ _ _
  have D : Below w.heap.size w Y := by rw [hY]; exact stores_below _ _ _ _ B0 (by omega)
  have R : Hid (SameRet (.returned (.tuple #[.agg #[.slice a0 n0 c0, .int .i64 t, .slice a2 n2 c2, .slice e3 m3 i3, .slice a4 n4 c4, .int .i64 la, .int .i64 up], .bool false])) w Y #[.slice a0 n0 c0, .int .i64 t, .slice a2 n2 c2, .slice e3 m3 i3, .slice a4 n4 c4, .int .i64 la, .int .i64 up]) := Hid.mk ⟨rfl, D⟩
  have HY := Hid.mk hY
  clear S hY zY D b0 b1 B0 zW
  go_wp2
  refine bodyPost_ret (v := .tuple #[.agg #[.slice a0 n0 c0, .int .i64 t, .slice a2 n2 c2, .slice e3 m3 i3, .slice a4 n4 c4, .int .i64 la, .int .i64 up], .bool false]) (by simp [results, Try.results26, go_sem, y0, y1, y2, y3, y4, y5, y6]) rfl ?_
  have h := R.out
  rw [HY.out] at h
  exact h

set_option maxRecDepth 100000 in
set_option maxHeartbeats 2000000 in
theorem step2g_yes (F : Nat → Prop) (a0 : Option Addr) (n0 c0 : Nat) (a2 : Option Addr) (n2 c2 : Nat) (g n3 c3 m k3 : Nat) (a4 : Option Addr) (n4 c4 : Nat) (t la up : Int) (src pd : List Int) (ps : List TPrepared) (ou : List Int) (w : World) (hF : ∀ b, F b → b < w.heap.size) (h2p : 0 < n2) (hm0 : m = 0) (hk3 : 0 < k3) (hnk : n3 + 1 ≤ c3) (h34 : n3 ≤ 1000) (hl0 : 0 ≤ la) (hl1 : la + (m : Int) + 1 ≤ 1000) (ho : RSink.Own w F [.slice a0 n0 c0, .int .i64 t, .slice a2 n2 c2, .slice (some ⟨g, 0, none⟩ : Option Addr) n3 c3, .slice a4 n4 c4, .int .i64 la, .int .i64 up] (src, t, pd, ps, ou, la, up)) :
    Calls Try.prog 26 #[.agg #[.slice a0 n0 c0, .int .i64 t, .slice a2 n2 c2, .slice (some ⟨g, n3 * 3, none⟩) m k3, .slice a4 n4 c4, .int .i64 la, .int .i64 up], .int .i64 2] w fun e w' => GRet e w w' F (some ⟨g, n3 * 3, none⟩) 1 k3 (some ⟨g, 0, none⟩) (n3 + 1) c3 true (src, t, [], ps ++ [(la + (m : Int) + 1, t, pd)], ou, la, up) := by
  obtain ⟨W, hW⟩ : ∃ W, W = (w.alloc (.cells #[.slice a0 n0 c0, .int .i64 t, .slice a2 n2 c2, .slice (some ⟨g, n3 * 3, none⟩) m k3, .slice a4 n4 c4, .int .i64 la, .int .i64 up] 29)).alloc (.cells #[.slice none 0 0, .int .i64 0, .slice none 0 0, .slice none 0 0, .slice none 0 0, .int .i64 0, .int .i64 0] 29) := ⟨_, rfl⟩
  have B0 : Below w.heap.size w W := by rw [hW]; exact ((Below.refl _ _).alloc (Nat.le_refl _) _).alloc (by simp) _
  have b0 : W.heap[w.heap.size]? = some (.cells #[.slice a0 n0 c0, .int .i64 t, .slice a2 n2 c2, .slice (some ⟨g, n3 * 3, none⟩) m k3, .slice a4 n4 c4, .int .i64 la, .int .i64 up] 29 (0, 0)) := by rw [hW]; exact blk_alloc (heap_alloc_new w _) _
  have b1 : W.heap[w.heap.size + 1]? = some (.cells #[.slice none 0 0, .int .i64 0, .slice none 0 0, .slice none 0 0, .slice none 0 0, .int .i64 0, .int .i64 0] 29 (0, 0)) := by
    rw [hW]
    have q := heap_alloc_new (w.alloc (.cells #[.slice a0 n0 c0, .int .i64 t, .slice a2 n2 c2, .slice (some ⟨g, n3 * 3, none⟩) m k3, .slice a4 n4 c4, .int .i64 la, .int .i64 up] 29)) (.cells #[.slice none 0 0, .int .i64 0, .slice none 0 0, .slice none 0 0, .slice none 0 0, .int .i64 0, .int .i64 0] 29)
    simpa only [World.size_alloc] using q
  have zW : W.heap.size = w.heap.size + 2 := by rw [hW]; simp
  obtain ⟨i0, hi0, hx0, hx1, hx2⟩ := info_parts Try.infoPrepared
  obtain ⟨F0, F2, F3, F4, h0, h2, h3, h4, f0, f2, f3, f4, d02, d03, d04, d23, d24, d34⟩ := RSink.own_iff ho
  have h3k := h3
  obtain ⟨a3', n3', c3', cs, G, hcs, hL⟩ := h3k
  simp only [List.cons.injEq, Value.slice.injEq, and_true] at hcs
  obtain ⟨rfl, rfl, rfl⟩ := hcs
  have hb2 : ((n2 : Int) == 0) = false := beq_eq_false_iff_ne.2 (by omega)
  have hb4 : ¬ (4 : Int) ≤ (m : Int) := by omega
  have hb5 : ¬ (1000 : Int) ≤ la + (m : Int) := by omega
  have hw1 : IntKind.i64.wrap (la + (m : Int)) = la + (m : Int) := IntWalk.i64_in _ (by omega)
  have hw2 : IntKind.i64.wrap (la + (m : Int) + 1) = la + (m : Int) + 1 := IntWalk.i64_in _ (by omega)
  have HM0 := Hid.mk hm0
  clear hm0
  have HL := Hid.mk hL
  have HLB := Hid.mk (owns_below hL.outer B0)
  have H2 := Hid.mk h2
  have HN : Hid (∀ Z : World, Z = W.alloc (.cells #[.int .i64 (la + (m : Int) + 1), .int .i64 t, .slice a2 n2 c2] 64) → Z.cell? ⟨W.heap.size, 0, none⟩ = some (.int .i64 (la + (m : Int) + 1)) ∧ Z.cell? ⟨W.heap.size, 1, none⟩ = some (.int .i64 t) ∧ Z.cell? ⟨W.heap.size, 2, none⟩ = some (.slice a2 n2 c2)) := Hid.mk (fun Z hZ => by rw [hZ]; simp)
  have p0 := blk_cell b0 0 (v := .slice a0 n0 c0) rfl
  have p1 := blk_cell b0 1 (v := .int .i64 t) rfl
  have p2 := blk_cell b0 2 (v := .slice a2 n2 c2) rfl
  have p3 := blk_cell b0 3 (v := .slice (some ⟨g, n3 * 3, none⟩) m k3) rfl
  have p4 := blk_cell b0 4 (v := .slice a4 n4 c4) rfl
  have p5 := blk_cell b0 5 (v := .int .i64 la) rfl
  have p6 := blk_cell b0 6 (v := .int .i64 up) rfl
  have HB0 := Hid.mk b0
  clear hL h2 h3
  have hzz : w.heap.size + 2 = W.heap.size := by omega
  have HZZ := Hid.mk hzz
  have zWa : w.heap.size + 2 ≤ W.heap.size := by omega
  have zWb : W.heap.size ≤ w.heap.size + 2 := by omega
  clear hzz zW
  go_enter Try.func26, Try.ntmps26
  go_upto_region 1 with fail
  rw [← hW]
  clear hW
  go_upto_region 12 with fail
  have hq := HN.out _ rfl
  have bA : Below W.heap.size W (W.alloc (.cells #[.int .i64 (la + (m : Int) + 1), .int .i64 t, .slice a2 n2 c2] 64)) := (Below.refl _ _).alloc (Nat.le_refl _) _
  go_wp2_with (at_builtin; refine wpList_app_cut rfl (.tmp 56) (.tmp 67) 27 rfl 0 64 i0 (.agg #[.int .i64 0, .int .i64 0, .slice none 0 0]) 3 40 Try.underlying27 hi0 hx0 hx1 hx2 rfl (by decide) g n3 c3 k3 cs (by have q := HM0.out; subst q; rfl) (owns_below HLB.out bA) ⟨W.heap.size, 0, none⟩ 1 1 [.int .i64 (la + (m : Int) + 1), .int .i64 t, .slice a2 n2 c2] rfl rfl (by intro j u hu; match j, hu with | 0, hu => (obtain rfl := Option.some.inj hu; exact hq.1) | 1, hu => (obtain rfl := Option.some.inj hu; exact hq.2.1) | 2, hu => (obtain rfl := Option.some.inj hu; exact hq.2.2)) (by intro u hu; simp at hu; rcases hu with rfl | rfl | rfl <;> rfl) (by omega) (by omega) (by unfold maxLen; omega) (by omega) (Nat.zero_le _) ?_)
  intro w2 ho2 hg2
  have ht2 : (Value.slice (some ⟨g, 0, none⟩ : Option Addr) (n3 + 1) c3).ownBlock = (Value.slice (some ⟨g, 0, none⟩ : Option Addr) n3 c3).ownBlock ∨ (Value.slice (some ⟨g, 0, none⟩ : Option Addr) (n3 + 1) c3).ownBlock = some (W.heap.size + 1) := .inl rfl
  have zZ : (W.alloc (.cells #[.int .i64 (la + (m : Int) + 1), .int .i64 t, .slice a2 n2 c2] 64)).heap.size = W.heap.size + 1 := by simp
  obtain ⟨Z, hZ⟩ : ∃ Z, W.alloc (.cells #[.int .i64 (la + (m : Int) + 1), .int .i64 t, .slice a2 n2 c2] 64) = Z := ⟨_, rfl⟩
  rw [hZ] at hg2 bA zZ
  have hold : ∀ k, k < Z.heap.size → (Value.slice (some ⟨g, 0, none⟩ : Option Addr) n3 c3).ownBlock ≠ some k → w2.heap[k]? = Z.heap[k]? := fun k hk hn => hg2.block k hk (fun e => hn e.symm)
  have hnF : ∀ k, w.heap.size ≤ k → (Value.slice (some ⟨g, 0, none⟩ : Option Addr) n3 c3).ownBlock ≠ some k := fun k hk e => by have := hF k (f3 k (HL.out.outerF k e)); omega
  have z2 := hg2.size
  have k0 := (hold w.heap.size (by omega) (hnF _ (by omega))).trans (blk_below HB0.out bA)
  have k1 := (hold (w.heap.size + 1) (by omega) (hnF _ (by omega))).trans (blk_below b1 bA)
  have hout : ∀ b, (Value.slice (some ⟨g, 0, none⟩ : Option Addr) (n3 + 1) c3).ownBlock = some b → F3 b ∨ (w.heap.size + 3 ≤ b ∧ b < w2.heap.size) := fun b hb => by
    have hlt := (ho2.lt b hb).2
    rcases ht2 with q | q
    · rw [q] at hb; exact .inl (HL.out.outerF b hb)
    · rw [q] at hb
      have h2 := Option.some.inj hb
      exact .inr ⟨by omega, hlt⟩
  have hwh : ∀ b, b < w.heap.size → (Value.slice (some ⟨g, 0, none⟩ : Option Addr) n3 c3).ownBlock ≠ some b → w2.heap[b]? = w.heap[b]? := fun b hb hn => (hold b (by omega) hn).trans ((bA.block b (by omega)).trans (B0.block b hb))
  have HLD : Hid (Laid RPrepared w2 (fun b => (F3 b ∨ F2 b) ∨ (w.heap.size + 3 ≤ b ∧ b < w2.heap.size)) 64 (some ⟨g, 0, none⟩) (n3 + 1) c3 (ps ++ [(la + (m : Int) + 1, t, pd)]) (cs ++ [.int .i64 (la + (m : Int) + 1), .int .i64 t, .slice a2 n2 c2]) (fun i => if i = n3 then F2 else G i) (n3 + 1)) := Hid.mk
    (laid_pushAt HL.out (fun b h => hF b (f3 b h)) (RPrepared.own_mk (RInts.frame H2.out (fun b h hl => hwh b hl (fun e => d23 b h (HL.out.outerF b e)))) (fun _ h => h)) (fun b h => ⟨fun e => d23 b h e, hF b (f2 b h)⟩) hwh ho2
      (ht2.imp id (fun q b e => by rw [q] at e; have := Option.some.inj e; omega)) (by omega) (fun b h => .inl (.inl h)) (fun b h => .inl (.inr h)) (fun b e => (hout b e).imp .inl id))
  have HLN : Hid (∀ b, ((F3 b ∨ F2 b) ∨ (w.heap.size + 3 ≤ b ∧ b < w2.heap.size)) → ¬ (b = w.heap.size ∨ b = w.heap.size + 1)) := Hid.mk (fun b h e => by
    rcases h with (h | h) | h
    · have := hF b (f3 b h); rcases e with e | e <;> omega
    · have := hF b (f2 b h); rcases e with e | e <;> omega
    · rcases e with e | e <;> omega)
  have HO : Off (fun b => F3 b ∨ w.heap.size ≤ b) w w2 := (Off.below (B0.trans (bA.mono B0.size))).trans (Off.grown hg2 (fun k hk => .inl (HL.out.outerF k hk)))
  clear ho2 hg2 ht2 hold hnF hwh hout p0 p1 p2 p3 p4 p5 p6 bA zZ hq
  obtain ⟨X2, hX2⟩ : ∃ u, u = w2.setCell ⟨w.heap.size, 3, none⟩ (.slice (some ⟨g, n3 * 3, none⟩) 1 k3) := ⟨_, rfl⟩
  have e0 : X2.heap[w.heap.size]? = some (.cells #[.slice a0 n0 c0, .int .i64 t, .slice a2 n2 c2, .slice (some ⟨g, n3 * 3, none⟩) 1 k3, .slice a4 n4 c4, .int .i64 la, .int .i64 up] 29 (0, 0)) := by rw [hX2]; exact blk_set k0 3 _
  have e1 : X2.heap[w.heap.size + 1]? = some (.cells #[.slice none 0 0, .int .i64 0, .slice none 0 0, .slice none 0 0, .slice none 0 0, .int .i64 0, .int .i64 0] 29 (0, 0)) := by rw [hX2]; exact blk_other k1 (by simp) _
  have hS : Off (fun b => b = w.heap.size) w2 X2 := by rw [hX2]; exact Off.set (F := fun b => b = w.heap.size) (a := ⟨w.heap.size, 3, none⟩) rfl _
  have q3 := blk_cell k0 3 (v := .slice (some ⟨g, n3 * 3, none⟩) m k3) rfl
  have g3 := blk_frozen k0 3
  go_upto_region 13 with fail
  rw [← hX2]
  clear hX2 q3 g3 k0 k1
  obtain ⟨X3, hX3⟩ : ∃ u, u = X2.setCell ⟨w.heap.size, 2, none⟩ (.slice none 0 0) := ⟨_, rfl⟩
  have k0 : X3.heap[w.heap.size]? = some (.cells #[.slice a0 n0 c0, .int .i64 t, .slice none 0 0, .slice (some ⟨g, n3 * 3, none⟩) 1 k3, .slice a4 n4 c4, .int .i64 la, .int .i64 up] 29 (0, 0)) := by rw [hX3]; exact blk_set e0 2 _
  have k1 : X3.heap[w.heap.size + 1]? = some (.cells #[.slice none 0 0, .int .i64 0, .slice none 0 0, .slice none 0 0, .slice none 0 0, .int .i64 0, .int .i64 0] 29 (0, 0)) := by rw [hX3]; exact blk_other e1 (by simp) _
  have hS : Off (fun b => b = w.heap.size) w2 X3 := hS.trans (by rw [hX3]; exact Off.set (F := fun b => b = w.heap.size) (a := ⟨w.heap.size, 2, none⟩) rfl _)
  have q2 := blk_cell e0 2 (v := .slice a2 n2 c2) rfl
  have g2 := blk_frozen e0 2
  go_upto_region 14 with fail
  rw [← hX3]
  clear hX3 q2 g2 e0 e1
  have z4 := hS.size
  have HON := Hid.mk hS
  have HLD := Hid.mk (HLD.out.frame (fun b k hb => hS.block b hb (fun e => HLN.out b k (.inl e))))
  have HO := Hid.mk (HO.trans (hS.mono (F' := fun b => F3 b ∨ w.heap.size ≤ b) (fun b h => .inr (by have h2 : b = w.heap.size := h; omega))))
  have h2 := H2.out
  have h3 : True := trivial
  have p0 := blk_cell k0 0 (v := .slice a0 n0 c0) rfl
  have p1 := blk_cell k0 1 (v := .int .i64 t) rfl
  have p2 := blk_cell k0 2 (v := .slice none 0 0) rfl
  have p3 := blk_cell k0 3 (v := .slice (some ⟨g, n3 * 3, none⟩) 1 k3) rfl
  have p4 := blk_cell k0 4 (v := .slice a4 n4 c4) rfl
  have p5 := blk_cell k0 5 (v := .int .i64 la) rfl
  have p6 := blk_cell k0 6 (v := .int .i64 up) rfl
  have y0 := blk_cell k1 0 (v := .slice none 0 0) rfl
  have y1 := blk_cell k1 1 (v := .int .i64 0) rfl
  have y2 := blk_cell k1 2 (v := .slice none 0 0) rfl
  have y3 := blk_cell k1 3 (v := .slice none 0 0) rfl
  have y4 := blk_cell k1 4 (v := .slice none 0 0) rfl
  have y5 := blk_cell k1 5 (v := .int .i64 0) rfl
  have y6 := blk_cell k1 6 (v := .int .i64 0) rfl
  have fz0 := blk_frozen k1 0
  have fz1 := blk_frozen k1 1
  have fz2 := blk_frozen k1 2
  have fz3 := blk_frozen k1 3
  have fz4 := blk_frozen k1 4
  have fz5 := blk_frozen k1 5
  have fz6 := blk_frozen k1 6
  clear hS HL HLB HN HB0 h2 h3
  obtain ⟨Y, hY⟩ : ∃ u, u = stores X3 (w.heap.size + 1) 0 [.slice a0 n0 c0, .int .i64 t, .slice none 0 0, .slice (some ⟨g, n3 * 3, none⟩) 1 k3, .slice a4 n4 c4, .int .i64 la, .int .i64 up] := ⟨_, rfl⟩
  have S : Off (fun b => b = w.heap.size + 1) X3 Y := by rw [hY]; exact stores_off (F := fun b => b = w.heap.size + 1) _ _ _ _ rfl
  have zY : Y.heap.size = X3.heap.size := by rw [hY]; exact stores_size _ _ _ _
  have HY2 := Hid.mk (HO.out.trans (S.mono (F' := fun b => F3 b ∨ w.heap.size ≤ b) (fun b h => .inr (by have h2 : b = w.heap.size + 1 := h; omega))))
  have R : Hid (GRet (.returned (.tuple #[.agg #[.slice a0 n0 c0, .int .i64 t, .slice none 0 0, .slice (some ⟨g, n3 * 3, none⟩) 1 k3, .slice a4 n4 c4, .int .i64 la, .int .i64 up], .bool true])) w Y F (some ⟨g, n3 * 3, none⟩) 1 k3 (some ⟨g, 0, none⟩) (n3 + 1) c3 true (src, t, [], ps ++ [(la + (m : Int) + 1, t, pd)], ou, la, up)) := Hid.mk
    ⟨a0, n0, c0, none, 0, 0, a4, n4, c4, rfl, RSink.own_mk (F0 := F0) (F2 := fun _ => False) (F3 := fun b => (F3 b ∨ F2 b) ∨ (w.heap.size ≤ b ∧ b < Y.heap.size)) (F4 := F4)
      (RInts.ownOff h0 HY2.out (fun b k q => q.elim (d03 b k) (fun q => by have := hF b (f0 b k); omega)))
      (RInts.void _ _)
      ⟨some ⟨g, 0, none⟩, n3 + 1, c3, _, _, rfl, (HLD.out.frame (fun b k hb => (S.block b hb (fun e => HLN.out b k (.inr e))))).mono (fun b h => h.elim .inl (fun q => .inr ⟨by omega, by omega⟩))⟩
      (RInts.ownOff h4 HY2.out (fun b k q => q.elim (fun q => d34 b q k) (fun q => by have := hF b (f4 b k); omega)))
      (fun b h => .inl (f0 b h)) (fun _ h => h.elim) (fun b h => h.elim (fun h => .inl (h.elim (f3 b) (f2 b))) .inr) (fun b h => .inl (f4 b h)) (fun _ _ h => h.elim) (fun b h k => k.elim (fun k => k.elim (d03 b h) (d02 b h)) (fun k => by have := hF b (f0 b h); omega)) d04 (fun _ h => h.elim) (fun _ h => h.elim) (fun b h k => h.elim (fun h => h.elim (fun h => d34 b h k) (fun h => d24 b h k)) (fun h => by have := hF b (f4 b k); omega)),
      Off.cut (HY2.out.mono (fun b h => h.elim (fun h => .inl (f3 b h)) .inr))⟩
  have HY := Hid.mk hY
  clear S hY zY HO HON k0 k1
  go_wp2
  refine bodyPost_ret (v := .tuple #[.agg #[.slice a0 n0 c0, .int .i64 t, .slice none 0 0, .slice (some ⟨g, n3 * 3, none⟩) 1 k3, .slice a4 n4 c4, .int .i64 la, .int .i64 up], .bool true]) (by simp [results, Try.results26, go_sem, y0, y1, y2, y3, y4, y5, y6]) rfl ?_
  have h := R.out
  rw [HY.out] at h
  exact h

set_option maxRecDepth 100000 in
set_option maxHeartbeats 2000000 in
theorem step2n_yes (F : Nat → Prop) (a0 : Option Addr) (n0 c0 : Nat) (a2 : Option Addr) (n2 c2 : Nat) (a3 : Option Addr) (n3 c3 : Nat) (e3 : Option Addr) (m k3 : Nat) (a4 : Option Addr) (n4 c4 : Nat) (t la up : Int) (src pd : List Int) (ps : List TPrepared) (ou : List Int) (w : World) (hF : ∀ b, F b → b < w.heap.size) (h2p : 0 < n2) (hm0 : m = 0) (hk3 : k3 = 0) (hl0 : 0 ≤ la) (hl1 : la + (m : Int) + 1 ≤ 1000) (ho : RSink.Own w F [.slice a0 n0 c0, .int .i64 t, .slice a2 n2 c2, .slice a3 n3 c3, .slice a4 n4 c4, .int .i64 la, .int .i64 up] (src, t, pd, ps, ou, la, up)) :
    Calls Try.prog 26 #[.agg #[.slice a0 n0 c0, .int .i64 t, .slice a2 n2 c2, .slice e3 m k3, .slice a4 n4 c4, .int .i64 la, .int .i64 up], .int .i64 2] w fun e w' => KRet e w w' F true (src, t, [], [(la + (m : Int) + 1, t, pd)], ou, la, up) := by
  obtain ⟨W, hW⟩ : ∃ W, W = (w.alloc (.cells #[.slice a0 n0 c0, .int .i64 t, .slice a2 n2 c2, .slice e3 m k3, .slice a4 n4 c4, .int .i64 la, .int .i64 up] 29)).alloc (.cells #[.slice none 0 0, .int .i64 0, .slice none 0 0, .slice none 0 0, .slice none 0 0, .int .i64 0, .int .i64 0] 29) := ⟨_, rfl⟩
  have B0 : Below w.heap.size w W := by rw [hW]; exact ((Below.refl _ _).alloc (Nat.le_refl _) _).alloc (by simp) _
  have b0 : W.heap[w.heap.size]? = some (.cells #[.slice a0 n0 c0, .int .i64 t, .slice a2 n2 c2, .slice e3 m k3, .slice a4 n4 c4, .int .i64 la, .int .i64 up] 29 (0, 0)) := by rw [hW]; exact blk_alloc (heap_alloc_new w _) _
  have b1 : W.heap[w.heap.size + 1]? = some (.cells #[.slice none 0 0, .int .i64 0, .slice none 0 0, .slice none 0 0, .slice none 0 0, .int .i64 0, .int .i64 0] 29 (0, 0)) := by
    rw [hW]
    have q := heap_alloc_new (w.alloc (.cells #[.slice a0 n0 c0, .int .i64 t, .slice a2 n2 c2, .slice e3 m k3, .slice a4 n4 c4, .int .i64 la, .int .i64 up] 29)) (.cells #[.slice none 0 0, .int .i64 0, .slice none 0 0, .slice none 0 0, .slice none 0 0, .int .i64 0, .int .i64 0] 29)
    simpa only [World.size_alloc] using q
  have zW : W.heap.size = w.heap.size + 2 := by rw [hW]; simp
  obtain ⟨i0, hi0, hx0, hx1, hx2⟩ := info_parts Try.infoPrepared
  obtain ⟨F0, F2, F3, F4, h0, h2, h3, h4, f0, f2, f3, f4, d02, d03, d04, d23, d24, d34⟩ := RSink.own_iff ho
  have hL : Laid RPrepared w F3 64 none 0 0 [] [] (fun _ _ => False) 0 := Laid.none _ _ _ _
  have hb2 : ((n2 : Int) == 0) = false := beq_eq_false_iff_ne.2 (by omega)
  have hb4 : ¬ (4 : Int) ≤ (m : Int) := by omega
  have hb5 : ¬ (1000 : Int) ≤ la + (m : Int) := by omega
  have hw1 : IntKind.i64.wrap (la + (m : Int)) = la + (m : Int) := IntWalk.i64_in _ (by omega)
  have hw2 : IntKind.i64.wrap (la + (m : Int) + 1) = la + (m : Int) + 1 := IntWalk.i64_in _ (by omega)
  have HM0 := Hid.mk (And.intro hm0 hk3)
  clear hm0 hk3
  have HL := Hid.mk hL
  have HLB := Hid.mk (owns_below hL.outer B0)
  have H2 := Hid.mk h2
  have HN : Hid (∀ Z : World, Z = W.alloc (.cells #[.int .i64 (la + (m : Int) + 1), .int .i64 t, .slice a2 n2 c2] 64) → Z.cell? ⟨W.heap.size, 0, none⟩ = some (.int .i64 (la + (m : Int) + 1)) ∧ Z.cell? ⟨W.heap.size, 1, none⟩ = some (.int .i64 t) ∧ Z.cell? ⟨W.heap.size, 2, none⟩ = some (.slice a2 n2 c2)) := Hid.mk (fun Z hZ => by rw [hZ]; simp)
  have p0 := blk_cell b0 0 (v := .slice a0 n0 c0) rfl
  have p1 := blk_cell b0 1 (v := .int .i64 t) rfl
  have p2 := blk_cell b0 2 (v := .slice a2 n2 c2) rfl
  have p3 := blk_cell b0 3 (v := .slice e3 m k3) rfl
  have p4 := blk_cell b0 4 (v := .slice a4 n4 c4) rfl
  have p5 := blk_cell b0 5 (v := .int .i64 la) rfl
  have p6 := blk_cell b0 6 (v := .int .i64 up) rfl
  have HB0 := Hid.mk b0
  clear hL h2 h3
  have hzz : w.heap.size + 2 = W.heap.size := by omega
  have HZZ := Hid.mk hzz
  have zWa : w.heap.size + 2 ≤ W.heap.size := by omega
  have zWb : W.heap.size ≤ w.heap.size + 2 := by omega
  clear hzz zW
  go_enter Try.func26, Try.ntmps26
  go_upto_region 1 with fail
  rw [← hW]
  clear hW
  go_upto_region 12 with fail
  have hq := HN.out _ rfl
  have bA : Below W.heap.size W (W.alloc (.cells #[.int .i64 (la + (m : Int) + 1), .int .i64 t, .slice a2 n2 c2] 64)) := (Below.refl _ _).alloc (Nat.le_refl _) _
  go_wp2_with (at_builtin; refine wpList_app_new rfl (.tmp 56) (.tmp 67) 27 rfl 64 i0 (.agg #[.int .i64 0, .int .i64 0, .slice none 0 0]) 3 40 Try.underlying27 hi0 hx0 hx1 hx2 rfl (by decide) e3 (by have q := HM0.out.1; have q2 := HM0.out.2; subst q q2; rfl) ⟨W.heap.size, 0, none⟩ 1 1 [.int .i64 (la + (m : Int) + 1), .int .i64 t, .slice a2 n2 c2] rfl rfl (by intro j u hu; match j, hu with | 0, hu => (obtain rfl := Option.some.inj hu; exact hq.1) | 1, hu => (obtain rfl := Option.some.inj hu; exact hq.2.1) | 2, hu => (obtain rfl := Option.some.inj hu; exact hq.2.2)) (by intro u hu; simp at hu; rcases hu with rfl | rfl | rfl <;> rfl) (by omega) (by unfold maxLen; omega) (by omega) ?_)
  intro r d w2 ho2 ht2 hg2
  have zZ : (W.alloc (.cells #[.int .i64 (la + (m : Int) + 1), .int .i64 t, .slice a2 n2 c2] 64)).heap.size = W.heap.size + 1 := by simp
  obtain ⟨Z, hZ⟩ : ∃ Z, W.alloc (.cells #[.int .i64 (la + (m : Int) + 1), .int .i64 t, .slice a2 n2 c2] 64) = Z := ⟨_, rfl⟩
  rw [hZ] at hg2 bA zZ
  have hold : ∀ k, k < Z.heap.size → (Value.slice none 0 0).ownBlock ≠ some k → w2.heap[k]? = Z.heap[k]? := fun k hk hn => hg2.block k hk (fun e => hn e.symm)
  have hnF : ∀ k, w.heap.size ≤ k → (Value.slice none 0 0).ownBlock ≠ some k := fun k hk e => by have := hF k (f3 k (HL.out.outerF k e)); omega
  have z2 := hg2.size
  have k0 := (hold w.heap.size (by omega) (hnF _ (by omega))).trans (blk_below HB0.out bA)
  have k1 := (hold (w.heap.size + 1) (by omega) (hnF _ (by omega))).trans (blk_below b1 bA)
  have hout : ∀ b, (Value.slice r 1 d).ownBlock = some b → F3 b ∨ (w.heap.size + 3 ≤ b ∧ b < w2.heap.size) := fun b hb => .inr ⟨by have := ht2 b hb; omega, (ho2.lt b hb).2⟩
  have hwh : ∀ b, b < w.heap.size → (Value.slice none 0 0).ownBlock ≠ some b → w2.heap[b]? = w.heap[b]? := fun b hb hn => (hold b (by omega) hn).trans ((bA.block b (by omega)).trans (B0.block b hb))
  have HLD : Hid (Laid RPrepared w2 (fun b => (F3 b ∨ F2 b) ∨ (w.heap.size + 3 ≤ b ∧ b < w2.heap.size)) 64 r 1 d ([] ++ [(la + (m : Int) + 1, t, pd)]) ([] ++ [.int .i64 (la + (m : Int) + 1), .int .i64 t, .slice a2 n2 c2]) (fun i => if i = 0 then F2 else (fun _ _ => False) i) 1) := Hid.mk
    (laid_pushAt HL.out (fun b h => hF b (f3 b h)) (RPrepared.own_mk (RInts.frame H2.out (fun b h hl => hwh b hl (fun e => d23 b h (HL.out.outerF b e)))) (fun _ h => h)) (fun b h => ⟨fun e => d23 b h e, hF b (f2 b h)⟩) hwh ho2
      (.inr (fun b e => by have := ht2 b e; omega)) (by omega) (fun b h => .inl (.inl h)) (fun b h => .inl (.inr h)) (fun b e => (hout b e).imp .inl id))
  have HLN : Hid (∀ b, ((F3 b ∨ F2 b) ∨ (w.heap.size + 3 ≤ b ∧ b < w2.heap.size)) → ¬ (b = w.heap.size ∨ b = w.heap.size + 1)) := Hid.mk (fun b h e => by
    rcases h with (h | h) | h
    · have := hF b (f3 b h); rcases e with e | e <;> omega
    · have := hF b (f2 b h); rcases e with e | e <;> omega
    · rcases e with e | e <;> omega)
  have HO : Off (fun b => F3 b ∨ w.heap.size ≤ b) w w2 := (Off.below (B0.trans (bA.mono B0.size))).trans (Off.grown hg2 (fun k hk => .inl (HL.out.outerF k hk)))
  clear ho2 hg2 ht2 hold hnF hwh hout p0 p1 p2 p3 p4 p5 p6 bA zZ hq
  obtain ⟨X2, hX2⟩ : ∃ u, u = w2.setCell ⟨w.heap.size, 3, none⟩ (.slice r 1 d) := ⟨_, rfl⟩
  have e0 : X2.heap[w.heap.size]? = some (.cells #[.slice a0 n0 c0, .int .i64 t, .slice a2 n2 c2, .slice r 1 d, .slice a4 n4 c4, .int .i64 la, .int .i64 up] 29 (0, 0)) := by rw [hX2]; exact blk_set k0 3 _
  have e1 : X2.heap[w.heap.size + 1]? = some (.cells #[.slice none 0 0, .int .i64 0, .slice none 0 0, .slice none 0 0, .slice none 0 0, .int .i64 0, .int .i64 0] 29 (0, 0)) := by rw [hX2]; exact blk_other k1 (by simp) _
  have hS : Off (fun b => b = w.heap.size) w2 X2 := by rw [hX2]; exact Off.set (F := fun b => b = w.heap.size) (a := ⟨w.heap.size, 3, none⟩) rfl _
  have q3 := blk_cell k0 3 (v := .slice e3 m k3) rfl
  have g3 := blk_frozen k0 3
  go_upto_region 13 with fail
  rw [← hX2]
  clear hX2 q3 g3 k0 k1
  obtain ⟨X3, hX3⟩ : ∃ u, u = X2.setCell ⟨w.heap.size, 2, none⟩ (.slice none 0 0) := ⟨_, rfl⟩
  have k0 : X3.heap[w.heap.size]? = some (.cells #[.slice a0 n0 c0, .int .i64 t, .slice none 0 0, .slice r 1 d, .slice a4 n4 c4, .int .i64 la, .int .i64 up] 29 (0, 0)) := by rw [hX3]; exact blk_set e0 2 _
  have k1 : X3.heap[w.heap.size + 1]? = some (.cells #[.slice none 0 0, .int .i64 0, .slice none 0 0, .slice none 0 0, .slice none 0 0, .int .i64 0, .int .i64 0] 29 (0, 0)) := by rw [hX3]; exact blk_other e1 (by simp) _
  have hS : Off (fun b => b = w.heap.size) w2 X3 := hS.trans (by rw [hX3]; exact Off.set (F := fun b => b = w.heap.size) (a := ⟨w.heap.size, 2, none⟩) rfl _)
  have q2 := blk_cell e0 2 (v := .slice a2 n2 c2) rfl
  have g2 := blk_frozen e0 2
  go_upto_region 14 with fail
  rw [← hX3]
  clear hX3 q2 g2 e0 e1
  have z4 := hS.size
  have HON := Hid.mk hS
  have HLD := Hid.mk (HLD.out.frame (fun b k hb => hS.block b hb (fun e => HLN.out b k (.inl e))))
  have HO := Hid.mk (HO.trans (hS.mono (F' := fun b => F3 b ∨ w.heap.size ≤ b) (fun b h => .inr (by have h2 : b = w.heap.size := h; omega))))
  have h2 := H2.out
  have h3 : True := trivial
  have p0 := blk_cell k0 0 (v := .slice a0 n0 c0) rfl
  have p1 := blk_cell k0 1 (v := .int .i64 t) rfl
  have p2 := blk_cell k0 2 (v := .slice none 0 0) rfl
  have p3 := blk_cell k0 3 (v := .slice r 1 d) rfl
  have p4 := blk_cell k0 4 (v := .slice a4 n4 c4) rfl
  have p5 := blk_cell k0 5 (v := .int .i64 la) rfl
  have p6 := blk_cell k0 6 (v := .int .i64 up) rfl
  have y0 := blk_cell k1 0 (v := .slice none 0 0) rfl
  have y1 := blk_cell k1 1 (v := .int .i64 0) rfl
  have y2 := blk_cell k1 2 (v := .slice none 0 0) rfl
  have y3 := blk_cell k1 3 (v := .slice none 0 0) rfl
  have y4 := blk_cell k1 4 (v := .slice none 0 0) rfl
  have y5 := blk_cell k1 5 (v := .int .i64 0) rfl
  have y6 := blk_cell k1 6 (v := .int .i64 0) rfl
  have fz0 := blk_frozen k1 0
  have fz1 := blk_frozen k1 1
  have fz2 := blk_frozen k1 2
  have fz3 := blk_frozen k1 3
  have fz4 := blk_frozen k1 4
  have fz5 := blk_frozen k1 5
  have fz6 := blk_frozen k1 6
  clear hS HL HLB HN HB0 h2 h3
  obtain ⟨Y, hY⟩ : ∃ u, u = stores X3 (w.heap.size + 1) 0 [.slice a0 n0 c0, .int .i64 t, .slice none 0 0, .slice r 1 d, .slice a4 n4 c4, .int .i64 la, .int .i64 up] := ⟨_, rfl⟩
  have S : Off (fun b => b = w.heap.size + 1) X3 Y := by rw [hY]; exact stores_off (F := fun b => b = w.heap.size + 1) _ _ _ _ rfl
  have zY : Y.heap.size = X3.heap.size := by rw [hY]; exact stores_size _ _ _ _
  have HY2 := Hid.mk (HO.out.trans (S.mono (F' := fun b => F3 b ∨ w.heap.size ≤ b) (fun b h => .inr (by have h2 : b = w.heap.size + 1 := h; omega))))
  have R : Hid (KRet (.returned (.tuple #[.agg #[.slice a0 n0 c0, .int .i64 t, .slice none 0 0, .slice r 1 d, .slice a4 n4 c4, .int .i64 la, .int .i64 up], .bool true])) w Y F true (src, t, [], [(la + (m : Int) + 1, t, pd)], ou, la, up)) := Hid.mk
    ⟨a0, n0, c0, none, 0, 0, r, 1, d, a4, n4, c4, rfl, RSink.own_mk (F0 := F0) (F2 := fun _ => False) (F3 := fun b => (F3 b ∨ F2 b) ∨ (w.heap.size ≤ b ∧ b < Y.heap.size)) (F4 := F4)
      (RInts.ownOff h0 HY2.out (fun b k q => q.elim (d03 b k) (fun q => by have := hF b (f0 b k); omega)))
      (RInts.void _ _)
      ⟨r, 1, d, _, _, rfl, (HLD.out.frame (fun b k hb => (S.block b hb (fun e => HLN.out b k (.inr e))))).mono (fun b h => h.elim .inl (fun q => .inr ⟨by omega, by omega⟩))⟩
      (RInts.ownOff h4 HY2.out (fun b k q => q.elim (fun q => d34 b q k) (fun q => by have := hF b (f4 b k); omega)))
      (fun b h => .inl (f0 b h)) (fun _ h => h.elim) (fun b h => h.elim (fun h => .inl (h.elim (f3 b) (f2 b))) .inr) (fun b h => .inl (f4 b h)) (fun _ _ h => h.elim) (fun b h k => k.elim (fun k => k.elim (d03 b h) (d02 b h)) (fun k => by have := hF b (f0 b h); omega)) d04 (fun _ h => h.elim) (fun _ h => h.elim) (fun b h k => h.elim (fun h => h.elim (fun h => d34 b h k) (fun h => d24 b h k)) (fun h => by have := hF b (f4 b k); omega)),
      Off.cut (HY2.out.mono (fun b h => h.elim (fun h => .inl (f3 b h)) .inr))⟩
  have HY := Hid.mk hY
  clear S hY zY HO HON k0 k1
  go_wp2
  refine bodyPost_ret (v := .tuple #[.agg #[.slice a0 n0 c0, .int .i64 t, .slice none 0 0, .slice r 1 d, .slice a4 n4 c4, .int .i64 la, .int .i64 up], .bool true]) (by simp [results, Try.results26, go_sem, y0, y1, y2, y3, y4, y5, y6]) rfl ?_
  have h := R.out
  rw [HY.out] at h
  exact h

end Go.Proofs.Ytmbjmmnodcebbaa
