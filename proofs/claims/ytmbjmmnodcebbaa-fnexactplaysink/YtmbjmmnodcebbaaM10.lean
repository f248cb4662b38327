/- Several texts of one proof, in build order: StepW, StK. -/
import Derived.Test.YtmbjmmnodcebbaaM7
import Derived.Test.YtmbjmmnodcebbaaM9

/- An append of whatever cells, in a plain region. -/
namespace Go.Proofs.Ytmbjmmnodcebbaa
open Go.RowKit

theorem wpList_app_vals {P : Program} {w : World} {ops : Array Oper} {rest : List Oper} {o : Oper} {a : Act} {Q : Exit → Act → World → Prop} (hgd : o.guard = none) (s x : Operand) (t : TypeId)
    (ho : o.op = .call { callee := .builtin .append, args := #[s, x], argTypes := #[t, t] })
    (base : Nat) (e : TypeId) (i : TypeInfo) (z : Value) (size bytes : Nat) (ht : P.underlying t = some (.slice e)) (hi : P.info? e = some i) (hz : i.zero = some z)
    (hsize : i.size = size) (hby : i.bytes = bytes) (hzs : z.cells.size = size) (hsz : 0 < size)
    (v : Value) (n : Nat) (xs : List Value) (hs : a.eval s = v) (hown : w.ownsRow base e size v n xs)
    (ao : Option Addr) (m c : Nat) (news : List Value) (hx : a.eval x = .slice ao m c) (hl : news.length = m * size) (hat : ∀ ad, ao = some ad → ∀ (j : Nat) (u : Value), news[j]? = some u → w.cell? (ad.add j) = some u) (h1 : ∀ u ∈ news, u.oneCell' = true) (hnil : ao = none → c = 0 ∧ m = 0)
    (h63 : n + m ≤ maxLen) (hbytes : (n + m) * bytes ≤ 140737488355328) (hbase : base ≤ w.heap.size)
    (h : ∀ r cap w', w'.ownsRow base e size (.slice r (n + m) cap) (n + m) (xs ++ news) → w.grownBy w' v.ownBlock → ((Value.slice r (n + m) cap).ownBlock = v.ownBlock ∨ (Value.slice r (n + m) cap).ownBlock = some w.heap.size) → wpList P ops Q rest (a.put o.dst (.slice r (n + m) cap)) w') :
    wpList P ops Q (o :: rest) a w :=
  wpList_plain hgd fun K hK => by
    have hw : Region.wanted o (yielded ops a.tmps) = true := by simp [Region.wanted, hgd]
    have h9 := step_append_vals (P := P) (w := w) (ops := ops) (o := o) (a := a) (K := K) (Q := Q) (E := True) hgd s x t ho base e i z size bytes ht hi hz hsize hby hzs hsz v n xs hs hown ao m c news hx hl hat h1 hnil h63 hbytes hbase (fun r cap w' k1 k2 k3 => hK _ _ (h r cap w' k1 k2 k3))
    rw [if_pos hw] at h9
    exact h9

end Go.Proofs.Ytmbjmmnodcebbaa

/- Contracts of the model's l16Step at SinkCommit. -/
namespace Go.Proofs.Ytmbjmmnodcebbaa
open Go.RowKit

/-- Nothing could be done. -/
def SameRet (e : Ending) (w w' : World) (cs : Array Value) : Prop := e = .returned (.tuple #[.agg cs, .bool false]) ∧ Below w.heap.size w w'
set_option maxRecDepth 100000 in
set_option maxHeartbeats 2000000 in
theorem step3_no (a0 : Option Addr) (n0 c0 : Nat) (a2 : Option Addr) (n2 c2 : Nat) (a3 : Option Addr) (c3 : Nat) (a4 : Option Addr) (n4 c4 : Nat) (t la up : Int) (w : World) :
    Calls Try.prog 26 #[.agg #[.slice a0 n0 c0, .int .i64 t, .slice a2 n2 c2, .slice a3 0 c3, .slice a4 n4 c4, .int .i64 la, .int .i64 up], .int .i64 3] w fun e w' => SameRet e w w' #[.slice a0 n0 c0, .int .i64 t, .slice a2 n2 c2, .slice a3 0 c3, .slice a4 n4 c4, .int .i64 la, .int .i64 up] := by
  obtain ⟨W, hW⟩ : ∃ W, W = (w.alloc (.cells #[.slice a0 n0 c0, .int .i64 t, .slice a2 n2 c2, .slice a3 0 c3, .slice a4 n4 c4, .int .i64 la, .int .i64 up] 29)).alloc (.cells #[.slice none 0 0, .int .i64 0, .slice none 0 0, .slice none 0 0, .slice none 0 0, .int .i64 0, .int .i64 0] 29) := ⟨_, rfl⟩
  have B0 : Below w.heap.size w W := by rw [hW]; exact ((Below.refl _ _).alloc (Nat.le_refl _) _).alloc (by simp) _
  have b0 : W.heap[w.heap.size]? = some (.cells #[.slice a0 n0 c0, .int .i64 t, .slice a2 n2 c2, .slice a3 0 c3, .slice a4 n4 c4, .int .i64 la, .int .i64 up] 29 (0, 0)) := by rw [hW]; exact blk_alloc (heap_alloc_new w _) _
  have b1 : W.heap[w.heap.size + 1]? = some (.cells #[.slice none 0 0, .int .i64 0, .slice none 0 0, .slice none 0 0, .slice none 0 0, .int .i64 0, .int .i64 0] 29 (0, 0)) := by
    rw [hW]
    have q := heap_alloc_new (w.alloc (.cells #[.slice a0 n0 c0, .int .i64 t, .slice a2 n2 c2, .slice a3 0 c3, .slice a4 n4 c4, .int .i64 la, .int .i64 up] 29)) (.cells #[.slice none 0 0, .int .i64 0, .slice none 0 0, .slice none 0 0, .slice none 0 0, .int .i64 0, .int .i64 0] 29)
    simpa only [World.size_alloc] using q
  have zW : W.heap.size = w.heap.size + 2 := by rw [hW]; simp
  have p0 := blk_cell b0 0 (v := .slice a0 n0 c0) rfl
  have p1 := blk_cell b0 1 (v := .int .i64 t) rfl
  have p2 := blk_cell b0 2 (v := .slice a2 n2 c2) rfl
  have p3 := blk_cell b0 3 (v := .slice a3 0 c3) rfl
  have p4 := blk_cell b0 4 (v := .slice a4 n4 c4) rfl
  have p5 := blk_cell b0 5 (v := .int .i64 la) rfl
  have p6 := blk_cell b0 6 (v := .int .i64 up) rfl
  have y0 := blk_cell b1 0 (v := .slice none 0 0) rfl
  have y1 := blk_cell b1 1 (v := .int .i64 0) rfl
  have y2 := blk_cell b1 2 (v := .slice none 0 0) rfl
  have y3 := blk_cell b1 3 (v := .slice none 0 0) rfl
  have y4 := blk_cell b1 4 (v := .slice none 0 0) rfl
  have y5 := blk_cell b1 5 (v := .int .i64 0) rfl
  have y6 := blk_cell b1 6 (v := .int .i64 0) rfl
  have fz0 := blk_frozen b1 0
  have fz1 := blk_frozen b1 1
  have fz2 := blk_frozen b1 2
  have fz3 := blk_frozen b1 3
  have fz4 := blk_frozen b1 4
  have fz5 := blk_frozen b1 5
  have fz6 := blk_frozen b1 6
  go_enter Try.func26, Try.ntmps26
  go_upto_region 1 with fail
  rw [← hW]
  clear hW
  go_upto_region 17 with fail
  obtain ⟨Y, hY⟩ : ∃ u, u = stores W (w.heap.size + 1) 0 [.slice a0 n0 c0, .int .i64 t, .slice a2 n2 c2, .slice a3 0 c3, .slice a4 n4 c4, .int .i64 la, .int .i64 up] := ⟨_, rfl⟩
  have S : Off (fun b => b = w.heap.size + 1) W Y := by rw [hY]; exact stores_off (F := fun b => b = w.heap.size + 1) _ _ _ _ rfl
  have zY : Y.heap.size = W.heap.size := by rw [hY]; exact stores_size _ _ _ _
  have D : Below w.heap.size w Y := by rw [hY]; exact stores_below _ _ _ _ B0 (by omega)
  have R : Hid (SameRet (.returned (.tuple #[.agg #[.slice a0 n0 c0, .int .i64 t, .slice a2 n2 c2, .slice a3 0 c3, .slice a4 n4 c4, .int .i64 la, .int .i64 up], .bool false])) w Y #[.slice a0 n0 c0, .int .i64 t, .slice a2 n2 c2, .slice a3 0 c3, .slice a4 n4 c4, .int .i64 la, .int .i64 up]) := Hid.mk ⟨rfl, D⟩
  have HY := Hid.mk hY
  clear S hY zY D b0 b1 B0 zW
  go_wp2
  refine bodyPost_ret (v := .tuple #[.agg #[.slice a0 n0 c0, .int .i64 t, .slice a2 n2 c2, .slice a3 0 c3, .slice a4 n4 c4, .int .i64 la, .int .i64 up], .bool false]) (by simp [results, Try.results26, go_sem, y0, y1, y2, y3, y4, y5, y6]) rfl ?_
  have h := R.out
  rw [HY.out] at h
  exact h

/-- What one step of giving out tells: what is stored is cut off the whole list's beginning, which lies where it lay. -/
def S3Ret (e : Ending) (w w' : World) (F : Nat → Prop) (a0 : Option Addr) (n0 c0 : Nat) (t : Int) (a2 : Option Addr) (n2 c2 g k m c3 n3o c3o : Nat) (src pd : List Int) (pso : List TPrepared) (ou : List Int) (no ut : Int) : Prop :=
  ∃ r l d o, e = .returned (.tuple #[.agg #[.slice a0 n0 c0, .int .i64 t, .slice a2 n2 c2, .slice (some ⟨g, o, none⟩) m (c3 - 1), .slice r l d, .int .i64 no, .int .i64 ut], .bool true]) ∧ (0 < m → o = (k + 1) * 3) ∧
    RSink.Own w' (Gr F w w') [.slice a0 n0 c0, .int .i64 t, .slice a2 n2 c2, .slice (some ⟨g, 0, none⟩) n3o c3o, .slice r l d, .int .i64 no, .int .i64 ut] (src, t, pd, pso, ou, no, ut) ∧ Off F w w'

set_option maxRecDepth 100000 in
set_option maxHeartbeats 2000000 in
theorem step3_yes (F : Nat → Prop) (a0 : Option Addr) (n0 c0 : Nat) (a2 : Option Addr) (n2 c2 : Nat) (g k m c3 n3o c3o : Nat) (a4 : Option Addr) (n4 c4 : Nat) (t la up : Int) (src pd : List Int) (no ut : Int) (rw0 : List Int) (pso : List TPrepared) (ou : List Int) (w : World) (hF : ∀ b, F b → b < w.heap.size)
    (hk : pso[k]? = some (no, ut, rw0)) (hn3 : n3o = k + (m + 1)) (hc3 : m + 1 ≤ c3) (hm : m + 1 ≤ 1048576) (hn4 : n4 ≤ 1048576) (hnr : rw0.length ≤ 1048576) (ho : RSink.Own w F [.slice a0 n0 c0, .int .i64 t, .slice a2 n2 c2, .slice (some ⟨g, 0, none⟩) n3o c3o, .slice a4 n4 c4, .int .i64 la, .int .i64 up] (src, t, pd, pso, ou, la, up)) :
    Calls Try.prog 26 #[.agg #[.slice a0 n0 c0, .int .i64 t, .slice a2 n2 c2, .slice (some ⟨g, k * 3, none⟩) (m + 1) c3, .slice a4 n4 c4, .int .i64 la, .int .i64 up], .int .i64 3] w fun e w' => S3Ret e w w' F a0 n0 c0 t a2 n2 c2 g k m c3 n3o c3o src pd pso (ou ++ rw0) no ut := by
  obtain ⟨W, hW⟩ : ∃ W, W = (w.alloc (.cells #[.slice a0 n0 c0, .int .i64 t, .slice a2 n2 c2, .slice (some ⟨g, k * 3, none⟩) (m + 1) c3, .slice a4 n4 c4, .int .i64 la, .int .i64 up] 29)).alloc (.cells #[.slice none 0 0, .int .i64 0, .slice none 0 0, .slice none 0 0, .slice none 0 0, .int .i64 0, .int .i64 0] 29) := ⟨_, rfl⟩
  have B0 : Below w.heap.size w W := by rw [hW]; exact ((Below.refl _ _).alloc (Nat.le_refl _) _).alloc (by simp) _
  have b0 : W.heap[w.heap.size]? = some (.cells #[.slice a0 n0 c0, .int .i64 t, .slice a2 n2 c2, .slice (some ⟨g, k * 3, none⟩) (m + 1) c3, .slice a4 n4 c4, .int .i64 la, .int .i64 up] 29 (0, 0)) := by rw [hW]; exact blk_alloc (heap_alloc_new w _) _
  have b1 : W.heap[w.heap.size + 1]? = some (.cells #[.slice none 0 0, .int .i64 0, .slice none 0 0, .slice none 0 0, .slice none 0 0, .int .i64 0, .int .i64 0] 29 (0, 0)) := by
    rw [hW]
    have q := heap_alloc_new (w.alloc (.cells #[.slice a0 n0 c0, .int .i64 t, .slice a2 n2 c2, .slice (some ⟨g, k * 3, none⟩) (m + 1) c3, .slice a4 n4 c4, .int .i64 la, .int .i64 up] 29)) (.cells #[.slice none 0 0, .int .i64 0, .slice none 0 0, .slice none 0 0, .slice none 0 0, .int .i64 0, .int .i64 0] 29)
    simpa only [World.size_alloc] using q
  have zW : W.heap.size = w.heap.size + 2 := by rw [hW]; simp
  obtain ⟨i0, hi0, hx0, hx1, hx2⟩ := info_parts Try.infoInt
  obtain ⟨F0, F2, F3, F4, h0, h2, h3, h4, f0, f2, f3, f4, d02, d03, d04, d23, d24, d34⟩ := RSink.own_iff ho
  have h3k := h3
  obtain ⟨a3', n3', c3', cs, G, hcs, hL⟩ := h3k
  simp only [List.cons.injEq, Value.slice.injEq, and_true] at hcs
  obtain ⟨rfl, rfl, rfl⟩ := hcs
  obtain ⟨o4l, _, o4, o4F⟩ := RInts.own_iff.1 h4
  have hLW := hL.below B0
  have hrow := hLW.row k _ (by omega) hk
  obtain ⟨ar, nr, cr, _, hcs0, _, _⟩ := RPrepared.own_open hrow
  simp only at hcs0
  rw [hcs0] at hrow
  obtain ⟨GR, hR0, hGR⟩ := RPrepared.own_iff hrow
  have hRat := RInts.at_iff.1 (RInts.toAt hR0)
  have hcs1 : sub cs (k * 3) 3 = [.int .i64 no, .int .i64 ut, .slice ar nr cr] := hcs0
  have hsub : ∀ j, j < 3 → W.cell? ⟨g, k * 3 + j, none⟩ = ([.int .i64 no, .int .i64 ut, .slice ar nr cr] : List Value)[j]? := fun j hj => by
    rw [hLW.outer.cellAt (k * 3 + j) (show k * 3 + j < n3o * 3 by omega), ← hcs1, sub_at hj]
  have g0 := hsub 0 (by omega)
  have g1 := hsub 1 (by omega)
  have g2 := hsub 2 (by omega)
  simp only [List.getElem?_cons_zero, List.getElem?_cons_succ, Nat.add_zero] at g0 g1 g2
  obtain ⟨o, hoo, hom⟩ : ∃ o, (if c3 = 1 then (some ⟨g, k * 3, none⟩ : Option Addr) else some ⟨g, k * 3 + 3, none⟩) = some ⟨g, o, none⟩ ∧ (0 < m → o = (k + 1) * 3) := by
    by_cases h : c3 = 1
    · exact ⟨k * 3, by rw [if_pos h], fun hm => by omega⟩
    · exact ⟨k * 3 + 3, by rw [if_neg h], fun _ => by omega⟩
  have hm0 : (((m : Int) + 1) == 0) = false := beq_eq_false_iff_ne.2 (by omega)
  have h1m : (1 : Int) ≤ (m : Int) + 1 := by omega
  have hm1 : 1 ≤ m + 1 := by omega
  obtain ⟨X, hX⟩ : ∃ u, u = W.alloc (.cells #[.int .i64 no, .int .i64 ut, .slice ar nr cr] 64) := ⟨_, rfl⟩
  have bX : Below W.heap.size W X := by rw [hX]; exact (Below.refl _ _).alloc (Nat.le_refl _) _
  have x0 : X.heap[w.heap.size + 2]? = some (.cells #[.int .i64 no, .int .i64 ut, .slice ar nr cr] 64 (0, 0)) := by rw [hX, ← zW]; exact heap_alloc_new W _
  have zX : X.heap.size = w.heap.size + 3 := by rw [hX]; simp [zW]
  have p0 := blk_cell b0 0 (v := .slice a0 n0 c0) rfl
  have p1 := blk_cell b0 1 (v := .int .i64 t) rfl
  have p2 := blk_cell b0 2 (v := .slice a2 n2 c2) rfl
  have p3 := blk_cell b0 3 (v := .slice (some ⟨g, k * 3, none⟩) (m + 1) c3) rfl
  have p4 := blk_cell b0 4 (v := .slice a4 n4 c4) rfl
  have p5 := blk_cell b0 5 (v := .int .i64 la) rfl
  have p6 := blk_cell b0 6 (v := .int .i64 up) rfl
  have HB0 := Hid.mk b0
  have BX := B0.trans (bX.mono B0.size)
  have HRA := Hid.mk (show At X ar rw0 from At.below hRat.2.2.1 bX)
  have HLR := Hid.mk hRat.1
  have hnr' : nr ≤ 1048576 := by have := hRat.1; omega
  have HNR := Hid.mk hRat.2.2.2
  have HL4 := Hid.mk o4l
  have HO42 := Hid.mk (owns_below o4 BX)
  have HOM := Hid.mk hom
  clear hRat hR0 hGR hrow hcs0 hcs1 hsub hLW o4 o4l hL hom
  go_enter Try.func26, Try.ntmps26
  go_upto_region 1 with fail
  rw [← hW]
  clear hW
  go_upto_region 19 with fail
  rw [← hX]
  clear hX g0 g1 g2 p0 p1 p2 p3 p4 p5 p6
  have b0 := blk_below HB0.out bX
  have b1 := blk_below b1 bX
  have p4 := blk_cell b0 4 (v := .slice a4 n4 c4) rfl
  have q2 := blk_cell x0 2 (v := .slice ar nr cr) rfl
  go_wp2_with (at_builtin; refine wpList_app_vals rfl (.tmp 82) (.tmp 84) 22 rfl 0 3 i0 (.int .i64 0) 1 8 Try.underlying22 hi0 hx0 hx1 hx2 rfl (by decide) (.slice a4 n4 c4) n4 (ou.map (.int .i64)) rfl HO42.out ar nr cr (rw0.map (.int .i64)) rfl (by rw [List.length_map, HLR.out]; omega) (vals_of HRA.out) (ones_of _) (nil_of HRA.out HLR.out HNR.out) (by unfold maxLen; omega) (by omega) (Nat.zero_le _) ?_)
  intro r d w2 ho2 hg2 ht2
  have hS2 : Off (fun b => F4 b ∨ w.heap.size ≤ b) X w2 := Off.grown hg2 (fun k hk => .inl (o4F k hk))
  have hold : ∀ k, w.heap.size ≤ k → k < X.heap.size → w2.heap[k]? = X.heap[k]? := fun k hk hk2 => hg2.block k hk2 (fun e => by have := hF k (f4 k (o4F k e.symm)); omega)
  have k0 := (hold w.heap.size (by omega) (by omega)).trans b0
  have k1 := (hold (w.heap.size + 1) (by omega) (by omega)).trans b1
  have k2 := (hold (w.heap.size + 2) (by omega) (by omega)).trans x0
  have z2 := hS2.size
  have HAT : Hid (∀ b, (Value.slice r (n4 + nr) d).ownBlock = some b → F4 b ∨ (w.heap.size + 3 ≤ b ∧ b < w2.heap.size)) := Hid.mk (fun b hb => by
    have hlt := (ho2.lt b hb).2
    rcases ht2 with q | q
    · rw [q] at hb; exact .inl (o4F b hb)
    · rw [q] at hb
      have h2 := Option.some.inj hb
      exact .inr ⟨by omega, hlt⟩)
  have HO2 := Hid.mk ho2
  have HO := Hid.mk ((Off.below (F := fun b => F4 b ∨ w.heap.size ≤ b) BX).trans hS2)
  clear ho2 hg2 ht2 hold hS2 p4 q2 HO42 HRA b0 b1 x0 bX BX
  obtain ⟨X2, hX2⟩ : ∃ u, u = w2.setCell ⟨w.heap.size, 4, none⟩ (.slice r (n4 + nr) d) := ⟨_, rfl⟩
  have e0 : X2.heap[w.heap.size]? = some (.cells #[.slice a0 n0 c0, .int .i64 t, .slice a2 n2 c2, .slice (some ⟨g, k * 3, none⟩) (m + 1) c3, .slice r (n4 + nr) d, .int .i64 la, .int .i64 up] 29 (0, 0)) := by rw [hX2]; exact blk_set k0 4 _
  have e1 : X2.heap[w.heap.size + 1]? = some (.cells #[.slice none 0 0, .int .i64 0, .slice none 0 0, .slice none 0 0, .slice none 0 0, .int .i64 0, .int .i64 0] 29 (0, 0)) := by rw [hX2]; exact blk_other k1 (by simp) _
  have e2 : X2.heap[w.heap.size + 2]? = some (.cells #[.int .i64 no, .int .i64 ut, .slice ar nr cr] 64 (0, 0)) := by rw [hX2]; exact blk_other k2 (by simp) _
  have hS : Off (fun b => b = w.heap.size) w2 X2 := by rw [hX2]; exact Off.set (F := fun b => b = w.heap.size) (a := ⟨w.heap.size, 4, none⟩) rfl _
  have q4 := blk_cell k0 4 (v := .slice a4 n4 c4) rfl
  have g4 := blk_frozen k0 4
  go_upto_region 20 with fail
  rw [← hX2]
  clear hX2 q4 g4 k0 k1 k2
  obtain ⟨X3, hX3⟩ : ∃ u, u = X2.setCell ⟨w.heap.size, 5, none⟩ (.int .i64 no) := ⟨_, rfl⟩
  have k0 : X3.heap[w.heap.size]? = some (.cells #[.slice a0 n0 c0, .int .i64 t, .slice a2 n2 c2, .slice (some ⟨g, k * 3, none⟩) (m + 1) c3, .slice r (n4 + nr) d, .int .i64 no, .int .i64 up] 29 (0, 0)) := by rw [hX3]; exact blk_set e0 5 _
  have k1 : X3.heap[w.heap.size + 1]? = some (.cells #[.slice none 0 0, .int .i64 0, .slice none 0 0, .slice none 0 0, .slice none 0 0, .int .i64 0, .int .i64 0] 29 (0, 0)) := by rw [hX3]; exact blk_other e1 (by simp) _
  have k2 : X3.heap[w.heap.size + 2]? = some (.cells #[.int .i64 no, .int .i64 ut, .slice ar nr cr] 64 (0, 0)) := by rw [hX3]; exact blk_other e2 (by simp) _
  have hS : Off (fun b => b = w.heap.size) w2 X3 := hS.trans (by rw [hX3]; exact Off.set (F := fun b => b = w.heap.size) (a := ⟨w.heap.size, 5, none⟩) rfl _)
  have s0 := blk_cell e2 0 (v := .int .i64 no) rfl
  have q5 := blk_cell e0 5 (v := .int .i64 la) rfl
  have g5 := blk_frozen e0 5
  go_upto_region 21 with fail
  rw [← hX3]
  clear hX3 q5 g5 s0 e0 e1 e2
  obtain ⟨X4, hX4⟩ : ∃ u, u = X3.setCell ⟨w.heap.size, 6, none⟩ (.int .i64 ut) := ⟨_, rfl⟩
  have e0 : X4.heap[w.heap.size]? = some (.cells #[.slice a0 n0 c0, .int .i64 t, .slice a2 n2 c2, .slice (some ⟨g, k * 3, none⟩) (m + 1) c3, .slice r (n4 + nr) d, .int .i64 no, .int .i64 ut] 29 (0, 0)) := by rw [hX4]; exact blk_set k0 6 _
  have e1 : X4.heap[w.heap.size + 1]? = some (.cells #[.slice none 0 0, .int .i64 0, .slice none 0 0, .slice none 0 0, .slice none 0 0, .int .i64 0, .int .i64 0] 29 (0, 0)) := by rw [hX4]; exact blk_other k1 (by simp) _
  have hS : Off (fun b => b = w.heap.size) w2 X4 := hS.trans (by rw [hX4]; exact Off.set (F := fun b => b = w.heap.size) (a := ⟨w.heap.size, 6, none⟩) rfl _)
  have s1 := blk_cell k2 1 (v := .int .i64 ut) rfl
  have q6 := blk_cell k0 6 (v := .int .i64 up) rfl
  have g6 := blk_frozen k0 6
  go_upto_region 22 with fail
  rw [← hX4]
  clear hX4 q6 g6 s1 k0 k1 k2
  obtain ⟨X5, hX5⟩ : ∃ u, u = X4.setCell ⟨w.heap.size, 3, none⟩ (.slice (some ⟨g, o, none⟩) m (c3 - 1)) := ⟨_, rfl⟩
  have k0 : X5.heap[w.heap.size]? = some (.cells #[.slice a0 n0 c0, .int .i64 t, .slice a2 n2 c2, .slice (some ⟨g, o, none⟩) m (c3 - 1), .slice r (n4 + nr) d, .int .i64 no, .int .i64 ut] 29 (0, 0)) := by rw [hX5]; exact blk_set e0 3 _
  have k1 : X5.heap[w.heap.size + 1]? = some (.cells #[.slice none 0 0, .int .i64 0, .slice none 0 0, .slice none 0 0, .slice none 0 0, .int .i64 0, .int .i64 0] 29 (0, 0)) := by rw [hX5]; exact blk_other e1 (by simp) _
  have hS : Off (fun b => b = w.heap.size) w2 X5 := hS.trans (by rw [hX5]; exact Off.set (F := fun b => b = w.heap.size) (a := ⟨w.heap.size, 3, none⟩) rfl _)
  have q3 := blk_cell e0 3 (v := .slice (some ⟨g, k * 3, none⟩) (m + 1) c3) rfl
  have g3 := blk_frozen e0 3
  go_upto_region 23 with fail
  (try rw [hoo])
  rw [← hX5]
  clear hX5 q3 g3 e0 e1
  have z4 := hS.size
  have HOW := Hid.mk (ownsRow_frame HO2.out (fun b hb hl => hS.block b hl (fun e => by
    have h2 : b = w.heap.size := e
    rcases HAT.out b hb with q | q
    · have := hF b (f4 b q); omega
    · omega)))
  have HNB : Hid (∀ b, (Value.slice r (n4 + nr) d).ownBlock = some b → b ≠ w.heap.size + 1) := Hid.mk (fun b hb e => by
    rcases HAT.out b hb with q | q
    · have := hF b (f4 b q); omega
    · omega)
  have HO := Hid.mk (HO.out.trans (hS.mono (F' := fun b => F4 b ∨ w.heap.size ≤ b) (fun b h => .inr (by have h2 : b = w.heap.size := h; omega))))
  have p0 := blk_cell k0 0 (v := .slice a0 n0 c0) rfl
  have p1 := blk_cell k0 1 (v := .int .i64 t) rfl
  have p2 := blk_cell k0 2 (v := .slice a2 n2 c2) rfl
  have p3 := blk_cell k0 3 (v := .slice (some ⟨g, o, none⟩) m (c3 - 1)) rfl
  have p4 := blk_cell k0 4 (v := .slice r (n4 + nr) d) rfl
  have p5 := blk_cell k0 5 (v := .int .i64 no) rfl
  have p6 := blk_cell k0 6 (v := .int .i64 ut) rfl
  have y0 := blk_cell k1 0 (v := .slice none 0 0) rfl
  have y1 := blk_cell k1 1 (v := .int .i64 0) rfl
  have y2 := blk_cell k1 2 (v := .slice none 0 0) rfl
  have y3 := blk_cell k1 3 (v := .slice none 0 0) rfl
  have y4 := blk_cell k1 4 (v := .slice none 0 0) rfl
  have y5 := blk_cell k1 5 (v := .int .i64 0) rfl
  have y6 := blk_cell k1 6 (v := .int .i64 0) rfl
  have fz0 := blk_frozen k1 0
  have fz1 := blk_frozen k1 1
  have fz2 := blk_frozen k1 2
  have fz3 := blk_frozen k1 3
  have fz4 := blk_frozen k1 4
  have fz5 := blk_frozen k1 5
  have fz6 := blk_frozen k1 6
  clear hS HO2
  obtain ⟨Y, hY⟩ : ∃ u, u = stores X5 (w.heap.size + 1) 0 [.slice a0 n0 c0, .int .i64 t, .slice a2 n2 c2, .slice (some ⟨g, o, none⟩) m (c3 - 1), .slice r (n4 + nr) d, .int .i64 no, .int .i64 ut] := ⟨_, rfl⟩
  have S : Off (fun b => b = w.heap.size + 1) X5 Y := by rw [hY]; exact stores_off (F := fun b => b = w.heap.size + 1) _ _ _ _ rfl
  have zY : Y.heap.size = X5.heap.size := by rw [hY]; exact stores_size _ _ _ _
  have HY2 := Hid.mk (HO.out.trans (S.mono (F' := fun b => F4 b ∨ w.heap.size ≤ b) (fun b h => .inr (by have h2 : b = w.heap.size + 1 := h; omega))))
  have R : Hid (S3Ret (.returned (.tuple #[.agg #[.slice a0 n0 c0, .int .i64 t, .slice a2 n2 c2, .slice (some ⟨g, o, none⟩) m (c3 - 1), .slice r (n4 + nr) d, .int .i64 no, .int .i64 ut], .bool true])) w Y F a0 n0 c0 t a2 n2 c2 g k m c3 n3o c3o src pd pso (ou ++ rw0) no ut) := Hid.mk (by
    refine ⟨r, n4 + nr, d, o, rfl, HOM.out, RSink.own_mk (F0 := F0) (F2 := F2) (F3 := F3) (F4 := fun b => F4 b ∨ (w.heap.size ≤ b ∧ b < Y.heap.size))
      (RInts.ownOff h0 HY2.out (fun b k q => q.elim (d04 b k) (fun q => by have := hF b (f0 b k); omega)))
      (RInts.ownOff h2 HY2.out (fun b k q => q.elim (d24 b k) (fun q => by have := hF b (f2 b k); omega)))
      (RPrepareds.ownOff h3 HY2.out (fun b k q => q.elim (d34 b k) (fun q => by have := hF b (f3 b k); omega)))
      (RInts.own_iff.2 ⟨by rw [List.length_append, HL4.out, HLR.out], by omega, by
        rw [List.map_append]
        exact ownsRow_frame HOW.out (fun b hb _ => S.block b (by have := (HOW.out.lt b hb).2; omega) (fun e => by have h2 : b = w.heap.size + 1 := e; exact HNB.out b hb h2)), fun b hb => (HAT.out b hb).imp id (fun h => ⟨by omega, by omega⟩)⟩)
      (fun b h => .inl (f0 b h)) (fun b h => .inl (f2 b h)) (fun b h => .inl (f3 b h)) (fun b h => h.elim (fun h => .inl (f4 b h)) .inr) d02 d03 (fun b h k => k.elim (d04 b h) (fun k => by have := hF b (f0 b h); omega)) d23 (fun b h k => k.elim (d24 b h) (fun k => by have := hF b (f2 b h); omega)) (fun b h k => k.elim (d34 b h) (fun k => by have := hF b (f3 b h); omega)),
      Off.cut (HY2.out.mono (fun b h => h.elim (fun h => .inl (f4 b h)) .inr))⟩)
  have HY := Hid.mk hY
  clear S hY zY HO HOW k0 k1
  go_wp2
  refine bodyPost_ret (v := .tuple #[.agg #[.slice a0 n0 c0, .int .i64 t, .slice a2 n2 c2, .slice (some ⟨g, o, none⟩) m (c3 - 1), .slice r (n4 + nr) d, .int .i64 no, .int .i64 ut], .bool true]) (by simp [results, Try.results26, go_sem, y0, y1, y2, y3, y4, y5, y6]) rfl ?_
  have h := R.out
  rw [HY.out] at h
  exact h

end Go.Proofs.Ytmbjmmnodcebbaa
