/- Contract of the model's l15Own. -/
import Derived.Test.YtnfdncofobkjhaaM11
import Derived.Test.YtnfdncofobkjhaaM13
import Derived.Test.YtnfdncofobkjhaaM22
import Derived.Test.YtnfdncofobkjhaaM19
import Derived.Test.YtnfdncofobkjhaaM5
namespace Go.Proofs.Ytnfdncofobkjhaa
open Go.RowKit

theorem own_sliceK {w : World} {base size : Nat} {e : TypeId} {a : Option Addr} {n c : Nat} {cs : List Value} (h : w.ownsRow base e size (.slice a n c) n cs) (hn : 0 < n) : ∃ g, a = some ⟨g, 0, none⟩ := by
  rcases h.2 with ⟨hv, h0⟩ | ⟨g, cap, cur, hv, _⟩
  · simp only [Value.slice.injEq] at hv
    omega
  · simp only [Value.slice.injEq, true_and] at hv
    exact ⟨g, hv.1⟩
/-- One round: a wire is laid, the box tells the list. The box lies ahead of all wires. -/
theorem own_round {LB PB g0 n0 d0 k d : Nat} {r : Option Addr} {X0 wY w5 X6 : World} {xs : List TWire} {cells : List Value} {G : Nat → Nat → Prop} {v : Value} (hpl : PB < LB) (hX : X6 = w5.setCell ⟨PB, 1, none⟩ (.slice r k d)) (hb : w5.heap[PB]? = some (.cells #[.slice (some ⟨g0, 0, none⟩) n0 d0, v] 32 (0, 0)))
    (hL : Laid RWire w5 (From LB w5.heap.size) 76 r k d xs cells G k) (hB : Below LB wY w5) (hO : Off (fun b => b = PB ∨ LB ≤ b) X0 wY) :
    X6.heap[PB]? = some (.cells #[.slice (some ⟨g0, 0, none⟩) n0 d0, .slice r k d] 32 (0, 0)) ∧ Laid RWire X6 (From LB X6.heap.size) 76 r k d xs cells G k ∧ Off (fun b => b = PB ∨ LB ≤ b) X0 X6 := by
  subst hX
  have hz : (w5.setCell ⟨PB, 1, none⟩ (.slice r k d)).heap.size = w5.heap.size := size_set _ _ _
  refine ⟨blk_set hb 1 _, ?_, (hO.trans ⟨hB.os, hB.tape, hB.output, hB.size, fun b _ hn => hB.block b (Nat.lt_of_not_le (fun h => hn (.inr h)))⟩).trans (Off.set (F := fun b => b = PB ∨ LB ≤ b) (a := ⟨PB, 1, none⟩) (.inl rfl) _)⟩
  rw [hz]
  exact hL.frame (fun b hb2 _ => Below.heap_setCell _ _ _ _ (by show b ≠ PB; have := hb2.1; omega))

/-- A wire is appended to the list that the box tells. -/
theorem push_wire {w : World} {ops : Array Oper} {op : Oper} {a : Act} {K : Act → World → Prop} {Q : Exit → Act → World → Prop} {E : Prop} (hgd : op.guard = none) (sx xx : Operand) (ho : op.op = .call { callee := .builtin .append, args := #[sx, xx], argTypes := #[30, 30] })
    (LB : Nat) (r : Option Addr) (k d : Nat) (cells : List Value) (w2 : World) {v0 v1 v2 : Value} (hv : w = w2.alloc (.cells #[v0, v1, v2] 76)) (hs : a.eval sx = .slice r k d) (hx : a.eval xx = .slice (some ⟨w2.heap.size, 0, none⟩) 1 1)
    (hown : w2.ownsRow LB 76 3 (.slice r k d) k cells) (hk : k ≤ 16) (hLB : LB ≤ w2.heap.size) (h1 : ∀ u ∈ [v0, v1, v2], u.oneCell' = true := by (intro u hu; simp at hu; rcases hu with rfl | rfl | rfl <;> rfl))
    (h : ∀ r' d' w', w'.ownsRow LB 76 3 (.slice r' (k + 1) d') (k + 1) (cells ++ [v0, v1, v2]) → (w2.alloc (.cells #[v0, v1, v2] 76)).grownBy w' (Value.slice r k d).ownBlock → ((Value.slice r' (k + 1) d').ownBlock = (Value.slice r k d).ownBlock ∨ (Value.slice r' (k + 1) d').ownBlock = some (w2.heap.size + 1)) → K (a.put op.dst (.slice r' (k + 1) d')) w') :
    if Region.wanted op (yielded ops a.tmps) = true then Oper.wp Try.prog op a w K Q else E := by
  obtain ⟨j0, hj0, hy0, hy1, hy2⟩ := info_parts Try.infoWireC
  subst hv
  have bA : Below w2.heap.size w2 (w2.alloc (.cells #[v0, v1, v2] 76)) := (Below.refl _ _).alloc (Nat.le_refl _) _
  have hn := heap_alloc_new w2 (.cells #[v0, v1, v2] 76)
  refine step_append_vals hgd sx xx 30 ho LB 76 j0 (.agg #[.slice none 0 0, .slice none 0 0, .bool false]) 3 56 Try.underlying30 hj0 hy0 hy1 hy2 rfl (by decide) (.slice r k d) k cells hs (owns_below hown bA) (some ⟨w2.heap.size, 0, none⟩) 1 1 [v0, v1, v2] hx rfl
    (fun ad he => by cases he; intro j u hu; match j, hu with | 0, hu => (obtain rfl := Option.some.inj hu; exact blk_cell hn 0 rfl) | 1, hu => (obtain rfl := Option.some.inj hu; exact blk_cell hn 1 rfl) | 2, hu => (obtain rfl := Option.some.inj hu; exact blk_cell hn 2 rfl)) h1 (fun h => by cases h) (by unfold maxLen; omega) (by omega) (by simp; omega) (fun r6 d6 w6 ho5 hg5 ht5 => h r6 d6 w6 ho5 hg5 (ht5.imp id (fun h => h.trans (by simp))))
/-- What comes of it. -/
theorem own_tail {LB PB g0 n0 d0 k d d6 : Nat} {r r5 r9 r6 : Option Addr} {m0 d5 m1 d9 : Nat} {wY w2 w5 : World} {xs : List TWire} {x : TWire} {o : Bool} {cells : List Value} {G : Nat → Nat → Prop} (HL : Laid RWire wY (From LB wY.heap.size) 76 r k d xs cells G k) (zloY : LB ≤ wY.heap.size) (hB2 : Below wY.heap.size wY w2)
    (hq0 : x.1.length = m0) (hq1 : x.2.1.length = m1) (ho : o = x.2.2) (hm0 : m0 ≤ 1048576) (hm1 : m1 ≤ 1048576) (h5 : w2.ownsRow 0 3 1 (.slice r5 m0 d5) m0 (x.1.map (.int .i64))) (h9 : w2.ownsRow 0 3 1 (.slice r9 m1 d9) m1 (x.2.1.map (.int .i64)))
    (b5 : ∀ b, (Value.slice r5 m0 d5).ownBlock = some b → wY.heap.size ≤ b) (b9 : ∀ b, (Value.slice r9 m1 d9).ownBlock = some b → wY.heap.size ≤ b) (hd : ∀ b, (Value.slice r5 m0 d5).ownBlock = some b → (Value.slice r9 m1 d9).ownBlock = some b → False)
    (ho5 : w5.ownsRow LB 76 3 (.slice r6 (k + 1) d6) (k + 1) (cells ++ [.slice r5 m0 d5, .slice r9 m1 d9, .bool o])) (hg5 : (w2.alloc (.cells #[.slice r5 m0 d5, .slice r9 m1 d9, .bool o] 76)).grownBy w5 (Value.slice r k d).ownBlock)
    (ht5 : (Value.slice r6 (k + 1) d6).ownBlock = (Value.slice r k d).ownBlock ∨ (Value.slice r6 (k + 1) d6).ownBlock = some (w2.heap.size + 1)) (bp : wY.heap[PB]? = some (.cells #[.slice (some ⟨g0, 0, none⟩) n0 d0, .slice r k d] 32 (0, 0))) (hpl : PB < LB) (hk : k ≤ 16) :
    (∃ G', Laid RWire w5 (From LB w5.heap.size) 76 r6 (k + 1) d6 (xs ++ [x]) (cells ++ [.slice r5 m0 d5, .slice r9 m1 d9, .bool o]) G' (k + 1)) ∧ Below LB wY w5 ∧ w5.heap[PB]? = some (.cells #[.slice (some ⟨g0, 0, none⟩) n0 d0, .slice r k d] 32 (0, 0)) ∧
      ∀ (j : Nat) (v : Value), w2.cell? ⟨wY.heap.size, j, none⟩ = some v → w5.cell? ⟨wY.heap.size, j, none⟩ = some v := by
  subst ho
  have hbn := Laid.told_below HL (Below.refl LB wY) zloY hB2 hg5
  refine ⟨Laid.told HL zloY hB2 (RWire.own_mk (F := From wY.heap.size w2.heap.size) (bo2 := x.2.2) (RInts.own_iff.2 ⟨hq0, by omega, h5, fun _ h => h⟩) (RInts.own_iff.2 ⟨hq1, by omega, h9, fun _ h => h⟩) (fun b hb => ⟨b5 b hb, (h5.lt b hb).2⟩) (fun b hb => ⟨b9 b hb, (h9.lt b hb).2⟩) (fun b hb hb' => hd b hb hb')) ho5 hg5 (by omega) ht5, hbn, (hbn.block PB hpl).trans bp, fun j v hv => ?_⟩
  have bA : Below w2.heap.size w2 (w2.alloc (.cells #[.slice r5 m0 d5, .slice r9 m1 d9, .bool x.2.2] 76)) := (Below.refl _ _).alloc (Nat.le_refl _) _
  exact (Off.grown (F := fun b => (Value.slice r k d).ownBlock = some b) hg5 (fun _ hk => hk)).cell (cell_later bA hv) (fun e => by have := (HL.outerF _ e).2; simp only at this; omega)

set_option maxRecDepth 100000 in
set_option maxHeartbeats 40000000 in
theorem l15Own_any (a0 : Option Addr) (n0 c0 : Nat) (a1 : Option Addr) (n1 c1 : Nat) (ps : List TProc) (ws : List TWire) (w : World) (h0 : ps.length = n0) (h1 : ws.length = n1) (hp0 : 0 < n0) (hn0 : n0 ≤ 4) (hp1 : 0 < n1) (hn1 : n1 ≤ 16)
    (hsm : ∀ (i : Nat) (x : TWire), ws[i]? = some x → x.1.length ≤ 1048576 ∧ x.2.1.length ≤ 1048576) (ha0 : AtSl RProc w a0 ps) (ha1 : AtSl RWire w a1 ws) :
    Calls Try.prog 32 #[.agg #[.slice a0 n0 c0, .slice a1 n1 c1]] w fun e w' => ∃ g0 d0 g1 d1 cells0 cells1 G, e = .returned (.agg #[.slice (some ⟨g0, 0, none⟩) n0 d0, .slice (some ⟨g1, 0, none⟩) n1 d1]) ∧ SV w' (fun b => w.heap.size ≤ b) g0 n0 d0 g1 n1 d1 ps ws cells0 cells1 G ∧ Below w.heap.size w w' := by
  obtain ⟨i0, hi, hz0, hz1, hz2⟩ := info_parts Try.infoInt
  obtain ⟨j0, hj0, hy0, hy1, hy2⟩ := info_parts Try.infoWireC
  obtain ⟨p0, hp0i, hx0, hx1, hx2⟩ := info_parts Try.infoProcC
  obtain ⟨W1, hW1⟩ : ∃ W, W = w.alloc (.cells #[.slice a0 n0 c0, .slice a1 n1 c1] 32) := ⟨_, rfl⟩
  obtain ⟨W, hW⟩ : ∃ W, W = W1.alloc (.cells #[.slice none 0 0, .slice none 0 0] 32) := ⟨_, rfl⟩
  have z1 : W1.heap.size = w.heap.size + 1 := by rw [hW1]; simp
  have zW : W.heap.size = w.heap.size + 2 := by rw [hW]; simp [z1]
  have B01 : Below w.heap.size w W1 := by rw [hW1]; exact (Below.refl _ _).alloc (Nat.le_refl _) _
  have B12 : Below W1.heap.size W1 W := by rw [hW]; exact (Below.refl _ _).alloc (Nat.le_refl _) _
  have bb : W.heap[w.heap.size]? = some (.cells #[.slice a0 n0 c0, .slice a1 n1 c1] 32 (0, 0)) := blk_below (by rw [hW1]; exact heap_alloc_new w _) B12
  have br : W.heap[w.heap.size + 1]? = some (.cells #[.slice none 0 0, .slice none 0 0] 32 (0, 0)) := by rw [hW, ← z1]; exact heap_alloc_new W1 _
  have B0 : Below w.heap.size w W := B01.trans (B12.mono (by omega))
  have hWW : W = (w.alloc (.cells #[.slice a0 n0 c0, .slice a1 n1 c1] 32)).alloc (.cells #[.slice none 0 0, .slice none 0 0] 32) := by rw [hW, hW1]
  have HZW := Hid.mk zW
  clear B01 B12 hW hW1 z1 zW W1
  have H0 := Hid.mk h0
  have H1 := Hid.mk h1
  have HSM := Hid.mk hsm
  have HA1 := Hid.mk (AtSl.below ha1 B0)
  obtain ⟨pb, po, rfl, hpb, hc⟩ := RProc.row (AtSl.below ha0 B0) (by omega)
  obtain ⟨L, l1, l2, l3, l4⟩ := row_cells (w := W) (b := pb) (off := po) (R := fun i vs => ∀ p, ps[i]? = some p → vs = [.int .i64 p.1, .int .i64 p.2.1, .bool p.2.2]) n0 (fun i hi => by
    obtain ⟨p, hp⟩ : ∃ p, ps[i]? = some p := ⟨_, List.getElem?_eq_getElem (by omega)⟩
    obtain ⟨q0, q1, q2, _⟩ := hc i p hp
    refine ⟨[.int .i64 p.1, .int .i64 p.2.1, .bool p.2.2], rfl, fun j v hv => ?_, fun u hu => ?_, fun p' hp' => by rw [hp] at hp'; obtain rfl := Option.some.inj hp'; rfl⟩
    · match j, hv with
      | 0, hv => obtain rfl := Option.some.inj hv; exact q0
      | 1, hv => obtain rfl := Option.some.inj hv; exact q1
      | 2, hv => obtain rfl := Option.some.inj hv; exact q2
    · simp only [List.mem_cons, List.not_mem_nil, or_false] at hu
      rcases hu with rfl | rfl | rfl <;> rfl)
  have HL1 := Hid.mk l1
  have HL2 := Hid.mk l2
  have HL3 := Hid.mk l3
  have HL4 := Hid.mk l4
  have q0 := blk_cell bb 0 (v := .slice (some ⟨pb, po, none⟩) n0 c0) rfl
  have q1 := blk_cell bb 1 (v := .slice a1 n1 c1) rfl
  clear ha0 ha1 h0 h1 hsm hc l1 l2 l3 l4
  go_enter Try.func32, Try.ntmps32
  go_upto_region 1 with fail
  rw [← hWW]
  clear hWW
  have u0' : (W.alloc (.cells #[] 74)).cell? ⟨w.heap.size, 0, none⟩ = some (.slice (some ⟨pb, po, none⟩) n0 c0) := cell_later ((Below.refl _ _).alloc (Nat.le_refl _) _) q0
  go_wp2_with (at_builtin; refine wpList_app_vals rfl (.tmp 6) (.tmp 8) 29 rfl W.heap.size 74 p0 (.agg #[.int .i64 0, .int .i64 0, .bool false]) 3 24 Try.underlying29 hp0i hx0 hx1 hx2 rfl (by decide) (.slice (some ⟨W.heap.size, 0, none⟩) 0 0) 0 [] rfl (own_void W 74 3) (some ⟨pb, po, none⟩) n0 c0 L rfl HL1.out (fun ad he j u hu => by cases he; have q : W.cell? ⟨pb, po + j, none⟩ = some u := (HL2.out j (by have := (List.getElem?_eq_some_iff.1 hu).1; have := HL1.out; omega)).trans hu; rw [Addr.add_lit]; exact cell_later ((Below.refl _ _).alloc (Nat.le_refl _) _) q) HL3.out (fun h => by cases h) (by unfold maxLen; omega) (by omega) (by simp) ?_)
  intro r0 d0 w1 ho hg ht
  have zW := HZW.out
  have hb : Below W.heap.size W w1 := ((Below.refl _ _).alloc (Nat.le_refl _) _).grown hg (by simp) (fun j hj => by simp [Value.ownBlock] at hj; omega)
  (try simp only [Nat.zero_add, List.nil_append] at ho ht ⊢)
  obtain ⟨g0, rfl⟩ := own_sliceK ho hp0
  have hg0 := ho.lt g0 rfl
  have HO := Hid.mk ho
  have z1 := hb.size
  have br := blk_below br hb
  have bb := blk_below bb hb
  have B1 := B0.trans (hb.mono B0.size)
  have HA1 := Hid.mk (AtSl.below HA1.out hb)
  obtain ⟨PB, hPB⟩ : ∃ P, w1.heap.size = P := ⟨_, rfl⟩
  obtain ⟨X0, hX⟩ : ∃ u, u = w1.alloc (.cells #[.slice (some ⟨g0, 0, none⟩) n0 d0, .slice none 0 0] 32) := ⟨_, rfl⟩
  have bX : Below w1.heap.size w1 X0 := by rw [hX]; exact (Below.refl _ _).alloc (Nat.le_refl _) _
  have bp : X0.heap[PB]? = some (.cells #[.slice (some ⟨g0, 0, none⟩) n0 d0, .slice none 0 0] 32 (0, 0)) := by rw [hX, ← hPB]; exact heap_alloc_new w1 _
  have zX : X0.heap.size = PB + 1 := by rw [hX, ← hPB]; simp
  have br := blk_below br bX
  have bb := blk_below bb bX
  have BX := B1.trans (bX.mono B1.size)
  have HO := Hid.mk (owns_below HO.out bX)
  have HbX := Hid.mk bX
  have HPE := Hid.mk hPB
  obtain ⟨LB, hLB⟩ : ∃ l, X0.heap.size = l := ⟨_, rfl⟩
  have hpl : PB < LB := by omega
  have hpl2 : LB ≤ PB + 1 := by omega
  have hw1 : w.heap.size + 2 ≤ PB := by omega
  have hg0P : W.heap.size ≤ g0 ∧ g0 < PB := by omega
  have HLBX := Hid.mk hLB
  clear ho hg ht hb q0 q1 u0' zW zX hg0
  go_upto_region 2 with fail
  rw [← hX]
  clear hX bX
  (try rw [hPB])
  have q1 := blk_cell bb 1 (v := .slice a1 n1 c1) rfl
  clear hLB
  have HBP := Hid.mk bp
  have HBX := Hid.mk BX
  have HBR := Hid.mk br
  clear bp BX
  go_wp2_with fail
  go_loopw [14] (fun i wr => ∃ (k : Nat) (r : Option Addr) (d : Nat) (cells : List Value) (G : Nat → Nat → Prop), k ≤ n1 ∧ i = .int .i64 k ∧ wr.heap[PB]? = some (.cells #[.slice (some ⟨g0, 0, none⟩) n0 d0, .slice r k d] 32 (0, 0)) ∧ Laid RWire wr (From LB wr.heap.size) 76 r k d (ws.take k) cells G k ∧ Off (fun b => b = PB ∨ LB ≤ b) X0 wr) (fun i _ => n1 - (intOf i).toNat)
  case atStart => exact ⟨0, none, 0, [], _, Nat.zero_le _, rfl, HBP.out, Laid.none _ _ _ _, Off.refl _ _⟩
  case round =>
    obtain ⟨k, r, d, cells, G, hk, rfl, bp, hL, hoff⟩ := hrel
    obtain ⟨wY, rfl⟩ : ∃ x, x = wr := ⟨_, rfl⟩
    have zloY : LB ≤ wY.heap.size := by have := hoff.size; have := HLBX.out; omega
    have hsX := HLBX.out
    by_cases hlt : k < n1
    · obtain ⟨b, off, rfl, hb, hc⟩ := RWire.row HA1.out (by have := H1.out; omega)
      obtain ⟨x, hx⟩ : ∃ x, ws[k]? = some x := ⟨_, List.getElem?_eq_getElem (by have := H1.out; omega)⟩
      obtain ⟨e0, m0, f0, e1, m1, f1, y0, y1, y2, ⟨u0, _, u1, u2⟩, ⟨v0, _, v1, v2⟩⟩ := hc k x hx
      have BXY : Below PB X0 wY := ⟨hoff.os, hoff.tape, hoff.output, hoff.size, fun b' h => hoff.block b' (by have := HLBX.out; omega) (by omega)⟩
      have BwY : Below w1.heap.size w1 wY := HbX.out.trans (by have q := BXY; rw [← HPE.out] at q; exact q)
      have y0 := (BwY.cell hb).trans y0
      have y1 := (BwY.cell hb).trans y1
      have y2 := (BwY.cell hb).trans y2
      have hm0 : m0 ≤ 1048576 := by rw [← u0]; exact (HSM.out k x hx).1
      have hm1 : m1 ≤ 1048576 := by rw [← v0]; exact (HSM.out k x hx).2
      obtain ⟨o, ho⟩ : ∃ o, o = x.2.2 := ⟨_, rfl⟩
      rw [← ho] at y2
      have HOO := Hid.mk ho
      have hki : (k : Int) < (n1 : Int) := by omega
      obtain ⟨V, hV⟩ : ∃ V, V = wY.alloc (.cells #[.slice e0 m0 f0, .slice e1 m1 f1, .bool o] 76) := ⟨_, rfl⟩
      have bV : Below wY.heap.size wY V := by rw [hV]; exact (Below.refl _ _).alloc (Nat.le_refl _) _
      have v0' : V.heap[wY.heap.size]? = some (.cells #[.slice e0 m0 f0, .slice e1 m1 f1, .bool o] 76 (0, 0)) := by rw [hV]; exact heap_alloc_new wY _
      have zV : V.heap.size = wY.heap.size + 1 := by rw [hV]; simp
      have zlY : wY.heap.size < V.heap.size := by omega
      have s0 := blk_cell v0' 0 (v := .slice e0 m0 f0) rfl
      have s1 := blk_cell v0' 1 (v := .slice e1 m1 f1) rfl
      have s2 := blk_cell v0' 2 (v := .bool o) rfl
      have HTK : Hid (ws.take (k + 1) = ws.take k ++ [x]) := Hid.mk (by rw [List.take_add_one, hx]; rfl)
      have HQ0 := Hid.mk u0
      have HQ1 := Hid.mk v0
      have hAtF : ∀ {a : Option Addr} {xs : List Int}, At w1 a xs → At V a xs := fun {a xs} h => At.below (At.below h BwY) bV
      have HRW0 := Hid.mk (hAtF u1)
      have HRW1 := Hid.mk (hAtF v1)
      have hq2 := u2
      have hq3 := v2
      have HL := Hid.mk hL
      have HLB := Hid.mk (owns_base hL.outer (fun b hb => (hL.outerF b hb).1))
      have HLO := Hid.mk (fun b (hb : (Value.slice r k d).ownBlock = some b) => (hL.outerF b hb).2)
      have HLO0 := Hid.mk (fun b (hb : (Value.slice r k d).ownBlock = some b) => (hL.outerF b hb).1)
      have HBW := Hid.mk (Below.refl LB wY)
      have HPB := Hid.mk bp
      have HPBX := Hid.mk hpl
      have HOFF := Hid.mk hoff
      have bVY := Hid.mk bV
      clear hsX
      clear hc hx u0 u1 v0 v1 hL bV v0' hoff bp ho BXY BwY hAtF
      go_upto_region 5 with fail
      rw [← hV]
      clear hV y0 y1 y2
      refine wp_region_held_drew (S := fun w' => w'.cell? ⟨wY.heap.size, 0, none⟩ = some (.slice e0 m0 f0) ∧ w'.cell? ⟨wY.heap.size, 1, none⟩ = some (.slice e1 m1 f1) ∧ w'.cell? ⟨wY.heap.size, 2, none⟩ = some (.bool o)) (by kernel_rfl) ?_ (fun hHeld => ?_)
      · (try dsimp only)
        exact ⟨s0, s1, s2⟩
      refine tk 0 ?_
      refine tk 3 ?_
      refine tk 4 ?_
      refine tk 7 ?_
      refine tk 8 ?_
      refine tk 10 ?_
      refine tk 11 ?_
      obtain ⟨u0, hu0⟩ : ∃ u, u = V.drew := ⟨_, rfl⟩
      have Y0 : Below V.heap.size V u0 := by rw [hu0]; exact (Below.refl _ _).drew
      rw [← hu0]
      clear hu0
      have q1 := blk_cell (blk_below HPB.out (bVY.out.trans (Y0.mono (by omega)))) 1 (v := .slice r k d) rfl
      refine wpAnyH_ready (rs := [1, 2, 6]) (by kernel_rfl) (by simp) ?_
      refine AllReadyH.cons (o := ?_) ?_ (fun K hK => ?_) ?_
      rotate_left
      · (simp only [List.getElem?_toArray, List.getElem?_cons_zero, List.getElem?_cons_succ]; rfl)
      · go_simp
        (try go_wp2_with fail)
        refine hK.out _ _ ?_ (fun hHeld' => ?_)
        · (try dsimp only)
          exact ⟨(Y0.cell zlY).trans s0, (Y0.cell zlY).trans s1, (Y0.cell zlY).trans s2⟩
        clear hK K hHeld
        have hHeld := hHeld'
        clear hHeld'
        (try simp only [Act.put, List.setIfInBounds_toArray, List.set_cons_zero, List.set_cons_succ])
        refine wpAnyH_ready (rs := [2, 6]) (by kernel_rfl) (by simp) ?_
        refine AllReadyH.cons (o := ?_) ?_ (fun K hK => ?_) ?_
        rotate_left
        · (simp only [List.getElem?_toArray, List.getElem?_cons_zero, List.getElem?_cons_succ]; rfl)
        · go_simp
          (try go_wp2_with fail)
          refine hK.out _ _ ?_ (fun hHeld' => ?_)
          · (try dsimp only)
            exact ⟨((Y0.alloc Y0.size _).cell zlY).trans s0, ((Y0.alloc Y0.size _).cell zlY).trans s1, ((Y0.alloc Y0.size _).cell zlY).trans s2⟩
          clear hK K hHeld
          have hHeld := hHeld'
          clear hHeld'
          (try simp only [Act.put, List.setIfInBounds_toArray, List.set_cons_zero, List.set_cons_succ])
          obtain ⟨vk2, hv2⟩ : ∃ u, u = u0.alloc (.cells #[] 3) := ⟨_, rfl⟩
          have hbk2 : Below u0.heap.size u0 vk2 := by rw [hv2]; exact (Below.refl _ _).alloc (Nat.le_refl _) _
          have HBk2 : Below V.heap.size V vk2 := Y0.trans (hbk2.mono Y0.size)
          have HOE5 := Hid.mk (own_void u0 3 1)
          rw [← hv2] at HOE5
          have zE5 : vk2.heap.size = u0.heap.size + 1 := by rw [hv2]; simp
          have zF5 : V.heap.size ≤ u0.heap.size := Y0.size
          rw [← hv2]
          clear hv2
          refine wpAnyH_ready (rs := [5, 6]) (by kernel_rfl) (by simp) ?_
          refine AllReadyH.cons (o := ?_) ?_ (fun K hK => ?_) ?_
          rotate_left
          · (simp only [List.getElem?_toArray, List.getElem?_cons_zero, List.getElem?_cons_succ]; rfl)
          · refine step_append_all rfl (.tmp 20) (.tmp 22) 41 rfl 0 3 i0 (.int .i64 0) 8 Try.underlying41 hi hz0 hz1 hz2 rfl (.slice (some ⟨u0.heap.size, 0, none⟩) 0 0) 0 [] (by simp [Act.eval]) (owns_mono HOE5.out (Nat.zero_le _)) e0 m0 f0 x.1 (by simp [Act.eval]) HQ0.out (At.below HRW0.out HBk2) hq2 (by unfold maxLen; omega) (by omega) (Nat.zero_le _) (fun r5 d5 wk3 ho3 hg3 ht3 => ?_)
            simp only [Nat.zero_add, List.nil_append] at ho3 ht3 ⊢
            have HBk3 : Below V.heap.size V wk3 := HBk2.grown hg3 HBk2.size (fun j hj => by simp [Value.ownBlock] at hj; omega)
            have zA5 : vk2.heap.size ≤ wk3.heap.size := hg3.size
            have HO5 := Hid.mk ho3
            have HBL5 := Hid.mk (fun b (hb : (Value.slice r5 m0 d5).ownBlock = some b) => (show (b = u0.heap.size ∨ b = vk2.heap.size) ∧ b < wk3.heap.size from ⟨(ht3.imp (fun h => by rw [h] at hb; simp [Value.ownBlock] at hb; exact hb.symm) (fun h => by rw [h] at hb; exact (Option.some.inj hb).symm)), (ho3.lt b hb).2⟩))
            skip
            clear ho3 hg3 ht3 HOE5
            refine hK.out _ _ ?_ (fun hHeld' => ?_)
            · (try dsimp only)
              exact ⟨(HBk3.cell zlY).trans s0, (HBk3.cell zlY).trans s1, (HBk3.cell zlY).trans s2⟩
            clear hK K hHeld
            have hHeld := hHeld'
            clear hHeld'
            (try simp only [Act.put, List.setIfInBounds_toArray, List.set_cons_zero, List.set_cons_succ])
            refine wpAnyH_ready (rs := [6]) (by kernel_rfl) (by simp) ?_
            refine AllReadyH.cons (o := ?_) ?_ (fun K hK => ?_) AllReadyH.nil
            rotate_left
            · (simp only [List.getElem?_toArray, List.getElem?_cons_zero, List.getElem?_cons_succ]; rfl)
            go_simp
            (try go_wp2_with fail)
            refine hK.out _ _ ?_ (fun hHeld' => ?_)
            · (try dsimp only)
              exact ⟨((HBk3.alloc HBk3.size _).cell zlY).trans s0, ((HBk3.alloc HBk3.size _).cell zlY).trans s1, ((HBk3.alloc HBk3.size _).cell zlY).trans s2⟩
            clear hK K hHeld
            have hHeld := hHeld'
            clear hHeld'
            (try simp only [Act.put, List.setIfInBounds_toArray, List.set_cons_zero, List.set_cons_succ])
            obtain ⟨vk4, hv4⟩ : ∃ u, u = wk3.alloc (.cells #[] 3) := ⟨_, rfl⟩
            have hbk4 : Below wk3.heap.size wk3 vk4 := by rw [hv4]; exact (Below.refl _ _).alloc (Nat.le_refl _) _
            have HBk4 : Below V.heap.size V vk4 := HBk3.trans (hbk4.mono HBk3.size)
            have HO5 := Hid.mk (owns_below HO5.out hbk4)
            have HOE9 := Hid.mk (own_void wk3 3 1)
            rw [← hv4] at HOE9
            have zE9 : vk4.heap.size = wk3.heap.size + 1 := by rw [hv4]; simp
            have zF9 : V.heap.size ≤ wk3.heap.size := HBk3.size
            rw [← hv4]
            clear hv4
            refine wpAnyH_ready (rs := [9]) (by kernel_rfl) (by simp) ?_
            refine AllReadyH.cons (o := ?_) ?_ (fun K hK => ?_) AllReadyH.nil
            rotate_left
            · (simp only [List.getElem?_toArray, List.getElem?_cons_zero, List.getElem?_cons_succ]; rfl)
            refine step_append_all rfl (.tmp 24) (.tmp 26) 41 rfl 0 3 i0 (.int .i64 0) 8 Try.underlying41 hi hz0 hz1 hz2 rfl (.slice (some ⟨wk3.heap.size, 0, none⟩) 0 0) 0 [] (by simp [Act.eval]) (owns_mono HOE9.out (Nat.zero_le _)) e1 m1 f1 x.2.1 (by simp [Act.eval]) HQ1.out (At.below HRW1.out HBk4) hq3 (by unfold maxLen; omega) (by omega) (Nat.zero_le _) (fun r9 d9 wk5 ho3 hg3 ht3 => ?_)
            simp only [Nat.zero_add, List.nil_append] at ho3 ht3 ⊢
            have HBk5 : Below V.heap.size V wk5 := HBk4.grown hg3 HBk4.size (fun j hj => by simp [Value.ownBlock] at hj; omega)
            have zA9 : vk4.heap.size ≤ wk5.heap.size := hg3.size
            have HO9 := Hid.mk ho3
            have HBL9 := Hid.mk (fun b (hb : (Value.slice r9 m1 d9).ownBlock = some b) => (show (b = wk3.heap.size ∨ b = vk4.heap.size) ∧ b < wk5.heap.size from ⟨(ht3.imp (fun h => by rw [h] at hb; simp [Value.ownBlock] at hb; exact hb.symm) (fun h => by rw [h] at hb; exact (Option.some.inj hb).symm)), (ho3.lt b hb).2⟩))
            have HO5 := Hid.mk (ownsRow_frame HO5.out (fun b hb hl => hg3.block b hl (fun e => by have h1 := HBL5.out b hb; simp [Value.ownBlock] at e; omega)))
            skip
            clear ho3 hg3 ht3 HOE9
            refine hK.out _ _ ?_ (fun hHeld' => ?_)
            · (try dsimp only)
              exact ⟨(HBk5.cell zlY).trans s0, (HBk5.cell zlY).trans s1, (HBk5.cell zlY).trans s2⟩
            clear hK K hHeld
            have hHeld := hHeld'
            clear hHeld'
            (try simp only [Act.put, List.setIfInBounds_toArray, List.set_cons_zero, List.set_cons_succ])
            refine tk 12 ?_
            refine wpAnyH_ready (rs := [13]) (by kernel_rfl) (by simp) ?_
            refine AllReadyH.cons (o := ?_) ?_ (fun K hK => ?_) AllReadyH.nil
            rotate_left
            · (simp only [List.getElem?_toArray, List.getElem?_cons_zero, List.getElem?_cons_succ]; rfl)
            go_simp
            (try go_wp2_with fail)
            refine hK.out _ _ ?_ (fun hHeld' => ?_)
            · (try dsimp only)
              exact ⟨((HBk5.alloc HBk5.size _).cell zlY).trans s0, ((HBk5.alloc HBk5.size _).cell zlY).trans s1, ((HBk5.alloc HBk5.size _).cell zlY).trans s2⟩
            clear hK K hHeld
            have hHeld := hHeld'
            clear hHeld'
            (try simp only [Act.put, List.setIfInBounds_toArray, List.set_cons_zero, List.set_cons_succ])
            obtain ⟨vk6, hv6⟩ : ∃ u, u = wk5.alloc (.cells #[.slice r5 m0 d5, .slice r9 m1 d9, .bool o] 76) := ⟨_, rfl⟩
            have hbk6 : Below wk5.heap.size wk5 vk6 := by rw [hv6]; exact (Below.refl _ _).alloc (Nat.le_refl _) _
            have HBk6 : Below V.heap.size V vk6 := HBk5.trans (hbk6.mono HBk5.size)
            have HVE := Hid.mk hv6
            have HP2 := Hid.mk HBk5
            rw [← hv6]
            clear hv6
            refine wpAnyH_ready (rs := [14]) (by kernel_rfl) (by simp) ?_
            refine AllReadyH.cons (o := ?_) ?_ (fun K hK => ?_) AllReadyH.nil
            rotate_left
            · (simp only [List.getElem?_toArray, List.getElem?_cons_zero, List.getElem?_cons_succ]; rfl)
            refine push_wire rfl (.tmp 19) (.tmp 31) rfl LB r k d cells wk5 HVE.out (by simp [Act.eval]) (by simp [Act.eval]) (owns_below HLB.out (bVY.out.trans (HP2.out.mono (by omega)))) (by omega) (by have := HP2.out.size; omega) (h := fun r6 d6 wk7 ho5 hg5 ht5 => ?_)
            obtain ⟨⟨G', hLN⟩, hBN, bp5, hcs⟩ := own_tail HL.out zloY (bVY.out.trans (HP2.out.mono (by omega))) HQ0.out HQ1.out HOO.out hm0 hm1 HO5.out HO9.out (fun b hb => by have h1 := HBL5.out b hb; omega) (fun b hb => by have h1 := HBL9.out b hb; omega) (fun b hb hb' => by have h1 := HBL5.out b hb; have h2 := HBL9.out b hb'; omega) ho5 hg5 ht5 HPB.out HPBX.out (by omega)
            have s0' := hcs 0 _ ((HP2.out.cell zlY).trans s0)
            have s1' := hcs 1 _ ((HP2.out.cell zlY).trans s1)
            have s2' := hcs 2 _ ((HP2.out.cell zlY).trans s2)
            have HLN := Hid.mk hLN
            have HBN := Hid.mk hBN
            have q1 := blk_cell bp5 1 (v := .slice r k d) rfl
            have f1 := blk_frozen bp5 1
            clear ho5 hg5 ht5 hLN hBN hcs
            refine hK.out _ _ ?_ (fun hHeld' => ?_)
            · (try dsimp only)
              exact ⟨s0', s1', s2'⟩
            clear hK K hHeld
            have hHeld := hHeld'
            clear hHeld'
            (try simp only [Act.put, List.setIfInBounds_toArray, List.set_cons_zero, List.set_cons_succ])
            refine tk 15 ?_
            refine wpAnyH_ready (rs := [16]) (by kernel_rfl) (by simp) ?_
            refine AllReadyH.cons (o := ?_) ?_ (fun K hK => ?_) AllReadyH.nil
            rotate_left
            · (simp only [List.getElem?_toArray, List.getElem?_cons_zero, List.getElem?_cons_succ]; rfl)
            go_simp
            (try go_wp2_with fail)
            refine hK.out _ _ ?_ (fun hHeld' => ?_)
            · (try dsimp only)
              exact ⟨(cell_far _ (by have := HPBX.out; omega)).trans s0', (cell_far _ (by have := HPBX.out; omega)).trans s1', (cell_far _ (by have := HPBX.out; omega)).trans s2'⟩
            clear hK K hHeld
            have hHeld := hHeld'
            clear hHeld'
            (try simp only [Act.put, List.setIfInBounds_toArray, List.set_cons_zero, List.set_cons_succ])
            refine wpAnyH_done (by kernel_rfl) ?_ _
            rw [← HTK.out] at HLN
            obtain ⟨X6, hX6⟩ : ∃ u, u = wk7.setCell ⟨PB, 1, none⟩ (.slice r6 (k + 1) d6) := ⟨_, rfl⟩
            have HREL := Hid.mk (own_round HPBX.out hX6 bp5 HLN.out HBN.out HOFF.out)
            clear bp5 HLN HBN q1 f1 s0' s1' s2'
            rw [← hX6]
            clear hX6
            go_wp2
            go_roundw
            case rel => exact ⟨k + 1, r6, d6, _, _, by omega, by go_num, HREL.out⟩
            case measure => simp [intOf]; omega
          refine AllReadyH.cons (o := ?_) ?_ (fun K hK => ?_) AllReadyH.nil
          rotate_left
          · (simp only [List.getElem?_toArray, List.getElem?_cons_zero, List.getElem?_cons_succ]; rfl)
          · go_simp
            (try go_wp2_with fail)
            refine hK.out _ _ ?_ (fun hHeld' => ?_)
            · (try dsimp only)
              exact ⟨((HBk2.alloc HBk2.size _).cell zlY).trans s0, ((HBk2.alloc HBk2.size _).cell zlY).trans s1, ((HBk2.alloc HBk2.size _).cell zlY).trans s2⟩
            clear hK K hHeld
            have hHeld := hHeld'
            clear hHeld'
            (try simp only [Act.put, List.setIfInBounds_toArray, List.set_cons_zero, List.set_cons_succ])
            obtain ⟨vk9, hv9⟩ : ∃ u, u = vk2.alloc (.cells #[] 3) := ⟨_, rfl⟩
            have hbk9 : Below vk2.heap.size vk2 vk9 := by rw [hv9]; exact (Below.refl _ _).alloc (Nat.le_refl _) _
            have HBk9 : Below V.heap.size V vk9 := HBk2.trans (hbk9.mono HBk2.size)
            have HOE5 := Hid.mk (owns_below HOE5.out hbk9)
            have HOE9 := Hid.mk (own_void vk2 3 1)
            rw [← hv9] at HOE9
            have zE9 : vk9.heap.size = vk2.heap.size + 1 := by rw [hv9]; simp
            have zF9 : V.heap.size ≤ vk2.heap.size := HBk2.size
            rw [← hv9]
            clear hv9
            refine wpAnyH_ready (rs := [5]) (by kernel_rfl) (by simp) ?_
            refine AllReadyH.cons (o := ?_) ?_ (fun K hK => ?_) AllReadyH.nil
            rotate_left
            · (simp only [List.getElem?_toArray, List.getElem?_cons_zero, List.getElem?_cons_succ]; rfl)
            refine step_append_all rfl (.tmp 20) (.tmp 22) 41 rfl 0 3 i0 (.int .i64 0) 8 Try.underlying41 hi hz0 hz1 hz2 rfl (.slice (some ⟨u0.heap.size, 0, none⟩) 0 0) 0 [] (by simp [Act.eval]) (owns_mono HOE5.out (Nat.zero_le _)) e0 m0 f0 x.1 (by simp [Act.eval]) HQ0.out (At.below HRW0.out HBk9) hq2 (by unfold maxLen; omega) (by omega) (Nat.zero_le _) (fun r5 d5 wk10 ho3 hg3 ht3 => ?_)
            simp only [Nat.zero_add, List.nil_append] at ho3 ht3 ⊢
            have HBk10 : Below V.heap.size V wk10 := HBk9.grown hg3 HBk9.size (fun j hj => by simp [Value.ownBlock] at hj; omega)
            have zA5 : vk9.heap.size ≤ wk10.heap.size := hg3.size
            have HO5 := Hid.mk ho3
            have HBL5 := Hid.mk (fun b (hb : (Value.slice r5 m0 d5).ownBlock = some b) => (show (b = u0.heap.size ∨ b = vk9.heap.size) ∧ b < wk10.heap.size from ⟨(ht3.imp (fun h => by rw [h] at hb; simp [Value.ownBlock] at hb; exact hb.symm) (fun h => by rw [h] at hb; exact (Option.some.inj hb).symm)), (ho3.lt b hb).2⟩))
            have HOE9 := Hid.mk (ownsRow_frame HOE9.out (fun b hb hl => hg3.block b hl (fun e => by simp [Value.ownBlock] at hb e; omega)))
            skip
            clear ho3 hg3 ht3 HOE5
            refine hK.out _ _ ?_ (fun hHeld' => ?_)
            · (try dsimp only)
              exact ⟨(HBk10.cell zlY).trans s0, (HBk10.cell zlY).trans s1, (HBk10.cell zlY).trans s2⟩
            clear hK K hHeld
            have hHeld := hHeld'
            clear hHeld'
            (try simp only [Act.put, List.setIfInBounds_toArray, List.set_cons_zero, List.set_cons_succ])
            refine wpAnyH_ready (rs := [9]) (by kernel_rfl) (by simp) ?_
            refine AllReadyH.cons (o := ?_) ?_ (fun K hK => ?_) AllReadyH.nil
            rotate_left
            · (simp only [List.getElem?_toArray, List.getElem?_cons_zero, List.getElem?_cons_succ]; rfl)
            refine step_append_all rfl (.tmp 24) (.tmp 26) 41 rfl 0 3 i0 (.int .i64 0) 8 Try.underlying41 hi hz0 hz1 hz2 rfl (.slice (some ⟨vk2.heap.size, 0, none⟩) 0 0) 0 [] (by simp [Act.eval]) (owns_mono HOE9.out (Nat.zero_le _)) e1 m1 f1 x.2.1 (by simp [Act.eval]) HQ1.out (At.below HRW1.out HBk10) hq3 (by unfold maxLen; omega) (by omega) (Nat.zero_le _) (fun r9 d9 wk11 ho3 hg3 ht3 => ?_)
            simp only [Nat.zero_add, List.nil_append] at ho3 ht3 ⊢
            have HBk11 : Below V.heap.size V wk11 := HBk10.grown hg3 HBk10.size (fun j hj => by simp [Value.ownBlock] at hj; omega)
            have zA9 : wk10.heap.size ≤ wk11.heap.size := hg3.size
            have HO9 := Hid.mk ho3
            have HBL9 := Hid.mk (fun b (hb : (Value.slice r9 m1 d9).ownBlock = some b) => (show (b = vk2.heap.size ∨ b = wk10.heap.size) ∧ b < wk11.heap.size from ⟨(ht3.imp (fun h => by rw [h] at hb; simp [Value.ownBlock] at hb; exact hb.symm) (fun h => by rw [h] at hb; exact (Option.some.inj hb).symm)), (ho3.lt b hb).2⟩))
            have HO5 := Hid.mk (ownsRow_frame HO5.out (fun b hb hl => hg3.block b hl (fun e => by have h1 := HBL5.out b hb; simp [Value.ownBlock] at e; omega)))
            skip
            clear ho3 hg3 ht3 HOE9
            refine hK.out _ _ ?_ (fun hHeld' => ?_)
            · (try dsimp only)
              exact ⟨(HBk11.cell zlY).trans s0, (HBk11.cell zlY).trans s1, (HBk11.cell zlY).trans s2⟩
            clear hK K hHeld
            have hHeld := hHeld'
            clear hHeld'
            (try simp only [Act.put, List.setIfInBounds_toArray, List.set_cons_zero, List.set_cons_succ])
            refine tk 12 ?_
            refine wpAnyH_ready (rs := [13]) (by kernel_rfl) (by simp) ?_
            refine AllReadyH.cons (o := ?_) ?_ (fun K hK => ?_) AllReadyH.nil
            rotate_left
            · (simp only [List.getElem?_toArray, List.getElem?_cons_zero, List.getElem?_cons_succ]; rfl)
            go_simp
            (try go_wp2_with fail)
            refine hK.out _ _ ?_ (fun hHeld' => ?_)
            · (try dsimp only)
              exact ⟨((HBk11.alloc HBk11.size _).cell zlY).trans s0, ((HBk11.alloc HBk11.size _).cell zlY).trans s1, ((HBk11.alloc HBk11.size _).cell zlY).trans s2⟩
            clear hK K hHeld
            have hHeld := hHeld'
            clear hHeld'
            (try simp only [Act.put, List.setIfInBounds_toArray, List.set_cons_zero, List.set_cons_succ])
            obtain ⟨vk12, hv12⟩ : ∃ u, u = wk11.alloc (.cells #[.slice r5 m0 d5, .slice r9 m1 d9, .bool o] 76) := ⟨_, rfl⟩
            have hbk12 : Below wk11.heap.size wk11 vk12 := by rw [hv12]; exact (Below.refl _ _).alloc (Nat.le_refl _) _
            have HBk12 : Below V.heap.size V vk12 := HBk11.trans (hbk12.mono HBk11.size)
            have HVE := Hid.mk hv12
            have HP2 := Hid.mk HBk11
            rw [← hv12]
            clear hv12
            refine wpAnyH_ready (rs := [14]) (by kernel_rfl) (by simp) ?_
            refine AllReadyH.cons (o := ?_) ?_ (fun K hK => ?_) AllReadyH.nil
            rotate_left
            · (simp only [List.getElem?_toArray, List.getElem?_cons_zero, List.getElem?_cons_succ]; rfl)
            refine push_wire rfl (.tmp 19) (.tmp 31) rfl LB r k d cells wk11 HVE.out (by simp [Act.eval]) (by simp [Act.eval]) (owns_below HLB.out (bVY.out.trans (HP2.out.mono (by omega)))) (by omega) (by have := HP2.out.size; omega) (h := fun r6 d6 wk13 ho5 hg5 ht5 => ?_)
            obtain ⟨⟨G', hLN⟩, hBN, bp5, hcs⟩ := own_tail HL.out zloY (bVY.out.trans (HP2.out.mono (by omega))) HQ0.out HQ1.out HOO.out hm0 hm1 HO5.out HO9.out (fun b hb => by have h1 := HBL5.out b hb; omega) (fun b hb => by have h1 := HBL9.out b hb; omega) (fun b hb hb' => by have h1 := HBL5.out b hb; have h2 := HBL9.out b hb'; omega) ho5 hg5 ht5 HPB.out HPBX.out (by omega)
            have s0' := hcs 0 _ ((HP2.out.cell zlY).trans s0)
            have s1' := hcs 1 _ ((HP2.out.cell zlY).trans s1)
            have s2' := hcs 2 _ ((HP2.out.cell zlY).trans s2)
            have HLN := Hid.mk hLN
            have HBN := Hid.mk hBN
            have q1 := blk_cell bp5 1 (v := .slice r k d) rfl
            have f1 := blk_frozen bp5 1
            clear ho5 hg5 ht5 hLN hBN hcs
            refine hK.out _ _ ?_ (fun hHeld' => ?_)
            · (try dsimp only)
              exact ⟨s0', s1', s2'⟩
            clear hK K hHeld
            have hHeld := hHeld'
            clear hHeld'
            (try simp only [Act.put, List.setIfInBounds_toArray, List.set_cons_zero, List.set_cons_succ])
            refine tk 15 ?_
            refine wpAnyH_ready (rs := [16]) (by kernel_rfl) (by simp) ?_
            refine AllReadyH.cons (o := ?_) ?_ (fun K hK => ?_) AllReadyH.nil
            rotate_left
            · (simp only [List.getElem?_toArray, List.getElem?_cons_zero, List.getElem?_cons_succ]; rfl)
            go_simp
            (try go_wp2_with fail)
            refine hK.out _ _ ?_ (fun hHeld' => ?_)
            · (try dsimp only)
              exact ⟨(cell_far _ (by have := HPBX.out; omega)).trans s0', (cell_far _ (by have := HPBX.out; omega)).trans s1', (cell_far _ (by have := HPBX.out; omega)).trans s2'⟩
            clear hK K hHeld
            have hHeld := hHeld'
            clear hHeld'
            (try simp only [Act.put, List.setIfInBounds_toArray, List.set_cons_zero, List.set_cons_succ])
            refine wpAnyH_done (by kernel_rfl) ?_ _
            rw [← HTK.out] at HLN
            obtain ⟨X6, hX6⟩ : ∃ u, u = wk13.setCell ⟨PB, 1, none⟩ (.slice r6 (k + 1) d6) := ⟨_, rfl⟩
            have HREL := Hid.mk (own_round HPBX.out hX6 bp5 HLN.out HBN.out HOFF.out)
            clear bp5 HLN HBN q1 f1 s0' s1' s2'
            rw [← hX6]
            clear hX6
            go_wp2
            go_roundw
            case rel => exact ⟨k + 1, r6, d6, _, _, by omega, by go_num, HREL.out⟩
            case measure => simp [intOf]; omega
        refine AllReadyH.cons (o := ?_) ?_ (fun K hK => ?_) AllReadyH.nil
        rotate_left
        · (simp only [List.getElem?_toArray, List.getElem?_cons_zero, List.getElem?_cons_succ]; rfl)
        · go_simp
          (try go_wp2_with fail)
          refine hK.out _ _ ?_ (fun hHeld' => ?_)
          · (try dsimp only)
            exact ⟨((Y0.alloc Y0.size _).cell zlY).trans s0, ((Y0.alloc Y0.size _).cell zlY).trans s1, ((Y0.alloc Y0.size _).cell zlY).trans s2⟩
          clear hK K hHeld
          have hHeld := hHeld'
          clear hHeld'
          (try simp only [Act.put, List.setIfInBounds_toArray, List.set_cons_zero, List.set_cons_succ])
          obtain ⟨vk15, hv15⟩ : ∃ u, u = u0.alloc (.cells #[] 3) := ⟨_, rfl⟩
          have hbk15 : Below u0.heap.size u0 vk15 := by rw [hv15]; exact (Below.refl _ _).alloc (Nat.le_refl _) _
          have HBk15 : Below V.heap.size V vk15 := Y0.trans (hbk15.mono Y0.size)
          have HOE9 := Hid.mk (own_void u0 3 1)
          rw [← hv15] at HOE9
          have zE9 : vk15.heap.size = u0.heap.size + 1 := by rw [hv15]; simp
          have zF9 : V.heap.size ≤ u0.heap.size := Y0.size
          rw [← hv15]
          clear hv15
          refine wpAnyH_ready (rs := [2]) (by kernel_rfl) (by simp) ?_
          refine AllReadyH.cons (o := ?_) ?_ (fun K hK => ?_) AllReadyH.nil
          rotate_left
          · (simp only [List.getElem?_toArray, List.getElem?_cons_zero, List.getElem?_cons_succ]; rfl)
          go_simp
          (try go_wp2_with fail)
          refine hK.out _ _ ?_ (fun hHeld' => ?_)
          · (try dsimp only)
            exact ⟨((HBk15.alloc HBk15.size _).cell zlY).trans s0, ((HBk15.alloc HBk15.size _).cell zlY).trans s1, ((HBk15.alloc HBk15.size _).cell zlY).trans s2⟩
          clear hK K hHeld
          have hHeld := hHeld'
          clear hHeld'
          (try simp only [Act.put, List.setIfInBounds_toArray, List.set_cons_zero, List.set_cons_succ])
          obtain ⟨vk16, hv16⟩ : ∃ u, u = vk15.alloc (.cells #[] 3) := ⟨_, rfl⟩
          have hbk16 : Below vk15.heap.size vk15 vk16 := by rw [hv16]; exact (Below.refl _ _).alloc (Nat.le_refl _) _
          have HBk16 : Below V.heap.size V vk16 := HBk15.trans (hbk16.mono HBk15.size)
          have HOE9 := Hid.mk (owns_below HOE9.out hbk16)
          have HOE5 := Hid.mk (own_void vk15 3 1)
          rw [← hv16] at HOE5
          have zE5 : vk16.heap.size = vk15.heap.size + 1 := by rw [hv16]; simp
          have zF5 : V.heap.size ≤ vk15.heap.size := HBk15.size
          rw [← hv16]
          clear hv16
          refine wpAnyH_ready (rs := [5]) (by kernel_rfl) (by simp) ?_
          refine AllReadyH.cons (o := ?_) ?_ (fun K hK => ?_) AllReadyH.nil
          rotate_left
          · (simp only [List.getElem?_toArray, List.getElem?_cons_zero, List.getElem?_cons_succ]; rfl)
          refine step_append_all rfl (.tmp 20) (.tmp 22) 41 rfl 0 3 i0 (.int .i64 0) 8 Try.underlying41 hi hz0 hz1 hz2 rfl (.slice (some ⟨vk15.heap.size, 0, none⟩) 0 0) 0 [] (by simp [Act.eval]) (owns_mono HOE5.out (Nat.zero_le _)) e0 m0 f0 x.1 (by simp [Act.eval]) HQ0.out (At.below HRW0.out HBk16) hq2 (by unfold maxLen; omega) (by omega) (Nat.zero_le _) (fun r5 d5 wk17 ho3 hg3 ht3 => ?_)
          simp only [Nat.zero_add, List.nil_append] at ho3 ht3 ⊢
          have HBk17 : Below V.heap.size V wk17 := HBk16.grown hg3 HBk16.size (fun j hj => by simp [Value.ownBlock] at hj; omega)
          have zA5 : vk16.heap.size ≤ wk17.heap.size := hg3.size
          have HO5 := Hid.mk ho3
          have HBL5 := Hid.mk (fun b (hb : (Value.slice r5 m0 d5).ownBlock = some b) => (show (b = vk15.heap.size ∨ b = vk16.heap.size) ∧ b < wk17.heap.size from ⟨(ht3.imp (fun h => by rw [h] at hb; simp [Value.ownBlock] at hb; exact hb.symm) (fun h => by rw [h] at hb; exact (Option.some.inj hb).symm)), (ho3.lt b hb).2⟩))
          have HOE9 := Hid.mk (ownsRow_frame HOE9.out (fun b hb hl => hg3.block b hl (fun e => by simp [Value.ownBlock] at hb e; omega)))
          skip
          clear ho3 hg3 ht3 HOE5
          refine hK.out _ _ ?_ (fun hHeld' => ?_)
          · (try dsimp only)
            exact ⟨(HBk17.cell zlY).trans s0, (HBk17.cell zlY).trans s1, (HBk17.cell zlY).trans s2⟩
          clear hK K hHeld
          have hHeld := hHeld'
          clear hHeld'
          (try simp only [Act.put, List.setIfInBounds_toArray, List.set_cons_zero, List.set_cons_succ])
          refine wpAnyH_ready (rs := [9]) (by kernel_rfl) (by simp) ?_
          refine AllReadyH.cons (o := ?_) ?_ (fun K hK => ?_) AllReadyH.nil
          rotate_left
          · (simp only [List.getElem?_toArray, List.getElem?_cons_zero, List.getElem?_cons_succ]; rfl)
          refine step_append_all rfl (.tmp 24) (.tmp 26) 41 rfl 0 3 i0 (.int .i64 0) 8 Try.underlying41 hi hz0 hz1 hz2 rfl (.slice (some ⟨u0.heap.size, 0, none⟩) 0 0) 0 [] (by simp [Act.eval]) (owns_mono HOE9.out (Nat.zero_le _)) e1 m1 f1 x.2.1 (by simp [Act.eval]) HQ1.out (At.below HRW1.out HBk17) hq3 (by unfold maxLen; omega) (by omega) (Nat.zero_le _) (fun r9 d9 wk18 ho3 hg3 ht3 => ?_)
          simp only [Nat.zero_add, List.nil_append] at ho3 ht3 ⊢
          have HBk18 : Below V.heap.size V wk18 := HBk17.grown hg3 HBk17.size (fun j hj => by simp [Value.ownBlock] at hj; omega)
          have zA9 : wk17.heap.size ≤ wk18.heap.size := hg3.size
          have HO9 := Hid.mk ho3
          have HBL9 := Hid.mk (fun b (hb : (Value.slice r9 m1 d9).ownBlock = some b) => (show (b = u0.heap.size ∨ b = wk17.heap.size) ∧ b < wk18.heap.size from ⟨(ht3.imp (fun h => by rw [h] at hb; simp [Value.ownBlock] at hb; exact hb.symm) (fun h => by rw [h] at hb; exact (Option.some.inj hb).symm)), (ho3.lt b hb).2⟩))
          have HO5 := Hid.mk (ownsRow_frame HO5.out (fun b hb hl => hg3.block b hl (fun e => by have h1 := HBL5.out b hb; simp [Value.ownBlock] at e; omega)))
          skip
          clear ho3 hg3 ht3 HOE9
          refine hK.out _ _ ?_ (fun hHeld' => ?_)
          · (try dsimp only)
            exact ⟨(HBk18.cell zlY).trans s0, (HBk18.cell zlY).trans s1, (HBk18.cell zlY).trans s2⟩
          clear hK K hHeld
          have hHeld := hHeld'
          clear hHeld'
          (try simp only [Act.put, List.setIfInBounds_toArray, List.set_cons_zero, List.set_cons_succ])
          refine tk 12 ?_
          refine wpAnyH_ready (rs := [13]) (by kernel_rfl) (by simp) ?_
          refine AllReadyH.cons (o := ?_) ?_ (fun K hK => ?_) AllReadyH.nil
          rotate_left
          · (simp only [List.getElem?_toArray, List.getElem?_cons_zero, List.getElem?_cons_succ]; rfl)
          go_simp
          (try go_wp2_with fail)
          refine hK.out _ _ ?_ (fun hHeld' => ?_)
          · (try dsimp only)
            exact ⟨((HBk18.alloc HBk18.size _).cell zlY).trans s0, ((HBk18.alloc HBk18.size _).cell zlY).trans s1, ((HBk18.alloc HBk18.size _).cell zlY).trans s2⟩
          clear hK K hHeld
          have hHeld := hHeld'
          clear hHeld'
          (try simp only [Act.put, List.setIfInBounds_toArray, List.set_cons_zero, List.set_cons_succ])
          obtain ⟨vk19, hv19⟩ : ∃ u, u = wk18.alloc (.cells #[.slice r5 m0 d5, .slice r9 m1 d9, .bool o] 76) := ⟨_, rfl⟩
          have hbk19 : Below wk18.heap.size wk18 vk19 := by rw [hv19]; exact (Below.refl _ _).alloc (Nat.le_refl _) _
          have HBk19 : Below V.heap.size V vk19 := HBk18.trans (hbk19.mono HBk18.size)
          have HVE := Hid.mk hv19
          have HP2 := Hid.mk HBk18
          rw [← hv19]
          clear hv19
          refine wpAnyH_ready (rs := [14]) (by kernel_rfl) (by simp) ?_
          refine AllReadyH.cons (o := ?_) ?_ (fun K hK => ?_) AllReadyH.nil
          rotate_left
          · (simp only [List.getElem?_toArray, List.getElem?_cons_zero, List.getElem?_cons_succ]; rfl)
          refine push_wire rfl (.tmp 19) (.tmp 31) rfl LB r k d cells wk18 HVE.out (by simp [Act.eval]) (by simp [Act.eval]) (owns_below HLB.out (bVY.out.trans (HP2.out.mono (by omega)))) (by omega) (by have := HP2.out.size; omega) (h := fun r6 d6 wk20 ho5 hg5 ht5 => ?_)
          obtain ⟨⟨G', hLN⟩, hBN, bp5, hcs⟩ := own_tail HL.out zloY (bVY.out.trans (HP2.out.mono (by omega))) HQ0.out HQ1.out HOO.out hm0 hm1 HO5.out HO9.out (fun b hb => by have h1 := HBL5.out b hb; omega) (fun b hb => by have h1 := HBL9.out b hb; omega) (fun b hb hb' => by have h1 := HBL5.out b hb; have h2 := HBL9.out b hb'; omega) ho5 hg5 ht5 HPB.out HPBX.out (by omega)
          have s0' := hcs 0 _ ((HP2.out.cell zlY).trans s0)
          have s1' := hcs 1 _ ((HP2.out.cell zlY).trans s1)
          have s2' := hcs 2 _ ((HP2.out.cell zlY).trans s2)
          have HLN := Hid.mk hLN
          have HBN := Hid.mk hBN
          have q1 := blk_cell bp5 1 (v := .slice r k d) rfl
          have f1 := blk_frozen bp5 1
          clear ho5 hg5 ht5 hLN hBN hcs
          refine hK.out _ _ ?_ (fun hHeld' => ?_)
          · (try dsimp only)
            exact ⟨s0', s1', s2'⟩
          clear hK K hHeld
          have hHeld := hHeld'
          clear hHeld'
          (try simp only [Act.put, List.setIfInBounds_toArray, List.set_cons_zero, List.set_cons_succ])
          refine tk 15 ?_
          refine wpAnyH_ready (rs := [16]) (by kernel_rfl) (by simp) ?_
          refine AllReadyH.cons (o := ?_) ?_ (fun K hK => ?_) AllReadyH.nil
          rotate_left
          · (simp only [List.getElem?_toArray, List.getElem?_cons_zero, List.getElem?_cons_succ]; rfl)
          go_simp
          (try go_wp2_with fail)
          refine hK.out _ _ ?_ (fun hHeld' => ?_)
          · (try dsimp only)
            exact ⟨(cell_far _ (by have := HPBX.out; omega)).trans s0', (cell_far _ (by have := HPBX.out; omega)).trans s1', (cell_far _ (by have := HPBX.out; omega)).trans s2'⟩
          clear hK K hHeld
          have hHeld := hHeld'
          clear hHeld'
          (try simp only [Act.put, List.setIfInBounds_toArray, List.set_cons_zero, List.set_cons_succ])
          refine wpAnyH_done (by kernel_rfl) ?_ _
          rw [← HTK.out] at HLN
          obtain ⟨X6, hX6⟩ : ∃ u, u = wk20.setCell ⟨PB, 1, none⟩ (.slice r6 (k + 1) d6) := ⟨_, rfl⟩
          have HREL := Hid.mk (own_round HPBX.out hX6 bp5 HLN.out HBN.out HOFF.out)
          clear bp5 HLN HBN q1 f1 s0' s1' s2'
          rw [← hX6]
          clear hX6
          go_wp2
          go_roundw
          case rel => exact ⟨k + 1, r6, d6, _, _, by omega, by go_num, HREL.out⟩
          case measure => simp [intOf]; omega
      refine AllReadyH.cons (o := ?_) ?_ (fun K hK => ?_) ?_
      rotate_left
      · (simp only [List.getElem?_toArray, List.getElem?_cons_zero, List.getElem?_cons_succ]; rfl)
      · go_simp
        (try go_wp2_with fail)
        refine hK.out _ _ ?_ (fun hHeld' => ?_)
        · (try dsimp only)
          exact ⟨((Y0.alloc Y0.size _).cell zlY).trans s0, ((Y0.alloc Y0.size _).cell zlY).trans s1, ((Y0.alloc Y0.size _).cell zlY).trans s2⟩
        clear hK K hHeld
        have hHeld := hHeld'
        clear hHeld'
        (try simp only [Act.put, List.setIfInBounds_toArray, List.set_cons_zero, List.set_cons_succ])
        obtain ⟨vk22, hv22⟩ : ∃ u, u = u0.alloc (.cells #[] 3) := ⟨_, rfl⟩
        have hbk22 : Below u0.heap.size u0 vk22 := by rw [hv22]; exact (Below.refl _ _).alloc (Nat.le_refl _) _
        have HBk22 : Below V.heap.size V vk22 := Y0.trans (hbk22.mono Y0.size)
        have HOE5 := Hid.mk (own_void u0 3 1)
        rw [← hv22] at HOE5
        have zE5 : vk22.heap.size = u0.heap.size + 1 := by rw [hv22]; simp
        have zF5 : V.heap.size ≤ u0.heap.size := Y0.size
        rw [← hv22]
        clear hv22
        have q1 := blk_cell (blk_below HPB.out (bVY.out.trans (HBk22.mono (by omega)))) 1 (v := .slice r k d) rfl
        refine wpAnyH_ready (rs := [1, 5, 6]) (by kernel_rfl) (by simp) ?_
        refine AllReadyH.cons (o := ?_) ?_ (fun K hK => ?_) ?_
        rotate_left
        · (simp only [List.getElem?_toArray, List.getElem?_cons_zero, List.getElem?_cons_succ]; rfl)
        · go_simp
          (try go_wp2_with fail)
          refine hK.out _ _ ?_ (fun hHeld' => ?_)
          · (try dsimp only)
            exact ⟨(HBk22.cell zlY).trans s0, (HBk22.cell zlY).trans s1, (HBk22.cell zlY).trans s2⟩
          clear hK K hHeld
          have hHeld := hHeld'
          clear hHeld'
          (try simp only [Act.put, List.setIfInBounds_toArray, List.set_cons_zero, List.set_cons_succ])
          refine wpAnyH_ready (rs := [5, 6]) (by kernel_rfl) (by simp) ?_
          refine AllReadyH.cons (o := ?_) ?_ (fun K hK => ?_) ?_
          rotate_left
          · (simp only [List.getElem?_toArray, List.getElem?_cons_zero, List.getElem?_cons_succ]; rfl)
          · refine step_append_all rfl (.tmp 20) (.tmp 22) 41 rfl 0 3 i0 (.int .i64 0) 8 Try.underlying41 hi hz0 hz1 hz2 rfl (.slice (some ⟨u0.heap.size, 0, none⟩) 0 0) 0 [] (by simp [Act.eval]) (owns_mono HOE5.out (Nat.zero_le _)) e0 m0 f0 x.1 (by simp [Act.eval]) HQ0.out (At.below HRW0.out HBk22) hq2 (by unfold maxLen; omega) (by omega) (Nat.zero_le _) (fun r5 d5 wk24 ho3 hg3 ht3 => ?_)
            simp only [Nat.zero_add, List.nil_append] at ho3 ht3 ⊢
            have HBk24 : Below V.heap.size V wk24 := HBk22.grown hg3 HBk22.size (fun j hj => by simp [Value.ownBlock] at hj; omega)
            have zA5 : vk22.heap.size ≤ wk24.heap.size := hg3.size
            have HO5 := Hid.mk ho3
            have HBL5 := Hid.mk (fun b (hb : (Value.slice r5 m0 d5).ownBlock = some b) => (show (b = u0.heap.size ∨ b = vk22.heap.size) ∧ b < wk24.heap.size from ⟨(ht3.imp (fun h => by rw [h] at hb; simp [Value.ownBlock] at hb; exact hb.symm) (fun h => by rw [h] at hb; exact (Option.some.inj hb).symm)), (ho3.lt b hb).2⟩))
            skip
            clear ho3 hg3 ht3 HOE5
            refine hK.out _ _ ?_ (fun hHeld' => ?_)
            · (try dsimp only)
              exact ⟨(HBk24.cell zlY).trans s0, (HBk24.cell zlY).trans s1, (HBk24.cell zlY).trans s2⟩
            clear hK K hHeld
            have hHeld := hHeld'
            clear hHeld'
            (try simp only [Act.put, List.setIfInBounds_toArray, List.set_cons_zero, List.set_cons_succ])
            refine wpAnyH_ready (rs := [6]) (by kernel_rfl) (by simp) ?_
            refine AllReadyH.cons (o := ?_) ?_ (fun K hK => ?_) AllReadyH.nil
            rotate_left
            · (simp only [List.getElem?_toArray, List.getElem?_cons_zero, List.getElem?_cons_succ]; rfl)
            go_simp
            (try go_wp2_with fail)
            refine hK.out _ _ ?_ (fun hHeld' => ?_)
            · (try dsimp only)
              exact ⟨((HBk24.alloc HBk24.size _).cell zlY).trans s0, ((HBk24.alloc HBk24.size _).cell zlY).trans s1, ((HBk24.alloc HBk24.size _).cell zlY).trans s2⟩
            clear hK K hHeld
            have hHeld := hHeld'
            clear hHeld'
            (try simp only [Act.put, List.setIfInBounds_toArray, List.set_cons_zero, List.set_cons_succ])
            obtain ⟨vk25, hv25⟩ : ∃ u, u = wk24.alloc (.cells #[] 3) := ⟨_, rfl⟩
            have hbk25 : Below wk24.heap.size wk24 vk25 := by rw [hv25]; exact (Below.refl _ _).alloc (Nat.le_refl _) _
            have HBk25 : Below V.heap.size V vk25 := HBk24.trans (hbk25.mono HBk24.size)
            have HO5 := Hid.mk (owns_below HO5.out hbk25)
            have HOE9 := Hid.mk (own_void wk24 3 1)
            rw [← hv25] at HOE9
            have zE9 : vk25.heap.size = wk24.heap.size + 1 := by rw [hv25]; simp
            have zF9 : V.heap.size ≤ wk24.heap.size := HBk24.size
            rw [← hv25]
            clear hv25
            refine wpAnyH_ready (rs := [9]) (by kernel_rfl) (by simp) ?_
            refine AllReadyH.cons (o := ?_) ?_ (fun K hK => ?_) AllReadyH.nil
            rotate_left
            · (simp only [List.getElem?_toArray, List.getElem?_cons_zero, List.getElem?_cons_succ]; rfl)
            refine step_append_all rfl (.tmp 24) (.tmp 26) 41 rfl 0 3 i0 (.int .i64 0) 8 Try.underlying41 hi hz0 hz1 hz2 rfl (.slice (some ⟨wk24.heap.size, 0, none⟩) 0 0) 0 [] (by simp [Act.eval]) (owns_mono HOE9.out (Nat.zero_le _)) e1 m1 f1 x.2.1 (by simp [Act.eval]) HQ1.out (At.below HRW1.out HBk25) hq3 (by unfold maxLen; omega) (by omega) (Nat.zero_le _) (fun r9 d9 wk26 ho3 hg3 ht3 => ?_)
            simp only [Nat.zero_add, List.nil_append] at ho3 ht3 ⊢
            have HBk26 : Below V.heap.size V wk26 := HBk25.grown hg3 HBk25.size (fun j hj => by simp [Value.ownBlock] at hj; omega)
            have zA9 : vk25.heap.size ≤ wk26.heap.size := hg3.size
            have HO9 := Hid.mk ho3
            have HBL9 := Hid.mk (fun b (hb : (Value.slice r9 m1 d9).ownBlock = some b) => (show (b = wk24.heap.size ∨ b = vk25.heap.size) ∧ b < wk26.heap.size from ⟨(ht3.imp (fun h => by rw [h] at hb; simp [Value.ownBlock] at hb; exact hb.symm) (fun h => by rw [h] at hb; exact (Option.some.inj hb).symm)), (ho3.lt b hb).2⟩))
            have HO5 := Hid.mk (ownsRow_frame HO5.out (fun b hb hl => hg3.block b hl (fun e => by have h1 := HBL5.out b hb; simp [Value.ownBlock] at e; omega)))
            skip
            clear ho3 hg3 ht3 HOE9
            refine hK.out _ _ ?_ (fun hHeld' => ?_)
            · (try dsimp only)
              exact ⟨(HBk26.cell zlY).trans s0, (HBk26.cell zlY).trans s1, (HBk26.cell zlY).trans s2⟩
            clear hK K hHeld
            have hHeld := hHeld'
            clear hHeld'
            (try simp only [Act.put, List.setIfInBounds_toArray, List.set_cons_zero, List.set_cons_succ])
            refine tk 12 ?_
            refine wpAnyH_ready (rs := [13]) (by kernel_rfl) (by simp) ?_
            refine AllReadyH.cons (o := ?_) ?_ (fun K hK => ?_) AllReadyH.nil
            rotate_left
            · (simp only [List.getElem?_toArray, List.getElem?_cons_zero, List.getElem?_cons_succ]; rfl)
            go_simp
            (try go_wp2_with fail)
            refine hK.out _ _ ?_ (fun hHeld' => ?_)
            · (try dsimp only)
              exact ⟨((HBk26.alloc HBk26.size _).cell zlY).trans s0, ((HBk26.alloc HBk26.size _).cell zlY).trans s1, ((HBk26.alloc HBk26.size _).cell zlY).trans s2⟩
            clear hK K hHeld
            have hHeld := hHeld'
            clear hHeld'
            (try simp only [Act.put, List.setIfInBounds_toArray, List.set_cons_zero, List.set_cons_succ])
            obtain ⟨vk27, hv27⟩ : ∃ u, u = wk26.alloc (.cells #[.slice r5 m0 d5, .slice r9 m1 d9, .bool o] 76) := ⟨_, rfl⟩
            have hbk27 : Below wk26.heap.size wk26 vk27 := by rw [hv27]; exact (Below.refl _ _).alloc (Nat.le_refl _) _
            have HBk27 : Below V.heap.size V vk27 := HBk26.trans (hbk27.mono HBk26.size)
            have HVE := Hid.mk hv27
            have HP2 := Hid.mk HBk26
            rw [← hv27]
            clear hv27
            refine wpAnyH_ready (rs := [14]) (by kernel_rfl) (by simp) ?_
            refine AllReadyH.cons (o := ?_) ?_ (fun K hK => ?_) AllReadyH.nil
            rotate_left
            · (simp only [List.getElem?_toArray, List.getElem?_cons_zero, List.getElem?_cons_succ]; rfl)
            refine push_wire rfl (.tmp 19) (.tmp 31) rfl LB r k d cells wk26 HVE.out (by simp [Act.eval]) (by simp [Act.eval]) (owns_below HLB.out (bVY.out.trans (HP2.out.mono (by omega)))) (by omega) (by have := HP2.out.size; omega) (h := fun r6 d6 wk28 ho5 hg5 ht5 => ?_)
            obtain ⟨⟨G', hLN⟩, hBN, bp5, hcs⟩ := own_tail HL.out zloY (bVY.out.trans (HP2.out.mono (by omega))) HQ0.out HQ1.out HOO.out hm0 hm1 HO5.out HO9.out (fun b hb => by have h1 := HBL5.out b hb; omega) (fun b hb => by have h1 := HBL9.out b hb; omega) (fun b hb hb' => by have h1 := HBL5.out b hb; have h2 := HBL9.out b hb'; omega) ho5 hg5 ht5 HPB.out HPBX.out (by omega)
            have s0' := hcs 0 _ ((HP2.out.cell zlY).trans s0)
            have s1' := hcs 1 _ ((HP2.out.cell zlY).trans s1)
            have s2' := hcs 2 _ ((HP2.out.cell zlY).trans s2)
            have HLN := Hid.mk hLN
            have HBN := Hid.mk hBN
            have q1 := blk_cell bp5 1 (v := .slice r k d) rfl
            have f1 := blk_frozen bp5 1
            clear ho5 hg5 ht5 hLN hBN hcs
            refine hK.out _ _ ?_ (fun hHeld' => ?_)
            · (try dsimp only)
              exact ⟨s0', s1', s2'⟩
            clear hK K hHeld
            have hHeld := hHeld'
            clear hHeld'
            (try simp only [Act.put, List.setIfInBounds_toArray, List.set_cons_zero, List.set_cons_succ])
            refine tk 15 ?_
            refine wpAnyH_ready (rs := [16]) (by kernel_rfl) (by simp) ?_
            refine AllReadyH.cons (o := ?_) ?_ (fun K hK => ?_) AllReadyH.nil
            rotate_left
            · (simp only [List.getElem?_toArray, List.getElem?_cons_zero, List.getElem?_cons_succ]; rfl)
            go_simp
            (try go_wp2_with fail)
            refine hK.out _ _ ?_ (fun hHeld' => ?_)
            · (try dsimp only)
              exact ⟨(cell_far _ (by have := HPBX.out; omega)).trans s0', (cell_far _ (by have := HPBX.out; omega)).trans s1', (cell_far _ (by have := HPBX.out; omega)).trans s2'⟩
            clear hK K hHeld
            have hHeld := hHeld'
            clear hHeld'
            (try simp only [Act.put, List.setIfInBounds_toArray, List.set_cons_zero, List.set_cons_succ])
            refine wpAnyH_done (by kernel_rfl) ?_ _
            rw [← HTK.out] at HLN
            obtain ⟨X6, hX6⟩ : ∃ u, u = wk28.setCell ⟨PB, 1, none⟩ (.slice r6 (k + 1) d6) := ⟨_, rfl⟩
            have HREL := Hid.mk (own_round HPBX.out hX6 bp5 HLN.out HBN.out HOFF.out)
            clear bp5 HLN HBN q1 f1 s0' s1' s2'
            rw [← hX6]
            clear hX6
            go_wp2
            go_roundw
            case rel => exact ⟨k + 1, r6, d6, _, _, by omega, by go_num, HREL.out⟩
            case measure => simp [intOf]; omega
          refine AllReadyH.cons (o := ?_) ?_ (fun K hK => ?_) AllReadyH.nil
          rotate_left
          · (simp only [List.getElem?_toArray, List.getElem?_cons_zero, List.getElem?_cons_succ]; rfl)
          · go_simp
            (try go_wp2_with fail)
            refine hK.out _ _ ?_ (fun hHeld' => ?_)
            · (try dsimp only)
              exact ⟨((HBk22.alloc HBk22.size _).cell zlY).trans s0, ((HBk22.alloc HBk22.size _).cell zlY).trans s1, ((HBk22.alloc HBk22.size _).cell zlY).trans s2⟩
            clear hK K hHeld
            have hHeld := hHeld'
            clear hHeld'
            (try simp only [Act.put, List.setIfInBounds_toArray, List.set_cons_zero, List.set_cons_succ])
            obtain ⟨vk30, hv30⟩ : ∃ u, u = vk22.alloc (.cells #[] 3) := ⟨_, rfl⟩
            have hbk30 : Below vk22.heap.size vk22 vk30 := by rw [hv30]; exact (Below.refl _ _).alloc (Nat.le_refl _) _
            have HBk30 : Below V.heap.size V vk30 := HBk22.trans (hbk30.mono HBk22.size)
            have HOE5 := Hid.mk (owns_below HOE5.out hbk30)
            have HOE9 := Hid.mk (own_void vk22 3 1)
            rw [← hv30] at HOE9
            have zE9 : vk30.heap.size = vk22.heap.size + 1 := by rw [hv30]; simp
            have zF9 : V.heap.size ≤ vk22.heap.size := HBk22.size
            rw [← hv30]
            clear hv30
            refine wpAnyH_ready (rs := [5]) (by kernel_rfl) (by simp) ?_
            refine AllReadyH.cons (o := ?_) ?_ (fun K hK => ?_) AllReadyH.nil
            rotate_left
            · (simp only [List.getElem?_toArray, List.getElem?_cons_zero, List.getElem?_cons_succ]; rfl)
            refine step_append_all rfl (.tmp 20) (.tmp 22) 41 rfl 0 3 i0 (.int .i64 0) 8 Try.underlying41 hi hz0 hz1 hz2 rfl (.slice (some ⟨u0.heap.size, 0, none⟩) 0 0) 0 [] (by simp [Act.eval]) (owns_mono HOE5.out (Nat.zero_le _)) e0 m0 f0 x.1 (by simp [Act.eval]) HQ0.out (At.below HRW0.out HBk30) hq2 (by unfold maxLen; omega) (by omega) (Nat.zero_le _) (fun r5 d5 wk31 ho3 hg3 ht3 => ?_)
            simp only [Nat.zero_add, List.nil_append] at ho3 ht3 ⊢
            have HBk31 : Below V.heap.size V wk31 := HBk30.grown hg3 HBk30.size (fun j hj => by simp [Value.ownBlock] at hj; omega)
            have zA5 : vk30.heap.size ≤ wk31.heap.size := hg3.size
            have HO5 := Hid.mk ho3
            have HBL5 := Hid.mk (fun b (hb : (Value.slice r5 m0 d5).ownBlock = some b) => (show (b = u0.heap.size ∨ b = vk30.heap.size) ∧ b < wk31.heap.size from ⟨(ht3.imp (fun h => by rw [h] at hb; simp [Value.ownBlock] at hb; exact hb.symm) (fun h => by rw [h] at hb; exact (Option.some.inj hb).symm)), (ho3.lt b hb).2⟩))
            have HOE9 := Hid.mk (ownsRow_frame HOE9.out (fun b hb hl => hg3.block b hl (fun e => by simp [Value.ownBlock] at hb e; omega)))
            skip
            clear ho3 hg3 ht3 HOE5
            refine hK.out _ _ ?_ (fun hHeld' => ?_)
            · (try dsimp only)
              exact ⟨(HBk31.cell zlY).trans s0, (HBk31.cell zlY).trans s1, (HBk31.cell zlY).trans s2⟩
            clear hK K hHeld
            have hHeld := hHeld'
            clear hHeld'
            (try simp only [Act.put, List.setIfInBounds_toArray, List.set_cons_zero, List.set_cons_succ])
            refine wpAnyH_ready (rs := [9]) (by kernel_rfl) (by simp) ?_
            refine AllReadyH.cons (o := ?_) ?_ (fun K hK => ?_) AllReadyH.nil
            rotate_left
            · (simp only [List.getElem?_toArray, List.getElem?_cons_zero, List.getElem?_cons_succ]; rfl)
            refine step_append_all rfl (.tmp 24) (.tmp 26) 41 rfl 0 3 i0 (.int .i64 0) 8 Try.underlying41 hi hz0 hz1 hz2 rfl (.slice (some ⟨vk22.heap.size, 0, none⟩) 0 0) 0 [] (by simp [Act.eval]) (owns_mono HOE9.out (Nat.zero_le _)) e1 m1 f1 x.2.1 (by simp [Act.eval]) HQ1.out (At.below HRW1.out HBk31) hq3 (by unfold maxLen; omega) (by omega) (Nat.zero_le _) (fun r9 d9 wk32 ho3 hg3 ht3 => ?_)
            simp only [Nat.zero_add, List.nil_append] at ho3 ht3 ⊢
            have HBk32 : Below V.heap.size V wk32 := HBk31.grown hg3 HBk31.size (fun j hj => by simp [Value.ownBlock] at hj; omega)
            have zA9 : wk31.heap.size ≤ wk32.heap.size := hg3.size
            have HO9 := Hid.mk ho3
            have HBL9 := Hid.mk (fun b (hb : (Value.slice r9 m1 d9).ownBlock = some b) => (show (b = vk22.heap.size ∨ b = wk31.heap.size) ∧ b < wk32.heap.size from ⟨(ht3.imp (fun h => by rw [h] at hb; simp [Value.ownBlock] at hb; exact hb.symm) (fun h => by rw [h] at hb; exact (Option.some.inj hb).symm)), (ho3.lt b hb).2⟩))
            have HO5 := Hid.mk (ownsRow_frame HO5.out (fun b hb hl => hg3.block b hl (fun e => by have h1 := HBL5.out b hb; simp [Value.ownBlock] at e; omega)))
            skip
            clear ho3 hg3 ht3 HOE9
            refine hK.out _ _ ?_ (fun hHeld' => ?_)
            · (try dsimp only)
              exact ⟨(HBk32.cell zlY).trans s0, (HBk32.cell zlY).trans s1, (HBk32.cell zlY).trans s2⟩
            clear hK K hHeld
            have hHeld := hHeld'
            clear hHeld'
            (try simp only [Act.put, List.setIfInBounds_toArray, List.set_cons_zero, List.set_cons_succ])
            refine tk 12 ?_
            refine wpAnyH_ready (rs := [13]) (by kernel_rfl) (by simp) ?_
            refine AllReadyH.cons (o := ?_) ?_ (fun K hK => ?_) AllReadyH.nil
            rotate_left
            · (simp only [List.getElem?_toArray, List.getElem?_cons_zero, List.getElem?_cons_succ]; rfl)
            go_simp
            (try go_wp2_with fail)
            refine hK.out _ _ ?_ (fun hHeld' => ?_)
            · (try dsimp only)
              exact ⟨((HBk32.alloc HBk32.size _).cell zlY).trans s0, ((HBk32.alloc HBk32.size _).cell zlY).trans s1, ((HBk32.alloc HBk32.size _).cell zlY).trans s2⟩
            clear hK K hHeld
            have hHeld := hHeld'
            clear hHeld'
            (try simp only [Act.put, List.setIfInBounds_toArray, List.set_cons_zero, List.set_cons_succ])
            obtain ⟨vk33, hv33⟩ : ∃ u, u = wk32.alloc (.cells #[.slice r5 m0 d5, .slice r9 m1 d9, .bool o] 76) := ⟨_, rfl⟩
            have hbk33 : Below wk32.heap.size wk32 vk33 := by rw [hv33]; exact (Below.refl _ _).alloc (Nat.le_refl _) _
            have HBk33 : Below V.heap.size V vk33 := HBk32.trans (hbk33.mono HBk32.size)
            have HVE := Hid.mk hv33
            have HP2 := Hid.mk HBk32
            rw [← hv33]
            clear hv33
            refine wpAnyH_ready (rs := [14]) (by kernel_rfl) (by simp) ?_
            refine AllReadyH.cons (o := ?_) ?_ (fun K hK => ?_) AllReadyH.nil
            rotate_left
            · (simp only [List.getElem?_toArray, List.getElem?_cons_zero, List.getElem?_cons_succ]; rfl)
            refine push_wire rfl (.tmp 19) (.tmp 31) rfl LB r k d cells wk32 HVE.out (by simp [Act.eval]) (by simp [Act.eval]) (owns_below HLB.out (bVY.out.trans (HP2.out.mono (by omega)))) (by omega) (by have := HP2.out.size; omega) (h := fun r6 d6 wk34 ho5 hg5 ht5 => ?_)
            obtain ⟨⟨G', hLN⟩, hBN, bp5, hcs⟩ := own_tail HL.out zloY (bVY.out.trans (HP2.out.mono (by omega))) HQ0.out HQ1.out HOO.out hm0 hm1 HO5.out HO9.out (fun b hb => by have h1 := HBL5.out b hb; omega) (fun b hb => by have h1 := HBL9.out b hb; omega) (fun b hb hb' => by have h1 := HBL5.out b hb; have h2 := HBL9.out b hb'; omega) ho5 hg5 ht5 HPB.out HPBX.out (by omega)
            have s0' := hcs 0 _ ((HP2.out.cell zlY).trans s0)
            have s1' := hcs 1 _ ((HP2.out.cell zlY).trans s1)
            have s2' := hcs 2 _ ((HP2.out.cell zlY).trans s2)
            have HLN := Hid.mk hLN
            have HBN := Hid.mk hBN
            have q1 := blk_cell bp5 1 (v := .slice r k d) rfl
            have f1 := blk_frozen bp5 1
            clear ho5 hg5 ht5 hLN hBN hcs
            refine hK.out _ _ ?_ (fun hHeld' => ?_)
            · (try dsimp only)
              exact ⟨s0', s1', s2'⟩
            clear hK K hHeld
            have hHeld := hHeld'
            clear hHeld'
            (try simp only [Act.put, List.setIfInBounds_toArray, List.set_cons_zero, List.set_cons_succ])
            refine tk 15 ?_
            refine wpAnyH_ready (rs := [16]) (by kernel_rfl) (by simp) ?_
            refine AllReadyH.cons (o := ?_) ?_ (fun K hK => ?_) AllReadyH.nil
            rotate_left
            · (simp only [List.getElem?_toArray, List.getElem?_cons_zero, List.getElem?_cons_succ]; rfl)
            go_simp
            (try go_wp2_with fail)
            refine hK.out _ _ ?_ (fun hHeld' => ?_)
            · (try dsimp only)
              exact ⟨(cell_far _ (by have := HPBX.out; omega)).trans s0', (cell_far _ (by have := HPBX.out; omega)).trans s1', (cell_far _ (by have := HPBX.out; omega)).trans s2'⟩
            clear hK K hHeld
            have hHeld := hHeld'
            clear hHeld'
            (try simp only [Act.put, List.setIfInBounds_toArray, List.set_cons_zero, List.set_cons_succ])
            refine wpAnyH_done (by kernel_rfl) ?_ _
            rw [← HTK.out] at HLN
            obtain ⟨X6, hX6⟩ : ∃ u, u = wk34.setCell ⟨PB, 1, none⟩ (.slice r6 (k + 1) d6) := ⟨_, rfl⟩
            have HREL := Hid.mk (own_round HPBX.out hX6 bp5 HLN.out HBN.out HOFF.out)
            clear bp5 HLN HBN q1 f1 s0' s1' s2'
            rw [← hX6]
            clear hX6
            go_wp2
            go_roundw
            case rel => exact ⟨k + 1, r6, d6, _, _, by omega, by go_num, HREL.out⟩
            case measure => simp [intOf]; omega
        refine AllReadyH.cons (o := ?_) ?_ (fun K hK => ?_) ?_
        rotate_left
        · (simp only [List.getElem?_toArray, List.getElem?_cons_zero, List.getElem?_cons_succ]; rfl)
        · refine step_append_all rfl (.tmp 20) (.tmp 22) 41 rfl 0 3 i0 (.int .i64 0) 8 Try.underlying41 hi hz0 hz1 hz2 rfl (.slice (some ⟨u0.heap.size, 0, none⟩) 0 0) 0 [] (by simp [Act.eval]) (owns_mono HOE5.out (Nat.zero_le _)) e0 m0 f0 x.1 (by simp [Act.eval]) HQ0.out (At.below HRW0.out HBk22) hq2 (by unfold maxLen; omega) (by omega) (Nat.zero_le _) (fun r5 d5 wk36 ho3 hg3 ht3 => ?_)
          simp only [Nat.zero_add, List.nil_append] at ho3 ht3 ⊢
          have HBk36 : Below V.heap.size V wk36 := HBk22.grown hg3 HBk22.size (fun j hj => by simp [Value.ownBlock] at hj; omega)
          have zA5 : vk22.heap.size ≤ wk36.heap.size := hg3.size
          have HO5 := Hid.mk ho3
          have HBL5 := Hid.mk (fun b (hb : (Value.slice r5 m0 d5).ownBlock = some b) => (show (b = u0.heap.size ∨ b = vk22.heap.size) ∧ b < wk36.heap.size from ⟨(ht3.imp (fun h => by rw [h] at hb; simp [Value.ownBlock] at hb; exact hb.symm) (fun h => by rw [h] at hb; exact (Option.some.inj hb).symm)), (ho3.lt b hb).2⟩))
          skip
          clear ho3 hg3 ht3 HOE5
          refine hK.out _ _ ?_ (fun hHeld' => ?_)
          · (try dsimp only)
            exact ⟨(HBk36.cell zlY).trans s0, (HBk36.cell zlY).trans s1, (HBk36.cell zlY).trans s2⟩
          clear hK K hHeld
          have hHeld := hHeld'
          clear hHeld'
          (try simp only [Act.put, List.setIfInBounds_toArray, List.set_cons_zero, List.set_cons_succ])
          have q1 := blk_cell (blk_below HPB.out (bVY.out.trans (HBk36.mono (by omega)))) 1 (v := .slice r k d) rfl
          refine wpAnyH_ready (rs := [1, 6]) (by kernel_rfl) (by simp) ?_
          refine AllReadyH.cons (o := ?_) ?_ (fun K hK => ?_) ?_
          rotate_left
          · (simp only [List.getElem?_toArray, List.getElem?_cons_zero, List.getElem?_cons_succ]; rfl)
          · go_simp
            (try go_wp2_with fail)
            refine hK.out _ _ ?_ (fun hHeld' => ?_)
            · (try dsimp only)
              exact ⟨(HBk36.cell zlY).trans s0, (HBk36.cell zlY).trans s1, (HBk36.cell zlY).trans s2⟩
            clear hK K hHeld
            have hHeld := hHeld'
            clear hHeld'
            (try simp only [Act.put, List.setIfInBounds_toArray, List.set_cons_zero, List.set_cons_succ])
            refine wpAnyH_ready (rs := [6]) (by kernel_rfl) (by simp) ?_
            refine AllReadyH.cons (o := ?_) ?_ (fun K hK => ?_) AllReadyH.nil
            rotate_left
            · (simp only [List.getElem?_toArray, List.getElem?_cons_zero, List.getElem?_cons_succ]; rfl)
            go_simp
            (try go_wp2_with fail)
            refine hK.out _ _ ?_ (fun hHeld' => ?_)
            · (try dsimp only)
              exact ⟨((HBk36.alloc HBk36.size _).cell zlY).trans s0, ((HBk36.alloc HBk36.size _).cell zlY).trans s1, ((HBk36.alloc HBk36.size _).cell zlY).trans s2⟩
            clear hK K hHeld
            have hHeld := hHeld'
            clear hHeld'
            (try simp only [Act.put, List.setIfInBounds_toArray, List.set_cons_zero, List.set_cons_succ])
            obtain ⟨vk38, hv38⟩ : ∃ u, u = wk36.alloc (.cells #[] 3) := ⟨_, rfl⟩
            have hbk38 : Below wk36.heap.size wk36 vk38 := by rw [hv38]; exact (Below.refl _ _).alloc (Nat.le_refl _) _
            have HBk38 : Below V.heap.size V vk38 := HBk36.trans (hbk38.mono HBk36.size)
            have HO5 := Hid.mk (owns_below HO5.out hbk38)
            have HOE9 := Hid.mk (own_void wk36 3 1)
            rw [← hv38] at HOE9
            have zE9 : vk38.heap.size = wk36.heap.size + 1 := by rw [hv38]; simp
            have zF9 : V.heap.size ≤ wk36.heap.size := HBk36.size
            rw [← hv38]
            clear hv38
            refine wpAnyH_ready (rs := [9]) (by kernel_rfl) (by simp) ?_
            refine AllReadyH.cons (o := ?_) ?_ (fun K hK => ?_) AllReadyH.nil
            rotate_left
            · (simp only [List.getElem?_toArray, List.getElem?_cons_zero, List.getElem?_cons_succ]; rfl)
            refine step_append_all rfl (.tmp 24) (.tmp 26) 41 rfl 0 3 i0 (.int .i64 0) 8 Try.underlying41 hi hz0 hz1 hz2 rfl (.slice (some ⟨wk36.heap.size, 0, none⟩) 0 0) 0 [] (by simp [Act.eval]) (owns_mono HOE9.out (Nat.zero_le _)) e1 m1 f1 x.2.1 (by simp [Act.eval]) HQ1.out (At.below HRW1.out HBk38) hq3 (by unfold maxLen; omega) (by omega) (Nat.zero_le _) (fun r9 d9 wk39 ho3 hg3 ht3 => ?_)
            simp only [Nat.zero_add, List.nil_append] at ho3 ht3 ⊢
            have HBk39 : Below V.heap.size V wk39 := HBk38.grown hg3 HBk38.size (fun j hj => by simp [Value.ownBlock] at hj; omega)
            have zA9 : vk38.heap.size ≤ wk39.heap.size := hg3.size
            have HO9 := Hid.mk ho3
            have HBL9 := Hid.mk (fun b (hb : (Value.slice r9 m1 d9).ownBlock = some b) => (show (b = wk36.heap.size ∨ b = vk38.heap.size) ∧ b < wk39.heap.size from ⟨(ht3.imp (fun h => by rw [h] at hb; simp [Value.ownBlock] at hb; exact hb.symm) (fun h => by rw [h] at hb; exact (Option.some.inj hb).symm)), (ho3.lt b hb).2⟩))
            have HO5 := Hid.mk (ownsRow_frame HO5.out (fun b hb hl => hg3.block b hl (fun e => by have h1 := HBL5.out b hb; simp [Value.ownBlock] at e; omega)))
            skip
            clear ho3 hg3 ht3 HOE9
            refine hK.out _ _ ?_ (fun hHeld' => ?_)
            · (try dsimp only)
              exact ⟨(HBk39.cell zlY).trans s0, (HBk39.cell zlY).trans s1, (HBk39.cell zlY).trans s2⟩
            clear hK K hHeld
            have hHeld := hHeld'
            clear hHeld'
            (try simp only [Act.put, List.setIfInBounds_toArray, List.set_cons_zero, List.set_cons_succ])
            refine tk 12 ?_
            refine wpAnyH_ready (rs := [13]) (by kernel_rfl) (by simp) ?_
            refine AllReadyH.cons (o := ?_) ?_ (fun K hK => ?_) AllReadyH.nil
            rotate_left
            · (simp only [List.getElem?_toArray, List.getElem?_cons_zero, List.getElem?_cons_succ]; rfl)
            go_simp
            (try go_wp2_with fail)
            refine hK.out _ _ ?_ (fun hHeld' => ?_)
            · (try dsimp only)
              exact ⟨((HBk39.alloc HBk39.size _).cell zlY).trans s0, ((HBk39.alloc HBk39.size _).cell zlY).trans s1, ((HBk39.alloc HBk39.size _).cell zlY).trans s2⟩
            clear hK K hHeld
            have hHeld := hHeld'
            clear hHeld'
            (try simp only [Act.put, List.setIfInBounds_toArray, List.set_cons_zero, List.set_cons_succ])
            obtain ⟨vk40, hv40⟩ : ∃ u, u = wk39.alloc (.cells #[.slice r5 m0 d5, .slice r9 m1 d9, .bool o] 76) := ⟨_, rfl⟩
            have hbk40 : Below wk39.heap.size wk39 vk40 := by rw [hv40]; exact (Below.refl _ _).alloc (Nat.le_refl _) _
            have HBk40 : Below V.heap.size V vk40 := HBk39.trans (hbk40.mono HBk39.size)
            have HVE := Hid.mk hv40
            have HP2 := Hid.mk HBk39
            rw [← hv40]
            clear hv40
            refine wpAnyH_ready (rs := [14]) (by kernel_rfl) (by simp) ?_
            refine AllReadyH.cons (o := ?_) ?_ (fun K hK => ?_) AllReadyH.nil
            rotate_left
            · (simp only [List.getElem?_toArray, List.getElem?_cons_zero, List.getElem?_cons_succ]; rfl)
            refine push_wire rfl (.tmp 19) (.tmp 31) rfl LB r k d cells wk39 HVE.out (by simp [Act.eval]) (by simp [Act.eval]) (owns_below HLB.out (bVY.out.trans (HP2.out.mono (by omega)))) (by omega) (by have := HP2.out.size; omega) (h := fun r6 d6 wk41 ho5 hg5 ht5 => ?_)
            obtain ⟨⟨G', hLN⟩, hBN, bp5, hcs⟩ := own_tail HL.out zloY (bVY.out.trans (HP2.out.mono (by omega))) HQ0.out HQ1.out HOO.out hm0 hm1 HO5.out HO9.out (fun b hb => by have h1 := HBL5.out b hb; omega) (fun b hb => by have h1 := HBL9.out b hb; omega) (fun b hb hb' => by have h1 := HBL5.out b hb; have h2 := HBL9.out b hb'; omega) ho5 hg5 ht5 HPB.out HPBX.out (by omega)
            have s0' := hcs 0 _ ((HP2.out.cell zlY).trans s0)
            have s1' := hcs 1 _ ((HP2.out.cell zlY).trans s1)
            have s2' := hcs 2 _ ((HP2.out.cell zlY).trans s2)
            have HLN := Hid.mk hLN
            have HBN := Hid.mk hBN
            have q1 := blk_cell bp5 1 (v := .slice r k d) rfl
            have f1 := blk_frozen bp5 1
            clear ho5 hg5 ht5 hLN hBN hcs
            refine hK.out _ _ ?_ (fun hHeld' => ?_)
            · (try dsimp only)
              exact ⟨s0', s1', s2'⟩
            clear hK K hHeld
            have hHeld := hHeld'
            clear hHeld'
            (try simp only [Act.put, List.setIfInBounds_toArray, List.set_cons_zero, List.set_cons_succ])
            refine tk 15 ?_
            refine wpAnyH_ready (rs := [16]) (by kernel_rfl) (by simp) ?_
            refine AllReadyH.cons (o := ?_) ?_ (fun K hK => ?_) AllReadyH.nil
            rotate_left
            · (simp only [List.getElem?_toArray, List.getElem?_cons_zero, List.getElem?_cons_succ]; rfl)
            go_simp
            (try go_wp2_with fail)
            refine hK.out _ _ ?_ (fun hHeld' => ?_)
            · (try dsimp only)
              exact ⟨(cell_far _ (by have := HPBX.out; omega)).trans s0', (cell_far _ (by have := HPBX.out; omega)).trans s1', (cell_far _ (by have := HPBX.out; omega)).trans s2'⟩
            clear hK K hHeld
            have hHeld := hHeld'
            clear hHeld'
            (try simp only [Act.put, List.setIfInBounds_toArray, List.set_cons_zero, List.set_cons_succ])
            refine wpAnyH_done (by kernel_rfl) ?_ _
            rw [← HTK.out] at HLN
            obtain ⟨X6, hX6⟩ : ∃ u, u = wk41.setCell ⟨PB, 1, none⟩ (.slice r6 (k + 1) d6) := ⟨_, rfl⟩
            have HREL := Hid.mk (own_round HPBX.out hX6 bp5 HLN.out HBN.out HOFF.out)
            clear bp5 HLN HBN q1 f1 s0' s1' s2'
            rw [← hX6]
            clear hX6
            go_wp2
            go_roundw
            case rel => exact ⟨k + 1, r6, d6, _, _, by omega, by go_num, HREL.out⟩
            case measure => simp [intOf]; omega
          refine AllReadyH.cons (o := ?_) ?_ (fun K hK => ?_) AllReadyH.nil
          rotate_left
          · (simp only [List.getElem?_toArray, List.getElem?_cons_zero, List.getElem?_cons_succ]; rfl)
          · go_simp
            (try go_wp2_with fail)
            refine hK.out _ _ ?_ (fun hHeld' => ?_)
            · (try dsimp only)
              exact ⟨((HBk36.alloc HBk36.size _).cell zlY).trans s0, ((HBk36.alloc HBk36.size _).cell zlY).trans s1, ((HBk36.alloc HBk36.size _).cell zlY).trans s2⟩
            clear hK K hHeld
            have hHeld := hHeld'
            clear hHeld'
            (try simp only [Act.put, List.setIfInBounds_toArray, List.set_cons_zero, List.set_cons_succ])
            obtain ⟨vk43, hv43⟩ : ∃ u, u = wk36.alloc (.cells #[] 3) := ⟨_, rfl⟩
            have hbk43 : Below wk36.heap.size wk36 vk43 := by rw [hv43]; exact (Below.refl _ _).alloc (Nat.le_refl _) _
            have HBk43 : Below V.heap.size V vk43 := HBk36.trans (hbk43.mono HBk36.size)
            have HO5 := Hid.mk (owns_below HO5.out hbk43)
            have HOE9 := Hid.mk (own_void wk36 3 1)
            rw [← hv43] at HOE9
            have zE9 : vk43.heap.size = wk36.heap.size + 1 := by rw [hv43]; simp
            have zF9 : V.heap.size ≤ wk36.heap.size := HBk36.size
            rw [← hv43]
            clear hv43
            have q1 := blk_cell (blk_below HPB.out (bVY.out.trans (HBk43.mono (by omega)))) 1 (v := .slice r k d) rfl
            refine wpAnyH_ready (rs := [1, 9]) (by kernel_rfl) (by simp) ?_
            refine AllReadyH.cons (o := ?_) ?_ (fun K hK => ?_) ?_
            rotate_left
            · (simp only [List.getElem?_toArray, List.getElem?_cons_zero, List.getElem?_cons_succ]; rfl)
            · go_simp
              (try go_wp2_with fail)
              refine hK.out _ _ ?_ (fun hHeld' => ?_)
              · (try dsimp only)
                exact ⟨(HBk43.cell zlY).trans s0, (HBk43.cell zlY).trans s1, (HBk43.cell zlY).trans s2⟩
              clear hK K hHeld
              have hHeld := hHeld'
              clear hHeld'
              (try simp only [Act.put, List.setIfInBounds_toArray, List.set_cons_zero, List.set_cons_succ])
              refine wpAnyH_ready (rs := [9]) (by kernel_rfl) (by simp) ?_
              refine AllReadyH.cons (o := ?_) ?_ (fun K hK => ?_) AllReadyH.nil
              rotate_left
              · (simp only [List.getElem?_toArray, List.getElem?_cons_zero, List.getElem?_cons_succ]; rfl)
              refine step_append_all rfl (.tmp 24) (.tmp 26) 41 rfl 0 3 i0 (.int .i64 0) 8 Try.underlying41 hi hz0 hz1 hz2 rfl (.slice (some ⟨wk36.heap.size, 0, none⟩) 0 0) 0 [] (by simp [Act.eval]) (owns_mono HOE9.out (Nat.zero_le _)) e1 m1 f1 x.2.1 (by simp [Act.eval]) HQ1.out (At.below HRW1.out HBk43) hq3 (by unfold maxLen; omega) (by omega) (Nat.zero_le _) (fun r9 d9 wk45 ho3 hg3 ht3 => ?_)
              simp only [Nat.zero_add, List.nil_append] at ho3 ht3 ⊢
              have HBk45 : Below V.heap.size V wk45 := HBk43.grown hg3 HBk43.size (fun j hj => by simp [Value.ownBlock] at hj; omega)
              have zA9 : vk43.heap.size ≤ wk45.heap.size := hg3.size
              have HO9 := Hid.mk ho3
              have HBL9 := Hid.mk (fun b (hb : (Value.slice r9 m1 d9).ownBlock = some b) => (show (b = wk36.heap.size ∨ b = vk43.heap.size) ∧ b < wk45.heap.size from ⟨(ht3.imp (fun h => by rw [h] at hb; simp [Value.ownBlock] at hb; exact hb.symm) (fun h => by rw [h] at hb; exact (Option.some.inj hb).symm)), (ho3.lt b hb).2⟩))
              have HO5 := Hid.mk (ownsRow_frame HO5.out (fun b hb hl => hg3.block b hl (fun e => by have h1 := HBL5.out b hb; simp [Value.ownBlock] at e; omega)))
              skip
              clear ho3 hg3 ht3 HOE9
              refine hK.out _ _ ?_ (fun hHeld' => ?_)
              · (try dsimp only)
                exact ⟨(HBk45.cell zlY).trans s0, (HBk45.cell zlY).trans s1, (HBk45.cell zlY).trans s2⟩
              clear hK K hHeld
              have hHeld := hHeld'
              clear hHeld'
              (try simp only [Act.put, List.setIfInBounds_toArray, List.set_cons_zero, List.set_cons_succ])
              refine tk 12 ?_
              refine wpAnyH_ready (rs := [13]) (by kernel_rfl) (by simp) ?_
              refine AllReadyH.cons (o := ?_) ?_ (fun K hK => ?_) AllReadyH.nil
              rotate_left
              · (simp only [List.getElem?_toArray, List.getElem?_cons_zero, List.getElem?_cons_succ]; rfl)
              go_simp
              (try go_wp2_with fail)
              refine hK.out _ _ ?_ (fun hHeld' => ?_)
              · (try dsimp only)
                exact ⟨((HBk45.alloc HBk45.size _).cell zlY).trans s0, ((HBk45.alloc HBk45.size _).cell zlY).trans s1, ((HBk45.alloc HBk45.size _).cell zlY).trans s2⟩
              clear hK K hHeld
              have hHeld := hHeld'
              clear hHeld'
              (try simp only [Act.put, List.setIfInBounds_toArray, List.set_cons_zero, List.set_cons_succ])
              obtain ⟨vk46, hv46⟩ : ∃ u, u = wk45.alloc (.cells #[.slice r5 m0 d5, .slice r9 m1 d9, .bool o] 76) := ⟨_, rfl⟩
              have hbk46 : Below wk45.heap.size wk45 vk46 := by rw [hv46]; exact (Below.refl _ _).alloc (Nat.le_refl _) _
              have HBk46 : Below V.heap.size V vk46 := HBk45.trans (hbk46.mono HBk45.size)
              have HVE := Hid.mk hv46
              have HP2 := Hid.mk HBk45
              rw [← hv46]
              clear hv46
              refine wpAnyH_ready (rs := [14]) (by kernel_rfl) (by simp) ?_
              refine AllReadyH.cons (o := ?_) ?_ (fun K hK => ?_) AllReadyH.nil
              rotate_left
              · (simp only [List.getElem?_toArray, List.getElem?_cons_zero, List.getElem?_cons_succ]; rfl)
              refine push_wire rfl (.tmp 19) (.tmp 31) rfl LB r k d cells wk45 HVE.out (by simp [Act.eval]) (by simp [Act.eval]) (owns_below HLB.out (bVY.out.trans (HP2.out.mono (by omega)))) (by omega) (by have := HP2.out.size; omega) (h := fun r6 d6 wk47 ho5 hg5 ht5 => ?_)
              obtain ⟨⟨G', hLN⟩, hBN, bp5, hcs⟩ := own_tail HL.out zloY (bVY.out.trans (HP2.out.mono (by omega))) HQ0.out HQ1.out HOO.out hm0 hm1 HO5.out HO9.out (fun b hb => by have h1 := HBL5.out b hb; omega) (fun b hb => by have h1 := HBL9.out b hb; omega) (fun b hb hb' => by have h1 := HBL5.out b hb; have h2 := HBL9.out b hb'; omega) ho5 hg5 ht5 HPB.out HPBX.out (by omega)
              have s0' := hcs 0 _ ((HP2.out.cell zlY).trans s0)
              have s1' := hcs 1 _ ((HP2.out.cell zlY).trans s1)
              have s2' := hcs 2 _ ((HP2.out.cell zlY).trans s2)
              have HLN := Hid.mk hLN
              have HBN := Hid.mk hBN
              have q1 := blk_cell bp5 1 (v := .slice r k d) rfl
              have f1 := blk_frozen bp5 1
              clear ho5 hg5 ht5 hLN hBN hcs
              refine hK.out _ _ ?_ (fun hHeld' => ?_)
              · (try dsimp only)
                exact ⟨s0', s1', s2'⟩
              clear hK K hHeld
              have hHeld := hHeld'
              clear hHeld'
              (try simp only [Act.put, List.setIfInBounds_toArray, List.set_cons_zero, List.set_cons_succ])
              refine tk 15 ?_
              refine wpAnyH_ready (rs := [16]) (by kernel_rfl) (by simp) ?_
              refine AllReadyH.cons (o := ?_) ?_ (fun K hK => ?_) AllReadyH.nil
              rotate_left
              · (simp only [List.getElem?_toArray, List.getElem?_cons_zero, List.getElem?_cons_succ]; rfl)
              go_simp
              (try go_wp2_with fail)
              refine hK.out _ _ ?_ (fun hHeld' => ?_)
              · (try dsimp only)
                exact ⟨(cell_far _ (by have := HPBX.out; omega)).trans s0', (cell_far _ (by have := HPBX.out; omega)).trans s1', (cell_far _ (by have := HPBX.out; omega)).trans s2'⟩
              clear hK K hHeld
              have hHeld := hHeld'
              clear hHeld'
              (try simp only [Act.put, List.setIfInBounds_toArray, List.set_cons_zero, List.set_cons_succ])
              refine wpAnyH_done (by kernel_rfl) ?_ _
              rw [← HTK.out] at HLN
              obtain ⟨X6, hX6⟩ : ∃ u, u = wk47.setCell ⟨PB, 1, none⟩ (.slice r6 (k + 1) d6) := ⟨_, rfl⟩
              have HREL := Hid.mk (own_round HPBX.out hX6 bp5 HLN.out HBN.out HOFF.out)
              clear bp5 HLN HBN q1 f1 s0' s1' s2'
              rw [← hX6]
              clear hX6
              go_wp2
              go_roundw
              case rel => exact ⟨k + 1, r6, d6, _, _, by omega, by go_num, HREL.out⟩
              case measure => simp [intOf]; omega
            refine AllReadyH.cons (o := ?_) ?_ (fun K hK => ?_) AllReadyH.nil
            rotate_left
            · (simp only [List.getElem?_toArray, List.getElem?_cons_zero, List.getElem?_cons_succ]; rfl)
            · refine step_append_all rfl (.tmp 24) (.tmp 26) 41 rfl 0 3 i0 (.int .i64 0) 8 Try.underlying41 hi hz0 hz1 hz2 rfl (.slice (some ⟨wk36.heap.size, 0, none⟩) 0 0) 0 [] (by simp [Act.eval]) (owns_mono HOE9.out (Nat.zero_le _)) e1 m1 f1 x.2.1 (by simp [Act.eval]) HQ1.out (At.below HRW1.out HBk43) hq3 (by unfold maxLen; omega) (by omega) (Nat.zero_le _) (fun r9 d9 wk49 ho3 hg3 ht3 => ?_)
              simp only [Nat.zero_add, List.nil_append] at ho3 ht3 ⊢
              have HBk49 : Below V.heap.size V wk49 := HBk43.grown hg3 HBk43.size (fun j hj => by simp [Value.ownBlock] at hj; omega)
              have zA9 : vk43.heap.size ≤ wk49.heap.size := hg3.size
              have HO9 := Hid.mk ho3
              have HBL9 := Hid.mk (fun b (hb : (Value.slice r9 m1 d9).ownBlock = some b) => (show (b = wk36.heap.size ∨ b = vk43.heap.size) ∧ b < wk49.heap.size from ⟨(ht3.imp (fun h => by rw [h] at hb; simp [Value.ownBlock] at hb; exact hb.symm) (fun h => by rw [h] at hb; exact (Option.some.inj hb).symm)), (ho3.lt b hb).2⟩))
              have HO5 := Hid.mk (ownsRow_frame HO5.out (fun b hb hl => hg3.block b hl (fun e => by have h1 := HBL5.out b hb; simp [Value.ownBlock] at e; omega)))
              skip
              clear ho3 hg3 ht3 HOE9
              refine hK.out _ _ ?_ (fun hHeld' => ?_)
              · (try dsimp only)
                exact ⟨(HBk49.cell zlY).trans s0, (HBk49.cell zlY).trans s1, (HBk49.cell zlY).trans s2⟩
              clear hK K hHeld
              have hHeld := hHeld'
              clear hHeld'
              (try simp only [Act.put, List.setIfInBounds_toArray, List.set_cons_zero, List.set_cons_succ])
              refine tk 12 ?_
              have q1 := blk_cell (blk_below HPB.out (bVY.out.trans (HBk49.mono (by omega)))) 1 (v := .slice r k d) rfl
              refine wpAnyH_ready (rs := [1, 13]) (by kernel_rfl) (by simp) ?_
              refine AllReadyH.cons (o := ?_) ?_ (fun K hK => ?_) ?_
              rotate_left
              · (simp only [List.getElem?_toArray, List.getElem?_cons_zero, List.getElem?_cons_succ]; rfl)
              · go_simp
                (try go_wp2_with fail)
                refine hK.out _ _ ?_ (fun hHeld' => ?_)
                · (try dsimp only)
                  exact ⟨(HBk49.cell zlY).trans s0, (HBk49.cell zlY).trans s1, (HBk49.cell zlY).trans s2⟩
                clear hK K hHeld
                have hHeld := hHeld'
                clear hHeld'
                (try simp only [Act.put, List.setIfInBounds_toArray, List.set_cons_zero, List.set_cons_succ])
                refine wpAnyH_ready (rs := [13]) (by kernel_rfl) (by simp) ?_
                refine AllReadyH.cons (o := ?_) ?_ (fun K hK => ?_) AllReadyH.nil
                rotate_left
                · (simp only [List.getElem?_toArray, List.getElem?_cons_zero, List.getElem?_cons_succ]; rfl)
                go_simp
                (try go_wp2_with fail)
                refine hK.out _ _ ?_ (fun hHeld' => ?_)
                · (try dsimp only)
                  exact ⟨((HBk49.alloc HBk49.size _).cell zlY).trans s0, ((HBk49.alloc HBk49.size _).cell zlY).trans s1, ((HBk49.alloc HBk49.size _).cell zlY).trans s2⟩
                clear hK K hHeld
                have hHeld := hHeld'
                clear hHeld'
                (try simp only [Act.put, List.setIfInBounds_toArray, List.set_cons_zero, List.set_cons_succ])
                obtain ⟨vk51, hv51⟩ : ∃ u, u = wk49.alloc (.cells #[.slice r5 m0 d5, .slice r9 m1 d9, .bool o] 76) := ⟨_, rfl⟩
                have hbk51 : Below wk49.heap.size wk49 vk51 := by rw [hv51]; exact (Below.refl _ _).alloc (Nat.le_refl _) _
                have HBk51 : Below V.heap.size V vk51 := HBk49.trans (hbk51.mono HBk49.size)
                have HVE := Hid.mk hv51
                have HP2 := Hid.mk HBk49
                rw [← hv51]
                clear hv51
                refine wpAnyH_ready (rs := [14]) (by kernel_rfl) (by simp) ?_
                refine AllReadyH.cons (o := ?_) ?_ (fun K hK => ?_) AllReadyH.nil
                rotate_left
                · (simp only [List.getElem?_toArray, List.getElem?_cons_zero, List.getElem?_cons_succ]; rfl)
                refine push_wire rfl (.tmp 19) (.tmp 31) rfl LB r k d cells wk49 HVE.out (by simp [Act.eval]) (by simp [Act.eval]) (owns_below HLB.out (bVY.out.trans (HP2.out.mono (by omega)))) (by omega) (by have := HP2.out.size; omega) (h := fun r6 d6 wk52 ho5 hg5 ht5 => ?_)
                obtain ⟨⟨G', hLN⟩, hBN, bp5, hcs⟩ := own_tail HL.out zloY (bVY.out.trans (HP2.out.mono (by omega))) HQ0.out HQ1.out HOO.out hm0 hm1 HO5.out HO9.out (fun b hb => by have h1 := HBL5.out b hb; omega) (fun b hb => by have h1 := HBL9.out b hb; omega) (fun b hb hb' => by have h1 := HBL5.out b hb; have h2 := HBL9.out b hb'; omega) ho5 hg5 ht5 HPB.out HPBX.out (by omega)
                have s0' := hcs 0 _ ((HP2.out.cell zlY).trans s0)
                have s1' := hcs 1 _ ((HP2.out.cell zlY).trans s1)
                have s2' := hcs 2 _ ((HP2.out.cell zlY).trans s2)
                have HLN := Hid.mk hLN
                have HBN := Hid.mk hBN
                have q1 := blk_cell bp5 1 (v := .slice r k d) rfl
                have f1 := blk_frozen bp5 1
                clear ho5 hg5 ht5 hLN hBN hcs
                refine hK.out _ _ ?_ (fun hHeld' => ?_)
                · (try dsimp only)
                  exact ⟨s0', s1', s2'⟩
                clear hK K hHeld
                have hHeld := hHeld'
                clear hHeld'
                (try simp only [Act.put, List.setIfInBounds_toArray, List.set_cons_zero, List.set_cons_succ])
                refine tk 15 ?_
                refine wpAnyH_ready (rs := [16]) (by kernel_rfl) (by simp) ?_
                refine AllReadyH.cons (o := ?_) ?_ (fun K hK => ?_) AllReadyH.nil
                rotate_left
                · (simp only [List.getElem?_toArray, List.getElem?_cons_zero, List.getElem?_cons_succ]; rfl)
                go_simp
                (try go_wp2_with fail)
                refine hK.out _ _ ?_ (fun hHeld' => ?_)
                · (try dsimp only)
                  exact ⟨(cell_far _ (by have := HPBX.out; omega)).trans s0', (cell_far _ (by have := HPBX.out; omega)).trans s1', (cell_far _ (by have := HPBX.out; omega)).trans s2'⟩
                clear hK K hHeld
                have hHeld := hHeld'
                clear hHeld'
                (try simp only [Act.put, List.setIfInBounds_toArray, List.set_cons_zero, List.set_cons_succ])
                refine wpAnyH_done (by kernel_rfl) ?_ _
                rw [← HTK.out] at HLN
                obtain ⟨X6, hX6⟩ : ∃ u, u = wk52.setCell ⟨PB, 1, none⟩ (.slice r6 (k + 1) d6) := ⟨_, rfl⟩
                have HREL := Hid.mk (own_round HPBX.out hX6 bp5 HLN.out HBN.out HOFF.out)
                clear bp5 HLN HBN q1 f1 s0' s1' s2'
                rw [← hX6]
                clear hX6
                go_wp2
                go_roundw
                case rel => exact ⟨k + 1, r6, d6, _, _, by omega, by go_num, HREL.out⟩
                case measure => simp [intOf]; omega
              refine AllReadyH.cons (o := ?_) ?_ (fun K hK => ?_) AllReadyH.nil
              rotate_left
              · (simp only [List.getElem?_toArray, List.getElem?_cons_zero, List.getElem?_cons_succ]; rfl)
              · go_simp
                (try go_wp2_with fail)
                refine hK.out _ _ ?_ (fun hHeld' => ?_)
                · (try dsimp only)
                  exact ⟨((HBk49.alloc HBk49.size _).cell zlY).trans s0, ((HBk49.alloc HBk49.size _).cell zlY).trans s1, ((HBk49.alloc HBk49.size _).cell zlY).trans s2⟩
                clear hK K hHeld
                have hHeld := hHeld'
                clear hHeld'
                (try simp only [Act.put, List.setIfInBounds_toArray, List.set_cons_zero, List.set_cons_succ])
                obtain ⟨vk54, hv54⟩ : ∃ u, u = wk49.alloc (.cells #[.slice r5 m0 d5, .slice r9 m1 d9, .bool o] 76) := ⟨_, rfl⟩
                have hbk54 : Below wk49.heap.size wk49 vk54 := by rw [hv54]; exact (Below.refl _ _).alloc (Nat.le_refl _) _
                have HBk54 : Below V.heap.size V vk54 := HBk49.trans (hbk54.mono HBk49.size)
                have HVE := Hid.mk hv54
                have HP2 := Hid.mk HBk49
                rw [← hv54]
                clear hv54
                have q1 := blk_cell (blk_below HPB.out (bVY.out.trans (HBk54.mono (by omega)))) 1 (v := .slice r k d) rfl
                refine wpAnyH_ready (rs := [1]) (by kernel_rfl) (by simp) ?_
                refine AllReadyH.cons (o := ?_) ?_ (fun K hK => ?_) AllReadyH.nil
                rotate_left
                · (simp only [List.getElem?_toArray, List.getElem?_cons_zero, List.getElem?_cons_succ]; rfl)
                go_simp
                (try go_wp2_with fail)
                refine hK.out _ _ ?_ (fun hHeld' => ?_)
                · (try dsimp only)
                  exact ⟨(HBk54.cell zlY).trans s0, (HBk54.cell zlY).trans s1, (HBk54.cell zlY).trans s2⟩
                clear hK K hHeld
                have hHeld := hHeld'
                clear hHeld'
                (try simp only [Act.put, List.setIfInBounds_toArray, List.set_cons_zero, List.set_cons_succ])
                refine wpAnyH_ready (rs := [14]) (by kernel_rfl) (by simp) ?_
                refine AllReadyH.cons (o := ?_) ?_ (fun K hK => ?_) AllReadyH.nil
                rotate_left
                · (simp only [List.getElem?_toArray, List.getElem?_cons_zero, List.getElem?_cons_succ]; rfl)
                refine push_wire rfl (.tmp 19) (.tmp 31) rfl LB r k d cells wk49 HVE.out (by simp [Act.eval]) (by simp [Act.eval]) (owns_below HLB.out (bVY.out.trans (HP2.out.mono (by omega)))) (by omega) (by have := HP2.out.size; omega) (h := fun r6 d6 wk56 ho5 hg5 ht5 => ?_)
                obtain ⟨⟨G', hLN⟩, hBN, bp5, hcs⟩ := own_tail HL.out zloY (bVY.out.trans (HP2.out.mono (by omega))) HQ0.out HQ1.out HOO.out hm0 hm1 HO5.out HO9.out (fun b hb => by have h1 := HBL5.out b hb; omega) (fun b hb => by have h1 := HBL9.out b hb; omega) (fun b hb hb' => by have h1 := HBL5.out b hb; have h2 := HBL9.out b hb'; omega) ho5 hg5 ht5 HPB.out HPBX.out (by omega)
                have s0' := hcs 0 _ ((HP2.out.cell zlY).trans s0)
                have s1' := hcs 1 _ ((HP2.out.cell zlY).trans s1)
                have s2' := hcs 2 _ ((HP2.out.cell zlY).trans s2)
                have HLN := Hid.mk hLN
                have HBN := Hid.mk hBN
                have q1 := blk_cell bp5 1 (v := .slice r k d) rfl
                have f1 := blk_frozen bp5 1
                clear ho5 hg5 ht5 hLN hBN hcs
                refine hK.out _ _ ?_ (fun hHeld' => ?_)
                · (try dsimp only)
                  exact ⟨s0', s1', s2'⟩
                clear hK K hHeld
                have hHeld := hHeld'
                clear hHeld'
                (try simp only [Act.put, List.setIfInBounds_toArray, List.set_cons_zero, List.set_cons_succ])
                refine tk 15 ?_
                refine wpAnyH_ready (rs := [16]) (by kernel_rfl) (by simp) ?_
                refine AllReadyH.cons (o := ?_) ?_ (fun K hK => ?_) AllReadyH.nil
                rotate_left
                · (simp only [List.getElem?_toArray, List.getElem?_cons_zero, List.getElem?_cons_succ]; rfl)
                go_simp
                (try go_wp2_with fail)
                refine hK.out _ _ ?_ (fun hHeld' => ?_)
                · (try dsimp only)
                  exact ⟨(cell_far _ (by have := HPBX.out; omega)).trans s0', (cell_far _ (by have := HPBX.out; omega)).trans s1', (cell_far _ (by have := HPBX.out; omega)).trans s2'⟩
                clear hK K hHeld
                have hHeld := hHeld'
                clear hHeld'
                (try simp only [Act.put, List.setIfInBounds_toArray, List.set_cons_zero, List.set_cons_succ])
                refine wpAnyH_done (by kernel_rfl) ?_ _
                rw [← HTK.out] at HLN
                obtain ⟨X6, hX6⟩ : ∃ u, u = wk56.setCell ⟨PB, 1, none⟩ (.slice r6 (k + 1) d6) := ⟨_, rfl⟩
                have HREL := Hid.mk (own_round HPBX.out hX6 bp5 HLN.out HBN.out HOFF.out)
                clear bp5 HLN HBN q1 f1 s0' s1' s2'
                rw [← hX6]
                clear hX6
                go_wp2
                go_roundw
                case rel => exact ⟨k + 1, r6, d6, _, _, by omega, by go_num, HREL.out⟩
                case measure => simp [intOf]; omega
        refine AllReadyH.cons (o := ?_) ?_ (fun K hK => ?_) AllReadyH.nil
        rotate_left
        · (simp only [List.getElem?_toArray, List.getElem?_cons_zero, List.getElem?_cons_succ]; rfl)
        · go_simp
          (try go_wp2_with fail)
          refine hK.out _ _ ?_ (fun hHeld' => ?_)
          · (try dsimp only)
            exact ⟨((HBk22.alloc HBk22.size _).cell zlY).trans s0, ((HBk22.alloc HBk22.size _).cell zlY).trans s1, ((HBk22.alloc HBk22.size _).cell zlY).trans s2⟩
          clear hK K hHeld
          have hHeld := hHeld'
          clear hHeld'
          (try simp only [Act.put, List.setIfInBounds_toArray, List.set_cons_zero, List.set_cons_succ])
          obtain ⟨vk58, hv58⟩ : ∃ u, u = vk22.alloc (.cells #[] 3) := ⟨_, rfl⟩
          have hbk58 : Below vk22.heap.size vk22 vk58 := by rw [hv58]; exact (Below.refl _ _).alloc (Nat.le_refl _) _
          have HBk58 : Below V.heap.size V vk58 := HBk22.trans (hbk58.mono HBk22.size)
          have HOE5 := Hid.mk (owns_below HOE5.out hbk58)
          have HOE9 := Hid.mk (own_void vk22 3 1)
          rw [← hv58] at HOE9
          have zE9 : vk58.heap.size = vk22.heap.size + 1 := by rw [hv58]; simp
          have zF9 : V.heap.size ≤ vk22.heap.size := HBk22.size
          rw [← hv58]
          clear hv58
          have q1 := blk_cell (blk_below HPB.out (bVY.out.trans (HBk58.mono (by omega)))) 1 (v := .slice r k d) rfl
          refine wpAnyH_ready (rs := [1, 5]) (by kernel_rfl) (by simp) ?_
          refine AllReadyH.cons (o := ?_) ?_ (fun K hK => ?_) ?_
          rotate_left
          · (simp only [List.getElem?_toArray, List.getElem?_cons_zero, List.getElem?_cons_succ]; rfl)
          · go_simp
            (try go_wp2_with fail)
            refine hK.out _ _ ?_ (fun hHeld' => ?_)
            · (try dsimp only)
              exact ⟨(HBk58.cell zlY).trans s0, (HBk58.cell zlY).trans s1, (HBk58.cell zlY).trans s2⟩
            clear hK K hHeld
            have hHeld := hHeld'
            clear hHeld'
            (try simp only [Act.put, List.setIfInBounds_toArray, List.set_cons_zero, List.set_cons_succ])
            refine wpAnyH_ready (rs := [5]) (by kernel_rfl) (by simp) ?_
            refine AllReadyH.cons (o := ?_) ?_ (fun K hK => ?_) AllReadyH.nil
            rotate_left
            · (simp only [List.getElem?_toArray, List.getElem?_cons_zero, List.getElem?_cons_succ]; rfl)
            refine step_append_all rfl (.tmp 20) (.tmp 22) 41 rfl 0 3 i0 (.int .i64 0) 8 Try.underlying41 hi hz0 hz1 hz2 rfl (.slice (some ⟨u0.heap.size, 0, none⟩) 0 0) 0 [] (by simp [Act.eval]) (owns_mono HOE5.out (Nat.zero_le _)) e0 m0 f0 x.1 (by simp [Act.eval]) HQ0.out (At.below HRW0.out HBk58) hq2 (by unfold maxLen; omega) (by omega) (Nat.zero_le _) (fun r5 d5 wk60 ho3 hg3 ht3 => ?_)
            simp only [Nat.zero_add, List.nil_append] at ho3 ht3 ⊢
            have HBk60 : Below V.heap.size V wk60 := HBk58.grown hg3 HBk58.size (fun j hj => by simp [Value.ownBlock] at hj; omega)
            have zA5 : vk58.heap.size ≤ wk60.heap.size := hg3.size
            have HO5 := Hid.mk ho3
            have HBL5 := Hid.mk (fun b (hb : (Value.slice r5 m0 d5).ownBlock = some b) => (show (b = u0.heap.size ∨ b = vk58.heap.size) ∧ b < wk60.heap.size from ⟨(ht3.imp (fun h => by rw [h] at hb; simp [Value.ownBlock] at hb; exact hb.symm) (fun h => by rw [h] at hb; exact (Option.some.inj hb).symm)), (ho3.lt b hb).2⟩))
            have HOE9 := Hid.mk (ownsRow_frame HOE9.out (fun b hb hl => hg3.block b hl (fun e => by simp [Value.ownBlock] at hb e; omega)))
            skip
            clear ho3 hg3 ht3 HOE5
            refine hK.out _ _ ?_ (fun hHeld' => ?_)
            · (try dsimp only)
              exact ⟨(HBk60.cell zlY).trans s0, (HBk60.cell zlY).trans s1, (HBk60.cell zlY).trans s2⟩
            clear hK K hHeld
            have hHeld := hHeld'
            clear hHeld'
            (try simp only [Act.put, List.setIfInBounds_toArray, List.set_cons_zero, List.set_cons_succ])
            refine wpAnyH_ready (rs := [9]) (by kernel_rfl) (by simp) ?_
            refine AllReadyH.cons (o := ?_) ?_ (fun K hK => ?_) AllReadyH.nil
            rotate_left
            · (simp only [List.getElem?_toArray, List.getElem?_cons_zero, List.getElem?_cons_succ]; rfl)
            refine step_append_all rfl (.tmp 24) (.tmp 26) 41 rfl 0 3 i0 (.int .i64 0) 8 Try.underlying41 hi hz0 hz1 hz2 rfl (.slice (some ⟨vk22.heap.size, 0, none⟩) 0 0) 0 [] (by simp [Act.eval]) (owns_mono HOE9.out (Nat.zero_le _)) e1 m1 f1 x.2.1 (by simp [Act.eval]) HQ1.out (At.below HRW1.out HBk60) hq3 (by unfold maxLen; omega) (by omega) (Nat.zero_le _) (fun r9 d9 wk61 ho3 hg3 ht3 => ?_)
            simp only [Nat.zero_add, List.nil_append] at ho3 ht3 ⊢
            have HBk61 : Below V.heap.size V wk61 := HBk60.grown hg3 HBk60.size (fun j hj => by simp [Value.ownBlock] at hj; omega)
            have zA9 : wk60.heap.size ≤ wk61.heap.size := hg3.size
            have HO9 := Hid.mk ho3
            have HBL9 := Hid.mk (fun b (hb : (Value.slice r9 m1 d9).ownBlock = some b) => (show (b = vk22.heap.size ∨ b = wk60.heap.size) ∧ b < wk61.heap.size from ⟨(ht3.imp (fun h => by rw [h] at hb; simp [Value.ownBlock] at hb; exact hb.symm) (fun h => by rw [h] at hb; exact (Option.some.inj hb).symm)), (ho3.lt b hb).2⟩))
            have HO5 := Hid.mk (ownsRow_frame HO5.out (fun b hb hl => hg3.block b hl (fun e => by have h1 := HBL5.out b hb; simp [Value.ownBlock] at e; omega)))
            skip
            clear ho3 hg3 ht3 HOE9
            refine hK.out _ _ ?_ (fun hHeld' => ?_)
            · (try dsimp only)
              exact ⟨(HBk61.cell zlY).trans s0, (HBk61.cell zlY).trans s1, (HBk61.cell zlY).trans s2⟩
            clear hK K hHeld
            have hHeld := hHeld'
            clear hHeld'
            (try simp only [Act.put, List.setIfInBounds_toArray, List.set_cons_zero, List.set_cons_succ])
            refine tk 12 ?_
            refine wpAnyH_ready (rs := [13]) (by kernel_rfl) (by simp) ?_
            refine AllReadyH.cons (o := ?_) ?_ (fun K hK => ?_) AllReadyH.nil
            rotate_left
            · (simp only [List.getElem?_toArray, List.getElem?_cons_zero, List.getElem?_cons_succ]; rfl)
            go_simp
            (try go_wp2_with fail)
            refine hK.out _ _ ?_ (fun hHeld' => ?_)
            · (try dsimp only)
              exact ⟨((HBk61.alloc HBk61.size _).cell zlY).trans s0, ((HBk61.alloc HBk61.size _).cell zlY).trans s1, ((HBk61.alloc HBk61.size _).cell zlY).trans s2⟩
            clear hK K hHeld
            have hHeld := hHeld'
            clear hHeld'
            (try simp only [Act.put, List.setIfInBounds_toArray, List.set_cons_zero, List.set_cons_succ])
            obtain ⟨vk62, hv62⟩ : ∃ u, u = wk61.alloc (.cells #[.slice r5 m0 d5, .slice r9 m1 d9, .bool o] 76) := ⟨_, rfl⟩
            have hbk62 : Below wk61.heap.size wk61 vk62 := by rw [hv62]; exact (Below.refl _ _).alloc (Nat.le_refl _) _
            have HBk62 : Below V.heap.size V vk62 := HBk61.trans (hbk62.mono HBk61.size)
            have HVE := Hid.mk hv62
            have HP2 := Hid.mk HBk61
            rw [← hv62]
            clear hv62
            refine wpAnyH_ready (rs := [14]) (by kernel_rfl) (by simp) ?_
            refine AllReadyH.cons (o := ?_) ?_ (fun K hK => ?_) AllReadyH.nil
            rotate_left
            · (simp only [List.getElem?_toArray, List.getElem?_cons_zero, List.getElem?_cons_succ]; rfl)
            refine push_wire rfl (.tmp 19) (.tmp 31) rfl LB r k d cells wk61 HVE.out (by simp [Act.eval]) (by simp [Act.eval]) (owns_below HLB.out (bVY.out.trans (HP2.out.mono (by omega)))) (by omega) (by have := HP2.out.size; omega) (h := fun r6 d6 wk63 ho5 hg5 ht5 => ?_)
            obtain ⟨⟨G', hLN⟩, hBN, bp5, hcs⟩ := own_tail HL.out zloY (bVY.out.trans (HP2.out.mono (by omega))) HQ0.out HQ1.out HOO.out hm0 hm1 HO5.out HO9.out (fun b hb => by have h1 := HBL5.out b hb; omega) (fun b hb => by have h1 := HBL9.out b hb; omega) (fun b hb hb' => by have h1 := HBL5.out b hb; have h2 := HBL9.out b hb'; omega) ho5 hg5 ht5 HPB.out HPBX.out (by omega)
            have s0' := hcs 0 _ ((HP2.out.cell zlY).trans s0)
            have s1' := hcs 1 _ ((HP2.out.cell zlY).trans s1)
            have s2' := hcs 2 _ ((HP2.out.cell zlY).trans s2)
            have HLN := Hid.mk hLN
            have HBN := Hid.mk hBN
            have q1 := blk_cell bp5 1 (v := .slice r k d) rfl
            have f1 := blk_frozen bp5 1
            clear ho5 hg5 ht5 hLN hBN hcs
            refine hK.out _ _ ?_ (fun hHeld' => ?_)
            · (try dsimp only)
              exact ⟨s0', s1', s2'⟩
            clear hK K hHeld
            have hHeld := hHeld'
            clear hHeld'
            (try simp only [Act.put, List.setIfInBounds_toArray, List.set_cons_zero, List.set_cons_succ])
            refine tk 15 ?_
            refine wpAnyH_ready (rs := [16]) (by kernel_rfl) (by simp) ?_
            refine AllReadyH.cons (o := ?_) ?_ (fun K hK => ?_) AllReadyH.nil
            rotate_left
            · (simp only [List.getElem?_toArray, List.getElem?_cons_zero, List.getElem?_cons_succ]; rfl)
            go_simp
            (try go_wp2_with fail)
            refine hK.out _ _ ?_ (fun hHeld' => ?_)
            · (try dsimp only)
              exact ⟨(cell_far _ (by have := HPBX.out; omega)).trans s0', (cell_far _ (by have := HPBX.out; omega)).trans s1', (cell_far _ (by have := HPBX.out; omega)).trans s2'⟩
            clear hK K hHeld
            have hHeld := hHeld'
            clear hHeld'
            (try simp only [Act.put, List.setIfInBounds_toArray, List.set_cons_zero, List.set_cons_succ])
            refine wpAnyH_done (by kernel_rfl) ?_ _
            rw [← HTK.out] at HLN
            obtain ⟨X6, hX6⟩ : ∃ u, u = wk63.setCell ⟨PB, 1, none⟩ (.slice r6 (k + 1) d6) := ⟨_, rfl⟩
            have HREL := Hid.mk (own_round HPBX.out hX6 bp5 HLN.out HBN.out HOFF.out)
            clear bp5 HLN HBN q1 f1 s0' s1' s2'
            rw [← hX6]
            clear hX6
            go_wp2
            go_roundw
            case rel => exact ⟨k + 1, r6, d6, _, _, by omega, by go_num, HREL.out⟩
            case measure => simp [intOf]; omega
          refine AllReadyH.cons (o := ?_) ?_ (fun K hK => ?_) AllReadyH.nil
          rotate_left
          · (simp only [List.getElem?_toArray, List.getElem?_cons_zero, List.getElem?_cons_succ]; rfl)
          · refine step_append_all rfl (.tmp 20) (.tmp 22) 41 rfl 0 3 i0 (.int .i64 0) 8 Try.underlying41 hi hz0 hz1 hz2 rfl (.slice (some ⟨u0.heap.size, 0, none⟩) 0 0) 0 [] (by simp [Act.eval]) (owns_mono HOE5.out (Nat.zero_le _)) e0 m0 f0 x.1 (by simp [Act.eval]) HQ0.out (At.below HRW0.out HBk58) hq2 (by unfold maxLen; omega) (by omega) (Nat.zero_le _) (fun r5 d5 wk65 ho3 hg3 ht3 => ?_)
            simp only [Nat.zero_add, List.nil_append] at ho3 ht3 ⊢
            have HBk65 : Below V.heap.size V wk65 := HBk58.grown hg3 HBk58.size (fun j hj => by simp [Value.ownBlock] at hj; omega)
            have zA5 : vk58.heap.size ≤ wk65.heap.size := hg3.size
            have HO5 := Hid.mk ho3
            have HBL5 := Hid.mk (fun b (hb : (Value.slice r5 m0 d5).ownBlock = some b) => (show (b = u0.heap.size ∨ b = vk58.heap.size) ∧ b < wk65.heap.size from ⟨(ht3.imp (fun h => by rw [h] at hb; simp [Value.ownBlock] at hb; exact hb.symm) (fun h => by rw [h] at hb; exact (Option.some.inj hb).symm)), (ho3.lt b hb).2⟩))
            have HOE9 := Hid.mk (ownsRow_frame HOE9.out (fun b hb hl => hg3.block b hl (fun e => by simp [Value.ownBlock] at hb e; omega)))
            skip
            clear ho3 hg3 ht3 HOE5
            refine hK.out _ _ ?_ (fun hHeld' => ?_)
            · (try dsimp only)
              exact ⟨(HBk65.cell zlY).trans s0, (HBk65.cell zlY).trans s1, (HBk65.cell zlY).trans s2⟩
            clear hK K hHeld
            have hHeld := hHeld'
            clear hHeld'
            (try simp only [Act.put, List.setIfInBounds_toArray, List.set_cons_zero, List.set_cons_succ])
            have q1 := blk_cell (blk_below HPB.out (bVY.out.trans (HBk65.mono (by omega)))) 1 (v := .slice r k d) rfl
            refine wpAnyH_ready (rs := [1, 9]) (by kernel_rfl) (by simp) ?_
            refine AllReadyH.cons (o := ?_) ?_ (fun K hK => ?_) ?_
            rotate_left
            · (simp only [List.getElem?_toArray, List.getElem?_cons_zero, List.getElem?_cons_succ]; rfl)
            · go_simp
              (try go_wp2_with fail)
              refine hK.out _ _ ?_ (fun hHeld' => ?_)
              · (try dsimp only)
                exact ⟨(HBk65.cell zlY).trans s0, (HBk65.cell zlY).trans s1, (HBk65.cell zlY).trans s2⟩
              clear hK K hHeld
              have hHeld := hHeld'
              clear hHeld'
              (try simp only [Act.put, List.setIfInBounds_toArray, List.set_cons_zero, List.set_cons_succ])
              refine wpAnyH_ready (rs := [9]) (by kernel_rfl) (by simp) ?_
              refine AllReadyH.cons (o := ?_) ?_ (fun K hK => ?_) AllReadyH.nil
              rotate_left
              · (simp only [List.getElem?_toArray, List.getElem?_cons_zero, List.getElem?_cons_succ]; rfl)
              refine step_append_all rfl (.tmp 24) (.tmp 26) 41 rfl 0 3 i0 (.int .i64 0) 8 Try.underlying41 hi hz0 hz1 hz2 rfl (.slice (some ⟨vk22.heap.size, 0, none⟩) 0 0) 0 [] (by simp [Act.eval]) (owns_mono HOE9.out (Nat.zero_le _)) e1 m1 f1 x.2.1 (by simp [Act.eval]) HQ1.out (At.below HRW1.out HBk65) hq3 (by unfold maxLen; omega) (by omega) (Nat.zero_le _) (fun r9 d9 wk67 ho3 hg3 ht3 => ?_)
              simp only [Nat.zero_add, List.nil_append] at ho3 ht3 ⊢
              have HBk67 : Below V.heap.size V wk67 := HBk65.grown hg3 HBk65.size (fun j hj => by simp [Value.ownBlock] at hj; omega)
              have zA9 : wk65.heap.size ≤ wk67.heap.size := hg3.size
              have HO9 := Hid.mk ho3
              have HBL9 := Hid.mk (fun b (hb : (Value.slice r9 m1 d9).ownBlock = some b) => (show (b = vk22.heap.size ∨ b = wk65.heap.size) ∧ b < wk67.heap.size from ⟨(ht3.imp (fun h => by rw [h] at hb; simp [Value.ownBlock] at hb; exact hb.symm) (fun h => by rw [h] at hb; exact (Option.some.inj hb).symm)), (ho3.lt b hb).2⟩))
              have HO5 := Hid.mk (ownsRow_frame HO5.out (fun b hb hl => hg3.block b hl (fun e => by have h1 := HBL5.out b hb; simp [Value.ownBlock] at e; omega)))
              skip
              clear ho3 hg3 ht3 HOE9
              refine hK.out _ _ ?_ (fun hHeld' => ?_)
              · (try dsimp only)
                exact ⟨(HBk67.cell zlY).trans s0, (HBk67.cell zlY).trans s1, (HBk67.cell zlY).trans s2⟩
              clear hK K hHeld
              have hHeld := hHeld'
              clear hHeld'
              (try simp only [Act.put, List.setIfInBounds_toArray, List.set_cons_zero, List.set_cons_succ])
              refine tk 12 ?_
              refine wpAnyH_ready (rs := [13]) (by kernel_rfl) (by simp) ?_
              refine AllReadyH.cons (o := ?_) ?_ (fun K hK => ?_) AllReadyH.nil
              rotate_left
              · (simp only [List.getElem?_toArray, List.getElem?_cons_zero, List.getElem?_cons_succ]; rfl)
              go_simp
              (try go_wp2_with fail)
              refine hK.out _ _ ?_ (fun hHeld' => ?_)
              · (try dsimp only)
                exact ⟨((HBk67.alloc HBk67.size _).cell zlY).trans s0, ((HBk67.alloc HBk67.size _).cell zlY).trans s1, ((HBk67.alloc HBk67.size _).cell zlY).trans s2⟩
              clear hK K hHeld
              have hHeld := hHeld'
              clear hHeld'
              (try simp only [Act.put, List.setIfInBounds_toArray, List.set_cons_zero, List.set_cons_succ])
              obtain ⟨vk68, hv68⟩ : ∃ u, u = wk67.alloc (.cells #[.slice r5 m0 d5, .slice r9 m1 d9, .bool o] 76) := ⟨_, rfl⟩
              have hbk68 : Below wk67.heap.size wk67 vk68 := by rw [hv68]; exact (Below.refl _ _).alloc (Nat.le_refl _) _
              have HBk68 : Below V.heap.size V vk68 := HBk67.trans (hbk68.mono HBk67.size)
              have HVE := Hid.mk hv68
              have HP2 := Hid.mk HBk67
              rw [← hv68]
              clear hv68
              refine wpAnyH_ready (rs := [14]) (by kernel_rfl) (by simp) ?_
              refine AllReadyH.cons (o := ?_) ?_ (fun K hK => ?_) AllReadyH.nil
              rotate_left
              · (simp only [List.getElem?_toArray, List.getElem?_cons_zero, List.getElem?_cons_succ]; rfl)
              refine push_wire rfl (.tmp 19) (.tmp 31) rfl LB r k d cells wk67 HVE.out (by simp [Act.eval]) (by simp [Act.eval]) (owns_below HLB.out (bVY.out.trans (HP2.out.mono (by omega)))) (by omega) (by have := HP2.out.size; omega) (h := fun r6 d6 wk69 ho5 hg5 ht5 => ?_)
              obtain ⟨⟨G', hLN⟩, hBN, bp5, hcs⟩ := own_tail HL.out zloY (bVY.out.trans (HP2.out.mono (by omega))) HQ0.out HQ1.out HOO.out hm0 hm1 HO5.out HO9.out (fun b hb => by have h1 := HBL5.out b hb; omega) (fun b hb => by have h1 := HBL9.out b hb; omega) (fun b hb hb' => by have h1 := HBL5.out b hb; have h2 := HBL9.out b hb'; omega) ho5 hg5 ht5 HPB.out HPBX.out (by omega)
              have s0' := hcs 0 _ ((HP2.out.cell zlY).trans s0)
              have s1' := hcs 1 _ ((HP2.out.cell zlY).trans s1)
              have s2' := hcs 2 _ ((HP2.out.cell zlY).trans s2)
              have HLN := Hid.mk hLN
              have HBN := Hid.mk hBN
              have q1 := blk_cell bp5 1 (v := .slice r k d) rfl
              have f1 := blk_frozen bp5 1
              clear ho5 hg5 ht5 hLN hBN hcs
              refine hK.out _ _ ?_ (fun hHeld' => ?_)
              · (try dsimp only)
                exact ⟨s0', s1', s2'⟩
              clear hK K hHeld
              have hHeld := hHeld'
              clear hHeld'
              (try simp only [Act.put, List.setIfInBounds_toArray, List.set_cons_zero, List.set_cons_succ])
              refine tk 15 ?_
              refine wpAnyH_ready (rs := [16]) (by kernel_rfl) (by simp) ?_
              refine AllReadyH.cons (o := ?_) ?_ (fun K hK => ?_) AllReadyH.nil
              rotate_left
              · (simp only [List.getElem?_toArray, List.getElem?_cons_zero, List.getElem?_cons_succ]; rfl)
              go_simp
              (try go_wp2_with fail)
              refine hK.out _ _ ?_ (fun hHeld' => ?_)
              · (try dsimp only)
                exact ⟨(cell_far _ (by have := HPBX.out; omega)).trans s0', (cell_far _ (by have := HPBX.out; omega)).trans s1', (cell_far _ (by have := HPBX.out; omega)).trans s2'⟩
              clear hK K hHeld
              have hHeld := hHeld'
              clear hHeld'
              (try simp only [Act.put, List.setIfInBounds_toArray, List.set_cons_zero, List.set_cons_succ])
              refine wpAnyH_done (by kernel_rfl) ?_ _
              rw [← HTK.out] at HLN
              obtain ⟨X6, hX6⟩ : ∃ u, u = wk69.setCell ⟨PB, 1, none⟩ (.slice r6 (k + 1) d6) := ⟨_, rfl⟩
              have HREL := Hid.mk (own_round HPBX.out hX6 bp5 HLN.out HBN.out HOFF.out)
              clear bp5 HLN HBN q1 f1 s0' s1' s2'
              rw [← hX6]
              clear hX6
              go_wp2
              go_roundw
              case rel => exact ⟨k + 1, r6, d6, _, _, by omega, by go_num, HREL.out⟩
              case measure => simp [intOf]; omega
            refine AllReadyH.cons (o := ?_) ?_ (fun K hK => ?_) AllReadyH.nil
            rotate_left
            · (simp only [List.getElem?_toArray, List.getElem?_cons_zero, List.getElem?_cons_succ]; rfl)
            · refine step_append_all rfl (.tmp 24) (.tmp 26) 41 rfl 0 3 i0 (.int .i64 0) 8 Try.underlying41 hi hz0 hz1 hz2 rfl (.slice (some ⟨vk22.heap.size, 0, none⟩) 0 0) 0 [] (by simp [Act.eval]) (owns_mono HOE9.out (Nat.zero_le _)) e1 m1 f1 x.2.1 (by simp [Act.eval]) HQ1.out (At.below HRW1.out HBk65) hq3 (by unfold maxLen; omega) (by omega) (Nat.zero_le _) (fun r9 d9 wk71 ho3 hg3 ht3 => ?_)
              simp only [Nat.zero_add, List.nil_append] at ho3 ht3 ⊢
              have HBk71 : Below V.heap.size V wk71 := HBk65.grown hg3 HBk65.size (fun j hj => by simp [Value.ownBlock] at hj; omega)
              have zA9 : wk65.heap.size ≤ wk71.heap.size := hg3.size
              have HO9 := Hid.mk ho3
              have HBL9 := Hid.mk (fun b (hb : (Value.slice r9 m1 d9).ownBlock = some b) => (show (b = vk22.heap.size ∨ b = wk65.heap.size) ∧ b < wk71.heap.size from ⟨(ht3.imp (fun h => by rw [h] at hb; simp [Value.ownBlock] at hb; exact hb.symm) (fun h => by rw [h] at hb; exact (Option.some.inj hb).symm)), (ho3.lt b hb).2⟩))
              have HO5 := Hid.mk (ownsRow_frame HO5.out (fun b hb hl => hg3.block b hl (fun e => by have h1 := HBL5.out b hb; simp [Value.ownBlock] at e; omega)))
              skip
              clear ho3 hg3 ht3 HOE9
              refine hK.out _ _ ?_ (fun hHeld' => ?_)
              · (try dsimp only)
                exact ⟨(HBk71.cell zlY).trans s0, (HBk71.cell zlY).trans s1, (HBk71.cell zlY).trans s2⟩
              clear hK K hHeld
              have hHeld := hHeld'
              clear hHeld'
              (try simp only [Act.put, List.setIfInBounds_toArray, List.set_cons_zero, List.set_cons_succ])
              refine tk 12 ?_
              have q1 := blk_cell (blk_below HPB.out (bVY.out.trans (HBk71.mono (by omega)))) 1 (v := .slice r k d) rfl
              refine wpAnyH_ready (rs := [1, 13]) (by kernel_rfl) (by simp) ?_
              refine AllReadyH.cons (o := ?_) ?_ (fun K hK => ?_) ?_
              rotate_left
              · (simp only [List.getElem?_toArray, List.getElem?_cons_zero, List.getElem?_cons_succ]; rfl)
              · go_simp
                (try go_wp2_with fail)
                refine hK.out _ _ ?_ (fun hHeld' => ?_)
                · (try dsimp only)
                  exact ⟨(HBk71.cell zlY).trans s0, (HBk71.cell zlY).trans s1, (HBk71.cell zlY).trans s2⟩
                clear hK K hHeld
                have hHeld := hHeld'
                clear hHeld'
                (try simp only [Act.put, List.setIfInBounds_toArray, List.set_cons_zero, List.set_cons_succ])
                refine wpAnyH_ready (rs := [13]) (by kernel_rfl) (by simp) ?_
                refine AllReadyH.cons (o := ?_) ?_ (fun K hK => ?_) AllReadyH.nil
                rotate_left
                · (simp only [List.getElem?_toArray, List.getElem?_cons_zero, List.getElem?_cons_succ]; rfl)
                go_simp
                (try go_wp2_with fail)
                refine hK.out _ _ ?_ (fun hHeld' => ?_)
                · (try dsimp only)
                  exact ⟨((HBk71.alloc HBk71.size _).cell zlY).trans s0, ((HBk71.alloc HBk71.size _).cell zlY).trans s1, ((HBk71.alloc HBk71.size _).cell zlY).trans s2⟩
                clear hK K hHeld
                have hHeld := hHeld'
                clear hHeld'
                (try simp only [Act.put, List.setIfInBounds_toArray, List.set_cons_zero, List.set_cons_succ])
                obtain ⟨vk73, hv73⟩ : ∃ u, u = wk71.alloc (.cells #[.slice r5 m0 d5, .slice r9 m1 d9, .bool o] 76) := ⟨_, rfl⟩
                have hbk73 : Below wk71.heap.size wk71 vk73 := by rw [hv73]; exact (Below.refl _ _).alloc (Nat.le_refl _) _
                have HBk73 : Below V.heap.size V vk73 := HBk71.trans (hbk73.mono HBk71.size)
                have HVE := Hid.mk hv73
                have HP2 := Hid.mk HBk71
                rw [← hv73]
                clear hv73
                refine wpAnyH_ready (rs := [14]) (by kernel_rfl) (by simp) ?_
                refine AllReadyH.cons (o := ?_) ?_ (fun K hK => ?_) AllReadyH.nil
                rotate_left
                · (simp only [List.getElem?_toArray, List.getElem?_cons_zero, List.getElem?_cons_succ]; rfl)
                refine push_wire rfl (.tmp 19) (.tmp 31) rfl LB r k d cells wk71 HVE.out (by simp [Act.eval]) (by simp [Act.eval]) (owns_below HLB.out (bVY.out.trans (HP2.out.mono (by omega)))) (by omega) (by have := HP2.out.size; omega) (h := fun r6 d6 wk74 ho5 hg5 ht5 => ?_)
                obtain ⟨⟨G', hLN⟩, hBN, bp5, hcs⟩ := own_tail HL.out zloY (bVY.out.trans (HP2.out.mono (by omega))) HQ0.out HQ1.out HOO.out hm0 hm1 HO5.out HO9.out (fun b hb => by have h1 := HBL5.out b hb; omega) (fun b hb => by have h1 := HBL9.out b hb; omega) (fun b hb hb' => by have h1 := HBL5.out b hb; have h2 := HBL9.out b hb'; omega) ho5 hg5 ht5 HPB.out HPBX.out (by omega)
                have s0' := hcs 0 _ ((HP2.out.cell zlY).trans s0)
                have s1' := hcs 1 _ ((HP2.out.cell zlY).trans s1)
                have s2' := hcs 2 _ ((HP2.out.cell zlY).trans s2)
                have HLN := Hid.mk hLN
                have HBN := Hid.mk hBN
                have q1 := blk_cell bp5 1 (v := .slice r k d) rfl
                have f1 := blk_frozen bp5 1
                clear ho5 hg5 ht5 hLN hBN hcs
                refine hK.out _ _ ?_ (fun hHeld' => ?_)
                · (try dsimp only)
                  exact ⟨s0', s1', s2'⟩
                clear hK K hHeld
                have hHeld := hHeld'
                clear hHeld'
                (try simp only [Act.put, List.setIfInBounds_toArray, List.set_cons_zero, List.set_cons_succ])
                refine tk 15 ?_
                refine wpAnyH_ready (rs := [16]) (by kernel_rfl) (by simp) ?_
                refine AllReadyH.cons (o := ?_) ?_ (fun K hK => ?_) AllReadyH.nil
                rotate_left
                · (simp only [List.getElem?_toArray, List.getElem?_cons_zero, List.getElem?_cons_succ]; rfl)
                go_simp
                (try go_wp2_with fail)
                refine hK.out _ _ ?_ (fun hHeld' => ?_)
                · (try dsimp only)
                  exact ⟨(cell_far _ (by have := HPBX.out; omega)).trans s0', (cell_far _ (by have := HPBX.out; omega)).trans s1', (cell_far _ (by have := HPBX.out; omega)).trans s2'⟩
                clear hK K hHeld
                have hHeld := hHeld'
                clear hHeld'
                (try simp only [Act.put, List.setIfInBounds_toArray, List.set_cons_zero, List.set_cons_succ])
                refine wpAnyH_done (by kernel_rfl) ?_ _
                rw [← HTK.out] at HLN
                obtain ⟨X6, hX6⟩ : ∃ u, u = wk74.setCell ⟨PB, 1, none⟩ (.slice r6 (k + 1) d6) := ⟨_, rfl⟩
                have HREL := Hid.mk (own_round HPBX.out hX6 bp5 HLN.out HBN.out HOFF.out)
                clear bp5 HLN HBN q1 f1 s0' s1' s2'
                rw [← hX6]
                clear hX6
                go_wp2
                go_roundw
                case rel => exact ⟨k + 1, r6, d6, _, _, by omega, by go_num, HREL.out⟩
                case measure => simp [intOf]; omega
              refine AllReadyH.cons (o := ?_) ?_ (fun K hK => ?_) AllReadyH.nil
              rotate_left
              · (simp only [List.getElem?_toArray, List.getElem?_cons_zero, List.getElem?_cons_succ]; rfl)
              · go_simp
                (try go_wp2_with fail)
                refine hK.out _ _ ?_ (fun hHeld' => ?_)
                · (try dsimp only)
                  exact ⟨((HBk71.alloc HBk71.size _).cell zlY).trans s0, ((HBk71.alloc HBk71.size _).cell zlY).trans s1, ((HBk71.alloc HBk71.size _).cell zlY).trans s2⟩
                clear hK K hHeld
                have hHeld := hHeld'
                clear hHeld'
                (try simp only [Act.put, List.setIfInBounds_toArray, List.set_cons_zero, List.set_cons_succ])
                obtain ⟨vk76, hv76⟩ : ∃ u, u = wk71.alloc (.cells #[.slice r5 m0 d5, .slice r9 m1 d9, .bool o] 76) := ⟨_, rfl⟩
                have hbk76 : Below wk71.heap.size wk71 vk76 := by rw [hv76]; exact (Below.refl _ _).alloc (Nat.le_refl _) _
                have HBk76 : Below V.heap.size V vk76 := HBk71.trans (hbk76.mono HBk71.size)
                have HVE := Hid.mk hv76
                have HP2 := Hid.mk HBk71
                rw [← hv76]
                clear hv76
                have q1 := blk_cell (blk_below HPB.out (bVY.out.trans (HBk76.mono (by omega)))) 1 (v := .slice r k d) rfl
                refine wpAnyH_ready (rs := [1]) (by kernel_rfl) (by simp) ?_
                refine AllReadyH.cons (o := ?_) ?_ (fun K hK => ?_) AllReadyH.nil
                rotate_left
                · (simp only [List.getElem?_toArray, List.getElem?_cons_zero, List.getElem?_cons_succ]; rfl)
                go_simp
                (try go_wp2_with fail)
                refine hK.out _ _ ?_ (fun hHeld' => ?_)
                · (try dsimp only)
                  exact ⟨(HBk76.cell zlY).trans s0, (HBk76.cell zlY).trans s1, (HBk76.cell zlY).trans s2⟩
                clear hK K hHeld
                have hHeld := hHeld'
                clear hHeld'
                (try simp only [Act.put, List.setIfInBounds_toArray, List.set_cons_zero, List.set_cons_succ])
                refine wpAnyH_ready (rs := [14]) (by kernel_rfl) (by simp) ?_
                refine AllReadyH.cons (o := ?_) ?_ (fun K hK => ?_) AllReadyH.nil
                rotate_left
                · (simp only [List.getElem?_toArray, List.getElem?_cons_zero, List.getElem?_cons_succ]; rfl)
                refine push_wire rfl (.tmp 19) (.tmp 31) rfl LB r k d cells wk71 HVE.out (by simp [Act.eval]) (by simp [Act.eval]) (owns_below HLB.out (bVY.out.trans (HP2.out.mono (by omega)))) (by omega) (by have := HP2.out.size; omega) (h := fun r6 d6 wk78 ho5 hg5 ht5 => ?_)
                obtain ⟨⟨G', hLN⟩, hBN, bp5, hcs⟩ := own_tail HL.out zloY (bVY.out.trans (HP2.out.mono (by omega))) HQ0.out HQ1.out HOO.out hm0 hm1 HO5.out HO9.out (fun b hb => by have h1 := HBL5.out b hb; omega) (fun b hb => by have h1 := HBL9.out b hb; omega) (fun b hb hb' => by have h1 := HBL5.out b hb; have h2 := HBL9.out b hb'; omega) ho5 hg5 ht5 HPB.out HPBX.out (by omega)
                have s0' := hcs 0 _ ((HP2.out.cell zlY).trans s0)
                have s1' := hcs 1 _ ((HP2.out.cell zlY).trans s1)
                have s2' := hcs 2 _ ((HP2.out.cell zlY).trans s2)
                have HLN := Hid.mk hLN
                have HBN := Hid.mk hBN
                have q1 := blk_cell bp5 1 (v := .slice r k d) rfl
                have f1 := blk_frozen bp5 1
                clear ho5 hg5 ht5 hLN hBN hcs
                refine hK.out _ _ ?_ (fun hHeld' => ?_)
                · (try dsimp only)
                  exact ⟨s0', s1', s2'⟩
                clear hK K hHeld
                have hHeld := hHeld'
                clear hHeld'
                (try simp only [Act.put, List.setIfInBounds_toArray, List.set_cons_zero, List.set_cons_succ])
                refine tk 15 ?_
                refine wpAnyH_ready (rs := [16]) (by kernel_rfl) (by simp) ?_
                refine AllReadyH.cons (o := ?_) ?_ (fun K hK => ?_) AllReadyH.nil
                rotate_left
                · (simp only [List.getElem?_toArray, List.getElem?_cons_zero, List.getElem?_cons_succ]; rfl)
                go_simp
                (try go_wp2_with fail)
                refine hK.out _ _ ?_ (fun hHeld' => ?_)
                · (try dsimp only)
                  exact ⟨(cell_far _ (by have := HPBX.out; omega)).trans s0', (cell_far _ (by have := HPBX.out; omega)).trans s1', (cell_far _ (by have := HPBX.out; omega)).trans s2'⟩
                clear hK K hHeld
                have hHeld := hHeld'
                clear hHeld'
                (try simp only [Act.put, List.setIfInBounds_toArray, List.set_cons_zero, List.set_cons_succ])
                refine wpAnyH_done (by kernel_rfl) ?_ _
                rw [← HTK.out] at HLN
                obtain ⟨X6, hX6⟩ : ∃ u, u = wk78.setCell ⟨PB, 1, none⟩ (.slice r6 (k + 1) d6) := ⟨_, rfl⟩
                have HREL := Hid.mk (own_round HPBX.out hX6 bp5 HLN.out HBN.out HOFF.out)
                clear bp5 HLN HBN q1 f1 s0' s1' s2'
                rw [← hX6]
                clear hX6
                go_wp2
                go_roundw
                case rel => exact ⟨k + 1, r6, d6, _, _, by omega, by go_num, HREL.out⟩
                case measure => simp [intOf]; omega
      refine AllReadyH.cons (o := ?_) ?_ (fun K hK => ?_) AllReadyH.nil
      rotate_left
      · (simp only [List.getElem?_toArray, List.getElem?_cons_zero, List.getElem?_cons_succ]; rfl)
      · go_simp
        (try go_wp2_with fail)
        refine hK.out _ _ ?_ (fun hHeld' => ?_)
        · (try dsimp only)
          exact ⟨((Y0.alloc Y0.size _).cell zlY).trans s0, ((Y0.alloc Y0.size _).cell zlY).trans s1, ((Y0.alloc Y0.size _).cell zlY).trans s2⟩
        clear hK K hHeld
        have hHeld := hHeld'
        clear hHeld'
        (try simp only [Act.put, List.setIfInBounds_toArray, List.set_cons_zero, List.set_cons_succ])
        obtain ⟨vk80, hv80⟩ : ∃ u, u = u0.alloc (.cells #[] 3) := ⟨_, rfl⟩
        have hbk80 : Below u0.heap.size u0 vk80 := by rw [hv80]; exact (Below.refl _ _).alloc (Nat.le_refl _) _
        have HBk80 : Below V.heap.size V vk80 := Y0.trans (hbk80.mono Y0.size)
        have HOE9 := Hid.mk (own_void u0 3 1)
        rw [← hv80] at HOE9
        have zE9 : vk80.heap.size = u0.heap.size + 1 := by rw [hv80]; simp
        have zF9 : V.heap.size ≤ u0.heap.size := Y0.size
        rw [← hv80]
        clear hv80
        have q1 := blk_cell (blk_below HPB.out (bVY.out.trans (HBk80.mono (by omega)))) 1 (v := .slice r k d) rfl
        refine wpAnyH_ready (rs := [1, 2]) (by kernel_rfl) (by simp) ?_
        refine AllReadyH.cons (o := ?_) ?_ (fun K hK => ?_) ?_
        rotate_left
        · (simp only [List.getElem?_toArray, List.getElem?_cons_zero, List.getElem?_cons_succ]; rfl)
        · go_simp
          (try go_wp2_with fail)
          refine hK.out _ _ ?_ (fun hHeld' => ?_)
          · (try dsimp only)
            exact ⟨(HBk80.cell zlY).trans s0, (HBk80.cell zlY).trans s1, (HBk80.cell zlY).trans s2⟩
          clear hK K hHeld
          have hHeld := hHeld'
          clear hHeld'
          (try simp only [Act.put, List.setIfInBounds_toArray, List.set_cons_zero, List.set_cons_succ])
          refine wpAnyH_ready (rs := [2]) (by kernel_rfl) (by simp) ?_
          refine AllReadyH.cons (o := ?_) ?_ (fun K hK => ?_) AllReadyH.nil
          rotate_left
          · (simp only [List.getElem?_toArray, List.getElem?_cons_zero, List.getElem?_cons_succ]; rfl)
          go_simp
          (try go_wp2_with fail)
          refine hK.out _ _ ?_ (fun hHeld' => ?_)
          · (try dsimp only)
            exact ⟨((HBk80.alloc HBk80.size _).cell zlY).trans s0, ((HBk80.alloc HBk80.size _).cell zlY).trans s1, ((HBk80.alloc HBk80.size _).cell zlY).trans s2⟩
          clear hK K hHeld
          have hHeld := hHeld'
          clear hHeld'
          (try simp only [Act.put, List.setIfInBounds_toArray, List.set_cons_zero, List.set_cons_succ])
          obtain ⟨vk82, hv82⟩ : ∃ u, u = vk80.alloc (.cells #[] 3) := ⟨_, rfl⟩
          have hbk82 : Below vk80.heap.size vk80 vk82 := by rw [hv82]; exact (Below.refl _ _).alloc (Nat.le_refl _) _
          have HBk82 : Below V.heap.size V vk82 := HBk80.trans (hbk82.mono HBk80.size)
          have HOE9 := Hid.mk (owns_below HOE9.out hbk82)
          have HOE5 := Hid.mk (own_void vk80 3 1)
          rw [← hv82] at HOE5
          have zE5 : vk82.heap.size = vk80.heap.size + 1 := by rw [hv82]; simp
          have zF5 : V.heap.size ≤ vk80.heap.size := HBk80.size
          rw [← hv82]
          clear hv82
          refine wpAnyH_ready (rs := [5]) (by kernel_rfl) (by simp) ?_
          refine AllReadyH.cons (o := ?_) ?_ (fun K hK => ?_) AllReadyH.nil
          rotate_left
          · (simp only [List.getElem?_toArray, List.getElem?_cons_zero, List.getElem?_cons_succ]; rfl)
          refine step_append_all rfl (.tmp 20) (.tmp 22) 41 rfl 0 3 i0 (.int .i64 0) 8 Try.underlying41 hi hz0 hz1 hz2 rfl (.slice (some ⟨vk80.heap.size, 0, none⟩) 0 0) 0 [] (by simp [Act.eval]) (owns_mono HOE5.out (Nat.zero_le _)) e0 m0 f0 x.1 (by simp [Act.eval]) HQ0.out (At.below HRW0.out HBk82) hq2 (by unfold maxLen; omega) (by omega) (Nat.zero_le _) (fun r5 d5 wk83 ho3 hg3 ht3 => ?_)
          simp only [Nat.zero_add, List.nil_append] at ho3 ht3 ⊢
          have HBk83 : Below V.heap.size V wk83 := HBk82.grown hg3 HBk82.size (fun j hj => by simp [Value.ownBlock] at hj; omega)
          have zA5 : vk82.heap.size ≤ wk83.heap.size := hg3.size
          have HO5 := Hid.mk ho3
          have HBL5 := Hid.mk (fun b (hb : (Value.slice r5 m0 d5).ownBlock = some b) => (show (b = vk80.heap.size ∨ b = vk82.heap.size) ∧ b < wk83.heap.size from ⟨(ht3.imp (fun h => by rw [h] at hb; simp [Value.ownBlock] at hb; exact hb.symm) (fun h => by rw [h] at hb; exact (Option.some.inj hb).symm)), (ho3.lt b hb).2⟩))
          have HOE9 := Hid.mk (ownsRow_frame HOE9.out (fun b hb hl => hg3.block b hl (fun e => by simp [Value.ownBlock] at hb e; omega)))
          skip
          clear ho3 hg3 ht3 HOE5
          refine hK.out _ _ ?_ (fun hHeld' => ?_)
          · (try dsimp only)
            exact ⟨(HBk83.cell zlY).trans s0, (HBk83.cell zlY).trans s1, (HBk83.cell zlY).trans s2⟩
          clear hK K hHeld
          have hHeld := hHeld'
          clear hHeld'
          (try simp only [Act.put, List.setIfInBounds_toArray, List.set_cons_zero, List.set_cons_succ])
          refine wpAnyH_ready (rs := [9]) (by kernel_rfl) (by simp) ?_
          refine AllReadyH.cons (o := ?_) ?_ (fun K hK => ?_) AllReadyH.nil
          rotate_left
          · (simp only [List.getElem?_toArray, List.getElem?_cons_zero, List.getElem?_cons_succ]; rfl)
          refine step_append_all rfl (.tmp 24) (.tmp 26) 41 rfl 0 3 i0 (.int .i64 0) 8 Try.underlying41 hi hz0 hz1 hz2 rfl (.slice (some ⟨u0.heap.size, 0, none⟩) 0 0) 0 [] (by simp [Act.eval]) (owns_mono HOE9.out (Nat.zero_le _)) e1 m1 f1 x.2.1 (by simp [Act.eval]) HQ1.out (At.below HRW1.out HBk83) hq3 (by unfold maxLen; omega) (by omega) (Nat.zero_le _) (fun r9 d9 wk84 ho3 hg3 ht3 => ?_)
          simp only [Nat.zero_add, List.nil_append] at ho3 ht3 ⊢
          have HBk84 : Below V.heap.size V wk84 := HBk83.grown hg3 HBk83.size (fun j hj => by simp [Value.ownBlock] at hj; omega)
          have zA9 : wk83.heap.size ≤ wk84.heap.size := hg3.size
          have HO9 := Hid.mk ho3
          have HBL9 := Hid.mk (fun b (hb : (Value.slice r9 m1 d9).ownBlock = some b) => (show (b = u0.heap.size ∨ b = wk83.heap.size) ∧ b < wk84.heap.size from ⟨(ht3.imp (fun h => by rw [h] at hb; simp [Value.ownBlock] at hb; exact hb.symm) (fun h => by rw [h] at hb; exact (Option.some.inj hb).symm)), (ho3.lt b hb).2⟩))
          have HO5 := Hid.mk (ownsRow_frame HO5.out (fun b hb hl => hg3.block b hl (fun e => by have h1 := HBL5.out b hb; simp [Value.ownBlock] at e; omega)))
          skip
          clear ho3 hg3 ht3 HOE9
          refine hK.out _ _ ?_ (fun hHeld' => ?_)
          · (try dsimp only)
            exact ⟨(HBk84.cell zlY).trans s0, (HBk84.cell zlY).trans s1, (HBk84.cell zlY).trans s2⟩
          clear hK K hHeld
          have hHeld := hHeld'
          clear hHeld'
          (try simp only [Act.put, List.setIfInBounds_toArray, List.set_cons_zero, List.set_cons_succ])
          refine tk 12 ?_
          refine wpAnyH_ready (rs := [13]) (by kernel_rfl) (by simp) ?_
          refine AllReadyH.cons (o := ?_) ?_ (fun K hK => ?_) AllReadyH.nil
          rotate_left
          · (simp only [List.getElem?_toArray, List.getElem?_cons_zero, List.getElem?_cons_succ]; rfl)
          go_simp
          (try go_wp2_with fail)
          refine hK.out _ _ ?_ (fun hHeld' => ?_)
          · (try dsimp only)
            exact ⟨((HBk84.alloc HBk84.size _).cell zlY).trans s0, ((HBk84.alloc HBk84.size _).cell zlY).trans s1, ((HBk84.alloc HBk84.size _).cell zlY).trans s2⟩
          clear hK K hHeld
          have hHeld := hHeld'
          clear hHeld'
          (try simp only [Act.put, List.setIfInBounds_toArray, List.set_cons_zero, List.set_cons_succ])
          obtain ⟨vk85, hv85⟩ : ∃ u, u = wk84.alloc (.cells #[.slice r5 m0 d5, .slice r9 m1 d9, .bool o] 76) := ⟨_, rfl⟩
          have hbk85 : Below wk84.heap.size wk84 vk85 := by rw [hv85]; exact (Below.refl _ _).alloc (Nat.le_refl _) _
          have HBk85 : Below V.heap.size V vk85 := HBk84.trans (hbk85.mono HBk84.size)
          have HVE := Hid.mk hv85
          have HP2 := Hid.mk HBk84
          rw [← hv85]
          clear hv85
          refine wpAnyH_ready (rs := [14]) (by kernel_rfl) (by simp) ?_
          refine AllReadyH.cons (o := ?_) ?_ (fun K hK => ?_) AllReadyH.nil
          rotate_left
          · (simp only [List.getElem?_toArray, List.getElem?_cons_zero, List.getElem?_cons_succ]; rfl)
          refine push_wire rfl (.tmp 19) (.tmp 31) rfl LB r k d cells wk84 HVE.out (by simp [Act.eval]) (by simp [Act.eval]) (owns_below HLB.out (bVY.out.trans (HP2.out.mono (by omega)))) (by omega) (by have := HP2.out.size; omega) (h := fun r6 d6 wk86 ho5 hg5 ht5 => ?_)
          obtain ⟨⟨G', hLN⟩, hBN, bp5, hcs⟩ := own_tail HL.out zloY (bVY.out.trans (HP2.out.mono (by omega))) HQ0.out HQ1.out HOO.out hm0 hm1 HO5.out HO9.out (fun b hb => by have h1 := HBL5.out b hb; omega) (fun b hb => by have h1 := HBL9.out b hb; omega) (fun b hb hb' => by have h1 := HBL5.out b hb; have h2 := HBL9.out b hb'; omega) ho5 hg5 ht5 HPB.out HPBX.out (by omega)
          have s0' := hcs 0 _ ((HP2.out.cell zlY).trans s0)
          have s1' := hcs 1 _ ((HP2.out.cell zlY).trans s1)
          have s2' := hcs 2 _ ((HP2.out.cell zlY).trans s2)
          have HLN := Hid.mk hLN
          have HBN := Hid.mk hBN
          have q1 := blk_cell bp5 1 (v := .slice r k d) rfl
          have f1 := blk_frozen bp5 1
          clear ho5 hg5 ht5 hLN hBN hcs
          refine hK.out _ _ ?_ (fun hHeld' => ?_)
          · (try dsimp only)
            exact ⟨s0', s1', s2'⟩
          clear hK K hHeld
          have hHeld := hHeld'
          clear hHeld'
          (try simp only [Act.put, List.setIfInBounds_toArray, List.set_cons_zero, List.set_cons_succ])
          refine tk 15 ?_
          refine wpAnyH_ready (rs := [16]) (by kernel_rfl) (by simp) ?_
          refine AllReadyH.cons (o := ?_) ?_ (fun K hK => ?_) AllReadyH.nil
          rotate_left
          · (simp only [List.getElem?_toArray, List.getElem?_cons_zero, List.getElem?_cons_succ]; rfl)
          go_simp
          (try go_wp2_with fail)
          refine hK.out _ _ ?_ (fun hHeld' => ?_)
          · (try dsimp only)
            exact ⟨(cell_far _ (by have := HPBX.out; omega)).trans s0', (cell_far _ (by have := HPBX.out; omega)).trans s1', (cell_far _ (by have := HPBX.out; omega)).trans s2'⟩
          clear hK K hHeld
          have hHeld := hHeld'
          clear hHeld'
          (try simp only [Act.put, List.setIfInBounds_toArray, List.set_cons_zero, List.set_cons_succ])
          refine wpAnyH_done (by kernel_rfl) ?_ _
          rw [← HTK.out] at HLN
          obtain ⟨X6, hX6⟩ : ∃ u, u = wk86.setCell ⟨PB, 1, none⟩ (.slice r6 (k + 1) d6) := ⟨_, rfl⟩
          have HREL := Hid.mk (own_round HPBX.out hX6 bp5 HLN.out HBN.out HOFF.out)
          clear bp5 HLN HBN q1 f1 s0' s1' s2'
          rw [← hX6]
          clear hX6
          go_wp2
          go_roundw
          case rel => exact ⟨k + 1, r6, d6, _, _, by omega, by go_num, HREL.out⟩
          case measure => simp [intOf]; omega
        refine AllReadyH.cons (o := ?_) ?_ (fun K hK => ?_) AllReadyH.nil
        rotate_left
        · (simp only [List.getElem?_toArray, List.getElem?_cons_zero, List.getElem?_cons_succ]; rfl)
        · go_simp
          (try go_wp2_with fail)
          refine hK.out _ _ ?_ (fun hHeld' => ?_)
          · (try dsimp only)
            exact ⟨((HBk80.alloc HBk80.size _).cell zlY).trans s0, ((HBk80.alloc HBk80.size _).cell zlY).trans s1, ((HBk80.alloc HBk80.size _).cell zlY).trans s2⟩
          clear hK K hHeld
          have hHeld := hHeld'
          clear hHeld'
          (try simp only [Act.put, List.setIfInBounds_toArray, List.set_cons_zero, List.set_cons_succ])
          obtain ⟨vk88, hv88⟩ : ∃ u, u = vk80.alloc (.cells #[] 3) := ⟨_, rfl⟩
          have hbk88 : Below vk80.heap.size vk80 vk88 := by rw [hv88]; exact (Below.refl _ _).alloc (Nat.le_refl _) _
          have HBk88 : Below V.heap.size V vk88 := HBk80.trans (hbk88.mono HBk80.size)
          have HOE9 := Hid.mk (owns_below HOE9.out hbk88)
          have HOE5 := Hid.mk (own_void vk80 3 1)
          rw [← hv88] at HOE5
          have zE5 : vk88.heap.size = vk80.heap.size + 1 := by rw [hv88]; simp
          have zF5 : V.heap.size ≤ vk80.heap.size := HBk80.size
          rw [← hv88]
          clear hv88
          have q1 := blk_cell (blk_below HPB.out (bVY.out.trans (HBk88.mono (by omega)))) 1 (v := .slice r k d) rfl
          refine wpAnyH_ready (rs := [1, 5]) (by kernel_rfl) (by simp) ?_
          refine AllReadyH.cons (o := ?_) ?_ (fun K hK => ?_) ?_
          rotate_left
          · (simp only [List.getElem?_toArray, List.getElem?_cons_zero, List.getElem?_cons_succ]; rfl)
          · go_simp
            (try go_wp2_with fail)
            refine hK.out _ _ ?_ (fun hHeld' => ?_)
            · (try dsimp only)
              exact ⟨(HBk88.cell zlY).trans s0, (HBk88.cell zlY).trans s1, (HBk88.cell zlY).trans s2⟩
            clear hK K hHeld
            have hHeld := hHeld'
            clear hHeld'
            (try simp only [Act.put, List.setIfInBounds_toArray, List.set_cons_zero, List.set_cons_succ])
            refine wpAnyH_ready (rs := [5]) (by kernel_rfl) (by simp) ?_
            refine AllReadyH.cons (o := ?_) ?_ (fun K hK => ?_) AllReadyH.nil
            rotate_left
            · (simp only [List.getElem?_toArray, List.getElem?_cons_zero, List.getElem?_cons_succ]; rfl)
            refine step_append_all rfl (.tmp 20) (.tmp 22) 41 rfl 0 3 i0 (.int .i64 0) 8 Try.underlying41 hi hz0 hz1 hz2 rfl (.slice (some ⟨vk80.heap.size, 0, none⟩) 0 0) 0 [] (by simp [Act.eval]) (owns_mono HOE5.out (Nat.zero_le _)) e0 m0 f0 x.1 (by simp [Act.eval]) HQ0.out (At.below HRW0.out HBk88) hq2 (by unfold maxLen; omega) (by omega) (Nat.zero_le _) (fun r5 d5 wk90 ho3 hg3 ht3 => ?_)
            simp only [Nat.zero_add, List.nil_append] at ho3 ht3 ⊢
            have HBk90 : Below V.heap.size V wk90 := HBk88.grown hg3 HBk88.size (fun j hj => by simp [Value.ownBlock] at hj; omega)
            have zA5 : vk88.heap.size ≤ wk90.heap.size := hg3.size
            have HO5 := Hid.mk ho3
            have HBL5 := Hid.mk (fun b (hb : (Value.slice r5 m0 d5).ownBlock = some b) => (show (b = vk80.heap.size ∨ b = vk88.heap.size) ∧ b < wk90.heap.size from ⟨(ht3.imp (fun h => by rw [h] at hb; simp [Value.ownBlock] at hb; exact hb.symm) (fun h => by rw [h] at hb; exact (Option.some.inj hb).symm)), (ho3.lt b hb).2⟩))
            have HOE9 := Hid.mk (ownsRow_frame HOE9.out (fun b hb hl => hg3.block b hl (fun e => by simp [Value.ownBlock] at hb e; omega)))
            skip
            clear ho3 hg3 ht3 HOE5
            refine hK.out _ _ ?_ (fun hHeld' => ?_)
            · (try dsimp only)
              exact ⟨(HBk90.cell zlY).trans s0, (HBk90.cell zlY).trans s1, (HBk90.cell zlY).trans s2⟩
            clear hK K hHeld
            have hHeld := hHeld'
            clear hHeld'
            (try simp only [Act.put, List.setIfInBounds_toArray, List.set_cons_zero, List.set_cons_succ])
            refine wpAnyH_ready (rs := [9]) (by kernel_rfl) (by simp) ?_
            refine AllReadyH.cons (o := ?_) ?_ (fun K hK => ?_) AllReadyH.nil
            rotate_left
            · (simp only [List.getElem?_toArray, List.getElem?_cons_zero, List.getElem?_cons_succ]; rfl)
            refine step_append_all rfl (.tmp 24) (.tmp 26) 41 rfl 0 3 i0 (.int .i64 0) 8 Try.underlying41 hi hz0 hz1 hz2 rfl (.slice (some ⟨u0.heap.size, 0, none⟩) 0 0) 0 [] (by simp [Act.eval]) (owns_mono HOE9.out (Nat.zero_le _)) e1 m1 f1 x.2.1 (by simp [Act.eval]) HQ1.out (At.below HRW1.out HBk90) hq3 (by unfold maxLen; omega) (by omega) (Nat.zero_le _) (fun r9 d9 wk91 ho3 hg3 ht3 => ?_)
            simp only [Nat.zero_add, List.nil_append] at ho3 ht3 ⊢
            have HBk91 : Below V.heap.size V wk91 := HBk90.grown hg3 HBk90.size (fun j hj => by simp [Value.ownBlock] at hj; omega)
            have zA9 : wk90.heap.size ≤ wk91.heap.size := hg3.size
            have HO9 := Hid.mk ho3
            have HBL9 := Hid.mk (fun b (hb : (Value.slice r9 m1 d9).ownBlock = some b) => (show (b = u0.heap.size ∨ b = wk90.heap.size) ∧ b < wk91.heap.size from ⟨(ht3.imp (fun h => by rw [h] at hb; simp [Value.ownBlock] at hb; exact hb.symm) (fun h => by rw [h] at hb; exact (Option.some.inj hb).symm)), (ho3.lt b hb).2⟩))
            have HO5 := Hid.mk (ownsRow_frame HO5.out (fun b hb hl => hg3.block b hl (fun e => by have h1 := HBL5.out b hb; simp [Value.ownBlock] at e; omega)))
            skip
            clear ho3 hg3 ht3 HOE9
            refine hK.out _ _ ?_ (fun hHeld' => ?_)
            · (try dsimp only)
              exact ⟨(HBk91.cell zlY).trans s0, (HBk91.cell zlY).trans s1, (HBk91.cell zlY).trans s2⟩
            clear hK K hHeld
            have hHeld := hHeld'
            clear hHeld'
            (try simp only [Act.put, List.setIfInBounds_toArray, List.set_cons_zero, List.set_cons_succ])
            refine tk 12 ?_
            refine wpAnyH_ready (rs := [13]) (by kernel_rfl) (by simp) ?_
            refine AllReadyH.cons (o := ?_) ?_ (fun K hK => ?_) AllReadyH.nil
            rotate_left
            · (simp only [List.getElem?_toArray, List.getElem?_cons_zero, List.getElem?_cons_succ]; rfl)
            go_simp
            (try go_wp2_with fail)
            refine hK.out _ _ ?_ (fun hHeld' => ?_)
            · (try dsimp only)
              exact ⟨((HBk91.alloc HBk91.size _).cell zlY).trans s0, ((HBk91.alloc HBk91.size _).cell zlY).trans s1, ((HBk91.alloc HBk91.size _).cell zlY).trans s2⟩
            clear hK K hHeld
            have hHeld := hHeld'
            clear hHeld'
            (try simp only [Act.put, List.setIfInBounds_toArray, List.set_cons_zero, List.set_cons_succ])
            obtain ⟨vk92, hv92⟩ : ∃ u, u = wk91.alloc (.cells #[.slice r5 m0 d5, .slice r9 m1 d9, .bool o] 76) := ⟨_, rfl⟩
            have hbk92 : Below wk91.heap.size wk91 vk92 := by rw [hv92]; exact (Below.refl _ _).alloc (Nat.le_refl _) _
            have HBk92 : Below V.heap.size V vk92 := HBk91.trans (hbk92.mono HBk91.size)
            have HVE := Hid.mk hv92
            have HP2 := Hid.mk HBk91
            rw [← hv92]
            clear hv92
            refine wpAnyH_ready (rs := [14]) (by kernel_rfl) (by simp) ?_
            refine AllReadyH.cons (o := ?_) ?_ (fun K hK => ?_) AllReadyH.nil
            rotate_left
            · (simp only [List.getElem?_toArray, List.getElem?_cons_zero, List.getElem?_cons_succ]; rfl)
            refine push_wire rfl (.tmp 19) (.tmp 31) rfl LB r k d cells wk91 HVE.out (by simp [Act.eval]) (by simp [Act.eval]) (owns_below HLB.out (bVY.out.trans (HP2.out.mono (by omega)))) (by omega) (by have := HP2.out.size; omega) (h := fun r6 d6 wk93 ho5 hg5 ht5 => ?_)
            obtain ⟨⟨G', hLN⟩, hBN, bp5, hcs⟩ := own_tail HL.out zloY (bVY.out.trans (HP2.out.mono (by omega))) HQ0.out HQ1.out HOO.out hm0 hm1 HO5.out HO9.out (fun b hb => by have h1 := HBL5.out b hb; omega) (fun b hb => by have h1 := HBL9.out b hb; omega) (fun b hb hb' => by have h1 := HBL5.out b hb; have h2 := HBL9.out b hb'; omega) ho5 hg5 ht5 HPB.out HPBX.out (by omega)
            have s0' := hcs 0 _ ((HP2.out.cell zlY).trans s0)
            have s1' := hcs 1 _ ((HP2.out.cell zlY).trans s1)
            have s2' := hcs 2 _ ((HP2.out.cell zlY).trans s2)
            have HLN := Hid.mk hLN
            have HBN := Hid.mk hBN
            have q1 := blk_cell bp5 1 (v := .slice r k d) rfl
            have f1 := blk_frozen bp5 1
            clear ho5 hg5 ht5 hLN hBN hcs
            refine hK.out _ _ ?_ (fun hHeld' => ?_)
            · (try dsimp only)
              exact ⟨s0', s1', s2'⟩
            clear hK K hHeld
            have hHeld := hHeld'
            clear hHeld'
            (try simp only [Act.put, List.setIfInBounds_toArray, List.set_cons_zero, List.set_cons_succ])
            refine tk 15 ?_
            refine wpAnyH_ready (rs := [16]) (by kernel_rfl) (by simp) ?_
            refine AllReadyH.cons (o := ?_) ?_ (fun K hK => ?_) AllReadyH.nil
            rotate_left
            · (simp only [List.getElem?_toArray, List.getElem?_cons_zero, List.getElem?_cons_succ]; rfl)
            go_simp
            (try go_wp2_with fail)
            refine hK.out _ _ ?_ (fun hHeld' => ?_)
            · (try dsimp only)
              exact ⟨(cell_far _ (by have := HPBX.out; omega)).trans s0', (cell_far _ (by have := HPBX.out; omega)).trans s1', (cell_far _ (by have := HPBX.out; omega)).trans s2'⟩
            clear hK K hHeld
            have hHeld := hHeld'
            clear hHeld'
            (try simp only [Act.put, List.setIfInBounds_toArray, List.set_cons_zero, List.set_cons_succ])
            refine wpAnyH_done (by kernel_rfl) ?_ _
            rw [← HTK.out] at HLN
            obtain ⟨X6, hX6⟩ : ∃ u, u = wk93.setCell ⟨PB, 1, none⟩ (.slice r6 (k + 1) d6) := ⟨_, rfl⟩
            have HREL := Hid.mk (own_round HPBX.out hX6 bp5 HLN.out HBN.out HOFF.out)
            clear bp5 HLN HBN q1 f1 s0' s1' s2'
            rw [← hX6]
            clear hX6
            go_wp2
            go_roundw
            case rel => exact ⟨k + 1, r6, d6, _, _, by omega, by go_num, HREL.out⟩
            case measure => simp [intOf]; omega
          refine AllReadyH.cons (o := ?_) ?_ (fun K hK => ?_) AllReadyH.nil
          rotate_left
          · (simp only [List.getElem?_toArray, List.getElem?_cons_zero, List.getElem?_cons_succ]; rfl)
          · refine step_append_all rfl (.tmp 20) (.tmp 22) 41 rfl 0 3 i0 (.int .i64 0) 8 Try.underlying41 hi hz0 hz1 hz2 rfl (.slice (some ⟨vk80.heap.size, 0, none⟩) 0 0) 0 [] (by simp [Act.eval]) (owns_mono HOE5.out (Nat.zero_le _)) e0 m0 f0 x.1 (by simp [Act.eval]) HQ0.out (At.below HRW0.out HBk88) hq2 (by unfold maxLen; omega) (by omega) (Nat.zero_le _) (fun r5 d5 wk95 ho3 hg3 ht3 => ?_)
            simp only [Nat.zero_add, List.nil_append] at ho3 ht3 ⊢
            have HBk95 : Below V.heap.size V wk95 := HBk88.grown hg3 HBk88.size (fun j hj => by simp [Value.ownBlock] at hj; omega)
            have zA5 : vk88.heap.size ≤ wk95.heap.size := hg3.size
            have HO5 := Hid.mk ho3
            have HBL5 := Hid.mk (fun b (hb : (Value.slice r5 m0 d5).ownBlock = some b) => (show (b = vk80.heap.size ∨ b = vk88.heap.size) ∧ b < wk95.heap.size from ⟨(ht3.imp (fun h => by rw [h] at hb; simp [Value.ownBlock] at hb; exact hb.symm) (fun h => by rw [h] at hb; exact (Option.some.inj hb).symm)), (ho3.lt b hb).2⟩))
            have HOE9 := Hid.mk (ownsRow_frame HOE9.out (fun b hb hl => hg3.block b hl (fun e => by simp [Value.ownBlock] at hb e; omega)))
            skip
            clear ho3 hg3 ht3 HOE5
            refine hK.out _ _ ?_ (fun hHeld' => ?_)
            · (try dsimp only)
              exact ⟨(HBk95.cell zlY).trans s0, (HBk95.cell zlY).trans s1, (HBk95.cell zlY).trans s2⟩
            clear hK K hHeld
            have hHeld := hHeld'
            clear hHeld'
            (try simp only [Act.put, List.setIfInBounds_toArray, List.set_cons_zero, List.set_cons_succ])
            have q1 := blk_cell (blk_below HPB.out (bVY.out.trans (HBk95.mono (by omega)))) 1 (v := .slice r k d) rfl
            refine wpAnyH_ready (rs := [1, 9]) (by kernel_rfl) (by simp) ?_
            refine AllReadyH.cons (o := ?_) ?_ (fun K hK => ?_) ?_
            rotate_left
            · (simp only [List.getElem?_toArray, List.getElem?_cons_zero, List.getElem?_cons_succ]; rfl)
            · go_simp
              (try go_wp2_with fail)
              refine hK.out _ _ ?_ (fun hHeld' => ?_)
              · (try dsimp only)
                exact ⟨(HBk95.cell zlY).trans s0, (HBk95.cell zlY).trans s1, (HBk95.cell zlY).trans s2⟩
              clear hK K hHeld
              have hHeld := hHeld'
              clear hHeld'
              (try simp only [Act.put, List.setIfInBounds_toArray, List.set_cons_zero, List.set_cons_succ])
              refine wpAnyH_ready (rs := [9]) (by kernel_rfl) (by simp) ?_
              refine AllReadyH.cons (o := ?_) ?_ (fun K hK => ?_) AllReadyH.nil
              rotate_left
              · (simp only [List.getElem?_toArray, List.getElem?_cons_zero, List.getElem?_cons_succ]; rfl)
              refine step_append_all rfl (.tmp 24) (.tmp 26) 41 rfl 0 3 i0 (.int .i64 0) 8 Try.underlying41 hi hz0 hz1 hz2 rfl (.slice (some ⟨u0.heap.size, 0, none⟩) 0 0) 0 [] (by simp [Act.eval]) (owns_mono HOE9.out (Nat.zero_le _)) e1 m1 f1 x.2.1 (by simp [Act.eval]) HQ1.out (At.below HRW1.out HBk95) hq3 (by unfold maxLen; omega) (by omega) (Nat.zero_le _) (fun r9 d9 wk97 ho3 hg3 ht3 => ?_)
              simp only [Nat.zero_add, List.nil_append] at ho3 ht3 ⊢
              have HBk97 : Below V.heap.size V wk97 := HBk95.grown hg3 HBk95.size (fun j hj => by simp [Value.ownBlock] at hj; omega)
              have zA9 : wk95.heap.size ≤ wk97.heap.size := hg3.size
              have HO9 := Hid.mk ho3
              have HBL9 := Hid.mk (fun b (hb : (Value.slice r9 m1 d9).ownBlock = some b) => (show (b = u0.heap.size ∨ b = wk95.heap.size) ∧ b < wk97.heap.size from ⟨(ht3.imp (fun h => by rw [h] at hb; simp [Value.ownBlock] at hb; exact hb.symm) (fun h => by rw [h] at hb; exact (Option.some.inj hb).symm)), (ho3.lt b hb).2⟩))
              have HO5 := Hid.mk (ownsRow_frame HO5.out (fun b hb hl => hg3.block b hl (fun e => by have h1 := HBL5.out b hb; simp [Value.ownBlock] at e; omega)))
              skip
              clear ho3 hg3 ht3 HOE9
              refine hK.out _ _ ?_ (fun hHeld' => ?_)
              · (try dsimp only)
                exact ⟨(HBk97.cell zlY).trans s0, (HBk97.cell zlY).trans s1, (HBk97.cell zlY).trans s2⟩
              clear hK K hHeld
              have hHeld := hHeld'
              clear hHeld'
              (try simp only [Act.put, List.setIfInBounds_toArray, List.set_cons_zero, List.set_cons_succ])
              refine tk 12 ?_
              refine wpAnyH_ready (rs := [13]) (by kernel_rfl) (by simp) ?_
              refine AllReadyH.cons (o := ?_) ?_ (fun K hK => ?_) AllReadyH.nil
              rotate_left
              · (simp only [List.getElem?_toArray, List.getElem?_cons_zero, List.getElem?_cons_succ]; rfl)
              go_simp
              (try go_wp2_with fail)
              refine hK.out _ _ ?_ (fun hHeld' => ?_)
              · (try dsimp only)
                exact ⟨((HBk97.alloc HBk97.size _).cell zlY).trans s0, ((HBk97.alloc HBk97.size _).cell zlY).trans s1, ((HBk97.alloc HBk97.size _).cell zlY).trans s2⟩
              clear hK K hHeld
              have hHeld := hHeld'
              clear hHeld'
              (try simp only [Act.put, List.setIfInBounds_toArray, List.set_cons_zero, List.set_cons_succ])
              obtain ⟨vk98, hv98⟩ : ∃ u, u = wk97.alloc (.cells #[.slice r5 m0 d5, .slice r9 m1 d9, .bool o] 76) := ⟨_, rfl⟩
              have hbk98 : Below wk97.heap.size wk97 vk98 := by rw [hv98]; exact (Below.refl _ _).alloc (Nat.le_refl _) _
              have HBk98 : Below V.heap.size V vk98 := HBk97.trans (hbk98.mono HBk97.size)
              have HVE := Hid.mk hv98
              have HP2 := Hid.mk HBk97
              rw [← hv98]
              clear hv98
              refine wpAnyH_ready (rs := [14]) (by kernel_rfl) (by simp) ?_
              refine AllReadyH.cons (o := ?_) ?_ (fun K hK => ?_) AllReadyH.nil
              rotate_left
              · (simp only [List.getElem?_toArray, List.getElem?_cons_zero, List.getElem?_cons_succ]; rfl)
              refine push_wire rfl (.tmp 19) (.tmp 31) rfl LB r k d cells wk97 HVE.out (by simp [Act.eval]) (by simp [Act.eval]) (owns_below HLB.out (bVY.out.trans (HP2.out.mono (by omega)))) (by omega) (by have := HP2.out.size; omega) (h := fun r6 d6 wk99 ho5 hg5 ht5 => ?_)
              obtain ⟨⟨G', hLN⟩, hBN, bp5, hcs⟩ := own_tail HL.out zloY (bVY.out.trans (HP2.out.mono (by omega))) HQ0.out HQ1.out HOO.out hm0 hm1 HO5.out HO9.out (fun b hb => by have h1 := HBL5.out b hb; omega) (fun b hb => by have h1 := HBL9.out b hb; omega) (fun b hb hb' => by have h1 := HBL5.out b hb; have h2 := HBL9.out b hb'; omega) ho5 hg5 ht5 HPB.out HPBX.out (by omega)
              have s0' := hcs 0 _ ((HP2.out.cell zlY).trans s0)
              have s1' := hcs 1 _ ((HP2.out.cell zlY).trans s1)
              have s2' := hcs 2 _ ((HP2.out.cell zlY).trans s2)
              have HLN := Hid.mk hLN
              have HBN := Hid.mk hBN
              have q1 := blk_cell bp5 1 (v := .slice r k d) rfl
              have f1 := blk_frozen bp5 1
              clear ho5 hg5 ht5 hLN hBN hcs
              refine hK.out _ _ ?_ (fun hHeld' => ?_)
              · (try dsimp only)
                exact ⟨s0', s1', s2'⟩
              clear hK K hHeld
              have hHeld := hHeld'
              clear hHeld'
              (try simp only [Act.put, List.setIfInBounds_toArray, List.set_cons_zero, List.set_cons_succ])
              refine tk 15 ?_
              refine wpAnyH_ready (rs := [16]) (by kernel_rfl) (by simp) ?_
              refine AllReadyH.cons (o := ?_) ?_ (fun K hK => ?_) AllReadyH.nil
              rotate_left
              · (simp only [List.getElem?_toArray, List.getElem?_cons_zero, List.getElem?_cons_succ]; rfl)
              go_simp
              (try go_wp2_with fail)
              refine hK.out _ _ ?_ (fun hHeld' => ?_)
              · (try dsimp only)
                exact ⟨(cell_far _ (by have := HPBX.out; omega)).trans s0', (cell_far _ (by have := HPBX.out; omega)).trans s1', (cell_far _ (by have := HPBX.out; omega)).trans s2'⟩
              clear hK K hHeld
              have hHeld := hHeld'
              clear hHeld'
              (try simp only [Act.put, List.setIfInBounds_toArray, List.set_cons_zero, List.set_cons_succ])
              refine wpAnyH_done (by kernel_rfl) ?_ _
              rw [← HTK.out] at HLN
              obtain ⟨X6, hX6⟩ : ∃ u, u = wk99.setCell ⟨PB, 1, none⟩ (.slice r6 (k + 1) d6) := ⟨_, rfl⟩
              have HREL := Hid.mk (own_round HPBX.out hX6 bp5 HLN.out HBN.out HOFF.out)
              clear bp5 HLN HBN q1 f1 s0' s1' s2'
              rw [← hX6]
              clear hX6
              go_wp2
              go_roundw
              case rel => exact ⟨k + 1, r6, d6, _, _, by omega, by go_num, HREL.out⟩
              case measure => simp [intOf]; omega
            refine AllReadyH.cons (o := ?_) ?_ (fun K hK => ?_) AllReadyH.nil
            rotate_left
            · (simp only [List.getElem?_toArray, List.getElem?_cons_zero, List.getElem?_cons_succ]; rfl)
            · refine step_append_all rfl (.tmp 24) (.tmp 26) 41 rfl 0 3 i0 (.int .i64 0) 8 Try.underlying41 hi hz0 hz1 hz2 rfl (.slice (some ⟨u0.heap.size, 0, none⟩) 0 0) 0 [] (by simp [Act.eval]) (owns_mono HOE9.out (Nat.zero_le _)) e1 m1 f1 x.2.1 (by simp [Act.eval]) HQ1.out (At.below HRW1.out HBk95) hq3 (by unfold maxLen; omega) (by omega) (Nat.zero_le _) (fun r9 d9 wk101 ho3 hg3 ht3 => ?_)
              simp only [Nat.zero_add, List.nil_append] at ho3 ht3 ⊢
              have HBk101 : Below V.heap.size V wk101 := HBk95.grown hg3 HBk95.size (fun j hj => by simp [Value.ownBlock] at hj; omega)
              have zA9 : wk95.heap.size ≤ wk101.heap.size := hg3.size
              have HO9 := Hid.mk ho3
              have HBL9 := Hid.mk (fun b (hb : (Value.slice r9 m1 d9).ownBlock = some b) => (show (b = u0.heap.size ∨ b = wk95.heap.size) ∧ b < wk101.heap.size from ⟨(ht3.imp (fun h => by rw [h] at hb; simp [Value.ownBlock] at hb; exact hb.symm) (fun h => by rw [h] at hb; exact (Option.some.inj hb).symm)), (ho3.lt b hb).2⟩))
              have HO5 := Hid.mk (ownsRow_frame HO5.out (fun b hb hl => hg3.block b hl (fun e => by have h1 := HBL5.out b hb; simp [Value.ownBlock] at e; omega)))
              skip
              clear ho3 hg3 ht3 HOE9
              refine hK.out _ _ ?_ (fun hHeld' => ?_)
              · (try dsimp only)
                exact ⟨(HBk101.cell zlY).trans s0, (HBk101.cell zlY).trans s1, (HBk101.cell zlY).trans s2⟩
              clear hK K hHeld
              have hHeld := hHeld'
              clear hHeld'
              (try simp only [Act.put, List.setIfInBounds_toArray, List.set_cons_zero, List.set_cons_succ])
              refine tk 12 ?_
              have q1 := blk_cell (blk_below HPB.out (bVY.out.trans (HBk101.mono (by omega)))) 1 (v := .slice r k d) rfl
              refine wpAnyH_ready (rs := [1, 13]) (by kernel_rfl) (by simp) ?_
              refine AllReadyH.cons (o := ?_) ?_ (fun K hK => ?_) ?_
              rotate_left
              · (simp only [List.getElem?_toArray, List.getElem?_cons_zero, List.getElem?_cons_succ]; rfl)
              · go_simp
                (try go_wp2_with fail)
                refine hK.out _ _ ?_ (fun hHeld' => ?_)
                · (try dsimp only)
                  exact ⟨(HBk101.cell zlY).trans s0, (HBk101.cell zlY).trans s1, (HBk101.cell zlY).trans s2⟩
                clear hK K hHeld
                have hHeld := hHeld'
                clear hHeld'
                (try simp only [Act.put, List.setIfInBounds_toArray, List.set_cons_zero, List.set_cons_succ])
                refine wpAnyH_ready (rs := [13]) (by kernel_rfl) (by simp) ?_
                refine AllReadyH.cons (o := ?_) ?_ (fun K hK => ?_) AllReadyH.nil
                rotate_left
                · (simp only [List.getElem?_toArray, List.getElem?_cons_zero, List.getElem?_cons_succ]; rfl)
                go_simp
                (try go_wp2_with fail)
                refine hK.out _ _ ?_ (fun hHeld' => ?_)
                · (try dsimp only)
                  exact ⟨((HBk101.alloc HBk101.size _).cell zlY).trans s0, ((HBk101.alloc HBk101.size _).cell zlY).trans s1, ((HBk101.alloc HBk101.size _).cell zlY).trans s2⟩
                clear hK K hHeld
                have hHeld := hHeld'
                clear hHeld'
                (try simp only [Act.put, List.setIfInBounds_toArray, List.set_cons_zero, List.set_cons_succ])
                obtain ⟨vk103, hv103⟩ : ∃ u, u = wk101.alloc (.cells #[.slice r5 m0 d5, .slice r9 m1 d9, .bool o] 76) := ⟨_, rfl⟩
                have hbk103 : Below wk101.heap.size wk101 vk103 := by rw [hv103]; exact (Below.refl _ _).alloc (Nat.le_refl _) _
                have HBk103 : Below V.heap.size V vk103 := HBk101.trans (hbk103.mono HBk101.size)
                have HVE := Hid.mk hv103
                have HP2 := Hid.mk HBk101
                rw [← hv103]
                clear hv103
                refine wpAnyH_ready (rs := [14]) (by kernel_rfl) (by simp) ?_
                refine AllReadyH.cons (o := ?_) ?_ (fun K hK => ?_) AllReadyH.nil
                rotate_left
                · (simp only [List.getElem?_toArray, List.getElem?_cons_zero, List.getElem?_cons_succ]; rfl)
                refine push_wire rfl (.tmp 19) (.tmp 31) rfl LB r k d cells wk101 HVE.out (by simp [Act.eval]) (by simp [Act.eval]) (owns_below HLB.out (bVY.out.trans (HP2.out.mono (by omega)))) (by omega) (by have := HP2.out.size; omega) (h := fun r6 d6 wk104 ho5 hg5 ht5 => ?_)
                obtain ⟨⟨G', hLN⟩, hBN, bp5, hcs⟩ := own_tail HL.out zloY (bVY.out.trans (HP2.out.mono (by omega))) HQ0.out HQ1.out HOO.out hm0 hm1 HO5.out HO9.out (fun b hb => by have h1 := HBL5.out b hb; omega) (fun b hb => by have h1 := HBL9.out b hb; omega) (fun b hb hb' => by have h1 := HBL5.out b hb; have h2 := HBL9.out b hb'; omega) ho5 hg5 ht5 HPB.out HPBX.out (by omega)
                have s0' := hcs 0 _ ((HP2.out.cell zlY).trans s0)
                have s1' := hcs 1 _ ((HP2.out.cell zlY).trans s1)
                have s2' := hcs 2 _ ((HP2.out.cell zlY).trans s2)
                have HLN := Hid.mk hLN
                have HBN := Hid.mk hBN
                have q1 := blk_cell bp5 1 (v := .slice r k d) rfl
                have f1 := blk_frozen bp5 1
                clear ho5 hg5 ht5 hLN hBN hcs
                refine hK.out _ _ ?_ (fun hHeld' => ?_)
                · (try dsimp only)
                  exact ⟨s0', s1', s2'⟩
                clear hK K hHeld
                have hHeld := hHeld'
                clear hHeld'
                (try simp only [Act.put, List.setIfInBounds_toArray, List.set_cons_zero, List.set_cons_succ])
                refine tk 15 ?_
                refine wpAnyH_ready (rs := [16]) (by kernel_rfl) (by simp) ?_
                refine AllReadyH.cons (o := ?_) ?_ (fun K hK => ?_) AllReadyH.nil
                rotate_left
                · (simp only [List.getElem?_toArray, List.getElem?_cons_zero, List.getElem?_cons_succ]; rfl)
                go_simp
                (try go_wp2_with fail)
                refine hK.out _ _ ?_ (fun hHeld' => ?_)
                · (try dsimp only)
                  exact ⟨(cell_far _ (by have := HPBX.out; omega)).trans s0', (cell_far _ (by have := HPBX.out; omega)).trans s1', (cell_far _ (by have := HPBX.out; omega)).trans s2'⟩
                clear hK K hHeld
                have hHeld := hHeld'
                clear hHeld'
                (try simp only [Act.put, List.setIfInBounds_toArray, List.set_cons_zero, List.set_cons_succ])
                refine wpAnyH_done (by kernel_rfl) ?_ _
                rw [← HTK.out] at HLN
                obtain ⟨X6, hX6⟩ : ∃ u, u = wk104.setCell ⟨PB, 1, none⟩ (.slice r6 (k + 1) d6) := ⟨_, rfl⟩
                have HREL := Hid.mk (own_round HPBX.out hX6 bp5 HLN.out HBN.out HOFF.out)
                clear bp5 HLN HBN q1 f1 s0' s1' s2'
                rw [← hX6]
                clear hX6
                go_wp2
                go_roundw
                case rel => exact ⟨k + 1, r6, d6, _, _, by omega, by go_num, HREL.out⟩
                case measure => simp [intOf]; omega
              refine AllReadyH.cons (o := ?_) ?_ (fun K hK => ?_) AllReadyH.nil
              rotate_left
              · (simp only [List.getElem?_toArray, List.getElem?_cons_zero, List.getElem?_cons_succ]; rfl)
              · go_simp
                (try go_wp2_with fail)
                refine hK.out _ _ ?_ (fun hHeld' => ?_)
                · (try dsimp only)
                  exact ⟨((HBk101.alloc HBk101.size _).cell zlY).trans s0, ((HBk101.alloc HBk101.size _).cell zlY).trans s1, ((HBk101.alloc HBk101.size _).cell zlY).trans s2⟩
                clear hK K hHeld
                have hHeld := hHeld'
                clear hHeld'
                (try simp only [Act.put, List.setIfInBounds_toArray, List.set_cons_zero, List.set_cons_succ])
                obtain ⟨vk106, hv106⟩ : ∃ u, u = wk101.alloc (.cells #[.slice r5 m0 d5, .slice r9 m1 d9, .bool o] 76) := ⟨_, rfl⟩
                have hbk106 : Below wk101.heap.size wk101 vk106 := by rw [hv106]; exact (Below.refl _ _).alloc (Nat.le_refl _) _
                have HBk106 : Below V.heap.size V vk106 := HBk101.trans (hbk106.mono HBk101.size)
                have HVE := Hid.mk hv106
                have HP2 := Hid.mk HBk101
                rw [← hv106]
                clear hv106
                have q1 := blk_cell (blk_below HPB.out (bVY.out.trans (HBk106.mono (by omega)))) 1 (v := .slice r k d) rfl
                refine wpAnyH_ready (rs := [1]) (by kernel_rfl) (by simp) ?_
                refine AllReadyH.cons (o := ?_) ?_ (fun K hK => ?_) AllReadyH.nil
                rotate_left
                · (simp only [List.getElem?_toArray, List.getElem?_cons_zero, List.getElem?_cons_succ]; rfl)
                go_simp
                (try go_wp2_with fail)
                refine hK.out _ _ ?_ (fun hHeld' => ?_)
                · (try dsimp only)
                  exact ⟨(HBk106.cell zlY).trans s0, (HBk106.cell zlY).trans s1, (HBk106.cell zlY).trans s2⟩
                clear hK K hHeld
                have hHeld := hHeld'
                clear hHeld'
                (try simp only [Act.put, List.setIfInBounds_toArray, List.set_cons_zero, List.set_cons_succ])
                refine wpAnyH_ready (rs := [14]) (by kernel_rfl) (by simp) ?_
                refine AllReadyH.cons (o := ?_) ?_ (fun K hK => ?_) AllReadyH.nil
                rotate_left
                · (simp only [List.getElem?_toArray, List.getElem?_cons_zero, List.getElem?_cons_succ]; rfl)
                refine push_wire rfl (.tmp 19) (.tmp 31) rfl LB r k d cells wk101 HVE.out (by simp [Act.eval]) (by simp [Act.eval]) (owns_below HLB.out (bVY.out.trans (HP2.out.mono (by omega)))) (by omega) (by have := HP2.out.size; omega) (h := fun r6 d6 wk108 ho5 hg5 ht5 => ?_)
                obtain ⟨⟨G', hLN⟩, hBN, bp5, hcs⟩ := own_tail HL.out zloY (bVY.out.trans (HP2.out.mono (by omega))) HQ0.out HQ1.out HOO.out hm0 hm1 HO5.out HO9.out (fun b hb => by have h1 := HBL5.out b hb; omega) (fun b hb => by have h1 := HBL9.out b hb; omega) (fun b hb hb' => by have h1 := HBL5.out b hb; have h2 := HBL9.out b hb'; omega) ho5 hg5 ht5 HPB.out HPBX.out (by omega)
                have s0' := hcs 0 _ ((HP2.out.cell zlY).trans s0)
                have s1' := hcs 1 _ ((HP2.out.cell zlY).trans s1)
                have s2' := hcs 2 _ ((HP2.out.cell zlY).trans s2)
                have HLN := Hid.mk hLN
                have HBN := Hid.mk hBN
                have q1 := blk_cell bp5 1 (v := .slice r k d) rfl
                have f1 := blk_frozen bp5 1
                clear ho5 hg5 ht5 hLN hBN hcs
                refine hK.out _ _ ?_ (fun hHeld' => ?_)
                · (try dsimp only)
                  exact ⟨s0', s1', s2'⟩
                clear hK K hHeld
                have hHeld := hHeld'
                clear hHeld'
                (try simp only [Act.put, List.setIfInBounds_toArray, List.set_cons_zero, List.set_cons_succ])
                refine tk 15 ?_
                refine wpAnyH_ready (rs := [16]) (by kernel_rfl) (by simp) ?_
                refine AllReadyH.cons (o := ?_) ?_ (fun K hK => ?_) AllReadyH.nil
                rotate_left
                · (simp only [List.getElem?_toArray, List.getElem?_cons_zero, List.getElem?_cons_succ]; rfl)
                go_simp
                (try go_wp2_with fail)
                refine hK.out _ _ ?_ (fun hHeld' => ?_)
                · (try dsimp only)
                  exact ⟨(cell_far _ (by have := HPBX.out; omega)).trans s0', (cell_far _ (by have := HPBX.out; omega)).trans s1', (cell_far _ (by have := HPBX.out; omega)).trans s2'⟩
                clear hK K hHeld
                have hHeld := hHeld'
                clear hHeld'
                (try simp only [Act.put, List.setIfInBounds_toArray, List.set_cons_zero, List.set_cons_succ])
                refine wpAnyH_done (by kernel_rfl) ?_ _
                rw [← HTK.out] at HLN
                obtain ⟨X6, hX6⟩ : ∃ u, u = wk108.setCell ⟨PB, 1, none⟩ (.slice r6 (k + 1) d6) := ⟨_, rfl⟩
                have HREL := Hid.mk (own_round HPBX.out hX6 bp5 HLN.out HBN.out HOFF.out)
                clear bp5 HLN HBN q1 f1 s0' s1' s2'
                rw [← hX6]
                clear hX6
                go_wp2
                go_roundw
                case rel => exact ⟨k + 1, r6, d6, _, _, by omega, by go_num, HREL.out⟩
                case measure => simp [intOf]; omega
    · have hkn : n1 = k := by omega
      have hki : ¬ (k : Int) < (n1 : Int) := by omega
      have htk : ws.take k = ws := List.take_of_length_le (by have := H1.out; omega)
      rw [htk] at hL
      subst hkn
      obtain ⟨g1, rfl⟩ := own_sliceK hL.outer hp1
      have BXY : Below PB X0 wY := ⟨hoff.os, hoff.tape, hoff.output, hoff.size, fun b' h => hoff.block b' (by have := HLBX.out; omega) (by omega)⟩
      have br := (BXY.block (w.heap.size + 1) (by omega)).trans HBR.out
      have BY : Below w.heap.size w wY := HBX.out.trans (BXY.mono (by omega))
      have hl1 := hL.outerF g1 rfl
      have hoY : wY.ownsRow 0 74 3 (.slice (some ⟨g0, 0, none⟩) n0 d0) n0 L := owns_mono (ownsRow_frame HO.out (fun b hb _ => by
        have hb2 : b = g0 := by simp [Value.ownBlock] at hb; exact hb.symm
        rw [hb2]; exact BXY.block g0 (by omega))) (Nat.zero_le _)
      have hsv : SV wY (fun b => w.heap.size + 2 ≤ b) g0 n0 d0 g1 n1 d ps ws L cells G :=
        ⟨⟨H0.out, by omega, hoY, fun b hb => (by
            have hb2 : b = g0 := by simp [Value.ownBlock] at hb; exact hb.symm
            rw [hb2]; exact ⟨by show w.heap.size + 2 ≤ g0; have := HZW.out; omega, by omega⟩), fun i x hi hx => (by
            show RProc.Own wY _ (sub L (i * 3) 3) x
            rw [HL4.out i hi x hx]
            exact RProc.own_mk), fun _ _ _ hb => hb.elim, fun _ _ _ _ _ _ hb => hb.elim⟩,
          hL.mono (fun b hb => ⟨by have := hb.1; show w.heap.size + 2 ≤ b; omega, hb.2⟩), by have := hl1.1; omega, fun i b hi hb => by have := (hL.rowF i b hi hb).1.1; omega, fun b hb => by show w.heap.size + 2 ≤ b; omega⟩
      have HSV := Hid.mk hsv
      have HBY := Hid.mk BY
      have zY := BY.size
      have hwlt : w.heap.size + 2 ≤ wY.heap.size := by omega
      clear hL hoff hl1 hoY hsv BXY BY htk
      have p0 := blk_cell bp 0 (v := .slice (some ⟨g0, 0, none⟩) n0 d0) rfl
      have p1 := blk_cell bp 1 (v := .slice (some ⟨g1, 0, none⟩) n1 d) rfl
      have y0 := blk_cell br 0 (v := .slice none 0 0) rfl
      have y1 := blk_cell br 1 (v := .slice none 0 0) rfl
      have fz0 := blk_frozen br 0
      have fz1 := blk_frozen br 1
      obtain ⟨Y, hY⟩ : ∃ u, u = (wY.setCell ⟨w.heap.size + 1, 0, none⟩ (.slice (some ⟨g0, 0, none⟩) n0 d0)).setCell ⟨w.heap.size + 1, 1, none⟩ (.slice (some ⟨g1, 0, none⟩) n1 d) := ⟨_, rfl⟩
      have S : Off (fun b => b = w.heap.size + 1) wY Y := by rw [hY]; exact (Off.set (F := fun b => b = w.heap.size + 1) (a := ⟨w.heap.size + 1, 0, none⟩) rfl _).trans (Off.set (F := fun b => b = w.heap.size + 1) (a := ⟨w.heap.size + 1, 1, none⟩) rfl _)
      have RR : Hid (SV Y (fun b => w.heap.size ≤ b) g0 n0 d0 g1 n1 d ps ws L cells G ∧ Below w.heap.size w Y) := Hid.mk
        ⟨(HSV.out.frame (fun b hb hl => S.block b hl (fun e => by have h1 : w.heap.size + 2 ≤ b := hb; have h2 : b = w.heap.size + 1 := e; omega)) S.size).mono (fun b hb => by have h1 : w.heap.size + 2 ≤ b := hb; show w.heap.size ≤ b; omega), HBY.out.trans (S.belowOf (fun b h => by have h2 : b = w.heap.size + 1 := h; omega) (by omega))⟩
      have HY := Hid.mk hY
      clear S hY
      go_wp2
      refine bodyPost_ret (v := .agg #[.slice (some ⟨g0, 0, none⟩) n0 d0, .slice (some ⟨g1, 0, none⟩) n1 d]) (by simp [results, Try.results32, go_sem, y0, y1]) rfl ⟨g0, d0, g1, d, rfl, ⟨L, cells, G, ?_⟩, ?_⟩ <;> (have h := RR.out; rw [HY.out] at h)
      · exact h.1
      · exact h.2

end Go.Proofs.Ytnfdncofobkjhaa
