/- Several texts of one proof, in build order: OwK, StB. -/
import Derived.Test.YtmbjmmnodcebbaaM18
import Derived.Test.YtmbjmmnodcebbaaM20
import Derived.Test.YtmbjmmnodcebbaaM22
import Derived.Test.YtmbjmmnodcebbaaM6
import Derived.Test.YtmbjmmnodcebbaaM15

/- Contract of the model's l16Own. -/
namespace Go.Proofs.Ytmbjmmnodcebbaa
open Go.RowKit

set_option maxRecDepth 100000 in
set_option maxHeartbeats 2000000 in
theorem l16Own_any (a0 : Option Addr) (n0 c0 : Nat) (a2 : Option Addr) (n2 c2 : Nat) (a3 : Option Addr) (n3 c3 : Nat) (a4 : Option Addr) (n4 c4 : Nat) (t la up : Int) (src pd : List Int) (ps : List TPrepared) (ou : List Int) (w : World) (h0 : src.length = n0) (h2 : pd.length = n2) (h3 : ps.length = n3) (h4 : ou.length = n4) (hb0 : n0 ≤ 1048576) (hb2 : n2 ≤ 1048576) (hb3 : n3 ≤ 1048576) (hb4 : n4 ≤ 1048576) (hF0 : a0 = none → c0 = 0) (hF2 : a2 = none → c2 = 0) (hF3 : a3 = none → c3 = 0) (hF4 : a4 = none → c4 = 0) (hsm : ∀ (i : Nat) (x : TPrepared), ps[i]? = some x → costPrepared x ≤ 1048576) (ha0 : At w a0 src) (ha2 : At w a2 pd) (ha3 : AtSl RPrepared w a3 ps) (ha4 : At w a4 ou) :
    Calls Try.prog 27 #[.agg #[.slice a0 n0 c0, .int .i64 t, .slice a2 n2 c2, .slice a3 n3 c3, .slice a4 n4 c4, .int .i64 la, .int .i64 up]] w fun e w' => CpRet e w w' (src, t, pd, ps, ou, la, up) := by
  obtain ⟨i0, hi, hz0, hz1, hz2⟩ := info_parts Try.infoInt
  obtain ⟨j0, hj0, hy0, hy1, hy2⟩ := info_parts Try.infoPrepared
  obtain ⟨W, hW⟩ : ∃ W, W = (w.alloc (.cells #[.slice a0 n0 c0, .int .i64 t, .slice a2 n2 c2, .slice a3 n3 c3, .slice a4 n4 c4, .int .i64 la, .int .i64 up] 29)).alloc (.cells #[.slice none 0 0, .int .i64 0, .slice none 0 0, .slice none 0 0, .slice none 0 0, .int .i64 0, .int .i64 0] 29) := ⟨_, rfl⟩
  have B0 : Below w.heap.size w W := by rw [hW]; exact ((Below.refl _ _).alloc (Nat.le_refl _) _).alloc (by simp) _
  have b0 : W.heap[w.heap.size]? = some (.cells #[.slice a0 n0 c0, .int .i64 t, .slice a2 n2 c2, .slice a3 n3 c3, .slice a4 n4 c4, .int .i64 la, .int .i64 up] 29 (0, 0)) := by rw [hW]; exact blk_alloc (heap_alloc_new w _) _
  have b1 : W.heap[w.heap.size + 1]? = some (.cells #[.slice none 0 0, .int .i64 0, .slice none 0 0, .slice none 0 0, .slice none 0 0, .int .i64 0, .int .i64 0] 29 (0, 0)) := by
    rw [hW]
    have q := heap_alloc_new (w.alloc (.cells #[.slice a0 n0 c0, .int .i64 t, .slice a2 n2 c2, .slice a3 n3 c3, .slice a4 n4 c4, .int .i64 la, .int .i64 up] 29)) (.cells #[.slice none 0 0, .int .i64 0, .slice none 0 0, .slice none 0 0, .slice none 0 0, .int .i64 0, .int .i64 0] 29)
    simpa only [World.size_alloc] using q
  have zW : W.heap.size = w.heap.size + 2 := by rw [hW]; simp
  have BW := B0
  have zWa : w.heap.size + 2 ≤ W.heap.size := by omega
  clear zW
  have H0 := Hid.mk h0
  have H2 := Hid.mk h2
  have H3 := Hid.mk h3
  have H4 := Hid.mk h4
  have HSM := Hid.mk hsm
  have HA0 := Hid.mk ha0
  have HA2 := Hid.mk ha2
  have HA3 := Hid.mk ha3
  have HA4 := Hid.mk ha4
  clear ha0 ha2 ha3 ha4 h0 h2 h3 h4 hsm
  go_enter Try.func27, Try.ntmps27
  go_upto_region 1 with fail
  rw [← hW]
  clear hW
  have OE := Hid.mk (own_void W 3 1)
  have HA := Hid.mk ((At.below HA0.out BW).alloc (.cells #[] 3))
  have bE : Below W.heap.size W (W.alloc (.cells #[] 3)) := (Below.refl _ _).alloc (Nat.le_refl _) _
  have b0 := blk_below b0 bE
  have b1 := blk_below b1 bE
  have u0 := blk_cell b0 0 (v := .slice a0 n0 c0) rfl
  go_wp2_with (at_builtin; refine wpList_append_all rfl (.tmp 6) (.tmp 8) 22 rfl W.heap.size 3 i0 (.int .i64 0) 8 Try.underlying22 hi hz0 hz1 hz2 rfl (.slice (some ⟨W.heap.size, 0, none⟩) 0 0) 0 [] rfl OE.out a0 n0 c0 src rfl H0.out HA.out hF0 (by unfold maxLen; omega) (by omega) (by simp) ?_)
  intro r0 d0 w1 ho hg
  have hb : Below W.heap.size W w1 := ((Below.refl _ _).alloc (Nat.le_refl _) _).grown hg (by simp) (fun j hj => by simp [Value.ownBlock] at hj; omega)
  have HO0 : Hid (w1.ownsRow W.heap.size 3 1 (.slice r0 n0 d0) n0 (src.map (.int .i64))) := Hid.mk (by simpa using ho)
  have HF0 := Hid.mk (fun b (hb2 : (Value.slice r0 n0 d0).ownBlock = some b) => HO0.out.lt b hb2)
  have b0 := (hg.block w.heap.size (by simp; omega) (fun e => by simp [Value.ownBlock] at e; omega)).trans b0
  have b1 := (hg.block (w.heap.size + 1) (by simp; omega) (fun e => by simp [Value.ownBlock] at e; omega)).trans b1
  (try simp only [Nat.zero_add])
  have zw0 := hb.size
  have BW0 := BW.trans (hb.mono BW.size)
  obtain ⟨X1, hX⟩ : ∃ u, u = w1.setCell ⟨w.heap.size, 0, none⟩ (.slice r0 n0 d0) := ⟨_, rfl⟩
  have q2 := blk_cell b0 0 (v := .slice a0 n0 c0) rfl
  have f2 := blk_frozen b0 0
  have b0 : X1.heap[w.heap.size]? = some (.cells #[.slice r0 n0 d0, .int .i64 t, .slice a2 n2 c2, .slice a3 n3 c3, .slice a4 n4 c4, .int .i64 la, .int .i64 up] 29 (0, 0)) := by rw [hX]; exact blk_set b0 0 _
  have b1 : X1.heap[w.heap.size + 1]? = some (.cells #[.slice none 0 0, .int .i64 0, .slice none 0 0, .slice none 0 0, .slice none 0 0, .int .i64 0, .int .i64 0] 29 (0, 0)) := by rw [hX]; exact blk_other b1 (by simp) _
  have zXa0 : X1.heap.size ≤ w1.heap.size := by rw [hX]; simp [World.setCell]
  have zXb0 : w1.heap.size ≤ X1.heap.size := by rw [hX]; simp [World.setCell]
  have BX1 : Below w.heap.size w X1 := by rw [hX]; exact BW0.setCell (Nat.le_refl _) _
  have hSX : Off (fun b => b = w.heap.size) w1 X1 := by rw [hX]; exact Off.set (F := fun b => b = w.heap.size) (a := ⟨w.heap.size, 0, none⟩) rfl _
  have HO0 := Hid.mk (ownsRow_frame HO0.out (fun b hb2 hl => hSX.block b hl (fun e => by have h2 : b = w.heap.size := e; have := (HO0.out.lt b hb2).1; omega)))
  clear hb ho hg hSX u0 OE HA bE
  go_upto_region 2 with fail
  rw [← hX]
  clear hX q2 f2
  have OE := Hid.mk (own_void X1 3 1)
  have HA := Hid.mk ((At.below HA2.out BX1).alloc (.cells #[] 3))
  have bE : Below X1.heap.size X1 (X1.alloc (.cells #[] 3)) := (Below.refl _ _).alloc (Nat.le_refl _) _
  have b0 := blk_below b0 bE
  have b1 := blk_below b1 bE
  have u2 := blk_cell b0 2 (v := .slice a2 n2 c2) rfl
  go_wp2_with (at_builtin; refine wpList_append_all rfl (.tmp 11) (.tmp 13) 22 rfl X1.heap.size 3 i0 (.int .i64 0) 8 Try.underlying22 hi hz0 hz1 hz2 rfl (.slice (some ⟨X1.heap.size, 0, none⟩) 0 0) 0 [] rfl OE.out a2 n2 c2 pd rfl H2.out HA.out hF2 (by unfold maxLen; omega) (by omega) (by simp) ?_)
  intro r2 d2 w2 ho hg
  have hb : Below X1.heap.size X1 w2 := ((Below.refl _ _).alloc (Nat.le_refl _) _).grown hg (by simp) (fun j hj => by simp [Value.ownBlock] at hj; omega)
  have HO2 : Hid (w2.ownsRow X1.heap.size 3 1 (.slice r2 n2 d2) n2 (pd.map (.int .i64))) := Hid.mk (by simpa using ho)
  have HF2 := Hid.mk (fun b (hb2 : (Value.slice r2 n2 d2).ownBlock = some b) => HO2.out.lt b hb2)
  have b0 := (hg.block w.heap.size (by simp; omega) (fun e => by simp [Value.ownBlock] at e; omega)).trans b0
  have b1 := (hg.block (w.heap.size + 1) (by simp; omega) (fun e => by simp [Value.ownBlock] at e; omega)).trans b1
  (try simp only [Nat.zero_add])
  have zw1 := hb.size
  have BW1 := BX1.trans (hb.mono BX1.size)
  have HO0 := Hid.mk (owns_below HO0.out hb)
  obtain ⟨X2, hX⟩ : ∃ u, u = w2.setCell ⟨w.heap.size, 2, none⟩ (.slice r2 n2 d2) := ⟨_, rfl⟩
  have q2 := blk_cell b0 2 (v := .slice a2 n2 c2) rfl
  have f2 := blk_frozen b0 2
  have b0 : X2.heap[w.heap.size]? = some (.cells #[.slice r0 n0 d0, .int .i64 t, .slice r2 n2 d2, .slice a3 n3 c3, .slice a4 n4 c4, .int .i64 la, .int .i64 up] 29 (0, 0)) := by rw [hX]; exact blk_set b0 2 _
  have b1 : X2.heap[w.heap.size + 1]? = some (.cells #[.slice none 0 0, .int .i64 0, .slice none 0 0, .slice none 0 0, .slice none 0 0, .int .i64 0, .int .i64 0] 29 (0, 0)) := by rw [hX]; exact blk_other b1 (by simp) _
  have zXa1 : X2.heap.size ≤ w2.heap.size := by rw [hX]; simp [World.setCell]
  have zXb1 : w2.heap.size ≤ X2.heap.size := by rw [hX]; simp [World.setCell]
  have BX2 : Below w.heap.size w X2 := by rw [hX]; exact BW1.setCell (Nat.le_refl _) _
  have hSX : Off (fun b => b = w.heap.size) w2 X2 := by rw [hX]; exact Off.set (F := fun b => b = w.heap.size) (a := ⟨w.heap.size, 2, none⟩) rfl _
  have HO0 := Hid.mk (ownsRow_frame HO0.out (fun b hb2 hl => hSX.block b hl (fun e => by have h2 : b = w.heap.size := e; have := (HO0.out.lt b hb2).1; omega)))
  have HO2 := Hid.mk (ownsRow_frame HO2.out (fun b hb2 hl => hSX.block b hl (fun e => by have h2 : b = w.heap.size := e; have := (HO2.out.lt b hb2).1; omega)))
  clear hb ho hg hSX u2 OE HA bE
  go_upto_region 3 with fail
  rw [← hX]
  clear hX q2 f2
  have OE := Hid.mk (own_void X2 3 1)
  have HA := Hid.mk ((At.below HA4.out BX2).alloc (.cells #[] 3))
  have bE : Below X2.heap.size X2 (X2.alloc (.cells #[] 3)) := (Below.refl _ _).alloc (Nat.le_refl _) _
  have b0 := blk_below b0 bE
  have b1 := blk_below b1 bE
  have u4 := blk_cell b0 4 (v := .slice a4 n4 c4) rfl
  go_wp2_with (at_builtin; refine wpList_append_all rfl (.tmp 16) (.tmp 18) 22 rfl X2.heap.size 3 i0 (.int .i64 0) 8 Try.underlying22 hi hz0 hz1 hz2 rfl (.slice (some ⟨X2.heap.size, 0, none⟩) 0 0) 0 [] rfl OE.out a4 n4 c4 ou rfl H4.out HA.out hF4 (by unfold maxLen; omega) (by omega) (by simp) ?_)
  intro r4 d4 w3 ho hg
  have hb : Below X2.heap.size X2 w3 := ((Below.refl _ _).alloc (Nat.le_refl _) _).grown hg (by simp) (fun j hj => by simp [Value.ownBlock] at hj; omega)
  have HO4 : Hid (w3.ownsRow X2.heap.size 3 1 (.slice r4 n4 d4) n4 (ou.map (.int .i64))) := Hid.mk (by simpa using ho)
  have HF4 := Hid.mk (fun b (hb2 : (Value.slice r4 n4 d4).ownBlock = some b) => HO4.out.lt b hb2)
  have b0 := (hg.block w.heap.size (by simp; omega) (fun e => by simp [Value.ownBlock] at e; omega)).trans b0
  have b1 := (hg.block (w.heap.size + 1) (by simp; omega) (fun e => by simp [Value.ownBlock] at e; omega)).trans b1
  (try simp only [Nat.zero_add])
  have zw2 := hb.size
  have BW2 := BX2.trans (hb.mono BX2.size)
  have HO0 := Hid.mk (owns_below HO0.out hb)
  have HO2 := Hid.mk (owns_below HO2.out hb)
  obtain ⟨X3, hX⟩ : ∃ u, u = w3.setCell ⟨w.heap.size, 4, none⟩ (.slice r4 n4 d4) := ⟨_, rfl⟩
  have q2 := blk_cell b0 4 (v := .slice a4 n4 c4) rfl
  have f2 := blk_frozen b0 4
  have b0 : X3.heap[w.heap.size]? = some (.cells #[.slice r0 n0 d0, .int .i64 t, .slice r2 n2 d2, .slice a3 n3 c3, .slice r4 n4 d4, .int .i64 la, .int .i64 up] 29 (0, 0)) := by rw [hX]; exact blk_set b0 4 _
  have b1 : X3.heap[w.heap.size + 1]? = some (.cells #[.slice none 0 0, .int .i64 0, .slice none 0 0, .slice none 0 0, .slice none 0 0, .int .i64 0, .int .i64 0] 29 (0, 0)) := by rw [hX]; exact blk_other b1 (by simp) _
  have zXa2 : X3.heap.size ≤ w3.heap.size := by rw [hX]; simp [World.setCell]
  have zXb2 : w3.heap.size ≤ X3.heap.size := by rw [hX]; simp [World.setCell]
  have BX3 : Below w.heap.size w X3 := by rw [hX]; exact BW2.setCell (Nat.le_refl _) _
  have hSX : Off (fun b => b = w.heap.size) w3 X3 := by rw [hX]; exact Off.set (F := fun b => b = w.heap.size) (a := ⟨w.heap.size, 4, none⟩) rfl _
  have HO0 := Hid.mk (ownsRow_frame HO0.out (fun b hb2 hl => hSX.block b hl (fun e => by have h2 : b = w.heap.size := e; have := (HO0.out.lt b hb2).1; omega)))
  have HO2 := Hid.mk (ownsRow_frame HO2.out (fun b hb2 hl => hSX.block b hl (fun e => by have h2 : b = w.heap.size := e; have := (HO2.out.lt b hb2).1; omega)))
  have HO4 := Hid.mk (ownsRow_frame HO4.out (fun b hb2 hl => hSX.block b hl (fun e => by have h2 : b = w.heap.size := e; have := (HO4.out.lt b hb2).1; omega)))
  clear hb ho hg hSX u4 OE HA bE
  go_upto_region 4 with fail
  rw [← hX]
  clear hX q2 f2
  have u3 := blk_cell b0 3 (v := .slice a3 n3 c3) rfl
  have HBX3 := Hid.mk BX3
  have HA3X := Hid.mk (AtSl.below HA3.out BX3)
  clear BX1 BX2 BX3 BW0 BW1 BW2
  go_wp2_with fail
  go_loopw [3, 24] (fun q i wr => ∃ (k : Nat) (r : Option Addr) (d : Nat) (cells : List Value) (G : Nat → Nat → Prop), k ≤ n3 ∧ i = .int .i64 k ∧ q = .slice r k d ∧ Laid RPrepared wr (From X3.heap.size wr.heap.size) 64 r k d (ps.take k) cells G k ∧ Below X3.heap.size X3 wr) (fun _ i _ => n3 - (intOf i).toNat)
  case atStart => exact ⟨0, none, 0, [], _, Nat.zero_le _, rfl, rfl, Laid.none _ _ _ _, Below.refl _ _⟩
  case round =>
    obtain ⟨k, r, d, cells, G, hk, rfl, rfl, hL, hbw⟩ := hrel
    obtain ⟨wY, rfl⟩ : ∃ x, x = wr := ⟨_, rfl⟩
    have zloY : X3.heap.size ≤ wY.heap.size := hbw.size
    by_cases hlt : k < n3
    · obtain ⟨b, off, rfl, _, hc⟩ := RPrepared.row (AtSl.below HA3X.out hbw) (by have := H3.out; omega)
      obtain ⟨x, hx⟩ : ∃ x, ps[k]? = some x := ⟨_, List.getElem?_eq_getElem (by have := H3.out; omega)⟩
      obtain ⟨e2, m2, f2, y0, y1, y2, ⟨q0, _, q1, hq2⟩⟩ := hc k x hx
      have hm2 : m2 ≤ 1048576 := smallPrepared q0 (HSM.out k x hx)
      have hki : (k : Int) < (n3 : Int) := by omega
      obtain ⟨V, hV⟩ : ∃ V, V = wY.alloc (.cells #[.int .i64 x.1, .int .i64 x.2.1, .slice e2 m2 f2] 64) := ⟨_, rfl⟩
      have bV : Below wY.heap.size wY V := by rw [hV]; exact (Below.refl _ _).alloc (Nat.le_refl _) _
      have v0 : V.heap[wY.heap.size]? = some (.cells #[.int .i64 x.1, .int .i64 x.2.1, .slice e2 m2 f2] 64 (0, 0)) := by rw [hV]; exact heap_alloc_new wY _
      have zV : V.heap.size = wY.heap.size + 1 := by rw [hV]; simp
      have zlY : wY.heap.size < V.heap.size := by omega
      have s0 := blk_cell v0 0 (v := .int .i64 x.1) rfl
      have s1 := blk_cell v0 1 (v := .int .i64 x.2.1) rfl
      have s2 := blk_cell v0 2 (v := .slice e2 m2 f2) rfl
      have HTK : Hid (ps.take (k + 1) = ps.take k ++ [x]) := Hid.mk (by rw [List.take_add_one, hx]; rfl)
      have HQ0 := Hid.mk q0
      have HRW := Hid.mk (At.below q1 bV)
      have HL := Hid.mk hL
      have HLB := Hid.mk (owns_base hL.outer (fun b hb => (hL.outerF b hb).1))
      have HLO := Hid.mk (fun b (hb : (Value.slice r k d).ownBlock = some b) => (hL.outerF b hb).2)
      have HBW := Hid.mk hbw
      have bVY := Hid.mk bV
      clear hc hx q0 q1 hL hbw bV v0
      go_upto_region 8 with fail
      rw [← hV]
      clear hV y0 y1 y2
      refine wp_region_held_drew (S := fun w' => w'.cell? ⟨wY.heap.size, 0, none⟩ = some (.int .i64 x.1) ∧ w'.cell? ⟨wY.heap.size, 1, none⟩ = some (.int .i64 x.2.1) ∧ w'.cell? ⟨wY.heap.size, 2, none⟩ = some (.slice e2 m2 f2)) (by kernel_rfl) ?_ (fun hHeld => ?_)
      · (try dsimp only)
        exact ⟨s0, s1, s2⟩
      refine tk 0 ?_
      refine tk 1 ?_
      refine tk 2 ?_
      refine tk 3 ?_
      refine tk 4 ?_
      refine tk 6 ?_
      refine tk 7 ?_
      obtain ⟨u0, hu0⟩ : ∃ u, u = V.drew := ⟨_, rfl⟩
      have Y0 : Below V.heap.size V u0 := by rw [hu0]; exact (Below.refl _ _).drew
      rw [← hu0]
      clear hu0
      refine wpAnyH_ready (rs := [5]) (by kernel_rfl) (by simp) ?_
      refine AllReadyH.cons (o := ?_) ?_ (fun K hK => ?_) AllReadyH.nil
      rotate_left
      · (simp only [List.getElem?_toArray, List.getElem?_cons_zero, List.getElem?_cons_succ]; rfl)
      go_simp
      (try go_wp2_with fail)
      refine hK.out _ _ ?_ (fun hHeld' => ?_)
      · (try dsimp only)
        exact ⟨((Y0.alloc Y0.size _).cell zlY).trans s0, ((Y0.alloc Y0.size _).cell zlY).trans s1, ((Y0.alloc Y0.size _).cell zlY).trans s2⟩
      clear hK K hHeld
      have hHeld := hHeld'
      clear hHeld'
      (try simp only [Act.put, List.setIfInBounds_toArray, List.set_cons_zero, List.set_cons_succ])
      obtain ⟨vk1, hv1⟩ : ∃ u, u = u0.alloc (.cells #[] 3) := ⟨_, rfl⟩
      have hbk1 : Below u0.heap.size u0 vk1 := by rw [hv1]; exact (Below.refl _ _).alloc (Nat.le_refl _) _
      have HBk1 : Below V.heap.size V vk1 := Y0.trans (hbk1.mono Y0.size)
      have HOE := Hid.mk (own_void u0 3 1)
      rw [← hv1] at HOE
      have zE : V.heap.size ≤ u0.heap.size := Y0.size
      rw [← hv1]
      clear hv1
      refine wpAnyH_ready (rs := [8]) (by kernel_rfl) (by simp) ?_
      refine AllReadyH.cons (o := ?_) ?_ (fun K hK => ?_) AllReadyH.nil
      rotate_left
      · (simp only [List.getElem?_toArray, List.getElem?_cons_zero, List.getElem?_cons_succ]; rfl)
      refine step_append_all rfl (.tmp 33) (.tmp 35) 22 rfl u0.heap.size 3 i0 (.int .i64 0) 8 Try.underlying22 hi hz0 hz1 hz2 rfl (.slice (some ⟨u0.heap.size, 0, none⟩) 0 0) 0 [] (by simp [Act.eval]) HOE.out e2 m2 f2 x.2.2 (by simp [Act.eval]) HQ0.out (At.below HRW.out HBk1) hq2 (by unfold maxLen; omega) (by omega) (Nat.le_of_lt (HOE.out.lt _ rfl).2) (fun r5 d5 wk2 ho3 hg3 ht3 => ?_)
      simp only [Nat.zero_add, List.nil_append] at ho3 ht3 ⊢
      have HBk2 : Below V.heap.size V wk2 := HBk1.grown hg3 HBk1.size (fun j hj => by simp [Value.ownBlock] at hj; omega)
      have HR5 := Hid.mk (RInts.mono (F' := From wY.heap.size wk2.heap.size) (RInts.made HQ0.out (by omega) ho3) (fun b h => ⟨by have := h.1; omega, h.2⟩))
      skip
      clear ho3 hg3 ht3 HOE
      refine hK.out _ _ ?_ (fun hHeld' => ?_)
      · (try dsimp only)
        exact ⟨(HBk2.cell zlY).trans s0, (HBk2.cell zlY).trans s1, (HBk2.cell zlY).trans s2⟩
      clear hK K hHeld
      have hHeld := hHeld'
      clear hHeld'
      (try simp only [Act.put, List.setIfInBounds_toArray, List.set_cons_zero, List.set_cons_succ])
      refine tk 9 ?_
      refine wpAnyH_ready (rs := [10]) (by kernel_rfl) (by simp) ?_
      refine AllReadyH.cons (o := ?_) ?_ (fun K hK => ?_) AllReadyH.nil
      rotate_left
      · (simp only [List.getElem?_toArray, List.getElem?_cons_zero, List.getElem?_cons_succ]; rfl)
      go_simp
      (try go_wp2_with fail)
      refine hK.out _ _ ?_ (fun hHeld' => ?_)
      · (try dsimp only)
        exact ⟨((HBk2.alloc HBk2.size _).cell zlY).trans s0, ((HBk2.alloc HBk2.size _).cell zlY).trans s1, ((HBk2.alloc HBk2.size _).cell zlY).trans s2⟩
      clear hK K hHeld
      have hHeld := hHeld'
      clear hHeld'
      (try simp only [Act.put, List.setIfInBounds_toArray, List.set_cons_zero, List.set_cons_succ])
      obtain ⟨vk3, hv3⟩ : ∃ u, u = wk2.alloc (.cells #[.int .i64 x.1, .int .i64 x.2.1, .slice r5 m2 d5] 64) := ⟨_, rfl⟩
      have hbk3 : Below wk2.heap.size wk2 vk3 := by rw [hv3]; exact (Below.refl _ _).alloc (Nat.le_refl _) _
      have HBk3 : Below V.heap.size V vk3 := HBk2.trans (hbk3.mono HBk2.size)
      have nw0 : vk3.cell? ⟨wk2.heap.size, 0, none⟩ = some (.int .i64 x.1) := by rw [hv3]; simp
      have nw1 : vk3.cell? ⟨wk2.heap.size, 1, none⟩ = some (.int .i64 x.2.1) := by rw [hv3]; simp
      have nw2 : vk3.cell? ⟨wk2.heap.size, 2, none⟩ = some (.slice r5 m2 d5) := by rw [hv3]; simp
      have HVE := Hid.mk hv3
      rw [← hv3]
      clear hv3
      refine wpAnyH_ready (rs := [11]) (by kernel_rfl) (by simp) ?_
      refine AllReadyH.cons (o := ?_) ?_ (fun K hK => ?_) AllReadyH.nil
      rotate_left
      · (simp only [List.getElem?_toArray, List.getElem?_cons_zero, List.getElem?_cons_succ]; rfl)
      have HBC : Below wY.heap.size wY vk3 := (bVY.out.trans (HBk3.mono (by omega)))
      refine step_append_vals rfl (.tmp 28) (.tmp 38) 27 rfl X3.heap.size 64 j0 (.agg #[.int .i64 0, .int .i64 0, .slice none 0 0]) 3 40 Try.underlying27 hj0 hy0 hy1 hy2 rfl (by decide) (.slice r k d) k cells (by simp [Act.eval]) (owns_below HLB.out HBC) (some ⟨wk2.heap.size, 0, none⟩) 1 1 [.int .i64 x.1, .int .i64 x.2.1, .slice r5 m2 d5] (by simp [Act.eval]) rfl (fun ad he => by cases he; intro j u hu; match j, hu with | 0, hu => (obtain rfl := Option.some.inj hu; exact nw0) | 1, hu => (obtain rfl := Option.some.inj hu; exact nw1) | 2, hu => (obtain rfl := Option.some.inj hu; exact nw2)) (by intro u hu; simp at hu; rcases hu with rfl | rfl | rfl <;> rfl) (fun h => by cases h) (by unfold maxLen; omega) (by omega) (by have := HBC.size; omega) (fun r6 d6 wk4 ho5 hg5 ht5 => ?_)
      have HG5 : Hid ((wk2.alloc (.cells #[.int .i64 x.1, .int .i64 x.2.1, .slice r5 m2 d5] 64)).grownBy wk4 (Value.slice r k d).ownBlock) := Hid.mk (by rw [← HVE.out]; exact hg5)
      have HT5 : Hid ((Value.slice r6 (k + 1) d6).ownBlock = (Value.slice r k d).ownBlock ∨ (Value.slice r6 (k + 1) d6).ownBlock = some (wk2.heap.size + 1)) := Hid.mk (ht5.imp id (fun h => h.trans (by rw [HVE.out]; simp)))
      have HO5 := Hid.mk ho5
      have hoff : Off (fun b => (Value.slice r k d).ownBlock = some b) vk3 wk4 := Off.grown hg5 (fun _ hk => hk)
      have s0' := hoff.cell ((HBk3.cell zlY).trans s0) (fun e => by have := HLO.out _ e; simp only at this; omega)
      have s1' := hoff.cell ((HBk3.cell zlY).trans s1) (fun e => by have := HLO.out _ e; simp only at this; omega)
      have s2' := hoff.cell ((HBk3.cell zlY).trans s2) (fun e => by have := HLO.out _ e; simp only at this; omega)
      have hB2 : Below wY.heap.size wY wk2 := bVY.out.trans (HBk2.mono (by omega))
      obtain ⟨G', hL'⟩ := Laid.told HL.out zloY hB2 (RPrepared.own_mk HR5.out (fun _ h => h)) HO5.out HG5.out (by omega) HT5.out
      have HLN := Hid.mk hL'
      have HBN := Hid.mk (Laid.told_below HL.out HBW.out zloY hB2 HG5.out)
      clear ho5 hg5 ht5 hoff hL' hB2 HBC nw0 nw1 nw2 HVE
      refine hK.out _ _ ?_ (fun hHeld' => ?_)
      · (try dsimp only)
        exact ⟨s0', s1', s2'⟩
      clear hK K hHeld
      have hHeld := hHeld'
      clear hHeld'
      (try simp only [Act.put, List.setIfInBounds_toArray, List.set_cons_zero, List.set_cons_succ])
      refine tk 12 ?_
      refine wpAnyH_done (by kernel_rfl) ?_ _
      rw [← HTK.out] at HLN
      go_wp2
      go_roundw
      case rel => exact ⟨k + 1, r6, d6, _, G', by omega, by go_num, rfl, HLN.out, HBN.out⟩
      case measure => simp [intOf]; omega
    · have hkn : n3 = k := by omega
      have hki : ¬ (k : Int) < (n3 : Int) := by omega
      have htk : ps.take k = ps := List.take_of_length_le (by have := H3.out; omega)
      rw [htk] at hL
      have HLL := Hid.mk hL
      have HK3 : Hid (n3 = k) := Hid.mk hkn
      have b0 := blk_below b0 hbw
      have b1 := blk_below b1 hbw
      have HBY := Hid.mk (HBX3.out.trans (hbw.mono HBX3.out.size))
      have HO0 := Hid.mk (owns_below HO0.out hbw)
      have HO2 := Hid.mk (owns_below HO2.out hbw)
      have HO4 := Hid.mk (owns_below HO4.out hbw)
      clear hkn hL htk hbw u3
      obtain ⟨X5, hX5⟩ : ∃ u, u = wY.setCell ⟨w.heap.size, 3, none⟩ (.slice r k d) := ⟨_, rfl⟩
      have k0 : X5.heap[w.heap.size]? = some (.cells #[.slice r0 n0 d0, .int .i64 t, .slice r2 n2 d2, .slice r k d, .slice r4 n4 d4, .int .i64 la, .int .i64 up] 29 (0, 0)) := by rw [hX5]; exact blk_set b0 3 _
      have k1 : X5.heap[w.heap.size + 1]? = some (.cells #[.slice none 0 0, .int .i64 0, .slice none 0 0, .slice none 0 0, .slice none 0 0, .int .i64 0, .int .i64 0] 29 (0, 0)) := by rw [hX5]; exact blk_other b1 (by simp) _
      have z5a : X5.heap.size ≤ wY.heap.size := by rw [hX5]; simp [World.setCell]
      have z5b : wY.heap.size ≤ X5.heap.size := by rw [hX5]; simp [World.setCell]
      have B5 : Below w.heap.size w X5 := by rw [hX5]; exact HBY.out.setCell (Nat.le_refl _) _
      have HS5 : Hid (Off (fun b => b = w.heap.size) wY X5) := Hid.mk (by rw [hX5]; exact Off.set (F := fun b => b = w.heap.size) (a := ⟨w.heap.size, 3, none⟩) rfl _)
      have q3 := blk_cell b0 3 (v := .slice a3 n3 c3) rfl
      have f3 := blk_frozen b0 3
      go_upto_region 11 with fail
      rw [← hX5]
      clear hX5 q3 f3 b0 b1
      have p0 := blk_cell k0 0 (v := .slice r0 n0 d0) rfl
      have p1 := blk_cell k0 1 (v := .int .i64 t) rfl
      have p2 := blk_cell k0 2 (v := .slice r2 n2 d2) rfl
      have p3 := blk_cell k0 3 (v := .slice r k d) rfl
      have p4 := blk_cell k0 4 (v := .slice r4 n4 d4) rfl
      have p5 := blk_cell k0 5 (v := .int .i64 la) rfl
      have p6 := blk_cell k0 6 (v := .int .i64 up) rfl
      have y0 := blk_cell k1 0 (v := .slice none 0 0) rfl
      have y1 := blk_cell k1 1 (v := .int .i64 0) rfl
      have y2 := blk_cell k1 2 (v := .slice none 0 0) rfl
      have y3 := blk_cell k1 3 (v := .slice none 0 0) rfl
      have y4 := blk_cell k1 4 (v := .slice none 0 0) rfl
      have y5 := blk_cell k1 5 (v := .int .i64 0) rfl
      have y6 := blk_cell k1 6 (v := .int .i64 0) rfl
      have fz0 := blk_frozen k1 0
      have fz1 := blk_frozen k1 1
      have fz2 := blk_frozen k1 2
      have fz3 := blk_frozen k1 3
      have fz4 := blk_frozen k1 4
      have fz5 := blk_frozen k1 5
      have fz6 := blk_frozen k1 6
      obtain ⟨Y, hY⟩ : ∃ u, u = stores X5 (w.heap.size + 1) 0 [.slice r0 n0 d0, .int .i64 t, .slice r2 n2 d2, .slice r k d, .slice r4 n4 d4, .int .i64 la, .int .i64 up] := ⟨_, rfl⟩
      have S : Off (fun b => b = w.heap.size + 1) X5 Y := by rw [hY]; exact stores_off (F := fun b => b = w.heap.size + 1) _ _ _ _ rfl
      have zY : Y.heap.size = X5.heap.size := by rw [hY]; exact stores_size _ _ _ _
      have D : Below w.heap.size w Y := by rw [hY]; exact stores_below _ _ _ _ B5 (by omega)
      have S2 : Off (fun b => b = w.heap.size ∨ b = w.heap.size + 1) wY Y := (HS5.out.mono (fun b h => .inl h)).trans (S.mono (fun b h => .inr h))
      have R : Hid (CpRet (.returned (.agg #[.slice r0 n0 d0, .int .i64 t, .slice r2 n2 d2, .slice r k d, .slice r4 n4 d4, .int .i64 la, .int .i64 up])) w Y (src, t, pd, ps, ou, la, up)) := Hid.mk (by
        have hs0 := RInts.ownOff (F := From W.heap.size w1.heap.size) (RInts.own_iff.2 ⟨H0.out, by omega, owns_mono HO0.out (Nat.zero_le _), HF0.out⟩) S2 (fun b h e => by have h1 := h.1; rcases e with e | e <;> omega)
        have hs2 := RInts.ownOff (F := From X1.heap.size w2.heap.size) (RInts.own_iff.2 ⟨H2.out, by omega, owns_mono HO2.out (Nat.zero_le _), HF2.out⟩) S2 (fun b h e => by have h1 := h.1; rcases e with e | e <;> omega)
        have hs4 := RInts.ownOff (F := From X2.heap.size w3.heap.size) (RInts.own_iff.2 ⟨H4.out, by omega, owns_mono HO4.out (Nat.zero_le _), HF4.out⟩) S2 (fun b h e => by have h1 := h.1; rcases e with e | e <;> omega)
        have hs3 : RPrepareds.Own Y (From X3.heap.size Y.heap.size) [.slice r k d] ps := ⟨r, k, d, cells, G, rfl, (HLL.out.frame (fun b h hb => S2.block b hb (fun e => by have h1 := h.1; rcases e with e | e <;> omega))).mono (fun b h => ⟨h.1, by have := h.2; omega⟩)⟩
        exact ⟨r0, n0, d0, r2, n2, d2, r, k, d, r4, n4, d4, rfl, RSink.own_mk hs0 hs2 hs3 hs4 (fun b h => ⟨by have := h.1; omega, by have := h.2; omega⟩) (fun b h => ⟨by have := h.1; omega, by have := h.2; omega⟩) (fun b h => ⟨by have := h.1; omega, by have := h.2; omega⟩) (fun b h => ⟨by have := h.1; omega, by have := h.2; omega⟩)
          (fun b h k => by have := h.2; have := k.1; omega) (fun b h k => by have := h.2; have := k.1; omega) (fun b h k => by have := h.2; have := k.1; omega) (fun b h k => by have := h.2; have := k.1; omega) (fun b h k => by have := h.2; have := k.1; omega) (fun b h k => by have := h.1; have := k.2; omega), D⟩)
      clear D S2
      have HY := Hid.mk hY
      clear S hY zY HLL HO0 HO2 HO4 k0 k1
      go_wp2
      refine bodyPost_ret (v := .agg #[.slice r0 n0 d0, .int .i64 t, .slice r2 n2 d2, .slice r k d, .slice r4 n4 d4, .int .i64 la, .int .i64 up]) (by simp [results, Try.results27, go_sem, y0, y1, y2, y3, y4, y5, y6]) rfl ?_
      have h := R.out
      rw [HY.out] at h
      exact h

end Go.Proofs.Ytmbjmmnodcebbaa

/- The model's l16Step at whatever kind, and where what it tells lies. -/
namespace Go.Proofs.Ytmbjmmnodcebbaa
open Go.RowKit

/-- What can be read in every world that has these blocks as this one does. -/
def AtF (w : World) (F : Nat → Prop) (cs : List Value) (x : TSink) : Prop := ∀ u : World, (∀ b, F b → b < w.heap.size → u.heap[b]? = w.heap[b]?) → RSink.At u cs x
theorem AtF.of {w : World} {F : Nat → Prop} {cs : List Value} {x : TSink} (h : RSink.Own w F cs x) : AtF w F cs x := fun _ hu => RSink.toAt (RSink.frame h hu)
theorem AtF.mono {w : World} {F F' : Nat → Prop} {cs : List Value} {x : TSink} (h : AtF w F cs x) (hF : ∀ b, F b → F' b) : AtF w F' cs x := fun u hu => h u (fun b hb => hu b (hF b hb))
theorem AtF.frame {w w' : World} {F : Nat → Prop} {cs : List Value} {x : TSink} (h : AtF w F cs x) (hw : ∀ b, F b → b < w.heap.size → w'.heap[b]? = w.heap[b]?) (hz : w.heap.size ≤ w'.heap.size) : AtF w' F cs x :=
  fun u hu => h u (fun b hb hl => (hu b hb (by omega)).trans (hw b hb hl))
theorem AtF.toAt {w : World} {F : Nat → Prop} {cs : List Value} {x : TSink} (h : AtF w F cs x) : RSink.At w cs x := h w (fun _ _ _ => rfl)
def LRetF (e : Ending) (w w' : World) (F : Nat → Prop) (ok : Bool) (x : TSink) : Prop :=
  ∃ r0 m0 d0 r2 m2 d2 r3 m3 d3 r4 m4 d4, e = .returned (.tuple #[.agg #[.slice r0 m0 d0, .int .i64 x.2.1, .slice r2 m2 d2, .slice r3 m3 d3, .slice r4 m4 d4, .int .i64 x.2.2.2.2.2.1, .int .i64 x.2.2.2.2.2.2], .bool ok]) ∧
    AtF w' (Gr F w w') [.slice r0 m0 d0, .int .i64 x.2.1, .slice r2 m2 d2, .slice r3 m3 d3, .slice r4 m4 d4, .int .i64 x.2.2.2.2.2.1, .int .i64 x.2.2.2.2.2.2] x ∧ Off F w w'
theorem KRet.lretF {e : Ending} {w w' : World} {F : Nat → Prop} {ok : Bool} {x : TSink} (h : KRet e w w' F ok x) : LRetF e w w' F ok x := by
  obtain ⟨r0, m0, d0, r2, m2, d2, r3, m3, d3, r4, m4, d4, h1, h2, h3⟩ := h
  exact ⟨r0, m0, d0, r2, m2, d2, r3, m3, d3, r4, m4, d4, h1, AtF.of h2, h3⟩

theorem l16StepF_any (F : Nat → Prop) (a0 : Option Addr) (n0 c0 : Nat) (a2 : Option Addr) (n2 c2 : Nat) (a3 : Option Addr) (n3 c3 : Nat) (a4 : Option Addr) (n4 c4 : Nat) (t la up k : Int) (src pd : List Int) (ps : List TPrepared) (ou : List Int) (w : World) (hF : ∀ b, F b → b < w.heap.size) (hd : DP (src, t, pd, ps, ou, la, up))
    (ho : RSink.Own w F [.slice a0 n0 c0, .int .i64 t, .slice a2 n2 c2, .slice a3 n3 c3, .slice a4 n4 c4, .int .i64 la, .int .i64 up] (src, t, pd, ps, ou, la, up)) :
    Calls Try.prog 26 #[.agg #[.slice a0 n0 c0, .int .i64 t, .slice a2 n2 c2, .slice a3 n3 c3, .slice a4 n4 c4, .int .i64 la, .int .i64 up], .int .i64 k] w fun e w' => LRetF e w w' F (stK (src, t, pd, ps, ou, la, up) k).2 (stK (src, t, pd, ps, ou, la, up) k).1 := by
  obtain ⟨⟨h1, h2, h3, h4⟩, hn3, hrw, hol, hl0, hl1⟩ := hd
  simp only at h1 h2 h3 h4 hn3 hrw hol hl0 hl1
  have hz0 := (RSink.lens ho).1
  have hz2 := (RSink.lens ho).2.2.1
  have hz3 := (RSink.lens ho).2.2.2.2.1
  have hz4 := (RSink.lens ho).2.2.2.2.2.2.1
  unfold stK
  by_cases k1 : k = 1
  · subst k1
    rw [if_pos rfl]
    unfold rdK
    simp only
    by_cases e : t = src.length
    · rw [if_pos e]
      exact (step1_no F a0 n0 c0 a2 n2 c2 a3 n3 c3 a4 n4 c4 t la up src pd ps ou w (by omega) ho).mono (fun e w' h => h.1.lretF)
    · rw [if_neg e]
      obtain ⟨T, rfl⟩ : ∃ T : Nat, t = T := ⟨t.toNat, by omega⟩
      obtain ⟨x, hx⟩ : ∃ x, src[T]? = some x := ⟨_, List.getElem?_eq_getElem (by omega)⟩
      have hg : src.getD (T : Int).toNat 0 = x := by
        rw [Int.toNat_natCast]; simp [List.getD, hx]
      rw [hg]
      exact (step1_yes F a0 n0 c0 a2 n2 c2 a3 n3 c3 a4 n4 c4 T la up src pd ps ou x w hF hx (by omega) (by omega) ho).mono (fun e w' h => h.lretF)
  rw [if_neg k1]
  by_cases k2 : k = 2
  · subst k2
    rw [if_pos rfl]
    unfold prK
    simp only
    rw [hz2, hz3]
    by_cases h : n2 = 0 ∨ n3 = 4 ∨ 1000 < la + (n3 : Int) + 1
    · rw [if_pos h]
      exact (step2_no F a0 n0 c0 a2 n2 c2 a3 n3 c3 a4 n4 c4 t la up src pd ps ou w h (by omega) hl0 hl1 ho).mono (fun e w' h => h.1.lretF)
    · rw [if_neg h]
      exact (step2_yes F a0 n0 c0 a2 n2 c2 a3 n3 c3 a4 n4 c4 t la up src pd ps ou w hF (by omega) (by omega) hl0 (by omega) ho).mono (fun e w' h => h.lretF)
  rw [if_neg k2]
  by_cases k3 : k = 3
  · subst k3
    rw [if_pos rfl]
    cases ps with
    | nil =>
      obtain rfl : 0 = n3 := hz3
      refine (step3_no a0 n0 c0 a2 n2 c2 a3 c3 a4 n4 c4 t la up w).mono ?_
      rintro e w' ⟨h, hb⟩
      exact ⟨a0, n0, c0, a2, n2, c2, a3, 0, c3, a4, n4, c4, h, AtF.mono (AtF.of (RSink.ownBelow ho hb)) (fun b h => .inl h), Off.below hb⟩
    | cons p ps =>
      obtain ⟨no, ut, rw0⟩ := p
      obtain ⟨_, _, F3, _, _, _, ⟨a, n, c, cells, G, hcs, hL⟩, _⟩ := RSink.own_iff ho
      simp only [List.cons.injEq, Value.slice.injEq, and_true] at hcs
      obtain ⟨rfl, rfl, rfl⟩ := hcs
      have hcap := ownCap hL.outer
      obtain ⟨g, rfl⟩ : ∃ g, a3 = some ⟨g, 0, none⟩ := by
        rcases hL.outer.2 with ⟨_, h0⟩ | ⟨g, cap, cur, hv, _⟩
        · rw [← hz3] at h0; simp at h0
        · simp only [Value.slice.injEq, true_and] at hv
          exact ⟨g, hv.1⟩
      obtain rfl : ps.length + 1 = n3 := by simpa using hz3
      have hr := hrw (no, ut, rw0) (by simp)
      simp only at hr
      have q := step3_yes F a0 n0 c0 a2 n2 c2 g 0 ps.length c3 (ps.length + 1) c3 a4 n4 c4 t la up src pd no ut rw0 ((no, ut, rw0) :: ps) ou w hF rfl (by omega) (by omega) (by omega) (by omega) (by omega) ho
      simp only [Nat.zero_mul] at q
      refine q.mono ?_
      rintro e w' ⟨r, l, d, o, h, hom, hown, hoff⟩
      refine ⟨a0, n0, c0, a2, n2, c2, some ⟨g, o, none⟩, ps.length, c3 - 1, r, l, d, h, ?_, hoff⟩
      intro u hu
      have hat := RSink.at_iff (RSink.toAt (RSink.frame hown hu))
      refine RSink.at_mk (RInts.at_iff.2 hat.1) (RInts.at_iff.2 hat.2.1) ⟨_, _, _, rfl, rfl, by omega, ?_, fun h => (by cases h)⟩ (RInts.at_iff.2 hat.2.2.2)
      by_cases hm : 0 < ps.length
      · have ho3 : o = 3 := by have := hom hm; omega
        rw [ho3]
        exact atSl_tail hat.2.2.1.2.2.1
      · exact .inl (List.length_eq_zero_iff.1 (by omega))
  rw [if_neg k3]
  by_cases k4 : k = 4
  · subst k4
    rw [if_pos rfl]
    exact (step4_any F a0 n0 c0 a2 n2 c2 a3 n3 c3 a4 n4 c4 t la up src pd ps ou w hF ho).mono (fun e w' h => h.lretF)
  rw [if_neg k4]
  by_cases k5 : k = 5
  · subst k5
    rw [if_pos rfl]
    simp only
    rw [hz3]
    by_cases h : n3 < 2
    · rw [if_pos h]
      exact (step5_no F a0 n0 c0 a2 n2 c2 a3 n3 c3 a4 n4 c4 t la up src pd ps ou w h ho).mono (fun e w' h => h.1.lretF)
    · rw [if_neg h]
      exact (step5_yes F a0 n0 c0 a2 n2 c2 a3 n3 c3 a4 n4 c4 t la up src pd ps ou w hF (by omega) (by omega) ho).mono (fun e w' h => h.lretF)
  rw [if_neg k5]
  exact (step9_no F a0 n0 c0 a2 n2 c2 a3 n3 c3 a4 n4 c4 t la up src pd ps ou k w ⟨k1, k2, k3, k4, k5⟩ ho).mono (fun e w' h => h.1.lretF)

end Go.Proofs.Ytmbjmmnodcebbaa
