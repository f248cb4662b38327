/- Contract of spec.l10Own. -/
import Derived.Test.YtociphdhkjoofaaM21
namespace Go.Proofs.Ytociphdhkjoofaa
open Go.RowKit

theorem vals_of {w : World} {ao : Option Addr} {zs : List Int} (hat : At w ao zs) : ∀ ad, ao = some ad → ∀ (j : Nat) (u : Value), (zs.map (Value.int .i64))[j]? = some u → w.cell? (ad.add j) = some u := by
  intro ad he j u hj
  have hjl : j < zs.length := by
    have := (List.getElem?_eq_some_iff.1 hj).1
    simpa using this
  obtain ⟨b, off, he2, _, hc⟩ := At.some hat (by omega)
  rw [he] at he2
  simp only [Option.some.injEq] at he2
  subst he2
  rw [Addr.add_lit, hc j hjl]
  simpa [List.getD, hjl] using hj
theorem ones_of (zs : List Int) : ∀ u ∈ zs.map (Value.int .i64), u.oneCell' = true := fun u hu => by
  obtain ⟨y, _, rfl⟩ := List.mem_map.1 hu
  rfl
theorem nil_of {w : World} {ao : Option Addr} {n c : Nat} {zs : List Int} (hat : At w ao zs) (hz : zs.length = n) (hF : ao = none → c = 0) : ao = none → c = 0 ∧ n = 0 := fun e => by
  refine ⟨hF e, ?_⟩
  rw [← hz]
  rcases hat with h | ⟨b, off, h, _⟩
  · rw [h]; rfl
  · rw [e] at h; cases h

set_option maxRecDepth 100000 in
set_option maxHeartbeats 4000000 in
theorem l10Own_any (fa : Option Addr) (fn fc : Nat) (hs : List Int) (ta : Option Addr) (tn tc : Nat) (zs : List Atm) (w : World) (hfz : hs.length = fn) (hfn : fn ≤ 1048576) (hfF : fa = none → fc = 0) (hfa : At w fa hs) (hz : zs.length = tn) (htn : tn ≤ 1048576) (hsm : ∀ x ∈ zs, x.2.length ≤ 1048576) (ha : AtQ w ta zs) :
    Calls Try.prog 31 #[.agg #[.slice fa fn fc, .slice ta tn tc]] w fun e w' => ∃ r d r' d', e = .returned (.agg #[.slice r fn d, .slice r' tn d']) ∧ RQry.Own w' (From w.heap.size w'.heap.size) [.slice r fn d, .slice r' tn d'] (hs, zs) ∧ Below w.heap.size w w' := by
  obtain ⟨j0, hj0, hy0, hy1, hy2⟩ := info_parts Try.infoAtom2
  obtain ⟨W, hW⟩ : ∃ W, W = (w.alloc (.cells #[.slice fa fn fc, .slice ta tn tc] 29)).alloc (.cells #[.slice none 0 0, .slice none 0 0] 29) := ⟨_, rfl⟩
  have zW : W.heap.size = w.heap.size + 1 + 1 := by rw [hW]; simp
  have B0 : Below w.heap.size w W := by rw [hW]; exact ((Below.refl _ _).alloc (Nat.le_refl _) _).alloc (by simp) _
  have a0 : W.heap[w.heap.size]? = some (.cells #[.slice fa fn fc, .slice ta tn tc] 29 (0, 0)) := by rw [hW]; exact blk_alloc (heap_alloc_new w _) _
  have a1 : W.heap[w.heap.size + 1]? = some (.cells #[.slice none 0 0, .slice none 0 0] 29 (0, 0)) := by
    rw [hW]
    have q := heap_alloc_new (w.alloc (.cells #[.slice fa fn fc, .slice ta tn tc] 29)) (.cells #[.slice none 0 0, .slice none 0 0] 29)
    simpa only [World.size_alloc] using q
  have q0 : W.cell? ⟨w.heap.size, 0, none⟩ = some (.slice fa fn fc) := blk_cell a0 0 rfl
  obtain ⟨i0, hi0, hx0, hx1, hx2⟩ := info_parts Try.infoInt
  obtain ⟨L0, hL0⟩ : ∃ L, hs.map (Value.int .i64) = L := ⟨_, rfl⟩
  have HF1 : Hid (L0.length = fn * 1) := Hid.mk (by rw [← hL0, List.length_map, hfz]; omega)
  have HF2 : Hid (∀ ad, fa = some ad → ∀ (j : Nat) (u : Value), L0[j]? = some u → (W.alloc (.cells #[] 3)).cell? (ad.add j) = some u) := Hid.mk (by rw [← hL0]; exact vals_of ((At.below hfa B0).alloc _))
  have HF3 : Hid (∀ u ∈ L0, u.oneCell' = true) := Hid.mk (by rw [← hL0]; exact ones_of _)
  have HF4 := Hid.mk (nil_of hfa hfz hfF)
  have HL0 := Hid.mk hL0
  have OE := Hid.mk (own_void W 3 1)
  have q0' : (W.alloc (.cells #[] 3)).cell? ⟨w.heap.size, 0, none⟩ = some (.slice fa fn fc) := cell_later ((Below.refl _ _).alloc (Nat.le_refl _) _) q0
  clear hL0
  have HA := Hid.mk (AtSl.below ha B0)
  have HZ := Hid.mk hz
  have HSM := Hid.mk hsm
  have HFZ := Hid.mk hfz
  have HZW := Hid.mk zW
  have HA0 := Hid.mk a0
  have HA1 := Hid.mk a1
  have HB0 := Hid.mk B0
  have zlW : w.heap.size + 1 < W.heap.size := by omega
  clear hfa ha hz hsm hfz hfF zW a0 a1 B0
  go_enter Try.func31, Try.ntmps31
  go_upto_region 1 with fail
  rw [← hW]
  clear hW
  go_wp2_with (at_builtin; refine wpList_app_vals rfl (.tmp 6) (.tmp 8) 22 rfl W.heap.size 3 i0 (.int .i64 0) 1 8 Try.underlying22 hi0 hx0 hx1 hx2 rfl (by decide) (.slice (some ⟨W.heap.size, 0, none⟩) 0 0) 0 [] rfl OE.out fa fn fc L0 rfl HF1.out HF2.out HF3.out HF4.out (by unfold maxLen; omega) (by omega) (by simp) ?_)
  intro r d w1 ho1' hg1 ht1
  have hb1 : Below W.heap.size W w1 := ((Below.refl _ _).alloc (Nat.le_refl _) _).grown hg1 (by simp) (fun j hj => by simp [Value.ownBlock] at hj; omega)
  have ho1 : w1.ownsRow W.heap.size 3 1 (.slice r fn d) fn (hs.map (.int .i64)) := by rw [HL0.out]; simpa using ho1'
  (try simp only [Nat.zero_add])
  clear ho1' hg1 ht1 OE HF2 q0'
  obtain ⟨P, hP⟩ : ∃ P, w1.heap.size = P := ⟨_, rfl⟩
  obtain ⟨V, hV⟩ : ∃ V, V = w1.alloc (.cells #[.slice r fn d, .slice none 0 0] 29) := ⟨_, rfl⟩
  have hQ0 : QVar V P (P + 1) (.slice r fn d) none 0 0 (zs.take 0) [] (fun _ _ => False) := by rw [hV, ← hP]; exact QVar.new w1 _
  have hbV : Below w1.heap.size w1 V := by rw [hV]; exact (Below.refl _ _).alloc (Nat.le_refl _) _
  have zV : V.heap.size = P + 1 := by rw [hV, ← hP]; simp
  have HO1 : Hid (V.ownsRow W.heap.size 3 1 (.slice r fn d) fn (hs.map (.int .i64))) := Hid.mk (owns_below ho1 hbV)
  have hWP : W.heap.size ≤ P := by rw [← hP]; exact hb1.size
  have hlt1 : ∀ b, (Value.slice r fn d).ownBlock = some b → b < P := fun b hb => by rw [← hP]; exact (ho1.lt b hb).2
  have HLT1 := Hid.mk hlt1
  have HBV : Hid (Below W.heap.size W V) := Hid.mk (hb1.trans (hbV.mono hb1.size))
  have v1 : V.cell? ⟨w.heap.size, 1, none⟩ = some (.slice ta tn tc) := (HBV.out.cell (show w.heap.size < W.heap.size by omega)).trans (blk_cell HA0.out 1 rfl)
  have HQ0 := Hid.mk hQ0
  have hPV : P < V.heap.size := by omega
  have HZV := Hid.mk zV
  clear hQ0 hbV ho1 hb1 hlt1 q0 zV
  go_upto_region 2 with fail
  rw [← hV]
  clear hV
  (try rw [hP])
  clear hP
  go_wp2_with fail
  go_loopw [14] (fun i wr => ∃ (k : Nat) (r' : Option Addr) (d' : Nat) (cells : List Value) (G : Nat → Nat → Prop), k ≤ tn ∧ i = .int .i64 k ∧ QVar wr P (P + 1) (.slice r fn d) r' k d' (zs.take k) cells G ∧ Below P V wr) (fun i _ => tn - (intOf i).toNat)
  case atStart => exact ⟨0, none, 0, [], _, Nat.zero_le _, rfl, HQ0.out, Below.refl _ _⟩
  case round =>
    clear HQ0
    obtain ⟨k, r', d', cells, G, hk, rfl, hQ, hbw⟩ := hrel
    obtain ⟨wY, rfl⟩ : ∃ x, x = wr := ⟨_, rfl⟩
    have zY : P + 1 ≤ wY.heap.size := by have := hbw.size; have := HZV.out; omega
    have HBW : Hid (Below W.heap.size W wY) := Hid.mk (HBV.out.trans (hbw.mono hWP))
    by_cases hlt : k < tn
    · obtain ⟨⟨p, ys⟩, hy⟩ : ∃ x, zs[k]? = some x := ⟨_, List.getElem?_eq_getElem (by have := HZ.out; omega)⟩
      obtain ⟨b, off, rfl, _, hc⟩ := AtQ.row (AtSl.below HA.out HBW.out) (by have := HZ.out; omega)
      obtain ⟨va, vn, vc, c0, c1, u1, u2, u3, u4⟩ := hc k _ hy
      have hsm := HSM.out _ (List.mem_of_getElem? hy)
      simp only at c0 c1 u1 u3 hsm
      have hvn : vn ≤ 1048576 := by omega
      have hki : (k : Int) < (tn : Int) := by omega
      obtain ⟨U, hU⟩ : ∃ U, U = wY.alloc (.cells #[.int .i64 p, .slice va vn vc] 58) := ⟨_, rfl⟩
      have hbU : Below wY.heap.size wY U := by rw [hU]; exact (Below.refl _ _).alloc (Nat.le_refl _) _
      have zU : wY.heap.size < U.heap.size := by rw [hU]; simp
      have s0 : U.cell? ⟨wY.heap.size, 0, none⟩ = some (.int .i64 p) := by rw [hU]; simp
      have s1 : U.cell? ⟨wY.heap.size, 1, none⟩ = some (.slice va vn vc) := by rw [hU]; simp
      have HQ := Hid.mk (hQ.below hbU)
      have HBU : Hid (Below P V U) := Hid.mk (hbw.trans (hbU.mono (by omega)))
      have HTK := Hid.mk (take_snocQ hy)
      have hYP : wY.heap.size ≠ P := by omega
      have HQL : Hid (∀ b, (Value.slice r' k d').ownBlock = some b → P + 1 ≤ b ∧ b < wY.heap.size) := Hid.mk (fun b hb => hQ.owns.lt b hb)
      obtain ⟨LY, hLY⟩ : ∃ L, ys.map (Value.int .i64) = L := ⟨_, rfl⟩
      have HY1 : Hid (LY.length = vn * 1) := Hid.mk (by rw [← hLY, List.length_map, u1]; omega)
      have HY2 : Hid (∀ w', Below U.heap.size U w' → ∀ ad, va = some ad → ∀ (j : Nat) (u : Value), LY[j]? = some u → w'.cell? (ad.add j) = some u) := Hid.mk (fun w' h => by rw [← hLY]; exact vals_of (At.below (At.below u3 hbU) h))
      have HY3 : Hid (∀ u ∈ LY, u.oneCell' = true) := Hid.mk (by rw [← hLY]; exact ones_of _)
      have HY4 := Hid.mk (nil_of u3 u1 u4)
      have HLY := Hid.mk hLY
      clear hLY
      have HYN := Hid.mk u1
      clear hc hy hsm hQ hbw hbU u1 u3 u4
      go_upto_region 5 with fail
      rw [← hU]
      clear hU c0 c1
      have zlt : wY.heap.size < U.heap.size := zU
      have hQO : U.ownsRow (P + 1) 58 2 (.slice r' k d') k cells := HQ.out.owns
      have HQO := Hid.mk hQO
      have pb := HQ.out.blk
      clear hQO
      refine wp_region_held_drew (S := fun w' => w'.cell? ⟨wY.heap.size, 0, none⟩ = some (.int .i64 p) ∧ w'.cell? ⟨wY.heap.size, 1, none⟩ = some (.slice va vn vc)) (by kernel_rfl) ?_ (fun hHeld => ?_)
      · (try dsimp only)
        exact ⟨s0, s1⟩
      refine tk 0 ?_
      refine tk 2 ?_
      refine tk 3 ?_
      refine tk 5 ?_
      refine tk 6 ?_
      obtain ⟨u0, hu0⟩ : ∃ u, u = U.drew := ⟨_, rfl⟩
      have Y0 : Below U.heap.size U u0 := by rw [hu0]; exact (Below.refl _ _).drew
      rw [← hu0]
      have s0 : u0.cell? ⟨wY.heap.size, 0, none⟩ = some (.int .i64 p) := by rw [hu0]; exact s0
      have s1 : u0.cell? ⟨wY.heap.size, 1, none⟩ = some (.slice va vn vc) := by rw [hu0]; exact s1
      have pb : u0.heap[P]? = some (.cells #[.slice r fn d, .slice r' k d'] 29 (0, 0)) := by rw [hu0]; exact pb
      have HQO := Hid.mk (owns_below HQO.out Y0)
      clear hu0
      have qs1 := blk_cell (v := .slice r' k d') pb 1 rfl
      refine wpAnyH_ready (rs := [1, 4]) (by kernel_rfl) (by simp) ?_
      refine AllReadyH.cons (o := ?_) ?_ (fun K hK => ?_) ?_
      rotate_left
      · (simp only [List.getElem?_toArray, List.getElem?_cons_zero, List.getElem?_cons_succ]; rfl)
      · go_simp
        (try go_wp2_with fail)
        refine hK.out _ _ ?_ (fun hHeld' => ?_)
        · (try dsimp only)
          exact ⟨s0, s1⟩
        clear hK K hHeld
        have hHeld := hHeld'
        clear hHeld'
        (try simp only [Act.put, List.setIfInBounds_toArray, List.set_cons_zero, List.set_cons_succ])
        refine wpAnyH_ready (rs := [4]) (by kernel_rfl) (by simp) ?_
        refine AllReadyH.cons (o := ?_) ?_ (fun K hK => ?_) AllReadyH.nil
        rotate_left
        · (simp only [List.getElem?_toArray, List.getElem?_cons_zero, List.getElem?_cons_succ]; rfl)
        go_simp
        (try go_wp2_with fail)
        refine hK.out _ _ ?_ (fun hHeld' => ?_)
        · (try dsimp only)
          exact ⟨cell_later ((Below.refl _ _).alloc (Nat.le_refl _) _) s0, cell_later ((Below.refl _ _).alloc (Nat.le_refl _) _) s1⟩
        clear hK K hHeld
        have hHeld := hHeld'
        clear hHeld'
        (try simp only [Act.put, List.setIfInBounds_toArray, List.set_cons_zero, List.set_cons_succ])
        obtain ⟨vk2, hv2⟩ : ∃ u, u = u0.alloc (.cells #[] 3) := ⟨_, rfl⟩
        have hbk2 : Below u0.heap.size u0 vk2 := by rw [hv2]; exact (Below.refl _ _).alloc (Nat.le_refl _) _
        have HBk2 : Below U.heap.size U vk2 := Y0.trans (hbk2.mono Y0.size)
        have s0 := cell_later hbk2 s0
        have s1 := cell_later hbk2 s1
        have pb := blk_below pb hbk2
        have HQO := Hid.mk (owns_below HQO.out hbk2)
        have HOE := Hid.mk (own_void u0 3 1)
        rw [← hv2] at HOE
        have zE : U.heap.size ≤ u0.heap.size := Y0.size
        rw [← hv2]
        clear hv2
        refine wpAnyH_ready (rs := [7]) (by kernel_rfl) (by simp) ?_
        refine AllReadyH.cons (o := ?_) ?_ (fun K hK => ?_) AllReadyH.nil
        rotate_left
        · (simp only [List.getElem?_toArray, List.getElem?_cons_zero, List.getElem?_cons_succ]; rfl)
        refine step_append_vals rfl (.tmp 22) (.tmp 24) 22 rfl u0.heap.size 3 i0 (.int .i64 0) 1 8 Try.underlying22 hi0 hx0 hx1 hx2 rfl (by decide) (.slice (some ⟨u0.heap.size, 0, none⟩) 0 0) 0 [] (by simp [Act.eval]) (HOE.out) va vn vc LY (by simp [Act.eval]) HY1.out (HY2.out vk2 HBk2) HY3.out HY4.out (by unfold maxLen; omega) (by omega) (Nat.le_of_lt (HOE.out.lt _ rfl).2) (fun r3 d3 wk3 ho3 hg3 ht3 => ?_)
        simp only [Nat.zero_add, List.nil_append] at ho3 ht3 ⊢
        have HBk3 : Below U.heap.size U wk3 := HBk2.grown hg3 HBk2.size (fun j hj => by simp [Value.ownBlock] at hj; omega)
        have hoff : Off (fun b => b = u0.heap.size) vk2 wk3 := Off.grown hg3 (fun _ hk => by simp [Value.ownBlock] at hk; exact hk.symm)
        have s0 := hoff.cell s0 (show ¬ wY.heap.size = u0.heap.size by omega)
        have s1 := hoff.cell s1 (show ¬ wY.heap.size = u0.heap.size by omega)
        have pb := (hoff.block P (by have := HBk2.size; omega) (by omega)).trans pb
        have HQO := Hid.mk (ownsRow_frame HQO.out (fun b hb hl => hoff.block b hl (by have := (HQL.out b hb).2; omega)))
        have HOC := Hid.mk (RInts.mono (F' := From U.heap.size wk3.heap.size) (RInts.of_owns HYN.out (by omega) (by rw [HLY.out]; exact ho3)) (fun b h => ⟨Nat.le_trans zE h.1, h.2⟩))
        have HB4 : Hid (Below U.heap.size U wk3) := Hid.mk HBk3
        clear ho3 hg3 ht3 hoff HOE
        refine hK.out _ _ ?_ (fun hHeld' => ?_)
        · (try dsimp only)
          exact ⟨s0, s1⟩
        clear hK K hHeld
        have hHeld := hHeld'
        clear hHeld'
        (try simp only [Act.put, List.setIfInBounds_toArray, List.set_cons_zero, List.set_cons_succ])
        refine tk 8 ?_
        refine wpAnyH_ready (rs := [9]) (by kernel_rfl) (by simp) ?_
        refine AllReadyH.cons (o := ?_) ?_ (fun K hK => ?_) AllReadyH.nil
        rotate_left
        · (simp only [List.getElem?_toArray, List.getElem?_cons_zero, List.getElem?_cons_succ]; rfl)
        go_simp
        (try go_wp2_with fail)
        refine hK.out _ _ ?_ (fun hHeld' => ?_)
        · (try dsimp only)
          exact ⟨cell_later ((Below.refl _ _).alloc (Nat.le_refl _) _) s0, cell_later ((Below.refl _ _).alloc (Nat.le_refl _) _) s1⟩
        clear hK K hHeld
        have hHeld := hHeld'
        clear hHeld'
        (try simp only [Act.put, List.setIfInBounds_toArray, List.set_cons_zero, List.set_cons_succ])
        obtain ⟨vk4, hv4⟩ : ∃ u, u = wk3.alloc (.cells #[.int .i64 p, .slice r3 vn d3] 58) := ⟨_, rfl⟩
        have hbk4 : Below wk3.heap.size wk3 vk4 := by rw [hv4]; exact (Below.refl _ _).alloc (Nat.le_refl _) _
        have HBk4 : Below U.heap.size U vk4 := HBk3.trans (hbk4.mono HBk3.size)
        have s0 := cell_later hbk4 s0
        have s1 := cell_later hbk4 s1
        have pb := blk_below pb hbk4
        have HQO := Hid.mk (owns_below HQO.out hbk4)
        have nw0 : vk4.cell? ⟨wk3.heap.size, 0, none⟩ = some (.int .i64 p) := by rw [hv4]; simp
        have nw1 : vk4.cell? ⟨wk3.heap.size, 1, none⟩ = some (.slice r3 vn d3) := by rw [hv4]; simp
        have HVE := Hid.mk hv4
        rw [← hv4]
        clear hv4
        refine wpAnyH_ready (rs := [10]) (by kernel_rfl) (by simp) ?_
        refine AllReadyH.cons (o := ?_) ?_ (fun K hK => ?_) AllReadyH.nil
        rotate_left
        · (simp only [List.getElem?_toArray, List.getElem?_cons_zero, List.getElem?_cons_succ]; rfl)
        refine step_append_vals rfl (.tmp 19) (.tmp 27) 27 rfl (P + 1) 58 j0 (.agg #[.int .i64 0, .slice none 0 0]) 2 32 Try.underlying27 hj0 hy0 hy1 hy2 rfl (by decide) (.slice r' k d') k cells (by simp [Act.eval]) (HQO.out) (some ⟨wk3.heap.size, 0, none⟩) 1 1 [.int .i64 p, .slice r3 vn d3] (by simp [Act.eval]) rfl (fun ad he => by cases he; intro j u hu; match j, hu with | 0, hu => (obtain rfl := Option.some.inj hu; exact nw0) | 1, hu => (obtain rfl := Option.some.inj hu; exact nw1)) (by intro u hu; simp at hu; rcases hu with rfl | rfl <;> rfl) (fun h => by cases h) (by unfold maxLen; omega) (by omega) (by have := HBk4.size; omega) (fun r5 d5 wk5 ho5 hg5 ht5 => ?_)
        have HBk5 : Below P V wk5 := (HBU.out.trans (HBk4.mono (by omega))).grown hg5 (by have := HBk4.size; omega) (fun j hj => by have := HQL.out j hj; omega)
        have hoff : Off (fun b => (Value.slice r' k d').ownBlock = some b) vk4 wk5 := Off.grown hg5 (fun _ hk => hk)
        have s0 := hoff.cell s0 (fun e => by have := (HQL.out _ e).2; simp only at this; omega)
        have s1 := hoff.cell s1 (fun e => by have := (HQL.out _ e).2; simp only at this; omega)
        have pb := (hoff.block P (by have := HBk4.size; omega) (fun e => by have := (HQL.out _ e).1; omega)).trans pb
        have HO5 := Hid.mk ho5
        have HG5 : Hid ((wk3.alloc (.cells #[.int .i64 p, .slice r3 vn d3] 58)).grownBy wk5 (Value.slice r' k d').ownBlock) := Hid.mk (by rw [← HVE.out]; exact hg5)
        have HT5 : Hid ((Value.slice r5 (k + 1) d5).ownBlock = (Value.slice r' k d').ownBlock ∨ (Value.slice r5 (k + 1) d5).ownBlock = some (wk3.heap.size + 1)) := Hid.mk (ht5.imp id (fun h => h.trans (by rw [HVE.out]; simp)))
        clear ho5 hg5 ht5 hoff nw0 nw1
        refine hK.out _ _ ?_ (fun hHeld' => ?_)
        · (try dsimp only)
          exact ⟨s0, s1⟩
        clear hK K hHeld
        have hHeld := hHeld'
        clear hHeld'
        (try simp only [Act.put, List.setIfInBounds_toArray, List.set_cons_zero, List.set_cons_succ])
        refine tk 11 ?_
        have qs0 := blk_cell pb 0 rfl
        have qs1 := blk_cell pb 1 rfl
        have fs0 := blk_frozen pb 0
        have fs1 := blk_frozen pb 1
        refine wpAnyH_ready (rs := [12]) (by kernel_rfl) (by simp) ?_
        refine AllReadyH.cons (o := ?_) ?_ (fun K hK => ?_) AllReadyH.nil
        rotate_left
        · (simp only [List.getElem?_toArray, List.getElem?_cons_zero, List.getElem?_cons_succ]; rfl)
        go_simp
        (try go_wp2_with fail)
        refine hK.out _ _ ?_ (fun hHeld' => ?_)
        · (try dsimp only)
          exact ⟨keep_far s0 hYP, keep_far s1 hYP⟩
        clear hK K hHeld
        have hHeld := hHeld'
        clear hHeld'
        (try simp only [Act.put, List.setIfInBounds_toArray, List.set_cons_zero, List.set_cons_succ])
        refine wpAnyH_done (by kernel_rfl) ?_ _
        obtain ⟨G', hQ'⟩ := HQ.out.pushed (by omega) HB4.out HOC.out HO5.out HG5.out HT5.out (by omega)
        rw [← HTK.out] at hQ'
        have HQ' := Hid.mk hQ'
        have HBF : Hid (Below P V (wk5.setCell ⟨P, 1, none⟩ (.slice r5 (k + 1) d5))) := Hid.mk (HBk5.setCell (p := ⟨P, 1, none⟩) (Nat.le_refl _) _)
        clear hQ'
        go_wp2
        go_roundw
        case rel => exact ⟨k + 1, r5, d5, _, G', by omega, by go_num, HQ'.out, HBF.out⟩
        case measure => simp [intOf]; omega
      refine AllReadyH.cons (o := ?_) ?_ (fun K hK => ?_) AllReadyH.nil
      rotate_left
      · (simp only [List.getElem?_toArray, List.getElem?_cons_zero, List.getElem?_cons_succ]; rfl)
      · go_simp
        (try go_wp2_with fail)
        refine hK.out _ _ ?_ (fun hHeld' => ?_)
        · (try dsimp only)
          exact ⟨cell_later ((Below.refl _ _).alloc (Nat.le_refl _) _) s0, cell_later ((Below.refl _ _).alloc (Nat.le_refl _) _) s1⟩
        clear hK K hHeld
        have hHeld := hHeld'
        clear hHeld'
        (try simp only [Act.put, List.setIfInBounds_toArray, List.set_cons_zero, List.set_cons_succ])
        obtain ⟨vk7, hv7⟩ : ∃ u, u = u0.alloc (.cells #[] 3) := ⟨_, rfl⟩
        have hbk7 : Below u0.heap.size u0 vk7 := by rw [hv7]; exact (Below.refl _ _).alloc (Nat.le_refl _) _
        have HBk7 : Below U.heap.size U vk7 := Y0.trans (hbk7.mono Y0.size)
        have s0 := cell_later hbk7 s0
        have s1 := cell_later hbk7 s1
        have pb := blk_below pb hbk7
        have HQO := Hid.mk (owns_below HQO.out hbk7)
        have HOE := Hid.mk (own_void u0 3 1)
        rw [← hv7] at HOE
        have zE : U.heap.size ≤ u0.heap.size := Y0.size
        rw [← hv7]
        clear hv7
        have qs1 := blk_cell (v := .slice r' k d') pb 1 rfl
        refine wpAnyH_ready (rs := [1, 7]) (by kernel_rfl) (by simp) ?_
        refine AllReadyH.cons (o := ?_) ?_ (fun K hK => ?_) ?_
        rotate_left
        · (simp only [List.getElem?_toArray, List.getElem?_cons_zero, List.getElem?_cons_succ]; rfl)
        · go_simp
          (try go_wp2_with fail)
          refine hK.out _ _ ?_ (fun hHeld' => ?_)
          · (try dsimp only)
            exact ⟨s0, s1⟩
          clear hK K hHeld
          have hHeld := hHeld'
          clear hHeld'
          (try simp only [Act.put, List.setIfInBounds_toArray, List.set_cons_zero, List.set_cons_succ])
          refine wpAnyH_ready (rs := [7]) (by kernel_rfl) (by simp) ?_
          refine AllReadyH.cons (o := ?_) ?_ (fun K hK => ?_) AllReadyH.nil
          rotate_left
          · (simp only [List.getElem?_toArray, List.getElem?_cons_zero, List.getElem?_cons_succ]; rfl)
          refine step_append_vals rfl (.tmp 22) (.tmp 24) 22 rfl u0.heap.size 3 i0 (.int .i64 0) 1 8 Try.underlying22 hi0 hx0 hx1 hx2 rfl (by decide) (.slice (some ⟨u0.heap.size, 0, none⟩) 0 0) 0 [] (by simp [Act.eval]) (HOE.out) va vn vc LY (by simp [Act.eval]) HY1.out (HY2.out vk7 HBk7) HY3.out HY4.out (by unfold maxLen; omega) (by omega) (Nat.le_of_lt (HOE.out.lt _ rfl).2) (fun r3 d3 wk9 ho3 hg3 ht3 => ?_)
          simp only [Nat.zero_add, List.nil_append] at ho3 ht3 ⊢
          have HBk9 : Below U.heap.size U wk9 := HBk7.grown hg3 HBk7.size (fun j hj => by simp [Value.ownBlock] at hj; omega)
          have hoff : Off (fun b => b = u0.heap.size) vk7 wk9 := Off.grown hg3 (fun _ hk => by simp [Value.ownBlock] at hk; exact hk.symm)
          have s0 := hoff.cell s0 (show ¬ wY.heap.size = u0.heap.size by omega)
          have s1 := hoff.cell s1 (show ¬ wY.heap.size = u0.heap.size by omega)
          have pb := (hoff.block P (by have := HBk7.size; omega) (by omega)).trans pb
          have HQO := Hid.mk (ownsRow_frame HQO.out (fun b hb hl => hoff.block b hl (by have := (HQL.out b hb).2; omega)))
          have HOC := Hid.mk (RInts.mono (F' := From U.heap.size wk9.heap.size) (RInts.of_owns HYN.out (by omega) (by rw [HLY.out]; exact ho3)) (fun b h => ⟨Nat.le_trans zE h.1, h.2⟩))
          have HB4 : Hid (Below U.heap.size U wk9) := Hid.mk HBk9
          clear ho3 hg3 ht3 hoff HOE
          refine hK.out _ _ ?_ (fun hHeld' => ?_)
          · (try dsimp only)
            exact ⟨s0, s1⟩
          clear hK K hHeld
          have hHeld := hHeld'
          clear hHeld'
          (try simp only [Act.put, List.setIfInBounds_toArray, List.set_cons_zero, List.set_cons_succ])
          refine tk 8 ?_
          refine wpAnyH_ready (rs := [9]) (by kernel_rfl) (by simp) ?_
          refine AllReadyH.cons (o := ?_) ?_ (fun K hK => ?_) AllReadyH.nil
          rotate_left
          · (simp only [List.getElem?_toArray, List.getElem?_cons_zero, List.getElem?_cons_succ]; rfl)
          go_simp
          (try go_wp2_with fail)
          refine hK.out _ _ ?_ (fun hHeld' => ?_)
          · (try dsimp only)
            exact ⟨cell_later ((Below.refl _ _).alloc (Nat.le_refl _) _) s0, cell_later ((Below.refl _ _).alloc (Nat.le_refl _) _) s1⟩
          clear hK K hHeld
          have hHeld := hHeld'
          clear hHeld'
          (try simp only [Act.put, List.setIfInBounds_toArray, List.set_cons_zero, List.set_cons_succ])
          obtain ⟨vk10, hv10⟩ : ∃ u, u = wk9.alloc (.cells #[.int .i64 p, .slice r3 vn d3] 58) := ⟨_, rfl⟩
          have hbk10 : Below wk9.heap.size wk9 vk10 := by rw [hv10]; exact (Below.refl _ _).alloc (Nat.le_refl _) _
          have HBk10 : Below U.heap.size U vk10 := HBk9.trans (hbk10.mono HBk9.size)
          have s0 := cell_later hbk10 s0
          have s1 := cell_later hbk10 s1
          have pb := blk_below pb hbk10
          have HQO := Hid.mk (owns_below HQO.out hbk10)
          have nw0 : vk10.cell? ⟨wk9.heap.size, 0, none⟩ = some (.int .i64 p) := by rw [hv10]; simp
          have nw1 : vk10.cell? ⟨wk9.heap.size, 1, none⟩ = some (.slice r3 vn d3) := by rw [hv10]; simp
          have HVE := Hid.mk hv10
          rw [← hv10]
          clear hv10
          refine wpAnyH_ready (rs := [10]) (by kernel_rfl) (by simp) ?_
          refine AllReadyH.cons (o := ?_) ?_ (fun K hK => ?_) AllReadyH.nil
          rotate_left
          · (simp only [List.getElem?_toArray, List.getElem?_cons_zero, List.getElem?_cons_succ]; rfl)
          refine step_append_vals rfl (.tmp 19) (.tmp 27) 27 rfl (P + 1) 58 j0 (.agg #[.int .i64 0, .slice none 0 0]) 2 32 Try.underlying27 hj0 hy0 hy1 hy2 rfl (by decide) (.slice r' k d') k cells (by simp [Act.eval]) (HQO.out) (some ⟨wk9.heap.size, 0, none⟩) 1 1 [.int .i64 p, .slice r3 vn d3] (by simp [Act.eval]) rfl (fun ad he => by cases he; intro j u hu; match j, hu with | 0, hu => (obtain rfl := Option.some.inj hu; exact nw0) | 1, hu => (obtain rfl := Option.some.inj hu; exact nw1)) (by intro u hu; simp at hu; rcases hu with rfl | rfl <;> rfl) (fun h => by cases h) (by unfold maxLen; omega) (by omega) (by have := HBk10.size; omega) (fun r5 d5 wk11 ho5 hg5 ht5 => ?_)
          have HBk11 : Below P V wk11 := (HBU.out.trans (HBk10.mono (by omega))).grown hg5 (by have := HBk10.size; omega) (fun j hj => by have := HQL.out j hj; omega)
          have hoff : Off (fun b => (Value.slice r' k d').ownBlock = some b) vk10 wk11 := Off.grown hg5 (fun _ hk => hk)
          have s0 := hoff.cell s0 (fun e => by have := (HQL.out _ e).2; simp only at this; omega)
          have s1 := hoff.cell s1 (fun e => by have := (HQL.out _ e).2; simp only at this; omega)
          have pb := (hoff.block P (by have := HBk10.size; omega) (fun e => by have := (HQL.out _ e).1; omega)).trans pb
          have HO5 := Hid.mk ho5
          have HG5 : Hid ((wk9.alloc (.cells #[.int .i64 p, .slice r3 vn d3] 58)).grownBy wk11 (Value.slice r' k d').ownBlock) := Hid.mk (by rw [← HVE.out]; exact hg5)
          have HT5 : Hid ((Value.slice r5 (k + 1) d5).ownBlock = (Value.slice r' k d').ownBlock ∨ (Value.slice r5 (k + 1) d5).ownBlock = some (wk9.heap.size + 1)) := Hid.mk (ht5.imp id (fun h => h.trans (by rw [HVE.out]; simp)))
          clear ho5 hg5 ht5 hoff nw0 nw1
          refine hK.out _ _ ?_ (fun hHeld' => ?_)
          · (try dsimp only)
            exact ⟨s0, s1⟩
          clear hK K hHeld
          have hHeld := hHeld'
          clear hHeld'
          (try simp only [Act.put, List.setIfInBounds_toArray, List.set_cons_zero, List.set_cons_succ])
          refine tk 11 ?_
          have qs0 := blk_cell pb 0 rfl
          have qs1 := blk_cell pb 1 rfl
          have fs0 := blk_frozen pb 0
          have fs1 := blk_frozen pb 1
          refine wpAnyH_ready (rs := [12]) (by kernel_rfl) (by simp) ?_
          refine AllReadyH.cons (o := ?_) ?_ (fun K hK => ?_) AllReadyH.nil
          rotate_left
          · (simp only [List.getElem?_toArray, List.getElem?_cons_zero, List.getElem?_cons_succ]; rfl)
          go_simp
          (try go_wp2_with fail)
          refine hK.out _ _ ?_ (fun hHeld' => ?_)
          · (try dsimp only)
            exact ⟨keep_far s0 hYP, keep_far s1 hYP⟩
          clear hK K hHeld
          have hHeld := hHeld'
          clear hHeld'
          (try simp only [Act.put, List.setIfInBounds_toArray, List.set_cons_zero, List.set_cons_succ])
          refine wpAnyH_done (by kernel_rfl) ?_ _
          obtain ⟨G', hQ'⟩ := HQ.out.pushed (by omega) HB4.out HOC.out HO5.out HG5.out HT5.out (by omega)
          rw [← HTK.out] at hQ'
          have HQ' := Hid.mk hQ'
          have HBF : Hid (Below P V (wk11.setCell ⟨P, 1, none⟩ (.slice r5 (k + 1) d5))) := Hid.mk (HBk11.setCell (p := ⟨P, 1, none⟩) (Nat.le_refl _) _)
          clear hQ'
          go_wp2
          go_roundw
          case rel => exact ⟨k + 1, r5, d5, _, G', by omega, by go_num, HQ'.out, HBF.out⟩
          case measure => simp [intOf]; omega
        refine AllReadyH.cons (o := ?_) ?_ (fun K hK => ?_) AllReadyH.nil
        rotate_left
        · (simp only [List.getElem?_toArray, List.getElem?_cons_zero, List.getElem?_cons_succ]; rfl)
        · refine step_append_vals rfl (.tmp 22) (.tmp 24) 22 rfl u0.heap.size 3 i0 (.int .i64 0) 1 8 Try.underlying22 hi0 hx0 hx1 hx2 rfl (by decide) (.slice (some ⟨u0.heap.size, 0, none⟩) 0 0) 0 [] (by simp [Act.eval]) (HOE.out) va vn vc LY (by simp [Act.eval]) HY1.out (HY2.out vk7 HBk7) HY3.out HY4.out (by unfold maxLen; omega) (by omega) (Nat.le_of_lt (HOE.out.lt _ rfl).2) (fun r3 d3 wk13 ho3 hg3 ht3 => ?_)
          simp only [Nat.zero_add, List.nil_append] at ho3 ht3 ⊢
          have HBk13 : Below U.heap.size U wk13 := HBk7.grown hg3 HBk7.size (fun j hj => by simp [Value.ownBlock] at hj; omega)
          have hoff : Off (fun b => b = u0.heap.size) vk7 wk13 := Off.grown hg3 (fun _ hk => by simp [Value.ownBlock] at hk; exact hk.symm)
          have s0 := hoff.cell s0 (show ¬ wY.heap.size = u0.heap.size by omega)
          have s1 := hoff.cell s1 (show ¬ wY.heap.size = u0.heap.size by omega)
          have pb := (hoff.block P (by have := HBk7.size; omega) (by omega)).trans pb
          have HQO := Hid.mk (ownsRow_frame HQO.out (fun b hb hl => hoff.block b hl (by have := (HQL.out b hb).2; omega)))
          have HOC := Hid.mk (RInts.mono (F' := From U.heap.size wk13.heap.size) (RInts.of_owns HYN.out (by omega) (by rw [HLY.out]; exact ho3)) (fun b h => ⟨Nat.le_trans zE h.1, h.2⟩))
          have HB4 : Hid (Below U.heap.size U wk13) := Hid.mk HBk13
          clear ho3 hg3 ht3 hoff HOE
          refine hK.out _ _ ?_ (fun hHeld' => ?_)
          · (try dsimp only)
            exact ⟨s0, s1⟩
          clear hK K hHeld
          have hHeld := hHeld'
          clear hHeld'
          (try simp only [Act.put, List.setIfInBounds_toArray, List.set_cons_zero, List.set_cons_succ])
          refine tk 8 ?_
          have qs1 := blk_cell (v := .slice r' k d') pb 1 rfl
          refine wpAnyH_ready (rs := [1, 9]) (by kernel_rfl) (by simp) ?_
          refine AllReadyH.cons (o := ?_) ?_ (fun K hK => ?_) ?_
          rotate_left
          · (simp only [List.getElem?_toArray, List.getElem?_cons_zero, List.getElem?_cons_succ]; rfl)
          · go_simp
            (try go_wp2_with fail)
            refine hK.out _ _ ?_ (fun hHeld' => ?_)
            · (try dsimp only)
              exact ⟨s0, s1⟩
            clear hK K hHeld
            have hHeld := hHeld'
            clear hHeld'
            (try simp only [Act.put, List.setIfInBounds_toArray, List.set_cons_zero, List.set_cons_succ])
            refine wpAnyH_ready (rs := [9]) (by kernel_rfl) (by simp) ?_
            refine AllReadyH.cons (o := ?_) ?_ (fun K hK => ?_) AllReadyH.nil
            rotate_left
            · (simp only [List.getElem?_toArray, List.getElem?_cons_zero, List.getElem?_cons_succ]; rfl)
            go_simp
            (try go_wp2_with fail)
            refine hK.out _ _ ?_ (fun hHeld' => ?_)
            · (try dsimp only)
              exact ⟨cell_later ((Below.refl _ _).alloc (Nat.le_refl _) _) s0, cell_later ((Below.refl _ _).alloc (Nat.le_refl _) _) s1⟩
            clear hK K hHeld
            have hHeld := hHeld'
            clear hHeld'
            (try simp only [Act.put, List.setIfInBounds_toArray, List.set_cons_zero, List.set_cons_succ])
            obtain ⟨vk15, hv15⟩ : ∃ u, u = wk13.alloc (.cells #[.int .i64 p, .slice r3 vn d3] 58) := ⟨_, rfl⟩
            have hbk15 : Below wk13.heap.size wk13 vk15 := by rw [hv15]; exact (Below.refl _ _).alloc (Nat.le_refl _) _
            have HBk15 : Below U.heap.size U vk15 := HBk13.trans (hbk15.mono HBk13.size)
            have s0 := cell_later hbk15 s0
            have s1 := cell_later hbk15 s1
            have pb := blk_below pb hbk15
            have HQO := Hid.mk (owns_below HQO.out hbk15)
            have nw0 : vk15.cell? ⟨wk13.heap.size, 0, none⟩ = some (.int .i64 p) := by rw [hv15]; simp
            have nw1 : vk15.cell? ⟨wk13.heap.size, 1, none⟩ = some (.slice r3 vn d3) := by rw [hv15]; simp
            have HVE := Hid.mk hv15
            rw [← hv15]
            clear hv15
            refine wpAnyH_ready (rs := [10]) (by kernel_rfl) (by simp) ?_
            refine AllReadyH.cons (o := ?_) ?_ (fun K hK => ?_) AllReadyH.nil
            rotate_left
            · (simp only [List.getElem?_toArray, List.getElem?_cons_zero, List.getElem?_cons_succ]; rfl)
            refine step_append_vals rfl (.tmp 19) (.tmp 27) 27 rfl (P + 1) 58 j0 (.agg #[.int .i64 0, .slice none 0 0]) 2 32 Try.underlying27 hj0 hy0 hy1 hy2 rfl (by decide) (.slice r' k d') k cells (by simp [Act.eval]) (HQO.out) (some ⟨wk13.heap.size, 0, none⟩) 1 1 [.int .i64 p, .slice r3 vn d3] (by simp [Act.eval]) rfl (fun ad he => by cases he; intro j u hu; match j, hu with | 0, hu => (obtain rfl := Option.some.inj hu; exact nw0) | 1, hu => (obtain rfl := Option.some.inj hu; exact nw1)) (by intro u hu; simp at hu; rcases hu with rfl | rfl <;> rfl) (fun h => by cases h) (by unfold maxLen; omega) (by omega) (by have := HBk15.size; omega) (fun r5 d5 wk16 ho5 hg5 ht5 => ?_)
            have HBk16 : Below P V wk16 := (HBU.out.trans (HBk15.mono (by omega))).grown hg5 (by have := HBk15.size; omega) (fun j hj => by have := HQL.out j hj; omega)
            have hoff : Off (fun b => (Value.slice r' k d').ownBlock = some b) vk15 wk16 := Off.grown hg5 (fun _ hk => hk)
            have s0 := hoff.cell s0 (fun e => by have := (HQL.out _ e).2; simp only at this; omega)
            have s1 := hoff.cell s1 (fun e => by have := (HQL.out _ e).2; simp only at this; omega)
            have pb := (hoff.block P (by have := HBk15.size; omega) (fun e => by have := (HQL.out _ e).1; omega)).trans pb
            have HO5 := Hid.mk ho5
            have HG5 : Hid ((wk13.alloc (.cells #[.int .i64 p, .slice r3 vn d3] 58)).grownBy wk16 (Value.slice r' k d').ownBlock) := Hid.mk (by rw [← HVE.out]; exact hg5)
            have HT5 : Hid ((Value.slice r5 (k + 1) d5).ownBlock = (Value.slice r' k d').ownBlock ∨ (Value.slice r5 (k + 1) d5).ownBlock = some (wk13.heap.size + 1)) := Hid.mk (ht5.imp id (fun h => h.trans (by rw [HVE.out]; simp)))
            clear ho5 hg5 ht5 hoff nw0 nw1
            refine hK.out _ _ ?_ (fun hHeld' => ?_)
            · (try dsimp only)
              exact ⟨s0, s1⟩
            clear hK K hHeld
            have hHeld := hHeld'
            clear hHeld'
            (try simp only [Act.put, List.setIfInBounds_toArray, List.set_cons_zero, List.set_cons_succ])
            refine tk 11 ?_
            have qs0 := blk_cell pb 0 rfl
            have qs1 := blk_cell pb 1 rfl
            have fs0 := blk_frozen pb 0
            have fs1 := blk_frozen pb 1
            refine wpAnyH_ready (rs := [12]) (by kernel_rfl) (by simp) ?_
            refine AllReadyH.cons (o := ?_) ?_ (fun K hK => ?_) AllReadyH.nil
            rotate_left
            · (simp only [List.getElem?_toArray, List.getElem?_cons_zero, List.getElem?_cons_succ]; rfl)
            go_simp
            (try go_wp2_with fail)
            refine hK.out _ _ ?_ (fun hHeld' => ?_)
            · (try dsimp only)
              exact ⟨keep_far s0 hYP, keep_far s1 hYP⟩
            clear hK K hHeld
            have hHeld := hHeld'
            clear hHeld'
            (try simp only [Act.put, List.setIfInBounds_toArray, List.set_cons_zero, List.set_cons_succ])
            refine wpAnyH_done (by kernel_rfl) ?_ _
            obtain ⟨G', hQ'⟩ := HQ.out.pushed (by omega) HB4.out HOC.out HO5.out HG5.out HT5.out (by omega)
            rw [← HTK.out] at hQ'
            have HQ' := Hid.mk hQ'
            have HBF : Hid (Below P V (wk16.setCell ⟨P, 1, none⟩ (.slice r5 (k + 1) d5))) := Hid.mk (HBk16.setCell (p := ⟨P, 1, none⟩) (Nat.le_refl _) _)
            clear hQ'
            go_wp2
            go_roundw
            case rel => exact ⟨k + 1, r5, d5, _, G', by omega, by go_num, HQ'.out, HBF.out⟩
            case measure => simp [intOf]; omega
          refine AllReadyH.cons (o := ?_) ?_ (fun K hK => ?_) AllReadyH.nil
          rotate_left
          · (simp only [List.getElem?_toArray, List.getElem?_cons_zero, List.getElem?_cons_succ]; rfl)
          · go_simp
            (try go_wp2_with fail)
            refine hK.out _ _ ?_ (fun hHeld' => ?_)
            · (try dsimp only)
              exact ⟨cell_later ((Below.refl _ _).alloc (Nat.le_refl _) _) s0, cell_later ((Below.refl _ _).alloc (Nat.le_refl _) _) s1⟩
            clear hK K hHeld
            have hHeld := hHeld'
            clear hHeld'
            (try simp only [Act.put, List.setIfInBounds_toArray, List.set_cons_zero, List.set_cons_succ])
            obtain ⟨vk18, hv18⟩ : ∃ u, u = wk13.alloc (.cells #[.int .i64 p, .slice r3 vn d3] 58) := ⟨_, rfl⟩
            have hbk18 : Below wk13.heap.size wk13 vk18 := by rw [hv18]; exact (Below.refl _ _).alloc (Nat.le_refl _) _
            have HBk18 : Below U.heap.size U vk18 := HBk13.trans (hbk18.mono HBk13.size)
            have s0 := cell_later hbk18 s0
            have s1 := cell_later hbk18 s1
            have pb := blk_below pb hbk18
            have HQO := Hid.mk (owns_below HQO.out hbk18)
            have nw0 : vk18.cell? ⟨wk13.heap.size, 0, none⟩ = some (.int .i64 p) := by rw [hv18]; simp
            have nw1 : vk18.cell? ⟨wk13.heap.size, 1, none⟩ = some (.slice r3 vn d3) := by rw [hv18]; simp
            have HVE := Hid.mk hv18
            rw [← hv18]
            clear hv18
            have qs1 := blk_cell (v := .slice r' k d') pb 1 rfl
            refine wpAnyH_ready (rs := [1]) (by kernel_rfl) (by simp) ?_
            refine AllReadyH.cons (o := ?_) ?_ (fun K hK => ?_) AllReadyH.nil
            rotate_left
            · (simp only [List.getElem?_toArray, List.getElem?_cons_zero, List.getElem?_cons_succ]; rfl)
            go_simp
            (try go_wp2_with fail)
            refine hK.out _ _ ?_ (fun hHeld' => ?_)
            · (try dsimp only)
              exact ⟨s0, s1⟩
            clear hK K hHeld
            have hHeld := hHeld'
            clear hHeld'
            (try simp only [Act.put, List.setIfInBounds_toArray, List.set_cons_zero, List.set_cons_succ])
            refine wpAnyH_ready (rs := [10]) (by kernel_rfl) (by simp) ?_
            refine AllReadyH.cons (o := ?_) ?_ (fun K hK => ?_) AllReadyH.nil
            rotate_left
            · (simp only [List.getElem?_toArray, List.getElem?_cons_zero, List.getElem?_cons_succ]; rfl)
            refine step_append_vals rfl (.tmp 19) (.tmp 27) 27 rfl (P + 1) 58 j0 (.agg #[.int .i64 0, .slice none 0 0]) 2 32 Try.underlying27 hj0 hy0 hy1 hy2 rfl (by decide) (.slice r' k d') k cells (by simp [Act.eval]) (HQO.out) (some ⟨wk13.heap.size, 0, none⟩) 1 1 [.int .i64 p, .slice r3 vn d3] (by simp [Act.eval]) rfl (fun ad he => by cases he; intro j u hu; match j, hu with | 0, hu => (obtain rfl := Option.some.inj hu; exact nw0) | 1, hu => (obtain rfl := Option.some.inj hu; exact nw1)) (by intro u hu; simp at hu; rcases hu with rfl | rfl <;> rfl) (fun h => by cases h) (by unfold maxLen; omega) (by omega) (by have := HBk18.size; omega) (fun r5 d5 wk20 ho5 hg5 ht5 => ?_)
            have HBk20 : Below P V wk20 := (HBU.out.trans (HBk18.mono (by omega))).grown hg5 (by have := HBk18.size; omega) (fun j hj => by have := HQL.out j hj; omega)
            have hoff : Off (fun b => (Value.slice r' k d').ownBlock = some b) vk18 wk20 := Off.grown hg5 (fun _ hk => hk)
            have s0 := hoff.cell s0 (fun e => by have := (HQL.out _ e).2; simp only at this; omega)
            have s1 := hoff.cell s1 (fun e => by have := (HQL.out _ e).2; simp only at this; omega)
            have pb := (hoff.block P (by have := HBk18.size; omega) (fun e => by have := (HQL.out _ e).1; omega)).trans pb
            have HO5 := Hid.mk ho5
            have HG5 : Hid ((wk13.alloc (.cells #[.int .i64 p, .slice r3 vn d3] 58)).grownBy wk20 (Value.slice r' k d').ownBlock) := Hid.mk (by rw [← HVE.out]; exact hg5)
            have HT5 : Hid ((Value.slice r5 (k + 1) d5).ownBlock = (Value.slice r' k d').ownBlock ∨ (Value.slice r5 (k + 1) d5).ownBlock = some (wk13.heap.size + 1)) := Hid.mk (ht5.imp id (fun h => h.trans (by rw [HVE.out]; simp)))
            clear ho5 hg5 ht5 hoff nw0 nw1
            refine hK.out _ _ ?_ (fun hHeld' => ?_)
            · (try dsimp only)
              exact ⟨s0, s1⟩
            clear hK K hHeld
            have hHeld := hHeld'
            clear hHeld'
            (try simp only [Act.put, List.setIfInBounds_toArray, List.set_cons_zero, List.set_cons_succ])
            refine tk 11 ?_
            have qs0 := blk_cell pb 0 rfl
            have qs1 := blk_cell pb 1 rfl
            have fs0 := blk_frozen pb 0
            have fs1 := blk_frozen pb 1
            refine wpAnyH_ready (rs := [12]) (by kernel_rfl) (by simp) ?_
            refine AllReadyH.cons (o := ?_) ?_ (fun K hK => ?_) AllReadyH.nil
            rotate_left
            · (simp only [List.getElem?_toArray, List.getElem?_cons_zero, List.getElem?_cons_succ]; rfl)
            go_simp
            (try go_wp2_with fail)
            refine hK.out _ _ ?_ (fun hHeld' => ?_)
            · (try dsimp only)
              exact ⟨keep_far s0 hYP, keep_far s1 hYP⟩
            clear hK K hHeld
            have hHeld := hHeld'
            clear hHeld'
            (try simp only [Act.put, List.setIfInBounds_toArray, List.set_cons_zero, List.set_cons_succ])
            refine wpAnyH_done (by kernel_rfl) ?_ _
            obtain ⟨G', hQ'⟩ := HQ.out.pushed (by omega) HB4.out HOC.out HO5.out HG5.out HT5.out (by omega)
            rw [← HTK.out] at hQ'
            have HQ' := Hid.mk hQ'
            have HBF : Hid (Below P V (wk20.setCell ⟨P, 1, none⟩ (.slice r5 (k + 1) d5))) := Hid.mk (HBk20.setCell (p := ⟨P, 1, none⟩) (Nat.le_refl _) _)
            clear hQ'
            go_wp2
            go_roundw
            case rel => exact ⟨k + 1, r5, d5, _, G', by omega, by go_num, HQ'.out, HBF.out⟩
            case measure => simp [intOf]; omega
    · obtain rfl : k = tn := by omega
      have hki : ¬ (k : Int) < (k : Int) := by omega
      rw [List.take_of_length_le (by have := HZ.out; omega)] at hQ
      have x0 := hQ.cell0
      have x1 := hQ.cell1
      have rb : wY.heap[w.heap.size + 1]? = some (.cells #[.slice none 0 0, .slice none 0 0] 29 (0, 0)) := (HBW.out.block _ zlW).trans HA1.out
      have y0 : wY.cell? ⟨w.heap.size + 1, 0, none⟩ = some (.slice none 0 0) := blk_cell rb 0 rfl
      have y1 : wY.cell? ⟨w.heap.size + 1, 1, none⟩ = some (.slice none 0 0) := blk_cell rb 1 rfl
      have f0 := blk_frozen rb 0
      have f1 := blk_frozen rb 1
      obtain ⟨Y, hY⟩ : ∃ Y, Y = (wY.setCell ⟨w.heap.size + 1, 0, none⟩ (.slice r fn d)).setCell ⟨w.heap.size + 1, 1, none⟩ (.slice r' k d') := ⟨_, rfl⟩
      have g0 : Y.cell? ⟨w.heap.size + 1, 0, none⟩ = some (.slice r fn d) := by rw [hY]; exact blk_cell (blk_set (blk_set rb 0 _) 1 _) 0 rfl
      have g1 : Y.cell? ⟨w.heap.size + 1, 1, none⟩ = some (.slice r' k d') := by rw [hY]; exact blk_cell (blk_set (blk_set rb 0 _) 1 _) 1 rfl
      have hYw : ∀ b, b ≠ w.heap.size + 1 → Y.heap[b]? = wY.heap[b]? := fun b hb => by rw [hY, Below.heap_setCell _ _ _ b (by simpa using hb), Below.heap_setCell _ _ _ b (by simpa using hb)]
      have hYs : Y.heap.size = wY.heap.size := by rw [hY]; simp [World.setCell]
      have hW2 := HZW.out
      have hO1 : wY.ownsRow W.heap.size 3 1 (.slice r fn d) fn (hs.map (.int .i64)) := ownsRow_frame HO1.out (fun b hb _ => hbw.block b (HLT1.out b hb))
      have HOH : Hid (RInts.Own Y (From W.heap.size P) [.slice r fn d] hs) := Hid.mk (RInts.own_iff.2 ⟨HFZ.out, by omega, owns_mono (ownsRow_frame hO1 (fun b hb _ => hYw b (by have := (hO1.lt b hb).1; omega))) (Nat.zero_le _), fun b hb => ⟨(hO1.lt b hb).1, HLT1.out b hb⟩⟩)
      have HOA : Hid (RAtms.Own Y (From (P + 1) Y.heap.size) [.slice r' k d'] zs) := Hid.mk ⟨_, _, _, cells, G, rfl, (hQ.laid.frame (w' := Y) (fun b hb _ => hYw b (by have := hb.1; omega))).mono (fun b hb => ⟨hb.1, by rw [hYs]; exact hb.2⟩)⟩
      have HFIN : Hid (RQry.Own Y (From w.heap.size Y.heap.size) [.slice r fn d, .slice r' k d'] (hs, zs)) := Hid.mk (RQry.own_mk HOH.out HOA.out (fun b hb => ⟨by have := hb.1; omega, by have := hb.2; omega⟩) (fun b hb => ⟨by have := hb.1; omega, hb.2⟩) (fun b hb hb2 => by have := hb.2; have := hb2.1; omega))
      have HBY : Hid (Below w.heap.size w Y) := Hid.mk (by
        rw [hY]
        exact ((HB0.out.trans (HBW.out.mono HB0.out.size)).setCell (p := ⟨w.heap.size + 1, 0, none⟩) (by show w.heap.size ≤ w.heap.size + 1; omega) _).setCell (p := ⟨w.heap.size + 1, 1, none⟩) (by show w.heap.size ≤ w.heap.size + 1; omega) _)
      clear hQ hbw hO1 HOH HOA hYw hYs hW2 rb
      go_wp2
      rw [← hY]
      clear hY
      refine bodyPost_ret (v := .agg #[.slice r fn d, .slice r' k d']) (by simp [results, Try.results31, go_sem, g0, g1]) rfl ⟨r, d, r', d', rfl, HFIN.out, HBY.out⟩

end Go.Proofs.Ytociphdhkjoofaa
