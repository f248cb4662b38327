/- Several texts of one proof, in build order: CqI, ConcA. -/
import Derived.Test.YtociphdhkjoofaaM20
import Derived.Test.YtociphdhkjoofaaM15
import Derived.Test.YtociphdhkjoofaaM13
import Derived.Deep.CutBlock
import Derived.Lib.Walk
import Derived.Lib.AppendZerosOnto

/- Contract of impl.copyQuery. -/
namespace Go.Proofs.Ytociphdhkjoofaa
open Go.RowKit

theorem Try.infoAtom2 : (Try.prog.info? 58).map (fun i => (i.zero, i.size, i.bytes)) = some (some (.agg #[.int .i64 0, .slice none 0 0]), 2, 32) := by kernel_rfl
theorem take_snocQ {zs : List Atm} {k : Nat} {x : Atm} (h : zs[k]? = some x) : zs.take (k + 1) = zs.take k ++ [x] := by
  obtain ⟨hk, rfl⟩ := List.getElem?_eq_some_iff.1 h
  rw [List.take_succ_eq_append_getElem hk]
theorem blk_not_ownQ {w : World} {base B : Nat} {e t : TypeId} {size : Nat} {v : Value} {n : Nat} {xs : List Value} {cs : Array Value} {z : Nat × Nat} (hb : w.heap[B]? = some (.cells cs t z)) (hte : t ≠ e) (ho : w.ownsRow base e size v n xs) : v.ownBlock ≠ some B := by
  rcases ho.2 with ⟨rfl, _⟩ | ⟨g, cap, cur, rfl, hbb, hg, _⟩
  · simp [Value.ownBlock]
  · intro h
    have e1 : g = B := by simpa [Value.ownBlock] using h
    rw [e1, hb] at hg
    simp only [Option.some.injEq, Obj.cells.injEq] at hg
    exact hte hg.2.1

set_option maxRecDepth 100000 in
set_option maxHeartbeats 4000000 in
theorem copyQuery_any (fa : Option Addr) (fn fc : Nat) (hs : List Int) (ta : Option Addr) (tn tc : Nat) (zs : List Atm) (w : World) (hfz : hs.length = fn) (hfn : fn ≤ 1048576) (hfF : fa = none → fc = 0) (hfa : At w fa hs) (hz : zs.length = tn) (htn : tn ≤ 1048576) (hsm : ∀ x ∈ zs, x.2.length ≤ 1048576) (ha : AtQ w ta zs) :
    Calls Try.prog 35 #[.agg #[.slice fa fn fc, .slice ta tn tc]] w fun e w' => ∃ r d r' d', e = .returned (.agg #[.slice r fn d, .slice r' tn d']) ∧ RQry.Own w' (From w.heap.size w'.heap.size) [.slice r fn d, .slice r' tn d'] (hs, zs) ∧ Below w.heap.size w w' := by
  obtain ⟨j0, hj0, hy0, hy1, hy2⟩ := info_parts Try.infoAtom2
  obtain ⟨W, hW⟩ : ∃ W, W = (w.alloc (.cells #[.slice fa fn fc, .slice ta tn tc] 29)).alloc (.cells #[.slice none 0 0, .slice none 0 0] 29) := ⟨_, rfl⟩
  have zW : W.heap.size = w.heap.size + 1 + 1 := by rw [hW]; simp
  have B0 : Below w.heap.size w W := by rw [hW]; exact ((Below.refl _ _).alloc (Nat.le_refl _) _).alloc (by simp) _
  have a0 : W.heap[w.heap.size]? = some (.cells #[.slice fa fn fc, .slice ta tn tc] 29 (0, 0)) := by rw [hW]; exact blk_alloc (heap_alloc_new w _) _
  have a1 : W.heap[w.heap.size + 1]? = some (.cells #[.slice none 0 0, .slice none 0 0] 29 (0, 0)) := by
    rw [hW]
    have q := heap_alloc_new (w.alloc (.cells #[.slice fa fn fc, .slice ta tn tc] 29)) (.cells #[.slice none 0 0, .slice none 0 0] 29)
    simpa only [World.size_alloc] using q
  have q0 : W.cell? ⟨w.heap.size, 0, none⟩ = some (.slice fa fn fc) := blk_cell a0 0 rfl
  have KC := Hid.mk (cloneI_any fa fn fc hs W hfz hfn hfF (At.below hfa B0))
  have HA := Hid.mk (AtSl.below ha B0)
  have HZ := Hid.mk hz
  have HSM := Hid.mk hsm
  have HFZ := Hid.mk hfz
  have HZW := Hid.mk zW
  have HA0 := Hid.mk a0
  have HA1 := Hid.mk a1
  have HB0 := Hid.mk B0
  have zlW : w.heap.size + 1 < W.heap.size := by omega
  clear hfa ha hz hsm hfz hfF zW a0 a1 B0
  go_enter Try.func35, Try.ntmps35
  go_upto_region 1 with fail
  rw [← hW]
  clear hW
  go_wp2_with fail
  refine KC.out.mono ?_
  rintro e w1 ⟨r, d, rfl, ho1, hb1⟩
  clear KC
  obtain ⟨P, hP⟩ : ∃ P, w1.heap.size = P := ⟨_, rfl⟩
  obtain ⟨V, hV⟩ : ∃ V, V = w1.alloc (.cells #[.slice r fn d, .slice none 0 0] 29) := ⟨_, rfl⟩
  have hQ0 : QVar V P (P + 1) (.slice r fn d) none 0 0 (zs.take 0) [] (fun _ _ => False) := by rw [hV, ← hP]; exact QVar.new w1 _
  have hbV : Below w1.heap.size w1 V := by rw [hV]; exact (Below.refl _ _).alloc (Nat.le_refl _) _
  have zV : V.heap.size = P + 1 := by rw [hV, ← hP]; simp
  have HO1 : Hid (V.ownsRow W.heap.size 3 1 (.slice r fn d) fn (hs.map (.int .i64))) := Hid.mk (owns_below ho1 hbV)
  have hWP : W.heap.size ≤ P := by rw [← hP]; exact hb1.size
  have hlt1 : ∀ b, (Value.slice r fn d).ownBlock = some b → b < P := fun b hb => by rw [← hP]; exact (ho1.lt b hb).2
  have HLT1 := Hid.mk hlt1
  have HBV : Hid (Below W.heap.size W V) := Hid.mk (hb1.trans (hbV.mono hb1.size))
  have v1 : V.cell? ⟨w.heap.size, 1, none⟩ = some (.slice ta tn tc) := (HBV.out.cell (show w.heap.size < W.heap.size by omega)).trans (blk_cell HA0.out 1 rfl)
  have HQ0 := Hid.mk hQ0
  have hPV : P < V.heap.size := by omega
  have HZV := Hid.mk zV
  clear hQ0 hbV ho1 hb1 hlt1 q0 zV
  go_upto_region 2 with fail
  rw [← hV]
  clear hV
  (try rw [hP])
  clear hP
  go_wp2_with fail
  go_loopw [13] (fun i wr => ∃ (k : Nat) (r' : Option Addr) (d' : Nat) (cells : List Value) (G : Nat → Nat → Prop), k ≤ tn ∧ i = .int .i64 k ∧ QVar wr P (P + 1) (.slice r fn d) r' k d' (zs.take k) cells G ∧ Below P V wr) (fun i _ => tn - (intOf i).toNat)
  case atStart => exact ⟨0, none, 0, [], _, Nat.zero_le _, rfl, HQ0.out, Below.refl _ _⟩
  case round =>
    clear HQ0
    obtain ⟨k, r', d', cells, G, hk, rfl, hQ, hbw⟩ := hrel
    obtain ⟨wY, rfl⟩ : ∃ x, x = wr := ⟨_, rfl⟩
    have zY : P + 1 ≤ wY.heap.size := by have := hbw.size; have := HZV.out; omega
    have HBW : Hid (Below W.heap.size W wY) := Hid.mk (HBV.out.trans (hbw.mono hWP))
    by_cases hlt : k < tn
    · obtain ⟨⟨p, ys⟩, hy⟩ : ∃ x, zs[k]? = some x := ⟨_, List.getElem?_eq_getElem (by have := HZ.out; omega)⟩
      obtain ⟨b, off, rfl, _, hc⟩ := AtQ.row (AtSl.below HA.out HBW.out) (by have := HZ.out; omega)
      obtain ⟨va, vn, vc, c0, c1, u1, u2, u3, u4⟩ := hc k _ hy
      have hsm := HSM.out _ (List.mem_of_getElem? hy)
      simp only at c0 c1 u1 u3 hsm
      have hvn : vn ≤ 1048576 := by omega
      have hki : (k : Int) < (tn : Int) := by omega
      obtain ⟨U, hU⟩ : ∃ U, U = wY.alloc (.cells #[.int .i64 p, .slice va vn vc] 58) := ⟨_, rfl⟩
      have hbU : Below wY.heap.size wY U := by rw [hU]; exact (Below.refl _ _).alloc (Nat.le_refl _) _
      have zU : wY.heap.size < U.heap.size := by rw [hU]; simp
      have s0 : U.cell? ⟨wY.heap.size, 0, none⟩ = some (.int .i64 p) := by rw [hU]; simp
      have s1 : U.cell? ⟨wY.heap.size, 1, none⟩ = some (.slice va vn vc) := by rw [hU]; simp
      have HQ := Hid.mk (hQ.below hbU)
      have HBU : Hid (Below P V U) := Hid.mk (hbw.trans (hbU.mono (by omega)))
      have HTK := Hid.mk (take_snocQ hy)
      have hYP : wY.heap.size ≠ P := by omega
      have HQL : Hid (∀ b, (Value.slice r' k d').ownBlock = some b → P + 1 ≤ b ∧ b < wY.heap.size) := Hid.mk (fun b hb => hQ.owns.lt b hb)
      have KC : Hid (∀ w' : World, Below U.heap.size U w' → Calls Try.prog 59 #[.slice va vn vc] w' fun e w'' => ∃ r d, e = .returned (.slice r vn d) ∧ w''.ownsRow w'.heap.size 3 1 (.slice r vn d) vn (ys.map (.int .i64)) ∧ Below w'.heap.size w' w'') := Hid.mk (fun w' hw' => cloneI_any va vn vc ys w' u1 hvn u4 (At.below (At.below u3 hbU) hw'))
      have HYN := Hid.mk u1
      clear hc hy hsm hQ hbw hbU u1 u3 u4
      go_upto_region 5 with fail
      rw [← hU]
      clear hU c0 c1
      have zlt : wY.heap.size < U.heap.size := zU
      have hQO : U.ownsRow (P + 1) 58 2 (.slice r' k d') k cells := HQ.out.owns
      have HQO := Hid.mk hQO
      have pb := HQ.out.blk
      clear hQO
      refine wp_region_held_drew (S := fun w' => w'.cell? ⟨wY.heap.size, 0, none⟩ = some (.int .i64 p) ∧ w'.cell? ⟨wY.heap.size, 1, none⟩ = some (.slice va vn vc)) (by kernel_rfl) ?_ (fun hHeld => ?_)
      · (try dsimp only)
        exact ⟨s0, s1⟩
      refine tk 0 ?_
      refine tk 2 ?_
      refine tk 3 ?_
      refine tk 4 ?_
      refine tk 5 ?_
      obtain ⟨u0, hu0⟩ : ∃ u, u = U.drew := ⟨_, rfl⟩
      have Y0 : Below U.heap.size U u0 := by rw [hu0]; exact (Below.refl _ _).drew
      rw [← hu0]
      have s0 : u0.cell? ⟨wY.heap.size, 0, none⟩ = some (.int .i64 p) := by rw [hu0]; exact s0
      have s1 : u0.cell? ⟨wY.heap.size, 1, none⟩ = some (.slice va vn vc) := by rw [hu0]; exact s1
      have pb : u0.heap[P]? = some (.cells #[.slice r fn d, .slice r' k d'] 29 (0, 0)) := by rw [hu0]; exact pb
      have HQO := Hid.mk (owns_below HQO.out Y0)
      clear hu0
      have qs1 := blk_cell (v := .slice r' k d') pb 1 rfl
      refine wpAnyH_ready (rs := [1, 6]) (by kernel_rfl) (by simp) ?_
      refine AllReadyH.cons (o := ?_) ?_ (fun K hK => ?_) ?_
      rotate_left
      · (simp only [List.getElem?_toArray, List.getElem?_cons_zero, List.getElem?_cons_succ]; rfl)
      · go_simp
        (try go_wp2_with fail)
        refine hK.out _ _ ?_ (fun hHeld' => ?_)
        · (try dsimp only)
          exact ⟨s0, s1⟩
        clear hK K hHeld
        have hHeld := hHeld'
        clear hHeld'
        (try simp only [Act.put, List.setIfInBounds_toArray, List.set_cons_zero, List.set_cons_succ])
        refine wpAnyH_ready (rs := [6]) (by kernel_rfl) (by simp) ?_
        refine AllReadyH.cons (o := ?_) ?_ (fun K hK => ?_) AllReadyH.nil
        rotate_left
        · (simp only [List.getElem?_toArray, List.getElem?_cons_zero, List.getElem?_cons_succ]; rfl)
        go_simp
        go_at_call 59
        refine (KC.out u0 Y0).mono ?_
        rintro e wk2 ⟨r3, d3, rfl, ho3, hbk2⟩
        have HBk2 : Below U.heap.size U wk2 := Y0.trans (hbk2.mono Y0.size)
        have s0 := cell_later hbk2 s0
        have s1 := cell_later hbk2 s1
        have pb := blk_below pb hbk2
        have HQO := Hid.mk (owns_below HQO.out hbk2)
        have HOC := Hid.mk (RInts.mono (F' := From U.heap.size wk2.heap.size) (RInts.of_owns HYN.out (by omega) ho3) (fun b h => ⟨Nat.le_trans Y0.size h.1, h.2⟩))
        have HB4 : Hid (Below U.heap.size U wk2) := Hid.mk (Y0.trans (hbk2.mono Y0.size))
        clear ho3
        (try go_wp2_with fail)
        refine hK.out _ _ ?_ (fun hHeld' => ?_)
        · (try dsimp only)
          exact ⟨s0, s1⟩
        clear hK K hHeld
        have hHeld := hHeld'
        clear hHeld'
        (try simp only [Act.put, List.setIfInBounds_toArray, List.set_cons_zero, List.set_cons_succ])
        refine tk 7 ?_
        refine wpAnyH_ready (rs := [8]) (by kernel_rfl) (by simp) ?_
        refine AllReadyH.cons (o := ?_) ?_ (fun K hK => ?_) AllReadyH.nil
        rotate_left
        · (simp only [List.getElem?_toArray, List.getElem?_cons_zero, List.getElem?_cons_succ]; rfl)
        go_simp
        (try go_wp2_with fail)
        refine hK.out _ _ ?_ (fun hHeld' => ?_)
        · (try dsimp only)
          exact ⟨cell_later ((Below.refl _ _).alloc (Nat.le_refl _) _) s0, cell_later ((Below.refl _ _).alloc (Nat.le_refl _) _) s1⟩
        clear hK K hHeld
        have hHeld := hHeld'
        clear hHeld'
        (try simp only [Act.put, List.setIfInBounds_toArray, List.set_cons_zero, List.set_cons_succ])
        obtain ⟨vk3, hv3⟩ : ∃ u, u = wk2.alloc (.cells #[.int .i64 p, .slice r3 vn d3] 58) := ⟨_, rfl⟩
        have hbk3 : Below wk2.heap.size wk2 vk3 := by rw [hv3]; exact (Below.refl _ _).alloc (Nat.le_refl _) _
        have HBk3 : Below U.heap.size U vk3 := HBk2.trans (hbk3.mono HBk2.size)
        have s0 := cell_later hbk3 s0
        have s1 := cell_later hbk3 s1
        have pb := blk_below pb hbk3
        have HQO := Hid.mk (owns_below HQO.out hbk3)
        have nw0 : vk3.cell? ⟨wk2.heap.size, 0, none⟩ = some (.int .i64 p) := by rw [hv3]; simp
        have nw1 : vk3.cell? ⟨wk2.heap.size, 1, none⟩ = some (.slice r3 vn d3) := by rw [hv3]; simp
        have HVE := Hid.mk hv3
        rw [← hv3]
        clear hv3
        refine wpAnyH_ready (rs := [9]) (by kernel_rfl) (by simp) ?_
        refine AllReadyH.cons (o := ?_) ?_ (fun K hK => ?_) AllReadyH.nil
        rotate_left
        · (simp only [List.getElem?_toArray, List.getElem?_cons_zero, List.getElem?_cons_succ]; rfl)
        refine step_append_vals rfl (.tmp 18) (.tmp 25) 27 rfl (P + 1) 58 j0 (.agg #[.int .i64 0, .slice none 0 0]) 2 32 Try.underlying27 hj0 hy0 hy1 hy2 rfl (by decide) (.slice r' k d') k cells (by simp [Act.eval]) (HQO.out) (some ⟨wk2.heap.size, 0, none⟩) 1 1 [.int .i64 p, .slice r3 vn d3] (by simp [Act.eval]) rfl (fun ad he => by cases he; intro j u hu; match j, hu with | 0, hu => (obtain rfl := Option.some.inj hu; exact nw0) | 1, hu => (obtain rfl := Option.some.inj hu; exact nw1)) (by intro u hu; simp at hu; rcases hu with rfl | rfl <;> rfl) (fun h => by cases h) (by unfold maxLen; omega) (by omega) (by have := HBk3.size; omega) (fun r5 d5 wk4 ho5 hg5 ht5 => ?_)
        have HBk4 : Below P V wk4 := (HBU.out.trans (HBk3.mono (by omega))).grown hg5 (by have := HBk3.size; omega) (fun j hj => by have := HQL.out j hj; omega)
        have hoff : Off (fun b => (Value.slice r' k d').ownBlock = some b) vk3 wk4 := Off.grown hg5 (fun _ hk => hk)
        have s0 := hoff.cell s0 (fun e => by have := (HQL.out _ e).2; simp only at this; omega)
        have s1 := hoff.cell s1 (fun e => by have := (HQL.out _ e).2; simp only at this; omega)
        have pb := (hoff.block P (by have := HBk3.size; omega) (fun e => by have := (HQL.out _ e).1; omega)).trans pb
        have HO5 := Hid.mk ho5
        have HG5 : Hid ((wk2.alloc (.cells #[.int .i64 p, .slice r3 vn d3] 58)).grownBy wk4 (Value.slice r' k d').ownBlock) := Hid.mk (by rw [← HVE.out]; exact hg5)
        have HT5 : Hid ((Value.slice r5 (k + 1) d5).ownBlock = (Value.slice r' k d').ownBlock ∨ (Value.slice r5 (k + 1) d5).ownBlock = some (wk2.heap.size + 1)) := Hid.mk (ht5.imp id (fun h => h.trans (by rw [HVE.out]; simp)))
        clear ho5 hg5 ht5 hoff nw0 nw1
        refine hK.out _ _ ?_ (fun hHeld' => ?_)
        · (try dsimp only)
          exact ⟨s0, s1⟩
        clear hK K hHeld
        have hHeld := hHeld'
        clear hHeld'
        (try simp only [Act.put, List.setIfInBounds_toArray, List.set_cons_zero, List.set_cons_succ])
        refine tk 10 ?_
        have qs0 := blk_cell pb 0 rfl
        have qs1 := blk_cell pb 1 rfl
        have fs0 := blk_frozen pb 0
        have fs1 := blk_frozen pb 1
        refine wpAnyH_ready (rs := [11]) (by kernel_rfl) (by simp) ?_
        refine AllReadyH.cons (o := ?_) ?_ (fun K hK => ?_) AllReadyH.nil
        rotate_left
        · (simp only [List.getElem?_toArray, List.getElem?_cons_zero, List.getElem?_cons_succ]; rfl)
        go_simp
        (try go_wp2_with fail)
        refine hK.out _ _ ?_ (fun hHeld' => ?_)
        · (try dsimp only)
          exact ⟨keep_far s0 hYP, keep_far s1 hYP⟩
        clear hK K hHeld
        have hHeld := hHeld'
        clear hHeld'
        (try simp only [Act.put, List.setIfInBounds_toArray, List.set_cons_zero, List.set_cons_succ])
        refine wpAnyH_done (by kernel_rfl) ?_ _
        obtain ⟨G', hQ'⟩ := HQ.out.pushed (by omega) HB4.out HOC.out HO5.out HG5.out HT5.out (by omega)
        rw [← HTK.out] at hQ'
        have HQ' := Hid.mk hQ'
        have HBF : Hid (Below P V (wk4.setCell ⟨P, 1, none⟩ (.slice r5 (k + 1) d5))) := Hid.mk (HBk4.setCell (p := ⟨P, 1, none⟩) (Nat.le_refl _) _)
        clear hQ'
        go_wp2
        go_roundw
        case rel => exact ⟨k + 1, r5, d5, _, G', by omega, by go_num, HQ'.out, HBF.out⟩
        case measure => simp [intOf]; omega
      refine AllReadyH.cons (o := ?_) ?_ (fun K hK => ?_) AllReadyH.nil
      rotate_left
      · (simp only [List.getElem?_toArray, List.getElem?_cons_zero, List.getElem?_cons_succ]; rfl)
      · go_simp
        go_at_call 59
        refine (KC.out u0 Y0).mono ?_
        rintro e wk6 ⟨r3, d3, rfl, ho3, hbk6⟩
        have HBk6 : Below U.heap.size U wk6 := Y0.trans (hbk6.mono Y0.size)
        have s0 := cell_later hbk6 s0
        have s1 := cell_later hbk6 s1
        have pb := blk_below pb hbk6
        have HQO := Hid.mk (owns_below HQO.out hbk6)
        have HOC := Hid.mk (RInts.mono (F' := From U.heap.size wk6.heap.size) (RInts.of_owns HYN.out (by omega) ho3) (fun b h => ⟨Nat.le_trans Y0.size h.1, h.2⟩))
        have HB4 : Hid (Below U.heap.size U wk6) := Hid.mk (Y0.trans (hbk6.mono Y0.size))
        clear ho3
        (try go_wp2_with fail)
        refine hK.out _ _ ?_ (fun hHeld' => ?_)
        · (try dsimp only)
          exact ⟨s0, s1⟩
        clear hK K hHeld
        have hHeld := hHeld'
        clear hHeld'
        (try simp only [Act.put, List.setIfInBounds_toArray, List.set_cons_zero, List.set_cons_succ])
        refine tk 7 ?_
        have qs1 := blk_cell (v := .slice r' k d') pb 1 rfl
        refine wpAnyH_ready (rs := [1, 8]) (by kernel_rfl) (by simp) ?_
        refine AllReadyH.cons (o := ?_) ?_ (fun K hK => ?_) ?_
        rotate_left
        · (simp only [List.getElem?_toArray, List.getElem?_cons_zero, List.getElem?_cons_succ]; rfl)
        · go_simp
          (try go_wp2_with fail)
          refine hK.out _ _ ?_ (fun hHeld' => ?_)
          · (try dsimp only)
            exact ⟨s0, s1⟩
          clear hK K hHeld
          have hHeld := hHeld'
          clear hHeld'
          (try simp only [Act.put, List.setIfInBounds_toArray, List.set_cons_zero, List.set_cons_succ])
          refine wpAnyH_ready (rs := [8]) (by kernel_rfl) (by simp) ?_
          refine AllReadyH.cons (o := ?_) ?_ (fun K hK => ?_) AllReadyH.nil
          rotate_left
          · (simp only [List.getElem?_toArray, List.getElem?_cons_zero, List.getElem?_cons_succ]; rfl)
          go_simp
          (try go_wp2_with fail)
          refine hK.out _ _ ?_ (fun hHeld' => ?_)
          · (try dsimp only)
            exact ⟨cell_later ((Below.refl _ _).alloc (Nat.le_refl _) _) s0, cell_later ((Below.refl _ _).alloc (Nat.le_refl _) _) s1⟩
          clear hK K hHeld
          have hHeld := hHeld'
          clear hHeld'
          (try simp only [Act.put, List.setIfInBounds_toArray, List.set_cons_zero, List.set_cons_succ])
          obtain ⟨vk8, hv8⟩ : ∃ u, u = wk6.alloc (.cells #[.int .i64 p, .slice r3 vn d3] 58) := ⟨_, rfl⟩
          have hbk8 : Below wk6.heap.size wk6 vk8 := by rw [hv8]; exact (Below.refl _ _).alloc (Nat.le_refl _) _
          have HBk8 : Below U.heap.size U vk8 := HBk6.trans (hbk8.mono HBk6.size)
          have s0 := cell_later hbk8 s0
          have s1 := cell_later hbk8 s1
          have pb := blk_below pb hbk8
          have HQO := Hid.mk (owns_below HQO.out hbk8)
          have nw0 : vk8.cell? ⟨wk6.heap.size, 0, none⟩ = some (.int .i64 p) := by rw [hv8]; simp
          have nw1 : vk8.cell? ⟨wk6.heap.size, 1, none⟩ = some (.slice r3 vn d3) := by rw [hv8]; simp
          have HVE := Hid.mk hv8
          rw [← hv8]
          clear hv8
          refine wpAnyH_ready (rs := [9]) (by kernel_rfl) (by simp) ?_
          refine AllReadyH.cons (o := ?_) ?_ (fun K hK => ?_) AllReadyH.nil
          rotate_left
          · (simp only [List.getElem?_toArray, List.getElem?_cons_zero, List.getElem?_cons_succ]; rfl)
          refine step_append_vals rfl (.tmp 18) (.tmp 25) 27 rfl (P + 1) 58 j0 (.agg #[.int .i64 0, .slice none 0 0]) 2 32 Try.underlying27 hj0 hy0 hy1 hy2 rfl (by decide) (.slice r' k d') k cells (by simp [Act.eval]) (HQO.out) (some ⟨wk6.heap.size, 0, none⟩) 1 1 [.int .i64 p, .slice r3 vn d3] (by simp [Act.eval]) rfl (fun ad he => by cases he; intro j u hu; match j, hu with | 0, hu => (obtain rfl := Option.some.inj hu; exact nw0) | 1, hu => (obtain rfl := Option.some.inj hu; exact nw1)) (by intro u hu; simp at hu; rcases hu with rfl | rfl <;> rfl) (fun h => by cases h) (by unfold maxLen; omega) (by omega) (by have := HBk8.size; omega) (fun r5 d5 wk9 ho5 hg5 ht5 => ?_)
          have HBk9 : Below P V wk9 := (HBU.out.trans (HBk8.mono (by omega))).grown hg5 (by have := HBk8.size; omega) (fun j hj => by have := HQL.out j hj; omega)
          have hoff : Off (fun b => (Value.slice r' k d').ownBlock = some b) vk8 wk9 := Off.grown hg5 (fun _ hk => hk)
          have s0 := hoff.cell s0 (fun e => by have := (HQL.out _ e).2; simp only at this; omega)
          have s1 := hoff.cell s1 (fun e => by have := (HQL.out _ e).2; simp only at this; omega)
          have pb := (hoff.block P (by have := HBk8.size; omega) (fun e => by have := (HQL.out _ e).1; omega)).trans pb
          have HO5 := Hid.mk ho5
          have HG5 : Hid ((wk6.alloc (.cells #[.int .i64 p, .slice r3 vn d3] 58)).grownBy wk9 (Value.slice r' k d').ownBlock) := Hid.mk (by rw [← HVE.out]; exact hg5)
          have HT5 : Hid ((Value.slice r5 (k + 1) d5).ownBlock = (Value.slice r' k d').ownBlock ∨ (Value.slice r5 (k + 1) d5).ownBlock = some (wk6.heap.size + 1)) := Hid.mk (ht5.imp id (fun h => h.trans (by rw [HVE.out]; simp)))
          clear ho5 hg5 ht5 hoff nw0 nw1
          refine hK.out _ _ ?_ (fun hHeld' => ?_)
          · (try dsimp only)
            exact ⟨s0, s1⟩
          clear hK K hHeld
          have hHeld := hHeld'
          clear hHeld'
          (try simp only [Act.put, List.setIfInBounds_toArray, List.set_cons_zero, List.set_cons_succ])
          refine tk 10 ?_
          have qs0 := blk_cell pb 0 rfl
          have qs1 := blk_cell pb 1 rfl
          have fs0 := blk_frozen pb 0
          have fs1 := blk_frozen pb 1
          refine wpAnyH_ready (rs := [11]) (by kernel_rfl) (by simp) ?_
          refine AllReadyH.cons (o := ?_) ?_ (fun K hK => ?_) AllReadyH.nil
          rotate_left
          · (simp only [List.getElem?_toArray, List.getElem?_cons_zero, List.getElem?_cons_succ]; rfl)
          go_simp
          (try go_wp2_with fail)
          refine hK.out _ _ ?_ (fun hHeld' => ?_)
          · (try dsimp only)
            exact ⟨keep_far s0 hYP, keep_far s1 hYP⟩
          clear hK K hHeld
          have hHeld := hHeld'
          clear hHeld'
          (try simp only [Act.put, List.setIfInBounds_toArray, List.set_cons_zero, List.set_cons_succ])
          refine wpAnyH_done (by kernel_rfl) ?_ _
          obtain ⟨G', hQ'⟩ := HQ.out.pushed (by omega) HB4.out HOC.out HO5.out HG5.out HT5.out (by omega)
          rw [← HTK.out] at hQ'
          have HQ' := Hid.mk hQ'
          have HBF : Hid (Below P V (wk9.setCell ⟨P, 1, none⟩ (.slice r5 (k + 1) d5))) := Hid.mk (HBk9.setCell (p := ⟨P, 1, none⟩) (Nat.le_refl _) _)
          clear hQ'
          go_wp2
          go_roundw
          case rel => exact ⟨k + 1, r5, d5, _, G', by omega, by go_num, HQ'.out, HBF.out⟩
          case measure => simp [intOf]; omega
        refine AllReadyH.cons (o := ?_) ?_ (fun K hK => ?_) AllReadyH.nil
        rotate_left
        · (simp only [List.getElem?_toArray, List.getElem?_cons_zero, List.getElem?_cons_succ]; rfl)
        · go_simp
          (try go_wp2_with fail)
          refine hK.out _ _ ?_ (fun hHeld' => ?_)
          · (try dsimp only)
            exact ⟨cell_later ((Below.refl _ _).alloc (Nat.le_refl _) _) s0, cell_later ((Below.refl _ _).alloc (Nat.le_refl _) _) s1⟩
          clear hK K hHeld
          have hHeld := hHeld'
          clear hHeld'
          (try simp only [Act.put, List.setIfInBounds_toArray, List.set_cons_zero, List.set_cons_succ])
          obtain ⟨vk11, hv11⟩ : ∃ u, u = wk6.alloc (.cells #[.int .i64 p, .slice r3 vn d3] 58) := ⟨_, rfl⟩
          have hbk11 : Below wk6.heap.size wk6 vk11 := by rw [hv11]; exact (Below.refl _ _).alloc (Nat.le_refl _) _
          have HBk11 : Below U.heap.size U vk11 := HBk6.trans (hbk11.mono HBk6.size)
          have s0 := cell_later hbk11 s0
          have s1 := cell_later hbk11 s1
          have pb := blk_below pb hbk11
          have HQO := Hid.mk (owns_below HQO.out hbk11)
          have nw0 : vk11.cell? ⟨wk6.heap.size, 0, none⟩ = some (.int .i64 p) := by rw [hv11]; simp
          have nw1 : vk11.cell? ⟨wk6.heap.size, 1, none⟩ = some (.slice r3 vn d3) := by rw [hv11]; simp
          have HVE := Hid.mk hv11
          rw [← hv11]
          clear hv11
          have qs1 := blk_cell (v := .slice r' k d') pb 1 rfl
          refine wpAnyH_ready (rs := [1]) (by kernel_rfl) (by simp) ?_
          refine AllReadyH.cons (o := ?_) ?_ (fun K hK => ?_) AllReadyH.nil
          rotate_left
          · (simp only [List.getElem?_toArray, List.getElem?_cons_zero, List.getElem?_cons_succ]; rfl)
          go_simp
          (try go_wp2_with fail)
          refine hK.out _ _ ?_ (fun hHeld' => ?_)
          · (try dsimp only)
            exact ⟨s0, s1⟩
          clear hK K hHeld
          have hHeld := hHeld'
          clear hHeld'
          (try simp only [Act.put, List.setIfInBounds_toArray, List.set_cons_zero, List.set_cons_succ])
          refine wpAnyH_ready (rs := [9]) (by kernel_rfl) (by simp) ?_
          refine AllReadyH.cons (o := ?_) ?_ (fun K hK => ?_) AllReadyH.nil
          rotate_left
          · (simp only [List.getElem?_toArray, List.getElem?_cons_zero, List.getElem?_cons_succ]; rfl)
          refine step_append_vals rfl (.tmp 18) (.tmp 25) 27 rfl (P + 1) 58 j0 (.agg #[.int .i64 0, .slice none 0 0]) 2 32 Try.underlying27 hj0 hy0 hy1 hy2 rfl (by decide) (.slice r' k d') k cells (by simp [Act.eval]) (HQO.out) (some ⟨wk6.heap.size, 0, none⟩) 1 1 [.int .i64 p, .slice r3 vn d3] (by simp [Act.eval]) rfl (fun ad he => by cases he; intro j u hu; match j, hu with | 0, hu => (obtain rfl := Option.some.inj hu; exact nw0) | 1, hu => (obtain rfl := Option.some.inj hu; exact nw1)) (by intro u hu; simp at hu; rcases hu with rfl | rfl <;> rfl) (fun h => by cases h) (by unfold maxLen; omega) (by omega) (by have := HBk11.size; omega) (fun r5 d5 wk13 ho5 hg5 ht5 => ?_)
          have HBk13 : Below P V wk13 := (HBU.out.trans (HBk11.mono (by omega))).grown hg5 (by have := HBk11.size; omega) (fun j hj => by have := HQL.out j hj; omega)
          have hoff : Off (fun b => (Value.slice r' k d').ownBlock = some b) vk11 wk13 := Off.grown hg5 (fun _ hk => hk)
          have s0 := hoff.cell s0 (fun e => by have := (HQL.out _ e).2; simp only at this; omega)
          have s1 := hoff.cell s1 (fun e => by have := (HQL.out _ e).2; simp only at this; omega)
          have pb := (hoff.block P (by have := HBk11.size; omega) (fun e => by have := (HQL.out _ e).1; omega)).trans pb
          have HO5 := Hid.mk ho5
          have HG5 : Hid ((wk6.alloc (.cells #[.int .i64 p, .slice r3 vn d3] 58)).grownBy wk13 (Value.slice r' k d').ownBlock) := Hid.mk (by rw [← HVE.out]; exact hg5)
          have HT5 : Hid ((Value.slice r5 (k + 1) d5).ownBlock = (Value.slice r' k d').ownBlock ∨ (Value.slice r5 (k + 1) d5).ownBlock = some (wk6.heap.size + 1)) := Hid.mk (ht5.imp id (fun h => h.trans (by rw [HVE.out]; simp)))
          clear ho5 hg5 ht5 hoff nw0 nw1
          refine hK.out _ _ ?_ (fun hHeld' => ?_)
          · (try dsimp only)
            exact ⟨s0, s1⟩
          clear hK K hHeld
          have hHeld := hHeld'
          clear hHeld'
          (try simp only [Act.put, List.setIfInBounds_toArray, List.set_cons_zero, List.set_cons_succ])
          refine tk 10 ?_
          have qs0 := blk_cell pb 0 rfl
          have qs1 := blk_cell pb 1 rfl
          have fs0 := blk_frozen pb 0
          have fs1 := blk_frozen pb 1
          refine wpAnyH_ready (rs := [11]) (by kernel_rfl) (by simp) ?_
          refine AllReadyH.cons (o := ?_) ?_ (fun K hK => ?_) AllReadyH.nil
          rotate_left
          · (simp only [List.getElem?_toArray, List.getElem?_cons_zero, List.getElem?_cons_succ]; rfl)
          go_simp
          (try go_wp2_with fail)
          refine hK.out _ _ ?_ (fun hHeld' => ?_)
          · (try dsimp only)
            exact ⟨keep_far s0 hYP, keep_far s1 hYP⟩
          clear hK K hHeld
          have hHeld := hHeld'
          clear hHeld'
          (try simp only [Act.put, List.setIfInBounds_toArray, List.set_cons_zero, List.set_cons_succ])
          refine wpAnyH_done (by kernel_rfl) ?_ _
          obtain ⟨G', hQ'⟩ := HQ.out.pushed (by omega) HB4.out HOC.out HO5.out HG5.out HT5.out (by omega)
          rw [← HTK.out] at hQ'
          have HQ' := Hid.mk hQ'
          have HBF : Hid (Below P V (wk13.setCell ⟨P, 1, none⟩ (.slice r5 (k + 1) d5))) := Hid.mk (HBk13.setCell (p := ⟨P, 1, none⟩) (Nat.le_refl _) _)
          clear hQ'
          go_wp2
          go_roundw
          case rel => exact ⟨k + 1, r5, d5, _, G', by omega, by go_num, HQ'.out, HBF.out⟩
          case measure => simp [intOf]; omega
    · obtain rfl : k = tn := by omega
      have hki : ¬ (k : Int) < (k : Int) := by omega
      rw [List.take_of_length_le (by have := HZ.out; omega)] at hQ
      have x0 := hQ.cell0
      have x1 := hQ.cell1
      have rb : wY.heap[w.heap.size + 1]? = some (.cells #[.slice none 0 0, .slice none 0 0] 29 (0, 0)) := (HBW.out.block _ zlW).trans HA1.out
      have y0 : wY.cell? ⟨w.heap.size + 1, 0, none⟩ = some (.slice none 0 0) := blk_cell rb 0 rfl
      have y1 : wY.cell? ⟨w.heap.size + 1, 1, none⟩ = some (.slice none 0 0) := blk_cell rb 1 rfl
      have f0 := blk_frozen rb 0
      have f1 := blk_frozen rb 1
      obtain ⟨Y, hY⟩ : ∃ Y, Y = (wY.setCell ⟨w.heap.size + 1, 0, none⟩ (.slice r fn d)).setCell ⟨w.heap.size + 1, 1, none⟩ (.slice r' k d') := ⟨_, rfl⟩
      have g0 : Y.cell? ⟨w.heap.size + 1, 0, none⟩ = some (.slice r fn d) := by rw [hY]; exact blk_cell (blk_set (blk_set rb 0 _) 1 _) 0 rfl
      have g1 : Y.cell? ⟨w.heap.size + 1, 1, none⟩ = some (.slice r' k d') := by rw [hY]; exact blk_cell (blk_set (blk_set rb 0 _) 1 _) 1 rfl
      have hYw : ∀ b, b ≠ w.heap.size + 1 → Y.heap[b]? = wY.heap[b]? := fun b hb => by rw [hY, Below.heap_setCell _ _ _ b (by simpa using hb), Below.heap_setCell _ _ _ b (by simpa using hb)]
      have hYs : Y.heap.size = wY.heap.size := by rw [hY]; simp [World.setCell]
      have hW2 := HZW.out
      have hO1 : wY.ownsRow W.heap.size 3 1 (.slice r fn d) fn (hs.map (.int .i64)) := ownsRow_frame HO1.out (fun b hb _ => hbw.block b (HLT1.out b hb))
      have HOH : Hid (RInts.Own Y (From W.heap.size P) [.slice r fn d] hs) := Hid.mk (RInts.own_iff.2 ⟨HFZ.out, by omega, owns_mono (ownsRow_frame hO1 (fun b hb _ => hYw b (by have := (hO1.lt b hb).1; omega))) (Nat.zero_le _), fun b hb => ⟨(hO1.lt b hb).1, HLT1.out b hb⟩⟩)
      have HOA : Hid (RAtms.Own Y (From (P + 1) Y.heap.size) [.slice r' k d'] zs) := Hid.mk ⟨_, _, _, cells, G, rfl, (hQ.laid.frame (w' := Y) (fun b hb _ => hYw b (by have := hb.1; omega))).mono (fun b hb => ⟨hb.1, by rw [hYs]; exact hb.2⟩)⟩
      have HFIN : Hid (RQry.Own Y (From w.heap.size Y.heap.size) [.slice r fn d, .slice r' k d'] (hs, zs)) := Hid.mk (RQry.own_mk HOH.out HOA.out (fun b hb => ⟨by have := hb.1; omega, by have := hb.2; omega⟩) (fun b hb => ⟨by have := hb.1; omega, hb.2⟩) (fun b hb hb2 => by have := hb.2; have := hb2.1; omega))
      have HBY : Hid (Below w.heap.size w Y) := Hid.mk (by
        rw [hY]
        exact ((HB0.out.trans (HBW.out.mono HB0.out.size)).setCell (p := ⟨w.heap.size + 1, 0, none⟩) (by show w.heap.size ≤ w.heap.size + 1; omega) _).setCell (p := ⟨w.heap.size + 1, 1, none⟩) (by show w.heap.size ≤ w.heap.size + 1; omega) _)
      clear hQ hbw hO1 HOH HOA hYw hYs hW2 rb
      go_wp2
      rw [← hY]
      clear hY
      refine bodyPost_ret (v := .agg #[.slice r fn d, .slice r' k d']) (by simp [results, Try.results35, go_sem, g0, g1]) rfl ⟨r, d, r', d', rfl, HFIN.out, HBY.out⟩

end Go.Proofs.Ytociphdhkjoofaa

/- Contracts of slices.Grow, slices.Concat at atoms. -/
namespace Go.Proofs.Ytociphdhkjoofaa
open Go.RowKit

theorem growA_none (w : World) : Calls Try.prog 60 #[.slice none 0 0, .int .i64 0] w fun e w' => e = .returned (.slice none 0 0) ∧ w' = w := by
  go_enter Try.func60, Try.ntmps60
  go_wp2
  go_ret
  exact ⟨rfl, rfl⟩

set_option maxRecDepth 100000 in
set_option maxHeartbeats 2000000 in
theorem growA_some (n : Nat) (w : World) (h0 : 0 < n) (hn : n ≤ 1000000) :
    Calls Try.prog 60 #[.slice none 0 0, .int .i64 n] w fun e w' => ∃ g cap, e = .returned (.slice (some ⟨g, 0, none⟩) 0 cap) ∧ w'.ownsRow w.heap.size 58 2 (.slice (some ⟨g, 0, none⟩) 0 cap) 0 [] ∧ Below w.heap.size w w' := by
  obtain ⟨i0, hi, hz0, hz1, hz2⟩ := info_parts Try.infoAtom2
  obtain ⟨cap, hcap⟩ : ∃ cap, cap = grownCap w n 0 58 := ⟨_, rfl⟩
  have hge : n ≤ cap := by rw [hcap]; exact grownCap_ge w n 0 _
  have hle : cap ≤ maxLen := by rw [hcap]; exact grownCap_le_maxLen w n 0 _ (by unfold maxLen; omega)
  obtain ⟨cs, hcs⟩ : ∃ cs, cs = #[] ++ Builtin.zeroCells (Value.agg #[.int .i64 0, .slice none 0 0]).cells n ++ Builtin.zeroCells (Value.agg #[.int .i64 0, .slice none 0 0]).cells (cap - n) := ⟨_, rfl⟩
  have hsz : cs.size = cap * 2 := by rw [hcs]; simp only [Array.size_append, size_zeroCells]; simp [Value.cells]; omega
  have hrz : ∀ ty, (Builtin.append_ #[27, 3] ty #[.slice none 0 0, .int .i64 (n : Int)]).run Try.prog w = .ok (.slice (some ⟨w.heap.size, 0, none⟩) n cap) (w.drew.alloc (.cells cs 58)) := fun ty => by
    have h := Lib.run_append_grow_zeros w 27 3 ty 58 i0 (.agg #[.int .i64 0, .slice none 0 0]) .i64 .i64 Try.underlying27 Try.underlying3 hi hz0 none 0 0 [] (run_firstCells_none w.drew i0.size 0 0 0) n h0 (by rw [hz1]; decide) (by omega) (by omega) (by rw [hz2]; omega) (growslice_fits (by omega) (by rw [hz2]; omega))
    rw [Nat.zero_add, ← hcap] at h
    rw [h, hcs]
  have hb : Below w.heap.size w (w.drew.alloc (.cells cs 58)) := (Below.refl _ _).drew.alloc (Nat.le_refl _) _
  have hown : (w.drew.alloc (.cells cs 58)).ownsRow w.heap.size 58 2 (.slice (some ⟨w.heap.size, 0, none⟩) 0 cap) 0 [] :=
    ⟨by simp, .inr ⟨w.heap.size, cap, cs, rfl, Nat.le_refl _, heap_alloc_new w.drew _, by omega, hle, hsz, by simp⟩⟩
  have hpos : (0 : Int) < (n : Int) := by omega
  have hcap63 : (cap : Int) ≤ 9223372036854775807 := by unfold maxLen at hle; omega
  clear hcs hcap hsz
  go_enter Try.func60, Try.ntmps60
  go_wp2_with (at_builtin; refine Lib.wpList_append_run _ rfl _ _ _ _ rfl _ _ rfl rfl _ _ (hrz _) ?_)
  go_ret
  exact ⟨_, _, rfl, hown, hb⟩

theorem growA_any (x : Int) (w : World) (h0 : 0 ≤ x) (hn : x ≤ 1000000) :
    Calls Try.prog 60 #[.slice none 0 0, .int .i64 x] w fun e w' => ∃ r cap, e = .returned (.slice r 0 cap) ∧ w'.ownsRow w.heap.size 58 2 (.slice r 0 cap) 0 [] ∧ Below w.heap.size w w' := by
  obtain ⟨n, rfl⟩ : ∃ n : Nat, x = n := ⟨x.toNat, by omega⟩
  cases n with
  | zero => exact (growA_none w).mono fun e w' ⟨h1, h2⟩ => ⟨none, 0, h1, by rw [h2]; exact World.ownsRow_nil _ _ _ _, by rw [h2]; exact Below.refl _ _⟩
  | succ n => exact (growA_some (n + 1) w (by omega) (by omega)).mono fun e w' ⟨g, cap, h1, h2, h3⟩ => ⟨_, cap, h1, h2, h3⟩

set_option maxRecDepth 100000 in
set_option maxHeartbeats 1000000 in
theorem concatA_any (B0 : Nat) (a a' : Addr) (n n' c c' : Nat) (L L' : List Value) (w : World) (hn : n ≤ 1000) (hn' : n' ≤ 1000) (hl : L.length = n * 2) (hl' : L'.length = n' * 2)
    (hat : ∀ (j : Nat) (u : Value), L[j]? = some u → w.cell? (a.add j) = some u) (hat' : ∀ (j : Nat) (u : Value), L'[j]? = some u → w.cell? (a'.add j) = some u) (h1 : ∀ u ∈ L, u.oneCell' = true) (h1' : ∀ u ∈ L', u.oneCell' = true)
    (q0 : w.cell? ⟨B0, 0, none⟩ = some (.slice (some a) n c)) (q1 : w.cell? ⟨B0, 1, none⟩ = some (.slice (some a') n' c')) :
    Calls Try.prog 36 #[.slice (some ⟨B0, 0, none⟩) 2 2] w fun e w' => ∃ r d, e = .returned (.slice r (n + n') d) ∧ w'.ownsRow w.heap.size 58 2 (.slice r (n + n') d) (n + n') (L ++ L') ∧ Below w.heap.size w w' := by
  obtain ⟨i0, hi, hz0, hz1, hz2⟩ := info_parts Try.infoAtom2
  have hw : IntKind.i64.wrap ((n : Int) + (n' : Int)) = ((n + n' : Nat) : Int) := (IntWalk.i64_in _ (by omega)).trans (by omega)
  have HL := Hid.mk hl
  have HL' := Hid.mk hl'
  have HAT := Hid.mk hat
  have HAT' := Hid.mk hat'
  have H1 := Hid.mk h1
  have H1' := Hid.mk h1'
  clear hl hl' hat hat' h1 h1'
  go_enter Try.func36, Try.ntmps36
  go_wp2
  refine wp_loop_rounds 3 ?_
  rw [rounds_succ]
  go_wp2
  rw [rounds_succ]
  go_wp2
  rw [rounds_succ]
  go_wp2_with fail
  refine (growA_any _ w (by omega) (by omega)).mono ?_
  rintro e w1 ⟨r1, d1, rfl, ho1, B1⟩
  have p10 := cell_later B1 q0
  have p11 := cell_later B1 q1
  have HO1 := Hid.mk ho1
  clear ho1
  go_wp2
  refine wp_loop_rounds 3 ?_
  rw [rounds_succ]
  go_wp2_with (at_builtin; refine wpList_app_vals rfl (.tmp 31) (.tmp 32) 27 rfl w.heap.size 58 i0 (.agg #[.int .i64 0, .slice none 0 0]) 2 32 Try.underlying27 hi hz0 hz1 hz2 rfl (by decide) (.slice r1 0 d1) 0 ([]) rfl HO1.out (some a) n c L rfl HL.out (fun ad he => by cases he; exact fun j u hu => cell_later B1 (HAT.out j u hu)) H1.out (fun h => by cases h) (by unfold maxLen; omega) (by omega) B1.size ?_; intro r2 d2 w2 ho2 hg2 ht2; have B2 : Below w.heap.size w w2 := B1.grown hg2 B1.size (fun j hj => (HO1.out.lt j hj).1); have HO2 : Hid (w2.ownsRow w.heap.size 58 2 (.slice r2 n d2) n L) := Hid.mk (by simpa using ho2); have p20 := cell_later B2 q0; have p21 := cell_later B2 q1; clear ho2 hg2 ht2)
  rw [rounds_succ]
  go_wp2_with (at_builtin; refine wpList_app_vals rfl (.tmp 31) (.tmp 32) 27 rfl w.heap.size 58 i0 (.agg #[.int .i64 0, .slice none 0 0]) 2 32 Try.underlying27 hi hz0 hz1 hz2 rfl (by decide) (.slice r2 n d2) n (L) rfl HO2.out (some a') n' c' L' rfl HL'.out (fun ad he => by cases he; exact fun j u hu => cell_later B2 (HAT'.out j u hu)) H1'.out (fun h => by cases h) (by unfold maxLen; omega) (by omega) B2.size ?_; intro r3 d3 w3 ho3 hg3 ht3; have B3 : Below w.heap.size w w3 := B2.grown hg3 B2.size (fun j hj => (HO2.out.lt j hj).1); have HO3 := Hid.mk ho3; have p30 := cell_later B3 q0; have p31 := cell_later B3 q1; clear ho3 hg3 ht3)
  rw [rounds_succ]
  go_wp2
  go_ret
  exact ⟨r3, d3, rfl, HO3.out, B3⟩

end Go.Proofs.Ytociphdhkjoofaa
