/- Contracts of impl.comparePlans and costs.bestOfPlans. -/
import Derived.Test.YtkcmlphpilggpaaDoorM8
import Derived.Test.YtkcmlphpilggpaaDoorM7
import Derived.Test.YtkcmlphpilggpaaDoorM5
import Derived.Test.YtkcmlphpilggpaaDoorM9
import Derived.Deep.CutRange
import Derived.Deep.CutBlock
namespace Go.Proofs.YtkcmlphpilggpaaDoor
open Go.RowKit

set_option maxRecDepth 100000 in
set_option maxHeartbeats 4000000 in
theorem comparePlans_any (a : Option Addr) (n c : Nat) (zs : List Int) (ca : Int) (a' : Option Addr) (n' c' : Nat) (ys : List Int) (cb : Int) (w : World) (hz : zs.length = n) (hn : n ≤ 64) (ha : At w a zs) (hz' : ys.length = n') (hn' : n' ≤ 64) (ha' : At w a' ys) :
    Calls Tryd.prog 53 #[.agg #[.slice a n c, .int .i64 ca], .agg #[.slice a' n' c', .int .i64 cb]] w fun e w' => e = .returned (.int .i64 (cmpP zs ca ys cb)) ∧ Below w.heap.size w w' := by
  obtain ⟨wY, hW⟩ : ∃ W, W = (w.alloc (.cells #[.slice a n c, .int .i64 ca] 49)).alloc (.cells #[.slice a' n' c', .int .i64 cb] 49) := ⟨_, rfl⟩
  have B0 : Below w.heap.size w wY := by rw [hW]; exact ((Below.refl _ _).alloc (Nat.le_refl _) _).alloc (by simp) _
  have s0 : wY.cell? ⟨w.heap.size, 0, none⟩ = some (.slice a n c) := by rw [hW]; simp
  have s1 : wY.cell? ⟨w.heap.size, 1, none⟩ = some (.int .i64 ca) := by rw [hW]; simp
  have s2 : wY.cell? ⟨w.heap.size + 1, 0, none⟩ = some (.slice a' n' c') := by rw [hW]; simp
  have s3 : wY.cell? ⟨w.heap.size + 1, 1, none⟩ = some (.int .i64 cb) := by rw [hW]; simp
  have zlt : w.heap.size < wY.heap.size := by rw [hW]; simp; omega
  have zlt1 : w.heap.size + 1 < wY.heap.size := by rw [hW]; simp
  have KL : Hid (∀ w' : World, Below wY.heap.size wY w' → Calls Tryd.prog 50 #[.slice a n c, .slice a' n' c'] w' fun e w'' => e = .returned (.int .i64 (lexI zs ys)) ∧ w'' = w') := fun w' hw' => lexI_any a n c zs a' n' c' ys w' hz hn ((At.below ha B0).below hw') hz' hn' ((At.below ha' B0).below hw')
  obtain ⟨L, hL⟩ : ∃ L, lexI zs ys = L := ⟨_, rfl⟩
  obtain ⟨Sg, hS⟩ : ∃ S, sgnI ca cb = S := ⟨_, rfl⟩
  have HV : Hid (cmpP zs ca ys cb = if Sg = 0 then L else Sg) := by show _ = _; unfold cmpP; rw [hS, hL]
  have HSG := Hid.mk hS
  rw [hL] at KL
  clear hz ha hz' ha' hL hS
  go_enter Tryd.func53, Tryd.ntmps53
  go_upto_region 1 with fail
  rw [← hW]
  clear hW
  refine wp_region_held_drew (S := fun w' => w'.cell? ⟨w.heap.size, 0, none⟩ = some (.slice a n c) ∧ w'.cell? ⟨w.heap.size, 1, none⟩ = some (.int .i64 ca) ∧ w'.cell? ⟨w.heap.size + 1, 0, none⟩ = some (.slice a' n' c') ∧ w'.cell? ⟨w.heap.size + 1, 1, none⟩ = some (.int .i64 cb)) (by kernel_rfl) ?_ (fun hHeld => ?_)
  · (try dsimp only)
    exact ⟨s0, s1, s2, s3⟩
  refine tk 0 ?_
  refine tk 1 ?_
  refine tk 2 ?_
  refine tk 3 ?_
  refine tk 5 ?_
  refine tk 6 ?_
  refine tk 7 ?_
  refine tk 8 ?_
  obtain ⟨u0, hu0⟩ : ∃ u, u = wY.drew := ⟨_, rfl⟩
  have Y0 : Below wY.heap.size wY u0 := by rw [hu0]; exact (Below.refl _ _).drew
  rw [← hu0]
  clear hu0
  refine tr 4 (fun K hK => ?_)
  go_simp
  go_at_call 48
  refine (cmpI_any ca cb u0).mono ?_
  rintro e wd1 ⟨rfl, hw1⟩
  obtain rfl := hw1.symm
  clear hw1
  rw [HSG.out]
  (try go_wp2_with fail)
  refine hK.out _ _ ?_ (fun hHeld' => ?_)
  · (try dsimp only)
    exact ⟨(Y0.cell zlt).trans s0, (Y0.cell zlt).trans s1, (Y0.cell zlt1).trans s2, (Y0.cell zlt1).trans s3⟩
  clear hK K hHeld
  have hHeld := hHeld'
  clear hHeld'
  (try simp only [Act.put, List.setIfInBounds_toArray, List.set_cons_zero, List.set_cons_succ])
  refine tr 9 (fun K hK => ?_)
  go_simp
  go_at_call 50
  refine (KL.out u0 Y0).mono ?_
  rintro e wd2 ⟨rfl, hw2⟩
  obtain rfl := hw2.symm
  clear hw2
  (try go_wp2_with fail)
  refine hK.out _ _ ?_ (fun hHeld' => ?_)
  · (try dsimp only)
    exact ⟨(Y0.cell zlt).trans s0, (Y0.cell zlt).trans s1, (Y0.cell zlt1).trans s2, (Y0.cell zlt1).trans s3⟩
  clear hK K hHeld
  have hHeld := hHeld'
  clear hHeld'
  (try simp only [Act.put, List.setIfInBounds_toArray, List.set_cons_zero, List.set_cons_succ])
  refine wpAnyH_ready (rs := [10]) (by kernel_rfl) (by simp) ?_
  refine AllReadyH.cons (o := ?_) ?_ (fun K hK => ?_) AllReadyH.nil
  rotate_left
  · (simp only [List.getElem?_toArray, List.getElem?_cons_zero, List.getElem?_cons_succ]; rfl)
  go_simp
  skip
  (try go_wp2_with fail)
  refine hK.out _ _ ?_ (fun hHeld' => ?_)
  · (try dsimp only)
    exact ⟨((Y0.alloc Y0.size _).cell zlt).trans s0, ((Y0.alloc Y0.size _).cell zlt).trans s1, ((Y0.alloc Y0.size _).cell zlt1).trans s2, ((Y0.alloc Y0.size _).cell zlt1).trans s3⟩
  clear hK K hHeld
  have hHeld := hHeld'
  clear hHeld'
  (try simp only [Act.put, List.setIfInBounds_toArray, List.set_cons_zero, List.set_cons_succ])
  obtain ⟨v, hv⟩ : ∃ u, u = u0.alloc (.cells #[.int .i64 Sg, .int .i64 L] 3) := ⟨_, rfl⟩
  have Y1 : Below wY.heap.size wY v := by rw [hv]; exact Y0.alloc Y0.size _
  have n0 : v.cell? ⟨u0.heap.size, 0, none⟩ = some (.int .i64 Sg) := by rw [hv]; simp
  have n1 : v.cell? ⟨u0.heap.size, 1, none⟩ = some (.int .i64 L) := by rw [hv]; simp
  rw [← hv]
  clear hv
  refine tr 11 (fun K hK => ?_)
  go_simp
  go_at_call 47
  refine (or2_any u0.heap.size Sg L v n0 n1).mono ?_
  rintro e wd3 ⟨rfl, hw3⟩
  obtain rfl := hw3.symm
  clear hw3
  rw [← HV.out]
  (try go_wp2_with fail)
  refine hK.out _ _ ?_ (fun hHeld' => ?_)
  · (try dsimp only)
    exact ⟨(Y1.cell zlt).trans s0, (Y1.cell zlt).trans s1, (Y1.cell zlt1).trans s2, (Y1.cell zlt1).trans s3⟩
  clear hK K hHeld
  have hHeld := hHeld'
  clear hHeld'
  (try simp only [Act.put, List.setIfInBounds_toArray, List.set_cons_zero, List.set_cons_succ])
  refine tk 12 ?_
  refine wpAnyH_done (by kernel_rfl) ?_ _
  go_wp2
  go_ret
  exact ⟨rfl, B0.trans (Y1.mono B0.size)⟩

/-- A plan of the set T that lies in the list of plans. -/
structure PlAt (w : World) (base g : Nat) (zs : List Int) (fs : List (List Int)) (T : Nat) : Prop where
  ex : ∃ r d, w.cell? ⟨g, T * 2, none⟩ = some (.slice r (bl T).length d) ∧ w.cell? ⟨g, T * 2 + 1, none⟩ = some (.int .i64 (pC zs fs T)) ∧ w.ownsRow base 3 1 (.slice r (bl T).length d) (bl T).length ((pO zs fs T).map (.int .i64))
theorem PlAt.below {w w' : World} {base g : Nat} {zs : List Int} {fs : List (List Int)} {T : Nat} (h : PlAt w base g zs fs T) (hb : Below w.heap.size w w') : PlAt w' base g zs fs T := by
  obtain ⟨r, d, h1, h2, h3⟩ := h.ex
  exact ⟨r, d, cell_later hb h1, cell_later hb h2, owns_below h3 hb⟩
theorem own_nil {w : World} {base : Nat} {a : Option Addr} {n c : Nat} {xs : List Value} (h : w.ownsRow base 3 1 (.slice a n c) n xs) : a = none → c = 0 := by
  rcases h.2 with ⟨e, _⟩ | ⟨g, cap, cur, e, _⟩
  · simp only [Value.slice.injEq] at e; exact fun _ => e.2.2
  · simp only [Value.slice.injEq] at e; rw [e.1]; exact fun h => by cases h
theorem blk_not_own {w : World} {base B : Nat} {e t : TypeId} {size : Nat} {v : Value} {n : Nat} {xs : List Value} {cs : Array Value} {z : Nat × Nat} (hb : w.heap[B]? = some (.cells cs t z)) (hte : t ≠ e) (ho : w.ownsRow base e size v n xs) : v.ownBlock ≠ some B := by
  rcases ho.2 with ⟨rfl, _⟩ | ⟨g, cap, cur, rfl, hbb, hg, _⟩
  · simp [Value.ownBlock]
  · intro h
    have e1 : g = B := by simpa [Value.ownBlock] using h
    rw [e1, hb] at hg
    simp only [Option.some.injEq, Obj.cells.injEq] at hg
    exact hte hg.2.1
theorem own_set2 {w : World} {base B : Nat} {e t : TypeId} {size : Nat} {v : Value} {n : Nat} {xs : List Value} {cs : Array Value} {z : Nat × Nat} (ho : w.ownsRow base e size v n xs) (hb : w.heap[B]? = some (.cells cs t z)) (hte : t ≠ e) (x y : Value) : ((w.setCell ⟨B, 0, none⟩ x).setCell ⟨B, 1, none⟩ y).ownsRow base e size v n xs :=
  ownsRow_frame ho fun j hj _ => by
    have hne : j ≠ B := fun e => blk_not_own hb hte ho (e ▸ hj)
    rw [Below.heap_setCell _ _ _ j (by simpa using hne), Below.heap_setCell _ _ _ j (by simpa using hne)]
/-- What a round of bestOfPlans finds. -/
structure BpI (w wr : World) (b : Nat) (zs : List Int) (fs : List (List Int)) (S : Nat) (r0 : Option Addr) (m0 d0 k m : Nat) (r : Option Addr) (d : Nat) : Prop where
  cb : wr.heap[w.heap.size]? = some (.cells #[.func (.func 38) #[] #[.pointer (some ⟨b, 0, none⟩)]] 52 (0, 0))
  rb : wr.heap[w.heap.size + 1]? = some (.cells #[.slice none 0 0, .int .i64 0] 49 (0, 0))
  lb : wr.heap[w.heap.size + 1 + 1]? = some (.cells #[.slice r m d, .int .i64 (costL zs fs (bstT zs fs (bl S) k))] 49 (0, 0))
  tb : wr.ownsRow (w.heap.size + 3) 3 1 (.slice r0 m0 d0) m0 ((bl S).map (.int .i64))
  ob : wr.ownsRow (w.heap.size + 3) 3 1 (.slice r m d) m ((bstT zs fs (bl S) k).map (.int .i64))
  lo : Below w.heap.size w wr
  sz : w.heap.size + 3 ≤ wr.heap.size

set_option maxRecDepth 100000 in
set_option maxHeartbeats 16000000 in
theorem bestOfPlans_any (b g base pn pc S : Nat) (zs : List Int) (fs : List (List Int)) (w : World) (hbx : BoxS w b zs fs) (hg : GsF zs fs) (hS : S < 64) (hT : TbL zs.length (bl S)) (hpn : S < pn) (hp64 : pn ≤ 64) (hpl : ∀ x : Nat, x < 6 → (x : Int) ∈ bl S → PlAt w base g zs fs (S &&& (18446744073709551615 - 2 ^ x))) (ht : TabB w) :
    Calls Tryd.prog 41 #[.agg #[.func (.func 38) #[] #[.pointer (some ⟨b, 0, none⟩)]], .int .u64 (S : Nat), .slice (some ⟨g, 0, none⟩) pn pc] w fun e w' => ∃ r d, e = .returned (.agg #[.slice r (bl S).length d, .int .i64 (pC zs fs S)]) ∧ w'.ownsRow w.heap.size 3 1 (.slice r (bl S).length d) (bl S).length ((pO zs fs S).map (.int .i64)) ∧ Below w.heap.size w w' := by
  obtain ⟨j0, hj0, hy0, hy1, hy2⟩ := info_parts Tryd.infoInt
  obtain ⟨W, hW⟩ : ∃ W, W = ((w.alloc (.cells #[.func (.func 38) #[] #[.pointer (some ⟨b, 0, none⟩)]] 52)).alloc (.cells #[.slice none 0 0, .int .i64 0] 49)).alloc (.cells #[.slice none 0 0, .int .i64 0] 49) := ⟨_, rfl⟩
  have B0 : Below w.heap.size w W := by rw [hW]; exact (((Below.refl _ _).alloc (Nat.le_refl _) _).alloc (by simp) _).alloc (by simp; omega) _
  have zW : W.heap.size = w.heap.size + 3 := by rw [hW]; simp
  have k2 : W.heap[w.heap.size + 1 + 1]? = some (.cells #[.slice none 0 0, .int .i64 0] 49 (0, 0)) := by
    rw [hW]
    have q := heap_alloc_new ((w.alloc (.cells #[.func (.func 38) #[] #[.pointer (some ⟨b, 0, none⟩)]] 52)).alloc (.cells #[.slice none 0 0, .int .i64 0] 49)) (.cells #[.slice none 0 0, .int .i64 0] 49)
    simpa only [World.size_alloc] using q
  have k1 : W.heap[w.heap.size + 1]? = some (.cells #[.slice none 0 0, .int .i64 0] 49 (0, 0)) := by
    rw [hW]
    refine blk_alloc ?_ _
    have q := heap_alloc_new (w.alloc (.cells #[.func (.func 38) #[] #[.pointer (some ⟨b, 0, none⟩)]] 52)) (.cells #[.slice none 0 0, .int .i64 0] 49)
    simpa only [World.size_alloc] using q
  have k0 : W.heap[w.heap.size]? = some (.cells #[.func (.func 38) #[] #[.pointer (some ⟨b, 0, none⟩)]] 52 (0, 0)) := by
    rw [hW]
    exact blk_alloc (blk_alloc (heap_alloc_new w _) _) _
  have KL := Hid.mk (list_any S W hS (TabIs.below ht B0))
  have HBX := Hid.mk hbx
  have HG := Hid.mk hg
  have HT := Hid.mk hT
  have HPL := Hid.mk hpl
  have HZW := Hid.mk zW
  clear hbx hg hT hpl ht zW
  go_enter Tryd.func41, Tryd.ntmps41
  go_upto_region 2 with fail
  rw [← hW]
  clear hW
  go_wp2_with fail
  refine KL.out.mono ?_
  rintro e W1 ⟨r0, m0, d0, rfl, hm0, ho0, hb0⟩
  have hm6 : m0 ≤ 6 := by have := bl_len S; omega
  have HM0 := Hid.mk hm0
  have I0 : Hid (BpI w W1 b zs fs S r0 m0 d0 0 0 none 0) := ⟨blk_below k0 hb0, blk_below k1 hb0, blk_below k2 hb0, owns_mono ho0 (by rw [HZW.out]; exact Nat.le_refl _), World.ownsRow_nil _ _ _ _, B0.trans (hb0.mono B0.size), by have := hb0.size; have := HZW.out; omega⟩
  clear hm0 ho0 hb0 k0 k1 k2 KL
  go_wp2
  go_loopw [17] (fun i wr => ∃ (k m : Nat) (r : Option Addr) (d : Nat), k ≤ m0 ∧ i = .int .i64 k ∧ (m = 0 ∧ k = 0 ∨ m = m0 ∧ 0 < k) ∧ (bstT zs fs (bl S) k).length = m ∧ BpI w wr b zs fs S r0 m0 d0 k m r d) (fun i _ => m0 - (intOf i).toNat)
  case atStart => exact ⟨0, 0, none, 0, Nat.zero_le _, rfl, .inl ⟨rfl, rfl⟩, rfl, I0.out⟩
  case round =>
    clear I0
    obtain ⟨k, m, r, d, hk, rfl, hmk, hlb, hI⟩ := hrel
    by_cases hlt : k < m0
    · obtain ⟨x, hx⟩ : ∃ x, (bl S)[k]? = some x := ⟨_, List.getElem?_eq_getElem (by have := HM0.out; omega)⟩
      have hxm := List.mem_of_getElem? hx
      have hxr := bl_in hxm
      obtain ⟨p, rfl⟩ : ∃ p : Nat, x = (p : Int) := ⟨x.toNat, by omega⟩
      have hp6 : p < 6 := by omega
      have hat := At.owned hI.tb
      obtain ⟨tb, toff, rfl, _, htc⟩ := hat.some (by have := HM0.out; omega)
      have hcx : wr.cell? ⟨tb, toff + k, none⟩ = some (.int .i64 (p : Nat)) := by
        rw [htc k (by have := HM0.out; omega)]
        have : (bl S).getD k 0 = (p : Int) := by simp [List.getD, hx]
        rw [this]
      have hpl0 := HPL.out p hp6 hxm
      obtain ⟨ra, da, a0, a1, oa⟩ := hpl0.ex
      have a0 := (hI.lo.cell (World.block_lt_of_cell? _ _ a0)).trans a0
      have a1 := (hI.lo.cell (World.block_lt_of_cell? _ _ a1)).trans a1
      have hpw := wrap_pow (x := (p : Int)) (by omega) (by omega)
      rw [Int.toNat_natCast] at hpw
      have h2p := two_pow_lt (x := p) hp6
      have hand := u64_andNot_nat S (2 ^ p) (by omega) (by omega)
      obtain ⟨Dm, hDm⟩ : ∃ D : Nat, 2 ^ p = D := ⟨_, rfl⟩
      obtain ⟨Q, hQ⟩ : ∃ Q, S &&& (18446744073709551615 - Dm) = Q := ⟨_, rfl⟩
      have hQl : Q < pn := by rw [← hQ]; exact Nat.lt_of_le_of_lt Nat.and_le_left hpn
      have HC := Hid.mk (cand_pO zs fs hS hp6)
      have HCC := Hid.mk (cost_pO zs fs hS hp6 hxm)
      have HQL : Hid ((bl Q).length + 1 = m0) := by
        show _ = _
        rw [← hQ, ← hDm, ← wo_all S hS p hp6]
        have := woI_len1 (bl_nd S hS) hxm
        have := HM0.out
        omega
      rw [hDm] at hpw hand HC HCC a0 a1 oa
      rw [hQ] at hand HC HCC a0 a1 oa
      have HDM := Hid.mk hDm
      have hki : (k : Int) < (m0 : Int) := by omega
      have HI := Hid.mk hI
      have HST := Hid.mk (bstT_succ zs fs hx)
      have HXM := Hid.mk hxm
      have HLB := Hid.mk hlb
      have hcin : 0 ≤ pC zs fs Q ∧ pC zs fs Q ≤ 93750000000 := by
        have htq : TbL zs.length (bl Q) := by rw [← hQ, ← hDm, ← wo_all S hS p hp6]; exact HT.out.wo _
        have hq64 : Q < 64 := by omega
        have h9 := csN_in HG.out (htq.best zs fs) (bestL zs fs (bl Q)).length
        have h8 : (bestL zs fs (bl Q)).length = (bl Q).length := pO_len zs fs hq64
        have h7 := bl_len Q
        have h6 : pC zs fs Q = csN zs fs (bestL zs fs (bl Q)) (bestL zs fs (bl Q)).length := rfl
        rw [h6]
        have h5 : ((bestL zs fs (bl Q)).length : Int) ≤ 6 := by omega
        omega
      obtain ⟨ma, hma⟩ : ∃ ma, (bl Q).length = ma := ⟨_, rfl⟩
      rw [hma] at a0 oa HQL
      have hma6 : ma ≤ 6 := by have := HQL.out; omega
      obtain ⟨CA, hCA⟩ : ∃ C, pC zs fs Q = C := ⟨_, rfl⟩
      rw [hCA] at a1 HCC hcin
      clear hx hxm hxr hat htc hpl0 h2p hDm hQ hlb hI hma hCA
      obtain ⟨V, hV⟩ : ∃ V, V = wr.alloc (.cells #[.slice ra ma da, .int .i64 CA] 49) := ⟨_, rfl⟩
      have hbV : Below wr.heap.size wr V := by rw [hV]; exact (Below.refl _ _).alloc (Nat.le_refl _) _
      have zV : V.heap.size = wr.heap.size + 1 := by rw [hV]; simp
      have s0 : V.cell? ⟨wr.heap.size, 0, none⟩ = some (.slice ra ma da) := by rw [hV]; simp
      have s1 : V.cell? ⟨wr.heap.size, 1, none⟩ = some (.int .i64 CA) := by rw [hV]; simp
      have s2 : V.cell? ⟨w.heap.size, 0, none⟩ = some (.func (.func 38) #[] #[.pointer (some ⟨b, 0, none⟩)]) := cell_later hbV (blk_cell HI.out.cb 0 rfl)
      have zlt : wr.heap.size < V.heap.size := by omega
      have zlt2 : w.heap.size < V.heap.size := by have := HI.out.sz; omega
      have hBV := HI.out.lo.trans (hbV.mono HI.out.lo.size)
      have KC : Hid (∀ w' : World, Below V.heap.size V w' → Calls Tryd.prog 52 #[.slice ra ma da] w' fun e w'' => ∃ r d, e = .returned (.slice r ma d) ∧ w''.ownsRow w'.heap.size 3 1 (.slice r ma d) ma ((pO zs fs Q).map (.int .i64)) ∧ Below w'.heap.size w' w'') := fun w' hw' => by
        have hoV := owns_below oa (hBV.trans (hw'.mono hBV.size))
        exact cloneI_any ra ma da (pO zs fs Q) w' (by have h9 := hoV.1; simpa using h9) (by omega) (own_nil hoV) (At.owned hoV)
      have KO : Hid (∀ w' : World, Below V.heap.size V w' → Calls Tryd.prog 38 #[.slice (some ⟨tb, toff, none⟩) m0 d0, .pointer (some ⟨b, 0, none⟩)] w' fun e w'' => e = .returned (.int .i64 (lastC zs fs (bl S))) ∧ Below w'.heap.size w' w'') := fun w' hw' =>
        ofLast_any b zs fs (some ⟨tb, toff, none⟩) m0 d0 (bl S) w' (HBX.out.below (hBV.trans (hw'.mono hBV.size))) HM0.out (own_cap HI.out.tb) (At.below (At.below (At.owned HI.out.tb) hbV) hw') HG.out HT.out
      have hlin := lastC_in HG.out HT.out
      obtain ⟨LC, hLC⟩ : ∃ C, lastC zs fs (bl S) = C := ⟨_, rfl⟩
      rw [hLC] at KO HCC hlin
      obtain ⟨C2, hC2⟩ : ∃ C, CA + LC = C := ⟨_, rfl⟩
      rw [hC2] at HCC
      have hwc : IntKind.i64.wrap (CA + LC) = C2 := by rw [hC2]; exact IntWalk.i64_in _ (by omega)
      have HBV := Hid.mk hbV
      clear hLC hC2 hBV hbV oa
      go_upto_region 7 with fail
      rw [← hV]
      clear hV a0 a1 hcx
      go_cut [12] from 19 to 52 (fun t12 wx => ∃ (PB : Nat) (r2 : Option Addr) (d2 : Nat), t12 = .pointer (some ⟨PB, 0, none⟩) ∧ wx.heap[PB]? = some (.cells #[.slice r2 m0 d2, .int .i64 C2] 49 (0, 0)) ∧ wx.ownsRow V.heap.size 3 1 (.slice r2 m0 d2) m0 ((cand zs fs (bl S) (p : Int)).map (.int .i64)) ∧ V.heap.size ≤ PB ∧ Below V.heap.size V wx)
      case first =>
        refine wp_region_held_drew (S := fun w' => w'.cell? ⟨wr.heap.size, 0, none⟩ = some (.slice ra ma da) ∧ w'.cell? ⟨wr.heap.size, 1, none⟩ = some (.int .i64 CA) ∧ w'.cell? ⟨w.heap.size, 0, none⟩ = some (.func (.func 38) #[] #[.pointer (some ⟨b, 0, none⟩)])) (by kernel_rfl) ?_ (fun hHeld => ?_)
        · (try dsimp only)
          exact ⟨s0, s1, s2⟩
        refine tk 0 ?_
        refine tk 1 ?_
        refine tk 3 ?_
        refine tk 6 ?_
        refine tk 7 ?_
        refine tk 8 ?_
        refine tk 9 ?_
        refine tk 10 ?_
        obtain ⟨u0, hu0⟩ : ∃ u, u = V.drew := ⟨_, rfl⟩
        have Y0 : Below V.heap.size V u0 := by rw [hu0]; exact (Below.refl _ _).drew
        rw [← hu0]
        clear hu0
        refine wpAnyH_ready (rs := [2, 4, 14]) (by kernel_rfl) (by simp) ?_
        refine AllReadyH.cons (o := ?_) ?_ (fun K hK => ?_) ?_
        rotate_left
        · (simp only [List.getElem?_toArray, List.getElem?_cons_zero, List.getElem?_cons_succ]; rfl)
        · go_simp
          go_at_call 52
          refine (KC.out u0 Y0).mono ?_
          rintro e wk1 ⟨r1, d1, rfl, ho1, hbk1⟩
          have HBk1 : Below V.heap.size V wk1 := Y0.trans (hbk1.mono Y0.size)
          have HO1 := Hid.mk (owns_mono ho1 Y0.size)
          clear ho1
          (try go_wp2_with fail)
          refine hK.out _ _ ?_ (fun hHeld' => ?_)
          · (try dsimp only)
            exact ⟨(HBk1.cell zlt).trans s0, (HBk1.cell zlt).trans s1, (HBk1.cell zlt2).trans s2⟩
          clear hK K hHeld
          have hHeld := hHeld'
          clear hHeld'
          (try simp only [Act.put, List.setIfInBounds_toArray, List.set_cons_zero, List.set_cons_succ])
          refine wpAnyH_ready (rs := [4, 14]) (by kernel_rfl) (by simp) ?_
          refine AllReadyH.cons (o := ?_) ?_ (fun K hK => ?_) ?_
          rotate_left
          · (simp only [List.getElem?_toArray, List.getElem?_cons_zero, List.getElem?_cons_succ]; rfl)
          · go_simp
            (try go_wp2_with fail)
            refine hK.out _ _ ?_ (fun hHeld' => ?_)
            · (try dsimp only)
              exact ⟨((HBk1.alloc HBk1.size _).cell zlt).trans s0, ((HBk1.alloc HBk1.size _).cell zlt).trans s1, ((HBk1.alloc HBk1.size _).cell zlt2).trans s2⟩
            clear hK K hHeld
            have hHeld := hHeld'
            clear hHeld'
            (try simp only [Act.put, List.setIfInBounds_toArray, List.set_cons_zero, List.set_cons_succ])
            obtain ⟨vk2, hv2⟩ : ∃ u, u = wk1.alloc (.cells #[.int .i64 (p : Nat)] 3) := ⟨_, rfl⟩
            have hbk2 : Below wk1.heap.size wk1 vk2 := by rw [hv2]; exact (Below.refl _ _).alloc (Nat.le_refl _) _
            have HBk2 : Below V.heap.size V vk2 := HBk1.trans (hbk2.mono HBk1.size)
            have HO1 := Hid.mk (owns_below HO1.out hbk2)
            have nw : vk2.cell? ⟨wk1.heap.size, 0, none⟩ = some (.int .i64 (p : Nat)) := by rw [hv2]; simp
            rw [← hv2]
            clear hv2
            refine wpAnyH_ready (rs := [5, 14]) (by kernel_rfl) (by simp) ?_
            refine AllReadyH.cons (o := ?_) ?_ (fun K hK => ?_) ?_
            rotate_left
            · (simp only [List.getElem?_toArray, List.getElem?_cons_zero, List.getElem?_cons_succ]; rfl)
            · refine step_append_vals rfl (.tmp 31) (.tmp 33) 22 rfl V.heap.size 3 j0 (.int .i64 0) 1 8 Tryd.underlying22 hj0 hy0 hy1 hy2 rfl (by decide) (.slice r1 ma d1) ma ((pO zs fs Q).map (.int .i64)) (by simp [Act.eval]) (HO1.out) (some ⟨wk1.heap.size, 0, none⟩) 1 1 [.int .i64 (p : Nat)] (by simp [Act.eval]) rfl (fun ad he => by cases he; intro j u hu; match j, hu with | 0, hu => obtain rfl := Option.some.inj hu; exact nw) (by intro u hu; simp at hu; rw [hu]; rfl) (fun h => by cases h) (by unfold maxLen; omega) (by omega) (HBk2.size) (fun r5 d5 wk3 ho5 hg5 ht5 => ?_)
              have HBk3 : Below V.heap.size V wk3 := HBk2.grown hg5 HBk2.size (fun j hj => (HO1.out.lt j hj).1)
              have HO5 := Hid.mk ho5
              clear ho5 hg5 ht5
              refine hK.out _ _ ?_ (fun hHeld' => ?_)
              · (try dsimp only)
                exact ⟨(HBk3.cell zlt).trans s0, (HBk3.cell zlt).trans s1, (HBk3.cell zlt2).trans s2⟩
              clear hK K hHeld
              have hHeld := hHeld'
              clear hHeld'
              (try simp only [Act.put, List.setIfInBounds_toArray, List.set_cons_zero, List.set_cons_succ])
              refine wpAnyH_ready (rs := [11, 14]) (by kernel_rfl) (by simp) ?_
              refine AllReadyH.cons (o := ?_) ?_ (fun K hK => ?_) ?_
              rotate_left
              · (simp only [List.getElem?_toArray, List.getElem?_cons_zero, List.getElem?_cons_succ]; rfl)
              · go_simp
                go_at_call 38
                refine (KO.out wk3 HBk3).mono ?_
                rintro e wk4 ⟨rfl, hbk4⟩
                have HBk4 : Below V.heap.size V wk4 := HBk3.trans (hbk4.mono HBk3.size)
                have HO5 := Hid.mk (owns_below HO5.out hbk4)
                (try go_wp2_with fail)
                refine hK.out _ _ ?_ (fun hHeld' => ?_)
                · (try dsimp only)
                  exact ⟨(HBk4.cell zlt).trans s0, (HBk4.cell zlt).trans s1, (HBk4.cell zlt2).trans s2⟩
                clear hK K hHeld
                have hHeld := hHeld'
                clear hHeld'
                (try simp only [Act.put, List.setIfInBounds_toArray, List.set_cons_zero, List.set_cons_succ])
                refine tk 12 ?_
                refine tk 13 ?_
                refine wpAnyH_ready (rs := [14]) (by kernel_rfl) (by simp) ?_
                refine AllReadyH.cons (o := ?_) ?_ (fun K hK => ?_) AllReadyH.nil
                rotate_left
                · (simp only [List.getElem?_toArray, List.getElem?_cons_zero, List.getElem?_cons_succ]; rfl)
                go_simp
                (try go_wp2_with fail)
                refine hK.out _ _ ?_ (fun hHeld' => ?_)
                · (try dsimp only)
                  exact ⟨((HBk4.alloc HBk4.size _).cell zlt).trans s0, ((HBk4.alloc HBk4.size _).cell zlt).trans s1, ((HBk4.alloc HBk4.size _).cell zlt2).trans s2⟩
                clear hK K hHeld
                have hHeld := hHeld'
                clear hHeld'
                (try simp only [Act.put, List.setIfInBounds_toArray, List.set_cons_zero, List.set_cons_succ])
                obtain ⟨vk5, hv5⟩ : ∃ u, u = wk4.alloc (.cells #[.slice none 0 0, .int .i64 0] 49) := ⟨_, rfl⟩
                have hbk5 : Below wk4.heap.size wk4 vk5 := by rw [hv5]; exact (Below.refl _ _).alloc (Nat.le_refl _) _
                have HBk5 : Below V.heap.size V vk5 := HBk4.trans (hbk5.mono HBk4.size)
                have HO5 := Hid.mk (owns_below HO5.out hbk5)
                have pb : vk5.heap[wk4.heap.size]? = some (.cells #[.slice none 0 0, .int .i64 0] 49 (0, 0)) := by rw [hv5]; exact heap_alloc_new _ _
                have zpb : V.heap.size ≤ wk4.heap.size := HBk4.size
                rw [← hv5]
                clear hv5
                have qs0 := blk_cell pb 0 rfl
                have qs1 := blk_cell pb 1 rfl
                have fs0 := blk_frozen pb 0
                have fs1 := blk_frozen pb 1
                refine wpAnyH_ready (rs := [15]) (by kernel_rfl) (by simp) ?_
                refine AllReadyH.cons (o := ?_) ?_ (fun K hK => ?_) AllReadyH.nil
                rotate_left
                · (simp only [List.getElem?_toArray, List.getElem?_cons_zero, List.getElem?_cons_succ]; rfl)
                go_simp
                (try go_wp2_with fail)
                refine hK.out _ _ ?_ (fun hHeld' => ?_)
                · (try dsimp only)
                  exact ⟨(((HBk5.setCell (p := ⟨wk4.heap.size, 0, none⟩) zpb _).setCell (p := ⟨wk4.heap.size, 1, none⟩) zpb _).cell zlt).trans s0, (((HBk5.setCell (p := ⟨wk4.heap.size, 0, none⟩) zpb _).setCell (p := ⟨wk4.heap.size, 1, none⟩) zpb _).cell zlt).trans s1, (((HBk5.setCell (p := ⟨wk4.heap.size, 0, none⟩) zpb _).setCell (p := ⟨wk4.heap.size, 1, none⟩) zpb _).cell zlt2).trans s2⟩
                clear hK K hHeld
                have hHeld := hHeld'
                clear hHeld'
                (try simp only [Act.put, List.setIfInBounds_toArray, List.set_cons_zero, List.set_cons_succ])
                refine wpAnyH_done (by kernel_rfl) ?_ _
                (try go_wp2_with fail)
                go_meet
                case rel =>
                  refine ⟨wk4.heap.size, r5, d5, rfl, ?_, ?_, zpb, ((HBk5.setCell (p := ⟨wk4.heap.size, 0, none⟩) zpb _).setCell (p := ⟨wk4.heap.size, 1, none⟩) zpb _)⟩
                  · have e9 : ma + 1 = m0 := HQL.out
                    rw [← e9]
                    exact blk_set (blk_set pb 0 _) 1 _
                  · have e9 : ma + 1 = m0 := HQL.out
                    rw [← e9, HC.out, List.map_append]
                    exact own_set2 HO5.out pb (by decide) _ _
              refine AllReadyH.cons (o := ?_) ?_ (fun K hK => ?_) AllReadyH.nil
              rotate_left
              · (simp only [List.getElem?_toArray, List.getElem?_cons_zero, List.getElem?_cons_succ]; rfl)
              · go_simp
                (try go_wp2_with fail)
                refine hK.out _ _ ?_ (fun hHeld' => ?_)
                · (try dsimp only)
                  exact ⟨((HBk3.alloc HBk3.size _).cell zlt).trans s0, ((HBk3.alloc HBk3.size _).cell zlt).trans s1, ((HBk3.alloc HBk3.size _).cell zlt2).trans s2⟩
                clear hK K hHeld
                have hHeld := hHeld'
                clear hHeld'
                (try simp only [Act.put, List.setIfInBounds_toArray, List.set_cons_zero, List.set_cons_succ])
                obtain ⟨vk7, hv7⟩ : ∃ u, u = wk3.alloc (.cells #[.slice none 0 0, .int .i64 0] 49) := ⟨_, rfl⟩
                have hbk7 : Below wk3.heap.size wk3 vk7 := by rw [hv7]; exact (Below.refl _ _).alloc (Nat.le_refl _) _
                have HBk7 : Below V.heap.size V vk7 := HBk3.trans (hbk7.mono HBk3.size)
                have HO5 := Hid.mk (owns_below HO5.out hbk7)
                have pb : vk7.heap[wk3.heap.size]? = some (.cells #[.slice none 0 0, .int .i64 0] 49 (0, 0)) := by rw [hv7]; exact heap_alloc_new _ _
                have zpb : V.heap.size ≤ wk3.heap.size := HBk3.size
                rw [← hv7]
                clear hv7
                refine wpAnyH_ready (rs := [11]) (by kernel_rfl) (by simp) ?_
                refine AllReadyH.cons (o := ?_) ?_ (fun K hK => ?_) AllReadyH.nil
                rotate_left
                · (simp only [List.getElem?_toArray, List.getElem?_cons_zero, List.getElem?_cons_succ]; rfl)
                go_simp
                go_at_call 38
                refine (KO.out vk7 HBk7).mono ?_
                rintro e wk8 ⟨rfl, hbk8⟩
                have HBk8 : Below V.heap.size V wk8 := HBk7.trans (hbk8.mono HBk7.size)
                have HO5 := Hid.mk (owns_below HO5.out hbk8)
                have pb := blk_below pb hbk8
                (try go_wp2_with fail)
                refine hK.out _ _ ?_ (fun hHeld' => ?_)
                · (try dsimp only)
                  exact ⟨(HBk8.cell zlt).trans s0, (HBk8.cell zlt).trans s1, (HBk8.cell zlt2).trans s2⟩
                clear hK K hHeld
                have hHeld := hHeld'
                clear hHeld'
                (try simp only [Act.put, List.setIfInBounds_toArray, List.set_cons_zero, List.set_cons_succ])
                refine tk 12 ?_
                refine tk 13 ?_
                have qs0 := blk_cell pb 0 rfl
                have qs1 := blk_cell pb 1 rfl
                have fs0 := blk_frozen pb 0
                have fs1 := blk_frozen pb 1
                refine wpAnyH_ready (rs := [15]) (by kernel_rfl) (by simp) ?_
                refine AllReadyH.cons (o := ?_) ?_ (fun K hK => ?_) AllReadyH.nil
                rotate_left
                · (simp only [List.getElem?_toArray, List.getElem?_cons_zero, List.getElem?_cons_succ]; rfl)
                go_simp
                (try go_wp2_with fail)
                refine hK.out _ _ ?_ (fun hHeld' => ?_)
                · (try dsimp only)
                  exact ⟨(((HBk8.setCell (p := ⟨wk3.heap.size, 0, none⟩) zpb _).setCell (p := ⟨wk3.heap.size, 1, none⟩) zpb _).cell zlt).trans s0, (((HBk8.setCell (p := ⟨wk3.heap.size, 0, none⟩) zpb _).setCell (p := ⟨wk3.heap.size, 1, none⟩) zpb _).cell zlt).trans s1, (((HBk8.setCell (p := ⟨wk3.heap.size, 0, none⟩) zpb _).setCell (p := ⟨wk3.heap.size, 1, none⟩) zpb _).cell zlt2).trans s2⟩
                clear hK K hHeld
                have hHeld := hHeld'
                clear hHeld'
                (try simp only [Act.put, List.setIfInBounds_toArray, List.set_cons_zero, List.set_cons_succ])
                refine wpAnyH_done (by kernel_rfl) ?_ _
                (try go_wp2_with fail)
                go_meet
                case rel =>
                  refine ⟨wk3.heap.size, r5, d5, rfl, ?_, ?_, zpb, ((HBk8.setCell (p := ⟨wk3.heap.size, 0, none⟩) zpb _).setCell (p := ⟨wk3.heap.size, 1, none⟩) zpb _)⟩
                  · have e9 : ma + 1 = m0 := HQL.out
                    rw [← e9]
                    exact blk_set (blk_set pb 0 _) 1 _
                  · have e9 : ma + 1 = m0 := HQL.out
                    rw [← e9, HC.out, List.map_append]
                    exact own_set2 HO5.out pb (by decide) _ _
            refine AllReadyH.cons (o := ?_) ?_ (fun K hK => ?_) AllReadyH.nil
            rotate_left
            · (simp only [List.getElem?_toArray, List.getElem?_cons_zero, List.getElem?_cons_succ]; rfl)
            · go_simp
              (try go_wp2_with fail)
              refine hK.out _ _ ?_ (fun hHeld' => ?_)
              · (try dsimp only)
                exact ⟨((HBk2.alloc HBk2.size _).cell zlt).trans s0, ((HBk2.alloc HBk2.size _).cell zlt).trans s1, ((HBk2.alloc HBk2.size _).cell zlt2).trans s2⟩
              clear hK K hHeld
              have hHeld := hHeld'
              clear hHeld'
              (try simp only [Act.put, List.setIfInBounds_toArray, List.set_cons_zero, List.set_cons_succ])
              obtain ⟨vk10, hv10⟩ : ∃ u, u = vk2.alloc (.cells #[.slice none 0 0, .int .i64 0] 49) := ⟨_, rfl⟩
              have hbk10 : Below vk2.heap.size vk2 vk10 := by rw [hv10]; exact (Below.refl _ _).alloc (Nat.le_refl _) _
              have HBk10 : Below V.heap.size V vk10 := HBk2.trans (hbk10.mono HBk2.size)
              have HO1 := Hid.mk (owns_below HO1.out hbk10)
              have nw := cell_later hbk10 nw
              have pb : vk10.heap[vk2.heap.size]? = some (.cells #[.slice none 0 0, .int .i64 0] 49 (0, 0)) := by rw [hv10]; exact heap_alloc_new _ _
              have zpb : V.heap.size ≤ vk2.heap.size := HBk2.size
              rw [← hv10]
              clear hv10
              refine wpAnyH_ready (rs := [5]) (by kernel_rfl) (by simp) ?_
              refine AllReadyH.cons (o := ?_) ?_ (fun K hK => ?_) AllReadyH.nil
              rotate_left
              · (simp only [List.getElem?_toArray, List.getElem?_cons_zero, List.getElem?_cons_succ]; rfl)
              refine step_append_vals rfl (.tmp 31) (.tmp 33) 22 rfl V.heap.size 3 j0 (.int .i64 0) 1 8 Tryd.underlying22 hj0 hy0 hy1 hy2 rfl (by decide) (.slice r1 ma d1) ma ((pO zs fs Q).map (.int .i64)) (by simp [Act.eval]) (HO1.out) (some ⟨wk1.heap.size, 0, none⟩) 1 1 [.int .i64 (p : Nat)] (by simp [Act.eval]) rfl (fun ad he => by cases he; intro j u hu; match j, hu with | 0, hu => obtain rfl := Option.some.inj hu; exact nw) (by intro u hu; simp at hu; rw [hu]; rfl) (fun h => by cases h) (by unfold maxLen; omega) (by omega) (HBk10.size) (fun r5 d5 wk11 ho5 hg5 ht5 => ?_)
              have HBk11 : Below V.heap.size V wk11 := HBk10.grown hg5 HBk10.size (fun j hj => (HO1.out.lt j hj).1)
              have HO5 := Hid.mk ho5
              have pb := (hg5.block _ (Array.getElem?_eq_some_iff.1 pb).1 (fun e => blk_not_own pb (by decide) HO1.out e.symm)).trans pb
              clear ho5 hg5 ht5
              refine hK.out _ _ ?_ (fun hHeld' => ?_)
              · (try dsimp only)
                exact ⟨(HBk11.cell zlt).trans s0, (HBk11.cell zlt).trans s1, (HBk11.cell zlt2).trans s2⟩
              clear hK K hHeld
              have hHeld := hHeld'
              clear hHeld'
              (try simp only [Act.put, List.setIfInBounds_toArray, List.set_cons_zero, List.set_cons_succ])
              refine wpAnyH_ready (rs := [11]) (by kernel_rfl) (by simp) ?_
              refine AllReadyH.cons (o := ?_) ?_ (fun K hK => ?_) AllReadyH.nil
              rotate_left
              · (simp only [List.getElem?_toArray, List.getElem?_cons_zero, List.getElem?_cons_succ]; rfl)
              go_simp
              go_at_call 38
              refine (KO.out wk11 HBk11).mono ?_
              rintro e wk12 ⟨rfl, hbk12⟩
              have HBk12 : Below V.heap.size V wk12 := HBk11.trans (hbk12.mono HBk11.size)
              have pb := blk_below pb hbk12
              have HO5 := Hid.mk (owns_below HO5.out hbk12)
              (try go_wp2_with fail)
              refine hK.out _ _ ?_ (fun hHeld' => ?_)
              · (try dsimp only)
                exact ⟨(HBk12.cell zlt).trans s0, (HBk12.cell zlt).trans s1, (HBk12.cell zlt2).trans s2⟩
              clear hK K hHeld
              have hHeld := hHeld'
              clear hHeld'
              (try simp only [Act.put, List.setIfInBounds_toArray, List.set_cons_zero, List.set_cons_succ])
              refine tk 12 ?_
              refine tk 13 ?_
              have qs0 := blk_cell pb 0 rfl
              have qs1 := blk_cell pb 1 rfl
              have fs0 := blk_frozen pb 0
              have fs1 := blk_frozen pb 1
              refine wpAnyH_ready (rs := [15]) (by kernel_rfl) (by simp) ?_
              refine AllReadyH.cons (o := ?_) ?_ (fun K hK => ?_) AllReadyH.nil
              rotate_left
              · (simp only [List.getElem?_toArray, List.getElem?_cons_zero, List.getElem?_cons_succ]; rfl)
              go_simp
              (try go_wp2_with fail)
              refine hK.out _ _ ?_ (fun hHeld' => ?_)
              · (try dsimp only)
                exact ⟨(((HBk12.setCell (p := ⟨vk2.heap.size, 0, none⟩) zpb _).setCell (p := ⟨vk2.heap.size, 1, none⟩) zpb _).cell zlt).trans s0, (((HBk12.setCell (p := ⟨vk2.heap.size, 0, none⟩) zpb _).setCell (p := ⟨vk2.heap.size, 1, none⟩) zpb _).cell zlt).trans s1, (((HBk12.setCell (p := ⟨vk2.heap.size, 0, none⟩) zpb _).setCell (p := ⟨vk2.heap.size, 1, none⟩) zpb _).cell zlt2).trans s2⟩
              clear hK K hHeld
              have hHeld := hHeld'
              clear hHeld'
              (try simp only [Act.put, List.setIfInBounds_toArray, List.set_cons_zero, List.set_cons_succ])
              refine wpAnyH_done (by kernel_rfl) ?_ _
              (try go_wp2_with fail)
              go_meet
              case rel =>
                refine ⟨vk2.heap.size, r5, d5, rfl, ?_, ?_, zpb, ((HBk12.setCell (p := ⟨vk2.heap.size, 0, none⟩) zpb _).setCell (p := ⟨vk2.heap.size, 1, none⟩) zpb _)⟩
                · have e9 : ma + 1 = m0 := HQL.out
                  rw [← e9]
                  exact blk_set (blk_set pb 0 _) 1 _
                · have e9 : ma + 1 = m0 := HQL.out
                  rw [← e9, HC.out, List.map_append]
                  exact own_set2 HO5.out pb (by decide) _ _
          refine AllReadyH.cons (o := ?_) ?_ (fun K hK => ?_) AllReadyH.nil
          rotate_left
          · (simp only [List.getElem?_toArray, List.getElem?_cons_zero, List.getElem?_cons_succ]; rfl)
          · go_simp
            (try go_wp2_with fail)
            refine hK.out _ _ ?_ (fun hHeld' => ?_)
            · (try dsimp only)
              exact ⟨((HBk1.alloc HBk1.size _).cell zlt).trans s0, ((HBk1.alloc HBk1.size _).cell zlt).trans s1, ((HBk1.alloc HBk1.size _).cell zlt2).trans s2⟩
            clear hK K hHeld
            have hHeld := hHeld'
            clear hHeld'
            (try simp only [Act.put, List.setIfInBounds_toArray, List.set_cons_zero, List.set_cons_succ])
            obtain ⟨vk14, hv14⟩ : ∃ u, u = wk1.alloc (.cells #[.slice none 0 0, .int .i64 0] 49) := ⟨_, rfl⟩
            have hbk14 : Below wk1.heap.size wk1 vk14 := by rw [hv14]; exact (Below.refl _ _).alloc (Nat.le_refl _) _
            have HBk14 : Below V.heap.size V vk14 := HBk1.trans (hbk14.mono HBk1.size)
            have HO1 := Hid.mk (owns_below HO1.out hbk14)
            have pb : vk14.heap[wk1.heap.size]? = some (.cells #[.slice none 0 0, .int .i64 0] 49 (0, 0)) := by rw [hv14]; exact heap_alloc_new _ _
            have zpb : V.heap.size ≤ wk1.heap.size := HBk1.size
            rw [← hv14]
            clear hv14
            refine wpAnyH_ready (rs := [4]) (by kernel_rfl) (by simp) ?_
            refine AllReadyH.cons (o := ?_) ?_ (fun K hK => ?_) AllReadyH.nil
            rotate_left
            · (simp only [List.getElem?_toArray, List.getElem?_cons_zero, List.getElem?_cons_succ]; rfl)
            go_simp
            (try go_wp2_with fail)
            refine hK.out _ _ ?_ (fun hHeld' => ?_)
            · (try dsimp only)
              exact ⟨((HBk14.alloc HBk14.size _).cell zlt).trans s0, ((HBk14.alloc HBk14.size _).cell zlt).trans s1, ((HBk14.alloc HBk14.size _).cell zlt2).trans s2⟩
            clear hK K hHeld
            have hHeld := hHeld'
            clear hHeld'
            (try simp only [Act.put, List.setIfInBounds_toArray, List.set_cons_zero, List.set_cons_succ])
            obtain ⟨vk15, hv15⟩ : ∃ u, u = vk14.alloc (.cells #[.int .i64 (p : Nat)] 3) := ⟨_, rfl⟩
            have hbk15 : Below vk14.heap.size vk14 vk15 := by rw [hv15]; exact (Below.refl _ _).alloc (Nat.le_refl _) _
            have HBk15 : Below V.heap.size V vk15 := HBk14.trans (hbk15.mono HBk14.size)
            have HO1 := Hid.mk (owns_below HO1.out hbk15)
            have pb := blk_below pb hbk15
            have nw : vk15.cell? ⟨vk14.heap.size, 0, none⟩ = some (.int .i64 (p : Nat)) := by rw [hv15]; simp
            rw [← hv15]
            clear hv15
            refine wpAnyH_ready (rs := [5]) (by kernel_rfl) (by simp) ?_
            refine AllReadyH.cons (o := ?_) ?_ (fun K hK => ?_) AllReadyH.nil
            rotate_left
            · (simp only [List.getElem?_toArray, List.getElem?_cons_zero, List.getElem?_cons_succ]; rfl)
            refine step_append_vals rfl (.tmp 31) (.tmp 33) 22 rfl V.heap.size 3 j0 (.int .i64 0) 1 8 Tryd.underlying22 hj0 hy0 hy1 hy2 rfl (by decide) (.slice r1 ma d1) ma ((pO zs fs Q).map (.int .i64)) (by simp [Act.eval]) (HO1.out) (some ⟨vk14.heap.size, 0, none⟩) 1 1 [.int .i64 (p : Nat)] (by simp [Act.eval]) rfl (fun ad he => by cases he; intro j u hu; match j, hu with | 0, hu => obtain rfl := Option.some.inj hu; exact nw) (by intro u hu; simp at hu; rw [hu]; rfl) (fun h => by cases h) (by unfold maxLen; omega) (by omega) (HBk15.size) (fun r5 d5 wk16 ho5 hg5 ht5 => ?_)
            have HBk16 : Below V.heap.size V wk16 := HBk15.grown hg5 HBk15.size (fun j hj => (HO1.out.lt j hj).1)
            have HO5 := Hid.mk ho5
            have pb := (hg5.block _ (Array.getElem?_eq_some_iff.1 pb).1 (fun e => blk_not_own pb (by decide) HO1.out e.symm)).trans pb
            clear ho5 hg5 ht5
            refine hK.out _ _ ?_ (fun hHeld' => ?_)
            · (try dsimp only)
              exact ⟨(HBk16.cell zlt).trans s0, (HBk16.cell zlt).trans s1, (HBk16.cell zlt2).trans s2⟩
            clear hK K hHeld
            have hHeld := hHeld'
            clear hHeld'
            (try simp only [Act.put, List.setIfInBounds_toArray, List.set_cons_zero, List.set_cons_succ])
            refine wpAnyH_ready (rs := [11]) (by kernel_rfl) (by simp) ?_
            refine AllReadyH.cons (o := ?_) ?_ (fun K hK => ?_) AllReadyH.nil
            rotate_left
            · (simp only [List.getElem?_toArray, List.getElem?_cons_zero, List.getElem?_cons_succ]; rfl)
            go_simp
            go_at_call 38
            refine (KO.out wk16 HBk16).mono ?_
            rintro e wk17 ⟨rfl, hbk17⟩
            have HBk17 : Below V.heap.size V wk17 := HBk16.trans (hbk17.mono HBk16.size)
            have pb := blk_below pb hbk17
            have HO5 := Hid.mk (owns_below HO5.out hbk17)
            (try go_wp2_with fail)
            refine hK.out _ _ ?_ (fun hHeld' => ?_)
            · (try dsimp only)
              exact ⟨(HBk17.cell zlt).trans s0, (HBk17.cell zlt).trans s1, (HBk17.cell zlt2).trans s2⟩
            clear hK K hHeld
            have hHeld := hHeld'
            clear hHeld'
            (try simp only [Act.put, List.setIfInBounds_toArray, List.set_cons_zero, List.set_cons_succ])
            refine tk 12 ?_
            refine tk 13 ?_
            have qs0 := blk_cell pb 0 rfl
            have qs1 := blk_cell pb 1 rfl
            have fs0 := blk_frozen pb 0
            have fs1 := blk_frozen pb 1
            refine wpAnyH_ready (rs := [15]) (by kernel_rfl) (by simp) ?_
            refine AllReadyH.cons (o := ?_) ?_ (fun K hK => ?_) AllReadyH.nil
            rotate_left
            · (simp only [List.getElem?_toArray, List.getElem?_cons_zero, List.getElem?_cons_succ]; rfl)
            go_simp
            (try go_wp2_with fail)
            refine hK.out _ _ ?_ (fun hHeld' => ?_)
            · (try dsimp only)
              exact ⟨(((HBk17.setCell (p := ⟨wk1.heap.size, 0, none⟩) zpb _).setCell (p := ⟨wk1.heap.size, 1, none⟩) zpb _).cell zlt).trans s0, (((HBk17.setCell (p := ⟨wk1.heap.size, 0, none⟩) zpb _).setCell (p := ⟨wk1.heap.size, 1, none⟩) zpb _).cell zlt).trans s1, (((HBk17.setCell (p := ⟨wk1.heap.size, 0, none⟩) zpb _).setCell (p := ⟨wk1.heap.size, 1, none⟩) zpb _).cell zlt2).trans s2⟩
            clear hK K hHeld
            have hHeld := hHeld'
            clear hHeld'
            (try simp only [Act.put, List.setIfInBounds_toArray, List.set_cons_zero, List.set_cons_succ])
            refine wpAnyH_done (by kernel_rfl) ?_ _
            (try go_wp2_with fail)
            go_meet
            case rel =>
              refine ⟨wk1.heap.size, r5, d5, rfl, ?_, ?_, zpb, ((HBk17.setCell (p := ⟨wk1.heap.size, 0, none⟩) zpb _).setCell (p := ⟨wk1.heap.size, 1, none⟩) zpb _)⟩
              · have e9 : ma + 1 = m0 := HQL.out
                rw [← e9]
                exact blk_set (blk_set pb 0 _) 1 _
              · have e9 : ma + 1 = m0 := HQL.out
                rw [← e9, HC.out, List.map_append]
                exact own_set2 HO5.out pb (by decide) _ _
        refine AllReadyH.cons (o := ?_) ?_ (fun K hK => ?_) ?_
        rotate_left
        · (simp only [List.getElem?_toArray, List.getElem?_cons_zero, List.getElem?_cons_succ]; rfl)
        · go_simp
          (try go_wp2_with fail)
          refine hK.out _ _ ?_ (fun hHeld' => ?_)
          · (try dsimp only)
            exact ⟨((Y0.alloc Y0.size _).cell zlt).trans s0, ((Y0.alloc Y0.size _).cell zlt).trans s1, ((Y0.alloc Y0.size _).cell zlt2).trans s2⟩
          clear hK K hHeld
          have hHeld := hHeld'
          clear hHeld'
          (try simp only [Act.put, List.setIfInBounds_toArray, List.set_cons_zero, List.set_cons_succ])
          obtain ⟨vk19, hv19⟩ : ∃ u, u = u0.alloc (.cells #[.int .i64 (p : Nat)] 3) := ⟨_, rfl⟩
          have hbk19 : Below u0.heap.size u0 vk19 := by rw [hv19]; exact (Below.refl _ _).alloc (Nat.le_refl _) _
          have HBk19 : Below V.heap.size V vk19 := Y0.trans (hbk19.mono Y0.size)
          have nw : vk19.cell? ⟨u0.heap.size, 0, none⟩ = some (.int .i64 (p : Nat)) := by rw [hv19]; simp
          rw [← hv19]
          clear hv19
          refine wpAnyH_ready (rs := [2, 14]) (by kernel_rfl) (by simp) ?_
          refine AllReadyH.cons (o := ?_) ?_ (fun K hK => ?_) ?_
          rotate_left
          · (simp only [List.getElem?_toArray, List.getElem?_cons_zero, List.getElem?_cons_succ]; rfl)
          · go_simp
            go_at_call 52
            refine (KC.out vk19 HBk19).mono ?_
            rintro e wk20 ⟨r1, d1, rfl, ho1, hbk20⟩
            have HBk20 : Below V.heap.size V wk20 := HBk19.trans (hbk20.mono HBk19.size)
            have nw := cell_later hbk20 nw
            have HO1 := Hid.mk (owns_mono ho1 HBk19.size)
            clear ho1
            (try go_wp2_with fail)
            refine hK.out _ _ ?_ (fun hHeld' => ?_)
            · (try dsimp only)
              exact ⟨(HBk20.cell zlt).trans s0, (HBk20.cell zlt).trans s1, (HBk20.cell zlt2).trans s2⟩
            clear hK K hHeld
            have hHeld := hHeld'
            clear hHeld'
            (try simp only [Act.put, List.setIfInBounds_toArray, List.set_cons_zero, List.set_cons_succ])
            refine wpAnyH_ready (rs := [5, 14]) (by kernel_rfl) (by simp) ?_
            refine AllReadyH.cons (o := ?_) ?_ (fun K hK => ?_) ?_
            rotate_left
            · (simp only [List.getElem?_toArray, List.getElem?_cons_zero, List.getElem?_cons_succ]; rfl)
            · refine step_append_vals rfl (.tmp 31) (.tmp 33) 22 rfl V.heap.size 3 j0 (.int .i64 0) 1 8 Tryd.underlying22 hj0 hy0 hy1 hy2 rfl (by decide) (.slice r1 ma d1) ma ((pO zs fs Q).map (.int .i64)) (by simp [Act.eval]) (HO1.out) (some ⟨u0.heap.size, 0, none⟩) 1 1 [.int .i64 (p : Nat)] (by simp [Act.eval]) rfl (fun ad he => by cases he; intro j u hu; match j, hu with | 0, hu => obtain rfl := Option.some.inj hu; exact nw) (by intro u hu; simp at hu; rw [hu]; rfl) (fun h => by cases h) (by unfold maxLen; omega) (by omega) (HBk20.size) (fun r5 d5 wk21 ho5 hg5 ht5 => ?_)
              have HBk21 : Below V.heap.size V wk21 := HBk20.grown hg5 HBk20.size (fun j hj => (HO1.out.lt j hj).1)
              have HO5 := Hid.mk ho5
              clear ho5 hg5 ht5
              refine hK.out _ _ ?_ (fun hHeld' => ?_)
              · (try dsimp only)
                exact ⟨(HBk21.cell zlt).trans s0, (HBk21.cell zlt).trans s1, (HBk21.cell zlt2).trans s2⟩
              clear hK K hHeld
              have hHeld := hHeld'
              clear hHeld'
              (try simp only [Act.put, List.setIfInBounds_toArray, List.set_cons_zero, List.set_cons_succ])
              refine wpAnyH_ready (rs := [11, 14]) (by kernel_rfl) (by simp) ?_
              refine AllReadyH.cons (o := ?_) ?_ (fun K hK => ?_) ?_
              rotate_left
              · (simp only [List.getElem?_toArray, List.getElem?_cons_zero, List.getElem?_cons_succ]; rfl)
              · go_simp
                go_at_call 38
                refine (KO.out wk21 HBk21).mono ?_
                rintro e wk22 ⟨rfl, hbk22⟩
                have HBk22 : Below V.heap.size V wk22 := HBk21.trans (hbk22.mono HBk21.size)
                have HO5 := Hid.mk (owns_below HO5.out hbk22)
                (try go_wp2_with fail)
                refine hK.out _ _ ?_ (fun hHeld' => ?_)
                · (try dsimp only)
                  exact ⟨(HBk22.cell zlt).trans s0, (HBk22.cell zlt).trans s1, (HBk22.cell zlt2).trans s2⟩
                clear hK K hHeld
                have hHeld := hHeld'
                clear hHeld'
                (try simp only [Act.put, List.setIfInBounds_toArray, List.set_cons_zero, List.set_cons_succ])
                refine tk 12 ?_
                refine tk 13 ?_
                refine wpAnyH_ready (rs := [14]) (by kernel_rfl) (by simp) ?_
                refine AllReadyH.cons (o := ?_) ?_ (fun K hK => ?_) AllReadyH.nil
                rotate_left
                · (simp only [List.getElem?_toArray, List.getElem?_cons_zero, List.getElem?_cons_succ]; rfl)
                go_simp
                (try go_wp2_with fail)
                refine hK.out _ _ ?_ (fun hHeld' => ?_)
                · (try dsimp only)
                  exact ⟨((HBk22.alloc HBk22.size _).cell zlt).trans s0, ((HBk22.alloc HBk22.size _).cell zlt).trans s1, ((HBk22.alloc HBk22.size _).cell zlt2).trans s2⟩
                clear hK K hHeld
                have hHeld := hHeld'
                clear hHeld'
                (try simp only [Act.put, List.setIfInBounds_toArray, List.set_cons_zero, List.set_cons_succ])
                obtain ⟨vk23, hv23⟩ : ∃ u, u = wk22.alloc (.cells #[.slice none 0 0, .int .i64 0] 49) := ⟨_, rfl⟩
                have hbk23 : Below wk22.heap.size wk22 vk23 := by rw [hv23]; exact (Below.refl _ _).alloc (Nat.le_refl _) _
                have HBk23 : Below V.heap.size V vk23 := HBk22.trans (hbk23.mono HBk22.size)
                have HO5 := Hid.mk (owns_below HO5.out hbk23)
                have pb : vk23.heap[wk22.heap.size]? = some (.cells #[.slice none 0 0, .int .i64 0] 49 (0, 0)) := by rw [hv23]; exact heap_alloc_new _ _
                have zpb : V.heap.size ≤ wk22.heap.size := HBk22.size
                rw [← hv23]
                clear hv23
                have qs0 := blk_cell pb 0 rfl
                have qs1 := blk_cell pb 1 rfl
                have fs0 := blk_frozen pb 0
                have fs1 := blk_frozen pb 1
                refine wpAnyH_ready (rs := [15]) (by kernel_rfl) (by simp) ?_
                refine AllReadyH.cons (o := ?_) ?_ (fun K hK => ?_) AllReadyH.nil
                rotate_left
                · (simp only [List.getElem?_toArray, List.getElem?_cons_zero, List.getElem?_cons_succ]; rfl)
                go_simp
                (try go_wp2_with fail)
                refine hK.out _ _ ?_ (fun hHeld' => ?_)
                · (try dsimp only)
                  exact ⟨(((HBk23.setCell (p := ⟨wk22.heap.size, 0, none⟩) zpb _).setCell (p := ⟨wk22.heap.size, 1, none⟩) zpb _).cell zlt).trans s0, (((HBk23.setCell (p := ⟨wk22.heap.size, 0, none⟩) zpb _).setCell (p := ⟨wk22.heap.size, 1, none⟩) zpb _).cell zlt).trans s1, (((HBk23.setCell (p := ⟨wk22.heap.size, 0, none⟩) zpb _).setCell (p := ⟨wk22.heap.size, 1, none⟩) zpb _).cell zlt2).trans s2⟩
                clear hK K hHeld
                have hHeld := hHeld'
                clear hHeld'
                (try simp only [Act.put, List.setIfInBounds_toArray, List.set_cons_zero, List.set_cons_succ])
                refine wpAnyH_done (by kernel_rfl) ?_ _
                (try go_wp2_with fail)
                go_meet
                case rel =>
                  refine ⟨wk22.heap.size, r5, d5, rfl, ?_, ?_, zpb, ((HBk23.setCell (p := ⟨wk22.heap.size, 0, none⟩) zpb _).setCell (p := ⟨wk22.heap.size, 1, none⟩) zpb _)⟩
                  · have e9 : ma + 1 = m0 := HQL.out
                    rw [← e9]
                    exact blk_set (blk_set pb 0 _) 1 _
                  · have e9 : ma + 1 = m0 := HQL.out
                    rw [← e9, HC.out, List.map_append]
                    exact own_set2 HO5.out pb (by decide) _ _
              refine AllReadyH.cons (o := ?_) ?_ (fun K hK => ?_) AllReadyH.nil
              rotate_left
              · (simp only [List.getElem?_toArray, List.getElem?_cons_zero, List.getElem?_cons_succ]; rfl)
              · go_simp
                (try go_wp2_with fail)
                refine hK.out _ _ ?_ (fun hHeld' => ?_)
                · (try dsimp only)
                  exact ⟨((HBk21.alloc HBk21.size _).cell zlt).trans s0, ((HBk21.alloc HBk21.size _).cell zlt).trans s1, ((HBk21.alloc HBk21.size _).cell zlt2).trans s2⟩
                clear hK K hHeld
                have hHeld := hHeld'
                clear hHeld'
                (try simp only [Act.put, List.setIfInBounds_toArray, List.set_cons_zero, List.set_cons_succ])
                obtain ⟨vk25, hv25⟩ : ∃ u, u = wk21.alloc (.cells #[.slice none 0 0, .int .i64 0] 49) := ⟨_, rfl⟩
                have hbk25 : Below wk21.heap.size wk21 vk25 := by rw [hv25]; exact (Below.refl _ _).alloc (Nat.le_refl _) _
                have HBk25 : Below V.heap.size V vk25 := HBk21.trans (hbk25.mono HBk21.size)
                have HO5 := Hid.mk (owns_below HO5.out hbk25)
                have pb : vk25.heap[wk21.heap.size]? = some (.cells #[.slice none 0 0, .int .i64 0] 49 (0, 0)) := by rw [hv25]; exact heap_alloc_new _ _
                have zpb : V.heap.size ≤ wk21.heap.size := HBk21.size
                rw [← hv25]
                clear hv25
                refine wpAnyH_ready (rs := [11]) (by kernel_rfl) (by simp) ?_
                refine AllReadyH.cons (o := ?_) ?_ (fun K hK => ?_) AllReadyH.nil
                rotate_left
                · (simp only [List.getElem?_toArray, List.getElem?_cons_zero, List.getElem?_cons_succ]; rfl)
                go_simp
                go_at_call 38
                refine (KO.out vk25 HBk25).mono ?_
                rintro e wk26 ⟨rfl, hbk26⟩
                have HBk26 : Below V.heap.size V wk26 := HBk25.trans (hbk26.mono HBk25.size)
                have HO5 := Hid.mk (owns_below HO5.out hbk26)
                have pb := blk_below pb hbk26
                (try go_wp2_with fail)
                refine hK.out _ _ ?_ (fun hHeld' => ?_)
                · (try dsimp only)
                  exact ⟨(HBk26.cell zlt).trans s0, (HBk26.cell zlt).trans s1, (HBk26.cell zlt2).trans s2⟩
                clear hK K hHeld
                have hHeld := hHeld'
                clear hHeld'
                (try simp only [Act.put, List.setIfInBounds_toArray, List.set_cons_zero, List.set_cons_succ])
                refine tk 12 ?_
                refine tk 13 ?_
                have qs0 := blk_cell pb 0 rfl
                have qs1 := blk_cell pb 1 rfl
                have fs0 := blk_frozen pb 0
                have fs1 := blk_frozen pb 1
                refine wpAnyH_ready (rs := [15]) (by kernel_rfl) (by simp) ?_
                refine AllReadyH.cons (o := ?_) ?_ (fun K hK => ?_) AllReadyH.nil
                rotate_left
                · (simp only [List.getElem?_toArray, List.getElem?_cons_zero, List.getElem?_cons_succ]; rfl)
                go_simp
                (try go_wp2_with fail)
                refine hK.out _ _ ?_ (fun hHeld' => ?_)
                · (try dsimp only)
                  exact ⟨(((HBk26.setCell (p := ⟨wk21.heap.size, 0, none⟩) zpb _).setCell (p := ⟨wk21.heap.size, 1, none⟩) zpb _).cell zlt).trans s0, (((HBk26.setCell (p := ⟨wk21.heap.size, 0, none⟩) zpb _).setCell (p := ⟨wk21.heap.size, 1, none⟩) zpb _).cell zlt).trans s1, (((HBk26.setCell (p := ⟨wk21.heap.size, 0, none⟩) zpb _).setCell (p := ⟨wk21.heap.size, 1, none⟩) zpb _).cell zlt2).trans s2⟩
                clear hK K hHeld
                have hHeld := hHeld'
                clear hHeld'
                (try simp only [Act.put, List.setIfInBounds_toArray, List.set_cons_zero, List.set_cons_succ])
                refine wpAnyH_done (by kernel_rfl) ?_ _
                (try go_wp2_with fail)
                go_meet
                case rel =>
                  refine ⟨wk21.heap.size, r5, d5, rfl, ?_, ?_, zpb, ((HBk26.setCell (p := ⟨wk21.heap.size, 0, none⟩) zpb _).setCell (p := ⟨wk21.heap.size, 1, none⟩) zpb _)⟩
                  · have e9 : ma + 1 = m0 := HQL.out
                    rw [← e9]
                    exact blk_set (blk_set pb 0 _) 1 _
                  · have e9 : ma + 1 = m0 := HQL.out
                    rw [← e9, HC.out, List.map_append]
                    exact own_set2 HO5.out pb (by decide) _ _
            refine AllReadyH.cons (o := ?_) ?_ (fun K hK => ?_) AllReadyH.nil
            rotate_left
            · (simp only [List.getElem?_toArray, List.getElem?_cons_zero, List.getElem?_cons_succ]; rfl)
            · go_simp
              (try go_wp2_with fail)
              refine hK.out _ _ ?_ (fun hHeld' => ?_)
              · (try dsimp only)
                exact ⟨((HBk20.alloc HBk20.size _).cell zlt).trans s0, ((HBk20.alloc HBk20.size _).cell zlt).trans s1, ((HBk20.alloc HBk20.size _).cell zlt2).trans s2⟩
              clear hK K hHeld
              have hHeld := hHeld'
              clear hHeld'
              (try simp only [Act.put, List.setIfInBounds_toArray, List.set_cons_zero, List.set_cons_succ])
              obtain ⟨vk28, hv28⟩ : ∃ u, u = wk20.alloc (.cells #[.slice none 0 0, .int .i64 0] 49) := ⟨_, rfl⟩
              have hbk28 : Below wk20.heap.size wk20 vk28 := by rw [hv28]; exact (Below.refl _ _).alloc (Nat.le_refl _) _
              have HBk28 : Below V.heap.size V vk28 := HBk20.trans (hbk28.mono HBk20.size)
              have nw := cell_later hbk28 nw
              have HO1 := Hid.mk (owns_below HO1.out hbk28)
              have pb : vk28.heap[wk20.heap.size]? = some (.cells #[.slice none 0 0, .int .i64 0] 49 (0, 0)) := by rw [hv28]; exact heap_alloc_new _ _
              have zpb : V.heap.size ≤ wk20.heap.size := HBk20.size
              rw [← hv28]
              clear hv28
              refine wpAnyH_ready (rs := [5]) (by kernel_rfl) (by simp) ?_
              refine AllReadyH.cons (o := ?_) ?_ (fun K hK => ?_) AllReadyH.nil
              rotate_left
              · (simp only [List.getElem?_toArray, List.getElem?_cons_zero, List.getElem?_cons_succ]; rfl)
              refine step_append_vals rfl (.tmp 31) (.tmp 33) 22 rfl V.heap.size 3 j0 (.int .i64 0) 1 8 Tryd.underlying22 hj0 hy0 hy1 hy2 rfl (by decide) (.slice r1 ma d1) ma ((pO zs fs Q).map (.int .i64)) (by simp [Act.eval]) (HO1.out) (some ⟨u0.heap.size, 0, none⟩) 1 1 [.int .i64 (p : Nat)] (by simp [Act.eval]) rfl (fun ad he => by cases he; intro j u hu; match j, hu with | 0, hu => obtain rfl := Option.some.inj hu; exact nw) (by intro u hu; simp at hu; rw [hu]; rfl) (fun h => by cases h) (by unfold maxLen; omega) (by omega) (HBk28.size) (fun r5 d5 wk29 ho5 hg5 ht5 => ?_)
              have HBk29 : Below V.heap.size V wk29 := HBk28.grown hg5 HBk28.size (fun j hj => (HO1.out.lt j hj).1)
              have HO5 := Hid.mk ho5
              have pb := (hg5.block _ (Array.getElem?_eq_some_iff.1 pb).1 (fun e => blk_not_own pb (by decide) HO1.out e.symm)).trans pb
              clear ho5 hg5 ht5
              refine hK.out _ _ ?_ (fun hHeld' => ?_)
              · (try dsimp only)
                exact ⟨(HBk29.cell zlt).trans s0, (HBk29.cell zlt).trans s1, (HBk29.cell zlt2).trans s2⟩
              clear hK K hHeld
              have hHeld := hHeld'
              clear hHeld'
              (try simp only [Act.put, List.setIfInBounds_toArray, List.set_cons_zero, List.set_cons_succ])
              refine wpAnyH_ready (rs := [11]) (by kernel_rfl) (by simp) ?_
              refine AllReadyH.cons (o := ?_) ?_ (fun K hK => ?_) AllReadyH.nil
              rotate_left
              · (simp only [List.getElem?_toArray, List.getElem?_cons_zero, List.getElem?_cons_succ]; rfl)
              go_simp
              go_at_call 38
              refine (KO.out wk29 HBk29).mono ?_
              rintro e wk30 ⟨rfl, hbk30⟩
              have HBk30 : Below V.heap.size V wk30 := HBk29.trans (hbk30.mono HBk29.size)
              have pb := blk_below pb hbk30
              have HO5 := Hid.mk (owns_below HO5.out hbk30)
              (try go_wp2_with fail)
              refine hK.out _ _ ?_ (fun hHeld' => ?_)
              · (try dsimp only)
                exact ⟨(HBk30.cell zlt).trans s0, (HBk30.cell zlt).trans s1, (HBk30.cell zlt2).trans s2⟩
              clear hK K hHeld
              have hHeld := hHeld'
              clear hHeld'
              (try simp only [Act.put, List.setIfInBounds_toArray, List.set_cons_zero, List.set_cons_succ])
              refine tk 12 ?_
              refine tk 13 ?_
              have qs0 := blk_cell pb 0 rfl
              have qs1 := blk_cell pb 1 rfl
              have fs0 := blk_frozen pb 0
              have fs1 := blk_frozen pb 1
              refine wpAnyH_ready (rs := [15]) (by kernel_rfl) (by simp) ?_
              refine AllReadyH.cons (o := ?_) ?_ (fun K hK => ?_) AllReadyH.nil
              rotate_left
              · (simp only [List.getElem?_toArray, List.getElem?_cons_zero, List.getElem?_cons_succ]; rfl)
              go_simp
              (try go_wp2_with fail)
              refine hK.out _ _ ?_ (fun hHeld' => ?_)
              · (try dsimp only)
                exact ⟨(((HBk30.setCell (p := ⟨wk20.heap.size, 0, none⟩) zpb _).setCell (p := ⟨wk20.heap.size, 1, none⟩) zpb _).cell zlt).trans s0, (((HBk30.setCell (p := ⟨wk20.heap.size, 0, none⟩) zpb _).setCell (p := ⟨wk20.heap.size, 1, none⟩) zpb _).cell zlt).trans s1, (((HBk30.setCell (p := ⟨wk20.heap.size, 0, none⟩) zpb _).setCell (p := ⟨wk20.heap.size, 1, none⟩) zpb _).cell zlt2).trans s2⟩
              clear hK K hHeld
              have hHeld := hHeld'
              clear hHeld'
              (try simp only [Act.put, List.setIfInBounds_toArray, List.set_cons_zero, List.set_cons_succ])
              refine wpAnyH_done (by kernel_rfl) ?_ _
              (try go_wp2_with fail)
              go_meet
              case rel =>
                refine ⟨wk20.heap.size, r5, d5, rfl, ?_, ?_, zpb, ((HBk30.setCell (p := ⟨wk20.heap.size, 0, none⟩) zpb _).setCell (p := ⟨wk20.heap.size, 1, none⟩) zpb _)⟩
                · have e9 : ma + 1 = m0 := HQL.out
                  rw [← e9]
                  exact blk_set (blk_set pb 0 _) 1 _
                · have e9 : ma + 1 = m0 := HQL.out
                  rw [← e9, HC.out, List.map_append]
                  exact own_set2 HO5.out pb (by decide) _ _
          refine AllReadyH.cons (o := ?_) ?_ (fun K hK => ?_) AllReadyH.nil
          rotate_left
          · (simp only [List.getElem?_toArray, List.getElem?_cons_zero, List.getElem?_cons_succ]; rfl)
          · go_simp
            (try go_wp2_with fail)
            refine hK.out _ _ ?_ (fun hHeld' => ?_)
            · (try dsimp only)
              exact ⟨((HBk19.alloc HBk19.size _).cell zlt).trans s0, ((HBk19.alloc HBk19.size _).cell zlt).trans s1, ((HBk19.alloc HBk19.size _).cell zlt2).trans s2⟩
            clear hK K hHeld
            have hHeld := hHeld'
            clear hHeld'
            (try simp only [Act.put, List.setIfInBounds_toArray, List.set_cons_zero, List.set_cons_succ])
            obtain ⟨vk32, hv32⟩ : ∃ u, u = vk19.alloc (.cells #[.slice none 0 0, .int .i64 0] 49) := ⟨_, rfl⟩
            have hbk32 : Below vk19.heap.size vk19 vk32 := by rw [hv32]; exact (Below.refl _ _).alloc (Nat.le_refl _) _
            have HBk32 : Below V.heap.size V vk32 := HBk19.trans (hbk32.mono HBk19.size)
            have nw := cell_later hbk32 nw
            have pb : vk32.heap[vk19.heap.size]? = some (.cells #[.slice none 0 0, .int .i64 0] 49 (0, 0)) := by rw [hv32]; exact heap_alloc_new _ _
            have zpb : V.heap.size ≤ vk19.heap.size := HBk19.size
            rw [← hv32]
            clear hv32
            refine wpAnyH_ready (rs := [2]) (by kernel_rfl) (by simp) ?_
            refine AllReadyH.cons (o := ?_) ?_ (fun K hK => ?_) AllReadyH.nil
            rotate_left
            · (simp only [List.getElem?_toArray, List.getElem?_cons_zero, List.getElem?_cons_succ]; rfl)
            go_simp
            go_at_call 52
            refine (KC.out vk32 HBk32).mono ?_
            rintro e wk33 ⟨r1, d1, rfl, ho1, hbk33⟩
            have HBk33 : Below V.heap.size V wk33 := HBk32.trans (hbk33.mono HBk32.size)
            have nw := cell_later hbk33 nw
            have pb := blk_below pb hbk33
            have HO1 := Hid.mk (owns_mono ho1 HBk32.size)
            clear ho1
            (try go_wp2_with fail)
            refine hK.out _ _ ?_ (fun hHeld' => ?_)
            · (try dsimp only)
              exact ⟨(HBk33.cell zlt).trans s0, (HBk33.cell zlt).trans s1, (HBk33.cell zlt2).trans s2⟩
            clear hK K hHeld
            have hHeld := hHeld'
            clear hHeld'
            (try simp only [Act.put, List.setIfInBounds_toArray, List.set_cons_zero, List.set_cons_succ])
            refine wpAnyH_ready (rs := [5]) (by kernel_rfl) (by simp) ?_
            refine AllReadyH.cons (o := ?_) ?_ (fun K hK => ?_) AllReadyH.nil
            rotate_left
            · (simp only [List.getElem?_toArray, List.getElem?_cons_zero, List.getElem?_cons_succ]; rfl)
            refine step_append_vals rfl (.tmp 31) (.tmp 33) 22 rfl V.heap.size 3 j0 (.int .i64 0) 1 8 Tryd.underlying22 hj0 hy0 hy1 hy2 rfl (by decide) (.slice r1 ma d1) ma ((pO zs fs Q).map (.int .i64)) (by simp [Act.eval]) (HO1.out) (some ⟨u0.heap.size, 0, none⟩) 1 1 [.int .i64 (p : Nat)] (by simp [Act.eval]) rfl (fun ad he => by cases he; intro j u hu; match j, hu with | 0, hu => obtain rfl := Option.some.inj hu; exact nw) (by intro u hu; simp at hu; rw [hu]; rfl) (fun h => by cases h) (by unfold maxLen; omega) (by omega) (HBk33.size) (fun r5 d5 wk34 ho5 hg5 ht5 => ?_)
            have HBk34 : Below V.heap.size V wk34 := HBk33.grown hg5 HBk33.size (fun j hj => (HO1.out.lt j hj).1)
            have HO5 := Hid.mk ho5
            have pb := (hg5.block _ (Array.getElem?_eq_some_iff.1 pb).1 (fun e => blk_not_own pb (by decide) HO1.out e.symm)).trans pb
            clear ho5 hg5 ht5
            refine hK.out _ _ ?_ (fun hHeld' => ?_)
            · (try dsimp only)
              exact ⟨(HBk34.cell zlt).trans s0, (HBk34.cell zlt).trans s1, (HBk34.cell zlt2).trans s2⟩
            clear hK K hHeld
            have hHeld := hHeld'
            clear hHeld'
            (try simp only [Act.put, List.setIfInBounds_toArray, List.set_cons_zero, List.set_cons_succ])
            refine wpAnyH_ready (rs := [11]) (by kernel_rfl) (by simp) ?_
            refine AllReadyH.cons (o := ?_) ?_ (fun K hK => ?_) AllReadyH.nil
            rotate_left
            · (simp only [List.getElem?_toArray, List.getElem?_cons_zero, List.getElem?_cons_succ]; rfl)
            go_simp
            go_at_call 38
            refine (KO.out wk34 HBk34).mono ?_
            rintro e wk35 ⟨rfl, hbk35⟩
            have HBk35 : Below V.heap.size V wk35 := HBk34.trans (hbk35.mono HBk34.size)
            have pb := blk_below pb hbk35
            have HO5 := Hid.mk (owns_below HO5.out hbk35)
            (try go_wp2_with fail)
            refine hK.out _ _ ?_ (fun hHeld' => ?_)
            · (try dsimp only)
              exact ⟨(HBk35.cell zlt).trans s0, (HBk35.cell zlt).trans s1, (HBk35.cell zlt2).trans s2⟩
            clear hK K hHeld
            have hHeld := hHeld'
            clear hHeld'
            (try simp only [Act.put, List.setIfInBounds_toArray, List.set_cons_zero, List.set_cons_succ])
            refine tk 12 ?_
            refine tk 13 ?_
            have qs0 := blk_cell pb 0 rfl
            have qs1 := blk_cell pb 1 rfl
            have fs0 := blk_frozen pb 0
            have fs1 := blk_frozen pb 1
            refine wpAnyH_ready (rs := [15]) (by kernel_rfl) (by simp) ?_
            refine AllReadyH.cons (o := ?_) ?_ (fun K hK => ?_) AllReadyH.nil
            rotate_left
            · (simp only [List.getElem?_toArray, List.getElem?_cons_zero, List.getElem?_cons_succ]; rfl)
            go_simp
            (try go_wp2_with fail)
            refine hK.out _ _ ?_ (fun hHeld' => ?_)
            · (try dsimp only)
              exact ⟨(((HBk35.setCell (p := ⟨vk19.heap.size, 0, none⟩) zpb _).setCell (p := ⟨vk19.heap.size, 1, none⟩) zpb _).cell zlt).trans s0, (((HBk35.setCell (p := ⟨vk19.heap.size, 0, none⟩) zpb _).setCell (p := ⟨vk19.heap.size, 1, none⟩) zpb _).cell zlt).trans s1, (((HBk35.setCell (p := ⟨vk19.heap.size, 0, none⟩) zpb _).setCell (p := ⟨vk19.heap.size, 1, none⟩) zpb _).cell zlt2).trans s2⟩
            clear hK K hHeld
            have hHeld := hHeld'
            clear hHeld'
            (try simp only [Act.put, List.setIfInBounds_toArray, List.set_cons_zero, List.set_cons_succ])
            refine wpAnyH_done (by kernel_rfl) ?_ _
            (try go_wp2_with fail)
            go_meet
            case rel =>
              refine ⟨vk19.heap.size, r5, d5, rfl, ?_, ?_, zpb, ((HBk35.setCell (p := ⟨vk19.heap.size, 0, none⟩) zpb _).setCell (p := ⟨vk19.heap.size, 1, none⟩) zpb _)⟩
              · have e9 : ma + 1 = m0 := HQL.out
                rw [← e9]
                exact blk_set (blk_set pb 0 _) 1 _
              · have e9 : ma + 1 = m0 := HQL.out
                rw [← e9, HC.out, List.map_append]
                exact own_set2 HO5.out pb (by decide) _ _
        refine AllReadyH.cons (o := ?_) ?_ (fun K hK => ?_) AllReadyH.nil
        rotate_left
        · (simp only [List.getElem?_toArray, List.getElem?_cons_zero, List.getElem?_cons_succ]; rfl)
        · go_simp
          (try go_wp2_with fail)
          refine hK.out _ _ ?_ (fun hHeld' => ?_)
          · (try dsimp only)
            exact ⟨((Y0.alloc Y0.size _).cell zlt).trans s0, ((Y0.alloc Y0.size _).cell zlt).trans s1, ((Y0.alloc Y0.size _).cell zlt2).trans s2⟩
          clear hK K hHeld
          have hHeld := hHeld'
          clear hHeld'
          (try simp only [Act.put, List.setIfInBounds_toArray, List.set_cons_zero, List.set_cons_succ])
          obtain ⟨vk37, hv37⟩ : ∃ u, u = u0.alloc (.cells #[.slice none 0 0, .int .i64 0] 49) := ⟨_, rfl⟩
          have hbk37 : Below u0.heap.size u0 vk37 := by rw [hv37]; exact (Below.refl _ _).alloc (Nat.le_refl _) _
          have HBk37 : Below V.heap.size V vk37 := Y0.trans (hbk37.mono Y0.size)
          have pb : vk37.heap[u0.heap.size]? = some (.cells #[.slice none 0 0, .int .i64 0] 49 (0, 0)) := by rw [hv37]; exact heap_alloc_new _ _
          have zpb : V.heap.size ≤ u0.heap.size := Y0.size
          rw [← hv37]
          clear hv37
          refine wpAnyH_ready (rs := [2, 4]) (by kernel_rfl) (by simp) ?_
          refine AllReadyH.cons (o := ?_) ?_ (fun K hK => ?_) ?_
          rotate_left
          · (simp only [List.getElem?_toArray, List.getElem?_cons_zero, List.getElem?_cons_succ]; rfl)
          · go_simp
            go_at_call 52
            refine (KC.out vk37 HBk37).mono ?_
            rintro e wk38 ⟨r1, d1, rfl, ho1, hbk38⟩
            have HBk38 : Below V.heap.size V wk38 := HBk37.trans (hbk38.mono HBk37.size)
            have pb := blk_below pb hbk38
            have HO1 := Hid.mk (owns_mono ho1 HBk37.size)
            clear ho1
            (try go_wp2_with fail)
            refine hK.out _ _ ?_ (fun hHeld' => ?_)
            · (try dsimp only)
              exact ⟨(HBk38.cell zlt).trans s0, (HBk38.cell zlt).trans s1, (HBk38.cell zlt2).trans s2⟩
            clear hK K hHeld
            have hHeld := hHeld'
            clear hHeld'
            (try simp only [Act.put, List.setIfInBounds_toArray, List.set_cons_zero, List.set_cons_succ])
            refine wpAnyH_ready (rs := [4]) (by kernel_rfl) (by simp) ?_
            refine AllReadyH.cons (o := ?_) ?_ (fun K hK => ?_) AllReadyH.nil
            rotate_left
            · (simp only [List.getElem?_toArray, List.getElem?_cons_zero, List.getElem?_cons_succ]; rfl)
            go_simp
            (try go_wp2_with fail)
            refine hK.out _ _ ?_ (fun hHeld' => ?_)
            · (try dsimp only)
              exact ⟨((HBk38.alloc HBk38.size _).cell zlt).trans s0, ((HBk38.alloc HBk38.size _).cell zlt).trans s1, ((HBk38.alloc HBk38.size _).cell zlt2).trans s2⟩
            clear hK K hHeld
            have hHeld := hHeld'
            clear hHeld'
            (try simp only [Act.put, List.setIfInBounds_toArray, List.set_cons_zero, List.set_cons_succ])
            obtain ⟨vk39, hv39⟩ : ∃ u, u = wk38.alloc (.cells #[.int .i64 (p : Nat)] 3) := ⟨_, rfl⟩
            have hbk39 : Below wk38.heap.size wk38 vk39 := by rw [hv39]; exact (Below.refl _ _).alloc (Nat.le_refl _) _
            have HBk39 : Below V.heap.size V vk39 := HBk38.trans (hbk39.mono HBk38.size)
            have pb := blk_below pb hbk39
            have HO1 := Hid.mk (owns_below HO1.out hbk39)
            have nw : vk39.cell? ⟨wk38.heap.size, 0, none⟩ = some (.int .i64 (p : Nat)) := by rw [hv39]; simp
            rw [← hv39]
            clear hv39
            refine wpAnyH_ready (rs := [5]) (by kernel_rfl) (by simp) ?_
            refine AllReadyH.cons (o := ?_) ?_ (fun K hK => ?_) AllReadyH.nil
            rotate_left
            · (simp only [List.getElem?_toArray, List.getElem?_cons_zero, List.getElem?_cons_succ]; rfl)
            refine step_append_vals rfl (.tmp 31) (.tmp 33) 22 rfl V.heap.size 3 j0 (.int .i64 0) 1 8 Tryd.underlying22 hj0 hy0 hy1 hy2 rfl (by decide) (.slice r1 ma d1) ma ((pO zs fs Q).map (.int .i64)) (by simp [Act.eval]) (HO1.out) (some ⟨wk38.heap.size, 0, none⟩) 1 1 [.int .i64 (p : Nat)] (by simp [Act.eval]) rfl (fun ad he => by cases he; intro j u hu; match j, hu with | 0, hu => obtain rfl := Option.some.inj hu; exact nw) (by intro u hu; simp at hu; rw [hu]; rfl) (fun h => by cases h) (by unfold maxLen; omega) (by omega) (HBk39.size) (fun r5 d5 wk40 ho5 hg5 ht5 => ?_)
            have HBk40 : Below V.heap.size V wk40 := HBk39.grown hg5 HBk39.size (fun j hj => (HO1.out.lt j hj).1)
            have HO5 := Hid.mk ho5
            have pb := (hg5.block _ (Array.getElem?_eq_some_iff.1 pb).1 (fun e => blk_not_own pb (by decide) HO1.out e.symm)).trans pb
            clear ho5 hg5 ht5
            refine hK.out _ _ ?_ (fun hHeld' => ?_)
            · (try dsimp only)
              exact ⟨(HBk40.cell zlt).trans s0, (HBk40.cell zlt).trans s1, (HBk40.cell zlt2).trans s2⟩
            clear hK K hHeld
            have hHeld := hHeld'
            clear hHeld'
            (try simp only [Act.put, List.setIfInBounds_toArray, List.set_cons_zero, List.set_cons_succ])
            refine wpAnyH_ready (rs := [11]) (by kernel_rfl) (by simp) ?_
            refine AllReadyH.cons (o := ?_) ?_ (fun K hK => ?_) AllReadyH.nil
            rotate_left
            · (simp only [List.getElem?_toArray, List.getElem?_cons_zero, List.getElem?_cons_succ]; rfl)
            go_simp
            go_at_call 38
            refine (KO.out wk40 HBk40).mono ?_
            rintro e wk41 ⟨rfl, hbk41⟩
            have HBk41 : Below V.heap.size V wk41 := HBk40.trans (hbk41.mono HBk40.size)
            have pb := blk_below pb hbk41
            have HO5 := Hid.mk (owns_below HO5.out hbk41)
            (try go_wp2_with fail)
            refine hK.out _ _ ?_ (fun hHeld' => ?_)
            · (try dsimp only)
              exact ⟨(HBk41.cell zlt).trans s0, (HBk41.cell zlt).trans s1, (HBk41.cell zlt2).trans s2⟩
            clear hK K hHeld
            have hHeld := hHeld'
            clear hHeld'
            (try simp only [Act.put, List.setIfInBounds_toArray, List.set_cons_zero, List.set_cons_succ])
            refine tk 12 ?_
            refine tk 13 ?_
            have qs0 := blk_cell pb 0 rfl
            have qs1 := blk_cell pb 1 rfl
            have fs0 := blk_frozen pb 0
            have fs1 := blk_frozen pb 1
            refine wpAnyH_ready (rs := [15]) (by kernel_rfl) (by simp) ?_
            refine AllReadyH.cons (o := ?_) ?_ (fun K hK => ?_) AllReadyH.nil
            rotate_left
            · (simp only [List.getElem?_toArray, List.getElem?_cons_zero, List.getElem?_cons_succ]; rfl)
            go_simp
            (try go_wp2_with fail)
            refine hK.out _ _ ?_ (fun hHeld' => ?_)
            · (try dsimp only)
              exact ⟨(((HBk41.setCell (p := ⟨u0.heap.size, 0, none⟩) zpb _).setCell (p := ⟨u0.heap.size, 1, none⟩) zpb _).cell zlt).trans s0, (((HBk41.setCell (p := ⟨u0.heap.size, 0, none⟩) zpb _).setCell (p := ⟨u0.heap.size, 1, none⟩) zpb _).cell zlt).trans s1, (((HBk41.setCell (p := ⟨u0.heap.size, 0, none⟩) zpb _).setCell (p := ⟨u0.heap.size, 1, none⟩) zpb _).cell zlt2).trans s2⟩
            clear hK K hHeld
            have hHeld := hHeld'
            clear hHeld'
            (try simp only [Act.put, List.setIfInBounds_toArray, List.set_cons_zero, List.set_cons_succ])
            refine wpAnyH_done (by kernel_rfl) ?_ _
            (try go_wp2_with fail)
            go_meet
            case rel =>
              refine ⟨u0.heap.size, r5, d5, rfl, ?_, ?_, zpb, ((HBk41.setCell (p := ⟨u0.heap.size, 0, none⟩) zpb _).setCell (p := ⟨u0.heap.size, 1, none⟩) zpb _)⟩
              · have e9 : ma + 1 = m0 := HQL.out
                rw [← e9]
                exact blk_set (blk_set pb 0 _) 1 _
              · have e9 : ma + 1 = m0 := HQL.out
                rw [← e9, HC.out, List.map_append]
                exact own_set2 HO5.out pb (by decide) _ _
          refine AllReadyH.cons (o := ?_) ?_ (fun K hK => ?_) AllReadyH.nil
          rotate_left
          · (simp only [List.getElem?_toArray, List.getElem?_cons_zero, List.getElem?_cons_succ]; rfl)
          · go_simp
            (try go_wp2_with fail)
            refine hK.out _ _ ?_ (fun hHeld' => ?_)
            · (try dsimp only)
              exact ⟨((HBk37.alloc HBk37.size _).cell zlt).trans s0, ((HBk37.alloc HBk37.size _).cell zlt).trans s1, ((HBk37.alloc HBk37.size _).cell zlt2).trans s2⟩
            clear hK K hHeld
            have hHeld := hHeld'
            clear hHeld'
            (try simp only [Act.put, List.setIfInBounds_toArray, List.set_cons_zero, List.set_cons_succ])
            obtain ⟨vk43, hv43⟩ : ∃ u, u = vk37.alloc (.cells #[.int .i64 (p : Nat)] 3) := ⟨_, rfl⟩
            have hbk43 : Below vk37.heap.size vk37 vk43 := by rw [hv43]; exact (Below.refl _ _).alloc (Nat.le_refl _) _
            have HBk43 : Below V.heap.size V vk43 := HBk37.trans (hbk43.mono HBk37.size)
            have pb := blk_below pb hbk43
            have nw : vk43.cell? ⟨vk37.heap.size, 0, none⟩ = some (.int .i64 (p : Nat)) := by rw [hv43]; simp
            rw [← hv43]
            clear hv43
            refine wpAnyH_ready (rs := [2]) (by kernel_rfl) (by simp) ?_
            refine AllReadyH.cons (o := ?_) ?_ (fun K hK => ?_) AllReadyH.nil
            rotate_left
            · (simp only [List.getElem?_toArray, List.getElem?_cons_zero, List.getElem?_cons_succ]; rfl)
            go_simp
            go_at_call 52
            refine (KC.out vk43 HBk43).mono ?_
            rintro e wk44 ⟨r1, d1, rfl, ho1, hbk44⟩
            have HBk44 : Below V.heap.size V wk44 := HBk43.trans (hbk44.mono HBk43.size)
            have pb := blk_below pb hbk44
            have nw := cell_later hbk44 nw
            have HO1 := Hid.mk (owns_mono ho1 HBk43.size)
            clear ho1
            (try go_wp2_with fail)
            refine hK.out _ _ ?_ (fun hHeld' => ?_)
            · (try dsimp only)
              exact ⟨(HBk44.cell zlt).trans s0, (HBk44.cell zlt).trans s1, (HBk44.cell zlt2).trans s2⟩
            clear hK K hHeld
            have hHeld := hHeld'
            clear hHeld'
            (try simp only [Act.put, List.setIfInBounds_toArray, List.set_cons_zero, List.set_cons_succ])
            refine wpAnyH_ready (rs := [5]) (by kernel_rfl) (by simp) ?_
            refine AllReadyH.cons (o := ?_) ?_ (fun K hK => ?_) AllReadyH.nil
            rotate_left
            · (simp only [List.getElem?_toArray, List.getElem?_cons_zero, List.getElem?_cons_succ]; rfl)
            refine step_append_vals rfl (.tmp 31) (.tmp 33) 22 rfl V.heap.size 3 j0 (.int .i64 0) 1 8 Tryd.underlying22 hj0 hy0 hy1 hy2 rfl (by decide) (.slice r1 ma d1) ma ((pO zs fs Q).map (.int .i64)) (by simp [Act.eval]) (HO1.out) (some ⟨vk37.heap.size, 0, none⟩) 1 1 [.int .i64 (p : Nat)] (by simp [Act.eval]) rfl (fun ad he => by cases he; intro j u hu; match j, hu with | 0, hu => obtain rfl := Option.some.inj hu; exact nw) (by intro u hu; simp at hu; rw [hu]; rfl) (fun h => by cases h) (by unfold maxLen; omega) (by omega) (HBk44.size) (fun r5 d5 wk45 ho5 hg5 ht5 => ?_)
            have HBk45 : Below V.heap.size V wk45 := HBk44.grown hg5 HBk44.size (fun j hj => (HO1.out.lt j hj).1)
            have HO5 := Hid.mk ho5
            have pb := (hg5.block _ (Array.getElem?_eq_some_iff.1 pb).1 (fun e => blk_not_own pb (by decide) HO1.out e.symm)).trans pb
            clear ho5 hg5 ht5
            refine hK.out _ _ ?_ (fun hHeld' => ?_)
            · (try dsimp only)
              exact ⟨(HBk45.cell zlt).trans s0, (HBk45.cell zlt).trans s1, (HBk45.cell zlt2).trans s2⟩
            clear hK K hHeld
            have hHeld := hHeld'
            clear hHeld'
            (try simp only [Act.put, List.setIfInBounds_toArray, List.set_cons_zero, List.set_cons_succ])
            refine wpAnyH_ready (rs := [11]) (by kernel_rfl) (by simp) ?_
            refine AllReadyH.cons (o := ?_) ?_ (fun K hK => ?_) AllReadyH.nil
            rotate_left
            · (simp only [List.getElem?_toArray, List.getElem?_cons_zero, List.getElem?_cons_succ]; rfl)
            go_simp
            go_at_call 38
            refine (KO.out wk45 HBk45).mono ?_
            rintro e wk46 ⟨rfl, hbk46⟩
            have HBk46 : Below V.heap.size V wk46 := HBk45.trans (hbk46.mono HBk45.size)
            have pb := blk_below pb hbk46
            have HO5 := Hid.mk (owns_below HO5.out hbk46)
            (try go_wp2_with fail)
            refine hK.out _ _ ?_ (fun hHeld' => ?_)
            · (try dsimp only)
              exact ⟨(HBk46.cell zlt).trans s0, (HBk46.cell zlt).trans s1, (HBk46.cell zlt2).trans s2⟩
            clear hK K hHeld
            have hHeld := hHeld'
            clear hHeld'
            (try simp only [Act.put, List.setIfInBounds_toArray, List.set_cons_zero, List.set_cons_succ])
            refine tk 12 ?_
            refine tk 13 ?_
            have qs0 := blk_cell pb 0 rfl
            have qs1 := blk_cell pb 1 rfl
            have fs0 := blk_frozen pb 0
            have fs1 := blk_frozen pb 1
            refine wpAnyH_ready (rs := [15]) (by kernel_rfl) (by simp) ?_
            refine AllReadyH.cons (o := ?_) ?_ (fun K hK => ?_) AllReadyH.nil
            rotate_left
            · (simp only [List.getElem?_toArray, List.getElem?_cons_zero, List.getElem?_cons_succ]; rfl)
            go_simp
            (try go_wp2_with fail)
            refine hK.out _ _ ?_ (fun hHeld' => ?_)
            · (try dsimp only)
              exact ⟨(((HBk46.setCell (p := ⟨u0.heap.size, 0, none⟩) zpb _).setCell (p := ⟨u0.heap.size, 1, none⟩) zpb _).cell zlt).trans s0, (((HBk46.setCell (p := ⟨u0.heap.size, 0, none⟩) zpb _).setCell (p := ⟨u0.heap.size, 1, none⟩) zpb _).cell zlt).trans s1, (((HBk46.setCell (p := ⟨u0.heap.size, 0, none⟩) zpb _).setCell (p := ⟨u0.heap.size, 1, none⟩) zpb _).cell zlt2).trans s2⟩
            clear hK K hHeld
            have hHeld := hHeld'
            clear hHeld'
            (try simp only [Act.put, List.setIfInBounds_toArray, List.set_cons_zero, List.set_cons_succ])
            refine wpAnyH_done (by kernel_rfl) ?_ _
            (try go_wp2_with fail)
            go_meet
            case rel =>
              refine ⟨u0.heap.size, r5, d5, rfl, ?_, ?_, zpb, ((HBk46.setCell (p := ⟨u0.heap.size, 0, none⟩) zpb _).setCell (p := ⟨u0.heap.size, 1, none⟩) zpb _)⟩
              · have e9 : ma + 1 = m0 := HQL.out
                rw [← e9]
                exact blk_set (blk_set pb 0 _) 1 _
              · have e9 : ma + 1 = m0 := HQL.out
                rw [← e9, HC.out, List.map_append]
                exact own_set2 HO5.out pb (by decide) _ _
      case rest =>
        obtain ⟨PB, r2, d2, rfl, pbk, ho2, zpb, hb2⟩ := hcut
        obtain ⟨wZ, rfl⟩ : ∃ x, x = wc := ⟨_, rfl⟩
        have HBZ := Hid.mk (HBV.out.trans (hb2.mono HBV.out.size))
        have cbZ := blk_below HI.out.cb HBZ.out
        have rbZ := blk_below HI.out.rb HBZ.out
        have lbZ := blk_below HI.out.lb HBZ.out
        have tbZ := owns_below HI.out.tb HBZ.out
        have obZ := owns_below HI.out.ob HBZ.out
        have loZ := HI.out.lo.trans (HBZ.out.mono HI.out.lo.size)
        have szZ : w.heap.size + 3 ≤ wZ.heap.size := Nat.le_trans HI.out.sz HBZ.out.size
        have z3 : w.heap.size + 3 ≤ V.heap.size := by have := HI.out.sz; omega
        have ob2 := owns_mono ho2 z3
        have hlc : (cand zs fs (bl S) (p : Int)).length = m0 := by have h9 := ho2.1; simpa using h9
        obtain ⟨CB, hCB⟩ : ∃ C, costL zs fs (bstT zs fs (bl S) k) = C := ⟨_, rfl⟩
        rw [hCB] at lbZ
        have l0 := blk_cell lbZ 0 (v := .slice r m d) rfl
        have l1 := blk_cell lbZ 1 (v := .int .i64 CB) rfl
        have f0 := blk_frozen lbZ 0
        have f1 := blk_frozen lbZ 1
        have w0 := blk_cell pbk 0 (v := .slice r2 m0 d2) rfl
        have w1 := blk_cell pbk 1 (v := .int .i64 C2) rfl
        have KCP : Hid (Calls Tryd.prog 53 #[.agg #[.slice r2 m0 d2, .int .i64 C2], .agg #[.slice r m d, .int .i64 CB]] wZ fun e w' => e = .returned (.int .i64 (cmpP (cand zs fs (bl S) (p : Int)) C2 (bstT zs fs (bl S) k) CB)) ∧ Below wZ.heap.size wZ w') := comparePlans_any r2 m0 d2 _ C2 r m d _ CB wZ hlc (by omega) (At.owned ob2) HLB.out (by omega) (At.owned obZ)
        have HYES : Hid ((decide ((bstT zs fs (bl S) k).length = 0) || lesB zs fs (cand zs fs (bl S) (p : Int)) (bstT zs fs (bl S) k)) = true → ∀ w3, Below wZ.heap.size wZ w3 → ∀ U, U = (w3.setCell ⟨w.heap.size + 1 + 1, 0, none⟩ (.slice r2 m0 d2)).setCell ⟨w.heap.size + 1 + 1, 1, none⟩ (.int .i64 C2) → BpI w U b zs fs S (some ⟨tb, toff, none⟩) m0 d0 (k + 1) m0 r2 d2 ∧ (bstT zs fs (bl S) (k + 1)).length = m0) := fun hy w3 hb3 U hU => by
          have hst : bstT zs fs (bl S) (k + 1) = cand zs fs (bl S) (p : Int) := by rw [HST.out]; unfold chs; rw [if_pos hy]
          have lb3 := blk_below lbZ hb3
          have lo3 := loZ.trans (hb3.mono loZ.size)
          refine ⟨?_, by rw [hst]; exact hlc⟩
          refine ⟨?_, ?_, ?_, ?_, ?_, ?_, ?_⟩
          · rw [hU]; exact blk_other (blk_other (blk_below cbZ hb3) (by simp; omega) _) (by simp; omega) _
          · rw [hU]; exact blk_other (blk_other (blk_below rbZ hb3) (by simp) _) (by simp) _
          · rw [hU, hst, HCC.out]; exact blk_set (blk_set lb3 0 _) 1 _
          · rw [hU]; exact own_set2 (owns_below tbZ hb3) lb3 (by decide) _ _
          · rw [hU, hst]; exact own_set2 (owns_below ob2 hb3) lb3 (by decide) _ _
          · rw [hU]; exact (lo3.setCell (p := ⟨w.heap.size + 1 + 1, 0, none⟩) (by show w.heap.size ≤ w.heap.size + 1 + 1; omega) _).setCell (p := ⟨w.heap.size + 1 + 1, 1, none⟩) (by show w.heap.size ≤ w.heap.size + 1 + 1; omega) _
          · rw [hU]; have := hb3.size; simp [World.setCell]; omega
        have HNO : Hid ((decide ((bstT zs fs (bl S) k).length = 0) || lesB zs fs (cand zs fs (bl S) (p : Int)) (bstT zs fs (bl S) k)) = false → ∀ w3, Below wZ.heap.size wZ w3 → BpI w w3 b zs fs S (some ⟨tb, toff, none⟩) m0 d0 (k + 1) m r d ∧ (bstT zs fs (bl S) (k + 1)).length = m) := fun hn w3 hb3 => by
          have hst : bstT zs fs (bl S) (k + 1) = bstT zs fs (bl S) k := by rw [HST.out]; unfold chs; rw [if_neg (by rw [hn]; simp)]
          refine ⟨⟨blk_below cbZ hb3, blk_below rbZ hb3, ?_, owns_below tbZ hb3, ?_, loZ.trans (hb3.mono loZ.size), Nat.le_trans szZ hb3.size⟩, by rw [hst]; exact HLB.out⟩
          · rw [hst, hCB]; exact blk_below lbZ hb3
          · rw [hst]; exact owns_below obZ hb3
        have HCM : Hid (0 < k → decide (cmpP (cand zs fs (bl S) (p : Int)) C2 (bstT zs fs (bl S) k) CB < 0) = lesB zs fs (cand zs fs (bl S) (p : Int)) (bstT zs fs (bl S) k)) := fun hk0 => by
          have h9 := cmpP_les zs fs (a := cand zs fs (bl S) (p : Int)) (b := bstT zs fs (bl S) k) (by have := HLB.out; omega)
          rw [HCC.out, hCB] at h9
          exact h9
        obtain ⟨Cm, hCm⟩ : ∃ C, cmpP (cand zs fs (bl S) (p : Int)) C2 (bstT zs fs (bl S) k) CB = C := ⟨_, rfl⟩
        rw [hCm] at KCP HCM
        clear ho2 hb2 cbZ rbZ tbZ obZ loZ ob2 hlc hCB hCm KC KO s0 s1 s2 zlt zlt2
        rcases hmk with ⟨hm0, hkz⟩ | ⟨hmN, hk0⟩
        · have hkb : ((k : Int) == 0) = true := by rw [hkz]; rfl
          obtain ⟨U, hU⟩ : ∃ U, U = (wZ.setCell ⟨w.heap.size + 1 + 1, 0, none⟩ (.slice r2 m0 d2)).setCell ⟨w.heap.size + 1 + 1, 1, none⟩ (.int .i64 C2) := ⟨_, rfl⟩
          obtain ⟨hI2, hl2⟩ := HYES.out (by rw [HLB.out, decide_eq_true hm0]; rfl) wZ (Below.refl _ _) U hU
          have HI2 := Hid.mk hI2
          have HL2 := Hid.mk hl2
          clear hI2 hl2 HYES HNO HCM KCP hkz hm0
          go_wp2
          rw [← hU]
          clear hU
          go_roundw
          case rel => exact ⟨k + 1, m0, r2, d2, by omega, by go_num, .inr ⟨rfl, by omega⟩, HL2.out, HI2.out⟩
          case measure => simp [intOf]; omega
        · obtain rfl : m0 = m := hmN.symm
          have hkb : ((k : Int) == 0) = false := beq_eq_false_iff_ne.2 (by omega)
          have hcm := HCM.out hk0
          have HLN : Hid (decide ((bstT zs fs (bl S) k).length = 0) = false) := by show _ = _; exact decide_eq_false (by have := HLB.out; omega)
          by_cases c1 : Cm < 0
          · rw [decide_eq_true c1] at hcm
            have HI2 : Hid (∀ w3, Below wZ.heap.size wZ w3 → ∀ U, U = (w3.setCell ⟨w.heap.size + 1 + 1, 0, none⟩ (.slice r2 m0 d2)).setCell ⟨w.heap.size + 1 + 1, 1, none⟩ (.int .i64 C2) → BpI w U b zs fs S (some ⟨tb, toff, none⟩) m0 d0 (k + 1) m0 r2 d2 ∧ (bstT zs fs (bl S) (k + 1)).length = m0) := HYES.out (by rw [HLN.out, ← hcm]; rfl)
            have c1' : decide (Cm < 0) = true := decide_eq_true c1
            clear HYES HNO HCM hcm hmN
            go_wp2_with fail
            refine KCP.out.mono ?_
            rintro e w3 ⟨rfl, hb3⟩
            obtain ⟨U, hU⟩ : ∃ U, U = (w3.setCell ⟨w.heap.size + 1 + 1, 0, none⟩ (.slice r2 m0 d2)).setCell ⟨w.heap.size + 1 + 1, 1, none⟩ (.int .i64 C2) := ⟨_, rfl⟩
            obtain ⟨hI2, hl2⟩ := HI2.out w3 hb3 U hU
            have HI3 := Hid.mk hI2
            have HL3 := Hid.mk hl2
            have f0 := frozen_later hb3 l0 f0
            have f1 := frozen_later hb3 l1 f1
            have l0 := cell_later hb3 l0
            have l1 := cell_later hb3 l1
            have w0 := cell_later hb3 w0
            have w1 := cell_later hb3 w1
            clear hI2 hl2 HI2 hb3
            go_wp2
            rw [← hU]
            clear hU
            go_roundw
            case rel => exact ⟨k + 1, m0, r2, d2, by omega, by go_num, .inr ⟨rfl, by omega⟩, HL3.out, HI3.out⟩
            case measure => simp [intOf]; omega
          · rw [decide_eq_false c1] at hcm
            have HI2 : Hid (∀ w3, Below wZ.heap.size wZ w3 → BpI w w3 b zs fs S (some ⟨tb, toff, none⟩) m0 d0 (k + 1) m0 r d ∧ (bstT zs fs (bl S) (k + 1)).length = m0) := fun w3 h3 => HNO.out (by rw [HLN.out, ← hcm]; rfl) w3 h3
            have c1' : decide (Cm < 0) = false := decide_eq_false c1
            clear HYES HNO HCM hcm hmN
            go_wp2_with fail
            refine KCP.out.mono ?_
            rintro e w3 ⟨rfl, hb3⟩
            obtain ⟨hI2, hl2⟩ := HI2.out w3 hb3
            have HI3 := Hid.mk hI2
            have HL3 := Hid.mk hl2
            clear hI2 hl2 HI2 hb3
            go_wp2
            go_roundw
            case rel => exact ⟨k + 1, m0, r, d, by omega, by go_num, .inr ⟨rfl, by omega⟩, HL3.out, HI3.out⟩
            case measure => simp [intOf]; omega
    · obtain rfl : m0 = k := by omega
      have hki : ¬ (m0 : Int) < (m0 : Int) := by omega
      obtain rfl : m0 = m := by omega
      have HE : Hid (pO zs fs S = bstT zs fs (bl S) m0) := by show _ = _; unfold pO; rw [bestL_is zs fs (bl_nd S hS), HM0.out]
      have HEC : Hid (pC zs fs S = costL zs fs (bstT zs fs (bl S) m0)) := by show _ = _; unfold pC; rw [HE.out]
      obtain ⟨CB, hCB⟩ : ∃ C, costL zs fs (bstT zs fs (bl S) m0) = C := ⟨_, rfl⟩
      have lb := hI.lb
      rw [hCB] at lb HEC
      have l0 := blk_cell lb 0 (v := .slice r m0 d) rfl
      have l1 := blk_cell lb 1 (v := .int .i64 CB) rfl
      have e0 := blk_cell hI.rb 0 (v := .slice none 0 0) rfl
      have e1 := blk_cell hI.rb 1 (v := .int .i64 0) rfl
      have f0 := blk_frozen hI.rb 0
      have f1 := blk_frozen hI.rb 1
      obtain ⟨U, hU⟩ : ∃ U, U = (wr.setCell ⟨w.heap.size + 1, 0, none⟩ (.slice r m0 d)).setCell ⟨w.heap.size + 1, 1, none⟩ (.int .i64 CB) := ⟨_, rfl⟩
      have ub : U.heap[w.heap.size + 1]? = some (.cells #[.slice r m0 d, .int .i64 CB] 49 (0, 0)) := by rw [hU]; exact blk_set (blk_set hI.rb 0 _) 1 _
      have u0 := blk_cell ub 0 (v := .slice r m0 d) rfl
      have u1 := blk_cell ub 1 (v := .int .i64 CB) rfl
      have HO : Hid (U.ownsRow w.heap.size 3 1 (.slice r m0 d) m0 ((bstT zs fs (bl S) m0).map (.int .i64))) := by
        show World.ownsRow _ _ _ _ _ _ _
        rw [hU]; exact owns_mono (own_set2 hI.ob hI.rb (by decide) _ _) (by omega)
      have HB : Hid (Below w.heap.size w U) := by
        show Below _ _ _
        rw [hU]; exact (hI.lo.setCell (p := ⟨w.heap.size + 1, 0, none⟩) (by show w.heap.size ≤ w.heap.size + 1; omega) _).setCell (p := ⟨w.heap.size + 1, 1, none⟩) (by show w.heap.size ≤ w.heap.size + 1; omega) _
      clear hI lb hCB
      go_wp2
      rw [← hU]
      clear hU
      refine bodyPost_ret (v := .agg #[.slice r m0 d, .int .i64 CB]) (by simp [results, Tryd.results41, go_sem, u0, u1]) rfl ⟨r, d, ?_, ?_, HB.out⟩
      · rw [HM0.out, HEC.out]
      · rw [HM0.out, HE.out]; exact HO.out

end Go.Proofs.YtkcmlphpilggpaaDoor
