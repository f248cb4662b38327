/- Contracts of impl.areStored, impl.GoodSink. -/
import Derived.Test.YtmbjmmnodcebbaaM4
namespace Go.Proofs.Ytmbjmmnodcebbaa
open Go.RowKit

set_option maxRecDepth 100000 in
set_option maxHeartbeats 8000000 in
theorem areStored_any (a0 : Option Addr) (n0 c0 : Nat) (t : Int) (a2 : Option Addr) (n2 c2 : Nat) (a3 : Option Addr) (n3 c3 : Nat) (a4 : Option Addr) (n4 c4 : Nat) (la : Int) (U : Nat) (src : List Int) (ps : List TPrepared) (w : World) (h0 : src.length = n0) (hnc : n0 ≤ c0) (h3 : ps.length = n3) (hb3 : n3 ≤ 1048576) (hsm : ∀ (i : Nat) (x : TPrepared), ps[i]? = some x → costPrepared x ≤ 1048576)
    (hn0 : n0 ≤ 30) (hU : (U : Int) ≤ t) (ht : t ≤ n0) (hl0 : 0 ≤ la) (hl1 : la ≤ 1000) (ha0 : At w a0 src) (ha3 : AtSl RPrepared w a3 ps) :
    Calls Try.prog 49 #[.agg #[.slice a0 n0 c0, .int .i64 t, .slice a2 n2 c2, .slice a3 n3 c3, .slice a4 n4 c4, .int .i64 la, .int .i64 (U : Nat)]] w fun e w' => e = .returned (.bool (decide (n3 ≤ 4) && decide (la + n3 ≤ 1000) && pgsB src t la U ps)) ∧ Below w.heap.size w w' := by
  obtain ⟨W, hW⟩ : ∃ W, W = w.alloc (.cells #[.slice a0 n0 c0, .int .i64 t, .slice a2 n2 c2, .slice a3 n3 c3, .slice a4 n4 c4, .int .i64 la, .int .i64 (U : Nat)] 29) := ⟨_, rfl⟩
  have B0 : Below w.heap.size w W := by rw [hW]; exact (Below.refl _ _).alloc (Nat.le_refl _) _
  have p0 : W.cell? ⟨w.heap.size, 0, none⟩ = some (.slice a0 n0 c0) := by rw [hW]; simp
  have p1 : W.cell? ⟨w.heap.size, 1, none⟩ = some (.int .i64 t) := by rw [hW]; simp
  have p3 : W.cell? ⟨w.heap.size, 3, none⟩ = some (.slice a3 n3 c3) := by rw [hW]; simp
  have p5 : W.cell? ⟨w.heap.size, 5, none⟩ = some (.int .i64 la) := by rw [hW]; simp
  have p6 : W.cell? ⟨w.heap.size, 6, none⟩ = some (.int .i64 (U : Nat)) := by rw [hW]; simp
  have zW : w.heap.size < W.heap.size := by rw [hW]; simp
  have H0 := Hid.mk h0
  have H3 := Hid.mk h3
  have HSM := Hid.mk hsm
  have HA0 := Hid.mk (At.below ha0 B0)
  have HA3 := Hid.mk (AtSl.below ha3 B0)
  have HV : Hid ((decide (n3 ≤ 4) && decide (la + n3 ≤ 1000) && pgsB src t la U ps) = (decide (n3 ≤ 4) && decide (la + n3 ≤ 1000) && pgsB src t la U ps)) := Hid.mk rfl
  clear h0 h3 hsm ha0 ha3
  by_cases h4 : n3 ≤ 4
  rotate_left
  · have hd4 : (4 : Int) < (n3 : Int) := by omega
    rw [decide_eq_false h4] at HV ⊢
    clear h4 HV
    go_enter Try.func49, Try.ntmps49
    go_upto_region 1 with fail
    rw [← hW]
    clear hW
    go_wp2
    go_ret
    exact ⟨rfl, B0⟩
  have hd4 : ¬ (4 : Int) < (n3 : Int) := by omega
  have hwl : IntKind.i64.wrap (la + (n3 : Int)) = la + (n3 : Int) := IntWalk.i64_in _ (by omega)
  rw [decide_eq_true h4] at HV ⊢
  by_cases h1000 : la + n3 ≤ 1000
  rotate_left
  · have hd5 : (1000 : Int) < la + (n3 : Int) := by omega
    rw [decide_eq_false h1000] at HV ⊢
    clear h1000 HV
    go_enter Try.func49, Try.ntmps49
    go_upto_region 1 with fail
    rw [← hW]
    clear hW
    go_wp2
    go_ret
    exact ⟨rfl, B0⟩
  have hd5 : ¬ (1000 : Int) < la + (n3 : Int) := by omega
  rw [decide_eq_true h1000] at HV ⊢
  clear HV
  simp only [Bool.true_and]
  go_enter Try.func49, Try.ntmps49
  go_upto_region 1 with fail
  rw [← hW]
  clear hW
  go_wp2_with fail
  go_loopw [3, 24] (fun q i wr => ∃ (k v : Nat), k ≤ n3 ∧ i = .int .i64 k ∧ q = .int .i64 v ∧ (v : Int) ≤ t ∧ pgsB src t la U ps = pgsB src t (la + k) v (ps.drop k) ∧ Below W.heap.size W wr) (fun _ i _ => n3 - (intOf i).toNat)
  case atStart => exact ⟨0, U, Nat.zero_le _, rfl, rfl, hU, by simp, Below.refl _ _⟩
  case round =>
    obtain ⟨k, v, hk, rfl, rfl, hv, ht', hbw⟩ := hrel
    obtain ⟨wY, rfl⟩ : ∃ x, x = wr := ⟨_, rfl⟩
    have p0 := cell_later hbw p0
    have p1 := cell_later hbw p1
    have p3 := cell_later hbw p3
    have p5 := cell_later hbw p5
    by_cases hlt : k < n3
    · obtain ⟨b, off, rfl, _, hc⟩ := RPrepared.row (AtSl.below HA3.out hbw) (by have := H3.out; omega)
      obtain ⟨⟨x0, x1, x2⟩, hx⟩ : ∃ x, ps[k]? = some x := ⟨_, List.getElem?_eq_getElem (by have := H3.out; omega)⟩
      obtain ⟨d, l, e, g0, g1, g2, t2⟩ := hc k _ hx
      have hki : (k : Int) < (n3 : Int) := by omega
      rw [pgsB_step hx] at ht'
      have hls : l ≤ 1048576 := smallPrepared t2.1 (HSM.out _ _ hx)
      simp only at g0 g1 g2 t2 ht'
      have hpg : pgB src t (la + k) v (x0, x1, x2) = (decide (x0 = la + k + 1) && decide ((v : Int) ≤ x1) && decide (x1 ≤ t) && decide (x2 = seg src v x1)) := rfl
      rw [hpg] at ht'
      have hw1 : IntKind.i64.wrap (la + (k : Int)) = la + (k : Int) := IntWalk.i64_in _ (by omega)
      have hw2 : IntKind.i64.wrap (la + (k : Int) + 1) = la + (k : Int) + 1 := IntWalk.i64_in _ (by omega)
      obtain ⟨X, hX⟩ : ∃ X, X = wY.alloc (.cells #[.int .i64 x0, .int .i64 x1, .slice d l e] 64) := ⟨_, rfl⟩
      have bX : Below wY.heap.size wY X := by rw [hX]; exact (Below.refl _ _).alloc (Nat.le_refl _) _
      have s0 : X.cell? ⟨wY.heap.size, 0, none⟩ = some (.int .i64 x0) := by rw [hX]; simp
      have s1 : X.cell? ⟨wY.heap.size, 1, none⟩ = some (.int .i64 x1) := by rw [hX]; simp
      have s2 : X.cell? ⟨wY.heap.size, 2, none⟩ = some (.slice d l e) := by rw [hX]; simp
      have HT := Hid.mk ht'
      have BW := Hid.mk (hbw.trans (bX.mono hbw.size))
      have BX := Hid.mk (B0.trans (BW.out.mono B0.size))
      have HA0' := Hid.mk (At.below HA0.out BW.out)
      have HD := Hid.mk (At.below t2.2.2.1 bX)
      have HL := Hid.mk t2.1
      have p0 := cell_later bX p0
      have p1 := cell_later bX p1
      have p5 := cell_later bX p5
      clear hc hx ht' hpg t2 bX hbw p3
      go_upto_region 7 with fail
      rw [← hX]
      clear hX g0 g1 g2
      by_cases hA : x0 = la + k + 1
      rotate_left
      · have hAb : (x0 != la + (k : Int) + 1) = true := by simp [hA]
        rw [decide_eq_false hA] at HT
        clear hA
        refine wp_region_held_drew (S := fun w' => w'.cell? ⟨w.heap.size, 0, none⟩ = some (.slice a0 n0 c0) ∧ w'.cell? ⟨w.heap.size, 1, none⟩ = some (.int .i64 t) ∧ w'.cell? ⟨w.heap.size, 5, none⟩ = some (.int .i64 la) ∧ w'.cell? ⟨wY.heap.size, 0, none⟩ = some (.int .i64 x0) ∧ w'.cell? ⟨wY.heap.size, 1, none⟩ = some (.int .i64 x1) ∧ w'.cell? ⟨wY.heap.size, 2, none⟩ = some (.slice d l e)) (by kernel_rfl) ?_ (fun hHeld => ?_)
        · (try dsimp only)
          exact ⟨p0, p1, p5, s0, s1, s2⟩
        refine tk 0 ?_
        refine tk 1 ?_
        refine tk 2 ?_
        refine tk 3 ?_
        refine tk 4 ?_
        refine tk 5 ?_
        refine tk 6 ?_
        refine tk 7 ?_
        refine tk 8 ?_
        refine tu 9 ?_
        refine tu 10 ?_
        refine tu 11 ?_
        refine tu 12 ?_
        refine tk 13 ?_
        refine tk 14 ?_
        refine tu 15 ?_
        refine tu 16 ?_
        refine tu 17 ?_
        refine tu 18 ?_
        refine tu 19 ?_
        refine tk 20 ?_
        refine tk 21 ?_
        refine tu 22 ?_
        refine tu 23 ?_
        refine tu 24 ?_
        refine tu 25 ?_
        refine tu 26 ?_
        refine tu 27 ?_
        refine tu 28 ?_
        refine tu 29 ?_
        refine tu 30 ?_
        refine tu 31 ?_
        refine tk 32 ?_
        refine wpAnyH_done (by kernel_rfl) ?_ _
        go_wp2
        go_ret
        exact ⟨ret_bool (by rw [HT.out]; rfl), BX.out.drew⟩
      have hAb : (x0 != la + (k : Int) + 1) = false := by simp [hA]
      rw [decide_eq_true hA] at HT
      by_cases hB : (v : Int) ≤ x1
      rotate_left
      · have hBb : x1 < (v : Int) := by omega
        rw [decide_eq_false hB] at HT
        clear hA hB
        refine wp_region_held_drew (S := fun w' => w'.cell? ⟨w.heap.size, 0, none⟩ = some (.slice a0 n0 c0) ∧ w'.cell? ⟨w.heap.size, 1, none⟩ = some (.int .i64 t) ∧ w'.cell? ⟨w.heap.size, 5, none⟩ = some (.int .i64 la) ∧ w'.cell? ⟨wY.heap.size, 0, none⟩ = some (.int .i64 x0) ∧ w'.cell? ⟨wY.heap.size, 1, none⟩ = some (.int .i64 x1) ∧ w'.cell? ⟨wY.heap.size, 2, none⟩ = some (.slice d l e)) (by kernel_rfl) ?_ (fun hHeld => ?_)
        · (try dsimp only)
          exact ⟨p0, p1, p5, s0, s1, s2⟩
        refine tk 0 ?_
        refine tk 1 ?_
        refine tk 2 ?_
        refine tk 3 ?_
        refine tk 4 ?_
        refine tk 5 ?_
        refine tk 6 ?_
        refine tk 7 ?_
        refine tk 8 ?_
        refine tk 9 ?_
        refine tk 10 ?_
        refine tk 11 ?_
        refine tk 12 ?_
        refine tk 13 ?_
        refine tk 14 ?_
        refine tu 15 ?_
        refine tu 16 ?_
        refine tu 17 ?_
        refine tu 18 ?_
        refine tu 19 ?_
        refine tk 20 ?_
        refine tk 21 ?_
        refine tu 22 ?_
        refine tu 23 ?_
        refine tu 24 ?_
        refine tu 25 ?_
        refine tu 26 ?_
        refine tu 27 ?_
        refine tu 28 ?_
        refine tu 29 ?_
        refine tu 30 ?_
        refine tu 31 ?_
        refine tk 32 ?_
        refine wpAnyH_done (by kernel_rfl) ?_ _
        go_wp2
        go_ret
        exact ⟨ret_bool (by rw [HT.out]; rfl), BX.out.drew⟩
      have hBb : ¬ x1 < (v : Int) := by omega
      rw [decide_eq_true hB] at HT
      by_cases hC : x1 ≤ t
      rotate_left
      · have hCb : t < x1 := by omega
        rw [decide_eq_false hC] at HT
        clear hA hB hC
        refine wp_region_held_drew (S := fun w' => w'.cell? ⟨w.heap.size, 0, none⟩ = some (.slice a0 n0 c0) ∧ w'.cell? ⟨w.heap.size, 1, none⟩ = some (.int .i64 t) ∧ w'.cell? ⟨w.heap.size, 5, none⟩ = some (.int .i64 la) ∧ w'.cell? ⟨wY.heap.size, 0, none⟩ = some (.int .i64 x0) ∧ w'.cell? ⟨wY.heap.size, 1, none⟩ = some (.int .i64 x1) ∧ w'.cell? ⟨wY.heap.size, 2, none⟩ = some (.slice d l e)) (by kernel_rfl) ?_ (fun hHeld => ?_)
        · (try dsimp only)
          exact ⟨p0, p1, p5, s0, s1, s2⟩
        refine tk 0 ?_
        refine tk 1 ?_
        refine tk 2 ?_
        refine tk 3 ?_
        refine tk 4 ?_
        refine tk 5 ?_
        refine tk 6 ?_
        refine tk 7 ?_
        refine tk 8 ?_
        refine tk 9 ?_
        refine tk 10 ?_
        refine tk 11 ?_
        refine tk 12 ?_
        refine tk 13 ?_
        refine tk 14 ?_
        refine tk 15 ?_
        refine tk 16 ?_
        refine tk 17 ?_
        refine tk 18 ?_
        refine tk 19 ?_
        refine tk 20 ?_
        refine tk 21 ?_
        refine tu 22 ?_
        refine tu 23 ?_
        refine tu 24 ?_
        refine tu 25 ?_
        refine tu 26 ?_
        refine tu 27 ?_
        refine tu 28 ?_
        refine tu 29 ?_
        refine tu 30 ?_
        refine tu 31 ?_
        refine tk 32 ?_
        refine wpAnyH_done (by kernel_rfl) ?_ _
        go_wp2
        go_ret
        exact ⟨ret_bool (by rw [HT.out]; rfl), BX.out.drew⟩
      have hCb : ¬ t < x1 := by omega
      rw [decide_eq_true hC] at HT
      obtain ⟨Q, rfl⟩ : ∃ Q : Nat, x1 = Q := ⟨x1.toNat, by omega⟩
      have hvQ : v ≤ Q := by omega
      have hQn : Q ≤ n0 := by omega
      have hQc : Q ≤ c0 := by omega
      have HSG := Hid.mk (at_seg H0.out hnc hvQ hQn HA0'.out)
      have HSL : Hid ((seg src (v : Int) (Q : Int)).length = Q - v) := Hid.mk (by rw [seg_len (by omega) (by omega) (by have := H0.out; omega)]; omega)
      have KE := Hid.mk (fun (Z : World) (hZ : Below X.heap.size X Z) => equalInts_any d (shA a0 c0 v) l (Q - v) e (c0 - v) x2 (seg src v Q) Z HL.out HSL.out hls (by omega) (At.below HD.out hZ) (At.below HSG.out hZ))
      have hHQ : HA0 = HA0 := rfl
      clear hHQ
      cases hE : decide (x2 = seg src v Q) with
      | false =>
        rw [hE] at HT KE
        clear hE HSG HSL
        refine wp_region_held_drew (S := fun w' => w'.cell? ⟨w.heap.size, 0, none⟩ = some (.slice a0 n0 c0) ∧ w'.cell? ⟨w.heap.size, 1, none⟩ = some (.int .i64 t) ∧ w'.cell? ⟨w.heap.size, 5, none⟩ = some (.int .i64 la) ∧ w'.cell? ⟨wY.heap.size, 0, none⟩ = some (.int .i64 x0) ∧ w'.cell? ⟨wY.heap.size, 1, none⟩ = some (.int .i64 (Q : Nat)) ∧ w'.cell? ⟨wY.heap.size, 2, none⟩ = some (.slice d l e)) (by kernel_rfl) ?_ (fun hHeld => ?_)
        · (try dsimp only)
          exact ⟨p0, p1, p5, s0, s1, s2⟩
        refine tk 0 ?_
        refine tk 1 ?_
        refine tk 2 ?_
        refine tk 3 ?_
        refine tk 4 ?_
        refine tk 5 ?_
        refine tk 6 ?_
        refine tk 7 ?_
        refine tk 8 ?_
        refine tk 9 ?_
        refine tk 10 ?_
        refine tk 11 ?_
        refine tk 12 ?_
        refine tk 13 ?_
        refine tk 14 ?_
        refine tk 15 ?_
        refine tk 16 ?_
        refine tk 17 ?_
        refine tk 18 ?_
        refine tk 19 ?_
        refine tk 20 ?_
        refine tk 21 ?_
        refine tk 22 ?_
        refine tk 23 ?_
        refine tk 24 ?_
        refine tk 25 ?_
        refine tk 26 ?_
        refine tk 27 ?_
        refine tk 28 ?_
        refine tk 29 (v := .slice (shA a0 c0 v) (Q - v) (c0 - v)) ?_ (hy := fun wS hSw => by ((try dsimp only at hSw); go_simp; (try rfl)))
        refine tr 30 (fun K hK => ?_)
        go_simp
        go_at_call 50
        refine (KE.out _ (Below.refl _ _).drew).mono ?_
        rintro e w4 ⟨rfl, hb4⟩
        have h4 : Below X.heap.size X w4 := (Below.refl _ _).drew.trans hb4
        have p0 := cell_later h4 p0
        have p1 := cell_later h4 p1
        have p5 := cell_later h4 p5
        have s0 := cell_later h4 s0
        have s1 := cell_later h4 s1
        have s2 := cell_later h4 s2
        have B4 := Hid.mk (BW.out.trans (h4.mono BW.out.size))
        clear hb4 h4
        (try go_wp2_with fail)
        refine hK.out _ _ ?_ (fun hHeld' => ?_)
        · (try dsimp only)
          exact ⟨p0, p1, p5, s0, s1, s2⟩
        clear hK K hHeld
        have hHeld := hHeld'
        clear hHeld'
        (try simp only [Act.put, List.setIfInBounds_toArray, List.set_cons_zero, List.set_cons_succ])
        refine tk 31 ?_
        refine tk 32 ?_
        refine wpAnyH_done (by kernel_rfl) ?_ _
        go_wp2
        go_ret
        exact ⟨ret_bool (by rw [HT.out]; simp), B0.trans (B4.out.mono B0.size)⟩
      | true =>
        rw [hE] at HT KE
        clear hE HSG HSL
        refine wp_region_held_drew (S := fun w' => w'.cell? ⟨w.heap.size, 0, none⟩ = some (.slice a0 n0 c0) ∧ w'.cell? ⟨w.heap.size, 1, none⟩ = some (.int .i64 t) ∧ w'.cell? ⟨w.heap.size, 5, none⟩ = some (.int .i64 la) ∧ w'.cell? ⟨wY.heap.size, 0, none⟩ = some (.int .i64 x0) ∧ w'.cell? ⟨wY.heap.size, 1, none⟩ = some (.int .i64 (Q : Nat)) ∧ w'.cell? ⟨wY.heap.size, 2, none⟩ = some (.slice d l e)) (by kernel_rfl) ?_ (fun hHeld => ?_)
        · (try dsimp only)
          exact ⟨p0, p1, p5, s0, s1, s2⟩
        refine tk 0 ?_
        refine tk 1 ?_
        refine tk 2 ?_
        refine tk 3 ?_
        refine tk 4 ?_
        refine tk 5 ?_
        refine tk 6 ?_
        refine tk 7 ?_
        refine tk 8 ?_
        refine tk 9 ?_
        refine tk 10 ?_
        refine tk 11 ?_
        refine tk 12 ?_
        refine tk 13 ?_
        refine tk 14 ?_
        refine tk 15 ?_
        refine tk 16 ?_
        refine tk 17 ?_
        refine tk 18 ?_
        refine tk 19 ?_
        refine tk 20 ?_
        refine tk 21 ?_
        refine tk 22 ?_
        refine tk 23 ?_
        refine tk 24 ?_
        refine tk 25 ?_
        refine tk 26 ?_
        refine tk 27 ?_
        refine tk 28 ?_
        refine tk 29 (v := .slice (shA a0 c0 v) (Q - v) (c0 - v)) ?_ (hy := fun wS hSw => by ((try dsimp only at hSw); go_simp; (try rfl)))
        refine tr 30 (fun K hK => ?_)
        go_simp
        go_at_call 50
        refine (KE.out _ (Below.refl _ _).drew).mono ?_
        rintro e w4 ⟨rfl, hb4⟩
        have h4 : Below X.heap.size X w4 := (Below.refl _ _).drew.trans hb4
        have p0 := cell_later h4 p0
        have p1 := cell_later h4 p1
        have p5 := cell_later h4 p5
        have s0 := cell_later h4 s0
        have s1 := cell_later h4 s1
        have s2 := cell_later h4 s2
        have B4 := Hid.mk (BW.out.trans (h4.mono BW.out.size))
        clear hb4 h4
        (try go_wp2_with fail)
        refine hK.out _ _ ?_ (fun hHeld' => ?_)
        · (try dsimp only)
          exact ⟨p0, p1, p5, s0, s1, s2⟩
        clear hK K hHeld
        have hHeld := hHeld'
        clear hHeld'
        (try simp only [Act.put, List.setIfInBounds_toArray, List.set_cons_zero, List.set_cons_succ])
        refine tk 31 ?_
        refine tk 32 ?_
        refine wpAnyH_done (by kernel_rfl) ?_ _
        go_wp2
        go_roundw
        case rel => exact ⟨k + 1, Q, by omega, by go_num, rfl, hC, by rw [HT.out]; simp only [Bool.true_and]; congr 1; push_cast; omega, B4.out⟩
        case measure => simp [intOf]; omega
    · obtain rfl : k = n3 := by omega
      rw [pgsB_done (by have := H3.out; omega)] at ht'
      go_wp2
      go_ret
      exact ⟨ret_bool (by rw [ht']), B0.trans (hbw.mono B0.size)⟩

set_option maxRecDepth 100000 in
set_option maxHeartbeats 8000000 in
theorem implGoodSink (a0 : Option Addr) (n0 c0 : Nat) (a2 : Option Addr) (n2 c2 : Nat) (a3 : Option Addr) (n3 c3 : Nat) (a4 : Option Addr) (n4 c4 : Nat) (t la up : Int) (src pd : List Int) (ps : List TPrepared) (ou : List Int) (w : World) (hnc : n0 ≤ c0) (h0 : src.length = n0) (h2 : pd.length = n2) (h3 : ps.length = n3) (h4 : ou.length = n4) (hb0 : n0 ≤ 1048576) (hb2 : n2 ≤ 1048576) (hb3 : n3 ≤ 1048576) (hb4 : n4 ≤ 1048576) (hsm : ∀ (i : Nat) (x : TPrepared), ps[i]? = some x → costPrepared x ≤ 1048576)
    (ha0 : At w a0 src) (ha2 : At w a2 pd) (ha3 : AtSl RPrepared w a3 ps) (ha4 : At w a4 ou) :
    Calls Try.prog 29 #[.agg #[.slice a0 n0 c0, .int .i64 t, .slice a2 n2 c2, .slice a3 n3 c3, .slice a4 n4 c4, .int .i64 la, .int .i64 up]] w fun e w' => e = .returned (.bool (gkB (src, t, pd, ps, ou, la, up))) ∧ Below w.heap.size w w' := by
  obtain ⟨W, hW⟩ : ∃ W, W = w.alloc (.cells #[.slice a0 n0 c0, .int .i64 t, .slice a2 n2 c2, .slice a3 n3 c3, .slice a4 n4 c4, .int .i64 la, .int .i64 up] 29) := ⟨_, rfl⟩
  have B0 : Below w.heap.size w W := by rw [hW]; exact (Below.refl _ _).alloc (Nat.le_refl _) _
  have p0 : W.cell? ⟨w.heap.size, 0, none⟩ = some (.slice a0 n0 c0) := by rw [hW]; simp
  have p1 : W.cell? ⟨w.heap.size, 1, none⟩ = some (.int .i64 t) := by rw [hW]; simp
  have p2 : W.cell? ⟨w.heap.size, 2, none⟩ = some (.slice a2 n2 c2) := by rw [hW]; simp
  have p3 : W.cell? ⟨w.heap.size, 3, none⟩ = some (.slice a3 n3 c3) := by rw [hW]; simp
  have p4 : W.cell? ⟨w.heap.size, 4, none⟩ = some (.slice a4 n4 c4) := by rw [hW]; simp
  have p5 : W.cell? ⟨w.heap.size, 5, none⟩ = some (.int .i64 la) := by rw [hW]; simp
  have p6 : W.cell? ⟨w.heap.size, 6, none⟩ = some (.int .i64 up) := by rw [hW]; simp
  have HV : Hid (gkB (src, t, pd, ps, ou, la, up) = (decide (n0 ≤ 30) && (decide (0 ≤ t) && decide (t ≤ n0)) && (decide (0 ≤ up) && decide (up ≤ t)) && (decide (0 ≤ la) && decide (la ≤ 1000)) && (decide (n3 ≤ 4) && decide (la + n3 ≤ 1000) && pgsB src t la up ps) && (decide (ou = seg src 0 up) && decide (pd = seg src (upF up ps) t)))) := Hid.mk (by
    unfold gkB hdB
    simp only [h0, h3]
    cases decide (n0 ≤ 30) <;> cases decide (0 ≤ t) <;> cases decide (t ≤ n0) <;> cases decide (0 ≤ up) <;> cases decide (up ≤ t) <;> cases decide (0 ≤ la) <;> cases decide (la ≤ 1000) <;> simp only [Bool.true_and, Bool.false_and, Bool.and_false, Bool.and_true]
    cases decide (n3 ≤ 4) <;> cases decide (la + n3 ≤ 1000) <;> cases pgsB src t la up ps <;> cases decide (ou = seg src 0 up) <;> cases decide (pd = seg src (upF up ps) t) <;> rfl)
  have H0 := Hid.mk h0
  have H2 := Hid.mk h2
  have H3 := Hid.mk h3
  have H4 := Hid.mk h4
  have HSM := Hid.mk hsm
  have HA0 := Hid.mk (At.below ha0 B0)
  have HA2 := Hid.mk (At.below ha2 B0)
  have HA3 := Hid.mk (AtSl.below ha3 B0)
  have HA4 := Hid.mk (At.below ha4 B0)
  have K1 := Hid.mk (isUpTo_any t (n0 : Int) W)
  have K2 := Hid.mk (isUpTo_any up t W)
  have K3 := Hid.mk (isUpTo_any la 1000 W)
  clear h0 h2 h3 h4 hsm ha0 ha2 ha3 ha4
  by_cases g30 : n0 ≤ 30
  rotate_left
  · have hd : (30 : Int) < (n0 : Int) := by omega
    rw [decide_eq_false g30] at HV
    clear g30 K1 K2 K3
    go_enter Try.func29, Try.ntmps29
    go_upto_region 1 with fail
    rw [← hW]
    clear hW
    go_wp2_with fail
    go_wp2
    go_ret
    exact ⟨ret_bool (by rw [HV.out]; simp), B0⟩
  have hd : ¬ (30 : Int) < (n0 : Int) := by omega
  rw [decide_eq_true g30] at HV
  by_cases q1 : 0 ≤ t ∧ t ≤ (n0 : Int)
  rotate_left
  · have hf : (decide (0 ≤ t) && decide (t ≤ (n0 : Int))) = false := by rw [Bool.eq_false_iff]; intro h9; rw [Bool.and_eq_true, decide_eq_true_eq, decide_eq_true_eq] at h9; exact q1 h9
    rw [hf] at HV K1
    clear hf q1
    go_enter Try.func29, Try.ntmps29
    go_upto_region 1 with fail
    rw [← hW]
    clear hW
    go_wp2_with fail
    refine K1.out.mono ?_
    rintro e w9 ⟨rfl, hw9⟩
    obtain rfl := hw9.symm
    go_wp2
    go_ret
    exact ⟨ret_bool (by rw [HV.out]; simp), B0⟩
  have hf1 : (decide (0 ≤ t) && decide (t ≤ (n0 : Int))) = true := by rw [Bool.and_eq_true, decide_eq_true_eq, decide_eq_true_eq]; exact q1
  rw [hf1] at HV K1
  clear hf1
  by_cases q2 : 0 ≤ up ∧ up ≤ t
  rotate_left
  · have hf : (decide (0 ≤ up) && decide (up ≤ t)) = false := by rw [Bool.eq_false_iff]; intro h9; rw [Bool.and_eq_true, decide_eq_true_eq, decide_eq_true_eq] at h9; exact q2 h9
    rw [hf] at HV K2
    clear hf q2
    go_enter Try.func29, Try.ntmps29
    go_upto_region 1 with fail
    rw [← hW]
    clear hW
    go_wp2_with fail
    refine K1.out.mono ?_
    rintro e w9 ⟨rfl, hw9⟩
    obtain rfl := hw9.symm
    go_wp2_with fail
    refine K2.out.mono ?_
    rintro e w9 ⟨rfl, hw9⟩
    obtain rfl := hw9.symm
    go_wp2
    go_ret
    exact ⟨ret_bool (by rw [HV.out]; simp), B0⟩
  have hf2 : (decide (0 ≤ up) && decide (up ≤ t)) = true := by rw [Bool.and_eq_true, decide_eq_true_eq, decide_eq_true_eq]; exact q2
  rw [hf2] at HV K2
  clear hf2
  by_cases q3 : 0 ≤ la ∧ la ≤ 1000
  rotate_left
  · have hf : (decide (0 ≤ la) && decide (la ≤ 1000)) = false := by rw [Bool.eq_false_iff]; intro h9; rw [Bool.and_eq_true, decide_eq_true_eq, decide_eq_true_eq] at h9; exact q3 h9
    rw [hf] at HV K3
    clear hf q3
    go_enter Try.func29, Try.ntmps29
    go_upto_region 1 with fail
    rw [← hW]
    clear hW
    go_wp2_with fail
    refine K1.out.mono ?_
    rintro e w9 ⟨rfl, hw9⟩
    obtain rfl := hw9.symm
    go_wp2_with fail
    refine K2.out.mono ?_
    rintro e w9 ⟨rfl, hw9⟩
    obtain rfl := hw9.symm
    go_wp2_with fail
    refine K3.out.mono ?_
    rintro e w9 ⟨rfl, hw9⟩
    obtain rfl := hw9.symm
    go_wp2
    go_ret
    exact ⟨ret_bool (by rw [HV.out]; simp), B0⟩
  have hf3 : (decide (0 ≤ la) && decide (la ≤ 1000)) = true := by rw [Bool.and_eq_true, decide_eq_true_eq, decide_eq_true_eq]; exact q3
  rw [hf3] at HV K3
  clear hf3
  obtain ⟨⟨e1, e2⟩, e3, e4⟩ := And.intro (And.intro q1.1 q1.2) (And.intro q2.1 q2.2)
  obtain ⟨U, rfl⟩ : ∃ U : Nat, up = U := ⟨up.toNat, by omega⟩
  obtain ⟨tn, rfl⟩ : ∃ U : Nat, t = U := ⟨t.toNat, by omega⟩
  have KA := Hid.mk (fun (Z : World) (hZ : Below W.heap.size W Z) => areStored_any a0 n0 c0 tn a2 n2 c2 a3 n3 c3 a4 n4 c4 la U src ps Z H0.out hnc H3.out hb3 HSM.out g30 e4 e2 q3.1 q3.2 (At.below HA0.out hZ) (AtSl.below HA3.out hZ))
  have KS := Hid.mk (fun (Z : World) (hZ : Below W.heap.size W Z) => storedUpto_any a0 n0 c0 tn a2 n2 c2 a3 n3 c3 a4 n4 c4 la U ps Z H3.out (by omega) (AtSl.below HA3.out hZ))
  have hU0 : U ≤ n0 := by omega
  have KO := Hid.mk (fun (Z : World) (hZ : Below W.heap.size W Z) => equalInts_any a4 a0 n4 U c4 c0 ou (seg src 0 (U : Int)) Z H4.out (by rw [seg_len (by omega) (by omega) (by have := H0.out; omega)]; omega) hb4 (by omega) (At.below HA4.out hZ) (at_pre H0.out hU0 (At.below HA0.out hZ)))
  have hUt : U ≤ tn := by omega
  have htn : tn ≤ n0 := by omega
  have htc : tn ≤ c0 := by omega
  have hUc : U ≤ c0 := by omega
  cases hA : (decide (n3 ≤ 4) && decide (la + n3 ≤ 1000) && pgsB src (tn : Int) la (U : Int) ps) with
  | false =>
    rw [hA] at HV KA
    clear hA q1 q2 q3 e1 e2 e3 e4
    go_enter Try.func29, Try.ntmps29
    go_upto_region 1 with fail
    rw [← hW]
    clear hW
    go_wp2_with fail
    refine K1.out.mono ?_
    rintro e w9 ⟨rfl, hw9⟩
    obtain rfl := hw9.symm
    go_wp2_with fail
    refine K2.out.mono ?_
    rintro e w9 ⟨rfl, hw9⟩
    obtain rfl := hw9.symm
    go_wp2_with fail
    refine K3.out.mono ?_
    rintro e w9 ⟨rfl, hw9⟩
    obtain rfl := hw9.symm
    clear K1 K2 K3
    go_upto_region 3 with fail
    refine wp_region_held_drew (S := fun w' => w'.cell? ⟨w.heap.size, 0, none⟩ = some (.slice a0 n0 c0) ∧ w'.cell? ⟨w.heap.size, 1, none⟩ = some (.int .i64 (tn : Nat)) ∧ w'.cell? ⟨w.heap.size, 2, none⟩ = some (.slice a2 n2 c2) ∧ w'.cell? ⟨w.heap.size, 3, none⟩ = some (.slice a3 n3 c3) ∧ w'.cell? ⟨w.heap.size, 4, none⟩ = some (.slice a4 n4 c4) ∧ w'.cell? ⟨w.heap.size, 5, none⟩ = some (.int .i64 la) ∧ w'.cell? ⟨w.heap.size, 6, none⟩ = some (.int .i64 (U : Nat))) (by kernel_rfl) ?_ (fun hHeld => ?_)
    · (try dsimp only)
      exact ⟨p0, p1, p2, p3, p4, p5, p6⟩
    refine tk 0 ?_
    refine tr 1 (fun K hK => ?_)
    go_simp
    go_at_call 49
    refine (KA.out _ (Below.refl _ _).drew).mono ?_
    rintro e w1 ⟨rfl, hb⟩
    have hq : Below W.heap.size W w1 := (Below.refl _ _).drew.trans hb
    have p0 := cell_later hq p0
    have p1 := cell_later hq p1
    have p2 := cell_later hq p2
    have p3 := cell_later hq p3
    have p4 := cell_later hq p4
    have p5 := cell_later hq p5
    have p6 := cell_later hq p6
    have B1 := Hid.mk hq
    clear hb hq
    (try go_wp2_with fail)
    refine hK.out _ _ ?_ (fun hHeld' => ?_)
    · (try dsimp only)
      exact ⟨p0, p1, p2, p3, p4, p5, p6⟩
    clear hK K hHeld
    have hHeld := hHeld'
    clear hHeld'
    (try simp only [Act.put, List.setIfInBounds_toArray, List.set_cons_zero, List.set_cons_succ])
    refine tk 2 ?_
    refine tu 3 ?_
    refine tu 4 ?_
    refine tu 5 ?_
    refine tu 6 ?_
    refine tu 7 ?_
    refine tu 8 ?_
    refine tu 9 ?_
    refine tu 10 ?_
    refine tk 11 ?_
    refine tk 12 ?_
    refine tu 13 ?_
    refine tu 14 ?_
    refine tu 15 ?_
    refine tu 16 ?_
    refine tu 17 ?_
    refine tu 18 ?_
    refine tu 19 ?_
    refine tu 20 ?_
    refine tu 21 ?_
    refine tu 22 ?_
    refine tk 23 ?_
    refine tk 24 ?_
    refine wpAnyH_done (by kernel_rfl) ?_ _
    go_wp2
    go_ret
    exact ⟨ret_bool (by rw [HV.out]; simp), B0.trans (B1.out.mono B0.size)⟩
  | true =>
    rw [hA] at HV KA
    have hpg : pgsB src (tn : Int) la (U : Int) ps = true := by
      rw [Bool.and_eq_true] at hA; exact hA.2
    have hup := pgsB_up hpg e4
    obtain ⟨V, hV⟩ : ∃ V : Nat, upF (U : Int) ps = V := ⟨(upF (U : Int) ps).toNat, by omega⟩
    rw [hV] at HV KS hup
    have hVt : V ≤ tn := by omega
    have hVc : V ≤ c0 := by omega
    have KP := Hid.mk (fun (Z : World) (hZ : Below W.heap.size W Z) => equalInts_any a2 (shA a0 c0 V) n2 (tn - V) c2 (c0 - V) pd (seg src (V : Int) (tn : Int)) Z H2.out (by rw [seg_len (by omega) (by omega) (by have := H0.out; omega)]; omega) hb2 (by omega) (At.below HA2.out hZ) (at_seg H0.out hnc hVt htn (At.below HA0.out hZ)))
    clear hA q1 q2 q3 e1 e2 e3 e4 hpg hup hV
    cases hO : decide (ou = seg src 0 (U : Int)) with
    | false =>
      rw [hO] at HV KO
      clear hO KP KS
      go_enter Try.func29, Try.ntmps29
      go_upto_region 1 with fail
      rw [← hW]
      clear hW
      go_wp2_with fail
      refine K1.out.mono ?_
      rintro e w9 ⟨rfl, hw9⟩
      obtain rfl := hw9.symm
      go_wp2_with fail
      refine K2.out.mono ?_
      rintro e w9 ⟨rfl, hw9⟩
      obtain rfl := hw9.symm
      go_wp2_with fail
      refine K3.out.mono ?_
      rintro e w9 ⟨rfl, hw9⟩
      obtain rfl := hw9.symm
      clear K1 K2 K3
      go_upto_region 3 with fail
      refine wp_region_held_drew (S := fun w' => w'.cell? ⟨w.heap.size, 0, none⟩ = some (.slice a0 n0 c0) ∧ w'.cell? ⟨w.heap.size, 1, none⟩ = some (.int .i64 (tn : Nat)) ∧ w'.cell? ⟨w.heap.size, 2, none⟩ = some (.slice a2 n2 c2) ∧ w'.cell? ⟨w.heap.size, 3, none⟩ = some (.slice a3 n3 c3) ∧ w'.cell? ⟨w.heap.size, 4, none⟩ = some (.slice a4 n4 c4) ∧ w'.cell? ⟨w.heap.size, 5, none⟩ = some (.int .i64 la) ∧ w'.cell? ⟨w.heap.size, 6, none⟩ = some (.int .i64 (U : Nat))) (by kernel_rfl) ?_ (fun hHeld => ?_)
      · (try dsimp only)
        exact ⟨p0, p1, p2, p3, p4, p5, p6⟩
      refine tk 0 ?_
      refine tr 1 (fun K hK => ?_)
      go_simp
      go_at_call 49
      refine (KA.out _ (Below.refl _ _).drew).mono ?_
      rintro e w1 ⟨rfl, hb⟩
      have hq : Below W.heap.size W w1 := (Below.refl _ _).drew.trans hb
      have p0 := cell_later hq p0
      have p1 := cell_later hq p1
      have p2 := cell_later hq p2
      have p3 := cell_later hq p3
      have p4 := cell_later hq p4
      have p5 := cell_later hq p5
      have p6 := cell_later hq p6
      have B1 := Hid.mk hq
      clear hb hq
      (try go_wp2_with fail)
      refine hK.out _ _ ?_ (fun hHeld' => ?_)
      · (try dsimp only)
        exact ⟨p0, p1, p2, p3, p4, p5, p6⟩
      clear hK K hHeld
      have hHeld := hHeld'
      clear hHeld'
      (try simp only [Act.put, List.setIfInBounds_toArray, List.set_cons_zero, List.set_cons_succ])
      refine tk 2 ?_
      refine tk 3 ?_
      refine tk 4 ?_
      refine tk 5 ?_
      refine tk 6 ?_
      refine tk 7 ?_
      refine tk 8 ?_
      refine tk 9 (v := .slice a0 U c0) ?_ (hy := fun wS hSw => by ((try dsimp only at hSw); go_simp; (try rfl)))
      refine tr 10 (fun K hK => ?_)
      go_simp
      go_at_call 50
      refine (KO.out _ B1.out).mono ?_
      rintro e w2 ⟨rfl, hb⟩
      have hq : Below w1.heap.size w1 w2 := hb
      have p0 := cell_later hq p0
      have p1 := cell_later hq p1
      have p2 := cell_later hq p2
      have p3 := cell_later hq p3
      have p4 := cell_later hq p4
      have p5 := cell_later hq p5
      have p6 := cell_later hq p6
      have B2 := Hid.mk (B1.out.trans (hq.mono B1.out.size))
      clear hb hq
      (try go_wp2_with fail)
      refine hK.out _ _ ?_ (fun hHeld' => ?_)
      · (try dsimp only)
        exact ⟨p0, p1, p2, p3, p4, p5, p6⟩
      clear hK K hHeld
      have hHeld := hHeld'
      clear hHeld'
      (try simp only [Act.put, List.setIfInBounds_toArray, List.set_cons_zero, List.set_cons_succ])
      refine tk 11 ?_
      refine tk 12 ?_
      refine tu 13 ?_
      refine tu 14 ?_
      refine tu 15 ?_
      refine tu 16 ?_
      refine tu 17 ?_
      refine tu 18 ?_
      refine tu 19 ?_
      refine tu 20 ?_
      refine tu 21 ?_
      refine tu 22 ?_
      refine tk 23 ?_
      refine tk 24 ?_
      refine wpAnyH_done (by kernel_rfl) ?_ _
      go_wp2
      go_ret
      exact ⟨ret_bool (by rw [HV.out]; simp), B0.trans (B2.out.mono B0.size)⟩
    | true =>
      rw [hO] at HV KO
      clear hO
      go_enter Try.func29, Try.ntmps29
      go_upto_region 1 with fail
      rw [← hW]
      clear hW
      go_wp2_with fail
      refine K1.out.mono ?_
      rintro e w9 ⟨rfl, hw9⟩
      obtain rfl := hw9.symm
      go_wp2_with fail
      refine K2.out.mono ?_
      rintro e w9 ⟨rfl, hw9⟩
      obtain rfl := hw9.symm
      go_wp2_with fail
      refine K3.out.mono ?_
      rintro e w9 ⟨rfl, hw9⟩
      obtain rfl := hw9.symm
      clear K1 K2 K3
      go_upto_region 3 with fail
      refine wp_region_held_drew (S := fun w' => w'.cell? ⟨w.heap.size, 0, none⟩ = some (.slice a0 n0 c0) ∧ w'.cell? ⟨w.heap.size, 1, none⟩ = some (.int .i64 (tn : Nat)) ∧ w'.cell? ⟨w.heap.size, 2, none⟩ = some (.slice a2 n2 c2) ∧ w'.cell? ⟨w.heap.size, 3, none⟩ = some (.slice a3 n3 c3) ∧ w'.cell? ⟨w.heap.size, 4, none⟩ = some (.slice a4 n4 c4) ∧ w'.cell? ⟨w.heap.size, 5, none⟩ = some (.int .i64 la) ∧ w'.cell? ⟨w.heap.size, 6, none⟩ = some (.int .i64 (U : Nat))) (by kernel_rfl) ?_ (fun hHeld => ?_)
      · (try dsimp only)
        exact ⟨p0, p1, p2, p3, p4, p5, p6⟩
      refine tk 0 ?_
      refine tr 1 (fun K hK => ?_)
      go_simp
      go_at_call 49
      refine (KA.out _ (Below.refl _ _).drew).mono ?_
      rintro e w1 ⟨rfl, hb⟩
      have hq : Below W.heap.size W w1 := (Below.refl _ _).drew.trans hb
      have p0 := cell_later hq p0
      have p1 := cell_later hq p1
      have p2 := cell_later hq p2
      have p3 := cell_later hq p3
      have p4 := cell_later hq p4
      have p5 := cell_later hq p5
      have p6 := cell_later hq p6
      have B1 := Hid.mk hq
      clear hb hq
      (try go_wp2_with fail)
      refine hK.out _ _ ?_ (fun hHeld' => ?_)
      · (try dsimp only)
        exact ⟨p0, p1, p2, p3, p4, p5, p6⟩
      clear hK K hHeld
      have hHeld := hHeld'
      clear hHeld'
      (try simp only [Act.put, List.setIfInBounds_toArray, List.set_cons_zero, List.set_cons_succ])
      refine tk 2 ?_
      refine tk 3 ?_
      refine tk 4 ?_
      refine tk 5 ?_
      refine tk 6 ?_
      refine tk 7 ?_
      refine tk 8 ?_
      refine tk 9 (v := .slice a0 U c0) ?_ (hy := fun wS hSw => by ((try dsimp only at hSw); go_simp; (try rfl)))
      refine tr 10 (fun K hK => ?_)
      go_simp
      go_at_call 50
      refine (KO.out _ B1.out).mono ?_
      rintro e w2 ⟨rfl, hb⟩
      have hq : Below w1.heap.size w1 w2 := hb
      have p0 := cell_later hq p0
      have p1 := cell_later hq p1
      have p2 := cell_later hq p2
      have p3 := cell_later hq p3
      have p4 := cell_later hq p4
      have p5 := cell_later hq p5
      have p6 := cell_later hq p6
      have B2 := Hid.mk (B1.out.trans (hq.mono B1.out.size))
      clear hb hq
      (try go_wp2_with fail)
      refine hK.out _ _ ?_ (fun hHeld' => ?_)
      · (try dsimp only)
        exact ⟨p0, p1, p2, p3, p4, p5, p6⟩
      clear hK K hHeld
      have hHeld := hHeld'
      clear hHeld'
      (try simp only [Act.put, List.setIfInBounds_toArray, List.set_cons_zero, List.set_cons_succ])
      refine tk 11 ?_
      refine tk 12 ?_
      refine tk 13 ?_
      refine tk 14 ?_
      refine tk 15 ?_
      refine tk 16 ?_
      refine tk 17 ?_
      refine tk 19 ?_
      refine tk 20 ?_
      refine tr 18 (fun K hK => ?_)
      go_simp
      go_at_call 51
      refine (KS.out _ B2.out).mono ?_
      rintro e w3 ⟨rfl, hb⟩
      have hq : Below w2.heap.size w2 w3 := hb
      have p0 := cell_later hq p0
      have p1 := cell_later hq p1
      have p2 := cell_later hq p2
      have p3 := cell_later hq p3
      have p4 := cell_later hq p4
      have p5 := cell_later hq p5
      have p6 := cell_later hq p6
      have B3 := Hid.mk (B2.out.trans (hq.mono B2.out.size))
      clear hb hq
      (try go_wp2_with fail)
      refine hK.out _ _ ?_ (fun hHeld' => ?_)
      · (try dsimp only)
        exact ⟨p0, p1, p2, p3, p4, p5, p6⟩
      clear hK K hHeld
      have hHeld := hHeld'
      clear hHeld'
      (try simp only [Act.put, List.setIfInBounds_toArray, List.set_cons_zero, List.set_cons_succ])
      refine tk 21 (v := .slice (shA a0 c0 V) (tn - V) (c0 - V)) ?_ (hy := fun wS hSw => by ((try dsimp only at hSw); go_simp; (try rfl)))
      refine tr 22 (fun K hK => ?_)
      go_simp
      go_at_call 50
      refine (KP.out _ B3.out).mono ?_
      rintro e w4 ⟨rfl, hb⟩
      have hq : Below w3.heap.size w3 w4 := hb
      have p0 := cell_later hq p0
      have p1 := cell_later hq p1
      have p2 := cell_later hq p2
      have p3 := cell_later hq p3
      have p4 := cell_later hq p4
      have p5 := cell_later hq p5
      have p6 := cell_later hq p6
      have B4 := Hid.mk (B3.out.trans (hq.mono B3.out.size))
      clear hb hq
      (try go_wp2_with fail)
      refine hK.out _ _ ?_ (fun hHeld' => ?_)
      · (try dsimp only)
        exact ⟨p0, p1, p2, p3, p4, p5, p6⟩
      clear hK K hHeld
      have hHeld := hHeld'
      clear hHeld'
      (try simp only [Act.put, List.setIfInBounds_toArray, List.set_cons_zero, List.set_cons_succ])
      refine tk 23 ?_
      refine tk 24 ?_
      refine wpAnyH_done (by kernel_rfl) ?_ _
      go_wp2
      go_ret
      exact ⟨ret_bool (by rw [HV.out]; simp), B0.trans (B4.out.mono B0.size)⟩

end Go.Proofs.Ytmbjmmnodcebbaa
