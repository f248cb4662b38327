/- Contract of withLessFrom. -/
import Derived.Test.YtkcfhlpdenjimaaDoorM9
namespace Go.Proofs.YtkcfhlpdenjimaaDoor
open Go.RowKit

theorem flatT_set : ∀ (M : List (Nat × Nat)) (k : Nat) (p : Nat × Nat), flatT (M.set k p) = ((flatT M).set (k * 2) (.int .u64 (p.1 : Int))).set (k * 2 + 1) (.int .u64 (p.2 : Int))
  | [], k, p => by simp [flatT]
  | y :: M, 0, p => by simp [flatT]
  | y :: M, k + 1, p => by
    have ih := flatT_set M k p
    have e : ∀ (z : Nat × Nat) (L : List (Nat × Nat)), flatT (z :: L) = .int .u64 (z.1 : Int) :: .int .u64 (z.2 : Int) :: flatT L := fun _ _ => rfl
    rw [List.set_cons_succ, e, e, ih, show (k + 1) * 2 = k * 2 + 1 + 1 by omega]
    simp
theorem own_form {w : World} {lo : Nat} {r : Option Addr} {n d : Nat} {M : List (Nat × Nat)} (h : OwnTl w lo r n d M) : (r = none → d = 0) ∧ ∀ ad, r = some ad → ∃ b off, ad = ⟨b, off, none⟩ := by
  rcases h.2 with ⟨h9, _⟩ | ⟨g, cap, cur, h9, _⟩
  · simp only [Value.slice.injEq] at h9
    obtain ⟨rfl, _, rfl⟩ := h9
    exact ⟨fun _ => rfl, fun ad h => (by cases h)⟩
  · simp only [Value.slice.injEq, true_and] at h9
    obtain ⟨rfl, rfl⟩ := h9
    exact ⟨fun h => (by cases h), fun ad h => ⟨g, 0, (by cases h; rfl)⟩⟩

set_option maxRecDepth 100000 in
set_option maxHeartbeats 4000000 in
theorem withLessFrom_any (B : Nat) (a : Option Addr) (n c : Nat) (M : List (Nat × Nat)) (q : Nat) (w : World) (hz : M.length = n) (hn : n ≤ 60) (hq : q ≤ 6) (hl : Lim q M) (ho : OwnTl w B a n c M) (htab : TabB w) :
    Calls Tryd.prog 61 #[.slice a n c] w fun e w' => ∃ r d, e = .returned (.slice r n d) ∧ OwnTl w' w.heap.size r n d (lessA M n) ∧ Below w.heap.size w w' := by
  have HL := Hid.mk hl
  have HTB := Hid.mk htab
  have K := Hid.mk (cloneT_any a n c M w hz (by omega) (own_form ho).1 (AtT.of_owns ho hz) (own_form ho).2)
  clear ho hl htab
  go_enter Tryd.func61, Tryd.ntmps61
  go_wp2_with fail
  refine K.out.mono ?_
  rintro e w1 ⟨r1, d1, rfl, ho1, B1⟩
  have HO1 := Hid.mk ho1
  have HB1 := Hid.mk B1
  clear ho1 B1 K
  go_wp2_with fail
  go_loopw [12] (fun i wr => ∃ (k : Nat), k ≤ n ∧ i = .int .i64 k ∧ OwnTl wr w.heap.size r1 n d1 (lessA M k) ∧ Below w.heap.size w wr) (fun i _ => n - (intOf i).toNat)
  case atStart => exact ⟨0, Nat.zero_le _, rfl, HO1.out, HB1.out⟩
  case round =>
    clear HO1 HB1
    obtain ⟨k, hk, rfl, hown, hbw⟩ := hrel
    by_cases hlt : k < n
    · obtain ⟨g, rfl, hgl, hgr⟩ := own_some hown (by omega)
      obtain ⟨hlim, hlen⟩ := lessA_ok HL.out k (by omega)
      have HNX : Hid (lessA M (k + 1) = lessL k (lessA M k) (bl (tatT (lessA M k) k).1)) := lessA_succ M k
      obtain ⟨M1, hM1⟩ : ∃ M1, lessA M k = M1 := ⟨_, rfl⟩
      rw [hM1] at hown hlim hlen HNX
      rw [hz] at hlen
      obtain ⟨p, hp⟩ : ∃ p, M1[k]? = some p := ⟨_, List.getElem?_eq_getElem (by omega)⟩
      rw [tatT_of hp] at HNX
      obtain ⟨e0, e1⟩ := flatT_at M1 k p hp
      have c0 : wr.cell? ⟨g, k * 2, none⟩ = some (.int .u64 (p.1 : Nat)) := (hown.cellAt _ (by omega)).trans e0
      have hp64 := (hlim.sets hq) p (List.mem_of_getElem? hp)
      obtain ⟨f0, hf0⟩ : ∃ f0, p.1 = f0 := ⟨_, rfl⟩
      rw [hf0] at c0 HNX hp64
      have KL := Hid.mk (list_any f0 wr hp64.1 (TabIs.below HTB.out hbw))
      have hki : (k : Int) < (n : Int) := by omega
      have HO := Hid.mk hown
      have HB := Hid.mk hbw
      have HLM := Hid.mk hlim
      have HLN := Hid.mk hlen
      clear hown hbw hlim hlen e0 e1 hp hf0 hM1 hp64
      go_wp2_with fail
      refine KL.out.mono ?_
      rintro e w2 ⟨rl, ml, dl, rfl, hml, hol, hb2⟩
      obtain ⟨L, hL⟩ : ∃ L, L = wr.heap.size := ⟨_, rfl⟩
      rw [← hL] at hol hgr
      have HML := Hid.mk hml
      have ml6 : ml ≤ 6 := by rw [← hml]; exact bl_len _
      have HOL := Hid.mk hol
      have HO2 := Hid.mk (owns_below HO.out hb2)
      have HB2 := Hid.mk (HB.out.trans (hb2.mono HB.out.size))
      have z2 := hb2.size
      rw [← hL] at z2
      clear hml hol hb2 HO HB KL c0 hL
      go_wp2_with fail
      go_loopw [22] (fun i wz => ∃ (j : Nat), j ≤ ml ∧ i = .int .i64 j ∧ OwnTl wz w.heap.size (some ⟨g, 0, none⟩) n d1 (lessL k M1 ((bl f0).take j)) ∧ wz.ownsRow L 3 1 (.slice rl ml dl) ml ((bl f0).map (.int .i64)) ∧ L ≤ wz.heap.size ∧ Below w.heap.size w wz) (fun i _ => ml - (intOf i).toNat)
      case atStart => exact ⟨0, Nat.zero_le _, rfl, HO2.out, HOL.out, z2, HB2.out⟩
      case round =>
        clear HO2 HOL HB2 z2
        obtain ⟨j, hj, rfl, hown, hol, zr, hbz⟩ := hrel
        by_cases hjlt : j < ml
        · have hat : At wr rl (bl f0) := At.owned hol
          obtain ⟨b2, off2, rfl, hb2, hc2⟩ := hat.some (by have := HML.out; omega)
          have hcx := hc2 j (by have := HML.out; omega)
          have hin := bl_in (s := f0) (x := (bl f0).getD j 0) (by simp [List.getD, show j < (bl f0).length by have := HML.out; omega])
          have hnx := lessL_take (i := k) (M := M1) (cs := bl f0) (j := j) (by have := HML.out; omega)
          have hlim2 := lessL_lim (i := k) ((bl f0).take j) HLM.out (by have := HLN.out; omega)
          have hlen2 := lessL_len k M1 ((bl f0).take j)
          obtain ⟨M2, hM2⟩ : ∃ M2, lessL k M1 ((bl f0).take j) = M2 := ⟨_, rfl⟩
          obtain ⟨y, hy⟩ : ∃ y, y = (bl f0).getD j 0 := ⟨_, rfl⟩
          rw [← hy] at hcx hin hnx
          rw [hM2] at hown hnx hlim2 hlen2
          have hlen3 : M2.length = n := by rw [hlen2]; exact HLN.out
          obtain ⟨p, hp⟩ : ∃ p, M2[k]? = some p := ⟨_, List.getElem?_eq_getElem (by omega)⟩
          obtain ⟨x0, x1⟩ := flatT_at M2 k p hp
          have c0 : wr.cell? ⟨g, k * 2, none⟩ = some (.int .u64 (p.1 : Nat)) := (hown.cellAt _ (by omega)).trans x0
          have c1 : wr.cell? ⟨g, k * 2 + 1, none⟩ = some (.int .u64 (p.2 : Nat)) := (hown.cellAt _ (by omega)).trans x1
          have hp64 := (hlim2.sets hq) p (List.mem_of_getElem? hp)
          unfold lessC at hnx
          rw [tatT_of hp] at hnx
          obtain ⟨f, hf⟩ : ∃ f, p.1 = f := ⟨_, rfl⟩
          obtain ⟨t, ht⟩ : ∃ t, p.2 = t := ⟨_, rfl⟩
          rw [hf] at c0 hnx hp64
          rw [ht] at c1 hnx hp64
          have hy0 := hin.1
          have hy6 := hin.2
          have hpw := wrap_pow hy0 hy6
          have h2p := two_pow_lt (x := y.toNat) (by omega)
          have hand := u64_andNot_nat f (2 ^ y.toNat) (by omega) (by omega)
          have hwo : f &&& (18446744073709551615 - 2 ^ y.toNat) = wo f y := rfl
          rw [hwo] at hand
          have hwl : wo f y < 64 := wo_lt y hp64.1
          obtain ⟨G, hG⟩ : ∃ G, wo f y = G := ⟨_, rfl⟩
          obtain ⟨Dm, hDm⟩ : ∃ D : Nat, 2 ^ y.toNat = D := ⟨_, rfl⟩
          rw [hG] at hand hnx hwl
          rw [hDm] at hpw hand
          have hki : (k : Int) < (n : Int) := by omega
          have hji : (j : Int) < (ml : Int) := by omega
          have HNX1 := Hid.mk hnx
          have HO2 := Hid.mk hown
          have HOL2 := Hid.mk hol
          have HB2 := Hid.mk hbz
          have HLIM2 := Hid.mk hlim2
          have HLEN3 := Hid.mk hlen3
          have ht64 := hp64.2
          have hkn2 : k * 2 + 1 < n * 2 := by omega
          clear hc2 hat hown hol hbz hin hnx hlim2 hlen2 hlen3 hM2 hy hp x0 x1 hf ht hwo h2p hG hDm hp64
          go_upto_region 8 with fail
          go_cut [7] from 26 to 39 (fun t7 wx => t7 = .pointer (some ⟨wr.heap.size, 0, none⟩) ∧ wx.cell? ⟨wr.heap.size, 0, none⟩ = some (.int .u64 (G : Nat)) ∧ wx.cell? ⟨wr.heap.size, 1, none⟩ = some (.int .u64 (t : Nat)) ∧ wr.heap.size < wx.heap.size ∧ Below wr.heap.size wr wx)
          case first =>

            refine wp_region_held_drew (S := fun w' => w'.cell? ⟨g, k * 2, none⟩ = some (.int .u64 (f : Nat)) ∧ w'.cell? ⟨g, k * 2 + 1, none⟩ = some (.int .u64 (t : Nat))) (by kernel_rfl) ?_ (fun hHeld => ?_)
            · (try dsimp only)
              exact ⟨c0, c1⟩
            refine wpAnyH_take (i := 0) (oi := ?_) (v := ?_) ?_ (by kernel_rfl) (by kernel_rfl) (by kernel_rfl) ?_ (Or.inl ⟨?_, ?_⟩) (by assumption) ?_
            rotate_left 2
            · (simp only [List.getElem?_toArray, List.getElem?_cons_zero]; rfl)
            · exact fun _ _ _ h => h
            · rfl
            · (intro wS hSw; (try dsimp only at hSw); go_simp; (try with_reducible rfl))
            (try simp only [Act.put, List.setIfInBounds_toArray, List.set_cons_zero, List.set_cons_succ])
            refine wpAnyH_take (i := 1) (oi := ?_) (v := ?_) ?_ (by kernel_rfl) (by kernel_rfl) (by kernel_rfl) ?_ (Or.inl ⟨?_, ?_⟩) (by assumption) ?_
            rotate_left 2
            · (simp only [List.getElem?_toArray, List.getElem?_cons_zero, List.getElem?_cons_succ]; rfl)
            · exact fun _ _ _ h => h
            · rfl
            · (intro wS hSw; (try dsimp only at hSw); go_simp; (try with_reducible rfl))
            (try simp only [Act.put, List.setIfInBounds_toArray, List.set_cons_zero, List.set_cons_succ])
            refine wpAnyH_take (i := 2) (oi := ?_) (v := ?_) ?_ (by kernel_rfl) (by kernel_rfl) (by kernel_rfl) ?_ (Or.inl ⟨?_, ?_⟩) (by assumption) ?_
            rotate_left 2
            · (simp only [List.getElem?_toArray, List.getElem?_cons_zero, List.getElem?_cons_succ]; rfl)
            · exact fun _ _ _ h => h
            · rfl
            · (intro wS hSw; (try dsimp only at hSw); go_simp; (try with_reducible rfl))
            (try simp only [Act.put, List.setIfInBounds_toArray, List.set_cons_zero, List.set_cons_succ])
            refine wpAnyH_take (i := 3) (oi := ?_) (v := ?_) ?_ (by kernel_rfl) (by kernel_rfl) (by kernel_rfl) ?_ (Or.inl ⟨?_, ?_⟩) (by assumption) ?_
            rotate_left 2
            · (simp only [List.getElem?_toArray, List.getElem?_cons_zero, List.getElem?_cons_succ]; rfl)
            · exact fun _ _ _ h => h
            · rfl
            · (intro wS hSw; (try dsimp only at hSw); go_simp; (try with_reducible rfl))
            (try simp only [Act.put, List.setIfInBounds_toArray, List.set_cons_zero, List.set_cons_succ])
            refine wpAnyH_take (i := 4) (oi := ?_) (v := ?_) ?_ (by kernel_rfl) (by kernel_rfl) (by kernel_rfl) ?_ (Or.inl ⟨?_, ?_⟩) (by assumption) ?_
            rotate_left 2
            · (simp only [List.getElem?_toArray, List.getElem?_cons_zero, List.getElem?_cons_succ]; rfl)
            · exact fun _ _ _ h => h
            · rfl
            · (intro wS hSw; (try dsimp only at hSw); go_simp; (try with_reducible rfl))
            (try simp only [Act.put, List.setIfInBounds_toArray, List.set_cons_zero, List.set_cons_succ])
            refine wpAnyH_take (i := 5) (oi := ?_) (v := ?_) ?_ (by kernel_rfl) (by kernel_rfl) (by kernel_rfl) ?_ (Or.inl ⟨?_, ?_⟩) (by assumption) ?_
            rotate_left 2
            · (simp only [List.getElem?_toArray, List.getElem?_cons_zero, List.getElem?_cons_succ]; rfl)
            · exact fun _ _ _ h => h
            · rfl
            · (intro wS hSw; (try dsimp only at hSw); go_simp; (try with_reducible rfl))
            (try simp only [Act.put, List.setIfInBounds_toArray, List.set_cons_zero, List.set_cons_succ])
            refine wpAnyH_take (i := 6) (oi := ?_) (v := ?_) ?_ (by kernel_rfl) (by kernel_rfl) (by kernel_rfl) ?_ (Or.inl ⟨?_, ?_⟩) (by assumption) ?_
            rotate_left 2
            · (simp only [List.getElem?_toArray, List.getElem?_cons_zero, List.getElem?_cons_succ]; rfl)
            · exact fun _ _ _ h => h
            · rfl
            · (intro wS hSw; (try dsimp only at hSw); go_simp; (try with_reducible rfl))
            (try simp only [Act.put, List.setIfInBounds_toArray, List.set_cons_zero, List.set_cons_succ])
            refine wpAnyH_take (i := 7) (oi := ?_) (v := ?_) ?_ (by kernel_rfl) (by kernel_rfl) (by kernel_rfl) ?_ (Or.inl ⟨?_, ?_⟩) (by assumption) ?_
            rotate_left 2
            · (simp only [List.getElem?_toArray, List.getElem?_cons_zero, List.getElem?_cons_succ]; rfl)
            · exact fun _ _ _ h => h
            · rfl
            · (intro wS hSw; (try dsimp only at hSw); go_simp; (try with_reducible rfl))
            (try simp only [Act.put, List.setIfInBounds_toArray, List.set_cons_zero, List.set_cons_succ])
            refine wpAnyH_take (i := 8) (oi := ?_) (v := ?_) ?_ (by kernel_rfl) (by kernel_rfl) (by kernel_rfl) ?_ (Or.inl ⟨?_, ?_⟩) (by assumption) ?_
            rotate_left 2
            · (simp only [List.getElem?_toArray, List.getElem?_cons_zero, List.getElem?_cons_succ]; rfl)
            · exact fun _ _ _ h => h
            · rfl
            · (intro wS hSw; (try dsimp only at hSw); go_simp; (try with_reducible rfl))
            (try simp only [Act.put, List.setIfInBounds_toArray, List.set_cons_zero, List.set_cons_succ])
            refine wpAnyH_take (i := 9) (oi := ?_) (v := ?_) ?_ (by kernel_rfl) (by kernel_rfl) (by kernel_rfl) ?_ (Or.inl ⟨?_, ?_⟩) (by assumption) ?_
            rotate_left 2
            · (simp only [List.getElem?_toArray, List.getElem?_cons_zero, List.getElem?_cons_succ]; rfl)
            · exact fun _ _ _ h => h
            · rfl
            · (intro wS hSw; (try dsimp only at hSw); go_simp; (try with_reducible rfl))
            (try simp only [Act.put, List.setIfInBounds_toArray, List.set_cons_zero, List.set_cons_succ])
            refine wpAnyH_take (i := 10) (oi := ?_) (v := ?_) ?_ (by kernel_rfl) (by kernel_rfl) (by kernel_rfl) ?_ (Or.inl ⟨?_, ?_⟩) (by assumption) ?_
            rotate_left 2
            · (simp only [List.getElem?_toArray, List.getElem?_cons_zero, List.getElem?_cons_succ]; rfl)
            · exact fun _ _ _ h => h
            · rfl
            · (intro wS hSw; (try dsimp only at hSw); go_simp; (try with_reducible rfl))
            (try simp only [Act.put, List.setIfInBounds_toArray, List.set_cons_zero, List.set_cons_succ])
            refine wpAnyH_take (i := 11) (oi := ?_) (v := ?_) ?_ (by kernel_rfl) (by kernel_rfl) (by kernel_rfl) ?_ (Or.inl ⟨?_, ?_⟩) (by assumption) ?_
            rotate_left 2
            · (simp only [List.getElem?_toArray, List.getElem?_cons_zero, List.getElem?_cons_succ]; rfl)
            · exact fun _ _ _ h => h
            · rfl
            · (intro wS hSw; (try dsimp only at hSw); go_simp; (try with_reducible rfl))
            (try simp only [Act.put, List.setIfInBounds_toArray, List.set_cons_zero, List.set_cons_succ])
            refine wpAnyH_take (i := 12) (oi := ?_) (v := ?_) ?_ (by kernel_rfl) (by kernel_rfl) (by kernel_rfl) ?_ (Or.inl ⟨?_, ?_⟩) (by assumption) ?_
            rotate_left 2
            · (simp only [List.getElem?_toArray, List.getElem?_cons_zero, List.getElem?_cons_succ]; rfl)
            · exact fun _ _ _ h => h
            · rfl
            · (intro wS hSw; (try dsimp only at hSw); go_simp; (try with_reducible rfl))
            (try simp only [Act.put, List.setIfInBounds_toArray, List.set_cons_zero, List.set_cons_succ])
            refine wpAnyH_take (i := 13) (oi := ?_) (v := ?_) ?_ (by kernel_rfl) (by kernel_rfl) (by kernel_rfl) ?_ (Or.inl ⟨?_, ?_⟩) (by assumption) ?_
            rotate_left 2
            · (simp only [List.getElem?_toArray, List.getElem?_cons_zero, List.getElem?_cons_succ]; rfl)
            · exact fun _ _ _ h => h
            · rfl
            · (intro wS hSw; (try dsimp only at hSw); go_simp; (try with_reducible rfl))
            (try simp only [Act.put, List.setIfInBounds_toArray, List.set_cons_zero, List.set_cons_succ])
            refine wpAnyH_ready (rs := [14]) (by kernel_rfl) (by simp) ?_
            refine AllReadyH.cons (o := ?_) ?_ (fun K hK => ?_) AllReadyH.nil
            rotate_left
            · (simp only [List.getElem?_toArray, List.getElem?_cons_zero, List.getElem?_cons_succ]; rfl)
            go_simp
            skip
            (try go_wp2_with fail)
            refine hK.out _ _ ?_ (fun hHeld' => ?_)
            · (try dsimp only)
              exact ⟨cell_later (((Below.refl _ _).alloc (Nat.le_refl _) _).drew) c0, cell_later (((Below.refl _ _).alloc (Nat.le_refl _) _).drew) c1⟩
            clear hK K hHeld
            have hHeld := hHeld'
            clear hHeld'
            (try simp only [Act.put, List.setIfInBounds_toArray, List.set_cons_zero, List.set_cons_succ])
            refine wpAnyH_ready (rs := [15]) (by kernel_rfl) (by simp) ?_
            refine AllReadyH.cons (o := ?_) ?_ (fun K hK => ?_) AllReadyH.nil
            rotate_left
            · (simp only [List.getElem?_toArray, List.getElem?_cons_zero, List.getElem?_cons_succ]; rfl)
            go_simp
            skip
            (try go_wp2_with fail)
            refine hK.out _ _ ?_ (fun hHeld' => ?_)
            · (try dsimp only)
              exact ⟨cell_later (((Below.refl _ _).alloc (Nat.le_refl _) _).drew) c0, cell_later (((Below.refl _ _).alloc (Nat.le_refl _) _).drew) c1⟩
            clear hK K hHeld
            have hHeld := hHeld'
            clear hHeld'
            (try simp only [Act.put, List.setIfInBounds_toArray, List.set_cons_zero, List.set_cons_succ])
            refine wpAnyH_done (by kernel_rfl) ?_ _
            (try go_wp2_with fail)
            go_meet
            case rel => exact ⟨rfl, (show (World.alloc _ _).cell? _ = _ by simp), (show (World.alloc _ _).cell? _ = _ by simp), (show wr.heap.size < (World.alloc _ _).heap.size by simp), ((Below.refl _ _).alloc (Nat.le_refl _) _).drew⟩
          case rest =>
            obtain ⟨rfl, e0, e1, zc, hbc⟩ := hcut
            have HO3 := Hid.mk (owns_below HO2.out hbc)
            have HOL3 := Hid.mk (owns_below HOL2.out hbc)
            have HB3 := Hid.mk (HB2.out.trans (hbc.mono HB2.out.size))
            have KI := Hid.mk (implied_any (some ⟨g, 0, none⟩) n d1 M2 G t wc HLEN3.out (by omega) (HLIM2.out.sets hq) hwl ht64 (AtT.of_owns HO3.out HLEN3.out))
            clear hbc HO2 HOL2 HB2 c0 c1 hcx hand hpw
            go_wp2_with fail
            refine KI.out.mono ?_
            rintro e w4 ⟨rfl, hb4⟩
            have e0 := cell_later hb4 e0
            have e1 := cell_later hb4 e1
            have HO4 := Hid.mk (owns_below HO3.out hb4)
            have HOL4 := Hid.mk (owns_below HOL3.out hb4)
            have HB4 := Hid.mk (HB3.out.trans (hb4.mono HB3.out.size))
            have z4 := hb4.size
            clear hb4 HO3 HOL3 HB3 KI
            cases hr : sb t (clo M2 G) with
            | false =>
              have HS : Hid (lessL k M1 ((bl f0).take (j + 1)) = M2) := by show _ = _; rw [HNX1.out, hr]; rfl
              go_wp2
              go_roundw
              case rel => exact ⟨j + 1, by omega, by go_num, by rw [HS.out]; exact HO4.out, HOL4.out, by omega, HB4.out⟩
              case measure => simp [intOf]; omega
            | true =>
              have HS : Hid (lessL k M1 ((bl f0).take (j + 1)) = M2.set k (G, t)) := by show _ = _; rw [HNX1.out, hr]; rfl
              obtain ⟨v0, hv0⟩ : ∃ v, (flatT M2)[k * 2]? = some v := ⟨_, List.getElem?_eq_getElem (by rw [flatT_len]; have := HLEN3.out; omega)⟩
              obtain ⟨v1, hv1⟩ : ∃ v, (flatT M2)[k * 2 + 1]? = some v := ⟨_, List.getElem?_eq_getElem (by rw [flatT_len]; have := HLEN3.out; omega)⟩
              have d0 : w4.cell? ⟨g, k * 2, none⟩ = some v0 := (HO4.out.cellAt _ (by omega)).trans hv0
              have d1' : w4.cell? ⟨g, k * 2 + 1, none⟩ = some v1 := (HO4.out.cellAt _ (by omega)).trans hv1
              have y0 : w4.frozen? ⟨g, k * 2, none⟩ = false := HO4.out.frozenAt _
              have y1 : w4.frozen? ⟨g, k * 2 + 1, none⟩ = false := HO4.out.frozenAt _
              have hst := ((HO4.out.stored (k * 2) (.int .u64 (G : Nat))).1.stored (k * 2 + 1) (.int .u64 (t : Nat))).1
              have HST : Hid (OwnTl ((w4.setCell ⟨g, k * 2, none⟩ (.int .u64 (G : Nat))).setCell ⟨g, k * 2 + 1, none⟩ (.int .u64 (t : Nat))) w.heap.size (some ⟨g, 0, none⟩) n d1 (lessL k M1 ((bl f0).take (j + 1)))) := by
                show World.ownsRow _ _ _ _ _ _ _
                rw [HS.out, flatT_set]; exact hst
              have HOL5 := Hid.mk (ownsRow_setCell_below (ownsRow_setCell_below HOL4.out (show (⟨g, k * 2, none⟩ : Addr).block < L from hgr) (.int .u64 (G : Nat))) (show (⟨g, k * 2 + 1, none⟩ : Addr).block < L from hgr) (.int .u64 (t : Nat)))
              have HB5 : Hid (Below w.heap.size w ((w4.setCell ⟨g, k * 2, none⟩ (.int .u64 (G : Nat))).setCell ⟨g, k * 2 + 1, none⟩ (.int .u64 (t : Nat)))) := (HB4.out.setCell hgl _).setCell hgl _
              clear hst hv0 hv1 HO4 HOL4 HB4
              go_wp2
              go_roundw
              case rel => exact ⟨j + 1, by omega, by go_num, HST.out, HOL5.out, by simp [World.setCell]; omega, HB5.out⟩
              case measure => simp [intOf]; omega
        · obtain rfl : j = ml := by omega
          rw [List.take_of_length_le (by have := HML.out; omega), ← HNX.out] at hown
          have HO2 := Hid.mk hown
          have hji : ¬ (j : Int) < (j : Int) := by omega
          clear hown
          go_wp2
          go_roundw
          case rel => exact ⟨k + 1, by omega, by go_num, HO2.out, hbz⟩
          case measure => simp [intOf]; omega
    · obtain rfl : k = n := by omega
      have HO1 := Hid.mk hown
      clear hown
      go_wp2
      go_ret
      exact ⟨r1, d1, rfl, HO1.out, hbw⟩

end Go.Proofs.YtkcfhlpdenjimaaDoor
