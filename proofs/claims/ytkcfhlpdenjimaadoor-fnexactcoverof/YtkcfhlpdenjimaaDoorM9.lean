/- Several texts of one proof, in build order: CovJ, TzI. -/
import Derived.Test.YtkcfhlpdenjimaaDoorM8
import Derived.Deep.CutBlock
import Derived.Deep.CutRange
import Derived.Test.YtkcfhlpdenjimaaDoorM4
import Derived.Lib.TrailingZeros
import Derived.Lib.LaidTab

/- Contract of partedTo. -/
namespace Go.Proofs.YtkcfhlpdenjimaaDoor
open Go.RowKit

set_option maxRecDepth 100000 in
set_option maxHeartbeats 4000000 in
theorem partedTo_any (a : Option Addr) (n c : Nat) (xs : List Dep) (q : Nat) (w : World) (hz : xs.length = n) (hn : n ≤ 10) (hq : q ≤ 6) (hg : ∀ d ∈ xs, ris (q : Int) d.1 = true ∧ ris (q : Int) d.2 = true) (ha : AtD w a xs) :
    Calls Tryd.prog 62 #[.slice a n c] w fun e w' => ∃ r m d, e = .returned (.slice r m d) ∧ (partA xs).length = m ∧ OwnTl w' w.heap.size r m d (partA xs) ∧ Below w.heap.size w w' := by
  obtain ⟨i0, hi, hz0, hz1, hz2⟩ := info_parts Tryd.infoTelling
  have HG := Hid.mk hg
  have HA := Hid.mk ha
  clear hg ha
  go_enter Tryd.func62, Tryd.ntmps62
  go_wp2
  go_loopw [3, 11] (fun p i wr => ∃ (k : Nat) (r : Option Addr) (m d : Nat), k ≤ n ∧ i = .int .i64 k ∧ p = .slice r m d ∧ (partA (xs.take k)).length = m ∧ OwnTl wr w.heap.size r m d (partA (xs.take k)) ∧ Below w.heap.size w wr) (fun _ i _ => n - (intOf i).toNat)
  case atStart => exact ⟨0, none, 0, 0, Nat.zero_le _, rfl, rfl, rfl, World.ownsRow_nil _ _ _ _, Below.refl _ _⟩
  case round =>
    obtain ⟨k, r, m, d, hk, rfl, rfl, hm, hown, hbw⟩ := hrel
    by_cases hlt : k < n
    · obtain ⟨b, off, rfl, hbl, hc⟩ := AtD.row HA.out (by omega)
      obtain ⟨x, hx⟩ : ∃ x, xs[k]? = some x := ⟨_, List.getElem?_eq_getElem (by omega)⟩
      obtain ⟨fa, fn, fc, ta, tn, tc, g0, g1, ⟨t1, t2, t3⟩, ⟨u1, u2, u3⟩⟩ := hc k x hx
      have g0 := cell_later (hbw.mono (Nat.le_refl _)) g0
      have g1 := cell_later (hbw.mono (Nat.le_refl _)) g1
      have hgx := HG.out x (List.mem_of_getElem? hx)
      have told1 := Told.of (by omega) hgx.1
      have told2 := Told.of (by omega) hgx.2
      have hki : (k : Int) < (n : Int) := by omega
      have htn6 : tn ≤ 6 := by rw [← u1]; exact told2.len
      obtain ⟨M0, hM0⟩ : ∃ M0, partA (xs.take k) = M0 := ⟨_, rfl⟩
      have hpa := partA_ok hq xs HG.out k (by omega)
      have HNX : Hid (partA (xs.take (k + 1)) = partT (mk x.1) M0 x.2) := by show _ = _; rw [partA_take hx, hM0]; rfl
      rw [hM0] at hm hown hpa
      have hm60 : M0.length ≤ 54 := by have := hpa.2; omega
      obtain ⟨W, hW⟩ : ∃ W, W = wr.alloc (.cells #[.slice fa fn fc, .slice ta tn tc] 43) := ⟨_, rfl⟩
      have bW : Below wr.heap.size wr W := by rw [hW]; exact (Below.refl _ _).alloc (Nat.le_refl _) _
      have zW : wr.heap.size < W.heap.size := by rw [hW]; simp
      have kW : W.heap[wr.heap.size]? = some (.cells #[.slice fa fn fc, .slice ta tn tc] 43 (0, 0)) := by rw [hW]; exact heap_alloc_new wr _
      have HO := Hid.mk (owns_below hown bW)
      have HM := Hid.mk hm
      have HB := Hid.mk (hbw.trans (bW.mono hbw.size))
      have HOB : Hid (∀ b, (Value.slice r m d).ownBlock = some b → b ≠ wr.heap.size) := fun b hb e => by have := (hown.lt b hb).2; omega
      obtain ⟨P, hP⟩ : ∃ P, P = wr.heap.size := ⟨_, rfl⟩
      rw [← hP] at kW HOB zW
      have zwr := hbw.size
      rw [← hP] at zwr
      have HT1 := Hid.mk (And.intro t1 (And.intro t3 told1))
      have HT2 := Hid.mk (And.intro u1 (And.intro u3 told2))
      have HKW := Hid.mk kW
      clear hc hx t1 t3 u1 u3 told1 told2 hown hm hbw bW hM0 hpa hgx
      have cT := blk_cell kW 1 (v := .slice ta tn tc) rfl
      rw [hW, hP] at cT
      clear kW
      go_wp2_with fail
      rw [← hW, ← hP]
      clear hW hP cT
      go_loopw [3, 18] (fun p i wz => ∃ (j : Nat) (r : Option Addr) (m d : Nat), j ≤ tn ∧ i = .int .i64 j ∧ p = .slice r m d ∧ (partT (mk x.1) M0 (x.2.take j)).length = m ∧ OwnTl wz w.heap.size r m d (partT (mk x.1) M0 (x.2.take j)) ∧ (∀ b, (Value.slice r m d).ownBlock = some b → b ≠ P) ∧ wz.heap[P]? = some (.cells #[.slice fa fn fc, .slice ta tn tc] 43 (0, 0)) ∧ Below w.heap.size w wz) (fun _ i _ => tn - (intOf i).toNat)
      case atStart => exact ⟨0, r, m, d, Nat.zero_le _, rfl, rfl, HM.out, HO.out, HOB.out, HKW.out, HB.out⟩
      case round =>
        clear HO HM HB HOB HKW
        obtain ⟨j, r, m, d, hj, rfl, rfl, hm, hown, hob, hkz, hbz⟩ := hrel
        by_cases hjlt : j < tn
        · have hat := At.below HT2.out.2.1 hbz
          obtain ⟨b2, off2, rfl, hb2, hc2⟩ := hat.some (by have := HT2.out.1; omega)
          have hcx := hc2 j (by have := HT2.out.1; omega)
          have hin := HT2.out.2.2.in (x.2.getD j 0) (by simp [List.getD, show j < x.2.length by have := HT2.out.1; omega])
          have hnx := partT_take (f := mk x.1) (M := M0) (ks := x.2) (j := j) (by have := HT2.out.1; omega)
          obtain ⟨M1, hM1⟩ : ∃ M1, partT (mk x.1) M0 (x.2.take j) = M1 := ⟨_, rfl⟩
          obtain ⟨y, hy⟩ : ∃ y, y = x.2.getD j 0 := ⟨_, rfl⟩
          rw [← hy] at hcx hin hnx
          rw [hM1] at hm hown hnx
          have hml : M1.length ≤ 60 := by rw [← hM1]; have h9 := partT_len (mk x.1) M0 (x.2.take j); rw [List.length_take] at h9; omega
          obtain ⟨F, hF⟩ : ∃ F, mk x.1 = F := ⟨_, rfl⟩
          rw [hF] at hnx
          have hy0 := hin.1
          have hy6 := hin.2
          have HNX1 := Hid.mk hnx
          have HM1 := Hid.mk hm
          have HO1 := Hid.mk hown
          have HOB1 := Hid.mk hob
          have HK1 := Hid.mk hkz
          have HB1 := Hid.mk hbz
          have hji : (j : Int) < (tn : Int) := by omega
          have cF := blk_cell hkz 0 (v := .slice fa fn fc) rfl
          have hPz := (Array.getElem?_eq_some_iff.1 hkz).1
          have KS := Hid.mk (setOf_later (c := fc) HT1.out.1 t2 HT1.out.2.2.in (At.below HT1.out.2.1 hbz) wr.drew ((Below.refl _ _).drew))
          have KS2 := Hid.mk (setOf_later (c := fc) HT1.out.1 t2 HT1.out.2.2.in (At.below HT1.out.2.1 hbz) ((wr.alloc (.cells #[.int .u64 0, .int .u64 0] 92)).drew) (((Below.refl _ _).alloc (Nat.le_refl _) _).drew))
          rw [hF] at KS KS2
          have HFE := Hid.mk hF
          have hpw := wrap_pow hy0 hy6
          obtain ⟨Dm, hDm⟩ : ∃ D : Nat, 2 ^ y.toNat = D := ⟨_, rfl⟩
          rw [hDm] at hpw hnx HNX1
          clear hc2 hat hm hown hob hkz hbz hin hnx hy hM1 hF hDm
          go_upto_region 8 with fail
          go_cut [8] from 22 to 27 (fun t8 wx => t8 = .pointer (some ⟨wr.heap.size, 0, none⟩) ∧ wx.cell? ⟨wr.heap.size, 0, none⟩ = some (.int .u64 (F : Nat)) ∧ wx.cell? ⟨wr.heap.size, 1, none⟩ = some (.int .u64 (Dm : Nat)) ∧ wr.heap.size < wx.heap.size ∧ Below wr.heap.size wr wx)
          case first =>

            refine wp_region_held_drew (S := fun w' => w'.cell? ⟨P, 0, none⟩ = some (.slice fa fn fc)) (by kernel_rfl) ?_ (fun hHeld => ?_)
            · (try dsimp only)
              exact cF
            refine wpAnyH_take (i := 0) (oi := ?_) (v := ?_) ?_ (by kernel_rfl) (by kernel_rfl) (by kernel_rfl) ?_ (Or.inl ⟨?_, ?_⟩) (by assumption) ?_
            rotate_left 2
            · (simp only [List.getElem?_toArray, List.getElem?_cons_zero]; rfl)
            · exact fun _ _ _ h => h
            · rfl
            · (intro wS hSw; (try dsimp only at hSw); go_simp; (try with_reducible rfl))
            (try simp only [Act.put, List.setIfInBounds_toArray, List.set_cons_zero, List.set_cons_succ])
            refine wpAnyH_take (i := 1) (oi := ?_) (v := ?_) ?_ (by kernel_rfl) (by kernel_rfl) (by kernel_rfl) ?_ (Or.inl ⟨?_, ?_⟩) (by assumption) ?_
            rotate_left 2
            · (simp only [List.getElem?_toArray, List.getElem?_cons_zero, List.getElem?_cons_succ]; rfl)
            · exact fun _ _ _ h => h
            · rfl
            · (intro wS hSw; (try dsimp only at hSw); go_simp; (try with_reducible rfl))
            (try simp only [Act.put, List.setIfInBounds_toArray, List.set_cons_zero, List.set_cons_succ])
            refine wpAnyH_take (i := 3) (oi := ?_) (v := ?_) ?_ (by kernel_rfl) (by kernel_rfl) (by kernel_rfl) ?_ (Or.inl ⟨?_, ?_⟩) (by assumption) ?_
            rotate_left 2
            · (simp only [List.getElem?_toArray, List.getElem?_cons_zero, List.getElem?_cons_succ]; rfl)
            · exact fun _ _ _ h => h
            · rfl
            · (intro wS hSw; (try dsimp only at hSw); go_simp; (try with_reducible rfl))
            (try simp only [Act.put, List.setIfInBounds_toArray, List.set_cons_zero, List.set_cons_succ])
            refine wpAnyH_take (i := 4) (oi := ?_) (v := ?_) ?_ (by kernel_rfl) (by kernel_rfl) (by kernel_rfl) ?_ (Or.inl ⟨?_, ?_⟩) (by assumption) ?_
            rotate_left 2
            · (simp only [List.getElem?_toArray, List.getElem?_cons_zero, List.getElem?_cons_succ]; rfl)
            · exact fun _ _ _ h => h
            · rfl
            · (intro wS hSw; (try dsimp only at hSw); go_simp; (try with_reducible rfl))
            (try simp only [Act.put, List.setIfInBounds_toArray, List.set_cons_zero, List.set_cons_succ])
            refine wpAnyH_ready (rs := [2, 6]) (by kernel_rfl) (by simp) ?_
            refine AllReadyH.cons (o := ?_) ?_ (fun K hK => ?_) ?_
            rotate_left
            · (simp only [List.getElem?_toArray, List.getElem?_cons_zero, List.getElem?_cons_succ]; rfl)
            · go_simp
              go_at_call 41
              refine KS.out.mono ?_
              rintro e w2 ⟨rfl, rfl⟩
              (try go_wp2_with fail)
              refine hK.out _ _ ?_ (fun hHeld' => ?_)
              · (try dsimp only)
                exact cF
              clear hK K hHeld
              have hHeld := hHeld'
              clear hHeld'
              (try simp only [Act.put, List.setIfInBounds_toArray, List.set_cons_zero, List.set_cons_succ])
              refine wpAnyH_take (i := 5) (oi := ?_) (v := ?_) ?_ (by kernel_rfl) (by kernel_rfl) (by kernel_rfl) ?_ (Or.inl ⟨?_, ?_⟩) (by assumption) ?_
              rotate_left 2
              · (simp only [List.getElem?_toArray, List.getElem?_cons_zero, List.getElem?_cons_succ]; rfl)
              · exact fun _ _ _ h => h
              · rfl
              · (intro wS hSw; (try dsimp only at hSw); go_simp; (try with_reducible rfl))
              (try simp only [Act.put, List.setIfInBounds_toArray, List.set_cons_zero, List.set_cons_succ])
              refine wpAnyH_ready (rs := [6]) (by kernel_rfl) (by simp) ?_
              refine AllReadyH.cons (o := ?_) ?_ (fun K hK => ?_) AllReadyH.nil
              rotate_left
              · (simp only [List.getElem?_toArray, List.getElem?_cons_zero, List.getElem?_cons_succ]; rfl)
              go_simp
              skip
              (try go_wp2_with fail)
              refine hK.out _ _ ?_ (fun hHeld' => ?_)
              · (try dsimp only)
                exact cell_later (((Below.refl _ _).alloc (Nat.le_refl _) _).drew) cF
              clear hK K hHeld
              have hHeld := hHeld'
              clear hHeld'
              (try simp only [Act.put, List.setIfInBounds_toArray, List.set_cons_zero, List.set_cons_succ])
              refine wpAnyH_ready (rs := [7]) (by kernel_rfl) (by simp) ?_
              refine AllReadyH.cons (o := ?_) ?_ (fun K hK => ?_) AllReadyH.nil
              rotate_left
              · (simp only [List.getElem?_toArray, List.getElem?_cons_zero, List.getElem?_cons_succ]; rfl)
              go_simp
              skip
              (try go_wp2_with fail)
              refine hK.out _ _ ?_ (fun hHeld' => ?_)
              · (try dsimp only)
                exact cell_later (((Below.refl _ _).alloc (Nat.le_refl _) _).drew) cF
              clear hK K hHeld
              have hHeld := hHeld'
              clear hHeld'
              (try simp only [Act.put, List.setIfInBounds_toArray, List.set_cons_zero, List.set_cons_succ])
              refine wpAnyH_done (by kernel_rfl) ?_ _
              (try go_wp2_with fail)
              go_meet
              case rel => exact ⟨rfl, (show (World.alloc _ _).cell? _ = _ by simp), (show (World.alloc _ _).cell? _ = _ by simp), (show wr.heap.size < (World.alloc _ _).heap.size by simp), ((Below.refl _ _).alloc (Nat.le_refl _) _).drew⟩
            refine AllReadyH.cons (o := ?_) ?_ (fun K hK => ?_) AllReadyH.nil
            rotate_left
            · (simp only [List.getElem?_toArray, List.getElem?_cons_zero, List.getElem?_cons_succ]; rfl)
            · go_simp
              (try go_wp2_with fail)
              refine hK.out _ _ ?_ (fun hHeld' => ?_)
              · (try dsimp only)
                exact cell_later (((Below.refl _ _).alloc (Nat.le_refl _) _).drew) cF
              clear hK K hHeld
              have hHeld := hHeld'
              clear hHeld'
              (try simp only [Act.put, List.setIfInBounds_toArray, List.set_cons_zero, List.set_cons_succ])
              refine wpAnyH_ready (rs := [2]) (by kernel_rfl) (by simp) ?_
              refine AllReadyH.cons (o := ?_) ?_ (fun K hK => ?_) AllReadyH.nil
              rotate_left
              · (simp only [List.getElem?_toArray, List.getElem?_cons_zero, List.getElem?_cons_succ]; rfl)
              go_simp
              go_at_call 41
              refine KS2.out.mono ?_
              rintro e w2 ⟨rfl, rfl⟩
              (try go_wp2_with fail)
              refine hK.out _ _ ?_ (fun hHeld' => ?_)
              · (try dsimp only)
                exact cell_later (((Below.refl _ _).alloc (Nat.le_refl _) _).drew) cF
              clear hK K hHeld
              have hHeld := hHeld'
              clear hHeld'
              (try simp only [Act.put, List.setIfInBounds_toArray, List.set_cons_zero, List.set_cons_succ])
              refine wpAnyH_take (i := 5) (oi := ?_) (v := ?_) ?_ (by kernel_rfl) (by kernel_rfl) (by kernel_rfl) ?_ (Or.inl ⟨?_, ?_⟩) (by assumption) ?_
              rotate_left 2
              · (simp only [List.getElem?_toArray, List.getElem?_cons_zero, List.getElem?_cons_succ]; rfl)
              · exact fun _ _ _ h => h
              · rfl
              · (intro wS hSw; (try dsimp only at hSw); go_simp; (try with_reducible rfl))
              (try simp only [Act.put, List.setIfInBounds_toArray, List.set_cons_zero, List.set_cons_succ])
              refine wpAnyH_ready (rs := [7]) (by kernel_rfl) (by simp) ?_
              refine AllReadyH.cons (o := ?_) ?_ (fun K hK => ?_) AllReadyH.nil
              rotate_left
              · (simp only [List.getElem?_toArray, List.getElem?_cons_zero, List.getElem?_cons_succ]; rfl)
              go_simp
              skip
              (try go_wp2_with fail)
              refine hK.out _ _ ?_ (fun hHeld' => ?_)
              · (try dsimp only)
                exact cell_later (((Below.refl _ _).alloc (Nat.le_refl _) _).drew) cF
              clear hK K hHeld
              have hHeld := hHeld'
              clear hHeld'
              (try simp only [Act.put, List.setIfInBounds_toArray, List.set_cons_zero, List.set_cons_succ])
              refine wpAnyH_done (by kernel_rfl) ?_ _
              (try go_wp2_with fail)
              go_meet
              case rel => exact ⟨rfl, (show (World.alloc _ _).cell? _ = _ by simp), (show (World.alloc _ _).cell? _ = _ by simp), (show wr.heap.size < (World.alloc _ _).heap.size by simp), ((Below.refl _ _).alloc (Nat.le_refl _) _).drew⟩
          case rest =>
            obtain ⟨rfl, e0, e1, zc, hbc⟩ := hcut
            have HOC := Hid.mk (owns_below HO1.out hbc)
            have HKC := Hid.mk (blk_below HK1.out hbc)
            have HBC := Hid.mk (HB1.out.trans (hbc.mono HB1.out.size))
            have hol := fun b hb => (HO1.out.lt b hb).2
            have HOL := Hid.mk hol
            have KC := Hid.mk (containsT_any r m d M1 F Dm wc HM1.out (by have := HM1.out; omega) (AtT.of_owns HOC.out HM1.out))
            have zP := hPz
            clear hbc hol cF HO1 HK1 HB1 KS KS2 hcx
            go_wp2_with fail
            refine KC.out.mono ?_
            rintro e w4 ⟨rfl, hb4⟩
            have e0 := cell_later hb4 e0
            have e1 := cell_later hb4 e1
            have HO4 := Hid.mk (owns_below HOC.out hb4)
            have HK4 := Hid.mk (blk_below HKC.out hb4)
            have HB4 := Hid.mk (HBC.out.trans (hb4.mono HBC.out.size))
            have z4 := hb4.size
            have zb4 := HB4.out.size
            clear hb4 HOC HKC HBC KC
            cases hin : decide ((F, Dm) ∈ M1) with
            | true =>
              have HSAME : Hid (partT F M0 (x.2.take (j + 1)) = M1) := by
                show _ = _
                rw [HNX1.out]; unfold addT; rw [if_pos (of_decide_eq_true hin)]
              go_wp2
              go_roundw
              case rel => exact ⟨j + 1, r, m, d, by omega, by go_num, rfl, by rw [HFE.out, HSAME.out]; exact HM1.out, by rw [HFE.out, HSAME.out]; exact HO4.out, HOB1.out, HK4.out, HB4.out⟩
              case measure => simp [intOf]; omega
            | false =>
              have HNEW : Hid (partT F M0 (x.2.take (j + 1)) = M1 ++ [(F, Dm)]) := by
                show _ = _
                rw [HNX1.out]; unfold addT; rw [if_neg (of_decide_eq_false hin)]
              go_wp2_with (at_builtin; refine wpList_append_lies _ rfl (.tmp 32) (.tmp 34) 64 rfl w.heap.size 92 i0 (.agg #[.int .u64 0, .int .u64 0]) 2 16 Tryd.underlying64 hi hz0 hz1 hz2 rfl (by decide) _ _ _ rfl (HO4.out.alloc _) ⟨w4.heap.size, 0, none⟩ 1 1 [.int .u64 (F : Nat), .int .u64 (Dm : Nat)] rfl rfl (news_at w4 _ _) (by intro u hu; simp at hu; rcases hu with rfl | rfl <;> rfl) (by decide) (by have := HM1.out; unfold maxLen; omega) (by have := HM1.out; omega) (by simp; omega) (w4.heap.size + 1) (by simp) ?_)
              intro g5 cap5 w5 ho5 hg5 hat5 hlt5
              have HO5 : Hid (OwnTl w5 w.heap.size (some ⟨g5, 0, none⟩) (m + 1) cap5 (partT F M0 (x.2.take (j + 1)))) := by
                show World.ownsRow _ _ _ _ _ _ _
                rw [HNEW.out, flatT_push]; exact ho5
              have HB5 : Hid (Below w.heap.size w w5) := (HB4.out.alloc zb4 _).grown hg5 (by simp; omega) (fun i hi => (HO4.out.lt i hi).1)
              have HOB5 : Hid (∀ b, (Value.slice (some ⟨g5, 0, none⟩) (m + 1) cap5).ownBlock = some b → b ≠ P) := fun b hb e => by
                simp only [Value.ownBlock, Option.some.injEq] at hb
                subst hb
                rcases hat5 with h9 | h9
                · exact HOB1.out _ h9 e
                · omega
              have HK5 : Hid (w5.heap[P]? = some (.cells #[.slice fa fn fc, .slice (some ⟨b2, off2, none⟩) tn tc] 43 (0, 0))) := (hg5.block P (by simp; omega) (fun e => HOB1.out P e.symm rfl)).trans (blk_alloc HK4.out _)
              clear ho5 hg5 hat5 HO4 HB4 HK4
              go_wp2
              go_roundw
              case rel => exact ⟨j + 1, _, _, _, by omega, by go_num, rfl, by rw [HFE.out, HNEW.out]; have := HM1.out; simp; omega, by rw [HFE.out]; exact HO5.out, HOB5.out, HK5.out, HB5.out⟩
              case measure => simp [intOf]; omega
        · obtain rfl : j = tn := by omega
          rw [List.take_of_length_le (by have := HT2.out.1; omega), ← HNX.out] at hm hown
          have HM1 := Hid.mk hm
          have HO1 := Hid.mk hown
          have hji : ¬ (j : Int) < (j : Int) := by omega
          clear hm hown
          go_wp2
          go_roundw
          case rel => exact ⟨k + 1, r, m, d, by omega, by go_num, rfl, HM1.out, HO1.out, hbz⟩
          case measure => simp [intOf]; omega
    · obtain rfl : k = n := by omega
      rw [List.take_of_length_le (by omega)] at hm hown
      have HM1 := Hid.mk hm
      have HO1 := Hid.mk hown
      clear hm hown
      go_wp2
      go_ret
      exact ⟨r, m, d, rfl, HM1.out, HO1.out, hbw⟩

end Go.Proofs.YtkcfhlpdenjimaaDoor

/- Contracts of math/bits.TrailingZeros at sets of columns, and of columnSet.list. -/
namespace Go.Proofs.YtkcfhlpdenjimaaDoor
open Go.RowKit

theorem TabIs.below {P : Program} {w w' : World} {name : String} {k : IntKind} {ns : List Int} (h : Lib.TabIs P w name k ns) (hb : Below w.heap.size w w') : Lib.TabIs P w' name k ns := by
  unfold Lib.TabIs World.var? at *
  cases hg : P.globalNamed name with
  | none => rw [hg] at h; cases h
  | some g =>
    rw [hg] at h
    simp only [Option.bind_some] at h ⊢
    have hlt : g < w.heap.size := by
      by_cases hl : g < w.heap.size
      · exact hl
      · rw [Array.getElem?_eq_none (by omega)] at h
        cases h
    rw [hb.block g hlt]
    exact h

/-- The table that TrailingZeros reads. -/
def deB : List Int := Lib.deBruijn64tab.map Int.ofNat
abbrev TabB (w : World) : Prop := Lib.TabIs Tryd.prog w "math/bits.deBruijn64tab" .u8 deB
theorem gTab : Tryd.prog.globalNamed "math/bits.deBruijn64tab" = some 1 := by kernel_rfl

/-- The first column of a set. -/
def tz (x : Nat) : Nat := ((List.range 6).find? (fun i => x.testBit i)).getD 0
def tzAt (x : Nat) : Nat := (x &&& (18446744073709551616 - x)) * 285870213051353865 % 18446744073709551616 / 288230376151711744
theorem tz_key : ∀ x : Nat, x < 64 → x ≠ 0 → tzAt x < 64 ∧ Lib.deBruijn64tab.getD (tzAt x) 0 = tz x ∧ tz x < 6 := by decide +kernel
theorem bl_step : ∀ x : Nat, x < 64 → x ≠ 0 → bl x = (tz x : Int) :: bl (x &&& (x - 1)) ∧ (x &&& (x - 1)) < x := by decide +kernel
theorem bl_zero : bl 0 = [] := by decide +kernel
theorem deB_at : ∀ i : Nat, i < 64 → deB.getD i 0 = (Lib.deBruijn64tab.getD i 0 : Nat) := by decide +kernel

theorem tz_wrap {x : Nat} (hx : x < 64) (h0 : x ≠ 0) :
    IntKind.u64.wrap (bits BinOp.and IntKind.u64 (x : Int) (IntKind.u64.wrap (-(x : Int))) * 285870213051353865) / 288230376151711744 = (tzAt x : Int) := by
  have e0 : ∀ n : Int, IntKind.u64.wrap n = n % 18446744073709551616 := fun n => by simp [IntKind.wrap, IntKind.bits, IntKind.signed]
  have e1 : IntKind.u64.wrap (-(x : Int)) = ((18446744073709551616 - x : Nat) : Int) := by rw [e0]; omega
  rw [e1, u64_and_nat x _ (by omega) (by omega), e0]
  unfold tzAt
  omega

set_option maxHeartbeats 1000000 in
theorem tz64_any (x : Nat) (w : World) (hx : x < 64) (h0 : x ≠ 0) (ht : TabB w) :
    Calls Tryd.prog 87 #[.int .u64 (x : Nat)] w fun e w' => e = .returned (.int .i64 (tz x : Nat)) ∧ w' = w := by
  obtain ⟨k1, k2, k3⟩ := tz_key x hx h0
  have key := tz_wrap hx h0
  have hc := Lib.TabIs.cell ht gTab (tzAt x) (by show tzAt x < 64; exact k1)
  rw [deB_at _ k1, k2] at hc
  have hb : ((x : Int) == 0) = false := beq_eq_false_iff_ne.2 (by omega)
  obtain ⟨I, hI⟩ : ∃ I, tzAt x = I := ⟨_, rfl⟩
  obtain ⟨Z, hZ⟩ : ∃ Z, tz x = Z := ⟨_, rfl⟩
  rw [hI] at key hc k1
  rw [hZ] at hc k3 ⊢
  clear ht k2 hI hZ
  go_enter Tryd.func87, Tryd.ntmps87
  go_wp2_with (simp only [key])
  go_ret
  exact ⟨rfl, rfl⟩

theorem tz_any (x : Nat) (w : World) (hx : x < 64) (h0 : x ≠ 0) (ht : TabB w) :
    Calls Tryd.prog 69 #[.int .u64 (x : Nat)] w fun e w' => e = .returned (.int .i64 (tz x : Nat)) ∧ w' = w := by
  have K := Hid.mk (tz64_any x w hx h0 ht)
  clear ht
  go_enter Tryd.func69, Tryd.ntmps69
  go_wp2_with fail
  refine K.out.mono ?_
  rintro e w1 ⟨rfl, rfl⟩
  go_wp2
  go_ret
  exact ⟨rfl, rfl⟩

set_option maxRecDepth 100000 in
set_option maxHeartbeats 2000000 in
theorem list_any (S : Nat) (w : World) (hS : S < 64) (ht : TabB w) :
    Calls Tryd.prog 42 #[.int .u64 (S : Nat)] w fun e w' => ∃ r m d, e = .returned (.slice r m d) ∧ (bl S).length = m ∧ w'.ownsRow w.heap.size 3 1 (.slice r m d) m ((bl S).map (.int .i64)) ∧ Below w.heap.size w w' := by
  obtain ⟨i0, hi, hz0, hz1, hz2⟩ := info_parts Tryd.infoInt
  have HT := Hid.mk ht
  clear ht
  go_enter Tryd.func42, Tryd.ntmps42
  go_wp2
  go_loopg [0, 3] S (fun g p q wr => ∃ (s : Nat) (zs : List Int) (r : Option Addr) (m d : Nat), s = g ∧ s < 64 ∧ p = .int .u64 (s : Nat) ∧ q = .slice r m d ∧ bl S = zs ++ bl s ∧ zs.length = m ∧ wr.ownsRow w.heap.size 3 1 (.slice r m d) m (zs.map (.int .i64)) ∧ Below w.heap.size w wr)
  case atStart => exact ⟨S, [], none, 0, 0, rfl, hS, rfl, rfl, rfl, rfl, World.ownsRow_nil _ _ _ _, Below.refl _ _⟩
  case round =>
    obtain ⟨s, zs, r, m, d, rfl, hs, rfl, rfl, hbl, hm, hown, hbw⟩ := hrel
    by_cases h0 : s = 0
    · have HB : Hid (bl S = zs) := by show _ = _; rw [hbl, h0, bl_zero, List.append_nil]
      have hsb : ((s : Int) != 0) = false := by rw [h0]; rfl
      have HO := Hid.mk hown
      have HM := Hid.mk hm
      clear hbl hown hm
      go_wp2
      go_ret
      exact ⟨r, m, d, rfl, by rw [HB.out]; exact HM.out, by rw [HB.out]; exact HO.out, hbw⟩
    · obtain ⟨b1, b2⟩ := bl_step s hs h0
      have hm6 : m ≤ 6 := by have h9 := bl_len S; rw [hbl, List.length_append] at h9; omega
      rw [b1] at hbl
      have hsb : ((s : Int) != 0) = true := bne_iff_ne.2 (by omega)
      have hsub : IntKind.u64.wrap ((s : Int) - 1) = ((s - 1 : Nat) : Int) := by
        rw [show (s : Int) - 1 = ((s - 1 : Nat) : Int) by omega]; exact wrap64_small (by omega)
      have hand := u64_and_nat s (s - 1) (by omega) (by omega)
      have K := Hid.mk (tz_any s wr hs h0 (TabIs.below HT.out hbw))
      obtain ⟨Z, hZ⟩ : ∃ Z, tz s = Z := ⟨_, rfl⟩
      obtain ⟨Q, hQ⟩ : ∃ Q, s &&& (s - 1) = Q := ⟨_, rfl⟩
      rw [hZ] at hbl K
      rw [hQ] at hbl hand b2
      have HBL := Hid.mk hbl
      have HM := Hid.mk hm
      have HO := Hid.mk hown
      have HB := Hid.mk hbw
      have z := hbw.size
      clear hbl hm hown hbw hZ hQ b1 h0
      go_wp2_with fail
      refine K.out.mono ?_
      rintro e w1 ⟨rfl, rfl⟩
      go_wp2_with (at_builtin; refine wpList_append_lies _ rfl (.tmp 6) (.tmp 9) 23 rfl w.heap.size 3 i0 (.int .i64 0) 1 8 Tryd.underlying23 hi hz0 hz1 hz2 rfl (by decide) _ _ _ rfl (HO.out.alloc _) ⟨w1.heap.size, 0, none⟩ 1 1 [.int .i64 (Z : Nat)] rfl rfl (news_at w1 _ _) (by intro u hu; simp at hu; subst hu; rfl) (by decide) (by unfold maxLen; omega) (by omega) (by simp; omega) (w1.heap.size + 1) (by simp) ?_)
      intro g3 cap3 w3 ho3 hg3 hat3 hlt3
      have HB3 : Hid (Below w.heap.size w w3) := (HB.out.alloc z _).grown hg3 (by simp; omega) (fun j hj => (HO.out.lt j hj).1)
      have HO3 : Hid (w3.ownsRow w.heap.size 3 1 (.slice (some ⟨g3, 0, none⟩) (m + 1) cap3) (m + 1) ((zs ++ [(Z : Int)]).map (.int .i64))) := by
        show World.ownsRow _ _ _ _ _ _ _
        rw [List.map_append]; exact ho3
      clear ho3 hg3 hat3 HO HB K
      go_wp2
      go_roundg Q
      case measure => omega
      case rel => exact ⟨Q, zs ++ [(Z : Int)], some ⟨g3, 0, none⟩, m + 1, cap3, rfl, by omega, rfl, rfl, by rw [HBL.out]; simp, by have := HM.out; simp; omega, HO3.out, HB3.out⟩

end Go.Proofs.YtkcfhlpdenjimaaDoor
