/- Contract of impl.GroupsAsTable. -/
import Derived.Test.YtlfljfmhhnoinabM27
import Derived.Test.YtlfljfmhhnoinabM19
import Derived.Test.YtlfljfmhhnoinabM6
namespace Go.Proofs.Ytlfljfmhhnoinab
open Go.RowKit

set_option maxRecDepth 100000 in
set_option maxHeartbeats 4000000 in
theorem implGroupsAsTable (a : Option Addr) (n c : Nat) (ts : List GRow) (w : World) (hz : ts.length = n) (hn : n ≤ 1048576) (ha : AtN w a ts) :
    Calls Try.prog 24 #[.slice a n c] w fun e w' => TabAns e w' w.heap.size (gaB ts) (gaP ts) (gaRows ts) ∧ Below w.heap.size w w' := by
  obtain ⟨i0, hi, hz0, hz1, hz2⟩ := info_parts Try.infoW
  have B1 : Below w.heap.size w (w.alloc (.cells #[.int .i64 0, .slice none 0 0] 32)) := (Below.refl _ _).alloc (Nat.le_refl _) _
  have q0 : (w.alloc (.cells #[.int .i64 0, .slice none 0 0] 32)).heap[w.heap.size]? = some (.cells #[.int .i64 0, .slice none 0 0] 32 (0, 0)) := heap_alloc_new w _
  have HA := Hid.mk ha
  clear ha
  cases hg : goodV ts with
  | false =>
    have HG := Hid.mk hg
    clear hg
    go_enter Try.func24, Try.ntmps24
    go_wp2_with fail
    refine (implGoodGroups_any _ _ _ ts _ hz hn (HA.out.below B1).atV).mono ?_
    rintro e w1 ⟨rfl, hb1⟩
    rw [HG.out]
    have Q0 := (hb1.block w.heap.size (by simp)).trans q0
    have e0 : w1.cell? ⟨w.heap.size, 0, none⟩ = some (.int .i64 0) := by rw [cell_of_row w1 _ 0 _ _ (0, 0) Q0]; rfl
    have e1 : w1.cell? ⟨w.heap.size, 1, none⟩ = some (.slice none 0 0) := by rw [cell_of_row w1 _ 1 _ _ (0, 0) Q0]; rfl
    have f0 : w1.frozen? ⟨w.heap.size, 0, none⟩ = false := frozen_of_row w1 _ 0 _ _ Q0
    have f1 : w1.frozen? ⟨w.heap.size, 1, none⟩ = false := frozen_of_row w1 _ 1 _ _ Q0
    have B2 : Below w.heap.size w w1 := B1.trans (hb1.mono B1.size)
    go_wp2
    refine bodyPost_ret (v := .tuple #[.agg #[.int .i64 0, .slice none 0 0], .bool false]) (by simp [results, Try.results24, go_sem, e0, e1]) rfl ⟨TabAns.zero (gaB_good HG.out) rfl, (B2.setCell (by simp) _).setCell (by simp) _⟩
  | true =>
    have HG := Hid.mk hg
    clear hg
    have hn60 : n ≤ 60 := by have := (goodV_parts HG.out).1; omega
    go_enter Try.func24, Try.ntmps24
    go_wp2_with fail
    refine (implGoodGroups_any _ _ _ ts _ hz hn (HA.out.below B1).atV).mono ?_
    rintro e w1 ⟨rfl, hb1⟩
    rw [HG.out]
    have Q0 := (hb1.block w.heap.size (by simp)).trans q0
    have e0 : w1.cell? ⟨w.heap.size, 0, none⟩ = some (.int .i64 0) := by rw [cell_of_row w1 _ 0 _ _ (0, 0) Q0]; rfl
    have e1 : w1.cell? ⟨w.heap.size, 1, none⟩ = some (.slice none 0 0) := by rw [cell_of_row w1 _ 1 _ _ (0, 0) Q0]; rfl
    have f0 : w1.frozen? ⟨w.heap.size, 0, none⟩ = false := frozen_of_row w1 _ 0 _ _ Q0
    have f1 : w1.frozen? ⟨w.heap.size, 1, none⟩ = false := frozen_of_row w1 _ 1 _ _ Q0
    have B2 : Below w.heap.size w w1 := B1.trans (hb1.mono B1.size)
    have z1 : w.heap.size + 1 ≤ w1.heap.size := by have := hb1.size; simpa using this
    clear Q0 q0 hb1 B1
    obtain ⟨W, hW⟩ : ∃ W, W = w1.alloc (.cells #[.int .i64 0, .slice none 0 0] 32) := ⟨_, rfl⟩
    have BW : Below w1.heap.size w1 W := by rw [hW]; exact (Below.refl _ _).alloc (Nat.le_refl _) _
    have T0 : TabVar W w1.heap.size 0 none 0 0 [] [] := by rw [hW]; exact TabVar.new w1 0
    go_wp2
    rw [← hW]
    clear hW
    go_loopw [14] (fun i wr => ∃ (k : Nat) (r' : Option Addr) (d' : Nat) (cells : List Value), k ≤ n ∧ i = .int .i64 k ∧ TabVar wr w1.heap.size (gaC ts k) r' k d' ((gaRows ts).take k) cells ∧ (∀ j, j < k → good (gaRow (gat ts j)) = true) ∧ Below w1.heap.size w1 wr) (fun i _ => n - (intOf i).toNat)
    case atStart => exact ⟨0, none, 0, [], Nat.zero_le _, rfl, T0, fun j hj => by omega, BW⟩
    case round =>
      clear T0 BW
      obtain ⟨k, r', d', cells, hk, rfl, hv, hall, hbw⟩ := hrel
      have zR := hv.lt
      have B3 : Below w.heap.size w wr := B2.trans (hbw.mono (by omega))
      replace f0 := frozen_later hbw e0 f0
      replace f1 := frozen_later hbw e1 f1
      replace e0 := cell_later hbw e0
      replace e1 := cell_later hbw e1
      have HALL := Hid.mk hall
      clear hall
      by_cases hlt : k < n
      · obtain ⟨b, off, rfl, hc⟩ := (HA.out.below B3).some (by omega)
        obtain ⟨q, dd, hcx, hwx, hvx, hm, hnil, hat⟩ := hc k (by omega)
        have hki : (k : Int) < (n : Int) := by omega
        obtain ⟨g1, g2, _, _⟩ := goodV_at HG.out k (by omega)
        have HS := Hid.mk (gaRows_take (ts := ts) k (by omega))
        have HNB : Hid (good (gaRow (gat ts k)) = false → gaB ts = false) := gaB_row k (by omega)
        have HNX : Hid (good (gaRow (gat ts k)) = true → ∀ j, j < k + 1 → good (gaRow (gat ts j)) = true) := fun h j hj => by
          by_cases e : j = k
          · rw [e]; exact h
          · exact HALL.out j (by omega)
        have HGC := Hid.mk (gaC_succ (ts := ts) k)
        rw [← g2] at HGC
        have hm6 := good_len g1
        generalize gat ts k = Y at *
        obtain ⟨ys, x, y⟩ := Y
        simp only [gaRow] at hcx hwx hvx hat hm HS HGC HNB HNX hm6
        obtain ⟨m, hmm⟩ : ∃ m, ys.length = m := ⟨_, rfl⟩
        rw [hmm] at hcx hm HGC hm6
        have HM := Hid.mk hmm
        have HNIL := Hid.mk hnil
        clear hc g1 g2 hmm hnil
        obtain ⟨V, hV⟩ : ∃ V, V = ((wr.alloc (.cells #[.slice q m dd, .int .i64 x, .int .i64 y] 73)).alloc (.cells #[.int .i64 x, .int .i64 y] 3)).alloc (.cells #[.slice q m dd, .slice (some ⟨wr.heap.size + 1, 0, none⟩) 2 2] 25) := ⟨_, rfl⟩
        have hbV : Below wr.heap.size wr V := by rw [hV]; exact (((Below.refl _ _).alloc (Nat.le_refl _) _).alloc (by simp) _).alloc (by simp; omega) _
        have p0 : V.cell? ⟨wr.heap.size + 1 + 1, 0, none⟩ = some (.slice q m dd) := by rw [hV]; simp [go_sem]
        have p1 : V.cell? ⟨wr.heap.size + 1 + 1, 1, none⟩ = some (.slice (some ⟨wr.heap.size + 1, 0, none⟩) 2 2) := by rw [hV]; simp [go_sem]
        have x0 : V.cell? ⟨wr.heap.size + 1, 0, none⟩ = some (.int .i64 x) := by rw [hV]; simp [go_sem]
        have x1 : V.cell? ⟨wr.heap.size + 1, 1, none⟩ = some (.int .i64 y) := by rw [hV]; simp [go_sem]
        have HXY : Hid (At V (some ⟨wr.heap.size + 1, 0, none⟩) [x, y]) := .inr ⟨_, _, rfl, fun i hi => by
          match i, hi with
          | 0, _ => simpa using x0
          | 1, _ => simpa using x1⟩
        have HAT := Hid.mk (hat.below hbV)
        go_wp2_with fail
        rw [← hV]
        clear hV hcx hwx hvx hat x0 x1
        refine (concatI_any (wr.heap.size + 1 + 1) q (some ⟨wr.heap.size + 1, 0, none⟩) m 2 dd 2 ys [x, y] V HM.out rfl (by omega) (by omega) HNIL.out (fun h => by cases h) HAT.out HXY.out p0 p1).mono ?_
        rintro e w2 ⟨r2, d2, rfl, ho2, hb2⟩
        have hbR : Below wr.heap.size wr w2 := hbV.trans (hb2.mono hbV.size)
        have zV := hbV.size
        have HL : Hid ((ys ++ [x, y]).length = m + 2) := by show _ = _; rw [List.length_append, HM.out]; rfl
        obtain ⟨M, hM⟩ : ∃ M, M = m + 2 := ⟨_, rfl⟩
        rw [← hM] at ho2 HGC HL ⊢
        have hM8 : M ≤ 8 := by omega
        have hO2 := owns_mono ho2 zV
        clear hM ho2 hb2 hbV p0 p1 HXY HAT HNIL
        obtain ⟨L, hL⟩ : ∃ L, L = ys ++ [x, y] := ⟨_, rfl⟩
        rw [← hL] at hO2 HL HS HNB HNX
        clear hL
        obtain ⟨U, hU⟩ : ∃ U, U = w2.alloc (.cells #[.slice r2 M d2] 67) := ⟨_, rfl⟩
        have hbU : Below w2.heap.size w2 U := by rw [hU]; exact (Below.refl _ _).alloc (Nat.le_refl _) _
        have u0 : U.cell? ⟨w2.heap.size, 0, none⟩ = some (.slice r2 M d2) := by rw [hU]; simp
        have HO2 := Hid.mk (owns_below hO2 hbU)
        have hbS : Below wr.heap.size wr U := hbR.trans (hbU.mono hbR.size)
        have zS : wr.heap.size ≤ w2.heap.size := hbR.size
        clear hO2 hbR
        go_wp2_with fail
        rw [← hU]
        clear hU hbU
        refine (implGoodRow_any _ _ _ L U HL.out (by omega) (At.owned HO2.out)).mono ?_
        rintro e w3 ⟨rfl, hb3⟩
        have hbT : Below wr.heap.size wr w3 := hbS.trans (hb3.mono hbS.size)
        have HO3 := Hid.mk (owns_below HO2.out hb3)
        replace u0 := cell_later hb3 u0
        have k0 := cell_later hbT e0
        have k1 := cell_later hbT e1
        have k2 := frozen_later hbT e0 f0
        have k3 := frozen_later hbT e1 f1
        clear HO2 hbS hb3 e0 e1 f0 f1
        have B4 : Below w.heap.size w w3 := B3.trans (hbT.mono B3.size)
        cases hgr : good L with
        | false =>
          have HGR := Hid.mk hgr
          clear hgr
          go_wp2
          refine bodyPost_ret (v := .tuple #[.agg #[.int .i64 0, .slice none 0 0], .bool false]) (by simp [results, Try.results24, go_sem, k0, k1]) rfl ⟨TabAns.zero (HNB.out HGR.out) rfl, (B4.setCell (by simp) _).setCell (by simp) _⟩
        | true =>
          have HGR := Hid.mk hgr
          clear hgr
          have t0 := cell_later hbT hv.cell0
          have t1 := frozen_later hbT hv.cell0 hv.frozen0
          obtain ⟨hvc, hbc⟩ := hv.cols hbT (M : Int)
          have HVC := Hid.mk hvc
          have HBC := Hid.mk hbc
          have hne : w1.heap.size ≠ w2.heap.size := by omega
          go_upto_region 11 with fail
          obtain ⟨X, hX⟩ : ∃ X, X = w3.setCell ⟨w1.heap.size, 0, none⟩ (.int .i64 (M : Int)) := ⟨_, rfl⟩
          have hX0 := hX
          rw [← hX]
          rw [← hX] at HBC
          have hvX := HVC.out.below HBC.out
          have x1 := hvX.cell1
          have x1f := hvX.frozen1
          have u1 : X.cell? ⟨w2.heap.size, 0, none⟩ = some (.slice r2 M d2) := by rw [hX0]; exact keep_far u0 (fun e => hne e.symm)
          have zX : X.heap.size = w3.heap.size := by rw [hX0]; simp [World.setCell]
          have zY : w1.heap.size + 1 ≤ X.heap.size + 1 := by have := hbT.size; omega
          have HOX : Hid (X.ownsRow (wr.setCell ⟨w1.heap.size, 0, none⟩ (.int .i64 (M : Int))).heap.size 3 1 (.slice r2 M d2) M (L.map (.int .i64))) := by
            show World.ownsRow _ _ _ _ _ _ _
            rw [show (wr.setCell ⟨w1.heap.size, 0, none⟩ (.int .i64 (M : Int))).heap.size = wr.heap.size by simp [World.setCell], hX0]
            exact HO3.out.kept (setCell_grown _ _ _) (.inr (fun e => by have h9 := (HO3.out.lt w1.heap.size e).1; omega))
          have HBW : Hid (Below w1.heap.size w1 (wr.setCell ⟨w1.heap.size, 0, none⟩ (.int .i64 (M : Int)))) := hbw.setCell (Nat.le_refl _) _
          have HVX := Hid.mk hvX
          clear hX hX0 hvX hvc hbc t0 t1 u0 HO3 hbT hv hbw
          go_wp2_with (at_builtin; refine wpList_append_lies _ rfl (.tmp 38) (.tmp 41) 30 rfl (w1.heap.size + 1) 69 i0 (.agg #[.slice none 0 0, .int .i64 0]) 2 32 Try.underlying30 hi hz0 hz1 hz2 rfl (by decide) (.slice r' k d') k cells (by simp [Act.eval]) (HVX.out.own.alloc _) ⟨X.heap.size, 0, none⟩ 1 1 [.slice r2 M d2, .int .i64 1] (by simp [Act.eval]) rfl (by simpa using news_at X #[.slice r2 M d2, .int .i64 1] 69) (by intro u hu; simp at hu; rcases hu with rfl | rfl <;> rfl) (by decide) (by unfold maxLen; omega) (by omega) (by simpa using zY) (X.heap.size + 1) (by simp) ?_; intro g4 cap4 w4 hown4 hgrow4 hat4 hlt4; obtain ⟨s1, s2, hv4⟩ := HVC.out.pushed HBC.out HL.out HOX.out hown4 hgrow4 hat4 hlt4; have HV4 := Hid.mk hv4; have HG4 := Hid.mk hgrow4; clear hv4 hown4 hgrow4 hat4 hlt4)
          have HB := Hid.mk (HVC.out.pushed_below (v := .slice (some ⟨g4, 0, none⟩) (k + 1) cap4) HBC.out HG4.out HBW.out (Nat.le_refl _))
          have HV : Hid (TabVar (w4.setCell ⟨w1.heap.size, 1, none⟩ (.slice (some ⟨g4, 0, none⟩) (k + 1) cap4)) w1.heap.size (gaC ts (k + 1)) (some ⟨g4, 0, none⟩) (k + 1) cap4 ((gaRows ts).take (k + 1)) (cells ++ [.slice r2 M d2, .int .i64 1])) := by show TabVar _ _ _ _ _ _ _ _; rw [HS.out, HGC.out]; exact HV4.out
          clear HV4 HG4 HVX HVC HBC HOX HBW
          go_roundw
          case rel => exact ⟨k + 1, _, _, _, by omega, by go_num, HV.out, HNX.out HGR.out, HB.out⟩
          case measure => simp [intOf]; omega
      · obtain rfl : k = n := by omega
        have hlen : (gaRows ts).take k = gaRows ts := List.take_of_length_le (by rw [gaRows_length]; omega)
        rw [hlen, gaC_end hz] at hv
        have HGB : Hid (gaB ts = true) := gaB_all HG.out (fun j hj => HALL.out j (by omega))
        obtain ⟨P, hP⟩ : ∃ P, P = gaP ts := ⟨_, rfl⟩
        have HP := Hid.mk hP
        rw [← hP] at hv
        have t0 := hv.cell0
        have t1 := hv.cell1
        have HV := Hid.mk hv
        clear hlen hv hP
        go_wp2
        refine bodyPost_ret (v := .tuple #[.agg #[.int .i64 P, .slice r' k d'], .bool true]) (by simp [results, Try.results24, go_sem, e0, e1]) rfl ⟨?_, (B3.setCell (by simp) _).setCell (by simp) _⟩
        show TabAns _ _ _ _ _ _
        rw [HGB.out, ← HP.out]
        refine ⟨r', k, d', cells, rfl, ?_⟩
        exact ((HV.out.2.setCell (a0 := ⟨w.heap.size, 0, none⟩) (.inl (by simp; omega)) _).setCell (a0 := ⟨w.heap.size, 1, none⟩) (.inl (by simp; omega)) _).widen (by omega) (by simp [World.setCell]) (Nat.le_refl _)

end Go.Proofs.Ytlfljfmhhnoinab
