/- Contracts of the laws' mark of Prepared over things that are owned. -/
import Derived.Test.YtecaaekilbdgdaaPpE
import Derived.Test.YtecaaekilbdgdaaIntM
namespace Go.Proofs.Ytecaaekilbdgdaa
open Go.RowKit

set_option maxRecDepth 100000 in
set_option maxHeartbeats 8000000 in
theorem markPreparedS_rep (F : Nat → Prop) (a : Option Addr) (n c : Nat) (xs : List TPrepared) (m : Int) (w : World) (hn : n ≤ 1048576) (hs : ∀ (i : Nat) (x : TPrepared), xs[i]? = some x → costPrepared x ≤ 1048576) (ht : msumPrepared xs n ≤ 4194304) (h0 : 0 ≤ m) (h1 : m ≤ 134217728) (ho : RPrepareds.Own w F [.slice a n c] xs) :
    Calls Try.prog 29 #[.slice a n c, .int .i64 m] w fun e w' => e = .returned (.int .i64 (m + msumPrepared xs n)) ∧ RPrepareds.Own w' F [.slice a n c] (mkPrepareds m xs) ∧ Off F w w' := by
  obtain ⟨a', n', c', cells, G, he, hl⟩ := ho
  simp only [List.cons.injEq, Value.slice.injEq, and_true] at he
  obtain ⟨rfl, rfl, rfl⟩ := he
  go_enter Try.func29, Try.ntmps29
  go_wp2
  go_loopw [1, 5] (fun q i wr => ∃ (k : Nat) (cells : List Value), k ≤ n ∧ i = .int .i64 k ∧ q = .int .i64 (m + msumPrepared xs k) ∧ Laid RPrepared wr F 50 a n c (mkTo mkPrepared mknPrepared m xs k) cells G n ∧ Off F w wr) (fun _ i _ => n - (intOf i).toNat)
  case atStart => exact ⟨0, cells, Nat.zero_le _, rfl, by simp [msumPrepared_zero], by rw [mkTo_zero]; exact hl, Off.refl _ _⟩
  case round =>
    have hzl := hl.len
    clear hl cells
    obtain ⟨k, cells, hk, rfl, rfl, hl, hof⟩ := hrel
    by_cases hlt : k < n
    · obtain ⟨⟨zi0, zi1, x2⟩, hx⟩ : ∃ x, xs[k]? = some x := ⟨_, List.getElem?_eq_getElem (by omega)⟩
      have hrow := hl.row k _ hlt (mkTo_next _ _ hx)
      obtain ⟨a2, n2, c2, F2, hcs, r2, f2⟩ := RPrepared.own_open hrow
      rcases hl.outer.2 with ⟨_, h00⟩ | ⟨g, cap, cur, hv, _⟩
      · omega
      simp only [Value.slice.injEq, true_and] at hv
      obtain ⟨rfl, rfl⟩ := hv
      have hcl : cells.length = n * 3 := hl.outer.1
      have hcm : k * 3 + 3 ≤ cells.length := by omega
      have hcs2 : sub cells (k * 3) 3 = [.int .i64 zi0, .int .i64 zi1, .slice a2 n2 c2] := hcs
      have hsf : sets cells (k * 3) [.int .i64 zi0, .int .i64 zi1, .slice a2 n2 c2] = cells := by rw [← hcs2]; exact sets_self _ _ _ hcm
      have ow : wr.ownsRow 0 50 3 (.slice (some ⟨g, 0, none⟩) n c) n (sets cells (k * 3) [.int .i64 zi0, .int .i64 zi1, .slice a2 n2 c2]) := by rw [hsf]; exact hl.outer
      have e2 : x2.length = n2 := (RInts.own_iff.1 r2).1
      have hsm := smallPrepared e2 (hs k _ hx)
      have hts := msumPrepared_succ hx
      have htm := msumPrepared_mono xs (k + 1) n (by omega)
      have hps : mknPrepared (zi0, zi1, x2) = 1 + 1 + n2 := by unfold mknPrepared; simp only; rw [e2]
      have hgG : ¬ G k g := fun h => (hl.rowF k g hlt h).2 rfl
      have HL := Hid.mk hl
      have HO := Hid.mk hof
      have HX := Hid.mk hx
      obtain ⟨T, hT⟩ : ∃ T, msumPrepared xs k = T := ⟨_, rfl⟩
      have HT := Hid.mk hT
      rw [hps] at hts
      rw [hT] at hts ⊢
      have hn2 : n2 ≤ 1048576 := hsm
      have HTS := Hid.mk hts
      have hki : (k : Int) < (n : Int) := by omega
      obtain ⟨M, hM⟩ : ∃ M : Int, M = m + T := ⟨_, rfl⟩
      have hM0 : 0 ≤ M := by omega
      have hM1 : M ≤ 140000000 := by omega
      have HM := Hid.mk hM
      rw [← hM]
      have HGG := Hid.mk hgG
      have HOW := Hid.mk ow
      have HCM := Hid.mk hcm
      have HU : Hid (Off (fun b => b = g ∨ G k b) wr wr) := Hid.mk (Off.refl _ _)
      have R2 := Hid.mk r2
      have HF2 := Hid.mk f2
      have HE2 := Hid.mk e2
      clear r2 f2 e2
      clear hl hrow hof hx hT hts hps hcs hcs2 hM hgG htm hcl hcm hsf ow ht hs hsm
      have q : wr.cell? ⟨g, k * 3, none⟩ = some (.int .i64 zi0) := owns_sets_cell HOW.out (j := 0) rfl HCM.out
      have f : wr.frozen? ⟨g, k * 3, none⟩ = false := HOW.out.frozenAt _
      obtain ⟨X0, hX⟩ : ∃ u, u = wr.setCell ⟨g, k * 3, none⟩ (.int .i64 (M)) := ⟨_, rfl⟩
      have HOW' : Hid (X0.ownsRow 0 50 3 (.slice (some ⟨g, 0, none⟩) n c) n (sets cells (k * 3) [.int .i64 (M), .int .i64 zi1, .slice a2 n2 c2])) := Hid.mk (by rw [hX]; exact owns_sets_store HOW.out 0 _ (by simp) HCM.out)
      have S : Hid (Off (fun b => b = g) wr X0) := Hid.mk (by rw [hX]; exact Off.set (F := fun b => b = g) (a := ⟨g, k * 3, none⟩) rfl _)
      have R2_0 := Hid.mk (RInts.ownOff R2.out S.out (fun b hb e => HGG.out (by rw [← e]; exact HF2.out b hb)))
      clear R2
      have HU' := Hid.mk (HU.out.trans (S.out.mono (fun b e => .inl e)))
      clear HOW HU S
      have HOW := HOW'
      have HU := HU'
      clear HOW' HU'
      go_upto_region 5 with fail
      rw [← hX]
      clear hX q f
      have q : X0.cell? ⟨g, k * 3 + 1, none⟩ = some (.int .i64 zi1) := owns_sets_cell HOW.out (j := 1) rfl HCM.out
      have f : X0.frozen? ⟨g, k * 3 + 1, none⟩ = false := HOW.out.frozenAt _
      obtain ⟨X1, hX⟩ : ∃ u, u = X0.setCell ⟨g, k * 3 + 1, none⟩ (.int .i64 (M + 1)) := ⟨_, rfl⟩
      have HOW' : Hid (X1.ownsRow 0 50 3 (.slice (some ⟨g, 0, none⟩) n c) n (sets cells (k * 3) [.int .i64 (M), .int .i64 (M + 1), .slice a2 n2 c2])) := Hid.mk (by rw [hX]; exact owns_sets_store HOW.out 1 _ (by simp) HCM.out)
      have S : Hid (Off (fun b => b = g) X0 X1) := Hid.mk (by rw [hX]; exact Off.set (F := fun b => b = g) (a := ⟨g, k * 3 + 1, none⟩) rfl _)
      have R2_1 := Hid.mk (RInts.ownOff R2_0.out S.out (fun b hb e => HGG.out (by rw [← e]; exact HF2.out b hb)))
      clear R2_0
      have HU' := Hid.mk (HU.out.trans (S.out.mono (fun b e => .inl e)))
      clear HOW HU S
      have HOW := HOW'
      have HU := HU'
      clear HOW' HU'
      go_upto_region 7 with fail
      rw [← hX]
      clear hX q f
      have q : X1.cell? ⟨g, k * 3 + 2, none⟩ = some (.slice a2 n2 c2) := owns_sets_cell HOW.out (j := 2) rfl HCM.out
      go_wp2_with fail
      refine (markInts_rep F2 a2 n2 c2 x2 (M + 1 + 1) X1 hn2 (by omega) (by omega) R2_1.out).mono ?_
      rintro e w2 ⟨rfl, o2, g2⟩
      have HOW' : Hid (w2.ownsRow 0 50 3 (.slice (some ⟨g, 0, none⟩) n c) n (sets cells (k * 3) [.int .i64 (M), .int .i64 (M + 1), .slice a2 n2 c2])) := Hid.mk (ownsRow_frame HOW.out (fun b hb hlb => g2.block b hlb (fun hF => (HL.out.rowF k b hlt (HF2.out b hF)).2 hb)))
      have R2_2 := Hid.mk o2
      have HU' := Hid.mk (HU.out.trans (g2.mono (fun b hb => .inr (HF2.out b hb))))
      clear R2_1 o2 g2 q HOW HU
      have HOW := HOW'
      have HU := HU'
      clear HOW' HU'
      have HLN : Hid (Laid RPrepared w2 F 50 (some ⟨g, 0, none⟩) n c (mkTo mkPrepared mknPrepared m xs (k + 1)) (sets cells (k * 3) [.int .i64 (M), .int .i64 (M + 1), .slice a2 n2 c2]) G n) := Hid.mk (by
        have hsu : sub (sets cells (k * 3) [.int .i64 (M), .int .i64 (M + 1), .slice a2 n2 c2]) (k * 3) 3 = [.int .i64 (M), .int .i64 (M + 1), .slice a2 n2 c2] := sub_sets cells (k * 3) [.int .i64 (M), .int .i64 (M + 1), .slice a2 n2 c2] HCM.out
        have hturn := HL.out.turn (w' := w2) (cells' := sets cells (k * 3) [.int .i64 (M), .int .i64 (M + 1), .slice a2 n2 c2]) (x' := mkPrepared M (zi0, zi1, x2)) hlt (fun b hb hn1 hn2 => HU.out.block b hb (fun e => e.elim (fun e => hn2 (by rw [e]; rfl)) hn1)) HOW.out (fun j hj => sub_sets_far _ _ _ _ _ (mul_far (k := 3) hj))
          (by
            show RPrepared.Own w2 (G k) (sub (sets cells (k * 3) [.int .i64 (M), .int .i64 (M + 1), .slice a2 n2 c2]) (k * 3) 3) (mkPrepared M (zi0, zi1, x2))
            rw [hsu]
            unfold mkPrepared
            simp only
            exact RPrepared.own_mk R2_2.out HF2.out )
        have h9 := mkTo_set mkPrepared mknPrepared (m := m) HX.out
        have h8 : szL mknPrepared xs k = T := HT.out
        rw [h8, ← HM.out] at h9
        rw [← h9]
        exact hturn)
      have HON : Hid (Off F w w2) := Hid.mk (HO.out.trans (HU.out.mono (fun b hb => hb.elim (fun e => by rw [e]; exact HL.out.outerF g rfl) (fun hb => (HL.out.rowF k b hlt hb).1))))
      clear HOW HU R2_2
      go_wp2
      go_roundw
      case rel => exact ⟨k + 1, _, by omega, by go_num, by rw [HTS.out, HM.out]; congr 1; push_cast; omega, HLN.out, HON.out⟩
      case measure => simp [intOf]; omega
    · obtain rfl : k = n := by omega
      have HL := Hid.mk hl
      clear hl
      go_wp2
      go_ret
      refine ⟨rfl, ⟨_, _, _, cells, G, rfl, ?_⟩, hof⟩
      have h9 := HL.out
      rw [mkTo_all _ _ _ _ hzl] at h9
      exact h9


end Go.Proofs.Ytecaaekilbdgdaa
