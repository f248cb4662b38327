/- Contracts of the laws' mark of Proc over things that are owned. -/
import Derived.Test.YthfndafgllcelaaPrE
import Derived.Test.YthfndafgllcelaaIntM
namespace Go.Proofs.Ythfndafgllcelaa
open Go.RowKit

set_option maxRecDepth 100000 in
set_option maxHeartbeats 8000000 in
theorem markProcS_rep (F : Nat → Prop) (a : Option Addr) (n c : Nat) (xs : List TProc) (m : Int) (w : World) (hn : n ≤ 1048576) (ht : msumProc xs n ≤ 4194304) (h0 : 0 ≤ m) (h1 : m ≤ 134217728) (ho : RProcs.Own w F [.slice a n c] xs) :
    Calls Try.prog 40 #[.slice a n c, .int .i64 m] w fun e w' => e = .returned (.int .i64 (m + msumProc xs n)) ∧ RProcs.Own w' F [.slice a n c] (mkProcs m xs) ∧ Off F w w' := by
  obtain ⟨a', n', c', cells, G, he, hl⟩ := ho
  simp only [List.cons.injEq, Value.slice.injEq, and_true] at he
  obtain ⟨rfl, rfl, rfl⟩ := he
  go_enter Try.func40, Try.ntmps40
  go_wp2
  go_loopw [1, 5] (fun q i wr => ∃ (k : Nat) (cells : List Value), k ≤ n ∧ i = .int .i64 k ∧ q = .int .i64 (m + msumProc xs k) ∧ Laid RProc wr F 64 a n c (mkTo mkProc mknProc m xs k) cells G n ∧ Off F w wr) (fun _ i _ => n - (intOf i).toNat)
  case atStart => exact ⟨0, cells, Nat.zero_le _, rfl, by simp [msumProc_zero], by rw [mkTo_zero]; exact hl, Off.refl _ _⟩
  case round =>
    have hzl := hl.len
    clear hl cells
    obtain ⟨k, cells, hk, rfl, rfl, hl, hof⟩ := hrel
    by_cases hlt : k < n
    · obtain ⟨⟨zi0, zi1, bo2⟩, hx⟩ : ∃ x, xs[k]? = some x := ⟨_, List.getElem?_eq_getElem (by omega)⟩
      have hrow := hl.row k _ hlt (mkTo_next _ _ hx)
      have hcs := RProc.own_open hrow
      rcases hl.outer.2 with ⟨_, h00⟩ | ⟨g, cap, cur, hv, _⟩
      · omega
      simp only [Value.slice.injEq, true_and] at hv
      obtain ⟨rfl, rfl⟩ := hv
      have hcl : cells.length = n * 3 := hl.outer.1
      have hcm : k * 3 + 3 ≤ cells.length := by omega
      have hcs2 : sub cells (k * 3) 3 = [.int .i64 zi0, .int .i64 zi1, .bool bo2] := hcs
      have hsf : sets cells (k * 3) [.int .i64 zi0, .int .i64 zi1, .bool bo2] = cells := by rw [← hcs2]; exact sets_self _ _ _ hcm
      have ow : wr.ownsRow 0 64 3 (.slice (some ⟨g, 0, none⟩) n c) n (sets cells (k * 3) [.int .i64 zi0, .int .i64 zi1, .bool bo2]) := by rw [hsf]; exact hl.outer
      have hts := msumProc_succ hx
      have htm := msumProc_mono xs (k + 1) n (by omega)
      have hps : mknProc (zi0, zi1, bo2) = 1 + 1 + 1 := rfl
      have hgG : ¬ G k g := fun h => (hl.rowF k g hlt h).2 rfl
      have HL := Hid.mk hl
      have HO := Hid.mk hof
      have HX := Hid.mk hx
      obtain ⟨T, hT⟩ : ∃ T, msumProc xs k = T := ⟨_, rfl⟩
      have HT := Hid.mk hT
      rw [hps] at hts
      rw [hT] at hts ⊢
      have HTS := Hid.mk hts
      have hki : (k : Int) < (n : Int) := by omega
      obtain ⟨M, hM⟩ : ∃ M : Int, M = m + T := ⟨_, rfl⟩
      have hM0 : 0 ≤ M := by omega
      have hM1 : M ≤ 140000000 := by omega
      have HM := Hid.mk hM
      rw [← hM]
      have HGG := Hid.mk hgG
      have HOW := Hid.mk ow
      have HCM := Hid.mk hcm
      have HU : Hid (Off (fun b => b = g ∨ G k b) wr wr) := Hid.mk (Off.refl _ _)
      clear hl hrow hof hx hT hts hps hcs hcs2 hM hgG htm hcl hcm hsf ow ht
      have q : wr.cell? ⟨g, k * 3, none⟩ = some (.int .i64 zi0) := owns_sets_cell HOW.out (j := 0) rfl HCM.out
      have f : wr.frozen? ⟨g, k * 3, none⟩ = false := HOW.out.frozenAt _
      obtain ⟨X0, hX⟩ : ∃ u, u = wr.setCell ⟨g, k * 3, none⟩ (.int .i64 (M)) := ⟨_, rfl⟩
      have HOW' : Hid (X0.ownsRow 0 64 3 (.slice (some ⟨g, 0, none⟩) n c) n (sets cells (k * 3) [.int .i64 (M), .int .i64 zi1, .bool bo2])) := Hid.mk (by rw [hX]; exact owns_sets_store HOW.out 0 _ (by simp) HCM.out)
      have S : Hid (Off (fun b => b = g) wr X0) := Hid.mk (by rw [hX]; exact Off.set (F := fun b => b = g) (a := ⟨g, k * 3, none⟩) rfl _)
      have HU' := Hid.mk (HU.out.trans (S.out.mono (fun b e => .inl e)))
      clear HOW HU S
      have HOW := HOW'
      have HU := HU'
      clear HOW' HU'
      go_upto_region 5 with fail
      rw [← hX]
      clear hX q f
      have q : X0.cell? ⟨g, k * 3 + 1, none⟩ = some (.int .i64 zi1) := owns_sets_cell HOW.out (j := 1) rfl HCM.out
      have f : X0.frozen? ⟨g, k * 3 + 1, none⟩ = false := HOW.out.frozenAt _
      obtain ⟨X1, hX⟩ : ∃ u, u = X0.setCell ⟨g, k * 3 + 1, none⟩ (.int .i64 (M + 1)) := ⟨_, rfl⟩
      have HOW' : Hid (X1.ownsRow 0 64 3 (.slice (some ⟨g, 0, none⟩) n c) n (sets cells (k * 3) [.int .i64 (M), .int .i64 (M + 1), .bool bo2])) := Hid.mk (by rw [hX]; exact owns_sets_store HOW.out 1 _ (by simp) HCM.out)
      have S : Hid (Off (fun b => b = g) X0 X1) := Hid.mk (by rw [hX]; exact Off.set (F := fun b => b = g) (a := ⟨g, k * 3 + 1, none⟩) rfl _)
      have HU' := Hid.mk (HU.out.trans (S.out.mono (fun b e => .inl e)))
      clear HOW HU S
      have HOW := HOW'
      have HU := HU'
      clear HOW' HU'
      go_upto_region 7 with fail
      rw [← hX]
      clear hX q f
      have q : X1.cell? ⟨g, k * 3 + 2, none⟩ = some (.bool bo2) := owns_sets_cell HOW.out (j := 2) rfl HCM.out
      have f : X1.frozen? ⟨g, k * 3 + 2, none⟩ = false := HOW.out.frozenAt _
      obtain ⟨X2, hX⟩ : ∃ u, u = X1.setCell ⟨g, k * 3 + 2, none⟩ (.bool ((M + 1 + 1) % 3 == 0)) := ⟨_, rfl⟩
      have HOW' : Hid (X2.ownsRow 0 64 3 (.slice (some ⟨g, 0, none⟩) n c) n (sets cells (k * 3) [.int .i64 (M), .int .i64 (M + 1), .bool ((M + 1 + 1) % 3 == 0)])) := Hid.mk (by rw [hX]; exact owns_sets_store HOW.out 2 _ (by simp) HCM.out)
      have S : Hid (Off (fun b => b = g) X1 X2) := Hid.mk (by rw [hX]; exact Off.set (F := fun b => b = g) (a := ⟨g, k * 3 + 2, none⟩) rfl _)
      have HU' := Hid.mk (HU.out.trans (S.out.mono (fun b e => .inl e)))
      clear HOW HU S
      have HOW := HOW'
      have HU := HU'
      clear HOW' HU'
      go_upto_region 9 with fail
      rw [← hX]
      clear hX q f
      have HLN : Hid (Laid RProc X2 F 64 (some ⟨g, 0, none⟩) n c (mkTo mkProc mknProc m xs (k + 1)) (sets cells (k * 3) [.int .i64 (M), .int .i64 (M + 1), .bool ((M + 1 + 1) % 3 == 0)]) G n) := Hid.mk (by
        have hsu : sub (sets cells (k * 3) [.int .i64 (M), .int .i64 (M + 1), .bool ((M + 1 + 1) % 3 == 0)]) (k * 3) 3 = [.int .i64 (M), .int .i64 (M + 1), .bool ((M + 1 + 1) % 3 == 0)] := sub_sets cells (k * 3) [.int .i64 (M), .int .i64 (M + 1), .bool ((M + 1 + 1) % 3 == 0)] HCM.out
        have hturn := HL.out.turn (w' := X2) (cells' := sets cells (k * 3) [.int .i64 (M), .int .i64 (M + 1), .bool ((M + 1 + 1) % 3 == 0)]) (x' := mkProc M (zi0, zi1, bo2)) hlt (fun b hb hn1 hn2 => HU.out.block b hb (fun e => e.elim (fun e => hn2 (by rw [e]; rfl)) hn1)) HOW.out (fun j hj => sub_sets_far _ _ _ _ _ (mul_far (k := 3) hj))
          (by
            show RProc.Own X2 (G k) (sub (sets cells (k * 3) [.int .i64 (M), .int .i64 (M + 1), .bool ((M + 1 + 1) % 3 == 0)]) (k * 3) 3) (mkProc M (zi0, zi1, bo2))
            rw [hsu]
            unfold mkProc
            simp only [mkB]
            exact RProc.own_mk   )
        have h9 := mkTo_set mkProc mknProc (m := m) HX.out
        have h8 : szL mknProc xs k = T := HT.out
        rw [h8, ← HM.out] at h9
        rw [← h9]
        exact hturn)
      have HON : Hid (Off F w X2) := Hid.mk (HO.out.trans (HU.out.mono (fun b hb => hb.elim (fun e => by rw [e]; exact HL.out.outerF g rfl) (fun hb => (HL.out.rowF k b hlt hb).1))))
      clear HOW HU 
      go_wp2
      go_roundw
      case rel => exact ⟨k + 1, _, by omega, by go_num, by rw [HTS.out, HM.out]; congr 1; push_cast; omega, HLN.out, HON.out⟩
      case measure => simp [intOf]; omega
    · obtain rfl : k = n := by omega
      have HL := Hid.mk hl
      clear hl
      go_wp2
      go_ret
      refine ⟨rfl, ⟨_, _, _, cells, G, rfl, ?_⟩, hof⟩
      have h9 := HL.out
      rw [mkTo_all _ _ _ _ hzl] at h9
      exact h9


end Go.Proofs.Ythfndafgllcelaa
