/- Contracts of the laws' mark of Wire over things that are owned. -/
import Derived.Test.YthfndafgllcelaaWiE
import Derived.Test.YthfndafgllcelaaIntM
namespace Go.Proofs.Ythfndafgllcelaa
open Go.RowKit

set_option maxRecDepth 100000 in
set_option maxHeartbeats 8000000 in
theorem markWireS_rep (F : Nat → Prop) (a : Option Addr) (n c : Nat) (xs : List TWire) (m : Int) (w : World) (hn : n ≤ 1048576) (hs : ∀ (i : Nat) (x : TWire), xs[i]? = some x → costWire x ≤ 1048576) (ht : msumWire xs n ≤ 4194304) (h0 : 0 ≤ m) (h1 : m ≤ 134217728) (ho : RWires.Own w F [.slice a n c] xs) :
    Calls Try.prog 41 #[.slice a n c, .int .i64 m] w fun e w' => e = .returned (.int .i64 (m + msumWire xs n)) ∧ RWires.Own w' F [.slice a n c] (mkWires m xs) ∧ Off F w w' := by
  obtain ⟨a', n', c', cells, G, he, hl⟩ := ho
  simp only [List.cons.injEq, Value.slice.injEq, and_true] at he
  obtain ⟨rfl, rfl, rfl⟩ := he
  go_enter Try.func41, Try.ntmps41
  go_wp2
  go_loopw [1, 5] (fun q i wr => ∃ (k : Nat) (cells : List Value), k ≤ n ∧ i = .int .i64 k ∧ q = .int .i64 (m + msumWire xs k) ∧ Laid RWire wr F 74 a n c (mkTo mkWire mknWire m xs k) cells G n ∧ Off F w wr) (fun _ i _ => n - (intOf i).toNat)
  case atStart => exact ⟨0, cells, Nat.zero_le _, rfl, by simp [msumWire_zero], by rw [mkTo_zero]; exact hl, Off.refl _ _⟩
  case round =>
    have hzl := hl.len
    clear hl cells
    obtain ⟨k, cells, hk, rfl, rfl, hl, hof⟩ := hrel
    by_cases hlt : k < n
    · obtain ⟨⟨x0, x1, bo2⟩, hx⟩ : ∃ x, xs[k]? = some x := ⟨_, List.getElem?_eq_getElem (by omega)⟩
      have hrow := hl.row k _ hlt (mkTo_next _ _ hx)
      obtain ⟨a0, n0, c0, a1, n1, c1, F0, F1, hcs, r0, r1, f0, f1, d01⟩ := RWire.own_open hrow
      rcases hl.outer.2 with ⟨_, h00⟩ | ⟨g, cap, cur, hv, _⟩
      · omega
      simp only [Value.slice.injEq, true_and] at hv
      obtain ⟨rfl, rfl⟩ := hv
      have hcl : cells.length = n * 3 := hl.outer.1
      have hcm : k * 3 + 3 ≤ cells.length := by omega
      have hcs2 : sub cells (k * 3) 3 = [.slice a0 n0 c0, .slice a1 n1 c1, .bool bo2] := hcs
      have hsf : sets cells (k * 3) [.slice a0 n0 c0, .slice a1 n1 c1, .bool bo2] = cells := by rw [← hcs2]; exact sets_self _ _ _ hcm
      have ow : wr.ownsRow 0 74 3 (.slice (some ⟨g, 0, none⟩) n c) n (sets cells (k * 3) [.slice a0 n0 c0, .slice a1 n1 c1, .bool bo2]) := by rw [hsf]; exact hl.outer
      have e0 : x0.length = n0 := (RInts.own_iff.1 r0).1
      have e1 : x1.length = n1 := (RInts.own_iff.1 r1).1
      have hsm := smallWire e0 e1 (hs k _ hx)
      have hts := msumWire_succ hx
      have htm := msumWire_mono xs (k + 1) n (by omega)
      have hps : mknWire (x0, x1, bo2) = n0 + n1 + 1 := by unfold mknWire; simp only; rw [e0, e1]
      have hgG : ¬ G k g := fun h => (hl.rowF k g hlt h).2 rfl
      have HL := Hid.mk hl
      have HO := Hid.mk hof
      have HX := Hid.mk hx
      obtain ⟨T, hT⟩ : ∃ T, msumWire xs k = T := ⟨_, rfl⟩
      have HT := Hid.mk hT
      rw [hps] at hts
      rw [hT] at hts ⊢
      have hn0 : n0 ≤ 1048576 := hsm.1
      have hn1 : n1 ≤ 1048576 := hsm.2
      have HTS := Hid.mk hts
      have hki : (k : Int) < (n : Int) := by omega
      obtain ⟨M, hM⟩ : ∃ M : Int, M = m + T := ⟨_, rfl⟩
      have hM0 : 0 ≤ M := by omega
      have hM1 : M ≤ 140000000 := by omega
      have HM := Hid.mk hM
      rw [← hM]
      have HGG := Hid.mk hgG
      have HOW := Hid.mk ow
      have HCM := Hid.mk hcm
      have HU : Hid (Off (fun b => b = g ∨ G k b) wr wr) := Hid.mk (Off.refl _ _)
      have R0 := Hid.mk r0
      have HF0 := Hid.mk f0
      have HE0 := Hid.mk e0
      clear r0 f0 e0
      have R1 := Hid.mk r1
      have HF1 := Hid.mk f1
      have HE1 := Hid.mk e1
      clear r1 f1 e1
      have HD01 := Hid.mk d01
      clear d01
      clear hl hrow hof hx hT hts hps hcs hcs2 hM hgG htm hcl hcm hsf ow ht hs hsm
      have q : wr.cell? ⟨g, k * 3, none⟩ = some (.slice a0 n0 c0) := owns_sets_cell HOW.out (j := 0) rfl HCM.out
      go_wp2_with fail
      refine (markInts_rep F0 a0 n0 c0 x0 (M) wr hn0 (by omega) (by omega) R0.out).mono ?_
      rintro e w0 ⟨rfl, o0, g0⟩
      have HOW' : Hid (w0.ownsRow 0 74 3 (.slice (some ⟨g, 0, none⟩) n c) n (sets cells (k * 3) [.slice a0 n0 c0, .slice a1 n1 c1, .bool bo2])) := Hid.mk (ownsRow_frame HOW.out (fun b hb hlb => g0.block b hlb (fun hF => (HL.out.rowF k b hlt (HF0.out b hF)).2 hb)))
      have R1_0 := Hid.mk (RInts.ownOff R1.out g0 (fun b hb h => HD01.out b h hb))
      clear R1
      have R0_0 := Hid.mk o0
      have HU' := Hid.mk (HU.out.trans (g0.mono (fun b hb => .inr (HF0.out b hb))))
      clear R0 o0 g0 q HOW HU
      have HOW := HOW'
      have HU := HU'
      clear HOW' HU'
      have q : w0.cell? ⟨g, k * 3 + 1, none⟩ = some (.slice a1 n1 c1) := owns_sets_cell HOW.out (j := 1) rfl HCM.out
      go_wp2_with fail
      refine (markInts_rep F1 a1 n1 c1 x1 (M + (n0 : Int)) w0 hn1 (by omega) (by omega) R1_0.out).mono ?_
      rintro e w1 ⟨rfl, o1, g1⟩
      have HOW' : Hid (w1.ownsRow 0 74 3 (.slice (some ⟨g, 0, none⟩) n c) n (sets cells (k * 3) [.slice a0 n0 c0, .slice a1 n1 c1, .bool bo2])) := Hid.mk (ownsRow_frame HOW.out (fun b hb hlb => g1.block b hlb (fun hF => (HL.out.rowF k b hlt (HF1.out b hF)).2 hb)))
      have R0_1 := Hid.mk (RInts.ownOff R0_0.out g1 (fun b hb h => HD01.out b hb h))
      clear R0_0
      have R1_1 := Hid.mk o1
      have HU' := Hid.mk (HU.out.trans (g1.mono (fun b hb => .inr (HF1.out b hb))))
      clear R1_0 o1 g1 q HOW HU
      have HOW := HOW'
      have HU := HU'
      clear HOW' HU'
      have q : w1.cell? ⟨g, k * 3 + 2, none⟩ = some (.bool bo2) := owns_sets_cell HOW.out (j := 2) rfl HCM.out
      have f : w1.frozen? ⟨g, k * 3 + 2, none⟩ = false := HOW.out.frozenAt _
      obtain ⟨X2, hX⟩ : ∃ u, u = w1.setCell ⟨g, k * 3 + 2, none⟩ (.bool ((M + (n0 : Int) + (n1 : Int)) % 3 == 0)) := ⟨_, rfl⟩
      have HOW' : Hid (X2.ownsRow 0 74 3 (.slice (some ⟨g, 0, none⟩) n c) n (sets cells (k * 3) [.slice a0 n0 c0, .slice a1 n1 c1, .bool ((M + (n0 : Int) + (n1 : Int)) % 3 == 0)])) := Hid.mk (by rw [hX]; exact owns_sets_store HOW.out 2 _ (by simp) HCM.out)
      have S : Hid (Off (fun b => b = g) w1 X2) := Hid.mk (by rw [hX]; exact Off.set (F := fun b => b = g) (a := ⟨g, k * 3 + 2, none⟩) rfl _)
      have R0_2 := Hid.mk (RInts.ownOff R0_1.out S.out (fun b hb e => HGG.out (by rw [← e]; exact HF0.out b hb)))
      clear R0_1
      have R1_2 := Hid.mk (RInts.ownOff R1_1.out S.out (fun b hb e => HGG.out (by rw [← e]; exact HF1.out b hb)))
      clear R1_1
      have HU' := Hid.mk (HU.out.trans (S.out.mono (fun b e => .inl e)))
      clear HOW HU S
      have HOW := HOW'
      have HU := HU'
      clear HOW' HU'
      go_upto_region 7 with fail
      rw [← hX]
      clear hX q f
      have HLN : Hid (Laid RWire X2 F 74 (some ⟨g, 0, none⟩) n c (mkTo mkWire mknWire m xs (k + 1)) (sets cells (k * 3) [.slice a0 n0 c0, .slice a1 n1 c1, .bool ((M + (n0 : Int) + (n1 : Int)) % 3 == 0)]) G n) := Hid.mk (by
        have hsu : sub (sets cells (k * 3) [.slice a0 n0 c0, .slice a1 n1 c1, .bool ((M + (n0 : Int) + (n1 : Int)) % 3 == 0)]) (k * 3) 3 = [.slice a0 n0 c0, .slice a1 n1 c1, .bool ((M + (n0 : Int) + (n1 : Int)) % 3 == 0)] := sub_sets cells (k * 3) [.slice a0 n0 c0, .slice a1 n1 c1, .bool ((M + (n0 : Int) + (n1 : Int)) % 3 == 0)] HCM.out
        have hturn := HL.out.turn (w' := X2) (cells' := sets cells (k * 3) [.slice a0 n0 c0, .slice a1 n1 c1, .bool ((M + (n0 : Int) + (n1 : Int)) % 3 == 0)]) (x' := mkWire M (x0, x1, bo2)) hlt (fun b hb hn1 hn2 => HU.out.block b hb (fun e => e.elim (fun e => hn2 (by rw [e]; rfl)) hn1)) HOW.out (fun j hj => sub_sets_far _ _ _ _ _ (mul_far (k := 3) hj))
          (by
            show RWire.Own X2 (G k) (sub (sets cells (k * 3) [.slice a0 n0 c0, .slice a1 n1 c1, .bool ((M + (n0 : Int) + (n1 : Int)) % 3 == 0)]) (k * 3) 3) (mkWire M (x0, x1, bo2))
            rw [hsu]
            unfold mkWire
            simp only [HE0.out, HE1.out]
            exact RWire.own_mk R0_2.out R1_2.out HF0.out HF1.out HD01.out)
        have h9 := mkTo_set mkWire mknWire (m := m) HX.out
        have h8 : szL mknWire xs k = T := HT.out
        rw [h8, ← HM.out] at h9
        rw [← h9]
        exact hturn)
      have HON : Hid (Off F w X2) := Hid.mk (HO.out.trans (HU.out.mono (fun b hb => hb.elim (fun e => by rw [e]; exact HL.out.outerF g rfl) (fun hb => (HL.out.rowF k b hlt hb).1))))
      clear HOW HU R0_2 R1_2
      go_wp2
      go_roundw
      case rel => exact ⟨k + 1, _, by omega, by go_num, by rw [HTS.out, HM.out]; congr 1; push_cast; omega, HLN.out, HON.out⟩
      case measure => simp [intOf]; omega
    · obtain rfl : k = n := by omega
      have HL := Hid.mk hl
      clear hl
      go_wp2
      go_ret
      refine ⟨rfl, ⟨_, _, _, cells, G, rfl, ?_⟩, hof⟩
      have h9 := HL.out
      rw [mkTo_all _ _ _ _ hzl] at h9
      exact h9


end Go.Proofs.Ythfndafgllcelaa
