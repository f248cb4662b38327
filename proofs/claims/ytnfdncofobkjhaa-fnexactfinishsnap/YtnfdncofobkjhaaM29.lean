/- Several texts of one proof, in build order: SnpE, IntM, PrM, WiM, SnpM, PrL, WiL, SnpL, SzU, PrH. -/
import Derived.Test.YtnfdncofobkjhaaM28
import Derived.Test.YtnfdncofobkjhaaM3

/- Contracts of the laws' eq of Snap, of equal ones. -/
namespace Go.Proofs.Ytnfdncofobkjhaa
open Go.RowKit

set_option maxRecDepth 100000 in
set_option maxHeartbeats 8000000 in
theorem eqSnap_same (a0 : Option Addr) (n0 : Nat) (c0 : Nat) (a1 : Option Addr) (n1 : Nat) (c1 : Nat) (a0' : Option Addr) (c0' : Nat) (a1' : Option Addr) (c1' : Nat)  (x0 : List TProc) (x1 : List TWire) (w : World) (hz0 : x0.length = n0) (hs0 : n0 ≤ 1048576) (hz1 : x1.length = n1) (hs1 : n1 ≤ 1048576) (hd1 : ∀ (i : Nat) (x : TWire), x1[i]? = some x → costWire x ≤ 1048576) (ha0 : AtSl RProc w a0 x0) (hb0 : AtSl RProc w a0' x0) (ha1 : AtSl RWire w a1 x1) (hb1 : AtSl RWire w a1' x1) :
    Calls Try.prog 11 #[.agg #[.slice a0 n0 c0, .slice a1 n1 c1], .agg #[.slice a0' n0 c0', .slice a1' n1 c1']] w fun e w' => e = .returned (.bool true) ∧ Below w.heap.size w w' := by
  obtain ⟨W, hW⟩ : ∃ W, W = ((w.alloc (.cells #[.slice a0 n0 c0, .slice a1 n1 c1] 32)).alloc (.cells #[.slice a0' n0 c0', .slice a1' n1 c1'] 32)) := ⟨_, rfl⟩
  have B0 : Below w.heap.size w W := by rw [hW]; exact (((Below.refl _ _).alloc (Nat.le_refl _) _).alloc (by simp) _)
  have p1 : W.cell? ⟨w.heap.size, 1, none⟩ = some (.slice a1 n1 c1) := by rw [hW]; simp
  have r1 : W.cell? ⟨w.heap.size + 1, 1, none⟩ = some (.slice a1' n1 c1') := by rw [hW]; simp
  have HA0 := Hid.mk (And.intro ha0 hb0)
  have HZ0 := Hid.mk hz0
  clear ha0 hb0 hz0
  have HA1 := Hid.mk (And.intro ha1 hb1)
  have HZ1 := Hid.mk hz1
  clear ha1 hb1 hz1
  have HD1 := Hid.mk hd1
  clear hd1
  go_enter Try.func11, Try.ntmps11
  go_wp2_with fail
  rw [← hW]
  clear hW
  refine (eqProcS_same a0 a0' n0 c0 c0' x0 W HZ0.out hs0 (AtSl.below HA0.out.1 B0) (AtSl.below HA0.out.2 B0)).mono ?_
  rintro e w0 ⟨rfl, hb0⟩
  have B1 := B0.trans (hb0.mono B0.size)
  have p1 := cell_later hb0 p1
  have r1 := cell_later hb0 r1
  go_wp2_with fail
  refine (eqWireS_same a1 a1' n1 c1 c1' x1 w0 HZ1.out hs1 HD1.out (AtSl.below HA1.out.1 B1) (AtSl.below HA1.out.2 B1)).mono ?_
  rintro e w1 ⟨rfl, hb1⟩
  have B2 := B1.trans (hb1.mono B1.size)
  go_wp2
  go_ret
  exact ⟨rfl, B2⟩


end Go.Proofs.Ytnfdncofobkjhaa

/- Slices of numbers, marked, as things that are owned. -/
namespace Go.Proofs.Ytnfdncofobkjhaa
open Go.RowKit

theorem markInts_rep (F : Nat → Prop) (a : Option Addr) (n c : Nat) (zs : List Int) (m : Int) (w : World) (hn : n ≤ 1048576) (h0 : 0 ≤ m) (h1 : m ≤ 268435456) (ho : RInts.Own w F [.slice a n c] zs) :
    Calls Try.prog 22 #[.slice a n c, .int .i64 m] w fun e w' => e = .returned (.int .i64 (m + n)) ∧ RInts.Own w' F [.slice a n c] (mkInts m zs) ∧ Off F w w' := by
  obtain ⟨h2, h3, h4, h5⟩ := RInts.own_iff.1 ho
  refine (markIntS_any 0 a n c _ m w hn h0 (by omega) h4).mono fun e w' ⟨e1, e2, e3⟩ => ⟨e1, RInts.own_iff.2 ⟨by unfold mkInts; rw [marks_length, h2], h3, by unfold mkInts; rw [h2]; exact e2, h5⟩, Off.grown e3 h5⟩
end Go.Proofs.Ytnfdncofobkjhaa

/- Contracts of the laws' mark of Proc over things that are owned. -/
namespace Go.Proofs.Ytnfdncofobkjhaa
open Go.RowKit

set_option maxRecDepth 100000 in
set_option maxHeartbeats 8000000 in
theorem markProcS_rep (F : Nat → Prop) (a : Option Addr) (n c : Nat) (xs : List TProc) (m : Int) (w : World) (hn : n ≤ 1048576) (ht : msumProc xs n ≤ 4194304) (h0 : 0 ≤ m) (h1 : m ≤ 134217728) (ho : RProcs.Own w F [.slice a n c] xs) :
    Calls Try.prog 40 #[.slice a n c, .int .i64 m] w fun e w' => e = .returned (.int .i64 (m + msumProc xs n)) ∧ RProcs.Own w' F [.slice a n c] (mkProcs m xs) ∧ Off F w w' := by
  obtain ⟨a', n', c', cells, G, he, hl⟩ := ho
  simp only [List.cons.injEq, Value.slice.injEq, and_true] at he
  obtain ⟨rfl, rfl, rfl⟩ := he
  go_enter Try.func40, Try.ntmps40
  go_wp2
  go_loopw [1, 5] (fun q i wr => ∃ (k : Nat) (cells : List Value), k ≤ n ∧ i = .int .i64 k ∧ q = .int .i64 (m + msumProc xs k) ∧ Laid RProc wr F 74 a n c (mkTo mkProc mknProc m xs k) cells G n ∧ Off F w wr) (fun _ i _ => n - (intOf i).toNat)
  case atStart => exact ⟨0, cells, Nat.zero_le _, rfl, by simp [msumProc_zero], by rw [mkTo_zero]; exact hl, Off.refl _ _⟩
  case round =>
    have hzl := hl.len
    clear hl cells
    obtain ⟨k, cells, hk, rfl, rfl, hl, hof⟩ := hrel
    by_cases hlt : k < n
    · obtain ⟨⟨zi0, zi1, bo2⟩, hx⟩ : ∃ x, xs[k]? = some x := ⟨_, List.getElem?_eq_getElem (by omega)⟩
      have hrow := hl.row k _ hlt (mkTo_next _ _ hx)
      have hcs := RProc.own_open hrow
      rcases hl.outer.2 with ⟨_, h00⟩ | ⟨g, cap, cur, hv, _⟩
      · omega
      simp only [Value.slice.injEq, true_and] at hv
      obtain ⟨rfl, rfl⟩ := hv
      have hcl : cells.length = n * 3 := hl.outer.1
      have hcm : k * 3 + 3 ≤ cells.length := by omega
      have hcs2 : sub cells (k * 3) 3 = [.int .i64 zi0, .int .i64 zi1, .bool bo2] := hcs
      have hsf : sets cells (k * 3) [.int .i64 zi0, .int .i64 zi1, .bool bo2] = cells := by rw [← hcs2]; exact sets_self _ _ _ hcm
      have ow : wr.ownsRow 0 74 3 (.slice (some ⟨g, 0, none⟩) n c) n (sets cells (k * 3) [.int .i64 zi0, .int .i64 zi1, .bool bo2]) := by rw [hsf]; exact hl.outer
      have hts := msumProc_succ hx
      have htm := msumProc_mono xs (k + 1) n (by omega)
      have hps : mknProc (zi0, zi1, bo2) = 1 + 1 + 1 := rfl
      have hgG : ¬ G k g := fun h => (hl.rowF k g hlt h).2 rfl
      have HL := Hid.mk hl
      have HO := Hid.mk hof
      have HX := Hid.mk hx
      obtain ⟨T, hT⟩ : ∃ T, msumProc xs k = T := ⟨_, rfl⟩
      have HT := Hid.mk hT
      rw [hps] at hts
      rw [hT] at hts ⊢
      have HTS := Hid.mk hts
      have hki : (k : Int) < (n : Int) := by omega
      obtain ⟨M, hM⟩ : ∃ M : Int, M = m + T := ⟨_, rfl⟩
      have hM0 : 0 ≤ M := by omega
      have hM1 : M ≤ 140000000 := by omega
      have HM := Hid.mk hM
      rw [← hM]
      have HGG := Hid.mk hgG
      have HOW := Hid.mk ow
      have HCM := Hid.mk hcm
      have HU : Hid (Off (fun b => b = g ∨ G k b) wr wr) := Hid.mk (Off.refl _ _)
      clear hl hrow hof hx hT hts hps hcs hcs2 hM hgG htm hcl hcm hsf ow ht
      have q : wr.cell? ⟨g, k * 3, none⟩ = some (.int .i64 zi0) := owns_sets_cell HOW.out (j := 0) rfl HCM.out
      have f : wr.frozen? ⟨g, k * 3, none⟩ = false := HOW.out.frozenAt _
      obtain ⟨X0, hX⟩ : ∃ u, u = wr.setCell ⟨g, k * 3, none⟩ (.int .i64 (M)) := ⟨_, rfl⟩
      have HOW' : Hid (X0.ownsRow 0 74 3 (.slice (some ⟨g, 0, none⟩) n c) n (sets cells (k * 3) [.int .i64 (M), .int .i64 zi1, .bool bo2])) := Hid.mk (by rw [hX]; exact owns_sets_store HOW.out 0 _ (by simp) HCM.out)
      have S : Hid (Off (fun b => b = g) wr X0) := Hid.mk (by rw [hX]; exact Off.set (F := fun b => b = g) (a := ⟨g, k * 3, none⟩) rfl _)
      have HU' := Hid.mk (HU.out.trans (S.out.mono (fun b e => .inl e)))
      clear HOW HU S
      have HOW := HOW'
      have HU := HU'
      clear HOW' HU'
      go_upto_region 5 with fail
      rw [← hX]
      clear hX q f
      have q : X0.cell? ⟨g, k * 3 + 1, none⟩ = some (.int .i64 zi1) := owns_sets_cell HOW.out (j := 1) rfl HCM.out
      have f : X0.frozen? ⟨g, k * 3 + 1, none⟩ = false := HOW.out.frozenAt _
      obtain ⟨X1, hX⟩ : ∃ u, u = X0.setCell ⟨g, k * 3 + 1, none⟩ (.int .i64 (M + 1)) := ⟨_, rfl⟩
      have HOW' : Hid (X1.ownsRow 0 74 3 (.slice (some ⟨g, 0, none⟩) n c) n (sets cells (k * 3) [.int .i64 (M), .int .i64 (M + 1), .bool bo2])) := Hid.mk (by rw [hX]; exact owns_sets_store HOW.out 1 _ (by simp) HCM.out)
      have S : Hid (Off (fun b => b = g) X0 X1) := Hid.mk (by rw [hX]; exact Off.set (F := fun b => b = g) (a := ⟨g, k * 3 + 1, none⟩) rfl _)
      have HU' := Hid.mk (HU.out.trans (S.out.mono (fun b e => .inl e)))
      clear HOW HU S
      have HOW := HOW'
      have HU := HU'
      clear HOW' HU'
      go_upto_region 7 with fail
      rw [← hX]
      clear hX q f
      have q : X1.cell? ⟨g, k * 3 + 2, none⟩ = some (.bool bo2) := owns_sets_cell HOW.out (j := 2) rfl HCM.out
      have f : X1.frozen? ⟨g, k * 3 + 2, none⟩ = false := HOW.out.frozenAt _
      obtain ⟨X2, hX⟩ : ∃ u, u = X1.setCell ⟨g, k * 3 + 2, none⟩ (.bool ((M + 1 + 1) % 3 == 0)) := ⟨_, rfl⟩
      have HOW' : Hid (X2.ownsRow 0 74 3 (.slice (some ⟨g, 0, none⟩) n c) n (sets cells (k * 3) [.int .i64 (M), .int .i64 (M + 1), .bool ((M + 1 + 1) % 3 == 0)])) := Hid.mk (by rw [hX]; exact owns_sets_store HOW.out 2 _ (by simp) HCM.out)
      have S : Hid (Off (fun b => b = g) X1 X2) := Hid.mk (by rw [hX]; exact Off.set (F := fun b => b = g) (a := ⟨g, k * 3 + 2, none⟩) rfl _)
      have HU' := Hid.mk (HU.out.trans (S.out.mono (fun b e => .inl e)))
      clear HOW HU S
      have HOW := HOW'
      have HU := HU'
      clear HOW' HU'
      go_upto_region 9 with fail
      rw [← hX]
      clear hX q f
      have HLN : Hid (Laid RProc X2 F 74 (some ⟨g, 0, none⟩) n c (mkTo mkProc mknProc m xs (k + 1)) (sets cells (k * 3) [.int .i64 (M), .int .i64 (M + 1), .bool ((M + 1 + 1) % 3 == 0)]) G n) := Hid.mk (by
        have hsu : sub (sets cells (k * 3) [.int .i64 (M), .int .i64 (M + 1), .bool ((M + 1 + 1) % 3 == 0)]) (k * 3) 3 = [.int .i64 (M), .int .i64 (M + 1), .bool ((M + 1 + 1) % 3 == 0)] := sub_sets cells (k * 3) [.int .i64 (M), .int .i64 (M + 1), .bool ((M + 1 + 1) % 3 == 0)] HCM.out
        have hturn := HL.out.turn (w' := X2) (cells' := sets cells (k * 3) [.int .i64 (M), .int .i64 (M + 1), .bool ((M + 1 + 1) % 3 == 0)]) (x' := mkProc M (zi0, zi1, bo2)) hlt (fun b hb hn1 hn2 => HU.out.block b hb (fun e => e.elim (fun e => hn2 (by rw [e]; rfl)) hn1)) HOW.out (fun j hj => sub_sets_far _ _ _ _ _ (mul_far (k := 3) hj))
          (by
            show RProc.Own X2 (G k) (sub (sets cells (k * 3) [.int .i64 (M), .int .i64 (M + 1), .bool ((M + 1 + 1) % 3 == 0)]) (k * 3) 3) (mkProc M (zi0, zi1, bo2))
            rw [hsu]
            unfold mkProc
            simp only [mkB]
            exact RProc.own_mk   )
        have h9 := mkTo_set mkProc mknProc (m := m) HX.out
        have h8 : szL mknProc xs k = T := HT.out
        rw [h8, ← HM.out] at h9
        rw [← h9]
        exact hturn)
      have HON : Hid (Off F w X2) := Hid.mk (HO.out.trans (HU.out.mono (fun b hb => hb.elim (fun e => by rw [e]; exact HL.out.outerF g rfl) (fun hb => (HL.out.rowF k b hlt hb).1))))
      clear HOW HU 
      go_wp2
      go_roundw
      case rel => exact ⟨k + 1, _, by omega, by go_num, by rw [HTS.out, HM.out]; congr 1; push_cast; omega, HLN.out, HON.out⟩
      case measure => simp [intOf]; omega
    · obtain rfl : k = n := by omega
      have HL := Hid.mk hl
      clear hl
      go_wp2
      go_ret
      refine ⟨rfl, ⟨_, _, _, cells, G, rfl, ?_⟩, hof⟩
      have h9 := HL.out
      rw [mkTo_all _ _ _ _ hzl] at h9
      exact h9


end Go.Proofs.Ytnfdncofobkjhaa

/- Contracts of the laws' mark of Wire over things that are owned. -/
namespace Go.Proofs.Ytnfdncofobkjhaa
open Go.RowKit

set_option maxRecDepth 100000 in
set_option maxHeartbeats 8000000 in
theorem markWireS_rep (F : Nat → Prop) (a : Option Addr) (n c : Nat) (xs : List TWire) (m : Int) (w : World) (hn : n ≤ 1048576) (hs : ∀ (i : Nat) (x : TWire), xs[i]? = some x → costWire x ≤ 1048576) (ht : msumWire xs n ≤ 4194304) (h0 : 0 ≤ m) (h1 : m ≤ 134217728) (ho : RWires.Own w F [.slice a n c] xs) :
    Calls Try.prog 41 #[.slice a n c, .int .i64 m] w fun e w' => e = .returned (.int .i64 (m + msumWire xs n)) ∧ RWires.Own w' F [.slice a n c] (mkWires m xs) ∧ Off F w w' := by
  obtain ⟨a', n', c', cells, G, he, hl⟩ := ho
  simp only [List.cons.injEq, Value.slice.injEq, and_true] at he
  obtain ⟨rfl, rfl, rfl⟩ := he
  go_enter Try.func41, Try.ntmps41
  go_wp2
  go_loopw [1, 5] (fun q i wr => ∃ (k : Nat) (cells : List Value), k ≤ n ∧ i = .int .i64 k ∧ q = .int .i64 (m + msumWire xs k) ∧ Laid RWire wr F 76 a n c (mkTo mkWire mknWire m xs k) cells G n ∧ Off F w wr) (fun _ i _ => n - (intOf i).toNat)
  case atStart => exact ⟨0, cells, Nat.zero_le _, rfl, by simp [msumWire_zero], by rw [mkTo_zero]; exact hl, Off.refl _ _⟩
  case round =>
    have hzl := hl.len
    clear hl cells
    obtain ⟨k, cells, hk, rfl, rfl, hl, hof⟩ := hrel
    by_cases hlt : k < n
    · obtain ⟨⟨x0, x1, bo2⟩, hx⟩ : ∃ x, xs[k]? = some x := ⟨_, List.getElem?_eq_getElem (by omega)⟩
      have hrow := hl.row k _ hlt (mkTo_next _ _ hx)
      obtain ⟨a0, n0, c0, a1, n1, c1, F0, F1, hcs, r0, r1, f0, f1, d01⟩ := RWire.own_open hrow
      rcases hl.outer.2 with ⟨_, h00⟩ | ⟨g, cap, cur, hv, _⟩
      · omega
      simp only [Value.slice.injEq, true_and] at hv
      obtain ⟨rfl, rfl⟩ := hv
      have hcl : cells.length = n * 3 := hl.outer.1
      have hcm : k * 3 + 3 ≤ cells.length := by omega
      have hcs2 : sub cells (k * 3) 3 = [.slice a0 n0 c0, .slice a1 n1 c1, .bool bo2] := hcs
      have hsf : sets cells (k * 3) [.slice a0 n0 c0, .slice a1 n1 c1, .bool bo2] = cells := by rw [← hcs2]; exact sets_self _ _ _ hcm
      have ow : wr.ownsRow 0 76 3 (.slice (some ⟨g, 0, none⟩) n c) n (sets cells (k * 3) [.slice a0 n0 c0, .slice a1 n1 c1, .bool bo2]) := by rw [hsf]; exact hl.outer
      have e0 : x0.length = n0 := (RInts.own_iff.1 r0).1
      have e1 : x1.length = n1 := (RInts.own_iff.1 r1).1
      have hsm := smallWire e0 e1 (hs k _ hx)
      have hts := msumWire_succ hx
      have htm := msumWire_mono xs (k + 1) n (by omega)
      have hps : mknWire (x0, x1, bo2) = n0 + n1 + 1 := by unfold mknWire; simp only; rw [e0, e1]
      have hgG : ¬ G k g := fun h => (hl.rowF k g hlt h).2 rfl
      have HL := Hid.mk hl
      have HO := Hid.mk hof
      have HX := Hid.mk hx
      obtain ⟨T, hT⟩ : ∃ T, msumWire xs k = T := ⟨_, rfl⟩
      have HT := Hid.mk hT
      rw [hps] at hts
      rw [hT] at hts ⊢
      have hn0 : n0 ≤ 1048576 := hsm.1
      have hn1 : n1 ≤ 1048576 := hsm.2
      have HTS := Hid.mk hts
      have hki : (k : Int) < (n : Int) := by omega
      obtain ⟨M, hM⟩ : ∃ M : Int, M = m + T := ⟨_, rfl⟩
      have hM0 : 0 ≤ M := by omega
      have hM1 : M ≤ 140000000 := by omega
      have HM := Hid.mk hM
      rw [← hM]
      have HGG := Hid.mk hgG
      have HOW := Hid.mk ow
      have HCM := Hid.mk hcm
      have HU : Hid (Off (fun b => b = g ∨ G k b) wr wr) := Hid.mk (Off.refl _ _)
      have R0 := Hid.mk r0
      have HF0 := Hid.mk f0
      have HE0 := Hid.mk e0
      clear r0 f0 e0
      have R1 := Hid.mk r1
      have HF1 := Hid.mk f1
      have HE1 := Hid.mk e1
      clear r1 f1 e1
      have HD01 := Hid.mk d01
      clear d01
      clear hl hrow hof hx hT hts hps hcs hcs2 hM hgG htm hcl hcm hsf ow ht hs hsm
      have q : wr.cell? ⟨g, k * 3, none⟩ = some (.slice a0 n0 c0) := owns_sets_cell HOW.out (j := 0) rfl HCM.out
      go_wp2_with fail
      refine (markInts_rep F0 a0 n0 c0 x0 (M) wr hn0 (by omega) (by omega) R0.out).mono ?_
      rintro e w0 ⟨rfl, o0, g0⟩
      have HOW' : Hid (w0.ownsRow 0 76 3 (.slice (some ⟨g, 0, none⟩) n c) n (sets cells (k * 3) [.slice a0 n0 c0, .slice a1 n1 c1, .bool bo2])) := Hid.mk (ownsRow_frame HOW.out (fun b hb hlb => g0.block b hlb (fun hF => (HL.out.rowF k b hlt (HF0.out b hF)).2 hb)))
      have R1_0 := Hid.mk (RInts.ownOff R1.out g0 (fun b hb h => HD01.out b h hb))
      clear R1
      have R0_0 := Hid.mk o0
      have HU' := Hid.mk (HU.out.trans (g0.mono (fun b hb => .inr (HF0.out b hb))))
      clear R0 o0 g0 q HOW HU
      have HOW := HOW'
      have HU := HU'
      clear HOW' HU'
      have q : w0.cell? ⟨g, k * 3 + 1, none⟩ = some (.slice a1 n1 c1) := owns_sets_cell HOW.out (j := 1) rfl HCM.out
      go_wp2_with fail
      refine (markInts_rep F1 a1 n1 c1 x1 (M + (n0 : Int)) w0 hn1 (by omega) (by omega) R1_0.out).mono ?_
      rintro e w1 ⟨rfl, o1, g1⟩
      have HOW' : Hid (w1.ownsRow 0 76 3 (.slice (some ⟨g, 0, none⟩) n c) n (sets cells (k * 3) [.slice a0 n0 c0, .slice a1 n1 c1, .bool bo2])) := Hid.mk (ownsRow_frame HOW.out (fun b hb hlb => g1.block b hlb (fun hF => (HL.out.rowF k b hlt (HF1.out b hF)).2 hb)))
      have R0_1 := Hid.mk (RInts.ownOff R0_0.out g1 (fun b hb h => HD01.out b hb h))
      clear R0_0
      have R1_1 := Hid.mk o1
      have HU' := Hid.mk (HU.out.trans (g1.mono (fun b hb => .inr (HF1.out b hb))))
      clear R1_0 o1 g1 q HOW HU
      have HOW := HOW'
      have HU := HU'
      clear HOW' HU'
      have q : w1.cell? ⟨g, k * 3 + 2, none⟩ = some (.bool bo2) := owns_sets_cell HOW.out (j := 2) rfl HCM.out
      have f : w1.frozen? ⟨g, k * 3 + 2, none⟩ = false := HOW.out.frozenAt _
      obtain ⟨X2, hX⟩ : ∃ u, u = w1.setCell ⟨g, k * 3 + 2, none⟩ (.bool ((M + (n0 : Int) + (n1 : Int)) % 3 == 0)) := ⟨_, rfl⟩
      have HOW' : Hid (X2.ownsRow 0 76 3 (.slice (some ⟨g, 0, none⟩) n c) n (sets cells (k * 3) [.slice a0 n0 c0, .slice a1 n1 c1, .bool ((M + (n0 : Int) + (n1 : Int)) % 3 == 0)])) := Hid.mk (by rw [hX]; exact owns_sets_store HOW.out 2 _ (by simp) HCM.out)
      have S : Hid (Off (fun b => b = g) w1 X2) := Hid.mk (by rw [hX]; exact Off.set (F := fun b => b = g) (a := ⟨g, k * 3 + 2, none⟩) rfl _)
      have R0_2 := Hid.mk (RInts.ownOff R0_1.out S.out (fun b hb e => HGG.out (by rw [← e]; exact HF0.out b hb)))
      clear R0_1
      have R1_2 := Hid.mk (RInts.ownOff R1_1.out S.out (fun b hb e => HGG.out (by rw [← e]; exact HF1.out b hb)))
      clear R1_1
      have HU' := Hid.mk (HU.out.trans (S.out.mono (fun b e => .inl e)))
      clear HOW HU S
      have HOW := HOW'
      have HU := HU'
      clear HOW' HU'
      go_upto_region 7 with fail
      rw [← hX]
      clear hX q f
      have HLN : Hid (Laid RWire X2 F 76 (some ⟨g, 0, none⟩) n c (mkTo mkWire mknWire m xs (k + 1)) (sets cells (k * 3) [.slice a0 n0 c0, .slice a1 n1 c1, .bool ((M + (n0 : Int) + (n1 : Int)) % 3 == 0)]) G n) := Hid.mk (by
        have hsu : sub (sets cells (k * 3) [.slice a0 n0 c0, .slice a1 n1 c1, .bool ((M + (n0 : Int) + (n1 : Int)) % 3 == 0)]) (k * 3) 3 = [.slice a0 n0 c0, .slice a1 n1 c1, .bool ((M + (n0 : Int) + (n1 : Int)) % 3 == 0)] := sub_sets cells (k * 3) [.slice a0 n0 c0, .slice a1 n1 c1, .bool ((M + (n0 : Int) + (n1 : Int)) % 3 == 0)] HCM.out
        have hturn := HL.out.turn (w' := X2) (cells' := sets cells (k * 3) [.slice a0 n0 c0, .slice a1 n1 c1, .bool ((M + (n0 : Int) + (n1 : Int)) % 3 == 0)]) (x' := mkWire M (x0, x1, bo2)) hlt (fun b hb hn1 hn2 => HU.out.block b hb (fun e => e.elim (fun e => hn2 (by rw [e]; rfl)) hn1)) HOW.out (fun j hj => sub_sets_far _ _ _ _ _ (mul_far (k := 3) hj))
          (by
            show RWire.Own X2 (G k) (sub (sets cells (k * 3) [.slice a0 n0 c0, .slice a1 n1 c1, .bool ((M + (n0 : Int) + (n1 : Int)) % 3 == 0)]) (k * 3) 3) (mkWire M (x0, x1, bo2))
            rw [hsu]
            unfold mkWire
            simp only [HE0.out, HE1.out]
            exact RWire.own_mk R0_2.out R1_2.out HF0.out HF1.out HD01.out)
        have h9 := mkTo_set mkWire mknWire (m := m) HX.out
        have h8 : szL mknWire xs k = T := HT.out
        rw [h8, ← HM.out] at h9
        rw [← h9]
        exact hturn)
      have HON : Hid (Off F w X2) := Hid.mk (HO.out.trans (HU.out.mono (fun b hb => hb.elim (fun e => by rw [e]; exact HL.out.outerF g rfl) (fun hb => (HL.out.rowF k b hlt hb).1))))
      clear HOW HU R0_2 R1_2
      go_wp2
      go_roundw
      case rel => exact ⟨k + 1, _, by omega, by go_num, by rw [HTS.out, HM.out]; congr 1; push_cast; omega, HLN.out, HON.out⟩
      case measure => simp [intOf]; omega
    · obtain rfl : k = n := by omega
      have HL := Hid.mk hl
      clear hl
      go_wp2
      go_ret
      refine ⟨rfl, ⟨_, _, _, cells, G, rfl, ?_⟩, hof⟩
      have h9 := HL.out
      rw [mkTo_all _ _ _ _ hzl] at h9
      exact h9


end Go.Proofs.Ytnfdncofobkjhaa

/- Contracts of the laws' mark of Snap over things that are owned. -/
namespace Go.Proofs.Ytnfdncofobkjhaa
open Go.RowKit

set_option maxRecDepth 100000 in
set_option maxHeartbeats 8000000 in
theorem markSnap_rep (F : Nat → Prop) (a0 : Option Addr) (n0 : Nat) (c0 : Nat) (a1 : Option Addr) (n1 : Nat) (c1 : Nat)  (x0 : List TProc) (x1 : List TWire) (M : Int) (w : World) (hz0 : x0.length = n0) (hs0 : n0 ≤ 1048576) (hz1 : x1.length = n1) (hs1 : n1 ≤ 1048576) (hd1 : ∀ (i : Nat) (x : TWire), x1[i]? = some x → costWire x ≤ 1048576) (hc1 : csumWire x1 n1 ≤ 1048576) (hM0 : 0 ≤ M) (hM1 : M ≤ 16777216) (hF : ∀ b, F b → b < w.heap.size) (ho : RSnap.Own w F [.slice a0 n0 c0, .slice a1 n1 c1] (x0, x1)) :
    Calls Try.prog 12 #[.agg #[.slice a0 n0 c0, .slice a1 n1 c1], .int .i64 M] w fun e w' => e = .returned (.int .i64 (M + (mknSnap (x0, x1) : Nat))) ∧ RSnap.Own w' F [.slice a0 n0 c0, .slice a1 n1 c1] (mkSnap M (x0, x1)) ∧ Off F w w' := by
  obtain ⟨F0, F1, r0, r1, f0, f1, d01⟩ := RSnap.own_iff ho
  clear ho
  have hv : mknSnap (x0, x1) = msumProc x0 n0 + msumWire x1 n1 := by unfold mknSnap; simp only; rw [hz0, hz1]
  rw [hv]
  have HMK : Hid (mkSnap M (x0, x1) = (mkProcs (M) x0, mkWires (M + (msumProc x0 n0 : Int)) x1)) := Hid.mk (by unfold mkSnap; simp only [hz0])
  obtain ⟨V0, hV0⟩ : ∃ V : Nat, msumProc x0 n0 = V := ⟨_, rfl⟩
  have hV0' : V0 ≤ 4194304 := by rw [← hV0, msumProc_eq x0 n0 (by omega)]; omega
  obtain ⟨V1, hV1⟩ : ∃ V : Nat, msumWire x1 n1 = V := ⟨_, rfl⟩
  have hV1' : V1 ≤ 4194304 := by have q := hc1; rw [← hV1, msumWire_eq x1 n1 (by omega)]; omega
  obtain ⟨W, hW⟩ : ∃ W, W = w.alloc (.cells #[.slice a0 n0 c0, .slice a1 n1 c1] 32) := ⟨_, rfl⟩
  have B0 : Below w.heap.size w W := by rw [hW]; exact (Below.refl _ _).alloc (Nat.le_refl _) _
  have p1 : W.cell? ⟨w.heap.size, 1, none⟩ = some (.slice a1 n1 c1) := by rw [hW]; simp
  have R0 := Hid.mk (RProcs.ownBelow r0 B0)
  have HG0 : Hid (¬ F0 w.heap.size) := Hid.mk (fun h => by have := hF _ (f0 _ h); omega)
  have HF0 := Hid.mk f0
  have HZ0 := Hid.mk hz0
  have R1 := Hid.mk (RWires.ownBelow r1 B0)
  have HG1 : Hid (¬ F1 w.heap.size) := Hid.mk (fun h => by have := hF _ (f1 _ h); omega)
  have HF1 := Hid.mk f1
  have HZ1 := Hid.mk hz1
  have HDD1 := Hid.mk hd1
  clear hd1
  have HD01 := Hid.mk d01
  clear d01
  have HO : Hid (Off F w W) := Hid.mk (Off.below B0)
  clear r0 f0 hz0 r1 f1 hz1 hv B0 hF hc1
  have HV0 := Hid.mk hV0
  clear hV0
  have HV1 := Hid.mk hV1
  clear hV1
  go_enter Try.func12, Try.ntmps12
  go_wp2_with fail
  rw [← hW]
  clear hW
  refine (markProcS_rep F0 a0 n0 c0 x0 (M) W hs0 (by rw [HV0.out]; exact hV0') (by omega) (by omega) R0.out).mono ?_
  rintro e w0 ⟨rfl, o0, g0⟩
  rw [HV0.out]
  have p1 := g0.cell p1 HG0.out
  have R1_0 := Hid.mk (RWires.ownOff R1.out g0 (fun b hb h => HD01.out b h hb))
  clear R1
  have R0_0 := Hid.mk o0
  have HO' := Hid.mk (HO.out.trans (g0.mono HF0.out))
  clear R0 o0 g0 HO
  have HO := HO'
  clear HO'
  go_wp2_with fail
  refine (markWireS_rep F1 a1 n1 c1 x1 (M + (V0 : Int)) w0 hs1 HDD1.out (by rw [HV1.out]; exact hV1') (by omega) (by omega) R1_0.out).mono ?_
  rintro e w1 ⟨rfl, o1, g1⟩
  rw [HV1.out]
  have R0_1 := Hid.mk (RProcs.ownOff R0_0.out g1 (fun b hb h => HD01.out b hb h))
  clear R0_0
  have R1_1 := Hid.mk o1
  have HO' := Hid.mk (HO.out.trans (g1.mono HF1.out))
  clear R1_0 o1 g1 HO
  have HO := HO'
  clear HO'
  have HR : Hid (RSnap.Own w1 F [.slice a0 n0 c0, .slice a1 n1 c1] (mkSnap M (x0, x1))) := Hid.mk (by
    rw [HMK.out, HV0.out]
    exact RSnap.own_mk R0_1.out R1_1.out HF0.out HF1.out HD01.out)
  clear R0_1 R1_1 HMK
  go_wp2
  go_ret
  exact ⟨ret_int (by rw [HV0.out]; rw [HV1.out]; push_cast; omega), HR.out, HO.out⟩


end Go.Proofs.Ytnfdncofobkjhaa

/- Contracts of the laws' held of Proc. -/
namespace Go.Proofs.Ytnfdncofobkjhaa
open Go.RowKit

set_option maxRecDepth 100000 in
set_option maxHeartbeats 8000000 in
theorem heldProcS_rep (a : Option Addr) (n c : Nat) (xs : List TProc) (m : Int) (w : World) (hz : xs.length = n) (hn : n ≤ 1048576) (ht : msumProc xs n ≤ 4194304) (h0 : 0 ≤ m) (h1 : m ≤ 134217728) (ha : AtSl RProc w a (mkProcs m xs)) :
    Calls Try.prog 42 #[.slice a n c, .int .i64 m] w fun e w' => e = .returned (.int .i64 (m + msumProc xs n)) ∧ Below w.heap.size w w' := by
  have hl : (mkProcs m xs).length = n := by rw [mkProcs_len, hz]
  by_cases hn0 : n = 0
  · subst hn0
    go_enter Try.func42, Try.ntmps42
    go_wp2
    refine wp_loop_rounds 1 ?_
    rw [rounds_succ]
    go_wp2
    go_ret
    exact ⟨by rw [msumProc_zero]; simp, Below.refl _ _⟩
  have HA := Hid.mk ha
  have HL := Hid.mk hl
  clear ha hl
  go_enter Try.func42, Try.ntmps42
  go_wp2
  go_loopw [1, 5] (fun q i wr => ∃ k : Nat, k ≤ n ∧ i = .int .i64 k ∧ q = .int .i64 (m + msumProc xs k) ∧ Below w.heap.size w wr) (fun _ i _ => n - (intOf i).toNat)
  case atStart => exact ⟨0, Nat.zero_le _, rfl, by simp [msumProc_zero], Below.refl _ _⟩
  case round =>
    obtain ⟨k, hk, rfl, rfl, hbw⟩ := hrel
    by_cases hlt : k < n
    · obtain ⟨b, off, rfl, _, hc⟩ := RProc.row (AtSl.below HA.out hbw) (by have := HL.out; omega)
      obtain ⟨⟨zi0, zi1, bo2⟩, hx⟩ : ∃ x, xs[k]? = some x := ⟨_, List.getElem?_eq_getElem (by omega)⟩
      have hmk := mkL_at mkProc mknProc m xs k _ hx
      have hts := msumProc_succ hx
      have htm := msumProc_mono xs (k + 1) n (by omega)
      have hT' : szL mknProc xs k = msumProc xs k := rfl
      rw [hT'] at hmk
      obtain ⟨T, hT⟩ : ∃ T, msumProc xs k = T := ⟨_, rfl⟩
      rw [hT] at hts hmk ⊢
      obtain ⟨M, hM⟩ : ∃ M : Int, M = m + T := ⟨_, rfl⟩
      rw [← hM] at hmk ⊢
      obtain ⟨gg0, gg1, gg2, _⟩ := hc k _ hmk
      have hps : mknProc (zi0, zi1, bo2) = 1 + 1 + 1 := rfl
      rw [hps] at hts
      have hM0 : 0 ≤ M := by omega
      have hM1 : M ≤ 140000000 := by omega
      have g0 : wr.cell? ⟨b, off + k * 3, none⟩ = some (.int .i64 (M)) := gg0
      have g1 : wr.cell? ⟨b, off + k * 3 + 1, none⟩ = some (.int .i64 (M + 1)) := gg1
      have g2 : wr.cell? ⟨b, off + k * 3 + 2, none⟩ = some (.bool ((M + 1 + 1) % 3 == 0)) := gg2
      have HTS := Hid.mk hts
      have HM := Hid.mk hM
      have hki : (k : Int) < (n : Int) := by omega
      clear hmk hc hx hts hT hT' hM hps htm ht gg0 gg1 gg2
      go_wp2
      go_roundw
      case rel => exact ⟨k + 1, by omega, by go_num, by rw [HTS.out, HM.out]; congr 1; push_cast; omega, hbw⟩
      case measure => simp [intOf]; omega
    · obtain rfl : k = n := by omega
      go_wp2
      go_ret
      exact ⟨rfl, hbw⟩


end Go.Proofs.Ytnfdncofobkjhaa

/- Contracts of the laws' held of Wire. -/
namespace Go.Proofs.Ytnfdncofobkjhaa
open Go.RowKit

set_option maxRecDepth 100000 in
set_option maxHeartbeats 8000000 in
theorem heldWireS_rep (a : Option Addr) (n c : Nat) (xs : List TWire) (m : Int) (w : World) (hz : xs.length = n) (hn : n ≤ 1048576) (hs : ∀ (i : Nat) (x : TWire), xs[i]? = some x → costWire x ≤ 1048576) (ht : msumWire xs n ≤ 4194304) (h0 : 0 ≤ m) (h1 : m ≤ 134217728) (ha : AtSl RWire w a (mkWires m xs)) :
    Calls Try.prog 43 #[.slice a n c, .int .i64 m] w fun e w' => e = .returned (.int .i64 (m + msumWire xs n)) ∧ Below w.heap.size w w' := by
  have hl : (mkWires m xs).length = n := by rw [mkWires_len, hz]
  by_cases hn0 : n = 0
  · subst hn0
    go_enter Try.func43, Try.ntmps43
    go_wp2
    refine wp_loop_rounds 1 ?_
    rw [rounds_succ]
    go_wp2
    go_ret
    exact ⟨by rw [msumWire_zero]; simp, Below.refl _ _⟩
  have HA := Hid.mk ha
  have HL := Hid.mk hl
  clear ha hl
  go_enter Try.func43, Try.ntmps43
  go_wp2
  go_loopw [1, 5] (fun q i wr => ∃ k : Nat, k ≤ n ∧ i = .int .i64 k ∧ q = .int .i64 (m + msumWire xs k) ∧ Below w.heap.size w wr) (fun _ i _ => n - (intOf i).toNat)
  case atStart => exact ⟨0, Nat.zero_le _, rfl, by simp [msumWire_zero], Below.refl _ _⟩
  case round =>
    obtain ⟨k, hk, rfl, rfl, hbw⟩ := hrel
    by_cases hlt : k < n
    · obtain ⟨b, off, rfl, _, hc⟩ := RWire.row (AtSl.below HA.out hbw) (by have := HL.out; omega)
      obtain ⟨⟨x0, x1, bo2⟩, hx⟩ : ∃ x, xs[k]? = some x := ⟨_, List.getElem?_eq_getElem (by omega)⟩
      have hmk := mkL_at mkWire mknWire m xs k _ hx
      have hsm := hs k _ hx
      have hts := msumWire_succ hx
      have htm := msumWire_mono xs (k + 1) n (by omega)
      have hT' : szL mknWire xs k = msumWire xs k := rfl
      rw [hT'] at hmk
      obtain ⟨T, hT⟩ : ∃ T, msumWire xs k = T := ⟨_, rfl⟩
      rw [hT] at hts hmk ⊢
      obtain ⟨M, hM⟩ : ∃ M : Int, M = m + T := ⟨_, rfl⟩
      rw [← hM] at hmk ⊢
      obtain ⟨a0, n0, c0, a1, n1, c1, gg0, gg1, gg2, ⟨hv0, hu0, hw0, _⟩, ⟨hv1, hu1, hw1, _⟩⟩ := hc k _ hmk
      have e0 : x0.length = n0 := by rw [← hv0]; unfold mkWire; simp only; unfold mkInts; rw [marks_length]
      have e1 : x1.length = n1 := by rw [← hv1]; unfold mkWire; simp only; unfold mkInts; rw [marks_length]
      have hps : mknWire (x0, x1, bo2) = n0 + n1 + 1 := by unfold mknWire; simp only; rw [e0, e1]
      rw [hps] at hts
      have hsm := smallWire e0 e1 hsm
      have hM0 : 0 ≤ M := by omega
      have hM1 : M ≤ 140000000 := by omega
      have g0 : wr.cell? ⟨b, off + k * 3, none⟩ = some (.slice a0 n0 c0) := gg0
      have g1 : wr.cell? ⟨b, off + k * 3 + 1, none⟩ = some (.slice a1 n1 c1) := gg1
      have g2 : wr.cell? ⟨b, off + k * 3 + 2, none⟩ = some (.bool ((M + (n0 : Int) + (n1 : Int)) % 3 == 0)) := by have h9 := gg2; unfold mkWire mkB at h9; simp only [e0, e1] at h9; exact h9
      have A0 : Hid (At wr a0 (mkInts (M) x0)) := Hid.mk (by
        have h9 := hw0
        unfold mkWire at h9
        simp only at h9
        exact h9)
      have E0 := Hid.mk e0
      have hn0 : n0 ≤ 1048576 := hsm.1
      have A1 : Hid (At wr a1 (mkInts (M + (n0 : Int)) x1)) := Hid.mk (by
        have h9 := hw1
        unfold mkWire at h9
        simp only [e0] at h9
        exact h9)
      have E1 := Hid.mk e1
      have hn1 : n1 ≤ 1048576 := hsm.2
      have p0 : ¬ M + (n0 : Int) < 0 := by omega
      have p1 : ¬ M + (n0 : Int) + (n1 : Int) < 0 := by omega
      have HTS := Hid.mk hts
      have HM := Hid.mk hM
      have hki : (k : Int) < (n : Int) := by omega
      clear hmk hc hx hts hT hT' hM hps htm ht gg0 gg1 gg2 hs hsm hv0 hw0 e0 hv1 hw1 e1
      go_wp2_with fail
      refine (heldInts_rep a0 n0 c0 x0 (M) wr E0.out hn0 (by omega) (by omega) A0.out).mono ?_
      rintro e w0 ⟨rfl, hb0⟩
      have B0 := hbw.trans (hb0.mono hbw.size)
      have g1 := cell_later hb0 g1
      have g2 := cell_later hb0 g2
      have A1 := Hid.mk (At.below A1.out hb0)
      clear hb0 A0
      go_wp2_with fail
      refine (heldInts_rep a1 n1 c1 x1 (M + (n0 : Int)) w0 E1.out hn1 (by omega) (by omega) A1.out).mono ?_
      rintro e w1 ⟨rfl, hb1⟩
      have B1 := B0.trans (hb1.mono B0.size)
      have g2 := cell_later hb1 g2
      clear hb1 A1
      go_wp2
      go_roundw
      case rel => exact ⟨k + 1, by omega, by go_num, by rw [HTS.out, HM.out]; congr 1; push_cast; omega, B1⟩
      case measure => simp [intOf]; omega
    · obtain rfl : k = n := by omega
      go_wp2
      go_ret
      exact ⟨rfl, hbw⟩


end Go.Proofs.Ytnfdncofobkjhaa

/- Contracts of the laws' held of Snap. -/
namespace Go.Proofs.Ytnfdncofobkjhaa
open Go.RowKit

set_option maxRecDepth 100000 in
set_option maxHeartbeats 8000000 in
theorem heldSnap_rep (a0 : Option Addr) (n0 : Nat) (c0 : Nat) (a1 : Option Addr) (n1 : Nat) (c1 : Nat)  (x0 : List TProc) (x1 : List TWire) (m : Int) (w : World) (hz0 : x0.length = n0) (hs0 : n0 ≤ 1048576) (hz1 : x1.length = n1) (hs1 : n1 ≤ 1048576) (hd1 : ∀ (i : Nat) (x : TWire), x1[i]? = some x → costWire x ≤ 1048576) (hc1 : csumWire x1 n1 ≤ 1048576) (h0 : 0 ≤ m) (h1 : m ≤ 16777216) (ho : RSnap.At w [.slice a0 n0 c0, .slice a1 n1 c1] (mkSnap m (x0, x1))) :
    Calls Try.prog 13 #[.agg #[.slice a0 n0 c0, .slice a1 n1 c1], .int .i64 m] w fun e w' => e = .returned (.int .i64 (m + (mknSnap (x0, x1) : Nat))) ∧ Below w.heap.size w w' := by
  obtain ⟨V0, hV0⟩ : ∃ V : Nat, msumProc x0 n0 = V := ⟨_, rfl⟩
  have hV0' : V0 ≤ 4194304 := by rw [← hV0, msumProc_eq x0 n0 (by omega)]; omega
  obtain ⟨V1, hV1⟩ : ∃ V : Nat, msumWire x1 n1 = V := ⟨_, rfl⟩
  have hV1' : V1 ≤ 4194304 := by have q := hc1; rw [← hV1, msumWire_eq x1 n1 (by omega)]; omega
  have hv : mknSnap (x0, x1) = V0 + V1 := by unfold mknSnap; simp only; rw [hz0, hz1, hV0, hV1]
  rw [hv]
  have hf := RSnap.at_iff ho
  clear ho
  have A0 : Hid (AtSl RProc w a0 (mkProcs (m) x0)) := Hid.mk (by
    have h9 := hf.1.2.2.1
    exact h9)
  have A1 : Hid (AtSl RWire w a1 (mkWires (m + (V0 : Int)) x1)) := Hid.mk (by
    have h9 := hf.2.2.2.1
    simp only [hz0, hV0] at h9
    exact h9)
  clear hf hv
  obtain ⟨W, hW⟩ : ∃ W, W = w.alloc (.cells #[.slice a0 n0 c0, .slice a1 n1 c1] 32) := ⟨_, rfl⟩
  have B0 : Below w.heap.size w W := by rw [hW]; exact (Below.refl _ _).alloc (Nat.le_refl _) _
  have p1 : W.cell? ⟨w.heap.size, 1, none⟩ = some (.slice a1 n1 c1) := by rw [hW]; simp
  have HZ0 := Hid.mk hz0
  clear hz0
  have HV0 := Hid.mk hV0
  clear hV0
  have HZ1 := Hid.mk hz1
  clear hz1
  have HD1 := Hid.mk hd1
  clear hd1
  have HV1 := Hid.mk hV1
  clear hV1
  go_enter Try.func13, Try.ntmps13
  have y0 : ¬ m + (V0 : Int) < 0 := by omega
  go_wp2_with fail
  rw [← hW]
  clear hW
  refine (heldProcS_rep a0 n0 c0 x0 (m) W HZ0.out hs0 (by rw [HV0.out]; exact hV0') (by omega) (by omega) (AtSl.below A0.out B0)).mono ?_
  rintro e w0 ⟨rfl, hb0⟩
  rw [HV0.out]
  have B1 := B0.trans (hb0.mono B0.size)
  have p1 := cell_later hb0 p1
  have y1 : ¬ m + (V0 : Int) + (V1 : Int) < 0 := by omega
  go_wp2_with fail
  refine (heldWireS_rep a1 n1 c1 x1 (m + (V0 : Int)) w0 HZ1.out hs1 HD1.out (by rw [HV1.out]; exact hV1') (by omega) (by omega) (AtSl.below A1.out B1)).mono ?_
  rintro e w1 ⟨rfl, hb1⟩
  rw [HV1.out]
  have B2 := B1.trans (hb1.mono B1.size)
  go_wp2
  go_ret
  exact ⟨ret_int (by push_cast; omega), B2⟩

end Go.Proofs.Ytnfdncofobkjhaa

/- szIntS in one form. -/
namespace Go.Proofs.Ytnfdncofobkjhaa
open Go.RowKit

theorem szInts_u (a : Option Addr) (n c : Nat) (l : Int) (w : World) (hn : n ≤ 9223372036854775807) (h0 : 0 ≤ l) (h1 : l ≤ 1048576) :
    Calls Try.prog 82 #[.slice a n c, .int .i64 l] w fun e w' => e = .returned (.int .i64 (leftOf l n)) ∧ Below w.heap.size w w' :=
  (szIntS_any a n c l w hn h0 h1).mono fun _ _ ⟨h1, h2⟩ => ⟨h1, by rw [h2]; exact Below.refl _ _⟩

end Go.Proofs.Ytnfdncofobkjhaa

/- Contracts of the laws' sz of Proc. -/
namespace Go.Proofs.Ytnfdncofobkjhaa
open Go.RowKit

theorem szProcS_any (a : Option Addr) (n c : Nat) (xs : List TProc) (l : Int) (w : World) (_hz : xs.length = n) (hn : n ≤ 9223372036854775807) (h0 : 0 ≤ l) (h1 : l ≤ 1048576) (_ha : AtSl RProc w a xs) :
    Calls Try.prog 28 #[.slice a n c, .int .i64 l] w fun e w' => e = .returned (.int .i64 (leftOf l n)) ∧ Below w.heap.size w w' := by
  by_cases h : l < n
  · have h' : l - (n : Int) < 0 := by omega
    go_enter Try.func28, Try.ntmps28
    go_wp2
    go_ret
    exact ⟨ret_int (leftOf_no (by omega)).symm, Below.refl _ _⟩
  · have h' : ¬ l - (n : Int) < 0 := by omega
    go_enter Try.func28, Try.ntmps28
    go_wp2
    go_ret
    exact ⟨ret_int (by rw [leftOf_yes (by omega)]), Below.refl _ _⟩

end Go.Proofs.Ytnfdncofobkjhaa
