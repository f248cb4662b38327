/- Several texts of one proof, in build order: SteM, PrT, WiT, SnpT. -/
import Derived.Test.YtnfdncofobkjhaaM28
import Derived.Test.YtnfdncofobkjhaaM3
import Derived.Test.YtnfdncofobkjhaaM4
import Derived.Deep.CutBlock

/- Contracts of the laws' mark of SnapStep over things that are owned. -/
namespace Go.Proofs.Ytnfdncofobkjhaa
open Go.RowKit

set_option maxRecDepth 100000 in
set_option maxHeartbeats 8000000 in
theorem markSnapStepS_rep (F : Nat → Prop) (a : Option Addr) (n c : Nat) (xs : List TSnapStep) (m : Int) (w : World) (hn : n ≤ 1048576) (ht : msumSnapStep xs n ≤ 4194304) (h0 : 0 ≤ m) (h1 : m ≤ 134217728) (ho : RSnapSteps.Own w F [.slice a n c] xs) :
    Calls Try.prog 23 #[.slice a n c, .int .i64 m] w fun e w' => e = .returned (.int .i64 (m + msumSnapStep xs n)) ∧ RSnapSteps.Own w' F [.slice a n c] (mkSnapSteps m xs) ∧ Off F w w' := by
  obtain ⟨a', n', c', cells, G, he, hl⟩ := ho
  simp only [List.cons.injEq, Value.slice.injEq, and_true] at he
  obtain ⟨rfl, rfl, rfl⟩ := he
  go_enter Try.func23, Try.ntmps23
  go_wp2
  go_loopw [1, 5] (fun q i wr => ∃ (k : Nat) (cells : List Value), k ≤ n ∧ i = .int .i64 k ∧ q = .int .i64 (m + msumSnapStep xs k) ∧ Laid RSnapStep wr F 36 a n c (mkTo mkSnapStep mknSnapStep m xs k) cells G n ∧ Off F w wr) (fun _ i _ => n - (intOf i).toNat)
  case atStart => exact ⟨0, cells, Nat.zero_le _, rfl, by simp [msumSnapStep_zero], by rw [mkTo_zero]; exact hl, Off.refl _ _⟩
  case round =>
    have hzl := hl.len
    clear hl cells
    obtain ⟨k, cells, hk, rfl, rfl, hl, hof⟩ := hrel
    by_cases hlt : k < n
    · obtain ⟨⟨zi0, zi1, zi2, zi3⟩, hx⟩ : ∃ x, xs[k]? = some x := ⟨_, List.getElem?_eq_getElem (by omega)⟩
      have hrow := hl.row k _ hlt (mkTo_next _ _ hx)
      have hcs := RSnapStep.own_open hrow
      rcases hl.outer.2 with ⟨_, h00⟩ | ⟨g, cap, cur, hv, _⟩
      · omega
      simp only [Value.slice.injEq, true_and] at hv
      obtain ⟨rfl, rfl⟩ := hv
      have hcl : cells.length = n * 4 := hl.outer.1
      have hcm : k * 4 + 4 ≤ cells.length := by omega
      have hcs2 : sub cells (k * 4) 4 = [.int .i64 zi0, .int .i64 zi1, .int .i64 zi2, .int .i64 zi3] := hcs
      have hsf : sets cells (k * 4) [.int .i64 zi0, .int .i64 zi1, .int .i64 zi2, .int .i64 zi3] = cells := by rw [← hcs2]; exact sets_self _ _ _ hcm
      have ow : wr.ownsRow 0 36 4 (.slice (some ⟨g, 0, none⟩) n c) n (sets cells (k * 4) [.int .i64 zi0, .int .i64 zi1, .int .i64 zi2, .int .i64 zi3]) := by rw [hsf]; exact hl.outer
      have hts := msumSnapStep_succ hx
      have htm := msumSnapStep_mono xs (k + 1) n (by omega)
      have hps : mknSnapStep (zi0, zi1, zi2, zi3) = 1 + 1 + 1 + 1 := rfl
      have hgG : ¬ G k g := fun h => (hl.rowF k g hlt h).2 rfl
      have HL := Hid.mk hl
      have HO := Hid.mk hof
      have HX := Hid.mk hx
      obtain ⟨T, hT⟩ : ∃ T, msumSnapStep xs k = T := ⟨_, rfl⟩
      have HT := Hid.mk hT
      rw [hps] at hts
      rw [hT] at hts ⊢
      have HTS := Hid.mk hts
      have hki : (k : Int) < (n : Int) := by omega
      obtain ⟨M, hM⟩ : ∃ M : Int, M = m + T := ⟨_, rfl⟩
      have hM0 : 0 ≤ M := by omega
      have hM1 : M ≤ 140000000 := by omega
      have HM := Hid.mk hM
      rw [← hM]
      have HGG := Hid.mk hgG
      have HOW := Hid.mk ow
      have HCM := Hid.mk hcm
      have HU : Hid (Off (fun b => b = g ∨ G k b) wr wr) := Hid.mk (Off.refl _ _)
      clear hl hrow hof hx hT hts hps hcs hcs2 hM hgG htm hcl hcm hsf ow ht
      have q : wr.cell? ⟨g, k * 4, none⟩ = some (.int .i64 zi0) := owns_sets_cell HOW.out (j := 0) rfl HCM.out
      have f : wr.frozen? ⟨g, k * 4, none⟩ = false := HOW.out.frozenAt _
      obtain ⟨X0, hX⟩ : ∃ u, u = wr.setCell ⟨g, k * 4, none⟩ (.int .i64 (M)) := ⟨_, rfl⟩
      have HOW' : Hid (X0.ownsRow 0 36 4 (.slice (some ⟨g, 0, none⟩) n c) n (sets cells (k * 4) [.int .i64 (M), .int .i64 zi1, .int .i64 zi2, .int .i64 zi3])) := Hid.mk (by rw [hX]; exact owns_sets_store HOW.out 0 _ (by simp) HCM.out)
      have S : Hid (Off (fun b => b = g) wr X0) := Hid.mk (by rw [hX]; exact Off.set (F := fun b => b = g) (a := ⟨g, k * 4, none⟩) rfl _)
      have HU' := Hid.mk (HU.out.trans (S.out.mono (fun b e => .inl e)))
      clear HOW HU S
      have HOW := HOW'
      have HU := HU'
      clear HOW' HU'
      go_upto_region 5 with fail
      rw [← hX]
      clear hX q f
      have q : X0.cell? ⟨g, k * 4 + 1, none⟩ = some (.int .i64 zi1) := owns_sets_cell HOW.out (j := 1) rfl HCM.out
      have f : X0.frozen? ⟨g, k * 4 + 1, none⟩ = false := HOW.out.frozenAt _
      obtain ⟨X1, hX⟩ : ∃ u, u = X0.setCell ⟨g, k * 4 + 1, none⟩ (.int .i64 (M + 1)) := ⟨_, rfl⟩
      have HOW' : Hid (X1.ownsRow 0 36 4 (.slice (some ⟨g, 0, none⟩) n c) n (sets cells (k * 4) [.int .i64 (M), .int .i64 (M + 1), .int .i64 zi2, .int .i64 zi3])) := Hid.mk (by rw [hX]; exact owns_sets_store HOW.out 1 _ (by simp) HCM.out)
      have S : Hid (Off (fun b => b = g) X0 X1) := Hid.mk (by rw [hX]; exact Off.set (F := fun b => b = g) (a := ⟨g, k * 4 + 1, none⟩) rfl _)
      have HU' := Hid.mk (HU.out.trans (S.out.mono (fun b e => .inl e)))
      clear HOW HU S
      have HOW := HOW'
      have HU := HU'
      clear HOW' HU'
      go_upto_region 7 with fail
      rw [← hX]
      clear hX q f
      have q : X1.cell? ⟨g, k * 4 + 2, none⟩ = some (.int .i64 zi2) := owns_sets_cell HOW.out (j := 2) rfl HCM.out
      have f : X1.frozen? ⟨g, k * 4 + 2, none⟩ = false := HOW.out.frozenAt _
      obtain ⟨X2, hX⟩ : ∃ u, u = X1.setCell ⟨g, k * 4 + 2, none⟩ (.int .i64 (M + 1 + 1)) := ⟨_, rfl⟩
      have HOW' : Hid (X2.ownsRow 0 36 4 (.slice (some ⟨g, 0, none⟩) n c) n (sets cells (k * 4) [.int .i64 (M), .int .i64 (M + 1), .int .i64 (M + 1 + 1), .int .i64 zi3])) := Hid.mk (by rw [hX]; exact owns_sets_store HOW.out 2 _ (by simp) HCM.out)
      have S : Hid (Off (fun b => b = g) X1 X2) := Hid.mk (by rw [hX]; exact Off.set (F := fun b => b = g) (a := ⟨g, k * 4 + 2, none⟩) rfl _)
      have HU' := Hid.mk (HU.out.trans (S.out.mono (fun b e => .inl e)))
      clear HOW HU S
      have HOW := HOW'
      have HU := HU'
      clear HOW' HU'
      go_upto_region 9 with fail
      rw [← hX]
      clear hX q f
      have q : X2.cell? ⟨g, k * 4 + 3, none⟩ = some (.int .i64 zi3) := owns_sets_cell HOW.out (j := 3) rfl HCM.out
      have f : X2.frozen? ⟨g, k * 4 + 3, none⟩ = false := HOW.out.frozenAt _
      obtain ⟨X3, hX⟩ : ∃ u, u = X2.setCell ⟨g, k * 4 + 3, none⟩ (.int .i64 (M + 1 + 1 + 1)) := ⟨_, rfl⟩
      have HOW' : Hid (X3.ownsRow 0 36 4 (.slice (some ⟨g, 0, none⟩) n c) n (sets cells (k * 4) [.int .i64 (M), .int .i64 (M + 1), .int .i64 (M + 1 + 1), .int .i64 (M + 1 + 1 + 1)])) := Hid.mk (by rw [hX]; exact owns_sets_store HOW.out 3 _ (by simp) HCM.out)
      have S : Hid (Off (fun b => b = g) X2 X3) := Hid.mk (by rw [hX]; exact Off.set (F := fun b => b = g) (a := ⟨g, k * 4 + 3, none⟩) rfl _)
      have HU' := Hid.mk (HU.out.trans (S.out.mono (fun b e => .inl e)))
      clear HOW HU S
      have HOW := HOW'
      have HU := HU'
      clear HOW' HU'
      go_upto_region 11 with fail
      rw [← hX]
      clear hX q f
      have HLN : Hid (Laid RSnapStep X3 F 36 (some ⟨g, 0, none⟩) n c (mkTo mkSnapStep mknSnapStep m xs (k + 1)) (sets cells (k * 4) [.int .i64 (M), .int .i64 (M + 1), .int .i64 (M + 1 + 1), .int .i64 (M + 1 + 1 + 1)]) G n) := Hid.mk (by
        have hsu : sub (sets cells (k * 4) [.int .i64 (M), .int .i64 (M + 1), .int .i64 (M + 1 + 1), .int .i64 (M + 1 + 1 + 1)]) (k * 4) 4 = [.int .i64 (M), .int .i64 (M + 1), .int .i64 (M + 1 + 1), .int .i64 (M + 1 + 1 + 1)] := sub_sets cells (k * 4) [.int .i64 (M), .int .i64 (M + 1), .int .i64 (M + 1 + 1), .int .i64 (M + 1 + 1 + 1)] HCM.out
        have hturn := HL.out.turn (w' := X3) (cells' := sets cells (k * 4) [.int .i64 (M), .int .i64 (M + 1), .int .i64 (M + 1 + 1), .int .i64 (M + 1 + 1 + 1)]) (x' := mkSnapStep M (zi0, zi1, zi2, zi3)) hlt (fun b hb hn1 hn2 => HU.out.block b hb (fun e => e.elim (fun e => hn2 (by rw [e]; rfl)) hn1)) HOW.out (fun j hj => sub_sets_far _ _ _ _ _ (mul_far (k := 4) hj))
          (by
            show RSnapStep.Own X3 (G k) (sub (sets cells (k * 4) [.int .i64 (M), .int .i64 (M + 1), .int .i64 (M + 1 + 1), .int .i64 (M + 1 + 1 + 1)]) (k * 4) 4) (mkSnapStep M (zi0, zi1, zi2, zi3))
            rw [hsu]
            unfold mkSnapStep
            (try simp only [mkB])
            exact RSnapStep.own_mk   )
        have h9 := mkTo_set mkSnapStep mknSnapStep (m := m) HX.out
        have h8 : szL mknSnapStep xs k = T := HT.out
        rw [h8, ← HM.out] at h9
        rw [← h9]
        exact hturn)
      have HON : Hid (Off F w X3) := Hid.mk (HO.out.trans (HU.out.mono (fun b hb => hb.elim (fun e => by rw [e]; exact HL.out.outerF g rfl) (fun hb => (HL.out.rowF k b hlt hb).1))))
      clear HOW HU 
      go_wp2
      go_roundw
      case rel => exact ⟨k + 1, _, by omega, by go_num, by rw [HTS.out, HM.out]; congr 1; push_cast; omega, HLN.out, HON.out⟩
      case measure => simp [intOf]; omega
    · obtain rfl : k = n := by omega
      have HL := Hid.mk hl
      clear hl
      go_wp2
      go_ret
      refine ⟨rfl, ⟨_, _, _, cells, G, rfl, ?_⟩, hof⟩
      have h9 := HL.out
      rw [mkTo_all _ _ _ _ hzl] at h9
      exact h9


end Go.Proofs.Ytnfdncofobkjhaa

/- Contracts of the laws' to of Proc. -/
namespace Go.Proofs.Ytnfdncofobkjhaa
open Go.RowKit

set_option maxRecDepth 100000 in
set_option maxHeartbeats 8000000 in
theorem toProc_rep (zi0 : Int) (zi1 : Int) (bo2 : Bool) (w : World) :
    Calls Try.prog 56 #[.agg #[.int .i64 zi0, .int .i64 zi1, .bool bo2]] w fun e w' => e = .returned (.agg #[.int .i64 zi0, .int .i64 zi1, .bool bo2]) ∧ RProc.Own w' (From w.heap.size w'.heap.size) [.int .i64 zi0, .int .i64 zi1, .bool bo2] (zi0, zi1, bo2) ∧ Below w.heap.size w w' := by
  go_enter Try.func56, Try.ntmps56
  go_wp2
  refine bodyPost_ret (v := .agg #[.int .i64 zi0, .int .i64 zi1, .bool bo2]) (by simp [results, Try.results56, go_sem]) rfl ⟨rfl, RProc.own_mk, ?_⟩
  exact (((Below.refl _ _).alloc (Nat.le_refl _) _).alloc (by simp) _).alloc (by simp; omega) _

theorem Try.infoProc : (Try.prog.info? 74).map (fun i => (i.zero, i.size, i.bytes)) = some (some (.agg #[.int .i64 0, .int .i64 0, .bool false]), 3, 24) := by kernel_rfl

set_option maxRecDepth 100000 in
set_option maxHeartbeats 8000000 in
theorem toProcS_rep (a : Option Addr) (n c : Nat) (xs : List TProc) (w : World) (hz : xs.length = n) (hn : n ≤ 1048576) (ha : AtSl RProc w a xs) :
    Calls Try.prog 33 #[.slice a n c] w fun e w' => ∃ g, e = .returned (.slice (some ⟨g, 0, none⟩) n n) ∧ RProcs.Own w' (From w.heap.size w'.heap.size) [.slice (some ⟨g, 0, none⟩) n n] xs ∧ Below w.heap.size w w' := by
  obtain ⟨i0, hi, hz0, hz1, hz2⟩ := info_parts Try.infoProc
  go_enter Try.func33, Try.ntmps33
  go_wp2_with (at_make; refine wpList_make_full _ rfl _ _ 29 rfl w.heap.size 74 i0 (.agg #[.int .i64 0, .int .i64 0, .bool false]) 3 Try.underlying29 hi hz0 hz1 .i64 .i64 _ _ n rfl rfl rfl rfl (by rw [hz2]; omega) (by unfold maxLen; omega) (Nat.le_refl _) ?_; intro w1 hown hg)
  have hb1 : Below w.heap.size w w1 := (Below.refl _ _).grown hg (Nat.le_refl _) (by simp)
  have hlt1 := (hown.lt w.heap.size rfl).2
  obtain ⟨cs, hcs⟩ : ∃ cs, cs = (madeCells (Value.agg #[.int .i64 0, .int .i64 0, .bool false]).cells (n * 3)).toList := ⟨_, rfl⟩
  rw [← hcs] at hown
  have hst : Laid RProc w1 (From w.heap.size w1.heap.size) 74 (some ⟨w.heap.size, 0, none⟩) n n xs cs (fun _ _ => False) 0 := Laid.start hz (by omega) (owns_mono hown (Nat.zero_le _)) (fun b hb => hown.lt b hb) _
  clear hcs hown hg
  go_loopw [4] (fun i wr => ∃ (k : Nat) (cells : List Value) (G : Nat → Nat → Prop), k ≤ n ∧ i = .int .i64 k ∧ Laid RProc wr (From w.heap.size wr.heap.size) 74 (some ⟨w.heap.size, 0, none⟩) n n xs cells G k ∧ w.heap.size < wr.heap.size ∧ Below w.heap.size w wr) (fun i _ => n - (intOf i).toNat)
  case atStart => exact ⟨0, cs, _, Nat.zero_le _, rfl, hst, hlt1, hb1⟩
  case round =>
    clear hst hb1 hlt1 cs
    obtain ⟨k, cells, G, hk, rfl, ho, hzr, hbw⟩ := hrel
    by_cases hlt : k < n
    · obtain ⟨b, off, rfl, _, hc⟩ := RProc.row (AtSl.below ha hbw) (by omega)
      obtain ⟨⟨zi0, zi1, bo2⟩, hx⟩ : ∃ x, xs[k]? = some x := ⟨_, List.getElem?_eq_getElem (by omega)⟩
      obtain ⟨e0, e1, e2, _⟩ := hc k _ hx
      have hki : (k : Int) < (n : Int) := by omega
      have HO := Hid.mk ho
      have HX := Hid.mk hx
      have HC := Hid.mk (toProc_rep  zi0 zi1 bo2  wr  )
      clear hc ha ho hx
      go_wp2_with fail
      refine HC.out.mono ?_
      rintro e w2 ⟨rfl, ho2, hb2⟩
      have hput := HO.out.put hlt (fun b hb => hb.2) hb2 HX.out ho2 (fun b hb => hb.1)
      have z2 := hb2.size
      have hput2 := hput.mono (F' := From w.heap.size w2.heap.size) (fun b hb => by rcases hb with hb | hb; exact ⟨hb.1, by have := hb.2; omega⟩; exact ⟨by have := hb.1; omega, hb.2⟩)
      have HP : Hid (Laid RProc (((w2.setCell ⟨w.heap.size, k * 3, none⟩ (.int .i64 zi0)).setCell ⟨w.heap.size, k * 3 + 1, none⟩ (.int .i64 zi1)).setCell ⟨w.heap.size, k * 3 + 2, none⟩ (.bool bo2)) (From w.heap.size w2.heap.size) 74 (some ⟨w.heap.size, 0, none⟩) n n xs _ _ (k + 1)) := hput2
      have hout := (HO.out.below hb2).outer
      have hln := hout.1
      have hln : cells.length = n * 3 := hln
      obtain ⟨v0, hv0⟩ : ∃ u, cells[k * 3]? = some u := ⟨_, List.getElem?_eq_getElem (by omega)⟩
      have q0 : w2.cell? ⟨w.heap.size, k * 3, none⟩ = some v0 := (hout.cellAt _ (show k * 3 < n * 3 by omega)).trans hv0
      have f0 : w2.frozen? ⟨w.heap.size, k * 3, none⟩ = false := hout.frozenAt _
      clear hv0
      obtain ⟨v1, hv1⟩ : ∃ u, cells[k * 3 + 1]? = some u := ⟨_, List.getElem?_eq_getElem (by omega)⟩
      have q1 : w2.cell? ⟨w.heap.size, k * 3 + 1, none⟩ = some v1 := (hout.cellAt _ (show k * 3 + 1 < n * 3 by omega)).trans hv1
      have f1 : w2.frozen? ⟨w.heap.size, k * 3 + 1, none⟩ = false := hout.frozenAt _
      clear hv1
      obtain ⟨v2, hv2⟩ : ∃ u, cells[k * 3 + 2]? = some u := ⟨_, List.getElem?_eq_getElem (by omega)⟩
      have q2 : w2.cell? ⟨w.heap.size, k * 3 + 2, none⟩ = some v2 := (hout.cellAt _ (show k * 3 + 2 < n * 3 by omega)).trans hv2
      have f2 : w2.frozen? ⟨w.heap.size, k * 3 + 2, none⟩ = false := hout.frozenAt _
      clear hv2
      have HB : Hid (Below w.heap.size w (((w2.setCell ⟨w.heap.size, k * 3, none⟩ (.int .i64 zi0)).setCell ⟨w.heap.size, k * 3 + 1, none⟩ (.int .i64 zi1)).setCell ⟨w.heap.size, k * 3 + 2, none⟩ (.bool bo2))) := ((((hbw.trans (hb2.mono hbw.size)).setCell (Nat.le_refl _) _).setCell (Nat.le_refl _) _).setCell (Nat.le_refl _) _)
      clear hput hput2 hout hln hb2 hbw ho2 HC e0 e1 e2
      go_wp2
      go_roundw
      case rel => exact ⟨k + 1, _, _, by omega, by go_num, by simpa only [World.setCell, Array.size_modify] using HP.out, by simp [World.setCell]; omega, HB.out⟩
      case measure => simp [intOf]; omega
    · obtain rfl : k = n := by omega
      go_wp2
      go_ret
      exact ⟨_, rfl, ⟨_, _, _, _, _, rfl, ho⟩, hbw⟩

end Go.Proofs.Ytnfdncofobkjhaa

/- Contracts of the laws' to of Wire. -/
namespace Go.Proofs.Ytnfdncofobkjhaa
open Go.RowKit

set_option maxRecDepth 100000 in
set_option maxHeartbeats 8000000 in
theorem toWire_rep (a0 : Option Addr) (n0 : Nat) (c0 : Nat) (a1 : Option Addr) (n1 : Nat) (c1 : Nat) (bo2 : Bool) (x0 : List Int) (x1 : List Int) (w : World) (hz0 : x0.length = n0) (hs0 : n0 ≤ 1048576) (hz1 : x1.length = n1) (hs1 : n1 ≤ 1048576) (ha0 : At w a0 x0) (ha1 : At w a1 x1) :
    Calls Try.prog 57 #[.agg #[.slice a0 n0 c0, .slice a1 n1 c1, .bool bo2]] w fun e w' => ∃ g0 g1, e = .returned (.agg #[.slice (some ⟨g0, 0, none⟩) n0 n0, .slice (some ⟨g1, 0, none⟩) n1 n1, .bool bo2]) ∧ RWire.Own w' (From w.heap.size w'.heap.size) [.slice (some ⟨g0, 0, none⟩) n0 n0, .slice (some ⟨g1, 0, none⟩) n1 n1, .bool bo2] (x0, x1, bo2) ∧ Below w.heap.size w w' := by
  obtain ⟨W, hW⟩ : ∃ W, W = (((w.alloc (.cells #[.slice a0 n0 c0, .slice a1 n1 c1, .bool bo2] 82)).alloc (.cells #[.slice none 0 0, .slice none 0 0, .bool false] 76)).alloc (.cells #[.slice none 0 0, .slice none 0 0, .bool false] 76)) := ⟨_, rfl⟩
  have B0 : Below w.heap.size w W := by rw [hW]; exact ((((Below.refl _ _).alloc (Nat.le_refl _) _).alloc (by simp) _).alloc (by simp; omega) _)
  have zW : w.heap.size + 2 < W.heap.size := by rw [hW]; simp
  have b2 : W.heap[w.heap.size + 1 + 1]? = some (.cells #[.slice none 0 0, .slice none 0 0, .bool false] 76 (0, 0)) := by
    rw [hW]
    have q := heap_alloc_new ((w.alloc (.cells #[.slice a0 n0 c0, .slice a1 n1 c1, .bool bo2] 82)).alloc (.cells #[.slice none 0 0, .slice none 0 0, .bool false] 76)) (.cells #[.slice none 0 0, .slice none 0 0, .bool false] 76)
    simpa only [World.size_alloc] using q
  have b1 : W.heap[w.heap.size + 1]? = some (.cells #[.slice none 0 0, .slice none 0 0, .bool false] 76 (0, 0)) := by
    rw [hW]
    refine blk_alloc ?_ _
    have q := heap_alloc_new (w.alloc (.cells #[.slice a0 n0 c0, .slice a1 n1 c1, .bool bo2] 82)) (.cells #[.slice none 0 0, .slice none 0 0, .bool false] 76)
    simpa only [World.size_alloc] using q
  have b0 : W.heap[w.heap.size]? = some (.cells #[.slice a0 n0 c0, .slice a1 n1 c1, .bool bo2] 82 (0, 0)) := by
    rw [hW]
    exact blk_alloc (blk_alloc (heap_alloc_new w _) _) _
  have HA0 := Hid.mk ha0
  have HZ0 := Hid.mk hz0
  clear ha0 hz0
  have HA1 := Hid.mk ha1
  have HZ1 := Hid.mk hz1
  clear ha1 hz1
  go_enter Try.func57, Try.ntmps57
  go_wp2_with fail
  rw [← hW]
  clear hW
  refine (toInts_rep a0 n0 c0 x0 W HZ0.out hs0 (At.below HA0.out B0)).mono ?_
  rintro e w0 ⟨g0, rfl, o0, hb0⟩
  have k2 := blk_below b2 hb0
  have k1 := blk_below b1 hb0
  have k0 := blk_below b0 hb0
  clear b2 b1 b0
  have z0 := hb0.size
  have E0 : Below w.heap.size w w0 := B0.trans (hb0.mono (by omega))
  have q := blk_cell k2 0 (v := .slice none 0 0) rfl
  have f := blk_frozen k2 0
  have r := blk_cell k0 1 (v := .slice a1 n1 c1) rfl
  obtain ⟨X0, hX0⟩ : ∃ u, u = w0.setCell ⟨w.heap.size + 1 + 1, 0, none⟩ (.slice (some ⟨g0, 0, none⟩) n0 n0) := ⟨_, rfl⟩
  have y0 : w0.heap.size ≤ X0.heap.size := by rw [hX0]; simp [World.setCell]
  have b2 : X0.heap[w.heap.size + 1 + 1]? = some (.cells #[.slice (some ⟨g0, 0, none⟩) n0 n0, .slice none 0 0, .bool false] 76 (0, 0)) := by rw [hX0]; exact blk_set k2 0 _
  have b1 : X0.heap[w.heap.size + 1]? = some (.cells #[.slice none 0 0, .slice none 0 0, .bool false] 76 (0, 0)) := by rw [hX0]; exact blk_other k1 (by simp) _
  have b0 : X0.heap[w.heap.size]? = some (.cells #[.slice a0 n0 c0, .slice a1 n1 c1, .bool bo2] 82 (0, 0)) := by rw [hX0]; exact blk_other k0 (by simp; omega) _
  have C0 : Below w.heap.size w X0 := by rw [hX0]; exact E0.setCell (by simp; omega) _
  have S0 : Hid (Off (From w.heap.size (w.heap.size + 3)) w0 X0) := by rw [hX0]; exact Off.set ⟨by simp; omega, by simp⟩ _
  have O0_0 := Hid.mk (RInts.ownOff o0 S0.out (fun b h k => by have := h.1; have := k.2; omega))
  clear o0 hb0
  clear S0 k2 k1 k0
  go_wp2_with fail
  rw [← hX0]
  clear hX0
  clear q f r
  refine (toInts_rep a1 n1 c1 x1 X0 HZ1.out hs1 (At.below HA1.out C0)).mono ?_
  rintro e w1 ⟨g1, rfl, o1, hb1⟩
  have k2 := blk_below b2 hb1
  have k1 := blk_below b1 hb1
  have k0 := blk_below b0 hb1
  clear b2 b1 b0
  have z1 := hb1.size
  have E1 : Below w.heap.size w w1 := C0.trans (hb1.mono (by omega))
  have q := blk_cell k2 1 (v := .slice none 0 0) rfl
  have f := blk_frozen k2 1
  have r : True := trivial
  obtain ⟨X1, hX1⟩ : ∃ u, u = w1.setCell ⟨w.heap.size + 1 + 1, 1, none⟩ (.slice (some ⟨g1, 0, none⟩) n1 n1) := ⟨_, rfl⟩
  have y1 : w1.heap.size ≤ X1.heap.size := by rw [hX1]; simp [World.setCell]
  have b2 : X1.heap[w.heap.size + 1 + 1]? = some (.cells #[.slice (some ⟨g0, 0, none⟩) n0 n0, .slice (some ⟨g1, 0, none⟩) n1 n1, .bool false] 76 (0, 0)) := by rw [hX1]; exact blk_set k2 1 _
  have b1 : X1.heap[w.heap.size + 1]? = some (.cells #[.slice none 0 0, .slice none 0 0, .bool false] 76 (0, 0)) := by rw [hX1]; exact blk_other k1 (by simp) _
  have b0 : X1.heap[w.heap.size]? = some (.cells #[.slice a0 n0 c0, .slice a1 n1 c1, .bool bo2] 82 (0, 0)) := by rw [hX1]; exact blk_other k0 (by simp; omega) _
  have C1 : Below w.heap.size w X1 := by rw [hX1]; exact E1.setCell (by simp; omega) _
  have S1 : Hid (Off (From w.heap.size (w.heap.size + 3)) w1 X1) := by rw [hX1]; exact Off.set ⟨by simp; omega, by simp⟩ _
  have O0_1 := Hid.mk (RInts.ownOff (RInts.ownBelow O0_0.out hb1) S1.out (fun b h k => by have := h.1; have := k.2; omega))
  clear O0_0
  have O1_1 := Hid.mk (RInts.ownOff o1 S1.out (fun b h k => by have := h.1; have := k.2; omega))
  clear o1 hb1
  clear S1 k2 k1 k0
  go_upto_region 4 with fail
  rw [← hX1]
  clear hX1
  clear q f r
  have k2 := b2
  have k1 := b1
  have k0 := b0
  clear b2 b1 b0
  have q := blk_cell k2 2 (v := .bool false) rfl
  have f := blk_frozen k2 2
  have r := blk_cell k0 2 (v := .bool bo2) rfl
  obtain ⟨X2, hX2⟩ : ∃ u, u = X1.setCell ⟨w.heap.size + 1 + 1, 2, none⟩ (.bool bo2) := ⟨_, rfl⟩
  have y2 : X1.heap.size ≤ X2.heap.size := by rw [hX2]; simp [World.setCell]
  have b2 : X2.heap[w.heap.size + 1 + 1]? = some (.cells #[.slice (some ⟨g0, 0, none⟩) n0 n0, .slice (some ⟨g1, 0, none⟩) n1 n1, .bool bo2] 76 (0, 0)) := by rw [hX2]; exact blk_set k2 2 _
  have b1 : X2.heap[w.heap.size + 1]? = some (.cells #[.slice none 0 0, .slice none 0 0, .bool false] 76 (0, 0)) := by rw [hX2]; exact blk_other k1 (by simp) _
  have b0 : X2.heap[w.heap.size]? = some (.cells #[.slice a0 n0 c0, .slice a1 n1 c1, .bool bo2] 82 (0, 0)) := by rw [hX2]; exact blk_other k0 (by simp; omega) _
  have C2 : Below w.heap.size w X2 := by rw [hX2]; exact C1.setCell (by simp; omega) _
  have S2 : Hid (Off (From w.heap.size (w.heap.size + 3)) X1 X2) := by rw [hX2]; exact Off.set ⟨by simp; omega, by simp⟩ _
  have O0_2 := Hid.mk (RInts.ownOff O0_1.out S2.out (fun b h k => by have := h.1; have := k.2; omega))
  clear O0_1
  have O1_2 := Hid.mk (RInts.ownOff O1_1.out S2.out (fun b h k => by have := h.1; have := k.2; omega))
  clear O1_1
  clear S2 k2 k1 k0
  go_upto_region 5 with fail
  rw [← hX2]
  clear hX2 q f r
  have u0 := blk_cell b2 0 (v := .slice (some ⟨g0, 0, none⟩) n0 n0) rfl
  have p0 := blk_cell b1 0 (v := .slice none 0 0) rfl
  have f0 := blk_frozen b1 0
  have u1 := blk_cell b2 1 (v := .slice (some ⟨g1, 0, none⟩) n1 n1) rfl
  have p1 := blk_cell b1 1 (v := .slice none 0 0) rfl
  have f1 := blk_frozen b1 1
  have u2 := blk_cell b2 2 (v := .bool bo2) rfl
  have p2 := blk_cell b1 2 (v := .bool false) rfl
  have f2 := blk_frozen b1 2
  obtain ⟨Y, hY⟩ : ∃ u, u = stores X2 (w.heap.size + 1) 0 [.slice (some ⟨g0, 0, none⟩) n0 n0, .slice (some ⟨g1, 0, none⟩) n1 n1, .bool bo2] := ⟨_, rfl⟩
  have D : Below w.heap.size w Y := by rw [hY]; exact stores_below _ _ _ _ C2 (by omega)
  have S : Off (From w.heap.size (w.heap.size + 3)) X2 Y := by rw [hY]; exact stores_off _ _ _ _ ⟨by omega, by omega⟩
  have zY : Y.heap.size = X2.heap.size := by rw [hY]; exact stores_size _ _ _ _
  have R : Hid (RWire.Own Y (From w.heap.size Y.heap.size) [.slice (some ⟨g0, 0, none⟩) n0 n0, .slice (some ⟨g1, 0, none⟩) n1 n1, .bool bo2] (x0, x1, bo2)) :=
    RWire.own_mk (RInts.ownOff O0_2.out S (fun b h k => by have := h.1; have := k.2; omega)) (RInts.ownOff O1_2.out S (fun b h k => by have := h.1; have := k.2; omega)) (fun b h => ⟨by have := h.1; omega, by have := h.2; omega⟩) (fun b h => ⟨by have := h.1; omega, by have := h.2; omega⟩) (fun b h k => by have := h.2; have := k.1; omega)
  have HY := Hid.mk hY
  have HD := Hid.mk D
  clear S D hY zY b1 b2 b0 C2 O0_2 O1_2
  go_wp2
  refine bodyPost_ret (v := .agg #[.slice (some ⟨g0, 0, none⟩) n0 n0, .slice (some ⟨g1, 0, none⟩) n1 n1, .bool bo2]) (by simp [results, Try.results57, go_sem, p0, p1, p2]) rfl ⟨g0, g1, rfl, ?_, ?_⟩
  · have h := R.out
    rw [HY.out] at h
    exact h
  · have h := HD.out
    rw [HY.out] at h
    exact h

theorem Try.infoWire : (Try.prog.info? 76).map (fun i => (i.zero, i.size, i.bytes)) = some (some (.agg #[.slice none 0 0, .slice none 0 0, .bool false]), 3, 56) := by kernel_rfl

set_option maxRecDepth 100000 in
set_option maxHeartbeats 8000000 in
theorem toWireS_rep (a : Option Addr) (n c : Nat) (xs : List TWire) (w : World) (hz : xs.length = n) (hn : n ≤ 1048576) (hs : ∀ (i : Nat) (x : TWire), xs[i]? = some x → costWire x ≤ 1048576) (ha : AtSl RWire w a xs) :
    Calls Try.prog 34 #[.slice a n c] w fun e w' => ∃ g, e = .returned (.slice (some ⟨g, 0, none⟩) n n) ∧ RWires.Own w' (From w.heap.size w'.heap.size) [.slice (some ⟨g, 0, none⟩) n n] xs ∧ Below w.heap.size w w' := by
  obtain ⟨i0, hi, hz0, hz1, hz2⟩ := info_parts Try.infoWire
  go_enter Try.func34, Try.ntmps34
  go_wp2_with (at_make; refine wpList_make_full _ rfl _ _ 30 rfl w.heap.size 76 i0 (.agg #[.slice none 0 0, .slice none 0 0, .bool false]) 3 Try.underlying30 hi hz0 hz1 .i64 .i64 _ _ n rfl rfl rfl rfl (by rw [hz2]; omega) (by unfold maxLen; omega) (Nat.le_refl _) ?_; intro w1 hown hg)
  have hb1 : Below w.heap.size w w1 := (Below.refl _ _).grown hg (Nat.le_refl _) (by simp)
  have hlt1 := (hown.lt w.heap.size rfl).2
  obtain ⟨cs, hcs⟩ : ∃ cs, cs = (madeCells (Value.agg #[.slice none 0 0, .slice none 0 0, .bool false]).cells (n * 3)).toList := ⟨_, rfl⟩
  rw [← hcs] at hown
  have hst : Laid RWire w1 (From w.heap.size w1.heap.size) 76 (some ⟨w.heap.size, 0, none⟩) n n xs cs (fun _ _ => False) 0 := Laid.start hz (by omega) (owns_mono hown (Nat.zero_le _)) (fun b hb => hown.lt b hb) _
  clear hcs hown hg
  go_loopw [4] (fun i wr => ∃ (k : Nat) (cells : List Value) (G : Nat → Nat → Prop), k ≤ n ∧ i = .int .i64 k ∧ Laid RWire wr (From w.heap.size wr.heap.size) 76 (some ⟨w.heap.size, 0, none⟩) n n xs cells G k ∧ w.heap.size < wr.heap.size ∧ Below w.heap.size w wr) (fun i _ => n - (intOf i).toNat)
  case atStart => exact ⟨0, cs, _, Nat.zero_le _, rfl, hst, hlt1, hb1⟩
  case round =>
    clear hst hb1 hlt1 cs
    obtain ⟨k, cells, G, hk, rfl, ho, hzr, hbw⟩ := hrel
    by_cases hlt : k < n
    · obtain ⟨b, off, rfl, _, hc⟩ := RWire.row (AtSl.below ha hbw) (by omega)
      obtain ⟨⟨x0, x1, bo2⟩, hx⟩ : ∃ x, xs[k]? = some x := ⟨_, List.getElem?_eq_getElem (by omega)⟩
      obtain ⟨a0, n0, c0, a1, n1, c1, e0, e1, e2, ⟨hv0, hu0, hw0, _⟩, ⟨hv1, hu1, hw1, _⟩⟩ := hc k _ hx
      have hsm := smallWire hv0 hv1 (hs k _ hx)
      have hki : (k : Int) < (n : Int) := by omega
      have HO := Hid.mk ho
      have HX := Hid.mk hx
      have HC := Hid.mk (toWire_rep a0 n0 c0 a1 n1 c1 bo2 x0 x1 wr hv0 hsm.1 hv1 hsm.2 hw0 hw1)
      clear hc ha ho hx hs hsm hv0 hw0 hv1 hw1
      go_wp2_with fail
      refine HC.out.mono ?_
      rintro e w2 ⟨g0, g1, rfl, ho2, hb2⟩
      have hput := HO.out.put hlt (fun b hb => hb.2) hb2 HX.out ho2 (fun b hb => hb.1)
      have z2 := hb2.size
      have hput2 := hput.mono (F' := From w.heap.size w2.heap.size) (fun b hb => by rcases hb with hb | hb; exact ⟨hb.1, by have := hb.2; omega⟩; exact ⟨by have := hb.1; omega, hb.2⟩)
      have HP : Hid (Laid RWire (((w2.setCell ⟨w.heap.size, k * 3, none⟩ (.slice (some ⟨g0, 0, none⟩) n0 n0)).setCell ⟨w.heap.size, k * 3 + 1, none⟩ (.slice (some ⟨g1, 0, none⟩) n1 n1)).setCell ⟨w.heap.size, k * 3 + 2, none⟩ (.bool bo2)) (From w.heap.size w2.heap.size) 76 (some ⟨w.heap.size, 0, none⟩) n n xs _ _ (k + 1)) := hput2
      have hout := (HO.out.below hb2).outer
      have hln := hout.1
      have hln : cells.length = n * 3 := hln
      obtain ⟨v0, hv0⟩ : ∃ u, cells[k * 3]? = some u := ⟨_, List.getElem?_eq_getElem (by omega)⟩
      have q0 : w2.cell? ⟨w.heap.size, k * 3, none⟩ = some v0 := (hout.cellAt _ (show k * 3 < n * 3 by omega)).trans hv0
      have f0 : w2.frozen? ⟨w.heap.size, k * 3, none⟩ = false := hout.frozenAt _
      clear hv0
      obtain ⟨v1, hv1⟩ : ∃ u, cells[k * 3 + 1]? = some u := ⟨_, List.getElem?_eq_getElem (by omega)⟩
      have q1 : w2.cell? ⟨w.heap.size, k * 3 + 1, none⟩ = some v1 := (hout.cellAt _ (show k * 3 + 1 < n * 3 by omega)).trans hv1
      have f1 : w2.frozen? ⟨w.heap.size, k * 3 + 1, none⟩ = false := hout.frozenAt _
      clear hv1
      obtain ⟨v2, hv2⟩ : ∃ u, cells[k * 3 + 2]? = some u := ⟨_, List.getElem?_eq_getElem (by omega)⟩
      have q2 : w2.cell? ⟨w.heap.size, k * 3 + 2, none⟩ = some v2 := (hout.cellAt _ (show k * 3 + 2 < n * 3 by omega)).trans hv2
      have f2 : w2.frozen? ⟨w.heap.size, k * 3 + 2, none⟩ = false := hout.frozenAt _
      clear hv2
      have HB : Hid (Below w.heap.size w (((w2.setCell ⟨w.heap.size, k * 3, none⟩ (.slice (some ⟨g0, 0, none⟩) n0 n0)).setCell ⟨w.heap.size, k * 3 + 1, none⟩ (.slice (some ⟨g1, 0, none⟩) n1 n1)).setCell ⟨w.heap.size, k * 3 + 2, none⟩ (.bool bo2))) := ((((hbw.trans (hb2.mono hbw.size)).setCell (Nat.le_refl _) _).setCell (Nat.le_refl _) _).setCell (Nat.le_refl _) _)
      clear hput hput2 hout hln hb2 hbw ho2 HC e0 e1 e2
      go_wp2
      go_roundw
      case rel => exact ⟨k + 1, _, _, by omega, by go_num, by simpa only [World.setCell, Array.size_modify] using HP.out, by simp [World.setCell]; omega, HB.out⟩
      case measure => simp [intOf]; omega
    · obtain rfl : k = n := by omega
      go_wp2
      go_ret
      exact ⟨_, rfl, ⟨_, _, _, _, _, rfl, ho⟩, hbw⟩

end Go.Proofs.Ytnfdncofobkjhaa

/- Contracts of the laws' to of Snap. -/
namespace Go.Proofs.Ytnfdncofobkjhaa
open Go.RowKit

set_option maxRecDepth 100000 in
set_option maxHeartbeats 8000000 in
theorem toSnap_rep (a0 : Option Addr) (n0 : Nat) (c0 : Nat) (a1 : Option Addr) (n1 : Nat) (c1 : Nat)  (x0 : List TProc) (x1 : List TWire) (w : World) (hz0 : x0.length = n0) (hs0 : n0 ≤ 1048576) (hz1 : x1.length = n1) (hs1 : n1 ≤ 1048576) (hd1 : ∀ (i : Nat) (x : TWire), x1[i]? = some x → costWire x ≤ 1048576) (ha0 : AtSl RProc w a0 x0) (ha1 : AtSl RWire w a1 x1) :
    Calls Try.prog 8 #[.agg #[.slice a0 n0 c0, .slice a1 n1 c1]] w fun e w' => ∃ g0 g1, e = .returned (.agg #[.slice (some ⟨g0, 0, none⟩) n0 n0, .slice (some ⟨g1, 0, none⟩) n1 n1]) ∧ RSnap.Own w' (From w.heap.size w'.heap.size) [.slice (some ⟨g0, 0, none⟩) n0 n0, .slice (some ⟨g1, 0, none⟩) n1 n1] (x0, x1) ∧ Below w.heap.size w w' := by
  obtain ⟨W, hW⟩ : ∃ W, W = (((w.alloc (.cells #[.slice a0 n0 c0, .slice a1 n1 c1] 25)).alloc (.cells #[.slice none 0 0, .slice none 0 0] 32)).alloc (.cells #[.slice none 0 0, .slice none 0 0] 32)) := ⟨_, rfl⟩
  have B0 : Below w.heap.size w W := by rw [hW]; exact ((((Below.refl _ _).alloc (Nat.le_refl _) _).alloc (by simp) _).alloc (by simp; omega) _)
  have zW : w.heap.size + 2 < W.heap.size := by rw [hW]; simp
  have b2 : W.heap[w.heap.size + 1 + 1]? = some (.cells #[.slice none 0 0, .slice none 0 0] 32 (0, 0)) := by
    rw [hW]
    have q := heap_alloc_new ((w.alloc (.cells #[.slice a0 n0 c0, .slice a1 n1 c1] 25)).alloc (.cells #[.slice none 0 0, .slice none 0 0] 32)) (.cells #[.slice none 0 0, .slice none 0 0] 32)
    simpa only [World.size_alloc] using q
  have b1 : W.heap[w.heap.size + 1]? = some (.cells #[.slice none 0 0, .slice none 0 0] 32 (0, 0)) := by
    rw [hW]
    refine blk_alloc ?_ _
    have q := heap_alloc_new (w.alloc (.cells #[.slice a0 n0 c0, .slice a1 n1 c1] 25)) (.cells #[.slice none 0 0, .slice none 0 0] 32)
    simpa only [World.size_alloc] using q
  have b0 : W.heap[w.heap.size]? = some (.cells #[.slice a0 n0 c0, .slice a1 n1 c1] 25 (0, 0)) := by
    rw [hW]
    exact blk_alloc (blk_alloc (heap_alloc_new w _) _) _
  have HA0 := Hid.mk ha0
  have HZ0 := Hid.mk hz0
  clear ha0 hz0
  have HA1 := Hid.mk ha1
  have HZ1 := Hid.mk hz1
  clear ha1 hz1
  have HD1 := Hid.mk hd1
  clear hd1
  go_enter Try.func8, Try.ntmps8
  go_wp2_with fail
  rw [← hW]
  clear hW
  refine (toProcS_rep a0 n0 c0 x0 W HZ0.out hs0 (AtSl.below HA0.out B0)).mono ?_
  rintro e w0 ⟨g0, rfl, o0, hb0⟩
  have k2 := blk_below b2 hb0
  have k1 := blk_below b1 hb0
  have k0 := blk_below b0 hb0
  clear b2 b1 b0
  have z0 := hb0.size
  have E0 : Below w.heap.size w w0 := B0.trans (hb0.mono (by omega))
  have q := blk_cell k2 0 (v := .slice none 0 0) rfl
  have f := blk_frozen k2 0
  have r := blk_cell k0 1 (v := .slice a1 n1 c1) rfl
  obtain ⟨X0, hX0⟩ : ∃ u, u = w0.setCell ⟨w.heap.size + 1 + 1, 0, none⟩ (.slice (some ⟨g0, 0, none⟩) n0 n0) := ⟨_, rfl⟩
  have y0 : w0.heap.size ≤ X0.heap.size := by rw [hX0]; simp [World.setCell]
  have b2 : X0.heap[w.heap.size + 1 + 1]? = some (.cells #[.slice (some ⟨g0, 0, none⟩) n0 n0, .slice none 0 0] 32 (0, 0)) := by rw [hX0]; exact blk_set k2 0 _
  have b1 : X0.heap[w.heap.size + 1]? = some (.cells #[.slice none 0 0, .slice none 0 0] 32 (0, 0)) := by rw [hX0]; exact blk_other k1 (by simp) _
  have b0 : X0.heap[w.heap.size]? = some (.cells #[.slice a0 n0 c0, .slice a1 n1 c1] 25 (0, 0)) := by rw [hX0]; exact blk_other k0 (by simp; omega) _
  have C0 : Below w.heap.size w X0 := by rw [hX0]; exact E0.setCell (by simp; omega) _
  have S0 : Hid (Off (From w.heap.size (w.heap.size + 3)) w0 X0) := by rw [hX0]; exact Off.set ⟨by simp; omega, by simp⟩ _
  have O0_0 := Hid.mk (RProcs.ownOff o0 S0.out (fun b h k => by have := h.1; have := k.2; omega))
  clear o0 hb0
  clear S0 k2 k1 k0
  go_wp2_with fail
  rw [← hX0]
  clear hX0
  clear q f r
  refine (toWireS_rep a1 n1 c1 x1 X0 HZ1.out hs1 HD1.out (AtSl.below HA1.out C0)).mono ?_
  rintro e w1 ⟨g1, rfl, o1, hb1⟩
  have k2 := blk_below b2 hb1
  have k1 := blk_below b1 hb1
  have k0 := blk_below b0 hb1
  clear b2 b1 b0
  have z1 := hb1.size
  have E1 : Below w.heap.size w w1 := C0.trans (hb1.mono (by omega))
  have q := blk_cell k2 1 (v := .slice none 0 0) rfl
  have f := blk_frozen k2 1
  have r : True := trivial
  obtain ⟨X1, hX1⟩ : ∃ u, u = w1.setCell ⟨w.heap.size + 1 + 1, 1, none⟩ (.slice (some ⟨g1, 0, none⟩) n1 n1) := ⟨_, rfl⟩
  have y1 : w1.heap.size ≤ X1.heap.size := by rw [hX1]; simp [World.setCell]
  have b2 : X1.heap[w.heap.size + 1 + 1]? = some (.cells #[.slice (some ⟨g0, 0, none⟩) n0 n0, .slice (some ⟨g1, 0, none⟩) n1 n1] 32 (0, 0)) := by rw [hX1]; exact blk_set k2 1 _
  have b1 : X1.heap[w.heap.size + 1]? = some (.cells #[.slice none 0 0, .slice none 0 0] 32 (0, 0)) := by rw [hX1]; exact blk_other k1 (by simp) _
  have b0 : X1.heap[w.heap.size]? = some (.cells #[.slice a0 n0 c0, .slice a1 n1 c1] 25 (0, 0)) := by rw [hX1]; exact blk_other k0 (by simp; omega) _
  have C1 : Below w.heap.size w X1 := by rw [hX1]; exact E1.setCell (by simp; omega) _
  have S1 : Hid (Off (From w.heap.size (w.heap.size + 3)) w1 X1) := by rw [hX1]; exact Off.set ⟨by simp; omega, by simp⟩ _
  have O0_1 := Hid.mk (RProcs.ownOff (RProcs.ownBelow O0_0.out hb1) S1.out (fun b h k => by have := h.1; have := k.2; omega))
  clear O0_0
  have O1_1 := Hid.mk (RWires.ownOff o1 S1.out (fun b h k => by have := h.1; have := k.2; omega))
  clear o1 hb1
  clear S1 k2 k1 k0
  go_upto_region 4 with fail
  rw [← hX1]
  clear hX1 q f r
  have u0 := blk_cell b2 0 (v := .slice (some ⟨g0, 0, none⟩) n0 n0) rfl
  have p0 := blk_cell b1 0 (v := .slice none 0 0) rfl
  have f0 := blk_frozen b1 0
  have u1 := blk_cell b2 1 (v := .slice (some ⟨g1, 0, none⟩) n1 n1) rfl
  have p1 := blk_cell b1 1 (v := .slice none 0 0) rfl
  have f1 := blk_frozen b1 1
  obtain ⟨Y, hY⟩ : ∃ u, u = stores X1 (w.heap.size + 1) 0 [.slice (some ⟨g0, 0, none⟩) n0 n0, .slice (some ⟨g1, 0, none⟩) n1 n1] := ⟨_, rfl⟩
  have D : Below w.heap.size w Y := by rw [hY]; exact stores_below _ _ _ _ C1 (by omega)
  have S : Off (From w.heap.size (w.heap.size + 3)) X1 Y := by rw [hY]; exact stores_off _ _ _ _ ⟨by omega, by omega⟩
  have zY : Y.heap.size = X1.heap.size := by rw [hY]; exact stores_size _ _ _ _
  have R : Hid (RSnap.Own Y (From w.heap.size Y.heap.size) [.slice (some ⟨g0, 0, none⟩) n0 n0, .slice (some ⟨g1, 0, none⟩) n1 n1] (x0, x1)) :=
    RSnap.own_mk (RProcs.ownOff O0_1.out S (fun b h k => by have := h.1; have := k.2; omega)) (RWires.ownOff O1_1.out S (fun b h k => by have := h.1; have := k.2; omega)) (fun b h => ⟨by have := h.1; omega, by have := h.2; omega⟩) (fun b h => ⟨by have := h.1; omega, by have := h.2; omega⟩) (fun b h k => by have := h.2; have := k.1; omega)
  have HY := Hid.mk hY
  have HD := Hid.mk D
  clear S D hY zY b1 b2 b0 C1 O0_1 O1_1
  go_wp2
  refine bodyPost_ret (v := .agg #[.slice (some ⟨g0, 0, none⟩) n0 n0, .slice (some ⟨g1, 0, none⟩) n1 n1]) (by simp [results, Try.results8, go_sem, p0, p1]) rfl ⟨g0, g1, rfl, ?_, ?_⟩
  · have h := R.out
    rw [HY.out] at h
    exact h
  · have h := HD.out
    rw [HY.out] at h
    exact h


end Go.Proofs.Ytnfdncofobkjhaa
