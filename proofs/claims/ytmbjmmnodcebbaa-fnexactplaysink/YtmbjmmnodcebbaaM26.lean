/- Several texts of one proof, in build order: PpM, SkkM, PpL, SkkL. -/
import Derived.Test.YtmbjmmnodcebbaaM25
import Derived.Test.YtmbjmmnodcebbaaM3

/- Contracts of the laws' mark of Prepared over things that are owned. -/
namespace Go.Proofs.Ytmbjmmnodcebbaa
open Go.RowKit

set_option maxRecDepth 100000 in
set_option maxHeartbeats 8000000 in
theorem markPreparedS_rep (F : Nat → Prop) (a : Option Addr) (n c : Nat) (xs : List TPrepared) (m : Int) (w : World) (hn : n ≤ 1048576) (hs : ∀ (i : Nat) (x : TPrepared), xs[i]? = some x → costPrepared x ≤ 1048576) (ht : msumPrepared xs n ≤ 4194304) (h0 : 0 ≤ m) (h1 : m ≤ 134217728) (ho : RPrepareds.Own w F [.slice a n c] xs) :
    Calls Try.prog 33 #[.slice a n c, .int .i64 m] w fun e w' => e = .returned (.int .i64 (m + msumPrepared xs n)) ∧ RPrepareds.Own w' F [.slice a n c] (mkPrepareds m xs) ∧ Off F w w' := by
  obtain ⟨a', n', c', cells, G, he, hl⟩ := ho
  simp only [List.cons.injEq, Value.slice.injEq, and_true] at he
  obtain ⟨rfl, rfl, rfl⟩ := he
  go_enter Try.func33, Try.ntmps33
  go_wp2
  go_loopw [1, 5] (fun q i wr => ∃ (k : Nat) (cells : List Value), k ≤ n ∧ i = .int .i64 k ∧ q = .int .i64 (m + msumPrepared xs k) ∧ Laid RPrepared wr F 64 a n c (mkTo mkPrepared mknPrepared m xs k) cells G n ∧ Off F w wr) (fun _ i _ => n - (intOf i).toNat)
  case atStart => exact ⟨0, cells, Nat.zero_le _, rfl, by simp [msumPrepared_zero], by rw [mkTo_zero]; exact hl, Off.refl _ _⟩
  case round =>
    have hzl := hl.len
    clear hl cells
    obtain ⟨k, cells, hk, rfl, rfl, hl, hof⟩ := hrel
    by_cases hlt : k < n
    · obtain ⟨⟨zi0, zi1, x2⟩, hx⟩ : ∃ x, xs[k]? = some x := ⟨_, List.getElem?_eq_getElem (by omega)⟩
      have hrow := hl.row k _ hlt (mkTo_next _ _ hx)
      obtain ⟨a2, n2, c2, F2, hcs, r2, f2⟩ := RPrepared.own_open hrow
      rcases hl.outer.2 with ⟨_, h00⟩ | ⟨g, cap, cur, hv, _⟩
      · omega
      simp only [Value.slice.injEq, true_and] at hv
      obtain ⟨rfl, rfl⟩ := hv
      have hcl : cells.length = n * 3 := hl.outer.1
      have hcm : k * 3 + 3 ≤ cells.length := by omega
      have hcs2 : sub cells (k * 3) 3 = [.int .i64 zi0, .int .i64 zi1, .slice a2 n2 c2] := hcs
      have hsf : sets cells (k * 3) [.int .i64 zi0, .int .i64 zi1, .slice a2 n2 c2] = cells := by rw [← hcs2]; exact sets_self _ _ _ hcm
      have ow : wr.ownsRow 0 64 3 (.slice (some ⟨g, 0, none⟩) n c) n (sets cells (k * 3) [.int .i64 zi0, .int .i64 zi1, .slice a2 n2 c2]) := by rw [hsf]; exact hl.outer
      have e2 : x2.length = n2 := (RInts.own_iff.1 r2).1
      have hsm := smallPrepared e2 (hs k _ hx)
      have hts := msumPrepared_succ hx
      have htm := msumPrepared_mono xs (k + 1) n (by omega)
      have hps : mknPrepared (zi0, zi1, x2) = 1 + 1 + n2 := by unfold mknPrepared; simp only; rw [e2]
      have hgG : ¬ G k g := fun h => (hl.rowF k g hlt h).2 rfl
      have HL := Hid.mk hl
      have HO := Hid.mk hof
      have HX := Hid.mk hx
      obtain ⟨T, hT⟩ : ∃ T, msumPrepared xs k = T := ⟨_, rfl⟩
      have HT := Hid.mk hT
      rw [hps] at hts
      rw [hT] at hts ⊢
      have hn2 : n2 ≤ 1048576 := hsm
      have HTS := Hid.mk hts
      have hki : (k : Int) < (n : Int) := by omega
      obtain ⟨M, hM⟩ : ∃ M : Int, M = m + T := ⟨_, rfl⟩
      have hM0 : 0 ≤ M := by omega
      have hM1 : M ≤ 140000000 := by omega
      have HM := Hid.mk hM
      rw [← hM]
      have HGG := Hid.mk hgG
      have HOW := Hid.mk ow
      have HCM := Hid.mk hcm
      have HU : Hid (Off (fun b => b = g ∨ G k b) wr wr) := Hid.mk (Off.refl _ _)
      have R2 := Hid.mk r2
      have HF2 := Hid.mk f2
      have HE2 := Hid.mk e2
      clear r2 f2 e2
      clear hl hrow hof hx hT hts hps hcs hcs2 hM hgG htm hcl hcm hsf ow ht hs hsm
      have q : wr.cell? ⟨g, k * 3, none⟩ = some (.int .i64 zi0) := owns_sets_cell HOW.out (j := 0) rfl HCM.out
      have f : wr.frozen? ⟨g, k * 3, none⟩ = false := HOW.out.frozenAt _
      obtain ⟨X0, hX⟩ : ∃ u, u = wr.setCell ⟨g, k * 3, none⟩ (.int .i64 (M)) := ⟨_, rfl⟩
      have HOW' : Hid (X0.ownsRow 0 64 3 (.slice (some ⟨g, 0, none⟩) n c) n (sets cells (k * 3) [.int .i64 (M), .int .i64 zi1, .slice a2 n2 c2])) := Hid.mk (by rw [hX]; exact owns_sets_store HOW.out 0 _ (by simp) HCM.out)
      have S : Hid (Off (fun b => b = g) wr X0) := Hid.mk (by rw [hX]; exact Off.set (F := fun b => b = g) (a := ⟨g, k * 3, none⟩) rfl _)
      have R2_0 := Hid.mk (RInts.ownOff R2.out S.out (fun b hb e => HGG.out (by rw [← e]; exact HF2.out b hb)))
      clear R2
      have HU' := Hid.mk (HU.out.trans (S.out.mono (fun b e => .inl e)))
      clear HOW HU S
      have HOW := HOW'
      have HU := HU'
      clear HOW' HU'
      go_upto_region 5 with fail
      rw [← hX]
      clear hX q f
      have q : X0.cell? ⟨g, k * 3 + 1, none⟩ = some (.int .i64 zi1) := owns_sets_cell HOW.out (j := 1) rfl HCM.out
      have f : X0.frozen? ⟨g, k * 3 + 1, none⟩ = false := HOW.out.frozenAt _
      obtain ⟨X1, hX⟩ : ∃ u, u = X0.setCell ⟨g, k * 3 + 1, none⟩ (.int .i64 (M + 1)) := ⟨_, rfl⟩
      have HOW' : Hid (X1.ownsRow 0 64 3 (.slice (some ⟨g, 0, none⟩) n c) n (sets cells (k * 3) [.int .i64 (M), .int .i64 (M + 1), .slice a2 n2 c2])) := Hid.mk (by rw [hX]; exact owns_sets_store HOW.out 1 _ (by simp) HCM.out)
      have S : Hid (Off (fun b => b = g) X0 X1) := Hid.mk (by rw [hX]; exact Off.set (F := fun b => b = g) (a := ⟨g, k * 3 + 1, none⟩) rfl _)
      have R2_1 := Hid.mk (RInts.ownOff R2_0.out S.out (fun b hb e => HGG.out (by rw [← e]; exact HF2.out b hb)))
      clear R2_0
      have HU' := Hid.mk (HU.out.trans (S.out.mono (fun b e => .inl e)))
      clear HOW HU S
      have HOW := HOW'
      have HU := HU'
      clear HOW' HU'
      go_upto_region 7 with fail
      rw [← hX]
      clear hX q f
      have q : X1.cell? ⟨g, k * 3 + 2, none⟩ = some (.slice a2 n2 c2) := owns_sets_cell HOW.out (j := 2) rfl HCM.out
      go_wp2_with fail
      refine (markInts_rep F2 a2 n2 c2 x2 (M + 1 + 1) X1 hn2 (by omega) (by omega) R2_1.out).mono ?_
      rintro e w2 ⟨rfl, o2, g2⟩
      have HOW' : Hid (w2.ownsRow 0 64 3 (.slice (some ⟨g, 0, none⟩) n c) n (sets cells (k * 3) [.int .i64 (M), .int .i64 (M + 1), .slice a2 n2 c2])) := Hid.mk (ownsRow_frame HOW.out (fun b hb hlb => g2.block b hlb (fun hF => (HL.out.rowF k b hlt (HF2.out b hF)).2 hb)))
      have R2_2 := Hid.mk o2
      have HU' := Hid.mk (HU.out.trans (g2.mono (fun b hb => .inr (HF2.out b hb))))
      clear R2_1 o2 g2 q HOW HU
      have HOW := HOW'
      have HU := HU'
      clear HOW' HU'
      have HLN : Hid (Laid RPrepared w2 F 64 (some ⟨g, 0, none⟩) n c (mkTo mkPrepared mknPrepared m xs (k + 1)) (sets cells (k * 3) [.int .i64 (M), .int .i64 (M + 1), .slice a2 n2 c2]) G n) := Hid.mk (by
        have hsu : sub (sets cells (k * 3) [.int .i64 (M), .int .i64 (M + 1), .slice a2 n2 c2]) (k * 3) 3 = [.int .i64 (M), .int .i64 (M + 1), .slice a2 n2 c2] := sub_sets cells (k * 3) [.int .i64 (M), .int .i64 (M + 1), .slice a2 n2 c2] HCM.out
        have hturn := HL.out.turn (w' := w2) (cells' := sets cells (k * 3) [.int .i64 (M), .int .i64 (M + 1), .slice a2 n2 c2]) (x' := mkPrepared M (zi0, zi1, x2)) hlt (fun b hb hn1 hn2 => HU.out.block b hb (fun e => e.elim (fun e => hn2 (by rw [e]; rfl)) hn1)) HOW.out (fun j hj => sub_sets_far _ _ _ _ _ (mul_far (k := 3) hj))
          (by
            show RPrepared.Own w2 (G k) (sub (sets cells (k * 3) [.int .i64 (M), .int .i64 (M + 1), .slice a2 n2 c2]) (k * 3) 3) (mkPrepared M (zi0, zi1, x2))
            rw [hsu]
            unfold mkPrepared
            simp only
            exact RPrepared.own_mk R2_2.out HF2.out )
        have h9 := mkTo_set mkPrepared mknPrepared (m := m) HX.out
        have h8 : szL mknPrepared xs k = T := HT.out
        rw [h8, ← HM.out] at h9
        rw [← h9]
        exact hturn)
      have HON : Hid (Off F w w2) := Hid.mk (HO.out.trans (HU.out.mono (fun b hb => hb.elim (fun e => by rw [e]; exact HL.out.outerF g rfl) (fun hb => (HL.out.rowF k b hlt hb).1))))
      clear HOW HU R2_2
      go_wp2
      go_roundw
      case rel => exact ⟨k + 1, _, by omega, by go_num, by rw [HTS.out, HM.out]; congr 1; push_cast; omega, HLN.out, HON.out⟩
      case measure => simp [intOf]; omega
    · obtain rfl : k = n := by omega
      have HL := Hid.mk hl
      clear hl
      go_wp2
      go_ret
      refine ⟨rfl, ⟨_, _, _, cells, G, rfl, ?_⟩, hof⟩
      have h9 := HL.out
      rw [mkTo_all _ _ _ _ hzl] at h9
      exact h9


end Go.Proofs.Ytmbjmmnodcebbaa

/- Contracts of the laws' mark of Sink over things that are owned. -/
namespace Go.Proofs.Ytmbjmmnodcebbaa
open Go.RowKit

set_option maxRecDepth 100000 in
set_option maxHeartbeats 8000000 in
theorem markSink_rep (F : Nat → Prop) (a0 : Option Addr) (n0 : Nat) (c0 : Nat) (a2 : Option Addr) (n2 : Nat) (c2 : Nat) (a3 : Option Addr) (n3 : Nat) (c3 : Nat) (a4 : Option Addr) (n4 : Nat) (c4 : Nat) (zi1 : Int) (zi5 : Int) (zi6 : Int) (x0 : List Int) (x2 : List Int) (x3 : List TPrepared) (x4 : List Int) (M : Int) (w : World) (hz0 : x0.length = n0) (hs0 : n0 ≤ 1048576) (hz2 : x2.length = n2) (hs2 : n2 ≤ 1048576) (hz3 : x3.length = n3) (hs3 : n3 ≤ 1048576) (hd3 : ∀ (i : Nat) (x : TPrepared), x3[i]? = some x → costPrepared x ≤ 1048576) (hz4 : x4.length = n4) (hs4 : n4 ≤ 1048576) (hc3 : csumPrepared x3 n3 ≤ 1048576) (hM0 : 0 ≤ M) (hM1 : M ≤ 16777216) (hF : ∀ b, F b → b < w.heap.size) (ho : RSink.Own w F [.slice a0 n0 c0, .int .i64 zi1, .slice a2 n2 c2, .slice a3 n3 c3, .slice a4 n4 c4, .int .i64 zi5, .int .i64 zi6] (x0, zi1, x2, x3, x4, zi5, zi6)) :
    Calls Try.prog 11 #[.agg #[.slice a0 n0 c0, .int .i64 zi1, .slice a2 n2 c2, .slice a3 n3 c3, .slice a4 n4 c4, .int .i64 zi5, .int .i64 zi6], .int .i64 M] w fun e w' => e = .returned (.int .i64 (M + (mknSink (x0, zi1, x2, x3, x4, zi5, zi6) : Nat))) ∧ RSink.Own w' F [.slice a0 n0 c0, .int .i64 zi1, .slice a2 n2 c2, .slice a3 n3 c3, .slice a4 n4 c4, .int .i64 zi5, .int .i64 zi6] (mkSink M (x0, zi1, x2, x3, x4, zi5, zi6)) ∧ Off F w w' := by
  obtain ⟨F0, F2, F3, F4, r0, r2, r3, r4, f0, f2, f3, f4, d02, d03, d04, d23, d24, d34⟩ := RSink.own_iff ho
  clear ho
  have hv : mknSink (x0, zi1, x2, x3, x4, zi5, zi6) = n0 + n2 + msumPrepared x3 n3 + n4 := by unfold mknSink; simp only; rw [hz0, hz2, hz3, hz4]
  rw [hv]
  have HMK : Hid (mkSink M (x0, zi1, x2, x3, x4, zi5, zi6) = (mkInts (M) x0, zi1, mkInts (M + (n0 : Int)) x2, mkPrepareds (M + (n0 : Int) + (n2 : Int)) x3, mkInts (M + (n0 : Int) + (n2 : Int) + (msumPrepared x3 n3 : Int)) x4, zi5, zi6)) := Hid.mk (by unfold mkSink; simp only [hz0, hz2, hz3])
  obtain ⟨V3, hV3⟩ : ∃ V : Nat, msumPrepared x3 n3 = V := ⟨_, rfl⟩
  have hV3' : V3 ≤ 4194304 := by have q := hc3; rw [← hV3, msumPrepared_eq x3 n3 (by omega)]; omega
  obtain ⟨W, hW⟩ : ∃ W, W = w.alloc (.cells #[.slice a0 n0 c0, .int .i64 zi1, .slice a2 n2 c2, .slice a3 n3 c3, .slice a4 n4 c4, .int .i64 zi5, .int .i64 zi6] 29) := ⟨_, rfl⟩
  have B0 : Below w.heap.size w W := by rw [hW]; exact (Below.refl _ _).alloc (Nat.le_refl _) _
  have p2 : W.cell? ⟨w.heap.size, 2, none⟩ = some (.slice a2 n2 c2) := by rw [hW]; simp
  have p3 : W.cell? ⟨w.heap.size, 3, none⟩ = some (.slice a3 n3 c3) := by rw [hW]; simp
  have p4 : W.cell? ⟨w.heap.size, 4, none⟩ = some (.slice a4 n4 c4) := by rw [hW]; simp
  have R0 := Hid.mk (RInts.ownBelow r0 B0)
  have HG0 : Hid (¬ F0 w.heap.size) := Hid.mk (fun h => by have := hF _ (f0 _ h); omega)
  have HF0 := Hid.mk f0
  have HZ0 := Hid.mk hz0
  have R2 := Hid.mk (RInts.ownBelow r2 B0)
  have HG2 : Hid (¬ F2 w.heap.size) := Hid.mk (fun h => by have := hF _ (f2 _ h); omega)
  have HF2 := Hid.mk f2
  have HZ2 := Hid.mk hz2
  have R3 := Hid.mk (RPrepareds.ownBelow r3 B0)
  have HG3 : Hid (¬ F3 w.heap.size) := Hid.mk (fun h => by have := hF _ (f3 _ h); omega)
  have HF3 := Hid.mk f3
  have HZ3 := Hid.mk hz3
  have HDD3 := Hid.mk hd3
  clear hd3
  have R4 := Hid.mk (RInts.ownBelow r4 B0)
  have HG4 : Hid (¬ F4 w.heap.size) := Hid.mk (fun h => by have := hF _ (f4 _ h); omega)
  have HF4 := Hid.mk f4
  have HZ4 := Hid.mk hz4
  have HD02 := Hid.mk d02
  clear d02
  have HD03 := Hid.mk d03
  clear d03
  have HD04 := Hid.mk d04
  clear d04
  have HD23 := Hid.mk d23
  clear d23
  have HD24 := Hid.mk d24
  clear d24
  have HD34 := Hid.mk d34
  clear d34
  have HO : Hid (Off F w W) := Hid.mk (Off.below B0)
  clear r0 f0 hz0 r2 f2 hz2 r3 f3 hz3 r4 f4 hz4 hv B0 hF hc3
  have HV3 := Hid.mk hV3
  clear hV3
  go_enter Try.func11, Try.ntmps11
  go_wp2_with fail
  rw [← hW]
  clear hW
  refine (markInts_rep F0 a0 n0 c0 x0 (M) W hs0 (by omega) (by omega) R0.out).mono ?_
  rintro e w0 ⟨rfl, o0, g0⟩
  have p2 := g0.cell p2 HG0.out
  have p3 := g0.cell p3 HG0.out
  have p4 := g0.cell p4 HG0.out
  have R2_0 := Hid.mk (RInts.ownOff R2.out g0 (fun b hb h => HD02.out b h hb))
  clear R2
  have R3_0 := Hid.mk (RPrepareds.ownOff R3.out g0 (fun b hb h => HD03.out b h hb))
  clear R3
  have R4_0 := Hid.mk (RInts.ownOff R4.out g0 (fun b hb h => HD04.out b h hb))
  clear R4
  have R0_0 := Hid.mk o0
  have HO' := Hid.mk (HO.out.trans (g0.mono HF0.out))
  clear R0 o0 g0 HO
  have HO := HO'
  clear HO'
  go_wp2_with fail
  refine (markInts_rep F2 a2 n2 c2 x2 (M + (n0 : Int)) w0 hs2 (by omega) (by omega) R2_0.out).mono ?_
  rintro e w2 ⟨rfl, o2, g2⟩
  have p3 := g2.cell p3 HG2.out
  have p4 := g2.cell p4 HG2.out
  have R0_2 := Hid.mk (RInts.ownOff R0_0.out g2 (fun b hb h => HD02.out b hb h))
  clear R0_0
  have R3_2 := Hid.mk (RPrepareds.ownOff R3_0.out g2 (fun b hb h => HD23.out b h hb))
  clear R3_0
  have R4_2 := Hid.mk (RInts.ownOff R4_0.out g2 (fun b hb h => HD24.out b h hb))
  clear R4_0
  have R2_2 := Hid.mk o2
  have HO' := Hid.mk (HO.out.trans (g2.mono HF2.out))
  clear R2_0 o2 g2 HO
  have HO := HO'
  clear HO'
  go_wp2_with fail
  refine (markPreparedS_rep F3 a3 n3 c3 x3 (M + (n0 : Int) + (n2 : Int)) w2 hs3 HDD3.out (by rw [HV3.out]; exact hV3') (by omega) (by omega) R3_2.out).mono ?_
  rintro e w3 ⟨rfl, o3, g3⟩
  rw [HV3.out]
  have p4 := g3.cell p4 HG3.out
  have R0_3 := Hid.mk (RInts.ownOff R0_2.out g3 (fun b hb h => HD03.out b hb h))
  clear R0_2
  have R2_3 := Hid.mk (RInts.ownOff R2_2.out g3 (fun b hb h => HD23.out b hb h))
  clear R2_2
  have R4_3 := Hid.mk (RInts.ownOff R4_2.out g3 (fun b hb h => HD34.out b h hb))
  clear R4_2
  have R3_3 := Hid.mk o3
  have HO' := Hid.mk (HO.out.trans (g3.mono HF3.out))
  clear R3_2 o3 g3 HO
  have HO := HO'
  clear HO'
  go_wp2_with fail
  refine (markInts_rep F4 a4 n4 c4 x4 (M + (n0 : Int) + (n2 : Int) + (V3 : Int)) w3 hs4 (by omega) (by omega) R4_3.out).mono ?_
  rintro e w4 ⟨rfl, o4, g4⟩
  have R0_4 := Hid.mk (RInts.ownOff R0_3.out g4 (fun b hb h => HD04.out b hb h))
  clear R0_3
  have R2_4 := Hid.mk (RInts.ownOff R2_3.out g4 (fun b hb h => HD24.out b hb h))
  clear R2_3
  have R3_4 := Hid.mk (RPrepareds.ownOff R3_3.out g4 (fun b hb h => HD34.out b hb h))
  clear R3_3
  have R4_4 := Hid.mk o4
  have HO' := Hid.mk (HO.out.trans (g4.mono HF4.out))
  clear R4_3 o4 g4 HO
  have HO := HO'
  clear HO'
  have HR : Hid (RSink.Own w4 F [.slice a0 n0 c0, .int .i64 zi1, .slice a2 n2 c2, .slice a3 n3 c3, .slice a4 n4 c4, .int .i64 zi5, .int .i64 zi6] (mkSink M (x0, zi1, x2, x3, x4, zi5, zi6))) := Hid.mk (by
    rw [HMK.out, HV3.out]
    exact RSink.own_mk R0_4.out R2_4.out R3_4.out R4_4.out HF0.out HF2.out HF3.out HF4.out HD02.out HD03.out HD04.out HD23.out HD24.out HD34.out)
  clear R0_4 R2_4 R3_4 R4_4 HMK
  go_wp2
  go_ret
  exact ⟨ret_int (by rw [HV3.out]; push_cast; omega), HR.out, HO.out⟩


end Go.Proofs.Ytmbjmmnodcebbaa

/- Contracts of the laws' held of Prepared. -/
namespace Go.Proofs.Ytmbjmmnodcebbaa
open Go.RowKit

set_option maxRecDepth 100000 in
set_option maxHeartbeats 8000000 in
theorem heldPreparedS_rep (a : Option Addr) (n c : Nat) (xs : List TPrepared) (m : Int) (w : World) (hz : xs.length = n) (hn : n ≤ 1048576) (hs : ∀ (i : Nat) (x : TPrepared), xs[i]? = some x → costPrepared x ≤ 1048576) (ht : msumPrepared xs n ≤ 4194304) (h0 : 0 ≤ m) (h1 : m ≤ 134217728) (ha : AtSl RPrepared w a (mkPrepareds m xs)) :
    Calls Try.prog 35 #[.slice a n c, .int .i64 m] w fun e w' => e = .returned (.int .i64 (m + msumPrepared xs n)) ∧ Below w.heap.size w w' := by
  have hl : (mkPrepareds m xs).length = n := by rw [mkPrepareds_len, hz]
  by_cases hn0 : n = 0
  · subst hn0
    go_enter Try.func35, Try.ntmps35
    go_wp2
    refine wp_loop_rounds 1 ?_
    rw [rounds_succ]
    go_wp2
    go_ret
    exact ⟨by rw [msumPrepared_zero]; simp, Below.refl _ _⟩
  have HA := Hid.mk ha
  have HL := Hid.mk hl
  clear ha hl
  go_enter Try.func35, Try.ntmps35
  go_wp2
  go_loopw [1, 5] (fun q i wr => ∃ k : Nat, k ≤ n ∧ i = .int .i64 k ∧ q = .int .i64 (m + msumPrepared xs k) ∧ Below w.heap.size w wr) (fun _ i _ => n - (intOf i).toNat)
  case atStart => exact ⟨0, Nat.zero_le _, rfl, by simp [msumPrepared_zero], Below.refl _ _⟩
  case round =>
    obtain ⟨k, hk, rfl, rfl, hbw⟩ := hrel
    by_cases hlt : k < n
    · obtain ⟨b, off, rfl, _, hc⟩ := RPrepared.row (AtSl.below HA.out hbw) (by have := HL.out; omega)
      obtain ⟨⟨zi0, zi1, x2⟩, hx⟩ : ∃ x, xs[k]? = some x := ⟨_, List.getElem?_eq_getElem (by omega)⟩
      have hmk := mkL_at mkPrepared mknPrepared m xs k _ hx
      have hsm := hs k _ hx
      have hts := msumPrepared_succ hx
      have htm := msumPrepared_mono xs (k + 1) n (by omega)
      have hT' : szL mknPrepared xs k = msumPrepared xs k := rfl
      rw [hT'] at hmk
      obtain ⟨T, hT⟩ : ∃ T, msumPrepared xs k = T := ⟨_, rfl⟩
      rw [hT] at hts hmk ⊢
      obtain ⟨M, hM⟩ : ∃ M : Int, M = m + T := ⟨_, rfl⟩
      rw [← hM] at hmk ⊢
      obtain ⟨a2, n2, c2, gg0, gg1, gg2, ⟨hv2, hu2, hw2, _⟩⟩ := hc k _ hmk
      have e2 : x2.length = n2 := by rw [← hv2]; unfold mkPrepared; simp only; unfold mkInts; rw [marks_length]
      have hps : mknPrepared (zi0, zi1, x2) = 1 + 1 + n2 := by unfold mknPrepared; simp only; rw [e2]
      rw [hps] at hts
      have hsm := smallPrepared e2 hsm
      have hM0 : 0 ≤ M := by omega
      have hM1 : M ≤ 140000000 := by omega
      have g0 : wr.cell? ⟨b, off + k * 3, none⟩ = some (.int .i64 (M)) := gg0
      have g1 : wr.cell? ⟨b, off + k * 3 + 1, none⟩ = some (.int .i64 (M + 1)) := gg1
      have g2 : wr.cell? ⟨b, off + k * 3 + 2, none⟩ = some (.slice a2 n2 c2) := gg2
      have A2 : Hid (At wr a2 (mkInts (M + 1 + 1) x2)) := Hid.mk (by
        have h9 := hw2
        unfold mkPrepared at h9
        simp only at h9
        exact h9)
      have E2 := Hid.mk e2
      have hn2 : n2 ≤ 1048576 := hsm
      have p2 : ¬ M + 1 + 1 + (n2 : Int) < 0 := by omega
      have HTS := Hid.mk hts
      have HM := Hid.mk hM
      have hki : (k : Int) < (n : Int) := by omega
      clear hmk hc hx hts hT hT' hM hps htm ht gg0 gg1 gg2 hs hsm hv2 hw2 e2
      go_wp2_with fail
      refine (heldInts_rep a2 n2 c2 x2 (M + 1 + 1) wr E2.out hn2 (by omega) (by omega) A2.out).mono ?_
      rintro e w2 ⟨rfl, hb2⟩
      have B2 := hbw.trans (hb2.mono hbw.size)
      clear hb2 A2
      go_wp2
      go_roundw
      case rel => exact ⟨k + 1, by omega, by go_num, by rw [HTS.out, HM.out]; congr 1; push_cast; omega, B2⟩
      case measure => simp [intOf]; omega
    · obtain rfl : k = n := by omega
      go_wp2
      go_ret
      exact ⟨rfl, hbw⟩


end Go.Proofs.Ytmbjmmnodcebbaa

/- Contracts of the laws' held of Sink. -/
namespace Go.Proofs.Ytmbjmmnodcebbaa
open Go.RowKit

set_option maxRecDepth 100000 in
set_option maxHeartbeats 8000000 in
theorem heldSink_rep (a0 : Option Addr) (n0 : Nat) (c0 : Nat) (a2 : Option Addr) (n2 : Nat) (c2 : Nat) (a3 : Option Addr) (n3 : Nat) (c3 : Nat) (a4 : Option Addr) (n4 : Nat) (c4 : Nat) (zi1 : Int) (zi5 : Int) (zi6 : Int) (x0 : List Int) (x2 : List Int) (x3 : List TPrepared) (x4 : List Int) (m : Int) (w : World) (hz0 : x0.length = n0) (hs0 : n0 ≤ 1048576) (hz2 : x2.length = n2) (hs2 : n2 ≤ 1048576) (hz3 : x3.length = n3) (hs3 : n3 ≤ 1048576) (hd3 : ∀ (i : Nat) (x : TPrepared), x3[i]? = some x → costPrepared x ≤ 1048576) (hz4 : x4.length = n4) (hs4 : n4 ≤ 1048576) (hc3 : csumPrepared x3 n3 ≤ 1048576) (h0 : 0 ≤ m) (h1 : m ≤ 16777216) (ho : RSink.At w [.slice a0 n0 c0, .int .i64 zi1, .slice a2 n2 c2, .slice a3 n3 c3, .slice a4 n4 c4, .int .i64 zi5, .int .i64 zi6] (mkSink m (x0, zi1, x2, x3, x4, zi5, zi6))) :
    Calls Try.prog 12 #[.agg #[.slice a0 n0 c0, .int .i64 zi1, .slice a2 n2 c2, .slice a3 n3 c3, .slice a4 n4 c4, .int .i64 zi5, .int .i64 zi6], .int .i64 m] w fun e w' => e = .returned (.int .i64 (m + (mknSink (x0, zi1, x2, x3, x4, zi5, zi6) : Nat))) ∧ Below w.heap.size w w' := by
  obtain ⟨V3, hV3⟩ : ∃ V : Nat, msumPrepared x3 n3 = V := ⟨_, rfl⟩
  have hV3' : V3 ≤ 4194304 := by have q := hc3; rw [← hV3, msumPrepared_eq x3 n3 (by omega)]; omega
  have hv : mknSink (x0, zi1, x2, x3, x4, zi5, zi6) = n0 + n2 + V3 + n4 := by unfold mknSink; simp only; rw [hz0, hz2, hz3, hz4, hV3]
  rw [hv]
  have hf := RSink.at_iff ho
  clear ho
  have A0 : Hid (At w a0 (mkInts (m) x0)) := Hid.mk (by
    have h9 := hf.1.2.2.1
    exact h9)
  have A2 : Hid (At w a2 (mkInts (m + (n0 : Int)) x2)) := Hid.mk (by
    have h9 := hf.2.1.2.2.1
    simp only [hz0] at h9
    exact h9)
  have A3 : Hid (AtSl RPrepared w a3 (mkPrepareds (m + (n0 : Int) + (n2 : Int)) x3)) := Hid.mk (by
    have h9 := hf.2.2.1.2.2.1
    simp only [hz0, hz2] at h9
    exact h9)
  have A4 : Hid (At w a4 (mkInts (m + (n0 : Int) + (n2 : Int) + (V3 : Int)) x4)) := Hid.mk (by
    have h9 := hf.2.2.2.2.2.1
    simp only [hz0, hz2, hz3, hV3] at h9
    exact h9)
  clear hf hv
  obtain ⟨W, hW⟩ : ∃ W, W = w.alloc (.cells #[.slice a0 n0 c0, .int .i64 zi1, .slice a2 n2 c2, .slice a3 n3 c3, .slice a4 n4 c4, .int .i64 zi5, .int .i64 zi6] 29) := ⟨_, rfl⟩
  have B0 : Below w.heap.size w W := by rw [hW]; exact (Below.refl _ _).alloc (Nat.le_refl _) _
  have p2 : W.cell? ⟨w.heap.size, 2, none⟩ = some (.slice a2 n2 c2) := by rw [hW]; simp
  have p3 : W.cell? ⟨w.heap.size, 3, none⟩ = some (.slice a3 n3 c3) := by rw [hW]; simp
  have p4 : W.cell? ⟨w.heap.size, 4, none⟩ = some (.slice a4 n4 c4) := by rw [hW]; simp
  have HZ0 := Hid.mk hz0
  clear hz0
  have HZ2 := Hid.mk hz2
  clear hz2
  have HZ3 := Hid.mk hz3
  clear hz3
  have HD3 := Hid.mk hd3
  clear hd3
  have HV3 := Hid.mk hV3
  clear hV3
  have HZ4 := Hid.mk hz4
  clear hz4
  go_enter Try.func12, Try.ntmps12
  have y0 : ¬ m + (n0 : Int) < 0 := by omega
  go_wp2_with fail
  rw [← hW]
  clear hW
  refine (heldInts_rep a0 n0 c0 x0 (m) W HZ0.out hs0 (by omega) (by omega) (At.below A0.out B0)).mono ?_
  rintro e w0 ⟨rfl, hb0⟩
  have B1 := B0.trans (hb0.mono B0.size)
  have p2 := cell_later hb0 p2
  have p3 := cell_later hb0 p3
  have p4 := cell_later hb0 p4
  have y2 : ¬ m + (n0 : Int) + (n2 : Int) < 0 := by omega
  go_wp2_with fail
  refine (heldInts_rep a2 n2 c2 x2 (m + (n0 : Int)) w0 HZ2.out hs2 (by omega) (by omega) (At.below A2.out B1)).mono ?_
  rintro e w1 ⟨rfl, hb1⟩
  have B2 := B1.trans (hb1.mono B1.size)
  have p3 := cell_later hb1 p3
  have p4 := cell_later hb1 p4
  have y3 : ¬ m + (n0 : Int) + (n2 : Int) + (V3 : Int) < 0 := by omega
  go_wp2_with fail
  refine (heldPreparedS_rep a3 n3 c3 x3 (m + (n0 : Int) + (n2 : Int)) w1 HZ3.out hs3 HD3.out (by rw [HV3.out]; exact hV3') (by omega) (by omega) (AtSl.below A3.out B2)).mono ?_
  rintro e w2 ⟨rfl, hb2⟩
  rw [HV3.out]
  have B3 := B2.trans (hb2.mono B2.size)
  have p4 := cell_later hb2 p4
  have y4 : ¬ m + (n0 : Int) + (n2 : Int) + (V3 : Int) + (n4 : Int) < 0 := by omega
  go_wp2_with fail
  refine (heldInts_rep a4 n4 c4 x4 (m + (n0 : Int) + (n2 : Int) + (V3 : Int)) w2 HZ4.out hs4 (by omega) (by omega) (At.below A4.out B3)).mono ?_
  rintro e w3 ⟨rfl, hb3⟩
  have B4 := B3.trans (hb3.mono B3.size)
  go_wp2
  go_ret
  exact ⟨ret_int (by push_cast; omega), B4⟩

end Go.Proofs.Ytmbjmmnodcebbaa
