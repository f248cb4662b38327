/- Contracts of the laws' mark of Sink over things that are owned. -/
import Derived.Test.YtecaaekilbdgdaaSkkE
import Derived.Test.YtecaaekilbdgdaaIntM
import Derived.Test.YtecaaekilbdgdaaPpM
namespace Go.Proofs.Ytecaaekilbdgdaa
open Go.RowKit

set_option maxRecDepth 100000 in
set_option maxHeartbeats 8000000 in
theorem markSink_rep (F : Nat → Prop) (a0 : Option Addr) (n0 : Nat) (c0 : Nat) (a2 : Option Addr) (n2 : Nat) (c2 : Nat) (a3 : Option Addr) (n3 : Nat) (c3 : Nat) (a4 : Option Addr) (n4 : Nat) (c4 : Nat) (zi1 : Int) (zi5 : Int) (zi6 : Int) (x0 : List Int) (x2 : List Int) (x3 : List TPrepared) (x4 : List Int) (M : Int) (w : World) (hz0 : x0.length = n0) (hs0 : n0 ≤ 1048576) (hz2 : x2.length = n2) (hs2 : n2 ≤ 1048576) (hz3 : x3.length = n3) (hs3 : n3 ≤ 1048576) (hd3 : ∀ (i : Nat) (x : TPrepared), x3[i]? = some x → costPrepared x ≤ 1048576) (hz4 : x4.length = n4) (hs4 : n4 ≤ 1048576) (hc3 : csumPrepared x3 n3 ≤ 1048576) (hM0 : 0 ≤ M) (hM1 : M ≤ 16777216) (hF : ∀ b, F b → b < w.heap.size) (ho : RSink.Own w F [.slice a0 n0 c0, .int .i64 zi1, .slice a2 n2 c2, .slice a3 n3 c3, .slice a4 n4 c4, .int .i64 zi5, .int .i64 zi6] (x0, zi1, x2, x3, x4, zi5, zi6)) :
    Calls Try.prog 14 #[.agg #[.slice a0 n0 c0, .int .i64 zi1, .slice a2 n2 c2, .slice a3 n3 c3, .slice a4 n4 c4, .int .i64 zi5, .int .i64 zi6], .int .i64 M] w fun e w' => e = .returned (.int .i64 (M + (mknSink (x0, zi1, x2, x3, x4, zi5, zi6) : Nat))) ∧ RSink.Own w' F [.slice a0 n0 c0, .int .i64 zi1, .slice a2 n2 c2, .slice a3 n3 c3, .slice a4 n4 c4, .int .i64 zi5, .int .i64 zi6] (mkSink M (x0, zi1, x2, x3, x4, zi5, zi6)) ∧ Off F w w' := by
  obtain ⟨F0, F2, F3, F4, r0, r2, r3, r4, f0, f2, f3, f4, d02, d03, d04, d23, d24, d34⟩ := RSink.own_iff ho
  clear ho
  have hv : mknSink (x0, zi1, x2, x3, x4, zi5, zi6) = n0 + n2 + msumPrepared x3 n3 + n4 := by unfold mknSink; simp only; rw [hz0, hz2, hz3, hz4]
  rw [hv]
  have HMK : Hid (mkSink M (x0, zi1, x2, x3, x4, zi5, zi6) = (mkInts (M) x0, zi1, mkInts (M + (n0 : Int)) x2, mkPrepareds (M + (n0 : Int) + (n2 : Int)) x3, mkInts (M + (n0 : Int) + (n2 : Int) + (msumPrepared x3 n3 : Int)) x4, zi5, zi6)) := Hid.mk (by unfold mkSink; simp only [hz0, hz2, hz3])
  obtain ⟨V3, hV3⟩ : ∃ V : Nat, msumPrepared x3 n3 = V := ⟨_, rfl⟩
  have hV3' : V3 ≤ 4194304 := by have q := hc3; rw [← hV3, msumPrepared_eq x3 n3 (by omega)]; omega
  obtain ⟨W, hW⟩ : ∃ W, W = w.alloc (.cells #[.slice a0 n0 c0, .int .i64 zi1, .slice a2 n2 c2, .slice a3 n3 c3, .slice a4 n4 c4, .int .i64 zi5, .int .i64 zi6] 25) := ⟨_, rfl⟩
  have B0 : Below w.heap.size w W := by rw [hW]; exact (Below.refl _ _).alloc (Nat.le_refl _) _
  have p2 : W.cell? ⟨w.heap.size, 2, none⟩ = some (.slice a2 n2 c2) := by rw [hW]; simp
  have p3 : W.cell? ⟨w.heap.size, 3, none⟩ = some (.slice a3 n3 c3) := by rw [hW]; simp
  have p4 : W.cell? ⟨w.heap.size, 4, none⟩ = some (.slice a4 n4 c4) := by rw [hW]; simp
  have R0 := Hid.mk (RInts.ownBelow r0 B0)
  have HG0 : Hid (¬ F0 w.heap.size) := Hid.mk (fun h => by have := hF _ (f0 _ h); omega)
  have HF0 := Hid.mk f0
  have HZ0 := Hid.mk hz0
  have R2 := Hid.mk (RInts.ownBelow r2 B0)
  have HG2 : Hid (¬ F2 w.heap.size) := Hid.mk (fun h => by have := hF _ (f2 _ h); omega)
  have HF2 := Hid.mk f2
  have HZ2 := Hid.mk hz2
  have R3 := Hid.mk (RPrepareds.ownBelow r3 B0)
  have HG3 : Hid (¬ F3 w.heap.size) := Hid.mk (fun h => by have := hF _ (f3 _ h); omega)
  have HF3 := Hid.mk f3
  have HZ3 := Hid.mk hz3
  have HDD3 := Hid.mk hd3
  clear hd3
  have R4 := Hid.mk (RInts.ownBelow r4 B0)
  have HG4 : Hid (¬ F4 w.heap.size) := Hid.mk (fun h => by have := hF _ (f4 _ h); omega)
  have HF4 := Hid.mk f4
  have HZ4 := Hid.mk hz4
  have HD02 := Hid.mk d02
  clear d02
  have HD03 := Hid.mk d03
  clear d03
  have HD04 := Hid.mk d04
  clear d04
  have HD23 := Hid.mk d23
  clear d23
  have HD24 := Hid.mk d24
  clear d24
  have HD34 := Hid.mk d34
  clear d34
  have HO : Hid (Off F w W) := Hid.mk (Off.below B0)
  clear r0 f0 hz0 r2 f2 hz2 r3 f3 hz3 r4 f4 hz4 hv B0 hF hc3
  have HV3 := Hid.mk hV3
  clear hV3
  go_enter Try.func14, Try.ntmps14
  go_wp2_with fail
  rw [← hW]
  clear hW
  refine (markInts_rep F0 a0 n0 c0 x0 (M) W hs0 (by omega) (by omega) R0.out).mono ?_
  rintro e w0 ⟨rfl, o0, g0⟩
  have p2 := g0.cell p2 HG0.out
  have p3 := g0.cell p3 HG0.out
  have p4 := g0.cell p4 HG0.out
  have R2_0 := Hid.mk (RInts.ownOff R2.out g0 (fun b hb h => HD02.out b h hb))
  clear R2
  have R3_0 := Hid.mk (RPrepareds.ownOff R3.out g0 (fun b hb h => HD03.out b h hb))
  clear R3
  have R4_0 := Hid.mk (RInts.ownOff R4.out g0 (fun b hb h => HD04.out b h hb))
  clear R4
  have R0_0 := Hid.mk o0
  have HO' := Hid.mk (HO.out.trans (g0.mono HF0.out))
  clear R0 o0 g0 HO
  have HO := HO'
  clear HO'
  go_wp2_with fail
  refine (markInts_rep F2 a2 n2 c2 x2 (M + (n0 : Int)) w0 hs2 (by omega) (by omega) R2_0.out).mono ?_
  rintro e w2 ⟨rfl, o2, g2⟩
  have p3 := g2.cell p3 HG2.out
  have p4 := g2.cell p4 HG2.out
  have R0_2 := Hid.mk (RInts.ownOff R0_0.out g2 (fun b hb h => HD02.out b hb h))
  clear R0_0
  have R3_2 := Hid.mk (RPrepareds.ownOff R3_0.out g2 (fun b hb h => HD23.out b h hb))
  clear R3_0
  have R4_2 := Hid.mk (RInts.ownOff R4_0.out g2 (fun b hb h => HD24.out b h hb))
  clear R4_0
  have R2_2 := Hid.mk o2
  have HO' := Hid.mk (HO.out.trans (g2.mono HF2.out))
  clear R2_0 o2 g2 HO
  have HO := HO'
  clear HO'
  go_wp2_with fail
  refine (markPreparedS_rep F3 a3 n3 c3 x3 (M + (n0 : Int) + (n2 : Int)) w2 hs3 HDD3.out (by rw [HV3.out]; exact hV3') (by omega) (by omega) R3_2.out).mono ?_
  rintro e w3 ⟨rfl, o3, g3⟩
  rw [HV3.out]
  have p4 := g3.cell p4 HG3.out
  have R0_3 := Hid.mk (RInts.ownOff R0_2.out g3 (fun b hb h => HD03.out b hb h))
  clear R0_2
  have R2_3 := Hid.mk (RInts.ownOff R2_2.out g3 (fun b hb h => HD23.out b hb h))
  clear R2_2
  have R4_3 := Hid.mk (RInts.ownOff R4_2.out g3 (fun b hb h => HD34.out b h hb))
  clear R4_2
  have R3_3 := Hid.mk o3
  have HO' := Hid.mk (HO.out.trans (g3.mono HF3.out))
  clear R3_2 o3 g3 HO
  have HO := HO'
  clear HO'
  go_wp2_with fail
  refine (markInts_rep F4 a4 n4 c4 x4 (M + (n0 : Int) + (n2 : Int) + (V3 : Int)) w3 hs4 (by omega) (by omega) R4_3.out).mono ?_
  rintro e w4 ⟨rfl, o4, g4⟩
  have R0_4 := Hid.mk (RInts.ownOff R0_3.out g4 (fun b hb h => HD04.out b hb h))
  clear R0_3
  have R2_4 := Hid.mk (RInts.ownOff R2_3.out g4 (fun b hb h => HD24.out b hb h))
  clear R2_3
  have R3_4 := Hid.mk (RPrepareds.ownOff R3_3.out g4 (fun b hb h => HD34.out b hb h))
  clear R3_3
  have R4_4 := Hid.mk o4
  have HO' := Hid.mk (HO.out.trans (g4.mono HF4.out))
  clear R4_3 o4 g4 HO
  have HO := HO'
  clear HO'
  have HR : Hid (RSink.Own w4 F [.slice a0 n0 c0, .int .i64 zi1, .slice a2 n2 c2, .slice a3 n3 c3, .slice a4 n4 c4, .int .i64 zi5, .int .i64 zi6] (mkSink M (x0, zi1, x2, x3, x4, zi5, zi6))) := Hid.mk (by
    rw [HMK.out, HV3.out]
    exact RSink.own_mk R0_4.out R2_4.out R3_4.out R4_4.out HF0.out HF2.out HF3.out HF4.out HD02.out HD03.out HD04.out HD23.out HD24.out HD34.out)
  clear R0_4 R2_4 R3_4 R4_4 HMK
  go_wp2
  go_ret
  exact ⟨ret_int (by rw [HV3.out]; push_cast; omega), HR.out, HO.out⟩


end Go.Proofs.Ytecaaekilbdgdaa
