/- Several texts of one proof, in build order: LkM, LkW, LawHasLock, Open, OpenP, OpStep. -/
import Derived.Test.YtjjebodlekepaaaDoorM14
import Derived.Test.YtjjebodlekepaaaDoorM12
import Derived.Test.YtjjebodlekepaaaDoorM0
import Derived.ProofKit
import Derived.OpenShut
import Derived.ShutString
import Derived.ChangeOld
import Derived.Lib.SmallJoins
import Derived.Test.YtjjebodlekepaaaDoorM1
import Derived.Test.YtjjebodlekepaaaDoorM4

/- Contracts of the laws' markLocks and heldLocks. -/
namespace Go.Proofs.YtjjebodlekepaaaDoor
open Go.RowKit

def mkLks (m : Int) (x : TLk) : TLk := ((mkSteps m x.1), (mkSteps (m + (x.1.length * 3 : Nat)) x.2.1), (mkSteps (m + (x.1.length * 3 : Nat) + (x.2.1.length * 3 : Nat)) x.2.2.1), (mkInts (m + (x.1.length * 3 : Nat) + (x.2.1.length * 3 : Nat) + (x.2.2.1.length * 3 : Nat)) x.2.2.2.1), (mkInts (m + (x.1.length * 3 : Nat) + (x.2.1.length * 3 : Nat) + (x.2.2.1.length * 3 : Nat) + (x.2.2.2.1.length : Nat)) x.2.2.2.2))
set_option maxRecDepth 100000 in
set_option maxHeartbeats 4000000 in
theorem markLocks_rep (F : Nat → Prop) (a0 : Option Addr) (a1 : Option Addr) (a2 : Option Addr) (a3 : Option Addr) (a4 : Option Addr) (n0 n1 n2 n3 n4 : Nat) (c0 c1 c2 c3 c4 : Nat) (x0 : List TStep) (x1 : List TStep) (x2 : List TStep) (x3 : List Int) (x4 : List Int) (m : Int) (w : World) (hs0 : n0 ≤ 1048576) (hs1 : n1 ≤ 1048576) (hs2 : n2 ≤ 1048576) (hs3 : n3 ≤ 1048576) (hs4 : n4 ≤ 1048576) (h0 : 0 ≤ m) (h1 : m ≤ 16777216) (hF : ∀ b, F b → b < w.heap.size) (ho : RLks.Own w F [.slice a0 n0 c0, .slice a1 n1 c1, .slice a2 n2 c2, .slice a3 n3 c3, .slice a4 n4 c4] (x0, x1, x2, x3, x4)) :
    Calls Tryd.prog 15 #[.agg #[.slice a0 n0 c0, .slice a1 n1 c1, .slice a2 n2 c2, .slice a3 n3 c3, .slice a4 n4 c4], .int .i64 m] w fun e w' => e = .returned (.int .i64 (m + (lkmk (x0, x1, x2, x3, x4) : Nat))) ∧ RLks.Own w' F [.slice a0 n0 c0, .slice a1 n1 c1, .slice a2 n2 c2, .slice a3 n3 c3, .slice a4 n4 c4] (mkLks m (x0, x1, x2, x3, x4)) ∧ Off F w w' := by
  have hAt := RLks.at_iff (RLks.toAt ho)
  obtain ⟨F0, F1, F2, F3, F4, o0, o1, o2, o3, o4, f0, f1, f2, f3, f4, d01, d02, d03, d04, d12, d13, d14, d23, d24, d34⟩ := RLks.own_open ho
  have hz0 : x0.length = n0 := hAt.1.1
  have hz1 : x1.length = n1 := hAt.2.1.1
  have hz2 : x2.length = n2 := hAt.2.2.1.1
  have hz3 : x3.length = n3 := hAt.2.2.2.1.1
  have hz4 : x4.length = n4 := hAt.2.2.2.2.1
  clear hAt ho
  have hv : lkmk (x0, x1, x2, x3, x4) = n0 * 3 + n1 * 3 + n2 * 3 + n3 + n4 := by unfold lkmk; simp only; rw [hz0, hz1, hz2, hz3, hz4]
  rw [hv]
  have HMK : Hid (mkLks m (x0, x1, x2, x3, x4) = ((mkSteps m x0), (mkSteps (m + (n0 * 3 : Nat)) x1), (mkSteps (m + (n0 * 3 : Nat) + (n1 * 3 : Nat)) x2), (mkInts (m + (n0 * 3 : Nat) + (n1 * 3 : Nat) + (n2 * 3 : Nat)) x3), (mkInts (m + (n0 * 3 : Nat) + (n1 * 3 : Nat) + (n2 * 3 : Nat) + (n3 : Nat)) x4))) := Hid.mk (by unfold mkLks; simp only [hz0, hz1, hz2, hz3])
  obtain ⟨W, hW⟩ : ∃ W, W = w.alloc (.cells #[.slice a0 n0 c0, .slice a1 n1 c1, .slice a2 n2 c2, .slice a3 n3 c3, .slice a4 n4 c4] 30) := ⟨_, rfl⟩
  have B0 : Below w.heap.size w W := by rw [hW]; exact (Below.refl _ _).alloc (Nat.le_refl _) _
  have p1 : W.cell? ⟨w.heap.size, 1, none⟩ = some (.slice a1 n1 c1) := by rw [hW]; simp
  have p2 : W.cell? ⟨w.heap.size, 2, none⟩ = some (.slice a2 n2 c2) := by rw [hW]; simp
  have p3 : W.cell? ⟨w.heap.size, 3, none⟩ = some (.slice a3 n3 c3) := by rw [hW]; simp
  have p4 : W.cell? ⟨w.heap.size, 4, none⟩ = some (.slice a4 n4 c4) := by rw [hW]; simp
  have O0 := Hid.mk (RSteps.ownBelow o0 B0)
  have HF0 : Hid (¬ F0 w.heap.size) := fun h => by have := hF _ (f0 _ h); omega
  have HI0 := Hid.mk f0
  have O1 := Hid.mk (RSteps.ownBelow o1 B0)
  have HF1 : Hid (¬ F1 w.heap.size) := fun h => by have := hF _ (f1 _ h); omega
  have HI1 := Hid.mk f1
  have O2 := Hid.mk (RSteps.ownBelow o2 B0)
  have HF2 : Hid (¬ F2 w.heap.size) := fun h => by have := hF _ (f2 _ h); omega
  have HI2 := Hid.mk f2
  have O3 := Hid.mk (RInts.ownBelow o3 B0)
  have HF3 : Hid (¬ F3 w.heap.size) := fun h => by have := hF _ (f3 _ h); omega
  have HI3 := Hid.mk f3
  have O4 := Hid.mk (RInts.ownBelow o4 B0)
  have HF4 : Hid (¬ F4 w.heap.size) := fun h => by have := hF _ (f4 _ h); omega
  have HI4 := Hid.mk f4
  have HD01 := Hid.mk d01
  have HD02 := Hid.mk d02
  have HD03 := Hid.mk d03
  have HD04 := Hid.mk d04
  have HD12 := Hid.mk d12
  have HD13 := Hid.mk d13
  have HD14 := Hid.mk d14
  have HD23 := Hid.mk d23
  have HD24 := Hid.mk d24
  have HD34 := Hid.mk d34
  have HO : Hid (Off F w W) := Hid.mk (Off.below B0)
  clear o0 f0 o1 f1 o2 f2 o3 f3 o4 f4 d01 d02 d03 d04 d12 d13 d14 d23 d24 d34 hz0 hz1 hz2 hz3 hz4 hv B0 hF
  go_enter Tryd.func15, Tryd.ntmps15
  go_wp2_with fail
  rw [← hW]
  clear hW
  refine (markStepS_rep F0 a0 n0 c0 x0 m W hs0 (by omega) (by omega) O0.out).mono ?_
  rintro e w0 ⟨rfl, r0, g0⟩
  have p1 := g0.cell p1 HF0.out
  have p2 := g0.cell p2 HF0.out
  have p3 := g0.cell p3 HF0.out
  have p4 := g0.cell p4 HF0.out
  clear O0
  have O0 := Hid.mk r0
  have O1 := Hid.mk (RSteps.ownOff O1.out g0 (fun b hb h => HD01.out b h hb))
  have O2 := Hid.mk (RSteps.ownOff O2.out g0 (fun b hb h => HD02.out b h hb))
  have O3 := Hid.mk (RInts.ownOff O3.out g0 (fun b hb h => HD03.out b h hb))
  have O4 := Hid.mk (RInts.ownOff O4.out g0 (fun b hb h => HD04.out b h hb))
  have HO := Hid.mk (HO.out.trans (g0.mono HI0.out))
  clear r0 g0
  go_wp2_with fail
  refine (markStepS_rep F1 a1 n1 c1 x1 (m + (n0 * 3 : Nat)) w0 hs1 (by omega) (by omega) O1.out).mono ?_
  rintro e w1 ⟨rfl, r1, g1⟩
  have p2 := g1.cell p2 HF1.out
  have p3 := g1.cell p3 HF1.out
  have p4 := g1.cell p4 HF1.out
  clear O1
  have O1 := Hid.mk r1
  have O0 := Hid.mk (RSteps.ownOff O0.out g1 (fun b hb h => HD01.out b hb h))
  have O2 := Hid.mk (RSteps.ownOff O2.out g1 (fun b hb h => HD12.out b h hb))
  have O3 := Hid.mk (RInts.ownOff O3.out g1 (fun b hb h => HD13.out b h hb))
  have O4 := Hid.mk (RInts.ownOff O4.out g1 (fun b hb h => HD14.out b h hb))
  have HO := Hid.mk (HO.out.trans (g1.mono HI1.out))
  clear r1 g1
  go_wp2_with fail
  refine (markStepS_rep F2 a2 n2 c2 x2 (m + (n0 * 3 : Nat) + (n1 * 3 : Nat)) w1 hs2 (by omega) (by omega) O2.out).mono ?_
  rintro e w2 ⟨rfl, r2, g2⟩
  have p3 := g2.cell p3 HF2.out
  have p4 := g2.cell p4 HF2.out
  clear O2
  have O2 := Hid.mk r2
  have O0 := Hid.mk (RSteps.ownOff O0.out g2 (fun b hb h => HD02.out b hb h))
  have O1 := Hid.mk (RSteps.ownOff O1.out g2 (fun b hb h => HD12.out b hb h))
  have O3 := Hid.mk (RInts.ownOff O3.out g2 (fun b hb h => HD23.out b h hb))
  have O4 := Hid.mk (RInts.ownOff O4.out g2 (fun b hb h => HD24.out b h hb))
  have HO := Hid.mk (HO.out.trans (g2.mono HI2.out))
  clear r2 g2
  go_wp2_with fail
  refine (markInts_rep F3 a3 n3 c3 x3 (m + (n0 * 3 : Nat) + (n1 * 3 : Nat) + (n2 * 3 : Nat)) w2 hs3 (by omega) (by omega) O3.out).mono ?_
  rintro e w3 ⟨rfl, r3, g3⟩
  have p4 := g3.cell p4 HF3.out
  clear O3
  have O3 := Hid.mk r3
  have O0 := Hid.mk (RSteps.ownOff O0.out g3 (fun b hb h => HD03.out b hb h))
  have O1 := Hid.mk (RSteps.ownOff O1.out g3 (fun b hb h => HD13.out b hb h))
  have O2 := Hid.mk (RSteps.ownOff O2.out g3 (fun b hb h => HD23.out b hb h))
  have O4 := Hid.mk (RInts.ownOff O4.out g3 (fun b hb h => HD34.out b h hb))
  have HO := Hid.mk (HO.out.trans (g3.mono HI3.out))
  clear r3 g3
  go_wp2_with fail
  refine (markInts_rep F4 a4 n4 c4 x4 (m + (n0 * 3 : Nat) + (n1 * 3 : Nat) + (n2 * 3 : Nat) + (n3 : Nat)) w3 hs4 (by omega) (by omega) O4.out).mono ?_
  rintro e w4 ⟨rfl, r4, g4⟩
  clear O4
  have O4 := Hid.mk r4
  have O0 := Hid.mk (RSteps.ownOff O0.out g4 (fun b hb h => HD04.out b hb h))
  have O1 := Hid.mk (RSteps.ownOff O1.out g4 (fun b hb h => HD14.out b hb h))
  have O2 := Hid.mk (RSteps.ownOff O2.out g4 (fun b hb h => HD24.out b hb h))
  have O3 := Hid.mk (RInts.ownOff O3.out g4 (fun b hb h => HD34.out b hb h))
  have HO := Hid.mk (HO.out.trans (g4.mono HI4.out))
  clear r4 g4
  have HR : Hid (RLks.Own w4 F [.slice a0 n0 c0, .slice a1 n1 c1, .slice a2 n2 c2, .slice a3 n3 c3, .slice a4 n4 c4] (mkLks m (x0, x1, x2, x3, x4))) := Hid.mk (by
    rw [HMK.out]
    exact RLks.own_mk O0.out O1.out O2.out O3.out O4.out HI0.out HI1.out HI2.out HI3.out HI4.out HD01.out HD02.out HD03.out HD04.out HD12.out HD13.out HD14.out HD23.out HD24.out HD34.out)
  clear O0 O1 O2 O3 O4 HMK
  go_wp2
  go_ret
  exact ⟨ret_int (by push_cast; omega), HR.out, HO.out⟩

end Go.Proofs.YtjjebodlekepaaaDoor

/- What the laws count for locks; their bound. -/
namespace Go.Proofs.YtjjebodlekepaaaDoor
open Go.RowKit

theorem szLocks_rep (a0 a1 a2 a3 a4 : Option Addr) (n0 n1 n2 n3 n4 c0 c1 c2 c3 c4 : Nat) (x0 x1 x2 : List TStep) (x3 x4 : List Int) (l : Int) (w : World) (hz : x0.length = n0 ∧ x1.length = n1 ∧ x2.length = n2 ∧ x3.length = n3 ∧ x4.length = n4)
    (hn0 : n0 ≤ 9223372036854775807) (hn1 : n1 ≤ 9223372036854775807) (hn2 : n2 ≤ 9223372036854775807) (hn3 : n3 ≤ 9223372036854775807) (hn4 : n4 ≤ 9223372036854775807) (h0 : 0 ≤ l) (h1 : l ≤ 1048576) :
    Calls Tryd.prog 7 #[.agg #[.slice a0 n0 c0, .slice a1 n1 c1, .slice a2 n2 c2, .slice a3 n3 c3, .slice a4 n4 c4], .int .i64 l] w fun e w' => e = .returned (.int .i64 (leftOf l (lkcost (x0, x1, x2, x3, x4) : Nat))) ∧ Below w.heap.size w w' := by
  rw [show lkcost (x0, x1, x2, x3, x4) = n0 + n1 + n2 + n3 + n4 by unfold lkcost; simp only; rw [hz.1, hz.2.1, hz.2.2.1, hz.2.2.2.1, hz.2.2.2.2]]
  exact szLocks_any a0 a1 a2 a3 a4 n0 n1 n2 n3 n4 c0 c1 c2 c3 c4 l w hn0 hn1 hn2 hn3 hn4 h0 h1
theorem lks_small {x0 x1 x2 : List TStep} {x3 x4 : List Int} {n0 n1 n2 n3 n4 : Nat} (hz : x0.length = n0 ∧ x1.length = n1 ∧ x2.length = n2 ∧ x3.length = n3 ∧ x4.length = n4) (h : lkcost (x0, x1, x2, x3, x4) ≤ 1048576) :
    n0 ≤ 1048576 ∧ n1 ≤ 1048576 ∧ n2 ≤ 1048576 ∧ n3 ≤ 1048576 ∧ n4 ≤ 1048576 ∧ lkmk (x0, x1, x2, x3, x4) ≤ 3145728 := by
  obtain ⟨h0, h1, h2, h3, h4⟩ := hz
  unfold lkcost at h
  unfold lkmk
  simp only at h ⊢
  rw [h0, h1, h2, h3, h4] at h ⊢
  omega

end Go.Proofs.YtjjebodlekepaaaDoor

/- The law FnExactHasLock returns true at every input, and writes nothing that was there. -/
namespace Go.Proofs.YtjjebodlekepaaaDoor
open Go.RowKit

set_option maxRecDepth 100000 in
set_option maxHeartbeats 16000000 in
theorem lawHasLock (aa0 ba0 ca0 da0 ea0 : Option Addr) (an0 ac0 bn0 bc0 cn0 cc0 dn0 dc0 en0 ec0 : Nat) (z0 : TLk) (a1 : Int) (a2 : Int) (w : World) (ha0 : RLks.At w [.slice aa0 an0 ac0, .slice ba0 bn0 bc0, .slice ca0 cn0 cc0, .slice da0 dn0 dc0, .slice ea0 en0 ec0] z0) (_w1 : (Lit.int .i64 a1).wf = true) (_w2 : (Lit.int .i64 a2).wf = true) (htab : TabB w) :
    Calls Tryd.prog 6 #[.agg #[.slice aa0 an0 ac0, .slice ba0 bn0 bc0, .slice ca0 cn0 cc0, .slice da0 dn0 dc0, .slice ea0 en0 ec0], .int .i64 a1, .int .i64 a2] w fun e w' => e = .returned (.bool true) ∧ Below w.heap.size w w' := by
  obtain ⟨za0, zb0, zc0, zd0, ze0⟩ := z0
  obtain ⟨⟨lka1_0, lka2_0, lka3_0, _⟩, ⟨lkb1_0, lkb2_0, lkb3_0, _⟩, ⟨lkc1_0, lkc2_0, lkc3_0, _⟩, ⟨lkd1_0, lkd2_0, lkd3_0, _⟩, ⟨lke1_0, lke2_0, lke3_0, _⟩⟩ := RLks.at_iff ha0
  have HA0 := Hid.mk (And.intro lka3_0 (And.intro lkb3_0 (And.intro lkc3_0 (And.intro lkd3_0 lke3_0))))
  have HZ0 : Hid (za0.length = an0 ∧ zb0.length = bn0 ∧ zc0.length = cn0 ∧ zd0.length = dn0 ∧ ze0.length = en0) := Hid.mk ⟨lka1_0, lkb1_0, lkc1_0, lkd1_0, lke1_0⟩
  clear ha0 lka1_0 lka3_0 lkb1_0 lkb3_0 lkc1_0 lkc3_0 lkd1_0 lkd3_0 lke1_0 lke3_0
  have HTAB := Hid.mk htab
  clear htab
  obtain ⟨W, hW⟩ : ∃ W, W = w.alloc (.cells #[.slice aa0 an0 ac0, .slice ba0 bn0 bc0, .slice ca0 cn0 cc0, .slice da0 dn0 dc0, .slice ea0 en0 ec0] 25) := ⟨_, rfl⟩
  have B0 : Below w.heap.size w W := by rw [hW]; exact (Below.refl _ _).alloc (Nat.le_refl _) _
  have zW : w.heap.size < W.heap.size := by rw [hW]; simp
  have p00_0 : W.cell? ⟨w.heap.size, 0, none⟩ = some (.slice aa0 an0 ac0) := by rw [hW]; simp
  have p01_0 : W.cell? ⟨w.heap.size, 1, none⟩ = some (.slice ba0 bn0 bc0) := by rw [hW]; simp
  have p02_0 : W.cell? ⟨w.heap.size, 2, none⟩ = some (.slice ca0 cn0 cc0) := by rw [hW]; simp
  have p03_0 : W.cell? ⟨w.heap.size, 3, none⟩ = some (.slice da0 dn0 dc0) := by rw [hW]; simp
  have p04_0 : W.cell? ⟨w.heap.size, 4, none⟩ = some (.slice ea0 en0 ec0) := by rw [hW]; simp
  obtain ⟨C0, hC0⟩ : ∃ C : Nat, lkcost (za0, zb0, zc0, zd0, ze0) = C := ⟨_, rfl⟩
  have HC0 := Hid.mk hC0
  clear hC0
  by_cases big0 : (1048576 : Int) < (C0 : Int)
  · go_enter Tryd.func6, Tryd.ntmps6
    go_wp2_with fail
    rw [← hW]
    clear hW
    refine (szLocks_rep aa0 ba0 ca0 da0 ea0 an0 bn0 cn0 dn0 en0 ac0 bc0 cc0 dc0 ec0 za0 zb0 zc0 zd0 ze0 _ _ HZ0.out lka2_0 lkb2_0 lkc2_0 lkd2_0 lke2_0 (by omega) (by omega)).mono ?_
    rintro e v0 ⟨rfl, hv0⟩
    rw [HC0.out, leftOf_no big0]
    have y0 := B0.trans (hv0.mono B0.size)
    go_wp2
    go_ret
    exact ⟨rfl, y0⟩
  have hl0 : ¬ (1048576 : Int) - (C0 : Int) < 0 := by omega
  have HSM0 : Hid (an0 ≤ 1048576 ∧ bn0 ≤ 1048576 ∧ cn0 ≤ 1048576 ∧ dn0 ≤ 1048576 ∧ en0 ≤ 1048576 ∧ lkmk (za0, zb0, zc0, zd0, ze0) ≤ 3145728) := Hid.mk (lks_small HZ0.out (by have := HC0.out; omega))
  have hsa0 := HSM0.out.1
  have hsb0 := HSM0.out.2.1
  have hsc0 := HSM0.out.2.2.1
  have hsd0 := HSM0.out.2.2.2.1
  have hse0 := HSM0.out.2.2.2.2.1
  have HVB0 := HSM0.out.2.2.2.2.2
  obtain ⟨V0, hV0⟩ : ∃ V : Nat, lkmk (za0, zb0, zc0, zd0, ze0) = V := ⟨_, rfl⟩
  rw [hV0] at HVB0
  have HV0 := Hid.mk hV0
  clear hV0
  obtain ⟨b1, b2, HS, HI⟩ : ∃ (b1 : Int) (b2 : Bool), Hid (∀ (xa0 xb0 xc0 xd0 xe0 : Nat) (w : World) (F0 : Nat → Prop), RLks.Own w F0 [.slice (some ⟨xa0, 0, none⟩) an0 an0, .slice (some ⟨xb0, 0, none⟩) bn0 bn0, .slice (some ⟨xc0, 0, none⟩) cn0 cn0, .slice (some ⟨xd0, 0, none⟩) dn0 dn0, .slice (some ⟨xe0, 0, none⟩) en0 en0] (za0, zb0, zc0, zd0, ze0) → Calls Tryd.prog 23 #[.agg #[.slice (some ⟨xa0, 0, none⟩) an0 an0, .slice (some ⟨xb0, 0, none⟩) bn0 bn0, .slice (some ⟨xc0, 0, none⟩) cn0 cn0, .slice (some ⟨xd0, 0, none⟩) dn0 dn0, .slice (some ⟨xe0, 0, none⟩) en0 en0], .int .i64 a1, .int .i64 a2] w fun e w' => e = .returned (.tuple #[.int .i64 b1, .bool b2]) ∧ Below w.heap.size w w') ∧ Hid (∀ (xa0 xb0 xc0 xd0 xe0 : Nat) (w : World) (F0 : Nat → Prop), RLks.Own w F0 [.slice (some ⟨xa0, 0, none⟩) an0 an0, .slice (some ⟨xb0, 0, none⟩) bn0 bn0, .slice (some ⟨xc0, 0, none⟩) cn0 cn0, .slice (some ⟨xd0, 0, none⟩) dn0 dn0, .slice (some ⟨xe0, 0, none⟩) en0 en0] (za0, zb0, zc0, zd0, ze0) → TabB w → Calls Tryd.prog 24 #[.agg #[.slice (some ⟨xa0, 0, none⟩) an0 an0, .slice (some ⟨xb0, 0, none⟩) bn0 bn0, .slice (some ⟨xc0, 0, none⟩) cn0 cn0, .slice (some ⟨xd0, 0, none⟩) dn0 dn0, .slice (some ⟨xe0, 0, none⟩) en0 en0], .int .i64 a1, .int .i64 a2] w fun e w' => e = .returned (.tuple #[.int .i64 b1, .bool b2]) ∧ Below w.heap.size w w') := ⟨(hlO (za0, zb0, zc0, zd0, ze0) a1 a2).getD 0, (hlO (za0, zb0, zc0, zd0, ze0) a1 a2).isSome, fun xa0 xb0 xc0 xd0 xe0 w F0 o0 => specHasLock (some ⟨xa0, 0, none⟩) (some ⟨xb0, 0, none⟩) (some ⟨xc0, 0, none⟩) (some ⟨xd0, 0, none⟩) (some ⟨xe0, 0, none⟩) an0 an0 bn0 bn0 cn0 cn0 dn0 dn0 en0 en0 za0 zb0 zc0 zd0 ze0 a1 a2 w HZ0.out.1 hsa0 (Nat.le_refl _) (fun h => by cases h) (lks_at o0).1 HZ0.out.2.1 hsb0 (Nat.le_refl _) (fun h => by cases h) (lks_at o0).2.1 HZ0.out.2.2.1 hsc0 (Nat.le_refl _) (fun h => by cases h) (lks_at o0).2.2.1 HZ0.out.2.2.2.1 hsd0 (Nat.le_refl _) (fun h => by cases h) (lks_at o0).2.2.2.1 HZ0.out.2.2.2.2 hse0 (Nat.le_refl _) (fun h => by cases h) (lks_at o0).2.2.2.2, fun xa0 xb0 xc0 xd0 xe0 w F0 o0 ht => implHasLock (some ⟨xa0, 0, none⟩) (some ⟨xb0, 0, none⟩) (some ⟨xc0, 0, none⟩) (some ⟨xd0, 0, none⟩) (some ⟨xe0, 0, none⟩) an0 an0 bn0 bn0 cn0 cn0 dn0 dn0 en0 en0 za0 zb0 zc0 zd0 ze0 a1 a2 w HZ0.out.1 hsa0 (Nat.le_refl _) (fun h => by cases h) (lks_at o0).1 HZ0.out.2.1 hsb0 (Nat.le_refl _) (fun h => by cases h) (lks_at o0).2.1 HZ0.out.2.2.1 hsc0 (Nat.le_refl _) (fun h => by cases h) (lks_at o0).2.2.1 HZ0.out.2.2.2.1 hsd0 (Nat.le_refl _) (fun h => by cases h) (lks_at o0).2.2.2.1 HZ0.out.2.2.2.2 hse0 (Nat.le_refl _) (fun h => by cases h) (lks_at o0).2.2.2.2 ht⟩
  go_enter Tryd.func6, Tryd.ntmps6
  go_wp2_with fail
  rw [← hW]
  clear hW
  refine (szLocks_rep aa0 ba0 ca0 da0 ea0 an0 bn0 cn0 dn0 en0 ac0 bc0 cc0 dc0 ec0 za0 zb0 zc0 zd0 ze0 _ _ HZ0.out lka2_0 lkb2_0 lkc2_0 lkd2_0 lke2_0 (by omega) (by omega)).mono ?_
  rintro e w1 ⟨rfl, hb1⟩
  rw [HC0.out, leftOf_yes (by omega)]
  have p00_1 := cell_later hb1 p00_0
  have p01_1 := cell_later hb1 p01_0
  have p02_1 := cell_later hb1 p02_0
  have p03_1 := cell_later hb1 p03_0
  have p04_1 := cell_later hb1 p04_0
  have B_1 := B0.trans (hb1.mono B0.size)
  have zz1 : W.heap.size ≤ w1.heap.size := hb1.size
  clear p00_0 p01_0 p02_0 p03_0 p04_0
  clear hb1
  go_wp2_with fail
  refine (toLocks_any aa0 ba0 ca0 da0 ea0 an0 bn0 cn0 dn0 en0 ac0 bc0 cc0 dc0 ec0 za0 zb0 zc0 zd0 ze0 _ HZ0.out.1 HZ0.out.2.1 HZ0.out.2.2.1 HZ0.out.2.2.2.1 HZ0.out.2.2.2.2 hsa0 hsb0 hsc0 hsd0 hse0 (At.below HA0.out.1 B_1) (At.below HA0.out.2.1 B_1) (At.below HA0.out.2.2.1 B_1) (At.below HA0.out.2.2.2.1 B_1) (At.below HA0.out.2.2.2.2 B_1)).mono ?_
  rintro e w2 ⟨g2_1, g2_2, g2_3, g2_4, g2_5, rfl, ho2, hb2⟩
  have ot0_2 := Hid.mk ho2
  clear ho2
  have p00_2 := cell_later hb2 p00_1
  have p01_2 := cell_later hb2 p01_1
  have p02_2 := cell_later hb2 p02_1
  have p03_2 := cell_later hb2 p03_1
  have p04_2 := cell_later hb2 p04_1
  have B_2 := B_1.trans (hb2.mono B_1.size)
  have zz2 : w1.heap.size ≤ w2.heap.size := hb2.size
  clear p00_1 p01_1 p02_1 p03_1 p04_1 B_1
  clear hb2
  go_wp2_with fail
  refine (HS.out _ _ _ _ _ _ _ ot0_2.out).mono ?_
  rintro e w3 ⟨rfl, hb3⟩
  clear ot0_2
  have p00_3 := cell_later hb3 p00_2
  have p01_3 := cell_later hb3 p01_2
  have p02_3 := cell_later hb3 p02_2
  have p03_3 := cell_later hb3 p03_2
  have p04_3 := cell_later hb3 p04_2
  have B_3 := B_2.trans (hb3.mono B_2.size)
  have zz3 : w2.heap.size ≤ w3.heap.size := hb3.size
  clear p00_2 p01_2 p02_2 p03_2 p04_2 B_2
  clear hb3
  go_wp2_with fail
  refine (toLocks_any aa0 ba0 ca0 da0 ea0 an0 bn0 cn0 dn0 en0 ac0 bc0 cc0 dc0 ec0 za0 zb0 zc0 zd0 ze0 _ HZ0.out.1 HZ0.out.2.1 HZ0.out.2.2.1 HZ0.out.2.2.2.1 HZ0.out.2.2.2.2 hsa0 hsb0 hsc0 hsd0 hse0 (At.below HA0.out.1 B_3) (At.below HA0.out.2.1 B_3) (At.below HA0.out.2.2.1 B_3) (At.below HA0.out.2.2.2.1 B_3) (At.below HA0.out.2.2.2.2 B_3)).mono ?_
  rintro e w4 ⟨g4_1, g4_2, g4_3, g4_4, g4_5, rfl, ho4, hb4⟩
  have ox0_4 := Hid.mk ho4
  clear ho4
  have p00_4 := cell_later hb4 p00_3
  have p01_4 := cell_later hb4 p01_3
  have p02_4 := cell_later hb4 p02_3
  have p03_4 := cell_later hb4 p03_3
  have p04_4 := cell_later hb4 p04_3
  have B_4 := B_3.trans (hb4.mono B_3.size)
  have zz4 : w3.heap.size ≤ w4.heap.size := hb4.size
  clear p00_3 p01_3 p02_3 p03_3 p04_3 B_3
  clear hb4
  obtain ⟨w5, hU5⟩ : ∃ u, u = w4.alloc (.cells #[.slice (some ⟨g4_1, 0, none⟩) an0 an0, .slice (some ⟨g4_2, 0, none⟩) bn0 bn0, .slice (some ⟨g4_3, 0, none⟩) cn0 cn0, .slice (some ⟨g4_4, 0, none⟩) dn0 dn0, .slice (some ⟨g4_5, 0, none⟩) en0 en0] 30) := ⟨_, rfl⟩
  have hb5 : Below w4.heap.size w4 w5 := by rw [hU5]; exact (Below.refl _ _).alloc (Nat.le_refl _) _
  have zl5 : w4.heap.size < w5.heap.size := by rw [hU5]; simp
  have nX00 : w5.cell? ⟨w4.heap.size, 0, none⟩ = some (.slice (some ⟨g4_1, 0, none⟩) an0 an0) := by rw [hU5]; simp
  have nX01 : w5.cell? ⟨w4.heap.size, 1, none⟩ = some (.slice (some ⟨g4_2, 0, none⟩) bn0 bn0) := by rw [hU5]; simp
  have nX02 : w5.cell? ⟨w4.heap.size, 2, none⟩ = some (.slice (some ⟨g4_3, 0, none⟩) cn0 cn0) := by rw [hU5]; simp
  have nX03 : w5.cell? ⟨w4.heap.size, 3, none⟩ = some (.slice (some ⟨g4_4, 0, none⟩) dn0 dn0) := by rw [hU5]; simp
  have nX04 : w5.cell? ⟨w4.heap.size, 4, none⟩ = some (.slice (some ⟨g4_5, 0, none⟩) en0 en0) := by rw [hU5]; simp
  have p00_5 := cell_later hb5 p00_4
  have p01_5 := cell_later hb5 p01_4
  have p02_5 := cell_later hb5 p02_4
  have p03_5 := cell_later hb5 p03_4
  have p04_5 := cell_later hb5 p04_4
  have ox0_5 := Hid.mk (RLks.ownBelow ox0_4.out hb5)
  have B_5 := B_4.trans (hb5.mono B_4.size)
  have zz5 : w4.heap.size ≤ w5.heap.size := hb5.size
  clear p00_4 p01_4 p02_4 p03_4 p04_4 ox0_4 B_4
  clear hb5
  have xp00 := p00_5
  rw [hU5] at xp00
  have xp01 := p01_5
  rw [hU5] at xp01
  have xp02 := p02_5
  rw [hU5] at xp02
  have xp03 := p03_5
  rw [hU5] at xp03
  have xp04 := p04_5
  rw [hU5] at xp04
  have xX00 := nX00
  rw [hU5] at xX00
  have xX01 := nX01
  rw [hU5] at xX01
  have xX02 := nX02
  rw [hU5] at xX02
  have xX03 := nX03
  rw [hU5] at xX03
  have xX04 := nX04
  rw [hU5] at xX04
  go_wp2_with fail
  rw [← hU5]
  clear hU5
  clear xp00 xp01 xp02 xp03 xp04 xX00 xX01 xX02 xX03 xX04
  refine (HI.out _ _ _ _ _ _ _ ox0_5.out (TabIs.below HTAB.out B_5)).mono ?_
  rintro e w6 ⟨rfl, hb6⟩
  have p00_6 := cell_later hb6 p00_5
  have p01_6 := cell_later hb6 p01_5
  have p02_6 := cell_later hb6 p02_5
  have p03_6 := cell_later hb6 p03_5
  have p04_6 := cell_later hb6 p04_5
  have X00_6 := cell_later hb6 nX00
  have X01_6 := cell_later hb6 nX01
  have X02_6 := cell_later hb6 nX02
  have X03_6 := cell_later hb6 nX03
  have X04_6 := cell_later hb6 nX04
  have ox0_6 := Hid.mk (RLks.ownBelow ox0_5.out hb6)
  have B_6 := B_5.trans (hb6.mono B_5.size)
  have zz6 : w5.heap.size ≤ w6.heap.size := hb6.size
  clear p00_5 p01_5 p02_5 p03_5 p04_5 nX00 nX01 nX02 nX03 nX04 ox0_5 B_5
  clear hb6
  go_wp2_with fail
  refine wp_region_held_drew (S := fun w' => w'.cell? ⟨w4.heap.size, 0, none⟩ = some (.slice (some ⟨g4_1, 0, none⟩) an0 an0) ∧ w'.cell? ⟨w4.heap.size, 1, none⟩ = some (.slice (some ⟨g4_2, 0, none⟩) bn0 bn0) ∧ w'.cell? ⟨w4.heap.size, 2, none⟩ = some (.slice (some ⟨g4_3, 0, none⟩) cn0 cn0) ∧ w'.cell? ⟨w4.heap.size, 3, none⟩ = some (.slice (some ⟨g4_4, 0, none⟩) dn0 dn0) ∧ w'.cell? ⟨w4.heap.size, 4, none⟩ = some (.slice (some ⟨g4_5, 0, none⟩) en0 en0) ∧ w'.cell? ⟨w.heap.size, 0, none⟩ = some (.slice aa0 an0 ac0) ∧ w'.cell? ⟨w.heap.size, 1, none⟩ = some (.slice ba0 bn0 bc0) ∧ w'.cell? ⟨w.heap.size, 2, none⟩ = some (.slice ca0 cn0 cc0) ∧ w'.cell? ⟨w.heap.size, 3, none⟩ = some (.slice da0 dn0 dc0) ∧ w'.cell? ⟨w.heap.size, 4, none⟩ = some (.slice ea0 en0 ec0)) (by kernel_rfl) ?_ (fun hHeld => ?_)
  · (try dsimp only)
    exact ⟨X00_6, X01_6, X02_6, X03_6, X04_6, p00_6, p01_6, p02_6, p03_6, p04_6⟩
  refine tk 0 ?_
  refine tk 1 ?_
  refine wpAnyH_ready (rs := [2]) (by kernel_rfl) (by simp) ?_
  refine AllReadyH.cons (o := ?_) ?_ (fun K hK => ?_) AllReadyH.nil
  rotate_left
  · (simp only [List.getElem?_toArray, List.getElem?_cons_zero, List.getElem?_cons_succ]; rfl)
  go_simp
  go_at_call 9
  refine (toLocks_any aa0 ba0 ca0 da0 ea0 an0 bn0 cn0 dn0 en0 ac0 bc0 cc0 dc0 ec0 za0 zb0 zc0 zd0 ze0 _ HZ0.out.1 HZ0.out.2.1 HZ0.out.2.2.1 HZ0.out.2.2.2.1 HZ0.out.2.2.2.2 hsa0 hsb0 hsc0 hsd0 hse0 (At.below HA0.out.1 B_6.drew) (At.below HA0.out.2.1 B_6.drew) (At.below HA0.out.2.2.1 B_6.drew) (At.below HA0.out.2.2.2.1 B_6.drew) (At.below HA0.out.2.2.2.2 B_6.drew)).mono ?_
  rintro e w7 ⟨g7_1, g7_2, g7_3, g7_4, g7_5, rfl, ho7, hd7⟩
  have hb7 : Below w6.heap.size w6 w7 := (Below.refl _ _).drew.trans hd7
  clear hd7
  have oy_7 := Hid.mk ho7
  clear ho7
  have p00_7 := cell_later hb7 p00_6
  have p01_7 := cell_later hb7 p01_6
  have p02_7 := cell_later hb7 p02_6
  have p03_7 := cell_later hb7 p03_6
  have p04_7 := cell_later hb7 p04_6
  have X00_7 := cell_later hb7 X00_6
  have X01_7 := cell_later hb7 X01_6
  have X02_7 := cell_later hb7 X02_6
  have X03_7 := cell_later hb7 X03_6
  have X04_7 := cell_later hb7 X04_6
  have ox0_7 := Hid.mk (RLks.ownBelow ox0_6.out hb7)
  have B_7 := B_6.trans (hb7.mono B_6.size)
  have zz7 : w6.heap.size ≤ w7.heap.size := hb7.size
  clear p00_6 p01_6 p02_6 p03_6 p04_6 X00_6 X01_6 X02_6 X03_6 X04_6 ox0_6 B_6
  clear hb7
  (try go_wp2_with fail)
  refine hK.out _ _ ?_ (fun hHeld' => ?_)
  · (try dsimp only)
    exact ⟨X00_7, X01_7, X02_7, X03_7, X04_7, p00_7, p01_7, p02_7, p03_7, p04_7⟩
  clear hK K hHeld
  have hHeld := hHeld'
  clear hHeld'
  (try simp only [Act.put, List.setIfInBounds_toArray, List.set_cons_zero, List.set_cons_succ])
  refine wpAnyH_ready (rs := [3]) (by kernel_rfl) (by simp) ?_
  refine AllReadyH.cons (o := ?_) ?_ (fun K hK => ?_) AllReadyH.nil
  rotate_left
  · (simp only [List.getElem?_toArray, List.getElem?_cons_zero, List.getElem?_cons_succ]; rfl)
  go_simp
  go_at_call 11
  refine (eqLocks_same _ _ _ _ _ _ _ _ _ _ an0 bn0 cn0 dn0 en0 _ _ _ _ _ _ _ _ _ _ za0 zb0 zc0 zd0 ze0 _ HZ0.out.1 HZ0.out.2.1 HZ0.out.2.2.1 HZ0.out.2.2.2.1 HZ0.out.2.2.2.2 hsa0 hsb0 hsc0 hsd0 hse0 (lks_at ox0_7.out).1 (lks_at oy_7.out).1 (lks_at ox0_7.out).2.1 (lks_at oy_7.out).2.1 (lks_at ox0_7.out).2.2.1 (lks_at oy_7.out).2.2.1 (lks_at ox0_7.out).2.2.2.1 (lks_at oy_7.out).2.2.2.1 (lks_at ox0_7.out).2.2.2.2 (lks_at oy_7.out).2.2.2.2).mono ?_
  rintro e w8 ⟨rfl, hb8⟩
  clear oy_7
  have p00_8 := cell_later hb8 p00_7
  have p01_8 := cell_later hb8 p01_7
  have p02_8 := cell_later hb8 p02_7
  have p03_8 := cell_later hb8 p03_7
  have p04_8 := cell_later hb8 p04_7
  have X00_8 := cell_later hb8 X00_7
  have X01_8 := cell_later hb8 X01_7
  have X02_8 := cell_later hb8 X02_7
  have X03_8 := cell_later hb8 X03_7
  have X04_8 := cell_later hb8 X04_7
  have ox0_8 := Hid.mk (RLks.ownBelow ox0_7.out hb8)
  have B_8 := B_7.trans (hb8.mono B_7.size)
  have zz8 : w7.heap.size ≤ w8.heap.size := hb8.size
  clear p00_7 p01_7 p02_7 p03_7 p04_7 X00_7 X01_7 X02_7 X03_7 X04_7 ox0_7 B_7
  clear hb8
  (try go_wp2_with fail)
  refine hK.out _ _ ?_ (fun hHeld' => ?_)
  · (try dsimp only)
    exact ⟨X00_8, X01_8, X02_8, X03_8, X04_8, p00_8, p01_8, p02_8, p03_8, p04_8⟩
  clear hK K hHeld
  have hHeld := hHeld'
  clear hHeld'
  (try simp only [Act.put, List.setIfInBounds_toArray, List.set_cons_zero, List.set_cons_succ])
  refine tk 4 ?_
  refine wpAnyH_done (by kernel_rfl) ?_ _
  clear hHeld
  go_wp2
  go_ret
  exact ⟨rfl, B_8⟩

end Go.Proofs.YtjjebodlekepaaaDoor

/- Opening the laws' arguments: rows, slices of ints; plain facts on readings. -/
namespace Go.Proofs.YtjjebodlekepaaaDoor
open Go.ChangeShapes Go.WideShapes Go.ChangeAt Go.RowKit Go.Joins Go.Deep

section
variable {H : Type} {enc : TypeId × Value → H} {P : Program} {w : World} {base : Nat} {spare : Nat → Bool} {held : Bool}

theorem array1 {α : Type} {cs : Array α} (h : cs.size = 1) : ∃ c0, cs = #[c0] := by
  obtain ⟨l⟩ := cs
  match l, h with
  | [c0], _ => exact ⟨c0, rfl⟩

theorem open_agg1 {r : Reach} {b0 : Nat} {t : TypeId} {f0 : Field} {v : Value} {d : DataW H} {p : List MemPlace} (hs : P.underlying t = some (.struct #[f0])) (hone : oneCellFields P #[f0] = true) (hC : P.cellsOf t = 1)
    (hv : Value.okWide P w r b0 t v) (h : DataW.Trod enc P w base spare held t v d p) :
    ∃ (v0 : Value) (y0 : DataW H × List MemPlace) (n : Nat), v = .agg #[v0] ∧ d = .agg [y0.1] ∧ p = y0.2 ∧ DataW.trod enc P w base spare held n f0.type [v0] = some y0 := by
  obtain ⟨cs, rfl, hsz⟩ := okWide_struct hs hv
  obtain ⟨c0, rfl⟩ := array1 (hsz.trans hC)
  obtain ⟨fuel, hf⟩ := h
  obtain ⟨y0, n, hx, _, h0⟩ := trod_struct1 hs hf
  obtain ⟨o0, k0⟩ := hone_of hone 0 f0 rfl
  simp only [Prod.mk.injEq] at hx
  exact ⟨c0, y0, n, rfl, hx.1, hx.2, by simpa [Value.cells, o0, k0] using h0⟩

/-- A slice of ints that reads: its numbers. -/
theorem open_at {t e : TypeId} {fuel n c : Nat} {a : Option Addr} {x : DataW H × List MemPlace} (ht : P.underlying t = some (.slice e)) (he : P.underlying e = some (.int .i64)) (hC : P.cellsOf e = 1)
    (h : DataW.trod enc P w base spare held fuel t [.slice a n c] = some x) : ∃ zs : List Int, zs.length = n ∧ n ≤ 9223372036854775807 ∧ At w a zs := by
  rcases open_ints ht he hC h with ⟨hcs, _⟩ | ⟨ad, l, c', zs, hcs, _, hl, hm, hz, _, hcell, _⟩
  · simp at hcs
    obtain ⟨rfl, rfl, rfl⟩ := hcs
    exact ⟨[], rfl, by omega, At.nil _ _⟩
  · simp at hcs
    obtain ⟨rfl, rfl, rfl⟩ := hcs
    unfold maxLen at hm
    have hz' : n ≤ zs.length := by split at hz <;> omega
    refine ⟨zs.take n, by simp; omega, by omega, ?_⟩
    by_cases h0 : n = 0
    · left; simp [h0]
    · right
      obtain ⟨b, off, spot⟩ := ad
      have hc := hcell 0 (by omega)
      have hspot : spot = none := by simpa [Addr.add] using World.cell?_spot hc
      subst hspot
      refine ⟨b, off, rfl, fun i hi => ?_⟩
      have hin : i < n := by simp at hi; omega
      have := hcell i (by omega)
      rw [show (zs.take n).getD i 0 = zs.getD i 0 by simp [List.getD, hin]]
      rw [Addr.add_lit] at this
      exact this

/-- A struct of one slice of ints, by value. -/
theorem open_row {r : Reach} {b0 : Nat} {t ts e : TypeId} {f0 : Field} {v : Value} {d : DataW H} {p : List MemPlace} (hs : P.underlying t = some (.struct #[f0])) (hf0 : f0.type = ts) (hone : oneCellFields P #[f0] = true) (hC : P.cellsOf t = 1)
    (ht : P.underlying ts = some (.slice e)) (he : P.underlying e = some (.int .i64)) (hCe : P.cellsOf e = 1)
    (hv : Value.okWide P w r b0 t v) (h : DataW.Trod enc P w base spare held t v d p) : ∃ a n c, v = .agg #[.slice a n c] ∧ ∃ zs : List Int, zs.length = n ∧ n ≤ 9223372036854775807 ∧ At w a zs := by
  obtain ⟨v0, y0, m, rfl, _, _, h0⟩ := open_agg1 hs hone hC hv h
  subst hf0
  obtain ⟨a, n, c, hcs⟩ := slice_form ht h0
  obtain rfl : v0 = .slice a n c := by simpa using hcs
  exact ⟨a, n, c, rfl, open_at ht he hCe h0⟩
end

end Go.Proofs.YtjjebodlekepaaaDoor

/- Opening things in memory among the laws' arguments, by their shape. -/
namespace Go.Proofs.YtjjebodlekepaaaDoor
open Go.ChangeShapes Go.WideShapes Go.ChangeAt Go.RowKit Go.Joins Go.Deep

section
variable {H : Type} (enc : TypeId × Value → H) (P : Program) (w : World) (base : Nat) (held : Bool)
/-- Whatever reads as a value of type t is such a thing. -/
def Opens {α : Type} (t : TypeId) (A : Rep α) : Prop := ∀ fuel cs x, DataW.trod enc P w base (fun _ => true) held fuel t cs = some x → ∃ y, A.At w cs y
variable {enc P w base held}

theorem Opens.int {t : TypeId} (ht : P.underlying t = some (.int .i64)) : Opens enc P w base held t Rep.int := fun fuel cs x h => by
  obtain ⟨z, hz, _, _⟩ := DataW.trod_int ht h
  exact ⟨z, hz⟩

theorem Opens.slice {α : Type} [Inhabited α] {A : Rep α} {t e e' : TypeId} (ht : P.underlying t = some (.slice e)) (ce : P.cellsOf e = A.k) (hA : Opens enc P w base held e A) (hk : 0 < A.k) : Opens enc P w base held t (Rep.slice e' A) := fun fuel cs x h => by
  rcases open_slice ht h with ⟨rfl, _⟩ | ⟨ad, len, cap, m, k, D, Pl, rfl, _, hl, hm, hmm, _, hx⟩
  · exact ⟨[], none, 0, 0, rfl, rfl, by omega, .inl rfl, fun _ => rfl⟩
  · simp only [if_true] at hmm
    subst hmm
    unfold maxLen at hm
    have each : ∀ i, i < len → ∃ y : α × List Value, (∀ j v, y.2[j]? = some v → w.cell? (ad.add (i * A.k + j)) = some v) ∧ A.At w y.2 y.1 ∧ y.2.length = A.k := by
      intro i hi
      obtain ⟨cs', h1, h2⟩ := hx i (by omega)
      rw [ce] at h1
      obtain ⟨_, hlen, hcell⟩ := World.cells?_some h1
      obtain ⟨y, hy⟩ := hA _ _ _ h2
      refine ⟨(y, cs'), fun j v hv => ?_, hy, by simpa using hlen⟩
      have hj := (List.getElem?_eq_some_iff.1 hv).1
      have := hcell j (by have h5 : cs'.length = A.k := hlen; have h6 : j < cs'.length := hj; omega)
      rw [add_add] at this
      rw [this]
      simpa using hv
    obtain ⟨y, hy⟩ := choose_lt each
    refine ⟨(List.range len).map fun i => (y i).1, some ad, len, _, rfl, by simp, by omega, ?_, fun h => by cases h⟩
    by_cases h0 : len = 0
    · left; simp [h0]
    · right
      obtain ⟨b, off, spot⟩ := ad
      obtain ⟨e1, _, e3⟩ := hy 0 (by omega)
      obtain ⟨v0, hv0⟩ : ∃ v0, (y 0).2[0]? = some v0 := ⟨_, List.getElem?_eq_getElem (by omega)⟩
      have hc0 := e1 0 v0 hv0
      have hspot : spot = none := by simpa [Addr.add] using World.cell?_spot hc0
      subst hspot
      refine ⟨b, off, rfl, fun i x hx' => ?_⟩
      have hi : i < len := by have := (List.getElem?_eq_some_iff.1 hx').1; simpa using this
      obtain ⟨k1, k2, _⟩ := hy i hi
      have hxe : (y i).1 = x := by simpa [hi] using hx'
      refine ⟨(y i).2, fun j v hv => ?_, hxe ▸ k2⟩
      have := k1 j v hv
      rw [Addr.add_lit] at this
      rw [Nat.add_assoc]; exact this

theorem take_one {cs : List Value} {v : Value} (i : Nat) (h : cs[i]? = some v) : (cs.drop i).take 1 = [v] := by
  obtain ⟨hi, rfl⟩ := List.getElem?_eq_some_iff.1 h
  rw [List.drop_eq_getElem_cons hi]; rfl

theorem Opens.struct2 {α β : Type} {A : Rep α} {B : Rep β} {t : TypeId} {f0 f1 : Field} (ht : P.underlying t = some (.struct #[f0, f1])) (hC : P.cellsOf t = 2) (o0 : f0.offset = 0) (o1 : f1.offset = 1)
    (c0 : P.cellsOf f0.type = 1) (c1 : P.cellsOf f1.type = 1) (h0 : Opens enc P w base held f0.type A) (h1 : Opens enc P w base held f1.type B) : Opens enc P w base held t (Rep.pair A B) := fun fuel cs x h => by
  obtain ⟨xs, n, _, rfl, hl, hlen, hf⟩ := DataW.trod_struct ht h
  match xs, hlen, cs, hl.trans hC with
  | [y0, y1], _, [v0, v1], _ =>
    have g0 := hf 0 f0 rfl
    have g1 := hf 1 f1 rfl
    simp [o0, o1, c0, c1] at g0 g1
    obtain ⟨x0, q0⟩ := h0 _ _ _ g0
    obtain ⟨x1, q1⟩ := h1 _ _ _ g1
    exact ⟨(x0, x1), [v0], [v1], rfl, q0, q1⟩

theorem Opens.struct3 {α β γ : Type} {A : Rep α} {B : Rep β} {C : Rep γ} {t : TypeId} {f0 f1 f2 : Field} (ht : P.underlying t = some (.struct #[f0, f1, f2])) (hC : P.cellsOf t = 3) (o0 : f0.offset = 0) (o1 : f1.offset = 1) (o2 : f2.offset = 2)
    (c0 : P.cellsOf f0.type = 1) (c1 : P.cellsOf f1.type = 1) (c2 : P.cellsOf f2.type = 1) (h0 : Opens enc P w base held f0.type A) (h1 : Opens enc P w base held f1.type B) (h2 : Opens enc P w base held f2.type C) : Opens enc P w base held t (Rep.pair A (Rep.pair B C)) := fun fuel cs x h => by
  obtain ⟨xs, n, _, rfl, hl, hlen, hf⟩ := DataW.trod_struct ht h
  match xs, hlen, cs, hl.trans hC with
  | [y0, y1, y2], _, [v0, v1, v2], _ =>
    have g0 := hf 0 f0 rfl
    have g1 := hf 1 f1 rfl
    have g2 := hf 2 f2 rfl
    simp [o0, o1, o2, c0, c1, c2] at g0 g1 g2
    obtain ⟨x0, q0⟩ := h0 _ _ _ g0
    obtain ⟨x1, q1⟩ := h1 _ _ _ g1
    obtain ⟨x2, q2⟩ := h2 _ _ _ g2
    exact ⟨(x0, x1, x2), [v0], _, rfl, q0, [v1], [v2], rfl, q1, q2⟩

theorem Opens.struct6 {α β γ δ ε ζ : Type} {A : Rep α} {B : Rep β} {C : Rep γ} {D : Rep δ} {E : Rep ε} {Z : Rep ζ} {t : TypeId} {f0 f1 f2 f3 f4 f5 : Field} (ht : P.underlying t = some (.struct #[f0, f1, f2, f3, f4, f5])) (hC : P.cellsOf t = 6)
    (o0 : f0.offset = 0) (o1 : f1.offset = 1) (o2 : f2.offset = 2) (o3 : f3.offset = 3) (o4 : f4.offset = 4) (o5 : f5.offset = 5)
    (c0 : P.cellsOf f0.type = 1) (c1 : P.cellsOf f1.type = 1) (c2 : P.cellsOf f2.type = 1) (c3 : P.cellsOf f3.type = 1) (c4 : P.cellsOf f4.type = 1) (c5 : P.cellsOf f5.type = 1)
    (h0 : Opens enc P w base held f0.type A) (h1 : Opens enc P w base held f1.type B) (h2 : Opens enc P w base held f2.type C) (h3 : Opens enc P w base held f3.type D) (h4 : Opens enc P w base held f4.type E) (h5 : Opens enc P w base held f5.type Z) :
    Opens enc P w base held t (Rep.pair A (Rep.pair B (Rep.pair C (Rep.pair D (Rep.pair E Z))))) := fun fuel cs x h => by
  obtain ⟨xs, n, _, rfl, hl, hlen, hf⟩ := DataW.trod_struct ht h
  match xs, hlen, cs, hl.trans hC with
  | [y0, y1, y2, y3, y4, y5], _, [v0, v1, v2, v3, v4, v5], _ =>
    have g0 := hf 0 f0 rfl
    have g1 := hf 1 f1 rfl
    have g2 := hf 2 f2 rfl
    have g3 := hf 3 f3 rfl
    have g4 := hf 4 f4 rfl
    have g5 := hf 5 f5 rfl
    simp [o0, o1, o2, o3, o4, o5, c0, c1, c2, c3, c4, c5] at g0 g1 g2 g3 g4 g5
    obtain ⟨x0, q0⟩ := h0 _ _ _ g0
    obtain ⟨x1, q1⟩ := h1 _ _ _ g1
    obtain ⟨x2, q2⟩ := h2 _ _ _ g2
    obtain ⟨x3, q3⟩ := h3 _ _ _ g3
    obtain ⟨x4, q4⟩ := h4 _ _ _ g4
    obtain ⟨x5, q5⟩ := h5 _ _ _ g5
    exact ⟨(x0, x1, x2, x3, x4, x5), [v0], _, rfl, q0, [v1], _, rfl, q1, [v2], _, rfl, q2, [v3], _, rfl, q3, [v4], [v5], rfl, q4, q5⟩

/-- A struct by value. -/
theorem open_struct {α : Type} {A : Rep α} {r : Reach} {b0 : Nat} {t : TypeId} {fs : Array Field} {v : Value} {d : DataW H} {p : List MemPlace} (hs : P.underlying t = some (.struct fs)) (hA : Opens enc P w base held t A) (hv : Value.okWide P w r b0 t v)
    (h : DataW.Trod enc P w base (fun _ => true) held t v d p) : ∃ cs x, v = .agg cs.toArray ∧ A.At w cs x := by
  obtain ⟨cs, rfl, _⟩ := okWide_struct hs hv
  obtain ⟨fuel, hf⟩ := h
  obtain ⟨x, hx⟩ := hA _ _ _ hf
  exact ⟨_, x, by simp [Value.cells], hx⟩
end

end Go.Proofs.YtjjebodlekepaaaDoor

/- Opening slices of Step among the laws' arguments. -/
namespace Go.Proofs.YtjjebodlekepaaaDoor
open Go.ChangeShapes Go.WideShapes Go.ChangeAt Go.RowKit Go.Joins Go.Deep

section
variable {H : Type} {enc : TypeId × Value → H} {w : World} {base : Nat} {held : Bool}
set_option maxRecDepth 100000 in
theorem opens_Step : Opens enc Tryd.prog w base held 72 RStep := fun fuel cs x h => by
  have oi : Opens enc Tryd.prog w base held 3 Rep.int := Opens.int Tryd.underlying3
  obtain ⟨y, c1, c0, rfl, h1, c2, c3, rfl, h2, h3⟩ := (Opens.struct3 Tryd.underlying72 (by kernel_rfl) rfl rfl rfl (by kernel_rfl) (by kernel_rfl) (by kernel_rfl) oi oi oi) fuel cs x h
  refine ⟨y, ?_⟩
  have e1 : c1 = [.int .i64 y.1] := h1
  subst e1
  have e2 : c2 = [.int .i64 y.2.1] := h2
  subst e2
  have e3 : c3 = [.int .i64 y.2.2] := h3
  subst e3
  rfl

set_option maxRecDepth 100000 in
theorem open_Steps {fuel n c : Nat} {a : Option Addr} {x : DataW H × List MemPlace} (h : DataW.trod enc Tryd.prog w base (fun _ => true) held fuel 22 [.slice a n c] = some x) : ∃ zs : List TStep, zs.length = n ∧ n ≤ 9223372036854775807 ∧ At w a (flStep zs) := by
  have od : Opens enc Tryd.prog w base held 22 RSteps := Opens.slice Tryd.underlying22 (by kernel_rfl) opens_Step (by decide)
  obtain ⟨y, a', n', c', e, h1, h2, h3, _⟩ := od _ _ _ h
  simp only [List.cons.injEq, Value.slice.injEq, and_true] at e
  obtain ⟨rfl, rfl, rfl⟩ := e
  exact ⟨y, h1, h2, flat_atSl (by omega) h3⟩
end

end Go.Proofs.YtjjebodlekepaaaDoor
