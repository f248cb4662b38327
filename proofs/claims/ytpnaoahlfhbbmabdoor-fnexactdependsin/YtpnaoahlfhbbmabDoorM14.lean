/- Several texts of one proof, in build order: DepM, LawD, LawD6, DepL, LawDependsIn, Open, OpenP. -/
import Derived.Test.YtpnaoahlfhbbmabDoorM13
import Derived.Test.YtpnaoahlfhbbmabDoorM9
import Derived.Test.YtpnaoahlfhbbmabDoorM0
import Derived.ProofKit
import Derived.OpenShut
import Derived.ShutString
import Derived.ChangeOld
import Derived.Lib.SmallJoins
import Derived.Test.YtpnaoahlfhbbmabDoorM1

/- Contracts of the laws' markDepend, markDependS over things that are owned. -/
namespace Go.Proofs.YtpnaoahlfhbbmabDoor
open Go.RowKit

def mkDep (m : Int) (x : Dep) : Dep := (mkInts m x.1, mkInts (m + x.1.length) x.2)
def mkDeps (m : Int) (xs : List Dep) : List Dep := mkL mkDep dcost m xs

set_option maxRecDepth 100000 in
set_option maxHeartbeats 4000000 in
theorem markDependS_rep (F : Nat → Prop) (a : Option Addr) (n c : Nat) (xs : List Dep) (m : Int) (w : World) (hn : n ≤ 1048576) (ht : dsum xs n ≤ 1048576) (h0 : 0 ≤ m) (h1 : m ≤ 134217728) (ho : RDeps.Own w F [.slice a n c] xs) :
    Calls Tryd.prog 11 #[.slice a n c, .int .i64 m] w fun e w' => e = .returned (.int .i64 (m + dsum xs n)) ∧ RDeps.Own w' F [.slice a n c] (mkDeps m xs) ∧ Off F w w' := by
  obtain ⟨a', n', c', cells, G, he, hl⟩ := ho
  simp only [List.cons.injEq, Value.slice.injEq, and_true] at he
  obtain ⟨rfl, rfl, rfl⟩ := he
  go_enter Tryd.func11, Tryd.ntmps11
  go_wp2
  go_loopw [1, 5] (fun q i wr => ∃ k : Nat, k ≤ n ∧ i = .int .i64 k ∧ q = .int .i64 (m + dsum xs k) ∧ Laid RDep wr F 44 a n c (mkTo mkDep dcost m xs k) cells G n ∧ Off F w wr) (fun _ i _ => n - (intOf i).toNat)
  case atStart => exact ⟨0, Nat.zero_le _, rfl, by simp [dsum_zero], by rw [mkTo_zero]; exact hl, Off.refl _ _⟩
  case round =>
    have hzl := hl.len
    clear hl
    obtain ⟨k, hk, rfl, rfl, hl, hof⟩ := hrel
    by_cases hlt : k < n
    · obtain ⟨x, hx⟩ : ∃ x, xs[k]? = some x := ⟨_, List.getElem?_eq_getElem (by omega)⟩
      have hrow := hl.row k x hlt (mkTo_next _ _ hx)
      obtain ⟨fa, fn, fc, ta, tn, tc, F1, F2, hcs, r1, r2, d1, d2, d12⟩ := RDep.own_open hrow
      rcases hl.outer.2 with ⟨_, h00⟩ | ⟨g, cap, cur, hv, _⟩
      · omega
      simp only [Value.slice.injEq, true_and] at hv
      obtain ⟨rfl, rfl⟩ := hv
      have hcl : cells.length = n * 2 := hl.outer.1
      have hcs2 : sub cells (k * 2) 2 = [.slice fa fn fc, .slice ta tn tc] := hcs
      have q0 : wr.cell? ⟨g, k * 2, none⟩ = some (.slice fa fn fc) := by
        rw [hl.outer.cellAt _ (show k * 2 < n * 2 by omega)]
        have h9 := sub_at (cells := cells) (o := k * 2) (k := 2) (j := 0) (by omega)
        rw [hcs2] at h9
        simpa using h9.symm
      have q1 : wr.cell? ⟨g, k * 2 + 1, none⟩ = some (.slice ta tn tc) := by
        rw [hl.outer.cellAt _ (show k * 2 + 1 < n * 2 by omega)]
        have h9 := sub_at (cells := cells) (o := k * 2) (k := 2) (j := 1) (by omega)
        rw [hcs2] at h9
        simpa using h9.symm
      have hf1 : x.1.length = fn := (RInts.own_iff.1 r1).1
      have ht1 : x.2.length = tn := (RInts.own_iff.1 r2).1
      have hts := dsum_succ hx
      have htm := dsum_mono xs (k + 1) n (by omega)
      have hps : dcost x = fn + tn := by unfold dcost; rw [hf1, ht1]
      have hgG : ¬ G k g := fun h => (hl.rowF k g hlt h).2 rfl
      have HL := Hid.mk hl
      have HO := Hid.mk hof
      have HX := Hid.mk hx
      obtain ⟨T, hT⟩ : ∃ T, dsum xs k = T := ⟨_, rfl⟩
      have HT := Hid.mk hT
      rw [hps] at hts
      rw [hT] at hts ⊢
      have hs1 : fn ≤ 1048576 := by omega
      have hs2 : tn ≤ 1048576 := by omega
      have hT1 : T ≤ 1048576 := by omega
      have HTS := Hid.mk hts
      have HC2 := Hid.mk hcs2
      have hki : (k : Int) < (n : Int) := by omega
      obtain ⟨M, hM⟩ : ∃ M : Int, M = m + T := ⟨_, rfl⟩
      have hM0 : 0 ≤ M := by omega
      have hM1 : M ≤ 140000000 := by omega
      have HM := Hid.mk hM
      rw [← hM]
      have HF1 := Hid.mk hf1
      have HD := Hid.mk (And.intro d1 (And.intro d2 d12))
      have HGG := Hid.mk hgG
      have R1 := Hid.mk r1
      have R2 := Hid.mk r2
      clear hl hrow hof hx hT hts hps hcs2 hcs hM hf1 ht1 r1 r2 d1 d2 d12 hgG htm hcl ht
      go_wp2_with fail
      refine (markInts_rep F1 fa fn fc x.1 M wr hs1 (by omega) (by omega) R1.out).mono ?_
      rintro e w1 ⟨rfl, o1, g1⟩
      have x1 := g1.cell q1 (fun h => HGG.out (HD.out.1 _ h))
      have O1 := Hid.mk o1
      have R2' := Hid.mk (RInts.ownOff R2.out g1 (fun b hb h => HD.out.2.2 b h hb))
      have G1 := Hid.mk g1
      clear o1 g1 R1 R2 q0 q1
      go_wp2_with fail
      refine (markInts_rep F2 ta tn tc x.2 (M + fn) w1 hs2 (by omega) (by omega) R2'.out).mono ?_
      rintro e w3 ⟨rfl, o3, g3⟩
      have O1' := RInts.ownOff O1.out g3 (fun b hb h => HD.out.2.2 b hb h)
      have hoff : Off (G k) wr w3 := (G1.out.mono HD.out.1).trans (g3.mono HD.out.2.1)
      have hturn := HL.out.turn (w' := w3) (cells' := cells) (x' := mkDep M x) hlt (fun b hb hn1 _ => hoff.block b hb hn1)
        (ownsRow_frame HL.out.outer (fun b hb hlb => hoff.block b hlb (fun hG => (HL.out.rowF k b hlt hG).2 hb))) (fun _ _ => rfl)
        (by
          show RDep.Own w3 (G k) (sub cells (k * 2) 2) (mkDep M x)
          rw [HC2.out]
          unfold mkDep
          rw [HF1.out]
          exact RDep.own_mk O1' o3 HD.out.1 HD.out.2.1 HD.out.2.2)
      have HLN : Hid (Laid RDep w3 F 44 (some ⟨g, 0, none⟩) n c (mkTo mkDep dcost m xs (k + 1)) cells G n) := by
        have h9 := mkTo_set mkDep dcost (m := m) HX.out
        have h8 : szL dcost xs k = T := HT.out
        rw [h8, ← HM.out] at h9
        show Laid _ _ _ _ _ _ _ _ _ _ _
        rw [← h9]
        exact hturn
      have HON : Hid (Off F w w3) := HO.out.trans (hoff.mono (fun b hb => (HL.out.rowF k b hlt hb).1))
      clear hturn hoff o3 g3 O1' G1 R2' x1
      go_wp2
      go_roundw
      case rel => exact ⟨k + 1, by omega, by go_num, by rw [HTS.out, HM.out]; congr 1; push_cast; omega, HLN.out, HON.out⟩
      case measure => simp [intOf]; omega
    · obtain rfl : k = n := by omega
      have HL := Hid.mk hl
      clear hl
      go_wp2
      go_ret
      refine ⟨rfl, ⟨_, _, _, cells, G, rfl, ?_⟩, hof⟩
      have h9 := HL.out
      rw [mkTo_all _ _ _ _ hzl] at h9
      exact h9

end Go.Proofs.YtpnaoahlfhbbmabDoor

/- The laws' helpers over dependencies in one form, as LawG has them over tables. -/
namespace Go.Proofs.YtpnaoahlfhbbmabDoor
open Go.RowKit

/-- A slice of dependencies that the call made: its blocks lie from lo on and below hi. -/
def OwnD (w : World) (lo hi : Nat) (a : Option Addr) (n c : Nat) (xs : List Dep) : Prop := RDeps.Own w (From lo hi) [.slice a n c] xs

section
variable {w w' : World} {lo hi : Nat} {a : Option Addr} {n c : Nat} {xs : List Dep}
theorem OwnD.below (h : OwnD w lo hi a n c xs) (hb : Below w.heap.size w w') : OwnD w' lo hi a n c xs := RDeps.ownBelow h hb
theorem OwnD.apartW {lo' hi' : Nat} (h : OwnD w lo hi a n c xs) (hp : Apart lo' hi' w w') (hd : hi ≤ lo' ∨ hi' ≤ lo) : OwnD w' lo hi a n c xs :=
  RDeps.ownOff h (Off.of_apart hp) (fun b h1 h2 => by have := h1.1; have := h1.2; have := h2.1; have := h2.2; omega)
theorem OwnD.atD0 (h : OwnD w lo hi a n c xs) : AtD w a xs := by
  obtain ⟨a', n', c', e, _, _, h3, _⟩ := RDeps.toAt h
  simp only [List.cons.injEq, Value.slice.injEq, and_true] at e
  obtain ⟨rfl, rfl, rfl⟩ := e
  exact h3
theorem OwnD.atD (h : OwnD w lo hi a n c xs) (_hs : SmD xs n) : AtD w a xs := h.atD0
end

theorem toDependSG (a : Option Addr) (n c : Nat) (xs : List Dep) (w : World) (hs : SmD xs n) (ha : AtD w a xs) :
    Calls Tryd.prog 6 #[.slice a n c] w fun e w' => ∃ g, e = .returned (.slice (some ⟨g, 0, none⟩) n n) ∧ OwnD w' w.heap.size w'.heap.size (some ⟨g, 0, none⟩) n n xs ∧ Below w.heap.size w w' :=
  toDependS_any a n c xs w hs.1 hs.n (fun _ _ hx => hs.each hx) ha
theorem eqDependSG (a a' : Option Addr) (n c c' : Nat) (xs : List Dep) (w : World) (hs : SmD xs n) (ha : AtD w a xs) (ha' : AtD w a' xs) :
    Calls Tryd.prog 9 #[.slice a n c, .slice a' n c'] w fun e w' => e = .returned (.bool true) ∧ Below w.heap.size w w' :=
  eqDependS_same a a' n c c' xs w hs.1 hs.n (fun _ _ hx => hs.each hx) ha ha'
theorem markDependSG (lo hi : Nat) (a : Option Addr) (n c : Nat) (xs : List Dep) (m : Int) (w : World) (hs : SmD xs n) (h0 : 0 ≤ m) (h1 : m ≤ 134217728) (ho : OwnD w lo hi a n c xs) :
    Calls Tryd.prog 11 #[.slice a n c, .int .i64 m] w fun e w' => e = .returned (.int .i64 (m + dsum xs n)) ∧ OwnD w' lo hi a n c (mkDeps m xs) ∧ Apart lo hi w w' :=
  (markDependS_rep (From lo hi) a n c xs m w hs.n hs.sum h0 h1 ho).mono fun _ _ ⟨h1, h2, h3⟩ => ⟨h1, h2, h3.apart⟩

end Go.Proofs.YtpnaoahlfhbbmabDoor

/- What the laws over dependencies lean on. -/
namespace Go.Proofs.YtpnaoahlfhbbmabDoor
open Go.RowKit

theorem deps_at {w : World} {F : Nat → Prop} {a : Option Addr} {n c : Nat} {xs : List Dep} (h : RDeps.Own w F [.slice a n c] xs) : AtD w a xs := by
  obtain ⟨a', n', c', e, _, _, h3, _⟩ := RDeps.toAt h
  simp only [List.cons.injEq, Value.slice.injEq, and_true] at e
  obtain ⟨rfl, rfl, rfl⟩ := e
  exact h3
theorem dep_at {w : World} {F : Nat → Prop} {fa : Option Addr} {fn fc : Nat} {ta : Option Addr} {tn tc : Nat} {fs ts : List Int} (h : RDep.Own w F [.slice fa fn fc, .slice ta tn tc] (fs, ts)) : At w fa fs ∧ At w ta ts := by
  obtain ⟨⟨_, _, h3, _⟩, ⟨_, _, k3, _⟩⟩ := RDep.at_iff (RDep.toAt h)
  exact ⟨h3, k3⟩

end Go.Proofs.YtpnaoahlfhbbmabDoor

/- Contract of the laws' heldDependS over things that the laws marked. -/
namespace Go.Proofs.YtpnaoahlfhbbmabDoor
open Go.RowKit

theorem deps_len {w : World} {F : Nat → Prop} {a : Option Addr} {n c : Nat} {xs : List Dep} (h : RDeps.Own w F [.slice a n c] xs) : xs.length = n := by
  obtain ⟨a', n', c', e, h1, _, h3, _⟩ := RDeps.toAt h
  simp only [List.cons.injEq, Value.slice.injEq, and_true] at e
  obtain ⟨rfl, rfl, rfl⟩ := e
  exact h1

set_option maxRecDepth 100000 in
set_option maxHeartbeats 4000000 in
theorem heldDependS_rep (a : Option Addr) (n c : Nat) (xs : List Dep) (m : Int) (w : World) (hz : xs.length = n) (hn : n ≤ 1048576) (ht : dsum xs n ≤ 1048576) (h0 : 0 ≤ m) (h1 : m ≤ 134217728) (ha : AtD w a (mkDeps m xs)) :
    Calls Tryd.prog 13 #[.slice a n c, .int .i64 m] w fun e w' => e = .returned (.int .i64 (m + dsum xs n)) ∧ Below w.heap.size w w' := by
  have hl : (mkDeps m xs).length = n := by unfold mkDeps; rw [mkL_length, hz]
  by_cases hn0 : n = 0
  · subst hn0
    go_enter Tryd.func13, Tryd.ntmps13
    go_wp2
    refine wp_loop_rounds 1 ?_
    rw [rounds_succ]
    go_wp2
    go_ret
    exact ⟨by rw [dsum_zero]; simp, Below.refl _ _⟩
  have HA := Hid.mk ha
  have HL := Hid.mk hl
  clear ha hl
  go_enter Tryd.func13, Tryd.ntmps13
  go_wp2
  go_loopw [1, 5] (fun q i wr => ∃ k : Nat, k ≤ n ∧ i = .int .i64 k ∧ q = .int .i64 (m + dsum xs k) ∧ Below w.heap.size w wr) (fun _ i _ => n - (intOf i).toNat)
  case atStart => exact ⟨0, Nat.zero_le _, rfl, by simp [dsum_zero], Below.refl _ _⟩
  case round =>
    obtain ⟨k, hk, rfl, rfl, hbw⟩ := hrel
    by_cases hlt : k < n
    · obtain ⟨b, off, rfl, hc⟩ := AtD.rowD (AtSl.below HA.out hbw) (by have := HL.out; omega)
      obtain ⟨x, hx⟩ : ∃ x, xs[k]? = some x := ⟨_, List.getElem?_eq_getElem (by omega)⟩
      have hmk := mkL_at mkDep dcost m xs k x hx
      obtain ⟨fa, fn, fc, ta, tn, tc, g0, g1, hrd⟩ := hc k _ hmk
      obtain ⟨⟨t1, t2, t3, _⟩, ⟨u1, u2, u3, _⟩⟩ := RDep.at_iff hrd
      have hts := dsum_succ hx
      have htm := dsum_mono xs (k + 1) n (by omega)
      have hT' : szL dcost xs k = dsum xs k := rfl
      rw [hT'] at t1 t3 u1 u3
      obtain ⟨T, hT⟩ : ∃ T, dsum xs k = T := ⟨_, rfl⟩
      rw [hT] at hts t1 t3 u1 u3 ⊢
      have e1 : x.1.length = fn := by rw [← t1]; unfold mkDep mkInts; rw [marks_length]
      have e2 : x.2.length = tn := by rw [← u1]; unfold mkDep mkInts; rw [marks_length]
      have hps : dcost x = fn + tn := by unfold dcost; rw [e1, e2]
      rw [hps] at hts
      obtain ⟨M, hM⟩ : ∃ M : Int, M = m + T := ⟨_, rfl⟩
      rw [← hM] at t3 u3 ⊢
      have A1 : Hid (At wr fa (mkInts M x.1)) := t3
      have A2 : Hid (At wr ta (mkInts (M + fn) x.2)) := by rw [← e1]; exact u3
      have E1 := Hid.mk e1
      have E2 := Hid.mk e2
      have HTS := Hid.mk hts
      have HM := Hid.mk hM
      have hM0 : 0 ≤ M := by omega
      have hM1 : M ≤ 140000000 := by omega
      have hs1 : fn ≤ 1048576 := by omega
      have hs2 : tn ≤ 1048576 := by omega
      have hki : (k : Int) < (n : Int) := by omega
      have p1 : ¬ M + (fn : Int) < 0 := by omega
      have p2 : ¬ M + (fn : Int) + (tn : Int) < 0 := by omega
      clear t1 t3 u1 u3 hrd hmk hc hx hts hT hT' hM e1 e2 hps htm ht
      go_wp2_with fail
      refine (heldInts_rep fa fn fc x.1 M wr E1.out hs1 (by omega) (by omega) A1.out).mono ?_
      rintro e w1 ⟨rfl, hb1⟩
      have g1 := cell_later hb1 g1
      have A2' := Hid.mk (At.below A2.out hb1)
      have B1 := Hid.mk (hbw.trans (hb1.mono hbw.size))
      clear hb1 A1 A2 g0
      go_wp2_with fail
      refine (heldInts_rep ta tn tc x.2 (M + fn) w1 E2.out hs2 (by omega) (by omega) A2'.out).mono ?_
      rintro e w2 ⟨rfl, hb2⟩
      have B2 := Hid.mk (B1.out.trans (hb2.mono B1.out.size))
      clear hb2 A2' B1 g1
      go_wp2
      go_roundw
      case rel => exact ⟨k + 1, by omega, by go_num, by rw [HTS.out, HM.out]; congr 1; push_cast; omega, B2.out⟩
      case measure => simp [intOf]; omega
    · obtain rfl : k = n := by omega
      go_wp2
      go_ret
      exact ⟨rfl, hbw⟩

end Go.Proofs.YtpnaoahlfhbbmabDoor

/- The law FnExactDependsIn returns true at every input, and writes nothing that was there. -/
namespace Go.Proofs.YtpnaoahlfhbbmabDoor
open Go.RowKit

set_option maxRecDepth 100000 in
set_option maxHeartbeats 16000000 in
theorem lawDependsIn (a0 : Option Addr) (n0 c0 : Nat) (z0 : List Dep) (a1 : Int) (a2 : Option Addr) (n2 c2 : Nat) (z2 : List Int) (w : World) (hz0 : z0.length = n0) (hn0 : n0 ≤ 9223372036854775807) (ha0 : AtD w a0 z0) (_w1 : (Lit.int .i64 a1).wf = true) (hz2 : z2.length = n2) (hn2 : n2 ≤ 9223372036854775807) (ha2 : At w a2 z2) (htab : TabB w) :
    Calls Tryd.prog 3 #[.slice a0 n0 c0, .int .i64 a1, .slice a2 n2 c2] w fun e w' => e = .returned (.bool true) ∧ Below w.heap.size w w' := by
  have HA0 := Hid.mk ha0
  have HZ0 := Hid.mk hz0
  clear ha0 hz0
  have HA2 := Hid.mk ha2
  have HZ2 := Hid.mk hz2
  clear ha2 hz2
  have HTAB := Hid.mk htab
  clear htab
  have B0 : Below w.heap.size w w := Below.refl _ _
  by_cases big2 : 1048576 < n2
  · have big2' : (1048576 : Int) < (n2 : Int) := by omega
    go_enter Tryd.func3, Tryd.ntmps3
    go_wp2
    go_ret
    exact ⟨rfl, B0⟩
  have hb2' : ¬ (1048576 : Int) < (n2 : Int) := by omega
  have hsn2 : n2 ≤ 1048576 := by omega
  have HVB2 := hsn2
  obtain ⟨C0, hC0⟩ : ∃ C : Nat, n0 + dsum z0 n0 = C := ⟨_, rfl⟩
  have HC0 := Hid.mk hC0
  clear hC0
  by_cases big0 : (1048576 : Int) < (C0 : Int)
  · go_enter Tryd.func3, Tryd.ntmps3
    go_wp2_with fail
    refine (szDependS_any a0 n0 c0 z0 _ _ HZ0.out hn0 (by omega) (by omega) (AtSl.below HA0.out B0)).mono ?_
    rintro e v0 ⟨rfl, hv0⟩
    rw [HC0.out, leftOf_no big0]
    have y0 := B0.trans (hv0.mono B0.size)
    go_wp2
    go_ret
    exact ⟨rfl, y0⟩
  have hl0 : ¬ (1048576 : Int) - (C0 : Int) < 0 := by omega
  have HSM0 : Hid (SmD z0 n0) := ⟨HZ0.out, by have := HC0.out; omega⟩
  have hsn0 : n0 ≤ 1048576 := HSM0.out.n
  have HVB0 := HSM0.out.sum
  obtain ⟨V0, hV0⟩ : ∃ V : Nat, dsum z0 n0 = V := ⟨_, rfl⟩
  rw [hV0] at HVB0
  have HV0 := Hid.mk hV0
  clear hV0
  obtain ⟨ok, ta, hsA, HS, HI⟩ : ∃ (ok : Bool) (ta : List Dep), SmD ta ta.length ∧ Hid (∀ (x0 : Nat) (x2 : Nat) (w : World) (F0 F2 : Nat → Prop), RDeps.Own w F0 [.slice (some ⟨x0, 0, none⟩) n0 n0] z0 → RInts.Own w F2 [.slice (some ⟨x2, 0, none⟩) n2 n2] z2 → Calls Tryd.prog 5 #[.slice (some ⟨x0, 0, none⟩) n0 n0, .int .i64 a1, .slice (some ⟨x2, 0, none⟩) n2 n2] w fun e w' => DepsRet e w' w.heap.size ok ta ∧ Below w.heap.size w w') ∧ Hid (∀ (x0 : Nat) (x2 : Nat) (w : World) (F0 F2 : Nat → Prop), RDeps.Own w F0 [.slice (some ⟨x0, 0, none⟩) n0 n0] z0 → RInts.Own w F2 [.slice (some ⟨x2, 0, none⟩) n2 n2] z2 → TabB w → Calls Tryd.prog 8 #[.slice (some ⟨x0, 0, none⟩) n0 n0, .int .i64 a1, .slice (some ⟨x2, 0, none⟩) n2 n2] w fun e w' => DepsRet e w' w.heap.size ok ta ∧ Below w.heap.size w w') := ⟨dinB z0 a1 z2, dinL z0 a1 z2, din_small z0 a1 z2, fun x0 x2 w F0 F2 o0 o2 => specDependsIn (some ⟨x0, 0, none⟩) n0 n0 z0 a1 (some ⟨x2, 0, none⟩) n2 n2 z2 w HZ0.out hsn0 (deps_at o0) HZ2.out hsn2 (ints_at o2), fun x0 x2 w F0 F2 o0 o2 ht => implDependsIn (some ⟨x0, 0, none⟩) n0 n0 z0 a1 (some ⟨x2, 0, none⟩) n2 n2 z2 w HZ0.out hsn0 (deps_at o0) HZ2.out hsn2 (ints_at o2) ht⟩
  obtain ⟨na, hna⟩ : ∃ na, ta.length = na := ⟨_, rfl⟩
  rw [hna] at hsA
  have hnA := hsA.n
  have hvA := hsA.sum
  have HSA := Hid.mk hsA
  obtain ⟨VA, hVA⟩ : ∃ V : Nat, dsum ta na = V := ⟨_, rfl⟩
  rw [hVA] at hvA
  have HVA := Hid.mk hVA
  have HNA := Hid.mk hna
  clear hna hVA hsA
  go_enter Tryd.func3, Tryd.ntmps3
  go_wp2_with fail
  refine (szDependS_any a0 n0 c0 z0 _ _ HZ0.out hn0 (by omega) (by omega) (AtSl.below HA0.out B0)).mono ?_
  rintro e w1 ⟨rfl, hb1⟩
  rw [HC0.out, leftOf_yes (by omega)]
  have B_1 := B0.trans (hb1.mono B0.size)
  have zz1 : w.heap.size ≤ w1.heap.size := hb1.size
  clear hb1
  go_wp2_with fail
  refine (toDependSG a0 n0 c0 z0 _ HSM0.out (AtSl.below HA0.out B_1)).mono ?_
  rintro e w2 ⟨g2, rfl, ho2, hb2⟩
  have ot0_2 := Hid.mk ho2
  clear ho2
  have B_2 := B_1.trans (hb2.mono B_1.size)
  have zz2 : w1.heap.size ≤ w2.heap.size := hb2.size
  clear B_1
  clear hb2
  go_wp2_with fail
  refine (toInts_rep a2 n2 c2 z2 _ HZ2.out hsn2 (At.below HA2.out B_2)).mono ?_
  rintro e w3 ⟨g3, rfl, ho3, hb3⟩
  have ot2_3 := Hid.mk ho3
  clear ho3
  have ot0_3 := Hid.mk (RDeps.ownBelow ot0_2.out hb3)
  have B_3 := B_2.trans (hb3.mono B_2.size)
  have zz3 : w2.heap.size ≤ w3.heap.size := hb3.size
  clear ot0_2 B_2
  clear hb3
  go_wp2_with fail
  refine (HS.out _ _ _ _ _ ot0_3.out ot2_3.out).mono ?_
  rintro e w4 ⟨⟨r4, m4, d4, rfl, ho4⟩, hb4⟩
  clear ot0_3
  clear ot2_3
  obtain rfl : na = m4 := HNA.out.symm.trans (deps_len ho4)
  have oo_4 := Hid.mk ho4
  clear ho4
  have B_4 := B_3.trans (hb4.mono B_3.size)
  have zz4 : w3.heap.size ≤ w4.heap.size := hb4.size
  clear B_3
  clear hb4
  go_wp2_with fail
  refine (toDependSG a0 n0 c0 z0 _ HSM0.out (AtSl.below HA0.out B_4)).mono ?_
  rintro e w5 ⟨g5, rfl, ho5, hb5⟩
  have ox0_5 := Hid.mk ho5
  clear ho5
  have oo_5 := Hid.mk (RDeps.ownBelow oo_4.out hb5)
  have B_5 := B_4.trans (hb5.mono B_4.size)
  have zz5 : w4.heap.size ≤ w5.heap.size := hb5.size
  clear oo_4 B_4
  clear hb5
  go_wp2_with fail
  refine (toInts_rep a2 n2 c2 z2 _ HZ2.out hsn2 (At.below HA2.out B_5)).mono ?_
  rintro e w6 ⟨g6, rfl, ho6, hb6⟩
  have ox2_6 := Hid.mk ho6
  clear ho6
  have oo_6 := Hid.mk (RDeps.ownBelow oo_5.out hb6)
  have ox0_6 := Hid.mk (RDeps.ownBelow ox0_5.out hb6)
  have B_6 := B_5.trans (hb6.mono B_5.size)
  have zz6 : w5.heap.size ≤ w6.heap.size := hb6.size
  clear oo_5 ox0_5 B_5
  clear hb6
  go_wp2_with fail
  refine (HI.out _ _ _ _ _ ox0_6.out ox2_6.out (TabIs.below HTAB.out B_6)).mono ?_
  rintro e w7 ⟨⟨r7, m7, d7, rfl, ho7⟩, hb7⟩
  obtain rfl : na = m7 := HNA.out.symm.trans (deps_len ho7)
  have og_7 := Hid.mk ho7
  clear ho7
  have oo_7 := Hid.mk (RDeps.ownBelow oo_6.out hb7)
  have ox0_7 := Hid.mk (RDeps.ownBelow ox0_6.out hb7)
  have ox2_7 := Hid.mk (RInts.ownBelow ox2_6.out hb7)
  have B_7 := B_6.trans (hb7.mono B_6.size)
  have zz7 : w6.heap.size ≤ w7.heap.size := hb7.size
  clear oo_6 ox0_6 ox2_6 B_6
  clear hb7
  go_wp2_with fail
  refine (eqDependSG _ _ na _ _ ta _ HSA.out (deps_at og_7.out) (deps_at oo_7.out)).mono ?_
  rintro e w8 ⟨rfl, hb8⟩
  have oo_8 := Hid.mk (RDeps.ownBelow oo_7.out hb8)
  have ox0_8 := Hid.mk (RDeps.ownBelow ox0_7.out hb8)
  have ox2_8 := Hid.mk (RInts.ownBelow ox2_7.out hb8)
  have og_8 := Hid.mk (RDeps.ownBelow og_7.out hb8)
  have B_8 := B_7.trans (hb8.mono B_7.size)
  have zz8 : w7.heap.size ≤ w8.heap.size := hb8.size
  clear oo_7 ox0_7 ox2_7 og_7 B_7
  clear hb8
  go_wp2_with fail
  refine (toDependSG a0 n0 c0 z0 _ HSM0.out (AtSl.below HA0.out B_8)).mono ?_
  rintro e w9 ⟨g9, rfl, ho9, hb9⟩
  have oy_9 := Hid.mk ho9
  clear ho9
  have oo_9 := Hid.mk (RDeps.ownBelow oo_8.out hb9)
  have ox0_9 := Hid.mk (RDeps.ownBelow ox0_8.out hb9)
  have ox2_9 := Hid.mk (RInts.ownBelow ox2_8.out hb9)
  have og_9 := Hid.mk (RDeps.ownBelow og_8.out hb9)
  have B_9 := B_8.trans (hb9.mono B_8.size)
  have zz9 : w8.heap.size ≤ w9.heap.size := hb9.size
  clear oo_8 ox0_8 ox2_8 og_8 B_8
  clear hb9
  go_wp2_with fail
  refine (eqDependSG _ _ n0 _ _ z0 _ HSM0.out (OwnD.atD0 ox0_9.out) (OwnD.atD0 oy_9.out)).mono ?_
  rintro e w10 ⟨rfl, hb10⟩
  clear oy_9
  have oo_10 := Hid.mk (RDeps.ownBelow oo_9.out hb10)
  have ox0_10 := Hid.mk (RDeps.ownBelow ox0_9.out hb10)
  have ox2_10 := Hid.mk (RInts.ownBelow ox2_9.out hb10)
  have og_10 := Hid.mk (RDeps.ownBelow og_9.out hb10)
  have B_10 := B_9.trans (hb10.mono B_9.size)
  have zz10 : w9.heap.size ≤ w10.heap.size := hb10.size
  clear oo_9 ox0_9 ox2_9 og_9 B_9
  clear hb10
  go_wp2_with fail
  refine (toInts_rep a2 n2 c2 z2 _ HZ2.out hsn2 (At.below HA2.out B_10)).mono ?_
  rintro e w11 ⟨g11, rfl, ho11, hb11⟩
  have oy_11 := Hid.mk ho11
  clear ho11
  have oo_11 := Hid.mk (RDeps.ownBelow oo_10.out hb11)
  have ox0_11 := Hid.mk (RDeps.ownBelow ox0_10.out hb11)
  have ox2_11 := Hid.mk (RInts.ownBelow ox2_10.out hb11)
  have og_11 := Hid.mk (RDeps.ownBelow og_10.out hb11)
  have B_11 := B_10.trans (hb11.mono B_10.size)
  have zz11 : w10.heap.size ≤ w11.heap.size := hb11.size
  clear oo_10 ox0_10 ox2_10 og_10 B_10
  clear hb11
  go_wp2_with fail
  refine (eqIntS_same _ _ n2 _ _ z2 _ HZ2.out hsn2 (ints_at ox2_11.out) (ints_at oy_11.out)).mono ?_
  rintro e w12 ⟨rfl, hb12⟩
  clear oy_11
  have oo_12 := Hid.mk (RDeps.ownBelow oo_11.out hb12)
  have ox0_12 := Hid.mk (RDeps.ownBelow ox0_11.out hb12)
  have ox2_12 := Hid.mk (RInts.ownBelow ox2_11.out hb12)
  have og_12 := Hid.mk (RDeps.ownBelow og_11.out hb12)
  have B_12 := B_11.trans (hb12.mono B_11.size)
  have zz12 : w11.heap.size ≤ w12.heap.size := hb12.size
  clear oo_11 ox0_11 ox2_11 og_11 B_11
  clear hb12
  go_wp2_with fail
  refine (markDependS_rep (From (w4.heap.size) (w5.heap.size)) _ n0 _ z0 _ _ hsn0 HSM0.out.sum (by omega) (by omega) ox0_12.out).mono ?_
  rintro e w13 ⟨rfl, ho13, hg13⟩
  rw [HV0.out]
  have ox0_13 := Hid.mk ho13
  clear ho13
  have oo_13 := Hid.mk (RDeps.ownOff oo_12.out hg13 (fun b h1 h2 => by have h3 := h1.1; have h4 := h1.2; have h5 := h2.1; have h6 := h2.2; omega))
  have ox2_13 := Hid.mk (RInts.ownOff ox2_12.out hg13 (fun b h1 h2 => by have h3 := h1.1; have h4 := h1.2; have h5 := h2.1; have h6 := h2.2; omega))
  have og_13 := Hid.mk (RDeps.ownOff og_12.out hg13 (fun b h1 h2 => by have h3 := h1.1; have h4 := h1.2; have h5 := h2.1; have h6 := h2.2; omega))
  have B_13 := B_12.trans (hg13.toBelow (by omega) B_12.size)
  have zz13 : w12.heap.size ≤ w13.heap.size := hg13.size
  clear oo_12 ox0_12 ox2_12 og_12 B_12
  clear hg13
  go_wp2_with fail
  refine (markInts_rep (From (w5.heap.size) (w6.heap.size)) _ n2 _ z2 _ _ hsn2 (by omega) (by omega) ox2_13.out).mono ?_
  rintro e w14 ⟨rfl, ho14, hg14⟩
  have ox2_14 := Hid.mk ho14
  clear ho14
  have oo_14 := Hid.mk (RDeps.ownOff oo_13.out hg14 (fun b h1 h2 => by have h3 := h1.1; have h4 := h1.2; have h5 := h2.1; have h6 := h2.2; omega))
  have ox0_14 := Hid.mk (RDeps.ownOff ox0_13.out hg14 (fun b h1 h2 => by have h3 := h1.1; have h4 := h1.2; have h5 := h2.1; have h6 := h2.2; omega))
  have og_14 := Hid.mk (RDeps.ownOff og_13.out hg14 (fun b h1 h2 => by have h3 := h1.1; have h4 := h1.2; have h5 := h2.1; have h6 := h2.2; omega))
  have B_14 := B_13.trans (hg14.toBelow (by omega) B_13.size)
  have zz14 : w13.heap.size ≤ w14.heap.size := hg14.size
  clear oo_13 ox0_13 ox2_13 og_13 B_13
  clear hg14
  have kpos : ¬ (1 : Int) + (V0 : Int) + (n2 : Int) < 0 := by omega
  go_wp2_with fail
  refine (eqDependSG _ _ na _ _ ta _ HSA.out (deps_at og_14.out) (deps_at oo_14.out)).mono ?_
  rintro e w15 ⟨rfl, hb15⟩
  have oo_15 := Hid.mk (RDeps.ownBelow oo_14.out hb15)
  have ox0_15 := Hid.mk (RDeps.ownBelow ox0_14.out hb15)
  have ox2_15 := Hid.mk (RInts.ownBelow ox2_14.out hb15)
  have og_15 := Hid.mk (RDeps.ownBelow og_14.out hb15)
  have B_15 := B_14.trans (hb15.mono B_14.size)
  have zz15 : w14.heap.size ≤ w15.heap.size := hb15.size
  clear oo_14 ox0_14 ox2_14 og_14 B_14
  clear hb15
  clear ox0_15
  clear ox2_15
  go_wp2_with fail
  refine (markDependS_rep (From (w6.heap.size) (w7.heap.size)) _ na _ ta 1 _ hnA HSA.out.sum (by omega) (by omega) og_15.out).mono ?_
  rintro e w16 ⟨rfl, ho16, hg16⟩
  rw [HVA.out]
  have og_16 := Hid.mk ho16
  clear ho16
  have oo_16 := Hid.mk (RDeps.ownOff oo_15.out hg16 (fun b h1 h2 => by have h3 := h1.1; have h4 := h1.2; have h5 := h2.1; have h6 := h2.2; omega))
  have B_16 := B_15.trans (hg16.toBelow (by omega) B_15.size)
  have zz16 : w15.heap.size ≤ w16.heap.size := hg16.size
  clear oo_15 og_15 B_15
  clear hg16
  have gpos : ¬ (1 : Int) + (VA : Int) < 0 := by omega
  go_wp2_with fail
  refine (heldDependS_rep _ na _ ta 1 _ HNA.out hnA HSA.out.sum (by omega) (by omega) (deps_at og_16.out)).mono ?_
  rintro e w17 ⟨rfl, hb17⟩
  rw [HVA.out]
  have oo_17 := Hid.mk (RDeps.ownBelow oo_16.out hb17)
  have og_17 := Hid.mk (RDeps.ownBelow og_16.out hb17)
  have B_17 := B_16.trans (hb17.mono B_16.size)
  have zz17 : w16.heap.size ≤ w17.heap.size := hb17.size
  clear oo_16 og_16 B_16
  clear hb17
  go_wp2_with fail
  refine (toDependSG a0 n0 c0 z0 _ HSM0.out (AtSl.below HA0.out B_17)).mono ?_
  rintro e w18 ⟨g18, rfl, ho18, hb18⟩
  have oh0_18 := Hid.mk ho18
  clear ho18
  have oo_18 := Hid.mk (RDeps.ownBelow oo_17.out hb18)
  have og_18 := Hid.mk (RDeps.ownBelow og_17.out hb18)
  have B_18 := B_17.trans (hb18.mono B_17.size)
  have zz18 : w17.heap.size ≤ w18.heap.size := hb18.size
  clear oo_17 og_17 B_17
  clear hb18
  go_wp2_with fail
  refine (toInts_rep a2 n2 c2 z2 _ HZ2.out hsn2 (At.below HA2.out B_18)).mono ?_
  rintro e w19 ⟨g19, rfl, ho19, hb19⟩
  have oh2_19 := Hid.mk ho19
  clear ho19
  have oo_19 := Hid.mk (RDeps.ownBelow oo_18.out hb19)
  have og_19 := Hid.mk (RDeps.ownBelow og_18.out hb19)
  have oh0_19 := Hid.mk (RDeps.ownBelow oh0_18.out hb19)
  have B_19 := B_18.trans (hb19.mono B_18.size)
  have zz19 : w18.heap.size ≤ w19.heap.size := hb19.size
  clear oo_18 og_18 oh0_18 B_18
  clear hb19
  go_wp2_with fail
  refine (HI.out _ _ _ _ _ oh0_19.out oh2_19.out (TabIs.below HTAB.out B_19)).mono ?_
  rintro e w20 ⟨⟨r20, m20, d20, rfl, ho20⟩, hb20⟩
  clear oh0_19
  clear oh2_19
  obtain rfl : na = m20 := HNA.out.symm.trans (deps_len ho20)
  have ohg_20 := Hid.mk ho20
  clear ho20
  have oo_20 := Hid.mk (RDeps.ownBelow oo_19.out hb20)
  have og_20 := Hid.mk (RDeps.ownBelow og_19.out hb20)
  have B_20 := B_19.trans (hb20.mono B_19.size)
  have zz20 : w19.heap.size ≤ w20.heap.size := hb20.size
  clear oo_19 og_19 B_19
  clear hb20
  go_wp2_with fail
  refine (eqDependSG _ _ na _ _ ta _ HSA.out (deps_at ohg_20.out) (deps_at oo_20.out)).mono ?_
  rintro e w21 ⟨rfl, hb21⟩
  have oo_21 := Hid.mk (RDeps.ownBelow oo_20.out hb21)
  have og_21 := Hid.mk (RDeps.ownBelow og_20.out hb21)
  have ohg_21 := Hid.mk (RDeps.ownBelow ohg_20.out hb21)
  have B_21 := B_20.trans (hb21.mono B_20.size)
  have zz21 : w20.heap.size ≤ w21.heap.size := hb21.size
  clear oo_20 og_20 ohg_20 B_20
  clear hb21
  go_wp2_with fail
  refine (heldDependS_rep _ na _ ta 1 _ HNA.out hnA HSA.out.sum (by omega) (by omega) (deps_at og_21.out)).mono ?_
  rintro e w22 ⟨rfl, hb22⟩
  rw [HVA.out]
  have oo_22 := Hid.mk (RDeps.ownBelow oo_21.out hb22)
  have og_22 := Hid.mk (RDeps.ownBelow og_21.out hb22)
  have ohg_22 := Hid.mk (RDeps.ownBelow ohg_21.out hb22)
  have B_22 := B_21.trans (hb22.mono B_21.size)
  have zz22 : w21.heap.size ≤ w22.heap.size := hb22.size
  clear oo_21 og_21 ohg_21 B_21
  clear hb22
  go_wp2
  go_ret
  exact ⟨rfl, B_22⟩

end Go.Proofs.YtpnaoahlfhbbmabDoor

/- Opening the laws' arguments: rows, slices of ints; plain facts on readings. -/
namespace Go.Proofs.YtpnaoahlfhbbmabDoor
open Go.ChangeShapes Go.WideShapes Go.ChangeAt Go.RowKit Go.Joins Go.Deep

section
variable {H : Type} {enc : TypeId × Value → H} {P : Program} {w : World} {base : Nat} {spare : Nat → Bool} {held : Bool}

theorem array1 {α : Type} {cs : Array α} (h : cs.size = 1) : ∃ c0, cs = #[c0] := by
  obtain ⟨l⟩ := cs
  match l, h with
  | [c0], _ => exact ⟨c0, rfl⟩

theorem open_agg1 {r : Reach} {b0 : Nat} {t : TypeId} {f0 : Field} {v : Value} {d : DataW H} {p : List MemPlace} (hs : P.underlying t = some (.struct #[f0])) (hone : oneCellFields P #[f0] = true) (hC : P.cellsOf t = 1)
    (hv : Value.okWide P w r b0 t v) (h : DataW.Trod enc P w base spare held t v d p) :
    ∃ (v0 : Value) (y0 : DataW H × List MemPlace) (n : Nat), v = .agg #[v0] ∧ d = .agg [y0.1] ∧ p = y0.2 ∧ DataW.trod enc P w base spare held n f0.type [v0] = some y0 := by
  obtain ⟨cs, rfl, hsz⟩ := okWide_struct hs hv
  obtain ⟨c0, rfl⟩ := array1 (hsz.trans hC)
  obtain ⟨fuel, hf⟩ := h
  obtain ⟨y0, n, hx, _, h0⟩ := trod_struct1 hs hf
  obtain ⟨o0, k0⟩ := hone_of hone 0 f0 rfl
  simp only [Prod.mk.injEq] at hx
  exact ⟨c0, y0, n, rfl, hx.1, hx.2, by simpa [Value.cells, o0, k0] using h0⟩

/-- A slice of ints that reads: its numbers. -/
theorem open_at {t e : TypeId} {fuel n c : Nat} {a : Option Addr} {x : DataW H × List MemPlace} (ht : P.underlying t = some (.slice e)) (he : P.underlying e = some (.int .i64)) (hC : P.cellsOf e = 1)
    (h : DataW.trod enc P w base spare held fuel t [.slice a n c] = some x) : ∃ zs : List Int, zs.length = n ∧ n ≤ 9223372036854775807 ∧ At w a zs := by
  rcases open_ints ht he hC h with ⟨hcs, _⟩ | ⟨ad, l, c', zs, hcs, _, hl, hm, hz, _, hcell, _⟩
  · simp at hcs
    obtain ⟨rfl, rfl, rfl⟩ := hcs
    exact ⟨[], rfl, by omega, At.nil _ _⟩
  · simp at hcs
    obtain ⟨rfl, rfl, rfl⟩ := hcs
    unfold maxLen at hm
    have hz' : n ≤ zs.length := by split at hz <;> omega
    refine ⟨zs.take n, by simp; omega, by omega, ?_⟩
    by_cases h0 : n = 0
    · left; simp [h0]
    · right
      obtain ⟨b, off, spot⟩ := ad
      have hc := hcell 0 (by omega)
      have hspot : spot = none := by simpa [Addr.add] using World.cell?_spot hc
      subst hspot
      refine ⟨b, off, rfl, fun i hi => ?_⟩
      have hin : i < n := by simp at hi; omega
      have := hcell i (by omega)
      rw [show (zs.take n).getD i 0 = zs.getD i 0 by simp [List.getD, hin]]
      rw [Addr.add_lit] at this
      exact this

/-- A struct of one slice of ints, by value. -/
theorem open_row {r : Reach} {b0 : Nat} {t ts e : TypeId} {f0 : Field} {v : Value} {d : DataW H} {p : List MemPlace} (hs : P.underlying t = some (.struct #[f0])) (hf0 : f0.type = ts) (hone : oneCellFields P #[f0] = true) (hC : P.cellsOf t = 1)
    (ht : P.underlying ts = some (.slice e)) (he : P.underlying e = some (.int .i64)) (hCe : P.cellsOf e = 1)
    (hv : Value.okWide P w r b0 t v) (h : DataW.Trod enc P w base spare held t v d p) : ∃ a n c, v = .agg #[.slice a n c] ∧ ∃ zs : List Int, zs.length = n ∧ n ≤ 9223372036854775807 ∧ At w a zs := by
  obtain ⟨v0, y0, m, rfl, _, _, h0⟩ := open_agg1 hs hone hC hv h
  subst hf0
  obtain ⟨a, n, c, hcs⟩ := slice_form ht h0
  obtain rfl : v0 = .slice a n c := by simpa using hcs
  exact ⟨a, n, c, rfl, open_at ht he hCe h0⟩
end

end Go.Proofs.YtpnaoahlfhbbmabDoor

/- Opening things in memory among the laws' arguments, by their shape. -/
namespace Go.Proofs.YtpnaoahlfhbbmabDoor
open Go.ChangeShapes Go.WideShapes Go.ChangeAt Go.RowKit Go.Joins Go.Deep

section
variable {H : Type} (enc : TypeId × Value → H) (P : Program) (w : World) (base : Nat) (held : Bool)
/-- Whatever reads as a value of type t is such a thing. -/
def Opens {α : Type} (t : TypeId) (A : Rep α) : Prop := ∀ fuel cs x, DataW.trod enc P w base (fun _ => true) held fuel t cs = some x → ∃ y, A.At w cs y
variable {enc P w base held}

theorem Opens.int {t : TypeId} (ht : P.underlying t = some (.int .i64)) : Opens enc P w base held t Rep.int := fun fuel cs x h => by
  obtain ⟨z, hz, _, _⟩ := DataW.trod_int ht h
  exact ⟨z, hz⟩

theorem Opens.slice {α : Type} [Inhabited α] {A : Rep α} {t e e' : TypeId} (ht : P.underlying t = some (.slice e)) (ce : P.cellsOf e = A.k) (hA : Opens enc P w base held e A) (hk : 0 < A.k) : Opens enc P w base held t (Rep.slice e' A) := fun fuel cs x h => by
  rcases open_slice ht h with ⟨rfl, _⟩ | ⟨ad, len, cap, m, k, D, Pl, rfl, _, hl, hm, hmm, _, hx⟩
  · exact ⟨[], none, 0, 0, rfl, rfl, by omega, .inl rfl, fun _ => rfl⟩
  · simp only [if_true] at hmm
    subst hmm
    unfold maxLen at hm
    have each : ∀ i, i < len → ∃ y : α × List Value, (∀ j v, y.2[j]? = some v → w.cell? (ad.add (i * A.k + j)) = some v) ∧ A.At w y.2 y.1 ∧ y.2.length = A.k := by
      intro i hi
      obtain ⟨cs', h1, h2⟩ := hx i (by omega)
      rw [ce] at h1
      obtain ⟨_, hlen, hcell⟩ := World.cells?_some h1
      obtain ⟨y, hy⟩ := hA _ _ _ h2
      refine ⟨(y, cs'), fun j v hv => ?_, hy, by simpa using hlen⟩
      have hj := (List.getElem?_eq_some_iff.1 hv).1
      have := hcell j (by have h5 : cs'.length = A.k := hlen; have h6 : j < cs'.length := hj; omega)
      rw [add_add] at this
      rw [this]
      simpa using hv
    obtain ⟨y, hy⟩ := choose_lt each
    refine ⟨(List.range len).map fun i => (y i).1, some ad, len, _, rfl, by simp, by omega, ?_, fun h => by cases h⟩
    by_cases h0 : len = 0
    · left; simp [h0]
    · right
      obtain ⟨b, off, spot⟩ := ad
      obtain ⟨e1, _, e3⟩ := hy 0 (by omega)
      obtain ⟨v0, hv0⟩ : ∃ v0, (y 0).2[0]? = some v0 := ⟨_, List.getElem?_eq_getElem (by omega)⟩
      have hc0 := e1 0 v0 hv0
      have hspot : spot = none := by simpa [Addr.add] using World.cell?_spot hc0
      subst hspot
      refine ⟨b, off, rfl, fun i x hx' => ?_⟩
      have hi : i < len := by have := (List.getElem?_eq_some_iff.1 hx').1; simpa using this
      obtain ⟨k1, k2, _⟩ := hy i hi
      have hxe : (y i).1 = x := by simpa [hi] using hx'
      refine ⟨(y i).2, fun j v hv => ?_, hxe ▸ k2⟩
      have := k1 j v hv
      rw [Addr.add_lit] at this
      rw [Nat.add_assoc]; exact this

theorem take_one {cs : List Value} {v : Value} (i : Nat) (h : cs[i]? = some v) : (cs.drop i).take 1 = [v] := by
  obtain ⟨hi, rfl⟩ := List.getElem?_eq_some_iff.1 h
  rw [List.drop_eq_getElem_cons hi]; rfl

theorem Opens.struct2 {α β : Type} {A : Rep α} {B : Rep β} {t : TypeId} {f0 f1 : Field} (ht : P.underlying t = some (.struct #[f0, f1])) (hC : P.cellsOf t = 2) (o0 : f0.offset = 0) (o1 : f1.offset = 1)
    (c0 : P.cellsOf f0.type = 1) (c1 : P.cellsOf f1.type = 1) (h0 : Opens enc P w base held f0.type A) (h1 : Opens enc P w base held f1.type B) : Opens enc P w base held t (Rep.pair A B) := fun fuel cs x h => by
  obtain ⟨xs, n, _, rfl, hl, hlen, hf⟩ := DataW.trod_struct ht h
  match xs, hlen, cs, hl.trans hC with
  | [y0, y1], _, [v0, v1], _ =>
    have g0 := hf 0 f0 rfl
    have g1 := hf 1 f1 rfl
    simp [o0, o1, c0, c1] at g0 g1
    obtain ⟨x0, q0⟩ := h0 _ _ _ g0
    obtain ⟨x1, q1⟩ := h1 _ _ _ g1
    exact ⟨(x0, x1), [v0], [v1], rfl, q0, q1⟩

theorem Opens.struct3 {α β γ : Type} {A : Rep α} {B : Rep β} {C : Rep γ} {t : TypeId} {f0 f1 f2 : Field} (ht : P.underlying t = some (.struct #[f0, f1, f2])) (hC : P.cellsOf t = 3) (o0 : f0.offset = 0) (o1 : f1.offset = 1) (o2 : f2.offset = 2)
    (c0 : P.cellsOf f0.type = 1) (c1 : P.cellsOf f1.type = 1) (c2 : P.cellsOf f2.type = 1) (h0 : Opens enc P w base held f0.type A) (h1 : Opens enc P w base held f1.type B) (h2 : Opens enc P w base held f2.type C) : Opens enc P w base held t (Rep.pair A (Rep.pair B C)) := fun fuel cs x h => by
  obtain ⟨xs, n, _, rfl, hl, hlen, hf⟩ := DataW.trod_struct ht h
  match xs, hlen, cs, hl.trans hC with
  | [y0, y1, y2], _, [v0, v1, v2], _ =>
    have g0 := hf 0 f0 rfl
    have g1 := hf 1 f1 rfl
    have g2 := hf 2 f2 rfl
    simp [o0, o1, o2, c0, c1, c2] at g0 g1 g2
    obtain ⟨x0, q0⟩ := h0 _ _ _ g0
    obtain ⟨x1, q1⟩ := h1 _ _ _ g1
    obtain ⟨x2, q2⟩ := h2 _ _ _ g2
    exact ⟨(x0, x1, x2), [v0], _, rfl, q0, [v1], [v2], rfl, q1, q2⟩

theorem Opens.struct6 {α β γ δ ε ζ : Type} {A : Rep α} {B : Rep β} {C : Rep γ} {D : Rep δ} {E : Rep ε} {Z : Rep ζ} {t : TypeId} {f0 f1 f2 f3 f4 f5 : Field} (ht : P.underlying t = some (.struct #[f0, f1, f2, f3, f4, f5])) (hC : P.cellsOf t = 6)
    (o0 : f0.offset = 0) (o1 : f1.offset = 1) (o2 : f2.offset = 2) (o3 : f3.offset = 3) (o4 : f4.offset = 4) (o5 : f5.offset = 5)
    (c0 : P.cellsOf f0.type = 1) (c1 : P.cellsOf f1.type = 1) (c2 : P.cellsOf f2.type = 1) (c3 : P.cellsOf f3.type = 1) (c4 : P.cellsOf f4.type = 1) (c5 : P.cellsOf f5.type = 1)
    (h0 : Opens enc P w base held f0.type A) (h1 : Opens enc P w base held f1.type B) (h2 : Opens enc P w base held f2.type C) (h3 : Opens enc P w base held f3.type D) (h4 : Opens enc P w base held f4.type E) (h5 : Opens enc P w base held f5.type Z) :
    Opens enc P w base held t (Rep.pair A (Rep.pair B (Rep.pair C (Rep.pair D (Rep.pair E Z))))) := fun fuel cs x h => by
  obtain ⟨xs, n, _, rfl, hl, hlen, hf⟩ := DataW.trod_struct ht h
  match xs, hlen, cs, hl.trans hC with
  | [y0, y1, y2, y3, y4, y5], _, [v0, v1, v2, v3, v4, v5], _ =>
    have g0 := hf 0 f0 rfl
    have g1 := hf 1 f1 rfl
    have g2 := hf 2 f2 rfl
    have g3 := hf 3 f3 rfl
    have g4 := hf 4 f4 rfl
    have g5 := hf 5 f5 rfl
    simp [o0, o1, o2, o3, o4, o5, c0, c1, c2, c3, c4, c5] at g0 g1 g2 g3 g4 g5
    obtain ⟨x0, q0⟩ := h0 _ _ _ g0
    obtain ⟨x1, q1⟩ := h1 _ _ _ g1
    obtain ⟨x2, q2⟩ := h2 _ _ _ g2
    obtain ⟨x3, q3⟩ := h3 _ _ _ g3
    obtain ⟨x4, q4⟩ := h4 _ _ _ g4
    obtain ⟨x5, q5⟩ := h5 _ _ _ g5
    exact ⟨(x0, x1, x2, x3, x4, x5), [v0], _, rfl, q0, [v1], _, rfl, q1, [v2], _, rfl, q2, [v3], _, rfl, q3, [v4], [v5], rfl, q4, q5⟩

/-- A struct by value. -/
theorem open_struct {α : Type} {A : Rep α} {r : Reach} {b0 : Nat} {t : TypeId} {fs : Array Field} {v : Value} {d : DataW H} {p : List MemPlace} (hs : P.underlying t = some (.struct fs)) (hA : Opens enc P w base held t A) (hv : Value.okWide P w r b0 t v)
    (h : DataW.Trod enc P w base (fun _ => true) held t v d p) : ∃ cs x, v = .agg cs.toArray ∧ A.At w cs x := by
  obtain ⟨cs, rfl, _⟩ := okWide_struct hs hv
  obtain ⟨fuel, hf⟩ := h
  obtain ⟨x, hx⟩ := hA _ _ _ hf
  exact ⟨_, x, by simp [Value.cells], hx⟩
end

end Go.Proofs.YtpnaoahlfhbbmabDoor
