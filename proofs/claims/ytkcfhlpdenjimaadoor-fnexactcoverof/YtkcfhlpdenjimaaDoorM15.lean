/- Several texts of one proof, in build order: CovU, IntE, DepE, IntM, DepM, LawD, IntsR, LawD6, DepL, LawCoverOf, Open. -/
import Derived.Test.YtkcfhlpdenjimaaDoorM14
import Derived.Test.YtkcfhlpdenjimaaDoorM3
import Derived.Test.YtkcfhlpdenjimaaDoorM8
import Derived.Test.YtkcfhlpdenjimaaDoorM0
import Derived.ProofKit
import Derived.OpenShut
import Derived.ShutString
import Derived.ChangeOld
import Derived.Lib.SmallJoins

/- A cover is small. -/
namespace Go.Proofs.YtkcfhlpdenjimaaDoor
open Go.RowKit

theorem dsum_le {xs : List Dep} (h : ∀ x ∈ xs, dcost x ≤ 12) : ∀ k, k ≤ xs.length → dsum xs k ≤ 12 * k
  | 0, _ => by rw [dsum_zero]; omega
  | k + 1, hk => by
    have h1 := dsum_le h k (by omega)
    have h2 := dsum_succ (List.getElem?_eq_getElem (by omega : k < xs.length))
    have h3 := h xs[k] (List.getElem_mem _)
    omega
theorem cov_small (l : List Dep) (C : Int) : SmD (covL l C) (covL l C).length := by
  refine ⟨rfl, ?_⟩
  have h10 : (covL l C).length ≤ 10 := by
    unfold covL
    cases hb : covB l C with
    | false => simp
    | true =>
      unfold covB at hb
      simp only [Bool.and_eq_true, decide_eq_true_eq] at hb
      simp only [if_true, List.length_map]
      exact hb.2
  have h12 : ∀ x ∈ covL l C, dcost x ≤ 12 := by
    unfold covL
    cases hb : covB l C with
    | false => simp
    | true =>
      simp only [if_true]
      intro x hx
      obtain ⟨p, _, rfl⟩ := List.mem_map.1 hx
      have h1 := bl_len p.1
      have h2 := bl_len p.2
      unfold dcost und
      simp only
      omega
  have := dsum_le h12 _ (Nat.le_refl _)
  omega

end Go.Proofs.YtkcfhlpdenjimaaDoor

/- Slices of numbers that are alike are held equal. -/
namespace Go.Proofs.YtkcfhlpdenjimaaDoor
open Go.RowKit

theorem eqIntS_same (a a' : Option Addr) (n c c' : Nat) (zs : List Int) (w : World) (hz : zs.length = n) (hn : n ≤ 1048576) (ha : At w a zs) (ha' : At w a' zs) :
    Calls Tryd.prog 12 #[.slice a n c, .slice a' n c'] w fun e w' => e = .returned (.bool true) ∧ Below w.heap.size w w' :=
  (eqIntS_any a a' n n c c' zs zs w hz hz hn hn ha ha').mono fun _ _ ⟨h1, h2⟩ => ⟨by rw [h1, decide_eq_true rfl], h2⟩
end Go.Proofs.YtkcfhlpdenjimaaDoor

/- Contracts of the laws' helpers eqDepend, eqDependS over dependencies that are alike. -/
namespace Go.Proofs.YtkcfhlpdenjimaaDoor
open Go.RowKit

set_option maxRecDepth 100000 in
set_option maxHeartbeats 2000000 in
theorem eqDepend_same (sa sa' : Option Addr) (sn sc sc' : Nat) (pa pa' : Option Addr) (pn pc pc' : Nat) (ss : List Int) (xs : List Int) (w : World) (hsz : ss.length = sn) (hz : xs.length = pn) (hsn : sn ≤ 1048576) (hpn : pn ≤ 1048576) (hsa : At w sa ss) (ha : At w pa xs) (hsa' : At w sa' ss) (ha' : At w pa' xs) :
    Calls Tryd.prog 22 #[.agg #[.slice sa sn sc, .slice pa pn pc], .agg #[.slice sa' sn sc', .slice pa' pn pc']] w fun e w' => e = .returned (.bool true) ∧ Below w.heap.size w w' := by
  obtain ⟨W, hW⟩ : ∃ W, W = ((w.alloc (.cells #[.slice sa sn sc, .slice pa pn pc] 43)).alloc (.cells #[.slice sa' sn sc', .slice pa' pn pc'] 43)) := ⟨_, rfl⟩
  have B0 : Below w.heap.size w W := by rw [hW]; exact (((Below.refl _ _).alloc (Nat.le_refl _) _).alloc (by simp) _)
  have q0 : W.cell? ⟨w.heap.size, 1, none⟩ = some (.slice pa pn pc) := by rw [hW]; simp
  have q1 : W.cell? ⟨w.heap.size + 1, 1, none⟩ = some (.slice pa' pn pc') := by rw [hW]; simp
  have U3 := Hid.mk (And.intro hsa hsa')
  have V3 := Hid.mk (And.intro ha ha')
  have HU1 := Hid.mk hsz
  have HV1 := Hid.mk hz
  clear hsa ha hsa' ha' hsz hz
  go_enter Tryd.func22, Tryd.ntmps22
  go_wp2_with fail
  rw [← hW]
  clear hW
  refine (eqIntS_same sa sa' sn sc sc' ss W HU1.out hsn (At.below U3.out.1 B0) (At.below U3.out.2 B0)).mono ?_
  rintro e w1 ⟨rfl, hb1⟩
  have B1 := B0.trans (hb1.mono B0.size)
  have q0 := cell_later hb1 q0
  have q1 := cell_later hb1 q1
  clear hb1 B0
  go_wp2_with fail
  refine (eqIntS_same pa pa' pn pc pc' xs w1 HV1.out hpn (At.below V3.out.1 B1) (At.below V3.out.2 B1)).mono ?_
  rintro e w2 ⟨rfl, hb2⟩
  go_wp2
  go_ret
  exact ⟨rfl, B1.trans (hb2.mono B1.size)⟩

set_option maxRecDepth 100000 in
set_option maxHeartbeats 4000000 in
theorem eqDependS_same (a a' : Option Addr) (n c c' : Nat) (xs : List Dep) (w : World) (hz : xs.length = n) (hn : n ≤ 1048576) (hs : ∀ (i : Nat) (x : Dep), xs[i]? = some x → SmDep x) (ha : AtD w a xs) (ha' : AtD w a' xs) :
    Calls Tryd.prog 13 #[.slice a n c, .slice a' n c'] w fun e w' => e = .returned (.bool true) ∧ Below w.heap.size w w' := by
  by_cases h0 : n = 0
  · subst h0
    go_enter Tryd.func13, Tryd.ntmps13
    go_wp2
    refine wp_loop_rounds 1 ?_
    rw [rounds_succ]
    go_wp2
    go_ret
    exact ⟨rfl, Below.refl _ _⟩
  · go_enter Tryd.func13, Tryd.ntmps13
    go_wp2
    go_loopw [5] (fun i wr => ∃ (k : Nat), k ≤ n ∧ i = .int .i64 k ∧ Below w.heap.size w wr) (fun i _ => n - (intOf i).toNat)
    case atStart => exact ⟨0, Nat.zero_le _, rfl, Below.refl _ _⟩
    case round =>
      obtain ⟨k, hk, rfl, hbw⟩ := hrel
      by_cases hlt : k < n
      · obtain ⟨b, off, rfl, _, hc⟩ := AtD.row (AtSl.below ha hbw) (by omega)
        obtain ⟨b', off', rfl, _, hc'⟩ := AtD.row (AtSl.below ha' hbw) (by omega)
        obtain ⟨x, hx⟩ : ∃ x, xs[k]? = some x := ⟨_, List.getElem?_eq_getElem (by omega)⟩
        obtain ⟨fa, fn, fc, ta, tn, tc, g0, g1, ⟨t1, t2, t3⟩, ⟨u1, u2, u3⟩⟩ := hc k x hx
        obtain ⟨fa', fn', fc', ta', tn', tc', h0, h1, ⟨t1', _, t3'⟩, ⟨u1', _, u3'⟩⟩ := hc' k x hx
        obtain rfl : fn = fn' := t1.symm.trans t1'
        obtain rfl : tn = tn' := u1.symm.trans u1'
        have hsm := hs k x hx
        have hki : (k : Int) < (n : Int) := by omega
        have HE : Hid (∀ w' : World, Below wr.heap.size wr w' → Calls Tryd.prog 22 #[.agg #[.slice fa fn fc, .slice ta tn tc], .agg #[.slice fa' fn fc', .slice ta' tn tc']] w' fun e w'' => e = .returned (.bool true) ∧ Below w'.heap.size w' w'') :=
          fun w' hw' => eqDepend_same fa fa' fn fc fc' ta ta' tn tc tc' x.1 x.2 w' t1 u1 (by have := hsm.1; omega) (by have := hsm.2; omega) (At.below t3 hw') (At.below u3 hw') (At.below t3' hw') (At.below u3' hw')
        clear hc hc' ha ha' hs hsm hx t1 t3 u1 u3 t1' t3' u1' u3'
        go_wp2_with fail
        go_region_held3 (fun w' => w'.cell? ⟨b, off + k * 2, none⟩ = some (.slice fa fn fc) ∧ w'.cell? ⟨b, off + k * 2 + 1, none⟩ = some (.slice ta tn tc) ∧ w'.cell? ⟨b', off' + k * 2, none⟩ = some (.slice fa' fn fc') ∧ w'.cell? ⟨b', off' + k * 2 + 1, none⟩ = some (.slice ta' tn tc')) (refine ⟨?_, ?_, ?_, ?_⟩ <;> assumption)
          (first | (go_at_call 22; refine (HE.out wr.drew (Below.refl _ _).drew).mono ?_; rintro e w2 ⟨rfl, hb2⟩; have e0 := cell_later hb2 g0; have e1 := cell_later hb2 g1; have d0 := cell_later hb2 h0; have d1 := cell_later hb2 h1) | fail)
        go_wp2
        go_roundw
        case rel => exact ⟨k + 1, by omega, by go_num, hbw.drew.trans (hb2.mono hbw.size)⟩
        case measure => simp [intOf]; omega
      · go_wp2
        go_ret
        exact ⟨rfl, hbw⟩

end Go.Proofs.YtkcfhlpdenjimaaDoor

/- Slices of numbers, marked, as things that are owned. -/
namespace Go.Proofs.YtkcfhlpdenjimaaDoor
open Go.RowKit

theorem markInts_rep (F : Nat → Prop) (a : Option Addr) (n c : Nat) (zs : List Int) (m : Int) (w : World) (hn : n ≤ 1048576) (h0 : 0 ≤ m) (h1 : m ≤ 268435456) (ho : RInts.Own w F [.slice a n c] zs) :
    Calls Tryd.prog 15 #[.slice a n c, .int .i64 m] w fun e w' => e = .returned (.int .i64 (m + n)) ∧ RInts.Own w' F [.slice a n c] (mkInts m zs) ∧ Off F w w' := by
  obtain ⟨h2, h3, h4, h5⟩ := RInts.own_iff.1 ho
  refine (markIntS_any 0 a n c _ m w hn h0 (by omega) h4).mono fun e w' ⟨e1, e2, e3⟩ => ⟨e1, RInts.own_iff.2 ⟨by unfold mkInts; rw [marks_length, h2], h3, by unfold mkInts; rw [h2]; exact e2, h5⟩, Off.grown e3 h5⟩
end Go.Proofs.YtkcfhlpdenjimaaDoor

/- Contracts of the laws' markDepend, markDependS over things that are owned. -/
namespace Go.Proofs.YtkcfhlpdenjimaaDoor
open Go.RowKit

def mkDep (m : Int) (x : Dep) : Dep := (mkInts m x.1, mkInts (m + x.1.length) x.2)
def mkDeps (m : Int) (xs : List Dep) : List Dep := mkL mkDep dcost m xs

set_option maxRecDepth 100000 in
set_option maxHeartbeats 4000000 in
theorem markDependS_rep (F : Nat → Prop) (a : Option Addr) (n c : Nat) (xs : List Dep) (m : Int) (w : World) (hn : n ≤ 1048576) (ht : dsum xs n ≤ 1048576) (h0 : 0 ≤ m) (h1 : m ≤ 134217728) (ho : RDeps.Own w F [.slice a n c] xs) :
    Calls Tryd.prog 14 #[.slice a n c, .int .i64 m] w fun e w' => e = .returned (.int .i64 (m + dsum xs n)) ∧ RDeps.Own w' F [.slice a n c] (mkDeps m xs) ∧ Off F w w' := by
  obtain ⟨a', n', c', cells, G, he, hl⟩ := ho
  simp only [List.cons.injEq, Value.slice.injEq, and_true] at he
  obtain ⟨rfl, rfl, rfl⟩ := he
  go_enter Tryd.func14, Tryd.ntmps14
  go_wp2
  go_loopw [1, 5] (fun q i wr => ∃ k : Nat, k ≤ n ∧ i = .int .i64 k ∧ q = .int .i64 (m + dsum xs k) ∧ Laid RDep wr F 43 a n c (mkTo mkDep dcost m xs k) cells G n ∧ Off F w wr) (fun _ i _ => n - (intOf i).toNat)
  case atStart => exact ⟨0, Nat.zero_le _, rfl, by simp [dsum_zero], by rw [mkTo_zero]; exact hl, Off.refl _ _⟩
  case round =>
    have hzl := hl.len
    clear hl
    obtain ⟨k, hk, rfl, rfl, hl, hof⟩ := hrel
    by_cases hlt : k < n
    · obtain ⟨x, hx⟩ : ∃ x, xs[k]? = some x := ⟨_, List.getElem?_eq_getElem (by omega)⟩
      have hrow := hl.row k x hlt (mkTo_next _ _ hx)
      obtain ⟨fa, fn, fc, ta, tn, tc, F1, F2, hcs, r1, r2, d1, d2, d12⟩ := RDep.own_open hrow
      rcases hl.outer.2 with ⟨_, h00⟩ | ⟨g, cap, cur, hv, _⟩
      · omega
      simp only [Value.slice.injEq, true_and] at hv
      obtain ⟨rfl, rfl⟩ := hv
      have hcl : cells.length = n * 2 := hl.outer.1
      have hcs2 : sub cells (k * 2) 2 = [.slice fa fn fc, .slice ta tn tc] := hcs
      have q0 : wr.cell? ⟨g, k * 2, none⟩ = some (.slice fa fn fc) := by
        rw [hl.outer.cellAt _ (show k * 2 < n * 2 by omega)]
        have h9 := sub_at (cells := cells) (o := k * 2) (k := 2) (j := 0) (by omega)
        rw [hcs2] at h9
        simpa using h9.symm
      have q1 : wr.cell? ⟨g, k * 2 + 1, none⟩ = some (.slice ta tn tc) := by
        rw [hl.outer.cellAt _ (show k * 2 + 1 < n * 2 by omega)]
        have h9 := sub_at (cells := cells) (o := k * 2) (k := 2) (j := 1) (by omega)
        rw [hcs2] at h9
        simpa using h9.symm
      have hf1 : x.1.length = fn := (RInts.own_iff.1 r1).1
      have ht1 : x.2.length = tn := (RInts.own_iff.1 r2).1
      have hts := dsum_succ hx
      have htm := dsum_mono xs (k + 1) n (by omega)
      have hps : dcost x = fn + tn := by unfold dcost; rw [hf1, ht1]
      have hgG : ¬ G k g := fun h => (hl.rowF k g hlt h).2 rfl
      have HL := Hid.mk hl
      have HO := Hid.mk hof
      have HX := Hid.mk hx
      obtain ⟨T, hT⟩ : ∃ T, dsum xs k = T := ⟨_, rfl⟩
      have HT := Hid.mk hT
      rw [hps] at hts
      rw [hT] at hts ⊢
      have hs1 : fn ≤ 1048576 := by omega
      have hs2 : tn ≤ 1048576 := by omega
      have hT1 : T ≤ 1048576 := by omega
      have HTS := Hid.mk hts
      have HC2 := Hid.mk hcs2
      have hki : (k : Int) < (n : Int) := by omega
      obtain ⟨M, hM⟩ : ∃ M : Int, M = m + T := ⟨_, rfl⟩
      have hM0 : 0 ≤ M := by omega
      have hM1 : M ≤ 140000000 := by omega
      have HM := Hid.mk hM
      rw [← hM]
      have HF1 := Hid.mk hf1
      have HD := Hid.mk (And.intro d1 (And.intro d2 d12))
      have HGG := Hid.mk hgG
      have R1 := Hid.mk r1
      have R2 := Hid.mk r2
      clear hl hrow hof hx hT hts hps hcs2 hcs hM hf1 ht1 r1 r2 d1 d2 d12 hgG htm hcl ht
      go_wp2_with fail
      refine (markInts_rep F1 fa fn fc x.1 M wr hs1 (by omega) (by omega) R1.out).mono ?_
      rintro e w1 ⟨rfl, o1, g1⟩
      have x1 := g1.cell q1 (fun h => HGG.out (HD.out.1 _ h))
      have O1 := Hid.mk o1
      have R2' := Hid.mk (RInts.ownOff R2.out g1 (fun b hb h => HD.out.2.2 b h hb))
      have G1 := Hid.mk g1
      clear o1 g1 R1 R2 q0 q1
      go_wp2_with fail
      refine (markInts_rep F2 ta tn tc x.2 (M + fn) w1 hs2 (by omega) (by omega) R2'.out).mono ?_
      rintro e w3 ⟨rfl, o3, g3⟩
      have O1' := RInts.ownOff O1.out g3 (fun b hb h => HD.out.2.2 b hb h)
      have hoff : Off (G k) wr w3 := (G1.out.mono HD.out.1).trans (g3.mono HD.out.2.1)
      have hturn := HL.out.turn (w' := w3) (cells' := cells) (x' := mkDep M x) hlt (fun b hb hn1 _ => hoff.block b hb hn1)
        (ownsRow_frame HL.out.outer (fun b hb hlb => hoff.block b hlb (fun hG => (HL.out.rowF k b hlt hG).2 hb))) (fun _ _ => rfl)
        (by
          show RDep.Own w3 (G k) (sub cells (k * 2) 2) (mkDep M x)
          rw [HC2.out]
          unfold mkDep
          rw [HF1.out]
          exact RDep.own_mk O1' o3 HD.out.1 HD.out.2.1 HD.out.2.2)
      have HLN : Hid (Laid RDep w3 F 43 (some ⟨g, 0, none⟩) n c (mkTo mkDep dcost m xs (k + 1)) cells G n) := by
        have h9 := mkTo_set mkDep dcost (m := m) HX.out
        have h8 : szL dcost xs k = T := HT.out
        rw [h8, ← HM.out] at h9
        show Laid _ _ _ _ _ _ _ _ _ _ _
        rw [← h9]
        exact hturn
      have HON : Hid (Off F w w3) := HO.out.trans (hoff.mono (fun b hb => (HL.out.rowF k b hlt hb).1))
      clear hturn hoff o3 g3 O1' G1 R2' x1
      go_wp2
      go_roundw
      case rel => exact ⟨k + 1, by omega, by go_num, by rw [HTS.out, HM.out]; congr 1; push_cast; omega, HLN.out, HON.out⟩
      case measure => simp [intOf]; omega
    · obtain rfl : k = n := by omega
      have HL := Hid.mk hl
      clear hl
      go_wp2
      go_ret
      refine ⟨rfl, ⟨_, _, _, cells, G, rfl, ?_⟩, hof⟩
      have h9 := HL.out
      rw [mkTo_all _ _ _ _ hzl] at h9
      exact h9

set_option maxRecDepth 100000 in
set_option maxHeartbeats 2000000 in
theorem markDepend_rep (F : Nat → Prop) (sa : Option Addr) (sn sc : Nat) (pa : Option Addr) (pn pc : Nat) (ss : List Int) (xs : List Int) (m : Int) (w : World) (hsn : sn ≤ 1048576) (hpn : pn ≤ 1048576) (h0 : 0 ≤ m) (h1 : m ≤ 16777216) (hF : ∀ b, F b → b < w.heap.size) (ho : RDep.Own w F [.slice sa sn sc, .slice pa pn pc] (ss, xs)) :
    Calls Tryd.prog 23 #[.agg #[.slice sa sn sc, .slice pa pn pc], .int .i64 m] w fun e w' => e = .returned (.int .i64 (m + dcost (ss, xs))) ∧ RDep.Own w' F [.slice sa sn sc, .slice pa pn pc] (mkDep m (ss, xs)) ∧ Off F w w' := by
  obtain ⟨c1, c2, F1, F2, hcc, h2, h3, d1, d2, d12⟩ := ho
  obtain ⟨a1, n1, k1, cells1, G1, rfl, l1⟩ := h2
  obtain ⟨a2, n2, k2, cells2, G2, rfl, l2⟩ := h3
  simp only [List.cons_append, List.nil_append, List.cons.injEq, Value.slice.injEq, and_true] at hcc
  obtain ⟨⟨rfl, rfl, rfl⟩, rfl, rfl, rfl⟩ := hcc
  have r1 : RInts.Own w F1 [.slice sa sn sc] ss := ⟨_, _, _, _, _, rfl, l1⟩
  have r2 : RInts.Own w F2 [.slice pa pn pc] xs := ⟨_, _, _, _, _, rfl, l2⟩
  have hz1 : ss.length = sn := l1.len
  have hz2 : xs.length = pn := l2.len
  have hv : dcost (ss, xs) = sn + pn := by unfold dcost; simp only; rw [hz1, hz2]
  rw [hv]
  obtain ⟨W, hW⟩ : ∃ W, W = w.alloc (.cells #[.slice sa sn sc, .slice pa pn pc] 43) := ⟨_, rfl⟩
  have B0 : Below w.heap.size w W := by rw [hW]; exact (Below.refl _ _).alloc (Nat.le_refl _) _
  have q1 : W.cell? ⟨w.heap.size, 1, none⟩ = some (.slice pa pn pc) := by rw [hW]; simp
  have R1 := Hid.mk (RInts.ownBelow r1 B0)
  have R2 := Hid.mk (RInts.ownBelow r2 B0)
  have HD := Hid.mk (And.intro d1 (And.intro d2 d12))
  have HZ1 := Hid.mk hz1
  have HF1 : Hid (¬ F1 w.heap.size) := fun h => by have := hF _ (d1 _ h); omega
  clear l1 l2 r1 r2 d1 d2 d12 hz1 hz2 hv
  go_enter Tryd.func23, Tryd.ntmps23
  go_wp2_with fail
  rw [← hW]
  clear hW
  refine (markInts_rep F1 sa sn sc ss m W hsn h0 (by omega) R1.out).mono ?_
  rintro e w1 ⟨rfl, o1, g1⟩
  have q1 := g1.cell q1 HF1.out
  have O1 := Hid.mk o1
  have R2' := Hid.mk (RInts.ownOff R2.out g1 (fun b hb h => HD.out.2.2 b h hb))
  have G1 := Hid.mk g1
  clear o1 g1 R1 R2
  go_wp2_with fail
  refine (markInts_rep F2 pa pn pc xs (m + sn) w1 hpn (by omega) (by omega) R2'.out).mono ?_
  rintro e w2 ⟨rfl, o2, g2⟩
  have HR : Hid (RDep.Own w2 F [.slice sa sn sc, .slice pa pn pc] (mkDep m (ss, xs))) := by
    show RDep.Own _ _ _ _
    unfold mkDep
    simp only [HZ1.out]
    exact ⟨[_], [_], F1, F2, rfl, RInts.ownOff O1.out g2 (fun b hb h => HD.out.2.2 b hb h), o2, HD.out.1, HD.out.2.1, HD.out.2.2⟩
  have HO : Hid (Off F w w2) := (Off.below B0).trans ((G1.out.mono HD.out.1).trans (g2.mono HD.out.2.1))
  clear o2 g2 O1 R2' G1 q1
  go_wp2
  go_ret
  exact ⟨ret_int (by push_cast; omega), HR.out, HO.out⟩

end Go.Proofs.YtkcfhlpdenjimaaDoor

/- The laws' helpers over dependencies in one form, as LawG has them over tables. -/
namespace Go.Proofs.YtkcfhlpdenjimaaDoor
open Go.RowKit

/-- A slice of dependencies that the call made: its blocks lie from lo on and below hi. -/
def OwnD (w : World) (lo hi : Nat) (a : Option Addr) (n c : Nat) (xs : List Dep) : Prop := RDeps.Own w (From lo hi) [.slice a n c] xs

section
variable {w w' : World} {lo hi : Nat} {a : Option Addr} {n c : Nat} {xs : List Dep}
theorem OwnD.below (h : OwnD w lo hi a n c xs) (hb : Below w.heap.size w w') : OwnD w' lo hi a n c xs := RDeps.ownBelow h hb
theorem OwnD.apartW {lo' hi' : Nat} (h : OwnD w lo hi a n c xs) (hp : Apart lo' hi' w w') (hd : hi ≤ lo' ∨ hi' ≤ lo) : OwnD w' lo hi a n c xs :=
  RDeps.ownOff h (Off.of_apart hp) (fun b h1 h2 => by have := h1.1; have := h1.2; have := h2.1; have := h2.2; omega)
theorem OwnD.atD0 (h : OwnD w lo hi a n c xs) : AtD w a xs := by
  obtain ⟨a', n', c', e, _, _, h3, _⟩ := RDeps.toAt h
  simp only [List.cons.injEq, Value.slice.injEq, and_true] at e
  obtain ⟨rfl, rfl, rfl⟩ := e
  exact h3
theorem OwnD.atD (h : OwnD w lo hi a n c xs) (_hs : SmD xs n) : AtD w a xs := h.atD0
end

theorem toDependSG (a : Option Addr) (n c : Nat) (xs : List Dep) (w : World) (hs : SmD xs n) (ha : AtD w a xs) :
    Calls Tryd.prog 9 #[.slice a n c] w fun e w' => ∃ g, e = .returned (.slice (some ⟨g, 0, none⟩) n n) ∧ OwnD w' w.heap.size w'.heap.size (some ⟨g, 0, none⟩) n n xs ∧ Below w.heap.size w w' :=
  toDependS_any a n c xs w hs.1 hs.n (fun _ _ hx => hs.each hx) ha
theorem eqDependSG (a a' : Option Addr) (n c c' : Nat) (xs : List Dep) (w : World) (hs : SmD xs n) (ha : AtD w a xs) (ha' : AtD w a' xs) :
    Calls Tryd.prog 13 #[.slice a n c, .slice a' n c'] w fun e w' => e = .returned (.bool true) ∧ Below w.heap.size w w' :=
  eqDependS_same a a' n c c' xs w hs.1 hs.n (fun _ _ hx => hs.each hx) ha ha'
theorem markDependSG (lo hi : Nat) (a : Option Addr) (n c : Nat) (xs : List Dep) (m : Int) (w : World) (hs : SmD xs n) (h0 : 0 ≤ m) (h1 : m ≤ 134217728) (ho : OwnD w lo hi a n c xs) :
    Calls Tryd.prog 14 #[.slice a n c, .int .i64 m] w fun e w' => e = .returned (.int .i64 (m + dsum xs n)) ∧ OwnD w' lo hi a n c (mkDeps m xs) ∧ Apart lo hi w w' :=
  (markDependS_rep (From lo hi) a n c xs m w hs.n hs.sum h0 h1 ho).mono fun _ _ ⟨h1, h2, h3⟩ => ⟨h1, h2, h3.apart⟩

end Go.Proofs.YtkcfhlpdenjimaaDoor

/- Lists of numbers that are answered, held as the laws marked them. -/
namespace Go.Proofs.YtkcfhlpdenjimaaDoor
open Go.RowKit

def IntsRet (e : Ending) (w' : World) (lo : Nat) (ok : Bool) (zs : List Int) : Prop := ∃ r m d, e = .returned (.tuple #[.slice r m d, .bool ok]) ∧ zs.length = m ∧ w'.ownsRow lo 3 1 (.slice r m d) m (zs.map (.int .i64))
theorem ints_at {w : World} {F : Nat → Prop} {a : Option Addr} {n c : Nat} {zs : List Int} (h : RInts.Own w F [.slice a n c] zs) : At w a zs := (RInts.at_iff.1 (RInts.toAt h)).2.2.1
theorem heldInts_rep (a : Option Addr) (n c : Nat) (zs : List Int) (m : Int) (w : World) (hz : zs.length = n) (hn : n ≤ 1048576) (h0 : 0 ≤ m) (h1 : m ≤ 268435456) (ha : At w a (mkInts m zs)) :
    Calls Tryd.prog 16 #[.slice a n c, .int .i64 m] w fun e w' => e = .returned (.int .i64 (m + n)) ∧ Below w.heap.size w w' := by
  unfold mkInts at ha
  rw [hz] at ha
  exact (heldIntS_any a n c m w hn h0 (by omega) ha).mono fun _ _ ⟨h1, h2⟩ => ⟨h1, by first | exact h2 | (rw [h2]; exact Below.refl _ _)⟩

theorem Off.toBelow {lo hi B : Nat} {a b : World} (h : Off (From lo hi) a b) (hlo : B ≤ lo) (hB : B ≤ a.heap.size) : Below B a b := ⟨h.os, h.tape, h.output, h.size, fun k hk => h.block k (by omega) (fun e => by have := e.1; omega)⟩

end Go.Proofs.YtkcfhlpdenjimaaDoor

/- What the laws over dependencies lean on. -/
namespace Go.Proofs.YtkcfhlpdenjimaaDoor
open Go.RowKit

theorem deps_at {w : World} {F : Nat → Prop} {a : Option Addr} {n c : Nat} {xs : List Dep} (h : RDeps.Own w F [.slice a n c] xs) : AtD w a xs := by
  obtain ⟨a', n', c', e, _, _, h3, _⟩ := RDeps.toAt h
  simp only [List.cons.injEq, Value.slice.injEq, and_true] at e
  obtain ⟨rfl, rfl, rfl⟩ := e
  exact h3
theorem dep_at {w : World} {F : Nat → Prop} {fa : Option Addr} {fn fc : Nat} {ta : Option Addr} {tn tc : Nat} {fs ts : List Int} (h : RDep.Own w F [.slice fa fn fc, .slice ta tn tc] (fs, ts)) : At w fa fs ∧ At w ta ts := by
  obtain ⟨⟨_, _, h3, _⟩, ⟨_, _, k3, _⟩⟩ := RDep.at_iff (RDep.toAt h)
  exact ⟨h3, k3⟩

end Go.Proofs.YtkcfhlpdenjimaaDoor

/- Contract of the laws' heldDependS over things that the laws marked. -/
namespace Go.Proofs.YtkcfhlpdenjimaaDoor
open Go.RowKit

theorem deps_len {w : World} {F : Nat → Prop} {a : Option Addr} {n c : Nat} {xs : List Dep} (h : RDeps.Own w F [.slice a n c] xs) : xs.length = n := by
  obtain ⟨a', n', c', e, h1, _, h3, _⟩ := RDeps.toAt h
  simp only [List.cons.injEq, Value.slice.injEq, and_true] at e
  obtain ⟨rfl, rfl, rfl⟩ := e
  exact h1

set_option maxRecDepth 100000 in
set_option maxHeartbeats 4000000 in
theorem heldDependS_rep (a : Option Addr) (n c : Nat) (xs : List Dep) (m : Int) (w : World) (hz : xs.length = n) (hn : n ≤ 1048576) (ht : dsum xs n ≤ 1048576) (h0 : 0 ≤ m) (h1 : m ≤ 134217728) (ha : AtD w a (mkDeps m xs)) :
    Calls Tryd.prog 33 #[.slice a n c, .int .i64 m] w fun e w' => e = .returned (.int .i64 (m + dsum xs n)) ∧ Below w.heap.size w w' := by
  have hl : (mkDeps m xs).length = n := by unfold mkDeps; rw [mkL_length, hz]
  by_cases hn0 : n = 0
  · subst hn0
    go_enter Tryd.func33, Tryd.ntmps33
    go_wp2
    refine wp_loop_rounds 1 ?_
    rw [rounds_succ]
    go_wp2
    go_ret
    exact ⟨by rw [dsum_zero]; simp, Below.refl _ _⟩
  have HA := Hid.mk ha
  have HL := Hid.mk hl
  clear ha hl
  go_enter Tryd.func33, Tryd.ntmps33
  go_wp2
  go_loopw [1, 5] (fun q i wr => ∃ k : Nat, k ≤ n ∧ i = .int .i64 k ∧ q = .int .i64 (m + dsum xs k) ∧ Below w.heap.size w wr) (fun _ i _ => n - (intOf i).toNat)
  case atStart => exact ⟨0, Nat.zero_le _, rfl, by simp [dsum_zero], Below.refl _ _⟩
  case round =>
    obtain ⟨k, hk, rfl, rfl, hbw⟩ := hrel
    by_cases hlt : k < n
    · obtain ⟨b, off, rfl, hc⟩ := AtD.rowD (AtSl.below HA.out hbw) (by have := HL.out; omega)
      obtain ⟨x, hx⟩ : ∃ x, xs[k]? = some x := ⟨_, List.getElem?_eq_getElem (by omega)⟩
      have hmk := mkL_at mkDep dcost m xs k x hx
      obtain ⟨fa, fn, fc, ta, tn, tc, g0, g1, hrd⟩ := hc k _ hmk
      obtain ⟨⟨t1, t2, t3, _⟩, ⟨u1, u2, u3, _⟩⟩ := RDep.at_iff hrd
      have hts := dsum_succ hx
      have htm := dsum_mono xs (k + 1) n (by omega)
      have hT' : szL dcost xs k = dsum xs k := rfl
      rw [hT'] at t1 t3 u1 u3
      obtain ⟨T, hT⟩ : ∃ T, dsum xs k = T := ⟨_, rfl⟩
      rw [hT] at hts t1 t3 u1 u3 ⊢
      have e1 : x.1.length = fn := by rw [← t1]; unfold mkDep mkInts; rw [marks_length]
      have e2 : x.2.length = tn := by rw [← u1]; unfold mkDep mkInts; rw [marks_length]
      have hps : dcost x = fn + tn := by unfold dcost; rw [e1, e2]
      rw [hps] at hts
      obtain ⟨M, hM⟩ : ∃ M : Int, M = m + T := ⟨_, rfl⟩
      rw [← hM] at t3 u3 ⊢
      have A1 : Hid (At wr fa (mkInts M x.1)) := t3
      have A2 : Hid (At wr ta (mkInts (M + fn) x.2)) := by rw [← e1]; exact u3
      have E1 := Hid.mk e1
      have E2 := Hid.mk e2
      have HTS := Hid.mk hts
      have HM := Hid.mk hM
      have hM0 : 0 ≤ M := by omega
      have hM1 : M ≤ 140000000 := by omega
      have hs1 : fn ≤ 1048576 := by omega
      have hs2 : tn ≤ 1048576 := by omega
      have hki : (k : Int) < (n : Int) := by omega
      have p1 : ¬ M + (fn : Int) < 0 := by omega
      have p2 : ¬ M + (fn : Int) + (tn : Int) < 0 := by omega
      clear t1 t3 u1 u3 hrd hmk hc hx hts hT hT' hM e1 e2 hps htm ht
      go_wp2_with fail
      refine (heldInts_rep fa fn fc x.1 M wr E1.out hs1 (by omega) (by omega) A1.out).mono ?_
      rintro e w1 ⟨rfl, hb1⟩
      have g1 := cell_later hb1 g1
      have A2' := Hid.mk (At.below A2.out hb1)
      have B1 := Hid.mk (hbw.trans (hb1.mono hbw.size))
      clear hb1 A1 A2 g0
      go_wp2_with fail
      refine (heldInts_rep ta tn tc x.2 (M + fn) w1 E2.out hs2 (by omega) (by omega) A2'.out).mono ?_
      rintro e w2 ⟨rfl, hb2⟩
      have B2 := Hid.mk (B1.out.trans (hb2.mono B1.out.size))
      clear hb2 A2' B1 g1
      go_wp2
      go_roundw
      case rel => exact ⟨k + 1, by omega, by go_num, by rw [HTS.out, HM.out]; congr 1; push_cast; omega, B2.out⟩
      case measure => simp [intOf]; omega
    · obtain rfl : k = n := by omega
      go_wp2
      go_ret
      exact ⟨rfl, hbw⟩

end Go.Proofs.YtkcfhlpdenjimaaDoor

/- The law FnExactCoverOf returns true at every input, and writes nothing that was there. -/
namespace Go.Proofs.YtkcfhlpdenjimaaDoor
open Go.RowKit

set_option maxRecDepth 100000 in
set_option maxHeartbeats 16000000 in
theorem lawCoverOf (a0 : Option Addr) (n0 c0 : Nat) (z0 : List Dep) (a1 : Int) (w : World) (hz0 : z0.length = n0) (hn0 : n0 ≤ 9223372036854775807) (ha0 : AtD w a0 z0) (_w1 : (Lit.int .i64 a1).wf = true) (htab : TabB w) :
    Calls Tryd.prog 6 #[.slice a0 n0 c0, .int .i64 a1] w fun e w' => e = .returned (.bool true) ∧ Below w.heap.size w w' := by
  have HA0 := Hid.mk ha0
  have HZ0 := Hid.mk hz0
  clear ha0 hz0
  have HTAB := Hid.mk htab
  clear htab
  have B0 : Below w.heap.size w w := Below.refl _ _
  obtain ⟨C0, hC0⟩ : ∃ C : Nat, n0 + dsum z0 n0 = C := ⟨_, rfl⟩
  have HC0 := Hid.mk hC0
  clear hC0
  by_cases big0 : (1048576 : Int) < (C0 : Int)
  · go_enter Tryd.func6, Tryd.ntmps6
    go_wp2_with fail
    refine (szDependS_any a0 n0 c0 z0 _ _ HZ0.out hn0 (by omega) (by omega) (AtSl.below HA0.out B0)).mono ?_
    rintro e v0 ⟨rfl, hv0⟩
    rw [HC0.out, leftOf_no big0]
    have y0 := B0.trans (hv0.mono B0.size)
    go_wp2
    go_ret
    exact ⟨rfl, y0⟩
  have hl0 : ¬ (1048576 : Int) - (C0 : Int) < 0 := by omega
  have HSM0 : Hid (SmD z0 n0) := ⟨HZ0.out, by have := HC0.out; omega⟩
  have hsn0 : n0 ≤ 1048576 := HSM0.out.n
  have HVB0 := HSM0.out.sum
  obtain ⟨V0, hV0⟩ : ∃ V : Nat, dsum z0 n0 = V := ⟨_, rfl⟩
  rw [hV0] at HVB0
  have HV0 := Hid.mk hV0
  clear hV0
  obtain ⟨ok, ta, hsA, HS, HI⟩ : ∃ (ok : Bool) (ta : List Dep), SmD ta ta.length ∧ Hid (∀ (x0 : Nat) (w : World) (F0 : Nat → Prop), RDeps.Own w F0 [.slice (some ⟨x0, 0, none⟩) n0 n0] z0 → Calls Tryd.prog 31 #[.slice (some ⟨x0, 0, none⟩) n0 n0, .int .i64 a1] w fun e w' => DepsRet e w' w.heap.size ok ta ∧ Below w.heap.size w w') ∧ Hid (∀ (x0 : Nat) (w : World) (F0 : Nat → Prop), RDeps.Own w F0 [.slice (some ⟨x0, 0, none⟩) n0 n0] z0 → TabB w → Calls Tryd.prog 32 #[.slice (some ⟨x0, 0, none⟩) n0 n0, .int .i64 a1] w fun e w' => DepsRet e w' w.heap.size ok ta ∧ Below w.heap.size w w') := ⟨covB z0 a1, covL z0 a1, cov_small z0 a1, fun x0 w F0 o0 => specCoverOf (some ⟨x0, 0, none⟩) n0 n0 z0 a1 w HZ0.out hsn0 (deps_at o0), fun x0 w F0 o0 ht => implCoverOf (some ⟨x0, 0, none⟩) n0 n0 z0 a1 w HZ0.out hsn0 (deps_at o0) ht⟩
  obtain ⟨na, hna⟩ : ∃ na, ta.length = na := ⟨_, rfl⟩
  rw [hna] at hsA
  have hnA := hsA.n
  have hvA := hsA.sum
  have HSA := Hid.mk hsA
  obtain ⟨VA, hVA⟩ : ∃ V : Nat, dsum ta na = V := ⟨_, rfl⟩
  rw [hVA] at hvA
  have HVA := Hid.mk hVA
  have HNA := Hid.mk hna
  clear hna hVA hsA
  go_enter Tryd.func6, Tryd.ntmps6
  go_wp2_with fail
  refine (szDependS_any a0 n0 c0 z0 _ _ HZ0.out hn0 (by omega) (by omega) (AtSl.below HA0.out B0)).mono ?_
  rintro e w1 ⟨rfl, hb1⟩
  rw [HC0.out, leftOf_yes (by omega)]
  have B_1 := B0.trans (hb1.mono B0.size)
  have zz1 : w.heap.size ≤ w1.heap.size := hb1.size
  clear hb1
  go_wp2_with fail
  refine (toDependSG a0 n0 c0 z0 _ HSM0.out (AtSl.below HA0.out B_1)).mono ?_
  rintro e w2 ⟨g2, rfl, ho2, hb2⟩
  have ot0_2 := Hid.mk ho2
  clear ho2
  have B_2 := B_1.trans (hb2.mono B_1.size)
  have zz2 : w1.heap.size ≤ w2.heap.size := hb2.size
  clear B_1
  clear hb2
  go_wp2_with fail
  refine (HS.out _ _ _ ot0_2.out).mono ?_
  rintro e w3 ⟨⟨r3, m3, d3, rfl, ho3⟩, hb3⟩
  clear ot0_2
  obtain rfl : na = m3 := HNA.out.symm.trans (deps_len ho3)
  have oo_3 := Hid.mk ho3
  clear ho3
  have B_3 := B_2.trans (hb3.mono B_2.size)
  have zz3 : w2.heap.size ≤ w3.heap.size := hb3.size
  clear B_2
  clear hb3
  go_wp2_with fail
  refine (toDependSG a0 n0 c0 z0 _ HSM0.out (AtSl.below HA0.out B_3)).mono ?_
  rintro e w4 ⟨g4, rfl, ho4, hb4⟩
  have ox0_4 := Hid.mk ho4
  clear ho4
  have oo_4 := Hid.mk (RDeps.ownBelow oo_3.out hb4)
  have B_4 := B_3.trans (hb4.mono B_3.size)
  have zz4 : w3.heap.size ≤ w4.heap.size := hb4.size
  clear oo_3 B_3
  clear hb4
  go_wp2_with fail
  refine (HI.out _ _ _ ox0_4.out (TabIs.below HTAB.out B_4)).mono ?_
  rintro e w5 ⟨⟨r5, m5, d5, rfl, ho5⟩, hb5⟩
  obtain rfl : na = m5 := HNA.out.symm.trans (deps_len ho5)
  have og_5 := Hid.mk ho5
  clear ho5
  have oo_5 := Hid.mk (RDeps.ownBelow oo_4.out hb5)
  have ox0_5 := Hid.mk (RDeps.ownBelow ox0_4.out hb5)
  have B_5 := B_4.trans (hb5.mono B_4.size)
  have zz5 : w4.heap.size ≤ w5.heap.size := hb5.size
  clear oo_4 ox0_4 B_4
  clear hb5
  go_wp2_with fail
  refine (eqDependSG _ _ na _ _ ta _ HSA.out (deps_at og_5.out) (deps_at oo_5.out)).mono ?_
  rintro e w6 ⟨rfl, hb6⟩
  have oo_6 := Hid.mk (RDeps.ownBelow oo_5.out hb6)
  have ox0_6 := Hid.mk (RDeps.ownBelow ox0_5.out hb6)
  have og_6 := Hid.mk (RDeps.ownBelow og_5.out hb6)
  have B_6 := B_5.trans (hb6.mono B_5.size)
  have zz6 : w5.heap.size ≤ w6.heap.size := hb6.size
  clear oo_5 ox0_5 og_5 B_5
  clear hb6
  go_wp2_with fail
  refine (toDependSG a0 n0 c0 z0 _ HSM0.out (AtSl.below HA0.out B_6)).mono ?_
  rintro e w7 ⟨g7, rfl, ho7, hb7⟩
  have oy_7 := Hid.mk ho7
  clear ho7
  have oo_7 := Hid.mk (RDeps.ownBelow oo_6.out hb7)
  have ox0_7 := Hid.mk (RDeps.ownBelow ox0_6.out hb7)
  have og_7 := Hid.mk (RDeps.ownBelow og_6.out hb7)
  have B_7 := B_6.trans (hb7.mono B_6.size)
  have zz7 : w6.heap.size ≤ w7.heap.size := hb7.size
  clear oo_6 ox0_6 og_6 B_6
  clear hb7
  go_wp2_with fail
  refine (eqDependSG _ _ n0 _ _ z0 _ HSM0.out (OwnD.atD0 ox0_7.out) (OwnD.atD0 oy_7.out)).mono ?_
  rintro e w8 ⟨rfl, hb8⟩
  clear oy_7
  have oo_8 := Hid.mk (RDeps.ownBelow oo_7.out hb8)
  have ox0_8 := Hid.mk (RDeps.ownBelow ox0_7.out hb8)
  have og_8 := Hid.mk (RDeps.ownBelow og_7.out hb8)
  have B_8 := B_7.trans (hb8.mono B_7.size)
  have zz8 : w7.heap.size ≤ w8.heap.size := hb8.size
  clear oo_7 ox0_7 og_7 B_7
  clear hb8
  go_wp2_with fail
  refine (markDependS_rep (From (w3.heap.size) (w4.heap.size)) _ n0 _ z0 _ _ hsn0 HSM0.out.sum (by omega) (by omega) ox0_8.out).mono ?_
  rintro e w9 ⟨rfl, ho9, hg9⟩
  rw [HV0.out]
  have ox0_9 := Hid.mk ho9
  clear ho9
  have oo_9 := Hid.mk (RDeps.ownOff oo_8.out hg9 (fun b h1 h2 => by have h3 := h1.1; have h4 := h1.2; have h5 := h2.1; have h6 := h2.2; omega))
  have og_9 := Hid.mk (RDeps.ownOff og_8.out hg9 (fun b h1 h2 => by have h3 := h1.1; have h4 := h1.2; have h5 := h2.1; have h6 := h2.2; omega))
  have B_9 := B_8.trans (hg9.toBelow (by omega) B_8.size)
  have zz9 : w8.heap.size ≤ w9.heap.size := hg9.size
  clear oo_8 ox0_8 og_8 B_8
  clear hg9
  have kpos : ¬ (1 : Int) + (V0 : Int) < 0 := by omega
  go_wp2_with fail
  refine (eqDependSG _ _ na _ _ ta _ HSA.out (deps_at og_9.out) (deps_at oo_9.out)).mono ?_
  rintro e w10 ⟨rfl, hb10⟩
  have oo_10 := Hid.mk (RDeps.ownBelow oo_9.out hb10)
  have ox0_10 := Hid.mk (RDeps.ownBelow ox0_9.out hb10)
  have og_10 := Hid.mk (RDeps.ownBelow og_9.out hb10)
  have B_10 := B_9.trans (hb10.mono B_9.size)
  have zz10 : w9.heap.size ≤ w10.heap.size := hb10.size
  clear oo_9 ox0_9 og_9 B_9
  clear hb10
  clear ox0_10
  go_wp2_with fail
  refine (markDependS_rep (From (w4.heap.size) (w5.heap.size)) _ na _ ta 1 _ hnA HSA.out.sum (by omega) (by omega) og_10.out).mono ?_
  rintro e w11 ⟨rfl, ho11, hg11⟩
  rw [HVA.out]
  have og_11 := Hid.mk ho11
  clear ho11
  have oo_11 := Hid.mk (RDeps.ownOff oo_10.out hg11 (fun b h1 h2 => by have h3 := h1.1; have h4 := h1.2; have h5 := h2.1; have h6 := h2.2; omega))
  have B_11 := B_10.trans (hg11.toBelow (by omega) B_10.size)
  have zz11 : w10.heap.size ≤ w11.heap.size := hg11.size
  clear oo_10 og_10 B_10
  clear hg11
  have gpos : ¬ (1 : Int) + (VA : Int) < 0 := by omega
  go_wp2_with fail
  refine (heldDependS_rep _ na _ ta 1 _ HNA.out hnA HSA.out.sum (by omega) (by omega) (deps_at og_11.out)).mono ?_
  rintro e w12 ⟨rfl, hb12⟩
  rw [HVA.out]
  have oo_12 := Hid.mk (RDeps.ownBelow oo_11.out hb12)
  have og_12 := Hid.mk (RDeps.ownBelow og_11.out hb12)
  have B_12 := B_11.trans (hb12.mono B_11.size)
  have zz12 : w11.heap.size ≤ w12.heap.size := hb12.size
  clear oo_11 og_11 B_11
  clear hb12
  go_wp2_with fail
  refine (toDependSG a0 n0 c0 z0 _ HSM0.out (AtSl.below HA0.out B_12)).mono ?_
  rintro e w13 ⟨g13, rfl, ho13, hb13⟩
  have oh0_13 := Hid.mk ho13
  clear ho13
  have oo_13 := Hid.mk (RDeps.ownBelow oo_12.out hb13)
  have og_13 := Hid.mk (RDeps.ownBelow og_12.out hb13)
  have B_13 := B_12.trans (hb13.mono B_12.size)
  have zz13 : w12.heap.size ≤ w13.heap.size := hb13.size
  clear oo_12 og_12 B_12
  clear hb13
  go_wp2_with fail
  refine (HI.out _ _ _ oh0_13.out (TabIs.below HTAB.out B_13)).mono ?_
  rintro e w14 ⟨⟨r14, m14, d14, rfl, ho14⟩, hb14⟩
  clear oh0_13
  obtain rfl : na = m14 := HNA.out.symm.trans (deps_len ho14)
  have ohg_14 := Hid.mk ho14
  clear ho14
  have oo_14 := Hid.mk (RDeps.ownBelow oo_13.out hb14)
  have og_14 := Hid.mk (RDeps.ownBelow og_13.out hb14)
  have B_14 := B_13.trans (hb14.mono B_13.size)
  have zz14 : w13.heap.size ≤ w14.heap.size := hb14.size
  clear oo_13 og_13 B_13
  clear hb14
  go_wp2_with fail
  refine (eqDependSG _ _ na _ _ ta _ HSA.out (deps_at ohg_14.out) (deps_at oo_14.out)).mono ?_
  rintro e w15 ⟨rfl, hb15⟩
  have oo_15 := Hid.mk (RDeps.ownBelow oo_14.out hb15)
  have og_15 := Hid.mk (RDeps.ownBelow og_14.out hb15)
  have ohg_15 := Hid.mk (RDeps.ownBelow ohg_14.out hb15)
  have B_15 := B_14.trans (hb15.mono B_14.size)
  have zz15 : w14.heap.size ≤ w15.heap.size := hb15.size
  clear oo_14 og_14 ohg_14 B_14
  clear hb15
  go_wp2_with fail
  refine (heldDependS_rep _ na _ ta 1 _ HNA.out hnA HSA.out.sum (by omega) (by omega) (deps_at og_15.out)).mono ?_
  rintro e w16 ⟨rfl, hb16⟩
  rw [HVA.out]
  have oo_16 := Hid.mk (RDeps.ownBelow oo_15.out hb16)
  have og_16 := Hid.mk (RDeps.ownBelow og_15.out hb16)
  have ohg_16 := Hid.mk (RDeps.ownBelow ohg_15.out hb16)
  have B_16 := B_15.trans (hb16.mono B_15.size)
  have zz16 : w15.heap.size ≤ w16.heap.size := hb16.size
  clear oo_15 og_15 ohg_15 B_15
  clear hb16
  go_wp2
  go_ret
  exact ⟨rfl, B_16⟩

end Go.Proofs.YtkcfhlpdenjimaaDoor

/- Opening the laws' arguments: rows, slices of ints; plain facts on readings. -/
namespace Go.Proofs.YtkcfhlpdenjimaaDoor
open Go.ChangeShapes Go.WideShapes Go.ChangeAt Go.RowKit Go.Joins Go.Deep

section
variable {H : Type} {enc : TypeId × Value → H} {P : Program} {w : World} {base : Nat} {spare : Nat → Bool} {held : Bool}

theorem array1 {α : Type} {cs : Array α} (h : cs.size = 1) : ∃ c0, cs = #[c0] := by
  obtain ⟨l⟩ := cs
  match l, h with
  | [c0], _ => exact ⟨c0, rfl⟩

theorem open_agg1 {r : Reach} {b0 : Nat} {t : TypeId} {f0 : Field} {v : Value} {d : DataW H} {p : List MemPlace} (hs : P.underlying t = some (.struct #[f0])) (hone : oneCellFields P #[f0] = true) (hC : P.cellsOf t = 1)
    (hv : Value.okWide P w r b0 t v) (h : DataW.Trod enc P w base spare held t v d p) :
    ∃ (v0 : Value) (y0 : DataW H × List MemPlace) (n : Nat), v = .agg #[v0] ∧ d = .agg [y0.1] ∧ p = y0.2 ∧ DataW.trod enc P w base spare held n f0.type [v0] = some y0 := by
  obtain ⟨cs, rfl, hsz⟩ := okWide_struct hs hv
  obtain ⟨c0, rfl⟩ := array1 (hsz.trans hC)
  obtain ⟨fuel, hf⟩ := h
  obtain ⟨y0, n, hx, _, h0⟩ := trod_struct1 hs hf
  obtain ⟨o0, k0⟩ := hone_of hone 0 f0 rfl
  simp only [Prod.mk.injEq] at hx
  exact ⟨c0, y0, n, rfl, hx.1, hx.2, by simpa [Value.cells, o0, k0] using h0⟩

/-- A slice of ints that reads: its numbers. -/
theorem open_at {t e : TypeId} {fuel n c : Nat} {a : Option Addr} {x : DataW H × List MemPlace} (ht : P.underlying t = some (.slice e)) (he : P.underlying e = some (.int .i64)) (hC : P.cellsOf e = 1)
    (h : DataW.trod enc P w base spare held fuel t [.slice a n c] = some x) : ∃ zs : List Int, zs.length = n ∧ n ≤ 9223372036854775807 ∧ At w a zs := by
  rcases open_ints ht he hC h with ⟨hcs, _⟩ | ⟨ad, l, c', zs, hcs, _, hl, hm, hz, _, hcell, _⟩
  · simp at hcs
    obtain ⟨rfl, rfl, rfl⟩ := hcs
    exact ⟨[], rfl, by omega, At.nil _ _⟩
  · simp at hcs
    obtain ⟨rfl, rfl, rfl⟩ := hcs
    unfold maxLen at hm
    have hz' : n ≤ zs.length := by split at hz <;> omega
    refine ⟨zs.take n, by simp; omega, by omega, ?_⟩
    by_cases h0 : n = 0
    · left; simp [h0]
    · right
      obtain ⟨b, off, spot⟩ := ad
      have hc := hcell 0 (by omega)
      have hspot : spot = none := by simpa [Addr.add] using World.cell?_spot hc
      subst hspot
      refine ⟨b, off, rfl, fun i hi => ?_⟩
      have hin : i < n := by simp at hi; omega
      have := hcell i (by omega)
      rw [show (zs.take n).getD i 0 = zs.getD i 0 by simp [List.getD, hin]]
      rw [Addr.add_lit] at this
      exact this

/-- A struct of one slice of ints, by value. -/
theorem open_row {r : Reach} {b0 : Nat} {t ts e : TypeId} {f0 : Field} {v : Value} {d : DataW H} {p : List MemPlace} (hs : P.underlying t = some (.struct #[f0])) (hf0 : f0.type = ts) (hone : oneCellFields P #[f0] = true) (hC : P.cellsOf t = 1)
    (ht : P.underlying ts = some (.slice e)) (he : P.underlying e = some (.int .i64)) (hCe : P.cellsOf e = 1)
    (hv : Value.okWide P w r b0 t v) (h : DataW.Trod enc P w base spare held t v d p) : ∃ a n c, v = .agg #[.slice a n c] ∧ ∃ zs : List Int, zs.length = n ∧ n ≤ 9223372036854775807 ∧ At w a zs := by
  obtain ⟨v0, y0, m, rfl, _, _, h0⟩ := open_agg1 hs hone hC hv h
  subst hf0
  obtain ⟨a, n, c, hcs⟩ := slice_form ht h0
  obtain rfl : v0 = .slice a n c := by simpa using hcs
  exact ⟨a, n, c, rfl, open_at ht he hCe h0⟩
end

end Go.Proofs.YtkcfhlpdenjimaaDoor
