/- Contracts of the laws' markDepend, markDependS over things that are owned. -/
import Derived.Test.YtkcfhlpdenjimaaDoorDepE
import Derived.Test.YtkcfhlpdenjimaaDoorIntM
namespace Go.Proofs.YtkcfhlpdenjimaaDoor
open Go.RowKit

def mkDep (m : Int) (x : Dep) : Dep := (mkInts m x.1, mkInts (m + x.1.length) x.2)
def mkDeps (m : Int) (xs : List Dep) : List Dep := mkL mkDep dcost m xs

set_option maxRecDepth 100000 in
set_option maxHeartbeats 4000000 in
theorem markDependS_rep (F : Nat → Prop) (a : Option Addr) (n c : Nat) (xs : List Dep) (m : Int) (w : World) (hn : n ≤ 1048576) (ht : dsum xs n ≤ 1048576) (h0 : 0 ≤ m) (h1 : m ≤ 134217728) (ho : RDeps.Own w F [.slice a n c] xs) :
    Calls Tryd.prog 14 #[.slice a n c, .int .i64 m] w fun e w' => e = .returned (.int .i64 (m + dsum xs n)) ∧ RDeps.Own w' F [.slice a n c] (mkDeps m xs) ∧ Off F w w' := by
  obtain ⟨a', n', c', cells, G, he, hl⟩ := ho
  simp only [List.cons.injEq, Value.slice.injEq, and_true] at he
  obtain ⟨rfl, rfl, rfl⟩ := he
  go_enter Tryd.func14, Tryd.ntmps14
  go_wp2
  go_loopw [1, 5] (fun q i wr => ∃ k : Nat, k ≤ n ∧ i = .int .i64 k ∧ q = .int .i64 (m + dsum xs k) ∧ Laid RDep wr F 43 a n c (mkTo mkDep dcost m xs k) cells G n ∧ Off F w wr) (fun _ i _ => n - (intOf i).toNat)
  case atStart => exact ⟨0, Nat.zero_le _, rfl, by simp [dsum_zero], by rw [mkTo_zero]; exact hl, Off.refl _ _⟩
  case round =>
    have hzl := hl.len
    clear hl
    obtain ⟨k, hk, rfl, rfl, hl, hof⟩ := hrel
    by_cases hlt : k < n
    · obtain ⟨x, hx⟩ : ∃ x, xs[k]? = some x := ⟨_, List.getElem?_eq_getElem (by omega)⟩
      have hrow := hl.row k x hlt (mkTo_next _ _ hx)
      obtain ⟨fa, fn, fc, ta, tn, tc, F1, F2, hcs, r1, r2, d1, d2, d12⟩ := RDep.own_open hrow
      rcases hl.outer.2 with ⟨_, h00⟩ | ⟨g, cap, cur, hv, _⟩
      · omega
      simp only [Value.slice.injEq, true_and] at hv
      obtain ⟨rfl, rfl⟩ := hv
      have hcl : cells.length = n * 2 := hl.outer.1
      have hcs2 : sub cells (k * 2) 2 = [.slice fa fn fc, .slice ta tn tc] := hcs
      have q0 : wr.cell? ⟨g, k * 2, none⟩ = some (.slice fa fn fc) := by
        rw [hl.outer.cellAt _ (show k * 2 < n * 2 by omega)]
        have h9 := sub_at (cells := cells) (o := k * 2) (k := 2) (j := 0) (by omega)
        rw [hcs2] at h9
        simpa using h9.symm
      have q1 : wr.cell? ⟨g, k * 2 + 1, none⟩ = some (.slice ta tn tc) := by
        rw [hl.outer.cellAt _ (show k * 2 + 1 < n * 2 by omega)]
        have h9 := sub_at (cells := cells) (o := k * 2) (k := 2) (j := 1) (by omega)
        rw [hcs2] at h9
        simpa using h9.symm
      have hf1 : x.1.length = fn := (RInts.own_iff.1 r1).1
      have ht1 : x.2.length = tn := (RInts.own_iff.1 r2).1
      have hts := dsum_succ hx
      have htm := dsum_mono xs (k + 1) n (by omega)
      have hps : dcost x = fn + tn := by unfold dcost; rw [hf1, ht1]
      have hgG : ¬ G k g := fun h => (hl.rowF k g hlt h).2 rfl
      have HL := Hid.mk hl
      have HO := Hid.mk hof
      have HX := Hid.mk hx
      obtain ⟨T, hT⟩ : ∃ T, dsum xs k = T := ⟨_, rfl⟩
      have HT := Hid.mk hT
      rw [hps] at hts
      rw [hT] at hts ⊢
      have hs1 : fn ≤ 1048576 := by omega
      have hs2 : tn ≤ 1048576 := by omega
      have hT1 : T ≤ 1048576 := by omega
      have HTS := Hid.mk hts
      have HC2 := Hid.mk hcs2
      have hki : (k : Int) < (n : Int) := by omega
      obtain ⟨M, hM⟩ : ∃ M : Int, M = m + T := ⟨_, rfl⟩
      have hM0 : 0 ≤ M := by omega
      have hM1 : M ≤ 140000000 := by omega
      have HM := Hid.mk hM
      rw [← hM]
      have HF1 := Hid.mk hf1
      have HD := Hid.mk (And.intro d1 (And.intro d2 d12))
      have HGG := Hid.mk hgG
      have R1 := Hid.mk r1
      have R2 := Hid.mk r2
      clear hl hrow hof hx hT hts hps hcs2 hcs hM hf1 ht1 r1 r2 d1 d2 d12 hgG htm hcl ht
      go_wp2_with fail
      refine (markInts_rep F1 fa fn fc x.1 M wr hs1 (by omega) (by omega) R1.out).mono ?_
      rintro e w1 ⟨rfl, o1, g1⟩
      have x1 := g1.cell q1 (fun h => HGG.out (HD.out.1 _ h))
      have O1 := Hid.mk o1
      have R2' := Hid.mk (RInts.ownOff R2.out g1 (fun b hb h => HD.out.2.2 b h hb))
      have G1 := Hid.mk g1
      clear o1 g1 R1 R2 q0 q1
      go_wp2_with fail
      refine (markInts_rep F2 ta tn tc x.2 (M + fn) w1 hs2 (by omega) (by omega) R2'.out).mono ?_
      rintro e w3 ⟨rfl, o3, g3⟩
      have O1' := RInts.ownOff O1.out g3 (fun b hb h => HD.out.2.2 b hb h)
      have hoff : Off (G k) wr w3 := (G1.out.mono HD.out.1).trans (g3.mono HD.out.2.1)
      have hturn := HL.out.turn (w' := w3) (cells' := cells) (x' := mkDep M x) hlt (fun b hb hn1 _ => hoff.block b hb hn1)
        (ownsRow_frame HL.out.outer (fun b hb hlb => hoff.block b hlb (fun hG => (HL.out.rowF k b hlt hG).2 hb))) (fun _ _ => rfl)
        (by
          show RDep.Own w3 (G k) (sub cells (k * 2) 2) (mkDep M x)
          rw [HC2.out]
          unfold mkDep
          rw [HF1.out]
          exact RDep.own_mk O1' o3 HD.out.1 HD.out.2.1 HD.out.2.2)
      have HLN : Hid (Laid RDep w3 F 43 (some ⟨g, 0, none⟩) n c (mkTo mkDep dcost m xs (k + 1)) cells G n) := by
        have h9 := mkTo_set mkDep dcost (m := m) HX.out
        have h8 : szL dcost xs k = T := HT.out
        rw [h8, ← HM.out] at h9
        show Laid _ _ _ _ _ _ _ _ _ _ _
        rw [← h9]
        exact hturn
      have HON : Hid (Off F w w3) := HO.out.trans (hoff.mono (fun b hb => (HL.out.rowF k b hlt hb).1))
      clear hturn hoff o3 g3 O1' G1 R2' x1
      go_wp2
      go_roundw
      case rel => exact ⟨k + 1, by omega, by go_num, by rw [HTS.out, HM.out]; congr 1; push_cast; omega, HLN.out, HON.out⟩
      case measure => simp [intOf]; omega
    · obtain rfl : k = n := by omega
      have HL := Hid.mk hl
      clear hl
      go_wp2
      go_ret
      refine ⟨rfl, ⟨_, _, _, cells, G, rfl, ?_⟩, hof⟩
      have h9 := HL.out
      rw [mkTo_all _ _ _ _ hzl] at h9
      exact h9

set_option maxRecDepth 100000 in
set_option maxHeartbeats 2000000 in
theorem markDepend_rep (F : Nat → Prop) (sa : Option Addr) (sn sc : Nat) (pa : Option Addr) (pn pc : Nat) (ss : List Int) (xs : List Int) (m : Int) (w : World) (hsn : sn ≤ 1048576) (hpn : pn ≤ 1048576) (h0 : 0 ≤ m) (h1 : m ≤ 16777216) (hF : ∀ b, F b → b < w.heap.size) (ho : RDep.Own w F [.slice sa sn sc, .slice pa pn pc] (ss, xs)) :
    Calls Tryd.prog 23 #[.agg #[.slice sa sn sc, .slice pa pn pc], .int .i64 m] w fun e w' => e = .returned (.int .i64 (m + dcost (ss, xs))) ∧ RDep.Own w' F [.slice sa sn sc, .slice pa pn pc] (mkDep m (ss, xs)) ∧ Off F w w' := by
  obtain ⟨c1, c2, F1, F2, hcc, h2, h3, d1, d2, d12⟩ := ho
  obtain ⟨a1, n1, k1, cells1, G1, rfl, l1⟩ := h2
  obtain ⟨a2, n2, k2, cells2, G2, rfl, l2⟩ := h3
  simp only [List.cons_append, List.nil_append, List.cons.injEq, Value.slice.injEq, and_true] at hcc
  obtain ⟨⟨rfl, rfl, rfl⟩, rfl, rfl, rfl⟩ := hcc
  have r1 : RInts.Own w F1 [.slice sa sn sc] ss := ⟨_, _, _, _, _, rfl, l1⟩
  have r2 : RInts.Own w F2 [.slice pa pn pc] xs := ⟨_, _, _, _, _, rfl, l2⟩
  have hz1 : ss.length = sn := l1.len
  have hz2 : xs.length = pn := l2.len
  have hv : dcost (ss, xs) = sn + pn := by unfold dcost; simp only; rw [hz1, hz2]
  rw [hv]
  obtain ⟨W, hW⟩ : ∃ W, W = w.alloc (.cells #[.slice sa sn sc, .slice pa pn pc] 43) := ⟨_, rfl⟩
  have B0 : Below w.heap.size w W := by rw [hW]; exact (Below.refl _ _).alloc (Nat.le_refl _) _
  have q1 : W.cell? ⟨w.heap.size, 1, none⟩ = some (.slice pa pn pc) := by rw [hW]; simp
  have R1 := Hid.mk (RInts.ownBelow r1 B0)
  have R2 := Hid.mk (RInts.ownBelow r2 B0)
  have HD := Hid.mk (And.intro d1 (And.intro d2 d12))
  have HZ1 := Hid.mk hz1
  have HF1 : Hid (¬ F1 w.heap.size) := fun h => by have := hF _ (d1 _ h); omega
  clear l1 l2 r1 r2 d1 d2 d12 hz1 hz2 hv
  go_enter Tryd.func23, Tryd.ntmps23
  go_wp2_with fail
  rw [← hW]
  clear hW
  refine (markInts_rep F1 sa sn sc ss m W hsn h0 (by omega) R1.out).mono ?_
  rintro e w1 ⟨rfl, o1, g1⟩
  have q1 := g1.cell q1 HF1.out
  have O1 := Hid.mk o1
  have R2' := Hid.mk (RInts.ownOff R2.out g1 (fun b hb h => HD.out.2.2 b h hb))
  have G1 := Hid.mk g1
  clear o1 g1 R1 R2
  go_wp2_with fail
  refine (markInts_rep F2 pa pn pc xs (m + sn) w1 hpn (by omega) (by omega) R2'.out).mono ?_
  rintro e w2 ⟨rfl, o2, g2⟩
  have HR : Hid (RDep.Own w2 F [.slice sa sn sc, .slice pa pn pc] (mkDep m (ss, xs))) := by
    show RDep.Own _ _ _ _
    unfold mkDep
    simp only [HZ1.out]
    exact ⟨[_], [_], F1, F2, rfl, RInts.ownOff O1.out g2 (fun b hb h => HD.out.2.2 b hb h), o2, HD.out.1, HD.out.2.1, HD.out.2.2⟩
  have HO : Hid (Off F w w2) := (Off.below B0).trans ((G1.out.mono HD.out.1).trans (g2.mono HD.out.2.1))
  clear o2 g2 O1 R2' G1 q1
  go_wp2
  go_ret
  exact ⟨ret_int (by push_cast; omega), HR.out, HO.out⟩

end Go.Proofs.YtkcfhlpdenjimaaDoor
