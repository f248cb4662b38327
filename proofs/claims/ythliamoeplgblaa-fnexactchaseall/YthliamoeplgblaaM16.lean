/- Several texts of one proof, in build order: DepE, DepM, LawD, LawD6. -/
import Derived.Test.YthliamoeplgblaaM15
import Derived.Test.YthliamoeplgblaaM7

/- Contracts of the laws' helpers eqDepend, eqDependS over dependencies that are alike. -/
namespace Go.Proofs.Ythliamoeplgblaa
open Go.RowKit

set_option maxRecDepth 100000 in
set_option maxHeartbeats 2000000 in
theorem eqDepend_same (sa sa' : Option Addr) (sn sc sc' : Nat) (pa pa' : Option Addr) (pn pc pc' : Nat) (ss : List Int) (xs : List Int) (w : World) (hsz : ss.length = sn) (hz : xs.length = pn) (hsn : sn ≤ 1048576) (hpn : pn ≤ 1048576) (hsa : At w sa ss) (ha : At w pa xs) (hsa' : At w sa' ss) (ha' : At w pa' xs) :
    Calls Try.prog 38 #[.agg #[.slice sa sn sc, .slice pa pn pc], .agg #[.slice sa' sn sc', .slice pa' pn pc']] w fun e w' => e = .returned (.bool true) ∧ Below w.heap.size w w' := by
  obtain ⟨W, hW⟩ : ∃ W, W = ((w.alloc (.cells #[.slice sa sn sc, .slice pa pn pc] 59)).alloc (.cells #[.slice sa' sn sc', .slice pa' pn pc'] 59)) := ⟨_, rfl⟩
  have B0 : Below w.heap.size w W := by rw [hW]; exact (((Below.refl _ _).alloc (Nat.le_refl _) _).alloc (by simp) _)
  have q0 : W.cell? ⟨w.heap.size, 1, none⟩ = some (.slice pa pn pc) := by rw [hW]; simp
  have q1 : W.cell? ⟨w.heap.size + 1, 1, none⟩ = some (.slice pa' pn pc') := by rw [hW]; simp
  have U3 := Hid.mk (And.intro hsa hsa')
  have V3 := Hid.mk (And.intro ha ha')
  have HU1 := Hid.mk hsz
  have HV1 := Hid.mk hz
  clear hsa ha hsa' ha' hsz hz
  go_enter Try.func38, Try.ntmps38
  go_wp2_with fail
  rw [← hW]
  clear hW
  refine (eqIntS_same sa sa' sn sc sc' ss W HU1.out hsn (At.below U3.out.1 B0) (At.below U3.out.2 B0)).mono ?_
  rintro e w1 ⟨rfl, hb1⟩
  have B1 := B0.trans (hb1.mono B0.size)
  have q0 := cell_later hb1 q0
  have q1 := cell_later hb1 q1
  clear hb1 B0
  go_wp2_with fail
  refine (eqIntS_same pa pa' pn pc pc' xs w1 HV1.out hpn (At.below V3.out.1 B1) (At.below V3.out.2 B1)).mono ?_
  rintro e w2 ⟨rfl, hb2⟩
  go_wp2
  go_ret
  exact ⟨rfl, B1.trans (hb2.mono B1.size)⟩

set_option maxRecDepth 100000 in
set_option maxHeartbeats 4000000 in
theorem eqDependS_same (a a' : Option Addr) (n c c' : Nat) (xs : List Dep) (w : World) (hz : xs.length = n) (hn : n ≤ 1048576) (hs : ∀ (i : Nat) (x : Dep), xs[i]? = some x → SmDep x) (ha : AtD w a xs) (ha' : AtD w a' xs) :
    Calls Try.prog 14 #[.slice a n c, .slice a' n c'] w fun e w' => e = .returned (.bool true) ∧ Below w.heap.size w w' := by
  by_cases h0 : n = 0
  · subst h0
    go_enter Try.func14, Try.ntmps14
    go_wp2
    refine wp_loop_rounds 1 ?_
    rw [rounds_succ]
    go_wp2
    go_ret
    exact ⟨rfl, Below.refl _ _⟩
  · go_enter Try.func14, Try.ntmps14
    go_wp2
    go_loopw [5] (fun i wr => ∃ (k : Nat), k ≤ n ∧ i = .int .i64 k ∧ Below w.heap.size w wr) (fun i _ => n - (intOf i).toNat)
    case atStart => exact ⟨0, Nat.zero_le _, rfl, Below.refl _ _⟩
    case round =>
      obtain ⟨k, hk, rfl, hbw⟩ := hrel
      by_cases hlt : k < n
      · obtain ⟨b, off, rfl, _, hc⟩ := AtD.row (AtSl.below ha hbw) (by omega)
        obtain ⟨b', off', rfl, _, hc'⟩ := AtD.row (AtSl.below ha' hbw) (by omega)
        obtain ⟨x, hx⟩ : ∃ x, xs[k]? = some x := ⟨_, List.getElem?_eq_getElem (by omega)⟩
        obtain ⟨fa, fn, fc, ta, tn, tc, g0, g1, ⟨t1, t2, t3⟩, ⟨u1, u2, u3⟩⟩ := hc k x hx
        obtain ⟨fa', fn', fc', ta', tn', tc', h0, h1, ⟨t1', _, t3'⟩, ⟨u1', _, u3'⟩⟩ := hc' k x hx
        obtain rfl : fn = fn' := t1.symm.trans t1'
        obtain rfl : tn = tn' := u1.symm.trans u1'
        have hsm := hs k x hx
        have hki : (k : Int) < (n : Int) := by omega
        have HE : Hid (∀ w' : World, Below wr.heap.size wr w' → Calls Try.prog 38 #[.agg #[.slice fa fn fc, .slice ta tn tc], .agg #[.slice fa' fn fc', .slice ta' tn tc']] w' fun e w'' => e = .returned (.bool true) ∧ Below w'.heap.size w' w'') :=
          fun w' hw' => eqDepend_same fa fa' fn fc fc' ta ta' tn tc tc' x.1 x.2 w' t1 u1 (by have := hsm.1; omega) (by have := hsm.2; omega) (At.below t3 hw') (At.below u3 hw') (At.below t3' hw') (At.below u3' hw')
        clear hc hc' ha ha' hs hsm hx t1 t3 u1 u3 t1' t3' u1' u3'
        go_wp2_with fail
        go_region_held3 (fun w' => w'.cell? ⟨b, off + k * 2, none⟩ = some (.slice fa fn fc) ∧ w'.cell? ⟨b, off + k * 2 + 1, none⟩ = some (.slice ta tn tc) ∧ w'.cell? ⟨b', off' + k * 2, none⟩ = some (.slice fa' fn fc') ∧ w'.cell? ⟨b', off' + k * 2 + 1, none⟩ = some (.slice ta' tn tc')) (refine ⟨?_, ?_, ?_, ?_⟩ <;> assumption)
          (first | (go_at_call 38; refine (HE.out wr.drew (Below.refl _ _).drew).mono ?_; rintro e w2 ⟨rfl, hb2⟩; have e0 := cell_later hb2 g0; have e1 := cell_later hb2 g1; have d0 := cell_later hb2 h0; have d1 := cell_later hb2 h1) | fail)
        go_wp2
        go_roundw
        case rel => exact ⟨k + 1, by omega, by go_num, hbw.drew.trans (hb2.mono hbw.size)⟩
        case measure => simp [intOf]; omega
      · go_wp2
        go_ret
        exact ⟨rfl, hbw⟩

end Go.Proofs.Ythliamoeplgblaa

/- Contracts of the laws' markDepend, markDependS over things that are owned. -/
namespace Go.Proofs.Ythliamoeplgblaa
open Go.RowKit

def mkDep (m : Int) (x : Dep) : Dep := (mkInts m x.1, mkInts (m + x.1.length) x.2)
def mkDeps (m : Int) (xs : List Dep) : List Dep := mkL mkDep dcost m xs

set_option maxRecDepth 100000 in
set_option maxHeartbeats 4000000 in
theorem markDependS_rep (F : Nat → Prop) (a : Option Addr) (n c : Nat) (xs : List Dep) (m : Int) (w : World) (hn : n ≤ 1048576) (ht : dsum xs n ≤ 1048576) (h0 : 0 ≤ m) (h1 : m ≤ 134217728) (ho : RDeps.Own w F [.slice a n c] xs) :
    Calls Try.prog 16 #[.slice a n c, .int .i64 m] w fun e w' => e = .returned (.int .i64 (m + dsum xs n)) ∧ RDeps.Own w' F [.slice a n c] (mkDeps m xs) ∧ Off F w w' := by
  obtain ⟨a', n', c', cells, G, he, hl⟩ := ho
  simp only [List.cons.injEq, Value.slice.injEq, and_true] at he
  obtain ⟨rfl, rfl, rfl⟩ := he
  go_enter Try.func16, Try.ntmps16
  go_wp2
  go_loopw [1, 5] (fun q i wr => ∃ k : Nat, k ≤ n ∧ i = .int .i64 k ∧ q = .int .i64 (m + dsum xs k) ∧ Laid RDep wr F 59 a n c (mkTo mkDep dcost m xs k) cells G n ∧ Off F w wr) (fun _ i _ => n - (intOf i).toNat)
  case atStart => exact ⟨0, Nat.zero_le _, rfl, by simp [dsum_zero], by rw [mkTo_zero]; exact hl, Off.refl _ _⟩
  case round =>
    have hzl := hl.len
    clear hl
    obtain ⟨k, hk, rfl, rfl, hl, hof⟩ := hrel
    by_cases hlt : k < n
    · obtain ⟨x, hx⟩ : ∃ x, xs[k]? = some x := ⟨_, List.getElem?_eq_getElem (by omega)⟩
      have hrow := hl.row k x hlt (mkTo_next _ _ hx)
      obtain ⟨fa, fn, fc, ta, tn, tc, F1, F2, hcs, r1, r2, d1, d2, d12⟩ := RDep.own_open hrow
      rcases hl.outer.2 with ⟨_, h00⟩ | ⟨g, cap, cur, hv, _⟩
      · omega
      simp only [Value.slice.injEq, true_and] at hv
      obtain ⟨rfl, rfl⟩ := hv
      have hcl : cells.length = n * 2 := hl.outer.1
      have hcs2 : sub cells (k * 2) 2 = [.slice fa fn fc, .slice ta tn tc] := hcs
      have q0 : wr.cell? ⟨g, k * 2, none⟩ = some (.slice fa fn fc) := by
        rw [hl.outer.cellAt _ (show k * 2 < n * 2 by omega)]
        have h9 := sub_at (cells := cells) (o := k * 2) (k := 2) (j := 0) (by omega)
        rw [hcs2] at h9
        simpa using h9.symm
      have q1 : wr.cell? ⟨g, k * 2 + 1, none⟩ = some (.slice ta tn tc) := by
        rw [hl.outer.cellAt _ (show k * 2 + 1 < n * 2 by omega)]
        have h9 := sub_at (cells := cells) (o := k * 2) (k := 2) (j := 1) (by omega)
        rw [hcs2] at h9
        simpa using h9.symm
      have hf1 : x.1.length = fn := (RInts.own_iff.1 r1).1
      have ht1 : x.2.length = tn := (RInts.own_iff.1 r2).1
      have hts := dsum_succ hx
      have htm := dsum_mono xs (k + 1) n (by omega)
      have hps : dcost x = fn + tn := by unfold dcost; rw [hf1, ht1]
      have hgG : ¬ G k g := fun h => (hl.rowF k g hlt h).2 rfl
      have HL := Hid.mk hl
      have HO := Hid.mk hof
      have HX := Hid.mk hx
      obtain ⟨T, hT⟩ : ∃ T, dsum xs k = T := ⟨_, rfl⟩
      have HT := Hid.mk hT
      rw [hps] at hts
      rw [hT] at hts ⊢
      have hs1 : fn ≤ 1048576 := by omega
      have hs2 : tn ≤ 1048576 := by omega
      have hT1 : T ≤ 1048576 := by omega
      have HTS := Hid.mk hts
      have HC2 := Hid.mk hcs2
      have hki : (k : Int) < (n : Int) := by omega
      obtain ⟨M, hM⟩ : ∃ M : Int, M = m + T := ⟨_, rfl⟩
      have hM0 : 0 ≤ M := by omega
      have hM1 : M ≤ 140000000 := by omega
      have HM := Hid.mk hM
      rw [← hM]
      have HF1 := Hid.mk hf1
      have HD := Hid.mk (And.intro d1 (And.intro d2 d12))
      have HGG := Hid.mk hgG
      have R1 := Hid.mk r1
      have R2 := Hid.mk r2
      clear hl hrow hof hx hT hts hps hcs2 hcs hM hf1 ht1 r1 r2 d1 d2 d12 hgG htm hcl ht
      go_wp2_with fail
      refine (markInts_rep F1 fa fn fc x.1 M wr hs1 (by omega) (by omega) R1.out).mono ?_
      rintro e w1 ⟨rfl, o1, g1⟩
      have x1 := g1.cell q1 (fun h => HGG.out (HD.out.1 _ h))
      have O1 := Hid.mk o1
      have R2' := Hid.mk (RInts.ownOff R2.out g1 (fun b hb h => HD.out.2.2 b h hb))
      have G1 := Hid.mk g1
      clear o1 g1 R1 R2 q0 q1
      go_wp2_with fail
      refine (markInts_rep F2 ta tn tc x.2 (M + fn) w1 hs2 (by omega) (by omega) R2'.out).mono ?_
      rintro e w3 ⟨rfl, o3, g3⟩
      have O1' := RInts.ownOff O1.out g3 (fun b hb h => HD.out.2.2 b hb h)
      have hoff : Off (G k) wr w3 := (G1.out.mono HD.out.1).trans (g3.mono HD.out.2.1)
      have hturn := HL.out.turn (w' := w3) (cells' := cells) (x' := mkDep M x) hlt (fun b hb hn1 _ => hoff.block b hb hn1)
        (ownsRow_frame HL.out.outer (fun b hb hlb => hoff.block b hlb (fun hG => (HL.out.rowF k b hlt hG).2 hb))) (fun _ _ => rfl)
        (by
          show RDep.Own w3 (G k) (sub cells (k * 2) 2) (mkDep M x)
          rw [HC2.out]
          unfold mkDep
          rw [HF1.out]
          exact RDep.own_mk O1' o3 HD.out.1 HD.out.2.1 HD.out.2.2)
      have HLN : Hid (Laid RDep w3 F 59 (some ⟨g, 0, none⟩) n c (mkTo mkDep dcost m xs (k + 1)) cells G n) := by
        have h9 := mkTo_set mkDep dcost (m := m) HX.out
        have h8 : szL dcost xs k = T := HT.out
        rw [h8, ← HM.out] at h9
        show Laid _ _ _ _ _ _ _ _ _ _ _
        rw [← h9]
        exact hturn
      have HON : Hid (Off F w w3) := HO.out.trans (hoff.mono (fun b hb => (HL.out.rowF k b hlt hb).1))
      clear hturn hoff o3 g3 O1' G1 R2' x1
      go_wp2
      go_roundw
      case rel => exact ⟨k + 1, by omega, by go_num, by rw [HTS.out, HM.out]; congr 1; push_cast; omega, HLN.out, HON.out⟩
      case measure => simp [intOf]; omega
    · obtain rfl : k = n := by omega
      have HL := Hid.mk hl
      clear hl
      go_wp2
      go_ret
      refine ⟨rfl, ⟨_, _, _, cells, G, rfl, ?_⟩, hof⟩
      have h9 := HL.out
      rw [mkTo_all _ _ _ _ hzl] at h9
      exact h9

end Go.Proofs.Ythliamoeplgblaa

/- The laws' helpers over dependencies in one form, as LawG has them over tables. -/
namespace Go.Proofs.Ythliamoeplgblaa
open Go.RowKit

/-- A slice of dependencies that the call made: its blocks lie from lo on and below hi. -/
def OwnD (w : World) (lo hi : Nat) (a : Option Addr) (n c : Nat) (xs : List Dep) : Prop := RDeps.Own w (From lo hi) [.slice a n c] xs

section
variable {w w' : World} {lo hi : Nat} {a : Option Addr} {n c : Nat} {xs : List Dep}
theorem OwnD.below (h : OwnD w lo hi a n c xs) (hb : Below w.heap.size w w') : OwnD w' lo hi a n c xs := RDeps.ownBelow h hb
theorem OwnD.apartW {lo' hi' : Nat} (h : OwnD w lo hi a n c xs) (hp : Apart lo' hi' w w') (hd : hi ≤ lo' ∨ hi' ≤ lo) : OwnD w' lo hi a n c xs :=
  RDeps.ownOff h (Off.of_apart hp) (fun b h1 h2 => by have := h1.1; have := h1.2; have := h2.1; have := h2.2; omega)
theorem OwnD.atD0 (h : OwnD w lo hi a n c xs) : AtD w a xs := by
  obtain ⟨a', n', c', e, _, _, h3, _⟩ := RDeps.toAt h
  simp only [List.cons.injEq, Value.slice.injEq, and_true] at e
  obtain ⟨rfl, rfl, rfl⟩ := e
  exact h3
theorem OwnD.atD (h : OwnD w lo hi a n c xs) (_hs : SmD xs n) : AtD w a xs := h.atD0
end

theorem toDependSG (a : Option Addr) (n c : Nat) (xs : List Dep) (w : World) (hs : SmD xs n) (ha : AtD w a xs) :
    Calls Try.prog 11 #[.slice a n c] w fun e w' => ∃ g, e = .returned (.slice (some ⟨g, 0, none⟩) n n) ∧ OwnD w' w.heap.size w'.heap.size (some ⟨g, 0, none⟩) n n xs ∧ Below w.heap.size w w' :=
  toDependS_any a n c xs w hs.1 hs.n (fun _ _ hx => hs.each hx) ha
theorem eqDependSG (a a' : Option Addr) (n c c' : Nat) (xs : List Dep) (w : World) (hs : SmD xs n) (ha : AtD w a xs) (ha' : AtD w a' xs) :
    Calls Try.prog 14 #[.slice a n c, .slice a' n c'] w fun e w' => e = .returned (.bool true) ∧ Below w.heap.size w w' :=
  eqDependS_same a a' n c c' xs w hs.1 hs.n (fun _ _ hx => hs.each hx) ha ha'
theorem markDependSG (lo hi : Nat) (a : Option Addr) (n c : Nat) (xs : List Dep) (m : Int) (w : World) (hs : SmD xs n) (h0 : 0 ≤ m) (h1 : m ≤ 134217728) (ho : OwnD w lo hi a n c xs) :
    Calls Try.prog 16 #[.slice a n c, .int .i64 m] w fun e w' => e = .returned (.int .i64 (m + dsum xs n)) ∧ OwnD w' lo hi a n c (mkDeps m xs) ∧ Apart lo hi w w' :=
  (markDependS_rep (From lo hi) a n c xs m w hs.n hs.sum h0 h1 ho).mono fun _ _ ⟨h1, h2, h3⟩ => ⟨h1, h2, h3.apart⟩

end Go.Proofs.Ythliamoeplgblaa

/- What the laws over dependencies lean on. -/
namespace Go.Proofs.Ythliamoeplgblaa
open Go.RowKit

theorem deps_at {w : World} {F : Nat → Prop} {a : Option Addr} {n c : Nat} {xs : List Dep} (h : RDeps.Own w F [.slice a n c] xs) : AtD w a xs := by
  obtain ⟨a', n', c', e, _, _, h3, _⟩ := RDeps.toAt h
  simp only [List.cons.injEq, Value.slice.injEq, and_true] at e
  obtain ⟨rfl, rfl, rfl⟩ := e
  exact h3
theorem dep_at {w : World} {F : Nat → Prop} {fa : Option Addr} {fn fc : Nat} {ta : Option Addr} {tn tc : Nat} {fs ts : List Int} (h : RDep.Own w F [.slice fa fn fc, .slice ta tn tc] (fs, ts)) : At w fa fs ∧ At w ta ts := by
  obtain ⟨⟨_, _, h3, _⟩, ⟨_, _, k3, _⟩⟩ := RDep.at_iff (RDep.toAt h)
  exact ⟨h3, k3⟩

end Go.Proofs.Ythliamoeplgblaa
