/- Several texts of one proof, in build order: ViewE, LawV5, LawCheckView, Open. -/
import Derived.Test.YthdcjelahoiepaaM16
import Derived.Test.YthdcjelahoiepaaM24
import Derived.Test.YthdcjelahoiepaaM0
import Derived.ProofKit
import Derived.OpenShut
import Derived.ShutString
import Derived.ChangeOld
import Derived.Lib.SmallJoins

/- Contracts of the laws' helpers eqPart, eqPartS, eqView over parts and views that are alike. -/
namespace Go.Proofs.Ythdcjelahoiepaa
open Go.RowKit

theorem eqIntS_same (a a' : Option Addr) (n c c' : Nat) (zs : List Int) (w : World) (hz : zs.length = n) (hn : n ≤ 1048576) (ha : At w a zs) (ha' : At w a' zs) :
    Calls Try.prog 19 #[.slice a n c, .slice a' n c'] w fun e w' => e = .returned (.bool true) ∧ Below w.heap.size w w' :=
  (eqIntS_any a a' n n c c' zs zs w hz hz hn hn ha ha').mono fun _ _ ⟨h1, h2⟩ => ⟨by rw [h1, decide_eq_true rfl], h2⟩
theorem eqIntSS_same (a a' : Option Addr) (n c c' : Nat) (zs : List (List Int)) (w : World) (hz : zs.length = n) (hn : n ≤ 1048576) (hs : ∀ i, i < zs.length → (zs.getD i []).length ≤ 1048576) (ha : AtS w a zs) (ha' : AtS w a' zs) :
    Calls Try.prog 114 #[.slice a n c, .slice a' n c'] w fun e w' => e = .returned (.bool true) ∧ Below w.heap.size w w' :=
  (eqIntSS_any a a' n n c c' zs zs w hz hz hn hn hs hs ha ha').mono fun _ _ ⟨h1, h2⟩ => ⟨by rw [h1, decide_eq_true rfl], h2⟩

set_option maxRecDepth 100000 in
set_option maxHeartbeats 4000000 in
theorem eqPart_same (cs cs' : List Value) (x : PartD) (w : World) (hs : SmPart x) (h : RPart.At w cs x) (h' : RPart.At w cs' x) :
    Calls Try.prog 99 #[.agg cs.toArray, .agg cs'.toArray] w fun e w' => e = .returned (.bool true) ∧ Below w.heap.size w w' := by
  obtain ⟨ta, tn, tc, ca, cn, cc, pa, pn, pc, rfl, ⟨t1, t2, t3⟩, ⟨u1, u2, u3⟩, ⟨v1, v2, v3⟩⟩ := RPart.at_open h
  obtain ⟨ta', tn', tc', ca', cn', cc', pa', pn', pc', rfl, ⟨t1', _, t3'⟩, ⟨u1', _, u3'⟩, ⟨v1', _, v3'⟩⟩ := RPart.at_open h'
  have he := hs.each
  have hs1 := hs.1
  have hs2 := hs.2.1
  have hs3 := hs.2.2.1
  clear h hs h'
  obtain rfl : tn = tn' := t1.symm.trans t1'
  obtain rfl : cn = cn' := u1.symm.trans u1'
  obtain rfl : pn = pn' := v1.symm.trans v1'
  obtain ⟨K, A, B, ts, zs, ps⟩ := x
  simp only [PartD.K, PartD.A, PartD.B, PartD.ts, PartD.cs, PartD.ps] at *
  rw [t1] at hs1
  rw [u1] at hs2
  rw [v1] at hs3
  obtain ⟨W, hW⟩ : ∃ W, W = ((w.alloc (.cells (cellsP K A B ta tn tc ca cn cc pa pn pc).toArray 132)).alloc (.cells (cellsP K A B ta' tn tc' ca' cn cc' pa' pn pc').toArray 132)) := ⟨_, rfl⟩
  have B0 : Below w.heap.size w W := by rw [hW]; exact (((Below.refl _ _).alloc (Nat.le_refl _) _).alloc (by simp) _)
  have zW : w.heap.size + 1 < W.heap.size := by rw [hW]; simp
  have b1 : W.heap[w.heap.size + 1]? = some (.cells (cellsP K A B ta' tn tc' ca' cn cc' pa' pn pc').toArray 132 (0, 0)) := by
    rw [hW]
    have q := heap_alloc_new (w.alloc (.cells (cellsP K A B ta tn tc ca cn cc pa pn pc).toArray 132)) (.cells (cellsP K A B ta' tn tc' ca' cn cc' pa' pn pc').toArray 132)
    simpa only [World.size_alloc] using q
  have b0 : W.heap[w.heap.size]? = some (.cells (cellsP K A B ta tn tc ca cn cc pa pn pc).toArray 132 (0, 0)) := by
    rw [hW]
    exact blk_alloc (heap_alloc_new w _) _
  have T3 := Hid.mk (And.intro t3 t3')
  have U3 := Hid.mk (And.intro u3 u3')
  have V3 := Hid.mk (And.intro v3 v3')
  have HE := Hid.mk he
  have HT1 := Hid.mk t1
  have HU1 := Hid.mk u1
  have HV1 := Hid.mk v1
  clear t3 u3 v3 he t1 u1 v1 t3' u3' v3' t1' u1' v1'
  go_enter Try.func99, Try.ntmps99
  go_wp2_with fail
  rw [← hW]
  clear hW
  refine (eqTestS_same ta ta' tn tc tc' ts W HT1.out hs1 (AtE.below T3.out.1 B0) (AtE.below T3.out.2 B0)).mono ?_
  rintro e w1 ⟨rfl, hb1⟩
  have B1 : Below w.heap.size w w1 := B0.trans (hb1.mono (by omega))
  replace b1 := blk_below b1 hb1
  replace b0 := blk_below b0 hb1
  have q := blk_cell b0 4 (v := .slice ca cn cc) rfl
  have r := blk_cell b1 4 (v := .slice ca' cn cc') rfl
  have HB := Hid.mk B1
  clear hb1 B0 B1
  go_wp2_with fail
  refine (eqIntS_same ca ca' cn cc cc' zs w1 HU1.out hs2 (At.below U3.out.1 HB.out) (At.below U3.out.2 HB.out)).mono ?_
  rintro e w2 ⟨rfl, hb2⟩
  replace b1 := blk_below b1 hb2
  replace b0 := blk_below b0 hb2
  have B2 := HB.out.trans (hb2.mono HB.out.size)
  have q := blk_cell b0 5 (v := .slice pa pn pc) rfl
  have r := blk_cell b1 5 (v := .slice pa' pn pc') rfl
  have HC := Hid.mk B2
  clear hb2 HB B2
  go_wp2_with fail
  refine (eqIntSS_same pa pa' pn pc pc' ps w2 HV1.out hs3 HE.out (AtS.below V3.out.1 HC.out) (AtS.below V3.out.2 HC.out)).mono ?_
  rintro e w3 ⟨rfl, hb3⟩
  go_wp2
  go_ret
  exact ⟨rfl, HC.out.trans (hb3.mono HC.out.size)⟩

set_option maxRecDepth 100000 in
set_option maxHeartbeats 4000000 in
theorem eqPartS_same (a a' : Option Addr) (n c c' : Nat) (xs : List PartD) (w : World) (hz : xs.length = n) (hn : n ≤ 1048576) (hs : ∀ (i : Nat) (x : PartD), xs[i]? = some x → SmPart x) (ha : AtSl RPart w a xs) (ha' : AtSl RPart w a' xs) :
    Calls Try.prog 58 #[.slice a n c, .slice a' n c'] w fun e w' => e = .returned (.bool true) ∧ Below w.heap.size w w' := by
  by_cases h0 : n = 0
  · subst h0
    go_enter Try.func58, Try.ntmps58
    go_wp2
    refine wp_loop_rounds 1 ?_
    rw [rounds_succ]
    go_wp2
    go_ret
    exact ⟨rfl, Below.refl _ _⟩
  · go_enter Try.func58, Try.ntmps58
    go_wp2
    go_loopw [5] (fun i wr => ∃ (k : Nat), k ≤ n ∧ i = .int .i64 k ∧ Below w.heap.size w wr) (fun i _ => n - (intOf i).toNat)
    case atStart => exact ⟨0, Nat.zero_le _, rfl, Below.refl _ _⟩
    case round =>
      obtain ⟨k, hk, rfl, hbw⟩ := hrel
      by_cases hlt : k < n
      · obtain ⟨b, off, rfl, hc⟩ := (ha.below hbw).each (by omega)
        obtain ⟨b', off', rfl, hc'⟩ := (ha'.below hbw).each (by omega)
        obtain ⟨x, hx⟩ : ∃ x, xs[k]? = some x := ⟨_, List.getElem?_eq_getElem (by omega)⟩
        obtain ⟨cx, hcx, hat⟩ := hc k x hx
        obtain ⟨cx', hcx', hat'⟩ := hc' k x hx
        have hsm := hs k x hx
        obtain ⟨ta, tn, tc, ca, cn, cc, pa, pn, pc, rfl, _⟩ := RPart.at_open hat
        obtain ⟨ta', tn', tc', ca', cn', cc', pa', pn', pc', rfl, _⟩ := RPart.at_open hat'
        have g0 := hcx 0 _ rfl
        have g1 := hcx 1 _ rfl
        have g2 := hcx 2 _ rfl
        have g3 := hcx 3 _ rfl
        have g4 := hcx 4 _ rfl
        have g5 := hcx 5 _ rfl
        have h0 := hcx' 0 _ rfl
        have h1 := hcx' 1 _ rfl
        have h2 := hcx' 2 _ rfl
        have h3 := hcx' 3 _ rfl
        have h4 := hcx' 4 _ rfl
        have h5 := hcx' 5 _ rfl
        rw [RPart_k] at g0 g1 g2 g3 g4 g5 h0 h1 h2 h3 h4 h5
        rw [Nat.add_zero] at g0 h0
        have hki : (k : Int) < (n : Int) := by omega
        have HE : Hid (∀ w' : World, Below wr.heap.size wr w' → Calls Try.prog 99 #[.agg (cellsP x.K x.A x.B ta tn tc ca cn cc pa pn pc).toArray, .agg (cellsP x.K x.A x.B ta' tn' tc' ca' cn' cc' pa' pn' pc').toArray] w' fun e w'' => e = .returned (.bool true) ∧ Below w'.heap.size w' w'') :=
          fun w' hw' => eqPart_same _ _ x w' hsm (RPart.below hat hw') (RPart.below hat' hw')
        clear hc hc' ha ha' hat hat' hcx hcx' hs hsm hx
        generalize x.K = K at *
        generalize x.A = A at *
        generalize x.B = B at *

        go_wp2_with fail
        go_region_held3 (fun w' => w'.cell? ⟨b, off + k * 6, none⟩ = some (.int .i64 K) ∧ w'.cell? ⟨b, off + k * 6 + 1, none⟩ = some (.int .i64 A) ∧ w'.cell? ⟨b, off + k * 6 + 2, none⟩ = some (.int .i64 B) ∧ w'.cell? ⟨b, off + k * 6 + 3, none⟩ = some (.slice ta tn tc) ∧ w'.cell? ⟨b, off + k * 6 + 4, none⟩ = some (.slice ca cn cc) ∧ w'.cell? ⟨b, off + k * 6 + 5, none⟩ = some (.slice pa pn pc) ∧ w'.cell? ⟨b', off' + k * 6, none⟩ = some (.int .i64 K) ∧ w'.cell? ⟨b', off' + k * 6 + 1, none⟩ = some (.int .i64 A) ∧ w'.cell? ⟨b', off' + k * 6 + 2, none⟩ = some (.int .i64 B) ∧ w'.cell? ⟨b', off' + k * 6 + 3, none⟩ = some (.slice ta' tn' tc') ∧ w'.cell? ⟨b', off' + k * 6 + 4, none⟩ = some (.slice ca' cn' cc') ∧ w'.cell? ⟨b', off' + k * 6 + 5, none⟩ = some (.slice pa' pn' pc')) (refine ⟨?_, ?_, ?_, ?_, ?_, ?_, ?_, ?_, ?_, ?_, ?_, ?_⟩ <;> assumption)
          (first | (go_at_call 99; refine (HE.out wr.drew (Below.refl _ _).drew).mono ?_; rintro e w2 ⟨rfl, hb2⟩; have e0 := cell_later hb2 g0; have e1 := cell_later hb2 g1; have e2 := cell_later hb2 g2; have e3 := cell_later hb2 g3; have e4 := cell_later hb2 g4; have e5 := cell_later hb2 g5; have d0 := cell_later hb2 h0; have d1 := cell_later hb2 h1; have d2 := cell_later hb2 h2; have d3 := cell_later hb2 h3; have d4 := cell_later hb2 h4; have d5 := cell_later hb2 h5) | fail)
        go_wp2
        go_roundw
        case rel => exact ⟨k + 1, by omega, by go_num, hbw.drew.trans (hb2.mono hbw.size)⟩
        case measure => simp [intOf]; omega
      · go_wp2
        go_ret
        exact ⟨rfl, hbw⟩

set_option maxRecDepth 100000 in
set_option maxHeartbeats 2000000 in
theorem eqView_same (sa sa' : Option Addr) (sn sc sc' : Nat) (pa pa' : Option Addr) (pn pc pc' : Nat) (ss : List Int) (xs : List PartD) (w : World) (hsz : ss.length = sn) (hz : xs.length = pn) (hs : SmView (ss, xs)) (hsa : At w sa ss) (ha : AtSl RPart w pa xs) (hsa' : At w sa' ss) (ha' : AtSl RPart w pa' xs) :
    Calls Try.prog 20 #[.agg #[.slice sa sn sc, .slice pa pn pc], .agg #[.slice sa' sn sc', .slice pa' pn pc']] w fun e w' => e = .returned (.bool true) ∧ Below w.heap.size w w' := by
  have hsn : sn ≤ 1048576 := by have := hs.src; simp only at this; omega
  have hpn : pn ≤ 1048576 := by have := hs.len; simp only at this; omega
  have HS : Hid (∀ (i : Nat) (x : PartD), xs[i]? = some x → SmPart x) := fun i x hx => hs.part hx
  clear hs
  obtain ⟨W, hW⟩ : ∃ W, W = ((w.alloc (.cells #[.slice sa sn sc, .slice pa pn pc] 47)).alloc (.cells #[.slice sa' sn sc', .slice pa' pn pc'] 47)) := ⟨_, rfl⟩
  have B0 : Below w.heap.size w W := by rw [hW]; exact (((Below.refl _ _).alloc (Nat.le_refl _) _).alloc (by simp) _)
  have q0 : W.cell? ⟨w.heap.size, 1, none⟩ = some (.slice pa pn pc) := by rw [hW]; simp
  have q1 : W.cell? ⟨w.heap.size + 1, 1, none⟩ = some (.slice pa' pn pc') := by rw [hW]; simp
  have U3 := Hid.mk (And.intro hsa hsa')
  have V3 := Hid.mk (And.intro ha ha')
  have HU1 := Hid.mk hsz
  have HV1 := Hid.mk hz
  clear hsa ha hsa' ha' hsz hz
  go_enter Try.func20, Try.ntmps20
  go_wp2_with fail
  rw [← hW]
  clear hW
  refine (eqIntS_same sa sa' sn sc sc' ss W HU1.out hsn (At.below U3.out.1 B0) (At.below U3.out.2 B0)).mono ?_
  rintro e w1 ⟨rfl, hb1⟩
  have B1 := B0.trans (hb1.mono B0.size)
  have q0 := cell_later hb1 q0
  have q1 := cell_later hb1 q1
  clear hb1 B0
  go_wp2_with fail
  refine (eqPartS_same pa pa' pn pc pc' xs w1 HV1.out hpn HS.out (V3.out.1.below B1) (V3.out.2.below B1)).mono ?_
  rintro e w2 ⟨rfl, hb2⟩
  go_wp2
  go_ret
  exact ⟨rfl, B1.trans (hb2.mono B1.size)⟩

end Go.Proofs.Ythdcjelahoiepaa

/- What the laws over views lean on. -/
namespace Go.Proofs.Ythdcjelahoiepaa
open Go.RowKit

theorem view_at {w : World} {F : Nat → Prop} {sa : Option Addr} {sn sc : Nat} {pa : Option Addr} {pn pc : Nat} {ss : List Int} {xs : List PartD} (h : RView.Own w F [.slice sa sn sc, .slice pa pn pc] (ss, xs)) : At w sa ss ∧ AtSl RPart w pa xs := by
  obtain ⟨c1, c2, F1, F2, hcc, h2, h3, _⟩ := h
  obtain ⟨a1, n1, k1, cells1, G1, rfl, l1⟩ := h2
  obtain ⟨a2, n2, k2, cells2, G2, rfl, l2⟩ := h3
  simp only [List.cons_append, List.nil_append, List.cons.injEq, Value.slice.injEq, and_true] at hcc
  obtain ⟨⟨rfl, rfl, rfl⟩, rfl, rfl, rfl⟩ := hcc
  exact ⟨atSl_int.1 l1.atSl, l2.atSl⟩
theorem Off.toBelow {lo hi B : Nat} {a b : World} (h : Off (From lo hi) a b) (hlo : B ≤ lo) (hB : B ≤ a.heap.size) : Below B a b := ⟨h.os, h.tape, h.output, h.size, fun k hk => h.block k (by omega) (fun e => by have := e.1; omega)⟩

end Go.Proofs.Ythdcjelahoiepaa

/- The law FnExactCheckView returns true at every input, and writes nothing that was there. -/
namespace Go.Proofs.Ythdcjelahoiepaa
open Go.RowKit

set_option maxRecDepth 100000 in
set_option maxHeartbeats 16000000 in
theorem lawCheckView (sa0 : Option Addr) (sn0 sc0 : Nat) (pa0 : Option Addr) (pn0 pc0 : Nat) (ss0 : List Int) (xs0 : List PartD) (w : World) (hs0 : ss0.length = sn0) (hsn0 : sn0 ≤ 9223372036854775807) (hz0 : xs0.length = pn0) (hn0 : pn0 ≤ 9223372036854775807) (hat0 : At w sa0 ss0) (ha0 : AtSl RPart w pa0 xs0) :
    Calls Try.prog 4 #[.agg #[.slice sa0 sn0 sc0, .slice pa0 pn0 pc0]] w fun e w' => e = .returned (.bool true) ∧ Below w.heap.size w w' := by
  obtain ⟨W, hW⟩ : ∃ W, W = (w.alloc (.cells #[.slice sa0 sn0 sc0, .slice pa0 pn0 pc0] 41)) := ⟨_, rfl⟩
  have B0 : Below w.heap.size w W := by rw [hW]; exact (Below.refl _ _).alloc (Nat.le_refl _) _
  have zW : w.heap.size < W.heap.size := by rw [hW]; simp
  have p00_0 : W.cell? ⟨w.heap.size, 0, none⟩ = some (.slice sa0 sn0 sc0) := by rw [hW]; simp
  have p01_0 : W.cell? ⟨w.heap.size, 1, none⟩ = some (.slice pa0 pn0 pc0) := by rw [hW]; simp
  have HA0 := Hid.mk (And.intro hat0 ha0)
  clear hat0 ha0
  by_cases big0 : (1048576 : Int) < (vcost (ss0, xs0) : Nat)
  · go_enter Try.func4, Try.ntmps4
    go_wp2_with fail
    rw [← hW]
    clear hW
    refine (szView_any sa0 sn0 sc0 pa0 pn0 pc0 ss0 xs0 _ _ hs0 hsn0 hz0 hn0 (by omega) (by omega) (HA0.out.2.below B0)).mono ?_
    rintro e v0 ⟨rfl, hv0⟩
    rw [leftOf_no big0]
    have y0 := B0.trans (hv0.mono B0.size)
    go_wp2
    go_ret
    exact ⟨rfl, y0⟩
  have HSM0 : Hid (SmView (ss0, xs0)) := by show vcost _ ≤ _; omega
  have hl0 : ¬ (1048576 : Int) - (vcost (ss0, xs0) : Nat) < 0 := by omega
  have hge0 : ¬ (1048576 : Int) < (vcost (ss0, xs0) : Nat) := big0
  clear big0
  have HSZ0 := HSM0.out.size.2
  obtain ⟨C0, hC0⟩ : ∃ C : Nat, vcost (ss0, xs0) = C := ⟨_, rfl⟩
  rw [hC0] at hl0 hge0
  have HC0 := Hid.mk hC0
  clear hC0
  obtain ⟨V0, hV0⟩ : ∃ C : Nat, vsize (ss0, xs0) = C := ⟨_, rfl⟩
  rw [hV0] at HSZ0
  have HV0 := Hid.mk hV0
  clear hV0
  obtain ⟨ok, ta, hta, HS, HI⟩ : ∃ (ok : Bool) (ta : List Int), ta.length ≤ 12 ∧ Hid (∀ (x1 x2 : Nat) (w : World) (F : Nat → Prop), RView.Own w F [.slice (some ⟨x1, 0, none⟩) sn0 sn0, .slice (some ⟨x2, 0, none⟩) pn0 pn0] (ss0, xs0) → Calls Try.prog 16 #[.agg #[.slice (some ⟨x1, 0, none⟩) sn0 sn0, .slice (some ⟨x2, 0, none⟩) pn0 pn0]] w fun e w' => IntsRet e w' w.heap.size ok ta ∧ Below w.heap.size w w') ∧ Hid (∀ (x1 x2 : Nat) (w : World) (F : Nat → Prop), RView.Own w F [.slice (some ⟨x1, 0, none⟩) sn0 sn0, .slice (some ⟨x2, 0, none⟩) pn0 pn0] (ss0, xs0) → Calls Try.prog 18 #[.agg #[.slice (some ⟨x1, 0, none⟩) sn0 sn0, .slice (some ⟨x2, 0, none⟩) pn0 pn0]] w fun e w' => IntsRet e w' w.heap.size ok ta ∧ Below w.heap.size w w') := ⟨ckB (ss0, xs0), ckZ (ss0, xs0), ckZ_len (ss0, xs0), fun x1 x2 w F o => specCheckView (some ⟨x1, 0, none⟩) sn0 sn0 (some ⟨x2, 0, none⟩) pn0 pn0 ss0 xs0 w hs0 hz0 HSM0.out (view_at o).1 (view_at o).2, fun x1 x2 w F o => implCheckView (some ⟨x1, 0, none⟩) sn0 sn0 (some ⟨x2, 0, none⟩) pn0 pn0 ss0 xs0 w hs0 hz0 HSM0.out (view_at o).1 (view_at o).2⟩
  obtain ⟨na, hna⟩ : ∃ na, ta.length = na := ⟨_, rfl⟩
  rw [hna] at hta
  have HNA := Hid.mk hna
  clear hna
  go_enter Try.func4, Try.ntmps4
  go_wp2_with fail
  rw [← hW]
  clear hW
  refine (szView_any sa0 sn0 sc0 pa0 pn0 pc0 ss0 xs0 _ _ hs0 hsn0 hz0 hn0 (by omega) (by omega) (HA0.out.2.below B0)).mono ?_
  rintro e w1 ⟨rfl, hb1⟩
  rw [HC0.out, leftOf_yes (by omega)]
  have p00_1 := cell_later hb1 p00_0
  have p01_1 := cell_later hb1 p01_0
  have B_1 := B0.trans (hb1.mono B0.size)
  have zz1 : W.heap.size ≤ w1.heap.size := hb1.size
  clear p00_0 p01_0
  clear hb1
  go_wp2_with fail
  refine (toView_any sa0 sn0 sc0 pa0 pn0 pc0 ss0 xs0 _ hs0 hz0 HSM0.out (HA0.out.1.below B_1) (HA0.out.2.below B_1)).mono ?_
  rintro e w2 ⟨g2_1, g2_2, rfl, ho2, hb2⟩
  have ot_2 := Hid.mk ho2
  clear ho2
  have p00_2 := cell_later hb2 p00_1
  have p01_2 := cell_later hb2 p01_1
  have B_2 := B_1.trans (hb2.mono B_1.size)
  have zz2 : w1.heap.size ≤ w2.heap.size := hb2.size
  clear p00_1 p01_1 B_1
  clear hb2
  go_wp2_with fail
  refine (HS.out _ _ _ _ ot_2.out).mono ?_
  rintro e w3 ⟨⟨r3, m3, d3, rfl, hm3, ho3⟩, hb3⟩
  obtain rfl : na = m3 := HNA.out.symm.trans hm3
  have oo_3 := Hid.mk (RInts.of_owns HNA.out (by omega) ho3)
  clear ho3 hm3
  clear ot_2
  have p00_3 := cell_later hb3 p00_2
  have p01_3 := cell_later hb3 p01_2
  have B_3 := B_2.trans (hb3.mono B_2.size)
  have zz3 : w2.heap.size ≤ w3.heap.size := hb3.size
  clear p00_2 p01_2 B_2
  clear hb3
  go_wp2_with fail
  refine (toView_any sa0 sn0 sc0 pa0 pn0 pc0 ss0 xs0 _ hs0 hz0 HSM0.out (HA0.out.1.below B_3) (HA0.out.2.below B_3)).mono ?_
  rintro e w4 ⟨g4_1, g4_2, rfl, ho4, hb4⟩
  have ox_4 := Hid.mk ho4
  clear ho4
  have p00_4 := cell_later hb4 p00_3
  have p01_4 := cell_later hb4 p01_3
  have oo_4 := Hid.mk (RInts.ownBelow oo_3.out hb4)
  have B_4 := B_3.trans (hb4.mono B_3.size)
  have zz4 : w3.heap.size ≤ w4.heap.size := hb4.size
  clear p00_3 p01_3 oo_3 B_3
  clear hb4
  obtain ⟨w5, hU5⟩ : ∃ u, u = w4.alloc (.cells #[.slice (some ⟨g4_1, 0, none⟩) sn0 sn0, .slice (some ⟨g4_2, 0, none⟩) pn0 pn0] 47) := ⟨_, rfl⟩
  have hb5 : Below w4.heap.size w4 w5 := by rw [hU5]; exact (Below.refl _ _).alloc (Nat.le_refl _) _
  have zl5 : w4.heap.size < w5.heap.size := by rw [hU5]; simp
  have nx0 : w5.cell? ⟨w4.heap.size, 0, none⟩ = some (.slice (some ⟨g4_1, 0, none⟩) sn0 sn0) := by rw [hU5]; simp
  have nx1 : w5.cell? ⟨w4.heap.size, 1, none⟩ = some (.slice (some ⟨g4_2, 0, none⟩) pn0 pn0) := by rw [hU5]; simp
  have p00_5 := cell_later hb5 p00_4
  have p01_5 := cell_later hb5 p01_4
  have oo_5 := Hid.mk (RInts.ownBelow oo_4.out hb5)
  have ox_5 := Hid.mk (RView.ownBelow ox_4.out hb5)
  have B_5 := B_4.trans (hb5.mono B_4.size)
  have zz5 : w4.heap.size ≤ w5.heap.size := hb5.size
  clear p00_4 p01_4 oo_4 ox_4 B_4
  clear hb5
  go_wp2_with fail
  rw [← hU5]
  clear hU5
  refine (HI.out _ _ _ _ ox_5.out).mono ?_
  rintro e w6 ⟨⟨r6, m6, d6, rfl, hm6, ho6⟩, hb6⟩
  obtain rfl : na = m6 := HNA.out.symm.trans hm6
  have og_6 := Hid.mk (RInts.of_owns HNA.out (by omega) ho6)
  clear ho6 hm6
  have p00_6 := cell_later hb6 p00_5
  have p01_6 := cell_later hb6 p01_5
  have x0_6 := cell_later hb6 nx0
  have x1_6 := cell_later hb6 nx1
  have oo_6 := Hid.mk (RInts.ownBelow oo_5.out hb6)
  have ox_6 := Hid.mk (RView.ownBelow ox_5.out hb6)
  have B_6 := B_5.trans (hb6.mono B_5.size)
  have zz6 : w5.heap.size ≤ w6.heap.size := hb6.size
  clear p00_5 p01_5 nx0 nx1 oo_5 ox_5 B_5
  clear hb6
  go_wp2_with fail
  refine (eqIntS_same _ _ na _ _ ta _ HNA.out (by omega) (ints_at og_6.out) (ints_at oo_6.out)).mono ?_
  rintro e w7 ⟨rfl, hb7⟩
  have p00_7 := cell_later hb7 p00_6
  have p01_7 := cell_later hb7 p01_6
  have x0_7 := cell_later hb7 x0_6
  have x1_7 := cell_later hb7 x1_6
  have oo_7 := Hid.mk (RInts.ownBelow oo_6.out hb7)
  have ox_7 := Hid.mk (RView.ownBelow ox_6.out hb7)
  have og_7 := Hid.mk (RInts.ownBelow og_6.out hb7)
  have B_7 := B_6.trans (hb7.mono B_6.size)
  have zz7 : w6.heap.size ≤ w7.heap.size := hb7.size
  clear p00_6 p01_6 x0_6 x1_6 oo_6 ox_6 og_6 B_6
  clear hb7
  go_wp2_with fail
  refine wp_region_held_drew (S := fun w' => w'.cell? ⟨w4.heap.size, 0, none⟩ = some (.slice (some ⟨g4_1, 0, none⟩) sn0 sn0) ∧ w'.cell? ⟨w4.heap.size, 1, none⟩ = some (.slice (some ⟨g4_2, 0, none⟩) pn0 pn0) ∧ w'.cell? ⟨w.heap.size, 0, none⟩ = some (.slice sa0 sn0 sc0) ∧ w'.cell? ⟨w.heap.size, 1, none⟩ = some (.slice pa0 pn0 pc0)) (by kernel_rfl) ?_ (fun hHeld => ?_)
  · (try dsimp only)
    exact ⟨x0_7, x1_7, p00_7, p01_7⟩
  refine wpAnyH_take (i := 0) (oi := ?_) (v := ?_) ?_ (by kernel_rfl) (by kernel_rfl) (by kernel_rfl) ?_ (Or.inl ⟨?_, ?_⟩) (by assumption) ?_
  rotate_left 2
  · (simp only [List.getElem?_toArray, List.getElem?_cons_zero]; rfl)
  · exact fun _ _ _ h => h
  · rfl
  · (intro wS hSw; (try dsimp only at hSw); go_simp; (try with_reducible rfl))
  (try simp only [Act.put, List.setIfInBounds_toArray, List.set_cons_zero, List.set_cons_succ])
  refine wpAnyH_take (i := 1) (oi := ?_) (v := ?_) ?_ (by kernel_rfl) (by kernel_rfl) (by kernel_rfl) ?_ (Or.inl ⟨?_, ?_⟩) (by assumption) ?_
  rotate_left 2
  · (simp only [List.getElem?_toArray, List.getElem?_cons_zero, List.getElem?_cons_succ]; rfl)
  · exact fun _ _ _ h => h
  · rfl
  · (intro wS hSw; (try dsimp only at hSw); go_simp; (try with_reducible rfl))
  (try simp only [Act.put, List.setIfInBounds_toArray, List.set_cons_zero, List.set_cons_succ])
  refine wpAnyH_ready (rs := [2]) (by kernel_rfl) (by simp) ?_
  refine AllReadyH.cons (o := ?_) ?_ (fun K hK => ?_) AllReadyH.nil
  rotate_left
  · (simp only [List.getElem?_toArray, List.getElem?_cons_zero, List.getElem?_cons_succ]; rfl)
  go_simp
  go_at_call 17
  refine (toView_any sa0 sn0 sc0 pa0 pn0 pc0 ss0 xs0 _ hs0 hz0 HSM0.out (HA0.out.1.below B_7.drew) (HA0.out.2.below B_7.drew)).mono ?_
  rintro e w8 ⟨g8_1, g8_2, rfl, ho8, hd8⟩
  have hb8 : Below w7.heap.size w7 w8 := (Below.refl _ _).drew.trans hd8
  clear hd8
  have oy_8 := Hid.mk ho8
  clear ho8
  have p00_8 := cell_later hb8 p00_7
  have p01_8 := cell_later hb8 p01_7
  have x0_8 := cell_later hb8 x0_7
  have x1_8 := cell_later hb8 x1_7
  have oo_8 := Hid.mk (RInts.ownBelow oo_7.out hb8)
  have ox_8 := Hid.mk (RView.ownBelow ox_7.out hb8)
  have og_8 := Hid.mk (RInts.ownBelow og_7.out hb8)
  have B_8 := B_7.trans (hb8.mono B_7.size)
  have zz8 : w7.heap.size ≤ w8.heap.size := hb8.size
  clear p00_7 p01_7 x0_7 x1_7 oo_7 ox_7 og_7 B_7
  clear hb8
  (try go_wp2_with fail)
  refine hK.out _ _ ?_ (fun hHeld' => ?_)
  · (try dsimp only)
    exact ⟨x0_8, x1_8, p00_8, p01_8⟩
  clear hK K hHeld
  have hHeld := hHeld'
  clear hHeld'
  (try simp only [Act.put, List.setIfInBounds_toArray, List.set_cons_zero, List.set_cons_succ])
  refine wpAnyH_ready (rs := [3]) (by kernel_rfl) (by simp) ?_
  refine AllReadyH.cons (o := ?_) ?_ (fun K hK => ?_) AllReadyH.nil
  rotate_left
  · (simp only [List.getElem?_toArray, List.getElem?_cons_zero, List.getElem?_cons_succ]; rfl)
  go_simp
  go_at_call 20
  refine (eqView_same _ _ _ _ _ _ _ _ _ _ ss0 xs0 _ hs0 hz0 HSM0.out (view_at ox_8.out).1 (view_at ox_8.out).2 (view_at oy_8.out).1 (view_at oy_8.out).2).mono ?_
  rintro e w9 ⟨rfl, hb9⟩
  clear oy_8
  have p00_9 := cell_later hb9 p00_8
  have p01_9 := cell_later hb9 p01_8
  have x0_9 := cell_later hb9 x0_8
  have x1_9 := cell_later hb9 x1_8
  have oo_9 := Hid.mk (RInts.ownBelow oo_8.out hb9)
  have ox_9 := Hid.mk (RView.ownBelow ox_8.out hb9)
  have og_9 := Hid.mk (RInts.ownBelow og_8.out hb9)
  have B_9 := B_8.trans (hb9.mono B_8.size)
  have zz9 : w8.heap.size ≤ w9.heap.size := hb9.size
  clear p00_8 p01_8 x0_8 x1_8 oo_8 ox_8 og_8 B_8
  clear hb9
  (try go_wp2_with fail)
  refine hK.out _ _ ?_ (fun hHeld' => ?_)
  · (try dsimp only)
    exact ⟨x0_9, x1_9, p00_9, p01_9⟩
  clear hK K hHeld
  have hHeld := hHeld'
  clear hHeld'
  (try simp only [Act.put, List.setIfInBounds_toArray, List.set_cons_zero, List.set_cons_succ])
  refine wpAnyH_take (i := 4) (oi := ?_) (v := ?_) ?_ (by kernel_rfl) (by kernel_rfl) (by kernel_rfl) ?_ (Or.inl ⟨?_, ?_⟩) (by assumption) ?_
  rotate_left 2
  · (simp only [List.getElem?_toArray, List.getElem?_cons_zero, List.getElem?_cons_succ]; rfl)
  · exact fun _ _ _ h => h
  · rfl
  · (intro wS hSw; (try dsimp only at hSw); go_simp; (try with_reducible rfl))
  (try simp only [Act.put, List.setIfInBounds_toArray, List.set_cons_zero, List.set_cons_succ])
  refine wpAnyH_done (by kernel_rfl) ?_ _
  clear hHeld
  go_wp2_with fail
  refine (markView_rep (From (w3.heap.size) (w4.heap.size)) _ _ _ _ _ _ ss0 xs0 _ _ HSM0.out (by omega) (by omega) (fun b h => by have h2 := h.2; omega) ox_9.out).mono ?_
  rintro e w10 ⟨rfl, ho10, hg10⟩
  rw [HV0.out]
  have ox_10 := Hid.mk ho10
  clear ho10
  have p00_10 := hg10.cell p00_9 (show ¬ From (w3.heap.size) (w4.heap.size) (w.heap.size) from fun h => by have h1 := h.1; have h2 := h.2; omega)
  have p01_10 := hg10.cell p01_9 (show ¬ From (w3.heap.size) (w4.heap.size) (w.heap.size) from fun h => by have h1 := h.1; have h2 := h.2; omega)
  have x0_10 := hg10.cell x0_9 (show ¬ From (w3.heap.size) (w4.heap.size) (w4.heap.size) from fun h => by have h1 := h.1; have h2 := h.2; omega)
  have x1_10 := hg10.cell x1_9 (show ¬ From (w3.heap.size) (w4.heap.size) (w4.heap.size) from fun h => by have h1 := h.1; have h2 := h.2; omega)
  have oo_10 := Hid.mk (RInts.ownOff oo_9.out hg10 (fun b h1 h2 => by have h3 := h1.1; have h4 := h1.2; have h5 := h2.1; have h6 := h2.2; omega))
  have og_10 := Hid.mk (RInts.ownOff og_9.out hg10 (fun b h1 h2 => by have h3 := h1.1; have h4 := h1.2; have h5 := h2.1; have h6 := h2.2; omega))
  have B_10 := B_9.trans (hg10.toBelow (by omega) B_9.size)
  have zz10 : w9.heap.size ≤ w10.heap.size := hg10.size
  clear p00_9 p01_9 x0_9 x1_9 oo_9 ox_9 og_9 B_9
  clear hg10
  have kpos : ¬ (1 : Int) + (V0 : Int) < 0 := by omega
  go_wp2_with fail
  refine (eqIntS_same _ _ na _ _ ta _ HNA.out (by omega) (ints_at og_10.out) (ints_at oo_10.out)).mono ?_
  rintro e w11 ⟨rfl, hb11⟩
  have p00_11 := cell_later hb11 p00_10
  have p01_11 := cell_later hb11 p01_10
  have x0_11 := cell_later hb11 x0_10
  have x1_11 := cell_later hb11 x1_10
  have oo_11 := Hid.mk (RInts.ownBelow oo_10.out hb11)
  have ox_11 := Hid.mk (RView.ownBelow ox_10.out hb11)
  have og_11 := Hid.mk (RInts.ownBelow og_10.out hb11)
  have B_11 := B_10.trans (hb11.mono B_10.size)
  have zz11 : w10.heap.size ≤ w11.heap.size := hb11.size
  clear p00_10 p01_10 x0_10 x1_10 oo_10 ox_10 og_10 B_10
  clear hb11
  clear ox_11
  go_wp2_with fail
  refine (markInts_rep (From (w5.heap.size) (w6.heap.size)) _ na _ ta 1 _ (by omega) (by omega) (by omega) og_11.out).mono ?_
  rintro e w12 ⟨rfl, ho12, hg12⟩
  have og_12 := Hid.mk ho12
  clear ho12
  have p00_12 := hg12.cell p00_11 (show ¬ From (w5.heap.size) (w6.heap.size) (w.heap.size) from fun h => by have h1 := h.1; have h2 := h.2; omega)
  have p01_12 := hg12.cell p01_11 (show ¬ From (w5.heap.size) (w6.heap.size) (w.heap.size) from fun h => by have h1 := h.1; have h2 := h.2; omega)
  have x0_12 := hg12.cell x0_11 (show ¬ From (w5.heap.size) (w6.heap.size) (w4.heap.size) from fun h => by have h1 := h.1; have h2 := h.2; omega)
  have x1_12 := hg12.cell x1_11 (show ¬ From (w5.heap.size) (w6.heap.size) (w4.heap.size) from fun h => by have h1 := h.1; have h2 := h.2; omega)
  have oo_12 := Hid.mk (RInts.ownOff oo_11.out hg12 (fun b h1 h2 => by have h3 := h1.1; have h4 := h1.2; have h5 := h2.1; have h6 := h2.2; omega))
  have B_12 := B_11.trans (hg12.toBelow (by omega) B_11.size)
  have zz12 : w11.heap.size ≤ w12.heap.size := hg12.size
  clear p00_11 p01_11 x0_11 x1_11 oo_11 og_11 B_11
  clear hg12
  have gpos : ¬ (1 : Int) + (na : Int) < 0 := by omega
  go_wp2_with fail
  refine (heldInts_rep _ na _ ta 1 _ HNA.out (by omega) (by omega) (by omega) (ints_at og_12.out)).mono ?_
  rintro e w13 ⟨rfl, hb13⟩
  have p00_13 := cell_later hb13 p00_12
  have p01_13 := cell_later hb13 p01_12
  have x0_13 := cell_later hb13 x0_12
  have x1_13 := cell_later hb13 x1_12
  have oo_13 := Hid.mk (RInts.ownBelow oo_12.out hb13)
  have og_13 := Hid.mk (RInts.ownBelow og_12.out hb13)
  have B_13 := B_12.trans (hb13.mono B_12.size)
  have zz13 : w12.heap.size ≤ w13.heap.size := hb13.size
  clear p00_12 p01_12 x0_12 x1_12 oo_12 og_12 B_12
  clear hb13
  go_wp2_with fail
  refine (toView_any sa0 sn0 sc0 pa0 pn0 pc0 ss0 xs0 _ hs0 hz0 HSM0.out (HA0.out.1.below B_13) (HA0.out.2.below B_13)).mono ?_
  rintro e w14 ⟨g14_1, g14_2, rfl, ho14, hb14⟩
  have oh_14 := Hid.mk ho14
  clear ho14
  have p00_14 := cell_later hb14 p00_13
  have p01_14 := cell_later hb14 p01_13
  have x0_14 := cell_later hb14 x0_13
  have x1_14 := cell_later hb14 x1_13
  have oo_14 := Hid.mk (RInts.ownBelow oo_13.out hb14)
  have og_14 := Hid.mk (RInts.ownBelow og_13.out hb14)
  have B_14 := B_13.trans (hb14.mono B_13.size)
  have zz14 : w13.heap.size ≤ w14.heap.size := hb14.size
  clear p00_13 p01_13 x0_13 x1_13 oo_13 og_13 B_13
  clear hb14
  go_wp2_with fail
  refine (HI.out _ _ _ _ oh_14.out).mono ?_
  rintro e w15 ⟨⟨r15, m15, d15, rfl, hm15, ho15⟩, hb15⟩
  obtain rfl : na = m15 := HNA.out.symm.trans hm15
  have ohg_15 := Hid.mk (RInts.of_owns HNA.out (by omega) ho15)
  clear ho15 hm15
  clear oh_14
  have p00_15 := cell_later hb15 p00_14
  have p01_15 := cell_later hb15 p01_14
  have x0_15 := cell_later hb15 x0_14
  have x1_15 := cell_later hb15 x1_14
  have oo_15 := Hid.mk (RInts.ownBelow oo_14.out hb15)
  have og_15 := Hid.mk (RInts.ownBelow og_14.out hb15)
  have B_15 := B_14.trans (hb15.mono B_14.size)
  have zz15 : w14.heap.size ≤ w15.heap.size := hb15.size
  clear p00_14 p01_14 x0_14 x1_14 oo_14 og_14 B_14
  clear hb15
  go_wp2_with fail
  refine (eqIntS_same _ _ na _ _ ta _ HNA.out (by omega) (ints_at ohg_15.out) (ints_at oo_15.out)).mono ?_
  rintro e w16 ⟨rfl, hb16⟩
  have p00_16 := cell_later hb16 p00_15
  have p01_16 := cell_later hb16 p01_15
  have x0_16 := cell_later hb16 x0_15
  have x1_16 := cell_later hb16 x1_15
  have oo_16 := Hid.mk (RInts.ownBelow oo_15.out hb16)
  have og_16 := Hid.mk (RInts.ownBelow og_15.out hb16)
  have ohg_16 := Hid.mk (RInts.ownBelow ohg_15.out hb16)
  have B_16 := B_15.trans (hb16.mono B_15.size)
  have zz16 : w15.heap.size ≤ w16.heap.size := hb16.size
  clear p00_15 p01_15 x0_15 x1_15 oo_15 og_15 ohg_15 B_15
  clear hb16
  go_wp2_with fail
  refine (heldInts_rep _ na _ ta 1 _ HNA.out (by omega) (by omega) (by omega) (ints_at og_16.out)).mono ?_
  rintro e w17 ⟨rfl, hb17⟩
  have p00_17 := cell_later hb17 p00_16
  have p01_17 := cell_later hb17 p01_16
  have x0_17 := cell_later hb17 x0_16
  have x1_17 := cell_later hb17 x1_16
  have oo_17 := Hid.mk (RInts.ownBelow oo_16.out hb17)
  have og_17 := Hid.mk (RInts.ownBelow og_16.out hb17)
  have ohg_17 := Hid.mk (RInts.ownBelow ohg_16.out hb17)
  have B_17 := B_16.trans (hb17.mono B_16.size)
  have zz17 : w16.heap.size ≤ w17.heap.size := hb17.size
  clear p00_16 p01_16 x0_16 x1_16 oo_16 og_16 ohg_16 B_16
  clear hb17
  go_wp2
  go_ret
  exact ⟨rfl, B_17⟩

end Go.Proofs.Ythdcjelahoiepaa

/- Opening the laws' arguments: rows, slices of ints; plain facts on readings. -/
namespace Go.Proofs.Ythdcjelahoiepaa
open Go.ChangeShapes Go.WideShapes Go.ChangeAt Go.RowKit Go.Joins Go.Deep

section
variable {H : Type} {enc : TypeId × Value → H} {P : Program} {w : World} {base : Nat} {spare : Nat → Bool} {held : Bool}

theorem array1 {α : Type} {cs : Array α} (h : cs.size = 1) : ∃ c0, cs = #[c0] := by
  obtain ⟨l⟩ := cs
  match l, h with
  | [c0], _ => exact ⟨c0, rfl⟩

theorem open_agg1 {r : Reach} {b0 : Nat} {t : TypeId} {f0 : Field} {v : Value} {d : DataW H} {p : List MemPlace} (hs : P.underlying t = some (.struct #[f0])) (hone : oneCellFields P #[f0] = true) (hC : P.cellsOf t = 1)
    (hv : Value.okWide P w r b0 t v) (h : DataW.Trod enc P w base spare held t v d p) :
    ∃ (v0 : Value) (y0 : DataW H × List MemPlace) (n : Nat), v = .agg #[v0] ∧ d = .agg [y0.1] ∧ p = y0.2 ∧ DataW.trod enc P w base spare held n f0.type [v0] = some y0 := by
  obtain ⟨cs, rfl, hsz⟩ := okWide_struct hs hv
  obtain ⟨c0, rfl⟩ := array1 (hsz.trans hC)
  obtain ⟨fuel, hf⟩ := h
  obtain ⟨y0, n, hx, _, h0⟩ := trod_struct1 hs hf
  obtain ⟨o0, k0⟩ := hone_of hone 0 f0 rfl
  simp only [Prod.mk.injEq] at hx
  exact ⟨c0, y0, n, rfl, hx.1, hx.2, by simpa [Value.cells, o0, k0] using h0⟩

/-- A slice of ints that reads: its numbers. -/
theorem open_at {t e : TypeId} {fuel n c : Nat} {a : Option Addr} {x : DataW H × List MemPlace} (ht : P.underlying t = some (.slice e)) (he : P.underlying e = some (.int .i64)) (hC : P.cellsOf e = 1)
    (h : DataW.trod enc P w base spare held fuel t [.slice a n c] = some x) : ∃ zs : List Int, zs.length = n ∧ n ≤ 9223372036854775807 ∧ At w a zs := by
  rcases open_ints ht he hC h with ⟨hcs, _⟩ | ⟨ad, l, c', zs, hcs, _, hl, hm, hz, _, hcell, _⟩
  · simp at hcs
    obtain ⟨rfl, rfl, rfl⟩ := hcs
    exact ⟨[], rfl, by omega, At.nil _ _⟩
  · simp at hcs
    obtain ⟨rfl, rfl, rfl⟩ := hcs
    unfold maxLen at hm
    have hz' : n ≤ zs.length := by split at hz <;> omega
    refine ⟨zs.take n, by simp; omega, by omega, ?_⟩
    by_cases h0 : n = 0
    · left; simp [h0]
    · right
      obtain ⟨b, off, spot⟩ := ad
      have hc := hcell 0 (by omega)
      have hspot : spot = none := by simpa [Addr.add] using World.cell?_spot hc
      subst hspot
      refine ⟨b, off, rfl, fun i hi => ?_⟩
      have hin : i < n := by simp at hi; omega
      have := hcell i (by omega)
      rw [show (zs.take n).getD i 0 = zs.getD i 0 by simp [List.getD, hin]]
      rw [Addr.add_lit] at this
      exact this

/-- A struct of one slice of ints, by value. -/
theorem open_row {r : Reach} {b0 : Nat} {t ts e : TypeId} {f0 : Field} {v : Value} {d : DataW H} {p : List MemPlace} (hs : P.underlying t = some (.struct #[f0])) (hf0 : f0.type = ts) (hone : oneCellFields P #[f0] = true) (hC : P.cellsOf t = 1)
    (ht : P.underlying ts = some (.slice e)) (he : P.underlying e = some (.int .i64)) (hCe : P.cellsOf e = 1)
    (hv : Value.okWide P w r b0 t v) (h : DataW.Trod enc P w base spare held t v d p) : ∃ a n c, v = .agg #[.slice a n c] ∧ ∃ zs : List Int, zs.length = n ∧ n ≤ 9223372036854775807 ∧ At w a zs := by
  obtain ⟨v0, y0, m, rfl, _, _, h0⟩ := open_agg1 hs hone hC hv h
  subst hf0
  obtain ⟨a, n, c, hcs⟩ := slice_form ht h0
  obtain rfl : v0 = .slice a n c := by simpa using hcs
  exact ⟨a, n, c, rfl, open_at ht he hCe h0⟩
end

end Go.Proofs.Ythdcjelahoiepaa
