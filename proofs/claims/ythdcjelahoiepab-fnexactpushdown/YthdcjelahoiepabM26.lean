/- Several texts of one proof, in build order: ViewE, LawV5, ViewL. -/
import Derived.Test.YthdcjelahoiepabM11
import Derived.Test.YthdcjelahoiepabM25

/- Contracts of the laws' helpers eqPart, eqPartS, eqView over parts and views that are alike. -/
namespace Go.Proofs.Ythdcjelahoiepab
open Go.RowKit

theorem eqIntS_same (a a' : Option Addr) (n c c' : Nat) (zs : List Int) (w : World) (hz : zs.length = n) (hn : n ≤ 1048576) (ha : At w a zs) (ha' : At w a' zs) :
    Calls Try.prog 21 #[.slice a n c, .slice a' n c'] w fun e w' => e = .returned (.bool true) ∧ Below w.heap.size w w' :=
  (eqIntS_any a a' n n c c' zs zs w hz hz hn hn ha ha').mono fun _ _ ⟨h1, h2⟩ => ⟨by rw [h1, decide_eq_true rfl], h2⟩
theorem eqIntSS_same (a a' : Option Addr) (n c c' : Nat) (zs : List (List Int)) (w : World) (hz : zs.length = n) (hn : n ≤ 1048576) (hs : ∀ i, i < zs.length → (zs.getD i []).length ≤ 1048576) (ha : AtS w a zs) (ha' : AtS w a' zs) :
    Calls Try.prog 54 #[.slice a n c, .slice a' n c'] w fun e w' => e = .returned (.bool true) ∧ Below w.heap.size w w' :=
  (eqIntSS_any a a' n n c c' zs zs w hz hz hn hn hs hs ha ha').mono fun _ _ ⟨h1, h2⟩ => ⟨by rw [h1, decide_eq_true rfl], h2⟩

set_option maxRecDepth 100000 in
set_option maxHeartbeats 4000000 in
theorem eqPart_same (cs cs' : List Value) (x : PartD) (w : World) (hs : SmPart x) (h : RPart.At w cs x) (h' : RPart.At w cs' x) :
    Calls Try.prog 38 #[.agg cs.toArray, .agg cs'.toArray] w fun e w' => e = .returned (.bool true) ∧ Below w.heap.size w w' := by
  obtain ⟨ta, tn, tc, ca, cn, cc, pa, pn, pc, rfl, ⟨t1, t2, t3⟩, ⟨u1, u2, u3⟩, ⟨v1, v2, v3⟩⟩ := RPart.at_open h
  obtain ⟨ta', tn', tc', ca', cn', cc', pa', pn', pc', rfl, ⟨t1', _, t3'⟩, ⟨u1', _, u3'⟩, ⟨v1', _, v3'⟩⟩ := RPart.at_open h'
  have he := hs.each
  have hs1 := hs.1
  have hs2 := hs.2.1
  have hs3 := hs.2.2.1
  clear h hs h'
  obtain rfl : tn = tn' := t1.symm.trans t1'
  obtain rfl : cn = cn' := u1.symm.trans u1'
  obtain rfl : pn = pn' := v1.symm.trans v1'
  obtain ⟨K, A, B, ts, zs, ps⟩ := x
  simp only [PartD.K, PartD.A, PartD.B, PartD.ts, PartD.cs, PartD.ps] at *
  rw [t1] at hs1
  rw [u1] at hs2
  rw [v1] at hs3
  obtain ⟨W, hW⟩ : ∃ W, W = ((w.alloc (.cells (cellsP K A B ta tn tc ca cn cc pa pn pc).toArray 45)).alloc (.cells (cellsP K A B ta' tn tc' ca' cn cc' pa' pn pc').toArray 45)) := ⟨_, rfl⟩
  have B0 : Below w.heap.size w W := by rw [hW]; exact (((Below.refl _ _).alloc (Nat.le_refl _) _).alloc (by simp) _)
  have zW : w.heap.size + 1 < W.heap.size := by rw [hW]; simp
  have b1 : W.heap[w.heap.size + 1]? = some (.cells (cellsP K A B ta' tn tc' ca' cn cc' pa' pn pc').toArray 45 (0, 0)) := by
    rw [hW]
    have q := heap_alloc_new (w.alloc (.cells (cellsP K A B ta tn tc ca cn cc pa pn pc).toArray 45)) (.cells (cellsP K A B ta' tn tc' ca' cn cc' pa' pn pc').toArray 45)
    simpa only [World.size_alloc] using q
  have b0 : W.heap[w.heap.size]? = some (.cells (cellsP K A B ta tn tc ca cn cc pa pn pc).toArray 45 (0, 0)) := by
    rw [hW]
    exact blk_alloc (heap_alloc_new w _) _
  have T3 := Hid.mk (And.intro t3 t3')
  have U3 := Hid.mk (And.intro u3 u3')
  have V3 := Hid.mk (And.intro v3 v3')
  have HE := Hid.mk he
  have HT1 := Hid.mk t1
  have HU1 := Hid.mk u1
  have HV1 := Hid.mk v1
  clear t3 u3 v3 he t1 u1 v1 t3' u3' v3' t1' u1' v1'
  go_enter Try.func38, Try.ntmps38
  go_wp2_with fail
  rw [← hW]
  clear hW
  refine (eqTestS_same ta ta' tn tc tc' ts W HT1.out hs1 (AtE.below T3.out.1 B0) (AtE.below T3.out.2 B0)).mono ?_
  rintro e w1 ⟨rfl, hb1⟩
  have B1 : Below w.heap.size w w1 := B0.trans (hb1.mono (by omega))
  replace b1 := blk_below b1 hb1
  replace b0 := blk_below b0 hb1
  have q := blk_cell b0 4 (v := .slice ca cn cc) rfl
  have r := blk_cell b1 4 (v := .slice ca' cn cc') rfl
  have HB := Hid.mk B1
  clear hb1 B0 B1
  go_wp2_with fail
  refine (eqIntS_same ca ca' cn cc cc' zs w1 HU1.out hs2 (At.below U3.out.1 HB.out) (At.below U3.out.2 HB.out)).mono ?_
  rintro e w2 ⟨rfl, hb2⟩
  replace b1 := blk_below b1 hb2
  replace b0 := blk_below b0 hb2
  have B2 := HB.out.trans (hb2.mono HB.out.size)
  have q := blk_cell b0 5 (v := .slice pa pn pc) rfl
  have r := blk_cell b1 5 (v := .slice pa' pn pc') rfl
  have HC := Hid.mk B2
  clear hb2 HB B2
  go_wp2_with fail
  refine (eqIntSS_same pa pa' pn pc pc' ps w2 HV1.out hs3 HE.out (AtS.below V3.out.1 HC.out) (AtS.below V3.out.2 HC.out)).mono ?_
  rintro e w3 ⟨rfl, hb3⟩
  go_wp2
  go_ret
  exact ⟨rfl, HC.out.trans (hb3.mono HC.out.size)⟩

set_option maxRecDepth 100000 in
set_option maxHeartbeats 4000000 in
theorem eqPartS_same (a a' : Option Addr) (n c c' : Nat) (xs : List PartD) (w : World) (hz : xs.length = n) (hn : n ≤ 1048576) (hs : ∀ (i : Nat) (x : PartD), xs[i]? = some x → SmPart x) (ha : AtSl RPart w a xs) (ha' : AtSl RPart w a' xs) :
    Calls Try.prog 22 #[.slice a n c, .slice a' n c'] w fun e w' => e = .returned (.bool true) ∧ Below w.heap.size w w' := by
  by_cases h0 : n = 0
  · subst h0
    go_enter Try.func22, Try.ntmps22
    go_wp2
    refine wp_loop_rounds 1 ?_
    rw [rounds_succ]
    go_wp2
    go_ret
    exact ⟨rfl, Below.refl _ _⟩
  · go_enter Try.func22, Try.ntmps22
    go_wp2
    go_loopw [5] (fun i wr => ∃ (k : Nat), k ≤ n ∧ i = .int .i64 k ∧ Below w.heap.size w wr) (fun i _ => n - (intOf i).toNat)
    case atStart => exact ⟨0, Nat.zero_le _, rfl, Below.refl _ _⟩
    case round =>
      obtain ⟨k, hk, rfl, hbw⟩ := hrel
      by_cases hlt : k < n
      · obtain ⟨b, off, rfl, hc⟩ := (ha.below hbw).each (by omega)
        obtain ⟨b', off', rfl, hc'⟩ := (ha'.below hbw).each (by omega)
        obtain ⟨x, hx⟩ : ∃ x, xs[k]? = some x := ⟨_, List.getElem?_eq_getElem (by omega)⟩
        obtain ⟨cx, hcx, hat⟩ := hc k x hx
        obtain ⟨cx', hcx', hat'⟩ := hc' k x hx
        have hsm := hs k x hx
        obtain ⟨ta, tn, tc, ca, cn, cc, pa, pn, pc, rfl, _⟩ := RPart.at_open hat
        obtain ⟨ta', tn', tc', ca', cn', cc', pa', pn', pc', rfl, _⟩ := RPart.at_open hat'
        have g0 := hcx 0 _ rfl
        have g1 := hcx 1 _ rfl
        have g2 := hcx 2 _ rfl
        have g3 := hcx 3 _ rfl
        have g4 := hcx 4 _ rfl
        have g5 := hcx 5 _ rfl
        have h0 := hcx' 0 _ rfl
        have h1 := hcx' 1 _ rfl
        have h2 := hcx' 2 _ rfl
        have h3 := hcx' 3 _ rfl
        have h4 := hcx' 4 _ rfl
        have h5 := hcx' 5 _ rfl
        rw [RPart_k] at g0 g1 g2 g3 g4 g5 h0 h1 h2 h3 h4 h5
        rw [Nat.add_zero] at g0 h0
        have hki : (k : Int) < (n : Int) := by omega
        have HE : Hid (∀ w' : World, Below wr.heap.size wr w' → Calls Try.prog 38 #[.agg (cellsP x.K x.A x.B ta tn tc ca cn cc pa pn pc).toArray, .agg (cellsP x.K x.A x.B ta' tn' tc' ca' cn' cc' pa' pn' pc').toArray] w' fun e w'' => e = .returned (.bool true) ∧ Below w'.heap.size w' w'') :=
          fun w' hw' => eqPart_same _ _ x w' hsm (RPart.below hat hw') (RPart.below hat' hw')
        clear hc hc' ha ha' hat hat' hcx hcx' hs hsm hx
        generalize x.K = K at *
        generalize x.A = A at *
        generalize x.B = B at *

        go_wp2_with fail
        go_region_held3 (fun w' => w'.cell? ⟨b, off + k * 6, none⟩ = some (.int .i64 K) ∧ w'.cell? ⟨b, off + k * 6 + 1, none⟩ = some (.int .i64 A) ∧ w'.cell? ⟨b, off + k * 6 + 2, none⟩ = some (.int .i64 B) ∧ w'.cell? ⟨b, off + k * 6 + 3, none⟩ = some (.slice ta tn tc) ∧ w'.cell? ⟨b, off + k * 6 + 4, none⟩ = some (.slice ca cn cc) ∧ w'.cell? ⟨b, off + k * 6 + 5, none⟩ = some (.slice pa pn pc) ∧ w'.cell? ⟨b', off' + k * 6, none⟩ = some (.int .i64 K) ∧ w'.cell? ⟨b', off' + k * 6 + 1, none⟩ = some (.int .i64 A) ∧ w'.cell? ⟨b', off' + k * 6 + 2, none⟩ = some (.int .i64 B) ∧ w'.cell? ⟨b', off' + k * 6 + 3, none⟩ = some (.slice ta' tn' tc') ∧ w'.cell? ⟨b', off' + k * 6 + 4, none⟩ = some (.slice ca' cn' cc') ∧ w'.cell? ⟨b', off' + k * 6 + 5, none⟩ = some (.slice pa' pn' pc')) (refine ⟨?_, ?_, ?_, ?_, ?_, ?_, ?_, ?_, ?_, ?_, ?_, ?_⟩ <;> assumption)
          (first | (go_at_call 38; refine (HE.out wr.drew (Below.refl _ _).drew).mono ?_; rintro e w2 ⟨rfl, hb2⟩; have e0 := cell_later hb2 g0; have e1 := cell_later hb2 g1; have e2 := cell_later hb2 g2; have e3 := cell_later hb2 g3; have e4 := cell_later hb2 g4; have e5 := cell_later hb2 g5; have d0 := cell_later hb2 h0; have d1 := cell_later hb2 h1; have d2 := cell_later hb2 h2; have d3 := cell_later hb2 h3; have d4 := cell_later hb2 h4; have d5 := cell_later hb2 h5) | fail)
        go_wp2
        go_roundw
        case rel => exact ⟨k + 1, by omega, by go_num, hbw.drew.trans (hb2.mono hbw.size)⟩
        case measure => simp [intOf]; omega
      · go_wp2
        go_ret
        exact ⟨rfl, hbw⟩

set_option maxRecDepth 100000 in
set_option maxHeartbeats 2000000 in
theorem eqView_same (sa sa' : Option Addr) (sn sc sc' : Nat) (pa pa' : Option Addr) (pn pc pc' : Nat) (ss : List Int) (xs : List PartD) (w : World) (hsz : ss.length = sn) (hz : xs.length = pn) (hs : Sm2 (ss, xs)) (hsa : At w sa ss) (ha : AtSl RPart w pa xs) (hsa' : At w sa' ss) (ha' : AtSl RPart w pa' xs) :
    Calls Try.prog 9 #[.agg #[.slice sa sn sc, .slice pa pn pc], .agg #[.slice sa' sn sc', .slice pa' pn pc']] w fun e w' => e = .returned (.bool true) ∧ Below w.heap.size w w' := by
  have hsn : sn ≤ 1048576 := by have := hs.src; simp only at this; omega
  have hpn : pn ≤ 1048576 := by have := hs.len; simp only at this; omega
  have HS : Hid (∀ (i : Nat) (x : PartD), xs[i]? = some x → SmPart x) := fun i x hx => hs.part hx
  clear hs
  obtain ⟨W, hW⟩ : ∃ W, W = ((w.alloc (.cells #[.slice sa sn sc, .slice pa pn pc] 31)).alloc (.cells #[.slice sa' sn sc', .slice pa' pn pc'] 31)) := ⟨_, rfl⟩
  have B0 : Below w.heap.size w W := by rw [hW]; exact (((Below.refl _ _).alloc (Nat.le_refl _) _).alloc (by simp) _)
  have q0 : W.cell? ⟨w.heap.size, 1, none⟩ = some (.slice pa pn pc) := by rw [hW]; simp
  have q1 : W.cell? ⟨w.heap.size + 1, 1, none⟩ = some (.slice pa' pn pc') := by rw [hW]; simp
  have U3 := Hid.mk (And.intro hsa hsa')
  have V3 := Hid.mk (And.intro ha ha')
  have HU1 := Hid.mk hsz
  have HV1 := Hid.mk hz
  clear hsa ha hsa' ha' hsz hz
  go_enter Try.func9, Try.ntmps9
  go_wp2_with fail
  rw [← hW]
  clear hW
  refine (eqIntS_same sa sa' sn sc sc' ss W HU1.out hsn (At.below U3.out.1 B0) (At.below U3.out.2 B0)).mono ?_
  rintro e w1 ⟨rfl, hb1⟩
  have B1 := B0.trans (hb1.mono B0.size)
  have q0 := cell_later hb1 q0
  have q1 := cell_later hb1 q1
  clear hb1 B0
  go_wp2_with fail
  refine (eqPartS_same pa pa' pn pc pc' xs w1 HV1.out hpn HS.out (V3.out.1.below B1) (V3.out.2.below B1)).mono ?_
  rintro e w2 ⟨rfl, hb2⟩
  go_wp2
  go_ret
  exact ⟨rfl, B1.trans (hb2.mono B1.size)⟩

end Go.Proofs.Ythdcjelahoiepab

/- What the laws over views lean on. -/
namespace Go.Proofs.Ythdcjelahoiepab
open Go.RowKit

theorem view_at {w : World} {F : Nat → Prop} {sa : Option Addr} {sn sc : Nat} {pa : Option Addr} {pn pc : Nat} {ss : List Int} {xs : List PartD} (h : RView.Own w F [.slice sa sn sc, .slice pa pn pc] (ss, xs)) : At w sa ss ∧ AtSl RPart w pa xs := by
  obtain ⟨c1, c2, F1, F2, hcc, h2, h3, _⟩ := h
  obtain ⟨a1, n1, k1, cells1, G1, rfl, l1⟩ := h2
  obtain ⟨a2, n2, k2, cells2, G2, rfl, l2⟩ := h3
  simp only [List.cons_append, List.nil_append, List.cons.injEq, Value.slice.injEq, and_true] at hcc
  obtain ⟨⟨rfl, rfl, rfl⟩, rfl, rfl, rfl⟩ := hcc
  exact ⟨atSl_int.1 l1.atSl, l2.atSl⟩
theorem Off.toBelow {lo hi B : Nat} {a b : World} (h : Off (From lo hi) a b) (hlo : B ≤ lo) (hB : B ≤ a.heap.size) : Below B a b := ⟨h.os, h.tape, h.output, h.size, fun k hk => h.block k (by omega) (fun e => by have := e.1; omega)⟩

end Go.Proofs.Ythdcjelahoiepab

/- Contracts of the laws' heldTestS, heldIntSS, heldPartS, heldView over things that the laws marked. -/
namespace Go.Proofs.Ythdcjelahoiepab
open Go.RowKit

theorem heldInts_any2 (a : Option Addr) (n c : Nat) (zs : List Int) (m : Int) (w : World) (hz : zs.length = n) (hn : n ≤ 1048576) (h0 : 0 ≤ m) (h1 : m ≤ 268435456) (ha : At w a (mkInts m zs)) :
    Calls Try.prog 29 #[.slice a n c, .int .i64 m] w fun e w' => e = .returned (.int .i64 (m + n)) ∧ Below w.heap.size w w' := by
  unfold mkInts at ha
  rw [hz] at ha
  exact heldIntS_any' a n c m w hn h0 (by omega) ha

theorem szL_three (es : List Tst) : ∀ k, k ≤ es.length → szL (fun _ => 3) es k = 3 * k
  | 0, _ => rfl
  | k + 1, h => by rw [szL_succ (fun _ => 3) (List.getElem?_eq_getElem (by omega : k < es.length)), szL_three es k (by omega)]; omega
theorem tat_mk {m : Int} {es : List Tst} {k : Nat} (h : k < es.length) : tat (mkTests m es) k = (m + 3 * (k : Int), m + 3 * (k : Int) + 1, m + 3 * (k : Int) + 2) := by
  have h1 := mkL_at (fun m (_ : Tst) => ((m, m + 1, m + 2) : Tst)) (fun _ => 3) m es k _ (List.getElem?_eq_getElem h)
  unfold tat mkTests
  rw [List.getD_eq_getElem?_getD, h1, szL_three es k (by omega)]
  simp

set_option maxRecDepth 100000 in
set_option maxHeartbeats 2000000 in
theorem heldTests_rep (a : Option Addr) (n c : Nat) (es : List Tst) (m : Int) (w : World) (hz : es.length = n) (hn : n ≤ 1048576) (h0 : 0 ≤ m) (h1 : m ≤ 268435456) (ha : AtE w a (mkTests m es)) :
    Calls Try.prog 42 #[.slice a n c, .int .i64 m] w fun e w' => e = .returned (.int .i64 (m + (n * 3 : Nat))) ∧ Below w.heap.size w w' := by
  have hl : (mkTests m es).length = n := by unfold mkTests; rw [mkL_length, hz]
  by_cases hn0 : n = 0
  · subst hn0
    go_enter Try.func42, Try.ntmps42
    go_wp2
    refine wp_loop_rounds 1 ?_
    rw [rounds_succ]
    go_wp2
    go_ret
    exact ⟨by simp, Below.refl _ _⟩
  obtain ⟨b, off, rfl, hb, hc⟩ := AtE.some ha (by omega)
  go_enter Try.func42, Try.ntmps42
  go_wp2
  go_loopw [1, 5] (fun q i wr => ∃ k : Nat, k ≤ n ∧ i = .int .i64 k ∧ q = .int .i64 (m + 3 * (k : Int)) ∧ Below w.heap.size w wr) (fun _ i _ => n - (intOf i).toNat)
  case atStart => exact ⟨0, Nat.zero_le _, rfl, by simp, Below.refl _ _⟩
  case round =>
    obtain ⟨k, hk, rfl, rfl, hbw⟩ := hrel
    by_cases hlt : k < n
    · obtain ⟨g0, g1, g2⟩ := hc k (by omega)
      rw [tat_mk (by omega)] at g0 g1 g2
      have g0 := (hbw.cell hb).trans g0
      have g1 := (hbw.cell hb).trans g1
      have g2 := (hbw.cell hb).trans g2
      obtain ⟨x, hx⟩ : ∃ x : Int, x = m + 3 * (k : Int) := ⟨_, rfl⟩
      have x0 : 0 ≤ x := by omega
      have x1 : x ≤ 271581184 := by omega
      have HX := Hid.mk hx
      rw [← hx] at g0 g1 g2 ⊢
      rw [show x + 2 = x + 1 + 1 by omega] at g2
      have hki : (k : Int) < (n : Int) := by omega
      clear hx hc ha
      go_wp2
      go_roundw
      case rel => exact ⟨k + 1, by omega, by go_num, by have := HX.out; congr 1; omega, by first | exact hbw | exact hbw.drew | exact below_drewN hbw _⟩
      case measure => simp [intOf]; omega
    · obtain rfl : k = n := by omega
      go_wp2
      go_ret
      exact ⟨ret_int (by push_cast; omega), hbw⟩

set_option maxRecDepth 100000 in
set_option maxHeartbeats 2000000 in
theorem heldPairs_rep (a : Option Addr) (n c : Nat) (zss : List (List Int)) (m : Int) (w : World) (hz : zss.length = n) (hn : n ≤ 1048576) (ht : tot zss n ≤ 1048576) (h0 : 0 ≤ m) (h1 : m ≤ 134217728) (ha : AtSl RInts w a (mkPairs m zss)) :
    Calls Try.prog 43 #[.slice a n c, .int .i64 m] w fun e w' => e = .returned (.int .i64 (m + tot zss n)) ∧ Below w.heap.size w w' := by
  have hl : (mkPairs m zss).length = n := by unfold mkPairs; rw [mkL_length, hz]
  by_cases hn0 : n = 0
  · subst hn0
    go_enter Try.func43, Try.ntmps43
    go_wp2
    refine wp_loop_rounds 1 ?_
    rw [rounds_succ]
    go_wp2
    go_ret
    exact ⟨by simp [tot], Below.refl _ _⟩
  go_enter Try.func43, Try.ntmps43
  go_wp2
  go_loopw [1, 5] (fun q i wr => ∃ k : Nat, k ≤ n ∧ i = .int .i64 k ∧ q = .int .i64 (m + tot zss k) ∧ Below w.heap.size w wr) (fun _ i _ => n - (intOf i).toNat)
  case atStart => exact ⟨0, Nat.zero_le _, rfl, by simp [tot_zero], Below.refl _ _⟩
  case round =>
    obtain ⟨k, hk, rfl, rfl, hbw⟩ := hrel
    by_cases hlt : k < n
    · obtain ⟨b, off, rfl, hc⟩ := (ha.below hbw).each (by omega)
      obtain ⟨ys, hy⟩ : ∃ ys, zss[k]? = some ys := ⟨_, List.getElem?_eq_getElem (by omega)⟩
      have hmk := mkL_at (fun m zs => mkInts m zs) List.length m zss k ys hy
      obtain ⟨cs, hcs, a2, n2, c2, rfl, e1, e2, e3, _⟩ := hc k _ hmk
      have hcx : wr.cell? ⟨b, off + k, none⟩ = some (.slice a2 n2 c2) := by simpa [RInts, Rep.slice] using hcs 0 _ rfl
      rw [szL_pairs] at e1 e3
      have hly : ys.length = n2 := by rw [← e1]; unfold mkInts; rw [marks_length]
      have hts := tot_succ zss k (by omega)
      have hgk : zss.getD k [] = ys := by simp [List.getD, hy]
      rw [hgk, hly] at hts
      have htm := tot_mono zss (k + 1) n (by omega)
      obtain ⟨T, hT⟩ : ∃ T, tot zss k = T := ⟨_, rfl⟩
      rw [hT] at hts e3 ⊢
      have hn2 : n2 ≤ 1048576 := by omega
      have hmT : m + (T : Int) ≤ 268435456 := by omega
      have hT0 : ¬ m + (T : Int) + (n2 : Int) < 0 := by omega
      have hki : (k : Int) < (n : Int) := by omega
      have HTS := Hid.mk hts
      have HA := Hid.mk (atSl_int.1 e3)
      have HLY := Hid.mk hly
      clear e1 e3 hly hts hgk hT htm hmk hcs hc hy ha
      go_wp2_with fail
      refine (heldInts_any2 a2 n2 c2 ys (m + T) wr HLY.out hn2 (by omega) hmT HA.out).mono ?_
      rintro e w2 ⟨rfl, hb2⟩
      go_wp2
      go_roundw
      case rel => exact ⟨k + 1, by omega, by go_num, by rw [HTS.out]; congr 1; push_cast; omega, hbw.trans (hb2.mono hbw.size)⟩
      case measure => simp [intOf]; omega
    · obtain rfl : k = n := by omega
      go_wp2
      go_ret
      exact ⟨rfl, hbw⟩

set_option maxRecDepth 100000 in
set_option maxHeartbeats 4000000 in
theorem heldPartS_rep (a : Option Addr) (n c : Nat) (xs : List PartD) (m : Int) (w : World) (hz : xs.length = n) (hn : n ≤ 1048576) (hs : ∀ (i : Nat) (x : PartD), xs[i]? = some x → SmPart x) (ht : szL psize xs n ≤ 16777216) (h0 : 0 ≤ m) (h1 : m ≤ 33554432) (ha : AtSl RPart w a (mkParts m xs)) :
    Calls Try.prog 30 #[.slice a n c, .int .i64 m] w fun e w' => e = .returned (.int .i64 (m + szL psize xs n)) ∧ Below w.heap.size w w' := by
  have hl : (mkParts m xs).length = n := by unfold mkParts; rw [mkL_length, hz]
  have HSM := Hid.mk hs
  clear hs
  by_cases hn0 : n = 0
  · subst hn0
    go_enter Try.func30, Try.ntmps30
    go_wp2
    refine wp_loop_rounds 1 ?_
    rw [rounds_succ]
    go_wp2
    go_ret
    exact ⟨by simp [szL], Below.refl _ _⟩
  go_enter Try.func30, Try.ntmps30
  go_wp2
  go_loopw [1, 5] (fun q i wr => ∃ k : Nat, k ≤ n ∧ i = .int .i64 k ∧ q = .int .i64 (m + szL psize xs k) ∧ Below w.heap.size w wr) (fun _ i _ => n - (intOf i).toNat)
  case atStart => exact ⟨0, Nat.zero_le _, rfl, by simp [szL], Below.refl _ _⟩
  case round =>
    obtain ⟨k, hk, rfl, rfl, hbw⟩ := hrel
    by_cases hlt : k < n
    · obtain ⟨b, off, rfl, hc⟩ := (ha.below hbw).each (by omega)
      obtain ⟨x, hx⟩ : ∃ x, xs[k]? = some x := ⟨_, List.getElem?_eq_getElem (by omega)⟩
      have hmk := mkL_at mkPart psize m xs k x hx
      obtain ⟨cx, hcx, hat⟩ := hc k _ hmk
      obtain ⟨ta, tn, tc, ca, cn, cc, qa, qn, qc, rfl, ⟨t1, t2, t3, _⟩, ⟨u1, u2, u3, _⟩, ⟨v1, v2, v3, _⟩⟩ := RPart.at_open4 hat
      have g0 := hcx 0 _ rfl
      have g1 := hcx 1 _ rfl
      have g2 := hcx 2 _ rfl
      have g3 := hcx 3 _ rfl
      have g4 := hcx 4 _ rfl
      have g5 := hcx 5 _ rfl
      rw [RPart_k] at g0 g1 g2 g3 g4 g5
      rw [Nat.add_zero] at g0
      have hsm := HSM.out k x hx
      have hts := szL_succ psize hx
      have htm := szL_mono psize xs (k + 1) n (by omega)
      obtain ⟨T, hT⟩ : ∃ T, szL psize xs k = T := ⟨_, rfl⟩
      rw [hT] at hts g0 g1 g2 t1 t3 u1 u3 v1 v3 ⊢
      obtain ⟨M, hM⟩ : ∃ M : Int, M = m + T := ⟨_, rfl⟩
      rw [← hM] at g0 g1 g2 t1 t3 u1 u3 v1 v3 ⊢
      have e1 : x.ts.length = tn := by rw [← t1]; unfold mkPart PartD.ts mkTests; rw [mkL_length]
      have e2 : x.cs.length = cn := by rw [← u1]; unfold mkPart PartD.cs mkInts; rw [marks_length]
      have e3 : x.ps.length = qn := by rw [← v1]; unfold mkPart PartD.ps mkPairs; rw [mkL_length]
      have hs1 := hsm.1
      have hs2 := hsm.2.1
      have hs3 := hsm.2.2.1
      have hs4 := hsm.2.2.2
      rw [e1] at hs1
      rw [e2] at hs2
      rw [e3] at hs3 hs4
      have hps : psize x = 3 + tn * 3 + cn + tot x.ps qn := by unfold psize; rw [e1, e2, e3]
      have hM0 : 0 ≤ M := by omega
      have hM1 : M ≤ 67108864 := by omega
      replace g0 : wr.cell? ⟨b, off + k * 6, none⟩ = some (.int .i64 M) := g0
      replace g1 : wr.cell? ⟨b, off + k * 6 + 1, none⟩ = some (.int .i64 (M + 1)) := g1
      replace g2 : wr.cell? ⟨b, off + k * 6 + 2, none⟩ = some (.int .i64 (M + 1 + 1)) := by
        have h9 : wr.cell? ⟨b, off + k * 6 + 2, none⟩ = some (.int .i64 (M + 2)) := g2
        rw [h9, show M + 1 + 1 = M + 2 by omega]
      have A1 : Hid (AtE wr ta (mkTests (M + 1 + 1 + 1) x.ts)) := by rw [show M + 1 + 1 + 1 = M + 3 by omega]; exact t3
      have A2 : Hid (At wr ca (mkInts (M + 1 + 1 + 1 + (tn * 3 : Nat)) x.cs)) := by
        rw [show M + 1 + 1 + 1 + (tn * 3 : Nat) = M + 3 + (x.ts.length * 3 : Nat) by rw [e1]; omega]; exact u3
      have A3 : Hid (AtSl RInts wr qa (mkPairs (M + 1 + 1 + 1 + (tn * 3 : Nat) + cn) x.ps)) := by
        rw [show M + 1 + 1 + 1 + (tn * 3 : Nat) + (cn : Int) = M + 3 + (x.ts.length * 3 : Nat) + x.cs.length by rw [e1, e2]; omega]; exact v3
      have E1 := Hid.mk e1
      have E2 := Hid.mk e2
      have E3 := Hid.mk e3
      have HTS := Hid.mk hts
      have HPS := Hid.mk hps
      have HM := Hid.mk hM
      have hki : (k : Int) < (n : Int) := by omega
      have p1 : ¬ M + 1 + 1 + 1 + ((tn * 3 : Nat) : Int) < 0 := by omega
      have p2 : ¬ M + 1 + 1 + 1 + ((tn * 3 : Nat) : Int) + (cn : Int) < 0 := by omega
      have p3 : ¬ M + 1 + 1 + 1 + ((tn * 3 : Nat) : Int) + (cn : Int) + (tot x.ps qn : Nat) < 0 := by omega
      clear t1 t3 u1 u3 v1 v3 hat hmk hc hcx hx hts hT hM e1 e2 e3 hps hsm htm ha
      go_wp2_with fail
      refine (heldTests_rep ta tn tc x.ts (M + 1 + 1 + 1) wr E1.out hs1 (by omega) (by omega) A1.out).mono ?_
      rintro e w1 ⟨rfl, hb1⟩
      have g4 := cell_later hb1 g4
      have g5 := cell_later hb1 g5
      have A2' := Hid.mk (A2.out.below hb1)
      have A3' := Hid.mk (A3.out.below hb1)
      have B1 := Hid.mk (hbw.trans (hb1.mono hbw.size))
      clear hb1 A1 A2 A3 g0 g1 g2 g3
      go_wp2_with fail
      refine (heldInts_any2 ca cn cc x.cs (M + 1 + 1 + 1 + (tn * 3 : Nat)) w1 E2.out hs2 (by omega) (by omega) A2'.out).mono ?_
      rintro e w2 ⟨rfl, hb2⟩
      have g5 := cell_later hb2 g5
      have A3'' := Hid.mk (A3'.out.below hb2)
      have B2 := Hid.mk (B1.out.trans (hb2.mono B1.out.size))
      clear hb2 A2' A3' B1 g4
      go_wp2_with fail
      refine (heldPairs_rep qa qn qc x.ps (M + 1 + 1 + 1 + (tn * 3 : Nat) + cn) w2 E3.out hs3 hs4 (by omega) (by omega) A3''.out).mono ?_
      rintro e w3 ⟨rfl, hb3⟩
      have B3 := Hid.mk (B2.out.trans (hb3.mono B2.out.size))
      clear hb3 A3'' B2 g5
      go_wp2
      go_roundw
      case rel => exact ⟨k + 1, by omega, by go_num, by rw [HTS.out, HPS.out, HM.out]; congr 1; push_cast; omega, B3.out⟩
      case measure => simp [intOf]; omega
    · obtain rfl : k = n := by omega
      go_wp2
      go_ret
      exact ⟨rfl, hbw⟩

set_option maxRecDepth 100000 in
set_option maxHeartbeats 2000000 in
theorem heldView_rep (sa : Option Addr) (sn sc : Nat) (pa : Option Addr) (pn pc : Nat) (ss : List Int) (xs : List PartD) (m : Int) (w : World) (hs : Sm2 (ss, xs)) (hsz : ss.length = sn) (hz : xs.length = pn) (h0 : 0 ≤ m) (h1 : m ≤ 16777216) (hat : At w sa (mkInts m ss)) (ha : AtSl RPart w pa (mkParts (m + ss.length) xs)) :
    Calls Try.prog 13 #[.agg #[.slice sa sn sc, .slice pa pn pc], .int .i64 m] w fun e w' => e = .returned (.int .i64 (m + vsize (ss, xs))) ∧ Below w.heap.size w w' := by
  have hv : vsize (ss, xs) = sn + szL psize xs pn := by unfold vsize; simp only; rw [hsz, hz]
  have hsn : sn ≤ 1048576 := by have := hs.src; simp only at this; omega
  have hpn : pn ≤ 1048576 := by have := hs.len; simp only at this; omega
  have hsize := hs.size.1
  simp only [hz] at hsize
  rw [hv]
  rw [hsz] at ha
  have HS : Hid (∀ (i : Nat) (x : PartD), xs[i]? = some x → SmPart x) := fun i x hx => hs.part hx
  obtain ⟨W, hW⟩ : ∃ W, W = w.alloc (.cells #[.slice sa sn sc, .slice pa pn pc] 31) := ⟨_, rfl⟩
  have B0 : Below w.heap.size w W := by rw [hW]; exact (Below.refl _ _).alloc (Nat.le_refl _) _
  have q1 : W.cell? ⟨w.heap.size, 1, none⟩ = some (.slice pa pn pc) := by rw [hW]; simp
  have HA := Hid.mk (And.intro hat ha)
  have HZ := Hid.mk (And.intro hsz hz)
  obtain ⟨T, hT⟩ : ∃ T, szL psize xs pn = T := ⟨_, rfl⟩
  have HT := Hid.mk hT
  rw [hT] at hsize ⊢
  have p1 : ¬ m + (sn : Int) < 0 := by omega
  have p2 : ¬ m + (sn : Int) + (T : Int) < 0 := by omega
  clear hat ha hsz hz hv hs hT
  go_enter Try.func13, Try.ntmps13
  go_wp2_with fail
  rw [← hW]
  clear hW
  refine (heldInts_any2 sa sn sc ss m W HZ.out.1 hsn h0 (by omega) (At.below HA.out.1 B0)).mono ?_
  rintro e w1 ⟨rfl, hb1⟩
  have q1 := cell_later hb1 q1
  have B1 := B0.trans (hb1.mono B0.size)
  clear hb1 B0
  go_wp2_with fail
  refine (heldPartS_rep pa pn pc xs (m + sn) w1 HZ.out.2 hpn HS.out (by rw [HT.out]; omega) (by omega) (by omega) (HA.out.2.below B1)).mono ?_
  rintro e w2 ⟨rfl, hb2⟩
  rw [HT.out]
  go_wp2
  go_ret
  exact ⟨ret_int (by push_cast; omega), B1.trans (hb2.mono B1.size)⟩

end Go.Proofs.Ythdcjelahoiepab
