/- Several texts of one proof, in build order: ViewE, LawV5, ViewL, StreamM. -/
import Derived.Test.YthiabjkjpjmahaaGreatM17
import Derived.Test.YthiabjkjpjmahaaGreatM41
import Derived.Test.YthiabjkjpjmahaaGreatM22
import Derived.Test.YthiabjkjpjmahaaGreatM35

/- Contracts of the laws' helpers eqPart, eqPartS, eqView over parts and views that are alike. -/
namespace Go.Proofs.YthiabjkjpjmahaaGreat
open Go.RowKit

theorem eqIntSS_same (a a' : Option Addr) (n c c' : Nat) (zs : List (List Int)) (w : World) (hz : zs.length = n) (hn : n ≤ 1048576) (hs : ∀ i, i < zs.length → (zs.getD i []).length ≤ 1048576) (ha : AtS w a zs) (ha' : AtS w a' zs) :
    Calls Tryz.prog 135 #[.slice a n c, .slice a' n c'] w fun e w' => e = .returned (.bool true) ∧ Below w.heap.size w w' :=
  (eqIntSS_any a a' n n c c' zs zs w hz hz hn hn hs hs ha ha').mono fun _ _ ⟨h1, h2⟩ => ⟨by rw [h1, decide_eq_true rfl], h2⟩

set_option maxRecDepth 100000 in
set_option maxHeartbeats 4000000 in
theorem eqPart_same (cs cs' : List Value) (x : PartD) (w : World) (hs : SmPart x) (h : RPart.At w cs x) (h' : RPart.At w cs' x) :
    Calls Tryz.prog 95 #[.agg cs.toArray, .agg cs'.toArray] w fun e w' => e = .returned (.bool true) ∧ Below w.heap.size w w' := by
  obtain ⟨ta, tn, tc, ca, cn, cc, pa, pn, pc, rfl, ⟨t1, t2, t3⟩, ⟨u1, u2, u3⟩, ⟨v1, v2, v3⟩⟩ := RPart.at_open h
  obtain ⟨ta', tn', tc', ca', cn', cc', pa', pn', pc', rfl, ⟨t1', _, t3'⟩, ⟨u1', _, u3'⟩, ⟨v1', _, v3'⟩⟩ := RPart.at_open h'
  have he := hs.each
  have hs1 := hs.1
  have hs2 := hs.2.1
  have hs3 := hs.2.2.1
  clear h hs h'
  obtain rfl : tn = tn' := t1.symm.trans t1'
  obtain rfl : cn = cn' := u1.symm.trans u1'
  obtain rfl : pn = pn' := v1.symm.trans v1'
  obtain ⟨K, A, B, ts, zs, ps⟩ := x
  simp only [PartD.K, PartD.A, PartD.B, PartD.ts, PartD.cs, PartD.ps] at *
  rw [t1] at hs1
  rw [u1] at hs2
  rw [v1] at hs3
  obtain ⟨W, hW⟩ : ∃ W, W = ((w.alloc (.cells (cellsP K A B ta tn tc ca cn cc pa pn pc).toArray 74)).alloc (.cells (cellsP K A B ta' tn tc' ca' cn cc' pa' pn pc').toArray 74)) := ⟨_, rfl⟩
  have B0 : Below w.heap.size w W := by rw [hW]; exact (((Below.refl _ _).alloc (Nat.le_refl _) _).alloc (by simp) _)
  have zW : w.heap.size + 1 < W.heap.size := by rw [hW]; simp
  have b1 : W.heap[w.heap.size + 1]? = some (.cells (cellsP K A B ta' tn tc' ca' cn cc' pa' pn pc').toArray 74 (0, 0)) := by
    rw [hW]
    have q := heap_alloc_new (w.alloc (.cells (cellsP K A B ta tn tc ca cn cc pa pn pc).toArray 74)) (.cells (cellsP K A B ta' tn tc' ca' cn cc' pa' pn pc').toArray 74)
    simpa only [World.size_alloc] using q
  have b0 : W.heap[w.heap.size]? = some (.cells (cellsP K A B ta tn tc ca cn cc pa pn pc).toArray 74 (0, 0)) := by
    rw [hW]
    exact blk_alloc (heap_alloc_new w _) _
  have T3 := Hid.mk (And.intro t3 t3')
  have U3 := Hid.mk (And.intro u3 u3')
  have V3 := Hid.mk (And.intro v3 v3')
  have HE := Hid.mk he
  have HT1 := Hid.mk t1
  have HU1 := Hid.mk u1
  have HV1 := Hid.mk v1
  clear t3 u3 v3 he t1 u1 v1 t3' u3' v3' t1' u1' v1'
  go_enter Tryz.func95, Tryz.ntmps95
  go_wp2_with fail
  rw [← hW]
  clear hW
  refine (eqTestS_same ta ta' tn tc tc' ts W HT1.out hs1 (AtE.below T3.out.1 B0) (AtE.below T3.out.2 B0)).mono ?_
  rintro e w1 ⟨rfl, hb1⟩
  have B1 : Below w.heap.size w w1 := B0.trans (hb1.mono (by omega))
  replace b1 := blk_below b1 hb1
  replace b0 := blk_below b0 hb1
  have q := blk_cell b0 4 (v := .slice ca cn cc) rfl
  have r := blk_cell b1 4 (v := .slice ca' cn cc') rfl
  have HB := Hid.mk B1
  clear hb1 B0 B1
  go_wp2_with fail
  refine (eqIntS_same ca ca' cn cc cc' zs w1 HU1.out hs2 (At.below U3.out.1 HB.out) (At.below U3.out.2 HB.out)).mono ?_
  rintro e w2 ⟨rfl, hb2⟩
  replace b1 := blk_below b1 hb2
  replace b0 := blk_below b0 hb2
  have B2 := HB.out.trans (hb2.mono HB.out.size)
  have q := blk_cell b0 5 (v := .slice pa pn pc) rfl
  have r := blk_cell b1 5 (v := .slice pa' pn pc') rfl
  have HC := Hid.mk B2
  clear hb2 HB B2
  go_wp2_with fail
  refine (eqIntSS_same pa pa' pn pc pc' ps w2 HV1.out hs3 HE.out (AtS.below V3.out.1 HC.out) (AtS.below V3.out.2 HC.out)).mono ?_
  rintro e w3 ⟨rfl, hb3⟩
  go_wp2
  go_ret
  exact ⟨rfl, HC.out.trans (hb3.mono HC.out.size)⟩

set_option maxRecDepth 100000 in
set_option maxHeartbeats 4000000 in
theorem eqPartS_same (a a' : Option Addr) (n c c' : Nat) (xs : List PartD) (w : World) (hz : xs.length = n) (hn : n ≤ 1048576) (hs : ∀ (i : Nat) (x : PartD), xs[i]? = some x → SmPart x) (ha : AtSl RPart w a xs) (ha' : AtSl RPart w a' xs) :
    Calls Tryz.prog 56 #[.slice a n c, .slice a' n c'] w fun e w' => e = .returned (.bool true) ∧ Below w.heap.size w w' := by
  by_cases h0 : n = 0
  · subst h0
    go_enter Tryz.func56, Tryz.ntmps56
    go_wp2
    refine wp_loop_rounds 1 ?_
    rw [rounds_succ]
    go_wp2
    go_ret
    exact ⟨rfl, Below.refl _ _⟩
  · go_enter Tryz.func56, Tryz.ntmps56
    go_wp2
    go_loopw [5] (fun i wr => ∃ (k : Nat), k ≤ n ∧ i = .int .i64 k ∧ Below w.heap.size w wr) (fun i _ => n - (intOf i).toNat)
    case atStart => exact ⟨0, Nat.zero_le _, rfl, Below.refl _ _⟩
    case round =>
      obtain ⟨k, hk, rfl, hbw⟩ := hrel
      by_cases hlt : k < n
      · obtain ⟨b, off, rfl, hc⟩ := (ha.below hbw).each (by omega)
        obtain ⟨b', off', rfl, hc'⟩ := (ha'.below hbw).each (by omega)
        obtain ⟨x, hx⟩ : ∃ x, xs[k]? = some x := ⟨_, List.getElem?_eq_getElem (by omega)⟩
        obtain ⟨cx, hcx, hat⟩ := hc k x hx
        obtain ⟨cx', hcx', hat'⟩ := hc' k x hx
        have hsm := hs k x hx
        obtain ⟨ta, tn, tc, ca, cn, cc, pa, pn, pc, rfl, _⟩ := RPart.at_open hat
        obtain ⟨ta', tn', tc', ca', cn', cc', pa', pn', pc', rfl, _⟩ := RPart.at_open hat'
        have g0 := hcx 0 _ rfl
        have g1 := hcx 1 _ rfl
        have g2 := hcx 2 _ rfl
        have g3 := hcx 3 _ rfl
        have g4 := hcx 4 _ rfl
        have g5 := hcx 5 _ rfl
        have h0 := hcx' 0 _ rfl
        have h1 := hcx' 1 _ rfl
        have h2 := hcx' 2 _ rfl
        have h3 := hcx' 3 _ rfl
        have h4 := hcx' 4 _ rfl
        have h5 := hcx' 5 _ rfl
        rw [RPart_k] at g0 g1 g2 g3 g4 g5 h0 h1 h2 h3 h4 h5
        rw [Nat.add_zero] at g0 h0
        have hki : (k : Int) < (n : Int) := by omega
        have HE : Hid (∀ w' : World, Below wr.heap.size wr w' → Calls Tryz.prog 95 #[.agg (cellsP x.K x.A x.B ta tn tc ca cn cc pa pn pc).toArray, .agg (cellsP x.K x.A x.B ta' tn' tc' ca' cn' cc' pa' pn' pc').toArray] w' fun e w'' => e = .returned (.bool true) ∧ Below w'.heap.size w' w'') :=
          fun w' hw' => eqPart_same _ _ x w' hsm (RPart.below hat hw') (RPart.below hat' hw')
        clear hc hc' ha ha' hat hat' hcx hcx' hs hsm hx
        generalize x.K = K at *
        generalize x.A = A at *
        generalize x.B = B at *

        go_wp2_with fail
        go_region_held3 (fun w' => w'.cell? ⟨b, off + k * 6, none⟩ = some (.int .i64 K) ∧ w'.cell? ⟨b, off + k * 6 + 1, none⟩ = some (.int .i64 A) ∧ w'.cell? ⟨b, off + k * 6 + 2, none⟩ = some (.int .i64 B) ∧ w'.cell? ⟨b, off + k * 6 + 3, none⟩ = some (.slice ta tn tc) ∧ w'.cell? ⟨b, off + k * 6 + 4, none⟩ = some (.slice ca cn cc) ∧ w'.cell? ⟨b, off + k * 6 + 5, none⟩ = some (.slice pa pn pc) ∧ w'.cell? ⟨b', off' + k * 6, none⟩ = some (.int .i64 K) ∧ w'.cell? ⟨b', off' + k * 6 + 1, none⟩ = some (.int .i64 A) ∧ w'.cell? ⟨b', off' + k * 6 + 2, none⟩ = some (.int .i64 B) ∧ w'.cell? ⟨b', off' + k * 6 + 3, none⟩ = some (.slice ta' tn' tc') ∧ w'.cell? ⟨b', off' + k * 6 + 4, none⟩ = some (.slice ca' cn' cc') ∧ w'.cell? ⟨b', off' + k * 6 + 5, none⟩ = some (.slice pa' pn' pc')) (refine ⟨?_, ?_, ?_, ?_, ?_, ?_, ?_, ?_, ?_, ?_, ?_, ?_⟩ <;> assumption)
          (first | (go_at_call 95; refine (HE.out wr.drew (Below.refl _ _).drew).mono ?_; rintro e w2 ⟨rfl, hb2⟩; have e0 := cell_later hb2 g0; have e1 := cell_later hb2 g1; have e2 := cell_later hb2 g2; have e3 := cell_later hb2 g3; have e4 := cell_later hb2 g4; have e5 := cell_later hb2 g5; have d0 := cell_later hb2 h0; have d1 := cell_later hb2 h1; have d2 := cell_later hb2 h2; have d3 := cell_later hb2 h3; have d4 := cell_later hb2 h4; have d5 := cell_later hb2 h5) | fail)
        go_wp2
        go_roundw
        case rel => exact ⟨k + 1, by omega, by go_num, hbw.drew.trans (hb2.mono hbw.size)⟩
        case measure => simp [intOf]; omega
      · go_wp2
        go_ret
        exact ⟨rfl, hbw⟩

set_option maxRecDepth 100000 in
set_option maxHeartbeats 2000000 in
theorem eqView_same (sa sa' : Option Addr) (sn sc sc' : Nat) (pa pa' : Option Addr) (pn pc pc' : Nat) (ss : List Int) (xs : List PartD) (w : World) (hsz : ss.length = sn) (hz : xs.length = pn) (hs : Sm2 (ss, xs)) (hsa : At w sa ss) (ha : AtSl RPart w pa xs) (hsa' : At w sa' ss) (ha' : AtSl RPart w pa' xs) :
    Calls Tryz.prog 19 #[.agg #[.slice sa sn sc, .slice pa pn pc], .agg #[.slice sa' sn sc', .slice pa' pn pc']] w fun e w' => e = .returned (.bool true) ∧ Below w.heap.size w w' := by
  have hsn : sn ≤ 1048576 := by have := hs.src; simp only at this; omega
  have hpn : pn ≤ 1048576 := by have := hs.len; simp only at this; omega
  have HS : Hid (∀ (i : Nat) (x : PartD), xs[i]? = some x → SmPart x) := fun i x hx => hs.part hx
  clear hs
  obtain ⟨W, hW⟩ : ∃ W, W = ((w.alloc (.cells #[.slice sa sn sc, .slice pa pn pc] 26)).alloc (.cells #[.slice sa' sn sc', .slice pa' pn pc'] 26)) := ⟨_, rfl⟩
  have B0 : Below w.heap.size w W := by rw [hW]; exact (((Below.refl _ _).alloc (Nat.le_refl _) _).alloc (by simp) _)
  have q0 : W.cell? ⟨w.heap.size, 1, none⟩ = some (.slice pa pn pc) := by rw [hW]; simp
  have q1 : W.cell? ⟨w.heap.size + 1, 1, none⟩ = some (.slice pa' pn pc') := by rw [hW]; simp
  have U3 := Hid.mk (And.intro hsa hsa')
  have V3 := Hid.mk (And.intro ha ha')
  have HU1 := Hid.mk hsz
  have HV1 := Hid.mk hz
  clear hsa ha hsa' ha' hsz hz
  go_enter Tryz.func19, Tryz.ntmps19
  go_wp2_with fail
  rw [← hW]
  clear hW
  refine (eqIntS_same sa sa' sn sc sc' ss W HU1.out hsn (At.below U3.out.1 B0) (At.below U3.out.2 B0)).mono ?_
  rintro e w1 ⟨rfl, hb1⟩
  have B1 := B0.trans (hb1.mono B0.size)
  have q0 := cell_later hb1 q0
  have q1 := cell_later hb1 q1
  clear hb1 B0
  go_wp2_with fail
  refine (eqPartS_same pa pa' pn pc pc' xs w1 HV1.out hpn HS.out (V3.out.1.below B1) (V3.out.2.below B1)).mono ?_
  rintro e w2 ⟨rfl, hb2⟩
  go_wp2
  go_ret
  exact ⟨rfl, B1.trans (hb2.mono B1.size)⟩

end Go.Proofs.YthiabjkjpjmahaaGreat

/- What the laws over views lean on. -/
namespace Go.Proofs.YthiabjkjpjmahaaGreat
open Go.RowKit

theorem view_at {w : World} {F : Nat → Prop} {sa : Option Addr} {sn sc : Nat} {pa : Option Addr} {pn pc : Nat} {ss : List Int} {xs : List PartD} (h : RView.Own w F [.slice sa sn sc, .slice pa pn pc] (ss, xs)) : At w sa ss ∧ AtSl RPart w pa xs := by
  obtain ⟨c1, c2, F1, F2, hcc, h2, h3, _⟩ := h
  obtain ⟨a1, n1, k1, cells1, G1, rfl, l1⟩ := h2
  obtain ⟨a2, n2, k2, cells2, G2, rfl, l2⟩ := h3
  simp only [List.cons_append, List.nil_append, List.cons.injEq, Value.slice.injEq, and_true] at hcc
  obtain ⟨⟨rfl, rfl, rfl⟩, rfl, rfl, rfl⟩ := hcc
  exact ⟨atSl_int.1 l1.atSl, l2.atSl⟩

end Go.Proofs.YthiabjkjpjmahaaGreat

/- Contracts of the laws' heldTestS, heldIntSS, heldPartS, heldView over things that the laws marked. -/
namespace Go.Proofs.YthiabjkjpjmahaaGreat
open Go.RowKit

end Go.Proofs.YthiabjkjpjmahaaGreat

/- Contracts of the laws' helpers that mark streams: markTableS, markStream, heldTableS, heldStream. -/
namespace Go.Proofs.YthiabjkjpjmahaaGreat
open Go.RowKit

set_option maxHeartbeats 2000000 in
theorem markTableS_any (lo hi : Nat) (a : Option Addr) (n c : Nat) (ss : List Tab) (m : Int) (w : World) (hs : SmU ss n) (h0 : 0 ≤ m) (h1 : m ≤ 134217728) (ho : OwnU w lo hi a n c ss) :
    Calls Tryz.prog 22 #[.slice a n c, .int .i64 m] w fun e w' => e = .returned (.int .i64 (m + stot ss n)) ∧ OwnU w' lo hi a n c (markU m ss) ∧ Apart lo hi w w' := by
  obtain ⟨cells, L, H, ho⟩ := ho
  have hz := hs.1
  have hn := hs.n
  have ht := hs.2
  by_cases hn0 : n = 0
  · subst hn0
    obtain rfl := List.eq_nil_of_length_eq_zero hz
    go_enter Tryz.func22, Tryz.ntmps22
    go_wp2
    refine wp_loop_rounds 1 ?_
    rw [rounds_succ]
    go_wp2
    go_ret
    exact ⟨ret_int (by simp [stot]), ⟨cells, L, H, ho⟩, Apart.refl _ _ _⟩
  · obtain ⟨g, hgv⟩ : ∃ g, a = some ⟨g, 0, none⟩ := by
      rcases ho.outer.2 with ⟨_, h⟩ | ⟨g, cap, cur, hv, _⟩
      · omega
      · simp only [Value.slice.injEq, true_and] at hv
        exact ⟨g, hv.1⟩
    subst hgv
    have ho0 : OwnUk w lo hi (some ⟨g, 0, none⟩) n c (mixU m ss 0) cells L H n := by rw [mixU_zero]; exact ho
    clear ho
    go_enter Tryz.func22, Tryz.ntmps22
    go_wp2
    go_loopw [1, 5] (fun q i wr => ∃ (k : Nat) (cells : List Value), k ≤ n ∧ i = .int .i64 k ∧ q = .int .i64 (m + stot ss k) ∧ OwnUk wr lo hi (some ⟨g, 0, none⟩) n c (mixU m ss k) cells L H n ∧ Apart lo hi w wr) (fun _ i _ => n - (intOf i).toNat)
    case atStart => exact ⟨0, cells, Nat.zero_le _, rfl, by simp [stot_zero], ho0, Apart.refl _ _ _⟩
    case round =>
      clear ho0 cells
      obtain ⟨k, cells, hk, rfl, rfl, ho, hap⟩ := hrel
      by_cases hlt : k < n
      · obtain ⟨a', c', k1, k2, k3⟩ := ho.row k hlt
        rw [mixU_at m ss k k (by omega), if_neg (by omega)] at k1 k2 k3
        have hsm := hs.tab k hlt
        have hts := stot_succ ss k (by omega)
        have htm := stot_mono ss (k + 1) n (by omega) (by omega)
        have hout := ho.outer
        have hln := hout.1
        have hw := ho.within k hlt
        have hgo := ho.out k hlt g rfl
        have hgl := ho.blocks g rfl
        have HO := Hid.mk ho
        obtain ⟨us, hus⟩ : ∃ us, (tat ss k).2 = us := ⟨_, rfl⟩
        rw [hus] at k2 k3 hsm hts
        obtain ⟨l, hl⟩ : ∃ l, us.length = l := ⟨_, rfl⟩
        rw [hl] at k2 k3 hsm hts
        obtain ⟨T, hT⟩ : ∃ T : Nat, stot ss k = T := ⟨_, rfl⟩
        obtain ⟨v, hv⟩ : ∃ v : Int, m + (T : Int) = v := ⟨_, rfl⟩
        have hb1 : v + 1 ≤ 268435456 := by omega
        have hb0 : 0 ≤ v + 1 := by omega
        have hw0 : -9223372036854775808 ≤ v := by omega
        have hcx : wr.cell? ⟨g, k * 2 + 1, none⟩ = some (.slice a' l c') := (hout.cellAt _ (by omega)).trans k2
        have hco : wr.cell? ⟨g, k * 2, none⟩ = some (.int .i64 (tat ss k).1) := (hout.cellAt _ (by omega)).trans k1
        have hfo : wr.frozen? ⟨g, k * 2, none⟩ = false := hout.frozenAt _
        have HK := Hid.mk k2
        have HUS := Hid.mk hus
        have HL := Hid.mk hl
        have HT := Hid.mk hT
        have HV := Hid.mk hv
        have HTS := Hid.mk hts
        have HAP := Hid.mk hap
        rw [hT, hv]
        have hki : (k : Int) < (n : Int) := by omega
        have hO1 : OwnT (wr.setCell ⟨g, k * 2, none⟩ (.int .i64 v)) (L k) (H k) a' l c' us := k3.setCell (a0 := ⟨g, k * 2, none⟩) hgo _
        have hcx1 : (wr.setCell ⟨g, k * 2, none⟩ (.int .i64 v)).cell? ⟨g, k * 2 + 1, none⟩ = some (.slice a' l c') := by
          have := ((hout.stored (k * 2) (.int .i64 v)).1.cellAt (k * 2 + 1) (by omega))
          rw [this, List.getElem?_set_ne (by omega)]; exact k2
        clear k1 k2 hus hl hT hts htm hap ho hout hv
        go_wp2_with fail
        refine (markWeightedSG (L k) (H k) _ _ _ us _ _ hsm hb0 hb1 hO1).mono ?_
        rintro e w2 ⟨rfl, hr2, hg2⟩
        have hmk := HO.out.marked (m := m) (ss := ss) (v := v) (by have := HO.out.len; rwa [mixU_length] at this) hlt (by rw [HUS.out]; exact HL.out) (by rw [HT.out]; exact HV.out) HK.out (by rw [HUS.out]; exact hr2) hg2
        have HM := Hid.mk hmk
        have hA1 : Apart lo hi wr (wr.setCell ⟨g, k * 2, none⟩ (.int .i64 v)) := Apart.grown (row := some g) ⟨rfl, rfl, rfl, by simp [World.setCell], fun j _ hn => Below.heap_setCell _ _ _ j (fun e => hn (by rw [e]))⟩ (fun b hb => by simp at hb; omega)
        have HA : Hid (Apart lo hi w w2) := (HAP.out.trans hA1).trans (hg2.widen hw.1 hw.2)
        clear hmk hr2 hg2 k3 hcx HO HK hO1 hcx1 hco hA1
        go_wp2
        go_roundw
        case rel => exact ⟨k + 1, _, by omega, by go_num, by have := HTS.out; have := HT.out; have := HV.out; go_num, HM.out, HA.out⟩
        case measure => simp [intOf]; omega
      · obtain rfl : k = n := by omega
        have ho' : OwnUk wr lo hi (some ⟨g, 0, none⟩) k c (markU m ss) cells L H k := by
          rw [← mixU_all, hz]; exact ho
        go_wp2
        go_ret
        exact ⟨rfl, ⟨cells, L, H, ho'⟩, hap⟩

end Go.Proofs.YthiabjkjpjmahaaGreat
