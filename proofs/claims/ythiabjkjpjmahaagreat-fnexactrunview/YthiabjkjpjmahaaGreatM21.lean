/- Contract of impl.partsOf: the parts of a right view, and how many columns each has. -/
import Derived.Test.YthiabjkjpjmahaaGreatM20
namespace Go.Proofs.YthiabjkjpjmahaaGreat
open Go.RowKit

/-- A value behind the interface is this part. -/
def IsPart (w : World) (v : Value) (x : PartD) : Prop := ∃ ta tn tc ca cn cc pa pn pc, v = partV x.K x.A x.B ta tn tc ca cn cc pa pn pc ∧ RPart.At w (cellsP x.K x.A x.B ta tn tc ca cn cc pa pn pc) x
theorem IsPart.below {w w' : World} {v : Value} {x : PartD} (h : IsPart w v x) (hb : Below w.heap.size w w') : IsPart w' v x := by
  obtain ⟨ta, tn, tc, ca, cn, cc, pa, pn, pc, h1, h2⟩ := h
  exact ⟨ta, tn, tc, ca, cn, cc, pa, pn, pc, h1, RPart.below h2 hb⟩
def AreParts (w : World) (vs : List Value) (xs : List PartD) : Prop := ∀ (i : Nat) (v : Value) (x : PartD), vs[i]? = some v → xs[i]? = some x → IsPart w v x
theorem AreParts.below {w w' : World} {vs : List Value} {xs : List PartD} (h : AreParts w vs xs) (hb : Below w.heap.size w w') : AreParts w' vs xs := fun i v x h1 h2 => (h i v x h1 h2).below hb
theorem AreParts.push {w : World} {vs : List Value} {xs : List PartD} {k : Nat} {v : Value} {x : PartD} (h : AreParts w vs xs) (hk : vs.length = k) (hx : xs[k]? = some x) (hv : IsPart w v x) : AreParts w (vs ++ [v]) xs := fun i u y h1 h2 => by
  by_cases e : i < vs.length
  ·rw [List.getElem?_append_left e] at h1
   exact h i u y h1 h2
  ·rw [List.getElem?_append_right (by omega)] at h1
   have : i - vs.length = 0 := by
    have := (List.getElem?_eq_some_iff.1 h1).1
    simp at this
    omega
   rw [this] at h1
   simp at h1
   obtain rfl : i = k := by omega
   rw [hx] at h2
   simp at h2
   rw [← h1, ← h2]
   exact hv

theorem widthP_1 {ss ah : List Int} {x : PartD} (h : x.K = 1) : widthP ss ah x = numAt ss x.A := by unfold widthP; rw [if_pos h]
theorem widthP_2 {ss ah : List Int} {x : PartD} (h : x.K = 2) : widthP ss ah x = selAt ah x.A x.ts := by unfold widthP; rw [if_neg (by omega), if_pos h]; rfl
theorem widthP_3 {ss ah : List Int} {x : PartD} (h : x.K = 3) : widthP ss ah x = prjAt ah x.A x.cs := by unfold widthP; rw [if_neg (by omega), if_neg (by omega), if_pos h]; rfl
theorem widthP_4 {ss ah : List Int} {x : PartD} (h : x.K = 4) : widthP ss ah x = jonAt ah x.A x.B x.ps := by unfold widthP; rw [if_neg (by omega), if_neg (by omega), if_neg (by omega), if_pos h]; rfl
theorem widthP_5 {ss ah : List Int} {x : PartD} (h : x.K = 5) : widthP ss ah x = twoAt ah x.A x.B := by unfold widthP; rw [if_neg (by omega), if_neg (by omega), if_neg (by omega), if_neg (by omega), if_pos (.inl h)]; rfl
theorem widthP_6 {ss ah : List Int} {x : PartD} (h : x.K = 6) : widthP ss ah x = twoAt ah x.A x.B := by unfold widthP; rw [if_neg (by omega), if_neg (by omega), if_neg (by omega), if_neg (by omega), if_pos (.inr h)]; rfl
theorem widthP_7 {ss ah : List Int} {x : PartD} (h : x.K = 7) : widthP ss ah x = numAt ah x.A := by unfold widthP; rw [if_neg (by omega), if_neg (by omega), if_neg (by omega), if_neg (by omega), if_neg (by omega), if_pos h]
theorem widthP_no {ss ah : List Int} {x : PartD} (h : ¬ (1 ≤ x.K ∧ x.K ≤ 7)) : widthP ss ah x = none := by unfold widthP; rw [if_neg (by omega), if_neg (by omega), if_neg (by omega), if_neg (by omega), if_neg (by omega), if_neg (by omega)]
theorem partW_no {ss ah : List Int} {x : PartD} (h : widthP ss ah x = none) : partW ss ah x = none := by unfold partW; split; exact h; rfl

theorem Tryz.infoPartI : (Tryz.prog.info? 110).map (fun i => (i.zero, i.size, i.bytes)) = some (some .nilIface, 1, 16) := by kernel_rfl

theorem m_width_1 (A : Int) (w : World) : (method 365 152 (.agg #[.int .i64 A]) "loop.example/g00305/impl.width").run Tryz.prog w = .ok (208, .agg #[.int .i64 A]) w := by kernel_rfl
theorem m_asPart_1 (A : Int) (w : World) : (method 365 152 (.agg #[.int .i64 A]) "loop.example/g00305/impl.asPart").run Tryz.prog w = .ok (207, .agg #[.int .i64 A]) w := by kernel_rfl
theorem m_width_2 (A : Int) (ta : Option Addr) (tn tc : Nat) (w : World) : (method 365 154 (.agg #[.int .i64 A, .slice ta tn tc]) "loop.example/g00305/impl.width").run Tryz.prog w = .ok (211, .agg #[.int .i64 A, .slice ta tn tc]) w := by kernel_rfl
theorem m_asPart_2 (A : Int) (ta : Option Addr) (tn tc : Nat) (w : World) : (method 365 154 (.agg #[.int .i64 A, .slice ta tn tc]) "loop.example/g00305/impl.asPart").run Tryz.prog w = .ok (210, .agg #[.int .i64 A, .slice ta tn tc]) w := by kernel_rfl
theorem m_width_3 (A : Int) (ca : Option Addr) (cn cc : Nat) (w : World) : (method 365 156 (.agg #[.int .i64 A, .slice ca cn cc]) "loop.example/g00305/impl.width").run Tryz.prog w = .ok (213, .agg #[.int .i64 A, .slice ca cn cc]) w := by kernel_rfl
theorem m_asPart_3 (A : Int) (ca : Option Addr) (cn cc : Nat) (w : World) : (method 365 156 (.agg #[.int .i64 A, .slice ca cn cc]) "loop.example/g00305/impl.asPart").run Tryz.prog w = .ok (212, .agg #[.int .i64 A, .slice ca cn cc]) w := by kernel_rfl
theorem m_width_4 (A B : Int) (qa : Option Addr) (qn qc : Nat) (w : World) : (method 365 158 (.agg #[.int .i64 A, .int .i64 B, .slice qa qn qc]) "loop.example/g00305/impl.width").run Tryz.prog w = .ok (215, .agg #[.int .i64 A, .int .i64 B, .slice qa qn qc]) w := by kernel_rfl
theorem m_asPart_4 (A B : Int) (qa : Option Addr) (qn qc : Nat) (w : World) : (method 365 158 (.agg #[.int .i64 A, .int .i64 B, .slice qa qn qc]) "loop.example/g00305/impl.asPart").run Tryz.prog w = .ok (214, .agg #[.int .i64 A, .int .i64 B, .slice qa qn qc]) w := by kernel_rfl
theorem m_width_5 (A B : Int) (w : World) : (method 365 160 (.agg #[.int .i64 A, .int .i64 B]) "loop.example/g00305/impl.width").run Tryz.prog w = .ok (217, .agg #[.int .i64 A, .int .i64 B]) w := by kernel_rfl
theorem m_asPart_5 (A B : Int) (w : World) : (method 365 160 (.agg #[.int .i64 A, .int .i64 B]) "loop.example/g00305/impl.asPart").run Tryz.prog w = .ok (216, .agg #[.int .i64 A, .int .i64 B]) w := by kernel_rfl
theorem m_width_6 (A B : Int) (w : World) : (method 365 161 (.agg #[.int .i64 A, .int .i64 B]) "loop.example/g00305/impl.width").run Tryz.prog w = .ok (220, .agg #[.int .i64 A, .int .i64 B]) w := by kernel_rfl
theorem m_asPart_6 (A B : Int) (w : World) : (method 365 161 (.agg #[.int .i64 A, .int .i64 B]) "loop.example/g00305/impl.asPart").run Tryz.prog w = .ok (219, .agg #[.int .i64 A, .int .i64 B]) w := by kernel_rfl
theorem m_width_7 (A : Int) (w : World) : (method 365 163 (.agg #[.int .i64 A]) "loop.example/g00305/impl.width").run Tryz.prog w = .ok (222, .agg #[.int .i64 A]) w := by kernel_rfl
theorem m_asPart_7 (A : Int) (w : World) : (method 365 163 (.agg #[.int .i64 A]) "loop.example/g00305/impl.asPart").run Tryz.prog w = .ok (221, .agg #[.int .i64 A]) w := by kernel_rfl

/-- What partsOf answers. -/
def PartsRet (e : Ending) (w w' : World) (v : ViewD) : Prop :=
  match checkV v with
  | none => e = .returned (.tuple #[.slice none 0 0, .slice none 0 0, .bool false])
  | some ah => ∃ r d r' d' vs, e = .returned (.tuple #[.slice r v.2.length d, .slice r' v.2.length d', .bool true]) ∧ vs.length = v.2.length ∧ AreParts w vs v.2 ∧ w'.ownsRow w.heap.size 110 1 (.slice r v.2.length d) v.2.length vs ∧ w'.ownsRow w.heap.size 3 1 (.slice r' v.2.length d') v.2.length (ah.map (.int .i64))
theorem PartsRet.no {w w' : World} {v : ViewD} (h : checkV v = none) : PartsRet (.returned (.tuple #[.slice none 0 0, .slice none 0 0, .bool false])) w w' v := by unfold PartsRet; rw [h]

set_option maxRecDepth 100000 in
set_option maxHeartbeats 32000000 in
theorem partsOf_any (sa : Option Addr) (sn sc : Nat) (pa : Option Addr) (pn pc : Nat) (ss : List Int) (xs : List PartD) (w : World) (hsz : ss.length = sn) (hsn : sn ≤ 1048576) (hz : xs.length = pn) (hn : pn ≤ 1048576) (hs : ∀ (i : Nat) (x : PartD), xs[i]? = some x → SmPart x) (hsa : At w sa ss) (ha : AtSl RPart w pa xs) :
   Calls Tryz.prog 30 #[.agg #[.slice sa sn sc, .slice pa pn pc]] w fun e w' => PartsRet e w w' (ss, xs) ∧ Below w.heap.size w w' := by
  obtain ⟨i0, hi, hz0, hz1, hz2⟩ := info_parts Tryz.infoInt
  obtain ⟨j0, hj, hy0, hy1, hy2⟩ := info_parts Tryz.infoPartI
  obtain ⟨W, hW⟩ : ∃ W, W = w.alloc (.cells #[.slice sa sn sc, .slice pa pn pc] 26) := ⟨_, rfl⟩
  have B0 : Below w.heap.size w W := by rw [hW]; exact (Below.refl _ _).alloc (Nat.le_refl _) _
  have b0 : W.heap[w.heap.size]? = some (.cells #[.slice sa sn sc, .slice pa pn pc] 26 (0, 0)) := by rw [hW]; exact heap_alloc_new w _
  have c1 := blk_cell b0 1 (v := .slice pa pn pc) rfl
  have HS := Hid.mk hs
  have HSA := Hid.mk hsa
  have HA := Hid.mk ha
  have HSZ := Hid.mk hsz
  have HZ := Hid.mk hz
  clear hs hsa ha hsz hz
  cases hok : srcOk ss with
  | false =>
   have HO := Hid.mk hok
   clear hok
   go_enter Tryz.func30, Tryz.ntmps30
   go_wp2_with fail
   rw [← hW]
   clear hW
   refine (goodSources_any sa sn sc ss W HSZ.out hsn (At.below HSA.out B0)).mono ?_
   rintro e w1 ⟨rfl, hb1⟩
   rw [HO.out]
   have B1 := B0.trans (hb1.mono B0.size)
   go_wp2
   exact bodyPost_ret (v := .tuple #[.slice none 0 0, .slice none 0 0, .bool false]) (by simp [results, Tryz.results30, go_sem]) rfl ⟨PartsRet.no (checkV_src HO.out), B1⟩
  | true =>
   have HO := Hid.mk hok
   clear hok
   have ENT : True := trivial
   by_cases hlo : pn < 1
   ·have hlo' : (pn : Int) < 1 := by omega
    have HC : Hid (checkV (ss, xs) = none) := checkV_len (by show ¬ (1 ≤ xs.length ∧ xs.length ≤ 12); rw [HZ.out]; omega)
    go_enter Tryz.func30, Tryz.ntmps30
    go_wp2_with fail
    rw [← hW]
    clear hW
    refine (goodSources_any sa sn sc ss W HSZ.out hsn (At.below HSA.out B0)).mono ?_
    rintro e w1 ⟨rfl, hb1⟩
    rw [HO.out]
    have c1 := cell_later hb1 c1
    have B1 := B0.trans (hb1.mono B0.size)
    go_wp2
    exact bodyPost_ret (v := .tuple #[.slice none 0 0, .slice none 0 0, .bool false]) (by simp [results, Tryz.results30, go_sem]) rfl ⟨PartsRet.no HC.out, B1⟩
   by_cases hhi : 12 < pn
   ·have hlo' : ¬ (pn : Int) < 1 := by omega
    have hhi' : (12 : Int) < (pn : Int) := by omega
    have HC : Hid (checkV (ss, xs) = none) := checkV_len (by show ¬ (1 ≤ xs.length ∧ xs.length ≤ 12); rw [HZ.out]; omega)
    go_enter Tryz.func30, Tryz.ntmps30
    go_wp2_with fail
    rw [← hW]
    clear hW
    refine (goodSources_any sa sn sc ss W HSZ.out hsn (At.below HSA.out B0)).mono ?_
    rintro e w1 ⟨rfl, hb1⟩
    rw [HO.out]
    have c1 := cell_later hb1 c1
    have B1 := B0.trans (hb1.mono B0.size)
    go_wp2
    exact bodyPost_ret (v := .tuple #[.slice none 0 0, .slice none 0 0, .bool false]) (by simp [results, Tryz.results30, go_sem]) rfl ⟨PartsRet.no HC.out, B1⟩
   have hlo' : ¬ (pn : Int) < 1 := by omega
   have hhi' : ¬ (12 : Int) < (pn : Int) := by omega
   have HC : Hid (checkV (ss, xs) = checkTo ss xs pn) := checkV_to HO.out HZ.out (by omega) (by omega)
   have HALL := Hid.mk (srcOk_all HO.out)
   go_enter Tryz.func30, Tryz.ntmps30
   go_wp2_with fail
   rw [← hW]
   clear hW
   refine (goodSources_any sa sn sc ss W HSZ.out hsn (At.below HSA.out B0)).mono ?_
   rintro e w1 ⟨rfl, hb1⟩
   rw [HO.out]
   have c1 := cell_later hb1 c1
   have b0 := blk_below b0 hb1
   have B1 := B0.trans (hb1.mono B0.size)
   have zW : w.heap.size < w1.heap.size := World.block_lt_of_cell? _ _ c1
   clear hb1 B0
   go_upto_region 6 with fail
   go_loopw [5, 6, 32] (fun p q i wr => ∃ (k : Nat) (r : Option Addr) (d : Nat) (r' : Option Addr) (d' : Nat) (vs : List Value) (ah : List Int), k ≤ pn ∧ i = .int .i64 k ∧ p = .slice r k d ∧ q = .slice r' k d' ∧ checkTo ss xs k = some ah ∧ vs.length = k ∧ AreParts w vs xs ∧
    wr.ownsRow w1.heap.size 110 1 (.slice r k d) k vs ∧ wr.ownsRow w1.heap.size 3 1 (.slice r' k d') k (ah.map (.int .i64)) ∧ (∀ b, (Value.slice r k d).ownBlock = some b → (Value.slice r' k d').ownBlock ≠ some b) ∧ Below w1.heap.size w1 wr) (fun _ _ i _ => pn - (intOf i).toNat)
   case atStart => exact ⟨0, none, 0, none, 0, [], [], Nat.zero_le _, rfl, rfl, rfl, rfl, rfl, (fun i v x h => by simp at h), World.ownsRow_nil _ _ _ _, World.ownsRow_nil _ _ _ _, (fun b h => by cases h), Below.refl _ _⟩
   case round =>
    obtain ⟨k, r, d, r', d', vs, ah, hk, rfl, rfl, rfl, hck, hvl, hap, hop, hoi, hdis, hbw⟩ := hrel
    have zr := hbw.size
    by_cases hlt : k < pn
    ·have HBW : Hid (Below w.heap.size w wr) := B1.trans (hbw.mono (by omega))
     obtain ⟨b, off, hpa, hc⟩ := HA.out.each (by rw [HZ.out]; omega)
     subst hpa
     obtain ⟨x, hx⟩ : ∃ x, xs[k]? = some x := ⟨_, List.getElem?_eq_getElem (by rw [HZ.out]; exact hlt)⟩
     obtain ⟨cx, hcx, hat⟩ := hc k x hx
     have hsm := HS.out k x hx
     obtain ⟨ta, tn, tc, ca, cn, cc, qa, qn, qc, rfl, ⟨t1, t2, t3, t4⟩, ⟨u1, u2, u3, u4⟩, ⟨v1, v2, v3, v4⟩⟩ := RPart.at_open4 hat
     have HIS : Hid (IsPart w (partV x.K x.A x.B ta tn tc ca cn cc qa qn qc) x) := ⟨ta, tn, tc, ca, cn, cc, qa, qn, qc, rfl, hat⟩
     have g0 := cell_later HBW.out (hcx 0 _ rfl)
     have g1 := cell_later HBW.out (hcx 1 _ rfl)
     have g2 := cell_later HBW.out (hcx 2 _ rfl)
     have g3 := cell_later HBW.out (hcx 3 _ rfl)
     have g4 := cell_later HBW.out (hcx 4 _ rfl)
     have g5 := cell_later HBW.out (hcx 5 _ rfl)
     rw [RPart_k] at g0 g1 g2 g3 g4 g5
     rw [Nat.add_zero] at g0
     have hki : (k : Int) < (pn : Int) := by omega
     have hs1 := hsm.1
     have hs2 := hsm.2.1
     have hs3 := hsm.2.2.1
     have HE := Hid.mk hsm.each
     have HNO : Hid (partW ss ah x = none → checkV (ss, xs) = none) := fun h => by
      rw [HC.out]
      refine checkTo_none (k := k + 1) ?_ (by omega)
      rw [checkTo_step hck hx, h]; rfl
     have HYES : Hid (∀ n, partW ss ah x = some n → checkTo ss xs (k + 1) = some (ah ++ [n])) := fun n h => by
      rw [checkTo_step hck hx, h]; rfl
     have HAI := Hid.mk (checkTo_some HALL.out hck)
     have HPW : Hid (partW ss ah x = if noMore x = true then widthP ss ah x else none) := rfl
     have HNM : Hid (∀ x' : PartD, noMore x' = ((decide (x'.K = 2) || decide (x'.ts.length = 0)) && ((decide (x'.K = 3) || decide (x'.cs.length = 0)) && ((decide (x'.K = 4) || decide (x'.ps.length = 0)) && (decide (x'.K = 4 ∨ x'.K = 5 ∨ x'.K = 6) || decide (x'.B = 0)))))) := fun _ => rfl
     have HT := Hid.mk (And.intro t1 (And.intro t3 t4))
     have HU := Hid.mk (And.intro u1 (And.intro u3 u4))
     have HV := Hid.mk (And.intro v1 (And.intro v3 v4))
     rw [t1] at hs1
     rw [u1] at hs2
     rw [v1] at hs3
     have HX := Hid.mk hx
     have HAP := Hid.mk hap
     have HOP := Hid.mk hop
     have HOI := Hid.mk hoi
     have HDIS := Hid.mk hdis
     have HVL := Hid.mk hvl
     have b0w := blk_below b0 hbw
     have HBW1 := Hid.mk hbw
     clear t1 t3 t4 u1 u3 u4 v1 v3 v4 hx hap hop hoi hdis hvl hck hat hcx hc hsm hbw c1 b0
     obtain ⟨K, A, B, ts, zs, ps⟩ := x
     simp only [PartD.K, PartD.A, PartD.B, PartD.ts, PartD.cs, PartD.ps] at *
     obtain ⟨V, hV⟩ : ∃ V, V = wr.alloc (.cells #[.int .i64 K, .int .i64 A, .int .i64 B, .slice ta tn tc, .slice ca cn cc, .slice qa qn qc] 74) := ⟨_, rfl⟩
     have bV : Below wr.heap.size wr V := by rw [hV]; exact (Below.refl _ _).alloc (Nat.le_refl _) _
     have bo : V.heap[wr.heap.size]? = some (.cells #[.int .i64 K, .int .i64 A, .int .i64 B, .slice ta tn tc, .slice ca cn cc, .slice qa qn qc] 74 (0, 0)) := by rw [hV]; exact heap_alloc_new wr _
     have bv := blk_below b0w bV
     clear b0w
     go_wp2_with fail
     rw [← hV]
     clear hV
     refine (partOf_any K A B ta tn tc ca cn cc qa qn qc V).mono ?_
     rintro e w2 ⟨rfl, hb2⟩
     replace bo := blk_below bo hb2
     replace bv := blk_below bv hb2
     have HB2 : Hid (Below w1.heap.size w1 w2) := HBW1.out.trans ((bV.trans (hb2.mono bV.size)).mono zr)
     have z2 : wr.heap.size < w2.heap.size := (Array.getElem?_eq_some_iff.1 bo).1
     have HR2 : Hid (Below wr.heap.size wr w2) := bV.trans (hb2.mono bV.size)
     clear hb2 bV g0 g1 g2 g3 g4 g5
     by_cases hkind : 1 ≤ K ∧ K ≤ 7
     ·rcases kind_cases hkind with rfl | rfl | rfl | rfl | rfl | rfl | rfl
      ·have HIS' := HIS.out
       rw [partV_1] at HIS' ⊢
       have HISP := Hid.mk HIS'
       have HWP : Hid (widthP ss ah (1, A, B, ts, zs, ps) = numAt ss A) := widthP_1 rfl
       have HNMK : Hid (noMore (1, A, B, ts, zs, ps) = sameMore B 0 tn 0 cn 0 qn 0) := by
        show _ = _
        rw [HNM.out]
        simp [sameMore, HT.out.1, HU.out.1, HV.out.1]
       have s0 := blk_cell bv 0 (v := .slice sa sn sc) rfl
       have hmw := m_width_1 A
       have hma := m_asPart_1 A
       have HBE : Hid (Below w.heap.size w w2) := B1.trans (HB2.out.mono (by omega))
       have HATI : Hid (At w2 r' ah) := At.below (At.owned HOI.out) HR2.out
       have hkk : k ≤ 1048576 := by omega
       clear HIS' HIS hkind HNM
       go_wp2_with fail
       refine (w_sourcePart A sa sn sc ss r' k d' ah w2 HSZ.out hsn (At.below HSA.out HBE.out) HAI.out.1 (by omega) HATI.out).mono ?_
       rintro e w3 ⟨rfl, hb3⟩
       have bo3 := blk_below bo hb3
       have HR3 : Hid (Below wr.heap.size wr w3) := HR2.out.trans (hb3.mono HR2.out.size)
       have z3 := hb3.size
       clear bo bv hb3 s0 hmw HATI HBE
       have HBX : Below w.heap.size w w3.drew := (B1.trans ((HBW1.out.trans (HR3.out.mono zr)).mono (by omega))).drew
       obtain ⟨O, hO⟩ : ∃ O, numAt ss A = O := ⟨_, rfl⟩
       rw [hO] at HWP ⊢
       clear hO
       cases O with
       | none =>
        simp only [Option.getD_none, Option.isSome_none]
        have HN := Hid.mk (HNO.out (partW_no HWP.out))
        have HBY := Hid.mk HBX
        clear HBX
        go_upto_region 12 with fail
        refine wp_region_held_drew (S := fun w' => True) (by kernel_rfl) ?_ (fun hHeld => ?_)
        ·(try dsimp only)
         all_goals trivial
        refine tk 0 ?_
        refine tk 1 ?_
        refine tk 2 ?_
        refine tu 3 ?_
        refine tu 4 ?_
        refine tu 5 ?_
        refine tu 6 ?_
        refine tu 7 ?_
        refine tk 8 ?_
        refine wpAnyH_done (by kernel_rfl) ?_ _
        clear hHeld
        go_wp2
        exact bodyPost_ret (v := .tuple #[.slice none 0 0, .slice none 0 0, .bool false]) (by simp [results, Tryz.results30, go_sem]) rfl ⟨PartsRet.no HN.out, HBY.out⟩
       | some q =>
        simp only [Option.getD_some, Option.isSome_some]
        go_upto_region 12 with fail
        have o0 := blk_cell bo3 0 (v := .int .i64 1) rfl
        have o1 := blk_cell bo3 1 (v := .int .i64 A) rfl
        have o2 := blk_cell bo3 2 (v := .int .i64 B) rfl
        have o3 := blk_cell bo3 3 (v := .slice ta tn tc) rfl
        have o4 := blk_cell bo3 4 (v := .slice ca cn cc) rfl
        have o5 := blk_cell bo3 5 (v := .slice qa qn qc) rfl
        refine wp_region_held_drew (S := fun w' => w'.cell? ⟨wr.heap.size, 0, none⟩ = some (.int .i64 1) ∧ w'.cell? ⟨wr.heap.size, 1, none⟩ = some (.int .i64 A) ∧ w'.cell? ⟨wr.heap.size, 2, none⟩ = some (.int .i64 B) ∧ w'.cell? ⟨wr.heap.size, 3, none⟩ = some (.slice ta tn tc) ∧ w'.cell? ⟨wr.heap.size, 4, none⟩ = some (.slice ca cn cc) ∧ w'.cell? ⟨wr.heap.size, 5, none⟩ = some (.slice qa qn qc)) (by kernel_rfl) ?_ (fun hHeld => ?_)
        ·(try dsimp only)
         exact ⟨o0, o1, o2, o3, o4, o5⟩
        refine tk 0 ?_
        refine tk 1 ?_
        refine tk 2 ?_
        refine tk 3 ?_
        refine tk 4 ?_
        refine tr 5 (fun K hK => ?_)
        go_simp
        go_at_call 207; refine (p_sourcePart A _).mono ?_; rintro e w4 ⟨⟨ta4, tc4, ca4, cc4, pa4, pc4, rfl, ho4⟩, hb4⟩; have q0 := cell_later hb4 o0; have q1 := cell_later hb4 o1; have q2 := cell_later hb4 o2; have q3 := cell_later hb4 o3; have q4 := cell_later hb4 o4; have q5 := cell_later hb4 o5
        (try go_wp2_with fail)
        refine hK.out _ _ ?_ (fun hHeld' => ?_)
        ·(try dsimp only)
         exact ⟨q0, q1, q2, q3, q4, q5⟩
        clear hK K hHeld
        have hHeld := hHeld'
        clear hHeld'
        (try simp only [Act.put, List.setIfInBounds_toArray, List.set_cons_zero, List.set_cons_succ])
        refine tr 6 (fun K hK => ?_)
        go_simp
        go_at_call 70; refine (hasNoMore_any 1 A B ta tn tc ca cn cc qa qn qc _ _ _ _ _ _ _ _ _ _ _ _ w4).mono ?_; rintro e w5 ⟨rfl, hb5⟩; have y0 := cell_later hb5 q0; have y1 := cell_later hb5 q1; have y2 := cell_later hb5 q2; have y3 := cell_later hb5 q3; have y4 := cell_later hb5 q4; have y5 := cell_later hb5 q5
        (try go_wp2_with fail)
        refine hK.out _ _ ?_ (fun hHeld' => ?_)
        ·(try dsimp only)
         exact ⟨y0, y1, y2, y3, y4, y5⟩
        clear hK K hHeld
        have hHeld := hHeld'
        clear hHeld'
        (try simp only [Act.put, List.setIfInBounds_toArray, List.set_cons_zero, List.set_cons_succ])
        refine tk 7 ?_
        refine tk 8 ?_
        refine wpAnyH_done (by kernel_rfl) ?_ _
        have HR5 : Hid (Below wr.heap.size wr w5) := (HR3.out.drew.trans (hb4.mono (by have := HR3.out.size; simpa using this))).trans (hb5.mono (by have h1 := HR3.out.size; have h2 := hb4.size; simp at h2; omega))
        have HB5 : Hid (Below w.heap.size w w5) := B1.trans ((HBW1.out.trans (HR5.out.mono zr)).mono (by omega))
        have z5 : wr.heap.size ≤ w5.heap.size := HR5.out.size
        clear hb4 hb5 ho4 hHeld o0 o1 o2 o3 o4 o5 q0 q1 q2 q3 q4 q5 y0 y1 y2 y3 y4 y5 bo3 HBX hma
        simp only [PartD.B, PartD.ts, PartD.cs, PartD.ps, List.length_nil]
        obtain ⟨M, hM⟩ : ∃ M, sameMore B 0 tn 0 cn 0 qn 0 = M := ⟨_, rfl⟩
        rw [hM] at HNMK ⊢
        clear hM
        cases M with
        | false =>
         have HN := Hid.mk (HNO.out (by rw [HPW.out, if_neg (by rw [HNMK.out]; simp)]))
         go_wp2
         exact bodyPost_ret (v := .tuple #[.slice none 0 0, .slice none 0 0, .bool false]) (by simp [results, Tryz.results30, go_sem]) rfl ⟨PartsRet.no HN.out, HB5.out⟩
        | true =>
         have HN := Hid.mk (HYES.out q (by rw [HPW.out, if_pos HNMK.out, HWP.out]))
         have HOP5 := Hid.mk (owns_below HOP.out HR5.out)
         have HOI5 := Hid.mk (owns_below HOI.out HR5.out)
         have hkb : k ≤ 12 := by omega
         clear HOP HOI HNMK HPW HNO HYES HWP
         go_wp2_with (at_builtin; refine wpList_append_lies _ rfl (.tmp 60) (.tmp 62) 62 rfl w1.heap.size 110 j0 .nilIface 1 16 Tryz.underlying62 hj hy0 hy1 hy2 rfl (by decide) _ _ _ rfl (HOP5.out.alloc _) ⟨w5.heap.size, 0, none⟩ 1 1 [Value.iface 152 (.agg #[.int .i64 A])] rfl rfl (news_at w5 _ _) (by simp; rfl) (by decide) (by unfold maxLen; omega) (by omega) (by simp; omega) (w5.heap.size + 1) (by simp) ?_)
         intro g6 cap6 w6 ho6 hg6 hat6 hlt6
         have z6 : w5.heap.size < w6.heap.size := by have h1 := hg6.size; simp at h1; omega
         have HOI6 : Hid (w6.ownsRow w1.heap.size 3 1 (.slice r' k d') k (ah.map (.int .i64))) := (HOI5.out.alloc _).kept hg6 (by
          cases hv : (Value.slice r' k d').ownBlock with
          | none => exact .inl rfl
          | some b9 => exact .inr (fun e => HDIS.out b9 e.symm hv))
         have HD6 : Hid (∀ b, (Value.slice r' k d').ownBlock = some b → b ≠ g6 ∧ b < w5.heap.size) := fun b9 h9 => by
          have h1 := (HOI5.out.lt b9 h9).2
          refine ⟨fun e => ?_, h1⟩
          rcases hat6 with h2 | h2
          ·exact HDIS.out g6 h2 (e ▸ h9)
          ·omega
         have HR6 : Hid (Below w1.heap.size w1 w6) := ((HBW1.out.trans (HR5.out.mono zr)).alloc (by omega) _).grown hg6 (by simp; omega) (fun j hj => (HOP5.out.lt j hj).1)
         have HOP6 := Hid.mk ho6
         have hl6 := hlt6
         have zg6 : w1.heap.size ≤ g6 := (ho6.lt g6 rfl).1
         clear ho6 hg6 hat6 HOP5 HOI5 HDIS HR5 HB5
         go_wp2_with (at_builtin; refine wpList_append_lies _ rfl (.tmp 64) (.tmp 66) 23 rfl w1.heap.size 3 i0 (.int .i64 0) 1 8 Tryz.underlying23 hi hz0 hz1 hz2 rfl (by decide) _ _ _ rfl (HOI6.out.alloc _) ⟨w6.heap.size, 0, none⟩ 1 1 [.int .i64 q] rfl rfl (news_at w6 _ _) (by simp; rfl) (by decide) (by unfold maxLen; omega) (by omega) (by simp; omega) (w6.heap.size + 1) (by simp) ?_)
         intro g7 cap7 w7 ho7 hg7 hat7 hlt7
         have HOP7 : Hid (w7.ownsRow w1.heap.size 110 1 (.slice (some ⟨g6, 0, none⟩) (k + 1) cap6) (k + 1) (vs ++ [Value.iface 152 (.agg #[.int .i64 A])])) := (HOP6.out.alloc _).kept hg7 (.inr (fun e => (HD6.out g6 e.symm).1 rfl))
         have HD7 : Hid (∀ b, (Value.slice (some ⟨g6, 0, none⟩) (k + 1) cap6).ownBlock = some b → (Value.slice (some ⟨g7, 0, none⟩) (k + 1) cap7).ownBlock ≠ some b) := fun b9 h9 => by
          simp only [Value.ownBlock, Option.some.injEq] at h9 ⊢
          subst h9
          intro e
          simp only [Option.some.injEq] at e
          subst e
          rcases hat7 with h2 | h2
          ·exact (HD6.out _ h2).1 rfl
          ·have h3 := (HOP6.out.lt _ rfl).2
           omega
         have HR7 : Hid (Below w1.heap.size w1 w7) := (HR6.out.alloc (by omega) _).grown hg7 (by simp; omega) (fun j hj => (HOI6.out.lt j hj).1)
         have HOI7 : Hid (w7.ownsRow w1.heap.size 3 1 (.slice (some ⟨g7, 0, none⟩) (k + 1) cap7) (k + 1) ((ah ++ [q]).map (.int .i64))) := by rw [List.map_append]; exact ho7
         have HAP7 := Hid.mk (AreParts.push HAP.out HVL.out HX.out HISP.out)
         have HVL7 : Hid ((vs ++ [Value.iface 152 (.agg #[.int .i64 A])]).length = k + 1) := by show _ = _; rw [List.length_append, HVL.out]; rfl
         clear ho7 hg7 hat7 hlt7 hlt6 hl6
         go_wp2
         go_roundw
         case rel => exact ⟨k + 1, some ⟨g6, 0, none⟩, cap6, some ⟨g7, 0, none⟩, cap7, vs ++ [Value.iface 152 (.agg #[.int .i64 A])], ah ++ [q], by omega, by go_num, rfl, rfl, HN.out, HVL7.out, HAP7.out, HOP7.out, HOI7.out, HD7.out, HR7.out⟩
         case measure => simp [intOf]; omega
      ·have HIS' := HIS.out
       rw [partV_2] at HIS' ⊢
       have HISP := Hid.mk HIS'
       have HWP : Hid (widthP ss ah (2, A, B, ts, zs, ps) = selAt ah A ts) := widthP_2 rfl
       have HNMK : Hid (noMore (2, A, B, ts, zs, ps) = sameMore B 0 tn ts.length cn 0 qn 0) := by
        show _ = _
        rw [HNM.out]
        simp [sameMore, HT.out.1, HU.out.1, HV.out.1]
       have s0 := blk_cell bv 0 (v := .slice sa sn sc) rfl
       have hmw := m_width_2 A ta tn tc
       have hma := m_asPart_2 A ta tn tc
       have HBE : Hid (Below w.heap.size w w2) := B1.trans (HB2.out.mono (by omega))
       have HATI : Hid (At w2 r' ah) := At.below (At.owned HOI.out) HR2.out
       have hkk : k ≤ 1048576 := by omega
       clear HIS' HIS hkind HNM
       go_wp2_with fail
       refine (w_selectPart A ta tn tc ts sa sn sc r' k d' ah w2 HT.out.1 hs1 (AtE.below HT.out.2.1 HBE.out) HAI.out.1 (by omega) HATI.out HAI.out.2).mono ?_
       rintro e w3 ⟨rfl, hb3⟩
       have bo3 := blk_below bo hb3
       have HR3 : Hid (Below wr.heap.size wr w3) := HR2.out.trans (hb3.mono HR2.out.size)
       have z3 := hb3.size
       clear bo bv hb3 s0 hmw HATI HBE
       have HBX : Below w.heap.size w w3.drew := (B1.trans ((HBW1.out.trans (HR3.out.mono zr)).mono (by omega))).drew
       obtain ⟨O, hO⟩ : ∃ O, selAt ah A ts = O := ⟨_, rfl⟩
       rw [hO] at HWP ⊢
       clear hO
       cases O with
       | none =>
        simp only [Option.getD_none, Option.isSome_none]
        have HN := Hid.mk (HNO.out (partW_no HWP.out))
        have HBY := Hid.mk HBX
        clear HBX
        go_upto_region 12 with fail
        refine wp_region_held_drew (S := fun w' => True) (by kernel_rfl) ?_ (fun hHeld => ?_)
        ·(try dsimp only)
         all_goals trivial
        refine tk 0 ?_
        refine tk 1 ?_
        refine tk 2 ?_
        refine tu 3 ?_
        refine tu 4 ?_
        refine tu 5 ?_
        refine tu 6 ?_
        refine tu 7 ?_
        refine tk 8 ?_
        refine wpAnyH_done (by kernel_rfl) ?_ _
        clear hHeld
        go_wp2
        exact bodyPost_ret (v := .tuple #[.slice none 0 0, .slice none 0 0, .bool false]) (by simp [results, Tryz.results30, go_sem]) rfl ⟨PartsRet.no HN.out, HBY.out⟩
       | some q =>
        simp only [Option.getD_some, Option.isSome_some]
        go_upto_region 12 with fail
        have o0 := blk_cell bo3 0 (v := .int .i64 2) rfl
        have o1 := blk_cell bo3 1 (v := .int .i64 A) rfl
        have o2 := blk_cell bo3 2 (v := .int .i64 B) rfl
        have o3 := blk_cell bo3 3 (v := .slice ta tn tc) rfl
        have o4 := blk_cell bo3 4 (v := .slice ca cn cc) rfl
        have o5 := blk_cell bo3 5 (v := .slice qa qn qc) rfl
        refine wp_region_held_drew (S := fun w' => w'.cell? ⟨wr.heap.size, 0, none⟩ = some (.int .i64 2) ∧ w'.cell? ⟨wr.heap.size, 1, none⟩ = some (.int .i64 A) ∧ w'.cell? ⟨wr.heap.size, 2, none⟩ = some (.int .i64 B) ∧ w'.cell? ⟨wr.heap.size, 3, none⟩ = some (.slice ta tn tc) ∧ w'.cell? ⟨wr.heap.size, 4, none⟩ = some (.slice ca cn cc) ∧ w'.cell? ⟨wr.heap.size, 5, none⟩ = some (.slice qa qn qc)) (by kernel_rfl) ?_ (fun hHeld => ?_)
        ·(try dsimp only)
         exact ⟨o0, o1, o2, o3, o4, o5⟩
        refine tk 0 ?_
        refine tk 1 ?_
        refine tk 2 ?_
        refine tk 3 ?_
        refine tk 4 ?_
        refine tr 5 (fun K hK => ?_)
        go_simp
        go_at_call 210; refine (p_selectPart A ta tn tc ts _ HT.out.1 hs1 (AtE.below HT.out.2.1 HBX) HT.out.2.2).mono ?_; rintro e w4 ⟨⟨ta4, tc4, ca4, cc4, pa4, pc4, rfl, ho4⟩, hb4⟩; have q0 := cell_later hb4 o0; have q1 := cell_later hb4 o1; have q2 := cell_later hb4 o2; have q3 := cell_later hb4 o3; have q4 := cell_later hb4 o4; have q5 := cell_later hb4 o5
        (try go_wp2_with fail)
        refine hK.out _ _ ?_ (fun hHeld' => ?_)
        ·(try dsimp only)
         exact ⟨q0, q1, q2, q3, q4, q5⟩
        clear hK K hHeld
        have hHeld := hHeld'
        clear hHeld'
        (try simp only [Act.put, List.setIfInBounds_toArray, List.set_cons_zero, List.set_cons_succ])
        refine tr 6 (fun K hK => ?_)
        go_simp
        go_at_call 70; refine (hasNoMore_any 2 A B ta tn tc ca cn cc qa qn qc _ _ _ _ _ _ _ _ _ _ _ _ w4).mono ?_; rintro e w5 ⟨rfl, hb5⟩; have y0 := cell_later hb5 q0; have y1 := cell_later hb5 q1; have y2 := cell_later hb5 q2; have y3 := cell_later hb5 q3; have y4 := cell_later hb5 q4; have y5 := cell_later hb5 q5
        (try go_wp2_with fail)
        refine hK.out _ _ ?_ (fun hHeld' => ?_)
        ·(try dsimp only)
         exact ⟨y0, y1, y2, y3, y4, y5⟩
        clear hK K hHeld
        have hHeld := hHeld'
        clear hHeld'
        (try simp only [Act.put, List.setIfInBounds_toArray, List.set_cons_zero, List.set_cons_succ])
        refine tk 7 ?_
        refine tk 8 ?_
        refine wpAnyH_done (by kernel_rfl) ?_ _
        have HR5 : Hid (Below wr.heap.size wr w5) := (HR3.out.drew.trans (hb4.mono (by have := HR3.out.size; simpa using this))).trans (hb5.mono (by have h1 := HR3.out.size; have h2 := hb4.size; simp at h2; omega))
        have HB5 : Hid (Below w.heap.size w w5) := B1.trans ((HBW1.out.trans (HR5.out.mono zr)).mono (by omega))
        have z5 : wr.heap.size ≤ w5.heap.size := HR5.out.size
        clear hb4 hb5 ho4 hHeld o0 o1 o2 o3 o4 o5 q0 q1 q2 q3 q4 q5 y0 y1 y2 y3 y4 y5 bo3 HBX hma
        simp only [PartD.B, PartD.ts, PartD.cs, PartD.ps, List.length_nil]
        obtain ⟨M, hM⟩ : ∃ M, sameMore B 0 tn ts.length cn 0 qn 0 = M := ⟨_, rfl⟩
        rw [hM] at HNMK ⊢
        clear hM
        cases M with
        | false =>
         have HN := Hid.mk (HNO.out (by rw [HPW.out, if_neg (by rw [HNMK.out]; simp)]))
         go_wp2
         exact bodyPost_ret (v := .tuple #[.slice none 0 0, .slice none 0 0, .bool false]) (by simp [results, Tryz.results30, go_sem]) rfl ⟨PartsRet.no HN.out, HB5.out⟩
        | true =>
         have HN := Hid.mk (HYES.out q (by rw [HPW.out, if_pos HNMK.out, HWP.out]))
         have HOP5 := Hid.mk (owns_below HOP.out HR5.out)
         have HOI5 := Hid.mk (owns_below HOI.out HR5.out)
         have hkb : k ≤ 12 := by omega
         clear HOP HOI HNMK HPW HNO HYES HWP
         go_wp2_with (at_builtin; refine wpList_append_lies _ rfl (.tmp 60) (.tmp 62) 62 rfl w1.heap.size 110 j0 .nilIface 1 16 Tryz.underlying62 hj hy0 hy1 hy2 rfl (by decide) _ _ _ rfl (HOP5.out.alloc _) ⟨w5.heap.size, 0, none⟩ 1 1 [Value.iface 154 (.agg #[.int .i64 A, .slice ta tn tc])] rfl rfl (news_at w5 _ _) (by simp; rfl) (by decide) (by unfold maxLen; omega) (by omega) (by simp; omega) (w5.heap.size + 1) (by simp) ?_)
         intro g6 cap6 w6 ho6 hg6 hat6 hlt6
         have z6 : w5.heap.size < w6.heap.size := by have h1 := hg6.size; simp at h1; omega
         have HOI6 : Hid (w6.ownsRow w1.heap.size 3 1 (.slice r' k d') k (ah.map (.int .i64))) := (HOI5.out.alloc _).kept hg6 (by
          cases hv : (Value.slice r' k d').ownBlock with
          | none => exact .inl rfl
          | some b9 => exact .inr (fun e => HDIS.out b9 e.symm hv))
         have HD6 : Hid (∀ b, (Value.slice r' k d').ownBlock = some b → b ≠ g6 ∧ b < w5.heap.size) := fun b9 h9 => by
          have h1 := (HOI5.out.lt b9 h9).2
          refine ⟨fun e => ?_, h1⟩
          rcases hat6 with h2 | h2
          ·exact HDIS.out g6 h2 (e ▸ h9)
          ·omega
         have HR6 : Hid (Below w1.heap.size w1 w6) := ((HBW1.out.trans (HR5.out.mono zr)).alloc (by omega) _).grown hg6 (by simp; omega) (fun j hj => (HOP5.out.lt j hj).1)
         have HOP6 := Hid.mk ho6
         have hl6 := hlt6
         have zg6 : w1.heap.size ≤ g6 := (ho6.lt g6 rfl).1
         clear ho6 hg6 hat6 HOP5 HOI5 HDIS HR5 HB5
         go_wp2_with (at_builtin; refine wpList_append_lies _ rfl (.tmp 64) (.tmp 66) 23 rfl w1.heap.size 3 i0 (.int .i64 0) 1 8 Tryz.underlying23 hi hz0 hz1 hz2 rfl (by decide) _ _ _ rfl (HOI6.out.alloc _) ⟨w6.heap.size, 0, none⟩ 1 1 [.int .i64 q] rfl rfl (news_at w6 _ _) (by simp; rfl) (by decide) (by unfold maxLen; omega) (by omega) (by simp; omega) (w6.heap.size + 1) (by simp) ?_)
         intro g7 cap7 w7 ho7 hg7 hat7 hlt7
         have HOP7 : Hid (w7.ownsRow w1.heap.size 110 1 (.slice (some ⟨g6, 0, none⟩) (k + 1) cap6) (k + 1) (vs ++ [Value.iface 154 (.agg #[.int .i64 A, .slice ta tn tc])])) := (HOP6.out.alloc _).kept hg7 (.inr (fun e => (HD6.out g6 e.symm).1 rfl))
         have HD7 : Hid (∀ b, (Value.slice (some ⟨g6, 0, none⟩) (k + 1) cap6).ownBlock = some b → (Value.slice (some ⟨g7, 0, none⟩) (k + 1) cap7).ownBlock ≠ some b) := fun b9 h9 => by
          simp only [Value.ownBlock, Option.some.injEq] at h9 ⊢
          subst h9
          intro e
          simp only [Option.some.injEq] at e
          subst e
          rcases hat7 with h2 | h2
          ·exact (HD6.out _ h2).1 rfl
          ·have h3 := (HOP6.out.lt _ rfl).2
           omega
         have HR7 : Hid (Below w1.heap.size w1 w7) := (HR6.out.alloc (by omega) _).grown hg7 (by simp; omega) (fun j hj => (HOI6.out.lt j hj).1)
         have HOI7 : Hid (w7.ownsRow w1.heap.size 3 1 (.slice (some ⟨g7, 0, none⟩) (k + 1) cap7) (k + 1) ((ah ++ [q]).map (.int .i64))) := by rw [List.map_append]; exact ho7
         have HAP7 := Hid.mk (AreParts.push HAP.out HVL.out HX.out HISP.out)
         have HVL7 : Hid ((vs ++ [Value.iface 154 (.agg #[.int .i64 A, .slice ta tn tc])]).length = k + 1) := by show _ = _; rw [List.length_append, HVL.out]; rfl
         clear ho7 hg7 hat7 hlt7 hlt6 hl6
         go_wp2
         go_roundw
         case rel => exact ⟨k + 1, some ⟨g6, 0, none⟩, cap6, some ⟨g7, 0, none⟩, cap7, vs ++ [Value.iface 154 (.agg #[.int .i64 A, .slice ta tn tc])], ah ++ [q], by omega, by go_num, rfl, rfl, HN.out, HVL7.out, HAP7.out, HOP7.out, HOI7.out, HD7.out, HR7.out⟩
         case measure => simp [intOf]; omega
      ·have HIS' := HIS.out
       rw [partV_3] at HIS' ⊢
       have HISP := Hid.mk HIS'
       have HWP : Hid (widthP ss ah (3, A, B, ts, zs, ps) = prjAt ah A zs) := widthP_3 rfl
       have HNMK : Hid (noMore (3, A, B, ts, zs, ps) = sameMore B 0 tn 0 cn zs.length qn 0) := by
        show _ = _
        rw [HNM.out]
        simp [sameMore, HT.out.1, HU.out.1, HV.out.1]
       have s0 := blk_cell bv 0 (v := .slice sa sn sc) rfl
       have hmw := m_width_3 A ca cn cc
       have hma := m_asPart_3 A ca cn cc
       have HBE : Hid (Below w.heap.size w w2) := B1.trans (HB2.out.mono (by omega))
       have HATI : Hid (At w2 r' ah) := At.below (At.owned HOI.out) HR2.out
       have hkk : k ≤ 1048576 := by omega
       clear HIS' HIS hkind HNM
       go_wp2_with fail
       refine (w_projectPart A ca cn cc zs sa sn sc r' k d' ah w2 HU.out.1 hs2 (At.below HU.out.2.1 HBE.out) HAI.out.1 (by omega) HATI.out HAI.out.2).mono ?_
       rintro e w3 ⟨rfl, hb3⟩
       have bo3 := blk_below bo hb3
       have HR3 : Hid (Below wr.heap.size wr w3) := HR2.out.trans (hb3.mono HR2.out.size)
       have z3 := hb3.size
       clear bo bv hb3 s0 hmw HATI HBE
       have HBX : Below w.heap.size w w3.drew := (B1.trans ((HBW1.out.trans (HR3.out.mono zr)).mono (by omega))).drew
       obtain ⟨O, hO⟩ : ∃ O, prjAt ah A zs = O := ⟨_, rfl⟩
       rw [hO] at HWP ⊢
       clear hO
       cases O with
       | none =>
        simp only [Option.getD_none, Option.isSome_none]
        have HN := Hid.mk (HNO.out (partW_no HWP.out))
        have HBY := Hid.mk HBX
        clear HBX
        go_upto_region 12 with fail
        refine wp_region_held_drew (S := fun w' => True) (by kernel_rfl) ?_ (fun hHeld => ?_)
        ·(try dsimp only)
         all_goals trivial
        refine tk 0 ?_
        refine tk 1 ?_
        refine tk 2 ?_
        refine tu 3 ?_
        refine tu 4 ?_
        refine tu 5 ?_
        refine tu 6 ?_
        refine tu 7 ?_
        refine tk 8 ?_
        refine wpAnyH_done (by kernel_rfl) ?_ _
        clear hHeld
        go_wp2
        exact bodyPost_ret (v := .tuple #[.slice none 0 0, .slice none 0 0, .bool false]) (by simp [results, Tryz.results30, go_sem]) rfl ⟨PartsRet.no HN.out, HBY.out⟩
       | some q =>
        simp only [Option.getD_some, Option.isSome_some]
        go_upto_region 12 with fail
        have o0 := blk_cell bo3 0 (v := .int .i64 3) rfl
        have o1 := blk_cell bo3 1 (v := .int .i64 A) rfl
        have o2 := blk_cell bo3 2 (v := .int .i64 B) rfl
        have o3 := blk_cell bo3 3 (v := .slice ta tn tc) rfl
        have o4 := blk_cell bo3 4 (v := .slice ca cn cc) rfl
        have o5 := blk_cell bo3 5 (v := .slice qa qn qc) rfl
        refine wp_region_held_drew (S := fun w' => w'.cell? ⟨wr.heap.size, 0, none⟩ = some (.int .i64 3) ∧ w'.cell? ⟨wr.heap.size, 1, none⟩ = some (.int .i64 A) ∧ w'.cell? ⟨wr.heap.size, 2, none⟩ = some (.int .i64 B) ∧ w'.cell? ⟨wr.heap.size, 3, none⟩ = some (.slice ta tn tc) ∧ w'.cell? ⟨wr.heap.size, 4, none⟩ = some (.slice ca cn cc) ∧ w'.cell? ⟨wr.heap.size, 5, none⟩ = some (.slice qa qn qc)) (by kernel_rfl) ?_ (fun hHeld => ?_)
        ·(try dsimp only)
         exact ⟨o0, o1, o2, o3, o4, o5⟩
        refine tk 0 ?_
        refine tk 1 ?_
        refine tk 2 ?_
        refine tk 3 ?_
        refine tk 4 ?_
        refine tr 5 (fun K hK => ?_)
        go_simp
        go_at_call 212; refine (p_projectPart A ca cn cc zs _ HU.out.1 hs2 (At.below HU.out.2.1 HBX) HU.out.2.2).mono ?_; rintro e w4 ⟨⟨ta4, tc4, ca4, cc4, pa4, pc4, rfl, ho4⟩, hb4⟩; have q0 := cell_later hb4 o0; have q1 := cell_later hb4 o1; have q2 := cell_later hb4 o2; have q3 := cell_later hb4 o3; have q4 := cell_later hb4 o4; have q5 := cell_later hb4 o5
        (try go_wp2_with fail)
        refine hK.out _ _ ?_ (fun hHeld' => ?_)
        ·(try dsimp only)
         exact ⟨q0, q1, q2, q3, q4, q5⟩
        clear hK K hHeld
        have hHeld := hHeld'
        clear hHeld'
        (try simp only [Act.put, List.setIfInBounds_toArray, List.set_cons_zero, List.set_cons_succ])
        refine tr 6 (fun K hK => ?_)
        go_simp
        go_at_call 70; refine (hasNoMore_any 3 A B ta tn tc ca cn cc qa qn qc _ _ _ _ _ _ _ _ _ _ _ _ w4).mono ?_; rintro e w5 ⟨rfl, hb5⟩; have y0 := cell_later hb5 q0; have y1 := cell_later hb5 q1; have y2 := cell_later hb5 q2; have y3 := cell_later hb5 q3; have y4 := cell_later hb5 q4; have y5 := cell_later hb5 q5
        (try go_wp2_with fail)
        refine hK.out _ _ ?_ (fun hHeld' => ?_)
        ·(try dsimp only)
         exact ⟨y0, y1, y2, y3, y4, y5⟩
        clear hK K hHeld
        have hHeld := hHeld'
        clear hHeld'
        (try simp only [Act.put, List.setIfInBounds_toArray, List.set_cons_zero, List.set_cons_succ])
        refine tk 7 ?_
        refine tk 8 ?_
        refine wpAnyH_done (by kernel_rfl) ?_ _
        have HR5 : Hid (Below wr.heap.size wr w5) := (HR3.out.drew.trans (hb4.mono (by have := HR3.out.size; simpa using this))).trans (hb5.mono (by have h1 := HR3.out.size; have h2 := hb4.size; simp at h2; omega))
        have HB5 : Hid (Below w.heap.size w w5) := B1.trans ((HBW1.out.trans (HR5.out.mono zr)).mono (by omega))
        have z5 : wr.heap.size ≤ w5.heap.size := HR5.out.size
        clear hb4 hb5 ho4 hHeld o0 o1 o2 o3 o4 o5 q0 q1 q2 q3 q4 q5 y0 y1 y2 y3 y4 y5 bo3 HBX hma
        simp only [PartD.B, PartD.ts, PartD.cs, PartD.ps, List.length_nil]
        obtain ⟨M, hM⟩ : ∃ M, sameMore B 0 tn 0 cn zs.length qn 0 = M := ⟨_, rfl⟩
        rw [hM] at HNMK ⊢
        clear hM
        cases M with
        | false =>
         have HN := Hid.mk (HNO.out (by rw [HPW.out, if_neg (by rw [HNMK.out]; simp)]))
         go_wp2
         exact bodyPost_ret (v := .tuple #[.slice none 0 0, .slice none 0 0, .bool false]) (by simp [results, Tryz.results30, go_sem]) rfl ⟨PartsRet.no HN.out, HB5.out⟩
        | true =>
         have HN := Hid.mk (HYES.out q (by rw [HPW.out, if_pos HNMK.out, HWP.out]))
         have HOP5 := Hid.mk (owns_below HOP.out HR5.out)
         have HOI5 := Hid.mk (owns_below HOI.out HR5.out)
         have hkb : k ≤ 12 := by omega
         clear HOP HOI HNMK HPW HNO HYES HWP
         go_wp2_with (at_builtin; refine wpList_append_lies _ rfl (.tmp 60) (.tmp 62) 62 rfl w1.heap.size 110 j0 .nilIface 1 16 Tryz.underlying62 hj hy0 hy1 hy2 rfl (by decide) _ _ _ rfl (HOP5.out.alloc _) ⟨w5.heap.size, 0, none⟩ 1 1 [Value.iface 156 (.agg #[.int .i64 A, .slice ca cn cc])] rfl rfl (news_at w5 _ _) (by simp; rfl) (by decide) (by unfold maxLen; omega) (by omega) (by simp; omega) (w5.heap.size + 1) (by simp) ?_)
         intro g6 cap6 w6 ho6 hg6 hat6 hlt6
         have z6 : w5.heap.size < w6.heap.size := by have h1 := hg6.size; simp at h1; omega
         have HOI6 : Hid (w6.ownsRow w1.heap.size 3 1 (.slice r' k d') k (ah.map (.int .i64))) := (HOI5.out.alloc _).kept hg6 (by
          cases hv : (Value.slice r' k d').ownBlock with
          | none => exact .inl rfl
          | some b9 => exact .inr (fun e => HDIS.out b9 e.symm hv))
         have HD6 : Hid (∀ b, (Value.slice r' k d').ownBlock = some b → b ≠ g6 ∧ b < w5.heap.size) := fun b9 h9 => by
          have h1 := (HOI5.out.lt b9 h9).2
          refine ⟨fun e => ?_, h1⟩
          rcases hat6 with h2 | h2
          ·exact HDIS.out g6 h2 (e ▸ h9)
          ·omega
         have HR6 : Hid (Below w1.heap.size w1 w6) := ((HBW1.out.trans (HR5.out.mono zr)).alloc (by omega) _).grown hg6 (by simp; omega) (fun j hj => (HOP5.out.lt j hj).1)
         have HOP6 := Hid.mk ho6
         have hl6 := hlt6
         have zg6 : w1.heap.size ≤ g6 := (ho6.lt g6 rfl).1
         clear ho6 hg6 hat6 HOP5 HOI5 HDIS HR5 HB5
         go_wp2_with (at_builtin; refine wpList_append_lies _ rfl (.tmp 64) (.tmp 66) 23 rfl w1.heap.size 3 i0 (.int .i64 0) 1 8 Tryz.underlying23 hi hz0 hz1 hz2 rfl (by decide) _ _ _ rfl (HOI6.out.alloc _) ⟨w6.heap.size, 0, none⟩ 1 1 [.int .i64 q] rfl rfl (news_at w6 _ _) (by simp; rfl) (by decide) (by unfold maxLen; omega) (by omega) (by simp; omega) (w6.heap.size + 1) (by simp) ?_)
         intro g7 cap7 w7 ho7 hg7 hat7 hlt7
         have HOP7 : Hid (w7.ownsRow w1.heap.size 110 1 (.slice (some ⟨g6, 0, none⟩) (k + 1) cap6) (k + 1) (vs ++ [Value.iface 156 (.agg #[.int .i64 A, .slice ca cn cc])])) := (HOP6.out.alloc _).kept hg7 (.inr (fun e => (HD6.out g6 e.symm).1 rfl))
         have HD7 : Hid (∀ b, (Value.slice (some ⟨g6, 0, none⟩) (k + 1) cap6).ownBlock = some b → (Value.slice (some ⟨g7, 0, none⟩) (k + 1) cap7).ownBlock ≠ some b) := fun b9 h9 => by
          simp only [Value.ownBlock, Option.some.injEq] at h9 ⊢
          subst h9
          intro e
          simp only [Option.some.injEq] at e
          subst e
          rcases hat7 with h2 | h2
          ·exact (HD6.out _ h2).1 rfl
          ·have h3 := (HOP6.out.lt _ rfl).2
           omega
         have HR7 : Hid (Below w1.heap.size w1 w7) := (HR6.out.alloc (by omega) _).grown hg7 (by simp; omega) (fun j hj => (HOI6.out.lt j hj).1)
         have HOI7 : Hid (w7.ownsRow w1.heap.size 3 1 (.slice (some ⟨g7, 0, none⟩) (k + 1) cap7) (k + 1) ((ah ++ [q]).map (.int .i64))) := by rw [List.map_append]; exact ho7
         have HAP7 := Hid.mk (AreParts.push HAP.out HVL.out HX.out HISP.out)
         have HVL7 : Hid ((vs ++ [Value.iface 156 (.agg #[.int .i64 A, .slice ca cn cc])]).length = k + 1) := by show _ = _; rw [List.length_append, HVL.out]; rfl
         clear ho7 hg7 hat7 hlt7 hlt6 hl6
         go_wp2
         go_roundw
         case rel => exact ⟨k + 1, some ⟨g6, 0, none⟩, cap6, some ⟨g7, 0, none⟩, cap7, vs ++ [Value.iface 156 (.agg #[.int .i64 A, .slice ca cn cc])], ah ++ [q], by omega, by go_num, rfl, rfl, HN.out, HVL7.out, HAP7.out, HOP7.out, HOI7.out, HD7.out, HR7.out⟩
         case measure => simp [intOf]; omega
      ·have HIS' := HIS.out
       rw [partV_4] at HIS' ⊢
       have HISP := Hid.mk HIS'
       have HWP : Hid (widthP ss ah (4, A, B, ts, zs, ps) = jonAt ah A B ps) := widthP_4 rfl
       have HNMK : Hid (noMore (4, A, B, ts, zs, ps) = sameMore B B tn 0 cn 0 qn ps.length) := by
        show _ = _
        rw [HNM.out]
        simp [sameMore, HT.out.1, HU.out.1, HV.out.1]
       have s0 := blk_cell bv 0 (v := .slice sa sn sc) rfl
       have hmw := m_width_4 A B qa qn qc
       have hma := m_asPart_4 A B qa qn qc
       have HBE : Hid (Below w.heap.size w w2) := B1.trans (HB2.out.mono (by omega))
       have HATI : Hid (At w2 r' ah) := At.below (At.owned HOI.out) HR2.out
       have hkk : k ≤ 1048576 := by omega
       clear HIS' HIS hkind HNM
       go_wp2_with fail
       refine (w_joinPart A B qa qn qc ps sa sn sc r' k d' ah w2 HV.out.1 hs3 (AtS.below (atSl_ints HV.out.2.1) HBE.out) HAI.out.1 (by omega) HATI.out HAI.out.2).mono ?_
       rintro e w3 ⟨rfl, hb3⟩
       have bo3 := blk_below bo hb3
       have HR3 : Hid (Below wr.heap.size wr w3) := HR2.out.trans (hb3.mono HR2.out.size)
       have z3 := hb3.size
       clear bo bv hb3 s0 hmw HATI HBE
       have HBX : Below w.heap.size w w3.drew := (B1.trans ((HBW1.out.trans (HR3.out.mono zr)).mono (by omega))).drew
       obtain ⟨O, hO⟩ : ∃ O, jonAt ah A B ps = O := ⟨_, rfl⟩
       rw [hO] at HWP ⊢
       clear hO
       cases O with
       | none =>
        simp only [Option.getD_none, Option.isSome_none]
        have HN := Hid.mk (HNO.out (partW_no HWP.out))
        have HBY := Hid.mk HBX
        clear HBX
        go_upto_region 12 with fail
        refine wp_region_held_drew (S := fun w' => True) (by kernel_rfl) ?_ (fun hHeld => ?_)
        ·(try dsimp only)
         all_goals trivial
        refine tk 0 ?_
        refine tk 1 ?_
        refine tk 2 ?_
        refine tu 3 ?_
        refine tu 4 ?_
        refine tu 5 ?_
        refine tu 6 ?_
        refine tu 7 ?_
        refine tk 8 ?_
        refine wpAnyH_done (by kernel_rfl) ?_ _
        clear hHeld
        go_wp2
        exact bodyPost_ret (v := .tuple #[.slice none 0 0, .slice none 0 0, .bool false]) (by simp [results, Tryz.results30, go_sem]) rfl ⟨PartsRet.no HN.out, HBY.out⟩
       | some q =>
        simp only [Option.getD_some, Option.isSome_some]
        go_upto_region 12 with fail
        have o0 := blk_cell bo3 0 (v := .int .i64 4) rfl
        have o1 := blk_cell bo3 1 (v := .int .i64 A) rfl
        have o2 := blk_cell bo3 2 (v := .int .i64 B) rfl
        have o3 := blk_cell bo3 3 (v := .slice ta tn tc) rfl
        have o4 := blk_cell bo3 4 (v := .slice ca cn cc) rfl
        have o5 := blk_cell bo3 5 (v := .slice qa qn qc) rfl
        refine wp_region_held_drew (S := fun w' => w'.cell? ⟨wr.heap.size, 0, none⟩ = some (.int .i64 4) ∧ w'.cell? ⟨wr.heap.size, 1, none⟩ = some (.int .i64 A) ∧ w'.cell? ⟨wr.heap.size, 2, none⟩ = some (.int .i64 B) ∧ w'.cell? ⟨wr.heap.size, 3, none⟩ = some (.slice ta tn tc) ∧ w'.cell? ⟨wr.heap.size, 4, none⟩ = some (.slice ca cn cc) ∧ w'.cell? ⟨wr.heap.size, 5, none⟩ = some (.slice qa qn qc)) (by kernel_rfl) ?_ (fun hHeld => ?_)
        ·(try dsimp only)
         exact ⟨o0, o1, o2, o3, o4, o5⟩
        refine tk 0 ?_
        refine tk 1 ?_
        refine tk 2 ?_
        refine tk 3 ?_
        refine tk 4 ?_
        refine tr 5 (fun K hK => ?_)
        go_simp
        go_at_call 214; refine (p_joinPart A B qa qn qc ps _ HV.out.1 hs3 HE.out (HV.out.2.1.below HBX)).mono ?_; rintro e w4 ⟨⟨ta4, tc4, ca4, cc4, pa4, pc4, rfl, ho4⟩, hb4⟩; have q0 := cell_later hb4 o0; have q1 := cell_later hb4 o1; have q2 := cell_later hb4 o2; have q3 := cell_later hb4 o3; have q4 := cell_later hb4 o4; have q5 := cell_later hb4 o5
        (try go_wp2_with fail)
        refine hK.out _ _ ?_ (fun hHeld' => ?_)
        ·(try dsimp only)
         exact ⟨q0, q1, q2, q3, q4, q5⟩
        clear hK K hHeld
        have hHeld := hHeld'
        clear hHeld'
        (try simp only [Act.put, List.setIfInBounds_toArray, List.set_cons_zero, List.set_cons_succ])
        refine tr 6 (fun K hK => ?_)
        go_simp
        go_at_call 70; refine (hasNoMore_any 4 A B ta tn tc ca cn cc qa qn qc _ _ _ _ _ _ _ _ _ _ _ _ w4).mono ?_; rintro e w5 ⟨rfl, hb5⟩; have y0 := cell_later hb5 q0; have y1 := cell_later hb5 q1; have y2 := cell_later hb5 q2; have y3 := cell_later hb5 q3; have y4 := cell_later hb5 q4; have y5 := cell_later hb5 q5
        (try go_wp2_with fail)
        refine hK.out _ _ ?_ (fun hHeld' => ?_)
        ·(try dsimp only)
         exact ⟨y0, y1, y2, y3, y4, y5⟩
        clear hK K hHeld
        have hHeld := hHeld'
        clear hHeld'
        (try simp only [Act.put, List.setIfInBounds_toArray, List.set_cons_zero, List.set_cons_succ])
        refine tk 7 ?_
        refine tk 8 ?_
        refine wpAnyH_done (by kernel_rfl) ?_ _
        have HR5 : Hid (Below wr.heap.size wr w5) := (HR3.out.drew.trans (hb4.mono (by have := HR3.out.size; simpa using this))).trans (hb5.mono (by have h1 := HR3.out.size; have h2 := hb4.size; simp at h2; omega))
        have HB5 : Hid (Below w.heap.size w w5) := B1.trans ((HBW1.out.trans (HR5.out.mono zr)).mono (by omega))
        have z5 : wr.heap.size ≤ w5.heap.size := HR5.out.size
        clear hb4 hb5 ho4 hHeld o0 o1 o2 o3 o4 o5 q0 q1 q2 q3 q4 q5 y0 y1 y2 y3 y4 y5 bo3 HBX hma
        simp only [PartD.B, PartD.ts, PartD.cs, PartD.ps, List.length_nil]
        obtain ⟨M, hM⟩ : ∃ M, sameMore B B tn 0 cn 0 qn ps.length = M := ⟨_, rfl⟩
        rw [hM] at HNMK ⊢
        clear hM
        cases M with
        | false =>
         have HN := Hid.mk (HNO.out (by rw [HPW.out, if_neg (by rw [HNMK.out]; simp)]))
         go_wp2
         exact bodyPost_ret (v := .tuple #[.slice none 0 0, .slice none 0 0, .bool false]) (by simp [results, Tryz.results30, go_sem]) rfl ⟨PartsRet.no HN.out, HB5.out⟩
        | true =>
         have HN := Hid.mk (HYES.out q (by rw [HPW.out, if_pos HNMK.out, HWP.out]))
         have HOP5 := Hid.mk (owns_below HOP.out HR5.out)
         have HOI5 := Hid.mk (owns_below HOI.out HR5.out)
         have hkb : k ≤ 12 := by omega
         clear HOP HOI HNMK HPW HNO HYES HWP
         go_wp2_with (at_builtin; refine wpList_append_lies _ rfl (.tmp 60) (.tmp 62) 62 rfl w1.heap.size 110 j0 .nilIface 1 16 Tryz.underlying62 hj hy0 hy1 hy2 rfl (by decide) _ _ _ rfl (HOP5.out.alloc _) ⟨w5.heap.size, 0, none⟩ 1 1 [Value.iface 158 (.agg #[.int .i64 A, .int .i64 B, .slice qa qn qc])] rfl rfl (news_at w5 _ _) (by simp; rfl) (by decide) (by unfold maxLen; omega) (by omega) (by simp; omega) (w5.heap.size + 1) (by simp) ?_)
         intro g6 cap6 w6 ho6 hg6 hat6 hlt6
         have z6 : w5.heap.size < w6.heap.size := by have h1 := hg6.size; simp at h1; omega
         have HOI6 : Hid (w6.ownsRow w1.heap.size 3 1 (.slice r' k d') k (ah.map (.int .i64))) := (HOI5.out.alloc _).kept hg6 (by
          cases hv : (Value.slice r' k d').ownBlock with
          | none => exact .inl rfl
          | some b9 => exact .inr (fun e => HDIS.out b9 e.symm hv))
         have HD6 : Hid (∀ b, (Value.slice r' k d').ownBlock = some b → b ≠ g6 ∧ b < w5.heap.size) := fun b9 h9 => by
          have h1 := (HOI5.out.lt b9 h9).2
          refine ⟨fun e => ?_, h1⟩
          rcases hat6 with h2 | h2
          ·exact HDIS.out g6 h2 (e ▸ h9)
          ·omega
         have HR6 : Hid (Below w1.heap.size w1 w6) := ((HBW1.out.trans (HR5.out.mono zr)).alloc (by omega) _).grown hg6 (by simp; omega) (fun j hj => (HOP5.out.lt j hj).1)
         have HOP6 := Hid.mk ho6
         have hl6 := hlt6
         have zg6 : w1.heap.size ≤ g6 := (ho6.lt g6 rfl).1
         clear ho6 hg6 hat6 HOP5 HOI5 HDIS HR5 HB5
         go_wp2_with (at_builtin; refine wpList_append_lies _ rfl (.tmp 64) (.tmp 66) 23 rfl w1.heap.size 3 i0 (.int .i64 0) 1 8 Tryz.underlying23 hi hz0 hz1 hz2 rfl (by decide) _ _ _ rfl (HOI6.out.alloc _) ⟨w6.heap.size, 0, none⟩ 1 1 [.int .i64 q] rfl rfl (news_at w6 _ _) (by simp; rfl) (by decide) (by unfold maxLen; omega) (by omega) (by simp; omega) (w6.heap.size + 1) (by simp) ?_)
         intro g7 cap7 w7 ho7 hg7 hat7 hlt7
         have HOP7 : Hid (w7.ownsRow w1.heap.size 110 1 (.slice (some ⟨g6, 0, none⟩) (k + 1) cap6) (k + 1) (vs ++ [Value.iface 158 (.agg #[.int .i64 A, .int .i64 B, .slice qa qn qc])])) := (HOP6.out.alloc _).kept hg7 (.inr (fun e => (HD6.out g6 e.symm).1 rfl))
         have HD7 : Hid (∀ b, (Value.slice (some ⟨g6, 0, none⟩) (k + 1) cap6).ownBlock = some b → (Value.slice (some ⟨g7, 0, none⟩) (k + 1) cap7).ownBlock ≠ some b) := fun b9 h9 => by
          simp only [Value.ownBlock, Option.some.injEq] at h9 ⊢
          subst h9
          intro e
          simp only [Option.some.injEq] at e
          subst e
          rcases hat7 with h2 | h2
          ·exact (HD6.out _ h2).1 rfl
          ·have h3 := (HOP6.out.lt _ rfl).2
           omega
         have HR7 : Hid (Below w1.heap.size w1 w7) := (HR6.out.alloc (by omega) _).grown hg7 (by simp; omega) (fun j hj => (HOI6.out.lt j hj).1)
         have HOI7 : Hid (w7.ownsRow w1.heap.size 3 1 (.slice (some ⟨g7, 0, none⟩) (k + 1) cap7) (k + 1) ((ah ++ [q]).map (.int .i64))) := by rw [List.map_append]; exact ho7
         have HAP7 := Hid.mk (AreParts.push HAP.out HVL.out HX.out HISP.out)
         have HVL7 : Hid ((vs ++ [Value.iface 158 (.agg #[.int .i64 A, .int .i64 B, .slice qa qn qc])]).length = k + 1) := by show _ = _; rw [List.length_append, HVL.out]; rfl
         clear ho7 hg7 hat7 hlt7 hlt6 hl6
         go_wp2
         go_roundw
         case rel => exact ⟨k + 1, some ⟨g6, 0, none⟩, cap6, some ⟨g7, 0, none⟩, cap7, vs ++ [Value.iface 158 (.agg #[.int .i64 A, .int .i64 B, .slice qa qn qc])], ah ++ [q], by omega, by go_num, rfl, rfl, HN.out, HVL7.out, HAP7.out, HOP7.out, HOI7.out, HD7.out, HR7.out⟩
         case measure => simp [intOf]; omega
      ·have HIS' := HIS.out
       rw [partV_5] at HIS' ⊢
       have HISP := Hid.mk HIS'
       have HWP : Hid (widthP ss ah (5, A, B, ts, zs, ps) = twoAt ah A B) := widthP_5 rfl
       have HNMK : Hid (noMore (5, A, B, ts, zs, ps) = sameMore B B tn 0 cn 0 qn 0) := by
        show _ = _
        rw [HNM.out]
        simp [sameMore, HT.out.1, HU.out.1, HV.out.1]
       have s0 := blk_cell bv 0 (v := .slice sa sn sc) rfl
       have hmw := m_width_5 A B
       have hma := m_asPart_5 A B
       have HBE : Hid (Below w.heap.size w w2) := B1.trans (HB2.out.mono (by omega))
       have HATI : Hid (At w2 r' ah) := At.below (At.owned HOI.out) HR2.out
       have hkk : k ≤ 1048576 := by omega
       clear HIS' HIS hkind HNM
       go_wp2_with fail
       refine (w_unionPart A B sa sn sc ss r' k d' ah w2 HSZ.out hsn (At.below HSA.out HBE.out) HAI.out.1 (by omega) HATI.out).mono ?_
       rintro e w3 ⟨rfl, hb3⟩
       have bo3 := blk_below bo hb3
       have HR3 : Hid (Below wr.heap.size wr w3) := HR2.out.trans (hb3.mono HR2.out.size)
       have z3 := hb3.size
       clear bo bv hb3 s0 hmw HATI HBE
       have HBX : Below w.heap.size w w3.drew := (B1.trans ((HBW1.out.trans (HR3.out.mono zr)).mono (by omega))).drew
       obtain ⟨O, hO⟩ : ∃ O, twoAt ah A B = O := ⟨_, rfl⟩
       rw [hO] at HWP ⊢
       clear hO
       cases O with
       | none =>
        simp only [Option.getD_none, Option.isSome_none]
        have HN := Hid.mk (HNO.out (partW_no HWP.out))
        have HBY := Hid.mk HBX
        clear HBX
        go_upto_region 12 with fail
        refine wp_region_held_drew (S := fun w' => True) (by kernel_rfl) ?_ (fun hHeld => ?_)
        ·(try dsimp only)
         all_goals trivial
        refine tk 0 ?_
        refine tk 1 ?_
        refine tk 2 ?_
        refine tu 3 ?_
        refine tu 4 ?_
        refine tu 5 ?_
        refine tu 6 ?_
        refine tu 7 ?_
        refine tk 8 ?_
        refine wpAnyH_done (by kernel_rfl) ?_ _
        clear hHeld
        go_wp2
        exact bodyPost_ret (v := .tuple #[.slice none 0 0, .slice none 0 0, .bool false]) (by simp [results, Tryz.results30, go_sem]) rfl ⟨PartsRet.no HN.out, HBY.out⟩
       | some q =>
        simp only [Option.getD_some, Option.isSome_some]
        go_upto_region 12 with fail
        have o0 := blk_cell bo3 0 (v := .int .i64 5) rfl
        have o1 := blk_cell bo3 1 (v := .int .i64 A) rfl
        have o2 := blk_cell bo3 2 (v := .int .i64 B) rfl
        have o3 := blk_cell bo3 3 (v := .slice ta tn tc) rfl
        have o4 := blk_cell bo3 4 (v := .slice ca cn cc) rfl
        have o5 := blk_cell bo3 5 (v := .slice qa qn qc) rfl
        refine wp_region_held_drew (S := fun w' => w'.cell? ⟨wr.heap.size, 0, none⟩ = some (.int .i64 5) ∧ w'.cell? ⟨wr.heap.size, 1, none⟩ = some (.int .i64 A) ∧ w'.cell? ⟨wr.heap.size, 2, none⟩ = some (.int .i64 B) ∧ w'.cell? ⟨wr.heap.size, 3, none⟩ = some (.slice ta tn tc) ∧ w'.cell? ⟨wr.heap.size, 4, none⟩ = some (.slice ca cn cc) ∧ w'.cell? ⟨wr.heap.size, 5, none⟩ = some (.slice qa qn qc)) (by kernel_rfl) ?_ (fun hHeld => ?_)
        ·(try dsimp only)
         exact ⟨o0, o1, o2, o3, o4, o5⟩
        refine tk 0 ?_
        refine tk 1 ?_
        refine tk 2 ?_
        refine tk 3 ?_
        refine tk 4 ?_
        refine tr 5 (fun K hK => ?_)
        go_simp
        go_at_call 216; refine (p_unionPart A B _).mono ?_; rintro e w4 ⟨⟨ta4, tc4, ca4, cc4, pa4, pc4, rfl, ho4⟩, hb4⟩; have q0 := cell_later hb4 o0; have q1 := cell_later hb4 o1; have q2 := cell_later hb4 o2; have q3 := cell_later hb4 o3; have q4 := cell_later hb4 o4; have q5 := cell_later hb4 o5
        (try go_wp2_with fail)
        refine hK.out _ _ ?_ (fun hHeld' => ?_)
        ·(try dsimp only)
         exact ⟨q0, q1, q2, q3, q4, q5⟩
        clear hK K hHeld
        have hHeld := hHeld'
        clear hHeld'
        (try simp only [Act.put, List.setIfInBounds_toArray, List.set_cons_zero, List.set_cons_succ])
        refine tr 6 (fun K hK => ?_)
        go_simp
        go_at_call 70; refine (hasNoMore_any 5 A B ta tn tc ca cn cc qa qn qc _ _ _ _ _ _ _ _ _ _ _ _ w4).mono ?_; rintro e w5 ⟨rfl, hb5⟩; have y0 := cell_later hb5 q0; have y1 := cell_later hb5 q1; have y2 := cell_later hb5 q2; have y3 := cell_later hb5 q3; have y4 := cell_later hb5 q4; have y5 := cell_later hb5 q5
        (try go_wp2_with fail)
        refine hK.out _ _ ?_ (fun hHeld' => ?_)
        ·(try dsimp only)
         exact ⟨y0, y1, y2, y3, y4, y5⟩
        clear hK K hHeld
        have hHeld := hHeld'
        clear hHeld'
        (try simp only [Act.put, List.setIfInBounds_toArray, List.set_cons_zero, List.set_cons_succ])
        refine tk 7 ?_
        refine tk 8 ?_
        refine wpAnyH_done (by kernel_rfl) ?_ _
        have HR5 : Hid (Below wr.heap.size wr w5) := (HR3.out.drew.trans (hb4.mono (by have := HR3.out.size; simpa using this))).trans (hb5.mono (by have h1 := HR3.out.size; have h2 := hb4.size; simp at h2; omega))
        have HB5 : Hid (Below w.heap.size w w5) := B1.trans ((HBW1.out.trans (HR5.out.mono zr)).mono (by omega))
        have z5 : wr.heap.size ≤ w5.heap.size := HR5.out.size
        clear hb4 hb5 ho4 hHeld o0 o1 o2 o3 o4 o5 q0 q1 q2 q3 q4 q5 y0 y1 y2 y3 y4 y5 bo3 HBX hma
        simp only [PartD.B, PartD.ts, PartD.cs, PartD.ps, List.length_nil]
        obtain ⟨M, hM⟩ : ∃ M, sameMore B B tn 0 cn 0 qn 0 = M := ⟨_, rfl⟩
        rw [hM] at HNMK ⊢
        clear hM
        cases M with
        | false =>
         have HN := Hid.mk (HNO.out (by rw [HPW.out, if_neg (by rw [HNMK.out]; simp)]))
         go_wp2
         exact bodyPost_ret (v := .tuple #[.slice none 0 0, .slice none 0 0, .bool false]) (by simp [results, Tryz.results30, go_sem]) rfl ⟨PartsRet.no HN.out, HB5.out⟩
        | true =>
         have HN := Hid.mk (HYES.out q (by rw [HPW.out, if_pos HNMK.out, HWP.out]))
         have HOP5 := Hid.mk (owns_below HOP.out HR5.out)
         have HOI5 := Hid.mk (owns_below HOI.out HR5.out)
         have hkb : k ≤ 12 := by omega
         clear HOP HOI HNMK HPW HNO HYES HWP
         go_wp2_with (at_builtin; refine wpList_append_lies _ rfl (.tmp 60) (.tmp 62) 62 rfl w1.heap.size 110 j0 .nilIface 1 16 Tryz.underlying62 hj hy0 hy1 hy2 rfl (by decide) _ _ _ rfl (HOP5.out.alloc _) ⟨w5.heap.size, 0, none⟩ 1 1 [Value.iface 160 (.agg #[.int .i64 A, .int .i64 B])] rfl rfl (news_at w5 _ _) (by simp; rfl) (by decide) (by unfold maxLen; omega) (by omega) (by simp; omega) (w5.heap.size + 1) (by simp) ?_)
         intro g6 cap6 w6 ho6 hg6 hat6 hlt6
         have z6 : w5.heap.size < w6.heap.size := by have h1 := hg6.size; simp at h1; omega
         have HOI6 : Hid (w6.ownsRow w1.heap.size 3 1 (.slice r' k d') k (ah.map (.int .i64))) := (HOI5.out.alloc _).kept hg6 (by
          cases hv : (Value.slice r' k d').ownBlock with
          | none => exact .inl rfl
          | some b9 => exact .inr (fun e => HDIS.out b9 e.symm hv))
         have HD6 : Hid (∀ b, (Value.slice r' k d').ownBlock = some b → b ≠ g6 ∧ b < w5.heap.size) := fun b9 h9 => by
          have h1 := (HOI5.out.lt b9 h9).2
          refine ⟨fun e => ?_, h1⟩
          rcases hat6 with h2 | h2
          ·exact HDIS.out g6 h2 (e ▸ h9)
          ·omega
         have HR6 : Hid (Below w1.heap.size w1 w6) := ((HBW1.out.trans (HR5.out.mono zr)).alloc (by omega) _).grown hg6 (by simp; omega) (fun j hj => (HOP5.out.lt j hj).1)
         have HOP6 := Hid.mk ho6
         have hl6 := hlt6
         have zg6 : w1.heap.size ≤ g6 := (ho6.lt g6 rfl).1
         clear ho6 hg6 hat6 HOP5 HOI5 HDIS HR5 HB5
         go_wp2_with (at_builtin; refine wpList_append_lies _ rfl (.tmp 64) (.tmp 66) 23 rfl w1.heap.size 3 i0 (.int .i64 0) 1 8 Tryz.underlying23 hi hz0 hz1 hz2 rfl (by decide) _ _ _ rfl (HOI6.out.alloc _) ⟨w6.heap.size, 0, none⟩ 1 1 [.int .i64 q] rfl rfl (news_at w6 _ _) (by simp; rfl) (by decide) (by unfold maxLen; omega) (by omega) (by simp; omega) (w6.heap.size + 1) (by simp) ?_)
         intro g7 cap7 w7 ho7 hg7 hat7 hlt7
         have HOP7 : Hid (w7.ownsRow w1.heap.size 110 1 (.slice (some ⟨g6, 0, none⟩) (k + 1) cap6) (k + 1) (vs ++ [Value.iface 160 (.agg #[.int .i64 A, .int .i64 B])])) := (HOP6.out.alloc _).kept hg7 (.inr (fun e => (HD6.out g6 e.symm).1 rfl))
         have HD7 : Hid (∀ b, (Value.slice (some ⟨g6, 0, none⟩) (k + 1) cap6).ownBlock = some b → (Value.slice (some ⟨g7, 0, none⟩) (k + 1) cap7).ownBlock ≠ some b) := fun b9 h9 => by
          simp only [Value.ownBlock, Option.some.injEq] at h9 ⊢
          subst h9
          intro e
          simp only [Option.some.injEq] at e
          subst e
          rcases hat7 with h2 | h2
          ·exact (HD6.out _ h2).1 rfl
          ·have h3 := (HOP6.out.lt _ rfl).2
           omega
         have HR7 : Hid (Below w1.heap.size w1 w7) := (HR6.out.alloc (by omega) _).grown hg7 (by simp; omega) (fun j hj => (HOI6.out.lt j hj).1)
         have HOI7 : Hid (w7.ownsRow w1.heap.size 3 1 (.slice (some ⟨g7, 0, none⟩) (k + 1) cap7) (k + 1) ((ah ++ [q]).map (.int .i64))) := by rw [List.map_append]; exact ho7
         have HAP7 := Hid.mk (AreParts.push HAP.out HVL.out HX.out HISP.out)
         have HVL7 : Hid ((vs ++ [Value.iface 160 (.agg #[.int .i64 A, .int .i64 B])]).length = k + 1) := by show _ = _; rw [List.length_append, HVL.out]; rfl
         clear ho7 hg7 hat7 hlt7 hlt6 hl6
         go_wp2
         go_roundw
         case rel => exact ⟨k + 1, some ⟨g6, 0, none⟩, cap6, some ⟨g7, 0, none⟩, cap7, vs ++ [Value.iface 160 (.agg #[.int .i64 A, .int .i64 B])], ah ++ [q], by omega, by go_num, rfl, rfl, HN.out, HVL7.out, HAP7.out, HOP7.out, HOI7.out, HD7.out, HR7.out⟩
         case measure => simp [intOf]; omega
      ·have HIS' := HIS.out
       rw [partV_6] at HIS' ⊢
       have HISP := Hid.mk HIS'
       have HWP : Hid (widthP ss ah (6, A, B, ts, zs, ps) = twoAt ah A B) := widthP_6 rfl
       have HNMK : Hid (noMore (6, A, B, ts, zs, ps) = sameMore B B tn 0 cn 0 qn 0) := by
        show _ = _
        rw [HNM.out]
        simp [sameMore, HT.out.1, HU.out.1, HV.out.1]
       have s0 := blk_cell bv 0 (v := .slice sa sn sc) rfl
       have hmw := m_width_6 A B
       have hma := m_asPart_6 A B
       have HBE : Hid (Below w.heap.size w w2) := B1.trans (HB2.out.mono (by omega))
       have HATI : Hid (At w2 r' ah) := At.below (At.owned HOI.out) HR2.out
       have hkk : k ≤ 1048576 := by omega
       clear HIS' HIS hkind HNM
       go_wp2_with fail
       refine (w_minusPart A B sa sn sc ss r' k d' ah w2 HSZ.out hsn (At.below HSA.out HBE.out) HAI.out.1 (by omega) HATI.out).mono ?_
       rintro e w3 ⟨rfl, hb3⟩
       have bo3 := blk_below bo hb3
       have HR3 : Hid (Below wr.heap.size wr w3) := HR2.out.trans (hb3.mono HR2.out.size)
       have z3 := hb3.size
       clear bo bv hb3 s0 hmw HATI HBE
       have HBX : Below w.heap.size w w3.drew := (B1.trans ((HBW1.out.trans (HR3.out.mono zr)).mono (by omega))).drew
       obtain ⟨O, hO⟩ : ∃ O, twoAt ah A B = O := ⟨_, rfl⟩
       rw [hO] at HWP ⊢
       clear hO
       cases O with
       | none =>
        simp only [Option.getD_none, Option.isSome_none]
        have HN := Hid.mk (HNO.out (partW_no HWP.out))
        have HBY := Hid.mk HBX
        clear HBX
        go_upto_region 12 with fail
        refine wp_region_held_drew (S := fun w' => True) (by kernel_rfl) ?_ (fun hHeld => ?_)
        ·(try dsimp only)
         all_goals trivial
        refine tk 0 ?_
        refine tk 1 ?_
        refine tk 2 ?_
        refine tu 3 ?_
        refine tu 4 ?_
        refine tu 5 ?_
        refine tu 6 ?_
        refine tu 7 ?_
        refine tk 8 ?_
        refine wpAnyH_done (by kernel_rfl) ?_ _
        clear hHeld
        go_wp2
        exact bodyPost_ret (v := .tuple #[.slice none 0 0, .slice none 0 0, .bool false]) (by simp [results, Tryz.results30, go_sem]) rfl ⟨PartsRet.no HN.out, HBY.out⟩
       | some q =>
        simp only [Option.getD_some, Option.isSome_some]
        go_upto_region 12 with fail
        have o0 := blk_cell bo3 0 (v := .int .i64 6) rfl
        have o1 := blk_cell bo3 1 (v := .int .i64 A) rfl
        have o2 := blk_cell bo3 2 (v := .int .i64 B) rfl
        have o3 := blk_cell bo3 3 (v := .slice ta tn tc) rfl
        have o4 := blk_cell bo3 4 (v := .slice ca cn cc) rfl
        have o5 := blk_cell bo3 5 (v := .slice qa qn qc) rfl
        refine wp_region_held_drew (S := fun w' => w'.cell? ⟨wr.heap.size, 0, none⟩ = some (.int .i64 6) ∧ w'.cell? ⟨wr.heap.size, 1, none⟩ = some (.int .i64 A) ∧ w'.cell? ⟨wr.heap.size, 2, none⟩ = some (.int .i64 B) ∧ w'.cell? ⟨wr.heap.size, 3, none⟩ = some (.slice ta tn tc) ∧ w'.cell? ⟨wr.heap.size, 4, none⟩ = some (.slice ca cn cc) ∧ w'.cell? ⟨wr.heap.size, 5, none⟩ = some (.slice qa qn qc)) (by kernel_rfl) ?_ (fun hHeld => ?_)
        ·(try dsimp only)
         exact ⟨o0, o1, o2, o3, o4, o5⟩
        refine tk 0 ?_
        refine tk 1 ?_
        refine tk 2 ?_
        refine tk 3 ?_
        refine tk 4 ?_
        refine tr 5 (fun K hK => ?_)
        go_simp
        go_at_call 219; refine (p_minusPart A B _).mono ?_; rintro e w4 ⟨⟨ta4, tc4, ca4, cc4, pa4, pc4, rfl, ho4⟩, hb4⟩; have q0 := cell_later hb4 o0; have q1 := cell_later hb4 o1; have q2 := cell_later hb4 o2; have q3 := cell_later hb4 o3; have q4 := cell_later hb4 o4; have q5 := cell_later hb4 o5
        (try go_wp2_with fail)
        refine hK.out _ _ ?_ (fun hHeld' => ?_)
        ·(try dsimp only)
         exact ⟨q0, q1, q2, q3, q4, q5⟩
        clear hK K hHeld
        have hHeld := hHeld'
        clear hHeld'
        (try simp only [Act.put, List.setIfInBounds_toArray, List.set_cons_zero, List.set_cons_succ])
        refine tr 6 (fun K hK => ?_)
        go_simp
        go_at_call 70; refine (hasNoMore_any 6 A B ta tn tc ca cn cc qa qn qc _ _ _ _ _ _ _ _ _ _ _ _ w4).mono ?_; rintro e w5 ⟨rfl, hb5⟩; have y0 := cell_later hb5 q0; have y1 := cell_later hb5 q1; have y2 := cell_later hb5 q2; have y3 := cell_later hb5 q3; have y4 := cell_later hb5 q4; have y5 := cell_later hb5 q5
        (try go_wp2_with fail)
        refine hK.out _ _ ?_ (fun hHeld' => ?_)
        ·(try dsimp only)
         exact ⟨y0, y1, y2, y3, y4, y5⟩
        clear hK K hHeld
        have hHeld := hHeld'
        clear hHeld'
        (try simp only [Act.put, List.setIfInBounds_toArray, List.set_cons_zero, List.set_cons_succ])
        refine tk 7 ?_
        refine tk 8 ?_
        refine wpAnyH_done (by kernel_rfl) ?_ _
        have HR5 : Hid (Below wr.heap.size wr w5) := (HR3.out.drew.trans (hb4.mono (by have := HR3.out.size; simpa using this))).trans (hb5.mono (by have h1 := HR3.out.size; have h2 := hb4.size; simp at h2; omega))
        have HB5 : Hid (Below w.heap.size w w5) := B1.trans ((HBW1.out.trans (HR5.out.mono zr)).mono (by omega))
        have z5 : wr.heap.size ≤ w5.heap.size := HR5.out.size
        clear hb4 hb5 ho4 hHeld o0 o1 o2 o3 o4 o5 q0 q1 q2 q3 q4 q5 y0 y1 y2 y3 y4 y5 bo3 HBX hma
        simp only [PartD.B, PartD.ts, PartD.cs, PartD.ps, List.length_nil]
        obtain ⟨M, hM⟩ : ∃ M, sameMore B B tn 0 cn 0 qn 0 = M := ⟨_, rfl⟩
        rw [hM] at HNMK ⊢
        clear hM
        cases M with
        | false =>
         have HN := Hid.mk (HNO.out (by rw [HPW.out, if_neg (by rw [HNMK.out]; simp)]))
         go_wp2
         exact bodyPost_ret (v := .tuple #[.slice none 0 0, .slice none 0 0, .bool false]) (by simp [results, Tryz.results30, go_sem]) rfl ⟨PartsRet.no HN.out, HB5.out⟩
        | true =>
         have HN := Hid.mk (HYES.out q (by rw [HPW.out, if_pos HNMK.out, HWP.out]))
         have HOP5 := Hid.mk (owns_below HOP.out HR5.out)
         have HOI5 := Hid.mk (owns_below HOI.out HR5.out)
         have hkb : k ≤ 12 := by omega
         clear HOP HOI HNMK HPW HNO HYES HWP
         go_wp2_with (at_builtin; refine wpList_append_lies _ rfl (.tmp 60) (.tmp 62) 62 rfl w1.heap.size 110 j0 .nilIface 1 16 Tryz.underlying62 hj hy0 hy1 hy2 rfl (by decide) _ _ _ rfl (HOP5.out.alloc _) ⟨w5.heap.size, 0, none⟩ 1 1 [Value.iface 161 (.agg #[.int .i64 A, .int .i64 B])] rfl rfl (news_at w5 _ _) (by simp; rfl) (by decide) (by unfold maxLen; omega) (by omega) (by simp; omega) (w5.heap.size + 1) (by simp) ?_)
         intro g6 cap6 w6 ho6 hg6 hat6 hlt6
         have z6 : w5.heap.size < w6.heap.size := by have h1 := hg6.size; simp at h1; omega
         have HOI6 : Hid (w6.ownsRow w1.heap.size 3 1 (.slice r' k d') k (ah.map (.int .i64))) := (HOI5.out.alloc _).kept hg6 (by
          cases hv : (Value.slice r' k d').ownBlock with
          | none => exact .inl rfl
          | some b9 => exact .inr (fun e => HDIS.out b9 e.symm hv))
         have HD6 : Hid (∀ b, (Value.slice r' k d').ownBlock = some b → b ≠ g6 ∧ b < w5.heap.size) := fun b9 h9 => by
          have h1 := (HOI5.out.lt b9 h9).2
          refine ⟨fun e => ?_, h1⟩
          rcases hat6 with h2 | h2
          ·exact HDIS.out g6 h2 (e ▸ h9)
          ·omega
         have HR6 : Hid (Below w1.heap.size w1 w6) := ((HBW1.out.trans (HR5.out.mono zr)).alloc (by omega) _).grown hg6 (by simp; omega) (fun j hj => (HOP5.out.lt j hj).1)
         have HOP6 := Hid.mk ho6
         have hl6 := hlt6
         have zg6 : w1.heap.size ≤ g6 := (ho6.lt g6 rfl).1
         clear ho6 hg6 hat6 HOP5 HOI5 HDIS HR5 HB5
         go_wp2_with (at_builtin; refine wpList_append_lies _ rfl (.tmp 64) (.tmp 66) 23 rfl w1.heap.size 3 i0 (.int .i64 0) 1 8 Tryz.underlying23 hi hz0 hz1 hz2 rfl (by decide) _ _ _ rfl (HOI6.out.alloc _) ⟨w6.heap.size, 0, none⟩ 1 1 [.int .i64 q] rfl rfl (news_at w6 _ _) (by simp; rfl) (by decide) (by unfold maxLen; omega) (by omega) (by simp; omega) (w6.heap.size + 1) (by simp) ?_)
         intro g7 cap7 w7 ho7 hg7 hat7 hlt7
         have HOP7 : Hid (w7.ownsRow w1.heap.size 110 1 (.slice (some ⟨g6, 0, none⟩) (k + 1) cap6) (k + 1) (vs ++ [Value.iface 161 (.agg #[.int .i64 A, .int .i64 B])])) := (HOP6.out.alloc _).kept hg7 (.inr (fun e => (HD6.out g6 e.symm).1 rfl))
         have HD7 : Hid (∀ b, (Value.slice (some ⟨g6, 0, none⟩) (k + 1) cap6).ownBlock = some b → (Value.slice (some ⟨g7, 0, none⟩) (k + 1) cap7).ownBlock ≠ some b) := fun b9 h9 => by
          simp only [Value.ownBlock, Option.some.injEq] at h9 ⊢
          subst h9
          intro e
          simp only [Option.some.injEq] at e
          subst e
          rcases hat7 with h2 | h2
          ·exact (HD6.out _ h2).1 rfl
          ·have h3 := (HOP6.out.lt _ rfl).2
           omega
         have HR7 : Hid (Below w1.heap.size w1 w7) := (HR6.out.alloc (by omega) _).grown hg7 (by simp; omega) (fun j hj => (HOI6.out.lt j hj).1)
         have HOI7 : Hid (w7.ownsRow w1.heap.size 3 1 (.slice (some ⟨g7, 0, none⟩) (k + 1) cap7) (k + 1) ((ah ++ [q]).map (.int .i64))) := by rw [List.map_append]; exact ho7
         have HAP7 := Hid.mk (AreParts.push HAP.out HVL.out HX.out HISP.out)
         have HVL7 : Hid ((vs ++ [Value.iface 161 (.agg #[.int .i64 A, .int .i64 B])]).length = k + 1) := by show _ = _; rw [List.length_append, HVL.out]; rfl
         clear ho7 hg7 hat7 hlt7 hlt6 hl6
         go_wp2
         go_roundw
         case rel => exact ⟨k + 1, some ⟨g6, 0, none⟩, cap6, some ⟨g7, 0, none⟩, cap7, vs ++ [Value.iface 161 (.agg #[.int .i64 A, .int .i64 B])], ah ++ [q], by omega, by go_num, rfl, rfl, HN.out, HVL7.out, HAP7.out, HOP7.out, HOI7.out, HD7.out, HR7.out⟩
         case measure => simp [intOf]; omega
      ·have HIS' := HIS.out
       rw [partV_7] at HIS' ⊢
       have HISP := Hid.mk HIS'
       have HWP : Hid (widthP ss ah (7, A, B, ts, zs, ps) = numAt ah A) := widthP_7 rfl
       have HNMK : Hid (noMore (7, A, B, ts, zs, ps) = sameMore B 0 tn 0 cn 0 qn 0) := by
        show _ = _
        rw [HNM.out]
        simp [sameMore, HT.out.1, HU.out.1, HV.out.1]
       have s0 := blk_cell bv 0 (v := .slice sa sn sc) rfl
       have hmw := m_width_7 A
       have hma := m_asPart_7 A
       have HBE : Hid (Below w.heap.size w w2) := B1.trans (HB2.out.mono (by omega))
       have HATI : Hid (At w2 r' ah) := At.below (At.owned HOI.out) HR2.out
       have hkk : k ≤ 1048576 := by omega
       clear HIS' HIS hkind HNM
       go_wp2_with fail
       refine (w_distinctPart A sa sn sc ss r' k d' ah w2 HSZ.out hsn (At.below HSA.out HBE.out) HAI.out.1 (by omega) HATI.out).mono ?_
       rintro e w3 ⟨rfl, hb3⟩
       have bo3 := blk_below bo hb3
       have HR3 : Hid (Below wr.heap.size wr w3) := HR2.out.trans (hb3.mono HR2.out.size)
       have z3 := hb3.size
       clear bo bv hb3 s0 hmw HATI HBE
       have HBX : Below w.heap.size w w3.drew := (B1.trans ((HBW1.out.trans (HR3.out.mono zr)).mono (by omega))).drew
       obtain ⟨O, hO⟩ : ∃ O, numAt ah A = O := ⟨_, rfl⟩
       rw [hO] at HWP ⊢
       clear hO
       cases O with
       | none =>
        simp only [Option.getD_none, Option.isSome_none]
        have HN := Hid.mk (HNO.out (partW_no HWP.out))
        have HBY := Hid.mk HBX
        clear HBX
        go_upto_region 12 with fail
        refine wp_region_held_drew (S := fun w' => True) (by kernel_rfl) ?_ (fun hHeld => ?_)
        ·(try dsimp only)
         all_goals trivial
        refine tk 0 ?_
        refine tk 1 ?_
        refine tk 2 ?_
        refine tu 3 ?_
        refine tu 4 ?_
        refine tu 5 ?_
        refine tu 6 ?_
        refine tu 7 ?_
        refine tk 8 ?_
        refine wpAnyH_done (by kernel_rfl) ?_ _
        clear hHeld
        go_wp2
        exact bodyPost_ret (v := .tuple #[.slice none 0 0, .slice none 0 0, .bool false]) (by simp [results, Tryz.results30, go_sem]) rfl ⟨PartsRet.no HN.out, HBY.out⟩
       | some q =>
        simp only [Option.getD_some, Option.isSome_some]
        go_upto_region 12 with fail
        have o0 := blk_cell bo3 0 (v := .int .i64 7) rfl
        have o1 := blk_cell bo3 1 (v := .int .i64 A) rfl
        have o2 := blk_cell bo3 2 (v := .int .i64 B) rfl
        have o3 := blk_cell bo3 3 (v := .slice ta tn tc) rfl
        have o4 := blk_cell bo3 4 (v := .slice ca cn cc) rfl
        have o5 := blk_cell bo3 5 (v := .slice qa qn qc) rfl
        refine wp_region_held_drew (S := fun w' => w'.cell? ⟨wr.heap.size, 0, none⟩ = some (.int .i64 7) ∧ w'.cell? ⟨wr.heap.size, 1, none⟩ = some (.int .i64 A) ∧ w'.cell? ⟨wr.heap.size, 2, none⟩ = some (.int .i64 B) ∧ w'.cell? ⟨wr.heap.size, 3, none⟩ = some (.slice ta tn tc) ∧ w'.cell? ⟨wr.heap.size, 4, none⟩ = some (.slice ca cn cc) ∧ w'.cell? ⟨wr.heap.size, 5, none⟩ = some (.slice qa qn qc)) (by kernel_rfl) ?_ (fun hHeld => ?_)
        ·(try dsimp only)
         exact ⟨o0, o1, o2, o3, o4, o5⟩
        refine tk 0 ?_
        refine tk 1 ?_
        refine tk 2 ?_
        refine tk 3 ?_
        refine tk 4 ?_
        refine tr 5 (fun K hK => ?_)
        go_simp
        go_at_call 221; refine (p_distinctPart A _).mono ?_; rintro e w4 ⟨⟨ta4, tc4, ca4, cc4, pa4, pc4, rfl, ho4⟩, hb4⟩; have q0 := cell_later hb4 o0; have q1 := cell_later hb4 o1; have q2 := cell_later hb4 o2; have q3 := cell_later hb4 o3; have q4 := cell_later hb4 o4; have q5 := cell_later hb4 o5
        (try go_wp2_with fail)
        refine hK.out _ _ ?_ (fun hHeld' => ?_)
        ·(try dsimp only)
         exact ⟨q0, q1, q2, q3, q4, q5⟩
        clear hK K hHeld
        have hHeld := hHeld'
        clear hHeld'
        (try simp only [Act.put, List.setIfInBounds_toArray, List.set_cons_zero, List.set_cons_succ])
        refine tr 6 (fun K hK => ?_)
        go_simp
        go_at_call 70; refine (hasNoMore_any 7 A B ta tn tc ca cn cc qa qn qc _ _ _ _ _ _ _ _ _ _ _ _ w4).mono ?_; rintro e w5 ⟨rfl, hb5⟩; have y0 := cell_later hb5 q0; have y1 := cell_later hb5 q1; have y2 := cell_later hb5 q2; have y3 := cell_later hb5 q3; have y4 := cell_later hb5 q4; have y5 := cell_later hb5 q5
        (try go_wp2_with fail)
        refine hK.out _ _ ?_ (fun hHeld' => ?_)
        ·(try dsimp only)
         exact ⟨y0, y1, y2, y3, y4, y5⟩
        clear hK K hHeld
        have hHeld := hHeld'
        clear hHeld'
        (try simp only [Act.put, List.setIfInBounds_toArray, List.set_cons_zero, List.set_cons_succ])
        refine tk 7 ?_
        refine tk 8 ?_
        refine wpAnyH_done (by kernel_rfl) ?_ _
        have HR5 : Hid (Below wr.heap.size wr w5) := (HR3.out.drew.trans (hb4.mono (by have := HR3.out.size; simpa using this))).trans (hb5.mono (by have h1 := HR3.out.size; have h2 := hb4.size; simp at h2; omega))
        have HB5 : Hid (Below w.heap.size w w5) := B1.trans ((HBW1.out.trans (HR5.out.mono zr)).mono (by omega))
        have z5 : wr.heap.size ≤ w5.heap.size := HR5.out.size
        clear hb4 hb5 ho4 hHeld o0 o1 o2 o3 o4 o5 q0 q1 q2 q3 q4 q5 y0 y1 y2 y3 y4 y5 bo3 HBX hma
        simp only [PartD.B, PartD.ts, PartD.cs, PartD.ps, List.length_nil]
        obtain ⟨M, hM⟩ : ∃ M, sameMore B 0 tn 0 cn 0 qn 0 = M := ⟨_, rfl⟩
        rw [hM] at HNMK ⊢
        clear hM
        cases M with
        | false =>
         have HN := Hid.mk (HNO.out (by rw [HPW.out, if_neg (by rw [HNMK.out]; simp)]))
         go_wp2
         exact bodyPost_ret (v := .tuple #[.slice none 0 0, .slice none 0 0, .bool false]) (by simp [results, Tryz.results30, go_sem]) rfl ⟨PartsRet.no HN.out, HB5.out⟩
        | true =>
         have HN := Hid.mk (HYES.out q (by rw [HPW.out, if_pos HNMK.out, HWP.out]))
         have HOP5 := Hid.mk (owns_below HOP.out HR5.out)
         have HOI5 := Hid.mk (owns_below HOI.out HR5.out)
         have hkb : k ≤ 12 := by omega
         clear HOP HOI HNMK HPW HNO HYES HWP
         go_wp2_with (at_builtin; refine wpList_append_lies _ rfl (.tmp 60) (.tmp 62) 62 rfl w1.heap.size 110 j0 .nilIface 1 16 Tryz.underlying62 hj hy0 hy1 hy2 rfl (by decide) _ _ _ rfl (HOP5.out.alloc _) ⟨w5.heap.size, 0, none⟩ 1 1 [Value.iface 163 (.agg #[.int .i64 A])] rfl rfl (news_at w5 _ _) (by simp; rfl) (by decide) (by unfold maxLen; omega) (by omega) (by simp; omega) (w5.heap.size + 1) (by simp) ?_)
         intro g6 cap6 w6 ho6 hg6 hat6 hlt6
         have z6 : w5.heap.size < w6.heap.size := by have h1 := hg6.size; simp at h1; omega
         have HOI6 : Hid (w6.ownsRow w1.heap.size 3 1 (.slice r' k d') k (ah.map (.int .i64))) := (HOI5.out.alloc _).kept hg6 (by
          cases hv : (Value.slice r' k d').ownBlock with
          | none => exact .inl rfl
          | some b9 => exact .inr (fun e => HDIS.out b9 e.symm hv))
         have HD6 : Hid (∀ b, (Value.slice r' k d').ownBlock = some b → b ≠ g6 ∧ b < w5.heap.size) := fun b9 h9 => by
          have h1 := (HOI5.out.lt b9 h9).2
          refine ⟨fun e => ?_, h1⟩
          rcases hat6 with h2 | h2
          ·exact HDIS.out g6 h2 (e ▸ h9)
          ·omega
         have HR6 : Hid (Below w1.heap.size w1 w6) := ((HBW1.out.trans (HR5.out.mono zr)).alloc (by omega) _).grown hg6 (by simp; omega) (fun j hj => (HOP5.out.lt j hj).1)
         have HOP6 := Hid.mk ho6
         have hl6 := hlt6
         have zg6 : w1.heap.size ≤ g6 := (ho6.lt g6 rfl).1
         clear ho6 hg6 hat6 HOP5 HOI5 HDIS HR5 HB5
         go_wp2_with (at_builtin; refine wpList_append_lies _ rfl (.tmp 64) (.tmp 66) 23 rfl w1.heap.size 3 i0 (.int .i64 0) 1 8 Tryz.underlying23 hi hz0 hz1 hz2 rfl (by decide) _ _ _ rfl (HOI6.out.alloc _) ⟨w6.heap.size, 0, none⟩ 1 1 [.int .i64 q] rfl rfl (news_at w6 _ _) (by simp; rfl) (by decide) (by unfold maxLen; omega) (by omega) (by simp; omega) (w6.heap.size + 1) (by simp) ?_)
         intro g7 cap7 w7 ho7 hg7 hat7 hlt7
         have HOP7 : Hid (w7.ownsRow w1.heap.size 110 1 (.slice (some ⟨g6, 0, none⟩) (k + 1) cap6) (k + 1) (vs ++ [Value.iface 163 (.agg #[.int .i64 A])])) := (HOP6.out.alloc _).kept hg7 (.inr (fun e => (HD6.out g6 e.symm).1 rfl))
         have HD7 : Hid (∀ b, (Value.slice (some ⟨g6, 0, none⟩) (k + 1) cap6).ownBlock = some b → (Value.slice (some ⟨g7, 0, none⟩) (k + 1) cap7).ownBlock ≠ some b) := fun b9 h9 => by
          simp only [Value.ownBlock, Option.some.injEq] at h9 ⊢
          subst h9
          intro e
          simp only [Option.some.injEq] at e
          subst e
          rcases hat7 with h2 | h2
          ·exact (HD6.out _ h2).1 rfl
          ·have h3 := (HOP6.out.lt _ rfl).2
           omega
         have HR7 : Hid (Below w1.heap.size w1 w7) := (HR6.out.alloc (by omega) _).grown hg7 (by simp; omega) (fun j hj => (HOI6.out.lt j hj).1)
         have HOI7 : Hid (w7.ownsRow w1.heap.size 3 1 (.slice (some ⟨g7, 0, none⟩) (k + 1) cap7) (k + 1) ((ah ++ [q]).map (.int .i64))) := by rw [List.map_append]; exact ho7
         have HAP7 := Hid.mk (AreParts.push HAP.out HVL.out HX.out HISP.out)
         have HVL7 : Hid ((vs ++ [Value.iface 163 (.agg #[.int .i64 A])]).length = k + 1) := by show _ = _; rw [List.length_append, HVL.out]; rfl
         clear ho7 hg7 hat7 hlt7 hlt6 hl6
         go_wp2
         go_roundw
         case rel => exact ⟨k + 1, some ⟨g6, 0, none⟩, cap6, some ⟨g7, 0, none⟩, cap7, vs ++ [Value.iface 163 (.agg #[.int .i64 A])], ah ++ [q], by omega, by go_num, rfl, rfl, HN.out, HVL7.out, HAP7.out, HOP7.out, HOI7.out, HD7.out, HR7.out⟩
         case measure => simp [intOf]; omega
     ·have hd : decide (1 ≤ K ∧ K ≤ 7) = false := decide_eq_false hkind
      rw [hd]
      have HN := Hid.mk (HNO.out (partW_no (widthP_no hkind)))
      have HBE : Hid (Below w.heap.size w w2) := B1.trans (HB2.out.mono (by omega))
      clear hd hkind
      go_wp2
      exact bodyPost_ret (v := .tuple #[.slice none 0 0, .slice none 0 0, .bool false]) (by simp [results, Tryz.results30, go_sem]) rfl ⟨PartsRet.no HN.out, HBE.out⟩
    ·obtain rfl : k = pn := by omega
     have HB9 : Hid (Below w.heap.size w wr) := B1.trans (hbw.mono (by omega))
     have HRET : Hid (PartsRet (.returned (.tuple #[.slice r k d, .slice r' k d', .bool true])) w wr (ss, xs)) := by
      show PartsRet _ _ _ _
      unfold PartsRet
      rw [HC.out, hck]
      simp only [HZ.out]
      exact ⟨r, d, r', d', vs, rfl, hvl, hap, owns_mono hop (by omega), owns_mono hoi (by omega)⟩
     clear hck hvl hap hop hoi hdis hbw
     go_wp2
     exact bodyPost_ret (v := .tuple #[.slice r k d, .slice r' k d', .bool true]) (by simp [results, Tryz.results30, go_sem]) rfl ⟨HRET.out, HB9.out⟩

end Go.Proofs.YthiabjkjpjmahaaGreat
