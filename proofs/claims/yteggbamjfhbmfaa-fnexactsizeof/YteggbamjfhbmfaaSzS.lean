/- Contract of spec.l12Size: what a join of some tables tells. -/
import Derived.Test.YteggbamjfhbmfaaSzP
import Derived.Test.YteggbamjfhbmfaaRows
import Derived.Deep.CutBlock
namespace Go.Proofs.Yteggbamjfhbmfaa
open Go.RowKit

set_option maxRecDepth 100000 in
set_option maxHeartbeats 4000000 in
theorem l12Size_any (sa : Option Addr) (sn sc : Nat) (zs : List Int) (pa : Option Addr) (pn pc : Nat) (fs : List (List Int)) (a : Option Addr) (n c : Nat) (l : List Int) (w : World) (hs : zs.length = sn) (hsa : At w sa zs) (hz : fs.length = pn) (ha : AtS w pa fs) (hl : l.length = n) (hc : n ≤ c) (hla : At w a l) (hg : GsF zs fs) (ht : TbL zs.length l) (hr : ∀ (i j : Nat) (x y : Int), l[i]? = some x → l[j]? = some y → i < j → x < y) :
    Calls Try.prog 57 #[.agg #[.slice sa sn sc, .slice pa pn pc], .slice a n c] w fun e w' => e = .returned (.int .i64 (szQ zs fs l)) ∧ Below w.heap.size w w' := by
  obtain ⟨W, hW⟩ : ∃ W, W = w.alloc (.cells #[.slice sa sn sc, .slice pa pn pc] 53) := ⟨_, rfl⟩
  have B0 : Below w.heap.size w W := by rw [hW]; exact (Below.refl _ _).alloc (Nat.le_refl _) _
  have q0 : W.cell? ⟨w.heap.size, 0, none⟩ = some (.slice sa sn sc) := by rw [hW]; simp
  have q1 : W.cell? ⟨w.heap.size, 1, none⟩ = some (.slice pa pn pc) := by rw [hW]; simp
  have zW : w.heap.size < W.heap.size := by rw [hW]; simp
  have hsn6 : sn ≤ 6 := by have := hg.n6; omega
  have hn6 : n ≤ 6 := by have := ht.len; have := hg.n6; omega
  have hpn : pn = sn := by have := hg.nf; omega
  have HS := Hid.mk hs
  have HZ := Hid.mk hz
  have HL := Hid.mk hl
  have HSA := Hid.mk (At.below hsa B0)
  have HA := Hid.mk (AtS.below ha B0)
  have HLA := Hid.mk (At.below hla B0)
  have HG := Hid.mk hg
  have HT := Hid.mk ht
  have HR := Hid.mk hr
  clear hr
  subst hpn
  clear hs hz hl hsa ha hla hg ht
  go_enter Try.func57, Try.ntmps57
  go_upto_region 3 with fail
  rw [← hW]
  clear hW
  go_wp2
  go_loopw [5, 6, 13] (fun u v i wr => ∃ (k : Nat) (U D : Int), k ≤ n ∧ i = .int .i64 k ∧ u = .int .i64 U ∧ v = .int .i64 D ∧ U = upP zs (l.take k) ∧ D = dnP fs (l.take k) ∧ Below W.heap.size W wr) (fun _ _ i _ => n - (intOf i).toNat)
  case atStart => exact ⟨0, 1, 1, Nat.zero_le _, rfl, rfl, rfl, rfl, rfl, Below.refl _ _⟩
  case round =>
    obtain ⟨k, U, D, hk, rfl, rfl, rfl, hU, hD, hbw⟩ := hrel
    by_cases hlt : k < n
    · obtain ⟨x, hx⟩ : ∃ x, l[k]? = some x := ⟨_, List.getElem?_eq_getElem (by have := HL.out; omega)⟩
      have hxm : x ∈ l := List.mem_of_getElem? hx
      have hxr := HT.out.lt x hxm
      obtain ⟨p, rfl⟩ : ∃ p : Nat, x = (p : Int) := ⟨x.toNat, by omega⟩
      have hp : p < pn := by have := HS.out; omega
      obtain ⟨b, off, rfl, hb, hcl⟩ := HLA.out.some (by have := HL.out; omega)
      have hcx : wr.cell? ⟨b, off + k, none⟩ = some (.int .i64 (p : Nat)) := by
        have h9 := (hbw.cell hb).trans (hcl k (by have := HL.out; omega))
        rw [h9]
        have : l.getD k 0 = (p : Int) := by simp [List.getD, hx]
        rw [this]
      obtain ⟨b2, off2, rfl, hb2, hc2⟩ := HSA.out.some (by have := HS.out; omega)
      obtain ⟨y, hy⟩ : ∃ y, y = zs.getD p 0 := ⟨_, rfl⟩
      have hcy : wr.cell? ⟨b2, off2 + p, none⟩ = some (.int .i64 y) := by rw [hy]; exact (hbw.cell hb2).trans (hc2 p (by have := HS.out; omega))
      have hup := up_next (zs := zs) hx
      rw [← hU, show sizA zs (p : Int) = y by rw [hy]; rfl] at hup
      have hui := upP_in HG.out (HT.out.take (k + 1))
      rw [hup] at hui
      obtain ⟨U2, hU2⟩ : ∃ U2, U * y = U2 := ⟨_, rfl⟩
      rw [hU2] at hui hup
      have hw1 : IntKind.i64.wrap (U * y) = U2 := by rw [hU2]; exact IntWalk.i64_in _ (by omega)
      have hki : (k : Int) < (n : Int) := by omega
      have hkc : k ≤ c := by omega
      have p0 := cell_later hbw q0
      have p1 := cell_later hbw q1
      have HU := Hid.mk hup
      have HD := Hid.mk hD
      have HX := Hid.mk hx
      have HB := Hid.mk hbw
      have HCL := Hid.mk hcl
      clear hup hD hx hbw hcl hc2 hy hU hU2 hui hxm hxr
      obtain ⟨wy, rfl⟩ : ∃ x, x = wr := ⟨_, rfl⟩
      go_wp2
      go_loopw [6, 29] (fun v i wr => ∃ (j : Nat) (E : Int), j ≤ k ∧ i = .int .i64 j ∧ v = .int .i64 E ∧ E = dnP fs (l.take k) * prodL ((l.take j).map (facA fs p)) ∧ Below wy.heap.size wy wr) (fun _ i _ => k - (intOf i).toNat)
      case atStart => exact ⟨0, D, Nat.zero_le _, rfl, rfl, by rw [HD.out]; simp [prodL], Below.refl _ _⟩
      case round =>
        obtain ⟨j, E, hj, rfl, rfl, hE, hbj⟩ := hrel
        by_cases hjt : j < k
        · obtain ⟨o, ho⟩ : ∃ o, l[j]? = some o := ⟨_, List.getElem?_eq_getElem (by have := HL.out; omega)⟩
          have hor := HT.out.lt o (List.mem_of_getElem? ho)
          obtain ⟨q, rfl⟩ : ∃ q : Nat, o = (q : Int) := ⟨o.toNat, by omega⟩
          have hq : q < pn := by have := HS.out; omega
          have hpq : p ≠ q := by
            intro e
            obtain ⟨h1, e1⟩ := List.getElem?_eq_some_iff.1 HX.out
            obtain ⟨h2, e2⟩ := List.getElem?_eq_some_iff.1 ho
            have := (List.getElem_inj (h₀ := h1) (h₁ := h2) HT.out.nd).1 (by rw [e1, e2, e])
            omega
          have hqp : q < p := by
            have := HR.out j k _ _ ho HX.out hjt
            omega
          obtain ⟨f, hf⟩ : ∃ f, fs[p]? = some f := ⟨_, List.getElem?_eq_getElem (by have := HZ.out; omega)⟩
          have hfl := HG.out.fl _ _ hf
          obtain ⟨b3, off3, a', c', rfl, hcr, hm1, hax⟩ := atS_rw (AtS.below HA.out (HB.out.trans (hbj.mono HB.out.size))) hf
          rw [hfl] at hcr hm1
          obtain ⟨b4, off4, rfl, hb4, hc4⟩ := hax.some (by omega)
          obtain ⟨y2, hy2⟩ : ∃ y2, y2 = f.getD q 0 := ⟨_, rfl⟩
          have hcq : wr.cell? ⟨b4, off4 + q, none⟩ = some (.int .i64 y2) := by rw [hy2]; exact hc4 q (by omega)
          have hco : wr.cell? ⟨b, off + j, none⟩ = some (.int .i64 (q : Nat)) := by
            have h9 := ((HB.out.trans (hbj.mono HB.out.size)).cell hb).trans (HCL.out j (by have := HL.out; omega))
            rw [h9]
            have : l.getD j 0 = (q : Int) := by simp [List.getD, ho]
            rw [this]
          have hfa : facA fs p q = y2 := by
            unfold facA
            rw [Int.max_eq_left (by omega), Int.min_eq_right (by omega), Int.toNat_natCast, Int.toNat_natCast, hy2]
            simp [List.getD, hf]
          have hst := dn_step (fs := fs) (i := k) (x := (p : Int)) ho
          rw [← hE, hfa] at hst
          have hin := dn_part HG.out HT.out HX.out (show j + 1 ≤ k by omega)
          rw [hst] at hin
          obtain ⟨E2, hE2⟩ : ∃ E2, E * y2 = E2 := ⟨_, rfl⟩
          rw [hE2] at hin hst
          have hw2 : IntKind.i64.wrap (E * y2) = E2 := by rw [hE2]; exact IntWalk.i64_in _ (by omega)
          have hji : (j : Int) < (k : Int) := by omega
          have r1 := cell_later hbj p1
          have HE := Hid.mk hst
          have HBJ := Hid.mk hbj
          clear hst hE hbj ho hf hfl hax hc4 hy2 hfa hE2 hin
          go_wp2
          go_roundw
          case rel => exact ⟨j + 1, E2, by omega, by go_num, rfl, HE.out.symm, HBJ.out⟩
          case measure => simp [intOf]; omega
        · obtain rfl : j = k := by omega
          have hji : ¬ (j : Int) < (j : Int) := by omega
          have HE : Hid (E = dnP fs (l.take (j + 1))) := by show _ = _; rw [dn_next HX.out]; exact hE
          have HBJ := Hid.mk hbj
          clear hE hbj
          go_wp2
          go_roundw
          case rel => exact ⟨j + 1, U2, E, by omega, by go_num, rfl, rfl, HU.out.symm, HE.out, HB.out.trans (HBJ.out.mono HB.out.size)⟩
          case measure => simp [intOf]; omega
    · obtain rfl : k = n := by omega
      have hki : ¬ (k : Int) < (k : Int) := by omega
      rw [List.take_of_length_le (by have := HL.out; omega)] at hU hD
      have hui := upP_in HG.out HT.out
      have hdi := dnP_in HG.out HT.out
      rw [← hU] at hui
      rw [← hD] at hdi
      have HV : Hid (szQ zs fs l = U / D) := by show _ = _; unfold szQ; rw [hU, hD]
      have hd0 : 1 ≤ D := hdi.1
      have hdne : ¬ D = 0 := by omega
      have hdb : (D == 0) = false := beq_eq_false_iff_ne.2 (by omega)
      have hq0 : 0 ≤ U / D := Int.ediv_nonneg (by omega) (by omega)
      have hq1 : U / D ≤ U := Int.ediv_le_self _ (by omega)
      have htd : U.tdiv D = U / D := Int.tdiv_eq_ediv_of_nonneg (by omega)
      have hwq : IntKind.i64.wrap (U.tdiv D) = U / D := by rw [htd]; exact IntWalk.i64_in _ (by omega)
      have HB := Hid.mk hbw
      clear hU hD hbw hdi
      go_wp2
      go_ret
      exact ⟨ret_int (by rw [HV.out]), B0.trans (HB.out.mono (by omega))⟩

end Go.Proofs.Yteggbamjfhbmfaa
