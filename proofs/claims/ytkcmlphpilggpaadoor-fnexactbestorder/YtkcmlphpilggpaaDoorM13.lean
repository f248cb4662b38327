/- Several texts of one proof, in build order: SzS, GsI, GsS, SzO, CsS. -/
import Derived.Test.YtkcmlphpilggpaaDoorM5
import Derived.Test.YtkcmlphpilggpaaDoorRows
import Derived.Deep.CutBlock
import Derived.Test.YtkcmlphpilggpaaDoorM6
import Derived.Test.YtkcmlphpilggpaaDoorM8

/- Contract of spec.l12Size: what a join of some tables tells. -/
namespace Go.Proofs.YtkcmlphpilggpaaDoor
open Go.RowKit

set_option maxRecDepth 100000 in
set_option maxHeartbeats 4000000 in
theorem l12Size_any (sa : Option Addr) (sn sc : Nat) (zs : List Int) (pa : Option Addr) (pn pc : Nat) (fs : List (List Int)) (a : Option Addr) (n c : Nat) (l : List Int) (w : World) (hs : zs.length = sn) (hsa : At w sa zs) (hz : fs.length = pn) (ha : AtS w pa fs) (hl : l.length = n) (hc : n ≤ c) (hla : At w a l) (hg : GsF zs fs) (ht : TbL zs.length l) (hr : ∀ (i j : Nat) (x y : Int), l[i]? = some x → l[j]? = some y → i < j → x < y) :
    Calls Tryd.prog 35 #[.agg #[.slice sa sn sc, .slice pa pn pc], .slice a n c] w fun e w' => e = .returned (.int .i64 (szQ zs fs l)) ∧ Below w.heap.size w w' := by
  obtain ⟨W, hW⟩ : ∃ W, W = w.alloc (.cells #[.slice sa sn sc, .slice pa pn pc] 29) := ⟨_, rfl⟩
  have B0 : Below w.heap.size w W := by rw [hW]; exact (Below.refl _ _).alloc (Nat.le_refl _) _
  have q0 : W.cell? ⟨w.heap.size, 0, none⟩ = some (.slice sa sn sc) := by rw [hW]; simp
  have q1 : W.cell? ⟨w.heap.size, 1, none⟩ = some (.slice pa pn pc) := by rw [hW]; simp
  have zW : w.heap.size < W.heap.size := by rw [hW]; simp
  have hsn6 : sn ≤ 6 := by have := hg.n6; omega
  have hn6 : n ≤ 6 := by have := ht.len; have := hg.n6; omega
  have hpn : pn = sn := by have := hg.nf; omega
  have HS := Hid.mk hs
  have HZ := Hid.mk hz
  have HL := Hid.mk hl
  have HSA := Hid.mk (At.below hsa B0)
  have HA := Hid.mk (AtS.below ha B0)
  have HLA := Hid.mk (At.below hla B0)
  have HG := Hid.mk hg
  have HT := Hid.mk ht
  have HR := Hid.mk hr
  clear hr
  subst hpn
  clear hs hz hl hsa ha hla hg ht
  go_enter Tryd.func35, Tryd.ntmps35
  go_upto_region 3 with fail
  rw [← hW]
  clear hW
  go_wp2
  go_loopw [5, 6, 13] (fun u v i wr => ∃ (k : Nat) (U D : Int), k ≤ n ∧ i = .int .i64 k ∧ u = .int .i64 U ∧ v = .int .i64 D ∧ U = upP zs (l.take k) ∧ D = dnP fs (l.take k) ∧ Below W.heap.size W wr) (fun _ _ i _ => n - (intOf i).toNat)
  case atStart => exact ⟨0, 1, 1, Nat.zero_le _, rfl, rfl, rfl, rfl, rfl, Below.refl _ _⟩
  case round =>
    obtain ⟨k, U, D, hk, rfl, rfl, rfl, hU, hD, hbw⟩ := hrel
    by_cases hlt : k < n
    · obtain ⟨x, hx⟩ : ∃ x, l[k]? = some x := ⟨_, List.getElem?_eq_getElem (by have := HL.out; omega)⟩
      have hxm : x ∈ l := List.mem_of_getElem? hx
      have hxr := HT.out.lt x hxm
      obtain ⟨p, rfl⟩ : ∃ p : Nat, x = (p : Int) := ⟨x.toNat, by omega⟩
      have hp : p < pn := by have := HS.out; omega
      obtain ⟨b, off, rfl, hb, hcl⟩ := HLA.out.some (by have := HL.out; omega)
      have hcx : wr.cell? ⟨b, off + k, none⟩ = some (.int .i64 (p : Nat)) := by
        have h9 := (hbw.cell hb).trans (hcl k (by have := HL.out; omega))
        rw [h9]
        have : l.getD k 0 = (p : Int) := by simp [List.getD, hx]
        rw [this]
      obtain ⟨b2, off2, rfl, hb2, hc2⟩ := HSA.out.some (by have := HS.out; omega)
      obtain ⟨y, hy⟩ : ∃ y, y = zs.getD p 0 := ⟨_, rfl⟩
      have hcy : wr.cell? ⟨b2, off2 + p, none⟩ = some (.int .i64 y) := by rw [hy]; exact (hbw.cell hb2).trans (hc2 p (by have := HS.out; omega))
      have hup := up_next (zs := zs) hx
      rw [← hU, show sizA zs (p : Int) = y by rw [hy]; rfl] at hup
      have hui := upP_in HG.out (HT.out.take (k + 1))
      rw [hup] at hui
      obtain ⟨U2, hU2⟩ : ∃ U2, U * y = U2 := ⟨_, rfl⟩
      rw [hU2] at hui hup
      have hw1 : IntKind.i64.wrap (U * y) = U2 := by rw [hU2]; exact IntWalk.i64_in _ (by omega)
      have hki : (k : Int) < (n : Int) := by omega
      have hkc : k ≤ c := by omega
      have p0 := cell_later hbw q0
      have p1 := cell_later hbw q1
      have HU := Hid.mk hup
      have HD := Hid.mk hD
      have HX := Hid.mk hx
      have HB := Hid.mk hbw
      have HCL := Hid.mk hcl
      clear hup hD hx hbw hcl hc2 hy hU hU2 hui hxm hxr
      obtain ⟨wy, rfl⟩ : ∃ x, x = wr := ⟨_, rfl⟩
      go_wp2
      go_loopw [6, 29] (fun v i wr => ∃ (j : Nat) (E : Int), j ≤ k ∧ i = .int .i64 j ∧ v = .int .i64 E ∧ E = dnP fs (l.take k) * prodL ((l.take j).map (facA fs p)) ∧ Below wy.heap.size wy wr) (fun _ i _ => k - (intOf i).toNat)
      case atStart => exact ⟨0, D, Nat.zero_le _, rfl, rfl, by rw [HD.out]; simp [prodL], Below.refl _ _⟩
      case round =>
        obtain ⟨j, E, hj, rfl, rfl, hE, hbj⟩ := hrel
        by_cases hjt : j < k
        · obtain ⟨o, ho⟩ : ∃ o, l[j]? = some o := ⟨_, List.getElem?_eq_getElem (by have := HL.out; omega)⟩
          have hor := HT.out.lt o (List.mem_of_getElem? ho)
          obtain ⟨q, rfl⟩ : ∃ q : Nat, o = (q : Int) := ⟨o.toNat, by omega⟩
          have hq : q < pn := by have := HS.out; omega
          have hpq : p ≠ q := by
            intro e
            obtain ⟨h1, e1⟩ := List.getElem?_eq_some_iff.1 HX.out
            obtain ⟨h2, e2⟩ := List.getElem?_eq_some_iff.1 ho
            have := (List.getElem_inj (h₀ := h1) (h₁ := h2) HT.out.nd).1 (by rw [e1, e2, e])
            omega
          have hqp : q < p := by
            have := HR.out j k _ _ ho HX.out hjt
            omega
          obtain ⟨f, hf⟩ : ∃ f, fs[p]? = some f := ⟨_, List.getElem?_eq_getElem (by have := HZ.out; omega)⟩
          have hfl := HG.out.fl _ _ hf
          obtain ⟨b3, off3, a', c', rfl, hcr, hm1, hax⟩ := atS_rw (AtS.below HA.out (HB.out.trans (hbj.mono HB.out.size))) hf
          rw [hfl] at hcr hm1
          obtain ⟨b4, off4, rfl, hb4, hc4⟩ := hax.some (by omega)
          obtain ⟨y2, hy2⟩ : ∃ y2, y2 = f.getD q 0 := ⟨_, rfl⟩
          have hcq : wr.cell? ⟨b4, off4 + q, none⟩ = some (.int .i64 y2) := by rw [hy2]; exact hc4 q (by omega)
          have hco : wr.cell? ⟨b, off + j, none⟩ = some (.int .i64 (q : Nat)) := by
            have h9 := ((HB.out.trans (hbj.mono HB.out.size)).cell hb).trans (HCL.out j (by have := HL.out; omega))
            rw [h9]
            have : l.getD j 0 = (q : Int) := by simp [List.getD, ho]
            rw [this]
          have hfa : facA fs p q = y2 := by
            unfold facA
            rw [Int.max_eq_left (by omega), Int.min_eq_right (by omega), Int.toNat_natCast, Int.toNat_natCast, hy2]
            simp [List.getD, hf]
          have hst := dn_step (fs := fs) (i := k) (x := (p : Int)) ho
          rw [← hE, hfa] at hst
          have hin := dn_part HG.out HT.out HX.out (show j + 1 ≤ k by omega)
          rw [hst] at hin
          obtain ⟨E2, hE2⟩ : ∃ E2, E * y2 = E2 := ⟨_, rfl⟩
          rw [hE2] at hin hst
          have hw2 : IntKind.i64.wrap (E * y2) = E2 := by rw [hE2]; exact IntWalk.i64_in _ (by omega)
          have hji : (j : Int) < (k : Int) := by omega
          have r1 := cell_later hbj p1
          have HE := Hid.mk hst
          have HBJ := Hid.mk hbj
          clear hst hE hbj ho hf hfl hax hc4 hy2 hfa hE2 hin
          go_wp2
          go_roundw
          case rel => exact ⟨j + 1, E2, by omega, by go_num, rfl, HE.out.symm, HBJ.out⟩
          case measure => simp [intOf]; omega
        · obtain rfl : j = k := by omega
          have hji : ¬ (j : Int) < (j : Int) := by omega
          have HE : Hid (E = dnP fs (l.take (j + 1))) := by show _ = _; rw [dn_next HX.out]; exact hE
          have HBJ := Hid.mk hbj
          clear hE hbj
          go_wp2
          go_roundw
          case rel => exact ⟨j + 1, U2, E, by omega, by go_num, rfl, rfl, HU.out.symm, HE.out, HB.out.trans (HBJ.out.mono HB.out.size)⟩
          case measure => simp [intOf]; omega
    · obtain rfl : k = n := by omega
      have hki : ¬ (k : Int) < (k : Int) := by omega
      rw [List.take_of_length_le (by have := HL.out; omega)] at hU hD
      have hui := upP_in HG.out HT.out
      have hdi := dnP_in HG.out HT.out
      rw [← hU] at hui
      rw [← hD] at hdi
      have HV : Hid (szQ zs fs l = U / D) := by show _ = _; unfold szQ; rw [hU, hD]
      have hd0 : 1 ≤ D := hdi.1
      have hdne : ¬ D = 0 := by omega
      have hdb : (D == 0) = false := beq_eq_false_iff_ne.2 (by omega)
      have hq0 : 0 ≤ U / D := Int.ediv_nonneg (by omega) (by omega)
      have hq1 : U / D ≤ U := Int.ediv_le_self _ (by omega)
      have htd : U.tdiv D = U / D := Int.tdiv_eq_ediv_of_nonneg (by omega)
      have hwq : IntKind.i64.wrap (U.tdiv D) = U / D := by rw [htd]; exact IntWalk.i64_in _ (by omega)
      have HB := Hid.mk hbw
      clear hU hD hbw hdi
      go_wp2
      go_ret
      exact ⟨ret_int (by rw [HV.out]), B0.trans (HB.out.mono (by omega))⟩

end Go.Proofs.YtkcmlphpilggpaaDoor

/- Contracts of allWithin and GoodStats, the program's and the model's. -/
namespace Go.Proofs.YtkcmlphpilggpaaDoor
open Go.RowKit

set_option maxHeartbeats 1000000 in
theorem allWithin_any (a : Option Addr) (n c : Nat) (zs : List Int) (C : Int) (w : World) (hz : zs.length = n) (hn : n ≤ 9223372036854775807) (ha : At w a zs) :
    Calls Tryd.prog 43 #[.slice a n c, .int .i64 C] w fun e w' => e = .returned (.bool (wiB C zs)) ∧ Below w.heap.size w w' := by
  by_cases h0 : n = 0
  · subst h0
    obtain rfl := List.eq_nil_of_length_eq_zero hz
    go_enter Tryd.func43, Tryd.ntmps43
    go_wp2
    refine wp_loop_rounds 1 ?_
    rw [rounds_succ]
    go_wp2
    go_ret
    exact ⟨rfl, Below.refl _ _⟩
  · obtain ⟨b, off, rfl, hb, hc⟩ := ha.some (by omega)
    clear ha
    go_enter Tryd.func43, Tryd.ntmps43
    go_wp2
    go_loopw [9] (fun i wr => ∃ (k : Nat), k ≤ n ∧ i = .int .i64 k ∧ wiB C zs = wiB C (zs.drop k) ∧ Below w.heap.size w wr) (fun i _ => n - (intOf i).toNat)
    case atStart => exact ⟨0, Nat.zero_le _, rfl, rfl, Below.refl _ _⟩
    case round =>
      obtain ⟨k, hk, rfl, ht, hbw⟩ := hrel
      by_cases hlt : k < n
      · have hcx : wr.cell? ⟨b, off + k, none⟩ = some (.int .i64 (zs.getD k 0)) := (hbw.cell hb).trans (hc k (by omega))
        rw [wiB_step (by omega)] at ht
        obtain ⟨x, hx⟩ : ∃ x, x = zs.getD k 0 := ⟨_, rfl⟩
        rw [← hx] at hcx ht
        have HT := Hid.mk ht
        clear hx ht hc
        by_cases c1 : x < 1
        · go_wp2
          go_ret
          exact ⟨by rw [HT.out]; unfold inB; rw [decide_eq_false (by omega : ¬ 1 ≤ x)]; rfl, hbw⟩
        · by_cases c2 : C < x
          · go_wp2
            go_ret
            exact ⟨by rw [HT.out]; unfold inB; rw [decide_eq_false (by omega : ¬ x ≤ C)]; simp, hbw⟩
          · go_wp2
            go_roundw
            case rel => exact ⟨k + 1, by omega, by go_num, by rw [HT.out]; unfold inB; rw [decide_eq_true (by omega : 1 ≤ x), decide_eq_true (by omega : x ≤ C)]; rfl, hbw⟩
            case measure => simp [intOf]; omega
      · have HT := Hid.mk ht
        clear ht
        go_wp2
        go_ret
        exact ⟨by rw [HT.out, wiB_done (by omega)]; rfl, hbw⟩

set_option maxRecDepth 100000 in
set_option maxHeartbeats 4000000 in
theorem implGoodStats (sa : Option Addr) (sn sc : Nat) (zs : List Int) (pa : Option Addr) (pn pc : Nat) (fs : List (List Int)) (w : World) (hs : zs.length = sn) (hsn : sn ≤ 9223372036854775807) (hsa : At w sa zs) (hz : fs.length = pn) (hn : pn ≤ 9223372036854775807) (ha : AtS w pa fs) :
    Calls Tryd.prog 36 #[.agg #[.slice sa sn sc, .slice pa pn pc]] w fun e w' => e = .returned (.bool (gsB zs fs)) ∧ Below w.heap.size w w' := by
  obtain ⟨W, hW⟩ : ∃ W, W = w.alloc (.cells #[.slice sa sn sc, .slice pa pn pc] 29) := ⟨_, rfl⟩
  have B0 : Below w.heap.size w W := by rw [hW]; exact (Below.refl _ _).alloc (Nat.le_refl _) _
  have q0 : W.cell? ⟨w.heap.size, 0, none⟩ = some (.slice sa sn sc) := by rw [hW]; simp
  have q1 : W.cell? ⟨w.heap.size, 1, none⟩ = some (.slice pa pn pc) := by rw [hW]; simp
  have HS := Hid.mk hs
  have HZ := Hid.mk hz
  have HSA := Hid.mk (At.below hsa B0)
  have HA := Hid.mk (AtS.below ha B0)
  have zW : w.heap.size < W.heap.size := by rw [hW]; simp
  clear hs hz hsa ha
  by_cases c1 : sn < 1
  · have c1' : (sn : Int) < 1 := by omega
    have HG : Hid (gsB zs fs = false) := by show _ = _; unfold gsB; rw [HS.out, decide_eq_false (by omega : ¬ 1 ≤ sn)]; rfl
    go_enter Tryd.func36, Tryd.ntmps36
    go_wp2
    go_ret
    exact ⟨by rw [HG.out]; rfl, by rw [← hW]; exact B0⟩
  have c1' : ¬ (sn : Int) < 1 := by omega
  by_cases c2 : 6 < sn
  · have c2' : (6 : Int) < (sn : Int) := by omega
    have HG : Hid (gsB zs fs = false) := by show _ = _; unfold gsB; rw [HS.out, decide_eq_false (by omega : ¬ sn ≤ 6)]; simp
    go_enter Tryd.func36, Tryd.ntmps36
    go_wp2
    go_ret
    exact ⟨by rw [HG.out]; rfl, by rw [← hW]; exact B0⟩
  have c2' : ¬ (6 : Int) < (sn : Int) := by omega
  by_cases c3 : pn = sn
  · subst c3
    have c3' : ((pn : Int) == (pn : Int)) = true := by simp
    have HG : Hid (gsB zs fs = (facB 0 fs && wiB 50 zs)) := by show _ = _; unfold gsB; rw [HS.out, HZ.out, decide_eq_true (by omega : 1 ≤ pn), decide_eq_true (by omega : pn ≤ 6)]; simp
    go_enter Tryd.func36, Tryd.ntmps36
    go_upto_region 3 with fail
    rw [← hW]
    clear hW
    go_wp2
    go_loopw [27] (fun i wr => ∃ (k : Nat), k ≤ pn ∧ i = .int .i64 k ∧ facB 0 fs = facB k (fs.drop k) ∧ Below W.heap.size W wr) (fun i _ => pn - (intOf i).toNat)
    case atStart => exact ⟨0, Nat.zero_le _, rfl, rfl, Below.refl _ _⟩
    case round =>
      obtain ⟨k, hk, rfl, ht, hbw⟩ := hrel
      by_cases hlt : k < pn
      · obtain ⟨f, hf⟩ : ∃ f, fs[k]? = some f := ⟨_, List.getElem?_eq_getElem (by have := HZ.out; omega)⟩
        obtain ⟨b, off, a', c', rfl, hcx, hm1, hax⟩ := atS_rw (AtS.below HA.out hbw) hf
        rw [facB_step hf] at ht
        obtain ⟨m, hm⟩ : ∃ m, f.length = m := ⟨_, rfl⟩
        rw [hm] at hcx hm1 ht
        have hki : (k : Int) < (pn : Int) := by omega
        have HT := Hid.mk ht
        have HM := Hid.mk hm
        have HB := Hid.mk hbw
        have K := Hid.mk (allWithin_any a' m c' f 10 wr hm hm1 hax)
        clear ht hm hbw hf hax
        by_cases e1 : m = k
        · subst e1
          have e1' : ((m : Int) == (m : Int)) = true := by simp
          go_wp2_with fail
          refine K.out.mono ?_
          rintro e w2 ⟨rfl, hb2⟩
          have HB2 := Hid.mk (HB.out.trans (hb2.mono HB.out.size))
          clear hb2 K
          cases hr : wiB 10 f with
          | false =>
            go_wp2
            go_ret
            exact ⟨by rw [HG.out, HT.out, hr]; simp, B0.trans (HB2.out.mono (by omega))⟩
          | true =>
            go_wp2
            go_roundw
            case rel => exact ⟨m + 1, by omega, by go_num, by rw [HT.out, hr]; simp, HB2.out⟩
            case measure => simp [intOf]; omega
        · have e1' : ((m : Int) == (k : Int)) = false := beq_eq_false_iff_ne.2 (by omega)
          clear K
          go_wp2
          go_ret
          exact ⟨by rw [HG.out, HT.out, decide_eq_false e1]; simp, B0.trans (HB.out.mono (by omega))⟩
      · obtain rfl : k = pn := by omega
        have hki : ¬ (k : Int) < (k : Int) := by omega
        have HT := Hid.mk ht
        have q0 := cell_later hbw q0
        have K := Hid.mk (allWithin_any sa k sc zs 50 wr HS.out hsn (At.below HSA.out hbw))
        have HB := Hid.mk hbw
        clear ht hbw
        go_wp2_with fail
        refine K.out.mono ?_
        rintro e w2 ⟨rfl, hb2⟩
        have HB2 := Hid.mk (HB.out.trans (hb2.mono HB.out.size))
        clear hb2 K
        go_wp2
        go_ret
        exact ⟨by rw [HG.out, HT.out, facB_done HZ.out, Bool.true_and]; rfl, B0.trans (HB2.out.mono (by omega))⟩
  · have c3' : ((pn : Int) == (sn : Int)) = false := beq_eq_false_iff_ne.2 (by omega)
    have HG : Hid (gsB zs fs = false) := by show _ = _; unfold gsB; rw [HS.out, HZ.out, decide_eq_false c3]; simp
    go_enter Tryd.func36, Tryd.ntmps36
    go_wp2
    go_ret
    exact ⟨by rw [HG.out]; rfl, by rw [← hW]; exact B0⟩

end Go.Proofs.YtkcmlphpilggpaaDoor

/- Contract of the model's GoodStats. -/
namespace Go.Proofs.YtkcmlphpilggpaaDoor
open Go.RowKit

set_option maxRecDepth 100000 in
set_option maxHeartbeats 4000000 in
theorem specGoodStats (sa : Option Addr) (sn sc : Nat) (zs : List Int) (pa : Option Addr) (pn pc : Nat) (fs : List (List Int)) (w : World) (hs : zs.length = sn) (hsn : sn ≤ 9223372036854775807) (hsa : At w sa zs) (hz : fs.length = pn) (hn : pn ≤ 9223372036854775807) (ha : AtS w pa fs) :
    Calls Tryd.prog 19 #[.agg #[.slice sa sn sc, .slice pa pn pc]] w fun e w' => e = .returned (.bool (gsB zs fs)) ∧ Below w.heap.size w w' := by
  obtain ⟨W, hW⟩ : ∃ W, W = w.alloc (.cells #[.slice sa sn sc, .slice pa pn pc] 29) := ⟨_, rfl⟩
  have B0 : Below w.heap.size w W := by rw [hW]; exact (Below.refl _ _).alloc (Nat.le_refl _) _
  have q0 : W.cell? ⟨w.heap.size, 0, none⟩ = some (.slice sa sn sc) := by rw [hW]; simp
  have q1 : W.cell? ⟨w.heap.size, 1, none⟩ = some (.slice pa pn pc) := by rw [hW]; simp
  have HS := Hid.mk hs
  have HZ := Hid.mk hz
  have HSA := Hid.mk (At.below hsa B0)
  have HA := Hid.mk (AtS.below ha B0)
  have zW : w.heap.size < W.heap.size := by rw [hW]; simp
  have KL := Hid.mk (l1In_any (sn : Int) 1 6 W)
  clear hs hz hsa ha
  cases c1 : (decide ((1 : Int) ≤ (sn : Int)) && decide ((sn : Int) ≤ 6)) with
  | false =>
    have HG : Hid (gsB zs fs = false) := by
      show _ = _; unfold gsB; rw [HS.out, show (decide (1 ≤ sn) && decide (sn ≤ 6)) = false by rw [← c1]; congr 1 <;> simp <;> omega]; rfl
    go_enter Tryd.func19, Tryd.ntmps19
    go_wp2_with fail
    rw [← hW]
    clear hW
    refine KL.out.mono ?_
    rintro e w1 ⟨rfl, hw1⟩
    obtain rfl := hw1.symm
    rw [c1]
    go_wp2
    go_ret
    exact ⟨by rw [HG.out]; rfl, B0⟩
  | true =>
  have hs6 : 1 ≤ sn ∧ sn ≤ 6 := by simp only [Bool.and_eq_true, decide_eq_true_eq] at c1; omega
  by_cases c3 : pn = sn
  · subst c3
    have c3' : ((pn : Int) == (pn : Int)) = true := by simp
    have HG : Hid (gsB zs fs = (facB 0 fs && wiB 50 zs)) := by show _ = _; unfold gsB; rw [HS.out, HZ.out, decide_eq_true hs6.1, decide_eq_true hs6.2]; simp
    go_enter Tryd.func19, Tryd.ntmps19
    go_wp2_with fail
    rw [← hW]
    clear hW
    refine KL.out.mono ?_
    rintro e w1 ⟨rfl, hw1⟩
    obtain rfl := hw1.symm
    rw [c1]
    clear c1 KL
    go_wp2
    go_loopw [24] (fun i wr => ∃ (k : Nat), k ≤ pn ∧ i = .int .i64 k ∧ facB 0 fs = facB k (fs.drop k) ∧ wiB 50 zs = wiB 50 (zs.drop k) ∧ Below W.heap.size W wr) (fun i _ => pn - (intOf i).toNat)
    case atStart => exact ⟨0, Nat.zero_le _, rfl, rfl, rfl, Below.refl _ _⟩
    case round =>
      obtain ⟨k, hk, rfl, ht, hu, hbw⟩ := hrel
      by_cases hlt : k < pn
      · obtain ⟨f, hf⟩ : ∃ f, fs[k]? = some f := ⟨_, List.getElem?_eq_getElem (by have := HZ.out; omega)⟩
        obtain ⟨b, off, a', c', rfl, hcx, hm1, hax⟩ := atS_rw (AtS.below HA.out hbw) hf
        obtain ⟨b2, off2, rfl, hb2, hc2⟩ := (At.below HSA.out hbw).some (by have := HS.out; omega)
        have hcy := hc2 k (by have := HS.out; omega)
        rw [facB_step hf] at ht
        rw [wiB_step (by have := HS.out; omega)] at hu
        obtain ⟨m, hm⟩ : ∃ m, f.length = m := ⟨_, rfl⟩
        rw [hm] at hcx hm1 ht
        obtain ⟨x, hx⟩ : ∃ x, x = zs.getD k 0 := ⟨_, rfl⟩
        rw [← hx] at hcy hu
        have hki : (k : Int) < (pn : Int) := by omega
        have p1 := cell_later hbw q1
        have HT := Hid.mk ht
        have HU := Hid.mk hu
        have HM := Hid.mk hm
        have HB := Hid.mk hbw
        have HAX := Hid.mk hax
        have K := Hid.mk (l1In_any x 1 50 wr)
        clear ht hu hm hbw hf hax hx hc2
        cases hi : inB 50 x with
        | false =>
          go_wp2_with fail
          refine K.out.mono ?_
          rintro e w1 ⟨rfl, hw1⟩
          obtain rfl := hw1.symm
          rw [show (decide (1 ≤ x) && decide (x ≤ 50)) = false from hi]
          go_wp2
          go_ret
          exact ⟨by rw [HG.out, HU.out, hi]; simp, B0.trans (HB.out.mono (by omega))⟩
        | true =>
        by_cases e1 : m = k
        · subst e1
          have e1' : ((m : Int) == (m : Int)) = true := by simp
          go_wp2_with fail
          refine K.out.mono ?_
          rintro e w1 ⟨rfl, hw1⟩
          obtain rfl := hw1.symm
          rw [show (decide (1 ≤ x) && decide (x ≤ 50)) = true from hi]
          clear K
          have HU2 : Hid (wiB 50 zs = wiB 50 (zs.drop (m + 1))) := by show _ = _; rw [HU.out, hi]; rfl
          clear HU hi
          obtain ⟨wy, rfl⟩ : ∃ x, x = wr := ⟨_, rfl⟩
          go_wp2
          go_loopw [48] (fun i wr => ∃ (j : Nat), j ≤ m ∧ i = .int .i64 j ∧ wiB 10 f = wiB 10 (f.drop j) ∧ Below wy.heap.size wy wr) (fun i _ => m - (intOf i).toNat)
          case atStart => exact ⟨0, Nat.zero_le _, rfl, rfl, Below.refl _ _⟩
          case round =>
            obtain ⟨j, hj, rfl, hv, hbj⟩ := hrel
            by_cases hjt : j < m
            · obtain ⟨b3, off3, rfl, hb3, hc3⟩ := (At.below HAX.out hbj).some (by have := HM.out; omega)
              have hcz := hc3 j (by have := HM.out; omega)
              rw [wiB_step (by have := HM.out; omega)] at hv
              obtain ⟨y, hy⟩ : ∃ y, y = f.getD j 0 := ⟨_, rfl⟩
              rw [← hy] at hcz hv
              have hji : (j : Int) < (m : Int) := by omega
              have HV := Hid.mk hv
              have HBJ := Hid.mk hbj
              have K := Hid.mk (l1In_any y 1 10 wr)
              clear hv hbj hy hc3
              go_wp2_with fail
              refine K.out.mono ?_
              rintro e w1 ⟨rfl, hw1⟩
              obtain rfl := hw1.symm
              clear K
              rw [show (decide (1 ≤ y) && decide (y ≤ 10)) = inB 10 y from rfl]
              cases hi : inB 10 y with
              | false =>
                go_wp2
                go_ret
                exact ⟨by rw [HG.out, HT.out, HV.out, hi]; simp, B0.trans ((HB.out.trans (HBJ.out.mono HB.out.size)).mono (by omega))⟩
              | true =>
                go_wp2
                go_roundw
                case rel => exact ⟨j + 1, by omega, by go_num, by rw [HV.out, hi]; rfl, HBJ.out⟩
                case measure => simp [intOf]; omega
            · obtain rfl : j = m := by omega
              have hji : ¬ (j : Int) < (j : Int) := by omega
              have HV := Hid.mk hv
              have HBJ := Hid.mk hbj
              clear hv hbj
              go_wp2
              go_roundw
              case rel => exact ⟨j + 1, by omega, by go_num, by rw [HT.out, HV.out, wiB_done HM.out]; simp, HU2.out, HB.out.trans (HBJ.out.mono HB.out.size)⟩
              case measure => simp [intOf]; omega
        · have e1' : ((m : Int) == (k : Int)) = false := beq_eq_false_iff_ne.2 (by omega)
          go_wp2_with fail
          refine K.out.mono ?_
          rintro e w1 ⟨rfl, hw1⟩
          obtain rfl := hw1.symm
          rw [show (decide (1 ≤ x) && decide (x ≤ 50)) = true from hi]
          go_wp2
          go_ret
          exact ⟨by rw [HG.out, HT.out, decide_eq_false e1]; simp, B0.trans (HB.out.mono (by omega))⟩
      · obtain rfl : k = pn := by omega
        have hki : ¬ (k : Int) < (k : Int) := by omega
        have HT := Hid.mk ht
        have HU := Hid.mk hu
        have HB := Hid.mk hbw
        clear ht hbw hu
        go_wp2
        go_ret
        exact ⟨by rw [HG.out, HT.out, HU.out, facB_done HZ.out, wiB_done HS.out]; rfl, B0.trans (HB.out.mono (by omega))⟩
  · have c3' : ((pn : Int) == (sn : Int)) = false := beq_eq_false_iff_ne.2 (by omega)
    have HG : Hid (gsB zs fs = false) := by show _ = _; unfold gsB; rw [HS.out, HZ.out, decide_eq_false c3]; simp
    go_enter Tryd.func19, Tryd.ntmps19
    go_wp2_with fail
    rw [← hW]
    clear hW
    refine KL.out.mono ?_
    rintro e w1 ⟨rfl, hw1⟩
    obtain rfl := hw1.symm
    rw [c1]
    go_wp2
    go_ret
    exact ⟨by rw [HG.out]; rfl, B0⟩

end Go.Proofs.YtkcmlphpilggpaaDoor

/- Contracts of SizeOf, the program's and the model's. -/
namespace Go.Proofs.YtkcmlphpilggpaaDoor
open Go.RowKit

/-- Some tables: rising numbers, at least one. -/
def smT (zs : List Int) (fs : List (List Int)) (l : List Int) : Bool := gsB zs fs && (decide (0 < l.length) && ris (zs.length : Int) l)
theorem smT_gs {zs : List Int} {fs : List (List Int)} {l : List Int} (h : smT zs fs l = true) : gsB zs fs = true := by
  simp only [smT, Bool.and_eq_true] at h; exact h.1
theorem risB_pair {c : Int} : ∀ {l : List Int} {p : Int}, risB c p l = true → (∀ x ∈ l, p < x ∧ x < c) ∧ l.Pairwise (· < ·)
  | [], _, _ => ⟨fun _ h => by simp at h, List.Pairwise.nil⟩
  | z :: l, p, h => by
    simp only [risB, Bool.and_eq_true, decide_eq_true_eq] at h
    obtain ⟨h1, h2⟩ := risB_pair h.2.2
    refine ⟨fun x hx => ?_, List.pairwise_cons.2 ⟨fun x hx => (h1 x hx).1, h2⟩⟩
    rcases List.mem_cons.1 hx with rfl | hx
    · exact ⟨h.1, h.2.1⟩
    · have := h1 x hx; omega
theorem ris_tbl {n : Nat} {l : List Int} (h : ris (n : Int) l = true) : TbL n l := by
  obtain ⟨h1, h2⟩ := risB_pair h
  exact ⟨h2.imp (fun h => by omega), fun x hx => by have := h1 x hx; omega⟩
theorem pair_lt {l : List Int} (h : l.Pairwise (· < ·)) (i j : Nat) (x y : Int) (hx : l[i]? = some x) (hy : l[j]? = some y) (hij : i < j) : x < y := by
  obtain ⟨h1, rfl⟩ := List.getElem?_eq_some_iff.1 hx
  obtain ⟨h2, rfl⟩ := List.getElem?_eq_some_iff.1 hy
  exact List.pairwise_iff_getElem.1 h i j h1 h2 hij
theorem ris_lt {n : Nat} {l : List Int} (h : ris (n : Int) l = true) (i j : Nat) (x y : Int) (hx : l[i]? = some x) (hy : l[j]? = some y) (hij : i < j) : x < y := pair_lt (risB_pair h).2 i j x y hx hy hij
def szA (zs : List Int) (fs : List (List Int)) (l : List Int) : Int := if smT zs fs l then szQ zs fs l else 0

set_option maxRecDepth 100000 in
set_option maxHeartbeats 4000000 in
theorem areSome_any (sa : Option Addr) (sn sc : Nat) (zs : List Int) (pa : Option Addr) (pn pc : Nat) (fs : List (List Int)) (a : Option Addr) (n c : Nat) (l : List Int) (w : World) (hs : zs.length = sn) (hsn : sn ≤ 9223372036854775807) (hsa : At w sa zs) (hz : fs.length = pn) (hpn : pn ≤ 9223372036854775807) (ha : AtS w pa fs) (hl : l.length = n) (hn : n ≤ 9223372036854775807) (hla : At w a l) :
    Calls Tryd.prog 27 #[.agg #[.slice sa sn sc, .slice pa pn pc], .slice a n c] w fun e w' => e = .returned (.bool (smT zs fs l)) ∧ Below w.heap.size w w' := by
  obtain ⟨W, hW⟩ : ∃ W, W = w.alloc (.cells #[.slice sa sn sc, .slice pa pn pc] 29) := ⟨_, rfl⟩
  have B0 : Below w.heap.size w W := by rw [hW]; exact (Below.refl _ _).alloc (Nat.le_refl _) _
  have q0 : W.cell? ⟨w.heap.size, 0, none⟩ = some (.slice sa sn sc) := by rw [hW]; simp
  have HS := Hid.mk hs
  have HL := Hid.mk hl
  have HLA := Hid.mk (At.below hla B0)
  have K := Hid.mk (implGoodStats sa sn sc zs pa pn pc fs W hs hsn (At.below hsa B0) hz hpn (AtS.below ha B0))
  clear hs hz hl hsa ha hla
  go_enter Tryd.func27, Tryd.ntmps27
  go_wp2_with fail
  rw [← hW]
  clear hW
  refine K.out.mono ?_
  rintro e w1 ⟨rfl, hb1⟩
  have q0 := cell_later hb1 q0
  have B1 := Hid.mk (B0.trans (hb1.mono B0.size))
  have HLA1 := Hid.mk (At.below HLA.out hb1)
  clear hb1 K HLA
  cases hg : gsB zs fs with
  | false =>
    go_wp2
    go_ret
    exact ⟨by unfold smT; rw [hg]; rfl, B1.out⟩
  | true =>
  by_cases h0 : n = 0
  · have h0' : ¬ (0 : Int) < (n : Int) := by omega
    have HV : Hid (smT zs fs l = false) := by show _ = _; unfold smT; rw [HL.out, decide_eq_false (by omega : ¬ 0 < n)]; simp
    clear h0
    go_wp2
    go_ret
    exact ⟨by rw [HV.out]; rfl, B1.out⟩
  · have h0' : (0 : Int) < (n : Int) := by omega
    have HV : Hid (smT zs fs l = ris (sn : Int) l) := by show _ = _; unfold smT; rw [hg, HL.out, HS.out, decide_eq_true (by omega : 0 < n)]; rfl
    have K2 := Hid.mk (areRising_any a n c l (sn : Int) w1 HL.out hn HLA1.out)
    go_wp2_with fail
    refine K2.out.mono ?_
    rintro e w2 ⟨rfl, hb2⟩
    have B2 := Hid.mk (B1.out.trans (hb2.mono B1.out.size))
    clear hb2 K2
    go_wp2
    go_ret
    exact ⟨by rw [HV.out]; rfl, B2.out⟩

end Go.Proofs.YtkcmlphpilggpaaDoor

/- Contract of the model's l12Cost. -/
namespace Go.Proofs.YtkcmlphpilggpaaDoor
open Go.RowKit

set_option maxRecDepth 100000 in
set_option maxHeartbeats 4000000 in
theorem l12Cost_any (sa : Option Addr) (sn sc : Nat) (zs : List Int) (pa : Option Addr) (pn pc : Nat) (fs : List (List Int)) (a : Option Addr) (n c : Nat) (l : List Int) (w : World) (hs : zs.length = sn) (hsa : At w sa zs) (hz : fs.length = pn) (ha : AtS w pa fs) (hl : l.length = n) (hla : At w a l) (hg : GsF zs fs) (ht : TbL zs.length l) :
    Calls Tryd.prog 26 #[.agg #[.slice sa sn sc, .slice pa pn pc], .slice a n c] w fun e w' => e = .returned (.int .i64 (costL zs fs l)) ∧ Below w.heap.size w w' := by
  have hn6 : n ≤ 6 := by have := ht.len; have := hg.n6; omega
  obtain ⟨W, hW⟩ : ∃ W, W = w.alloc (.cells #[.slice sa sn sc, .slice pa pn pc] 29) := ⟨_, rfl⟩
  have B0 : Below w.heap.size w W := by rw [hW]; exact (Below.refl _ _).alloc (Nat.le_refl _) _
  have q0 : W.cell? ⟨w.heap.size, 0, none⟩ = some (.slice sa sn sc) := by rw [hW]; simp
  have q1 : W.cell? ⟨w.heap.size, 1, none⟩ = some (.slice pa pn pc) := by rw [hW]; simp
  have zW : w.heap.size < W.heap.size := by rw [hW]; simp
  have HS := Hid.mk hs
  have HZ := Hid.mk hz
  have HL := Hid.mk hl
  have HSA := Hid.mk (At.below hsa B0)
  have HA := Hid.mk (AtS.below ha B0)
  have HLA := Hid.mk (At.below hla B0)
  have HG := Hid.mk hg
  have HT := Hid.mk ht
  clear hs hz hl hsa ha hla hg ht
  go_enter Tryd.func26, Tryd.ntmps26
  go_upto_region 3 with fail
  rw [← hW]
  clear hW
  go_wp2
  go_loopw [5, 6, 11] (fun s p i wr => ∃ (k : Nat) (T : Int) (r : Option Addr) (d : Nat), k ≤ n ∧ i = .int .i64 k ∧ s = .int .i64 T ∧ p = .slice r k d ∧ T = csN zs fs l k ∧ wr.ownsRow W.heap.size 3 1 (.slice r k d) k ((putI [] (l.take k)).map (.int .i64)) ∧ Below W.heap.size W wr) (fun _ _ i _ => n - (intOf i).toNat)
  case atStart => exact ⟨0, 0, none, 0, Nat.zero_le _, rfl, rfl, rfl, rfl, World.ownsRow_nil _ _ _ _, Below.refl _ _⟩
  case round =>
    obtain ⟨k, T, r, d, hk, rfl, rfl, rfl, hT, ho, hbw⟩ := hrel
    by_cases hlt : k < n
    · obtain ⟨x, hx⟩ : ∃ x, l[k]? = some x := ⟨_, List.getElem?_eq_getElem (by have := HL.out; omega)⟩
      obtain ⟨b, off, rfl, hb, hcl⟩ := HLA.out.some (by have := HL.out; omega)
      have hcx : wr.cell? ⟨b, off + k, none⟩ = some (.int .i64 x) := by
        have h9 := (hbw.cell hb).trans (hcl k (by have := HL.out; omega))
        rw [h9]
        have : l.getD k 0 = x := by simp [List.getD, hx]
        rw [this]
      have h6 := HG.out.n6
      have hpt := putI_take hx
      obtain ⟨hp0, _⟩ := putI_tbl h6 (HT.out.take k)
      obtain ⟨hp1, hpp⟩ := putI_tbl h6 (HT.out.take (k + 1))
      have hlen0 : (putI [] (l.take k)).length = k := by rw [hp0.length_eq, List.length_take]; have := HL.out; omega
      have hlen1 : (putI [] (l.take (k + 1))).length = k + 1 := by rw [hp1.length_eq, List.length_take]; have := HL.out; omega
      have K7 := Hid.mk (l7Put_any W.heap.size r k d (putI [] (l.take k)) x wr hlen0 (by omega) hbw.size ho)
      rw [← hpt, hlen1] at K7
      have hki : (k : Int) < (n : Int) := by omega
      have hnx : csN zs fs l (k + 1) = csN zs fs l k + lastC zs fs (l.take (k + 1)) := rfl
      rw [← hT] at hnx
      have hci := lastC_in HG.out (HT.out.take (k + 1))
      have hsi := csN_in HG.out HT.out k
      rw [← hT] at hsi
      have p0 := cell_later hbw q0
      have p1 := cell_later hbw q1
      have HLS : Hid (0 < k → lastC zs fs (l.take (k + 1)) = szQ zs fs (putI [] (l.take (k + 1)))) := fun h0 => by
        unfold lastC
        rw [if_neg (by rw [List.length_take]; have := HL.out; omega)]
        exact (szQ_perm zs fs hp1).symm
      have HL0 : Hid (k = 0 → lastC zs fs (l.take (k + 1)) = 0) := fun h0 => by
        unfold lastC
        rw [if_pos (by rw [List.length_take]; omega)]
      have HTB := Hid.mk (HT.out.take (k + 1) |>.perm hp1.symm)
      have HPP := Hid.mk hpp
      have HLN := Hid.mk hlen1
      have HN := Hid.mk hnx
      have HB := Hid.mk hbw
      clear hnx hbw hT hcl hx ho hpt hp0 hp1 hpp hlen0 hlen1 h6
      go_wp2_with fail
      refine K7.out.mono ?_
      rintro e w2 ⟨r2, m2, d2, rfl, hm2, ho2, hb2⟩
      obtain rfl := hm2
      have p0 := cell_later hb2 p0
      have p1 := cell_later hb2 p1
      have HB2 := Hid.mk (HB.out.trans (hb2.mono HB.out.size))
      have HO2 := Hid.mk ho2
      clear ho2 hb2 K7 HB
      by_cases k0 : k = 0
      · have hk0 : ¬ (0 : Int) < (k : Int) := by omega
        have HN2 : Hid (csN zs fs l (k + 1) = T) := by show _ = _; rw [HN.out, HL0.out k0]; simp
        clear k0
        go_wp2
        go_roundw
        case rel => exact ⟨k + 1, T, r2, d2, by omega, by go_num, rfl, rfl, HN2.out.symm, HO2.out, HB2.out⟩
        case measure => simp [intOf]; omega
      · have hk0 : (0 : Int) < (k : Int) := by omega
        have hlq := HLS.out (by omega)
        rw [hlq] at hci HN
        obtain ⟨y, hy⟩ : ∃ y, szQ zs fs (putI [] (l.take (k + 1))) = y := ⟨_, rfl⟩
        have K2 := Hid.mk (l12Size_any sa sn sc zs pa pn pc fs r2 (k + 1) d2 (putI [] (l.take (k + 1))) w2 HS.out (At.below HSA.out HB2.out) HZ.out (AtS.below HA.out HB2.out) HLN.out (own_cap HO2.out) (At.owned HO2.out) HG.out HTB.out (pair_lt HPP.out))
        rw [hy] at hci HN K2
        obtain ⟨T2, hT2⟩ : ∃ T2, T + y = T2 := ⟨_, rfl⟩
        rw [hT2] at HN
        have hw1 : IntKind.i64.wrap (T + y) = T2 := by rw [hT2]; exact IntWalk.i64_in _ (by omega)
        clear hlq hy hT2 k0 hci hsi
        go_wp2_with fail
        refine K2.out.mono ?_
        rintro e w3 ⟨rfl, hb3⟩
        have HO3 := Hid.mk (owns_below HO2.out hb3)
        have HB3 := Hid.mk (HB2.out.trans (hb3.mono HB2.out.size))
        clear hb3 K2
        go_wp2
        go_roundw
        case rel => exact ⟨k + 1, T2, r2, d2, by omega, by go_num, rfl, rfl, HN.out.symm, HO3.out, HB3.out⟩
        case measure => simp [intOf]; omega
    · obtain rfl : k = n := by omega
      have hki : ¬ (k : Int) < (k : Int) := by omega
      have HV : Hid (costL zs fs l = T) := by show _ = _; unfold costL; rw [HL.out, hT]
      have HB := Hid.mk hbw
      clear hT hbw ho
      go_wp2
      go_ret
      exact ⟨ret_int (by rw [HV.out]), B0.trans (HB.out.mono (by omega))⟩

end Go.Proofs.YtkcmlphpilggpaaDoor
