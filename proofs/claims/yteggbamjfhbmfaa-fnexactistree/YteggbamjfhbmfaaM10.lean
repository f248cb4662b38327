/- Several texts of one proof, in build order: ErI, FnI, ErJ. -/
import Derived.Test.YteggbamjfhbmfaaM9
import Derived.Test.YteggbamjfhbmfaaM6
import Derived.Deep.CutBlock
import Derived.Test.YteggbamjfhbmfaaRows
import Derived.Test.YteggbamjfhbmfaaM3

/- Contracts of impl.firstNumbers, and of atomsLeft's othersHave, mayHang, upOf, isEar. -/
namespace Go.Proofs.Yteggbamjfhbmfaa
open Go.RowKit

set_option maxRecDepth 100000 in
set_option maxHeartbeats 4000000 in
theorem othersHave_any (ea : Option Addr) (en ec : Nat) (E : List (List Int)) (la : Option Addr) (ln lc : Nat) (L : List Int) (v k : Int) (w : World) (hez : E.length = en) (_heb : en ≤ 9223372036854775807) (hea : AtSl RInts w ea E) (hlz : L.length = ln) (hlb : ln ≤ 9223372036854775807) (hla : At w la L) (hL : Atoms E L) :
    Calls Try.prog 93 #[.agg #[.slice ea en ec, .slice la ln lc], .int .i64 v, .int .i64 k] w fun e w' => e = .returned (.bool (othB E L k v)) ∧ Below w.heap.size w w' := by
  obtain ⟨W, hW⟩ : ∃ W, W = w.alloc (.cells #[.slice ea en ec, .slice la ln lc] 103) := ⟨_, rfl⟩
  have B0 : Below w.heap.size w W := by rw [hW]; exact (Below.refl _ _).alloc (Nat.le_refl _) _
  have q0 : W.cell? ⟨w.heap.size, 0, none⟩ = some (.slice ea en ec) := by rw [hW]; exact pair0 w _ _ _
  have q1 : W.cell? ⟨w.heap.size, 1, none⟩ = some (.slice la ln lc) := by rw [hW]; exact pair1 w _ _ _
  have HEZ := Hid.mk hez
  have HEA := Hid.mk (AtSl.below hea B0)
  have HLZ := Hid.mk hlz
  have HLA := Hid.mk (At.below hla B0)
  have HL := Hid.mk hL
  clear hez hea hlz hla hL
  go_enter Try.func93, Try.ntmps93
  go_upto_region 1 with fail
  rw [← hW]
  clear hW
  go_wp2_with fail
  go_loopw [12] (fun i wr => ∃ (j : Nat), j ≤ ln ∧ i = .int .i64 j ∧ othB E L k v = (L.drop j).any (othV E k v) ∧ wr = W) (fun i _ => ln - (intOf i).toNat)
  case atStart => exact ⟨0, Nat.zero_le _, rfl, rfl, rfl⟩
  case round =>
    obtain ⟨j, hj, rfl, ht, rfl⟩ := hrel
    by_cases hlt : j < ln
    · obtain ⟨b, off, rfl, _, hc⟩ := HLA.out.some (by have := HLZ.out; omega)
      have hcx := hc j (by have := HLZ.out; omega)
      have hxj : L[j]? = some (L.getD j 0) := by rw [List.getElem?_eq_getElem (by have := HLZ.out; omega)]; simp [List.getD, show j < L.length by have := HLZ.out; omega]
      obtain ⟨o, ho⟩ : ∃ o, L.getD j 0 = o := ⟨_, rfl⟩
      rw [ho] at hcx hxj
      have hoL := HL.out o (List.mem_of_getElem? hxj)
      rw [any_drop hxj] at ht
      have hji : (j : Int) < (ln : Int) := by omega
      obtain ⟨x, rfl⟩ : ∃ x : Nat, o = (x : Int) := ⟨o.toNat, by omega⟩
      have hxe : x < en := by have := HEZ.out; omega
      obtain ⟨zs, hzs⟩ : ∃ zs, E[x]? = some zs := ⟨_, List.getElem?_eq_getElem (by have := HEZ.out; omega)⟩
      obtain ⟨eb, eoff, va, vn, vc, rfl, hcv, hvz, hvb, hva, _⟩ := atSl_pairK HEA.out hzs
      have hxi : (x : Int) < (en : Int) := by omega
      have hE : E.getD ((x : Int)).toNat [] = zs := by simp [List.getD, hzs]
      have HT := Hid.mk ht
      have K := Hid.mk (hasI_any va vn vc zs v wr hvz hvb hva)
      have HV : Hid (hasV E (x : Int) v = decide (v ∈ zs)) := by show _ = _; unfold hasV; rw [hE]
      obtain ⟨bb, hbb⟩ : ∃ bb, decide (v ∈ zs) = bb := ⟨_, rfl⟩
      rw [hbb] at K HV
      clear hc ho hxj hoL ht hzs hvz hva hE hbb
      by_cases hxk : (x : Int) = k
      · have HT2 : Hid (othB E L k v = (L.drop (j + 1)).any (othV E k v)) := by show _ = _; rw [HT.out]; unfold othV; rw [decide_eq_false (show ¬ (x : Int) ≠ k from fun h => h hxk)]; rfl
        clear HT K HV
        subst hxk
        go_wp2
        go_roundw
        case rel => exact ⟨j + 1, by omega, by go_num, HT2.out, by first | rfl | trivial⟩
        case measure => simp [intOf]; omega
      · have HT2 : Hid (othB E L k v = (bb || (L.drop (j + 1)).any (othV E k v))) := by show _ = _; rw [HT.out]; unfold othV; rw [decide_eq_true (show (x : Int) ≠ k from hxk), HV.out]; rfl
        clear HT HV
        go_wp2_with fail
        refine K.out.mono ?_
        rintro e w2 ⟨rfl, h9⟩
        obtain rfl := h9.symm
        cases bb with
        | true =>
          clear K
          go_wp2
          go_ret
          exact ⟨ret_bool (by rw [HT2.out]; rfl), B0⟩
        | false =>
          clear K
          go_wp2
          go_roundw
          case rel => exact ⟨j + 1, by omega, by go_num, by rw [HT2.out]; rfl, by first | rfl | trivial⟩
          case measure => simp [intOf]; omega
    · obtain rfl : j = ln := by omega
      rw [List.drop_of_length_le (by have := HLZ.out; omega)] at ht
      have HT := Hid.mk ht
      clear ht
      go_wp2
      go_ret
      exact ⟨ret_bool HT.out.symm, B0⟩

set_option maxRecDepth 100000 in
set_option maxHeartbeats 4000000 in
theorem mayHang_any (ea : Option Addr) (en ec : Nat) (E : List (List Int)) (la : Option Addr) (ln lc : Nat) (L : List Int) (k u : Int) (w : World) (hez : E.length = en) (heb : en ≤ 9223372036854775807) (hea : AtSl RInts w ea E) (hlz : L.length = ln) (hlb : ln ≤ 9223372036854775807) (hla : At w la L) (hL : Atoms E L) (hk0 : 0 ≤ k) (hk1 : k < (en : Int)) :
    Calls Try.prog 81 #[.agg #[.slice ea en ec, .slice la ln lc], .int .i64 k, .int .i64 u] w fun e w' => e = .returned (.bool (hangB E L k u)) ∧ Below w.heap.size w w' := by
  obtain ⟨W, hW⟩ : ∃ W, W = w.alloc (.cells #[.slice ea en ec, .slice la ln lc] 103) := ⟨_, rfl⟩
  have B0 : Below w.heap.size w W := by rw [hW]; exact (Below.refl _ _).alloc (Nat.le_refl _) _
  have q0 : W.cell? ⟨w.heap.size, 0, none⟩ = some (.slice ea en ec) := by rw [hW]; exact pair0 w _ _ _
  have q1 : W.cell? ⟨w.heap.size, 1, none⟩ = some (.slice la ln lc) := by rw [hW]; exact pair1 w _ _ _
  have HEZ := Hid.mk hez
  have HEA := Hid.mk (AtSl.below hea B0)
  have HLZ := Hid.mk hlz
  have HLA := Hid.mk (At.below hla B0)
  have HL := Hid.mk hL
  clear hez hea hlz hla hL
  by_cases huk : u = k
  · have HR : Hid (hangB E L k u = false) := by show _ = _; unfold hangB; rw [decide_eq_false (fun h => h huk)]; rfl
    subst huk
    go_enter Try.func81, Try.ntmps81
    go_upto_region 1 with fail
    rw [← hW]
    clear hW
    go_wp2
    go_ret
    exact ⟨ret_bool HR.out.symm, B0⟩
  have K := Hid.mk (hasI_any la ln lc L u W HLZ.out hlb HLA.out)
  cases hu : decide (u ∈ L) with
  | false =>
    have HR : Hid (hangB E L k u = false) := by show _ = _; unfold hangB; rw [hu, Bool.and_false]; rfl
    rw [hu] at K
    clear hu
    go_enter Try.func81, Try.ntmps81
    go_upto_region 1 with fail
    rw [← hW]
    clear hW
    go_wp2_with fail
    refine K.out.mono ?_
    rintro e w2 ⟨rfl, h9⟩
    obtain rfl := h9.symm
    go_wp2
    go_ret
    exact ⟨ret_bool HR.out.symm, B0⟩
  | true =>
    have huL := HL.out u (by simpa using hu)
    have HR : Hid (hangB E L k u = (E.getD k.toNat []).all (hangV E L k u)) := by show _ = _; unfold hangB; rw [hu, decide_eq_true (show u ≠ k from huk)]; rfl
    rw [hu] at K
    obtain ⟨x, hx⟩ : ∃ x : Nat, k = (x : Int) := ⟨k.toNat, by omega⟩
    obtain ⟨y, hy⟩ : ∃ y : Nat, u = (y : Int) := ⟨u.toNat, by omega⟩
    subst hx hy
    have hxe : x < en := by omega
    have hye : y < en := by have := HEZ.out; omega
    obtain ⟨zs, hzs⟩ : ∃ zs, E[x]? = some zs := ⟨_, List.getElem?_eq_getElem (by have := HEZ.out; omega)⟩
    obtain ⟨ys, hys⟩ : ∃ ys, E[y]? = some ys := ⟨_, List.getElem?_eq_getElem (by have := HEZ.out; omega)⟩
    obtain ⟨eb, eoff, va, vn, vc, rfl, hcv, hvz, hvb, hva, _⟩ := atSl_pairK HEA.out hzs
    obtain ⟨eb', eoff', ya, yn, yc, hee, hcy, hyz, hyb, hya, _⟩ := atSl_pairK HEA.out hys
    simp only [Option.some.injEq, Addr.mk.injEq, and_true] at hee
    obtain ⟨rfl, rfl⟩ := hee
    have hE : E.getD ((x : Int)).toNat [] = zs := by simp [List.getD, hzs]
    have hE2 : E.getD ((y : Int)).toNat [] = ys := by simp [List.getD, hys]
    rw [hE] at HR
    have HV : Hid (∀ v, hasV E (y : Int) v = decide (v ∈ ys)) := fun v => by unfold hasV; rw [hE2]
    have HZ := Hid.mk hvz
    have HVA := Hid.mk hva
    have HYZ := Hid.mk hyz
    have HYA := Hid.mk hya
    have hxi : (x : Int) < (en : Int) := by omega
    have hyi : (y : Int) < (en : Int) := by omega
    have hyx : ((y : Int) == (x : Int)) = false := beq_eq_false_iff_ne.2 huk
    have hyx2 : decide ((y : Int) = (x : Int)) = false := decide_eq_false huk
    have hyx3 : ¬ y = x := by omega
    clear hu hzs hys hvz hva hyz hya hE hE2 huL hk0 hk1
    go_enter Try.func81, Try.ntmps81
    go_upto_region 1 with fail
    rw [← hW]
    clear hW
    go_wp2_with fail
    refine K.out.mono ?_
    rintro e w2 ⟨rfl, h9⟩
    obtain rfl := h9.symm
    clear K
    go_wp2_with fail
    go_loopw [25] (fun i wr => ∃ (j : Nat), j ≤ vn ∧ i = .int .i64 j ∧ hangB E L (x : Int) (y : Int) = (zs.drop j).all (hangV E L (x : Int) (y : Int)) ∧ Below W.heap.size W wr) (fun i _ => vn - (intOf i).toNat)
    case atStart => exact ⟨0, Nat.zero_le _, rfl, HR.out, Below.refl _ _⟩
    case round =>
      obtain ⟨j, hj, rfl, ht, hbw⟩ := hrel
      obtain ⟨wY, rfl⟩ : ∃ x, x = wr := ⟨_, rfl⟩
      have BY := B0.trans (hbw.mono B0.size)
      by_cases hlt : j < vn
      · obtain ⟨b, off, rfl, _, hc⟩ := (At.below HVA.out hbw).some (by have := HZ.out; omega)
        have hcx := hc j (by have := HZ.out; omega)
        have hxj : zs[j]? = some (zs.getD j 0) := by rw [List.getElem?_eq_getElem (by have := HZ.out; omega)]; simp [List.getD, show j < zs.length by have := HZ.out; omega]
        obtain ⟨v, hv⟩ : ∃ v, zs.getD j 0 = v := ⟨_, rfl⟩
        rw [hv] at hcx hxj
        rw [all_dropE hxj] at ht
        have hji : (j : Int) < (vn : Int) := by omega
        have q0' := cell_later hbw q0
        have q1' := cell_later hbw q1
        have hcy' := cell_later hbw hcy
        have KO := Hid.mk (othersHave_any (some ⟨eb, eoff, none⟩) en ec E la ln lc L v (x : Int) wY HEZ.out heb (AtSl.below HEA.out hbw) HLZ.out hlb (At.below HLA.out hbw) HL.out)
        have HT := Hid.mk ht
        have HBW := Hid.mk hbw
        have KH : Hid (∀ w', Below wY.heap.size wY w' → Calls Try.prog 88 #[.slice ya yn yc, .int .i64 v] w' fun e w'' => e = .returned (.bool (decide (v ∈ ys))) ∧ w'' = w') := fun w' h => hasI_any ya yn yc ys v w' HYZ.out hyb (At.below (At.below HYA.out HBW.out) h)
        have HVV := Hid.mk (HV.out v)
        obtain ⟨ob, hob⟩ : ∃ ob, othB E L (x : Int) v = ob := ⟨_, rfl⟩
        rw [hob] at KO
        have HHV : Hid (hangV E L (x : Int) (y : Int) v = (!ob || decide (v ∈ ys))) := by show _ = _; unfold hangV; rw [hob, HVV.out]
        obtain ⟨bb, hbb⟩ : ∃ bb, decide (v ∈ ys) = bb := ⟨_, rfl⟩
        rw [hbb] at KH HHV
        clear hc hv hxj ht hbw hob hbb HVV
        cases ob with
        | false =>
          have HT2 : Hid (hangB E L (x : Int) (y : Int) = (zs.drop (j + 1)).all (hangV E L (x : Int) (y : Int))) := by show _ = _; rw [HT.out, HHV.out]; rfl
          go_wp2_with fail
          refine KO.out.mono ?_
          rintro e w3 ⟨rfl, hb3⟩
          have HB3 := Hid.mk (HBW.out.trans (hb3.mono HBW.out.size))
          clear hb3 KO KH
          go_wp2
          go_roundw
          case rel => exact ⟨j + 1, by omega, by go_num, HT2.out, HB3.out⟩
          case measure => simp [intOf]; omega
        | true =>
          go_wp2_with fail
          refine KO.out.mono ?_
          rintro e w3 ⟨rfl, hb3⟩
          have HB3 := Hid.mk (HBW.out.trans (hb3.mono HBW.out.size))
          have q0'' := cell_later hb3 q0'
          have hcy'' := cell_later hb3 hcy'
          have KH3 := Hid.mk (KH.out w3 hb3)
          have BB := B0.trans (HB3.out.mono B0.size)
          clear hb3 KO KH
          go_wp2_with fail
          refine KH3.out.mono ?_
          rintro e w4 ⟨rfl, h9⟩
          obtain rfl := h9.symm
          cases bb with
          | true =>
            have HT2 : Hid (hangB E L (x : Int) (y : Int) = (zs.drop (j + 1)).all (hangV E L (x : Int) (y : Int))) := by show _ = _; rw [HT.out, HHV.out]; rfl
            clear KH3
            go_wp2
            go_roundw
            case rel => exact ⟨j + 1, by omega, by go_num, HT2.out, HB3.out⟩
            case measure => simp [intOf]; omega
          | false =>
            have HT2 : Hid (hangB E L (x : Int) (y : Int) = false) := by show _ = _; rw [HT.out, HHV.out]; rfl
            clear KH3
            go_wp2
            go_ret
            exact ⟨ret_bool HT2.out.symm, BB⟩
      · obtain rfl : j = vn := by omega
        rw [List.drop_of_length_le (by have := HZ.out; omega)] at ht
        have HT := Hid.mk ht
        clear ht
        go_wp2
        go_ret
        exact ⟨ret_bool HT.out.symm, BY⟩

set_option maxRecDepth 100000 in
set_option maxHeartbeats 4000000 in
theorem upOf_any (ea : Option Addr) (en ec : Nat) (E : List (List Int)) (la : Option Addr) (ln lc : Nat) (L : List Int) (k : Int) (w : World) (hez : E.length = en) (heb : en ≤ 9223372036854775807) (hea : AtSl RInts w ea E) (hlz : L.length = ln) (hlb : ln ≤ 9223372036854775807) (hla : At w la L) (hL : Atoms E L) (hk0 : 0 ≤ k) (hk1 : k < (en : Int)) :
    Calls Try.prog 77 #[.agg #[.slice ea en ec, .slice la ln lc], .int .i64 k] w fun e w' => e = .returned (.int .i64 (upI E L k)) ∧ Below w.heap.size w w' := by
  obtain ⟨W, hW⟩ : ∃ W, W = w.alloc (.cells #[.slice ea en ec, .slice la ln lc] 103) := ⟨_, rfl⟩
  have B0 : Below w.heap.size w W := by rw [hW]; exact (Below.refl _ _).alloc (Nat.le_refl _) _
  have q0 : W.cell? ⟨w.heap.size, 0, none⟩ = some (.slice ea en ec) := by rw [hW]; exact pair0 w _ _ _
  have q1 : W.cell? ⟨w.heap.size, 1, none⟩ = some (.slice la ln lc) := by rw [hW]; exact pair1 w _ _ _
  have HEZ := Hid.mk hez
  have HEA := Hid.mk (AtSl.below hea B0)
  have HLZ := Hid.mk hlz
  have HLA := Hid.mk (At.below hla B0)
  have HL := Hid.mk hL
  clear hez hea hlz hla hL
  go_enter Try.func77, Try.ntmps77
  go_upto_region 1 with fail
  rw [← hW]
  clear hW
  go_wp2_with fail
  go_loopw [10] (fun i wr => ∃ (j : Nat), j ≤ ln ∧ i = .int .i64 j ∧ upI E L k = ((L.drop j).find? (hangB E L k)).getD (-1) ∧ Below W.heap.size W wr) (fun i _ => ln - (intOf i).toNat)
  case atStart => exact ⟨0, Nat.zero_le _, rfl, rfl, Below.refl _ _⟩
  case round =>
    obtain ⟨j, hj, rfl, ht, hbw⟩ := hrel
    obtain ⟨wY, rfl⟩ : ∃ x, x = wr := ⟨_, rfl⟩
    have BY := B0.trans (hbw.mono B0.size)
    by_cases hlt : j < ln
    · have hcc := At.below HLA.out hbw
      have q0' := cell_later hbw q0
      have q1' := cell_later hbw q1
      have hxj : L[j]? = some (L.getD j 0) := by rw [List.getElem?_eq_getElem (by have := HLZ.out; omega)]; simp [List.getD, show j < L.length by have := HLZ.out; omega]
      obtain ⟨u, hu⟩ : ∃ u, L.getD j 0 = u := ⟨_, rfl⟩
      have K := Hid.mk (mayHang_any ea en ec E la ln lc L k u wY HEZ.out heb (AtSl.below HEA.out hbw) HLZ.out hlb hcc HL.out hk0 hk1)
      obtain ⟨b, off, rfl, _, hc⟩ := hcc.some (by have := HLZ.out; omega)
      have hcx := hc j (by have := HLZ.out; omega)
      rw [hu] at hcx hxj
      rw [find_drop hxj] at ht
      have hji : (j : Int) < (ln : Int) := by omega
      have HT := Hid.mk ht
      have HBW := Hid.mk hbw
      obtain ⟨bb, hbb⟩ : ∃ bb, hangB E L k u = bb := ⟨_, rfl⟩
      rw [hbb] at K HT
      clear hc hu hxj ht hbw hbb
      go_wp2_with fail
      refine K.out.mono ?_
      rintro e w3 ⟨rfl, hb3⟩
      have HB3 := Hid.mk (HBW.out.trans (hb3.mono HBW.out.size))
      have BB := B0.trans (HB3.out.mono B0.size)
      clear hb3 K
      cases bb with
      | true =>
        have HT2 : Hid (upI E L k = u) := by show _ = _; rw [HT.out]; rfl
        go_wp2
        go_ret
        exact ⟨ret_int HT2.out.symm, BB⟩
      | false =>
        have HT2 : Hid (upI E L k = ((L.drop (j + 1)).find? (hangB E L k)).getD (-1)) := by show _ = _; rw [HT.out]; rfl
        go_wp2
        go_roundw
        case rel => exact ⟨j + 1, by omega, by go_num, HT2.out, HB3.out⟩
        case measure => simp [intOf]; omega
    · obtain rfl : j = ln := by omega
      rw [List.drop_of_length_le (by have := HLZ.out; omega)] at ht
      have HT : Hid (upI E L k = -1) := ht
      clear ht
      go_wp2
      go_ret
      exact ⟨ret_int HT.out.symm, BY⟩

set_option maxRecDepth 100000 in
set_option maxHeartbeats 4000000 in
theorem isEar_any (ea : Option Addr) (en ec : Nat) (E : List (List Int)) (la : Option Addr) (ln lc : Nat) (L : List Int) (k : Int) (w : World) (hez : E.length = en) (heb : en ≤ 9223372036854775807) (hea : AtSl RInts w ea E) (hlz : L.length = ln) (hlb : ln ≤ 9223372036854775807) (hla : At w la L) (hL : Atoms E L) (hk0 : 0 ≤ k) (hk1 : k < (en : Int)) :
    Calls Try.prog 76 #[.agg #[.slice ea en ec, .slice la ln lc], .int .i64 k] w fun e w' => e = .returned (.bool (decide (upI E L k ≠ -1))) ∧ Below w.heap.size w w' := by
  obtain ⟨W, hW⟩ : ∃ W, W = w.alloc (.cells #[.slice ea en ec, .slice la ln lc] 103) := ⟨_, rfl⟩
  have B0 : Below w.heap.size w W := by rw [hW]; exact (Below.refl _ _).alloc (Nat.le_refl _) _
  have q0 : W.cell? ⟨w.heap.size, 0, none⟩ = some (.slice ea en ec) := by rw [hW]; exact pair0 w _ _ _
  have q1 : W.cell? ⟨w.heap.size, 1, none⟩ = some (.slice la ln lc) := by rw [hW]; exact pair1 w _ _ _
  have K := Hid.mk (upOf_any ea en ec E la ln lc L k W hez heb (AtSl.below hea B0) hlz hlb (At.below hla B0) hL hk0 hk1)
  obtain ⟨up, hup⟩ : ∃ up, upI E L k = up := ⟨_, rfl⟩
  rw [hup] at K
  rw [hup]
  clear hez hea hlz hla hL hup
  go_enter Try.func76, Try.ntmps76
  go_upto_region 1 with fail
  rw [← hW]
  clear hW
  go_wp2_with fail
  refine K.out.mono ?_
  rintro e w3 ⟨rfl, hb3⟩
  have BB := B0.trans (hb3.mono B0.size)
  by_cases h : up = -1
  · subst h
    go_wp2
    go_ret
    exact ⟨ret_bool (by simp), BB⟩
  · go_wp2
    go_ret
    exact ⟨ret_bool (by simp [h]), BB⟩

end Go.Proofs.Yteggbamjfhbmfaa

/- Contracts of impl.firstNumbers and of the model's l11Without. -/
namespace Go.Proofs.Yteggbamjfhbmfaa
open Go.RowKit

def upN (n : Nat) : List Int := (List.range n).map fun (i : Nat) => (i : Int)
theorem upN_succ (n : Nat) : upN (n + 1) = upN n ++ [(n : Int)] := by unfold upN; rw [List.range_succ, List.map_append]; rfl
theorem upN_len (n : Nat) : (upN n).length = n := by simp [upN]
def woI (L : List Int) (x : Int) : List Int := L.filter fun k => decide (k ≠ x)
theorem woI_take {L : List Int} {j : Nat} {k : Int} (x : Int) (h : L[j]? = some k) : woI (L.take (j + 1)) x = woI (L.take j) x ++ (if k ≠ x then [k] else []) := by
  obtain ⟨hj, rfl⟩ := List.getElem?_eq_some_iff.1 h
  unfold woI
  rw [List.take_succ_eq_append_getElem hj, List.filter_append]
  congr 1
  by_cases e : L[j] = x <;> simp [e]
theorem woI_len (L : List Int) (x : Int) : (woI L x).length ≤ L.length := List.length_filter_le _ _
set_option maxRecDepth 100000 in
set_option maxHeartbeats 4000000 in
theorem firstNumbers_any (n : Nat) (w : World) (hn : n ≤ 1048576) :
    Calls Try.prog 74 #[.int .i64 (n : Nat)] w fun e w' => ∃ r d, e = .returned (.slice r n d) ∧ w'.ownsRow w.heap.size 3 1 (.slice r n d) n ((upN n).map (.int .i64)) ∧ Below w.heap.size w w' := by
  obtain ⟨j0, hj0, hy0, hy1, hy2⟩ := info_parts Try.infoInt
  go_enter Try.func74, Try.ntmps74
  go_wp2_with fail
  go_loopw [3, 6] (fun p i wr => ∃ (k : Nat) (r : Option Addr) (d : Nat), k ≤ n ∧ i = .int .i64 k ∧ p = .slice r k d ∧ wr.ownsRow w.heap.size 3 1 (.slice r k d) k ((upN k).map (.int .i64)) ∧ Below w.heap.size w wr) (fun _ i _ => n - (intOf i).toNat)
  case atStart => exact ⟨0, none, 0, Nat.zero_le _, rfl, rfl, World.ownsRow_nil _ _ _ _, Below.refl _ _⟩
  case round =>
    obtain ⟨k, r, d, hk, rfl, rfl, ho, hbw⟩ := hrel
    by_cases hlt : k < n
    · have hki : (k : Int) < (n : Int) := by omega
      have HO := Hid.mk ho
      have HB := Hid.mk hbw
      have zw := hbw.size
      clear ho hbw
      go_wp2_with (at_builtin; refine wpList_app_vals rfl (.tmp 9) (.tmp 11) 22 rfl w.heap.size 3 j0 (.int .i64 0) 1 8 Try.underlying22 hj0 hy0 hy1 hy2 rfl (by decide) (.slice r k d) k ((upN k).map (.int .i64)) rfl (HO.out.alloc _) (some ⟨wr.heap.size, 0, none⟩) 1 1 [.int .i64 (k : Nat)] rfl rfl (fun ad he => by cases he; simpa using news_at wr #[.int .i64 (k : Nat)] 3) (by simp; rfl) (fun h => by cases h) (by unfold maxLen; omega) (by omega) (by simp; omega) ?_)
      intro r5 d5 w5 ho5 hg5 ht5
      have HB5 : Hid (Below w.heap.size w w5) := (HB.out.alloc zw _).grown hg5 (by simp; omega) (fun j hj => (HO.out.lt j hj).1)
      have HO5 : Hid (w5.ownsRow w.heap.size 3 1 (.slice r5 (k + 1) d5) (k + 1) ((upN (k + 1)).map (.int .i64))) := by
        show World.ownsRow _ _ _ _ _ _ _
        rw [upN_succ, List.map_append]; exact ho5
      clear ho5 hg5 ht5 HO HB
      go_wp2
      go_roundw
      case rel => exact ⟨k + 1, r5, d5, by omega, by go_num, rfl, HO5.out, HB5.out⟩
      case measure => simp [intOf]; omega
    · obtain rfl : k = n := by omega
      have hki : ¬ (k : Int) < (k : Int) := by omega
      have HO := Hid.mk ho
      clear ho
      go_wp2
      go_ret
      exact ⟨r, d, rfl, HO.out, hbw⟩

set_option maxRecDepth 100000 in
set_option maxHeartbeats 4000000 in
theorem l11Without_any (a : Option Addr) (n c : Nat) (L : List Int) (x : Int) (w : World) (hz : L.length = n) (hn : n ≤ 1048576) (ha : At w a L) :
    Calls Try.prog 70 #[.slice a n c, .int .i64 x] w fun e w' => ∃ r m d, e = .returned (.slice r m d) ∧ (woI L x).length = m ∧ w'.ownsRow w.heap.size 3 1 (.slice r m d) m ((woI L x).map (.int .i64)) ∧ Below w.heap.size w w' := by
  obtain ⟨j0, hj0, hy0, hy1, hy2⟩ := info_parts Try.infoInt
  have HZ := Hid.mk hz
  have HA := Hid.mk ha
  clear hz ha
  go_enter Try.func70, Try.ntmps70
  go_wp2_with fail
  go_loopw [5, 10] (fun p i wr => ∃ (k m : Nat) (r : Option Addr) (d : Nat), k ≤ n ∧ m ≤ k ∧ i = .int .i64 k ∧ p = .slice r m d ∧ (woI (L.take k) x).length = m ∧ wr.ownsRow w.heap.size 3 1 (.slice r m d) m ((woI (L.take k) x).map (.int .i64)) ∧ Below w.heap.size w wr) (fun _ i _ => n - (intOf i).toNat)
  case atStart => exact ⟨0, 0, none, 0, Nat.zero_le _, Nat.le_refl _, rfl, rfl, rfl, World.ownsRow_nil _ _ _ _, Below.refl _ _⟩
  case round =>
    obtain ⟨k, m, r, d, hk, hmk, rfl, rfl, hm, ho, hbw⟩ := hrel
    obtain ⟨wY, rfl⟩ : ∃ x, x = wr := ⟨_, rfl⟩
    by_cases hlt : k < n
    · obtain ⟨b, off, rfl, _, hc⟩ := (At.below HA.out hbw).some (by have := HZ.out; omega)
      have hcx := hc k (by have := HZ.out; omega)
      have hxj : L[k]? = some (L.getD k 0) := by rw [List.getElem?_eq_getElem (by have := HZ.out; omega)]; simp [List.getD, show k < L.length by have := HZ.out; omega]
      obtain ⟨u, hu⟩ : ∃ u, L.getD k 0 = u := ⟨_, rfl⟩
      rw [hu] at hcx hxj
      have HTK := Hid.mk (woI_take x hxj)
      have hki : (k : Int) < (n : Int) := by omega
      have HO := Hid.mk ho
      have HM := Hid.mk hm
      have HB := Hid.mk hbw
      have zw := hbw.size
      clear hc hu hxj ho hm hbw
      by_cases hux : u = x
      · have HE : Hid (woI (L.take (k + 1)) x = woI (L.take k) x) := by show _ = _; rw [HTK.out, if_neg (fun h => h hux), List.append_nil]
        rw [← HE.out] at HO HM
        clear HTK HE
        subst hux
        go_wp2
        go_roundw
        case rel => exact ⟨k + 1, m, r, d, by omega, by omega, by go_num, rfl, HM.out, HO.out, HB.out⟩
        case measure => simp [intOf]; omega
      · have HE : Hid (woI (L.take (k + 1)) x = woI (L.take k) x ++ [u]) := by show _ = _; rw [HTK.out, if_pos hux]
        clear HTK
        go_wp2_with (at_builtin; refine wpList_app_vals rfl (.tmp 17) (.tmp 19) 22 rfl w.heap.size 3 j0 (.int .i64 0) 1 8 Try.underlying22 hj0 hy0 hy1 hy2 rfl (by decide) (.slice r m d) m ((woI (L.take k) x).map (.int .i64)) rfl (HO.out.alloc _) (some ⟨wY.heap.size, 0, none⟩) 1 1 [.int .i64 u] rfl rfl (fun ad he => by cases he; simpa using news_at wY #[.int .i64 u] 3) (by simp; rfl) (fun h => by cases h) (by unfold maxLen; omega) (by omega) (by simp; omega) ?_)
        intro r5 d5 w5 ho5 hg5 ht5
        have HB5 : Hid (Below w.heap.size w w5) := (HB.out.alloc zw _).grown hg5 (by simp; omega) (fun j hj => (HO.out.lt j hj).1)
        have HO5 : Hid (w5.ownsRow w.heap.size 3 1 (.slice r5 (m + 1) d5) (m + 1) ((woI (L.take (k + 1)) x).map (.int .i64))) := by
          show World.ownsRow _ _ _ _ _ _ _
          rw [HE.out, List.map_append]; exact ho5
        have HM5 : Hid ((woI (L.take (k + 1)) x).length = m + 1) := by show _ = _; rw [HE.out, List.length_append, HM.out]; rfl
        clear ho5 hg5 ht5 HO HB HM
        go_wp2
        go_roundw
        case rel => exact ⟨k + 1, m + 1, r5, d5, by omega, by omega, by go_num, rfl, HM5.out, HO5.out, HB5.out⟩
        case measure => simp [intOf]; omega
    · obtain rfl : k = n := by omega
      rw [List.take_of_length_le (by have := HZ.out; omega)] at hm ho
      have hki : ¬ (k : Int) < (k : Int) := by omega
      have HO := Hid.mk ho
      have HM := Hid.mk hm
      clear ho hm
      go_wp2
      go_ret
      exact ⟨r, m, d, rfl, HM.out, HO.out, hbw⟩

end Go.Proofs.Yteggbamjfhbmfaa

/- Contracts of impl.firstNumbers, slices.IndexFunc at the method value isEar, spec.l11Without. -/
namespace Go.Proofs.Yteggbamjfhbmfaa
open Go.RowKit

def idxL (p : Int → Bool) (L : List Int) : Int := match L.findIdx? p with | some i => (i : Int) | none => -1
theorem idxL_drop {p : Int → Bool} {L : List Int} {j : Nat} (hno : ∀ i, i < j → ∀ k, L[i]? = some k → p k = false) {k : Int} (h : L[j]? = some k) (hp : p k = true) : idxL p L = (j : Int) := by
  obtain ⟨hj, rfl⟩ := List.getElem?_eq_some_iff.1 h
  unfold idxL
  have : L.findIdx? p = some j := List.findIdx?_eq_some_iff_getElem.2 ⟨hj, hp, fun i hi => by
    have h9 := hno i hi (L[i]'(by omega)) (List.getElem?_eq_getElem (by omega))
    simp [h9]⟩
  rw [this]
theorem idxL_none {p : Int → Bool} {L : List Int} (hno : ∀ i, i < L.length → ∀ k, L[i]? = some k → p k = false) : idxL p L = -1 := by
  unfold idxL
  have : L.findIdx? p = none := List.findIdx?_eq_none_iff.2 fun x hx => by
    obtain ⟨i, hi, rfl⟩ := List.mem_iff_getElem.1 hx
    exact hno i hi _ (List.getElem?_eq_getElem hi)
  rw [this]

set_option maxRecDepth 100000 in
set_option maxHeartbeats 4000000 in
theorem indexEar_any (ea : Option Addr) (en ec : Nat) (E : List (List Int)) (la : Option Addr) (ln lc : Nat) (L : List Int) (w : World) (hez : E.length = en) (heb : en ≤ 9223372036854775807) (hea : AtSl RInts w ea E) (hlz : L.length = ln) (hlb : ln ≤ 9223372036854775807) (hla : At w la L) (hL : Atoms E L) :
    Calls Try.prog 75 #[.slice la ln lc, .func (.func 76) #[.agg #[.slice ea en ec, .slice la ln lc]] #[]] w fun e w' => e = .returned (.int .i64 (idxL (fun k => decide (upI E L k ≠ -1)) L)) ∧ Below w.heap.size w w' := by
  have HEZ := Hid.mk hez
  have HEA := Hid.mk hea
  have HLZ := Hid.mk hlz
  have HLA := Hid.mk hla
  have HL := Hid.mk hL
  clear hez hea hlz hla hL
  go_enter Try.func75, Try.ntmps75
  go_wp2_with fail
  go_loopw [8] (fun i wr => ∃ (j : Nat), j ≤ ln ∧ i = .int .i64 j ∧ (∀ i, i < j → ∀ k, L[i]? = some k → decide (upI E L k ≠ -1) = false) ∧ Below w.heap.size w wr) (fun i _ => ln - (intOf i).toNat)
  case atStart => exact ⟨0, Nat.zero_le _, rfl, fun i hi => by omega, Below.refl _ _⟩
  case round =>
    obtain ⟨j, hj, rfl, hno, hbw⟩ := hrel
    obtain ⟨wY, rfl⟩ : ∃ x, x = wr := ⟨_, rfl⟩
    by_cases hlt : j < ln
    · have hcc := At.below HLA.out hbw
      have hxj : L[j]? = some (L.getD j 0) := by rw [List.getElem?_eq_getElem (by have := HLZ.out; omega)]; simp [List.getD, show j < L.length by have := HLZ.out; omega]
      obtain ⟨u, hu⟩ : ∃ u, L.getD j 0 = u := ⟨_, rfl⟩
      rw [hu] at hxj
      have huL := HL.out u (List.mem_of_getElem? hxj)
      have K := Hid.mk (isEar_any ea en ec E la ln lc L u wY HEZ.out heb (AtSl.below HEA.out hbw) HLZ.out hlb hcc HL.out huL.1 (by have := HEZ.out; omega))
      obtain ⟨b, off, rfl, _, hc⟩ := hcc.some (by have := HLZ.out; omega)
      have hcx := hc j (by have := HLZ.out; omega)
      rw [hu] at hcx
      have hji : (j : Int) < (ln : Int) := by omega
      have HNO := Hid.mk hno
      have HBW := Hid.mk hbw
      have HX := Hid.mk hxj
      obtain ⟨bb, hbb⟩ : ∃ bb, decide (upI E L u ≠ -1) = bb := ⟨_, rfl⟩
      rw [hbb] at K
      have HBB := Hid.mk hbb
      clear hc hu hxj hno hbw hbb hcc huL
      go_wp2_with fail
      refine K.out.mono ?_
      rintro e w3 ⟨rfl, hb3⟩
      have HB3 := Hid.mk (HBW.out.trans (hb3.mono HBW.out.size))
      clear hb3 K
      cases bb with
      | true =>
        have HR := Hid.mk (idxL_drop HNO.out HX.out HBB.out)
        go_wp2
        go_ret
        exact ⟨ret_int HR.out.symm, HB3.out⟩
      | false =>
        have HN2 : Hid (∀ i, i < j + 1 → ∀ k, L[i]? = some k → decide (upI E L k ≠ -1) = false) := fun i hi k hk => by
          by_cases e : i < j
          · exact HNO.out i e k hk
          · obtain rfl : i = j := by omega
            obtain rfl := Option.some.inj (HX.out.symm.trans hk)
            exact HBB.out
        go_wp2
        go_roundw
        case rel => exact ⟨j + 1, by omega, by go_num, HN2.out, HB3.out⟩
        case measure => simp [intOf]; omega
    · obtain rfl : j = ln := by omega
      have HR := Hid.mk (idxL_none (p := fun k => decide (upI E L k ≠ -1)) (L := L) (fun i hi => hno i (by have := HLZ.out; omega)))
      clear hno
      go_wp2
      go_ret
      exact ⟨ret_int HR.out.symm, hbw⟩

end Go.Proofs.Yteggbamjfhbmfaa
