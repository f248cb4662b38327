/- Contract of the model's GoodStats. -/
import Derived.Test.YteggbamjfhbmfaaGsI
namespace Go.Proofs.Yteggbamjfhbmfaa
open Go.RowKit

set_option maxRecDepth 100000 in
set_option maxHeartbeats 4000000 in
theorem specGoodStats (sa : Option Addr) (sn sc : Nat) (zs : List Int) (pa : Option Addr) (pn pc : Nat) (fs : List (List Int)) (w : World) (hs : zs.length = sn) (hsn : sn ≤ 9223372036854775807) (hsa : At w sa zs) (hz : fs.length = pn) (hn : pn ≤ 9223372036854775807) (ha : AtS w pa fs) :
    Calls Try.prog 26 #[.agg #[.slice sa sn sc, .slice pa pn pc]] w fun e w' => e = .returned (.bool (gsB zs fs)) ∧ Below w.heap.size w w' := by
  obtain ⟨W, hW⟩ : ∃ W, W = w.alloc (.cells #[.slice sa sn sc, .slice pa pn pc] 53) := ⟨_, rfl⟩
  have B0 : Below w.heap.size w W := by rw [hW]; exact (Below.refl _ _).alloc (Nat.le_refl _) _
  have q0 : W.cell? ⟨w.heap.size, 0, none⟩ = some (.slice sa sn sc) := by rw [hW]; simp
  have q1 : W.cell? ⟨w.heap.size, 1, none⟩ = some (.slice pa pn pc) := by rw [hW]; simp
  have HS := Hid.mk hs
  have HZ := Hid.mk hz
  have HSA := Hid.mk (At.below hsa B0)
  have HA := Hid.mk (AtS.below ha B0)
  have zW : w.heap.size < W.heap.size := by rw [hW]; simp
  have KL := Hid.mk (l1In_any (sn : Int) 1 6 W)
  clear hs hz hsa ha
  cases c1 : (decide ((1 : Int) ≤ (sn : Int)) && decide ((sn : Int) ≤ 6)) with
  | false =>
    have HG : Hid (gsB zs fs = false) := by
      show _ = _; unfold gsB; rw [HS.out, show (decide (1 ≤ sn) && decide (sn ≤ 6)) = false by rw [← c1]; congr 1 <;> simp <;> omega]; rfl
    go_enter Try.func26, Try.ntmps26
    go_wp2_with fail
    rw [← hW]
    clear hW
    refine KL.out.mono ?_
    rintro e w1 ⟨rfl, hw1⟩
    obtain rfl := hw1.symm
    rw [c1]
    go_wp2
    go_ret
    exact ⟨by rw [HG.out]; rfl, B0⟩
  | true =>
  have hs6 : 1 ≤ sn ∧ sn ≤ 6 := by simp only [Bool.and_eq_true, decide_eq_true_eq] at c1; omega
  by_cases c3 : pn = sn
  · subst c3
    have c3' : ((pn : Int) == (pn : Int)) = true := by simp
    have HG : Hid (gsB zs fs = (facB 0 fs && wiB 50 zs)) := by show _ = _; unfold gsB; rw [HS.out, HZ.out, decide_eq_true hs6.1, decide_eq_true hs6.2]; simp
    go_enter Try.func26, Try.ntmps26
    go_wp2_with fail
    rw [← hW]
    clear hW
    refine KL.out.mono ?_
    rintro e w1 ⟨rfl, hw1⟩
    obtain rfl := hw1.symm
    rw [c1]
    clear c1 KL
    go_wp2
    go_loopw [24] (fun i wr => ∃ (k : Nat), k ≤ pn ∧ i = .int .i64 k ∧ facB 0 fs = facB k (fs.drop k) ∧ wiB 50 zs = wiB 50 (zs.drop k) ∧ Below W.heap.size W wr) (fun i _ => pn - (intOf i).toNat)
    case atStart => exact ⟨0, Nat.zero_le _, rfl, rfl, rfl, Below.refl _ _⟩
    case round =>
      obtain ⟨k, hk, rfl, ht, hu, hbw⟩ := hrel
      by_cases hlt : k < pn
      · obtain ⟨f, hf⟩ : ∃ f, fs[k]? = some f := ⟨_, List.getElem?_eq_getElem (by have := HZ.out; omega)⟩
        obtain ⟨b, off, a', c', rfl, hcx, hm1, hax⟩ := atS_rw (AtS.below HA.out hbw) hf
        obtain ⟨b2, off2, rfl, hb2, hc2⟩ := (At.below HSA.out hbw).some (by have := HS.out; omega)
        have hcy := hc2 k (by have := HS.out; omega)
        rw [facB_step hf] at ht
        rw [wiB_step (by have := HS.out; omega)] at hu
        obtain ⟨m, hm⟩ : ∃ m, f.length = m := ⟨_, rfl⟩
        rw [hm] at hcx hm1 ht
        obtain ⟨x, hx⟩ : ∃ x, x = zs.getD k 0 := ⟨_, rfl⟩
        rw [← hx] at hcy hu
        have hki : (k : Int) < (pn : Int) := by omega
        have p1 := cell_later hbw q1
        have HT := Hid.mk ht
        have HU := Hid.mk hu
        have HM := Hid.mk hm
        have HB := Hid.mk hbw
        have HAX := Hid.mk hax
        have K := Hid.mk (l1In_any x 1 50 wr)
        clear ht hu hm hbw hf hax hx hc2
        cases hi : inB 50 x with
        | false =>
          go_wp2_with fail
          refine K.out.mono ?_
          rintro e w1 ⟨rfl, hw1⟩
          obtain rfl := hw1.symm
          rw [show (decide (1 ≤ x) && decide (x ≤ 50)) = false from hi]
          go_wp2
          go_ret
          exact ⟨by rw [HG.out, HU.out, hi]; simp, B0.trans (HB.out.mono (by omega))⟩
        | true =>
        by_cases e1 : m = k
        · subst e1
          have e1' : ((m : Int) == (m : Int)) = true := by simp
          go_wp2_with fail
          refine K.out.mono ?_
          rintro e w1 ⟨rfl, hw1⟩
          obtain rfl := hw1.symm
          rw [show (decide (1 ≤ x) && decide (x ≤ 50)) = true from hi]
          clear K
          have HU2 : Hid (wiB 50 zs = wiB 50 (zs.drop (m + 1))) := by show _ = _; rw [HU.out, hi]; rfl
          clear HU hi
          obtain ⟨wy, rfl⟩ : ∃ x, x = wr := ⟨_, rfl⟩
          go_wp2
          go_loopw [48] (fun i wr => ∃ (j : Nat), j ≤ m ∧ i = .int .i64 j ∧ wiB 10 f = wiB 10 (f.drop j) ∧ Below wy.heap.size wy wr) (fun i _ => m - (intOf i).toNat)
          case atStart => exact ⟨0, Nat.zero_le _, rfl, rfl, Below.refl _ _⟩
          case round =>
            obtain ⟨j, hj, rfl, hv, hbj⟩ := hrel
            by_cases hjt : j < m
            · obtain ⟨b3, off3, rfl, hb3, hc3⟩ := (At.below HAX.out hbj).some (by have := HM.out; omega)
              have hcz := hc3 j (by have := HM.out; omega)
              rw [wiB_step (by have := HM.out; omega)] at hv
              obtain ⟨y, hy⟩ : ∃ y, y = f.getD j 0 := ⟨_, rfl⟩
              rw [← hy] at hcz hv
              have hji : (j : Int) < (m : Int) := by omega
              have HV := Hid.mk hv
              have HBJ := Hid.mk hbj
              have K := Hid.mk (l1In_any y 1 10 wr)
              clear hv hbj hy hc3
              go_wp2_with fail
              refine K.out.mono ?_
              rintro e w1 ⟨rfl, hw1⟩
              obtain rfl := hw1.symm
              clear K
              rw [show (decide (1 ≤ y) && decide (y ≤ 10)) = inB 10 y from rfl]
              cases hi : inB 10 y with
              | false =>
                go_wp2
                go_ret
                exact ⟨by rw [HG.out, HT.out, HV.out, hi]; simp, B0.trans ((HB.out.trans (HBJ.out.mono HB.out.size)).mono (by omega))⟩
              | true =>
                go_wp2
                go_roundw
                case rel => exact ⟨j + 1, by omega, by go_num, by rw [HV.out, hi]; rfl, HBJ.out⟩
                case measure => simp [intOf]; omega
            · obtain rfl : j = m := by omega
              have hji : ¬ (j : Int) < (j : Int) := by omega
              have HV := Hid.mk hv
              have HBJ := Hid.mk hbj
              clear hv hbj
              go_wp2
              go_roundw
              case rel => exact ⟨j + 1, by omega, by go_num, by rw [HT.out, HV.out, wiB_done HM.out]; simp, HU2.out, HB.out.trans (HBJ.out.mono HB.out.size)⟩
              case measure => simp [intOf]; omega
        · have e1' : ((m : Int) == (k : Int)) = false := beq_eq_false_iff_ne.2 (by omega)
          go_wp2_with fail
          refine K.out.mono ?_
          rintro e w1 ⟨rfl, hw1⟩
          obtain rfl := hw1.symm
          rw [show (decide (1 ≤ x) && decide (x ≤ 50)) = true from hi]
          go_wp2
          go_ret
          exact ⟨by rw [HG.out, HT.out, decide_eq_false e1]; simp, B0.trans (HB.out.mono (by omega))⟩
      · obtain rfl : k = pn := by omega
        have hki : ¬ (k : Int) < (k : Int) := by omega
        have HT := Hid.mk ht
        have HU := Hid.mk hu
        have HB := Hid.mk hbw
        clear ht hbw hu
        go_wp2
        go_ret
        exact ⟨by rw [HG.out, HT.out, HU.out, facB_done HZ.out, wiB_done HS.out]; rfl, B0.trans (HB.out.mono (by omega))⟩
  · have c3' : ((pn : Int) == (sn : Int)) = false := beq_eq_false_iff_ne.2 (by omega)
    have HG : Hid (gsB zs fs = false) := by show _ = _; unfold gsB; rw [HS.out, HZ.out, decide_eq_false c3]; simp
    go_enter Try.func26, Try.ntmps26
    go_wp2_with fail
    rw [← hW]
    clear hW
    refine KL.out.mono ?_
    rintro e w1 ⟨rfl, hw1⟩
    obtain rfl := hw1.symm
    rw [c1]
    go_wp2
    go_ret
    exact ⟨by rw [HG.out]; rfl, B0⟩

end Go.Proofs.Yteggbamjfhbmfaa
