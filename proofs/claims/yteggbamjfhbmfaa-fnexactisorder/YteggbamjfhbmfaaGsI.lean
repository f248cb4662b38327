/- Contracts of allWithin and GoodStats, the program's and the model's. -/
import Derived.Test.YteggbamjfhbmfaaGsP
import Derived.Test.YteggbamjfhbmfaaL1In
import Derived.Test.YteggbamjfhbmfaaRows
import Derived.Deep.CutBlock
namespace Go.Proofs.Yteggbamjfhbmfaa
open Go.RowKit

set_option maxHeartbeats 1000000 in
theorem allWithin_any (a : Option Addr) (n c : Nat) (zs : List Int) (C : Int) (w : World) (hz : zs.length = n) (hn : n ≤ 9223372036854775807) (ha : At w a zs) :
    Calls Try.prog 54 #[.slice a n c, .int .i64 C] w fun e w' => e = .returned (.bool (wiB C zs)) ∧ Below w.heap.size w w' := by
  by_cases h0 : n = 0
  · subst h0
    obtain rfl := List.eq_nil_of_length_eq_zero hz
    go_enter Try.func54, Try.ntmps54
    go_wp2
    refine wp_loop_rounds 1 ?_
    rw [rounds_succ]
    go_wp2
    go_ret
    exact ⟨rfl, Below.refl _ _⟩
  · obtain ⟨b, off, rfl, hb, hc⟩ := ha.some (by omega)
    clear ha
    go_enter Try.func54, Try.ntmps54
    go_wp2
    go_loopw [9] (fun i wr => ∃ (k : Nat), k ≤ n ∧ i = .int .i64 k ∧ wiB C zs = wiB C (zs.drop k) ∧ Below w.heap.size w wr) (fun i _ => n - (intOf i).toNat)
    case atStart => exact ⟨0, Nat.zero_le _, rfl, rfl, Below.refl _ _⟩
    case round =>
      obtain ⟨k, hk, rfl, ht, hbw⟩ := hrel
      by_cases hlt : k < n
      · have hcx : wr.cell? ⟨b, off + k, none⟩ = some (.int .i64 (zs.getD k 0)) := (hbw.cell hb).trans (hc k (by omega))
        rw [wiB_step (by omega)] at ht
        obtain ⟨x, hx⟩ : ∃ x, x = zs.getD k 0 := ⟨_, rfl⟩
        rw [← hx] at hcx ht
        have HT := Hid.mk ht
        clear hx ht hc
        by_cases c1 : x < 1
        · go_wp2
          go_ret
          exact ⟨by rw [HT.out]; unfold inB; rw [decide_eq_false (by omega : ¬ 1 ≤ x)]; rfl, hbw⟩
        · by_cases c2 : C < x
          · go_wp2
            go_ret
            exact ⟨by rw [HT.out]; unfold inB; rw [decide_eq_false (by omega : ¬ x ≤ C)]; simp, hbw⟩
          · go_wp2
            go_roundw
            case rel => exact ⟨k + 1, by omega, by go_num, by rw [HT.out]; unfold inB; rw [decide_eq_true (by omega : 1 ≤ x), decide_eq_true (by omega : x ≤ C)]; rfl, hbw⟩
            case measure => simp [intOf]; omega
      · have HT := Hid.mk ht
        clear ht
        go_wp2
        go_ret
        exact ⟨by rw [HT.out, wiB_done (by omega)]; rfl, hbw⟩

set_option maxRecDepth 100000 in
set_option maxHeartbeats 4000000 in
theorem implGoodStats (sa : Option Addr) (sn sc : Nat) (zs : List Int) (pa : Option Addr) (pn pc : Nat) (fs : List (List Int)) (w : World) (hs : zs.length = sn) (hsn : sn ≤ 9223372036854775807) (hsa : At w sa zs) (hz : fs.length = pn) (hn : pn ≤ 9223372036854775807) (ha : AtS w pa fs) :
    Calls Try.prog 28 #[.agg #[.slice sa sn sc, .slice pa pn pc]] w fun e w' => e = .returned (.bool (gsB zs fs)) ∧ Below w.heap.size w w' := by
  obtain ⟨W, hW⟩ : ∃ W, W = w.alloc (.cells #[.slice sa sn sc, .slice pa pn pc] 53) := ⟨_, rfl⟩
  have B0 : Below w.heap.size w W := by rw [hW]; exact (Below.refl _ _).alloc (Nat.le_refl _) _
  have q0 : W.cell? ⟨w.heap.size, 0, none⟩ = some (.slice sa sn sc) := by rw [hW]; simp
  have q1 : W.cell? ⟨w.heap.size, 1, none⟩ = some (.slice pa pn pc) := by rw [hW]; simp
  have HS := Hid.mk hs
  have HZ := Hid.mk hz
  have HSA := Hid.mk (At.below hsa B0)
  have HA := Hid.mk (AtS.below ha B0)
  have zW : w.heap.size < W.heap.size := by rw [hW]; simp
  clear hs hz hsa ha
  by_cases c1 : sn < 1
  · have c1' : (sn : Int) < 1 := by omega
    have HG : Hid (gsB zs fs = false) := by show _ = _; unfold gsB; rw [HS.out, decide_eq_false (by omega : ¬ 1 ≤ sn)]; rfl
    go_enter Try.func28, Try.ntmps28
    go_wp2
    go_ret
    exact ⟨by rw [HG.out]; rfl, by rw [← hW]; exact B0⟩
  have c1' : ¬ (sn : Int) < 1 := by omega
  by_cases c2 : 6 < sn
  · have c2' : (6 : Int) < (sn : Int) := by omega
    have HG : Hid (gsB zs fs = false) := by show _ = _; unfold gsB; rw [HS.out, decide_eq_false (by omega : ¬ sn ≤ 6)]; simp
    go_enter Try.func28, Try.ntmps28
    go_wp2
    go_ret
    exact ⟨by rw [HG.out]; rfl, by rw [← hW]; exact B0⟩
  have c2' : ¬ (6 : Int) < (sn : Int) := by omega
  by_cases c3 : pn = sn
  · subst c3
    have c3' : ((pn : Int) == (pn : Int)) = true := by simp
    have HG : Hid (gsB zs fs = (facB 0 fs && wiB 50 zs)) := by show _ = _; unfold gsB; rw [HS.out, HZ.out, decide_eq_true (by omega : 1 ≤ pn), decide_eq_true (by omega : pn ≤ 6)]; simp
    go_enter Try.func28, Try.ntmps28
    go_upto_region 3 with fail
    rw [← hW]
    clear hW
    go_wp2
    go_loopw [27] (fun i wr => ∃ (k : Nat), k ≤ pn ∧ i = .int .i64 k ∧ facB 0 fs = facB k (fs.drop k) ∧ Below W.heap.size W wr) (fun i _ => pn - (intOf i).toNat)
    case atStart => exact ⟨0, Nat.zero_le _, rfl, rfl, Below.refl _ _⟩
    case round =>
      obtain ⟨k, hk, rfl, ht, hbw⟩ := hrel
      by_cases hlt : k < pn
      · obtain ⟨f, hf⟩ : ∃ f, fs[k]? = some f := ⟨_, List.getElem?_eq_getElem (by have := HZ.out; omega)⟩
        obtain ⟨b, off, a', c', rfl, hcx, hm1, hax⟩ := atS_rw (AtS.below HA.out hbw) hf
        rw [facB_step hf] at ht
        obtain ⟨m, hm⟩ : ∃ m, f.length = m := ⟨_, rfl⟩
        rw [hm] at hcx hm1 ht
        have hki : (k : Int) < (pn : Int) := by omega
        have HT := Hid.mk ht
        have HM := Hid.mk hm
        have HB := Hid.mk hbw
        have K := Hid.mk (allWithin_any a' m c' f 10 wr hm hm1 hax)
        clear ht hm hbw hf hax
        by_cases e1 : m = k
        · subst e1
          have e1' : ((m : Int) == (m : Int)) = true := by simp
          go_wp2_with fail
          refine K.out.mono ?_
          rintro e w2 ⟨rfl, hb2⟩
          have HB2 := Hid.mk (HB.out.trans (hb2.mono HB.out.size))
          clear hb2 K
          cases hr : wiB 10 f with
          | false =>
            go_wp2
            go_ret
            exact ⟨by rw [HG.out, HT.out, hr]; simp, B0.trans (HB2.out.mono (by omega))⟩
          | true =>
            go_wp2
            go_roundw
            case rel => exact ⟨m + 1, by omega, by go_num, by rw [HT.out, hr]; simp, HB2.out⟩
            case measure => simp [intOf]; omega
        · have e1' : ((m : Int) == (k : Int)) = false := beq_eq_false_iff_ne.2 (by omega)
          clear K
          go_wp2
          go_ret
          exact ⟨by rw [HG.out, HT.out, decide_eq_false e1]; simp, B0.trans (HB.out.mono (by omega))⟩
      · obtain rfl : k = pn := by omega
        have hki : ¬ (k : Int) < (k : Int) := by omega
        have HT := Hid.mk ht
        have q0 := cell_later hbw q0
        have K := Hid.mk (allWithin_any sa k sc zs 50 wr HS.out hsn (At.below HSA.out hbw))
        have HB := Hid.mk hbw
        clear ht hbw
        go_wp2_with fail
        refine K.out.mono ?_
        rintro e w2 ⟨rfl, hb2⟩
        have HB2 := Hid.mk (HB.out.trans (hb2.mono HB.out.size))
        clear hb2 K
        go_wp2
        go_ret
        exact ⟨by rw [HG.out, HT.out, facB_done HZ.out, Bool.true_and]; rfl, B0.trans (HB2.out.mono (by omega))⟩
  · have c3' : ((pn : Int) == (sn : Int)) = false := beq_eq_false_iff_ne.2 (by omega)
    have HG : Hid (gsB zs fs = false) := by show _ = _; unfold gsB; rw [HS.out, HZ.out, decide_eq_false c3]; simp
    go_enter Try.func28, Try.ntmps28
    go_wp2
    go_ret
    exact ⟨by rw [HG.out]; rfl, by rw [← hW]; exact B0⟩

end Go.Proofs.Yteggbamjfhbmfaa
