/- Contracts of IsOrder, the program's and the model's. -/
import Derived.Test.YteggbamjfhbmfaaSqJ
import Derived.Test.YteggbamjfhbmfaaCloN
import Derived.Test.YteggbamjfhbmfaaGsS
namespace Go.Proofs.Yteggbamjfhbmfaa
open Go.RowKit

def ordB (zs : List Int) (fs : List (List Int)) (l : List Int) : Bool := gsB zs fs && eachB l zs.length

set_option maxRecDepth 100000 in
set_option maxHeartbeats 4000000 in
theorem implIsOrder (sa : Option Addr) (sn sc : Nat) (zs : List Int) (pa : Option Addr) (pn pc : Nat) (fs : List (List Int)) (a : Option Addr) (n c : Nat) (l : List Int) (w : World) (hs : zs.length = sn) (hsn : sn ≤ 9223372036854775807) (hsa : At w sa zs) (hz : fs.length = pn) (hpn : pn ≤ 9223372036854775807) (ha : AtS w pa fs) (hl : l.length = n) (hn : n ≤ 1048576) (hla : At w a l) :
    Calls Try.prog 35 #[.agg #[.slice sa sn sc, .slice pa pn pc], .slice a n c] w fun e w' => e = .returned (.bool (ordB zs fs l)) ∧ Below w.heap.size w w' := by
  obtain ⟨W, hW⟩ : ∃ W, W = w.alloc (.cells #[.slice sa sn sc, .slice pa pn pc] 53) := ⟨_, rfl⟩
  have B0 : Below w.heap.size w W := by rw [hW]; exact (Below.refl _ _).alloc (Nat.le_refl _) _
  have q0 : W.cell? ⟨w.heap.size, 0, none⟩ = some (.slice sa sn sc) := by rw [hW]; simp
  have HS := Hid.mk hs
  have HL := Hid.mk hl
  have HLA := Hid.mk (At.below hla B0)
  have K := Hid.mk (implGoodStats sa sn sc zs pa pn pc fs W hs hsn (At.below hsa B0) hz hpn (AtS.below ha B0))
  clear hs hz hl hsa ha hla
  go_enter Try.func35, Try.ntmps35
  go_wp2_with fail
  rw [← hW]
  clear hW
  refine K.out.mono ?_
  rintro e w1 ⟨rfl, hb1⟩
  have q0 := cell_later hb1 q0
  have B1 := Hid.mk (B0.trans (hb1.mono B0.size))
  have HLA1 := Hid.mk (At.below HLA.out hb1)
  clear hb1 K HLA
  cases hg : gsB zs fs with
  | false =>
    go_wp2
    go_ret
    exact ⟨by unfold ordB; rw [hg]; rfl, B1.out⟩
  | true =>
    have HV : Hid (ordB zs fs l = eachB l sn) := by show _ = _; unfold ordB; rw [hg, HS.out]; rfl
    have h6 := (gsF hg).n6
    rw [HS.out] at h6
    have K2 := Hid.mk (eachOnce_any a n c l sn w1 HL.out hn (by omega) HLA1.out)
    go_wp2_with fail
    refine K2.out.mono ?_
    rintro e w2 ⟨rfl, hb2⟩
    have B2 := Hid.mk (B1.out.trans (hb2.mono B1.out.size))
    clear hb2 K2
    go_wp2
    go_ret
    exact ⟨by rw [HV.out]; rfl, B2.out⟩

theorem all_in_step {m : Int} {l : List Int} {k : Nat} {x : Int} (h : l[k]? = some x) : (l.drop k).all (fun x => decide (0 ≤ x) && decide (x < m)) = ((decide (0 ≤ x) && decide (x < m)) && (l.drop (k + 1)).all (fun x => decide (0 ≤ x) && decide (x < m))) := by
  obtain ⟨hk, rfl⟩ := List.getElem?_eq_some_iff.1 h
  rw [List.drop_eq_getElem_cons hk, List.all_cons]
theorem putI_take {l : List Int} {k : Nat} {x : Int} (h : l[k]? = some x) : putI [] (l.take (k + 1)) = insI (putI [] (l.take k)) x := by
  obtain ⟨hk, rfl⟩ := List.getElem?_eq_some_iff.1 h
  rw [List.take_succ_eq_append_getElem hk, putI_snoc]

set_option maxRecDepth 100000 in
set_option maxHeartbeats 4000000 in
theorem specIsOrder (sa : Option Addr) (sn sc : Nat) (zs : List Int) (pa : Option Addr) (pn pc : Nat) (fs : List (List Int)) (a : Option Addr) (n c : Nat) (l : List Int) (w : World) (hs : zs.length = sn) (hsn : sn ≤ 9223372036854775807) (hsa : At w sa zs) (hz : fs.length = pn) (hpn : pn ≤ 9223372036854775807) (ha : AtS w pa fs) (hl : l.length = n) (hn : n ≤ 1048576) (hla : At w a l) :
    Calls Try.prog 34 #[.agg #[.slice sa sn sc, .slice pa pn pc], .slice a n c] w fun e w' => e = .returned (.bool (ordB zs fs l)) ∧ Below w.heap.size w w' := by
  obtain ⟨W, hW⟩ : ∃ W, W = w.alloc (.cells #[.slice sa sn sc, .slice pa pn pc] 53) := ⟨_, rfl⟩
  have B0 : Below w.heap.size w W := by rw [hW]; exact (Below.refl _ _).alloc (Nat.le_refl _) _
  have q0 : W.cell? ⟨w.heap.size, 0, none⟩ = some (.slice sa sn sc) := by rw [hW]; simp
  have HS := Hid.mk hs
  have HL := Hid.mk hl
  have HLA := Hid.mk (At.below hla B0)
  have K := Hid.mk (specGoodStats sa sn sc zs pa pn pc fs W hs hsn (At.below hsa B0) hz hpn (AtS.below ha B0))
  clear hs hz hl hsa ha hla
  go_enter Try.func34, Try.ntmps34
  go_wp2_with fail
  rw [← hW]
  clear hW
  refine K.out.mono ?_
  rintro e w1 ⟨rfl, hb1⟩
  have q0 := cell_later hb1 q0
  have B1 := Hid.mk (B0.trans (hb1.mono B0.size))
  have HLA1 := Hid.mk (At.below HLA.out hb1)
  clear hb1 K HLA
  cases hg : gsB zs fs with
  | false =>
    go_wp2
    go_ret
    exact ⟨by unfold ordB; rw [hg]; rfl, B1.out⟩
  | true =>
  have h6 := (gsF hg).n6
  rw [HS.out] at h6
  have HV : Hid (ordB zs fs l = isoB sn l) := by show _ = _; unfold ordB; rw [hg, HS.out, isoB_each h6]; rfl
  clear hg
  by_cases hns : n = sn
  · subst hns
    have hnb : ((n : Int) == (n : Int)) = true := by simp
    have HV2 : Hid (ordB zs fs l = (l.all (fun x => decide (0 ≤ x) && decide (x < (n : Int))) && decide ((putI [] l).length = n))) := by
      show _ = _; rw [HV.out]; unfold isoB; rw [HL.out, decide_eq_true rfl]; rfl
    have HN : Hid (n ≤ 6) := h6
    clear h6
    have zB : w.heap.size ≤ w1.heap.size := B1.out.size
    go_wp2
    go_loopw [5, 21] (fun p i wr => ∃ (k m : Nat) (r : Option Addr) (d : Nat), k ≤ n ∧ m ≤ k ∧ i = .int .i64 k ∧ p = .slice r m d ∧ (putI [] (l.take k)).length = m ∧ wr.ownsRow w1.heap.size 3 1 (.slice r m d) m ((putI [] (l.take k)).map (.int .i64)) ∧
      l.all (fun x => decide (0 ≤ x) && decide (x < (n : Int))) = (l.drop k).all (fun x => decide (0 ≤ x) && decide (x < (n : Int))) ∧ Below w1.heap.size w1 wr) (fun _ i _ => n - (intOf i).toNat)
    case atStart => exact ⟨0, 0, none, 0, Nat.zero_le _, Nat.le_refl _, rfl, rfl, rfl, World.ownsRow_nil _ _ _ _, rfl, Below.refl _ _⟩
    case round =>
      obtain ⟨k, m, r, d, hk, hmk, rfl, rfl, hm, ho, hall, hbw⟩ := hrel
      by_cases hlt : k < n
      · obtain ⟨x, hx⟩ : ∃ x, l[k]? = some x := ⟨_, List.getElem?_eq_getElem (by have := HL.out; omega)⟩
        obtain ⟨b, off, rfl, hb, hcl⟩ := HLA1.out.some (by have := HL.out; omega)
        have hcx : wr.cell? ⟨b, off + k, none⟩ = some (.int .i64 x) := by
          have h9 := (hbw.cell hb).trans (hcl k (by have := HL.out; omega))
          rw [h9]
          have : l.getD k 0 = x := by simp [List.getD, hx]
          rw [this]
        rw [all_in_step hx] at hall
        have hki : (k : Int) < (n : Int) := by omega
        have HM := Hid.mk hm
        have HPT := Hid.mk (putI_take hx)
        have HALL := Hid.mk hall
        have HB := Hid.mk hbw
        have K7 := Hid.mk (l7Put_any w1.heap.size r m d (putI [] (l.take k)) x wr hm (by have := HN.out; omega) hbw.size ho)
        clear hm hall hbw hcl hx ho
        by_cases c1 : x < 0
        · clear K7
          go_wp2
          go_ret
          exact ⟨by rw [HV2.out, HALL.out, decide_eq_false (by omega : ¬ 0 ≤ x)]; rfl, B1.out.trans (HB.out.mono zB)⟩
        · by_cases c2 : (n : Int) ≤ x
          · clear K7
            go_wp2
            go_ret
            exact ⟨by rw [HV2.out, HALL.out, decide_eq_false (by omega : ¬ x < (n : Int))]; simp, B1.out.trans (HB.out.mono zB)⟩
          · go_wp2_with fail
            refine K7.out.mono ?_
            rintro e w3 ⟨r3, m3, d3, rfl, hm3, ho3, hb3⟩
            have hm3' : m3 ≤ k + 1 := by
              rw [← hm3, ← HPT.out]
              have := (putI_len (l.take (k + 1)) []).1
              simp only [List.length_nil, List.length_take] at this
              omega
            have HM3 := Hid.mk hm3
            have HO3 := Hid.mk ho3
            have HB3 := Hid.mk (HB.out.trans (hb3.mono HB.out.size))
            clear hm3 ho3 hb3 K7
            go_wp2
            go_roundw
            case rel => exact ⟨k + 1, m3, r3, d3, by omega, hm3', by go_num, rfl, by rw [HPT.out]; exact HM3.out, by rw [HPT.out]; exact HO3.out, by rw [HALL.out, decide_eq_true (by omega : 0 ≤ x), decide_eq_true (by omega : x < (n : Int))]; rfl, HB3.out⟩
            case measure => simp [intOf]; omega
      · obtain rfl : k = n := by omega
        have hki : ¬ (k : Int) < (k : Int) := by omega
        rw [List.take_of_length_le (by have := HL.out; omega)] at hm
        have HF : Hid (ordB zs fs l = decide (m = k)) := by
          show _ = _; rw [HV2.out, hall, List.drop_of_length_le (by have := HL.out; omega), hm]; rfl
        have HB := Hid.mk hbw
        clear hm hall hbw ho
        by_cases e1 : m = k
        · have e1' : ((m : Int) == (k : Int)) = true := by rw [e1]; simp
          go_wp2
          go_ret
          exact ⟨by rw [HF.out, decide_eq_true e1]; rfl, B1.out.trans (HB.out.mono zB)⟩
        · have e1' : ((m : Int) == (k : Int)) = false := beq_eq_false_iff_ne.2 (by omega)
          go_wp2
          go_ret
          exact ⟨by rw [HF.out, decide_eq_false e1]; rfl, B1.out.trans (HB.out.mono zB)⟩
  · have hnb : ((n : Int) == (sn : Int)) = false := beq_eq_false_iff_ne.2 (by omega)
    have HF : Hid (ordB zs fs l = false) := by show _ = _; rw [HV.out]; unfold isoB; rw [HL.out, decide_eq_false hns]; rfl
    clear hns
    go_wp2
    go_ret
    exact ⟨by rw [HF.out]; rfl, B1.out⟩

end Go.Proofs.Yteggbamjfhbmfaa
