/- Contracts of SizeOf, the program's and the model's. -/
import Derived.Test.YteggbamjfhbmfaaSzI
import Derived.Test.YteggbamjfhbmfaaSzS
import Derived.Test.YteggbamjfhbmfaaGsS
import Derived.Test.YteggbamjfhbmfaaRisI
namespace Go.Proofs.Yteggbamjfhbmfaa
open Go.RowKit

/-- Some tables: rising numbers, at least one. -/
def smT (zs : List Int) (fs : List (List Int)) (l : List Int) : Bool := gsB zs fs && (decide (0 < l.length) && ris (zs.length : Int) l)
theorem smT_gs {zs : List Int} {fs : List (List Int)} {l : List Int} (h : smT zs fs l = true) : gsB zs fs = true := by
  simp only [smT, Bool.and_eq_true] at h; exact h.1
theorem risB_pair {c : Int} : ∀ {l : List Int} {p : Int}, risB c p l = true → (∀ x ∈ l, p < x ∧ x < c) ∧ l.Pairwise (· < ·)
  | [], _, _ => ⟨fun _ h => by simp at h, List.Pairwise.nil⟩
  | z :: l, p, h => by
    simp only [risB, Bool.and_eq_true, decide_eq_true_eq] at h
    obtain ⟨h1, h2⟩ := risB_pair h.2.2
    refine ⟨fun x hx => ?_, List.pairwise_cons.2 ⟨fun x hx => (h1 x hx).1, h2⟩⟩
    rcases List.mem_cons.1 hx with rfl | hx
    · exact ⟨h.1, h.2.1⟩
    · have := h1 x hx; omega
theorem ris_tbl {n : Nat} {l : List Int} (h : ris (n : Int) l = true) : TbL n l := by
  obtain ⟨h1, h2⟩ := risB_pair h
  exact ⟨h2.imp (fun h => by omega), fun x hx => by have := h1 x hx; omega⟩
theorem pair_lt {l : List Int} (h : l.Pairwise (· < ·)) (i j : Nat) (x y : Int) (hx : l[i]? = some x) (hy : l[j]? = some y) (hij : i < j) : x < y := by
  obtain ⟨h1, rfl⟩ := List.getElem?_eq_some_iff.1 hx
  obtain ⟨h2, rfl⟩ := List.getElem?_eq_some_iff.1 hy
  exact List.pairwise_iff_getElem.1 h i j h1 h2 hij
theorem ris_lt {n : Nat} {l : List Int} (h : ris (n : Int) l = true) (i j : Nat) (x y : Int) (hx : l[i]? = some x) (hy : l[j]? = some y) (hij : i < j) : x < y := pair_lt (risB_pair h).2 i j x y hx hy hij
def szA (zs : List Int) (fs : List (List Int)) (l : List Int) : Int := if smT zs fs l then szQ zs fs l else 0

set_option maxRecDepth 100000 in
set_option maxHeartbeats 4000000 in
theorem areSome_any (sa : Option Addr) (sn sc : Nat) (zs : List Int) (pa : Option Addr) (pn pc : Nat) (fs : List (List Int)) (a : Option Addr) (n c : Nat) (l : List Int) (w : World) (hs : zs.length = sn) (hsn : sn ≤ 9223372036854775807) (hsa : At w sa zs) (hz : fs.length = pn) (hpn : pn ≤ 9223372036854775807) (ha : AtS w pa fs) (hl : l.length = n) (hn : n ≤ 9223372036854775807) (hla : At w a l) :
    Calls Try.prog 58 #[.agg #[.slice sa sn sc, .slice pa pn pc], .slice a n c] w fun e w' => e = .returned (.bool (smT zs fs l)) ∧ Below w.heap.size w w' := by
  obtain ⟨W, hW⟩ : ∃ W, W = w.alloc (.cells #[.slice sa sn sc, .slice pa pn pc] 53) := ⟨_, rfl⟩
  have B0 : Below w.heap.size w W := by rw [hW]; exact (Below.refl _ _).alloc (Nat.le_refl _) _
  have q0 : W.cell? ⟨w.heap.size, 0, none⟩ = some (.slice sa sn sc) := by rw [hW]; simp
  have HS := Hid.mk hs
  have HL := Hid.mk hl
  have HLA := Hid.mk (At.below hla B0)
  have K := Hid.mk (implGoodStats sa sn sc zs pa pn pc fs W hs hsn (At.below hsa B0) hz hpn (AtS.below ha B0))
  clear hs hz hl hsa ha hla
  go_enter Try.func58, Try.ntmps58
  go_wp2_with fail
  rw [← hW]
  clear hW
  refine K.out.mono ?_
  rintro e w1 ⟨rfl, hb1⟩
  have q0 := cell_later hb1 q0
  have B1 := Hid.mk (B0.trans (hb1.mono B0.size))
  have HLA1 := Hid.mk (At.below HLA.out hb1)
  clear hb1 K HLA
  cases hg : gsB zs fs with
  | false =>
    go_wp2
    go_ret
    exact ⟨by unfold smT; rw [hg]; rfl, B1.out⟩
  | true =>
  by_cases h0 : n = 0
  · have h0' : ¬ (0 : Int) < (n : Int) := by omega
    have HV : Hid (smT zs fs l = false) := by show _ = _; unfold smT; rw [HL.out, decide_eq_false (by omega : ¬ 0 < n)]; simp
    clear h0
    go_wp2
    go_ret
    exact ⟨by rw [HV.out]; rfl, B1.out⟩
  · have h0' : (0 : Int) < (n : Int) := by omega
    have HV : Hid (smT zs fs l = ris (sn : Int) l) := by show _ = _; unfold smT; rw [hg, HL.out, HS.out, decide_eq_true (by omega : 0 < n)]; rfl
    have K2 := Hid.mk (areRising_any a n c l (sn : Int) w1 HL.out hn HLA1.out)
    go_wp2_with fail
    refine K2.out.mono ?_
    rintro e w2 ⟨rfl, hb2⟩
    have B2 := Hid.mk (B1.out.trans (hb2.mono B1.out.size))
    clear hb2 K2
    go_wp2
    go_ret
    exact ⟨by rw [HV.out]; rfl, B2.out⟩

set_option maxRecDepth 100000 in
set_option maxHeartbeats 4000000 in
theorem implSizeOf (sa : Option Addr) (sn sc : Nat) (zs : List Int) (pa : Option Addr) (pn pc : Nat) (fs : List (List Int)) (a : Option Addr) (n c : Nat) (l : List Int) (w : World) (hs : zs.length = sn) (hsn : sn ≤ 9223372036854775807) (hsa : At w sa zs) (hz : fs.length = pn) (hpn : pn ≤ 9223372036854775807) (ha : AtS w pa fs) (hl : l.length = n) (hn : n ≤ 9223372036854775807) (hc : n ≤ c) (hla : At w a l) :
    Calls Try.prog 31 #[.agg #[.slice sa sn sc, .slice pa pn pc], .slice a n c] w fun e w' => e = .returned (.tuple #[.int .i64 (szA zs fs l), .bool (smT zs fs l)]) ∧ Below w.heap.size w w' := by
  obtain ⟨W, hW⟩ : ∃ W, W = w.alloc (.cells #[.slice sa sn sc, .slice pa pn pc] 53) := ⟨_, rfl⟩
  have B0 : Below w.heap.size w W := by rw [hW]; exact (Below.refl _ _).alloc (Nat.le_refl _) _
  have q0 : W.cell? ⟨w.heap.size, 0, none⟩ = some (.slice sa sn sc) := by rw [hW]; simp
  have q1 : W.cell? ⟨w.heap.size, 1, none⟩ = some (.slice pa pn pc) := by rw [hW]; simp
  have HS := Hid.mk hs
  have HZ := Hid.mk hz
  have HL := Hid.mk hl
  have HSA := Hid.mk (At.below hsa B0)
  have HA := Hid.mk (AtS.below ha B0)
  have HLA := Hid.mk (At.below hla B0)
  have K := Hid.mk (areSome_any sa sn sc zs pa pn pc fs a n c l W hs hsn (At.below hsa B0) hz hpn (AtS.below ha B0) hl hn (At.below hla B0))
  clear hs hz hl hsa ha hla
  go_enter Try.func31, Try.ntmps31
  go_wp2_with fail
  rw [← hW]
  clear hW
  refine K.out.mono ?_
  rintro e w1 ⟨rfl, hb1⟩
  have q0 := cell_later hb1 q0
  have q1 := cell_later hb1 q1
  have B1 := Hid.mk (B0.trans (hb1.mono B0.size))
  have HLA1 := Hid.mk (At.below HLA.out hb1)
  have HSA1 := Hid.mk (At.below HSA.out hb1)
  have HA1 := Hid.mk (AtS.below HA.out hb1)
  clear hb1 K HLA HSA HA
  cases hg : smT zs fs l with
  | false =>
    go_wp2
    exact bodyPost_ret (v := .tuple #[.int .i64 0, .bool false]) (by simp [results, Try.results31, go_sem]) rfl ⟨by unfold szA; rw [hg]; rfl, B1.out⟩
  | true =>
    have HV : Hid (szA zs fs l = szQ zs fs l) := by show _ = _; unfold szA; rw [hg]; rfl
    have hgf := gsF (smT_gs hg)
    have hri : ris (zs.length : Int) l = true := by simp only [smT, Bool.and_eq_true] at hg; exact hg.2.2
    have K2 := Hid.mk (sizeOfJoined_any sa sn sc zs pa pn pc fs a n c l w1 HS.out HSA1.out HZ.out HA1.out HL.out hc HLA1.out hgf (ris_tbl hri))
    have HW := Hid.mk hg
    clear hgf hri hg
    go_wp2_with fail
    refine K2.out.mono ?_
    rintro e w2 ⟨rfl, hb2⟩
    have B2 := Hid.mk (B1.out.trans (hb2.mono B1.out.size))
    clear hb2 K2
    go_wp2
    exact bodyPost_ret (v := .tuple #[.int .i64 (szQ zs fs l), .bool true]) (by simp [results, Try.results31, go_sem]) rfl ⟨by rw [HV.out, HW.out], B2.out⟩

set_option maxRecDepth 100000 in
set_option maxHeartbeats 4000000 in
theorem specSizeOf (sa : Option Addr) (sn sc : Nat) (zs : List Int) (pa : Option Addr) (pn pc : Nat) (fs : List (List Int)) (a : Option Addr) (n c : Nat) (l : List Int) (w : World) (hs : zs.length = sn) (hsn : sn ≤ 9223372036854775807) (hsa : At w sa zs) (hz : fs.length = pn) (hpn : pn ≤ 9223372036854775807) (ha : AtS w pa fs) (hl : l.length = n) (hn : n ≤ 9223372036854775807) (hc : n ≤ c) (hla : At w a l) :
    Calls Try.prog 30 #[.agg #[.slice sa sn sc, .slice pa pn pc], .slice a n c] w fun e w' => e = .returned (.tuple #[.int .i64 (szA zs fs l), .bool (smT zs fs l)]) ∧ Below w.heap.size w w' := by
  obtain ⟨W, hW⟩ : ∃ W, W = w.alloc (.cells #[.slice sa sn sc, .slice pa pn pc] 53) := ⟨_, rfl⟩
  have B0 : Below w.heap.size w W := by rw [hW]; exact (Below.refl _ _).alloc (Nat.le_refl _) _
  have q0 : W.cell? ⟨w.heap.size, 0, none⟩ = some (.slice sa sn sc) := by rw [hW]; simp
  have q1 : W.cell? ⟨w.heap.size, 1, none⟩ = some (.slice pa pn pc) := by rw [hW]; simp
  have HS := Hid.mk hs
  have HZ := Hid.mk hz
  have HL := Hid.mk hl
  have HSA := Hid.mk (At.below hsa B0)
  have HA := Hid.mk (AtS.below ha B0)
  have HLA := Hid.mk (At.below hla B0)
  have K := Hid.mk (specGoodStats sa sn sc zs pa pn pc fs W hs hsn (At.below hsa B0) hz hpn (AtS.below ha B0))
  clear hs hz hl hsa ha hla
  go_enter Try.func30, Try.ntmps30
  go_wp2_with fail
  rw [← hW]
  clear hW
  refine K.out.mono ?_
  rintro e w1 ⟨rfl, hb1⟩
  have q0 := cell_later hb1 q0
  have q1 := cell_later hb1 q1
  have B1 := Hid.mk (B0.trans (hb1.mono B0.size))
  have HLA1 := Hid.mk (At.below HLA.out hb1)
  have HSA1 := Hid.mk (At.below HSA.out hb1)
  have HA1 := Hid.mk (AtS.below HA.out hb1)
  clear hb1 K HLA HSA HA
  cases hg : gsB zs fs with
  | false =>
    have HV : Hid (smT zs fs l = false) := by show _ = _; unfold smT; rw [hg]; rfl
    go_wp2
    exact bodyPost_ret (v := .tuple #[.int .i64 0, .bool false]) (by simp [results, Try.results30, go_sem]) rfl ⟨by unfold szA; rw [HV.out]; rfl, B1.out⟩
  | true =>
  have K2 := Hid.mk (l1Some_any a n c l (sn : Int) w1 HL.out hn HLA1.out)
  go_wp2_with fail
  refine K2.out.mono ?_
  rintro e w2 ⟨rfl, hb2⟩
  have q0 := cell_later hb2 q0
  have q1 := cell_later hb2 q1
  have B2 := Hid.mk (B1.out.trans (hb2.mono B1.out.size))
  have HLA2 := Hid.mk (At.below HLA1.out hb2)
  have HSA2 := Hid.mk (At.below HSA1.out hb2)
  have HA2 := Hid.mk (AtS.below HA1.out hb2)
  clear hb2 K2 HLA1 HSA1 HA1 B1
  cases hr : ris (sn : Int) l with
  | false =>
    have HV : Hid (smT zs fs l = false) := by show _ = _; unfold smT; rw [HS.out, hr]; simp
    go_wp2
    exact bodyPost_ret (v := .tuple #[.int .i64 0, .bool false]) (by simp [results, Try.results30, go_sem]) rfl ⟨by unfold szA; rw [HV.out]; rfl, B2.out⟩
  | true =>
  by_cases h0 : n = 0
  · have h0' : ((n : Int) == 0) = true := by rw [h0]; rfl
    have HV : Hid (smT zs fs l = false) := by show _ = _; unfold smT; rw [HL.out, decide_eq_false (by omega : ¬ 0 < n)]; simp
    clear h0
    go_wp2
    exact bodyPost_ret (v := .tuple #[.int .i64 0, .bool false]) (by simp [results, Try.results30, go_sem]) rfl ⟨by unfold szA; rw [HV.out]; rfl, B2.out⟩
  · have h0' : ((n : Int) == 0) = false := beq_eq_false_iff_ne.2 (by omega)
    have HW : Hid (smT zs fs l = true) := by show _ = _; unfold smT; rw [hg, HL.out, HS.out, hr, decide_eq_true (by omega : 0 < n)]; rfl
    have HV : Hid (szA zs fs l = szQ zs fs l) := by show _ = _; unfold szA; rw [HW.out]; rfl
    have hgf := gsF hg
    rw [← HS.out] at hr
    have K2 := Hid.mk (l12Size_any sa sn sc zs pa pn pc fs a n c l w2 HS.out HSA2.out HZ.out HA2.out HL.out hc HLA2.out hgf (ris_tbl hr) (ris_lt hr))
    clear hgf hr hg h0
    go_wp2_with fail
    refine K2.out.mono ?_
    rintro e w3 ⟨rfl, hb3⟩
    have B3 := Hid.mk (B2.out.trans (hb3.mono B2.out.size))
    clear hb3 K2
    go_wp2
    exact bodyPost_ret (v := .tuple #[.int .i64 (szQ zs fs l), .bool true]) (by simp [results, Try.results30, go_sem]) rfl ⟨by rw [HV.out, HW.out], B3.out⟩

end Go.Proofs.Yteggbamjfhbmfaa
