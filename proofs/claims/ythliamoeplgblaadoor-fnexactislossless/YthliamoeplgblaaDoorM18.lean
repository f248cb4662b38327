/- Several texts of one proof, in build order: IlI, StS, IlS. -/
import Derived.Test.YthliamoeplgblaaDoorM17
import Derived.Test.YthliamoeplgblaaDoorM14
import Derived.Test.YthliamoeplgblaaDoorM7
import Derived.Shelf.Abstract
import Derived.Test.YthliamoeplgblaaDoorM15
import Derived.Test.YthliamoeplgblaaDoorM16
import Derived.Test.YthliamoeplgblaaDoorM9
import Derived.Deep.CutBlock

/- Contracts of impl.isNoughts, slices.IndexFunc and slices.ContainsFunc with it, impl.IsLossless. -/
namespace Go.Proofs.YthliamoeplgblaaDoor
open Go.RowKit

def allZ (z : List Int) : Bool := z.all fun x => decide (x = 0)
def ilB (xs : List Dep) (parts : List (List Int)) (C : Int) : Bool := gpB parts C && goodDeps xs C
def ilV (xs : List Dep) (parts : List (List Int)) (C : Int) : Bool := ilB xs parts C && (chZ xs (stTo C.toNat parts parts.length)).1.any allZ
theorem allZ_of {z : List Int} {r : Int} (h1 : ∀ j, j < z.length → z.getD j 0 ≤ r) (h2 : ∃ j, j < z.length ∧ r = z.getD j 0) (h0 : ∀ j, j < z.length → 0 ≤ z.getD j 0) : decide (r = 0) = allZ z := by
  cases ha : allZ z with
  | true =>
    obtain ⟨j, hj, e⟩ := h2
    simp only [allZ, List.all_eq_true, decide_eq_true_eq] at ha
    have := ha z[j] (List.getElem_mem hj)
    exact decide_eq_true (by rw [e]; simp [List.getD, hj, this])
  | false =>
    refine decide_eq_false (fun hr => ?_)
    have : allZ z = true := by
      simp only [allZ, List.all_eq_true, decide_eq_true_eq]
      intro x hx
      obtain ⟨j, hj, rfl⟩ := List.getElem_of_mem hx
      have a1 := h1 j hj
      have a2 := h0 j hj
      have e : z.getD j 0 = z[j] := by simp [List.getD, hj]
      rw [e] at a1 a2
      omega
    rw [this] at ha
    cases ha
theorem any_drop {α : Type} {p : α → Bool} {xs : List α} {k : Nat} {x : α} (h : xs[k]? = some x) : (xs.drop k).any p = (p x || (xs.drop (k + 1)).any p) := by
  obtain ⟨hk, rfl⟩ := List.getElem?_eq_some_iff.1 h
  rw [List.drop_eq_getElem_cons hk, List.any_cons]

set_option maxHeartbeats 1000000 in
theorem isNoughts_any (a : Option Addr) (n c : Nat) (zs : List Int) (w : World) (hz : zs.length = n) (hn : n ≤ 9223372036854775807) (h1 : 1 ≤ n) (h0 : ∀ j, j < n → 0 ≤ zs.getD j 0) (ha : At w a zs) :
    Calls Tryd.prog 37 #[.agg #[.slice a n c]] w fun e w' => e = .returned (.bool (allZ zs)) ∧ Below w.heap.size w w' := by
  have B0 : Below w.heap.size w (w.alloc (.cells #[.slice a n c] 47)) := (Below.refl _ _).alloc (Nat.le_refl _) _
  have HA := Hid.mk (ha.below B0)
  clear ha
  go_enter Tryd.func37, Tryd.ntmps37
  go_wp2_with fail
  refine (maxI_any a n c zs _ hz hn h1 HA.out).mono ?_
  rintro e w1 ⟨r, rfl, hr1, hr2, hw1⟩
  obtain rfl := hw1.symm
  have HE := Hid.mk (allZ_of (z := zs) (r := r) (fun j hj => hr1 j (by omega)) (by obtain ⟨j, hj, e⟩ := hr2; exact ⟨j, by omega, e⟩) (fun j hj => h0 j (by omega)))
  clear hr1 hr2 h0
  by_cases hr : r = 0
  · have HE2 : Hid (allZ zs = true) := by show _ = _; rw [← HE.out]; exact decide_eq_true hr
    subst hr
    go_wp2
    go_ret
    exact ⟨by rw [HE2.out]; rfl, B0⟩
  · have HE2 : Hid (allZ zs = false) := by show _ = _; rw [← HE.out]; exact decide_eq_false hr
    have hne : (r == 0) = false := by simp [hr]
    go_wp2
    go_ret
    exact ⟨by rw [HE2.out]; first | rfl | simp [hr], B0⟩

/-- Rows that are not empty, and from 0 on. -/
def RowsPos (zss : List (List Int)) : Prop := ∀ (k : Nat) (z : List Int), zss[k]? = some z → 1 ≤ z.length ∧ z.length ≤ 1048576 ∧ ∀ j, j < z.length → 0 ≤ z.getD j 0

set_option maxRecDepth 100000 in
set_option maxHeartbeats 2000000 in
theorem indexNoughts_any (a : Option Addr) (n c : Nat) (zss : List (List Int)) (w : World) (hz : zss.length = n) (hn : n ≤ 9223372036854775807) (hp : RowsPos zss) (ha : AtS w a zss) :
    Calls Tryd.prog 55 #[.slice a n c, .func (.func 37) #[] #[]] w fun e w' => (∃ r : Int, e = .returned (.int .i64 r) ∧ decide (0 ≤ r) = zss.any allZ) ∧ Below w.heap.size w w' := by
  have HP := Hid.mk hp
  have HZ := Hid.mk hz
  have HA := Hid.mk ha
  clear hp hz ha
  go_enter Tryd.func55, Tryd.ntmps55
  go_wp2_with fail
  go_loopw [8] (fun i wr => ∃ k : Nat, k ≤ n ∧ i = .int .i64 k ∧ zss.any allZ = (zss.drop k).any allZ ∧ Below w.heap.size w wr) (fun i _ => n - (intOf i).toNat)
  case atStart => exact ⟨0, Nat.zero_le _, rfl, by simp, Below.refl _ _⟩
  case round =>
    obtain ⟨k, hk, rfl, hA, hbw⟩ := hrel
    by_cases hlt : k < n
    · obtain ⟨z, hy⟩ : ∃ z, zss[k]? = some z := ⟨_, List.getElem?_eq_getElem (by have := HZ.out; omega)⟩
      obtain ⟨b, off, a', c', rfl, hcx, hpl, hat⟩ := atS_row (HA.out.below hbw) hy
      obtain ⟨p1, p2, p3⟩ := HP.out k z hy
      rw [any_drop hy] at hA
      obtain ⟨m, hm⟩ : ∃ m, z.length = m := ⟨_, rfl⟩
      rw [hm] at hcx hpl p1 p3
      have KN := Hid.mk (isNoughts_any a' m c' z wr hm hpl p1 p3 hat)
      have hki : (k : Int) < (n : Int) := by omega
      have HAA := Hid.mk hA
      clear hA hy hat p3 hm
      cases hb : allZ z with
      | true =>
        rw [hb] at KN
        have HF : Hid (zss.any allZ = true) := by show _ = _; rw [HAA.out, hb]; rfl
        clear hb
        go_wp2_with fail
        refine KN.out.mono ?_
        rintro e w2 ⟨rfl, hb2⟩
        go_wp2
        go_ret
        exact ⟨⟨k, rfl, by rw [HF.out]; exact decide_eq_true (by omega)⟩, hbw.trans (hb2.mono hbw.size)⟩
      | false =>
        rw [hb] at KN
        have HF : Hid (zss.any allZ = (zss.drop (k + 1)).any allZ) := by show _ = _; rw [HAA.out, hb]; rfl
        clear hb
        go_wp2_with fail
        refine KN.out.mono ?_
        rintro e w2 ⟨rfl, hb2⟩
        go_wp2
        go_roundw
        case rel => exact ⟨k + 1, by omega, by go_num, HF.out, hbw.trans (hb2.mono hbw.size)⟩
        case measure => simp [intOf]; omega
    · obtain rfl : k = n := by omega
      have HF : Hid (zss.any allZ = false) := by show _ = _; rw [hA, List.drop_of_length_le (by have := HZ.out; omega)]; rfl
      clear hA
      go_wp2
      go_ret
      exact ⟨⟨-1, rfl, by rw [HF.out]; rfl⟩, hbw⟩

theorem containsNoughts_any (a : Option Addr) (n c : Nat) (zss : List (List Int)) (w : World) (hz : zss.length = n) (hn : n ≤ 9223372036854775807) (hp : RowsPos zss) (ha : AtS w a zss) :
    Calls Tryd.prog 36 #[.slice a n c, .func (.func 37) #[] #[]] w fun e w' => e = .returned (.bool (zss.any allZ)) ∧ Below w.heap.size w w' := by
  have KI := Hid.mk (indexNoughts_any a n c zss w hz hn hp ha)
  clear hz hp ha
  go_enter Tryd.func36, Tryd.ntmps36
  go_wp2_with fail
  refine KI.out.mono ?_
  rintro e w2 ⟨⟨r, rfl, hr⟩, hb2⟩
  have HR := Hid.mk hr
  clear hr
  go_wp2
  go_ret
  exact ⟨ret_bool HR.out, hb2⟩

theorem tb_pos {p : Int} {zss : List (List Int)} (h : tbB p zss = true) : RowsPos zss := fun k z hz => by
  have hr := tbB_row h hz
  have := rowOk_len hr
  have := tbB_C h
  exact ⟨by omega, by omega, fun j hj => (rowOk_cell hr j hj).1⟩
theorem nil_pos : RowsPos [] := fun k z hz => by simp at hz

set_option maxRecDepth 100000 in
set_option maxHeartbeats 4000000 in
theorem implIsLossless (la : Option Addr) (ln lc : Nat) (xs : List Dep) (a : Option Addr) (n c : Nat) (zss : List (List Int)) (C : Int) (w : World) (hlz : xs.length = ln) (hln : ln ≤ 9223372036854775807) (hz : zss.length = n) (hn : n ≤ 9223372036854775807) (hla : AtD w la xs) (ha : AtS w a zss) (htab : TabB w) :
    Calls Tryd.prog 17 #[.slice la ln lc, .slice a n c, .int .i64 C] w fun e w' => e = .returned (.tuple #[.bool (ilV xs zss C), .bool (ilB xs zss C)]) ∧ Below w.heap.size w w' := by
  have K1 := Hid.mk (implStartTableau a n c zss C w hz hn ha htab)
  have HL := Hid.mk hla
  have HLZ := Hid.mk hlz
  have HZ := Hid.mk hz
  clear hla ha htab hlz hz
  cases hg : gpB zss C with
  | false =>
    have HN : Hid (ilB xs zss C = false ∧ ilV xs zss C = false) := by
      have h1 : ilB xs zss C = false := by unfold ilB; rw [hg]; rfl
      exact ⟨h1, by unfold ilV; rw [h1]; rfl⟩
    unfold stC stL at K1
    rw [hg] at K1
    simp only [Bool.false_eq_true, if_false] at K1
    clear hg
    go_enter Tryd.func17, Tryd.ntmps17
    go_wp2_with fail
    refine K1.out.mono ?_
    rintro e w1 ⟨⟨r, m, d, rfl, hO⟩, hb1⟩
    clear hO K1
    go_wp2
    refine bodyPost_ret (v := .tuple #[.bool false, .bool false]) (by simp [results, Tryd.results17, go_sem]) rfl ⟨by rw [HN.out.1, HN.out.2], ?_⟩
    exact hb1.alloc hb1.size _
  | true =>
    have hst := stTo_good hg
    have h9 := gpB_C hg
    unfold stC stL at K1
    rw [hg] at K1
    simp only [if_true] at K1
    rw [show zss.length = n from HZ.out] at K1 hst
    have HLN := Hid.mk (stTo_len C.toNat zss n)
    have HIB : Hid (ilB xs zss C = goodDeps xs C) := by show _ = _; unfold ilB; rw [hg]; rfl
    have HIV : Hid (ilV xs zss C = (goodDeps xs C && (chZ xs (stTo C.toNat zss n)).1.any allZ)) := by show _ = _; unfold ilV; rw [HIB.out, show zss.length = n from HZ.out]
    obtain ⟨S, hS⟩ : ∃ S, stTo C.toNat zss n = S := ⟨_, rfl⟩
    rw [hS] at K1 hst HLN HIV
    have hn8 : 1 ≤ n ∧ n ≤ 8 := by have := HZ.out; omega
    have KA : Hid (∀ (r : Option Addr) (d : Nat) (w' : World), Below w.heap.size w w' → AtS w' r S → Calls Tryd.prog 35 #[.agg #[.int .i64 C, .slice r n d], .slice la ln lc] w' fun e w'' => TblRet3 e w'' w'.heap.size (goodDeps xs C) (caP C S xs) (caN C S xs) (caL C S xs) ∧ Below w'.heap.size w' w'') := fun r d w' h1 h2 => by
      have h := implChaseAll C r n d S la ln lc xs w' HLN.out (by omega) HLZ.out hln h2 (AtSl.below HL.out h1)
      have e : caB C S xs = goodDeps xs C := by unfold caB; rw [hst]; rfl
      rw [e] at h
      exact h
    have HCL : Hid (caL C S xs = if goodDeps xs C then (chZ xs S).1 else []) := by show _ = _; unfold caL caB; rw [hst]; rfl
    have HPOS : Hid (RowsPos (caL C S xs) ∧ (caL C S xs).length ≤ 8) := by
      rw [HCL.out]
      cases hd : goodDeps xs C with
      | false => exact ⟨nil_pos, by simp⟩
      | true =>
        have h := chZ_good hd hst
        exact ⟨tb_pos h, (tbB_n h).2⟩
    have HANY : Hid (ilV xs zss C = (caL C S xs).any allZ) := by
      show _ = _
      rw [HIV.out, HCL.out]
      cases goodDeps xs C <;> rfl
    obtain ⟨G, hG⟩ : ∃ G, goodDeps xs C = G := ⟨_, rfl⟩
    rw [hG] at KA HIB
    obtain ⟨L, hL⟩ : ∃ L, caL C S xs = L := ⟨_, rfl⟩
    rw [hL] at KA HPOS HANY
    obtain ⟨PP, hPP⟩ : ∃ P, caP C S xs = P := ⟨_, rfl⟩
    obtain ⟨NN, hNN⟩ : ∃ P, caN C S xs = P := ⟨_, rfl⟩
    rw [hPP, hNN] at KA
    clear hg hst h9 hS hG hL hPP hNN HIV HCL
    go_enter Tryd.func17, Tryd.ntmps17
    go_wp2_with fail
    refine K1.out.mono ?_
    rintro e w1 ⟨⟨r, m, d, rfl, hO⟩, hb1⟩
    obtain rfl : m = n := (RRows.atS hO).1.symm.trans HLN.out
    obtain ⟨X, hX⟩ : ∃ X, X = w1.alloc (.cells #[.int .i64 C, .slice r m d] 26) := ⟨_, rfl⟩
    have hbX : Below w1.heap.size w1 X := by rw [hX]; exact (Below.refl _ _).alloc (Nat.le_refl _) _
    have x0 : X.cell? ⟨w1.heap.size, 0, none⟩ = some (.int .i64 C) := by rw [hX]; exact pair0 _ _ _ _
    have x1 : X.cell? ⟨w1.heap.size, 1, none⟩ = some (.slice r m d) := by rw [hX]; exact pair1 _ _ _ _
    have BX := hb1.trans (hbX.mono hb1.size)
    have HS1 := Hid.mk (RRows.atS (RRows.ownBelow hO hbX)).2
    clear hO hb1 hbX K1
    go_upto_region 2 with fail
    rw [← hX]
    clear hX
    go_wp2_with fail
    refine (KA.out r d X BX HS1.out).mono ?_
    rintro e w3 ⟨⟨r3, m3, d3, rfl, hO3⟩, hb3⟩
    have hm3 := (RRows.atS hO3).1
    obtain ⟨Y, hY⟩ : ∃ Y, Y = w3.alloc (.cells #[.int .i64 PP, .slice r3 m3 d3] 26) := ⟨_, rfl⟩
    have hbY : Below w3.heap.size w3 Y := by rw [hY]; exact (Below.refl _ _).alloc (Nat.le_refl _) _
    have y1 : Y.cell? ⟨w3.heap.size, 1, none⟩ = some (.slice r3 m3 d3) := by rw [hY]; exact pair1 _ _ _ _
    have B3 := BX.trans (hb3.mono BX.size)
    have BY := B3.trans (hbY.mono B3.size)
    have KC := Hid.mk (containsNoughts_any r3 m3 d3 L Y hm3 (by have := HPOS.out.2; omega) HPOS.out.1 (RRows.atS (RRows.ownBelow hO3 hbY)).2)
    clear hO3 hb3 hbY hm3 B3
    go_upto_region 5 with fail
    rw [← hY]
    clear hY
    go_wp2_with fail
    refine KC.out.mono ?_
    rintro e w5 ⟨rfl, hb5⟩
    rw [← HANY.out]
    go_wp2
    refine bodyPost_ret (v := .tuple #[.bool (ilV xs zss C), .bool G]) (by simp [results, Tryd.results17, go_sem]) rfl ⟨by rw [HIB.out], ?_⟩
    exact BY.trans (hb5.mono BY.size)

end Go.Proofs.YthliamoeplgblaaDoor

/- Contracts of spec.l9Start, spec.StartTableau. -/
namespace Go.Proofs.YthliamoeplgblaaDoor
open Go.RowKit

set_option maxRecDepth 100000 in
set_option maxHeartbeats 8000000 in
theorem l9Start_any (a : Option Addr) (n c : Nat) (zss : List (List Int)) (q : Nat) (w : World) (hz : zss.length = n) (hn : n ≤ 8) (hq : q ≤ 6) (hpos : ∀ (k : Nat) (p : List Int), zss[k]? = some p → ∀ x ∈ p, 0 ≤ x) (ha : AtS w a zss) :
    Calls Tryd.prog 21 #[.slice a n c, .int .i64 (q : Nat)] w fun e w' => ∃ r d, e = .returned (.agg #[.int .i64 (q : Nat), .slice r n d]) ∧ RRows.Own w' (From w.heap.size w'.heap.size) [.slice r n d] (stTo q zss n) ∧ Below w.heap.size w w' := by
  obtain ⟨i0, hi0, hz0, hz1, hz2⟩ := info_parts Tryd.infoInt
  obtain ⟨k0, hk0, hx0, hx1, hx2⟩ := info_parts Tryd.infoRow
  obtain ⟨V, hV⟩ : ∃ V, V = w.alloc (.cells #[.int .i64 0, .slice none 0 0] 26) := ⟨_, rfl⟩
  obtain ⟨W, hW⟩ : ∃ W, W = V.alloc (.cells #[.int .i64 (q : Nat), .slice none 0 0] 26) := ⟨_, rfl⟩
  have zV : V.heap.size = w.heap.size + 1 := by rw [hV]; simp
  have B0 : Below w.heap.size w V := by rw [hV]; exact (Below.refl _ _).alloc (Nat.le_refl _) _
  have hbV : Below V.heap.size V W := by rw [hW]; exact (Below.refl _ _).alloc (Nat.le_refl _) _
  have BW := B0.trans (hbV.mono B0.size)
  have TV : Hid (TbVar W (w.heap.size + 1) (w.heap.size + 1 + 1) (q : Nat) none 0 0 (stTo q zss 0) [] (fun _ _ => False)) := by
    have h := TbVar.new V (q : Nat)
    rw [← hW, zV] at h
    exact h
  have b1 : V.heap[w.heap.size]? = some (.cells #[.int .i64 0, .slice none 0 0] 26 (0, 0)) := by rw [hV]; exact heap_alloc_new _ _
  have q1 := blk_below b1 hbV
  have HA := Hid.mk ha
  have HZ := Hid.mk hz
  have HP := Hid.mk hpos
  have hWV : W = (w.alloc (.cells #[.int .i64 0, .slice none 0 0] 26)).alloc (.cells #[.int .i64 (q : Nat), .slice none 0 0] 26) := by rw [hW, hV]
  clear ha hz hpos zV b1 hbV hW hV B0
  go_enter Tryd.func21, Tryd.ntmps21
  go_upto_region 2 with fail
  rw [← hWV]
  clear hWV
  go_wp2_with fail
  go_loopw [14] (fun j wr => ∃ (k : Nat) (r : Option Addr) (d : Nat) (cells : List Value) (G : Nat → Nat → Prop), k ≤ n ∧ j = .int .i64 k ∧ TbVar wr (w.heap.size + 1) (w.heap.size + 1 + 1) (q : Nat) r k d (stTo q zss k) cells G ∧ Below (w.heap.size + 1) W wr) (fun j _ => n - (intOf j).toNat)
  case atStart => exact ⟨0, none, 0, [], _, Nat.zero_le _, rfl, TV.out, Below.refl _ _⟩
  case round =>
    clear TV
    obtain ⟨k, r, d, cells, G, hk, rfl, hT, hbw⟩ := hrel
    obtain ⟨wY, rfl⟩ : ∃ x, x = wr := ⟨_, rfl⟩
    have zr : w.heap.size + 1 + 1 ≤ wY.heap.size := by have := hT.size; omega
    have Bw : Below w.heap.size w wY := BW.trans (hbw.mono (by omega))
    have q3 : wY.heap[w.heap.size]? = some (.cells #[.int .i64 0, .slice none 0 0] 26 (0, 0)) := (hbw.block _ (by omega)).trans q1
    by_cases hlt : k < n
    · obtain ⟨p, hy⟩ : ∃ p, zss[k]? = some p := ⟨_, List.getElem?_eq_getElem (by have := HZ.out; omega)⟩
      obtain ⟨b, off, a', c', rfl, hcx, hpl, hat⟩ := atS_row (HA.out.below Bw) hy
      obtain ⟨m, hm⟩ : ∃ m, p.length = m := ⟨_, rfl⟩
      rw [hm] at hcx hpl
      have hki : (k : Int) < (n : Int) := by omega
      obtain ⟨T, hTT⟩ : ∃ T, mk p = T := ⟨_, rfl⟩
      have HTK : Hid (stTo q zss (k + 1) = stTo q zss k ++ [stRow q T k]) := by show _ = _; rw [stTo_succ hy, hTT]
      have HBIT : Hid (∀ i : Nat, decide ((i : Int) ∈ p) = T.testBit i) := fun i => by
        have h := mk_bit p (HP.out k p hy) i
        rw [hTT] at h
        cases hb : T.testBit i with
        | true => exact decide_eq_true (h.1 hb)
        | false => exact decide_eq_false (fun h9 => by rw [h.2 h9] at hb; cases hb)
      have KH : Hid (∀ (x : Int) w', Below wY.heap.size wY w' → Calls Tryd.prog 42 #[.slice a' m c', .int .i64 x] w' fun e w'' => e = .returned (.bool (decide (x ∈ p))) ∧ w'' = w') := fun x w' h => l1Has_any a' m c' p x w' hm hpl (hat.below h)
      have t1 := hT.cell1
      have HT := Hid.mk hT
      have HB := Hid.mk hbw
      obtain ⟨U, hU⟩ : ∃ U, U = wY.alloc (.cells #[.slice none 0 0] 47) := ⟨_, rfl⟩
      have V0 : Hid (RowVar U wY.heap.size 47 (wY.heap.size + 1) 3 none 0 0 ((stRow q T k).take 0)) := by
        show RowVar _ _ _ _ _ _ _ _ _
        rw [hU]; exact RowVar.new rfl (Nat.lt_succ_self _)
      have hbU : Below wY.heap.size wY U := by rw [hU]; exact (Below.refl _ _).alloc (Nat.le_refl _) _
      clear hy hat hm hT hbw q3 Bw hTT hpl
      go_upto_region 6 with fail
      rw [← hU]
      clear hU hcx
      go_wp2_with fail
      go_loopw [9] (fun j wx => ∃ (k3 : Nat) (r3 : Option Addr) (d3 : Nat), k3 ≤ q ∧ j = .int .i64 k3 ∧ RowVar wx wY.heap.size 47 (wY.heap.size + 1) 3 r3 k3 d3 ((stRow q T k).take k3) ∧ Below wY.heap.size wY wx) (fun j _ => q - (intOf j).toNat)
      case atStart => exact ⟨0, none, 0, Nat.zero_le _, rfl, V0.out, hbU⟩
      case round =>
        clear V0 hbU
        obtain ⟨k3, r3, d3, hk3, rfl, hv, hbx⟩ := hrel
        obtain ⟨wx, rfl⟩ : ∃ x, x = wr := ⟨_, rfl⟩
        have HBX := Hid.mk hbx
        have zx := hbx.size
        have hcr := hv.cell
        have hfr := hv.frozen
        have zR : wY.heap.size < wx.heap.size := World.block_lt_of_cell? _ _ hcr
        by_cases hl3 : k3 < q
        · have hk3i : (k3 : Int) < (q : Int) := by omega
          have KC := Hid.mk (KH.out (k3 : Int) wx hbx)
          rw [HBIT.out k3] at KC
          have hta := stRow_take (q := q) (T := T) (i := k) hl3
          clear hbx
          cases hb : T.testBit k3 with
          | true =>
            rw [hb] at KC hta
            simp only [if_true] at hta
            have HTA := Hid.mk hta
            clear hta hb
            go_wp2_with fail
            refine KC.out.mono ?_
            rintro e w2 ⟨rfl, hw2⟩
            obtain rfl := hw2.symm
            have HO := Hid.mk (hv.own.alloc (.cells #[.int .i64 0] 3))
            have HN := Hid.mk (news_at wx #[.int .i64 0] 3)
            have HVR := Hid.mk hv
            go_wp2_with (at_builtin; refine wpList_append_lies _ rfl (.tmp 29) (.tmp 30) 43 rfl (wY.heap.size + 1) 3 i0 (.int .i64 0) 1 8 Tryd.underlying43 hi0 hz0 hz1 hz2 rfl (by decide) (.slice r3 k3 d3) k3 _ rfl HO.out ⟨wx.heap.size, 0, none⟩ 1 1 [.int .i64 0] rfl rfl HN.out (by simp; rfl) (by decide) (by unfold maxLen; omega) (by omega) (by simp; omega) (wx.heap.size + 1) (by simp) ?_; intro g8 cap8 w8 hown8 hgrow8 _ _; have t8 := (HVR.out.pushed hown8 hgrow8).1; have t9 := (HVR.out.pushed hown8 hgrow8).2.1)
            obtain ⟨_, _, hv1⟩ := HVR.out.pushed hown8 hgrow8
            have HB8 := Hid.mk (HVR.out.pushed_below (v := .slice (some ⟨g8, 0, none⟩) (k3 + 1) cap8) hgrow8 HBX.out (Nat.le_refl _))
            rw [← HTA.out] at hv1
            have HV8 := Hid.mk hv1
            clear hv1 hown8 hgrow8 hv HVR HO HN t8 t9 hcr hfr
            go_wp2
            go_roundw
            case rel => exact ⟨k3 + 1, _, _, by omega, by go_num, HV8.out, HB8.out⟩
            case measure => simp [intOf]; omega
          | false =>
            rw [hb] at KC hta
            simp only [Bool.false_eq_true, if_false] at hta
            obtain ⟨X, hX⟩ : ∃ X : Int, X = ((k * 6 + k3 + 1 : Nat) : Int) := ⟨_, rfl⟩
            rw [← hX] at hta
            have HTA := Hid.mk hta
            have hw1 : IntKind.i64.wrap ((k : Int) * 6) = (k : Int) * 6 := IntWalk.i64_in _ (by omega)
            have hw2' : IntKind.i64.wrap ((k : Int) * 6 + (k3 : Int)) = (k : Int) * 6 + (k3 : Int) := IntWalk.i64_in _ (by omega)
            have hw3 : (k : Int) * 6 + (k3 : Int) + 1 = X := by rw [hX]; push_cast; omega
            clear hta hb hX
            go_wp2_with fail
            refine KC.out.mono ?_
            rintro e w2 ⟨rfl, hw2⟩
            obtain rfl := hw2.symm
            have HO := Hid.mk (hv.own.alloc (.cells #[.int .i64 X] 3))
            have HN := Hid.mk (news_at wx #[.int .i64 X] 3)
            have HVR := Hid.mk hv
            go_wp2_with (at_builtin; refine wpList_append_lies _ rfl (.tmp 34) (.tmp 40) 43 rfl (wY.heap.size + 1) 3 i0 (.int .i64 0) 1 8 Tryd.underlying43 hi0 hz0 hz1 hz2 rfl (by decide) (.slice r3 k3 d3) k3 _ rfl HO.out ⟨wx.heap.size, 0, none⟩ 1 1 [.int .i64 X] rfl rfl HN.out (by simp; rfl) (by decide) (by unfold maxLen; omega) (by omega) (by simp; omega) (wx.heap.size + 1) (by simp) ?_; intro g8 cap8 w8 hown8 hgrow8 _ _; have t8 := (HVR.out.pushed hown8 hgrow8).1; have t9 := (HVR.out.pushed hown8 hgrow8).2.1)
            obtain ⟨_, _, hv1⟩ := HVR.out.pushed hown8 hgrow8
            have HB8 := Hid.mk (HVR.out.pushed_below (v := .slice (some ⟨g8, 0, none⟩) (k3 + 1) cap8) hgrow8 HBX.out (Nat.le_refl _))
            rw [← HTA.out] at hv1
            have HV8 := Hid.mk hv1
            clear hv1 hown8 hgrow8 hv HVR HO HN t8 t9 hcr hfr
            go_wp2
            go_roundw
            case rel => exact ⟨k3 + 1, _, _, by omega, by go_num, HV8.out, HB8.out⟩
            case measure => simp [intOf]; omega
        · obtain rfl : k3 = q := by omega
          rw [List.take_of_length_le (by rw [stRow_len]; exact Nat.le_refl _)] at hv
          have HOI : Hid (RInts.Own wx (From wY.heap.size wx.heap.size) [.slice r3 k3 d3] (stRow k3 T k)) := RInts.mono (RInts.of_owns (stRow_len k3 T k) (by omega) hv.own) (fun b h => ⟨by have := h.1; omega, h.2⟩)
          have T2 := HT.out.below hbx
          have g1 := T2.cell1
          have HW2 := Hid.mk T2.owns
          have z2 : w.heap.size + 1 + 1 ≤ wx.heap.size := by omega
          clear T2 hbx hv
          go_wp2_with (at_builtin; refine wpList_app_vals rfl (.tmp 44) (.tmp 46) 24 rfl (w.heap.size + 1 + 1) 47 k0 (.agg #[.slice none 0 0]) 1 24 Tryd.underlying24 hk0 hx0 hx1 hx2 rfl (by decide) (.slice r k d) k cells rfl (HW2.out.alloc _) (some ⟨wx.heap.size, 0, none⟩) 1 1 [.slice r3 k3 d3] rfl rfl (fun ad he => by cases he; simpa using news_at wx #[.slice r3 k3 d3] 47) (by simp; rfl) (fun h => by cases h) (by unfold maxLen; omega) (by omega) (by simp; omega) ?_; intro r4 d4 w6 ho4 hg4 ht4; have x1 := (HT.out.at6 HBX.out hg4).1; have x2 := (HT.out.at6 HBX.out hg4).2)
          obtain ⟨G', hT'⟩ := HT.out.pushed zr HBX.out HOI.out ho4 hg4 ht4 (by omega)
          have hB' := HT.out.pushed_below (B := w.heap.size + 1) (Nat.le_refl _) zr HB.out HBX.out hg4 (.slice r4 (k + 1) d4)
          rw [← HTK.out] at hT'
          have HT' := Hid.mk hT'
          have HB' := Hid.mk hB'
          clear hT' hB' ho4 hg4 ht4 x1 x2 HT HBX HOI HW2 HB
          go_wp2
          go_roundw
          case rel => exact ⟨k + 1, r4, d4, _, G', by omega, by go_num, HT'.out, HB'.out⟩
          case measure => simp [intOf]; omega
    · obtain rfl : k = n := by omega
      have g0 := hT.cell0
      have g1 := hT.cell1
      have e0 := blk_cell q3 0 (v := .int .i64 0) rfl
      have e1 := blk_cell q3 1 (v := .slice none 0 0) rfl
      have f0 := blk_frozen q3 0
      have f1 := blk_frozen q3 1
      have HO := Hid.mk (hT.own)
      clear hT hbw q1 q3
      go_wp2
      refine bodyPost_ret (v := .agg #[.int .i64 (q : Nat), .slice r k d]) (by simp [results, Tryd.results21, go_sem, e0, e1]) rfl ⟨r, d, rfl, ?_, ?_⟩
      · refine RRows.mono (RRows.ownOff (RRows.ownOff HO.out (Off.set (F := From 0 (w.heap.size + 1)) (a := ⟨w.heap.size, 0, none⟩) ⟨by simp, by show w.heap.size < w.heap.size + 1; omega⟩ _) (fun b h h' => by have := h.1; have := h'.2; omega)) (Off.set (F := From 0 (w.heap.size + 1)) (a := ⟨w.heap.size, 1, none⟩) ⟨by simp, by show w.heap.size < w.heap.size + 1; omega⟩ _) (fun b h h' => by have := h.1; have := h'.2; omega)) (fun b h => ⟨by have := h.1; omega, by have := h.2; simp only [World.setCell, Array.size_modify]; exact this⟩)
      · exact (Bw.setCell (Nat.le_refl _) _).setCell (Nat.le_refl _) _

set_option maxRecDepth 100000 in
set_option maxHeartbeats 4000000 in
theorem specStartTableau (a : Option Addr) (n c : Nat) (zss : List (List Int)) (C : Int) (w : World) (hz : zss.length = n) (hn : n ≤ 1048576) (ht : tot zss n ≤ 1048576) (ha : AtS w a zss) :
    Calls Tryd.prog 6 #[.slice a n c, .int .i64 C] w fun e w' => TblRet e w' w.heap.size (gpB zss C) (stC zss C) (stL zss C) ∧ Below w.heap.size w w' := by
  obtain ⟨V, hV⟩ : ∃ V, V = w.alloc (.cells #[.int .i64 0, .slice none 0 0] 26) := ⟨_, rfl⟩
  have B0 : Below w.heap.size w V := by rw [hV]; exact (Below.refl _ _).alloc (Nat.le_refl _) _
  have zV : w.heap.size < V.heap.size := by rw [hV]; simp
  have b1 : V.heap[w.heap.size]? = some (.cells #[.int .i64 0, .slice none 0 0] 26 (0, 0)) := by rw [hV]; exact heap_alloc_new _ _
  have K1 := Hid.mk (specGoodParts a n c zss C V hz hn ht (ha.below B0))
  have HA := Hid.mk (ha.below B0)
  have HZ := Hid.mk hz
  clear ha hz
  cases hg : gpB zss C with
  | false =>
    have HG := Hid.mk hg
    unfold stC stL
    rw [HG.out]
    clear hg
    go_enter Tryd.func6, Tryd.ntmps6
    go_wp2_with fail
    rw [← hV]
    clear hV
    refine K1.out.mono ?_
    rintro e w1 ⟨rfl, hb1⟩
    rw [HG.out]
    have B1 := B0.trans (hb1.mono B0.size)
    have q := blk_below b1 hb1
    have e0 := blk_cell q 0 (v := .int .i64 0) rfl
    have e1 := blk_cell q 1 (v := .slice none 0 0) rfl
    have f0 := blk_frozen q 0
    have f1 := blk_frozen q 1
    go_wp2
    refine bodyPost_ret (v := .tuple #[.agg #[.int .i64 0, .slice none 0 0], .bool false]) (by simp [results, Tryd.results6, go_sem, e0, e1]) rfl ⟨⟨none, 0, 0, rfl, RRows.nil _ _⟩, ?_⟩
    exact (B1.setCell (Nat.le_refl _) _).setCell (Nat.le_refl _) _
  | true =>
    have h9 := gpB_C hg
    obtain ⟨q, hq⟩ : ∃ q : Nat, C = (q : Int) := ⟨C.toNat, by omega⟩
    have hq6 : 1 ≤ q ∧ q ≤ 6 := by omega
    have hn8 : 1 ≤ n ∧ n ≤ 8 := by have := HZ.out; omega
    have HPT : Hid (∀ (k : Nat) (p : List Int), zss[k]? = some p → ∀ x ∈ p, 0 ≤ x) := fun k p hk => ris_nonneg (gpB_part hg hk)
    have HG := Hid.mk hg
    unfold stC stL
    rw [HG.out]
    simp only [if_true]
    rw [hq]
    rw [hq] at HG K1
    rw [show ((q : Int)).toNat = q by omega]
    rw [show zss.length = n from HZ.out]
    clear hg h9
    subst hq
    go_enter Tryd.func6, Tryd.ntmps6
    go_wp2_with fail
    rw [← hV]
    clear hV
    refine K1.out.mono ?_
    rintro e w1 ⟨rfl, hb1⟩
    rw [HG.out]
    have B1 := B0.trans (hb1.mono B0.size)
    have q1 := blk_below b1 hb1
    have z1 := hb1.size
    have KL := Hid.mk (l9Start_any a n c zss q w1 HZ.out hn8.2 hq6.2 HPT.out (HA.out.below hb1))
    clear hb1 b1
    go_wp2_with fail
    refine KL.out.mono ?_
    rintro e w3 ⟨r, d, rfl, hO, hb3⟩
    have q2 := blk_below q1 hb3
    have B2 := B1.trans (hb3.mono B1.size)
    have e0 := blk_cell q2 0 (v := .int .i64 0) rfl
    have e1 := blk_cell q2 1 (v := .slice none 0 0) rfl
    have f0 := blk_frozen q2 0
    have f1 := blk_frozen q2 1
    have HO := Hid.mk hO
    clear hO q1 q2 hb3
    go_wp2
    refine bodyPost_ret (v := .tuple #[.agg #[.int .i64 (q : Nat), .slice r n d], .bool true]) (by simp [results, Tryd.results6, go_sem, e0, e1]) rfl ⟨⟨r, n, d, rfl, ?_⟩, ?_⟩
    · refine RRows.mono (RRows.ownOff (RRows.ownOff HO.out (Off.set (F := From 0 w1.heap.size) (a := ⟨w.heap.size, 0, none⟩) ⟨by simp, by show w.heap.size < w1.heap.size; omega⟩ _) (fun b h h' => by have := h.1; have := h'.2; omega)) (Off.set (F := From 0 w1.heap.size) (a := ⟨w.heap.size, 1, none⟩) ⟨by simp, by show w.heap.size < w1.heap.size; omega⟩ _) (fun b h h' => by have := h.1; have := h'.2; omega)) (fun b h => ⟨by have := h.1; omega, by have := h.2; simp only [World.setCell, Array.size_modify]; exact this⟩)
    · exact (B2.setCell (Nat.le_refl _) _).setCell (Nat.le_refl _) _

theorem st_small (parts : List (List Int)) (C : Int) : SmR (stL parts C) (stL parts C).length := by
  unfold stL
  cases hg : gpB parts C with
  | false => exact ⟨rfl, by simp [tot]⟩
  | true =>
    simp only [if_true]
    have h := stTo_good hg
    refine ⟨rfl, ?_⟩
    have h1 : ∀ k, k ≤ (stTo C.toNat parts parts.length).length → tot (stTo C.toNat parts parts.length) k ≤ k * 6 := by
      intro k
      induction k with
      | zero => intro _; simp [tot_zero]
      | succ k ih =>
        intro hk
        have := ih (by omega)
        rw [tot_succ _ k (by omega)]
        have h2 : ((stTo C.toNat parts parts.length).getD k []).length ≤ 6 := tbB_sum h _ (by rw [show (stTo C.toNat parts parts.length).getD k [] = (stTo C.toNat parts parts.length)[k] by simp [List.getD, show k < (stTo C.toNat parts parts.length).length by omega]]; exact List.getElem_mem _)
        omega
    have h3 := h1 _ (Nat.le_refl _)
    have h4 := (tbB_n h).2
    omega

end Go.Proofs.YthliamoeplgblaaDoor

/- Contract of spec.IsLossless. -/
namespace Go.Proofs.YthliamoeplgblaaDoor
open Go.RowKit

theorem allZ_take {z : List Int} {k : Nat} (h : k < z.length) : (z.take (k + 1)).all (fun x => decide (x = 0)) = ((z.take k).all (fun x => decide (x = 0)) && decide (z.getD k 0 = 0)) := by
  rw [List.take_succ_eq_append_getElem h, List.all_append]
  simp [List.getD, h]

set_option maxRecDepth 100000 in
set_option maxHeartbeats 8000000 in
theorem specIsLossless (la : Option Addr) (ln lc : Nat) (xs : List Dep) (a : Option Addr) (n c : Nat) (zss : List (List Int)) (C : Int) (w : World) (hlz : xs.length = ln) (hln : ln ≤ 9223372036854775807) (hz : zss.length = n) (hn : n ≤ 1048576) (ht : tot zss n ≤ 1048576) (hla : AtD w la xs) (ha : AtS w a zss) :
    Calls Tryd.prog 15 #[.slice la ln lc, .slice a n c, .int .i64 C] w fun e w' => e = .returned (.tuple #[.bool (ilV xs zss C), .bool (ilB xs zss C)]) ∧ Below w.heap.size w w' := by
  have K1 := Hid.mk (specGoodParts a n c zss C w hz hn ht ha)
  have K2 : Hid (∀ w', Below w.heap.size w w' → Calls Tryd.prog 32 #[.slice la ln lc, .int .i64 C] w' fun e w'' => e = .returned (.bool (goodDeps xs C)) ∧ Below w'.heap.size w' w'') :=
    fun w' h => specGoodDepends la ln lc xs C w' hlz hln (AtSl.below hla h)
  have HA := Hid.mk ha
  have HL := Hid.mk hla
  have HZ := Hid.mk hz
  have HLZ := Hid.mk hlz
  clear ha hla hz hlz ht
  cases hg : gpB zss C with
  | false =>
    have HN : Hid (ilB xs zss C = false ∧ ilV xs zss C = false) := by
      have h1 : ilB xs zss C = false := by unfold ilB; rw [hg]; rfl
      exact ⟨h1, by unfold ilV; rw [h1]; rfl⟩
    rw [hg] at K1
    clear hg
    go_enter Tryd.func15, Tryd.ntmps15
    go_wp2_with fail
    refine K1.out.mono ?_
    rintro e w1 ⟨rfl, hb1⟩
    go_wp2
    refine bodyPost_ret (v := .tuple #[.bool false, .bool false]) (by simp [results, Tryd.results15, go_sem]) rfl ⟨by rw [HN.out.1, HN.out.2], hb1⟩
  | true =>
  rw [hg] at K1
  cases hd : goodDeps xs C with
  | false =>
    have HN : Hid (ilB xs zss C = false ∧ ilV xs zss C = false) := by
      have h1 : ilB xs zss C = false := by unfold ilB; rw [hd, Bool.and_false]
      exact ⟨h1, by unfold ilV; rw [h1]; rfl⟩
    rw [hd] at K2
    clear hg hd
    go_enter Tryd.func15, Tryd.ntmps15
    go_wp2_with fail
    refine K1.out.mono ?_
    rintro e w1 ⟨rfl, hb1⟩
    go_wp2_with fail
    refine (K2.out w1 hb1).mono ?_
    rintro e w2 ⟨rfl, hb2⟩
    go_wp2
    refine bodyPost_ret (v := .tuple #[.bool false, .bool false]) (by simp [results, Tryd.results15, go_sem]) rfl ⟨by rw [HN.out.1, HN.out.2], hb1.trans (hb2.mono hb1.size)⟩
  | true =>
    have HIB : Hid (ilB xs zss C = true) := by show _ = _; unfold ilB; rw [hg, hd]; rfl
    have h9 := gpB_C hg
    have hst := stTo_good hg
    rw [show zss.length = n from HZ.out] at hst
    obtain ⟨q, hq⟩ : ∃ q : Nat, C = (q : Int) := ⟨C.toNat, by omega⟩
    have hq6 : 1 ≤ q ∧ q ≤ 6 := by omega
    have hn8 : 1 ≤ n ∧ n ≤ 8 := by have := HZ.out; omega
    have HPT : Hid (∀ (k : Nat) (p : List Int), zss[k]? = some p → ∀ x ∈ p, 0 ≤ x) := fun k p hk => ris_nonneg (gpB_part hg hk)
    have HIV : Hid (ilV xs zss C = (chZ xs (stTo q zss n)).1.any allZ) := by
      show _ = _; unfold ilV; rw [HIB.out, show zss.length = n from HZ.out, show C.toNat = q by omega]; rfl
    have hst2 : tbB C (stTo q zss n) = true := by rw [show C.toNat = q by omega] at hst; exact hst
    have HCG := Hid.mk (chZ_good hd hst2)
    have HLN := Hid.mk (stTo_len q zss n)
    have HD := Hid.mk hd
    have HST := Hid.mk hst2
    rw [hd] at K2
    clear hg hd h9 hst hst2
    subst hq
    have KS : Hid (∀ w', Below w.heap.size w w' → Calls Tryd.prog 21 #[.slice a n c, .int .i64 (q : Nat)] w' fun e w'' => ∃ r d, e = .returned (.agg #[.int .i64 (q : Nat), .slice r n d]) ∧ RRows.Own w'' (From w'.heap.size w''.heap.size) [.slice r n d] (stTo q zss n) ∧ Below w'.heap.size w' w'') :=
      fun w' h => l9Start_any a n c zss q w' HZ.out hn8.2 hq6.2 HPT.out (HA.out.below h)
    obtain ⟨S, hS⟩ : ∃ S, stTo q zss n = S := ⟨_, rfl⟩
    rw [hS] at HIV HCG HLN HST KS
    have KC : Hid (∀ (F : Nat → Prop) (r : Option Addr) (d : Nat) w', Below w.heap.size w w' → (∀ b, F b → b < w'.heap.size) → RRows.Own w' F [.slice r n d] S → Calls Tryd.prog 33 #[.agg #[.int .i64 (q : Nat), .slice r n d], .slice la ln lc] w' fun e w'' => (∃ r d, e = .returned (.tuple #[.agg #[.int .i64 (q : Nat), .slice r n d], .int .i64 ((chZ xs S).2 : Nat)]) ∧ RRows.Own w'' (fun b => F b ∨ From w'.heap.size w''.heap.size b) [.slice r n d] (chZ xs S).1) ∧ Below w'.heap.size w' w'') :=
      fun F r d w' h h1 h2 => l9Chase_any F (q : Nat) r n d S la ln lc xs w' HLN.out HLZ.out HST.out HD.out h1 h2 (AtSl.below HL.out h)
    obtain ⟨L, hL⟩ : ∃ L, (chZ xs S).1 = L := ⟨_, rfl⟩
    obtain ⟨NN, hNN⟩ : ∃ L, (chZ xs S).2 = L := ⟨_, rfl⟩
    rw [hL] at HIV HCG
    rw [hL, hNN] at KC
    clear hS hL hNN
    go_enter Tryd.func15, Tryd.ntmps15
    go_wp2_with fail
    refine K1.out.mono ?_
    rintro e w1 ⟨rfl, hb1⟩
    go_wp2_with fail
    refine (K2.out w1 hb1).mono ?_
    rintro e w2 ⟨rfl, hb2⟩
    have B2 := hb1.trans (hb2.mono hb1.size)
    clear hb1 hb2
    go_wp2_with fail
    refine (KS.out w2 B2).mono ?_
    rintro e w3 ⟨r, d, rfl, hO, hb3⟩
    have B3 := B2.trans (hb3.mono B2.size)
    have HO := Hid.mk hO
    clear hO hb3 B2
    go_wp2_with fail
    refine (KC.out _ r d w3 B3 (fun b h => h.2) HO.out).mono ?_
    rintro e w4 ⟨⟨r4, d4, rfl, hO4⟩, hb4⟩
    obtain ⟨Y, hY⟩ : ∃ Y, Y = w4.alloc (.cells #[.int .i64 (q : Nat), .slice r4 n d4] 26) := ⟨_, rfl⟩
    have hbY : Below w4.heap.size w4 Y := by rw [hY]; exact (Below.refl _ _).alloc (Nat.le_refl _) _
    have y1 : Y.cell? ⟨w4.heap.size, 1, none⟩ = some (.slice r4 n d4) := by rw [hY]; exact pair1 _ _ _ _
    have B4 := B3.trans (hb4.mono B3.size)
    have BY := B4.trans (hbY.mono B4.size)
    have HAT := Hid.mk (RRows.atS (RRows.ownBelow hO4 hbY)).2
    have HLL := Hid.mk (RRows.atS hO4).1
    clear hO4 hb4 hbY B3 B4 HO
    go_upto_region 4 with fail
    rw [← hY]
    clear hY
    go_wp2_with fail
    go_loopw [36] (fun i wr => ∃ k : Nat, k ≤ n ∧ i = .int .i64 k ∧ ilV xs zss (q : Nat) = (L.drop k).any allZ ∧ Below Y.heap.size Y wr) (fun i _ => n - (intOf i).toNat)
    case atStart => exact ⟨0, Nat.zero_le _, rfl, by rw [HIV.out]; simp, Below.refl _ _⟩
    case round =>
      obtain ⟨k, hk, rfl, hV, hbw⟩ := hrel
      have Bw := BY.trans (hbw.mono BY.size)
      by_cases hlt : k < n
      · obtain ⟨z, hy⟩ : ∃ z, L[k]? = some z := ⟨_, List.getElem?_eq_getElem (by have := HLL.out; omega)⟩
        obtain ⟨b, off, a', c', rfl, hcx, hpl, hat⟩ := atS_row (HAT.out.below hbw) hy
        rw [any_drop hy] at hV
        obtain ⟨m, hm⟩ : ∃ m, z.length = m := ⟨_, rfl⟩
        rw [hm] at hcx hpl
        have hki : (k : Int) < (n : Int) := by omega
        obtain ⟨U, hU⟩ : ∃ U, U = wr.alloc (.cells #[.slice a' m c'] 47) := ⟨_, rfl⟩
        have hbU : Below wr.heap.size wr U := by rw [hU]; exact (Below.refl _ _).alloc (Nat.le_refl _) _
        have r0 : U.cell? ⟨wr.heap.size, 0, none⟩ = some (.slice a' m c') := by rw [hU]; exact row0 _ _ _
        have HR := Hid.mk (hat.below hbU)
        have HV := Hid.mk hV
        have HM := Hid.mk hm
        have HBU := Hid.mk (hbw.trans (hbU.mono hbw.size))
        have BU := Bw.trans (hbU.mono Bw.size)
        clear hy hat hV hm hbw hbU Bw
        go_upto_region 7 with fail
        rw [← hU]
        clear hU hcx
        go_wp2_with fail
        go_loop [12, 43] (fun s i => ∃ j : Nat, j ≤ m ∧ i = .int .i64 j ∧ s = .bool ((z.take j).all (fun x => decide (x = 0)))) (fun _ i => m - (intOf i).toNat)
        case atStart => exact ⟨0, Nat.zero_le _, rfl, rfl⟩
        case round =>
          obtain ⟨j, hj, rfl, rfl⟩ := hrel
          by_cases hjl : j < m
          · obtain ⟨b2, off2, rfl, hb2, hc2⟩ := HR.out.some (by have := HM.out; omega)
            have hcx2 := hc2 j (by have := HM.out; omega)
            have hta := allZ_take (z := z) (k := j) (by have := HM.out; omega)
            obtain ⟨x, hx⟩ : ∃ x, z.getD j 0 = x := ⟨_, rfl⟩
            rw [hx] at hcx2 hta
            obtain ⟨s, hs⟩ : ∃ s, (z.take j).all (fun x => decide (x = 0)) = s := ⟨_, rfl⟩
            rw [hs] at hta ⊢
            have HTA := Hid.mk hta
            have hji : (j : Int) < (m : Int) := by omega
            clear hta hs hx hc2
            by_cases hx0 : x = 0
            · subst hx0
              cases s
              all_goals
                go_wp2
                go_round
                case rel => exact ⟨j + 1, by omega, by go_num, by rw [HTA.out]; rfl⟩
                case measure => simp [intOf]; omega
            · have hne : (x == 0) = false := by simp [hx0]
              cases s
              all_goals
                go_wp2
                go_round
                case rel => exact ⟨j + 1, by omega, by go_num, by rw [HTA.out]; simp [hx0]⟩
                case measure => simp [intOf]; omega
          · obtain rfl : j = m := by omega
            have HTE : Hid ((z.take j).all (fun x => decide (x = 0)) = allZ z) := by show _ = _; rw [List.take_of_length_le (by have := HM.out; omega)]; rfl
            rw [HTE.out]
            cases hb : allZ z with
            | true =>
              have HF : Hid (ilV xs zss (q : Nat) = true) := by show _ = _; rw [HV.out, hb]; rfl
              clear hb
              go_wp2
              refine bodyPost_ret (v := .tuple #[.bool true, .bool true]) (by simp [results, Tryd.results15, go_sem]) rfl ⟨by rw [HF.out, HIB.out], BU⟩
            | false =>
              have HF : Hid (ilV xs zss (q : Nat) = (L.drop (k + 1)).any allZ) := by show _ = _; rw [HV.out, hb]; rfl
              clear hb
              go_wp2
              go_roundw
              case rel => exact ⟨k + 1, by omega, by go_num, HF.out, HBU.out⟩
              case measure => simp [intOf]; omega
      · obtain rfl : k = n := by omega
        have HF : Hid (ilV xs zss (q : Nat) = false) := by show _ = _; rw [hV, List.drop_of_length_le (by have := HLL.out; omega)]; rfl
        clear hV
        go_wp2
        refine bodyPost_ret (v := .tuple #[.bool false, .bool true]) (by simp [results, Tryd.results15, go_sem]) rfl ⟨by rw [HF.out, HIB.out], Bw⟩

end Go.Proofs.YthliamoeplgblaaDoor
