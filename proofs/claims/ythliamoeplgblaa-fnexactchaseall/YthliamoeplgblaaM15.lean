/- Several texts of one proof, in build order: ChE, DepH, DepT, IntE. -/
import Derived.Test.YthliamoeplgblaaM13
import Derived.Test.YthliamoeplgblaaM14
import Derived.Test.YthliamoeplgblaaM3
import Derived.Test.YthliamoeplgblaaM4
import Derived.Deep.CutBlock

/- Contracts of spec.l9Chase, spec.ChaseAll. -/
namespace Go.Proofs.Ythliamoeplgblaa
open Go.RowKit

set_option maxRecDepth 100000 in
set_option maxHeartbeats 8000000 in
theorem l9Chase_any (F : Nat → Prop) (p : Int) (a : Option Addr) (n c : Nat) (zss : List (List Int)) (la : Option Addr) (ln lc : Nat) (xs : List Dep) (w : World) (hz : zss.length = n) (hlz : xs.length = ln) (ht : tbB p zss = true) (hd : goodDeps xs p = true) (hF : ∀ b, F b → b < w.heap.size) (hO : RRows.Own w F [.slice a n c] zss) (hla : AtD w la xs) :
    Calls Try.prog 42 #[.agg #[.int .i64 p, .slice a n c], .slice la ln lc] w fun e w' => (∃ r d, e = .returned (.tuple #[.agg #[.int .i64 p, .slice r n d], .int .i64 ((chZ xs zss).2 : Nat)]) ∧ RRows.Own w' (fun b => F b ∨ From w.heap.size w'.heap.size b) [.slice r n d] (chZ xs zss).1) ∧ Below w.heap.size w w' := by
  obtain ⟨T, hT⟩ : ∃ T, chZ xs zss = T := ⟨_, rfl⟩
  have hTc : T.2 ≤ 4800000 := by rw [← hT]; exact chZ_count ht
  obtain ⟨TL, TN⟩ := T
  simp only at hTc
  rw [hT]
  simp only
  have hn8 : 1 ≤ n ∧ n ≤ 8 := by have := tbB_n ht; omega
  have KS : Hid (∀ (cur : List (List Int)) (r : Option Addr) (d : Nat) (w' : World), cur.length = n → n ≤ d → tbB p cur = true → Below w.heap.size w w' → AtR w' r cur → Calls Try.prog 30 #[.agg #[.int .i64 p, .slice r n d], .slice la ln lc] w' fun e w'' => TblRet e w'' w'.heap.size (stepZ xs cur).isSome (stP p (stepZ xs cur)) ((stepZ xs cur).getD []) ∧ Below w'.heap.size w' w'') :=
    fun cur r d w' h1 h2 h3 h4 h5 => l9Step_any p r n d cur la ln lc xs w' h1 h2 hlz h3 hd h5 (AtSl.below hla h4)
  obtain ⟨W, hW⟩ : ∃ W, W = (w.alloc (.cells #[.int .i64 p, .slice a n c] 30)).alloc (.cells #[.int .i64 0, .slice none 0 0] 30) := ⟨_, rfl⟩
  have B0 : Below w.heap.size w W := by rw [hW]; exact ((Below.refl _ _).alloc (Nat.le_refl _) _).alloc (by simp) _
  have zW : w.heap.size + 1 < W.heap.size := by rw [hW]; simp
  have q0 : W.heap[w.heap.size]? = some (.cells #[.int .i64 p, .slice a n c] 30 (0, 0)) := by rw [hW]; exact blk_alloc (heap_alloc_new w _) _
  have q1 : W.heap[w.heap.size + 1]? = some (.cells #[.int .i64 0, .slice none 0 0] 30 (0, 0)) := by
    rw [hW]
    have h := heap_alloc_new (w.alloc (.cells #[.int .i64 p, .slice a n c] 30)) (.cells #[.int .i64 0, .slice none 0 0] 30)
    simpa only [World.size_alloc] using h
  have HO : Hid (RRows.Own W (fun b => (F b ∨ From w.heap.size W.heap.size b) ∧ b ≠ w.heap.size ∧ b ≠ w.heap.size + 1) [.slice a n c] zss) := RRows.mono (RRows.ownBelow hO B0) (fun b h => ⟨.inl h, by have := hF b h; omega, by have := hF b h; omega⟩)
  have HT0 := Hid.mk ht
  have HD := Hid.mk hd
  have HCH : Hid (chZ xs zss = (TL, TN)) := hT
  have HZ := Hid.mk hz
  have HF := Hid.mk hF
  clear hla hz hlz ht hd hT hO hF
  go_enter Try.func42, Try.ntmps42
  go_wp2_with fail
  rw [← hW]
  clear hW
  go_loopw [6] (fun i wr => ∃ (j : Nat) (cur : List (List Int)) (r : Option Addr) (d : Nat), i = .int .i64 j ∧ j + (chZ xs cur).2 = TN ∧ (chZ xs cur).1 = TL ∧ tbB p cur = true ∧ cur.length = n ∧ wr.heap[w.heap.size]? = some (.cells #[.int .i64 p, .slice r n d] 30 (0, 0)) ∧ wr.heap[w.heap.size + 1]? = some (.cells #[.int .i64 0, .slice none 0 0] 30 (0, 0)) ∧
      RRows.Own wr (fun b => (F b ∨ From w.heap.size wr.heap.size b) ∧ b ≠ w.heap.size ∧ b ≠ w.heap.size + 1) [.slice r n d] cur ∧ Below w.heap.size w wr) (fun i _ => TN + 1 - (intOf i).toNat)
  case atStart => exact ⟨0, zss, a, c, rfl, by rw [HCH.out]; simp, by rw [HCH.out], HT0.out, HZ.out, q0, q1, HO.out, B0⟩
  case round =>
    clear HO q0 q1 B0
    obtain ⟨j, cur, r, d, rfl, hj, hl, htc, hcl, q5, q6, hO, hbw⟩ := hrel
    have z6 := (Array.getElem?_eq_some_iff.1 q6).1
    have k0 := blk_cell q5 0 (v := .int .i64 p) rfl
    have k1 := blk_cell q5 1 (v := .slice r n d) rfl
    have KC := Hid.mk (KS.out cur r d wr hcl (RRows.cap hO) htc hbw (RRows.atR hO))
    have HJ := Hid.mk hj
    have HLL := Hid.mk hl
    have HTC := Hid.mk htc
    have HCL := Hid.mk hcl
    have hjT : j ≤ TN := by omega
    have HOW := Hid.mk hO
    have HBW := Hid.mk hbw
    clear hj hl htc hcl hO
    unfold stP at KC
    cases hs : stepZ xs cur with
    | none =>
      rw [hs] at KC
      simp only [Option.isSome_none, Option.getD_none, Bool.false_eq_true, if_false] at KC
      have HFI : Hid (cur = TL ∧ j = TN) := by
        have h1 := HLL.out
        have h2 := HJ.out
        rw [chZ_done hs] at h1 h2
        exact ⟨h1, by simpa using h2⟩
      clear hs
      go_wp2_with fail
      refine KC.out.mono ?_
      rintro e w3 ⟨⟨r3, m3, d3, rfl, hO3⟩, hb3⟩
      obtain ⟨Y, hY⟩ : ∃ Y, Y = w3.alloc (.cells #[.int .i64 0, .slice r3 m3 d3] 30) := ⟨_, rfl⟩
      have hb3' : Below wr.heap.size wr Y := by rw [hY]; exact hb3.alloc hb3.size _
      have s0 := cell_later hb3' k0
      have s1 := cell_later hb3' k1
      have q7 := blk_below q6 hb3'
      have e0 := blk_cell q7 0 (v := .int .i64 0) rfl
      have e1 := blk_cell q7 1 (v := .slice none 0 0) rfl
      have f0 := blk_frozen q7 0
      have f1 := blk_frozen q7 1
      have B5 := hbw.trans (hb3'.mono hbw.size)
      have HO5 := Hid.mk (RRows.ownBelow HOW.out hb3')
      have zY := hb3'.size
      clear hO3 hb3 hb3' q5 q6 q7 k0 k1
      go_upto_region 3 with fail
      rw [← hY]
      clear hY
      go_wp2
      refine bodyPost_ret (v := .tuple #[.agg #[.int .i64 p, .slice r n d], .int .i64 (j : Int)]) (by simp [results, Try.results42, go_sem, e0, e1]) rfl ⟨?_, ?_⟩
      · rw [← HFI.out.1, ← HFI.out.2]
        refine ⟨r, d, rfl, RRows.mono (RRows.ownOff (RRows.ownOff HO5.out (Off.set (F := fun b => b = w.heap.size + 1) (a := ⟨w.heap.size + 1, 0, none⟩) rfl _) (fun b h h' => h.2.2 h')) (Off.set (F := fun b => b = w.heap.size + 1) (a := ⟨w.heap.size + 1, 1, none⟩) rfl _) (fun b h h' => h.2.2 h')) (fun b h => ?_)⟩
        rcases h.1 with h1 | h1
        · exact .inl h1
        · exact .inr ⟨h1.1, by have := h1.2; simp only [World.setCell, Array.size_modify]; omega⟩
      · exact (B5.setCell (by simp) _).setCell (by simp) _
    | some y =>
      rw [hs] at KC
      simp only [Option.isSome_some, Option.getD_some, if_true] at KC
      have hst := chZ_step HD.out HTC.out hs
      have HYL : Hid (y.length = n) := by show _ = _; rw [step_len hs]; exact HCL.out
      have HYG := Hid.mk (step_good HTC.out HD.out hs)
      have HJ2 : Hid (j + 1 + (chZ xs y).2 = TN ∧ (chZ xs y).1 = TL) := by
        have h1 := HLL.out
        have h2 := HJ.out
        rw [hst] at h1 h2
        exact ⟨by simp only at h2; omega, h1⟩
      have hjT1 : j + 1 ≤ TN := by have := HJ2.out.1; omega
      clear hs hst
      go_wp2_with fail
      refine KC.out.mono ?_
      rintro e w3 ⟨⟨r3, m3, d3, rfl, hO3⟩, hb3⟩
      obtain rfl : m3 = n := (RRows.atS hO3).1.symm.trans HYL.out
      obtain ⟨Y, hY⟩ : ∃ Y, Y = w3.alloc (.cells #[.int .i64 p, .slice r3 m3 d3] 30) := ⟨_, rfl⟩
      have hbY : Below w3.heap.size w3 Y := by rw [hY]; exact (Below.refl _ _).alloc (Nat.le_refl _) _
      have y0 : Y.cell? ⟨w3.heap.size, 0, none⟩ = some (.int .i64 p) := by rw [hY]; exact pair0 _ _ _ _
      have y1 : Y.cell? ⟨w3.heap.size, 1, none⟩ = some (.slice r3 m3 d3) := by rw [hY]; exact pair1 _ _ _ _
      have zY : w3.heap.size < Y.heap.size := by rw [hY]; simp
      have hb3' := hb3.trans (hbY.mono hb3.size)
      have z3 := hb3.size
      have q7 := blk_below q6 hb3'
      have q8 := blk_below q5 hb3'
      have s0 := blk_cell q8 0 (v := .int .i64 p) rfl
      have s1 := blk_cell q8 1 (v := .slice r m3 d) rfl
      have f0 := blk_frozen q8 0
      have f1 := blk_frozen q8 1
      have B5 := hbw.trans (hb3'.mono hbw.size)
      have zr := hbw.size
      have HQ8 : Hid (((Y.setCell ⟨w.heap.size, 0, none⟩ (.int .i64 p)).setCell ⟨w.heap.size, 1, none⟩ (.slice r3 m3 d3)).heap[w.heap.size]? = some (.cells #[.int .i64 p, .slice r3 m3 d3] 30 (0, 0))) := blk_set (blk_set q8 0 _) 1 _
      have HQ7 : Hid (((Y.setCell ⟨w.heap.size, 0, none⟩ (.int .i64 p)).setCell ⟨w.heap.size, 1, none⟩ (.slice r3 m3 d3)).heap[w.heap.size + 1]? = some (.cells #[.int .i64 0, .slice none 0 0] 30 (0, 0))) := blk_other (a := ⟨w.heap.size, 1, none⟩) (blk_other (a := ⟨w.heap.size, 0, none⟩) q7 (by simp) _) (by simp) _
      have HO6 : Hid (RRows.Own ((Y.setCell ⟨w.heap.size, 0, none⟩ (.int .i64 p)).setCell ⟨w.heap.size, 1, none⟩ (.slice r3 m3 d3)) (fun b => (F b ∨ From w.heap.size ((Y.setCell ⟨w.heap.size, 0, none⟩ (.int .i64 p)).setCell ⟨w.heap.size, 1, none⟩ (.slice r3 m3 d3)).heap.size b) ∧ b ≠ w.heap.size ∧ b ≠ w.heap.size + 1) [.slice r3 m3 d3] y) := by
        have h1 := RRows.ownBelow hO3 hbY
        have h2 := RRows.ownOff (RRows.ownOff h1 (Off.set (F := fun b => b = w.heap.size) (a := ⟨w.heap.size, 0, none⟩) rfl (.int .i64 p)) (fun b h h' => by have := h.1; omega)) (Off.set (F := fun b => b = w.heap.size) (a := ⟨w.heap.size, 1, none⟩) rfl (.slice r3 m3 d3)) (fun b h h' => by have := h.1; omega)
        exact RRows.mono h2 (fun b h => ⟨.inr ⟨by have := h.1; omega, by have := h.2; simp only [World.setCell, Array.size_modify]; omega⟩, by have := h.1; omega, by have := h.1; omega⟩)
      have HB6 : Hid (Below w.heap.size w ((Y.setCell ⟨w.heap.size, 0, none⟩ (.int .i64 p)).setCell ⟨w.heap.size, 1, none⟩ (.slice r3 m3 d3))) := (B5.setCell (Nat.le_refl _) _).setCell (Nat.le_refl _) _
      clear hO3 hb3 hb3' hbY q5 q6 q7 q8 k0 k1 B5
      go_upto_region 3 with fail
      rw [← hY]
      clear hY
      go_wp2
      go_roundw
      case rel => exact ⟨j + 1, y, r3, d3, by go_num, HJ2.out.1, HJ2.out.2, HYG.out, HYL.out, HQ8.out, HQ7.out, HO6.out, HB6.out⟩
      case measure => simp [intOf]; omega

set_option maxRecDepth 100000 in
set_option maxHeartbeats 4000000 in
theorem specChaseAll (p : Int) (a : Option Addr) (n c : Nat) (zss : List (List Int)) (la : Option Addr) (ln lc : Nat) (xs : List Dep) (w : World) (hz : zss.length = n) (hn : n ≤ 9223372036854775807) (hlz : xs.length = ln) (hln : ln ≤ 9223372036854775807) (ha : AtR w a zss) (hla : AtD w la xs) :
    Calls Try.prog 18 #[.agg #[.int .i64 p, .slice a n c], .slice la ln lc] w fun e w' => TblRet3 e w' w.heap.size (caB p zss xs) (caP p zss xs) (caN p zss xs) (caL p zss xs) ∧ Below w.heap.size w w' := by
  obtain ⟨W, hW⟩ : ∃ W, W = (w.alloc (.cells #[.int .i64 p, .slice a n c] 30)).alloc (.cells #[.int .i64 0, .slice none 0 0] 30) := ⟨_, rfl⟩
  have B0 : Below w.heap.size w W := by rw [hW]; exact ((Below.refl _ _).alloc (Nat.le_refl _) _).alloc (by simp) _
  have zW : w.heap.size + 1 < W.heap.size := by rw [hW]; simp
  have c0 : W.cell? ⟨w.heap.size, 0, none⟩ = some (.int .i64 p) := by rw [hW]; simp [go_sem]
  have c1 : W.cell? ⟨w.heap.size, 1, none⟩ = some (.slice a n c) := by rw [hW]; simp [go_sem]
  have b1 : W.heap[w.heap.size + 1]? = some (.cells #[.int .i64 0, .slice none 0 0] 30 (0, 0)) := by
    rw [hW]
    have h := heap_alloc_new (w.alloc (.cells #[.int .i64 p, .slice a n c] 30)) (.cells #[.int .i64 0, .slice none 0 0] 30)
    simpa only [World.size_alloc] using h
  have K1 := Hid.mk (specGoodTableau p a n c zss W hz hn (atSl_ints (AtSl.below ha B0)))
  have K2 : Hid (∀ w', Below W.heap.size W w' → Calls Try.prog 29 #[.slice la ln lc, .int .i64 p] w' fun e w'' => e = .returned (.bool (goodDeps xs p)) ∧ Below w'.heap.size w' w'') :=
    fun w' h => specGoodDepends la ln lc xs p w' hlz hln (AtSl.below (AtSl.below hla B0) h)
  have HA := Hid.mk (AtSl.below ha B0)
  have HL := Hid.mk (AtSl.below hla B0)
  have HZ := Hid.mk hz
  have HLZ := Hid.mk hlz
  clear ha hla hz hlz
  cases ht : tbB p zss with
  | false =>
    have HN : Hid (caB p zss xs = false) := by show _ = _; unfold caB; rw [ht]; rfl
    have HT := Hid.mk ht
    unfold caP caN caL
    rw [HN.out]
    clear ht
    go_enter Try.func18, Try.ntmps18
    go_wp2_with fail
    rw [← hW]
    clear hW
    refine K1.out.mono ?_
    rintro e w1 ⟨rfl, hb1⟩
    rw [HT.out]
    have B1 := B0.trans (hb1.mono B0.size)
    have q := blk_below b1 hb1
    have e0 := blk_cell q 0 (v := .int .i64 0) rfl
    have e1 := blk_cell q 1 (v := .slice none 0 0) rfl
    have f0 := blk_frozen q 0
    have f1 := blk_frozen q 1
    go_wp2
    refine bodyPost_ret (v := .tuple #[.agg #[.int .i64 0, .slice none 0 0], .int .i64 0, .bool false]) (by simp [results, Try.results18, go_sem, e0, e1]) rfl ⟨⟨none, 0, 0, rfl, RRows.nil _ _⟩, ?_⟩
    exact (B1.setCell (by simp) _).setCell (by simp) _
  | true =>
  cases hd : goodDeps xs p with
  | false =>
    have HN : Hid (caB p zss xs = false) := by show _ = _; unfold caB; rw [ht, hd]; rfl
    have HT := Hid.mk ht
    have HD := Hid.mk hd
    unfold caP caN caL
    rw [HN.out]
    clear ht hd
    go_enter Try.func18, Try.ntmps18
    go_wp2_with fail
    rw [← hW]
    clear hW
    refine K1.out.mono ?_
    rintro e w1 ⟨rfl, hb1⟩
    rw [HT.out]
    have d0 := cell_later hb1 c0
    go_wp2_with fail
    refine (K2.out w1 hb1).mono ?_
    rintro e w2 ⟨rfl, hb2⟩
    rw [HD.out]
    have hb12 := hb1.trans (hb2.mono hb1.size)
    have B1 := B0.trans (hb12.mono B0.size)
    have q := blk_below b1 hb12
    have e0 := blk_cell q 0 (v := .int .i64 0) rfl
    have e1 := blk_cell q 1 (v := .slice none 0 0) rfl
    have f0 := blk_frozen q 0
    have f1 := blk_frozen q 1
    go_wp2
    refine bodyPost_ret (v := .tuple #[.agg #[.int .i64 0, .slice none 0 0], .int .i64 0, .bool false]) (by simp [results, Try.results18, go_sem, e0, e1]) rfl ⟨⟨none, 0, 0, rfl, RRows.nil _ _⟩, ?_⟩
    exact (B1.setCell (by simp) _).setCell (by simp) _
  | true =>
    have HN : Hid (caB p zss xs = true) := by show _ = _; unfold caB; rw [ht, hd]; rfl
    have HT := Hid.mk ht
    have HD := Hid.mk hd
    have HSUM := Hid.mk (tbB_sum ht)
    have hn8 : 1 ≤ n ∧ n ≤ 8 := by have := tbB_n ht; have := HZ.out; omega
    unfold caP caN caL
    rw [HN.out]
    simp only [if_true]
    have K3 : Hid (∀ w', Below W.heap.size W w' → Calls Try.prog 43 #[.agg #[.int .i64 p, .slice a n c]] w' fun e w'' => ∃ r d, e = .returned (.agg #[.int .i64 p, .slice r n d]) ∧ RRows.Own w'' (From w'.heap.size w''.heap.size) [.slice r n d] zss ∧ Below w'.heap.size w' w'') :=
      fun w' h => l9Own_any p a n c zss w' HZ.out (by omega) (fun k z hk => by have := HSUM.out z (List.mem_of_getElem? hk); omega) (AtSl.below HA.out h)
    have K4 : Hid (∀ (F : Nat → Prop) (r : Option Addr) (d : Nat) w', Below W.heap.size W w' → (∀ b, F b → b < w'.heap.size) → RRows.Own w' F [.slice r n d] zss → Calls Try.prog 42 #[.agg #[.int .i64 p, .slice r n d], .slice la ln lc] w' fun e w'' => (∃ r d, e = .returned (.tuple #[.agg #[.int .i64 p, .slice r n d], .int .i64 ((chZ xs zss).2 : Nat)]) ∧ RRows.Own w'' (fun b => F b ∨ From w'.heap.size w''.heap.size b) [.slice r n d] (chZ xs zss).1) ∧ Below w'.heap.size w' w'') :=
      fun F r d w' h h1 h2 => l9Chase_any F p r n d zss la ln lc xs w' HZ.out HLZ.out HT.out HD.out h1 h2 (AtSl.below HL.out h)
    obtain ⟨TN, hTN⟩ : ∃ T, (chZ xs zss).2 = T := ⟨_, rfl⟩
    obtain ⟨TL, hTL⟩ : ∃ T, (chZ xs zss).1 = T := ⟨_, rfl⟩
    rw [hTN, hTL] at K4 ⊢
    clear ht hd hTN hTL
    go_enter Try.func18, Try.ntmps18
    go_wp2_with fail
    rw [← hW]
    clear hW
    refine K1.out.mono ?_
    rintro e w1 ⟨rfl, hb1⟩
    rw [HT.out]
    have d0 := cell_later hb1 c0
    have d1 := cell_later hb1 c1
    go_wp2_with fail
    refine (K2.out w1 hb1).mono ?_
    rintro e w2 ⟨rfl, hb2⟩
    rw [HD.out]
    have hb12 := hb1.trans (hb2.mono hb1.size)
    have d2 := cell_later hb12 c0
    have d3 := cell_later hb12 c1
    clear d0 d1 hb1 hb2 c0 c1
    go_wp2_with fail
    refine (K3.out w2 hb12).mono ?_
    rintro e w3 ⟨r, d, rfl, hO, hb3⟩
    have hb13 := hb12.trans (hb3.mono hb12.size)
    have HO := Hid.mk hO
    have z2 := hb12.size
    clear hO hb3 d2 d3 hb12
    go_wp2_with fail
    refine (K4.out _ r d w3 hb13 (fun b h => h.2) HO.out).mono ?_
    rintro e w4 ⟨⟨r4, d4, rfl, hO4⟩, hb4⟩
    obtain ⟨Y, hY⟩ : ∃ Y, Y = w4.alloc (.cells #[.int .i64 p, .slice r4 n d4] 30) := ⟨_, rfl⟩
    have hbY : Below w4.heap.size w4 Y := by rw [hY]; exact (Below.refl _ _).alloc (Nat.le_refl _) _
    have y0 : Y.cell? ⟨w4.heap.size, 0, none⟩ = some (.int .i64 p) := by rw [hY]; exact pair0 _ _ _ _
    have y1 : Y.cell? ⟨w4.heap.size, 1, none⟩ = some (.slice r4 n d4) := by rw [hY]; exact pair1 _ _ _ _
    have hb14 := hb13.trans (hb4.mono hb13.size)
    have hb15 := hb14.trans (hbY.mono hb14.size)
    have q2 := blk_below b1 hb15
    have B2 := B0.trans (hb15.mono B0.size)
    have e0 := blk_cell q2 0 (v := .int .i64 0) rfl
    have e1 := blk_cell q2 1 (v := .slice none 0 0) rfl
    have f0 := blk_frozen q2 0
    have f1 := blk_frozen q2 1
    have z3 := hb13.size
    have z4 := hb14.size
    have z5 := hbY.size
    have z45 := hb4.size
    have HO4 := Hid.mk (RRows.ownBelow hO4 hbY)
    clear hO4 q2 hb4 hb13 hb14 hb15 hbY b1
    go_upto_region 4 with fail
    rw [← hY]
    clear hY
    go_wp2
    refine bodyPost_ret (v := .tuple #[.agg #[.int .i64 p, .slice r4 n d4], .int .i64 (TN : Nat), .bool true]) (by simp [results, Try.results18, go_sem, e0, e1]) rfl ⟨⟨r4, n, d4, rfl, ?_⟩, ?_⟩
    · refine RRows.mono (RRows.ownOff (RRows.ownOff HO4.out (Off.set (F := From 0 W.heap.size) (a := ⟨w.heap.size + 1, 0, none⟩) ⟨by simp, by simp; omega⟩ _) (fun b h h' => ?_)) (Off.set (F := From 0 W.heap.size) (a := ⟨w.heap.size + 1, 1, none⟩) ⟨by simp, by simp; omega⟩ _) (fun b h h' => ?_)) (fun b h => ⟨?_, ?_⟩)
      · have := h'.2; rcases h with h | h <;> (have := h.1; omega)
      · have := h'.2; rcases h with h | h <;> (have := h.1; omega)
      · rcases h with h | h <;> (have := h.1; omega)
      · simp only [World.setCell, Array.size_modify]; rcases h with h | h <;> (have := h.2; omega)
    · exact (B2.setCell (by simp) _).setCell (by simp) _

theorem ca_small (p : Int) (zss : List (List Int)) (xs : List Dep) : SmR (caL p zss xs) (caL p zss xs).length := by
  unfold caL caB
  cases hg : (tbB p zss && goodDeps xs p) with
  | false => exact nil_small
  | true =>
    simp only [Bool.and_eq_true] at hg
    simp only [if_true]
    exact tb_small (chZ_good hg.2 hg.1)

end Go.Proofs.Ythliamoeplgblaa

/- Contracts of the laws' helpers over dependencies: szDepend, szDependS. -/
namespace Go.Proofs.Ythliamoeplgblaa
open Go.RowKit

set_option maxRecDepth 100000 in
set_option maxHeartbeats 1000000 in
theorem szDepend_any (sa : Option Addr) (sn sc : Nat) (pa : Option Addr) (pn pc : Nat) (ss : List Int) (xs : List Int) (l : Int) (w : World) (hs : ss.length = sn) (hsn : sn ≤ 9223372036854775807) (hz : xs.length = pn) (hn : pn ≤ 9223372036854775807) (h0 : 0 ≤ l) (h1 : l ≤ 1048576) :
    Calls Try.prog 28 #[.agg #[.slice sa sn sc, .slice pa pn pc], .int .i64 l] w fun e w' => e = .returned (.int .i64 (leftOf l (dcost (ss, xs)))) ∧ Below w.heap.size w w' := by
  have hv : dcost (ss, xs) = sn + pn := by unfold dcost; simp only; rw [hs, hz]
  rw [hv]
  clear hv
  obtain ⟨W, hW⟩ : ∃ W, W = w.alloc (.cells #[.slice sa sn sc, .slice pa pn pc] 56) := ⟨_, rfl⟩
  have B0 : Below w.heap.size w W := by rw [hW]; exact (Below.refl _ _).alloc (Nat.le_refl _) _
  have q1 : W.cell? ⟨w.heap.size, 1, none⟩ = some (.slice pa pn pc) := by rw [hW]; simp
  have HZ := Hid.mk hz
  clear hz hs
  by_cases c1 : l < sn
  · go_enter Try.func28, Try.ntmps28
    go_wp2_with fail
    rw [← hW]
    clear hW
    refine (szIntS_any sa sn sc l W hsn h0 h1).mono ?_
    rintro e w2 ⟨rfl, rfl⟩
    rw [if_pos c1]
    go_wp2
    go_ret
    exact ⟨ret_int (leftOf_no (by omega)).symm, B0⟩
  by_cases c2 : l - sn < (pn : Int)
  · go_enter Try.func28, Try.ntmps28
    have d1 : ¬ l - (sn : Int) < 0 := by omega
    go_wp2_with fail
    rw [← hW]
    clear hW
    refine (szIntS_any sa sn sc l W hsn h0 h1).mono ?_
    rintro e w2 ⟨rfl, rfl⟩
    rw [if_neg (by omega)]
    go_wp2_with fail
    refine (szIntS_any pa pn pc (l - sn) _ hn (by omega) (by omega)).mono ?_
    rintro e w3 ⟨rfl, rfl⟩
    rw [if_pos (by omega)]
    go_wp2
    go_ret
    exact ⟨ret_int (leftOf_no (by omega)).symm, B0⟩
  · go_enter Try.func28, Try.ntmps28
    have d1 : ¬ l - (sn : Int) < 0 := by omega
    have d2 : ¬ l - (sn : Int) - (pn : Int) < 0 := by omega
    go_wp2_with fail
    rw [← hW]
    clear hW
    refine (szIntS_any sa sn sc l W hsn h0 h1).mono ?_
    rintro e w2 ⟨rfl, rfl⟩
    rw [if_neg (by omega)]
    go_wp2_with fail
    refine (szIntS_any pa pn pc (l - sn) _ hn (by omega) (by omega)).mono ?_
    rintro e w3 ⟨rfl, rfl⟩
    rw [if_neg (by omega)]
    go_wp2
    go_ret
    exact ⟨ret_int (by rw [leftOf_yes (by omega)]; omega), B0⟩

set_option maxRecDepth 100000 in
set_option maxHeartbeats 2000000 in
theorem szDependS_any (a : Option Addr) (n c : Nat) (xs : List Dep) (l : Int) (w : World) (hz : xs.length = n) (hn : n ≤ 9223372036854775807) (h0 : 0 ≤ l) (h1 : l ≤ 1048576) (ha : AtD w a xs) :
    Calls Try.prog 8 #[.slice a n c, .int .i64 l] w fun e w' => e = .returned (.int .i64 (leftOf l (n + dsum xs n : Nat))) ∧ Below w.heap.size w w' := by
  by_cases hb : l < n
  · have h' : l - (n : Int) < 0 := by omega
    go_enter Try.func8, Try.ntmps8
    go_wp2
    go_ret
    exact ⟨ret_int (leftOf_no (by omega)).symm, Below.refl _ _⟩
  have h' : ¬ l - (n : Int) < 0 := by omega
  by_cases hn0 : n = 0
  · subst hn0
    have ht : dsum xs 0 = 0 := dsum_zero xs
    go_enter Try.func8, Try.ntmps8
    go_wp2
    refine wp_loop_rounds 1 ?_
    rw [rounds_succ]
    go_wp2
    go_ret
    exact ⟨ret_int (by rw [ht, leftOf_yes (by omega)]; omega), Below.refl _ _⟩
  · go_enter Try.func8, Try.ntmps8
    go_wp2
    go_loopw [1, 5] (fun q i wr => ∃ (k : Nat) (r : Int), k ≤ n ∧ i = .int .i64 k ∧ q = .int .i64 r ∧ 0 ≤ r ∧ r ≤ 1048576 ∧ r + dsum xs k = l - n ∧ Below w.heap.size w wr) (fun _ i _ => n - (intOf i).toNat)
    case atStart => exact ⟨0, l - n, Nat.zero_le _, rfl, rfl, by omega, by omega, by rw [dsum_zero]; omega, Below.refl _ _⟩
    case round =>
      obtain ⟨k, r, hk, rfl, rfl, hr0, hr1, hr, hbw⟩ := hrel
      by_cases hlt : k < n
      · obtain ⟨b, off, rfl, _, hc⟩ := AtD.row (AtSl.below ha hbw) (by omega)
        obtain ⟨⟨xf, xt⟩, hx⟩ : ∃ x, xs[k]? = some x := ⟨_, List.getElem?_eq_getElem (by omega)⟩
        obtain ⟨fa, fn, fc, ta, tn, tc, g0, g1, ⟨t1, t2, _⟩, ⟨u1, u2, _⟩⟩ := hc k _ hx
        have hts := dsum_succ hx
        have htm := dsum_mono xs (k + 1) n (by omega)
        have HR := Hid.mk hr
        have HT := Hid.mk hts
        have HM := Hid.mk htm
        have HX1 := Hid.mk t1
        have HX2 := Hid.mk u1
        have hki : (k : Int) < (n : Int) := by omega
        clear hc hr hts ha htm hx t1 u1
        by_cases hfit : r < dcost (xf, xt)
        · go_wp2_with fail
          refine (szDepend_any fa fn fc ta tn tc xf xt r wr HX1.out t2 HX2.out u2 hr0 hr1).mono ?_
          rintro e w' ⟨rfl, hb'⟩
          rw [leftOf_no hfit]
          go_wp2
          go_ret
          exact ⟨ret_int (leftOf_no (by have := HR.out; have := HT.out; have := HM.out; omega)).symm, hbw.trans (hb'.mono hbw.size)⟩
        · have hd : ¬ r - (dcost (xf, xt) : Int) < 0 := by omega
          go_wp2_with fail
          refine (szDepend_any fa fn fc ta tn tc xf xt r wr HX1.out t2 HX2.out u2 hr0 hr1).mono ?_
          rintro e w' ⟨rfl, hb'⟩
          rw [leftOf_yes (by omega)]
          go_wp2
          go_roundw
          case rel => exact ⟨k + 1, r - dcost (xf, xt), by omega, by go_num, rfl, by omega, by omega, by have := HR.out; have := HT.out; omega, hbw.trans (hb'.mono hbw.size)⟩
          case measure => simp [intOf]; omega
      · obtain rfl : k = n := by omega
        have HR := Hid.mk hr
        clear hr
        go_wp2
        go_ret
        exact ⟨ret_int (by have := HR.out; rw [leftOf_yes (by omega)]; omega), hbw⟩

end Go.Proofs.Ythliamoeplgblaa

/- Contracts of the laws' helpers over dependencies: toDepend, toDependS. -/
namespace Go.Proofs.Ythliamoeplgblaa
open Go.RowKit

set_option maxRecDepth 100000 in
set_option maxHeartbeats 2000000 in
theorem toDepend_any (sa : Option Addr) (sn sc : Nat) (pa : Option Addr) (pn pc : Nat) (ss : List Int) (xs : List Int) (w : World) (hsz : ss.length = sn) (hz : xs.length = pn) (hsn : sn ≤ 1048576) (hpn : pn ≤ 1048576) (hsa : At w sa ss) (ha : At w pa xs) :
    Calls Try.prog 32 #[.agg #[.slice sa sn sc, .slice pa pn pc]] w fun e w' => ∃ g1 g2, e = .returned (.agg #[.slice (some ⟨g1, 0, none⟩) sn sn, .slice (some ⟨g2, 0, none⟩) pn pn]) ∧
      RDep.Own w' (From w.heap.size w'.heap.size) [.slice (some ⟨g1, 0, none⟩) sn sn, .slice (some ⟨g2, 0, none⟩) pn pn] (ss, xs) ∧ Below w.heap.size w w' := by
  obtain ⟨W, hW⟩ : ∃ W, W = (((w.alloc (.cells #[.slice sa sn sc, .slice pa pn pc] 56)).alloc (.cells #[.slice none 0 0, .slice none 0 0] 59)).alloc (.cells #[.slice none 0 0, .slice none 0 0] 59)) := ⟨_, rfl⟩
  have B0 : Below w.heap.size w W := by rw [hW]; exact ((((Below.refl _ _).alloc (Nat.le_refl _) _).alloc (by simp) _).alloc (by simp; omega) _)
  have zW : w.heap.size + 2 < W.heap.size := by rw [hW]; simp
  have b2 : W.heap[w.heap.size + 1 + 1]? = some (.cells #[.slice none 0 0, .slice none 0 0] 59 (0, 0)) := by
    rw [hW]
    have q := heap_alloc_new ((w.alloc (.cells #[.slice sa sn sc, .slice pa pn pc] 56)).alloc (.cells #[.slice none 0 0, .slice none 0 0] 59)) (.cells #[.slice none 0 0, .slice none 0 0] 59)
    simpa only [World.size_alloc] using q
  have b1 : W.heap[w.heap.size + 1]? = some (.cells #[.slice none 0 0, .slice none 0 0] 59 (0, 0)) := by
    rw [hW]
    refine blk_alloc ?_ _
    have q := heap_alloc_new (w.alloc (.cells #[.slice sa sn sc, .slice pa pn pc] 56)) (.cells #[.slice none 0 0, .slice none 0 0] 59)
    simpa only [World.size_alloc] using q
  have b0 : W.heap[w.heap.size]? = some (.cells #[.slice sa sn sc, .slice pa pn pc] 56 (0, 0)) := by
    rw [hW]
    exact blk_alloc (blk_alloc (heap_alloc_new w _) _) _
  have U3 := Hid.mk hsa
  have V3 := Hid.mk ha
  have HU1 := Hid.mk hsz
  have HV1 := Hid.mk hz
  clear hsa ha hsz hz
  go_enter Try.func32, Try.ntmps32
  go_wp2_with fail
  rw [← hW]
  clear hW
  refine (toInts_rep sa sn sc ss W HU1.out hsn (At.below U3.out B0)).mono ?_
  rintro e w1 ⟨g1, rfl, o1, hb1⟩
  have k2 := blk_below b2 hb1
  have k1 := blk_below b1 hb1
  have k0 := blk_below b0 hb1
  clear b2 b1 b0
  have z1 := hb1.size
  have B1 : Below w.heap.size w w1 := B0.trans (hb1.mono (by omega))
  have q := blk_cell k2 0 (v := .slice none 0 0) rfl
  have f := blk_frozen k2 0
  have r := blk_cell k0 1 (v := .slice pa pn pc) rfl
  obtain ⟨X1, hX1⟩ : ∃ u, u = w1.setCell ⟨w.heap.size + 1 + 1, 0, none⟩ (.slice (some ⟨g1, 0, none⟩) sn sn) := ⟨_, rfl⟩
  have y1 : w1.heap.size ≤ X1.heap.size := by rw [hX1]; simp [World.setCell]
  have b2 : X1.heap[w.heap.size + 1 + 1]? = some (.cells #[.slice (some ⟨g1, 0, none⟩) sn sn, .slice none 0 0] 59 (0, 0)) := by rw [hX1]; exact blk_set k2 0 _
  have b1 : X1.heap[w.heap.size + 1]? = some (.cells #[.slice none 0 0, .slice none 0 0] 59 (0, 0)) := by rw [hX1]; exact blk_other k1 (by simp) _
  have C1 : Below w.heap.size w X1 := by rw [hX1]; exact B1.setCell (by simp; omega) _
  have S1 : Hid (Off (From w.heap.size (w.heap.size + 3)) w1 X1) := by rw [hX1]; exact Off.set ⟨by simp; omega, by simp⟩ _
  have O1 : Hid (RInts.Own X1 (From W.heap.size w1.heap.size) [.slice (some ⟨g1, 0, none⟩) sn sn] ss) := RInts.ownOff o1 S1.out (fun b h k => by have := h.1; have := k.2; omega)
  clear o1 hb1 S1 k2 k1 k0
  go_wp2_with fail
  rw [← hX1]
  clear hX1 q f r
  refine (toInts_rep pa pn pc xs X1 HV1.out hpn (At.below V3.out C1)).mono ?_
  rintro e w2 ⟨g2, rfl, o2, hb2⟩
  have k2 := blk_below b2 hb2
  have k1 := blk_below b1 hb2
  clear b2 b1
  have z2 := hb2.size
  have B2 : Below w.heap.size w w2 := C1.trans (hb2.mono (by omega))
  have q := blk_cell k2 1 (v := .slice none 0 0) rfl
  have f := blk_frozen k2 1
  obtain ⟨X2, hX2⟩ : ∃ u, u = w2.setCell ⟨w.heap.size + 1 + 1, 1, none⟩ (.slice (some ⟨g2, 0, none⟩) pn pn) := ⟨_, rfl⟩
  have y2 : w2.heap.size ≤ X2.heap.size := by rw [hX2]; simp [World.setCell]
  have b2 : X2.heap[w.heap.size + 1 + 1]? = some (.cells #[.slice (some ⟨g1, 0, none⟩) sn sn, .slice (some ⟨g2, 0, none⟩) pn pn] 59 (0, 0)) := by rw [hX2]; exact blk_set k2 1 _
  have b1 : X2.heap[w.heap.size + 1]? = some (.cells #[.slice none 0 0, .slice none 0 0] 59 (0, 0)) := by rw [hX2]; exact blk_other k1 (by simp) _
  have C2 : Below w.heap.size w X2 := by rw [hX2]; exact B2.setCell (by simp; omega) _
  have S2 : Hid (Off (From w.heap.size (w.heap.size + 3)) w2 X2) := by rw [hX2]; exact Off.set ⟨by simp; omega, by simp⟩ _
  have O2 : Hid (RInts.Own X2 (From W.heap.size w1.heap.size) [.slice (some ⟨g1, 0, none⟩) sn sn] ss) := RInts.ownOff (RInts.ownBelow O1.out hb2) S2.out (fun b h k => by have := h.1; have := k.2; omega)
  have Q2 : Hid (RInts.Own X2 (From X1.heap.size w2.heap.size) [.slice (some ⟨g2, 0, none⟩) pn pn] xs) := RInts.ownOff o2 S2.out (fun b h k => by have := h.1; have := k.2; omega)
  clear o2 hb2 S2 O1 k2 k1
  go_upto_region 4 with fail
  rw [← hX2]
  clear hX2 q f
  have u0 := blk_cell b2 0 (v := .slice (some ⟨g1, 0, none⟩) sn sn) rfl
  have u1 := blk_cell b2 1 (v := .slice (some ⟨g2, 0, none⟩) pn pn) rfl
  have p0 := blk_cell b1 0 (v := .slice none 0 0) rfl
  have p1 := blk_cell b1 1 (v := .slice none 0 0) rfl
  have f0 := blk_frozen b1 0
  have f1 := blk_frozen b1 1
  obtain ⟨Y, hY⟩ : ∃ u, u = stores X2 (w.heap.size + 1) 0 [.slice (some ⟨g1, 0, none⟩) sn sn, .slice (some ⟨g2, 0, none⟩) pn pn] := ⟨_, rfl⟩
  have D : Below w.heap.size w Y := by rw [hY]; exact stores_below _ _ _ _ C2 (by omega)
  have S : Off (From w.heap.size (w.heap.size + 3)) X2 Y := by rw [hY]; exact stores_off _ _ _ _ ⟨by omega, by omega⟩
  have zY : Y.heap.size = X2.heap.size := by rw [hY]; exact stores_size _ _ _ _
  have R : Hid (RDep.Own Y (From w.heap.size Y.heap.size) [.slice (some ⟨g1, 0, none⟩) sn sn, .slice (some ⟨g2, 0, none⟩) pn pn] (ss, xs)) :=
    ⟨[_], [_], _, _, rfl, RInts.ownOff O2.out S (fun b h k => by have := h.1; have := k.2; omega), RInts.ownOff Q2.out S (fun b h k => by have := h.1; have := k.2; omega), fun b h => ⟨by have := h.1; omega, by have := h.2; omega⟩, fun b h => ⟨by have := h.1; omega, by have := h.2; omega⟩, fun b h k => by have := h.2; have := k.1; omega⟩
  have HY := Hid.mk hY
  have HD := Hid.mk D
  clear S D O2 Q2 hY zY b1 b2 C2
  go_wp2
  refine bodyPost_ret (v := .agg #[.slice (some ⟨g1, 0, none⟩) sn sn, .slice (some ⟨g2, 0, none⟩) pn pn]) (by simp [results, Try.results32, go_sem, p0, p1]) rfl ⟨g1, g2, rfl, ?_, ?_⟩
  · have h := R.out
    rw [HY.out] at h
    exact h
  · have h := HD.out
    rw [HY.out] at h
    exact h

theorem Try.infoDepend : (Try.prog.info? 59).map (fun i => (i.zero, i.size, i.bytes)) = some (some (.agg #[.slice none 0 0, .slice none 0 0]), 2, 48) := by kernel_rfl

set_option maxRecDepth 100000 in
set_option maxHeartbeats 4000000 in
theorem toDependS_any (a : Option Addr) (n c : Nat) (xs : List Dep) (w : World) (hz : xs.length = n) (hn : n ≤ 1048576) (hs : ∀ (i : Nat) (x : Dep), xs[i]? = some x → SmDep x) (ha : AtD w a xs) :
    Calls Try.prog 11 #[.slice a n c] w fun e w' => ∃ g, e = .returned (.slice (some ⟨g, 0, none⟩) n n) ∧ RDeps.Own w' (From w.heap.size w'.heap.size) [.slice (some ⟨g, 0, none⟩) n n] xs ∧ Below w.heap.size w w' := by
  obtain ⟨i0, hi, hz0, hz1, hz2⟩ := info_parts Try.infoDepend
  go_enter Try.func11, Try.ntmps11
  go_wp2_with (at_make; refine wpList_make_full _ rfl _ _ 34 rfl w.heap.size 59 i0 (.agg #[.slice none 0 0, .slice none 0 0]) 2 Try.underlying34 hi hz0 hz1 .i64 .i64 _ _ n rfl rfl rfl rfl (by rw [hz2]; omega) (by unfold maxLen; omega) (Nat.le_refl _) ?_; intro w1 hown hg)
  have hb1 : Below w.heap.size w w1 := (Below.refl _ _).grown hg (Nat.le_refl _) (by simp)
  have hlt1 := (hown.lt w.heap.size rfl).2
  obtain ⟨cs, hcs⟩ : ∃ cs, cs = (madeCells (Value.agg #[.slice none 0 0, .slice none 0 0]).cells (n * 2)).toList := ⟨_, rfl⟩
  rw [← hcs] at hown
  have hst : Laid RDep w1 (From w.heap.size w1.heap.size) 59 (some ⟨w.heap.size, 0, none⟩) n n xs cs (fun _ _ => False) 0 := Laid.start hz (by omega) (owns_mono hown (Nat.zero_le _)) (fun b hb => hown.lt b hb) _
  clear hcs hown hg
  go_loopw [4] (fun i wr => ∃ (k : Nat) (cells : List Value) (G : Nat → Nat → Prop), k ≤ n ∧ i = .int .i64 k ∧ Laid RDep wr (From w.heap.size wr.heap.size) 59 (some ⟨w.heap.size, 0, none⟩) n n xs cells G k ∧ w.heap.size < wr.heap.size ∧ Below w.heap.size w wr) (fun i _ => n - (intOf i).toNat)
  case atStart => exact ⟨0, cs, _, Nat.zero_le _, rfl, hst, hlt1, hb1⟩
  case round =>
    clear hst hb1 hlt1 cs
    obtain ⟨k, cells, G, hk, rfl, ho, hzr, hbw⟩ := hrel
    by_cases hlt : k < n
    · obtain ⟨b, off, rfl, _, hc⟩ := AtD.row (AtSl.below ha hbw) (by omega)
      obtain ⟨x, hx⟩ : ∃ x, xs[k]? = some x := ⟨_, List.getElem?_eq_getElem (by omega)⟩
      obtain ⟨fa, fn, fc, ta, tn, tc, g0, g1, ⟨t1, t2, t3⟩, ⟨u1, u2, u3⟩⟩ := hc k x hx
      have hsm := hs k x hx
      have hki : (k : Int) < (n : Int) := by omega
      have HO := Hid.mk ho
      have HX := Hid.mk hx
      have HC := Hid.mk (toDepend_any fa fn fc ta tn tc x.1 x.2 wr t1 u1 (by have := hsm.1; omega) (by have := hsm.2; omega) t3 u3)
      clear hc ha ho hs hx t1 t3 u1 u3 hsm
      go_wp2_with fail
      refine HC.out.mono ?_
      rintro e w2 ⟨h1, h2, rfl, ho2, hb2⟩
      obtain ⟨g, hgg⟩ : ∃ g, g = w.heap.size := ⟨_, rfl⟩
      have hput := HO.out.put hlt (fun b hb => hb.2) hb2 HX.out ho2 (fun b hb => hb.1)
      have z2 := hb2.size
      have hput2 := hput.mono (F' := From w.heap.size w2.heap.size) (fun b hb => by rcases hb with hb | hb; exact ⟨hb.1, by have := hb.2; omega⟩; exact ⟨by have := hb.1; omega, hb.2⟩)
      have HP : Hid (Laid RDep ((w2.setCell ⟨w.heap.size, k * 2, none⟩ (.slice (some ⟨h1, 0, none⟩) fn fn)).setCell ⟨w.heap.size, k * 2 + 1, none⟩ (.slice (some ⟨h2, 0, none⟩) tn tn)) (From w.heap.size w2.heap.size) 59 (some ⟨w.heap.size, 0, none⟩) n n xs _ _ (k + 1)) := hput2
      have hout := (HO.out.below hb2).outer
      have hln := hout.1
      have hln : cells.length = n * 2 := hln
      obtain ⟨u0, hu0⟩ : ∃ u, cells[k * 2]? = some u := ⟨_, List.getElem?_eq_getElem (by omega)⟩
      have q0 : w2.cell? ⟨w.heap.size, k * 2, none⟩ = some u0 := (hout.cellAt _ (show k * 2 < n * 2 by omega)).trans hu0
      have f0 : w2.frozen? ⟨w.heap.size, k * 2, none⟩ = false := hout.frozenAt _
      clear hu0
      obtain ⟨u1, hu1⟩ : ∃ u, cells[k * 2 + 1]? = some u := ⟨_, List.getElem?_eq_getElem (by omega)⟩
      have q1 : w2.cell? ⟨w.heap.size, k * 2 + 1, none⟩ = some u1 := (hout.cellAt _ (show k * 2 + 1 < n * 2 by omega)).trans hu1
      have f1 : w2.frozen? ⟨w.heap.size, k * 2 + 1, none⟩ = false := hout.frozenAt _
      clear hu1
      have HB : Hid (Below w.heap.size w ((w2.setCell ⟨w.heap.size, k * 2, none⟩ (.slice (some ⟨h1, 0, none⟩) fn fn)).setCell ⟨w.heap.size, k * 2 + 1, none⟩ (.slice (some ⟨h2, 0, none⟩) tn tn))) := (((hbw.trans (hb2.mono hbw.size)).setCell (Nat.le_refl _) _).setCell (Nat.le_refl _) _)
      clear hput hput2 hout hln hb2 hbw ho2 g0 g1 hgg
      go_wp2
      go_roundw
      case rel => exact ⟨k + 1, _, _, by omega, by go_num, by simpa only [World.setCell, Array.size_modify] using HP.out, by simp [World.setCell]; omega, HB.out⟩
      case measure => simp [intOf]; omega
    · obtain rfl : k = n := by omega
      go_wp2
      go_ret
      exact ⟨_, rfl, ⟨_, _, _, _, _, rfl, ho⟩, hbw⟩

end Go.Proofs.Ythliamoeplgblaa

/- Slices of numbers that are alike are held equal. -/
namespace Go.Proofs.Ythliamoeplgblaa
open Go.RowKit

theorem eqIntS_same (a a' : Option Addr) (n c c' : Nat) (zs : List Int) (w : World) (hz : zs.length = n) (hn : n ≤ 1048576) (ha : At w a zs) (ha' : At w a' zs) :
    Calls Try.prog 69 #[.slice a n c, .slice a' n c'] w fun e w' => e = .returned (.bool true) ∧ Below w.heap.size w w' :=
  (eqIntS_any a a' n n c c' zs zs w hz hz hn hn ha ha').mono fun _ _ ⟨h1, h2⟩ => ⟨by rw [h1, decide_eq_true rfl], h2⟩
end Go.Proofs.Ythliamoeplgblaa
