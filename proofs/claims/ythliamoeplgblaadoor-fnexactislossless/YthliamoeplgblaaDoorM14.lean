/- Several texts of one proof, in build order: ChY, ChZ, ChA, ChB, ChE, ColP. -/
import Derived.Test.YthliamoeplgblaaDoorM13
import Derived.Test.YthliamoeplgblaaDoorM4
import Derived.Test.YthliamoeplgblaaDoorM10
import Derived.Test.YthliamoeplgblaaDoorM11
import Derived.Laws.BitsAllLaws

/- Contract of spec.ChaseStep. -/
namespace Go.Proofs.YthliamoeplgblaaDoor
open Go.RowKit

/-- What is told is small. -/
theorem smR_of {zss : List (List Int)} {m q : Nat} (hm : zss.length ≤ m) (h : ∀ z ∈ zss, z.length ≤ q) (hb : m + m * q ≤ 1048576) : SmR zss zss.length := by
  refine ⟨rfl, ?_⟩
  have h1 : ∀ k, k ≤ zss.length → tot zss k ≤ k * q := by
    intro k
    induction k with
    | zero => intro _; simp [tot_zero]
    | succ k ih =>
      intro hk
      have := ih (by omega)
      rw [tot_succ zss k (by omega)]
      have h2 : (zss.getD k []).length ≤ q := h _ (by rw [show zss.getD k [] = zss[k] by simp [List.getD, show k < zss.length by omega]]; exact List.getElem_mem _)
      rw [Nat.succ_mul]; omega
  have h3 := h1 zss.length (Nat.le_refl _)
  have h4 := Nat.mul_le_mul_right q hm
  omega
theorem tb_small {p : Int} {zss : List (List Int)} (h : tbB p zss = true) : SmR zss zss.length := smR_of (tbB_n h).2 (tbB_sum h) (by omega)
theorem nil_small : SmR [] ([] : List (List Int)).length := ⟨rfl, by simp [tot]⟩
theorem cs_small (p : Int) (zss : List (List Int)) (xs : List Dep) : SmR (csL p zss xs) (csL p zss xs).length := by
  unfold csL csZ
  cases hg : (tbB p zss && goodDeps xs p) with
  | false => exact nil_small
  | true =>
    simp only [Bool.and_eq_true] at hg
    simp only [if_true]
    cases hs : stepZ xs zss with
    | none => exact nil_small
    | some yss => exact tb_small (step_good hg.1 hg.2 hs)

end Go.Proofs.YthliamoeplgblaaDoor

/- Plain: chasing till nothing is left to do. -/
namespace Go.Proofs.YthliamoeplgblaaDoor

def chF : Nat → List Dep → List (List Int) → List (List Int) × Nat
  | 0, _, z => (z, 0)
  | f + 1, xs, z => match stepZ xs z with
    | none => (z, 0)
    | some y => ((chF f xs y).1, (chF f xs y).2 + 1)
/-- What all steps come to, and how many they are. -/
def chZ (xs : List Dep) (zss : List (List Int)) : List (List Int) × Nat := chF (sumZ zss).toNat xs zss

theorem chF_none {f : Nat} {xs : List Dep} {z : List (List Int)} (h : stepZ xs z = none) : chF f xs z = (z, 0) := by
  cases f with
  | zero => rfl
  | succ f => rw [chF, h]
theorem chF_same {C : Int} {xs : List Dep} (hd : goodDeps xs C = true) : ∀ (f g : Nat) (z : List (List Int)), tbB C z = true → (sumZ z).toNat ≤ f → (sumZ z).toNat ≤ g → chF f xs z = chF g xs z
  | 0, g, z, ht, hf, _ => by
    have hn : stepZ xs z = none := by
      cases hs : stepZ xs z with
      | none => rfl
      | some y =>
        have h1 := step_sum ht hd hs
        have h2 := (tbB_sumZ (step_good ht hd hs)).1
        omega
    rw [chF_none hn, chF_none hn]
  | f + 1, 0, z, ht, _, hg => by
    have hn : stepZ xs z = none := by
      cases hs : stepZ xs z with
      | none => rfl
      | some y =>
        have h1 := step_sum ht hd hs
        have h2 := (tbB_sumZ (step_good ht hd hs)).1
        omega
    rw [chF_none hn, chF_none hn]
  | f + 1, g + 1, z, ht, hf, hg => by
    cases hs : stepZ xs z with
    | none => rw [chF_none hs, chF_none hs]
    | some y =>
      have h1 := step_sum ht hd hs
      have h3 := step_good ht hd hs
      have h2 := (tbB_sumZ h3).1
      have ih := chF_same hd f g y h3 (by omega) (by omega)
      rw [chF, chF, hs]
      simp only [ih]
theorem chZ_done {xs : List Dep} {z : List (List Int)} (h : stepZ xs z = none) : chZ xs z = (z, 0) := chF_none h
theorem chZ_step {C : Int} {xs : List Dep} {z y : List (List Int)} (hd : goodDeps xs C = true) (ht : tbB C z = true) (hs : stepZ xs z = some y) : chZ xs z = ((chZ xs y).1, (chZ xs y).2 + 1) := by
  have h1 := step_sum ht hd hs
  have h3 := step_good ht hd hs
  have h2 := (tbB_sumZ h3).1
  unfold chZ
  obtain ⟨f, hf⟩ : ∃ f, (sumZ z).toNat = f + 1 := ⟨(sumZ z).toNat - 1, by omega⟩
  rw [hf, chF, hs]
  simp only [chF_same hd f (sumZ y).toNat y h3 (by omega) (Nat.le_refl _)]
theorem chF_count (f : Nat) (xs : List Dep) : ∀ z, (chF f xs z).2 ≤ f := by
  induction f with
  | zero => intro z; exact Nat.le_refl _
  | succ f ih =>
    intro z
    rw [chF]
    split
    · exact Nat.zero_le _
    · rename_i y _; have := ih y; simp only; omega
theorem chZ_count {C : Int} {xs : List Dep} {z : List (List Int)} (ht : tbB C z = true) : (chZ xs z).2 ≤ 4800000 := by
  have h1 := chF_count (sumZ z).toNat xs z
  have h2 := tbB_sumZ ht
  unfold chZ; omega
theorem chF_good {C : Int} {xs : List Dep} (hd : goodDeps xs C = true) : ∀ (f : Nat) (z : List (List Int)), tbB C z = true → tbB C (chF f xs z).1 = true
  | 0, z, ht => ht
  | f + 1, z, ht => by
    rw [chF]
    cases hs : stepZ xs z with
    | none => exact ht
    | some y => exact chF_good hd f y (step_good ht hd hs)
theorem chZ_good {C : Int} {xs : List Dep} {z : List (List Int)} (hd : goodDeps xs C = true) (ht : tbB C z = true) : tbB C (chZ xs z).1 = true := chF_good hd _ z ht
theorem step_len {xs : List Dep} {z y : List (List Int)} (h : stepZ xs z = some y) : y.length = z.length := by
  unfold stepZ at h
  cases hm : mrgAll z xs with
  | none => rw [hm] at h; cases h
  | some m => rw [hm] at h; obtain rfl := Option.some.inj h; simp

end Go.Proofs.YthliamoeplgblaaDoor

/- Contract of impl.ChaseAll. -/
namespace Go.Proofs.YthliamoeplgblaaDoor
open Go.RowKit

/-- What ChaseAll tells. -/
def caB (p : Int) (zss : List (List Int)) (xs : List Dep) : Bool := tbB p zss && goodDeps xs p
def caP (p : Int) (zss : List (List Int)) (xs : List Dep) : Int := if caB p zss xs then p else 0
def caN (p : Int) (zss : List (List Int)) (xs : List Dep) : Int := if caB p zss xs then ((chZ xs zss).2 : Int) else 0
def caL (p : Int) (zss : List (List Int)) (xs : List Dep) : List (List Int) := if caB p zss xs then (chZ xs zss).1 else []

theorem RRows.cap {w : World} {F : Nat → Prop} {a : Option Addr} {n c : Nat} {zss : List (List Int)} (h : RRows.Own w F [.slice a n c] zss) : n ≤ c := by
  obtain ⟨a', n', c', cells, G, e, hl⟩ := h
  simp only [List.cons.injEq, Value.slice.injEq, and_true] at e
  obtain ⟨rfl, rfl, rfl⟩ := e
  rcases hl.outer.2 with ⟨h', h0⟩ | ⟨g, cap, cur, h', _, _, h1, _⟩
  · omega
  · simp only [Value.slice.injEq, true_and] at h'
    rw [h'.2]; exact h1

set_option maxRecDepth 100000 in
set_option maxHeartbeats 8000000 in
theorem implChaseAll (p : Int) (a : Option Addr) (n c : Nat) (zss : List (List Int)) (la : Option Addr) (ln lc : Nat) (xs : List Dep) (w : World) (hz : zss.length = n) (hn : n ≤ 9223372036854775807) (hlz : xs.length = ln) (hln : ln ≤ 9223372036854775807) (ha : AtS w a zss) (hla : AtD w la xs) :
    Calls Tryd.prog 35 #[.agg #[.int .i64 p, .slice a n c], .slice la ln lc] w fun e w' => TblRet3 e w' w.heap.size (caB p zss xs) (caP p zss xs) (caN p zss xs) (caL p zss xs) ∧ Below w.heap.size w w' := by
  obtain ⟨W, hW⟩ : ∃ W, W = (w.alloc (.cells #[.int .i64 p, .slice a n c] 26)).alloc (.cells #[.int .i64 0, .slice none 0 0] 26) := ⟨_, rfl⟩
  have B0 : Below w.heap.size w W := by rw [hW]; exact ((Below.refl _ _).alloc (Nat.le_refl _) _).alloc (by simp) _
  have zW : w.heap.size + 1 < W.heap.size := by rw [hW]; simp
  have c0 : W.cell? ⟨w.heap.size, 0, none⟩ = some (.int .i64 p) := by rw [hW]; simp [go_sem]
  have c1 : W.cell? ⟨w.heap.size, 1, none⟩ = some (.slice a n c) := by rw [hW]; simp [go_sem]
  have b1 : W.heap[w.heap.size + 1]? = some (.cells #[.int .i64 0, .slice none 0 0] 26 (0, 0)) := by
    rw [hW]
    have h := heap_alloc_new (w.alloc (.cells #[.int .i64 p, .slice a n c] 26)) (.cells #[.int .i64 0, .slice none 0 0] 26)
    simpa only [World.size_alloc] using h
  have K1 := Hid.mk (goodChase_any p a n c zss la ln lc xs W hz hn hlz hln (ha.below B0) (AtSl.below hla B0))
  have HA := Hid.mk (ha.below B0)
  have HL := Hid.mk hla
  have HZ := Hid.mk hz
  have HLZ := Hid.mk hlz
  clear ha hla hz hlz
  cases hg : (tbB p zss && goodDeps xs p) with
  | false =>
    have HG := Hid.mk hg
    unfold caP caN caL caB
    rw [HG.out]
    clear hg
    go_enter Tryd.func35, Tryd.ntmps35
    go_wp2_with fail
    rw [← hW]
    clear hW
    refine K1.out.mono ?_
    rintro e w1 ⟨rfl, hb1⟩
    rw [HG.out]
    have B1 := B0.trans (hb1.mono B0.size)
    have q := blk_below b1 hb1
    have e0 := blk_cell q 0 (v := .int .i64 0) rfl
    have e1 := blk_cell q 1 (v := .slice none 0 0) rfl
    have f0 := blk_frozen q 0
    have f1 := blk_frozen q 1
    go_wp2
    refine bodyPost_ret (v := .tuple #[.agg #[.int .i64 0, .slice none 0 0], .int .i64 0, .bool false]) (by simp [results, Tryd.results35, go_sem, e0, e1]) rfl ⟨⟨none, 0, 0, rfl, RRows.nil _ _⟩, ?_⟩
    exact (B1.setCell (by simp) _).setCell (by simp) _
  | true =>
    have ht : tbB p zss = true := by simp only [Bool.and_eq_true] at hg; exact hg.1
    have hd : goodDeps xs p = true := by simp only [Bool.and_eq_true] at hg; exact hg.2
    have HG := Hid.mk hg
    unfold caP caN caL caB
    rw [HG.out]
    simp only [if_true]
    obtain ⟨T, hT⟩ : ∃ T, chZ xs zss = T := ⟨_, rfl⟩
    have hTc : T.2 ≤ 4800000 := by rw [← hT]; exact chZ_count ht
    obtain ⟨TL, TN⟩ := T
    simp only at hTc
    rw [hT]
    simp only
    have hn8 : 1 ≤ n ∧ n ≤ 8 := by have := tbB_n ht; have := HZ.out; omega
    have HSUM := Hid.mk (tbB_sum ht)
    have K3 : Hid (∀ w', Below W.heap.size W w' → Calls Tryd.prog 53 #[.agg #[.int .i64 p, .slice a n c]] w' fun e w'' => ∃ r d, e = .returned (.agg #[.int .i64 p, .slice r n d]) ∧ RRows.Own w'' (From w'.heap.size w''.heap.size) [.slice r n d] zss ∧ Below w'.heap.size w' w'') :=
      fun w' h => copyTableau_any p a n c zss w' HZ.out (by omega) (fun k z hk => by have := HSUM.out z (List.mem_of_getElem? hk); omega) (HA.out.below h)
    have KS : Hid (∀ (cur : List (List Int)) (r : Option Addr) (d : Nat) (w' : World), cur.length = n → n ≤ d → Below w.heap.size w w' → AtS w' r cur → Calls Tryd.prog 54 #[.agg #[.int .i64 p, .slice r n d], .slice la ln lc] w' fun e w'' => TblRet e w'' w'.heap.size (csZ p cur xs).isSome (csP p cur xs) (csL p cur xs) ∧ Below w'.heap.size w' w'') :=
      fun cur r d w' h1 h2 h3 h4 => implChaseStep p r n d cur la ln lc xs w' h1 (by omega) h2 HLZ.out hln h4 (AtSl.below HL.out h3)
    have HT0 := Hid.mk ht
    have HD := Hid.mk hd
    have HCH : Hid (chZ xs zss = (TL, TN)) := hT
    clear hg ht hd hT
    go_enter Tryd.func35, Tryd.ntmps35
    go_wp2_with fail
    rw [← hW]
    clear hW
    refine K1.out.mono ?_
    rintro e w1 ⟨rfl, hb1⟩
    rw [HG.out]
    have B1 := B0.trans (hb1.mono B0.size)
    have q := blk_below b1 hb1
    have d0 := cell_later hb1 c0
    have d1 := cell_later hb1 c1
    go_wp2_with fail
    refine (K3.out w1 hb1).mono ?_
    rintro e w2 ⟨r, d, rfl, hO, hb2⟩
    have B2 := B1.trans (hb2.mono B1.size)
    have q2 := blk_below q hb2
    obtain ⟨X, hX⟩ : ∃ X, X = w2.alloc (.cells #[.int .i64 p, .slice r n d] 26) := ⟨_, rfl⟩
    have hbX : Below w2.heap.size w2 X := by rw [hX]; exact (Below.refl _ _).alloc (Nat.le_refl _) _
    have qX : X.heap[w2.heap.size]? = some (.cells #[.int .i64 p, .slice r n d] 26 (0, 0)) := by rw [hX]; exact heap_alloc_new _ _
    have q3 := blk_below q2 hbX
    have BX := B2.trans (hbX.mono B2.size)
    have z2 : w.heap.size + 1 < w2.heap.size := by have := hb1.size; have := hb2.size; omega
    have z1 : w.heap.size ≤ w1.heap.size := B1.size
    have zX : w2.heap.size < X.heap.size := by rw [hX]; simp
    have HO : Hid (RRows.Own X (fun b => w.heap.size ≤ b ∧ b < X.heap.size ∧ b ≠ w2.heap.size ∧ b ≠ w.heap.size + 1) [.slice r n d] zss) := RRows.mono (RRows.ownBelow hO hbX) (fun b h => ⟨by have := h.1; omega, by have := h.2; omega, by have := h.2; omega, by have := h.1; have := hb1.size; omega⟩)
    clear hO hb1 hb2 q q2 b1 c0 c1 d0 d1 hbX B1 B2
    go_wp2_with fail
    rw [← hX]
    clear hX
    go_loopw [8] (fun i wr => ∃ (j : Nat) (cur : List (List Int)) (r : Option Addr) (d : Nat), i = .int .i64 j ∧ j + (chZ xs cur).2 = TN ∧ (chZ xs cur).1 = TL ∧ tbB p cur = true ∧ cur.length = n ∧ wr.heap[w2.heap.size]? = some (.cells #[.int .i64 p, .slice r n d] 26 (0, 0)) ∧ wr.heap[w.heap.size + 1]? = some (.cells #[.int .i64 0, .slice none 0 0] 26 (0, 0)) ∧
      RRows.Own wr (fun b => w.heap.size ≤ b ∧ b < wr.heap.size ∧ b ≠ w2.heap.size ∧ b ≠ w.heap.size + 1) [.slice r n d] cur ∧ Below w.heap.size w wr) (fun i _ => TN + 1 - (intOf i).toNat)
    case atStart => exact ⟨0, zss, r, d, rfl, by rw [HCH.out]; simp, by rw [HCH.out], HT0.out, HZ.out, qX, q3, HO.out, BX⟩
    case round =>
      clear HO qX q3 BX
      obtain ⟨j, cur, r, d, rfl, hj, hl, htc, hcl, q5, q6, hO, hbw⟩ := hrel
      have z5 := (Array.getElem?_eq_some_iff.1 q5).1
      have k0 := blk_cell q5 0 (v := .int .i64 p) rfl
      have k1 := blk_cell q5 1 (v := .slice r n d) rfl
      have KC := Hid.mk (KS.out cur r d wr hcl (RRows.cap hO) hbw (RRows.atS hO).2)
      have hcs : csZ p cur xs = stepZ xs cur := by unfold csZ; rw [htc, HD.out]; rfl
      unfold csP csL at KC
      rw [hcs] at KC
      have HJ := Hid.mk hj
      have HLL := Hid.mk hl
      have HTC := Hid.mk htc
      have HCL := Hid.mk hcl
      have hjT : j ≤ TN := by omega
      have HOW := Hid.mk hO
      have HBW := Hid.mk hbw
      clear hj hl htc hcl hO hcs
      cases hs : stepZ xs cur with
      | none =>
        rw [hs] at KC
        simp only [Option.isSome_none, Option.getD_none] at KC
        have HFI : Hid (cur = TL ∧ j = TN) := by
          have h1 := HLL.out
          have h2 := HJ.out
          rw [chZ_done hs] at h1 h2
          exact ⟨h1, by simpa using h2⟩
        clear hs
        go_wp2_with fail
        refine KC.out.mono ?_
        rintro e w3 ⟨⟨r3, m3, d3, rfl, hO3⟩, hb3⟩
        have hb3' : Below wr.heap.size wr (w3.alloc (.cells #[.int .i64 (if false = true then p else 0), .slice r3 m3 d3] 26)) := hb3.alloc hb3.size _
        simp only [Bool.false_eq_true, if_false] at hb3' ⊢
        obtain ⟨Y, hY⟩ : ∃ Y, Y = w3.alloc (.cells #[.int .i64 0, .slice r3 m3 d3] 26) := ⟨_, rfl⟩
        rw [← hY] at hb3'
        have s0 := cell_later hb3' k0
        have s1 := cell_later hb3' k1
        have q7 := blk_below q6 hb3'
        have e0 := blk_cell q7 0 (v := .int .i64 0) rfl
        have e1 := blk_cell q7 1 (v := .slice none 0 0) rfl
        have f0 := blk_frozen q7 0
        have f1 := blk_frozen q7 1
        have B5 := hbw.trans (hb3'.mono hbw.size)
        have HO5 := Hid.mk (RRows.ownBelow HOW.out hb3')
        have zY := hb3'.size
        clear hO3 hb3 hb3' q5 q6 q7 k0 k1
        go_upto_region 5 with fail
        rw [← hY]
        clear hY
        go_wp2
        refine bodyPost_ret (v := .tuple #[.agg #[.int .i64 p, .slice r n d], .int .i64 (j : Int), .bool true]) (by simp [results, Tryd.results35, go_sem, e0, e1]) rfl ⟨?_, ?_⟩
        · rw [← HFI.out.1, ← HFI.out.2]
          refine ⟨r, n, d, rfl, RRows.mono (RRows.ownOff (RRows.ownOff HO5.out (Off.set (F := fun b => b = w.heap.size + 1) (a := ⟨w.heap.size + 1, 0, none⟩) rfl _) (fun b h h' => h.2.2.2 h')) (Off.set (F := fun b => b = w.heap.size + 1) (a := ⟨w.heap.size + 1, 1, none⟩) rfl _) (fun b h h' => h.2.2.2 h')) (fun b h => ⟨h.1, by have := h.2.1; simp only [World.setCell, Array.size_modify]; omega⟩)⟩
        · exact (B5.setCell (by simp) _).setCell (by simp) _
      | some y =>
        rw [hs] at KC
        simp only [Option.isSome_some, Option.getD_some, if_true] at KC
        have hst := chZ_step HD.out HTC.out hs
        have HYL : Hid (y.length = n) := by show _ = _; rw [step_len hs]; exact HCL.out
        have HYG := Hid.mk (step_good HTC.out HD.out hs)
        have HJ2 : Hid (j + 1 + (chZ xs y).2 = TN ∧ (chZ xs y).1 = TL) := by
          have h1 := HLL.out
          have h2 := HJ.out
          rw [hst] at h1 h2
          exact ⟨by simp only at h2; omega, h1⟩
        have hjT1 : j + 1 ≤ TN := by have := HJ2.out.1; omega
        clear hs hst
        go_wp2_with fail
        refine KC.out.mono ?_
        rintro e w3 ⟨⟨r3, m3, d3, rfl, hO3⟩, hb3⟩
        obtain rfl : m3 = n := (RRows.atS hO3).1.symm.trans HYL.out
        obtain ⟨Y, hY⟩ : ∃ Y, Y = w3.alloc (.cells #[.int .i64 p, .slice r3 m3 d3] 26) := ⟨_, rfl⟩
        have hbY : Below w3.heap.size w3 Y := by rw [hY]; exact (Below.refl _ _).alloc (Nat.le_refl _) _
        have y0 : Y.cell? ⟨w3.heap.size, 0, none⟩ = some (.int .i64 p) := by rw [hY]; exact pair0 _ _ _ _
        have y1 : Y.cell? ⟨w3.heap.size, 1, none⟩ = some (.slice r3 m3 d3) := by rw [hY]; exact pair1 _ _ _ _
        have zY : w3.heap.size < Y.heap.size := by rw [hY]; simp
        have hb3' := hb3.trans (hbY.mono hb3.size)
        have z3 := hb3.size
        have q7 := blk_below q6 hb3'
        have q8 := blk_below q5 hb3'
        have s0 := blk_cell q8 0 (v := .int .i64 p) rfl
        have s1 := blk_cell q8 1 (v := .slice r m3 d) rfl
        have f0 := blk_frozen q8 0
        have f1 := blk_frozen q8 1
        have B5 := hbw.trans (hb3'.mono hbw.size)
        have zr := hbw.size
        have HQ8 : Hid (((Y.setCell ⟨w2.heap.size, 0, none⟩ (.int .i64 p)).setCell ⟨w2.heap.size, 1, none⟩ (.slice r3 m3 d3)).heap[w2.heap.size]? = some (.cells #[.int .i64 p, .slice r3 m3 d3] 26 (0, 0))) := blk_set (blk_set q8 0 _) 1 _
        have HQ7 : Hid (((Y.setCell ⟨w2.heap.size, 0, none⟩ (.int .i64 p)).setCell ⟨w2.heap.size, 1, none⟩ (.slice r3 m3 d3)).heap[w.heap.size + 1]? = some (.cells #[.int .i64 0, .slice none 0 0] 26 (0, 0))) := blk_other (a := ⟨w2.heap.size, 1, none⟩) (blk_other (a := ⟨w2.heap.size, 0, none⟩) q7 (by simp; omega) _) (by simp; omega) _
        have HO6 : Hid (RRows.Own ((Y.setCell ⟨w2.heap.size, 0, none⟩ (.int .i64 p)).setCell ⟨w2.heap.size, 1, none⟩ (.slice r3 m3 d3)) (fun b => w.heap.size ≤ b ∧ b < ((Y.setCell ⟨w2.heap.size, 0, none⟩ (.int .i64 p)).setCell ⟨w2.heap.size, 1, none⟩ (.slice r3 m3 d3)).heap.size ∧ b ≠ w2.heap.size ∧ b ≠ w.heap.size + 1) [.slice r3 m3 d3] y) := by
          have h1 := RRows.ownBelow hO3 hbY
          have h2 := RRows.ownOff (RRows.ownOff h1 (Off.set (F := fun b => b = w2.heap.size) (a := ⟨w2.heap.size, 0, none⟩) rfl (.int .i64 p)) (fun b h h' => by have := h.1; omega)) (Off.set (F := fun b => b = w2.heap.size) (a := ⟨w2.heap.size, 1, none⟩) rfl (.slice r3 m3 d3)) (fun b h h' => by have := h.1; omega)
          exact RRows.mono h2 (fun b h => ⟨by have := h.1; omega, by have := h.2; simp only [World.setCell, Array.size_modify]; omega, by have := h.1; omega, by have := h.1; omega⟩)
        have HB6 : Hid (Below w.heap.size w ((Y.setCell ⟨w2.heap.size, 0, none⟩ (.int .i64 p)).setCell ⟨w2.heap.size, 1, none⟩ (.slice r3 m3 d3))) := (B5.setCell (by show w.heap.size ≤ w2.heap.size; omega) _).setCell (by show w.heap.size ≤ w2.heap.size; omega) _
        clear hO3 hb3 hb3' hbY q5 q6 q7 q8 k0 k1 B5
        go_upto_region 5 with fail
        rw [← hY]
        clear hY
        go_wp2
        go_roundw
        case rel => exact ⟨j + 1, y, r3, d3, by go_num, HJ2.out.1, HJ2.out.2, HYG.out, HYL.out, HQ8.out, HQ7.out, HO6.out, HB6.out⟩
        case measure => simp [intOf]; omega

end Go.Proofs.YthliamoeplgblaaDoor

/- Contract of spec.l9Own. -/
namespace Go.Proofs.YthliamoeplgblaaDoor
open Go.RowKit

end Go.Proofs.YthliamoeplgblaaDoor

/- Contracts of spec.l9Chase, spec.ChaseAll. -/
namespace Go.Proofs.YthliamoeplgblaaDoor
open Go.RowKit

set_option maxRecDepth 100000 in
set_option maxHeartbeats 8000000 in
theorem l9Chase_any (F : Nat → Prop) (p : Int) (a : Option Addr) (n c : Nat) (zss : List (List Int)) (la : Option Addr) (ln lc : Nat) (xs : List Dep) (w : World) (hz : zss.length = n) (hlz : xs.length = ln) (ht : tbB p zss = true) (hd : goodDeps xs p = true) (hF : ∀ b, F b → b < w.heap.size) (hO : RRows.Own w F [.slice a n c] zss) (hla : AtD w la xs) :
    Calls Tryd.prog 33 #[.agg #[.int .i64 p, .slice a n c], .slice la ln lc] w fun e w' => (∃ r d, e = .returned (.tuple #[.agg #[.int .i64 p, .slice r n d], .int .i64 ((chZ xs zss).2 : Nat)]) ∧ RRows.Own w' (fun b => F b ∨ From w.heap.size w'.heap.size b) [.slice r n d] (chZ xs zss).1) ∧ Below w.heap.size w w' := by
  obtain ⟨T, hT⟩ : ∃ T, chZ xs zss = T := ⟨_, rfl⟩
  have hTc : T.2 ≤ 4800000 := by rw [← hT]; exact chZ_count ht
  obtain ⟨TL, TN⟩ := T
  simp only at hTc
  rw [hT]
  simp only
  have hn8 : 1 ≤ n ∧ n ≤ 8 := by have := tbB_n ht; omega
  have KS : Hid (∀ (cur : List (List Int)) (r : Option Addr) (d : Nat) (w' : World), cur.length = n → n ≤ d → tbB p cur = true → Below w.heap.size w w' → AtR w' r cur → Calls Tryd.prog 51 #[.agg #[.int .i64 p, .slice r n d], .slice la ln lc] w' fun e w'' => TblRet e w'' w'.heap.size (stepZ xs cur).isSome (stP p (stepZ xs cur)) ((stepZ xs cur).getD []) ∧ Below w'.heap.size w' w'') :=
    fun cur r d w' h1 h2 h3 h4 h5 => l9Step_any p r n d cur la ln lc xs w' h1 h2 hlz h3 hd h5 (AtSl.below hla h4)
  obtain ⟨W, hW⟩ : ∃ W, W = (w.alloc (.cells #[.int .i64 p, .slice a n c] 26)).alloc (.cells #[.int .i64 0, .slice none 0 0] 26) := ⟨_, rfl⟩
  have B0 : Below w.heap.size w W := by rw [hW]; exact ((Below.refl _ _).alloc (Nat.le_refl _) _).alloc (by simp) _
  have zW : w.heap.size + 1 < W.heap.size := by rw [hW]; simp
  have q0 : W.heap[w.heap.size]? = some (.cells #[.int .i64 p, .slice a n c] 26 (0, 0)) := by rw [hW]; exact blk_alloc (heap_alloc_new w _) _
  have q1 : W.heap[w.heap.size + 1]? = some (.cells #[.int .i64 0, .slice none 0 0] 26 (0, 0)) := by
    rw [hW]
    have h := heap_alloc_new (w.alloc (.cells #[.int .i64 p, .slice a n c] 26)) (.cells #[.int .i64 0, .slice none 0 0] 26)
    simpa only [World.size_alloc] using h
  have HO : Hid (RRows.Own W (fun b => (F b ∨ From w.heap.size W.heap.size b) ∧ b ≠ w.heap.size ∧ b ≠ w.heap.size + 1) [.slice a n c] zss) := RRows.mono (RRows.ownBelow hO B0) (fun b h => ⟨.inl h, by have := hF b h; omega, by have := hF b h; omega⟩)
  have HT0 := Hid.mk ht
  have HD := Hid.mk hd
  have HCH : Hid (chZ xs zss = (TL, TN)) := hT
  have HZ := Hid.mk hz
  have HF := Hid.mk hF
  clear hla hz hlz ht hd hT hO hF
  go_enter Tryd.func33, Tryd.ntmps33
  go_wp2_with fail
  rw [← hW]
  clear hW
  go_loopw [6] (fun i wr => ∃ (j : Nat) (cur : List (List Int)) (r : Option Addr) (d : Nat), i = .int .i64 j ∧ j + (chZ xs cur).2 = TN ∧ (chZ xs cur).1 = TL ∧ tbB p cur = true ∧ cur.length = n ∧ wr.heap[w.heap.size]? = some (.cells #[.int .i64 p, .slice r n d] 26 (0, 0)) ∧ wr.heap[w.heap.size + 1]? = some (.cells #[.int .i64 0, .slice none 0 0] 26 (0, 0)) ∧
      RRows.Own wr (fun b => (F b ∨ From w.heap.size wr.heap.size b) ∧ b ≠ w.heap.size ∧ b ≠ w.heap.size + 1) [.slice r n d] cur ∧ Below w.heap.size w wr) (fun i _ => TN + 1 - (intOf i).toNat)
  case atStart => exact ⟨0, zss, a, c, rfl, by rw [HCH.out]; simp, by rw [HCH.out], HT0.out, HZ.out, q0, q1, HO.out, B0⟩
  case round =>
    clear HO q0 q1 B0
    obtain ⟨j, cur, r, d, rfl, hj, hl, htc, hcl, q5, q6, hO, hbw⟩ := hrel
    have z6 := (Array.getElem?_eq_some_iff.1 q6).1
    have k0 := blk_cell q5 0 (v := .int .i64 p) rfl
    have k1 := blk_cell q5 1 (v := .slice r n d) rfl
    have KC := Hid.mk (KS.out cur r d wr hcl (RRows.cap hO) htc hbw (RRows.atR hO))
    have HJ := Hid.mk hj
    have HLL := Hid.mk hl
    have HTC := Hid.mk htc
    have HCL := Hid.mk hcl
    have hjT : j ≤ TN := by omega
    have HOW := Hid.mk hO
    have HBW := Hid.mk hbw
    clear hj hl htc hcl hO
    unfold stP at KC
    cases hs : stepZ xs cur with
    | none =>
      rw [hs] at KC
      simp only [Option.isSome_none, Option.getD_none, Bool.false_eq_true, if_false] at KC
      have HFI : Hid (cur = TL ∧ j = TN) := by
        have h1 := HLL.out
        have h2 := HJ.out
        rw [chZ_done hs] at h1 h2
        exact ⟨h1, by simpa using h2⟩
      clear hs
      go_wp2_with fail
      refine KC.out.mono ?_
      rintro e w3 ⟨⟨r3, m3, d3, rfl, hO3⟩, hb3⟩
      obtain ⟨Y, hY⟩ : ∃ Y, Y = w3.alloc (.cells #[.int .i64 0, .slice r3 m3 d3] 26) := ⟨_, rfl⟩
      have hb3' : Below wr.heap.size wr Y := by rw [hY]; exact hb3.alloc hb3.size _
      have s0 := cell_later hb3' k0
      have s1 := cell_later hb3' k1
      have q7 := blk_below q6 hb3'
      have e0 := blk_cell q7 0 (v := .int .i64 0) rfl
      have e1 := blk_cell q7 1 (v := .slice none 0 0) rfl
      have f0 := blk_frozen q7 0
      have f1 := blk_frozen q7 1
      have B5 := hbw.trans (hb3'.mono hbw.size)
      have HO5 := Hid.mk (RRows.ownBelow HOW.out hb3')
      have zY := hb3'.size
      clear hO3 hb3 hb3' q5 q6 q7 k0 k1
      go_upto_region 3 with fail
      rw [← hY]
      clear hY
      go_wp2
      refine bodyPost_ret (v := .tuple #[.agg #[.int .i64 p, .slice r n d], .int .i64 (j : Int)]) (by simp [results, Tryd.results33, go_sem, e0, e1]) rfl ⟨?_, ?_⟩
      · rw [← HFI.out.1, ← HFI.out.2]
        refine ⟨r, d, rfl, RRows.mono (RRows.ownOff (RRows.ownOff HO5.out (Off.set (F := fun b => b = w.heap.size + 1) (a := ⟨w.heap.size + 1, 0, none⟩) rfl _) (fun b h h' => h.2.2 h')) (Off.set (F := fun b => b = w.heap.size + 1) (a := ⟨w.heap.size + 1, 1, none⟩) rfl _) (fun b h h' => h.2.2 h')) (fun b h => ?_)⟩
        rcases h.1 with h1 | h1
        · exact .inl h1
        · exact .inr ⟨h1.1, by have := h1.2; simp only [World.setCell, Array.size_modify]; omega⟩
      · exact (B5.setCell (by simp) _).setCell (by simp) _
    | some y =>
      rw [hs] at KC
      simp only [Option.isSome_some, Option.getD_some, if_true] at KC
      have hst := chZ_step HD.out HTC.out hs
      have HYL : Hid (y.length = n) := by show _ = _; rw [step_len hs]; exact HCL.out
      have HYG := Hid.mk (step_good HTC.out HD.out hs)
      have HJ2 : Hid (j + 1 + (chZ xs y).2 = TN ∧ (chZ xs y).1 = TL) := by
        have h1 := HLL.out
        have h2 := HJ.out
        rw [hst] at h1 h2
        exact ⟨by simp only at h2; omega, h1⟩
      have hjT1 : j + 1 ≤ TN := by have := HJ2.out.1; omega
      clear hs hst
      go_wp2_with fail
      refine KC.out.mono ?_
      rintro e w3 ⟨⟨r3, m3, d3, rfl, hO3⟩, hb3⟩
      obtain rfl : m3 = n := (RRows.atS hO3).1.symm.trans HYL.out
      obtain ⟨Y, hY⟩ : ∃ Y, Y = w3.alloc (.cells #[.int .i64 p, .slice r3 m3 d3] 26) := ⟨_, rfl⟩
      have hbY : Below w3.heap.size w3 Y := by rw [hY]; exact (Below.refl _ _).alloc (Nat.le_refl _) _
      have y0 : Y.cell? ⟨w3.heap.size, 0, none⟩ = some (.int .i64 p) := by rw [hY]; exact pair0 _ _ _ _
      have y1 : Y.cell? ⟨w3.heap.size, 1, none⟩ = some (.slice r3 m3 d3) := by rw [hY]; exact pair1 _ _ _ _
      have zY : w3.heap.size < Y.heap.size := by rw [hY]; simp
      have hb3' := hb3.trans (hbY.mono hb3.size)
      have z3 := hb3.size
      have q7 := blk_below q6 hb3'
      have q8 := blk_below q5 hb3'
      have s0 := blk_cell q8 0 (v := .int .i64 p) rfl
      have s1 := blk_cell q8 1 (v := .slice r m3 d) rfl
      have f0 := blk_frozen q8 0
      have f1 := blk_frozen q8 1
      have B5 := hbw.trans (hb3'.mono hbw.size)
      have zr := hbw.size
      have HQ8 : Hid (((Y.setCell ⟨w.heap.size, 0, none⟩ (.int .i64 p)).setCell ⟨w.heap.size, 1, none⟩ (.slice r3 m3 d3)).heap[w.heap.size]? = some (.cells #[.int .i64 p, .slice r3 m3 d3] 26 (0, 0))) := blk_set (blk_set q8 0 _) 1 _
      have HQ7 : Hid (((Y.setCell ⟨w.heap.size, 0, none⟩ (.int .i64 p)).setCell ⟨w.heap.size, 1, none⟩ (.slice r3 m3 d3)).heap[w.heap.size + 1]? = some (.cells #[.int .i64 0, .slice none 0 0] 26 (0, 0))) := blk_other (a := ⟨w.heap.size, 1, none⟩) (blk_other (a := ⟨w.heap.size, 0, none⟩) q7 (by simp) _) (by simp) _
      have HO6 : Hid (RRows.Own ((Y.setCell ⟨w.heap.size, 0, none⟩ (.int .i64 p)).setCell ⟨w.heap.size, 1, none⟩ (.slice r3 m3 d3)) (fun b => (F b ∨ From w.heap.size ((Y.setCell ⟨w.heap.size, 0, none⟩ (.int .i64 p)).setCell ⟨w.heap.size, 1, none⟩ (.slice r3 m3 d3)).heap.size b) ∧ b ≠ w.heap.size ∧ b ≠ w.heap.size + 1) [.slice r3 m3 d3] y) := by
        have h1 := RRows.ownBelow hO3 hbY
        have h2 := RRows.ownOff (RRows.ownOff h1 (Off.set (F := fun b => b = w.heap.size) (a := ⟨w.heap.size, 0, none⟩) rfl (.int .i64 p)) (fun b h h' => by have := h.1; omega)) (Off.set (F := fun b => b = w.heap.size) (a := ⟨w.heap.size, 1, none⟩) rfl (.slice r3 m3 d3)) (fun b h h' => by have := h.1; omega)
        exact RRows.mono h2 (fun b h => ⟨.inr ⟨by have := h.1; omega, by have := h.2; simp only [World.setCell, Array.size_modify]; omega⟩, by have := h.1; omega, by have := h.1; omega⟩)
      have HB6 : Hid (Below w.heap.size w ((Y.setCell ⟨w.heap.size, 0, none⟩ (.int .i64 p)).setCell ⟨w.heap.size, 1, none⟩ (.slice r3 m3 d3))) := (B5.setCell (Nat.le_refl _) _).setCell (Nat.le_refl _) _
      clear hO3 hb3 hb3' hbY q5 q6 q7 q8 k0 k1 B5
      go_upto_region 3 with fail
      rw [← hY]
      clear hY
      go_wp2
      go_roundw
      case rel => exact ⟨j + 1, y, r3, d3, by go_num, HJ2.out.1, HJ2.out.2, HYG.out, HYL.out, HQ8.out, HQ7.out, HO6.out, HB6.out⟩
      case measure => simp [intOf]; omega

theorem ca_small (p : Int) (zss : List (List Int)) (xs : List Dep) : SmR (caL p zss xs) (caL p zss xs).length := by
  unfold caL caB
  cases hg : (tbB p zss && goodDeps xs p) with
  | false => exact nil_small
  | true =>
    simp only [Bool.and_eq_true] at hg
    simp only [if_true]
    exact tb_small (chZ_good hg.2 hg.1)

end Go.Proofs.YthliamoeplgblaaDoor

/- Plain: sets of columns as numbers below 64, and what they tell. -/
namespace Go.Proofs.YthliamoeplgblaaDoor
open Go.RowKit

/-- The columns of a set, rising. -/
def bl (s : Nat) : List Int := ((List.range 6).filter (fun i => s.testBit i)).map Int.ofNat
/-- The set of some columns. -/
def mk (l : List Int) : Nat := l.foldl (fun s k => s ||| 2 ^ k.toNat) 0
/-- One set within another one. -/
def sb (a b : Nat) : Bool := a ||| b == b

theorem sb_iff {a b : Nat} : sb a b = true ↔ a ||| b = b := by unfold sb; exact beq_iff_eq
theorem sb_bit {a b : Nat} (h : sb a b = true) (i : Nat) (hi : a.testBit i = true) : b.testBit i = true := by
  rw [← sb_iff.1 h, Nat.testBit_or, hi]; rfl
theorem sb_of_bits {a b : Nat} (h : ∀ i, a.testBit i = true → b.testBit i = true) : sb a b = true := by
  rw [sb_iff]
  apply Nat.eq_of_testBit_eq
  intro i
  rw [Nat.testBit_or]
  cases ha : a.testBit i with
  | false => rfl
  | true => rw [h i ha]; rfl
theorem sb_refl (a : Nat) : sb a a = true := sb_of_bits fun _ h => h
theorem sb_trans {a b c : Nat} (h : sb a b = true) (k : sb b c = true) : sb a c = true := sb_of_bits fun i hi => sb_bit k i (sb_bit h i hi)
theorem sb_or_left (a b : Nat) : sb a (a ||| b) = true := sb_of_bits fun i hi => by rw [Nat.testBit_or, hi]; rfl
theorem sb_or_right (a b : Nat) : sb b (a ||| b) = true := sb_of_bits fun i hi => by rw [Nat.testBit_or, hi]; simp
theorem sb_or {a b c : Nat} (h : sb a c = true) (k : sb b c = true) : sb (a ||| b) c = true := sb_of_bits fun i hi => by
  rw [Nat.testBit_or] at hi
  cases ha : a.testBit i with
  | true => exact sb_bit h i ha
  | false => rw [ha] at hi; exact sb_bit k i (by simpa using hi)
theorem sb_antisymm {a b : Nat} (h : sb a b = true) (k : sb b a = true) : a = b := by
  have h1 := sb_iff.1 h
  have h2 := sb_iff.1 k
  rw [Nat.or_comm] at h2
  exact h2.symm.trans h1
theorem or_lt64 {a b : Nat} (h : a < 64) (k : b < 64) : a ||| b < 64 := Nat.or_lt_two_pow (n := 6) h k
theorem lt_or {a b : Nat} (h : sb b a = false) : a < a ||| b := by
  have h1 : a ≤ a ||| b := Nat.left_le_or
  have h2 : a ≠ a ||| b := fun e => by
    have : sb b a = true := sb_iff.2 (by rw [Nat.or_comm]; exact e.symm)
    rw [h] at this; cases this
  omega
theorem andNot_sb {a b : Nat} (ha : a < 64) (hb : b < 64) : (a &&& (18446744073709551615 - b) = 0) ↔ sb a b = true := by
  have key : ∀ i, i < 64 → (18446744073709551615 - b).testBit i = !(b.testBit i) := fun i hi => by
    have := Nat.testBit_two_pow_sub_succ (x := b) (n := 64) (by omega) i
    rw [show (2 ^ 64 - (b + 1)) = 18446744073709551615 - b by omega] at this
    rw [this]; simp [hi]
  constructor
  · intro h
    refine sb_of_bits fun i hi => ?_
    have h6 : i < 64 := by
      by_cases h6 : i < 64
      · exact h6
      · rw [Nat.testBit_lt_two_pow (Nat.lt_of_lt_of_le ha (by have : 2 ^ 6 ≤ 2 ^ i := Nat.pow_le_pow_right (by omega) (by omega); omega))] at hi; cases hi
    have h1 : (a &&& (18446744073709551615 - b)).testBit i = false := by rw [h]; simp
    rw [Nat.testBit_and, hi, key i h6] at h1
    simpa using h1
  · intro h
    apply Nat.eq_of_testBit_eq
    intro i
    rw [Nat.testBit_and]
    simp only [Nat.zero_testBit]
    cases hi : a.testBit i with
    | false => rfl
    | true =>
      have h6 : i < 64 := by
        by_cases h6 : i < 64
        · exact h6
        · rw [Nat.testBit_lt_two_pow (Nat.lt_of_lt_of_le ha (by have : 2 ^ 6 ≤ 2 ^ i := Nat.pow_le_pow_right (by omega) (by omega); omega))] at hi; cases hi
      rw [key i h6, sb_bit h i hi]; rfl

/-- Rising lists with the same numbers are the same. -/
theorem srt_ext : ∀ {a b : List Int}, a.Pairwise (· < ·) → b.Pairwise (· < ·) → (∀ x, x ∈ a ↔ x ∈ b) → a = b
  | [], [], _, _, _ => rfl
  | [], y :: b, _, _, h => absurd ((h y).2 (by simp)) (by simp)
  | x :: a, [], _, _, h => absurd ((h x).1 (by simp)) (by simp)
  | x :: a, y :: b, ha, hb, h => by
    obtain ⟨ha1, ha2⟩ := List.pairwise_cons.1 ha
    obtain ⟨hb1, hb2⟩ := List.pairwise_cons.1 hb
    have e : x = y := by
      have h1 := (h x).1 (by simp)
      have h2 := (h y).2 (by simp)
      simp only [List.mem_cons] at h1 h2
      rcases h1 with h1 | h1
      · exact h1
      · rcases h2 with h2 | h2
        · exact h2.symm
        · have := hb1 x h1; have := ha1 y h2; omega
    subst e
    congr 1
    refine srt_ext ha2 hb2 fun z => ?_
    constructor
    · intro hz
      have := (h z).1 (by simp [hz])
      simp only [List.mem_cons] at this
      rcases this with rfl | this
      · have := ha1 z hz; omega
      · exact this
    · intro hz
      have := (h z).2 (by simp [hz])
      simp only [List.mem_cons] at this
      rcases this with rfl | this
      · have := hb1 z hz; omega
      · exact this

theorem mem_bl {s : Nat} {x : Int} : x ∈ bl s ↔ ∃ i : Nat, i < 6 ∧ s.testBit i = true ∧ x = (i : Int) := by
  unfold bl
  simp only [List.mem_map, List.mem_filter, List.mem_range]
  constructor
  · rintro ⟨i, ⟨h1, h2⟩, rfl⟩; exact ⟨i, h1, h2, rfl⟩
  · rintro ⟨i, h1, h2, rfl⟩; exact ⟨i, ⟨h1, h2⟩, rfl⟩
theorem bl_sorted (s : Nat) : (bl s).Pairwise (· < ·) := by
  unfold bl
  rw [List.pairwise_map]
  refine List.Pairwise.imp ?_ ((List.pairwise_lt_range (n := 6)).filter _)
  intro a b h
  show (a : Int) < (b : Int)
  omega
theorem mk_bit (l : List Int) (hl : ∀ x ∈ l, 0 ≤ x) (i : Nat) : (mk l).testBit i = true ↔ (i : Int) ∈ l := by
  have key : ∀ (l : List Int) (s : Nat), (∀ x ∈ l, 0 ≤ x) → ((l.foldl (fun s k => s ||| 2 ^ k.toNat) s).testBit i = true ↔ s.testBit i = true ∨ (i : Int) ∈ l) := by
    intro l
    induction l with
    | nil => intro s _; simp
    | cons x l ih =>
      intro s h
      rw [List.foldl_cons, ih _ (fun y hy => h y (by simp [hy])), Nat.testBit_or, Nat.testBit_two_pow]
      have hx := h x (by simp)
      simp only [Bool.or_eq_true, decide_eq_true_eq, List.mem_cons]
      constructor
      · rintro ((h1 | h1) | h1)
        · exact .inl h1
        · exact .inr (.inl (by omega))
        · exact .inr (.inr h1)
      · rintro (h1 | h1 | h1)
        · exact .inl (.inl h1)
        · exact .inl (.inr (by omega))
        · exact .inr h1
  have := key l 0 hl
  simpa [mk] using this
theorem risB_mem {c p : Int} {l : List Int} (h : risB c p l = true) : l.Pairwise (· < ·) ∧ ∀ x ∈ l, p < x ∧ x < c := by
  induction l generalizing p with
  | nil => exact ⟨List.Pairwise.nil, fun x hx => by cases hx⟩
  | cons z l ih =>
    simp only [risB, Bool.and_eq_true, decide_eq_true_eq] at h
    obtain ⟨h1, h2, h3⟩ := h
    obtain ⟨k1, k2⟩ := ih h3
    refine ⟨List.pairwise_cons.2 ⟨fun x hx => (k2 x hx).1, k1⟩, fun x hx => ?_⟩
    simp only [List.mem_cons] at hx
    rcases hx with rfl | hx
    · exact ⟨h1, h2⟩
    · have := k2 x hx; exact ⟨by omega, this.2⟩
theorem ris_nonneg {c : Int} {l : List Int} (h : ris c l = true) : ∀ x ∈ l, 0 ≤ x := fun x hx => by have := ((risB_mem h).2 x hx).1; omega
theorem bl_mk {c : Int} {l : List Int} (hc : c ≤ 6) (h : ris c l = true) : bl (mk l) = l := by
  refine srt_ext (bl_sorted _) (risB_mem h).1 fun x => ?_
  rw [mem_bl]
  have hn := ris_nonneg h
  constructor
  · rintro ⟨i, _, h2, rfl⟩; exact (mk_bit l hn i).1 h2
  · intro hx
    have h1 := (risB_mem h).2 x hx
    have h0 := hn x hx
    refine ⟨x.toNat, by omega, (mk_bit l hn x.toNat).2 (by rw [Int.toNat_of_nonneg h0]; exact hx), by omega⟩
theorem mk_lt {c : Int} {l : List Int} (hc : c ≤ 6) (h : ris c l = true) : mk l < 64 := by
  refine Nat.lt_pow_two_of_testBit (n := 6) _ fun i hi => ?_
  cases hb : (mk l).testBit i with
  | false => rfl
  | true =>
    have := ((risB_mem h).2 _ ((mk_bit l (ris_nonneg h) i).1 hb)).2
    omega
theorem bl_len (s : Nat) : (bl s).length ≤ 6 := by
  unfold bl
  rw [List.length_map]
  exact Nat.le_trans (List.length_filter_le _ _) (by simp)
theorem bl_in {s : Nat} {x : Int} (h : x ∈ bl s) : 0 ≤ x ∧ x < 6 := by obtain ⟨i, h1, _, rfl⟩ := mem_bl.1 h; omega

/-- What is told, by one step and another one, and no more: T of S. -/
def clsd (l : List (Nat × Nat)) (T : Nat) : Prop := ∀ d ∈ l, sb d.1 T = true → sb d.2 T = true
structure IsClo (l : List (Nat × Nat)) (S T : Nat) : Prop where
  lt : T < 64
  has : sb S T = true
  all : clsd l T
  least : ∀ U, sb S U = true → clsd l U → sb T U = true
theorem IsClo.eq {l : List (Nat × Nat)} {S T T' : Nat} (h : IsClo l S T) (k : IsClo l S T') : T = T' := sb_antisymm (h.least _ k.has k.all) (k.least _ h.has h.all)
noncomputable def clo (l : List (Nat × Nat)) (S : Nat) : Nat := Classical.epsilon (IsClo l S)
theorem IsClo.clo_eq {l : List (Nat × Nat)} {S T : Nat} (h : IsClo l S T) : clo l S = T := (Classical.epsilon_spec (p := IsClo l S) ⟨T, h⟩).eq h
theorem IsClo.is {l : List (Nat × Nat)} {S T : Nat} (h : IsClo l S T) : IsClo l S (clo l S) := by rw [h.clo_eq]; exact h
def dm (d : Dep) : Nat × Nat := (mk d.1, mk d.2)
def dms (l : List Dep) : List (Nat × Nat) := l.map dm

end Go.Proofs.YthliamoeplgblaaDoor
