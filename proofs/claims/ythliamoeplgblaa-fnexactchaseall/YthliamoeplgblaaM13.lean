/- Several texts of one proof, in build order: ChY, ChZ, ChA. -/
import Derived.Test.YthliamoeplgblaaM12
import Derived.Test.YthliamoeplgblaaM4
import Derived.Test.YthliamoeplgblaaM9

/- Contract of spec.ChaseStep. -/
namespace Go.Proofs.Ythliamoeplgblaa
open Go.RowKit

set_option maxRecDepth 100000 in
set_option maxHeartbeats 4000000 in
theorem specChaseStep (p : Int) (a : Option Addr) (n c : Nat) (zss : List (List Int)) (la : Option Addr) (ln lc : Nat) (xs : List Dep) (w : World) (hz : zss.length = n) (hn : n ≤ 9223372036854775807) (hcap : n ≤ c) (hlz : xs.length = ln) (hln : ln ≤ 9223372036854775807) (ha : AtR w a zss) (hla : AtD w la xs) :
    Calls Try.prog 9 #[.agg #[.int .i64 p, .slice a n c], .slice la ln lc] w fun e w' => TblRet e w' w.heap.size (csZ p zss xs).isSome (csP p zss xs) (csL p zss xs) ∧ Below w.heap.size w w' := by
  obtain ⟨W, hW⟩ : ∃ W, W = (w.alloc (.cells #[.int .i64 p, .slice a n c] 30)).alloc (.cells #[.int .i64 0, .slice none 0 0] 30) := ⟨_, rfl⟩
  have B0 : Below w.heap.size w W := by rw [hW]; exact ((Below.refl _ _).alloc (Nat.le_refl _) _).alloc (by simp) _
  have zW : w.heap.size + 1 < W.heap.size := by rw [hW]; simp
  have c0 : W.cell? ⟨w.heap.size, 0, none⟩ = some (.int .i64 p) := by rw [hW]; simp [go_sem]
  have c1 : W.cell? ⟨w.heap.size, 1, none⟩ = some (.slice a n c) := by rw [hW]; simp [go_sem]
  have b1 : W.heap[w.heap.size + 1]? = some (.cells #[.int .i64 0, .slice none 0 0] 30 (0, 0)) := by
    rw [hW]
    have h := heap_alloc_new (w.alloc (.cells #[.int .i64 p, .slice a n c] 30)) (.cells #[.int .i64 0, .slice none 0 0] 30)
    simpa only [World.size_alloc] using h
  have K1 := Hid.mk (specGoodTableau p a n c zss W hz hn (atSl_ints (AtSl.below ha B0)))
  have K2 : Hid (∀ w', Below W.heap.size W w' → Calls Try.prog 29 #[.slice la ln lc, .int .i64 p] w' fun e w'' => e = .returned (.bool (goodDeps xs p)) ∧ Below w'.heap.size w' w'') :=
    fun w' h => specGoodDepends la ln lc xs p w' hlz hln (AtSl.below (AtSl.below hla B0) h)
  have HA := Hid.mk (AtSl.below ha B0)
  have HL := Hid.mk (AtSl.below hla B0)
  have HZ := Hid.mk hz
  have HLZ := Hid.mk hlz
  clear ha hla hz hlz
  cases ht : tbB p zss with
  | false =>
    have HN : Hid (csZ p zss xs = none) := by show _ = _; unfold csZ; rw [ht]; rfl
    have HT := Hid.mk ht
    unfold csP csL
    rw [HN.out]
    clear ht
    go_enter Try.func9, Try.ntmps9
    go_wp2_with fail
    rw [← hW]
    clear hW
    refine K1.out.mono ?_
    rintro e w1 ⟨rfl, hb1⟩
    rw [HT.out]
    have B1 := B0.trans (hb1.mono B0.size)
    have q := blk_below b1 hb1
    have e0 := blk_cell q 0 (v := .int .i64 0) rfl
    have e1 := blk_cell q 1 (v := .slice none 0 0) rfl
    have f0 := blk_frozen q 0
    have f1 := blk_frozen q 1
    go_wp2
    refine bodyPost_ret (v := .tuple #[.agg #[.int .i64 0, .slice none 0 0], .bool false]) (by simp [results, Try.results9, go_sem, e0, e1]) rfl ⟨⟨none, 0, 0, rfl, RRows.nil _ _⟩, ?_⟩
    exact (B1.setCell (by simp) _).setCell (by simp) _
  | true =>
  cases hd : goodDeps xs p with
  | false =>
    have HN : Hid (csZ p zss xs = none) := by show _ = _; unfold csZ; rw [ht, hd]; rfl
    have HT := Hid.mk ht
    have HD := Hid.mk hd
    unfold csP csL
    rw [HN.out]
    clear ht hd
    go_enter Try.func9, Try.ntmps9
    go_wp2_with fail
    rw [← hW]
    clear hW
    refine K1.out.mono ?_
    rintro e w1 ⟨rfl, hb1⟩
    rw [HT.out]
    have d0 := cell_later hb1 c0
    go_wp2_with fail
    refine (K2.out w1 hb1).mono ?_
    rintro e w2 ⟨rfl, hb2⟩
    rw [HD.out]
    have hb12 := hb1.trans (hb2.mono hb1.size)
    have B1 := B0.trans (hb12.mono B0.size)
    have q := blk_below b1 hb12
    have e0 := blk_cell q 0 (v := .int .i64 0) rfl
    have e1 := blk_cell q 1 (v := .slice none 0 0) rfl
    have f0 := blk_frozen q 0
    have f1 := blk_frozen q 1
    go_wp2
    refine bodyPost_ret (v := .tuple #[.agg #[.int .i64 0, .slice none 0 0], .bool false]) (by simp [results, Try.results9, go_sem, e0, e1]) rfl ⟨⟨none, 0, 0, rfl, RRows.nil _ _⟩, ?_⟩
    exact (B1.setCell (by simp) _).setCell (by simp) _
  | true =>
    have HN : Hid (csZ p zss xs = stepZ xs zss) := by show _ = _; unfold csZ; rw [ht, hd]; rfl
    have HT := Hid.mk ht
    have HD := Hid.mk hd
    have K3 : Hid (∀ w', Below W.heap.size W w' → Calls Try.prog 30 #[.agg #[.int .i64 p, .slice a n c], .slice la ln lc] w' fun e w'' => TblRet e w'' w'.heap.size (stepZ xs zss).isSome (stP p (stepZ xs zss)) ((stepZ xs zss).getD []) ∧ Below w'.heap.size w' w'') :=
      fun w' h => l9Step_any p a n c zss la ln lc xs w' HZ.out hcap HLZ.out HT.out HD.out (AtSl.below HA.out h) (AtSl.below HL.out h)
    have e9 : csP p zss xs = stP p (stepZ xs zss) := by unfold csP stP; rw [HN.out]
    unfold csL
    rw [e9, HN.out]
    obtain ⟨ok, hok⟩ : ∃ ok, (stepZ xs zss).isSome = ok := ⟨_, rfl⟩
    obtain ⟨P, hP⟩ : ∃ P, stP p (stepZ xs zss) = P := ⟨_, rfl⟩
    obtain ⟨L, hL⟩ : ∃ L, (stepZ xs zss).getD [] = L := ⟨_, rfl⟩
    rw [hok, hP, hL] at K3 ⊢
    clear ht hd e9 hok hP hL
    go_enter Try.func9, Try.ntmps9
    go_wp2_with fail
    rw [← hW]
    clear hW
    refine K1.out.mono ?_
    rintro e w1 ⟨rfl, hb1⟩
    rw [HT.out]
    have d0 := cell_later hb1 c0
    have d1 := cell_later hb1 c1
    go_wp2_with fail
    refine (K2.out w1 hb1).mono ?_
    rintro e w2 ⟨rfl, hb2⟩
    rw [HD.out]
    have hb12 := hb1.trans (hb2.mono hb1.size)
    have B1 := B0.trans (hb12.mono B0.size)
    have q := blk_below b1 hb12
    have d2 := cell_later hb12 c0
    have d3 := cell_later hb12 c1
    clear d0 d1 hb1 hb2 c0 c1
    go_wp2_with fail
    refine (K3.out w2 hb12).mono ?_
    rintro e w3 ⟨⟨r, m, d, rfl, hO⟩, hb3⟩
    have q2 := blk_below q hb3
    have B2 := B1.trans (hb3.mono B1.size)
    have e0 := blk_cell q2 0 (v := .int .i64 0) rfl
    have e1 := blk_cell q2 1 (v := .slice none 0 0) rfl
    have f0 := blk_frozen q2 0
    have f1 := blk_frozen q2 1
    have z2 := hb12.size
    have z3 := hb3.size
    have HO := Hid.mk hO
    clear hO q q2 hb3 hb12 b1 d2 d3
    go_wp2
    refine bodyPost_ret (v := .tuple #[.agg #[.int .i64 P, .slice r m d], .bool ok]) (by simp [results, Try.results9, go_sem, e0, e1]) rfl ⟨⟨r, m, d, rfl, ?_⟩, ?_⟩
    · refine RRows.mono (RRows.ownOff (RRows.ownOff HO.out (Off.set (F := From 0 w2.heap.size) (a := ⟨w.heap.size + 1, 0, none⟩) ⟨by simp, by simp; omega⟩ _) (fun b h h' => by have := h.1; have := h'.2; omega)) (Off.set (F := From 0 w2.heap.size) (a := ⟨w.heap.size + 1, 1, none⟩) ⟨by simp, by simp; omega⟩ _) (fun b h h' => by have := h.1; have := h'.2; omega)) (fun b h => ⟨by have := h.1; omega, by have := h.2; simp only [World.setCell, Array.size_modify]; omega⟩)
    · exact (B2.setCell (by simp) _).setCell (by simp) _

/-- What is told is small. -/
theorem smR_of {zss : List (List Int)} {m q : Nat} (hm : zss.length ≤ m) (h : ∀ z ∈ zss, z.length ≤ q) (hb : m + m * q ≤ 1048576) : SmR zss zss.length := by
  refine ⟨rfl, ?_⟩
  have h1 : ∀ k, k ≤ zss.length → tot zss k ≤ k * q := by
    intro k
    induction k with
    | zero => intro _; simp [tot_zero]
    | succ k ih =>
      intro hk
      have := ih (by omega)
      rw [tot_succ zss k (by omega)]
      have h2 : (zss.getD k []).length ≤ q := h _ (by rw [show zss.getD k [] = zss[k] by simp [List.getD, show k < zss.length by omega]]; exact List.getElem_mem _)
      rw [Nat.succ_mul]; omega
  have h3 := h1 zss.length (Nat.le_refl _)
  have h4 := Nat.mul_le_mul_right q hm
  omega
theorem tb_small {p : Int} {zss : List (List Int)} (h : tbB p zss = true) : SmR zss zss.length := smR_of (tbB_n h).2 (tbB_sum h) (by omega)
theorem nil_small : SmR [] ([] : List (List Int)).length := ⟨rfl, by simp [tot]⟩
theorem cs_small (p : Int) (zss : List (List Int)) (xs : List Dep) : SmR (csL p zss xs) (csL p zss xs).length := by
  unfold csL csZ
  cases hg : (tbB p zss && goodDeps xs p) with
  | false => exact nil_small
  | true =>
    simp only [Bool.and_eq_true] at hg
    simp only [if_true]
    cases hs : stepZ xs zss with
    | none => exact nil_small
    | some yss => exact tb_small (step_good hg.1 hg.2 hs)

end Go.Proofs.Ythliamoeplgblaa

/- Plain: chasing till nothing is left to do. -/
namespace Go.Proofs.Ythliamoeplgblaa

def chF : Nat → List Dep → List (List Int) → List (List Int) × Nat
  | 0, _, z => (z, 0)
  | f + 1, xs, z => match stepZ xs z with
    | none => (z, 0)
    | some y => ((chF f xs y).1, (chF f xs y).2 + 1)
/-- What all steps come to, and how many they are. -/
def chZ (xs : List Dep) (zss : List (List Int)) : List (List Int) × Nat := chF (sumZ zss).toNat xs zss

theorem chF_none {f : Nat} {xs : List Dep} {z : List (List Int)} (h : stepZ xs z = none) : chF f xs z = (z, 0) := by
  cases f with
  | zero => rfl
  | succ f => rw [chF, h]
theorem chF_same {C : Int} {xs : List Dep} (hd : goodDeps xs C = true) : ∀ (f g : Nat) (z : List (List Int)), tbB C z = true → (sumZ z).toNat ≤ f → (sumZ z).toNat ≤ g → chF f xs z = chF g xs z
  | 0, g, z, ht, hf, _ => by
    have hn : stepZ xs z = none := by
      cases hs : stepZ xs z with
      | none => rfl
      | some y =>
        have h1 := step_sum ht hd hs
        have h2 := (tbB_sumZ (step_good ht hd hs)).1
        omega
    rw [chF_none hn, chF_none hn]
  | f + 1, 0, z, ht, _, hg => by
    have hn : stepZ xs z = none := by
      cases hs : stepZ xs z with
      | none => rfl
      | some y =>
        have h1 := step_sum ht hd hs
        have h2 := (tbB_sumZ (step_good ht hd hs)).1
        omega
    rw [chF_none hn, chF_none hn]
  | f + 1, g + 1, z, ht, hf, hg => by
    cases hs : stepZ xs z with
    | none => rw [chF_none hs, chF_none hs]
    | some y =>
      have h1 := step_sum ht hd hs
      have h3 := step_good ht hd hs
      have h2 := (tbB_sumZ h3).1
      have ih := chF_same hd f g y h3 (by omega) (by omega)
      rw [chF, chF, hs]
      simp only [ih]
theorem chZ_done {xs : List Dep} {z : List (List Int)} (h : stepZ xs z = none) : chZ xs z = (z, 0) := chF_none h
theorem chZ_step {C : Int} {xs : List Dep} {z y : List (List Int)} (hd : goodDeps xs C = true) (ht : tbB C z = true) (hs : stepZ xs z = some y) : chZ xs z = ((chZ xs y).1, (chZ xs y).2 + 1) := by
  have h1 := step_sum ht hd hs
  have h3 := step_good ht hd hs
  have h2 := (tbB_sumZ h3).1
  unfold chZ
  obtain ⟨f, hf⟩ : ∃ f, (sumZ z).toNat = f + 1 := ⟨(sumZ z).toNat - 1, by omega⟩
  rw [hf, chF, hs]
  simp only [chF_same hd f (sumZ y).toNat y h3 (by omega) (Nat.le_refl _)]
theorem chF_count (f : Nat) (xs : List Dep) : ∀ z, (chF f xs z).2 ≤ f := by
  induction f with
  | zero => intro z; exact Nat.le_refl _
  | succ f ih =>
    intro z
    rw [chF]
    split
    · exact Nat.zero_le _
    · rename_i y _; have := ih y; simp only; omega
theorem chZ_count {C : Int} {xs : List Dep} {z : List (List Int)} (ht : tbB C z = true) : (chZ xs z).2 ≤ 4800000 := by
  have h1 := chF_count (sumZ z).toNat xs z
  have h2 := tbB_sumZ ht
  unfold chZ; omega
theorem chF_good {C : Int} {xs : List Dep} (hd : goodDeps xs C = true) : ∀ (f : Nat) (z : List (List Int)), tbB C z = true → tbB C (chF f xs z).1 = true
  | 0, z, ht => ht
  | f + 1, z, ht => by
    rw [chF]
    cases hs : stepZ xs z with
    | none => exact ht
    | some y => exact chF_good hd f y (step_good ht hd hs)
theorem chZ_good {C : Int} {xs : List Dep} {z : List (List Int)} (hd : goodDeps xs C = true) (ht : tbB C z = true) : tbB C (chZ xs z).1 = true := chF_good hd _ z ht
theorem step_len {xs : List Dep} {z y : List (List Int)} (h : stepZ xs z = some y) : y.length = z.length := by
  unfold stepZ at h
  cases hm : mrgAll z xs with
  | none => rw [hm] at h; cases h
  | some m => rw [hm] at h; obtain rfl := Option.some.inj h; simp

end Go.Proofs.Ythliamoeplgblaa

/- Contract of impl.ChaseAll. -/
namespace Go.Proofs.Ythliamoeplgblaa
open Go.RowKit

/-- What ChaseAll tells. -/
def caB (p : Int) (zss : List (List Int)) (xs : List Dep) : Bool := tbB p zss && goodDeps xs p
def caP (p : Int) (zss : List (List Int)) (xs : List Dep) : Int := if caB p zss xs then p else 0
def caN (p : Int) (zss : List (List Int)) (xs : List Dep) : Int := if caB p zss xs then ((chZ xs zss).2 : Int) else 0
def caL (p : Int) (zss : List (List Int)) (xs : List Dep) : List (List Int) := if caB p zss xs then (chZ xs zss).1 else []

theorem RRows.cap {w : World} {F : Nat → Prop} {a : Option Addr} {n c : Nat} {zss : List (List Int)} (h : RRows.Own w F [.slice a n c] zss) : n ≤ c := by
  obtain ⟨a', n', c', cells, G, e, hl⟩ := h
  simp only [List.cons.injEq, Value.slice.injEq, and_true] at e
  obtain ⟨rfl, rfl, rfl⟩ := e
  rcases hl.outer.2 with ⟨h', h0⟩ | ⟨g, cap, cur, h', _, _, h1, _⟩
  · omega
  · simp only [Value.slice.injEq, true_and] at h'
    rw [h'.2]; exact h1

set_option maxRecDepth 100000 in
set_option maxHeartbeats 8000000 in
theorem implChaseAll (p : Int) (a : Option Addr) (n c : Nat) (zss : List (List Int)) (la : Option Addr) (ln lc : Nat) (xs : List Dep) (w : World) (hz : zss.length = n) (hn : n ≤ 9223372036854775807) (hlz : xs.length = ln) (hln : ln ≤ 9223372036854775807) (ha : AtS w a zss) (hla : AtD w la xs) :
    Calls Try.prog 19 #[.agg #[.int .i64 p, .slice a n c], .slice la ln lc] w fun e w' => TblRet3 e w' w.heap.size (caB p zss xs) (caP p zss xs) (caN p zss xs) (caL p zss xs) ∧ Below w.heap.size w w' := by
  obtain ⟨W, hW⟩ : ∃ W, W = (w.alloc (.cells #[.int .i64 p, .slice a n c] 30)).alloc (.cells #[.int .i64 0, .slice none 0 0] 30) := ⟨_, rfl⟩
  have B0 : Below w.heap.size w W := by rw [hW]; exact ((Below.refl _ _).alloc (Nat.le_refl _) _).alloc (by simp) _
  have zW : w.heap.size + 1 < W.heap.size := by rw [hW]; simp
  have c0 : W.cell? ⟨w.heap.size, 0, none⟩ = some (.int .i64 p) := by rw [hW]; simp [go_sem]
  have c1 : W.cell? ⟨w.heap.size, 1, none⟩ = some (.slice a n c) := by rw [hW]; simp [go_sem]
  have b1 : W.heap[w.heap.size + 1]? = some (.cells #[.int .i64 0, .slice none 0 0] 30 (0, 0)) := by
    rw [hW]
    have h := heap_alloc_new (w.alloc (.cells #[.int .i64 p, .slice a n c] 30)) (.cells #[.int .i64 0, .slice none 0 0] 30)
    simpa only [World.size_alloc] using h
  have K1 := Hid.mk (goodChase_any p a n c zss la ln lc xs W hz hn hlz hln (ha.below B0) (AtSl.below hla B0))
  have HA := Hid.mk (ha.below B0)
  have HL := Hid.mk hla
  have HZ := Hid.mk hz
  have HLZ := Hid.mk hlz
  clear ha hla hz hlz
  cases hg : (tbB p zss && goodDeps xs p) with
  | false =>
    have HG := Hid.mk hg
    unfold caP caN caL caB
    rw [HG.out]
    clear hg
    go_enter Try.func19, Try.ntmps19
    go_wp2_with fail
    rw [← hW]
    clear hW
    refine K1.out.mono ?_
    rintro e w1 ⟨rfl, hb1⟩
    rw [HG.out]
    have B1 := B0.trans (hb1.mono B0.size)
    have q := blk_below b1 hb1
    have e0 := blk_cell q 0 (v := .int .i64 0) rfl
    have e1 := blk_cell q 1 (v := .slice none 0 0) rfl
    have f0 := blk_frozen q 0
    have f1 := blk_frozen q 1
    go_wp2
    refine bodyPost_ret (v := .tuple #[.agg #[.int .i64 0, .slice none 0 0], .int .i64 0, .bool false]) (by simp [results, Try.results19, go_sem, e0, e1]) rfl ⟨⟨none, 0, 0, rfl, RRows.nil _ _⟩, ?_⟩
    exact (B1.setCell (by simp) _).setCell (by simp) _
  | true =>
    have ht : tbB p zss = true := by simp only [Bool.and_eq_true] at hg; exact hg.1
    have hd : goodDeps xs p = true := by simp only [Bool.and_eq_true] at hg; exact hg.2
    have HG := Hid.mk hg
    unfold caP caN caL caB
    rw [HG.out]
    simp only [if_true]
    obtain ⟨T, hT⟩ : ∃ T, chZ xs zss = T := ⟨_, rfl⟩
    have hTc : T.2 ≤ 4800000 := by rw [← hT]; exact chZ_count ht
    obtain ⟨TL, TN⟩ := T
    simp only at hTc
    rw [hT]
    simp only
    have hn8 : 1 ≤ n ∧ n ≤ 8 := by have := tbB_n ht; have := HZ.out; omega
    have HSUM := Hid.mk (tbB_sum ht)
    have K3 : Hid (∀ w', Below W.heap.size W w' → Calls Try.prog 35 #[.agg #[.int .i64 p, .slice a n c]] w' fun e w'' => ∃ r d, e = .returned (.agg #[.int .i64 p, .slice r n d]) ∧ RRows.Own w'' (From w'.heap.size w''.heap.size) [.slice r n d] zss ∧ Below w'.heap.size w' w'') :=
      fun w' h => copyTableau_any p a n c zss w' HZ.out (by omega) (fun k z hk => by have := HSUM.out z (List.mem_of_getElem? hk); omega) (HA.out.below h)
    have KS : Hid (∀ (cur : List (List Int)) (r : Option Addr) (d : Nat) (w' : World), cur.length = n → n ≤ d → Below w.heap.size w w' → AtS w' r cur → Calls Try.prog 12 #[.agg #[.int .i64 p, .slice r n d], .slice la ln lc] w' fun e w'' => TblRet e w'' w'.heap.size (csZ p cur xs).isSome (csP p cur xs) (csL p cur xs) ∧ Below w'.heap.size w' w'') :=
      fun cur r d w' h1 h2 h3 h4 => implChaseStep p r n d cur la ln lc xs w' h1 (by omega) h2 HLZ.out hln h4 (AtSl.below HL.out h3)
    have HT0 := Hid.mk ht
    have HD := Hid.mk hd
    have HCH : Hid (chZ xs zss = (TL, TN)) := hT
    clear hg ht hd hT
    go_enter Try.func19, Try.ntmps19
    go_wp2_with fail
    rw [← hW]
    clear hW
    refine K1.out.mono ?_
    rintro e w1 ⟨rfl, hb1⟩
    rw [HG.out]
    have B1 := B0.trans (hb1.mono B0.size)
    have q := blk_below b1 hb1
    have d0 := cell_later hb1 c0
    have d1 := cell_later hb1 c1
    go_wp2_with fail
    refine (K3.out w1 hb1).mono ?_
    rintro e w2 ⟨r, d, rfl, hO, hb2⟩
    have B2 := B1.trans (hb2.mono B1.size)
    have q2 := blk_below q hb2
    obtain ⟨X, hX⟩ : ∃ X, X = w2.alloc (.cells #[.int .i64 p, .slice r n d] 30) := ⟨_, rfl⟩
    have hbX : Below w2.heap.size w2 X := by rw [hX]; exact (Below.refl _ _).alloc (Nat.le_refl _) _
    have qX : X.heap[w2.heap.size]? = some (.cells #[.int .i64 p, .slice r n d] 30 (0, 0)) := by rw [hX]; exact heap_alloc_new _ _
    have q3 := blk_below q2 hbX
    have BX := B2.trans (hbX.mono B2.size)
    have z2 : w.heap.size + 1 < w2.heap.size := by have := hb1.size; have := hb2.size; omega
    have z1 : w.heap.size ≤ w1.heap.size := B1.size
    have zX : w2.heap.size < X.heap.size := by rw [hX]; simp
    have HO : Hid (RRows.Own X (fun b => w.heap.size ≤ b ∧ b < X.heap.size ∧ b ≠ w2.heap.size ∧ b ≠ w.heap.size + 1) [.slice r n d] zss) := RRows.mono (RRows.ownBelow hO hbX) (fun b h => ⟨by have := h.1; omega, by have := h.2; omega, by have := h.2; omega, by have := h.1; have := hb1.size; omega⟩)
    clear hO hb1 hb2 q q2 b1 c0 c1 d0 d1 hbX B1 B2
    go_wp2_with fail
    rw [← hX]
    clear hX
    go_loopw [8] (fun i wr => ∃ (j : Nat) (cur : List (List Int)) (r : Option Addr) (d : Nat), i = .int .i64 j ∧ j + (chZ xs cur).2 = TN ∧ (chZ xs cur).1 = TL ∧ tbB p cur = true ∧ cur.length = n ∧ wr.heap[w2.heap.size]? = some (.cells #[.int .i64 p, .slice r n d] 30 (0, 0)) ∧ wr.heap[w.heap.size + 1]? = some (.cells #[.int .i64 0, .slice none 0 0] 30 (0, 0)) ∧
      RRows.Own wr (fun b => w.heap.size ≤ b ∧ b < wr.heap.size ∧ b ≠ w2.heap.size ∧ b ≠ w.heap.size + 1) [.slice r n d] cur ∧ Below w.heap.size w wr) (fun i _ => TN + 1 - (intOf i).toNat)
    case atStart => exact ⟨0, zss, r, d, rfl, by rw [HCH.out]; simp, by rw [HCH.out], HT0.out, HZ.out, qX, q3, HO.out, BX⟩
    case round =>
      clear HO qX q3 BX
      obtain ⟨j, cur, r, d, rfl, hj, hl, htc, hcl, q5, q6, hO, hbw⟩ := hrel
      have z5 := (Array.getElem?_eq_some_iff.1 q5).1
      have k0 := blk_cell q5 0 (v := .int .i64 p) rfl
      have k1 := blk_cell q5 1 (v := .slice r n d) rfl
      have KC := Hid.mk (KS.out cur r d wr hcl (RRows.cap hO) hbw (RRows.atS hO).2)
      have hcs : csZ p cur xs = stepZ xs cur := by unfold csZ; rw [htc, HD.out]; rfl
      unfold csP csL at KC
      rw [hcs] at KC
      have HJ := Hid.mk hj
      have HLL := Hid.mk hl
      have HTC := Hid.mk htc
      have HCL := Hid.mk hcl
      have hjT : j ≤ TN := by omega
      have HOW := Hid.mk hO
      have HBW := Hid.mk hbw
      clear hj hl htc hcl hO hcs
      cases hs : stepZ xs cur with
      | none =>
        rw [hs] at KC
        simp only [Option.isSome_none, Option.getD_none] at KC
        have HFI : Hid (cur = TL ∧ j = TN) := by
          have h1 := HLL.out
          have h2 := HJ.out
          rw [chZ_done hs] at h1 h2
          exact ⟨h1, by simpa using h2⟩
        clear hs
        go_wp2_with fail
        refine KC.out.mono ?_
        rintro e w3 ⟨⟨r3, m3, d3, rfl, hO3⟩, hb3⟩
        have hb3' : Below wr.heap.size wr (w3.alloc (.cells #[.int .i64 (if false = true then p else 0), .slice r3 m3 d3] 30)) := hb3.alloc hb3.size _
        simp only [Bool.false_eq_true, if_false] at hb3' ⊢
        obtain ⟨Y, hY⟩ : ∃ Y, Y = w3.alloc (.cells #[.int .i64 0, .slice r3 m3 d3] 30) := ⟨_, rfl⟩
        rw [← hY] at hb3'
        have s0 := cell_later hb3' k0
        have s1 := cell_later hb3' k1
        have q7 := blk_below q6 hb3'
        have e0 := blk_cell q7 0 (v := .int .i64 0) rfl
        have e1 := blk_cell q7 1 (v := .slice none 0 0) rfl
        have f0 := blk_frozen q7 0
        have f1 := blk_frozen q7 1
        have B5 := hbw.trans (hb3'.mono hbw.size)
        have HO5 := Hid.mk (RRows.ownBelow HOW.out hb3')
        have zY := hb3'.size
        clear hO3 hb3 hb3' q5 q6 q7 k0 k1
        go_upto_region 5 with fail
        rw [← hY]
        clear hY
        go_wp2
        refine bodyPost_ret (v := .tuple #[.agg #[.int .i64 p, .slice r n d], .int .i64 (j : Int), .bool true]) (by simp [results, Try.results19, go_sem, e0, e1]) rfl ⟨?_, ?_⟩
        · rw [← HFI.out.1, ← HFI.out.2]
          refine ⟨r, n, d, rfl, RRows.mono (RRows.ownOff (RRows.ownOff HO5.out (Off.set (F := fun b => b = w.heap.size + 1) (a := ⟨w.heap.size + 1, 0, none⟩) rfl _) (fun b h h' => h.2.2.2 h')) (Off.set (F := fun b => b = w.heap.size + 1) (a := ⟨w.heap.size + 1, 1, none⟩) rfl _) (fun b h h' => h.2.2.2 h')) (fun b h => ⟨h.1, by have := h.2.1; simp only [World.setCell, Array.size_modify]; omega⟩)⟩
        · exact (B5.setCell (by simp) _).setCell (by simp) _
      | some y =>
        rw [hs] at KC
        simp only [Option.isSome_some, Option.getD_some, if_true] at KC
        have hst := chZ_step HD.out HTC.out hs
        have HYL : Hid (y.length = n) := by show _ = _; rw [step_len hs]; exact HCL.out
        have HYG := Hid.mk (step_good HTC.out HD.out hs)
        have HJ2 : Hid (j + 1 + (chZ xs y).2 = TN ∧ (chZ xs y).1 = TL) := by
          have h1 := HLL.out
          have h2 := HJ.out
          rw [hst] at h1 h2
          exact ⟨by simp only at h2; omega, h1⟩
        have hjT1 : j + 1 ≤ TN := by have := HJ2.out.1; omega
        clear hs hst
        go_wp2_with fail
        refine KC.out.mono ?_
        rintro e w3 ⟨⟨r3, m3, d3, rfl, hO3⟩, hb3⟩
        obtain rfl : m3 = n := (RRows.atS hO3).1.symm.trans HYL.out
        obtain ⟨Y, hY⟩ : ∃ Y, Y = w3.alloc (.cells #[.int .i64 p, .slice r3 m3 d3] 30) := ⟨_, rfl⟩
        have hbY : Below w3.heap.size w3 Y := by rw [hY]; exact (Below.refl _ _).alloc (Nat.le_refl _) _
        have y0 : Y.cell? ⟨w3.heap.size, 0, none⟩ = some (.int .i64 p) := by rw [hY]; exact pair0 _ _ _ _
        have y1 : Y.cell? ⟨w3.heap.size, 1, none⟩ = some (.slice r3 m3 d3) := by rw [hY]; exact pair1 _ _ _ _
        have zY : w3.heap.size < Y.heap.size := by rw [hY]; simp
        have hb3' := hb3.trans (hbY.mono hb3.size)
        have z3 := hb3.size
        have q7 := blk_below q6 hb3'
        have q8 := blk_below q5 hb3'
        have s0 := blk_cell q8 0 (v := .int .i64 p) rfl
        have s1 := blk_cell q8 1 (v := .slice r m3 d) rfl
        have f0 := blk_frozen q8 0
        have f1 := blk_frozen q8 1
        have B5 := hbw.trans (hb3'.mono hbw.size)
        have zr := hbw.size
        have HQ8 : Hid (((Y.setCell ⟨w2.heap.size, 0, none⟩ (.int .i64 p)).setCell ⟨w2.heap.size, 1, none⟩ (.slice r3 m3 d3)).heap[w2.heap.size]? = some (.cells #[.int .i64 p, .slice r3 m3 d3] 30 (0, 0))) := blk_set (blk_set q8 0 _) 1 _
        have HQ7 : Hid (((Y.setCell ⟨w2.heap.size, 0, none⟩ (.int .i64 p)).setCell ⟨w2.heap.size, 1, none⟩ (.slice r3 m3 d3)).heap[w.heap.size + 1]? = some (.cells #[.int .i64 0, .slice none 0 0] 30 (0, 0))) := blk_other (a := ⟨w2.heap.size, 1, none⟩) (blk_other (a := ⟨w2.heap.size, 0, none⟩) q7 (by simp; omega) _) (by simp; omega) _
        have HO6 : Hid (RRows.Own ((Y.setCell ⟨w2.heap.size, 0, none⟩ (.int .i64 p)).setCell ⟨w2.heap.size, 1, none⟩ (.slice r3 m3 d3)) (fun b => w.heap.size ≤ b ∧ b < ((Y.setCell ⟨w2.heap.size, 0, none⟩ (.int .i64 p)).setCell ⟨w2.heap.size, 1, none⟩ (.slice r3 m3 d3)).heap.size ∧ b ≠ w2.heap.size ∧ b ≠ w.heap.size + 1) [.slice r3 m3 d3] y) := by
          have h1 := RRows.ownBelow hO3 hbY
          have h2 := RRows.ownOff (RRows.ownOff h1 (Off.set (F := fun b => b = w2.heap.size) (a := ⟨w2.heap.size, 0, none⟩) rfl (.int .i64 p)) (fun b h h' => by have := h.1; omega)) (Off.set (F := fun b => b = w2.heap.size) (a := ⟨w2.heap.size, 1, none⟩) rfl (.slice r3 m3 d3)) (fun b h h' => by have := h.1; omega)
          exact RRows.mono h2 (fun b h => ⟨by have := h.1; omega, by have := h.2; simp only [World.setCell, Array.size_modify]; omega, by have := h.1; omega, by have := h.1; omega⟩)
        have HB6 : Hid (Below w.heap.size w ((Y.setCell ⟨w2.heap.size, 0, none⟩ (.int .i64 p)).setCell ⟨w2.heap.size, 1, none⟩ (.slice r3 m3 d3))) := (B5.setCell (by show w.heap.size ≤ w2.heap.size; omega) _).setCell (by show w.heap.size ≤ w2.heap.size; omega) _
        clear hO3 hb3 hb3' hbY q5 q6 q7 q8 k0 k1 B5
        go_upto_region 5 with fail
        rw [← hY]
        clear hY
        go_wp2
        go_roundw
        case rel => exact ⟨j + 1, y, r3, d3, by go_num, HJ2.out.1, HJ2.out.2, HYG.out, HYL.out, HQ8.out, HQ7.out, HO6.out, HB6.out⟩
        case measure => simp [intOf]; omega

end Go.Proofs.Ythliamoeplgblaa
