/- Several texts of one proof, in build order: PrtP, PrtG, NrmP, DepH, RepD, Blk, DepT, TlI, DinP. -/
import Derived.Test.YtpnaoahlfhbbmabDoorM7
import Derived.Test.YtpnaoahlfhbbmabDoorM6
import Derived.Test.YtpnaoahlfhbbmabDoorM3
import Derived.Deep.CutBlock

/- Plain: parts of columns, what splits them, and the sets within one in their order. -/
namespace Go.Proofs.YtpnaoahlfhbbmabDoor
open Go.RowKit

/-- What of P is not in T. -/
def dif (P T : Nat) : Nat := P &&& (18446744073709551615 - T)
/-- Whether F, which tells T, splits P. -/
def spOk (T P F : Nat) : Bool := sb F P && (!sb P T && !decide (T &&& P = F))
/-- The sets within P, in their order. -/
def ordP (P : Nat) : List Nat := L64.filter fun x => sb x P

theorem not_bit {T i : Nat} (hT : T < 64) (hi : i < 64) : (18446744073709551615 - T).testBit i = !(T.testBit i) := by
  have := Nat.testBit_two_pow_sub_succ (x := T) (n := 64) (by omega) i
  rw [show (2 ^ 64 - (T + 1)) = 18446744073709551615 - T by omega] at this
  rw [this]; simp [hi]
theorem bit_lt {A i : Nat} (hA : A < 64) (h : A.testBit i = true) : i < 6 := by
  by_cases h6 : i < 6
  · exact h6
  · rw [Nat.testBit_lt_two_pow (Nat.lt_of_lt_of_le hA (by have : 2 ^ 6 ≤ 2 ^ i := Nat.pow_le_pow_right (by omega) (by omega); omega))] at h; cases h
theorem dif_bit {P T i : Nat} (hP : P < 64) (hT : T < 64) : (dif P T).testBit i = (P.testBit i && !(T.testBit i)) := by
  unfold dif
  rw [Nat.testBit_and]
  cases h : P.testBit i with
  | false => rfl
  | true => rw [not_bit hT (by have := bit_lt hP h; omega)]
theorem and_lt64 {a b : Nat} (h : a < 64) : a &&& b < 64 := Nat.lt_of_le_of_lt Nat.and_le_left h
theorem dif_lt {P T : Nat} (h : P < 64) : dif P T < 64 := and_lt64 h
theorem mem_blB {s : Nat} {i : Nat} (hs : s < 64) : ((i : Int) ∈ bl s) ↔ s.testBit i = true := by
  rw [mem_bl]
  constructor
  · rintro ⟨j, _, h, e⟩
    have : i = j := by omega
    rw [this]; exact h
  · intro h; exact ⟨i, bit_lt hs h, h, rfl⟩
theorem filter_sorted {l : List Int} (p : Int → Bool) (h : l.Pairwise (· < ·)) : (l.filter p).Pairwise (· < ·) := h.filter _
theorem bl_of_mem {l : List Int} {s : Nat} (hs : s < 64) (h : l.Pairwise (· < ·)) (hm : ∀ x, x ∈ l ↔ ∃ i : Nat, s.testBit i = true ∧ x = (i : Int)) : l = bl s := by
  refine srt_ext h (bl_sorted s) fun x => ?_
  rw [hm, mem_bl]
  constructor
  · rintro ⟨i, h1, h2⟩; exact ⟨i, bit_lt hs h1, h1, h2⟩
  · rintro ⟨i, _, h1, h2⟩; exact ⟨i, h1, h2⟩
theorem within_bl {T P : Nat} (hT : T < 64) (hP : P < 64) : (bl T).filter (fun k => decide (k ∈ bl P)) = bl (T &&& P) := by
  refine bl_of_mem (and_lt64 hT) (filter_sorted _ (bl_sorted T)) fun x => ?_
  rw [List.mem_filter, mem_bl]
  constructor
  · rintro ⟨⟨i, _, h1, rfl⟩, h2⟩
    rw [decide_eq_true_eq, mem_blB hP] at h2
    exact ⟨i, by rw [Nat.testBit_and, h1, h2]; rfl, rfl⟩
  · rintro ⟨i, h1, rfl⟩
    rw [Nat.testBit_and, Bool.and_eq_true] at h1
    exact ⟨⟨i, bit_lt hT h1.1, h1.1, rfl⟩, by rw [decide_eq_true_eq, mem_blB hP]; exact h1.2⟩
theorem without_bl {T F : Nat} (hT : T < 64) (hF : F < 64) : (bl T).filter (fun k => !decide (k ∈ bl F)) = bl (dif T F) := by
  refine bl_of_mem (dif_lt hT) (filter_sorted _ (bl_sorted T)) fun x => ?_
  rw [List.mem_filter, mem_bl]
  constructor
  · rintro ⟨⟨i, _, h1, rfl⟩, h2⟩
    refine ⟨i, ?_, rfl⟩
    rw [dif_bit hT hF, h1]
    cases h : F.testBit i with
    | false => rfl
    | true => rw [decide_eq_true ((mem_blB hF).2 h)] at h2; cases h2
  · rintro ⟨i, h1, rfl⟩
    rw [dif_bit hT hF, Bool.and_eq_true] at h1
    refine ⟨⟨i, bit_lt hT h1.1, h1.1, rfl⟩, ?_⟩
    rw [decide_eq_false (fun h => by rw [(mem_blB hF).1 h] at h1; cases h1.2)]; rfl
theorem rest_bl {T P F : Nat} (hT : T < 64) (hP : P < 64) (hF : F < 64) (h : sb F P = true) : (bl P).filter (fun k => decide (k ∈ bl F) || !decide (k ∈ bl T)) = bl (F ||| dif P T) := by
  refine bl_of_mem (or_lt64 hF (dif_lt hP)) (filter_sorted _ (bl_sorted P)) fun x => ?_
  rw [List.mem_filter, mem_bl]
  constructor
  · rintro ⟨⟨i, _, h1, rfl⟩, h2⟩
    refine ⟨i, ?_, rfl⟩
    rw [Nat.testBit_or, dif_bit hP hT, h1]
    cases hf : F.testBit i with
    | true => rfl
    | false =>
      rw [decide_eq_false (fun h => by rw [(mem_blB hF).1 h] at hf; cases hf)] at h2
      cases ht : T.testBit i with
      | false => rfl
      | true => rw [decide_eq_true ((mem_blB hT).2 ht)] at h2; cases h2
  · rintro ⟨i, h1, rfl⟩
    rw [Nat.testBit_or, dif_bit hP hT] at h1
    cases hf : F.testBit i with
    | true =>
      have := sb_bit h i hf
      exact ⟨⟨i, bit_lt hP this, this, rfl⟩, by rw [decide_eq_true ((mem_blB hF).2 hf)]; rfl⟩
    | false =>
      rw [hf, Bool.false_or, Bool.and_eq_true] at h1
      refine ⟨⟨i, bit_lt hP h1.1, h1.1, rfl⟩, ?_⟩
      rw [decide_eq_false (show ¬ ((i : Int) ∈ bl T) from fun h => by rw [(mem_blB hT).1 h] at h1; cases h1.2)]; simp
theorem and_sb_right {T P : Nat} : sb (T &&& P) P = true := sb_of_bits fun i h => by rw [Nat.testBit_and, Bool.and_eq_true] at h; exact h.2
theorem and_sb_left {T P : Nat} : sb (T &&& P) T = true := sb_of_bits fun i h => by rw [Nat.testBit_and, Bool.and_eq_true] at h; exact h.1
theorem sb_and {F T P : Nat} (h : sb F T = true) (k : sb F P = true) : sb F (T &&& P) = true := sb_of_bits fun i hi => by rw [Nat.testBit_and, sb_bit h i hi, sb_bit k i hi]; rfl
theorem len_le_all : ∀ A : Nat, A < 64 → ∀ B : Nat, B < 64 → sb A B = true → ((bl A).length ≤ (bl B).length ∧ ((bl A).length = (bl B).length → A = B)) := by decide +kernel
/-- A list splits a part, as the model asks it: by how many there are. -/
theorem spOk_len {T P F : Nat} (hT : T < 64) (hP : P < 64) (hF : F < 64) (h1 : sb F P = true) (h2 : sb F T = true) :
    spOk T P F = (decide ((bl F).length < (bl (T &&& P)).length) && decide ((bl (T &&& P)).length < (bl P).length)) := by
  have hA : T &&& P < 64 := and_lt64 hT
  obtain ⟨a1, a2⟩ := len_le_all F hF (T &&& P) hA (sb_and h2 h1)
  obtain ⟨b1, b2⟩ := len_le_all (T &&& P) hA P hP and_sb_right
  unfold spOk
  rw [h1, Bool.true_and, Bool.and_comm]
  congr 1
  · by_cases e : T &&& P = F
    · rw [decide_eq_true e, e]; simp
    · rw [decide_eq_false e, decide_eq_true (by have : ¬ (bl F).length = (bl (T &&& P)).length := fun h => e (a2 h).symm; omega)]; rfl
  · cases hs : sb P T with
    | true =>
      have : T &&& P = P := sb_antisymm and_sb_right (sb_and hs (sb_refl P))
      rw [this]; simp
    | false =>
      have : ¬ (bl (T &&& P)).length = (bl P).length := fun h => by
        have := b2 h
        have h3 : sb P T = true := by rw [← this]; exact and_sb_left
        rw [hs] at h3; cases h3
      rw [decide_eq_true (by omega)]; rfl
/-- All rising lists of a part's columns, as the model makes them. -/
def pickL (p : List Int) (s : List Int) : List Int := s.map fun k => p.getD k.toNat 0
def listsT (p : List Int) (t : Nat) : List (List Int) := (setsU p.length t).map (pickL p)
theorem lists_ord_all : ∀ P : Nat, P < 64 → listsT (bl P) ((bl P).length + 1) = (ordP P).map bl := by decide +kernel
theorem ordP_mem {P F : Nat} (h : F ∈ ordP P) : F < 64 ∧ sb F P = true := by
  obtain ⟨h1, h2⟩ := List.mem_filter.1 h
  refine ⟨?_, h2⟩
  have h3 : L64.all (fun x => decide (x < 64)) = true := by decide +kernel
  rw [List.all_eq_true] at h3
  simpa using h3 F h1
theorem ordP_len_all : ∀ P : Nat, P < 64 → (ordP P).length ≤ 64 := by decide +kernel

end Go.Proofs.YtpnaoahlfhbbmabDoor

/- Contracts of goodPart, splitSet, and the model's l8Part. -/
namespace Go.Proofs.YtpnaoahlfhbbmabDoor
open Go.RowKit

/-- Dependencies and a part of their columns. -/
def prtB (xs : List Dep) (C : Int) (ps : List Int) : Bool := goodDeps xs C && ris C ps

set_option maxHeartbeats 1000000 in
theorem goodPart_any (a : Option Addr) (n c : Nat) (xs : List Dep) (C : Int) (pa : Option Addr) (pn pc : Nat) (ps : List Int) (w : World) (hz : xs.length = n) (hn : n ≤ 9223372036854775807) (ha : AtD w a xs) (hp : ps.length = pn) (hpn : pn ≤ 9223372036854775807) (hpa : At w pa ps) :
    Calls Tryd.prog 21 #[.slice a n c, .int .i64 C, .slice pa pn pc] w fun e w' => e = .returned (.bool (prtB xs C ps)) ∧ Below w.heap.size w w' := by
  have K1 := Hid.mk (implGoodDepends a n c xs C w hz hn ha)
  have HP := Hid.mk hp
  have HPA := Hid.mk hpa
  clear hz ha hp hpa
  go_enter Tryd.func21, Tryd.ntmps21
  go_wp2_with fail
  refine K1.out.mono ?_
  rintro e w1 ⟨rfl, B1⟩
  cases hg : goodDeps xs C with
  | false =>
    go_wp2
    go_ret
    exact ⟨by unfold prtB; rw [hg]; rfl, B1⟩
  | true =>
    have K2 := Hid.mk (areRising_any pa pn pc ps C w1 HP.out hpn (At.below HPA.out B1))
    go_wp2_with fail
    refine K2.out.mono ?_
    rintro e w2 ⟨rfl, hb2⟩
    have B2 := B1.trans (hb2.mono B1.size)
    go_wp2
    go_ret
    exact ⟨by unfold prtB; rw [hg]; rfl, B2⟩

set_option maxHeartbeats 1000000 in
theorem l8Part_any (a : Option Addr) (n c : Nat) (xs : List Dep) (C : Int) (pa : Option Addr) (pn pc : Nat) (ps : List Int) (w : World) (hz : xs.length = n) (hn : n ≤ 9223372036854775807) (ha : AtD w a xs) (hp : ps.length = pn) (hpn : pn ≤ 9223372036854775807) (hpa : At w pa ps) :
    Calls Tryd.prog 15 #[.slice a n c, .int .i64 C, .slice pa pn pc] w fun e w' => e = .returned (.bool (prtB xs C ps)) ∧ Below w.heap.size w w' := by
  have K1 := Hid.mk (specGoodDepends a n c xs C w hz hn ha)
  have HP := Hid.mk hp
  have HPA := Hid.mk hpa
  clear hz ha hp hpa
  go_enter Tryd.func15, Tryd.ntmps15
  go_wp2_with fail
  refine K1.out.mono ?_
  rintro e w1 ⟨rfl, B1⟩
  cases hg : goodDeps xs C with
  | false =>
    go_wp2
    go_ret
    exact ⟨by unfold prtB; rw [hg]; rfl, B1⟩
  | true =>
    have K2 := Hid.mk (l1Some_any pa pn pc ps C w1 HP.out hpn (At.below HPA.out B1))
    go_wp2_with fail
    refine K2.out.mono ?_
    rintro e w2 ⟨rfl, hb2⟩
    have B2 := B1.trans (hb2.mono B1.size)
    go_wp2
    go_ret
    exact ⟨by unfold prtB; rw [hg]; rfl, B2⟩

def spA (T P F : Nat) : Nat := if spOk T P F then T &&& P else 0
def spB (T P F : Nat) : Nat := if spOk T P F then F ||| dif P T else 0
theorem spA_lt {T P F : Nat} (hT : T < 64) : spA T P F < 64 := by unfold spA; split; exact and_lt64 hT; omega
theorem spB_lt {T P F : Nat} (hP : P < 64) (hF : F < 64) : spB T P F < 64 := by unfold spB; split; exact or_lt64 hF (dif_lt hP); omega

end Go.Proofs.YtpnaoahlfhbbmabDoor

/- Plain: the first list that splits a part. -/
namespace Go.Proofs.YtpnaoahlfhbbmabDoor
open Go.RowKit

noncomputable def spl (D : List (Nat × Nat)) (P F : Nat) : Bool := spOk (clo D F) P F
noncomputable def fsp (D : List (Nat × Nat)) (P : Nat) : Option Nat := (ordP P).find? (spl D P)
noncomputable def fsO (D : List (Nat × Nat)) (P : Nat) : Bool := (fsp D P).isSome
noncomputable def fsA (D : List (Nat × Nat)) (P : Nat) : Nat := match fsp D P with | none => 0 | some F => clo D F &&& P
noncomputable def fsB (D : List (Nat × Nat)) (P : Nat) : Nat := match fsp D P with | none => 0 | some F => F ||| dif P (clo D F)
theorem find_drop {l : List Nat} {p : Nat → Bool} {k x : Nat} (h : l[k]? = some x) : (l.drop k).find? p = if p x then some x else (l.drop (k + 1)).find? p := by
  obtain ⟨hk, rfl⟩ := List.getElem?_eq_some_iff.1 h
  rw [List.drop_eq_getElem_cons hk, List.find?_cons]
  cases p l[k] <;> rfl
theorem find_done {l : List Nat} {p : Nat → Bool} {k : Nat} (h : l.length ≤ k) : (l.drop k).find? p = none := by rw [List.drop_of_length_le h]; rfl
theorem mk_blP : ∀ s : Nat, s < 64 → mk (bl s) = s := by decide +kernel
theorem told_bl {s : Nat} (h : s < 64) : Told (bl s) := ⟨by rw [mk_blP s h], by rw [mk_blP s h]; exact h⟩
theorem fsp_some {D : List (Nat × Nat)} {P F : Nat} (h : fsp D P = some F) : F < 64 ∧ sb F P = true ∧ spl D P F = true := by
  have h1 := List.mem_of_find?_eq_some h
  have h2 := List.find?_some h
  exact ⟨(ordP_mem h1).1, (ordP_mem h1).2, h2⟩
theorem lists_ord {ps : List Int} (h : Told ps) {pn : Nat} (hn : ps.length = pn) : listsT ps (pn + 1) = (ordP (mk ps)).map bl := by
  have := lists_ord_all (mk ps) h.lt
  rw [h.is, hn] at this
  exact this

end Go.Proofs.YtpnaoahlfhbbmabDoor

/- Contracts of the laws' helpers over dependencies: szDepend, szDependS. -/
namespace Go.Proofs.YtpnaoahlfhbbmabDoor
open Go.RowKit

set_option maxRecDepth 100000 in
set_option maxHeartbeats 1000000 in
theorem szDepend_any (sa : Option Addr) (sn sc : Nat) (pa : Option Addr) (pn pc : Nat) (ss : List Int) (xs : List Int) (l : Int) (w : World) (hs : ss.length = sn) (hsn : sn ≤ 9223372036854775807) (hz : xs.length = pn) (hn : pn ≤ 9223372036854775807) (h0 : 0 ≤ l) (h1 : l ≤ 1048576) :
    Calls Tryd.prog 14 #[.agg #[.slice sa sn sc, .slice pa pn pc], .int .i64 l] w fun e w' => e = .returned (.int .i64 (leftOf l (dcost (ss, xs)))) ∧ Below w.heap.size w w' := by
  have hv : dcost (ss, xs) = sn + pn := by unfold dcost; simp only; rw [hs, hz]
  rw [hv]
  clear hv
  obtain ⟨W, hW⟩ : ∃ W, W = w.alloc (.cells #[.slice sa sn sc, .slice pa pn pc] 37) := ⟨_, rfl⟩
  have B0 : Below w.heap.size w W := by rw [hW]; exact (Below.refl _ _).alloc (Nat.le_refl _) _
  have q1 : W.cell? ⟨w.heap.size, 1, none⟩ = some (.slice pa pn pc) := by rw [hW]; simp
  have HZ := Hid.mk hz
  clear hz hs
  by_cases c1 : l < sn
  · go_enter Tryd.func14, Tryd.ntmps14
    go_wp2_with fail
    rw [← hW]
    clear hW
    refine (szIntS_any sa sn sc l W hsn h0 h1).mono ?_
    rintro e w2 ⟨rfl, rfl⟩
    rw [if_pos c1]
    go_wp2
    go_ret
    exact ⟨ret_int (leftOf_no (by omega)).symm, B0⟩
  by_cases c2 : l - sn < (pn : Int)
  · go_enter Tryd.func14, Tryd.ntmps14
    have d1 : ¬ l - (sn : Int) < 0 := by omega
    go_wp2_with fail
    rw [← hW]
    clear hW
    refine (szIntS_any sa sn sc l W hsn h0 h1).mono ?_
    rintro e w2 ⟨rfl, rfl⟩
    rw [if_neg (by omega)]
    go_wp2_with fail
    refine (szIntS_any pa pn pc (l - sn) _ hn (by omega) (by omega)).mono ?_
    rintro e w3 ⟨rfl, rfl⟩
    rw [if_pos (by omega)]
    go_wp2
    go_ret
    exact ⟨ret_int (leftOf_no (by omega)).symm, B0⟩
  · go_enter Tryd.func14, Tryd.ntmps14
    have d1 : ¬ l - (sn : Int) < 0 := by omega
    have d2 : ¬ l - (sn : Int) - (pn : Int) < 0 := by omega
    go_wp2_with fail
    rw [← hW]
    clear hW
    refine (szIntS_any sa sn sc l W hsn h0 h1).mono ?_
    rintro e w2 ⟨rfl, rfl⟩
    rw [if_neg (by omega)]
    go_wp2_with fail
    refine (szIntS_any pa pn pc (l - sn) _ hn (by omega) (by omega)).mono ?_
    rintro e w3 ⟨rfl, rfl⟩
    rw [if_neg (by omega)]
    go_wp2
    go_ret
    exact ⟨ret_int (by rw [leftOf_yes (by omega)]; omega), B0⟩

set_option maxRecDepth 100000 in
set_option maxHeartbeats 2000000 in
theorem szDependS_any (a : Option Addr) (n c : Nat) (xs : List Dep) (l : Int) (w : World) (hz : xs.length = n) (hn : n ≤ 9223372036854775807) (h0 : 0 ≤ l) (h1 : l ≤ 1048576) (ha : AtD w a xs) :
    Calls Tryd.prog 4 #[.slice a n c, .int .i64 l] w fun e w' => e = .returned (.int .i64 (leftOf l (n + dsum xs n : Nat))) ∧ Below w.heap.size w w' := by
  by_cases hb : l < n
  · have h' : l - (n : Int) < 0 := by omega
    go_enter Tryd.func4, Tryd.ntmps4
    go_wp2
    go_ret
    exact ⟨ret_int (leftOf_no (by omega)).symm, Below.refl _ _⟩
  have h' : ¬ l - (n : Int) < 0 := by omega
  by_cases hn0 : n = 0
  · subst hn0
    have ht : dsum xs 0 = 0 := dsum_zero xs
    go_enter Tryd.func4, Tryd.ntmps4
    go_wp2
    refine wp_loop_rounds 1 ?_
    rw [rounds_succ]
    go_wp2
    go_ret
    exact ⟨ret_int (by rw [ht, leftOf_yes (by omega)]; omega), Below.refl _ _⟩
  · go_enter Tryd.func4, Tryd.ntmps4
    go_wp2
    go_loopw [1, 5] (fun q i wr => ∃ (k : Nat) (r : Int), k ≤ n ∧ i = .int .i64 k ∧ q = .int .i64 r ∧ 0 ≤ r ∧ r ≤ 1048576 ∧ r + dsum xs k = l - n ∧ Below w.heap.size w wr) (fun _ i _ => n - (intOf i).toNat)
    case atStart => exact ⟨0, l - n, Nat.zero_le _, rfl, rfl, by omega, by omega, by rw [dsum_zero]; omega, Below.refl _ _⟩
    case round =>
      obtain ⟨k, r, hk, rfl, rfl, hr0, hr1, hr, hbw⟩ := hrel
      by_cases hlt : k < n
      · obtain ⟨b, off, rfl, _, hc⟩ := AtD.row (AtSl.below ha hbw) (by omega)
        obtain ⟨⟨xf, xt⟩, hx⟩ : ∃ x, xs[k]? = some x := ⟨_, List.getElem?_eq_getElem (by omega)⟩
        obtain ⟨fa, fn, fc, ta, tn, tc, g0, g1, ⟨t1, t2, _⟩, ⟨u1, u2, _⟩⟩ := hc k _ hx
        have hts := dsum_succ hx
        have htm := dsum_mono xs (k + 1) n (by omega)
        have HR := Hid.mk hr
        have HT := Hid.mk hts
        have HM := Hid.mk htm
        have HX1 := Hid.mk t1
        have HX2 := Hid.mk u1
        have hki : (k : Int) < (n : Int) := by omega
        clear hc hr hts ha htm hx t1 u1
        by_cases hfit : r < dcost (xf, xt)
        · go_wp2_with fail
          refine (szDepend_any fa fn fc ta tn tc xf xt r wr HX1.out t2 HX2.out u2 hr0 hr1).mono ?_
          rintro e w' ⟨rfl, hb'⟩
          rw [leftOf_no hfit]
          go_wp2
          go_ret
          exact ⟨ret_int (leftOf_no (by have := HR.out; have := HT.out; have := HM.out; omega)).symm, hbw.trans (hb'.mono hbw.size)⟩
        · have hd : ¬ r - (dcost (xf, xt) : Int) < 0 := by omega
          go_wp2_with fail
          refine (szDepend_any fa fn fc ta tn tc xf xt r wr HX1.out t2 HX2.out u2 hr0 hr1).mono ?_
          rintro e w' ⟨rfl, hb'⟩
          rw [leftOf_yes (by omega)]
          go_wp2
          go_roundw
          case rel => exact ⟨k + 1, r - dcost (xf, xt), by omega, by go_num, rfl, by omega, by omega, by have := HR.out; have := HT.out; omega, hbw.trans (hb'.mono hbw.size)⟩
          case measure => simp [intOf]; omega
      · obtain rfl : k = n := by omega
        have HR := Hid.mk hr
        clear hr
        go_wp2
        go_ret
        exact ⟨ret_int (by have := HR.out; rw [leftOf_yes (by omega)]; omega), hbw⟩

end Go.Proofs.YtpnaoahlfhbbmabDoor

/- The laws' copies of slices of numbers, of slices of numbers, as things that are owned. -/
namespace Go.Proofs.YtpnaoahlfhbbmabDoor
open Go.RowKit

theorem toInts_rep (a : Option Addr) (n c : Nat) (zs : List Int) (w : World) (hz : zs.length = n) (hn : n ≤ 1048576) (ha : At w a zs) :
    Calls Tryd.prog 7 #[.slice a n c] w fun e w' => ∃ g, e = .returned (.slice (some ⟨g, 0, none⟩) n n) ∧ RInts.Own w' (From w.heap.size w'.heap.size) [.slice (some ⟨g, 0, none⟩) n n] zs ∧ Below w.heap.size w w' :=
  (toIntS_any a n c zs w hz hn ha).mono fun _ _ ⟨h1, h2, h3⟩ => ⟨_, h1, RInts.of_owns hz (by omega) h2, h3⟩
end Go.Proofs.YtpnaoahlfhbbmabDoor

/- A block of cells that a function holds: what is stored, what stays. -/
namespace Go.Proofs.YtpnaoahlfhbbmabDoor
open Go.RowKit

theorem blk_set {w : World} {g : Nat} {cs : Array Value} {t : TypeId} (h : w.heap[g]? = some (.cells cs t (0, 0))) (k : Nat) (v : Value) : (w.setCell ⟨g, k, none⟩ v).heap[g]? = some (.cells (cs.setIfInBounds k v) t (0, 0)) := heap_setCell_same w g k cs t v h
theorem blk_cell {w : World} {g : Nat} {cs : Array Value} {t : TypeId} (h : w.heap[g]? = some (.cells cs t (0, 0))) (k : Nat) {v : Value} (hv : cs[k]? = some v) : w.cell? ⟨g, k, none⟩ = some v := by
  rw [cell_of_row w g k _ t (0, 0) h]; exact hv
theorem blk_frozen {w : World} {g : Nat} {cs : Array Value} {t : TypeId} (h : w.heap[g]? = some (.cells cs t (0, 0))) (k : Nat) : w.frozen? ⟨g, k, none⟩ = false := frozen_of_row w g k _ t h
theorem blk_below {w w' : World} {g : Nat} {o : Obj} (h : w.heap[g]? = some o) (hb : Below w.heap.size w w') : w'.heap[g]? = some o := (hb.block g (Array.getElem?_eq_some_iff.1 h).1).trans h
theorem blk_other {w : World} {g : Nat} {o : Obj} (h : w.heap[g]? = some o) {a : Addr} (ha : g ≠ a.block) (v : Value) : (w.setCell a v).heap[g]? = some o := (Below.heap_setCell w a v g ha).trans h
theorem blk_alloc {w : World} {g : Nat} {o : Obj} (h : w.heap[g]? = some o) (o' : Obj) : (w.alloc o').heap[g]? = some o := (Below.heap_alloc w o' g (Array.getElem?_eq_some_iff.1 h).1).trans h

end Go.Proofs.YtpnaoahlfhbbmabDoor

/- Contracts of the laws' helpers over dependencies: toDepend, toDependS. -/
namespace Go.Proofs.YtpnaoahlfhbbmabDoor
open Go.RowKit

set_option maxRecDepth 100000 in
set_option maxHeartbeats 2000000 in
theorem toDepend_any (sa : Option Addr) (sn sc : Nat) (pa : Option Addr) (pn pc : Nat) (ss : List Int) (xs : List Int) (w : World) (hsz : ss.length = sn) (hz : xs.length = pn) (hsn : sn ≤ 1048576) (hpn : pn ≤ 1048576) (hsa : At w sa ss) (ha : At w pa xs) :
    Calls Tryd.prog 20 #[.agg #[.slice sa sn sc, .slice pa pn pc]] w fun e w' => ∃ g1 g2, e = .returned (.agg #[.slice (some ⟨g1, 0, none⟩) sn sn, .slice (some ⟨g2, 0, none⟩) pn pn]) ∧
      RDep.Own w' (From w.heap.size w'.heap.size) [.slice (some ⟨g1, 0, none⟩) sn sn, .slice (some ⟨g2, 0, none⟩) pn pn] (ss, xs) ∧ Below w.heap.size w w' := by
  obtain ⟨W, hW⟩ : ∃ W, W = (((w.alloc (.cells #[.slice sa sn sc, .slice pa pn pc] 37)).alloc (.cells #[.slice none 0 0, .slice none 0 0] 44)).alloc (.cells #[.slice none 0 0, .slice none 0 0] 44)) := ⟨_, rfl⟩
  have B0 : Below w.heap.size w W := by rw [hW]; exact ((((Below.refl _ _).alloc (Nat.le_refl _) _).alloc (by simp) _).alloc (by simp; omega) _)
  have zW : w.heap.size + 2 < W.heap.size := by rw [hW]; simp
  have b2 : W.heap[w.heap.size + 1 + 1]? = some (.cells #[.slice none 0 0, .slice none 0 0] 44 (0, 0)) := by
    rw [hW]
    have q := heap_alloc_new ((w.alloc (.cells #[.slice sa sn sc, .slice pa pn pc] 37)).alloc (.cells #[.slice none 0 0, .slice none 0 0] 44)) (.cells #[.slice none 0 0, .slice none 0 0] 44)
    simpa only [World.size_alloc] using q
  have b1 : W.heap[w.heap.size + 1]? = some (.cells #[.slice none 0 0, .slice none 0 0] 44 (0, 0)) := by
    rw [hW]
    refine blk_alloc ?_ _
    have q := heap_alloc_new (w.alloc (.cells #[.slice sa sn sc, .slice pa pn pc] 37)) (.cells #[.slice none 0 0, .slice none 0 0] 44)
    simpa only [World.size_alloc] using q
  have b0 : W.heap[w.heap.size]? = some (.cells #[.slice sa sn sc, .slice pa pn pc] 37 (0, 0)) := by
    rw [hW]
    exact blk_alloc (blk_alloc (heap_alloc_new w _) _) _
  have U3 := Hid.mk hsa
  have V3 := Hid.mk ha
  have HU1 := Hid.mk hsz
  have HV1 := Hid.mk hz
  clear hsa ha hsz hz
  go_enter Tryd.func20, Tryd.ntmps20
  go_wp2_with fail
  rw [← hW]
  clear hW
  refine (toInts_rep sa sn sc ss W HU1.out hsn (At.below U3.out B0)).mono ?_
  rintro e w1 ⟨g1, rfl, o1, hb1⟩
  have k2 := blk_below b2 hb1
  have k1 := blk_below b1 hb1
  have k0 := blk_below b0 hb1
  clear b2 b1 b0
  have z1 := hb1.size
  have B1 : Below w.heap.size w w1 := B0.trans (hb1.mono (by omega))
  have q := blk_cell k2 0 (v := .slice none 0 0) rfl
  have f := blk_frozen k2 0
  have r := blk_cell k0 1 (v := .slice pa pn pc) rfl
  obtain ⟨X1, hX1⟩ : ∃ u, u = w1.setCell ⟨w.heap.size + 1 + 1, 0, none⟩ (.slice (some ⟨g1, 0, none⟩) sn sn) := ⟨_, rfl⟩
  have y1 : w1.heap.size ≤ X1.heap.size := by rw [hX1]; simp [World.setCell]
  have b2 : X1.heap[w.heap.size + 1 + 1]? = some (.cells #[.slice (some ⟨g1, 0, none⟩) sn sn, .slice none 0 0] 44 (0, 0)) := by rw [hX1]; exact blk_set k2 0 _
  have b1 : X1.heap[w.heap.size + 1]? = some (.cells #[.slice none 0 0, .slice none 0 0] 44 (0, 0)) := by rw [hX1]; exact blk_other k1 (by simp) _
  have C1 : Below w.heap.size w X1 := by rw [hX1]; exact B1.setCell (by simp; omega) _
  have S1 : Hid (Off (From w.heap.size (w.heap.size + 3)) w1 X1) := by rw [hX1]; exact Off.set ⟨by simp; omega, by simp⟩ _
  have O1 : Hid (RInts.Own X1 (From W.heap.size w1.heap.size) [.slice (some ⟨g1, 0, none⟩) sn sn] ss) := RInts.ownOff o1 S1.out (fun b h k => by have := h.1; have := k.2; omega)
  clear o1 hb1 S1 k2 k1 k0
  go_wp2_with fail
  rw [← hX1]
  clear hX1 q f r
  refine (toInts_rep pa pn pc xs X1 HV1.out hpn (At.below V3.out C1)).mono ?_
  rintro e w2 ⟨g2, rfl, o2, hb2⟩
  have k2 := blk_below b2 hb2
  have k1 := blk_below b1 hb2
  clear b2 b1
  have z2 := hb2.size
  have B2 : Below w.heap.size w w2 := C1.trans (hb2.mono (by omega))
  have q := blk_cell k2 1 (v := .slice none 0 0) rfl
  have f := blk_frozen k2 1
  obtain ⟨X2, hX2⟩ : ∃ u, u = w2.setCell ⟨w.heap.size + 1 + 1, 1, none⟩ (.slice (some ⟨g2, 0, none⟩) pn pn) := ⟨_, rfl⟩
  have y2 : w2.heap.size ≤ X2.heap.size := by rw [hX2]; simp [World.setCell]
  have b2 : X2.heap[w.heap.size + 1 + 1]? = some (.cells #[.slice (some ⟨g1, 0, none⟩) sn sn, .slice (some ⟨g2, 0, none⟩) pn pn] 44 (0, 0)) := by rw [hX2]; exact blk_set k2 1 _
  have b1 : X2.heap[w.heap.size + 1]? = some (.cells #[.slice none 0 0, .slice none 0 0] 44 (0, 0)) := by rw [hX2]; exact blk_other k1 (by simp) _
  have C2 : Below w.heap.size w X2 := by rw [hX2]; exact B2.setCell (by simp; omega) _
  have S2 : Hid (Off (From w.heap.size (w.heap.size + 3)) w2 X2) := by rw [hX2]; exact Off.set ⟨by simp; omega, by simp⟩ _
  have O2 : Hid (RInts.Own X2 (From W.heap.size w1.heap.size) [.slice (some ⟨g1, 0, none⟩) sn sn] ss) := RInts.ownOff (RInts.ownBelow O1.out hb2) S2.out (fun b h k => by have := h.1; have := k.2; omega)
  have Q2 : Hid (RInts.Own X2 (From X1.heap.size w2.heap.size) [.slice (some ⟨g2, 0, none⟩) pn pn] xs) := RInts.ownOff o2 S2.out (fun b h k => by have := h.1; have := k.2; omega)
  clear o2 hb2 S2 O1 k2 k1
  go_upto_region 4 with fail
  rw [← hX2]
  clear hX2 q f
  have u0 := blk_cell b2 0 (v := .slice (some ⟨g1, 0, none⟩) sn sn) rfl
  have u1 := blk_cell b2 1 (v := .slice (some ⟨g2, 0, none⟩) pn pn) rfl
  have p0 := blk_cell b1 0 (v := .slice none 0 0) rfl
  have p1 := blk_cell b1 1 (v := .slice none 0 0) rfl
  have f0 := blk_frozen b1 0
  have f1 := blk_frozen b1 1
  obtain ⟨Y, hY⟩ : ∃ u, u = stores X2 (w.heap.size + 1) 0 [.slice (some ⟨g1, 0, none⟩) sn sn, .slice (some ⟨g2, 0, none⟩) pn pn] := ⟨_, rfl⟩
  have D : Below w.heap.size w Y := by rw [hY]; exact stores_below _ _ _ _ C2 (by omega)
  have S : Off (From w.heap.size (w.heap.size + 3)) X2 Y := by rw [hY]; exact stores_off _ _ _ _ ⟨by omega, by omega⟩
  have zY : Y.heap.size = X2.heap.size := by rw [hY]; exact stores_size _ _ _ _
  have R : Hid (RDep.Own Y (From w.heap.size Y.heap.size) [.slice (some ⟨g1, 0, none⟩) sn sn, .slice (some ⟨g2, 0, none⟩) pn pn] (ss, xs)) :=
    ⟨[_], [_], _, _, rfl, RInts.ownOff O2.out S (fun b h k => by have := h.1; have := k.2; omega), RInts.ownOff Q2.out S (fun b h k => by have := h.1; have := k.2; omega), fun b h => ⟨by have := h.1; omega, by have := h.2; omega⟩, fun b h => ⟨by have := h.1; omega, by have := h.2; omega⟩, fun b h k => by have := h.2; have := k.1; omega⟩
  have HY := Hid.mk hY
  have HD := Hid.mk D
  clear S D O2 Q2 hY zY b1 b2 C2
  go_wp2
  refine bodyPost_ret (v := .agg #[.slice (some ⟨g1, 0, none⟩) sn sn, .slice (some ⟨g2, 0, none⟩) pn pn]) (by simp [results, Tryd.results20, go_sem, p0, p1]) rfl ⟨g1, g2, rfl, ?_, ?_⟩
  · have h := R.out
    rw [HY.out] at h
    exact h
  · have h := HD.out
    rw [HY.out] at h
    exact h

theorem Tryd.infoDepend : (Tryd.prog.info? 44).map (fun i => (i.zero, i.size, i.bytes)) = some (some (.agg #[.slice none 0 0, .slice none 0 0]), 2, 48) := by kernel_rfl

set_option maxRecDepth 100000 in
set_option maxHeartbeats 4000000 in
theorem toDependS_any (a : Option Addr) (n c : Nat) (xs : List Dep) (w : World) (hz : xs.length = n) (hn : n ≤ 1048576) (hs : ∀ (i : Nat) (x : Dep), xs[i]? = some x → SmDep x) (ha : AtD w a xs) :
    Calls Tryd.prog 6 #[.slice a n c] w fun e w' => ∃ g, e = .returned (.slice (some ⟨g, 0, none⟩) n n) ∧ RDeps.Own w' (From w.heap.size w'.heap.size) [.slice (some ⟨g, 0, none⟩) n n] xs ∧ Below w.heap.size w w' := by
  obtain ⟨i0, hi, hz0, hz1, hz2⟩ := info_parts Tryd.infoDepend
  go_enter Tryd.func6, Tryd.ntmps6
  go_wp2_with (at_make; refine wpList_make_full _ rfl _ _ 25 rfl w.heap.size 44 i0 (.agg #[.slice none 0 0, .slice none 0 0]) 2 Tryd.underlying25 hi hz0 hz1 .i64 .i64 _ _ n rfl rfl rfl rfl (by rw [hz2]; omega) (by unfold maxLen; omega) (Nat.le_refl _) ?_; intro w1 hown hg)
  have hb1 : Below w.heap.size w w1 := (Below.refl _ _).grown hg (Nat.le_refl _) (by simp)
  have hlt1 := (hown.lt w.heap.size rfl).2
  obtain ⟨cs, hcs⟩ : ∃ cs, cs = (madeCells (Value.agg #[.slice none 0 0, .slice none 0 0]).cells (n * 2)).toList := ⟨_, rfl⟩
  rw [← hcs] at hown
  have hst : Laid RDep w1 (From w.heap.size w1.heap.size) 44 (some ⟨w.heap.size, 0, none⟩) n n xs cs (fun _ _ => False) 0 := Laid.start hz (by omega) (owns_mono hown (Nat.zero_le _)) (fun b hb => hown.lt b hb) _
  clear hcs hown hg
  go_loopw [4] (fun i wr => ∃ (k : Nat) (cells : List Value) (G : Nat → Nat → Prop), k ≤ n ∧ i = .int .i64 k ∧ Laid RDep wr (From w.heap.size wr.heap.size) 44 (some ⟨w.heap.size, 0, none⟩) n n xs cells G k ∧ w.heap.size < wr.heap.size ∧ Below w.heap.size w wr) (fun i _ => n - (intOf i).toNat)
  case atStart => exact ⟨0, cs, _, Nat.zero_le _, rfl, hst, hlt1, hb1⟩
  case round =>
    clear hst hb1 hlt1 cs
    obtain ⟨k, cells, G, hk, rfl, ho, hzr, hbw⟩ := hrel
    by_cases hlt : k < n
    · obtain ⟨b, off, rfl, _, hc⟩ := AtD.row (AtSl.below ha hbw) (by omega)
      obtain ⟨x, hx⟩ : ∃ x, xs[k]? = some x := ⟨_, List.getElem?_eq_getElem (by omega)⟩
      obtain ⟨fa, fn, fc, ta, tn, tc, g0, g1, ⟨t1, t2, t3⟩, ⟨u1, u2, u3⟩⟩ := hc k x hx
      have hsm := hs k x hx
      have hki : (k : Int) < (n : Int) := by omega
      have HO := Hid.mk ho
      have HX := Hid.mk hx
      have HC := Hid.mk (toDepend_any fa fn fc ta tn tc x.1 x.2 wr t1 u1 (by have := hsm.1; omega) (by have := hsm.2; omega) t3 u3)
      clear hc ha ho hs hx t1 t3 u1 u3 hsm
      go_wp2_with fail
      refine HC.out.mono ?_
      rintro e w2 ⟨h1, h2, rfl, ho2, hb2⟩
      obtain ⟨g, hgg⟩ : ∃ g, g = w.heap.size := ⟨_, rfl⟩
      have hput := HO.out.put hlt (fun b hb => hb.2) hb2 HX.out ho2 (fun b hb => hb.1)
      have z2 := hb2.size
      have hput2 := hput.mono (F' := From w.heap.size w2.heap.size) (fun b hb => by rcases hb with hb | hb; exact ⟨hb.1, by have := hb.2; omega⟩; exact ⟨by have := hb.1; omega, hb.2⟩)
      have HP : Hid (Laid RDep ((w2.setCell ⟨w.heap.size, k * 2, none⟩ (.slice (some ⟨h1, 0, none⟩) fn fn)).setCell ⟨w.heap.size, k * 2 + 1, none⟩ (.slice (some ⟨h2, 0, none⟩) tn tn)) (From w.heap.size w2.heap.size) 44 (some ⟨w.heap.size, 0, none⟩) n n xs _ _ (k + 1)) := hput2
      have hout := (HO.out.below hb2).outer
      have hln := hout.1
      have hln : cells.length = n * 2 := hln
      obtain ⟨u0, hu0⟩ : ∃ u, cells[k * 2]? = some u := ⟨_, List.getElem?_eq_getElem (by omega)⟩
      have q0 : w2.cell? ⟨w.heap.size, k * 2, none⟩ = some u0 := (hout.cellAt _ (show k * 2 < n * 2 by omega)).trans hu0
      have f0 : w2.frozen? ⟨w.heap.size, k * 2, none⟩ = false := hout.frozenAt _
      clear hu0
      obtain ⟨u1, hu1⟩ : ∃ u, cells[k * 2 + 1]? = some u := ⟨_, List.getElem?_eq_getElem (by omega)⟩
      have q1 : w2.cell? ⟨w.heap.size, k * 2 + 1, none⟩ = some u1 := (hout.cellAt _ (show k * 2 + 1 < n * 2 by omega)).trans hu1
      have f1 : w2.frozen? ⟨w.heap.size, k * 2 + 1, none⟩ = false := hout.frozenAt _
      clear hu1
      have HB : Hid (Below w.heap.size w ((w2.setCell ⟨w.heap.size, k * 2, none⟩ (.slice (some ⟨h1, 0, none⟩) fn fn)).setCell ⟨w.heap.size, k * 2 + 1, none⟩ (.slice (some ⟨h2, 0, none⟩) tn tn))) := (((hbw.trans (hb2.mono hbw.size)).setCell (Nat.le_refl _) _).setCell (Nat.le_refl _) _)
      clear hput hput2 hout hln hb2 hbw ho2 g0 g1 hgg
      go_wp2
      go_roundw
      case rel => exact ⟨k + 1, _, _, by omega, by go_num, by simpa only [World.setCell, Array.size_modify] using HP.out, by simp [World.setCell]; omega, HB.out⟩
      case measure => simp [intOf]; omega
    · obtain rfl : k = n := by omega
      go_wp2
      go_ret
      exact ⟨_, rfl, ⟨_, _, _, _, _, rfl, ho⟩, hbw⟩

end Go.Proofs.YtpnaoahlfhbbmabDoor

/- Rows of tellings that a call owns; dependencies that are told. -/
namespace Go.Proofs.YtpnaoahlfhbbmabDoor
open Go.RowKit

abbrev OwnTl (w : World) (lo : Nat) (r : Option Addr) (n d : Nat) (M : List (Nat × Nat)) : Prop := w.ownsRow lo 56 2 (.slice r n d) n (flatT M)
theorem own_some {w : World} {lo : Nat} {r : Option Addr} {n d : Nat} {M : List (Nat × Nat)} (h : OwnTl w lo r n d M) (h0 : 0 < n) : ∃ g, r = some ⟨g, 0, none⟩ ∧ lo ≤ g ∧ g < w.heap.size := by
  rcases h.2 with ⟨_, h9⟩ | ⟨g, cap, cur, h9, _⟩
  · omega
  · simp only [Value.slice.injEq, true_and] at h9
    obtain ⟨rfl, rfl⟩ := h9
    exact ⟨g, rfl, h.lt g rfl⟩
def DepsRet (e : Ending) (w' : World) (lo : Nat) (ok : Bool) (ds : List Dep) : Prop := ∃ r m d, e = .returned (.tuple #[.slice r m d, .bool ok]) ∧ RDeps.Own w' (From lo w'.heap.size) [.slice r m d] ds
theorem DepsRet.none (w : World) (lo : Nat) {ok : Bool} {ds : List Dep} (h1 : ok = false) (h2 : ds = []) : DepsRet (.returned (.tuple #[.slice none 0 0, .bool false])) w lo ok ds := by
  subst h1 h2
  exact ⟨_, 0, 0, rfl, _, 0, 0, [], fun _ _ => False, rfl, Laid.none _ _ _ _⟩
theorem undTake {N : List (Nat × Nat)} {k : Nat} {p : Nat × Nat} (h : N[k]? = some p) : (N.take (k + 1)).map und = (N.take k).map und ++ [und p] := by
  obtain ⟨hk, rfl⟩ := List.getElem?_eq_some_iff.1 h
  rw [List.take_succ_eq_append_getElem hk, List.map_append]; rfl

end Go.Proofs.YtpnaoahlfhbbmabDoor

/- Plain: what of a part is told by each list of its columns. -/
namespace Go.Proofs.YtpnaoahlfhbbmabDoor
open Go.RowKit

noncomputable def toF (D : List (Nat × Nat)) (P F : Nat) : Nat := dif (clo D F &&& P) F
noncomputable def dinM (D : List (Nat × Nat)) (P : Nat) (ks : List Nat) : List (Nat × Nat) := (ks.filter fun F => !decide (toF D P F = 0)).map fun F => (F, toF D P F)
theorem dinM_take {D : List (Nat × Nat)} {P : Nat} {ks : List Nat} {k F : Nat} (h : ks[k]? = some F) : dinM D P (ks.take (k + 1)) = if toF D P F = 0 then dinM D P (ks.take k) else dinM D P (ks.take k) ++ [(F, toF D P F)] := by
  obtain ⟨hk, rfl⟩ := List.getElem?_eq_some_iff.1 h
  unfold dinM
  rw [List.take_succ_eq_append_getElem hk, List.filter_append, List.map_append]
  by_cases e : toF D P ks[k] = 0
  · rw [if_pos e]; simp [e]
  · rw [if_neg e]; simp [e]
theorem dinM_len (D : List (Nat × Nat)) (P : Nat) (ks : List Nat) : (dinM D P ks).length ≤ ks.length := by
  unfold dinM
  rw [List.length_map]
  exact List.length_filter_le _ _
theorem dinM_sets {D : List (Nat × Nat)} {P : Nat} (hP : P < 64) : Sets (dinM D P (ordP P)) := by
  intro d hd
  unfold dinM at hd
  obtain ⟨F, hF, rfl⟩ := List.mem_map.1 hd
  refine ⟨(ordP_mem (List.mem_filter.1 hF).1).1, ?_⟩
  show dif _ _ < 64
  refine Nat.lt_of_le_of_lt Nat.and_le_left (Nat.lt_of_le_of_lt Nat.and_le_right hP)
noncomputable def dinN (xs : List Dep) (ps : List Int) : List (Nat × Nat) := dinM (dms xs) (mk ps) (ordP (mk ps))
noncomputable def dinB (xs : List Dep) (C : Int) (ps : List Int) : Bool := prtB xs C ps && decide ((dinN xs ps).length ≤ 10)
noncomputable def dinL (xs : List Dep) (C : Int) (ps : List Int) : List Dep := if dinB xs C ps then (dinN xs ps).map und else []
theorem DepsRet.low {e : Ending} {w' : World} {lo lo' : Nat} {ok : Bool} {ds : List Dep} (h : DepsRet e w' lo ok ds) (hl : lo' ≤ lo) : DepsRet e w' lo' ok ds := by
  obtain ⟨r, m, d, h1, h2⟩ := h
  exact ⟨r, m, d, h1, RDeps.mono h2 (fun b hb => ⟨by have := hb.1; omega, hb.2⟩)⟩
theorem dinL_no {xs : List Dep} {C : Int} {ps : List Int} (h : dinB xs C ps = false) : dinL xs C ps = [] := by unfold dinL; rw [h]; rfl
theorem und_small (p : Nat × Nat) : dcost (und p) ≤ 12 := by
  have h1 := bl_len p.1
  have h2 := bl_len p.2
  show (bl p.1).length + (bl p.2).length ≤ 12
  omega

end Go.Proofs.YtpnaoahlfhbbmabDoor
