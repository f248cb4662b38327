/- Several texts of one proof, in build order: PrtP, PrtG, NrmP, NpP, SpW. -/
import Derived.Test.YtpnaoahlfhbbmaaDoorM7
import Derived.Test.YtpnaoahlfhbbmaaDoorM6

/- Plain: parts of columns, what splits them, and the sets within one in their order. -/
namespace Go.Proofs.YtpnaoahlfhbbmaaDoor
open Go.RowKit

/-- What of P is not in T. -/
def dif (P T : Nat) : Nat := P &&& (18446744073709551615 - T)
/-- Whether F, which tells T, splits P. -/
def spOk (T P F : Nat) : Bool := sb F P && (!sb P T && !decide (T &&& P = F))
/-- The sets within P, in their order. -/
def ordP (P : Nat) : List Nat := L64.filter fun x => sb x P

theorem not_bit {T i : Nat} (hT : T < 64) (hi : i < 64) : (18446744073709551615 - T).testBit i = !(T.testBit i) := by
  have := Nat.testBit_two_pow_sub_succ (x := T) (n := 64) (by omega) i
  rw [show (2 ^ 64 - (T + 1)) = 18446744073709551615 - T by omega] at this
  rw [this]; simp [hi]
theorem bit_lt {A i : Nat} (hA : A < 64) (h : A.testBit i = true) : i < 6 := by
  by_cases h6 : i < 6
  · exact h6
  · rw [Nat.testBit_lt_two_pow (Nat.lt_of_lt_of_le hA (by have : 2 ^ 6 ≤ 2 ^ i := Nat.pow_le_pow_right (by omega) (by omega); omega))] at h; cases h
theorem dif_bit {P T i : Nat} (hP : P < 64) (hT : T < 64) : (dif P T).testBit i = (P.testBit i && !(T.testBit i)) := by
  unfold dif
  rw [Nat.testBit_and]
  cases h : P.testBit i with
  | false => rfl
  | true => rw [not_bit hT (by have := bit_lt hP h; omega)]
theorem and_lt64 {a b : Nat} (h : a < 64) : a &&& b < 64 := Nat.lt_of_le_of_lt Nat.and_le_left h
theorem dif_lt {P T : Nat} (h : P < 64) : dif P T < 64 := and_lt64 h
theorem mem_blB {s : Nat} {i : Nat} (hs : s < 64) : ((i : Int) ∈ bl s) ↔ s.testBit i = true := by
  rw [mem_bl]
  constructor
  · rintro ⟨j, _, h, e⟩
    have : i = j := by omega
    rw [this]; exact h
  · intro h; exact ⟨i, bit_lt hs h, h, rfl⟩
theorem filter_sorted {l : List Int} (p : Int → Bool) (h : l.Pairwise (· < ·)) : (l.filter p).Pairwise (· < ·) := h.filter _
theorem bl_of_mem {l : List Int} {s : Nat} (hs : s < 64) (h : l.Pairwise (· < ·)) (hm : ∀ x, x ∈ l ↔ ∃ i : Nat, s.testBit i = true ∧ x = (i : Int)) : l = bl s := by
  refine srt_ext h (bl_sorted s) fun x => ?_
  rw [hm, mem_bl]
  constructor
  · rintro ⟨i, h1, h2⟩; exact ⟨i, bit_lt hs h1, h1, h2⟩
  · rintro ⟨i, _, h1, h2⟩; exact ⟨i, h1, h2⟩
theorem within_bl {T P : Nat} (hT : T < 64) (hP : P < 64) : (bl T).filter (fun k => decide (k ∈ bl P)) = bl (T &&& P) := by
  refine bl_of_mem (and_lt64 hT) (filter_sorted _ (bl_sorted T)) fun x => ?_
  rw [List.mem_filter, mem_bl]
  constructor
  · rintro ⟨⟨i, _, h1, rfl⟩, h2⟩
    rw [decide_eq_true_eq, mem_blB hP] at h2
    exact ⟨i, by rw [Nat.testBit_and, h1, h2]; rfl, rfl⟩
  · rintro ⟨i, h1, rfl⟩
    rw [Nat.testBit_and, Bool.and_eq_true] at h1
    exact ⟨⟨i, bit_lt hT h1.1, h1.1, rfl⟩, by rw [decide_eq_true_eq, mem_blB hP]; exact h1.2⟩
theorem without_bl {T F : Nat} (hT : T < 64) (hF : F < 64) : (bl T).filter (fun k => !decide (k ∈ bl F)) = bl (dif T F) := by
  refine bl_of_mem (dif_lt hT) (filter_sorted _ (bl_sorted T)) fun x => ?_
  rw [List.mem_filter, mem_bl]
  constructor
  · rintro ⟨⟨i, _, h1, rfl⟩, h2⟩
    refine ⟨i, ?_, rfl⟩
    rw [dif_bit hT hF, h1]
    cases h : F.testBit i with
    | false => rfl
    | true => rw [decide_eq_true ((mem_blB hF).2 h)] at h2; cases h2
  · rintro ⟨i, h1, rfl⟩
    rw [dif_bit hT hF, Bool.and_eq_true] at h1
    refine ⟨⟨i, bit_lt hT h1.1, h1.1, rfl⟩, ?_⟩
    rw [decide_eq_false (fun h => by rw [(mem_blB hF).1 h] at h1; cases h1.2)]; rfl
theorem rest_bl {T P F : Nat} (hT : T < 64) (hP : P < 64) (hF : F < 64) (h : sb F P = true) : (bl P).filter (fun k => decide (k ∈ bl F) || !decide (k ∈ bl T)) = bl (F ||| dif P T) := by
  refine bl_of_mem (or_lt64 hF (dif_lt hP)) (filter_sorted _ (bl_sorted P)) fun x => ?_
  rw [List.mem_filter, mem_bl]
  constructor
  · rintro ⟨⟨i, _, h1, rfl⟩, h2⟩
    refine ⟨i, ?_, rfl⟩
    rw [Nat.testBit_or, dif_bit hP hT, h1]
    cases hf : F.testBit i with
    | true => rfl
    | false =>
      rw [decide_eq_false (fun h => by rw [(mem_blB hF).1 h] at hf; cases hf)] at h2
      cases ht : T.testBit i with
      | false => rfl
      | true => rw [decide_eq_true ((mem_blB hT).2 ht)] at h2; cases h2
  · rintro ⟨i, h1, rfl⟩
    rw [Nat.testBit_or, dif_bit hP hT] at h1
    cases hf : F.testBit i with
    | true =>
      have := sb_bit h i hf
      exact ⟨⟨i, bit_lt hP this, this, rfl⟩, by rw [decide_eq_true ((mem_blB hF).2 hf)]; rfl⟩
    | false =>
      rw [hf, Bool.false_or, Bool.and_eq_true] at h1
      refine ⟨⟨i, bit_lt hP h1.1, h1.1, rfl⟩, ?_⟩
      rw [decide_eq_false (show ¬ ((i : Int) ∈ bl T) from fun h => by rw [(mem_blB hT).1 h] at h1; cases h1.2)]; simp
theorem and_sb_right {T P : Nat} : sb (T &&& P) P = true := sb_of_bits fun i h => by rw [Nat.testBit_and, Bool.and_eq_true] at h; exact h.2
theorem and_sb_left {T P : Nat} : sb (T &&& P) T = true := sb_of_bits fun i h => by rw [Nat.testBit_and, Bool.and_eq_true] at h; exact h.1
theorem sb_and {F T P : Nat} (h : sb F T = true) (k : sb F P = true) : sb F (T &&& P) = true := sb_of_bits fun i hi => by rw [Nat.testBit_and, sb_bit h i hi, sb_bit k i hi]; rfl
theorem len_le_all : ∀ A : Nat, A < 64 → ∀ B : Nat, B < 64 → sb A B = true → ((bl A).length ≤ (bl B).length ∧ ((bl A).length = (bl B).length → A = B)) := by decide +kernel
/-- A list splits a part, as the model asks it: by how many there are. -/
theorem spOk_len {T P F : Nat} (hT : T < 64) (hP : P < 64) (hF : F < 64) (h1 : sb F P = true) (h2 : sb F T = true) :
    spOk T P F = (decide ((bl F).length < (bl (T &&& P)).length) && decide ((bl (T &&& P)).length < (bl P).length)) := by
  have hA : T &&& P < 64 := and_lt64 hT
  obtain ⟨a1, a2⟩ := len_le_all F hF (T &&& P) hA (sb_and h2 h1)
  obtain ⟨b1, b2⟩ := len_le_all (T &&& P) hA P hP and_sb_right
  unfold spOk
  rw [h1, Bool.true_and, Bool.and_comm]
  congr 1
  · by_cases e : T &&& P = F
    · rw [decide_eq_true e, e]; simp
    · rw [decide_eq_false e, decide_eq_true (by have : ¬ (bl F).length = (bl (T &&& P)).length := fun h => e (a2 h).symm; omega)]; rfl
  · cases hs : sb P T with
    | true =>
      have : T &&& P = P := sb_antisymm and_sb_right (sb_and hs (sb_refl P))
      rw [this]; simp
    | false =>
      have : ¬ (bl (T &&& P)).length = (bl P).length := fun h => by
        have := b2 h
        have h3 : sb P T = true := by rw [← this]; exact and_sb_left
        rw [hs] at h3; cases h3
      rw [decide_eq_true (by omega)]; rfl
/-- All rising lists of a part's columns, as the model makes them. -/
def pickL (p : List Int) (s : List Int) : List Int := s.map fun k => p.getD k.toNat 0
def listsT (p : List Int) (t : Nat) : List (List Int) := (setsU p.length t).map (pickL p)
theorem lists_ord_all : ∀ P : Nat, P < 64 → listsT (bl P) ((bl P).length + 1) = (ordP P).map bl := by decide +kernel
theorem ordP_mem {P F : Nat} (h : F ∈ ordP P) : F < 64 ∧ sb F P = true := by
  obtain ⟨h1, h2⟩ := List.mem_filter.1 h
  refine ⟨?_, h2⟩
  have h3 : L64.all (fun x => decide (x < 64)) = true := by decide +kernel
  rw [List.all_eq_true] at h3
  simpa using h3 F h1
theorem ordP_len_all : ∀ P : Nat, P < 64 → (ordP P).length ≤ 64 := by decide +kernel

end Go.Proofs.YtpnaoahlfhbbmaaDoor

/- Contracts of goodPart, splitSet, and the model's l8Part. -/
namespace Go.Proofs.YtpnaoahlfhbbmaaDoor
open Go.RowKit

/-- Dependencies and a part of their columns. -/
def prtB (xs : List Dep) (C : Int) (ps : List Int) : Bool := goodDeps xs C && ris C ps

set_option maxHeartbeats 1000000 in
theorem goodPart_any (a : Option Addr) (n c : Nat) (xs : List Dep) (C : Int) (pa : Option Addr) (pn pc : Nat) (ps : List Int) (w : World) (hz : xs.length = n) (hn : n ≤ 9223372036854775807) (ha : AtD w a xs) (hp : ps.length = pn) (hpn : pn ≤ 9223372036854775807) (hpa : At w pa ps) :
    Calls Tryd.prog 27 #[.slice a n c, .int .i64 C, .slice pa pn pc] w fun e w' => e = .returned (.bool (prtB xs C ps)) ∧ Below w.heap.size w w' := by
  have K1 := Hid.mk (implGoodDepends a n c xs C w hz hn ha)
  have HP := Hid.mk hp
  have HPA := Hid.mk hpa
  clear hz ha hp hpa
  go_enter Tryd.func27, Tryd.ntmps27
  go_wp2_with fail
  refine K1.out.mono ?_
  rintro e w1 ⟨rfl, B1⟩
  cases hg : goodDeps xs C with
  | false =>
    go_wp2
    go_ret
    exact ⟨by unfold prtB; rw [hg]; rfl, B1⟩
  | true =>
    have K2 := Hid.mk (areRising_any pa pn pc ps C w1 HP.out hpn (At.below HPA.out B1))
    go_wp2_with fail
    refine K2.out.mono ?_
    rintro e w2 ⟨rfl, hb2⟩
    have B2 := B1.trans (hb2.mono B1.size)
    go_wp2
    go_ret
    exact ⟨by unfold prtB; rw [hg]; rfl, B2⟩

set_option maxHeartbeats 1000000 in
theorem l8Part_any (a : Option Addr) (n c : Nat) (xs : List Dep) (C : Int) (pa : Option Addr) (pn pc : Nat) (ps : List Int) (w : World) (hz : xs.length = n) (hn : n ≤ 9223372036854775807) (ha : AtD w a xs) (hp : ps.length = pn) (hpn : pn ≤ 9223372036854775807) (hpa : At w pa ps) :
    Calls Tryd.prog 24 #[.slice a n c, .int .i64 C, .slice pa pn pc] w fun e w' => e = .returned (.bool (prtB xs C ps)) ∧ Below w.heap.size w w' := by
  have K1 := Hid.mk (specGoodDepends a n c xs C w hz hn ha)
  have HP := Hid.mk hp
  have HPA := Hid.mk hpa
  clear hz ha hp hpa
  go_enter Tryd.func24, Tryd.ntmps24
  go_wp2_with fail
  refine K1.out.mono ?_
  rintro e w1 ⟨rfl, B1⟩
  cases hg : goodDeps xs C with
  | false =>
    go_wp2
    go_ret
    exact ⟨by unfold prtB; rw [hg]; rfl, B1⟩
  | true =>
    have K2 := Hid.mk (l1Some_any pa pn pc ps C w1 HP.out hpn (At.below HPA.out B1))
    go_wp2_with fail
    refine K2.out.mono ?_
    rintro e w2 ⟨rfl, hb2⟩
    have B2 := B1.trans (hb2.mono B1.size)
    go_wp2
    go_ret
    exact ⟨by unfold prtB; rw [hg]; rfl, B2⟩

def spA (T P F : Nat) : Nat := if spOk T P F then T &&& P else 0
def spB (T P F : Nat) : Nat := if spOk T P F then F ||| dif P T else 0
theorem spA_lt {T P F : Nat} (hT : T < 64) : spA T P F < 64 := by unfold spA; split; exact and_lt64 hT; omega
theorem spB_lt {T P F : Nat} (hP : P < 64) (hF : F < 64) : spB T P F < 64 := by unfold spB; split; exact or_lt64 hF (dif_lt hP); omega

set_option maxHeartbeats 2000000 in
theorem splitSet_any (a : Option Addr) (n c : Nat) (xs : List (Nat × Nat)) (P F : Nat) (w : World) (hz : xs.length = n) (hn : n ≤ 9223372036854775807) (hs : Sets xs) (hP : P < 64) (hF : F < 64) (ha : AtT w a xs) :
    Calls Tryd.prog 45 #[.slice a n c, .int .u64 (P : Nat), .int .u64 (F : Nat)] w fun e w' => ∃ T, IsClo xs F T ∧ e = .returned (.tuple #[.int .u64 (spA T P F : Nat), .int .u64 (spB T P F : Nat), .bool (spOk T P F)]) ∧ Below w.heap.size w w' := by
  have K := Hid.mk (closure_any a n c xs F w hz hn hs hF ha)
  clear hz hs ha
  go_enter Tryd.func45, Tryd.ntmps45
  go_wp2_with fail
  refine K.out.mono ?_
  rintro e w1 ⟨T, hT, rfl, B1⟩
  have hT64 := hT.lt
  have HT := Hid.mk hT
  clear hT K
  go_wp2_with fail
  refine (has_any P F w1 hP hF).mono ?_
  rintro e w2 ⟨rfl, rfl⟩
  cases h1 : sb F P with
  | false =>
    have HN : Hid (spOk T P F = false) := by show _ = _; unfold spOk; rw [h1]; rfl
    go_wp2
    exact bodyPost_ret (v := .tuple #[.int .u64 0, .int .u64 0, .bool false]) (by simp [results, Tryd.results45, go_sem]) rfl ⟨T, HT.out, by unfold spA spB; rw [HN.out]; rfl, B1⟩
  | true =>
    go_wp2_with fail
    refine (has_any T P _ hT64 hP).mono ?_
    rintro e w3 ⟨rfl, rfl⟩
    cases h2 : sb P T with
    | true =>
      have HN : Hid (spOk T P F = false) := by show _ = _; unfold spOk; rw [h1, h2]; rfl
      go_wp2
      exact bodyPost_ret (v := .tuple #[.int .u64 0, .int .u64 0, .bool false]) (by simp [results, Tryd.results45, go_sem]) rfl ⟨T, HT.out, by unfold spA spB; rw [HN.out]; rfl, B1⟩
    | false =>
      have e1 := u64_and_nat T P (by omega) (by omega)
      have e2 := u64_andNot_nat P T (by omega) (by omega)
      have hd64 : dif P T < 64 := dif_lt hP
      have e3 := u64_or_nat F (dif P T) (by omega) (by omega)
      by_cases h3 : T &&& P = F
      · have HN : Hid (spOk T P F = false) := by show _ = _; unfold spOk; rw [h3, decide_eq_true rfl]; simp
        rw [h3] at e1
        have hb : ((F : Int) == (F : Int)) = true := beq_self_eq_true _
        clear h3
        go_wp2
        exact bodyPost_ret (v := .tuple #[.int .u64 0, .int .u64 0, .bool false]) (by simp [results, Tryd.results45, go_sem]) rfl ⟨T, HT.out, by unfold spA spB; rw [HN.out]; rfl, B1⟩
      · have HN : Hid (spOk T P F = true) := by show _ = _; unfold spOk; rw [h1, h2, decide_eq_false h3]; rfl
        have HA : Hid (spA T P F = T &&& P) := by show _ = _; unfold spA; rw [HN.out]; rfl
        have HB : Hid (spB T P F = F ||| dif P T) := by show _ = _; unfold spB; rw [HN.out]; rfl
        change _ = ((dif P T : Nat) : Int) at e2
        obtain ⟨A, hA⟩ : ∃ A, T &&& P = A := ⟨_, rfl⟩
        obtain ⟨D, hD⟩ : ∃ D, dif P T = D := ⟨_, rfl⟩
        obtain ⟨E, hE⟩ : ∃ E, F ||| dif P T = E := ⟨_, rfl⟩
        rw [hE] at HB
        rw [hD] at e2 e3 hE
        rw [hE] at e3
        rw [hA] at e1 h3 HA
        have hb : ((A : Int) == (F : Int)) = false := beq_eq_false_iff_ne.2 (by omega)
        clear hA hD hE h3
        go_wp2
        exact bodyPost_ret (v := .tuple #[.int .u64 (A : Nat), .int .u64 (E : Nat), .bool true]) (by simp [results, Tryd.results45, go_sem]) rfl ⟨T, HT.out, by rw [HN.out, HA.out, HB.out], B1⟩

end Go.Proofs.YtpnaoahlfhbbmaaDoor

/- Plain: the first list that splits a part. -/
namespace Go.Proofs.YtpnaoahlfhbbmaaDoor
open Go.RowKit

noncomputable def spl (D : List (Nat × Nat)) (P F : Nat) : Bool := spOk (clo D F) P F
noncomputable def fsp (D : List (Nat × Nat)) (P : Nat) : Option Nat := (ordP P).find? (spl D P)
noncomputable def fsO (D : List (Nat × Nat)) (P : Nat) : Bool := (fsp D P).isSome
noncomputable def fsA (D : List (Nat × Nat)) (P : Nat) : Nat := match fsp D P with | none => 0 | some F => clo D F &&& P
noncomputable def fsB (D : List (Nat × Nat)) (P : Nat) : Nat := match fsp D P with | none => 0 | some F => F ||| dif P (clo D F)
theorem find_drop {l : List Nat} {p : Nat → Bool} {k x : Nat} (h : l[k]? = some x) : (l.drop k).find? p = if p x then some x else (l.drop (k + 1)).find? p := by
  obtain ⟨hk, rfl⟩ := List.getElem?_eq_some_iff.1 h
  rw [List.drop_eq_getElem_cons hk, List.find?_cons]
  cases p l[k] <;> rfl
theorem find_done {l : List Nat} {p : Nat → Bool} {k : Nat} (h : l.length ≤ k) : (l.drop k).find? p = none := by rw [List.drop_of_length_le h]; rfl
theorem mk_blP : ∀ s : Nat, s < 64 → mk (bl s) = s := by decide +kernel
theorem told_bl {s : Nat} (h : s < 64) : Told (bl s) := ⟨by rw [mk_blP s h], by rw [mk_blP s h]; exact h⟩
theorem fsp_some {D : List (Nat × Nat)} {P F : Nat} (h : fsp D P = some F) : F < 64 ∧ sb F P = true ∧ spl D P F = true := by
  have h1 := List.mem_of_find?_eq_some h
  have h2 := List.find?_some h
  exact ⟨(ordP_mem h1).1, (ordP_mem h1).2, h2⟩
theorem lists_ord {ps : List Int} (h : Told ps) {pn : Nat} (hn : ps.length = pn) : listsT ps (pn + 1) = (ordP (mk ps)).map bl := by
  have := lists_ord_all (mk ps) h.lt
  rw [h.is, hn] at this
  exact this

end Go.Proofs.YtpnaoahlfhbbmaaDoor

/- Plain: a part split till each is normal; those within others left out. -/
namespace Go.Proofs.YtpnaoahlfhbbmaaDoor
open Go.RowKit

noncomputable def nset (D : List (Nat × Nat)) : Nat → Nat → List Nat
  | 0, P => [P]
  | f + 1, P => if fsO D P then nset D f (fsA D P) ++ nset D f (fsB D P) else [P]
noncomputable def nsets (D : List (Nat × Nat)) (P : Nat) : List Nat := nset D 6 P

/-- What a closure asks of the dependencies: there is one. -/
def HasClo (D : List (Nat × Nat)) : Prop := ∀ F, F < 64 → IsClo D F (clo D F)

theorem fs_less {D : List (Nat × Nat)} (hD : HasClo D) {P : Nat} (hP : P < 64) (h : fsO D P = true) : fsA D P < 64 ∧ fsB D P < 64 ∧ (bl (fsA D P)).length < (bl P).length ∧ (bl (fsB D P)).length < (bl P).length := by
  unfold fsO at h
  obtain ⟨F, hF⟩ := Option.isSome_iff_exists.1 h
  obtain ⟨h64, hsb, hsp⟩ := fsp_some hF
  have hT := hD F h64
  have hA : fsA D P = clo D F &&& P := by unfold fsA; rw [hF]
  have hB : fsB D P = F ||| dif P (clo D F) := by unfold fsB; rw [hF]
  unfold spl at hsp
  have hl := spOk_len hT.lt hP h64 hsb hT.has
  rw [hsp] at hl
  have hl' := hl.symm
  rw [Bool.and_eq_true, decide_eq_true_eq, decide_eq_true_eq] at hl'
  have hB64 : F ||| dif P (clo D F) < 64 := or_lt64 h64 (dif_lt hP)
  refine ⟨by rw [hA]; exact and_lt64 hT.lt, by rw [hB]; exact hB64, by rw [hA]; exact hl'.2, ?_⟩
  rw [hB]
  have hBP : sb (F ||| dif P (clo D F)) P = true := sb_or hsb (sb_of_bits fun i hi => by rw [dif_bit hP hT.lt, Bool.and_eq_true] at hi; exact hi.1)
  obtain ⟨l1, l2⟩ := len_le_all _ hB64 P hP hBP
  have hne : ¬ (bl (F ||| dif P (clo D F))).length = (bl P).length := fun e => by
    have heq := l2 e
    unfold spOk at hsp
    simp only [Bool.and_eq_true, Bool.not_eq_true', decide_eq_false_iff_not] at hsp
    refine hsp.2.2 (sb_antisymm (sb_of_bits fun i hi => ?_) (sb_and hT.has hsb))
    rw [Nat.testBit_and, Bool.and_eq_true] at hi
    have h1 : (F ||| dif P (clo D F)).testBit i = true := by rw [heq]; exact hi.2
    rw [Nat.testBit_or, dif_bit hP hT.lt, hi.1] at h1
    simpa using h1
  omega
theorem nset_more {D : List (Nat × Nat)} (hD : HasClo D) : ∀ (f P : Nat), P < 64 → (bl P).length ≤ f → nset D f P = nset D (f + 1) P
  | 0, P, hP, hl => by
    have hn : fsO D P = false := by
      cases h : fsO D P with
      | false => rfl
      | true => have := (fs_less hD hP h).2.2.1; omega
    show [P] = if fsO D P then _ else [P]
    rw [hn]; rfl
  | f + 1, P, hP, hl => by
    cases h : fsO D P with
    | false =>
      show (if fsO D P then _ else [P]) = if fsO D P then _ else [P]
      rw [h]; rfl
    | true =>
      obtain ⟨a1, a2, a3, a4⟩ := fs_less hD hP h
      show (if fsO D P then nset D f (fsA D P) ++ nset D f (fsB D P) else [P]) = if fsO D P then nset D (f + 1) (fsA D P) ++ nset D (f + 1) (fsB D P) else [P]
      rw [h, if_pos rfl, if_pos rfl, nset_more hD f _ a1 (by omega), nset_more hD f _ a2 (by omega)]
theorem nsets_eq {D : List (Nat × Nat)} (hD : HasClo D) {P : Nat} (hP : P < 64) : nsets D P = if fsO D P then nsets D (fsA D P) ++ nsets D (fsB D P) else [P] := by
  unfold nsets
  rw [nset_more hD 6 P hP (bl_len P)]; rfl
theorem nset_len (D : List (Nat × Nat)) : ∀ (f P : Nat), (nset D f P).length ≤ 2 ^ f ∧ 0 < (nset D f P).length
  | 0, P => ⟨by simp [nset], by simp [nset]⟩
  | f + 1, P => by
    have h1 := nset_len D f (fsA D P)
    have h2 := nset_len D f (fsB D P)
    show (if fsO D P then nset D f (fsA D P) ++ nset D f (fsB D P) else [P]).length ≤ _ ∧ 0 < (if fsO D P then nset D f (fsA D P) ++ nset D f (fsB D P) else [P]).length
    have h3 := Nat.one_le_two_pow (n := f + 1)
    split
    · rw [List.length_append, Nat.pow_succ]; omega
    · simp only [List.length_cons, List.length_nil]; omega
theorem nsets_len (D : List (Nat × Nat)) (P : Nat) : (nsets D P).length ≤ 64 ∧ 0 < (nsets D P).length := nset_len D 6 P
theorem nset_lt {D : List (Nat × Nat)} (hD : HasClo D) : ∀ (f P : Nat), P < 64 → ∀ x ∈ nset D f P, x < 64
  | 0, P, hP, x, h => by simp [nset] at h; omega
  | f + 1, P, hP, x, h => by
    unfold nset at h
    cases hf : fsO D P with
    | false => rw [hf] at h; simp at h; omega
    | true =>
      obtain ⟨a1, a2, _, _⟩ := fs_less hD hP hf
      rw [hf, if_pos rfl, List.mem_append] at h
      rcases h with h | h
      · exact nset_lt hD f _ a1 x h
      · exact nset_lt hD f _ a2 x h
theorem nsets_lt {D : List (Nat × Nat)} (hD : HasClo D) {P : Nat} (hP : P < 64) : ∀ x ∈ nsets D P, x < 64 := nset_lt hD 6 P hP

/-- All of them, split: the same for each way of splitting. -/
noncomputable def splitAll (D : List (Nat × Nat)) (l : List Nat) : List Nat := l.flatMap (nsets D)
theorem splitAll_done {D : List (Nat × Nat)} (hD : HasClo D) {l : List Nat} (hl : ∀ x ∈ l, x < 64) (h : ∀ x ∈ l, fsO D x = false) : splitAll D l = l := by
  induction l with
  | nil => rfl
  | cons x l ih =>
    unfold splitAll at ih ⊢
    rw [List.flatMap_cons, ih (fun y hy => hl y (by simp [hy])) (fun y hy => h y (by simp [hy])), nsets_eq hD (hl x (by simp)), h x (by simp)]
    rfl
theorem splitAll_step {D : List (Nat × Nat)} (hD : HasClo D) {l : List Nat} {i x : Nat} (hx : l[i]? = some x) (h64 : x < 64) (h : fsO D x = true) : splitAll D (l.take i ++ [fsA D x, fsB D x] ++ l.drop (i + 1)) = splitAll D l := by
  obtain ⟨hi, rfl⟩ := List.getElem?_eq_some_iff.1 hx
  have e : l = l.take i ++ [l[i]] ++ l.drop (i + 1) := by
    rw [List.append_assoc, List.singleton_append, ← List.drop_eq_getElem_cons hi, List.take_append_drop]
  conv => rhs; rw [e]
  unfold splitAll
  simp only [List.flatMap_append, List.flatMap_cons, List.flatMap_nil, List.append_nil]
  rw [nsets_eq hD h64, h]; rfl
theorem splitAll_len {D : List (Nat × Nat)} (l : List Nat) : l.length ≤ (splitAll D l).length := by
  induction l with
  | nil => exact Nat.zero_le _
  | cons x l ih =>
    unfold splitAll at ih ⊢
    rw [List.flatMap_cons, List.length_append, List.length_cons]
    have := (nsets_len D x).2
    omega

/-- Whether the i-th lies within one of the first t others (of those alike: one ahead of it). -/
def wthn (l : List Nat) (i x t : Nat) : Bool := (List.range t).any fun j => sb x (l.getD j 0) && (!decide (l.getD j 0 = x) || decide (j < i))
def outT (l : List Nat) (t : Nat) : List Nat := ((List.range t).filter fun i => !wthn l i (l.getD i 0) l.length).map fun i => l.getD i 0
def outm (l : List Nat) : List Nat := outT l l.length
theorem wthn_zero (l : List Nat) (i x : Nat) : wthn l i x 0 = false := rfl
theorem wthn_succ {l : List Nat} {i x t y : Nat} (h : l[t]? = some y) : wthn l i x (t + 1) = (wthn l i x t || (sb x y && (!decide (y = x) || decide (t < i)))) := by
  have e : l.getD t 0 = y := by simp [List.getD, h]
  unfold wthn
  rw [List.range_succ, List.any_append]
  simp only [List.any_cons, List.any_nil, Bool.or_false, e]
theorem wthn_mono {l : List Nat} {i x t n : Nat} (h : wthn l i x t = true) (hn : t ≤ n) : wthn l i x n = true := by
  unfold wthn at h ⊢
  rw [List.any_eq_true] at h ⊢
  obtain ⟨j, h1, h2⟩ := h
  exact ⟨j, List.mem_range.2 (by have := List.mem_range.1 h1; omega), h2⟩
theorem outT_zero (l : List Nat) : outT l 0 = [] := rfl
theorem outT_succ {l : List Nat} {t x : Nat} (h : l[t]? = some x) : outT l (t + 1) = if wthn l t x l.length then outT l t else outT l t ++ [x] := by
  have e : l.getD t 0 = x := by simp [List.getD, h]
  unfold outT
  rw [List.range_succ, List.filter_append, List.map_append]
  simp only [List.filter_cons, List.filter_nil, e]
  cases hw : wthn l t x l.length with
  | true => exact List.append_nil _
  | false =>
    show _ ++ [l.getD t 0] = _
    rw [e]; rfl
theorem outT_len (l : List Nat) (t : Nat) : (outT l t).length ≤ t := by
  unfold outT
  rw [List.length_map]
  exact Nat.le_trans (List.length_filter_le _ _) (by simp)
theorem outT_lt {l : List Nat} {t : Nat} (ht : t ≤ l.length) (h : ∀ x ∈ l, x < 64) : ∀ x ∈ outT l t, x < 64 := fun x hx => by
  unfold outT at hx
  obtain ⟨i, hi, rfl⟩ := List.mem_map.1 hx
  have hi' := List.mem_range.1 (List.mem_filter.1 hi).1
  refine h _ ?_
  simp [List.getD, show i < l.length by omega]

noncomputable def npM (xs : List Dep) (C : Int) : List Nat := outm (nsets (dms xs) (2 ^ C.toNat - 1))
noncomputable def npB (xs : List Dep) (C : Int) : Bool := goodDeps xs C && decide ((npM xs C).length ≤ 8)
noncomputable def npL (xs : List Dep) (C : Int) : List (List Int) := if npB xs C then (npM xs C).map bl else []
theorem npL_no {xs : List Dep} {C : Int} (h : npB xs C = false) : npL xs C = [] := by unfold npL; rw [h]; rfl

end Go.Proofs.YtpnaoahlfhbbmaaDoor

/- Contracts of the model's l8Within, l8Splits, l8Split. -/
namespace Go.Proofs.YtpnaoahlfhbbmaaDoor
open Go.RowKit

theorem filter_take {p : Int → Bool} {zs : List Int} {k : Nat} (h : k < zs.length) : (zs.take (k + 1)).filter p = if p (zs.getD k 0) then (zs.take k).filter p ++ [zs.getD k 0] else (zs.take k).filter p := by
  rw [List.take_succ_eq_append_getElem h, List.filter_append]
  have e : zs.getD k 0 = zs[k] := by simp [List.getD, h]
  rw [e]
  cases hp : p zs[k] <;> simp [hp]

set_option maxRecDepth 100000 in
set_option maxHeartbeats 2000000 in
theorem l8Within_any (a : Option Addr) (n c : Nat) (zs : List Int) (oa : Option Addr) (on oc : Nat) (os : List Int) (w : World) (hz : zs.length = n) (hn : n ≤ 64) (ha : At w a zs) (ho : os.length = on) (hon : on ≤ 9223372036854775807) (hoa : At w oa os) :
    Calls Tryd.prog 57 #[.slice a n c, .slice oa on oc] w fun e w' => ∃ r m d, e = .returned (.slice r m d) ∧ (zs.filter fun k => decide (k ∈ os)).length = m ∧ w'.ownsRow w.heap.size 3 1 (.slice r m d) m ((zs.filter fun k => decide (k ∈ os)).map (.int .i64)) ∧ Below w.heap.size w w' := by
  obtain ⟨i0, hi, hz0, hz1, hz2⟩ := info_parts Tryd.infoInt
  have HZ := Hid.mk hz
  have HA := Hid.mk ha
  have HO := Hid.mk ho
  have HOA := Hid.mk hoa
  clear hz ha ho hoa
  go_enter Tryd.func57, Tryd.ntmps57
  go_wp2_with fail
  go_loopw [5, 10] (fun p i wx => ∃ (k m : Nat) (r : Option Addr) (d : Nat), k ≤ n ∧ m ≤ k ∧ i = .int .i64 k ∧ p = .slice r m d ∧ ((zs.take k).filter fun k => decide (k ∈ os)).length = m ∧ wx.ownsRow w.heap.size 3 1 (.slice r m d) m (((zs.take k).filter fun k => decide (k ∈ os)).map (.int .i64)) ∧ Below w.heap.size w wx) (fun _ i _ => n - (intOf i).toNat)
  case atStart => exact ⟨0, 0, none, 0, Nat.zero_le _, Nat.le_refl _, rfl, rfl, rfl, World.ownsRow_nil _ _ _ _, Below.refl _ _⟩
  case round =>
    obtain ⟨k, m, r, d, hk, hmk, rfl, rfl, hm, hown, hbw⟩ := hrel
    by_cases hlt : k < n
    · obtain ⟨b, off, hab, hb, hc⟩ := (At.below HA.out hbw).some (by have := HZ.out; omega)
      subst hab
      have hcx : wr.cell? ⟨b, off + k, none⟩ = some (.int .i64 (zs.getD k 0)) := hc k (by have := HZ.out; omega)
      have hft := filter_take (p := fun k => decide (k ∈ os)) (zs := zs) (k := k) (by have := HZ.out; omega)
      obtain ⟨x, hx⟩ : ∃ x, x = zs.getD k 0 := ⟨_, rfl⟩
      rw [← hx] at hcx hft
      have HFT := Hid.mk hft
      have K := Hid.mk (l1Has_any oa on oc os x wr HO.out hon (At.below HOA.out hbw))
      have hki : (k : Int) < (n : Int) := by omega
      have HOW := Hid.mk hown
      have HB := Hid.mk hbw
      have HM := Hid.mk hm
      have z := hbw.size
      clear hown hbw hm hc hft hx
      go_wp2_with fail
      refine K.out.mono ?_
      rintro e w1 ⟨rfl, rfl⟩
      by_cases hs : x ∈ os
      · rw [decide_eq_true hs]
        have HE : Hid ((zs.take (k + 1)).filter (fun k => decide (k ∈ os)) = (zs.take k).filter (fun k => decide (k ∈ os)) ++ [x]) := by show _ = _; rw [HFT.out, decide_eq_true hs]; rfl
        clear hs
        go_wp2_with (at_builtin; refine wpList_append_lies _ rfl (.tmp 17) (.tmp 19) 23 rfl w.heap.size 3 i0 (.int .i64 0) 1 8 Tryd.underlying23 hi hz0 hz1 hz2 rfl (by decide) _ _ _ rfl (HOW.out.alloc _) ⟨w1.heap.size, 0, none⟩ 1 1 [.int .i64 x] rfl rfl (news_at w1 _ _) (by intro u hu; simp at hu; subst hu; rfl) (by decide) (by unfold maxLen; omega) (by omega) (by simp; omega) (w1.heap.size + 1) (by simp) ?_)
        intro g3 cap3 w3 ho3 hg3 hat3 hlt3
        have HB3 : Hid (Below w.heap.size w w3) := (HB.out.alloc z _).grown hg3 (by simp; omega) (fun j hj => (HOW.out.lt j hj).1)
        have HO3 : Hid (w3.ownsRow w.heap.size 3 1 (.slice (some ⟨g3, 0, none⟩) (m + 1) cap3) (m + 1) (((zs.take (k + 1)).filter fun k => decide (k ∈ os)).map (.int .i64))) := by
          show World.ownsRow _ _ _ _ _ _ _
          rw [HE.out, List.map_append]; exact ho3
        clear ho3 hg3 hat3 HOW HB K
        go_wp2
        go_roundw
        case rel => exact ⟨k + 1, m + 1, _, _, by omega, by omega, by go_num, rfl, by rw [HE.out, List.length_append, HM.out]; rfl, HO3.out, HB3.out⟩
        case measure => simp [intOf]; omega
      · rw [decide_eq_false hs]
        have HE : Hid ((zs.take (k + 1)).filter (fun k => decide (k ∈ os)) = (zs.take k).filter (fun k => decide (k ∈ os))) := by show _ = _; rw [HFT.out, decide_eq_false hs]; rfl
        clear hs
        go_wp2
        go_roundw
        case rel => exact ⟨k + 1, m, r, d, by omega, by omega, by go_num, rfl, by rw [HE.out]; exact HM.out, by rw [HE.out]; exact HOW.out, HB.out⟩
        case measure => simp [intOf]; omega
    · obtain rfl : k = n := by omega
      rw [List.take_of_length_le (by have := HZ.out; omega)] at hown hm
      have hkk : ¬ (k : Int) < (k : Int) := by omega
      have HOW := Hid.mk hown
      have HM := Hid.mk hm
      clear hown hm
      go_wp2
      go_ret
      exact ⟨r, m, d, rfl, HM.out, HOW.out, hbw⟩

/-- What F tells. -/
noncomputable abbrev told (xs : List Dep) (F : Nat) : Nat := clo (dms xs) F

set_option maxRecDepth 100000 in
set_option maxHeartbeats 2000000 in
theorem l8Splits_any (a : Option Addr) (n c : Nat) (xs : List Dep) (pa : Option Addr) (pn pc : Nat) (ps : List Int) (fa : Option Addr) (fn fc : Nat) (fs : List Int) (w : World) (hz : xs.length = n) (hn : n ≤ 1048576) (hs : Tolds xs) (ha : AtD w a xs)
    (hp : Told ps) (hpn : ps.length = pn) (hpa : At w pa ps) (hf : Told fs) (hfn : fs.length = fn) (hfa : At w fa fs) (hnil : fa = none → fc = 0) (hsb : sb (mk fs) (mk ps) = true) :
    Calls Tryd.prog 42 #[.slice a n c, .slice pa pn pc, .slice fa fn fc] w fun e w' => e = .returned (.bool (spOk (told xs (mk fs)) (mk ps) (mk fs))) ∧ IsClo (dms xs) (mk fs) (told xs (mk fs)) ∧ Below w.heap.size w w' := by
  have K := Hid.mk (l7Closure_any a n c xs fa fn fc fs w hz hn hs ha hf hfn hfa hnil)
  have hpl := hp.len
  have HP := Hid.mk hp
  have HF := Hid.mk hf
  have HPN := Hid.mk hpn
  have HFN := Hid.mk hfn
  have HPA := Hid.mk hpa
  have HSB := Hid.mk hsb
  have hpn6 : pn ≤ 6 := by omega
  clear hz hs ha hp hpn hpa hf hfn hfa hnil hsb hpl
  go_enter Tryd.func42, Tryd.ntmps42
  go_wp2_with fail
  refine K.out.mono ?_
  rintro e w1 ⟨T, r1, m1, d1, hT, rfl, hm1, ho1, hb1⟩
  have hm6 : m1 ≤ 6 := by rw [← hm1]; exact bl_len T
  have K2 := Hid.mk (l8Within_any r1 m1 d1 (bl T) pa pn pc ps w1 hm1 (by omega) (At.owned ho1) HPN.out (by omega) (At.below HPA.out hb1))
  have hwb := within_bl (T := T) (P := mk ps) hT.lt HP.out.lt
  rw [HP.out.is] at hwb
  rw [hwb] at K2
  have HSP : Hid (spOk (told xs (mk fs)) (mk ps) (mk fs) = (decide (fn < (bl (T &&& mk ps)).length) && decide ((bl (T &&& mk ps)).length < pn))) := by
    show _ = _
    have h9 := spOk_len (T := T) (P := mk ps) (F := mk fs) hT.lt HP.out.lt HF.out.lt HSB.out hT.has
    rw [HF.out.is, HP.out.is, HFN.out, HPN.out] at h9
    rw [show told xs (mk fs) = T from hT.clo_eq]; exact h9
  have HT : Hid (IsClo (dms xs) (mk fs) (told xs (mk fs))) := hT.is
  have HB1 := Hid.mk hb1
  clear hT hm1 ho1 hb1 hwb K
  go_wp2_with fail
  refine K2.out.mono ?_
  rintro e w2 ⟨r2, m2, d2, rfl, hm2, ho2, hb2⟩
  have HR : Hid (spOk (told xs (mk fs)) (mk ps) (mk fs) = (decide (fn < m2) && decide (m2 < pn))) := by show _ = _; rw [HSP.out, hm2]
  have HB2 := Hid.mk (HB1.out.trans (hb2.mono HB1.out.size))
  clear hm2 ho2 hb2 K2 HSP
  by_cases c1 : fn < m2
  · have c1' : (fn : Int) < (m2 : Int) := by omega
    by_cases c2 : m2 < pn
    · have c2' : (m2 : Int) < (pn : Int) := by omega
      go_wp2
      go_ret
      exact ⟨by rw [HR.out, decide_eq_true c1, decide_eq_true c2]; rfl, HT.out, HB2.out⟩
    · have c2' : ¬ (m2 : Int) < (pn : Int) := by omega
      go_wp2
      go_ret
      exact ⟨by rw [HR.out, decide_eq_false c2]; simp, HT.out, HB2.out⟩
  · have c1' : ¬ (fn : Int) < (m2 : Int) := by omega
    go_wp2
    go_ret
    exact ⟨by rw [HR.out, decide_eq_false c1]; rfl, HT.out, HB2.out⟩

end Go.Proofs.YtpnaoahlfhbbmaaDoor
