/- Several texts of one proof, in build order: PrtP, PrtG, NrmP, KeyS, TzI, KeyO, KeyL. -/
import Derived.Test.YtpnaoahlfhbbmaaDoorM7
import Derived.Test.YtpnaoahlfhbbmaaDoorM6
import Derived.Test.YtpnaoahlfhbbmaaDoorM4
import Derived.Lib.TrailingZeros
import Derived.Lib.LaidTab
import Derived.Maps.AppendAt

/- Plain: parts of columns, what splits them, and the sets within one in their order. -/
namespace Go.Proofs.YtpnaoahlfhbbmaaDoor
open Go.RowKit

/-- What of P is not in T. -/
def dif (P T : Nat) : Nat := P &&& (18446744073709551615 - T)
/-- Whether F, which tells T, splits P. -/
def spOk (T P F : Nat) : Bool := sb F P && (!sb P T && !decide (T &&& P = F))
/-- The sets within P, in their order. -/
def ordP (P : Nat) : List Nat := L64.filter fun x => sb x P

theorem not_bit {T i : Nat} (hT : T < 64) (hi : i < 64) : (18446744073709551615 - T).testBit i = !(T.testBit i) := by
  have := Nat.testBit_two_pow_sub_succ (x := T) (n := 64) (by omega) i
  rw [show (2 ^ 64 - (T + 1)) = 18446744073709551615 - T by omega] at this
  rw [this]; simp [hi]
theorem bit_lt {A i : Nat} (hA : A < 64) (h : A.testBit i = true) : i < 6 := by
  by_cases h6 : i < 6
  · exact h6
  · rw [Nat.testBit_lt_two_pow (Nat.lt_of_lt_of_le hA (by have : 2 ^ 6 ≤ 2 ^ i := Nat.pow_le_pow_right (by omega) (by omega); omega))] at h; cases h
theorem dif_bit {P T i : Nat} (hP : P < 64) (hT : T < 64) : (dif P T).testBit i = (P.testBit i && !(T.testBit i)) := by
  unfold dif
  rw [Nat.testBit_and]
  cases h : P.testBit i with
  | false => rfl
  | true => rw [not_bit hT (by have := bit_lt hP h; omega)]
theorem and_lt64 {a b : Nat} (h : a < 64) : a &&& b < 64 := Nat.lt_of_le_of_lt Nat.and_le_left h
theorem dif_lt {P T : Nat} (h : P < 64) : dif P T < 64 := and_lt64 h
theorem mem_blB {s : Nat} {i : Nat} (hs : s < 64) : ((i : Int) ∈ bl s) ↔ s.testBit i = true := by
  rw [mem_bl]
  constructor
  · rintro ⟨j, _, h, e⟩
    have : i = j := by omega
    rw [this]; exact h
  · intro h; exact ⟨i, bit_lt hs h, h, rfl⟩
theorem filter_sorted {l : List Int} (p : Int → Bool) (h : l.Pairwise (· < ·)) : (l.filter p).Pairwise (· < ·) := h.filter _
theorem bl_of_mem {l : List Int} {s : Nat} (hs : s < 64) (h : l.Pairwise (· < ·)) (hm : ∀ x, x ∈ l ↔ ∃ i : Nat, s.testBit i = true ∧ x = (i : Int)) : l = bl s := by
  refine srt_ext h (bl_sorted s) fun x => ?_
  rw [hm, mem_bl]
  constructor
  · rintro ⟨i, h1, h2⟩; exact ⟨i, bit_lt hs h1, h1, h2⟩
  · rintro ⟨i, _, h1, h2⟩; exact ⟨i, h1, h2⟩
theorem within_bl {T P : Nat} (hT : T < 64) (hP : P < 64) : (bl T).filter (fun k => decide (k ∈ bl P)) = bl (T &&& P) := by
  refine bl_of_mem (and_lt64 hT) (filter_sorted _ (bl_sorted T)) fun x => ?_
  rw [List.mem_filter, mem_bl]
  constructor
  · rintro ⟨⟨i, _, h1, rfl⟩, h2⟩
    rw [decide_eq_true_eq, mem_blB hP] at h2
    exact ⟨i, by rw [Nat.testBit_and, h1, h2]; rfl, rfl⟩
  · rintro ⟨i, h1, rfl⟩
    rw [Nat.testBit_and, Bool.and_eq_true] at h1
    exact ⟨⟨i, bit_lt hT h1.1, h1.1, rfl⟩, by rw [decide_eq_true_eq, mem_blB hP]; exact h1.2⟩
theorem without_bl {T F : Nat} (hT : T < 64) (hF : F < 64) : (bl T).filter (fun k => !decide (k ∈ bl F)) = bl (dif T F) := by
  refine bl_of_mem (dif_lt hT) (filter_sorted _ (bl_sorted T)) fun x => ?_
  rw [List.mem_filter, mem_bl]
  constructor
  · rintro ⟨⟨i, _, h1, rfl⟩, h2⟩
    refine ⟨i, ?_, rfl⟩
    rw [dif_bit hT hF, h1]
    cases h : F.testBit i with
    | false => rfl
    | true => rw [decide_eq_true ((mem_blB hF).2 h)] at h2; cases h2
  · rintro ⟨i, h1, rfl⟩
    rw [dif_bit hT hF, Bool.and_eq_true] at h1
    refine ⟨⟨i, bit_lt hT h1.1, h1.1, rfl⟩, ?_⟩
    rw [decide_eq_false (fun h => by rw [(mem_blB hF).1 h] at h1; cases h1.2)]; rfl
theorem rest_bl {T P F : Nat} (hT : T < 64) (hP : P < 64) (hF : F < 64) (h : sb F P = true) : (bl P).filter (fun k => decide (k ∈ bl F) || !decide (k ∈ bl T)) = bl (F ||| dif P T) := by
  refine bl_of_mem (or_lt64 hF (dif_lt hP)) (filter_sorted _ (bl_sorted P)) fun x => ?_
  rw [List.mem_filter, mem_bl]
  constructor
  · rintro ⟨⟨i, _, h1, rfl⟩, h2⟩
    refine ⟨i, ?_, rfl⟩
    rw [Nat.testBit_or, dif_bit hP hT, h1]
    cases hf : F.testBit i with
    | true => rfl
    | false =>
      rw [decide_eq_false (fun h => by rw [(mem_blB hF).1 h] at hf; cases hf)] at h2
      cases ht : T.testBit i with
      | false => rfl
      | true => rw [decide_eq_true ((mem_blB hT).2 ht)] at h2; cases h2
  · rintro ⟨i, h1, rfl⟩
    rw [Nat.testBit_or, dif_bit hP hT] at h1
    cases hf : F.testBit i with
    | true =>
      have := sb_bit h i hf
      exact ⟨⟨i, bit_lt hP this, this, rfl⟩, by rw [decide_eq_true ((mem_blB hF).2 hf)]; rfl⟩
    | false =>
      rw [hf, Bool.false_or, Bool.and_eq_true] at h1
      refine ⟨⟨i, bit_lt hP h1.1, h1.1, rfl⟩, ?_⟩
      rw [decide_eq_false (show ¬ ((i : Int) ∈ bl T) from fun h => by rw [(mem_blB hT).1 h] at h1; cases h1.2)]; simp
theorem and_sb_right {T P : Nat} : sb (T &&& P) P = true := sb_of_bits fun i h => by rw [Nat.testBit_and, Bool.and_eq_true] at h; exact h.2
theorem and_sb_left {T P : Nat} : sb (T &&& P) T = true := sb_of_bits fun i h => by rw [Nat.testBit_and, Bool.and_eq_true] at h; exact h.1
theorem sb_and {F T P : Nat} (h : sb F T = true) (k : sb F P = true) : sb F (T &&& P) = true := sb_of_bits fun i hi => by rw [Nat.testBit_and, sb_bit h i hi, sb_bit k i hi]; rfl
theorem len_le_all : ∀ A : Nat, A < 64 → ∀ B : Nat, B < 64 → sb A B = true → ((bl A).length ≤ (bl B).length ∧ ((bl A).length = (bl B).length → A = B)) := by decide +kernel
/-- A list splits a part, as the model asks it: by how many there are. -/
theorem spOk_len {T P F : Nat} (hT : T < 64) (hP : P < 64) (hF : F < 64) (h1 : sb F P = true) (h2 : sb F T = true) :
    spOk T P F = (decide ((bl F).length < (bl (T &&& P)).length) && decide ((bl (T &&& P)).length < (bl P).length)) := by
  have hA : T &&& P < 64 := and_lt64 hT
  obtain ⟨a1, a2⟩ := len_le_all F hF (T &&& P) hA (sb_and h2 h1)
  obtain ⟨b1, b2⟩ := len_le_all (T &&& P) hA P hP and_sb_right
  unfold spOk
  rw [h1, Bool.true_and, Bool.and_comm]
  congr 1
  · by_cases e : T &&& P = F
    · rw [decide_eq_true e, e]; simp
    · rw [decide_eq_false e, decide_eq_true (by have : ¬ (bl F).length = (bl (T &&& P)).length := fun h => e (a2 h).symm; omega)]; rfl
  · cases hs : sb P T with
    | true =>
      have : T &&& P = P := sb_antisymm and_sb_right (sb_and hs (sb_refl P))
      rw [this]; simp
    | false =>
      have : ¬ (bl (T &&& P)).length = (bl P).length := fun h => by
        have := b2 h
        have h3 : sb P T = true := by rw [← this]; exact and_sb_left
        rw [hs] at h3; cases h3
      rw [decide_eq_true (by omega)]; rfl
/-- All rising lists of a part's columns, as the model makes them. -/
def pickL (p : List Int) (s : List Int) : List Int := s.map fun k => p.getD k.toNat 0
def listsT (p : List Int) (t : Nat) : List (List Int) := (setsU p.length t).map (pickL p)
theorem lists_ord_all : ∀ P : Nat, P < 64 → listsT (bl P) ((bl P).length + 1) = (ordP P).map bl := by decide +kernel
theorem ordP_mem {P F : Nat} (h : F ∈ ordP P) : F < 64 ∧ sb F P = true := by
  obtain ⟨h1, h2⟩ := List.mem_filter.1 h
  refine ⟨?_, h2⟩
  have h3 : L64.all (fun x => decide (x < 64)) = true := by decide +kernel
  rw [List.all_eq_true] at h3
  simpa using h3 F h1
theorem ordP_len_all : ∀ P : Nat, P < 64 → (ordP P).length ≤ 64 := by decide +kernel

end Go.Proofs.YtpnaoahlfhbbmaaDoor

/- Contracts of goodPart, splitSet, and the model's l8Part. -/
namespace Go.Proofs.YtpnaoahlfhbbmaaDoor
open Go.RowKit

/-- Dependencies and a part of their columns. -/
def prtB (xs : List Dep) (C : Int) (ps : List Int) : Bool := goodDeps xs C && ris C ps

set_option maxHeartbeats 1000000 in
theorem goodPart_any (a : Option Addr) (n c : Nat) (xs : List Dep) (C : Int) (pa : Option Addr) (pn pc : Nat) (ps : List Int) (w : World) (hz : xs.length = n) (hn : n ≤ 9223372036854775807) (ha : AtD w a xs) (hp : ps.length = pn) (hpn : pn ≤ 9223372036854775807) (hpa : At w pa ps) :
    Calls Tryd.prog 27 #[.slice a n c, .int .i64 C, .slice pa pn pc] w fun e w' => e = .returned (.bool (prtB xs C ps)) ∧ Below w.heap.size w w' := by
  have K1 := Hid.mk (implGoodDepends a n c xs C w hz hn ha)
  have HP := Hid.mk hp
  have HPA := Hid.mk hpa
  clear hz ha hp hpa
  go_enter Tryd.func27, Tryd.ntmps27
  go_wp2_with fail
  refine K1.out.mono ?_
  rintro e w1 ⟨rfl, B1⟩
  cases hg : goodDeps xs C with
  | false =>
    go_wp2
    go_ret
    exact ⟨by unfold prtB; rw [hg]; rfl, B1⟩
  | true =>
    have K2 := Hid.mk (areRising_any pa pn pc ps C w1 HP.out hpn (At.below HPA.out B1))
    go_wp2_with fail
    refine K2.out.mono ?_
    rintro e w2 ⟨rfl, hb2⟩
    have B2 := B1.trans (hb2.mono B1.size)
    go_wp2
    go_ret
    exact ⟨by unfold prtB; rw [hg]; rfl, B2⟩

set_option maxHeartbeats 1000000 in
theorem l8Part_any (a : Option Addr) (n c : Nat) (xs : List Dep) (C : Int) (pa : Option Addr) (pn pc : Nat) (ps : List Int) (w : World) (hz : xs.length = n) (hn : n ≤ 9223372036854775807) (ha : AtD w a xs) (hp : ps.length = pn) (hpn : pn ≤ 9223372036854775807) (hpa : At w pa ps) :
    Calls Tryd.prog 24 #[.slice a n c, .int .i64 C, .slice pa pn pc] w fun e w' => e = .returned (.bool (prtB xs C ps)) ∧ Below w.heap.size w w' := by
  have K1 := Hid.mk (specGoodDepends a n c xs C w hz hn ha)
  have HP := Hid.mk hp
  have HPA := Hid.mk hpa
  clear hz ha hp hpa
  go_enter Tryd.func24, Tryd.ntmps24
  go_wp2_with fail
  refine K1.out.mono ?_
  rintro e w1 ⟨rfl, B1⟩
  cases hg : goodDeps xs C with
  | false =>
    go_wp2
    go_ret
    exact ⟨by unfold prtB; rw [hg]; rfl, B1⟩
  | true =>
    have K2 := Hid.mk (l1Some_any pa pn pc ps C w1 HP.out hpn (At.below HPA.out B1))
    go_wp2_with fail
    refine K2.out.mono ?_
    rintro e w2 ⟨rfl, hb2⟩
    have B2 := B1.trans (hb2.mono B1.size)
    go_wp2
    go_ret
    exact ⟨by unfold prtB; rw [hg]; rfl, B2⟩

def spA (T P F : Nat) : Nat := if spOk T P F then T &&& P else 0
def spB (T P F : Nat) : Nat := if spOk T P F then F ||| dif P T else 0
theorem spA_lt {T P F : Nat} (hT : T < 64) : spA T P F < 64 := by unfold spA; split; exact and_lt64 hT; omega
theorem spB_lt {T P F : Nat} (hP : P < 64) (hF : F < 64) : spB T P F < 64 := by unfold spB; split; exact or_lt64 hF (dif_lt hP); omega

set_option maxHeartbeats 2000000 in
theorem splitSet_any (a : Option Addr) (n c : Nat) (xs : List (Nat × Nat)) (P F : Nat) (w : World) (hz : xs.length = n) (hn : n ≤ 9223372036854775807) (hs : Sets xs) (hP : P < 64) (hF : F < 64) (ha : AtT w a xs) :
    Calls Tryd.prog 45 #[.slice a n c, .int .u64 (P : Nat), .int .u64 (F : Nat)] w fun e w' => ∃ T, IsClo xs F T ∧ e = .returned (.tuple #[.int .u64 (spA T P F : Nat), .int .u64 (spB T P F : Nat), .bool (spOk T P F)]) ∧ Below w.heap.size w w' := by
  have K := Hid.mk (closure_any a n c xs F w hz hn hs hF ha)
  clear hz hs ha
  go_enter Tryd.func45, Tryd.ntmps45
  go_wp2_with fail
  refine K.out.mono ?_
  rintro e w1 ⟨T, hT, rfl, B1⟩
  have hT64 := hT.lt
  have HT := Hid.mk hT
  clear hT K
  go_wp2_with fail
  refine (has_any P F w1 hP hF).mono ?_
  rintro e w2 ⟨rfl, rfl⟩
  cases h1 : sb F P with
  | false =>
    have HN : Hid (spOk T P F = false) := by show _ = _; unfold spOk; rw [h1]; rfl
    go_wp2
    exact bodyPost_ret (v := .tuple #[.int .u64 0, .int .u64 0, .bool false]) (by simp [results, Tryd.results45, go_sem]) rfl ⟨T, HT.out, by unfold spA spB; rw [HN.out]; rfl, B1⟩
  | true =>
    go_wp2_with fail
    refine (has_any T P _ hT64 hP).mono ?_
    rintro e w3 ⟨rfl, rfl⟩
    cases h2 : sb P T with
    | true =>
      have HN : Hid (spOk T P F = false) := by show _ = _; unfold spOk; rw [h1, h2]; rfl
      go_wp2
      exact bodyPost_ret (v := .tuple #[.int .u64 0, .int .u64 0, .bool false]) (by simp [results, Tryd.results45, go_sem]) rfl ⟨T, HT.out, by unfold spA spB; rw [HN.out]; rfl, B1⟩
    | false =>
      have e1 := u64_and_nat T P (by omega) (by omega)
      have e2 := u64_andNot_nat P T (by omega) (by omega)
      have hd64 : dif P T < 64 := dif_lt hP
      have e3 := u64_or_nat F (dif P T) (by omega) (by omega)
      by_cases h3 : T &&& P = F
      · have HN : Hid (spOk T P F = false) := by show _ = _; unfold spOk; rw [h3, decide_eq_true rfl]; simp
        rw [h3] at e1
        have hb : ((F : Int) == (F : Int)) = true := beq_self_eq_true _
        clear h3
        go_wp2
        exact bodyPost_ret (v := .tuple #[.int .u64 0, .int .u64 0, .bool false]) (by simp [results, Tryd.results45, go_sem]) rfl ⟨T, HT.out, by unfold spA spB; rw [HN.out]; rfl, B1⟩
      · have HN : Hid (spOk T P F = true) := by show _ = _; unfold spOk; rw [h1, h2, decide_eq_false h3]; rfl
        have HA : Hid (spA T P F = T &&& P) := by show _ = _; unfold spA; rw [HN.out]; rfl
        have HB : Hid (spB T P F = F ||| dif P T) := by show _ = _; unfold spB; rw [HN.out]; rfl
        change _ = ((dif P T : Nat) : Int) at e2
        obtain ⟨A, hA⟩ : ∃ A, T &&& P = A := ⟨_, rfl⟩
        obtain ⟨D, hD⟩ : ∃ D, dif P T = D := ⟨_, rfl⟩
        obtain ⟨E, hE⟩ : ∃ E, F ||| dif P T = E := ⟨_, rfl⟩
        rw [hE] at HB
        rw [hD] at e2 e3 hE
        rw [hE] at e3
        rw [hA] at e1 h3 HA
        have hb : ((A : Int) == (F : Int)) = false := beq_eq_false_iff_ne.2 (by omega)
        clear hA hD hE h3
        go_wp2
        exact bodyPost_ret (v := .tuple #[.int .u64 (A : Nat), .int .u64 (E : Nat), .bool true]) (by simp [results, Tryd.results45, go_sem]) rfl ⟨T, HT.out, by rw [HN.out, HA.out, HB.out], B1⟩

end Go.Proofs.YtpnaoahlfhbbmaaDoor

/- Plain: the first list that splits a part. -/
namespace Go.Proofs.YtpnaoahlfhbbmaaDoor
open Go.RowKit

noncomputable def spl (D : List (Nat × Nat)) (P F : Nat) : Bool := spOk (clo D F) P F
noncomputable def fsp (D : List (Nat × Nat)) (P : Nat) : Option Nat := (ordP P).find? (spl D P)
noncomputable def fsO (D : List (Nat × Nat)) (P : Nat) : Bool := (fsp D P).isSome
noncomputable def fsA (D : List (Nat × Nat)) (P : Nat) : Nat := match fsp D P with | none => 0 | some F => clo D F &&& P
noncomputable def fsB (D : List (Nat × Nat)) (P : Nat) : Nat := match fsp D P with | none => 0 | some F => F ||| dif P (clo D F)
theorem find_drop {l : List Nat} {p : Nat → Bool} {k x : Nat} (h : l[k]? = some x) : (l.drop k).find? p = if p x then some x else (l.drop (k + 1)).find? p := by
  obtain ⟨hk, rfl⟩ := List.getElem?_eq_some_iff.1 h
  rw [List.drop_eq_getElem_cons hk, List.find?_cons]
  cases p l[k] <;> rfl
theorem find_done {l : List Nat} {p : Nat → Bool} {k : Nat} (h : l.length ≤ k) : (l.drop k).find? p = none := by rw [List.drop_of_length_le h]; rfl
theorem mk_blP : ∀ s : Nat, s < 64 → mk (bl s) = s := by decide +kernel
theorem told_bl {s : Nat} (h : s < 64) : Told (bl s) := ⟨by rw [mk_blP s h], by rw [mk_blP s h]; exact h⟩
theorem fsp_some {D : List (Nat × Nat)} {P F : Nat} (h : fsp D P = some F) : F < 64 ∧ sb F P = true ∧ spl D P F = true := by
  have h1 := List.mem_of_find?_eq_some h
  have h2 := List.find?_some h
  exact ⟨(ordP_mem h1).1, (ordP_mem h1).2, h2⟩
theorem lists_ord {ps : List Int} (h : Told ps) {pn : Nat} (hn : ps.length = pn) : listsT ps (pn + 1) = (ordP (mk ps)).map bl := by
  have := lists_ord_all (mk ps) h.lt
  rw [h.is, hn] at this
  exact this

end Go.Proofs.YtpnaoahlfhbbmaaDoor

/- Contracts of the model's l7Keys and KeysOf. -/
namespace Go.Proofs.YtpnaoahlfhbbmaaDoor
open Go.RowKit

/-- Lists of columns, and whether. -/
def KeysRet (e : Ending) (w' : World) (lo : Nat) (ok : Bool) (zss : List (List Int)) : Prop := ∃ r m d, e = .returned (.tuple #[.slice r m d, .bool ok]) ∧ RPairs.Own w' (From lo w'.heap.size) [.slice r m d] zss
theorem keysRet_none (w : World) (lo : Nat) {ok : Bool} {ds : List (List Int)} (h1 : ok = false) (h2 : ds = []) : KeysRet (.returned (.tuple #[.slice none 0 0, .bool false])) w lo ok ds := by
  subst h1 h2
  exact ⟨none, 0, 0, rfl, none, 0, 0, [], _, rfl, Laid.none _ _ _ _⟩
noncomputable def keyL (xs : List Dep) (C : Int) : List (List Int) := if goodDeps xs C then keysL (dms xs) C.toNat else []
theorem keyL_no {xs : List Dep} {C : Int} (h : goodDeps xs C = false) : keyL xs C = [] := by unfold keyL; rw [h]; rfl

end Go.Proofs.YtpnaoahlfhbbmaaDoor

/- Contracts of math/bits.TrailingZeros at sets of columns, and of columnSet.list. -/
namespace Go.Proofs.YtpnaoahlfhbbmaaDoor
open Go.RowKit

theorem TabIs.below {P : Program} {w w' : World} {name : String} {k : IntKind} {ns : List Int} (h : Lib.TabIs P w name k ns) (hb : Below w.heap.size w w') : Lib.TabIs P w' name k ns := by
  unfold Lib.TabIs World.var? at *
  cases hg : P.globalNamed name with
  | none => rw [hg] at h; cases h
  | some g =>
    rw [hg] at h
    simp only [Option.bind_some] at h ⊢
    have hlt : g < w.heap.size := by
      by_cases hl : g < w.heap.size
      · exact hl
      · rw [Array.getElem?_eq_none (by omega)] at h
        cases h
    rw [hb.block g hlt]
    exact h

/-- The table that TrailingZeros reads. -/
def deB : List Int := Lib.deBruijn64tab.map Int.ofNat
abbrev TabB (w : World) : Prop := Lib.TabIs Tryd.prog w "math/bits.deBruijn64tab" .u8 deB
theorem gTab : Tryd.prog.globalNamed "math/bits.deBruijn64tab" = some 1 := by kernel_rfl

/-- The first column of a set. -/
def tz (x : Nat) : Nat := ((List.range 6).find? (fun i => x.testBit i)).getD 0
def tzAt (x : Nat) : Nat := (x &&& (18446744073709551616 - x)) * 285870213051353865 % 18446744073709551616 / 288230376151711744
theorem tz_key : ∀ x : Nat, x < 64 → x ≠ 0 → tzAt x < 64 ∧ Lib.deBruijn64tab.getD (tzAt x) 0 = tz x ∧ tz x < 6 := by decide +kernel
theorem bl_step : ∀ x : Nat, x < 64 → x ≠ 0 → bl x = (tz x : Int) :: bl (x &&& (x - 1)) ∧ (x &&& (x - 1)) < x := by decide +kernel
theorem bl_zero : bl 0 = [] := by decide +kernel
theorem deB_at : ∀ i : Nat, i < 64 → deB.getD i 0 = (Lib.deBruijn64tab.getD i 0 : Nat) := by decide +kernel

theorem tz_wrap {x : Nat} (hx : x < 64) (h0 : x ≠ 0) :
    IntKind.u64.wrap (bits BinOp.and IntKind.u64 (x : Int) (IntKind.u64.wrap (-(x : Int))) * 285870213051353865) / 288230376151711744 = (tzAt x : Int) := by
  have e0 : ∀ n : Int, IntKind.u64.wrap n = n % 18446744073709551616 := fun n => by simp [IntKind.wrap, IntKind.bits, IntKind.signed]
  have e1 : IntKind.u64.wrap (-(x : Int)) = ((18446744073709551616 - x : Nat) : Int) := by rw [e0]; omega
  rw [e1, u64_and_nat x _ (by omega) (by omega), e0]
  unfold tzAt
  omega

set_option maxHeartbeats 1000000 in
theorem tz64_any (x : Nat) (w : World) (hx : x < 64) (h0 : x ≠ 0) (ht : TabB w) :
    Calls Tryd.prog 71 #[.int .u64 (x : Nat)] w fun e w' => e = .returned (.int .i64 (tz x : Nat)) ∧ w' = w := by
  obtain ⟨k1, k2, k3⟩ := tz_key x hx h0
  have key := tz_wrap hx h0
  have hc := Lib.TabIs.cell ht gTab (tzAt x) (by show tzAt x < 64; exact k1)
  rw [deB_at _ k1, k2] at hc
  have hb : ((x : Int) == 0) = false := beq_eq_false_iff_ne.2 (by omega)
  obtain ⟨I, hI⟩ : ∃ I, tzAt x = I := ⟨_, rfl⟩
  obtain ⟨Z, hZ⟩ : ∃ Z, tz x = Z := ⟨_, rfl⟩
  rw [hI] at key hc k1
  rw [hZ] at hc k3 ⊢
  clear ht k2 hI hZ
  go_enter Tryd.func71, Tryd.ntmps71
  go_wp2_with (simp only [key])
  go_ret
  exact ⟨rfl, rfl⟩

theorem tz_any (x : Nat) (w : World) (hx : x < 64) (h0 : x ≠ 0) (ht : TabB w) :
    Calls Tryd.prog 60 #[.int .u64 (x : Nat)] w fun e w' => e = .returned (.int .i64 (tz x : Nat)) ∧ w' = w := by
  have K := Hid.mk (tz64_any x w hx h0 ht)
  clear ht
  go_enter Tryd.func60, Tryd.ntmps60
  go_wp2_with fail
  refine K.out.mono ?_
  rintro e w1 ⟨rfl, rfl⟩
  go_wp2
  go_ret
  exact ⟨rfl, rfl⟩

set_option maxRecDepth 100000 in
set_option maxHeartbeats 2000000 in
theorem list_any (S : Nat) (w : World) (hS : S < 64) (ht : TabB w) :
    Calls Tryd.prog 46 #[.int .u64 (S : Nat)] w fun e w' => ∃ r m d, e = .returned (.slice r m d) ∧ (bl S).length = m ∧ w'.ownsRow w.heap.size 3 1 (.slice r m d) m ((bl S).map (.int .i64)) ∧ Below w.heap.size w w' := by
  obtain ⟨i0, hi, hz0, hz1, hz2⟩ := info_parts Tryd.infoInt
  have HT := Hid.mk ht
  clear ht
  go_enter Tryd.func46, Tryd.ntmps46
  go_wp2
  go_loopg [0, 3] S (fun g p q wr => ∃ (s : Nat) (zs : List Int) (r : Option Addr) (m d : Nat), s = g ∧ s < 64 ∧ p = .int .u64 (s : Nat) ∧ q = .slice r m d ∧ bl S = zs ++ bl s ∧ zs.length = m ∧ wr.ownsRow w.heap.size 3 1 (.slice r m d) m (zs.map (.int .i64)) ∧ Below w.heap.size w wr)
  case atStart => exact ⟨S, [], none, 0, 0, rfl, hS, rfl, rfl, rfl, rfl, World.ownsRow_nil _ _ _ _, Below.refl _ _⟩
  case round =>
    obtain ⟨s, zs, r, m, d, rfl, hs, rfl, rfl, hbl, hm, hown, hbw⟩ := hrel
    by_cases h0 : s = 0
    · have HB : Hid (bl S = zs) := by show _ = _; rw [hbl, h0, bl_zero, List.append_nil]
      have hsb : ((s : Int) != 0) = false := by rw [h0]; rfl
      have HO := Hid.mk hown
      have HM := Hid.mk hm
      clear hbl hown hm
      go_wp2
      go_ret
      exact ⟨r, m, d, rfl, by rw [HB.out]; exact HM.out, by rw [HB.out]; exact HO.out, hbw⟩
    · obtain ⟨b1, b2⟩ := bl_step s hs h0
      have hm6 : m ≤ 6 := by have h9 := bl_len S; rw [hbl, List.length_append] at h9; omega
      rw [b1] at hbl
      have hsb : ((s : Int) != 0) = true := bne_iff_ne.2 (by omega)
      have hsub : IntKind.u64.wrap ((s : Int) - 1) = ((s - 1 : Nat) : Int) := by
        rw [show (s : Int) - 1 = ((s - 1 : Nat) : Int) by omega]; exact wrap64_small (by omega)
      have hand := u64_and_nat s (s - 1) (by omega) (by omega)
      have K := Hid.mk (tz_any s wr hs h0 (TabIs.below HT.out hbw))
      obtain ⟨Z, hZ⟩ : ∃ Z, tz s = Z := ⟨_, rfl⟩
      obtain ⟨Q, hQ⟩ : ∃ Q, s &&& (s - 1) = Q := ⟨_, rfl⟩
      rw [hZ] at hbl K
      rw [hQ] at hbl hand b2
      have HBL := Hid.mk hbl
      have HM := Hid.mk hm
      have HO := Hid.mk hown
      have HB := Hid.mk hbw
      have z := hbw.size
      clear hbl hm hown hbw hZ hQ b1 h0
      go_wp2_with fail
      refine K.out.mono ?_
      rintro e w1 ⟨rfl, rfl⟩
      go_wp2_with (at_builtin; refine wpList_append_lies _ rfl (.tmp 6) (.tmp 9) 23 rfl w.heap.size 3 i0 (.int .i64 0) 1 8 Tryd.underlying23 hi hz0 hz1 hz2 rfl (by decide) _ _ _ rfl (HO.out.alloc _) ⟨w1.heap.size, 0, none⟩ 1 1 [.int .i64 (Z : Nat)] rfl rfl (news_at w1 _ _) (by intro u hu; simp at hu; subst hu; rfl) (by decide) (by unfold maxLen; omega) (by omega) (by simp; omega) (w1.heap.size + 1) (by simp) ?_)
      intro g3 cap3 w3 ho3 hg3 hat3 hlt3
      have HB3 : Hid (Below w.heap.size w w3) := (HB.out.alloc z _).grown hg3 (by simp; omega) (fun j hj => (HO.out.lt j hj).1)
      have HO3 : Hid (w3.ownsRow w.heap.size 3 1 (.slice (some ⟨g3, 0, none⟩) (m + 1) cap3) (m + 1) ((zs ++ [(Z : Int)]).map (.int .i64))) := by
        show World.ownsRow _ _ _ _ _ _ _
        rw [List.map_append]; exact ho3
      clear ho3 hg3 hat3 HO HB K
      go_wp2
      go_roundg Q
      case measure => omega
      case rel => exact ⟨Q, zs ++ [(Z : Int)], some ⟨g3, 0, none⟩, m + 1, cap3, rfl, by omega, rfl, rfl, by rw [HBL.out]; simp, by have := HM.out; simp; omega, HO3.out, HB3.out⟩

end Go.Proofs.YtpnaoahlfhbbmaaDoor

/- Contracts of math/bits.OnesCount, cmp.Compare, cmp.Or at sets of columns. -/
namespace Go.Proofs.YtpnaoahlfhbbmaaDoor
open Go.RowKit

/-- How many columns. -/
def pc (x : Nat) : Nat := (bl x).length

set_option maxRecDepth 100000 in
set_option maxHeartbeats 2000000 in
theorem ones64_any (x : Nat) (w : World) (hx : x < 64) :
    Calls Tryd.prog 76 #[.int .u64 (x : Nat)] w fun e w' => e = .returned (.int .i64 (pc x : Nat)) ∧ w' = w := by
  go_enter Tryd.func76, Tryd.ntmps76
  go_wp2
  go_ret
  refine ⟨ret_int ?_, rfl⟩
  clear w
  revert x
  decide +kernel

theorem ones_any (x : Nat) (w : World) (hx : x < 64) :
    Calls Tryd.prog 65 #[.int .u64 (x : Nat)] w fun e w' => e = .returned (.int .i64 (pc x : Nat)) ∧ w' = w := by
  have K := Hid.mk (ones64_any x w hx)
  go_enter Tryd.func65, Tryd.ntmps65
  go_wp2_with fail
  refine K.out.mono ?_
  rintro e w1 ⟨rfl, rfl⟩
  go_wp2
  go_ret
  exact ⟨rfl, rfl⟩

/-- -1, 0 or 1. -/
def sgnI (a b : Int) : Int := if a < b then -1 else if b < a then 1 else 0
theorem cmpI_any (a b : Int) (w : World) : Calls Tryd.prog 64 #[.int .i64 a, .int .i64 b] w fun e w' => e = .returned (.int .i64 (sgnI a b)) ∧ w' = w := by
  have N : ∀ (z : Int) (w : World), Calls Tryd.prog 74 #[.int .i64 z] w fun e w' => e = .returned (.bool false) ∧ w' = w := fun z w => by
    go_enter Tryd.func74, Tryd.ntmps74
    go_wp2
    go_ret
    exact ⟨by simp, rfl⟩
  have HN := Hid.mk N
  clear N
  rcases Int.lt_trichotomy a b with h | h | h
  · have HS : Hid (sgnI a b = -1) := by show _ = _; unfold sgnI; rw [if_pos h]
    go_enter Tryd.func64, Tryd.ntmps64
    go_wp2_with fail
    refine (HN.out a w).mono ?_
    rintro e w1 ⟨rfl, rfl⟩
    go_wp2_with fail
    refine (HN.out b _).mono ?_
    rintro e w1 ⟨rfl, rfl⟩
    go_wp2
    go_ret
    exact ⟨ret_int HS.out.symm, rfl⟩
  · subst h
    have HS : Hid (sgnI a a = 0) := by show _ = _; unfold sgnI; simp
    go_enter Tryd.func64, Tryd.ntmps64
    go_wp2_with fail
    refine (HN.out a w).mono ?_
    rintro e w1 ⟨rfl, rfl⟩
    go_wp2_with fail
    refine (HN.out a _).mono ?_
    rintro e w1 ⟨rfl, rfl⟩
    go_wp2
    go_ret
    exact ⟨ret_int HS.out.symm, rfl⟩
  · have h' : ¬ a < b := by omega
    have HS : Hid (sgnI a b = 1) := by show _ = _; unfold sgnI; rw [if_neg h', if_pos h]
    go_enter Tryd.func64, Tryd.ntmps64
    go_wp2_with fail
    refine (HN.out a w).mono ?_
    rintro e w1 ⟨rfl, rfl⟩
    go_wp2_with fail
    refine (HN.out b _).mono ?_
    rintro e w1 ⟨rfl, rfl⟩
    go_wp2
    go_ret
    exact ⟨ret_int HS.out.symm, rfl⟩

/-- The first of two that is not 0. -/
theorem or2_any (b : Nat) (x y : Int) (w : World) (c0 : w.cell? ⟨b, 0, none⟩ = some (.int .i64 x)) (c1 : w.cell? ⟨b, 1, none⟩ = some (.int .i64 y)) :
    Calls Tryd.prog 63 #[.slice (some ⟨b, 0, none⟩) 2 2] w fun e w' => e = .returned (.int .i64 (if x = 0 then y else x)) ∧ w' = w := by
  by_cases hx : x = 0
  · subst hx
    rw [if_pos rfl]
    by_cases hy : y = 0
    · subst hy
      go_enter Tryd.func63, Tryd.ntmps63
      go_wp2
      refine wp_loop_rounds 3 ?_
      rw [rounds_succ]
      go_wp2
      rw [rounds_succ]
      go_wp2
      rw [rounds_succ]
      go_wp2
      go_ret
      exact ⟨rfl, rfl⟩
    · have hb : (y == 0) = false := beq_eq_false_iff_ne.2 hy
      go_enter Tryd.func63, Tryd.ntmps63
      go_wp2
      refine wp_loop_rounds 3 ?_
      rw [rounds_succ]
      go_wp2
      rw [rounds_succ]
      go_wp2
      go_ret
      exact ⟨rfl, rfl⟩
  · rw [if_neg hx]
    have hb : (x == 0) = false := beq_eq_false_iff_ne.2 hx
    go_enter Tryd.func63, Tryd.ntmps63
    go_wp2
    refine wp_loop_rounds 3 ?_
    rw [rounds_succ]
    go_wp2
    go_ret
    exact ⟨rfl, rfl⟩

end Go.Proofs.YtpnaoahlfhbbmaaDoor

/- columnSet.list and slices.Compare once more: they only draw onwards. -/
namespace Go.Proofs.YtpnaoahlfhbbmaaDoor
open Go.RowKit

theorem append_drawn {P : Program} (w : World) (base : Nat) (t ty e : TypeId) (i : TypeInfo) (z : Value) (size bytes : Nat) (ht : P.underlying t = some (.slice e)) (hi : P.info? e = some i) (hz : i.zero = some z) (hsize : i.size = size) (hby : i.bytes = bytes)
    (v : Value) (n : Nat) (xs : List Value) (hown : w.ownsRow base e size v n xs) (a : Addr) (m c : Nat) (news : List Value) (hl : news.length = m * size) (hnews : ∀ j u, news[j]? = some u → w.cell? (a.add j) = some u) (h1 : ∀ u ∈ news, u.oneCell' = true)
    (hm : 0 < m) (h63 : n + m ≤ maxLen) (hbytes : (n + m) * bytes ≤ 140737488355328) {v' : Value} {w' : World} (hr : (Builtin.append_ #[t, t] ty #[v, .slice (some a) m c]).run P w = .ok v' w') : w.drawn ≤ w'.drawn := by
  subst hsize hby
  have hs : n + m ≤ 9223372036854775807 := by simp only [maxLen] at h63; omega
  rcases hown.2 with ⟨rfl, rfl⟩ | ⟨g, cap, cur, rfl, hbg, hg, hnc, hcm, hcs, htake⟩
  · have h9 := run_append_nil (P := P) w t ty e i z ht hi hz a m c news hl hnews (by omega) (by omega) (by have hb := hbytes; simp only [Nat.zero_add] at hb; omega)
    rw [h9] at hr
    cases hr
    simp
  · by_cases hroom : n + m ≤ cap
    · have hfit : n * i.size + news.length ≤ cur.size := by rw [hl, hcs, ← Nat.add_mul]; exact Nat.mul_le_mul_right _ hroom
      have h9 := run_append_room (P := P) w t ty e i ht hi g n cap cur hg a m c news hl hnews h1 hroom hfit
      rw [h9] at hr
      cases hr
      simp
    · have h9 := run_append_grow (P := P) w t ty e i z ht hi hz ⟨g, 0, none⟩ n cap xs hown.1 (hown.cells (g := g) rfl) a m c news hl hnews (by omega) (by omega) (growslice_fits (by omega) hbytes)
      rw [h9] at hr
      cases hr
      simp

theorem wpList_app_drawn {P : Program} {w : World} {ops : Array Oper} {rest : List Oper} {o : Oper} {a : Act} {Q : Exit → Act → World → Prop} (hgd : o.guard = none) (s x : Operand) (t : TypeId)
    (ho : o.op = .call { callee := .builtin .append, args := #[s, x], argTypes := #[t, t] })
    (base : Nat) (e : TypeId) (i : TypeInfo) (z : Value) (size bytes : Nat) (ht : P.underlying t = some (.slice e)) (hi : P.info? e = some i) (hz : i.zero = some z)
    (hsize : i.size = size) (hby : i.bytes = bytes) (hzs : z.cells.size = size) (hsz : 0 < size)
    (v : Value) (n : Nat) (xs : List Value) (hs : a.eval s = v) (hown : w.ownsRow base e size v n xs)
    (ad : Addr) (m c : Nat) (news : List Value) (hx : a.eval x = .slice (some ad) m c) (hl : news.length = m * size) (hat : ∀ (j : Nat) (u : Value), news[j]? = some u → w.cell? (ad.add j) = some u) (h1 : ∀ u ∈ news, u.oneCell' = true) (hm : 0 < m)
    (h63 : n + m ≤ maxLen) (hbytes : (n + m) * bytes ≤ 140737488355328) (hbase : base ≤ w.heap.size)
    (h : ∀ r cap w', w'.ownsRow base e size (.slice r (n + m) cap) (n + m) (xs ++ news) → w.grownBy w' v.ownBlock → w.drawn ≤ w'.drawn → wpList P ops Q rest (a.put o.dst (.slice r (n + m) cap)) w') :
    wpList P ops Q (o :: rest) a w :=
  wpList_plain hgd fun K hK => by
    obtain ⟨v', w', hr, h2, h3, _, h5⟩ := run_append_own_at (P := P) w base t o.type e i z size bytes ht hi hz hsize hby hzs hsz v n xs hown ad m c news hl hat h1 h63 hbytes hbase
    have h6 := append_drawn w base t o.type e i z size bytes ht hi hz hsize hby v n xs hown ad m c news hl hat h1 hm h63 hbytes hr
    obtain ⟨r, cap, rfl⟩ := owns_slice h2
    unfold Oper.wp execOp
    simp only [ho, resolve, invoke, builtin, Sem.run_bind, Sem.run_pure, Result.andThen_ok, List.map_toArray, List.map_cons, List.map_nil, hs, hx, hr]
    exact hK _ _ (h r cap w' h2 h3 h6)

set_option maxRecDepth 100000 in
set_option maxHeartbeats 2000000 in
theorem list_drawn (S : Nat) (w : World) (hS : S < 64) (ht : TabB w) :
    Calls Tryd.prog 46 #[.int .u64 (S : Nat)] w fun e w' => ∃ r m d, e = .returned (.slice r m d) ∧ (bl S).length = m ∧ w'.ownsRow w.heap.size 3 1 (.slice r m d) m ((bl S).map (.int .i64)) ∧ Below w.heap.size w w' ∧ w.drawn ≤ w'.drawn := by
  obtain ⟨i0, hi, hz0, hz1, hz2⟩ := info_parts Tryd.infoInt
  have HT := Hid.mk ht
  clear ht
  go_enter Tryd.func46, Tryd.ntmps46
  go_wp2
  go_loopg [0, 3] S (fun g p q wr => ∃ (s : Nat) (zs : List Int) (r : Option Addr) (m d : Nat), s = g ∧ s < 64 ∧ p = .int .u64 (s : Nat) ∧ q = .slice r m d ∧ bl S = zs ++ bl s ∧ zs.length = m ∧ wr.ownsRow w.heap.size 3 1 (.slice r m d) m (zs.map (.int .i64)) ∧ Below w.heap.size w wr ∧ Hid (w.drawn ≤ wr.drawn))
  case atStart => exact ⟨S, [], none, 0, 0, rfl, hS, rfl, rfl, rfl, rfl, World.ownsRow_nil _ _ _ _, Below.refl _ _, Hid.mk (Nat.le_refl _)⟩
  case round =>
    obtain ⟨s, zs, r, m, d, rfl, hs, rfl, rfl, hbl, hm, hown, hbw, hdr⟩ := hrel
    by_cases h0 : s = 0
    · have HB : Hid (bl S = zs) := by show _ = _; rw [hbl, h0, bl_zero, List.append_nil]
      have hsb : ((s : Int) != 0) = false := by rw [h0]; rfl
      have HO := Hid.mk hown
      have HM := Hid.mk hm
      clear hbl hown hm
      go_wp2
      go_ret
      exact ⟨r, m, d, rfl, by rw [HB.out]; exact HM.out, by rw [HB.out]; exact HO.out, hbw, hdr.out⟩
    · obtain ⟨b1, b2⟩ := bl_step s hs h0
      have hm6 : m ≤ 6 := by have h9 := bl_len S; rw [hbl, List.length_append] at h9; omega
      rw [b1] at hbl
      have hsb : ((s : Int) != 0) = true := bne_iff_ne.2 (by omega)
      have hsub : IntKind.u64.wrap ((s : Int) - 1) = ((s - 1 : Nat) : Int) := by
        rw [show (s : Int) - 1 = ((s - 1 : Nat) : Int) by omega]; exact wrap64_small (by omega)
      have hand := u64_and_nat s (s - 1) (by omega) (by omega)
      have K := Hid.mk (tz_any s wr hs h0 (TabIs.below HT.out hbw))
      obtain ⟨Z, hZ⟩ : ∃ Z, tz s = Z := ⟨_, rfl⟩
      obtain ⟨Q, hQ⟩ : ∃ Q, s &&& (s - 1) = Q := ⟨_, rfl⟩
      rw [hZ] at hbl K
      rw [hQ] at hbl hand b2
      have HBL := Hid.mk hbl
      have HM := Hid.mk hm
      have HO := Hid.mk hown
      have HB := Hid.mk hbw
      have z := hbw.size
      clear hbl hm hown hbw hZ hQ b1 h0
      go_wp2_with fail
      refine K.out.mono ?_
      rintro e w1 ⟨rfl, rfl⟩
      go_wp2_with (at_builtin; refine wpList_app_drawn rfl (.tmp 6) (.tmp 9) 23 rfl w.heap.size 3 i0 (.int .i64 0) 1 8 Tryd.underlying23 hi hz0 hz1 hz2 rfl (by decide) _ _ _ rfl (HO.out.alloc _) ⟨w1.heap.size, 0, none⟩ 1 1 [.int .i64 (Z : Nat)] rfl rfl (news_at w1 _ _) (by intro u hu; simp at hu; subst hu; rfl) (by decide) (by unfold maxLen; omega) (by omega) (by simp; omega) ?_)
      intro r3 cap3 w3 ho3 hg3 hd3
      have HB3 : Hid (Below w.heap.size w w3) := (HB.out.alloc z _).grown hg3 (by simp; omega) (fun j hj => (HO.out.lt j hj).1)
      have HO3 : Hid (w3.ownsRow w.heap.size 3 1 (.slice r3 (m + 1) cap3) (m + 1) ((zs ++ [(Z : Int)]).map (.int .i64))) := by
        show World.ownsRow _ _ _ _ _ _ _
        rw [List.map_append]; exact ho3
      have HD3 : Hid (w.drawn ≤ w3.drawn) := Hid.mk (Nat.le_trans hdr.out (by simpa using hd3))
      clear ho3 hg3 hd3 hdr HO HB K
      go_wp2
      go_roundg Q
      case measure => omega
      case rel => exact ⟨Q, zs ++ [(Z : Int)], r3, m + 1, cap3, rfl, by omega, rfl, rfl, by rw [HBL.out]; simp, by have := HM.out; simp; omega, HO3.out, HB3.out, HD3⟩

/-- The first number that is unlike, or the shorter first. -/
def lexI : List Int → List Int → Int
  | [], [] => 0
  | [], _ :: _ => -1
  | _ :: _, [] => 1
  | x :: xs, y :: ys => if sgnI x y = 0 then lexI xs ys else sgnI x y

set_option maxRecDepth 100000 in
set_option maxHeartbeats 2000000 in
theorem lexI_any (a : Option Addr) (n c : Nat) (zs : List Int) (a' : Option Addr) (n' c' : Nat) (ys : List Int) (w : World) (hz : zs.length = n) (hn : n ≤ 64) (ha : At w a zs) (hz' : ys.length = n') (hn' : n' ≤ 64) (ha' : At w a' ys) :
    Calls Tryd.prog 66 #[.slice a n c, .slice a' n' c'] w fun e w' => e = .returned (.int .i64 (lexI zs ys)) ∧ w' = w := by
  have HA := Hid.mk (And.intro ha ha')
  have HZ := Hid.mk (And.intro hz hz')
  clear ha ha' hz hz'
  go_enter Tryd.func66, Tryd.ntmps66
  go_wp2_with fail
  go_loopw [11] (fun i wr => ∃ k : Nat, k ≤ n ∧ k ≤ n' ∧ i = .int .i64 k ∧ lexI zs ys = lexI (zs.drop k) (ys.drop k) ∧ wr = w) (fun i _ => n - (intOf i).toNat)
  case atStart => exact ⟨0, Nat.zero_le _, Nat.zero_le _, rfl, rfl, rfl⟩
  case round =>
    obtain ⟨k, hk, hk', rfl, hlex, rfl⟩ := hrel
    by_cases hlt : k < n
    · have hki : (k : Int) < (n : Int) := by omega
      obtain ⟨b, off, hab, _, hc⟩ := HA.out.1.some (by have := HZ.out.1; omega)
      subst hab
      have hcx := hc k (by have := HZ.out.1; omega)
      have hdx : zs.drop k = zs.getD k 0 :: zs.drop (k + 1) := by rw [List.drop_eq_getElem_cons (by have := HZ.out.1; omega)]; simp [List.getD, show k < zs.length by have := HZ.out.1; omega]
      obtain ⟨x, hx⟩ : ∃ x, x = zs.getD k 0 := ⟨_, rfl⟩
      rw [← hx] at hcx hdx
      rw [hdx] at hlex
      by_cases hge : n' ≤ k
      · have hgi : (n' : Int) ≤ (k : Int) := by omega
        rw [show ys.drop k = [] from List.drop_of_length_le (by have := HZ.out.2; omega)] at hlex
        have HL : Hid (lexI zs ys = 1) := hlex
        clear hlex hdx hc hx
        go_wp2
        go_ret
        exact ⟨ret_int HL.out.symm, rfl⟩
      · have hgi : ¬ (n' : Int) ≤ (k : Int) := by omega
        have hki' : (k : Int) < (n' : Int) := by omega
        obtain ⟨b', off', hab', _, hc'⟩ := HA.out.2.some (by have := HZ.out.2; omega)
        subst hab'
        have hcy := hc' k (by have := HZ.out.2; omega)
        have hdy : ys.drop k = ys.getD k 0 :: ys.drop (k + 1) := by rw [List.drop_eq_getElem_cons (by have := HZ.out.2; omega)]; simp [List.getD, show k < ys.length by have := HZ.out.2; omega]
        obtain ⟨y, hy⟩ : ∃ y, y = ys.getD k 0 := ⟨_, rfl⟩
        rw [← hy] at hcy hdy
        rw [hdy] at hlex
        have HC := Hid.mk (cmpI_any x y wr)
        have hl2 : lexI zs ys = if sgnI x y = 0 then lexI (zs.drop (k + 1)) (ys.drop (k + 1)) else sgnI x y := hlex
        obtain ⟨S, hS⟩ : ∃ S, sgnI x y = S := ⟨_, rfl⟩
        rw [hS] at HC hl2
        have HL := Hid.mk hl2
        clear hlex hl2 hdx hdy hc hc' hx hy hS
        go_wp2_with fail
        refine HC.out.mono ?_
        rintro e w1 ⟨rfl, rfl⟩
        by_cases h0 : S = 0
        · have HL2 : Hid (lexI zs ys = lexI (zs.drop (k + 1)) (ys.drop (k + 1))) := by show _ = _; rw [HL.out, if_pos h0]
          subst h0
          go_wp2
          go_roundw
          case rel => exact ⟨k + 1, by omega, by omega, by go_num, HL2.out, by first | rfl | trivial⟩
          case measure => simp [intOf]; omega
        · have HL2 : Hid (lexI zs ys = S) := by show _ = _; rw [HL.out, if_neg h0]
          have hb : (S == 0) = false := beq_eq_false_iff_ne.2 h0
          have hb2 : (S != 0) = true := bne_iff_ne.2 h0
          go_wp2
          go_ret
          exact ⟨ret_int HL2.out.symm, rfl⟩
    · obtain rfl : k = n := by omega
      rw [List.drop_of_length_le (by have := HZ.out.1; omega)] at hlex
      have hkk : ¬ (k : Int) < (k : Int) := by omega
      by_cases hsh : k < n'
      · have hsi : (k : Int) < (n' : Int) := by omega
        have HL : Hid (lexI zs ys = -1) := by
          show _ = _
          rw [hlex, List.drop_eq_getElem_cons (by have := HZ.out.2; omega)]; rfl
        clear hlex
        go_wp2
        go_ret
        exact ⟨ret_int HL.out.symm, rfl⟩
      · have hsi : ¬ (k : Int) < (n' : Int) := by omega
        have HL : Hid (lexI zs ys = 0) := by
          show _ = _
          rw [hlex, List.drop_of_length_le (by have := HZ.out.2; omega)]; rfl
        clear hlex
        go_wp2
        go_ret
        exact ⟨ret_int HL.out.symm, rfl⟩

end Go.Proofs.YtpnaoahlfhbbmaaDoor
