/- Contracts of goodPart, splitSet, and the model's l8Part. -/
import Derived.Test.YtpnaoahlfhbbmaaDoorPrtP
import Derived.Test.YtpnaoahlfhbbmaaDoorCloS
namespace Go.Proofs.YtpnaoahlfhbbmaaDoor
open Go.RowKit

/-- Dependencies and a part of their columns. -/
def prtB (xs : List Dep) (C : Int) (ps : List Int) : Bool := goodDeps xs C && ris C ps

set_option maxHeartbeats 1000000 in
theorem goodPart_any (a : Option Addr) (n c : Nat) (xs : List Dep) (C : Int) (pa : Option Addr) (pn pc : Nat) (ps : List Int) (w : World) (hz : xs.length = n) (hn : n ≤ 9223372036854775807) (ha : AtD w a xs) (hp : ps.length = pn) (hpn : pn ≤ 9223372036854775807) (hpa : At w pa ps) :
    Calls Tryd.prog 27 #[.slice a n c, .int .i64 C, .slice pa pn pc] w fun e w' => e = .returned (.bool (prtB xs C ps)) ∧ Below w.heap.size w w' := by
  have K1 := Hid.mk (implGoodDepends a n c xs C w hz hn ha)
  have HP := Hid.mk hp
  have HPA := Hid.mk hpa
  clear hz ha hp hpa
  go_enter Tryd.func27, Tryd.ntmps27
  go_wp2_with fail
  refine K1.out.mono ?_
  rintro e w1 ⟨rfl, B1⟩
  cases hg : goodDeps xs C with
  | false =>
    go_wp2
    go_ret
    exact ⟨by unfold prtB; rw [hg]; rfl, B1⟩
  | true =>
    have K2 := Hid.mk (areRising_any pa pn pc ps C w1 HP.out hpn (At.below HPA.out B1))
    go_wp2_with fail
    refine K2.out.mono ?_
    rintro e w2 ⟨rfl, hb2⟩
    have B2 := B1.trans (hb2.mono B1.size)
    go_wp2
    go_ret
    exact ⟨by unfold prtB; rw [hg]; rfl, B2⟩

set_option maxHeartbeats 1000000 in
theorem l8Part_any (a : Option Addr) (n c : Nat) (xs : List Dep) (C : Int) (pa : Option Addr) (pn pc : Nat) (ps : List Int) (w : World) (hz : xs.length = n) (hn : n ≤ 9223372036854775807) (ha : AtD w a xs) (hp : ps.length = pn) (hpn : pn ≤ 9223372036854775807) (hpa : At w pa ps) :
    Calls Tryd.prog 24 #[.slice a n c, .int .i64 C, .slice pa pn pc] w fun e w' => e = .returned (.bool (prtB xs C ps)) ∧ Below w.heap.size w w' := by
  have K1 := Hid.mk (specGoodDepends a n c xs C w hz hn ha)
  have HP := Hid.mk hp
  have HPA := Hid.mk hpa
  clear hz ha hp hpa
  go_enter Tryd.func24, Tryd.ntmps24
  go_wp2_with fail
  refine K1.out.mono ?_
  rintro e w1 ⟨rfl, B1⟩
  cases hg : goodDeps xs C with
  | false =>
    go_wp2
    go_ret
    exact ⟨by unfold prtB; rw [hg]; rfl, B1⟩
  | true =>
    have K2 := Hid.mk (l1Some_any pa pn pc ps C w1 HP.out hpn (At.below HPA.out B1))
    go_wp2_with fail
    refine K2.out.mono ?_
    rintro e w2 ⟨rfl, hb2⟩
    have B2 := B1.trans (hb2.mono B1.size)
    go_wp2
    go_ret
    exact ⟨by unfold prtB; rw [hg]; rfl, B2⟩

def spA (T P F : Nat) : Nat := if spOk T P F then T &&& P else 0
def spB (T P F : Nat) : Nat := if spOk T P F then F ||| dif P T else 0
theorem spA_lt {T P F : Nat} (hT : T < 64) : spA T P F < 64 := by unfold spA; split; exact and_lt64 hT; omega
theorem spB_lt {T P F : Nat} (hP : P < 64) (hF : F < 64) : spB T P F < 64 := by unfold spB; split; exact or_lt64 hF (dif_lt hP); omega

set_option maxHeartbeats 2000000 in
theorem splitSet_any (a : Option Addr) (n c : Nat) (xs : List (Nat × Nat)) (P F : Nat) (w : World) (hz : xs.length = n) (hn : n ≤ 9223372036854775807) (hs : Sets xs) (hP : P < 64) (hF : F < 64) (ha : AtT w a xs) :
    Calls Tryd.prog 45 #[.slice a n c, .int .u64 (P : Nat), .int .u64 (F : Nat)] w fun e w' => ∃ T, IsClo xs F T ∧ e = .returned (.tuple #[.int .u64 (spA T P F : Nat), .int .u64 (spB T P F : Nat), .bool (spOk T P F)]) ∧ Below w.heap.size w w' := by
  have K := Hid.mk (closure_any a n c xs F w hz hn hs hF ha)
  clear hz hs ha
  go_enter Tryd.func45, Tryd.ntmps45
  go_wp2_with fail
  refine K.out.mono ?_
  rintro e w1 ⟨T, hT, rfl, B1⟩
  have hT64 := hT.lt
  have HT := Hid.mk hT
  clear hT K
  go_wp2_with fail
  refine (has_any P F w1 hP hF).mono ?_
  rintro e w2 ⟨rfl, rfl⟩
  cases h1 : sb F P with
  | false =>
    have HN : Hid (spOk T P F = false) := by show _ = _; unfold spOk; rw [h1]; rfl
    go_wp2
    exact bodyPost_ret (v := .tuple #[.int .u64 0, .int .u64 0, .bool false]) (by simp [results, Tryd.results45, go_sem]) rfl ⟨T, HT.out, by unfold spA spB; rw [HN.out]; rfl, B1⟩
  | true =>
    go_wp2_with fail
    refine (has_any T P _ hT64 hP).mono ?_
    rintro e w3 ⟨rfl, rfl⟩
    cases h2 : sb P T with
    | true =>
      have HN : Hid (spOk T P F = false) := by show _ = _; unfold spOk; rw [h1, h2]; rfl
      go_wp2
      exact bodyPost_ret (v := .tuple #[.int .u64 0, .int .u64 0, .bool false]) (by simp [results, Tryd.results45, go_sem]) rfl ⟨T, HT.out, by unfold spA spB; rw [HN.out]; rfl, B1⟩
    | false =>
      have e1 := u64_and_nat T P (by omega) (by omega)
      have e2 := u64_andNot_nat P T (by omega) (by omega)
      have hd64 : dif P T < 64 := dif_lt hP
      have e3 := u64_or_nat F (dif P T) (by omega) (by omega)
      by_cases h3 : T &&& P = F
      · have HN : Hid (spOk T P F = false) := by show _ = _; unfold spOk; rw [h3, decide_eq_true rfl]; simp
        rw [h3] at e1
        have hb : ((F : Int) == (F : Int)) = true := beq_self_eq_true _
        clear h3
        go_wp2
        exact bodyPost_ret (v := .tuple #[.int .u64 0, .int .u64 0, .bool false]) (by simp [results, Tryd.results45, go_sem]) rfl ⟨T, HT.out, by unfold spA spB; rw [HN.out]; rfl, B1⟩
      · have HN : Hid (spOk T P F = true) := by show _ = _; unfold spOk; rw [h1, h2, decide_eq_false h3]; rfl
        have HA : Hid (spA T P F = T &&& P) := by show _ = _; unfold spA; rw [HN.out]; rfl
        have HB : Hid (spB T P F = F ||| dif P T) := by show _ = _; unfold spB; rw [HN.out]; rfl
        change _ = ((dif P T : Nat) : Int) at e2
        obtain ⟨A, hA⟩ : ∃ A, T &&& P = A := ⟨_, rfl⟩
        obtain ⟨D, hD⟩ : ∃ D, dif P T = D := ⟨_, rfl⟩
        obtain ⟨E, hE⟩ : ∃ E, F ||| dif P T = E := ⟨_, rfl⟩
        rw [hE] at HB
        rw [hD] at e2 e3 hE
        rw [hE] at e3
        rw [hA] at e1 h3 HA
        have hb : ((A : Int) == (F : Int)) = false := beq_eq_false_iff_ne.2 (by omega)
        clear hA hD hE h3
        go_wp2
        exact bodyPost_ret (v := .tuple #[.int .u64 (A : Nat), .int .u64 (E : Nat), .bool true]) (by simp [results, Tryd.results45, go_sem]) rfl ⟨T, HT.out, by rw [HN.out, HA.out, HB.out], B1⟩

end Go.Proofs.YtpnaoahlfhbbmaaDoor
