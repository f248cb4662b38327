/- Contracts of impl.numberAt, sameNumberAt, goodSources and of the parts' widths. -/
import Derived.Test.YthiabjkjpjmahaaGreatM15
import Derived.Test.YthiabjkjpjmahaaGreatM17
import Derived.Test.YthiabjkjpjmahaaGreatM13
import Derived.Test.YthiabjkjpjmahaaGreatM9
namespace Go.Proofs.YthiabjkjpjmahaaGreat
open Go.RowKit

set_option maxRecDepth 100000 in
set_option maxHeartbeats 1000000 in
theorem numberAt_any (a : Option Addr) (n c : Nat) (l : List Int) (i : Int) (w : World) (hz : l.length = n) (hn : n ≤ 1048576) (ha : At w a l) :
   Calls Tryz.prog 209 #[.slice a n c, .int .i64 i] w fun e w' => e = .returned (.tuple #[.int .i64 ((numAt l i).getD 0), .bool (numAt l i).isSome]) ∧ w' = w := by
  by_cases h0 : i < 0
  ·have HN := Hid.mk (numAt_no (l := l) (.inl h0))
   go_enter Tryz.func209, Tryz.ntmps209
   go_wp2
   refine bodyPost_ret (v := .tuple #[.int .i64 _, .bool _]) (by simp [results, Tryz.results209, go_sem]; exact ⟨rfl, rfl⟩) rfl ?_
   rw [HN.out]
   exact ⟨rfl, rfl⟩
  by_cases h1 : (n : Int) ≤ i
  ·have HN := Hid.mk (numAt_no (l := l) (i := i) (.inr (by omega)))
   have h2 : ¬ i < (n : Int) := by omega
   go_enter Tryz.func209, Tryz.ntmps209
   go_wp2
   refine bodyPost_ret (v := .tuple #[.int .i64 _, .bool _]) (by simp [results, Tryz.results209, go_sem]; exact ⟨rfl, rfl⟩) rfl ?_
   rw [HN.out]
   exact ⟨rfl, rfl⟩
  ·obtain ⟨k, rfl⟩ : ∃ k : Nat, i = k := ⟨i.toNat, by omega⟩
   have hk : k < n := by omega
   obtain ⟨b, off, rfl, _, hc⟩ := At.some ha (by omega)
   have hcx := hc k (by omega)
   have HN := Hid.mk (numAt_yes (l := l) (i := k) (by omega))
   obtain ⟨x, hx⟩ : ∃ x, x = l.getD k 0 := ⟨_, rfl⟩
   rw [← hx] at hcx HN
   have h2 : ¬ (n : Int) ≤ (k : Int) := by omega
   have h3 : ¬ (k : Int) < 0 := by omega
   clear hx hc ha h0 h1
   go_enter Tryz.func209, Tryz.ntmps209
   go_wp2
   refine bodyPost_ret (v := .tuple #[.int .i64 _, .bool _]) (by simp [results, Tryz.results209, go_sem]; exact ⟨rfl, rfl⟩) rfl ?_
   rw [HN.out]
   exact ⟨rfl, rfl⟩

def twoAt (l : List Int) (i j : Int) : Option Int := (numAt l i).bind fun a => (numAt l j).bind fun b => if a = b then some a else none

set_option maxRecDepth 100000 in
set_option maxHeartbeats 1000000 in
theorem sameNumberAt_any (a : Option Addr) (n c : Nat) (l : List Int) (i j : Int) (w : World) (hz : l.length = n) (hn : n ≤ 1048576) (ha : At w a l) :
   Calls Tryz.prog 218 #[.slice a n c, .int .i64 i, .int .i64 j] w fun e w' => e = .returned (.tuple #[.int .i64 ((twoAt l i j).getD 0), .bool (twoAt l i j).isSome]) ∧ w' = w := by
  have HT : Hid (twoAt l i j = (numAt l i).bind fun a => (numAt l j).bind fun b => if a = b then some a else none) := rfl
  go_enter Tryz.func218, Tryz.ntmps218
  go_wp2_with fail
  refine (numberAt_any a n c l i w hz hn ha).mono ?_
  rintro e w1 ⟨rfl, rfl⟩
  go_wp2_with fail
  refine (numberAt_any a n c l j _ hz hn ha).mono ?_
  rintro e w2 ⟨rfl, rfl⟩
  cases hi : numAt l i with
  | none =>
   have HI := Hid.mk hi
   clear hi
   simp only [Option.getD_none, Option.isSome_none]
   go_wp2
   refine bodyPost_ret (v := .tuple #[.int .i64 _, .bool _]) (by simp [results, Tryz.results218, go_sem]; exact ⟨rfl, rfl⟩) rfl ?_
   rw [HT.out, HI.out]
   exact ⟨rfl, rfl⟩
  | some x =>
   have HI := Hid.mk hi
   clear hi
   simp only [Option.getD_some, Option.isSome_some]
   cases hj : numAt l j with
   | none =>
    have HJ := Hid.mk hj
    clear hj
    simp only [Option.getD_none, Option.isSome_none]
    go_wp2
    refine bodyPost_ret (v := .tuple #[.int .i64 _, .bool _]) (by simp [results, Tryz.results218, go_sem]; exact ⟨rfl, rfl⟩) rfl ?_
    rw [HT.out, HI.out, HJ.out]
    exact ⟨rfl, rfl⟩
   | some y =>
    have HJ := Hid.mk hj
    clear hj
    simp only [Option.getD_some, Option.isSome_some]
    by_cases he : x = y
    ·have hb : (x != y) = false := by simp [he]
     have HE := Hid.mk he
     clear he
     go_wp2
     refine bodyPost_ret (v := .tuple #[.int .i64 _, .bool _]) (by simp [results, Tryz.results218, go_sem]; exact ⟨rfl, rfl⟩) rfl ?_
     rw [HT.out, HI.out, HJ.out]
     rw [Option.bind_some, Option.bind_some, if_pos HE.out]
     exact ⟨rfl, rfl⟩
    ·have hb : (x != y) = true := by simp [he]
     have HE := Hid.mk he
     clear he
     go_wp2
     refine bodyPost_ret (v := .tuple #[.int .i64 _, .bool _]) (by simp [results, Tryz.results218, go_sem]; exact ⟨rfl, rfl⟩) rfl ?_
     rw [HT.out, HI.out, HJ.out]
     rw [Option.bind_some, Option.bind_some, if_neg HE.out]
     exact ⟨rfl, rfl⟩

theorem all_take_succ {p : Int → Bool} {l : List Int} {k : Nat} (h : k < l.length) : (l.take (k + 1)).all p = ((l.take k).all p && p (l.getD k 0)) := by
  rw [take_succ_getD l k h, List.all_append]; simp
set_option maxRecDepth 100000 in
set_option maxHeartbeats 1000000 in
theorem goodSources_any (a : Option Addr) (n c : Nat) (l : List Int) (w : World) (hz : l.length = n) (hn : n ≤ 1048576) (ha : At w a l) :
   Calls Tryz.prog 68 #[.slice a n c] w fun e w' => e = .returned (.bool (srcOk l)) ∧ Below w.heap.size w w' := by
  by_cases h0 : n < 1
  ·have HN : Hid (srcOk l = false) := by
    show _ = _
    simp only [srcOk]
    rw [decide_eq_false (by omega)]; rfl
   have h0' : (n : Int) < 1 := by omega
   go_enter Tryz.func68, Tryz.ntmps68
   go_wp2
   go_ret
   exact ⟨ret_bool HN.out.symm, Below.refl _ _⟩
  by_cases h4 : 4 < n
  ·have HN : Hid (srcOk l = false) := by
    show _ = _
    simp only [srcOk]
    rw [decide_eq_false (p := l.length ≤ 4) (by omega)]; simp
   have h0' : ¬ (n : Int) < 1 := by omega
   have h4' : (4 : Int) < (n : Int) := by omega
   go_enter Tryz.func68, Tryz.ntmps68
   go_wp2
   go_ret
   exact ⟨ret_bool HN.out.symm, Below.refl _ _⟩
  ·have HY : Hid (srcOk l = l.all inc) := by
    show _ = _
    simp only [srcOk]
    rw [decide_eq_true (p := l.length ≤ 4) (by omega), decide_eq_true (p := 1 ≤ l.length) (by omega)]; rfl
   have h0' : ¬ (n : Int) < 1 := by omega
   have h4' : ¬ (4 : Int) < (n : Int) := by omega
   obtain ⟨b, off, rfl, hb, hc⟩ := At.some ha (by omega)
   go_enter Tryz.func68, Tryz.ntmps68
   go_wp2
   go_loopw [15] (fun i wr => ∃ (k : Nat), k ≤ n ∧ i = .int .i64 k ∧ (l.take k).all inc = true ∧ Below w.heap.size w wr) (fun i _ => n - (intOf i).toNat)
   case atStart => exact ⟨0, Nat.zero_le _, rfl, rfl, Below.refl _ _⟩
   case round =>
    obtain ⟨k, hk, rfl, hall, hbw⟩ := hrel
    by_cases hlt : k < n
    ·have hcx := (hbw.cell hb).trans (hc k (by omega))
     have hki : (k : Int) < (n : Int) := by omega
     have HS := Hid.mk (all_take_succ (p := inc) (l := l) (k := k) (by omega))
     have HM : Hid (inc (l.getD k 0) = false → l.all inc = false) := fun h => by
      rw [List.all_eq_false]
      exact ⟨l.getD k 0, by simp [List.getD, show k < l.length by omega], by rw [h]; simp⟩
     have HA := Hid.mk hall
     obtain ⟨x, hx⟩ : ∃ x, x = l.getD k 0 := ⟨_, rfl⟩
     rw [← hx] at hcx HS HM
     clear hx hc hall ha
     go_wp2_with fail
     refine (goodColumns_any x wr).mono ?_
     rintro e w1 ⟨rfl, hb1⟩
     cases hi : inc x with
     | false =>
      have HI := Hid.mk (HM.out hi)
      clear hi
      go_wp2
      go_ret
      exact ⟨ret_bool (by rw [HY.out, HI.out]), by first | exact hbw.trans (hb1.mono hbw.size) | (subst hb1; exact hbw)⟩
     | true =>
      have HI := Hid.mk hi
      clear hi
      go_wp2
      go_roundw
      case rel => exact ⟨k + 1, by omega, by go_num, by rw [HS.out, HA.out, HI.out]; rfl, by first | exact hbw.trans (hb1.mono hbw.size) | (subst hb1; exact hbw)⟩
      case measure => simp [intOf]; omega
    ·obtain rfl : k = n := by omega
     have HA := Hid.mk hall
     clear hall
     go_wp2
     go_ret
     exact ⟨ret_bool (by rw [HY.out]; have h := HA.out; rw [List.take_of_length_le (by omega)] at h; exact h.symm), hbw⟩

set_option linter.unusedVariables false in
set_option maxRecDepth 100000 in
set_option maxHeartbeats 1000000 in
theorem w_sourcePart (A : Int) (sa : Option Addr) (sn sc : Nat) (ss : List Int) (aa : Option Addr) (an ac : Nat) (ah : List Int) (w : World) (hss : ss.length = sn) (hsn : sn ≤ 1048576) (hsa : At w sa ss) (hah : ah.length = an) (han : an ≤ 1048576) (haa : At w aa ah) :
   Calls Tryz.prog 208 #[.agg #[.int .i64 A], .slice sa sn sc, .slice aa an ac] w fun e w' => e = .returned (.tuple #[.int .i64 ((numAt ss A).getD 0), .bool (numAt ss A).isSome]) ∧ Below w.heap.size w w' := by
  obtain ⟨W, hW⟩ : ∃ W, W = w.alloc (.cells #[.int .i64 A] 152) := ⟨_, rfl⟩
  have B0 : Below w.heap.size w W := by rw [hW]; exact (Below.refl _ _).alloc (Nat.le_refl _) _
  go_enter Tryz.func208, Tryz.ntmps208
  go_wp2_with fail
  rw [← hW]
  clear hW
  refine (numberAt_any sa sn sc ss A W hss hsn (hsa.below B0)).mono ?_
  rintro e w1 ⟨rfl, rfl⟩
  go_wp2
  refine bodyPost_ret (v := .tuple #[.int .i64 _, .bool _]) (by simp [results, Tryz.results208, go_sem]; exact ⟨rfl, rfl⟩) rfl ?_
  exact ⟨rfl, B0⟩

set_option linter.unusedVariables false in
set_option maxRecDepth 100000 in
set_option maxHeartbeats 1000000 in
theorem w_distinctPart (A : Int) (sa : Option Addr) (sn sc : Nat) (ss : List Int) (aa : Option Addr) (an ac : Nat) (ah : List Int) (w : World) (hss : ss.length = sn) (hsn : sn ≤ 1048576) (hsa : At w sa ss) (hah : ah.length = an) (han : an ≤ 1048576) (haa : At w aa ah) :
   Calls Tryz.prog 222 #[.agg #[.int .i64 A], .slice sa sn sc, .slice aa an ac] w fun e w' => e = .returned (.tuple #[.int .i64 ((numAt ah A).getD 0), .bool (numAt ah A).isSome]) ∧ Below w.heap.size w w' := by
  obtain ⟨W, hW⟩ : ∃ W, W = w.alloc (.cells #[.int .i64 A] 163) := ⟨_, rfl⟩
  have B0 : Below w.heap.size w W := by rw [hW]; exact (Below.refl _ _).alloc (Nat.le_refl _) _
  go_enter Tryz.func222, Tryz.ntmps222
  go_wp2_with fail
  rw [← hW]
  clear hW
  refine (numberAt_any aa an ac ah A W hah han (haa.below B0)).mono ?_
  rintro e w1 ⟨rfl, rfl⟩
  go_wp2
  refine bodyPost_ret (v := .tuple #[.int .i64 _, .bool _]) (by simp [results, Tryz.results222, go_sem]; exact ⟨rfl, rfl⟩) rfl ?_
  exact ⟨rfl, B0⟩

set_option linter.unusedVariables false in
set_option maxRecDepth 100000 in
set_option maxHeartbeats 1000000 in
theorem w_unionPart (A B : Int) (sa : Option Addr) (sn sc : Nat) (ss : List Int) (aa : Option Addr) (an ac : Nat) (ah : List Int) (w : World) (hss : ss.length = sn) (hsn : sn ≤ 1048576) (hsa : At w sa ss) (hah : ah.length = an) (han : an ≤ 1048576) (haa : At w aa ah) :
   Calls Tryz.prog 217 #[.agg #[.int .i64 A, .int .i64 B], .slice sa sn sc, .slice aa an ac] w fun e w' => e = .returned (.tuple #[.int .i64 ((twoAt ah A B).getD 0), .bool (twoAt ah A B).isSome]) ∧ Below w.heap.size w w' := by
  obtain ⟨W, hW⟩ : ∃ W, W = w.alloc (.cells #[.int .i64 A, .int .i64 B] 160) := ⟨_, rfl⟩
  have B0 : Below w.heap.size w W := by rw [hW]; exact (Below.refl _ _).alloc (Nat.le_refl _) _
  go_enter Tryz.func217, Tryz.ntmps217
  go_wp2_with fail
  rw [← hW]
  clear hW
  refine (sameNumberAt_any aa an ac ah A B W hah han (haa.below B0)).mono ?_
  rintro e w1 ⟨rfl, rfl⟩
  go_wp2
  refine bodyPost_ret (v := .tuple #[.int .i64 _, .bool _]) (by simp [results, Tryz.results217, go_sem]; exact ⟨rfl, rfl⟩) rfl ?_
  exact ⟨rfl, B0⟩

set_option linter.unusedVariables false in
set_option maxRecDepth 100000 in
set_option maxHeartbeats 1000000 in
theorem w_minusPart (A B : Int) (sa : Option Addr) (sn sc : Nat) (ss : List Int) (aa : Option Addr) (an ac : Nat) (ah : List Int) (w : World) (hss : ss.length = sn) (hsn : sn ≤ 1048576) (hsa : At w sa ss) (hah : ah.length = an) (han : an ≤ 1048576) (haa : At w aa ah) :
   Calls Tryz.prog 220 #[.agg #[.int .i64 A, .int .i64 B], .slice sa sn sc, .slice aa an ac] w fun e w' => e = .returned (.tuple #[.int .i64 ((twoAt ah A B).getD 0), .bool (twoAt ah A B).isSome]) ∧ Below w.heap.size w w' := by
  obtain ⟨W, hW⟩ : ∃ W, W = w.alloc (.cells #[.int .i64 A, .int .i64 B] 161) := ⟨_, rfl⟩
  have B0 : Below w.heap.size w W := by rw [hW]; exact (Below.refl _ _).alloc (Nat.le_refl _) _
  go_enter Tryz.func220, Tryz.ntmps220
  go_wp2_with fail
  rw [← hW]
  clear hW
  refine (sameNumberAt_any aa an ac ah A B W hah han (haa.below B0)).mono ?_
  rintro e w1 ⟨rfl, rfl⟩
  go_wp2
  refine bodyPost_ret (v := .tuple #[.int .i64 _, .bool _]) (by simp [results, Tryz.results220, go_sem]; exact ⟨rfl, rfl⟩) rfl ?_
  exact ⟨rfl, B0⟩

def selAt (ah : List Int) (A : Int) (ts : List Tst) : Option Int := (numAt ah A).bind fun a => if goodEs a ts = true then some a else none
theorem num_nat {ah : List Int} {A x : Int} (hinc : ah.all inc = true) (h : numAt ah A = some x) : ∃ q : Nat, x = q ∧ q ≤ 6 := by
  have := inc_range (List.all_eq_true.1 hinc _ (numAt_mem h))
  exact ⟨x.toNat, by omega, by omega⟩

set_option maxRecDepth 100000 in
set_option maxHeartbeats 2000000 in
theorem w_selectPart (A : Int) (ta : Option Addr) (tn tc : Nat) (ts : List Tst) (sa : Option Addr) (sn sc : Nat) (aa : Option Addr) (an ac : Nat) (ah : List Int) (w : World) (htz : ts.length = tn) (htn : tn ≤ 1048576) (hta : AtE w ta ts) (hah : ah.length = an) (han : an ≤ 1048576) (haa : At w aa ah) (hinc : ah.all inc = true) :
   Calls Tryz.prog 211 #[.agg #[.int .i64 A, .slice ta tn tc], .slice sa sn sc, .slice aa an ac] w fun e w' => e = .returned (.tuple #[.int .i64 ((selAt ah A ts).getD 0), .bool (selAt ah A ts).isSome]) ∧ Below w.heap.size w w' := by
  obtain ⟨W, hW⟩ : ∃ W, W = w.alloc (.cells #[.int .i64 A, .slice ta tn tc] 154) := ⟨_, rfl⟩
  have B0 : Below w.heap.size w W := by rw [hW]; exact (Below.refl _ _).alloc (Nat.le_refl _) _
  have c1 : W.cell? ⟨w.heap.size, 1, none⟩ = some (.slice ta tn tc) := by rw [hW]; simp
  have HT : Hid (selAt ah A ts = (numAt ah A).bind fun a => if goodEs a ts = true then some a else none) := rfl
  have HI := Hid.mk hinc
  have HTA := Hid.mk (AtE.below hta B0)
  clear hinc hta
  go_enter Tryz.func211, Tryz.ntmps211
  go_wp2_with fail
  rw [← hW]
  clear hW
  refine (numberAt_any aa an ac ah A W hah han (haa.below B0)).mono ?_
  rintro e w1 ⟨rfl, rfl⟩
  cases hx : numAt ah A with
  | none =>
   have HX := Hid.mk hx
   clear hx
   simp only [Option.getD_none, Option.isSome_none]
   go_wp2
   refine bodyPost_ret (v := .tuple #[.int .i64 _, .bool _]) (by simp [results, Tryz.results211, go_sem]; exact ⟨rfl, rfl⟩) rfl ?_
   rw [HT.out, HX.out]
   exact ⟨rfl, B0⟩
  | some x =>
   obtain ⟨q, rfl, h6⟩ := num_nat HI.out hx
   have HX := Hid.mk hx
   clear hx
   simp only [Option.getD_some, Option.isSome_some]
   go_wp2_with fail
   refine (implGoodTests_any ta tn tc ts q _ htz htn h6 HTA.out).mono ?_
   rintro e w2 ⟨rfl, hb2⟩
   have B2 := B0.trans (hb2.mono B0.size)
   clear hb2
   cases hg : goodEs q ts with
   | false =>
    have HG := Hid.mk hg
    clear hg
    go_wp2
    refine bodyPost_ret (v := .tuple #[.int .i64 _, .bool _]) (by simp [results, Tryz.results211, go_sem]; exact ⟨rfl, rfl⟩) rfl ?_
    rw [HT.out, HX.out, Option.bind_some, if_neg (by rw [HG.out]; simp)]
    exact ⟨rfl, B2⟩
   | true =>
    have HG := Hid.mk hg
    clear hg
    go_wp2
    refine bodyPost_ret (v := .tuple #[.int .i64 _, .bool _]) (by simp [results, Tryz.results211, go_sem]; exact ⟨rfl, rfl⟩) rfl ?_
    rw [HT.out, HX.out, Option.bind_some, if_pos HG.out]
    exact ⟨rfl, B2⟩

def prjAt (ah : List Int) (A : Int) (cs : List Int) : Option Int := (numAt ah A).bind fun a => if colsOk cs a.toNat = true then some (cs.length : Int) else none
theorem pick_noughts_ok {q : Nat} (h6 : q ≤ 6) (cols : List Int) : pickOk (List.replicate q 0) cols = colsOk cols q := by
  unfold pickOk
  rw [good_noughts' h6, List.length_replicate]; rfl

set_option maxRecDepth 100000 in
set_option maxHeartbeats 4000000 in
theorem w_projectPart (A : Int) (ca : Option Addr) (cn cc : Nat) (cs : List Int) (sa : Option Addr) (sn sc : Nat) (aa : Option Addr) (an ac : Nat) (ah : List Int) (w : World) (hcz : cs.length = cn) (hcn : cn ≤ 1048576) (hca : At w ca cs) (hah : ah.length = an) (han : an ≤ 1048576) (haa : At w aa ah) (hinc : ah.all inc = true) :
   Calls Tryz.prog 213 #[.agg #[.int .i64 A, .slice ca cn cc], .slice sa sn sc, .slice aa an ac] w fun e w' => e = .returned (.tuple #[.int .i64 ((prjAt ah A cs).getD 0), .bool (prjAt ah A cs).isSome]) ∧ Below w.heap.size w w' := by
  obtain ⟨W, hW⟩ : ∃ W, W = w.alloc (.cells #[.int .i64 A, .slice ca cn cc] 156) := ⟨_, rfl⟩
  have B0 : Below w.heap.size w W := by rw [hW]; exact (Below.refl _ _).alloc (Nat.le_refl _) _
  have c1 : W.cell? ⟨w.heap.size, 1, none⟩ = some (.slice ca cn cc) := by rw [hW]; simp
  have HT : Hid (prjAt ah A cs = (numAt ah A).bind fun a => if colsOk cs a.toNat = true then some (cs.length : Int) else none) := rfl
  have HI := Hid.mk hinc
  have HP := hca.below B0
  clear hinc hca
  go_enter Tryz.func213, Tryz.ntmps213
  go_wp2_with fail
  rw [← hW]
  clear hW
  refine (numberAt_any aa an ac ah A W hah han (haa.below B0)).mono ?_
  rintro e w1 ⟨rfl, rfl⟩
  cases hx : numAt ah A with
  | none =>
   have HX := Hid.mk hx
   clear hx
   simp only [Option.getD_none, Option.isSome_none]
   go_wp2
   refine bodyPost_ret (v := .tuple #[.int .i64 _, .bool _]) (by simp [results, Tryz.results213, go_sem]; exact ⟨rfl, rfl⟩) rfl ?_
   rw [HT.out, HX.out]
   exact ⟨rfl, B0⟩
  | some x =>
   obtain ⟨q, rfl, h6⟩ := num_nat HI.out hx
   have HX := Hid.mk hx
   clear hx
   simp only [Option.getD_some, Option.isSome_some]
   obtain ⟨ok, hok⟩ : ∃ ok, ok = pickOk (List.replicate q 0) cs := ⟨_, rfl⟩
   have HOK := Hid.mk hok
   have HON : Hid (ok = colsOk cs q) := by show _ = _; rw [hok, pick_noughts_ok h6]
   clear hok
   obtain ⟨W, rfl⟩ : ∃ x, x = w1 := ⟨_, rfl⟩
   go_upto_region 4 with fail
   go_cut [10, 11] (fun ta tb wx => ∃ (Pb : Nat) (r : Option Addr) (m d : Nat), ta = .pointer (some ⟨Pb, 0, none⟩) ∧ tb = .bool ok ∧ wx.cell? ⟨Pb, 0, none⟩ = some (.slice r m d) ∧ (pickZ (List.replicate q 0) cs).length = m ∧ W.heap.size ≤ Pb ∧ Pb < wx.heap.size ∧ Below W.heap.size W wx)
   case first =>
    refine wp_region_held_drew (S := fun w' => w'.cell? ⟨w.heap.size, 1, none⟩ = some (.slice ca cn cc)) (by kernel_rfl) ?_ (fun hHeld => ?_)
    ·(try dsimp only)
     exact c1
    refine tk 0 ?_
    refine tk 2 ?_
    refine tk 3 ?_
    obtain ⟨u0, hu0⟩ : ∃ u, u = W.drew := ⟨_, rfl⟩
    have Y0 : Below W.heap.size W u0 := by rw [hu0]; exact (Below.refl _ _).drew
    rw [← hu0]
    clear hu0
    have k0_0 := cell_later Y0 c1
    have P_0 := HP.below Y0
    have zz0 := Y0.size
    refine wpAnyH_ready (rs := [1, 8]) (by kernel_rfl) (by simp) ?_
    refine AllReadyH.cons (o := ?_) ?_ (fun K hK => ?_) ?_
    rotate_left
    ·(simp only [List.getElem?_toArray, List.getElem?_cons_zero, List.getElem?_cons_succ]; rfl)
    ·go_simp
     go_at_call 146
     refine (noughts_any q _ h6).mono ?_
     rintro e v1 ⟨r1, d1, rfl, n1, a1, hb1⟩
     have k0_1 := cell_later hb1 k0_0
     have P_1 := P_0.below hb1
     have Y1 := Y0.trans (hb1.mono Y0.size)
     have zz1 := Y1.size
     have zw1 := hb1.size
     (try go_wp2_with fail)
     refine hK.out _ _ ?_ (fun hHeld' => ?_)
     ·(try dsimp only)
      exact k0_1
     clear hK K hHeld
     have hHeld := hHeld'
     clear hHeld'
     (try simp only [Act.put, List.setIfInBounds_toArray, List.set_cons_zero, List.set_cons_succ])
     refine wpAnyH_ready (rs := [4, 8]) (by kernel_rfl) (by simp) ?_
     refine AllReadyH.cons (o := ?_) ?_ (fun K hK => ?_) ?_
     rotate_left
     ·(simp only [List.getElem?_toArray, List.getElem?_cons_zero, List.getElem?_cons_succ]; rfl)
     ·go_simp
      go_at_call 145
      refine (implPickCells _ _ _ _ _ _ (List.replicate q 0) cs _ (by simp) hcz (by omega) (by omega) a1 P_1).mono ?_
      rintro e v2 ⟨r2, m2, d2, rfl, hm2, ho2, hb2⟩
      rw [← HOK.out]
      have k0_2 := cell_later hb2 k0_1
      have P_2 := P_1.below hb2
      have Y2 := Y1.trans (hb2.mono Y1.size)
      have zz2 := Y2.size
      have zw2 := hb2.size
      have A0_2 := a1.below hb2
      (try go_wp2_with fail)
      refine hK.out _ _ ?_ (fun hHeld' => ?_)
      ·(try dsimp only)
       exact k0_2
      clear hK K hHeld
      have hHeld := hHeld'
      clear hHeld'
      (try simp only [Act.put, List.setIfInBounds_toArray, List.set_cons_zero, List.set_cons_succ])
      refine tk 5 ?_
      refine tk 6 ?_
      refine tk 7 ?_
      refine tr 8 (fun K hK => ?_)
      go_simp
      skip
      (try go_wp2_with fail)
      refine hK.out _ _ ?_ (fun hHeld' => ?_)
      ·(try dsimp only)
       exact cell_later ((Below.refl _ _).alloc (Nat.le_refl _) _) k0_2
      clear hK K hHeld
      have hHeld := hHeld'
      clear hHeld'
      (try simp only [Act.put, List.setIfInBounds_toArray, List.set_cons_zero, List.set_cons_succ])
      refine tr 9 (fun K hK => ?_)
      go_simp
      skip
      (try go_wp2_with fail)
      refine hK.out _ _ ?_ (fun hHeld' => ?_)
      ·(try dsimp only)
       exact cell_later ((Below.refl _ _).alloc (Nat.le_refl _) _) k0_2
      clear hK K hHeld
      have hHeld := hHeld'
      clear hHeld'
      (try simp only [Act.put, List.setIfInBounds_toArray, List.set_cons_zero, List.set_cons_succ])
      refine tk 10 ?_
      refine wpAnyH_done (by kernel_rfl) ?_ _
      (try go_wp2_with fail)
      go_meet
      case rel =>
       exact ⟨v2.heap.size, r2, m2, d2, rfl, rfl, newcell v2 _ _, hm2, Y2.size, size_lt _ _, Y2.alloc Y2.size _⟩
     refine AllReadyH.cons (o := ?_) ?_ (fun K hK => ?_) AllReadyH.nil
     rotate_left
     ·(simp only [List.getElem?_toArray, List.getElem?_cons_zero, List.getElem?_cons_succ]; rfl)
     ·go_simp
      (try go_wp2_with fail)
      refine hK.out _ _ ?_ (fun hHeld' => ?_)
      ·(try dsimp only)
       exact cell_later ((Below.refl _ _).alloc (Nat.le_refl _) _) k0_1
      clear hK K hHeld
      have hHeld := hHeld'
      clear hHeld'
      (try simp only [Act.put, List.setIfInBounds_toArray, List.set_cons_zero, List.set_cons_succ])
      obtain ⟨v3, hU3⟩ : ∃ u, u = v1.alloc (.cells #[.slice none 0 0] 80) := ⟨_, rfl⟩
      have hb3 : Below v1.heap.size v1 v3 := by rw [hU3]; exact (Below.refl _ _).alloc (Nat.le_refl _) _
      have hp3 : v3.heap[v1.heap.size]? = some (.cells #[.slice none 0 0] 80 (0, 0)) := by rw [hU3]; exact heap_alloc_new _ _
      have zp3 : v3.heap.size = v1.heap.size + 1 := by rw [hU3]; simp
      rw [← hU3]
      clear hU3
      have k0_3 := cell_later hb3 k0_1
      have P_3 := P_1.below hb3
      have Y3 := Y1.trans (hb3.mono Y1.size)
      have zz3 := Y3.size
      have zw3 := hb3.size
      have A0_3 := a1.below hb3
      refine tr 4 (fun K hK => ?_)
      go_simp
      go_at_call 145
      refine (implPickCells _ _ _ _ _ _ (List.replicate q 0) cs _ (by simp) hcz (by omega) (by omega) A0_3 P_3).mono ?_
      rintro e v4 ⟨r4, m4, d4, rfl, hm4, ho4, hb4⟩
      rw [← HOK.out]
      have k0_4 := cell_later hb4 k0_3
      have P_4 := P_3.below hb4
      have Y4 := Y3.trans (hb4.mono Y3.size)
      have zz4 := Y4.size
      have zw4 := hb4.size
      have A0_4 := A0_3.below hb4
      have hp4 := (hb4.block v1.heap.size (Array.getElem?_eq_some_iff.1 hp3).1).trans hp3
      (try go_wp2_with fail)
      refine hK.out _ _ ?_ (fun hHeld' => ?_)
      ·(try dsimp only)
       exact k0_4
      clear hK K hHeld
      have hHeld := hHeld'
      clear hHeld'
      (try simp only [Act.put, List.setIfInBounds_toArray, List.set_cons_zero, List.set_cons_succ])
      refine tk 5 ?_
      refine tk 6 ?_
      refine tk 7 ?_
      have g0 : v4.cell? ⟨v1.heap.size, 0, none⟩ = some (.slice none 0 0) := by rw [cell_of_row _ _ 0 _ _ (0, 0) hp4]; rfl
      have g1 : v4.frozen? ⟨v1.heap.size, 0, none⟩ = false := frozen_of_row _ _ 0 _ _ hp4
      have zc := World.block_lt_of_cell? _ _ c1
      simp only at zc
      refine tr 9 (fun K hK => ?_)
      go_simp
      skip
      (try go_wp2_with fail)
      refine hK.out _ _ ?_ (fun hHeld' => ?_)
      ·(try dsimp only)
       exact keep_far k0_4 (by omega)
      clear hK K hHeld
      have hHeld := hHeld'
      clear hHeld'
      (try simp only [Act.put, List.setIfInBounds_toArray, List.set_cons_zero, List.set_cons_succ])
      refine tk 10 ?_
      refine wpAnyH_done (by kernel_rfl) ?_ _
      (try go_wp2_with fail)
      go_meet
      case rel =>
       exact ⟨v1.heap.size, r4, m4, d4, rfl, rfl, cell_set g0 _, hm4, by omega, lt_set g0 _, Y4.setCell (by show W.heap.size ≤ v1.heap.size; omega) _⟩
    refine AllReadyH.cons (o := ?_) ?_ (fun K hK => ?_) AllReadyH.nil
    rotate_left
    ·(simp only [List.getElem?_toArray, List.getElem?_cons_zero, List.getElem?_cons_succ]; rfl)
    ·go_simp
     (try go_wp2_with fail)
     refine hK.out _ _ ?_ (fun hHeld' => ?_)
     ·(try dsimp only)
      exact cell_later ((Below.refl _ _).alloc (Nat.le_refl _) _) k0_0
     clear hK K hHeld
     have hHeld := hHeld'
     clear hHeld'
     (try simp only [Act.put, List.setIfInBounds_toArray, List.set_cons_zero, List.set_cons_succ])
     obtain ⟨v5, hU5⟩ : ∃ u, u = u0.alloc (.cells #[.slice none 0 0] 80) := ⟨_, rfl⟩
     have hb5 : Below u0.heap.size u0 v5 := by rw [hU5]; exact (Below.refl _ _).alloc (Nat.le_refl _) _
     have hp5 : v5.heap[u0.heap.size]? = some (.cells #[.slice none 0 0] 80 (0, 0)) := by rw [hU5]; exact heap_alloc_new _ _
     have zp5 : v5.heap.size = u0.heap.size + 1 := by rw [hU5]; simp
     rw [← hU5]
     clear hU5
     have k0_5 := cell_later hb5 k0_0
     have P_5 := P_0.below hb5
     have Y5 := Y0.trans (hb5.mono Y0.size)
     have zz5 := Y5.size
     have zw5 := hb5.size
     refine tr 1 (fun K hK => ?_)
     go_simp
     go_at_call 146
     refine (noughts_any q _ h6).mono ?_
     rintro e v6 ⟨r6, d6, rfl, n6, a6, hb6⟩
     have k0_6 := cell_later hb6 k0_5
     have P_6 := P_5.below hb6
     have Y6 := Y5.trans (hb6.mono Y5.size)
     have zz6 := Y6.size
     have zw6 := hb6.size
     have hp6 := (hb6.block u0.heap.size (Array.getElem?_eq_some_iff.1 hp5).1).trans hp5
     (try go_wp2_with fail)
     refine hK.out _ _ ?_ (fun hHeld' => ?_)
     ·(try dsimp only)
      exact k0_6
     clear hK K hHeld
     have hHeld := hHeld'
     clear hHeld'
     (try simp only [Act.put, List.setIfInBounds_toArray, List.set_cons_zero, List.set_cons_succ])
     refine tr 4 (fun K hK => ?_)
     go_simp
     go_at_call 145
     refine (implPickCells _ _ _ _ _ _ (List.replicate q 0) cs _ (by simp) hcz (by omega) (by omega) a6 P_6).mono ?_
     rintro e v7 ⟨r7, m7, d7, rfl, hm7, ho7, hb7⟩
     rw [← HOK.out]
     have k0_7 := cell_later hb7 k0_6
     have P_7 := P_6.below hb7
     have Y7 := Y6.trans (hb7.mono Y6.size)
     have zz7 := Y7.size
     have zw7 := hb7.size
     have A0_7 := a6.below hb7
     have hp7 := (hb7.block u0.heap.size (Array.getElem?_eq_some_iff.1 hp6).1).trans hp6
     (try go_wp2_with fail)
     refine hK.out _ _ ?_ (fun hHeld' => ?_)
     ·(try dsimp only)
      exact k0_7
     clear hK K hHeld
     have hHeld := hHeld'
     clear hHeld'
     (try simp only [Act.put, List.setIfInBounds_toArray, List.set_cons_zero, List.set_cons_succ])
     refine tk 5 ?_
     refine tk 6 ?_
     refine tk 7 ?_
     have g0 : v7.cell? ⟨u0.heap.size, 0, none⟩ = some (.slice none 0 0) := by rw [cell_of_row _ _ 0 _ _ (0, 0) hp7]; rfl
     have g1 : v7.frozen? ⟨u0.heap.size, 0, none⟩ = false := frozen_of_row _ _ 0 _ _ hp7
     have zc := World.block_lt_of_cell? _ _ c1
     simp only at zc
     refine tr 9 (fun K hK => ?_)
     go_simp
     skip
     (try go_wp2_with fail)
     refine hK.out _ _ ?_ (fun hHeld' => ?_)
     ·(try dsimp only)
      exact keep_far k0_7 (by omega)
     clear hK K hHeld
     have hHeld := hHeld'
     clear hHeld'
     (try simp only [Act.put, List.setIfInBounds_toArray, List.set_cons_zero, List.set_cons_succ])
     refine tk 10 ?_
     refine wpAnyH_done (by kernel_rfl) ?_ _
     (try go_wp2_with fail)
     go_meet
     case rel =>
      exact ⟨u0.heap.size, r7, m7, d7, rfl, rfl, cell_set g0 _, hm7, by omega, lt_set g0 _, Y7.setCell (by show W.heap.size ≤ u0.heap.size; omega) _⟩
   case rest =>
    obtain ⟨Pb, rs, ms, ds, rfl, rfl, s4, hms, pl, ph, hb3⟩ := hcut
    obtain ⟨w3, rfl⟩ : ∃ x, x = wc := ⟨_, rfl⟩
    have B3 := B0.trans (hb3.mono B0.size)
    have HMS := Hid.mk hms
    clear hb3 hms
    cases ok with
    | false =>
     go_wp2
     refine bodyPost_ret (v := .tuple #[.int .i64 _, .bool _]) (by simp [results, Tryz.results213, go_sem]; exact ⟨rfl, rfl⟩) rfl ?_
     have h0 : ms = 0 := by rw [← HMS.out]; unfold pickZ; rw [← HOK.out]; rfl
     rw [HT.out, HX.out, Option.bind_some, if_neg (by simp [← HON.out]), h0]
     exact ⟨rfl, B3⟩
    | true =>
     go_wp2
     refine bodyPost_ret (v := .tuple #[.int .i64 _, .bool _]) (by simp [results, Tryz.results213, go_sem]; exact ⟨rfl, rfl⟩) rfl ?_
     have h0 : ms = cs.length := by rw [← HMS.out]; unfold pickZ; rw [← HOK.out]; simp [pick]
     rw [HT.out, HX.out, Option.bind_some, if_pos (by simp [← HON.out]), h0]
     exact ⟨rfl, B3⟩

def jonAt (ah : List Int) (A B : Int) (ps : List (List Int)) : Option Int :=
  (numAt ah A).bind fun a => (numAt ah B).bind fun b => if pairsOk ps a.toNat b.toNat = true ∧ joinC a b ps ≤ 6 then some (joinC a b ps : Int) else none

set_option maxRecDepth 100000 in
set_option maxHeartbeats 8000000 in
theorem w_joinPart (A B : Int) (pa : Option Addr) (pn pc : Nat) (ps : List (List Int)) (sa : Option Addr) (sn sc : Nat) (aa : Option Addr) (an ac : Nat) (ah : List Int) (w : World) (hzp : ps.length = pn) (hpn : pn ≤ 1048576) (hpa : AtS w pa ps) (hah : ah.length = an) (han : an ≤ 1048576) (haa : At w aa ah) (hinc : ah.all inc = true) :
   Calls Tryz.prog 215 #[.agg #[.int .i64 A, .int .i64 B, .slice pa pn pc], .slice sa sn sc, .slice aa an ac] w fun e w' => e = .returned (.tuple #[.int .i64 ((jonAt ah A B ps).getD 0), .bool (jonAt ah A B ps).isSome]) ∧ Below w.heap.size w w' := by
  obtain ⟨W, hW⟩ : ∃ W, W = w.alloc (.cells #[.int .i64 A, .int .i64 B, .slice pa pn pc] 158) := ⟨_, rfl⟩
  have B0 : Below w.heap.size w W := by rw [hW]; exact (Below.refl _ _).alloc (Nat.le_refl _) _
  have c1 : W.cell? ⟨w.heap.size, 2, none⟩ = some (.slice pa pn pc) := by rw [hW]; simp
  have c2 : W.cell? ⟨w.heap.size, 1, none⟩ = some (.int .i64 B) := by rw [hW]; simp
  have HT : Hid (jonAt ah A B ps = (numAt ah A).bind fun a => (numAt ah B).bind fun b => if pairsOk ps a.toNat b.toNat = true ∧ joinC a b ps ≤ 6 then some (joinC a b ps : Int) else none) := rfl
  have HI := Hid.mk hinc
  have HP := hpa.below B0
  clear hinc hpa
  go_enter Tryz.func215, Tryz.ntmps215
  go_wp2_with fail
  rw [← hW]
  clear hW
  refine (numberAt_any aa an ac ah A W hah han (haa.below B0)).mono ?_
  rintro e w1 ⟨rfl, rfl⟩
  go_wp2_with fail
  refine (numberAt_any aa an ac ah B _ hah han (haa.below B0)).mono ?_
  rintro e w2 ⟨rfl, rfl⟩
  cases hx : numAt ah A with
  | none =>
   have HX := Hid.mk hx
   clear hx
   simp only [Option.getD_none, Option.isSome_none]
   go_wp2
   refine bodyPost_ret (v := .tuple #[.int .i64 _, .bool _]) (by simp [results, Tryz.results215, go_sem]; exact ⟨rfl, rfl⟩) rfl ?_
   rw [HT.out, HX.out]
   exact ⟨rfl, B0⟩
  | some x =>
   obtain ⟨q, rfl, h6⟩ := num_nat HI.out hx
   have HX := Hid.mk hx
   clear hx
   simp only [Option.getD_some, Option.isSome_some]
   cases hy : numAt ah B with
   | none =>
    have HX2 := Hid.mk hy
    clear hy
    simp only [Option.getD_none, Option.isSome_none]
    go_wp2
    refine bodyPost_ret (v := .tuple #[.int .i64 _, .bool _]) (by simp [results, Tryz.results215, go_sem]; exact ⟨rfl, rfl⟩) rfl ?_
    rw [HT.out, HX.out, Option.bind_some, HX2.out]
    exact ⟨rfl, B0⟩
   | some y =>
    obtain ⟨q', rfl, h6'⟩ := num_nat HI.out hy
    have HX2 := Hid.mk hy
    clear hy
    simp only [Option.getD_some, Option.isSome_some]
    obtain ⟨ok, hok⟩ : ∃ ok, ok = joinOk (List.replicate q 0) (List.replicate q' 0) ps := ⟨_, rfl⟩
    have HOK := Hid.mk hok
    have HON : Hid (ok = (pairsOk ps q q' && decide (joinC q q' ps ≤ 6))) := by show _ = _; rw [hok, joinOk_noughts h6 h6']
    clear hok
    obtain ⟨W, rfl⟩ : ∃ x, x = w2 := ⟨_, rfl⟩
    go_upto_region 5 with fail
    go_cut [12, 13] (fun ta tb wx => ∃ (Pb : Nat) (r : Option Addr) (m d : Nat), ta = .pointer (some ⟨Pb, 0, none⟩) ∧ tb = .bool ok ∧ wx.cell? ⟨Pb, 0, none⟩ = some (.slice r m d) ∧ (joinAns (List.replicate q 0) (List.replicate q' 0) ps).length = m ∧ W.heap.size ≤ Pb ∧ Pb < wx.heap.size ∧ Below W.heap.size W wx)
    case first =>
     refine wp_region_held_drew (S := fun w' => w'.cell? ⟨w.heap.size, 2, none⟩ = some (.slice pa pn pc)) (by kernel_rfl) ?_ (fun hHeld => ?_)
     ·(try dsimp only)
      exact c1
     refine tk 0 ?_
     refine tk 2 ?_
     refine tk 4 ?_
     refine tk 5 ?_
     obtain ⟨u0, hu0⟩ : ∃ u, u = W.drew := ⟨_, rfl⟩
     have Y0 : Below W.heap.size W u0 := by rw [hu0]; exact (Below.refl _ _).drew
     rw [← hu0]
     clear hu0
     have k0_0 := cell_later Y0 c1
     have P_0 := HP.below Y0
     have zz0 := Y0.size
     refine wpAnyH_ready (rs := [1, 10]) (by kernel_rfl) (by simp) ?_
     refine AllReadyH.cons (o := ?_) ?_ (fun K hK => ?_) ?_
     rotate_left
     ·(simp only [List.getElem?_toArray, List.getElem?_cons_zero, List.getElem?_cons_succ]; rfl)
     ·go_simp
      go_at_call 146
      refine (noughts_any q _ h6).mono ?_
      rintro e v1 ⟨r1, d1, rfl, n1, a1, hb1⟩
      have k0_1 := cell_later hb1 k0_0
      have P_1 := P_0.below hb1
      have Y1 := Y0.trans (hb1.mono Y0.size)
      have zz1 := Y1.size
      have zw1 := hb1.size
      (try go_wp2_with fail)
      refine hK.out _ _ ?_ (fun hHeld' => ?_)
      ·(try dsimp only)
       exact k0_1
      clear hK K hHeld
      have hHeld := hHeld'
      clear hHeld'
      (try simp only [Act.put, List.setIfInBounds_toArray, List.set_cons_zero, List.set_cons_succ])
      refine wpAnyH_ready (rs := [3, 10]) (by kernel_rfl) (by simp) ?_
      refine AllReadyH.cons (o := ?_) ?_ (fun K hK => ?_) ?_
      rotate_left
      ·(simp only [List.getElem?_toArray, List.getElem?_cons_zero, List.getElem?_cons_succ]; rfl)
      ·go_simp
       go_at_call 146
       refine (noughts_any q' _ h6').mono ?_
       rintro e v2 ⟨r2, d2, rfl, n2, a2, hb2⟩
       have k0_2 := cell_later hb2 k0_1
       have P_2 := P_1.below hb2
       have Y2 := Y1.trans (hb2.mono Y1.size)
       have zz2 := Y2.size
       have zw2 := hb2.size
       have A0_2 := a1.below hb2
       (try go_wp2_with fail)
       refine hK.out _ _ ?_ (fun hHeld' => ?_)
       ·(try dsimp only)
        exact k0_2
       clear hK K hHeld
       have hHeld := hHeld'
       clear hHeld'
       (try simp only [Act.put, List.setIfInBounds_toArray, List.set_cons_zero, List.set_cons_succ])
       refine wpAnyH_ready (rs := [6, 10]) (by kernel_rfl) (by simp) ?_
       refine AllReadyH.cons (o := ?_) ?_ (fun K hK => ?_) ?_
       rotate_left
       ·(simp only [List.getElem?_toArray, List.getElem?_cons_zero, List.getElem?_cons_succ]; rfl)
       ·go_simp
        go_at_call 148
        refine (implJoinRows _ _ _ _ _ _ (List.replicate q 0) (List.replicate q' 0) _ _ _ ps _ (by simp) (by simp) hzp (by omega) (by omega) (by omega) n1 A0_2 a2 P_2).mono ?_
        rintro e v3 ⟨r3, m3, d3, rfl, hm3, ho3, hb3⟩
        rw [← HOK.out]
        have k0_3 := cell_later hb3 k0_2
        have P_3 := P_2.below hb3
        have Y3 := Y2.trans (hb3.mono Y2.size)
        have zz3 := Y3.size
        have zw3 := hb3.size
        have A0_3 := A0_2.below hb3
        have A1_3 := a2.below hb3
        (try go_wp2_with fail)
        refine hK.out _ _ ?_ (fun hHeld' => ?_)
        ·(try dsimp only)
         exact k0_3
        clear hK K hHeld
        have hHeld := hHeld'
        clear hHeld'
        (try simp only [Act.put, List.setIfInBounds_toArray, List.set_cons_zero, List.set_cons_succ])
        refine tk 7 ?_
        refine tk 8 ?_
        refine tk 9 ?_
        refine tr 10 (fun K hK => ?_)
        go_simp
        skip
        (try go_wp2_with fail)
        refine hK.out _ _ ?_ (fun hHeld' => ?_)
        ·(try dsimp only)
         exact cell_later ((Below.refl _ _).alloc (Nat.le_refl _) _) k0_3
        clear hK K hHeld
        have hHeld := hHeld'
        clear hHeld'
        (try simp only [Act.put, List.setIfInBounds_toArray, List.set_cons_zero, List.set_cons_succ])
        refine tr 11 (fun K hK => ?_)
        go_simp
        skip
        (try go_wp2_with fail)
        refine hK.out _ _ ?_ (fun hHeld' => ?_)
        ·(try dsimp only)
         exact cell_later ((Below.refl _ _).alloc (Nat.le_refl _) _) k0_3
        clear hK K hHeld
        have hHeld := hHeld'
        clear hHeld'
        (try simp only [Act.put, List.setIfInBounds_toArray, List.set_cons_zero, List.set_cons_succ])
        refine tk 12 ?_
        refine wpAnyH_done (by kernel_rfl) ?_ _
        (try go_wp2_with fail)
        go_meet
        case rel =>
         exact ⟨v3.heap.size, r3, m3, d3, rfl, rfl, newcell v3 _ _, hm3, Y3.size, size_lt _ _, Y3.alloc Y3.size _⟩
       refine AllReadyH.cons (o := ?_) ?_ (fun K hK => ?_) AllReadyH.nil
       rotate_left
       ·(simp only [List.getElem?_toArray, List.getElem?_cons_zero, List.getElem?_cons_succ]; rfl)
       ·go_simp
        (try go_wp2_with fail)
        refine hK.out _ _ ?_ (fun hHeld' => ?_)
        ·(try dsimp only)
         exact cell_later ((Below.refl _ _).alloc (Nat.le_refl _) _) k0_2
        clear hK K hHeld
        have hHeld := hHeld'
        clear hHeld'
        (try simp only [Act.put, List.setIfInBounds_toArray, List.set_cons_zero, List.set_cons_succ])
        obtain ⟨v4, hU4⟩ : ∃ u, u = v2.alloc (.cells #[.slice none 0 0] 80) := ⟨_, rfl⟩
        have hb4 : Below v2.heap.size v2 v4 := by rw [hU4]; exact (Below.refl _ _).alloc (Nat.le_refl _) _
        have hp4 : v4.heap[v2.heap.size]? = some (.cells #[.slice none 0 0] 80 (0, 0)) := by rw [hU4]; exact heap_alloc_new _ _
        have zp4 : v4.heap.size = v2.heap.size + 1 := by rw [hU4]; simp
        rw [← hU4]
        clear hU4
        have k0_4 := cell_later hb4 k0_2
        have P_4 := P_2.below hb4
        have Y4 := Y2.trans (hb4.mono Y2.size)
        have zz4 := Y4.size
        have zw4 := hb4.size
        have A0_4 := A0_2.below hb4
        have A1_4 := a2.below hb4
        refine tr 6 (fun K hK => ?_)
        go_simp
        go_at_call 148
        refine (implJoinRows _ _ _ _ _ _ (List.replicate q 0) (List.replicate q' 0) _ _ _ ps _ (by simp) (by simp) hzp (by omega) (by omega) (by omega) n1 A0_4 A1_4 P_4).mono ?_
        rintro e v5 ⟨r5, m5, d5, rfl, hm5, ho5, hb5⟩
        rw [← HOK.out]
        have k0_5 := cell_later hb5 k0_4
        have P_5 := P_4.below hb5
        have Y5 := Y4.trans (hb5.mono Y4.size)
        have zz5 := Y5.size
        have zw5 := hb5.size
        have A0_5 := A0_4.below hb5
        have A1_5 := A1_4.below hb5
        have hp5 := (hb5.block v2.heap.size (Array.getElem?_eq_some_iff.1 hp4).1).trans hp4
        (try go_wp2_with fail)
        refine hK.out _ _ ?_ (fun hHeld' => ?_)
        ·(try dsimp only)
         exact k0_5
        clear hK K hHeld
        have hHeld := hHeld'
        clear hHeld'
        (try simp only [Act.put, List.setIfInBounds_toArray, List.set_cons_zero, List.set_cons_succ])
        refine tk 7 ?_
        refine tk 8 ?_
        refine tk 9 ?_
        have g0 : v5.cell? ⟨v2.heap.size, 0, none⟩ = some (.slice none 0 0) := by rw [cell_of_row _ _ 0 _ _ (0, 0) hp5]; rfl
        have g1 : v5.frozen? ⟨v2.heap.size, 0, none⟩ = false := frozen_of_row _ _ 0 _ _ hp5
        have zc := World.block_lt_of_cell? _ _ c1
        simp only at zc
        refine tr 11 (fun K hK => ?_)
        go_simp
        skip
        (try go_wp2_with fail)
        refine hK.out _ _ ?_ (fun hHeld' => ?_)
        ·(try dsimp only)
         exact keep_far k0_5 (by omega)
        clear hK K hHeld
        have hHeld := hHeld'
        clear hHeld'
        (try simp only [Act.put, List.setIfInBounds_toArray, List.set_cons_zero, List.set_cons_succ])
        refine tk 12 ?_
        refine wpAnyH_done (by kernel_rfl) ?_ _
        (try go_wp2_with fail)
        go_meet
        case rel =>
         exact ⟨v2.heap.size, r5, m5, d5, rfl, rfl, cell_set g0 _, hm5, by omega, lt_set g0 _, Y5.setCell (by show W.heap.size ≤ v2.heap.size; omega) _⟩
      refine AllReadyH.cons (o := ?_) ?_ (fun K hK => ?_) AllReadyH.nil
      rotate_left
      ·(simp only [List.getElem?_toArray, List.getElem?_cons_zero, List.getElem?_cons_succ]; rfl)
      ·go_simp
       (try go_wp2_with fail)
       refine hK.out _ _ ?_ (fun hHeld' => ?_)
       ·(try dsimp only)
        exact cell_later ((Below.refl _ _).alloc (Nat.le_refl _) _) k0_1
       clear hK K hHeld
       have hHeld := hHeld'
       clear hHeld'
       (try simp only [Act.put, List.setIfInBounds_toArray, List.set_cons_zero, List.set_cons_succ])
       obtain ⟨v6, hU6⟩ : ∃ u, u = v1.alloc (.cells #[.slice none 0 0] 80) := ⟨_, rfl⟩
       have hb6 : Below v1.heap.size v1 v6 := by rw [hU6]; exact (Below.refl _ _).alloc (Nat.le_refl _) _
       have hp6 : v6.heap[v1.heap.size]? = some (.cells #[.slice none 0 0] 80 (0, 0)) := by rw [hU6]; exact heap_alloc_new _ _
       have zp6 : v6.heap.size = v1.heap.size + 1 := by rw [hU6]; simp
       rw [← hU6]
       clear hU6
       have k0_6 := cell_later hb6 k0_1
       have P_6 := P_1.below hb6
       have Y6 := Y1.trans (hb6.mono Y1.size)
       have zz6 := Y6.size
       have zw6 := hb6.size
       have A0_6 := a1.below hb6
       refine tr 3 (fun K hK => ?_)
       go_simp
       go_at_call 146
       refine (noughts_any q' _ h6').mono ?_
       rintro e v7 ⟨r7, d7, rfl, n7, a7, hb7⟩
       have k0_7 := cell_later hb7 k0_6
       have P_7 := P_6.below hb7
       have Y7 := Y6.trans (hb7.mono Y6.size)
       have zz7 := Y7.size
       have zw7 := hb7.size
       have A0_7 := A0_6.below hb7
       have hp7 := (hb7.block v1.heap.size (Array.getElem?_eq_some_iff.1 hp6).1).trans hp6
       (try go_wp2_with fail)
       refine hK.out _ _ ?_ (fun hHeld' => ?_)
       ·(try dsimp only)
        exact k0_7
       clear hK K hHeld
       have hHeld := hHeld'
       clear hHeld'
       (try simp only [Act.put, List.setIfInBounds_toArray, List.set_cons_zero, List.set_cons_succ])
       refine tr 6 (fun K hK => ?_)
       go_simp
       go_at_call 148
       refine (implJoinRows _ _ _ _ _ _ (List.replicate q 0) (List.replicate q' 0) _ _ _ ps _ (by simp) (by simp) hzp (by omega) (by omega) (by omega) n1 A0_7 a7 P_7).mono ?_
       rintro e v8 ⟨r8, m8, d8, rfl, hm8, ho8, hb8⟩
       rw [← HOK.out]
       have k0_8 := cell_later hb8 k0_7
       have P_8 := P_7.below hb8
       have Y8 := Y7.trans (hb8.mono Y7.size)
       have zz8 := Y8.size
       have zw8 := hb8.size
       have A0_8 := A0_7.below hb8
       have A1_8 := a7.below hb8
       have hp8 := (hb8.block v1.heap.size (Array.getElem?_eq_some_iff.1 hp7).1).trans hp7
       (try go_wp2_with fail)
       refine hK.out _ _ ?_ (fun hHeld' => ?_)
       ·(try dsimp only)
        exact k0_8
       clear hK K hHeld
       have hHeld := hHeld'
       clear hHeld'
       (try simp only [Act.put, List.setIfInBounds_toArray, List.set_cons_zero, List.set_cons_succ])
       refine tk 7 ?_
       refine tk 8 ?_
       refine tk 9 ?_
       have g0 : v8.cell? ⟨v1.heap.size, 0, none⟩ = some (.slice none 0 0) := by rw [cell_of_row _ _ 0 _ _ (0, 0) hp8]; rfl
       have g1 : v8.frozen? ⟨v1.heap.size, 0, none⟩ = false := frozen_of_row _ _ 0 _ _ hp8
       have zc := World.block_lt_of_cell? _ _ c1
       simp only at zc
       refine tr 11 (fun K hK => ?_)
       go_simp
       skip
       (try go_wp2_with fail)
       refine hK.out _ _ ?_ (fun hHeld' => ?_)
       ·(try dsimp only)
        exact keep_far k0_8 (by omega)
       clear hK K hHeld
       have hHeld := hHeld'
       clear hHeld'
       (try simp only [Act.put, List.setIfInBounds_toArray, List.set_cons_zero, List.set_cons_succ])
       refine tk 12 ?_
       refine wpAnyH_done (by kernel_rfl) ?_ _
       (try go_wp2_with fail)
       go_meet
       case rel =>
        exact ⟨v1.heap.size, r8, m8, d8, rfl, rfl, cell_set g0 _, hm8, by omega, lt_set g0 _, Y8.setCell (by show W.heap.size ≤ v1.heap.size; omega) _⟩
     refine AllReadyH.cons (o := ?_) ?_ (fun K hK => ?_) AllReadyH.nil
     rotate_left
     ·(simp only [List.getElem?_toArray, List.getElem?_cons_zero, List.getElem?_cons_succ]; rfl)
     ·go_simp
      (try go_wp2_with fail)
      refine hK.out _ _ ?_ (fun hHeld' => ?_)
      ·(try dsimp only)
       exact cell_later ((Below.refl _ _).alloc (Nat.le_refl _) _) k0_0
      clear hK K hHeld
      have hHeld := hHeld'
      clear hHeld'
      (try simp only [Act.put, List.setIfInBounds_toArray, List.set_cons_zero, List.set_cons_succ])
      obtain ⟨v9, hU9⟩ : ∃ u, u = u0.alloc (.cells #[.slice none 0 0] 80) := ⟨_, rfl⟩
      have hb9 : Below u0.heap.size u0 v9 := by rw [hU9]; exact (Below.refl _ _).alloc (Nat.le_refl _) _
      have hp9 : v9.heap[u0.heap.size]? = some (.cells #[.slice none 0 0] 80 (0, 0)) := by rw [hU9]; exact heap_alloc_new _ _
      have zp9 : v9.heap.size = u0.heap.size + 1 := by rw [hU9]; simp
      rw [← hU9]
      clear hU9
      have k0_9 := cell_later hb9 k0_0
      have P_9 := P_0.below hb9
      have Y9 := Y0.trans (hb9.mono Y0.size)
      have zz9 := Y9.size
      have zw9 := hb9.size
      refine tr 1 (fun K hK => ?_)
      go_simp
      go_at_call 146
      refine (noughts_any q _ h6).mono ?_
      rintro e v10 ⟨r10, d10, rfl, n10, a10, hb10⟩
      have k0_10 := cell_later hb10 k0_9
      have P_10 := P_9.below hb10
      have Y10 := Y9.trans (hb10.mono Y9.size)
      have zz10 := Y10.size
      have zw10 := hb10.size
      have hp10 := (hb10.block u0.heap.size (Array.getElem?_eq_some_iff.1 hp9).1).trans hp9
      (try go_wp2_with fail)
      refine hK.out _ _ ?_ (fun hHeld' => ?_)
      ·(try dsimp only)
       exact k0_10
      clear hK K hHeld
      have hHeld := hHeld'
      clear hHeld'
      (try simp only [Act.put, List.setIfInBounds_toArray, List.set_cons_zero, List.set_cons_succ])
      refine tr 3 (fun K hK => ?_)
      go_simp
      go_at_call 146
      refine (noughts_any q' _ h6').mono ?_
      rintro e v11 ⟨r11, d11, rfl, n11, a11, hb11⟩
      have k0_11 := cell_later hb11 k0_10
      have P_11 := P_10.below hb11
      have Y11 := Y10.trans (hb11.mono Y10.size)
      have zz11 := Y11.size
      have zw11 := hb11.size
      have A0_11 := a10.below hb11
      have hp11 := (hb11.block u0.heap.size (Array.getElem?_eq_some_iff.1 hp10).1).trans hp10
      (try go_wp2_with fail)
      refine hK.out _ _ ?_ (fun hHeld' => ?_)
      ·(try dsimp only)
       exact k0_11
      clear hK K hHeld
      have hHeld := hHeld'
      clear hHeld'
      (try simp only [Act.put, List.setIfInBounds_toArray, List.set_cons_zero, List.set_cons_succ])
      refine tr 6 (fun K hK => ?_)
      go_simp
      go_at_call 148
      refine (implJoinRows _ _ _ _ _ _ (List.replicate q 0) (List.replicate q' 0) _ _ _ ps _ (by simp) (by simp) hzp (by omega) (by omega) (by omega) n10 A0_11 a11 P_11).mono ?_
      rintro e v12 ⟨r12, m12, d12, rfl, hm12, ho12, hb12⟩
      rw [← HOK.out]
      have k0_12 := cell_later hb12 k0_11
      have P_12 := P_11.below hb12
      have Y12 := Y11.trans (hb12.mono Y11.size)
      have zz12 := Y12.size
      have zw12 := hb12.size
      have A0_12 := A0_11.below hb12
      have A1_12 := a11.below hb12
      have hp12 := (hb12.block u0.heap.size (Array.getElem?_eq_some_iff.1 hp11).1).trans hp11
      (try go_wp2_with fail)
      refine hK.out _ _ ?_ (fun hHeld' => ?_)
      ·(try dsimp only)
       exact k0_12
      clear hK K hHeld
      have hHeld := hHeld'
      clear hHeld'
      (try simp only [Act.put, List.setIfInBounds_toArray, List.set_cons_zero, List.set_cons_succ])
      refine tk 7 ?_
      refine tk 8 ?_
      refine tk 9 ?_
      have g0 : v12.cell? ⟨u0.heap.size, 0, none⟩ = some (.slice none 0 0) := by rw [cell_of_row _ _ 0 _ _ (0, 0) hp12]; rfl
      have g1 : v12.frozen? ⟨u0.heap.size, 0, none⟩ = false := frozen_of_row _ _ 0 _ _ hp12
      have zc := World.block_lt_of_cell? _ _ c1
      simp only at zc
      refine tr 11 (fun K hK => ?_)
      go_simp
      skip
      (try go_wp2_with fail)
      refine hK.out _ _ ?_ (fun hHeld' => ?_)
      ·(try dsimp only)
       exact keep_far k0_12 (by omega)
      clear hK K hHeld
      have hHeld := hHeld'
      clear hHeld'
      (try simp only [Act.put, List.setIfInBounds_toArray, List.set_cons_zero, List.set_cons_succ])
      refine tk 12 ?_
      refine wpAnyH_done (by kernel_rfl) ?_ _
      (try go_wp2_with fail)
      go_meet
      case rel =>
       exact ⟨u0.heap.size, r12, m12, d12, rfl, rfl, cell_set g0 _, hm12, by omega, lt_set g0 _, Y12.setCell (by show W.heap.size ≤ u0.heap.size; omega) _⟩
    case rest =>
     obtain ⟨Pb, rs, ms, ds, rfl, rfl, s4, hms, pl, ph, hb3⟩ := hcut
     obtain ⟨w3, rfl⟩ : ∃ x, x = wc := ⟨_, rfl⟩
     have B3 := B0.trans (hb3.mono B0.size)
     have HMS := Hid.mk hms
     clear hb3 hms
     cases ok with
     | false =>
      go_wp2
      refine bodyPost_ret (v := .tuple #[.int .i64 _, .bool _]) (by simp [results, Tryz.results215, go_sem]; exact ⟨rfl, rfl⟩) rfl ?_
      have h0 : ms = 0 := by rw [← HMS.out]; unfold joinAns; rw [← HOK.out]; rfl
      have h1 : ¬ (pairsOk ps q q' = true ∧ joinC q q' ps ≤ 6) := fun h => by have h2 := HON.out; rw [h.1, decide_eq_true h.2] at h2; cases h2
      rw [HT.out, HX.out, Option.bind_some, HX2.out, Option.bind_some, if_neg (by simpa using h1), h0]
      exact ⟨rfl, B3⟩
     | true =>
      go_wp2
      refine bodyPost_ret (v := .tuple #[.int .i64 _, .bool _]) (by simp [results, Tryz.results215, go_sem]; exact ⟨rfl, rfl⟩) rfl ?_
      have h0 : ms = joinC q q' ps := by rw [← HMS.out]; exact joinAns_noughts HOK.out.symm
      have h1 : pairsOk ps q q' = true ∧ joinC q q' ps ≤ 6 := by have h2 := HON.out; simpa using h2.symm
      rw [HT.out, HX.out, Option.bind_some, HX2.out, Option.bind_some, if_pos (by simpa using h1), h0]
      exact ⟨rfl, B3⟩

end Go.Proofs.YthiabjkjpjmahaaGreat
