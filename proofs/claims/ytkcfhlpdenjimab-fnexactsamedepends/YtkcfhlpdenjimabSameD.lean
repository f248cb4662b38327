/- Contracts of allImplied, SameDepends, and the model's SameDepends. -/
import Derived.Test.YtkcfhlpdenjimabCloU
namespace Go.Proofs.Ytkcfhlpdenjimab
open Go.RowKit

noncomputable def allV (xs ys : List Dep) : Bool := xs.all (impV ys)
noncomputable def sameV (xs ys : List Dep) : Bool := allV xs ys && allV ys xs
def sameB (xs ys : List Dep) (C : Int) : Bool := goodDeps xs C && goodDeps ys C
noncomputable def allT (l m : List (Nat × Nat)) : Bool := l.all fun p => sb p.2 (clo m p.1)
theorem allT_eq (xs ys : List Dep) : allT (dms xs) (dms ys) = allV xs ys := by
  unfold allT allV dms
  rw [List.all_map]
  rfl
theorem allT_step {l m : List (Nat × Nat)} {k : Nat} {x : Nat × Nat} (h : l[k]? = some x) : allT (l.drop k) m = (sb x.2 (clo m x.1) && allT (l.drop (k + 1)) m) := by
  obtain ⟨hk, rfl⟩ := List.getElem?_eq_some_iff.1 h
  rw [List.drop_eq_getElem_cons hk]
  rfl
theorem allV_step {l m : List Dep} {k : Nat} {x : Dep} (h : l[k]? = some x) : allV (l.drop k) m = (impV m x && allV (l.drop (k + 1)) m) := by
  obtain ⟨hk, rfl⟩ := List.getElem?_eq_some_iff.1 h
  rw [List.drop_eq_getElem_cons hk]
  rfl

set_option maxRecDepth 100000 in
set_option maxHeartbeats 2000000 in
theorem allImplied_any (a : Option Addr) (n c : Nat) (xs : List (Nat × Nat)) (a' : Option Addr) (n' c' : Nat) (ys : List (Nat × Nat)) (w : World) (hz : xs.length = n) (hn : n ≤ 9223372036854775807) (hs : Sets xs) (ha : AtT w a xs) (hz' : ys.length = n') (hn' : n' ≤ 9223372036854775807) (hs' : Sets ys) (ha' : AtT w a' ys) :
    Calls Try.prog 15 #[.slice a n c, .slice a' n' c'] w fun e w' => e = .returned (.bool (allT xs ys)) ∧ Below w.heap.size w w' := by
  have HA := Hid.mk (And.intro ha ha')
  have HS := Hid.mk (And.intro hs hs')
  have HZ' := Hid.mk hz'
  clear ha ha' hs hs' hz'
  go_enter Try.func15, Try.ntmps15
  go_wp2
  go_loopw [9] (fun i wr => ∃ (k : Nat), k ≤ n ∧ i = .int .i64 k ∧ allT xs ys = allT (xs.drop k) ys ∧ Below w.heap.size w wr) (fun i _ => n - (intOf i).toNat)
  case atStart => exact ⟨0, Nat.zero_le _, rfl, rfl, Below.refl _ _⟩
  case round =>
    obtain ⟨k, hk, rfl, ht, hbw⟩ := hrel
    by_cases hlt : k < n
    · obtain ⟨b, off, rfl, _, hc⟩ := AtT.row (AtSl.below HA.out.1 hbw) (by omega)
      obtain ⟨x, hx⟩ : ∃ x, xs[k]? = some x := ⟨_, List.getElem?_eq_getElem (by omega)⟩
      obtain ⟨g0, g1⟩ := hc k x hx
      have hx64 := HS.out.1 x (List.mem_of_getElem? hx)
      rw [allT_step hx] at ht
      obtain ⟨F, hF⟩ : ∃ F, x.1 = F := ⟨_, rfl⟩
      obtain ⟨D, hD⟩ : ∃ D, x.2 = D := ⟨_, rfl⟩
      rw [hF] at g0 hx64 ht
      rw [hD] at g1 hx64 ht
      have hki : (k : Int) < (n : Int) := by omega
      obtain ⟨W, hW⟩ : ∃ W, W = wr.alloc (.cells #[.int .u64 (F : Nat), .int .u64 (D : Nat)] 53) := ⟨_, rfl⟩
      have HB := Hid.mk (show Below w.heap.size w W by rw [hW]; exact hbw.alloc hbw.size _)
      have K := Hid.mk (implied_any a' n' c' ys F D W HZ'.out hn' HS.out.2 hx64.1 hx64.2 (AtSl.below HA.out.2 HB.out))
      have HT := Hid.mk ht
      clear hc hx hF hD ht hbw hx64
      go_wp2_with fail
      rw [← hW]
      clear hW
      refine K.out.mono ?_
      rintro e w1 ⟨rfl, hb1⟩
      have HB1 := Hid.mk (HB.out.trans (hb1.mono HB.out.size))
      clear hb1 HB K
      cases hr : sb D (clo ys F) with
      | false =>
        go_wp2
        go_ret
        exact ⟨by rw [HT.out, hr]; rfl, HB1.out⟩
      | true =>
        go_wp2
        go_roundw
        case rel => exact ⟨k + 1, by omega, by go_num, by rw [HT.out, hr]; rfl, HB1.out⟩
        case measure => simp [intOf]; omega
    · rw [List.drop_of_length_le (by omega)] at ht
      have HT := Hid.mk ht
      clear ht
      go_wp2
      go_ret
      exact ⟨by rw [HT.out]; rfl, hbw⟩

set_option maxRecDepth 100000 in
set_option maxHeartbeats 4000000 in
theorem implSameDepends (a : Option Addr) (n c : Nat) (xs : List Dep) (a' : Option Addr) (n' c' : Nat) (ys : List Dep) (C : Int) (w : World) (hz : xs.length = n) (hn : n ≤ 1048576) (ha : AtD w a xs) (hz' : ys.length = n') (hn' : n' ≤ 1048576) (ha' : AtD w a' ys) :
    Calls Try.prog 7 #[.slice a n c, .slice a' n' c', .int .i64 C] w fun e w' => e = .returned (.tuple #[.bool (sameB xs ys C && sameV xs ys), .bool (sameB xs ys C)]) ∧ Below w.heap.size w w' := by
  have HA := Hid.mk (And.intro ha ha')
  have HZ := Hid.mk (And.intro hz hz')
  clear ha ha' hz hz'
  go_enter Try.func7, Try.ntmps7
  go_wp2_with fail
  refine (implGoodDepends a n c xs C w HZ.out.1 (by omega) HA.out.1).mono ?_
  rintro e w1 ⟨rfl, B1⟩
  cases hg1 : goodDeps xs C with
  | false =>
    go_wp2
    exact bodyPost_ret (v := .tuple #[.bool false, .bool false]) (by simp [results, Try.results7, go_sem]) rfl ⟨by unfold sameB; rw [hg1]; rfl, B1⟩
  | true =>
    go_wp2_with fail
    refine (implGoodDepends a' n' c' ys C w1 HZ.out.2 (by omega) (AtSl.below HA.out.2 B1)).mono ?_
    rintro e w2 ⟨rfl, hb2⟩
    have B2 := B1.trans (hb2.mono B1.size)
    clear hb2 B1
    cases hg2 : goodDeps ys C with
    | false =>
      go_wp2
      exact bodyPost_ret (v := .tuple #[.bool false, .bool false]) (by simp [results, Try.results7, go_sem]) rfl ⟨by unfold sameB; rw [hg1, hg2]; rfl, B2⟩
    | true =>
      have hsb : sameB xs ys C = true := by unfold sameB; rw [hg1, hg2]; rfl
      have HSB := Hid.mk hsb
      have HSX := Hid.mk (Cols.of hg1).sets
      have HSY := Hid.mk (Cols.of hg2).sets
      have HLX : Hid ((dms xs).length = n) := by show _ = _; simp [dms]; exact HZ.out.1
      have HLY : Hid ((dms ys).length = n') := by show _ = _; simp [dms]; exact HZ.out.2
      clear hsb
      go_wp2_with fail
      refine (tellingsOf_any a n c xs w2 HZ.out.1 hn (Cols.of hg1) (AtSl.below HA.out.1 B2)).mono ?_
      rintro e w3 ⟨r3, d3, rfl, hat3, hb3⟩
      have B3 := B2.trans (hb3.mono B2.size)
      have T3 := Hid.mk hat3
      clear hb3 B2 hat3
      go_wp2_with fail
      refine (tellingsOf_any a' n' c' ys w3 HZ.out.2 hn' (Cols.of hg2) (AtSl.below HA.out.2 B3)).mono ?_
      rintro e w4 ⟨r4, d4, rfl, hat4, hb4⟩
      have B4 := B3.trans (hb4.mono B3.size)
      have T4 := Hid.mk (And.intro (AtSl.below T3.out hb4) hat4)
      clear hb4 B3 hat4 T3
      go_wp2_with fail
      refine (allImplied_any r3 n d3 (dms xs) r4 n' d4 (dms ys) w4 HLX.out (by omega) HSX.out T4.out.1 HLY.out (by omega) HSY.out T4.out.2).mono ?_
      rintro e w5 ⟨rfl, hb5⟩
      have B5 := B4.trans (hb5.mono B4.size)
      have T5 := Hid.mk (And.intro (AtSl.below T4.out.1 hb5) (AtSl.below T4.out.2 hb5))
      clear hb5 B4 T4
      rw [allT_eq]
      cases hr1 : allV xs ys with
      | false =>
        go_wp2
        exact bodyPost_ret (v := .tuple #[.bool false, .bool true]) (by simp [results, Try.results7, go_sem]) rfl ⟨by rw [HSB.out]; unfold sameV; rw [hr1]; rfl, B5⟩
      | true =>
        go_wp2_with fail
        refine (allImplied_any r4 n' d4 (dms ys) r3 n d3 (dms xs) w5 HLY.out (by omega) HSY.out T5.out.2 HLX.out (by omega) HSX.out T5.out.1).mono ?_
        rintro e w6 ⟨rfl, hb6⟩
        have B6 := B5.trans (hb6.mono B5.size)
        clear hb6 B5 T5
        rw [allT_eq]
        go_wp2
        exact bodyPost_ret (v := .tuple #[.bool (allV ys xs), .bool true]) (by simp [results, Try.results7, go_sem]) rfl ⟨by rw [HSB.out]; unfold sameV; rw [hr1]; rfl, B6⟩

set_option maxRecDepth 100000 in
set_option maxHeartbeats 4000000 in
theorem specSameDepends (a : Option Addr) (n c : Nat) (xs : List Dep) (a' : Option Addr) (n' c' : Nat) (ys : List Dep) (C : Int) (w : World) (hz : xs.length = n) (hn : n ≤ 1048576) (ha : AtD w a xs) (hz' : ys.length = n') (hn' : n' ≤ 1048576) (ha' : AtD w a' ys) :
    Calls Try.prog 5 #[.slice a n c, .slice a' n' c', .int .i64 C] w fun e w' => e = .returned (.tuple #[.bool (sameB xs ys C && sameV xs ys), .bool (sameB xs ys C)]) ∧ Below w.heap.size w w' := by
  have HA := Hid.mk (And.intro ha ha')
  have HZ := Hid.mk (And.intro hz hz')
  clear ha ha' hz hz'
  go_enter Try.func5, Try.ntmps5
  go_wp2_with fail
  refine (specGoodDepends a n c xs C w HZ.out.1 (by omega) HA.out.1).mono ?_
  rintro e w1 ⟨rfl, B1⟩
  cases hg1 : goodDeps xs C with
  | false =>
    go_wp2
    exact bodyPost_ret (v := .tuple #[.bool false, .bool false]) (by simp [results, Try.results5, go_sem]) rfl ⟨by unfold sameB; rw [hg1]; rfl, B1⟩
  | true =>
    go_wp2_with fail
    refine (specGoodDepends a' n' c' ys C w1 HZ.out.2 (by omega) (AtSl.below HA.out.2 B1)).mono ?_
    rintro e w2 ⟨rfl, hb2⟩
    have B2 := B1.trans (hb2.mono B1.size)
    clear hb2 B1
    cases hg2 : goodDeps ys C with
    | false =>
      go_wp2
      exact bodyPost_ret (v := .tuple #[.bool false, .bool false]) (by simp [results, Try.results5, go_sem]) rfl ⟨by unfold sameB; rw [hg1, hg2]; rfl, B2⟩
    | true =>
      have hsb : sameB xs ys C = true := by unfold sameB; rw [hg1, hg2]; rfl
      have HSB := Hid.mk hsb
      have HTX := Hid.mk (Tolds.of hg1)
      have HTY := Hid.mk (Tolds.of hg2)
      clear hsb
      go_wp2_with fail
      go_loopw [24] (fun i wr => ∃ (k : Nat), k ≤ n ∧ i = .int .i64 k ∧ allV xs ys = allV (xs.drop k) ys ∧ Below w.heap.size w wr) (fun i _ => n - (intOf i).toNat)
      case atStart => exact ⟨0, Nat.zero_le _, rfl, rfl, B2⟩
      case round =>
        clear B2
        obtain ⟨k, hk, rfl, ht, hbw⟩ := hrel
        by_cases hlt : k < n
        · obtain ⟨b, off, rfl, hc⟩ := AtD.rowD (AtSl.below HA.out.1 hbw) (by have := HZ.out.1; omega)
          obtain ⟨x, hx⟩ : ∃ x, xs[k]? = some x := ⟨_, List.getElem?_eq_getElem (by have := HZ.out.1; omega)⟩
          obtain ⟨fa, fn, fc, ta, tn, tc, g0, g1, hd⟩ := hc k x hx
          rw [allV_step hx] at ht
          have hki : (k : Int) < (n : Int) := by omega
          obtain ⟨W, hW⟩ : ∃ W, W = wr.alloc (.cells #[.slice fa fn fc, .slice ta tn tc] 35) := ⟨_, rfl⟩
          have bW : Below wr.heap.size wr W := by rw [hW]; exact (Below.refl _ _).alloc (Nat.le_refl _) _
          have HB := Hid.mk (hbw.trans (bW.mono hbw.size))
          have hxt := HTX.out x (List.mem_of_getElem? hx)
          have K := Hid.mk (l7Implies_any a' n' c' ys fa fn fc ta tn tc x W HZ.out.2 hn' HTY.out (AtSl.below HA.out.2 HB.out) hxt.1 hxt.2 (RDep.below hd bW))
          have HT := Hid.mk ht
          clear hc hx ht hbw hd bW hxt
          go_wp2_with fail
          rw [← hW]
          clear hW
          refine K.out.mono ?_
          rintro e w3 ⟨rfl, hb3⟩
          have HB3 := Hid.mk (HB.out.trans (hb3.mono HB.out.size))
          clear hb3 HB K
          cases hr : impV ys x with
          | false =>
            go_wp2
            exact bodyPost_ret (v := .tuple #[.bool false, .bool true]) (by simp [results, Try.results5, go_sem]) rfl ⟨by rw [HSB.out]; unfold sameV; rw [HT.out, hr]; rfl, HB3.out⟩
          | true =>
            go_wp2
            go_roundw
            case rel => exact ⟨k + 1, by omega, by go_num, by rw [HT.out, hr]; rfl, HB3.out⟩
            case measure => simp [intOf]; omega
        · rw [List.drop_of_length_le (by have := HZ.out.1; omega)] at ht
          have HT1 : Hid (allV xs ys = true) := ht
          have HB0 := Hid.mk hbw
          clear ht hbw
          go_wp2_with fail
          go_loopw [35] (fun i wr => ∃ (k : Nat), k ≤ n' ∧ i = .int .i64 k ∧ allV ys xs = allV (ys.drop k) xs ∧ Below w.heap.size w wr) (fun i _ => n' - (intOf i).toNat)
          case atStart => exact ⟨0, Nat.zero_le _, rfl, rfl, HB0.out⟩
          case round =>
            clear HB0
            obtain ⟨j, hj, rfl, ht, hbw⟩ := hrel
            by_cases hjlt : j < n'
            · obtain ⟨b, off, rfl, hc⟩ := AtD.rowD (AtSl.below HA.out.2 hbw) (by have := HZ.out.2; omega)
              obtain ⟨x, hx⟩ : ∃ x, ys[j]? = some x := ⟨_, List.getElem?_eq_getElem (by have := HZ.out.2; omega)⟩
              obtain ⟨fa, fn, fc, ta, tn, tc, g0, g1, hd⟩ := hc j x hx
              rw [allV_step hx] at ht
              have hki : (j : Int) < (n' : Int) := by omega
              obtain ⟨W, hW⟩ : ∃ W, W = wr.alloc (.cells #[.slice fa fn fc, .slice ta tn tc] 35) := ⟨_, rfl⟩
              have bW : Below wr.heap.size wr W := by rw [hW]; exact (Below.refl _ _).alloc (Nat.le_refl _) _
              have HB := Hid.mk (hbw.trans (bW.mono hbw.size))
              have hxt := HTY.out x (List.mem_of_getElem? hx)
              have K := Hid.mk (l7Implies_any a n c xs fa fn fc ta tn tc x W HZ.out.1 hn HTX.out (AtSl.below HA.out.1 HB.out) hxt.1 hxt.2 (RDep.below hd bW))
              have HT := Hid.mk ht
              clear hc hx ht hbw hd bW hxt
              go_wp2_with fail
              rw [← hW]
              clear hW
              refine K.out.mono ?_
              rintro e w3 ⟨rfl, hb3⟩
              have HB3 := Hid.mk (HB.out.trans (hb3.mono HB.out.size))
              clear hb3 HB K
              cases hr : impV xs x with
              | false =>
                go_wp2
                exact bodyPost_ret (v := .tuple #[.bool false, .bool true]) (by simp [results, Try.results5, go_sem]) rfl ⟨by rw [HSB.out]; unfold sameV; rw [HT1.out, HT.out, hr]; rfl, HB3.out⟩
              | true =>
                go_wp2
                go_roundw
                case rel => exact ⟨j + 1, by omega, by go_num, by rw [HT.out, hr]; rfl, HB3.out⟩
                case measure => simp [intOf]; omega
            · rw [List.drop_of_length_le (by have := HZ.out.2; omega)] at ht
              have HT2 : Hid (allV ys xs = true) := ht
              clear ht
              go_wp2
              exact bodyPost_ret (v := .tuple #[.bool true, .bool true]) (by simp [results, Try.results5, go_sem]) rfl ⟨by rw [HSB.out]; unfold sameV; rw [HT1.out, HT2.out]; rfl, hbw⟩

end Go.Proofs.Ytkcfhlpdenjimab
