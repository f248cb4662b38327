/- Contracts of spec.l14Ended, spec.GoodLocks. -/
import Derived.Test.YtjjebodlekepaaaDoorM8
import Derived.Test.YtjjebodlekepaaaDoorM13
import Derived.Test.YtjjebodlekepaaaDoorM10
namespace Go.Proofs.YtjjebodlekepaaaDoor
open Go.RowKit

theorem clB_symm (x y : TStep) : clB x y = clB y x := by
  unfold clB
  rw [Bool.or_comm (decide (y.2.1 = 2)), show decide (y.1 ≠ x.1) = decide (x.1 ≠ y.1) from decide_eq_decide.2 ne_comm, show decide (y.2.2 = x.2.2) = decide (x.2.2 = y.2.2) from decide_eq_decide.2 eq_comm]
theorem all_takeS {α : Type} {p : α → Bool} {l : List α} {j : Nat} {y : α} (h : l[j]? = some y) : (l.take (j + 1)).all p = ((l.take j).all p && p y) := by
  obtain ⟨hj, rfl⟩ := List.getElem?_eq_some_iff.1 h
  rw [List.take_succ_eq_append_getElem hj, List.all_append]; simp
def waitAt (W : List TStep) (D S : List Int) (i : Nat) : Bool := !endedB D S (W.getD i z3).1 && (W.take i).all fun z => !decide (z.1 = (W.getD i z3).1)
def leftAt (l : List Int) (i : Nat) : Bool := tOk (l.getD i 0) && !decide (l.getD i 0 ∈ l.take i)
def leftG (l : List Int) : Bool := inB6 l && decide l.Nodup
theorem nodup_takes {l : List Int} : l.Nodup ↔ ∀ i, i < l.length → l.getD i 0 ∉ l.take i := by
  constructor
  · intro h i hi hm
    obtain ⟨j, hj, e⟩ := List.getElem_of_mem hm
    rw [List.length_take] at hj
    have hji : j < i := by omega
    have hne := List.pairwise_iff_getElem.1 h j i (by omega) hi hji
    apply hne
    rw [List.getElem_take] at e
    rw [e]; simp [List.getD, hi]
  · intro h
    refine List.pairwise_iff_getElem.2 fun i j hi hj hij e => ?_
    refine h j hj ?_
    rw [show l.getD j 0 = l[j] by simp [List.getD, hj], ← e]
    exact List.mem_of_getElem? (i := i) (by rw [List.getElem?_take, if_pos hij, List.getElem?_eq_getElem hi])
theorem left_no {l : List Int} {k : Nat} (hk : k < l.length) (h : leftAt l k = false) : leftG l = false := by
  refine Bool.eq_false_iff.2 fun h9 => ?_
  unfold leftG at h9
  rw [Bool.and_eq_true, decide_eq_true_eq] at h9
  have h1 := inB6_iff.1 h9.1 (l.getD k 0) (by simp [List.getD, hk])
  have h2 := nodup_takes.1 h9.2 k hk
  unfold leftAt at h
  rw [tOk_iff.2 h1, decide_eq_false h2] at h
  cases h
theorem left_all {l : List Int} (h : ∀ i, i < l.length → leftAt l i = true) : leftG l = true := by
  unfold leftG
  rw [Bool.and_eq_true, decide_eq_true_eq]
  have h1 : ∀ i, i < l.length → tOk (l.getD i 0) = true ∧ l.getD i 0 ∉ l.take i := fun i hi => by
    have := h i hi
    unfold leftAt at this
    simpa using this
  refine ⟨inB6_iff.2 fun x hx => ?_, nodup_takes.2 fun i hi => (h1 i hi).2⟩
  obtain ⟨i, hi, rfl⟩ := List.getElem_of_mem hx
  have := tOk_iff.1 (h1 i hi).1
  simpa [List.getD, hi] using this
theorem wait_all {W : List TStep} {D S : List Int} (h : ∀ i, i < W.length → waitAt W D S i = true) : (W.all fun x => !endedB D S x.1) = true ∧ (txL W).Nodup := by
  have h1 : ∀ i (hi : i < W.length), endedB D S W[i].1 = false ∧ ∀ z ∈ W.take i, z.1 ≠ W[i].1 := fun i hi => by
    have := h i hi
    unfold waitAt at this
    rw [show W.getD i z3 = W[i] by simp [List.getD, hi]] at this
    simpa using this
  refine ⟨List.all_eq_true.2 fun x hx => ?_, ?_⟩
  · obtain ⟨i, hi, rfl⟩ := List.getElem_of_mem hx
    rw [(h1 i hi).1]; rfl
  · refine List.pairwise_iff_getElem.2 fun i j hi hj hij e => ?_
    unfold txL at hi hj e
    rw [List.length_map] at hi hj
    rw [List.getElem_map, List.getElem_map] at e
    exact (h1 j hj).2 W[i] (List.mem_of_getElem? (i := i) (by rw [List.getElem?_take, if_pos hij, List.getElem?_eq_getElem hi])) e
theorem wait_no {W : List TStep} {D S : List Int} {k : Nat} (hk : k < W.length) (h : waitAt W D S k = false) : ((W.all fun x => !endedB D S x.1) && decide (txL W).Nodup) = false := by
  refine Bool.eq_false_iff.2 fun h9 => ?_
  rw [Bool.and_eq_true, decide_eq_true_eq] at h9
  unfold waitAt at h
  rw [show W.getD k z3 = W[k] by simp [List.getD, hk]] at h
  have h1 := List.all_eq_true.1 h9.1 W[k] (List.getElem_mem hk)
  rw [h1, Bool.true_and] at h
  obtain ⟨z, hz, hze⟩ := List.all_eq_false.1 h
  obtain ⟨j, hj, rfl⟩ := List.getElem_of_mem hz
  rw [List.length_take] at hj
  rw [List.getElem_take] at hze
  have h2 := List.pairwise_iff_getElem.1 h9.2 j k (by unfold txL; rw [List.length_map]; omega) (by unfold txL; rw [List.length_map]; exact hk) (by omega)
  unfold txL at h2
  rw [List.getElem_map, List.getElem_map] at h2
  simp at hze
  exact h2 hze

set_option maxHeartbeats 1000000 in
theorem l14Ended_any (a0 a1 a2 a3 a4 : Option Addr) (n0 c0 n1 c1 n2 c2 n3 c3 n4 c4 : Nat) (x3 x4 : List Int) (t : Int) (w : World) (hz3 : x3.length = n3) (hz4 : x4.length = n4) (hs3 : n3 ≤ 1048576) (hs4 : n4 ≤ 1048576) (ha3 : At w a3 x3) (ha4 : At w a4 x4) :
    Calls Tryd.prog 28 #[.agg #[.slice a0 n0 c0, .slice a1 n1 c1, .slice a2 n2 c2, .slice a3 n3 c3, .slice a4 n4 c4], .int .i64 t] w fun e w' => e = .returned (.bool (endedB x3 x4 t)) ∧ Below w.heap.size w w' := by
  obtain ⟨W, hW⟩ : ∃ W, W = w.alloc (.cells #[.slice a0 n0 c0, .slice a1 n1 c1, .slice a2 n2 c2, .slice a3 n3 c3, .slice a4 n4 c4] 30) := ⟨_, rfl⟩
  have B0 : Below w.heap.size w W := by rw [hW]; exact (Below.refl _ _).alloc (Nat.le_refl _) _
  have p3 : W.cell? ⟨w.heap.size, 3, none⟩ = some (.slice a3 n3 c3) := by rw [hW]; simp
  have p4 : W.cell? ⟨w.heap.size, 4, none⟩ = some (.slice a4 n4 c4) := by rw [hW]; simp
  have K3 := Hid.mk (l1Has_any a3 n3 c3 x3 t W hz3 (by omega) (At.below ha3 B0))
  have K4 := Hid.mk (l1Has_any a4 n4 c4 x4 t W hz4 (by omega) (At.below ha4 B0))
  clear ha3 ha4 hz3 hz4
  by_cases h3 : t ∈ x3
  · have HF : Hid (endedB x3 x4 t = true) := Hid.mk (by unfold endedB; rw [decide_eq_true h3]; rfl)
    rw [decide_eq_true h3] at K3
    clear h3
    go_enter Tryd.func28, Tryd.ntmps28
    go_wp2_with fail
    rw [← hW]
    clear hW
    refine K3.out.mono ?_
    rintro e w1 ⟨rfl, hw1⟩
    obtain rfl := hw1.symm
    go_wp2
    go_ret
    exact ⟨ret_bool (by rw [HF.out]), B0⟩
  · have HF : Hid (endedB x3 x4 t = decide (t ∈ x4)) := Hid.mk (by unfold endedB; rw [decide_eq_false h3]; rfl)
    rw [decide_eq_false h3] at K3
    obtain ⟨E, hE⟩ : ∃ E, decide (t ∈ x4) = E := ⟨_, rfl⟩
    rw [hE] at K4 HF
    clear h3 hE
    go_enter Tryd.func28, Tryd.ntmps28
    go_wp2_with fail
    rw [← hW]
    clear hW
    refine K3.out.mono ?_
    rintro e w1 ⟨rfl, hw1⟩
    obtain rfl := hw1.symm
    go_wp2_with fail
    refine K4.out.mono ?_
    rintro e w1 ⟨rfl, hw1⟩
    obtain rfl := hw1.symm
    go_wp2
    go_ret
    exact ⟨ret_bool (by rw [HF.out]), B0⟩

set_option maxRecDepth 100000 in
set_option maxHeartbeats 1500000 in
theorem specGoodLocks (a0 : Option Addr) (a1 : Option Addr) (a2 : Option Addr) (a3 : Option Addr) (a4 : Option Addr) (n0 c0 n1 c1 n2 c2 n3 c3 n4 c4 : Nat) (x0 x1 x2 : List TStep) (x3 x4 : List Int) (w : World) (hz0 : x0.length = n0) (hs0 : n0 ≤ 1048576) (hc0 : n0 ≤ c0) (_hF0 : a0 = none → c0 = 0) (ha0 : At w a0 (flStep x0)) (hz1 : x1.length = n1) (hs1 : n1 ≤ 1048576) (hc1 : n1 ≤ c1) (_hF1 : a1 = none → c1 = 0) (ha1 : At w a1 (flStep x1)) (hz2 : x2.length = n2) (hs2 : n2 ≤ 1048576) (_hc2 : n2 ≤ c2) (_hF2 : a2 = none → c2 = 0) (ha2 : At w a2 (flStep x2)) (hz3 : x3.length = n3) (hs3 : n3 ≤ 1048576) (_hc3 : n3 ≤ c3) (hF3 : a3 = none → c3 = 0) (ha3 : At w a3 x3) (hz4 : x4.length = n4) (hs4 : n4 ≤ 1048576) (_hc4 : n4 ≤ c4) (hF4 : a4 = none → c4 = 0) (ha4 : At w a4 x4) :
    Calls Tryd.prog 8 #[.agg #[.slice a0 n0 c0, .slice a1 n1 c1, .slice a2 n2 c2, .slice a3 n3 c3, .slice a4 n4 c4]] w fun e w' => e = .returned (.bool (glB (x0, x1, x2, x3, x4))) ∧ Below w.heap.size w w' := by
  obtain ⟨i0, hi, hz0_, hz1_, hz2_⟩ := info_parts Tryd.infoInt
  obtain ⟨W, hW⟩ : ∃ W, W = w.alloc (.cells #[.slice a0 n0 c0, .slice a1 n1 c1, .slice a2 n2 c2, .slice a3 n3 c3, .slice a4 n4 c4] 30) := ⟨_, rfl⟩
  have B0 : Below w.heap.size w W := by rw [hW]; exact (Below.refl _ _).alloc (Nat.le_refl _) _
  have HSZ : Hid (w.heap.size < W.heap.size) := Hid.mk (by rw [hW]; simp)
  have p0 : W.cell? ⟨w.heap.size, 0, none⟩ = some (.slice a0 n0 c0) := by rw [hW]; simp
  have p1 : W.cell? ⟨w.heap.size, 1, none⟩ = some (.slice a1 n1 c1) := by rw [hW]; simp
  have p2 : W.cell? ⟨w.heap.size, 2, none⟩ = some (.slice a2 n2 c2) := by rw [hW]; simp
  have p3 : W.cell? ⟨w.heap.size, 3, none⟩ = some (.slice a3 n3 c3) := by rw [hW]; simp
  have p4 : W.cell? ⟨w.heap.size, 4, none⟩ = some (.slice a4 n4 c4) := by rw [hW]; simp
  have KE : Hid (∀ (t : Int) (w' : World), Below W.heap.size W w' → Calls Tryd.prog 28 #[.agg #[.slice a0 n0 c0, .slice a1 n1 c1, .slice a2 n2 c2, .slice a3 n3 c3, .slice a4 n4 c4], .int .i64 t] w' fun e w'' => e = .returned (.bool (endedB x3 x4 t)) ∧ Below w'.heap.size w' w'') := Hid.mk (fun t w' hw' => l14Ended_any a0 a1 a2 a3 a4 n0 c0 n1 c1 n2 c2 n3 c3 n4 c4 x3 x4 t w' hz3 hz4 hs3 hs4 (At.below (At.below ha3 B0) hw') (At.below (At.below ha4 B0) hw'))
  have KG0 := Hid.mk (specGoodSteps a0 n0 c0 x0 W hz0 (by omega) (At.below ha0 B0))
  have KG1 : Hid (∀ w' : World, Below W.heap.size W w' → Calls Tryd.prog 27 #[.slice a1 n1 c1] w' fun e w'' => e = .returned (.bool (gpB x1)) ∧ Below w'.heap.size w' w'') := Hid.mk (fun w' hw' => specGoodSteps a1 n1 c1 x1 w' hz1 (by omega) (At.below (At.below ha1 B0) hw'))
  have KG2 : Hid (∀ w' : World, Below W.heap.size W w' → Calls Tryd.prog 27 #[.slice a2 n2 c2] w' fun e w'' => e = .returned (.bool (gpB x2)) ∧ Below w'.heap.size w' w'') := Hid.mk (fun w' hw' => specGoodSteps a2 n2 c2 x2 w' hz2 (by omega) (At.below (At.below ha2 B0) hw'))
  have HBW := Hid.mk B0
  have HP0 := Hid.mk p0
  have HP1 := Hid.mk p1
  have HP2 := Hid.mk p2
  have HP3 := Hid.mk p3
  have HP4 := Hid.mk p4
  have HA0 := Hid.mk (At.below ha0 HBW.out)
  have HZ0 := Hid.mk hz0
  clear ha0 hz0
  have HA1 := Hid.mk (At.below ha1 HBW.out)
  have HZ1 := Hid.mk hz1
  clear ha1 hz1
  have HA2 := Hid.mk (At.below ha2 HBW.out)
  have HZ2 := Hid.mk hz2
  clear ha2 hz2
  have HA3 := Hid.mk (At.below ha3 HBW.out)
  have HZ3 := Hid.mk hz3
  clear ha3 hz3
  have HA4 := Hid.mk (At.below ha4 HBW.out)
  have HZ4 := Hid.mk hz4
  clear ha4 hz4
  clear B0
  have HDEF0 : Hid (glB (x0, x1, x2, x3, x4) = (gpB x0 && gpB x1 && gpB x2 && heldB x0 && (x0.all fun x => !endedB x3 x4 x.1) && (x1.all fun x => !endedB x3 x4 x.1) && decide (txL x1).Nodup && inB6 (x3 ++ x4) && decide (x3 ++ x4).Nodup && decide (x2.length + x1.length ≤ 40))) := Hid.mk rfl
  have HNG : Hid (heldB x0 = false → glB (x0, x1, x2, x3, x4) = false) := Hid.mk (fun h => by rw [HDEF0.out, h]; simp)
  have HNE0 : Hid (∀ y ∈ x0, endedB x3 x4 y.1 = true → glB (x0, x1, x2, x3, x4) = false) := Hid.mk (fun y hy h => by
    rw [HDEF0.out, List.all_eq_false.2 ⟨y, hy, by rw [h]; decide⟩]; simp)
  have HNW : Hid (∀ {k : Nat}, k < x1.length → waitAt x1 x3 x4 k = false → glB (x0, x1, x2, x3, x4) = false) := Hid.mk (fun hk h => by
    have h9 := wait_no hk h
    rw [HDEF0.out]
    rcases Bool.and_eq_false_iff.1 h9 with h8 | h8 <;> rw [h8] <;> simp)
  have HNL : Hid (leftG (x3 ++ x4) = false → glB (x0, x1, x2, x3, x4) = false) := Hid.mk (fun h => by
    rw [HDEF0.out]
    rcases Bool.and_eq_false_iff.1 h with h8 | h8 <;> rw [h8] <;> simp)
  go_enter Tryd.func8, Tryd.ntmps8
  go_upto_region 1 with fail
  rw [← hW]
  clear hW
  go_wp2_with fail
  refine KG0.out.mono ?_
  rintro e w1 ⟨rfl, hb1⟩
  clear KG0
  have p0 := cell_later hb1 p0
  have p1 := cell_later hb1 p1
  have p2 := cell_later hb1 p2
  have p3 := cell_later hb1 p3
  have p4 := cell_later hb1 p4
  have HB1 := Hid.mk hb1
  clear hb1
  cases h0 : gpB x0 with
  | false =>
    have HNO : Hid (glB (x0, x1, x2, x3, x4) = false) := Hid.mk (by rw [HDEF0.out, h0]; rfl)
    go_wp2
    go_ret
    exact ⟨ret_bool (by rw [HNO.out]), HBW.out.trans (HB1.out.mono HBW.out.size)⟩
  | true =>
    go_wp2_with fail
    refine (KG1.out w1 HB1.out).mono ?_
    rintro e w2 ⟨rfl, hb2⟩
    have p0 := cell_later hb2 p0
    have p1 := cell_later hb2 p1
    have p2 := cell_later hb2 p2
    have p3 := cell_later hb2 p3
    have p4 := cell_later hb2 p4
    have HB2 := Hid.mk (HB1.out.trans (hb2.mono HB1.out.size))
    clear hb2
    cases h1 : gpB x1 with
    | false =>
      have HNO : Hid (glB (x0, x1, x2, x3, x4) = false) := Hid.mk (by rw [HDEF0.out, h0, h1]; rfl)
      go_wp2
      go_ret
      exact ⟨ret_bool (by rw [HNO.out]), HBW.out.trans (HB2.out.mono HBW.out.size)⟩
    | true =>
      go_wp2_with fail
      refine (KG2.out w2 HB2.out).mono ?_
      rintro e w3 ⟨rfl, hb3⟩
      have p0 := cell_later hb3 p0
      have p1 := cell_later hb3 p1
      have p2 := cell_later hb3 p2
      have p3 := cell_later hb3 p3
      have p4 := cell_later hb3 p4
      have HB3 := Hid.mk (HB2.out.trans (hb3.mono HB2.out.size))
      clear hb3
      cases h2 : gpB x2 with
      | false =>
        have HNO : Hid (glB (x0, x1, x2, x3, x4) = false) := Hid.mk (by rw [HDEF0.out, h0, h1, h2]; rfl)
        go_wp2
        go_ret
        exact ⟨ret_bool (by rw [HNO.out]), HBW.out.trans (HB3.out.mono HBW.out.size)⟩
      | true =>
        have HYES : Hid (heldB x0 = true → (x0.all fun x => !endedB x3 x4 x.1) = true → (∀ i, i < x1.length → waitAt x1 x3 x4 i = true) → leftG (x3 ++ x4) = true → glB (x0, x1, x2, x3, x4) = decide (n2 + n1 ≤ 40)) := Hid.mk (fun q1 q2 q3 q4 => by
          obtain ⟨q5, q6⟩ := wait_all q3
          unfold leftG at q4
          rw [Bool.and_eq_true, decide_eq_true_eq] at q4
          rw [HDEF0.out, h0, h1, h2, q1, q2, q5, decide_eq_true q6, q4.1, decide_eq_true q4.2, HZ1.out, HZ2.out]; rfl)
        have hn0 : n0 ≤ 40 := by have := gp_len h0; have := HZ0.out; omega
        have hn1 : n1 ≤ 40 := by have := gp_len h1; have := HZ1.out; omega
        clear h0 h1 h2 KG1 KG2
        go_wp2
        go_loopw [33] (fun i wr => ∃ (k : Nat), k ≤ n0 ∧ i = .int .i64 k ∧ (∀ i, i < k → heldAt x0 i = true ∧ ∀ x, x0[i]? = some x → endedB x3 x4 x.1 = false) ∧ Below W.heap.size W wr) (fun i _ => n0 - (intOf i).toNat)
        case atStart => exact ⟨0, Nat.zero_le _, rfl, fun i h => by omega, HB3.out⟩
        case round =>
          clear HB1 HB2 HB3
          skip
          obtain ⟨k, hk, rfl, hin, hbw⟩ := hrel
          obtain ⟨wY, rfl⟩ : ∃ x, x = wr := ⟨_, rfl⟩
          have HIN := Hid.mk hin
          clear hin
          by_cases hlt : k < n0
          · obtain ⟨⟨y0, y1, y2⟩, hx⟩ : ∃ x, x0[k]? = some x := ⟨_, List.getElem?_eq_getElem (by have := HZ0.out; omega)⟩
            obtain ⟨b, off, rfl, hb, hc⟩ := flStep_some HA0.out (by have := HZ0.out; omega)
            obtain ⟨e0, e1, e2⟩ := hc k _ hx
            have e0 := (hbw.cell hb).trans e0
            have e1 := (hbw.cell hb).trans e1
            have e2 := (hbw.cell hb).trans e2
            have hkx : k < x0.length := by have := HZ0.out; omega
            simp only at e0 e1 e2
            have hki : (k : Int) < (n0 : Int) := by omega
            obtain ⟨V, hV⟩ : ∃ V, V = wY.alloc (.cells #[.int .i64 y0, .int .i64 y1, .int .i64 y2] 51) := ⟨_, rfl⟩
            have hbV : Below wY.heap.size wY V := by rw [hV]; exact (Below.refl _ _).alloc (Nat.le_refl _) _
            have v0 : V.cell? ⟨wY.heap.size, 0, none⟩ = some (.int .i64 y0) := by rw [hV]; simp
            have v1 : V.cell? ⟨wY.heap.size, 1, none⟩ = some (.int .i64 y1) := by rw [hV]; simp
            have v2 : V.cell? ⟨wY.heap.size, 2, none⟩ = some (.int .i64 y2) := by rw [hV]; simp
            have HB := Hid.mk (hbw.trans (hbV.mono hbw.size))
            have p0 := cell_later HB.out HP0.out
            have p1 := cell_later HB.out HP1.out
            have p2 := cell_later HB.out HP2.out
            have p3 := cell_later HB.out HP3.out
            have p4 := cell_later HB.out HP4.out

            have HC : Hid (∀ (i : Nat) (x : TStep), x0[i]? = some x → W.cell? ⟨b, off + i * 3, none⟩ = some (.int .i64 x.1) ∧ W.cell? ⟨b, off + i * 3 + 1, none⟩ = some (.int .i64 x.2.1) ∧ W.cell? ⟨b, off + i * 3 + 2, none⟩ = some (.int .i64 x.2.2)) := Hid.mk hc
            have HDEF : Hid (heldAt x0 k = ((decide (k = 0) || lessS (x0.getD (k - 1) z3) (y0, y1, y2)) && (x0.take k).all fun y => !clB y (y0, y1, y2))) := Hid.mk (by
              unfold heldAt; rw [show x0.getD k z3 = (y0, y1, y2) by simp [List.getD, hx]])
            have HX := Hid.mk hx
            have hkc : k ≤ c0 := by omega
            obtain ⟨E, hE⟩ : ∃ E, endedB x3 x4 y0 = E := ⟨_, rfl⟩
            have HEN := Hid.mk hE
            clear hc hx hbw hbV hE
            cases E with
            | true =>
              have HNO : Hid (glB (x0, x1, x2, x3, x4) = false) := Hid.mk (HNE0.out _ (List.mem_of_getElem? HX.out) HEN.out)
              go_upto_region 6 with fail
              rw [← hV]
              clear hV e0 e1 e2
              refine wp_region_held_drew (S := fun w' => w'.cell? ⟨w.heap.size, 0, none⟩ = some (.slice (some ⟨b, off, none⟩) n0 c0) ∧ w'.cell? ⟨w.heap.size, 1, none⟩ = some (.slice a1 n1 c1) ∧ w'.cell? ⟨w.heap.size, 2, none⟩ = some (.slice a2 n2 c2) ∧ w'.cell? ⟨w.heap.size, 3, none⟩ = some (.slice a3 n3 c3) ∧ w'.cell? ⟨w.heap.size, 4, none⟩ = some (.slice a4 n4 c4) ∧ w'.cell? ⟨wY.heap.size, 0, none⟩ = some (.int .i64 y0) ∧ w'.cell? ⟨wY.heap.size, 1, none⟩ = some (.int .i64 y1) ∧ w'.cell? ⟨wY.heap.size, 2, none⟩ = some (.int .i64 y2)) (by kernel_rfl) ?_ (fun hHeld => ?_)
              · (try dsimp only)
                exact ⟨p0, p1, p2, p3, p4, v0, v1, v2⟩
              refine tk 0 ?_
              refine tk 1 ?_
              refine tk 2 ?_
              refine tr 3 (fun K hK => ?_)
              go_simp
              go_at_call 28
              refine (KE.out y0 _ HB.out.drew).mono ?_
              rintro e w2 ⟨rfl, hb2⟩
              have hbd : Below V.heap.size V w2 := (Below.refl _ _).drew.trans hb2
              have p0 := cell_later hbd p0
              have p1 := cell_later hbd p1
              have p2 := cell_later hbd p2
              have p3 := cell_later hbd p3
              have p4 := cell_later hbd p4
              have v0 := cell_later hbd v0
              have v1 := cell_later hbd v1
              have v2 := cell_later hbd v2
              have HB2 := Hid.mk (HB.out.trans (hbd.mono HB.out.size))
              rw [HEN.out]
              clear hb2 hbd
              (try go_wp2_with fail)
              refine hK.out _ _ ?_ (fun hHeld' => ?_)
              · (try dsimp only)
                exact ⟨p0, p1, p2, p3, p4, v0, v1, v2⟩
              clear hK K hHeld
              have hHeld := hHeld'
              clear hHeld'
              (try simp only [Act.put, List.setIfInBounds_toArray, List.set_cons_zero, List.set_cons_succ])
              refine tk 4 ?_
              refine tu 5 ?_
              refine tu 6 ?_
              refine tu 7 ?_
              refine tu 8 ?_
              refine tu 9 ?_
              refine tu 10 ?_
              refine tu 11 ?_
              refine tu 12 ?_
              refine tu 13 ?_
              refine tu 14 ?_
              refine tu 15 ?_
              refine tu 16 ?_
              refine tu 17 ?_
              refine tu 18 ?_
              refine tu 19 ?_
              refine tu 20 ?_
              refine tu 21 ?_
              refine tu 22 ?_
              refine tu 23 ?_
              refine tu 24 ?_
              refine tu 25 ?_
              refine tu 26 ?_
              refine tu 27 ?_
              refine tu 28 ?_
              refine tu 29 ?_
              refine tu 30 ?_
              refine tu 31 ?_
              refine tu 32 ?_
              refine tu 33 ?_
              refine tu 34 ?_
              refine tu 35 ?_
              refine tu 36 ?_
              refine tu 37 ?_
              refine tu 38 ?_
              refine tu 39 ?_
              refine tu 40 ?_
              refine tu 41 ?_
              refine tu 42 ?_
              refine tk 43 ?_
              refine wpAnyH_done (by kernel_rfl) ?_ _
              go_wp2
              go_ret
              exact ⟨ret_bool (by rw [HNO.out]), HBW.out.trans (HB2.out.mono HBW.out.size)⟩
            | false =>
              have HEN1 : Hid (∀ x, x0[k]? = some x → endedB x3 x4 x.1 = false) := Hid.mk (fun x h => by rw [HX.out] at h; obtain rfl := Option.some.inj h; exact HEN.out)
              by_cases hk0 : k = 0
              · have hdk : decide (0 < k) = false := decide_eq_false (by omega)
                have hpk : ¬ 0 < k := by omega
                have HLS : Hid ((decide (k = 0) || lessS (x0.getD (k - 1) z3) (y0, y1, y2)) = true) := Hid.mk (by rw [decide_eq_true hk0]; rfl)
                clear hk0
                go_upto_region 6 with fail
                rw [← hV]
                clear hV e0 e1 e2
                refine wp_region_held_drew (S := fun w' => w'.cell? ⟨w.heap.size, 0, none⟩ = some (.slice (some ⟨b, off, none⟩) n0 c0) ∧ w'.cell? ⟨w.heap.size, 1, none⟩ = some (.slice a1 n1 c1) ∧ w'.cell? ⟨w.heap.size, 2, none⟩ = some (.slice a2 n2 c2) ∧ w'.cell? ⟨w.heap.size, 3, none⟩ = some (.slice a3 n3 c3) ∧ w'.cell? ⟨w.heap.size, 4, none⟩ = some (.slice a4 n4 c4) ∧ w'.cell? ⟨wY.heap.size, 0, none⟩ = some (.int .i64 y0) ∧ w'.cell? ⟨wY.heap.size, 1, none⟩ = some (.int .i64 y1) ∧ w'.cell? ⟨wY.heap.size, 2, none⟩ = some (.int .i64 y2)) (by kernel_rfl) ?_ (fun hHeld => ?_)
                · (try dsimp only)
                  exact ⟨p0, p1, p2, p3, p4, v0, v1, v2⟩
                refine tk 0 ?_
                refine tk 1 ?_
                refine tk 2 ?_
                refine tr 3 (fun K hK => ?_)
                go_simp
                go_at_call 28
                refine (KE.out y0 _ HB.out.drew).mono ?_
                rintro e w2 ⟨rfl, hb2⟩
                have hbd : Below V.heap.size V w2 := (Below.refl _ _).drew.trans hb2
                have p0 := cell_later hbd p0
                have p1 := cell_later hbd p1
                have p2 := cell_later hbd p2
                have p3 := cell_later hbd p3
                have p4 := cell_later hbd p4
                have v0 := cell_later hbd v0
                have v1 := cell_later hbd v1
                have v2 := cell_later hbd v2
                have HB2 := Hid.mk (HB.out.trans (hbd.mono HB.out.size))
                rw [HEN.out]
                clear hb2 hbd
                (try go_wp2_with fail)
                refine hK.out _ _ ?_ (fun hHeld' => ?_)
                · (try dsimp only)
                  exact ⟨p0, p1, p2, p3, p4, v0, v1, v2⟩
                clear hK K hHeld
                have hHeld := hHeld'
                clear hHeld'
                (try simp only [Act.put, List.setIfInBounds_toArray, List.set_cons_zero, List.set_cons_succ])
                refine tk 4 ?_
                refine tk 5 ?_
                refine tk 6 ?_
                refine tk 7 ?_
                refine tu 8 ?_
                refine tu 9 ?_
                refine tu 10 ?_
                refine tu 11 ?_
                refine tu 12 ?_
                refine tu 13 ?_
                refine tu 14 ?_
                refine tu 15 ?_
                refine tu 16 ?_
                refine tu 17 ?_
                refine tu 18 ?_
                refine tu 19 ?_
                refine tu 20 ?_
                refine tu 21 ?_
                refine tu 22 ?_
                refine tu 23 ?_
                refine tu 24 ?_
                refine tu 25 ?_
                refine tu 26 ?_
                refine tu 27 ?_
                refine tu 28 ?_
                refine tu 29 ?_
                refine tu 30 ?_
                refine tu 31 ?_
                refine tu 32 ?_
                refine tu 33 ?_
                refine tu 34 ?_
                refine tu 35 ?_
                refine tu 36 ?_
                refine tu 37 ?_
                refine tu 38 ?_
                refine tu 39 ?_
                refine tu 40 ?_
                refine tu 41 ?_
                refine tk 42 ?_
                refine tk 43 ?_
                refine wpAnyH_done (by kernel_rfl) ?_ _
                have HB3 := HB2
                go_upto_region 8 with fail
                go_wp2
                go_loopw [87] (fun i wr => ∃ (j : Nat), j ≤ k ∧ i = .int .i64 j ∧ (((x0.take k).take j).all fun z => !clB z (y0, y1, y2)) = true ∧ Below W.heap.size W wr ∧ Below w2.heap.size w2 wr) (fun i _ => k - (intOf i).toNat)
                case atStart => exact ⟨0, Nat.zero_le _, rfl, rfl, HB2.out, Below.refl _ _⟩
                case round =>
                  clear HB3
                  obtain ⟨j, hj, rfl, hcl, hbz, hbz2⟩ := hrel
                  obtain ⟨wZ, rfl⟩ : ∃ x, x = wr := ⟨_, rfl⟩
                  by_cases hjk : j < k
                  · exact absurd hjk (by omega)
                  · obtain rfl : j = k := by omega
                    have hji : ¬ (j : Int) < (j : Int) := by omega
                    have HAT : Hid (heldAt x0 j = true) := Hid.mk (by
                      rw [List.take_of_length_le (by rw [List.length_take]; omega)] at hcl
                      rw [HDEF.out, HLS.out, hcl]; rfl)
                    have HBZ := Hid.mk hbz
                    clear hcl hbz hbz2
                    go_wp2
                    go_roundw
                    case rel => exact ⟨j + 1, by omega, by go_num, (fun i hi => by
                      rcases Nat.lt_succ_iff_lt_or_eq.1 hi with h | rfl
                      · exact HIN.out i h
                      · exact ⟨HAT.out, HEN1.out⟩), HBZ.out⟩
                    case measure => simp [intOf]; omega
              · obtain ⟨⟨q0, q1, q2⟩, hp⟩ : ∃ x, x0[k - 1]? = some x := ⟨_, List.getElem?_eq_getElem (by have := HZ0.out; omega)⟩
                obtain ⟨d0, _, d2⟩ := HC.out (k - 1) _ hp
                have d0 := cell_later HB.out d0
                have d2 := cell_later HB.out d2
                simp only at d0 d2
                have hdk : decide (0 < k) = true := decide_eq_true (by omega)
                have hpk : 0 < k := by omega
                have hwk : IntKind.i64.wrap ((k : Int) - 1) = ((k - 1 : Nat) : Int) := by rw [IntWalk.i64_in _ (by omega)]; omega
                have hk1 : ((k - 1 : Nat) : Int) < (n0 : Int) := by omega
                have hk1n : k - 1 < n0 := by omega
                have HLSD : Hid ((decide (k = 0) || lessS (x0.getD (k - 1) z3) (y0, y1, y2)) = lessS (q0, q1, q2) (y0, y1, y2)) := Hid.mk (by
                  rw [decide_eq_false hk0, show x0.getD (k - 1) z3 = (q0, q1, q2) by simp [List.getD, hp]]; rfl)
                clear hp hk0
                by_cases hm : y0 < q0
                · have hmd : decide (y0 < q0) = true := decide_eq_true hm
                  have HNO : Hid (glB (x0, x1, x2, x3, x4) = false) := Hid.mk (HNG.out (held_no hkx (by rw [HDEF.out, HLSD.out]; unfold lessS; simp only; rw [decide_eq_false (show ¬ q0 < y0 by omega), decide_eq_false (show ¬ q0 = y0 by omega)]; rfl)))
                  go_upto_region 6 with fail
                  rw [← hV]
                  clear hV e0 e1 e2
                  refine wp_region_held_drew (S := fun w' => w'.cell? ⟨w.heap.size, 0, none⟩ = some (.slice (some ⟨b, off, none⟩) n0 c0) ∧ w'.cell? ⟨w.heap.size, 1, none⟩ = some (.slice a1 n1 c1) ∧ w'.cell? ⟨w.heap.size, 2, none⟩ = some (.slice a2 n2 c2) ∧ w'.cell? ⟨w.heap.size, 3, none⟩ = some (.slice a3 n3 c3) ∧ w'.cell? ⟨w.heap.size, 4, none⟩ = some (.slice a4 n4 c4) ∧ w'.cell? ⟨wY.heap.size, 0, none⟩ = some (.int .i64 y0) ∧ w'.cell? ⟨wY.heap.size, 1, none⟩ = some (.int .i64 y1) ∧ w'.cell? ⟨wY.heap.size, 2, none⟩ = some (.int .i64 y2) ∧ w'.cell? ⟨b, off + (k - 1) * 3, none⟩ = some (.int .i64 q0) ∧ w'.cell? ⟨b, off + (k - 1) * 3 + 2, none⟩ = some (.int .i64 q2)) (by kernel_rfl) ?_ (fun hHeld => ?_)
                  · (try dsimp only)
                    exact ⟨p0, p1, p2, p3, p4, v0, v1, v2, d0, d2⟩
                  refine tk 0 ?_
                  refine tk 1 ?_
                  refine tk 2 ?_
                  refine tr 3 (fun K hK => ?_)
                  go_simp
                  go_at_call 28
                  refine (KE.out y0 _ HB.out.drew).mono ?_
                  rintro e w2 ⟨rfl, hb2⟩
                  have hbd : Below V.heap.size V w2 := (Below.refl _ _).drew.trans hb2
                  have p0 := cell_later hbd p0
                  have p1 := cell_later hbd p1
                  have p2 := cell_later hbd p2
                  have p3 := cell_later hbd p3
                  have p4 := cell_later hbd p4
                  have v0 := cell_later hbd v0
                  have v1 := cell_later hbd v1
                  have v2 := cell_later hbd v2
                  have d0 := cell_later hbd d0
                  have d2 := cell_later hbd d2
                  have HB2 := Hid.mk (HB.out.trans (hbd.mono HB.out.size))
                  rw [HEN.out]
                  clear hb2 hbd
                  (try go_wp2_with fail)
                  refine hK.out _ _ ?_ (fun hHeld' => ?_)
                  · (try dsimp only)
                    exact ⟨p0, p1, p2, p3, p4, v0, v1, v2, d0, d2⟩
                  clear hK K hHeld
                  have hHeld := hHeld'
                  clear hHeld'
                  (try simp only [Act.put, List.setIfInBounds_toArray, List.set_cons_zero, List.set_cons_succ])
                  refine tk 4 ?_
                  refine tk 5 ?_
                  refine tk 6 ?_
                  refine tk 7 ?_
                  refine tk 8 ?_
                  refine tk 9 ?_
                  refine tk 10 ?_
                  refine tk 11 ?_
                  refine tk 12 ?_
                  refine tk 13 ?_
                  refine tk 14 ?_
                  refine tk 15 ?_
                  refine tk 16 ?_
                  refine tk 17 ?_
                  refine tk 18 ?_
                  refine tu 19 ?_
                  refine tu 20 ?_
                  refine tu 21 ?_
                  refine tu 22 ?_
                  refine tu 23 ?_
                  refine tu 24 ?_
                  refine tu 25 ?_
                  refine tu 26 ?_
                  refine tu 27 ?_
                  refine tu 28 ?_
                  refine tu 29 ?_
                  refine tu 30 ?_
                  refine tu 31 ?_
                  refine tu 32 ?_
                  refine tu 33 ?_
                  refine tu 34 ?_
                  refine tu 35 ?_
                  refine tu 36 ?_
                  refine tu 37 ?_
                  refine tu 38 ?_
                  refine tu 39 ?_
                  refine tu 40 ?_
                  refine tk 41 ?_
                  refine tk 42 ?_
                  refine tk 43 ?_
                  refine wpAnyH_done (by kernel_rfl) ?_ _
                  go_wp2
                  go_ret
                  exact ⟨ret_bool (by rw [HNO.out]), HBW.out.trans (HB2.out.mono HBW.out.size)⟩
                · have hmn : ¬ y0 < q0 := hm
                  have hmd : decide (y0 < q0) = false := decide_eq_false hm
                  by_cases hs : q0 = y0
                  · by_cases hi : y2 ≤ q2
                    · have HNO : Hid (glB (x0, x1, x2, x3, x4) = false) := Hid.mk (HNG.out (held_no hkx (by rw [HDEF.out, HLSD.out]; unfold lessS; simp only; rw [decide_eq_false (show ¬ q0 < y0 by omega), decide_eq_false (show ¬ q2 < y2 by omega)]; simp)))
                      have hsb : (q0 == y0) = true := beq_iff_eq.2 hs
                      have hid : decide (y2 ≤ q2) = true := decide_eq_true hi
                      clear hs
                      go_upto_region 6 with fail
                      rw [← hV]
                      clear hV e0 e1 e2
                      refine wp_region_held_drew (S := fun w' => w'.cell? ⟨w.heap.size, 0, none⟩ = some (.slice (some ⟨b, off, none⟩) n0 c0) ∧ w'.cell? ⟨w.heap.size, 1, none⟩ = some (.slice a1 n1 c1) ∧ w'.cell? ⟨w.heap.size, 2, none⟩ = some (.slice a2 n2 c2) ∧ w'.cell? ⟨w.heap.size, 3, none⟩ = some (.slice a3 n3 c3) ∧ w'.cell? ⟨w.heap.size, 4, none⟩ = some (.slice a4 n4 c4) ∧ w'.cell? ⟨wY.heap.size, 0, none⟩ = some (.int .i64 y0) ∧ w'.cell? ⟨wY.heap.size, 1, none⟩ = some (.int .i64 y1) ∧ w'.cell? ⟨wY.heap.size, 2, none⟩ = some (.int .i64 y2) ∧ w'.cell? ⟨b, off + (k - 1) * 3, none⟩ = some (.int .i64 q0) ∧ w'.cell? ⟨b, off + (k - 1) * 3 + 2, none⟩ = some (.int .i64 q2)) (by kernel_rfl) ?_ (fun hHeld => ?_)
                      · (try dsimp only)
                        exact ⟨p0, p1, p2, p3, p4, v0, v1, v2, d0, d2⟩
                      refine tk 0 ?_
                      refine tk 1 ?_
                      refine tk 2 ?_
                      refine tr 3 (fun K hK => ?_)
                      go_simp
                      go_at_call 28
                      refine (KE.out y0 _ HB.out.drew).mono ?_
                      rintro e w2 ⟨rfl, hb2⟩
                      have hbd : Below V.heap.size V w2 := (Below.refl _ _).drew.trans hb2
                      have p0 := cell_later hbd p0
                      have p1 := cell_later hbd p1
                      have p2 := cell_later hbd p2
                      have p3 := cell_later hbd p3
                      have p4 := cell_later hbd p4
                      have v0 := cell_later hbd v0
                      have v1 := cell_later hbd v1
                      have v2 := cell_later hbd v2
                      have d0 := cell_later hbd d0
                      have d2 := cell_later hbd d2
                      have HB2 := Hid.mk (HB.out.trans (hbd.mono HB.out.size))
                      rw [HEN.out]
                      clear hb2 hbd
                      (try go_wp2_with fail)
                      refine hK.out _ _ ?_ (fun hHeld' => ?_)
                      · (try dsimp only)
                        exact ⟨p0, p1, p2, p3, p4, v0, v1, v2, d0, d2⟩
                      clear hK K hHeld
                      have hHeld := hHeld'
                      clear hHeld'
                      (try simp only [Act.put, List.setIfInBounds_toArray, List.set_cons_zero, List.set_cons_succ])
                      refine tk 4 ?_
                      refine tk 5 ?_
                      refine tk 6 ?_
                      refine tk 7 ?_
                      refine tk 8 ?_
                      refine tk 9 ?_
                      refine tk 10 ?_
                      refine tk 11 ?_
                      refine tk 12 ?_
                      refine tk 13 ?_
                      refine tk 14 ?_
                      refine tk 15 ?_
                      refine tk 16 ?_
                      refine tk 17 ?_
                      refine tk 18 ?_
                      refine tk 19 ?_
                      refine tk 20 ?_
                      refine tk 21 ?_
                      refine tk 22 ?_
                      refine tk 23 ?_
                      refine tk 24 ?_
                      refine tk 25 ?_
                      refine tk 26 ?_
                      refine tk 27 ?_
                      refine tk 28 ?_
                      refine tk 29 ?_
                      refine tk 30 ?_
                      refine tk 31 ?_
                      refine tk 32 ?_
                      refine tk 33 ?_
                      refine tk 34 ?_
                      refine tk 35 ?_
                      refine tk 36 ?_
                      refine tk 37 ?_
                      refine tk 38 ?_
                      refine tk 39 ?_
                      refine tk 40 ?_
                      refine tk 41 ?_
                      refine tk 42 ?_
                      refine tk 43 ?_
                      refine wpAnyH_done (by kernel_rfl) ?_ _
                      go_wp2
                      go_ret
                      exact ⟨ret_bool (by rw [HNO.out]), HBW.out.trans (HB2.out.mono HBW.out.size)⟩
                    · have HLS : Hid ((decide (k = 0) || lessS (x0.getD (k - 1) z3) (y0, y1, y2)) = true) := Hid.mk (by rw [HLSD.out]; unfold lessS; simp only; rw [decide_eq_true hs, decide_eq_true (show q2 < y2 by omega)]; simp)
                      have hsb : (q0 == y0) = true := beq_iff_eq.2 hs
                      have hid : decide (y2 ≤ q2) = false := decide_eq_false hi
                      clear hs
                      go_upto_region 6 with fail
                      rw [← hV]
                      clear hV e0 e1 e2
                      refine wp_region_held_drew (S := fun w' => w'.cell? ⟨w.heap.size, 0, none⟩ = some (.slice (some ⟨b, off, none⟩) n0 c0) ∧ w'.cell? ⟨w.heap.size, 1, none⟩ = some (.slice a1 n1 c1) ∧ w'.cell? ⟨w.heap.size, 2, none⟩ = some (.slice a2 n2 c2) ∧ w'.cell? ⟨w.heap.size, 3, none⟩ = some (.slice a3 n3 c3) ∧ w'.cell? ⟨w.heap.size, 4, none⟩ = some (.slice a4 n4 c4) ∧ w'.cell? ⟨wY.heap.size, 0, none⟩ = some (.int .i64 y0) ∧ w'.cell? ⟨wY.heap.size, 1, none⟩ = some (.int .i64 y1) ∧ w'.cell? ⟨wY.heap.size, 2, none⟩ = some (.int .i64 y2) ∧ w'.cell? ⟨b, off + (k - 1) * 3, none⟩ = some (.int .i64 q0) ∧ w'.cell? ⟨b, off + (k - 1) * 3 + 2, none⟩ = some (.int .i64 q2)) (by kernel_rfl) ?_ (fun hHeld => ?_)
                      · (try dsimp only)
                        exact ⟨p0, p1, p2, p3, p4, v0, v1, v2, d0, d2⟩
                      refine tk 0 ?_
                      refine tk 1 ?_
                      refine tk 2 ?_
                      refine tr 3 (fun K hK => ?_)
                      go_simp
                      go_at_call 28
                      refine (KE.out y0 _ HB.out.drew).mono ?_
                      rintro e w2 ⟨rfl, hb2⟩
                      have hbd : Below V.heap.size V w2 := (Below.refl _ _).drew.trans hb2
                      have p0 := cell_later hbd p0
                      have p1 := cell_later hbd p1
                      have p2 := cell_later hbd p2
                      have p3 := cell_later hbd p3
                      have p4 := cell_later hbd p4
                      have v0 := cell_later hbd v0
                      have v1 := cell_later hbd v1
                      have v2 := cell_later hbd v2
                      have d0 := cell_later hbd d0
                      have d2 := cell_later hbd d2
                      have HB2 := Hid.mk (HB.out.trans (hbd.mono HB.out.size))
                      rw [HEN.out]
                      clear hb2 hbd
                      (try go_wp2_with fail)
                      refine hK.out _ _ ?_ (fun hHeld' => ?_)
                      · (try dsimp only)
                        exact ⟨p0, p1, p2, p3, p4, v0, v1, v2, d0, d2⟩
                      clear hK K hHeld
                      have hHeld := hHeld'
                      clear hHeld'
                      (try simp only [Act.put, List.setIfInBounds_toArray, List.set_cons_zero, List.set_cons_succ])
                      refine tk 4 ?_
                      refine tk 5 ?_
                      refine tk 6 ?_
                      refine tk 7 ?_
                      refine tk 8 ?_
                      refine tk 9 ?_
                      refine tk 10 ?_
                      refine tk 11 ?_
                      refine tk 12 ?_
                      refine tk 13 ?_
                      refine tk 14 ?_
                      refine tk 15 ?_
                      refine tk 16 ?_
                      refine tk 17 ?_
                      refine tk 18 ?_
                      refine tk 19 ?_
                      refine tk 20 ?_
                      refine tk 21 ?_
                      refine tk 22 ?_
                      refine tk 23 ?_
                      refine tk 24 ?_
                      refine tk 25 ?_
                      refine tk 26 ?_
                      refine tk 27 ?_
                      refine tk 28 ?_
                      refine tk 29 ?_
                      refine tk 30 ?_
                      refine tk 31 ?_
                      refine tk 32 ?_
                      refine tk 33 ?_
                      refine tk 34 ?_
                      refine tk 35 ?_
                      refine tk 36 ?_
                      refine tk 37 ?_
                      refine tk 38 ?_
                      refine tk 39 ?_
                      refine tk 40 ?_
                      refine tk 41 ?_
                      refine tk 42 ?_
                      refine tk 43 ?_
                      refine wpAnyH_done (by kernel_rfl) ?_ _
                      have HB3 := HB2
                      go_upto_region 8 with fail
                      go_wp2
                      go_loopw [87] (fun i wr => ∃ (j : Nat), j ≤ k ∧ i = .int .i64 j ∧ (((x0.take k).take j).all fun z => !clB z (y0, y1, y2)) = true ∧ Below W.heap.size W wr ∧ Below w2.heap.size w2 wr) (fun i _ => k - (intOf i).toNat)
                      case atStart => exact ⟨0, Nat.zero_le _, rfl, rfl, HB2.out, Below.refl _ _⟩
                      case round =>
                        clear HB3
                        obtain ⟨j, hj, rfl, hcl, hbz, hbz2⟩ := hrel
                        obtain ⟨wZ, rfl⟩ : ∃ x, x = wr := ⟨_, rfl⟩
                        by_cases hjk : j < k
                        · obtain ⟨⟨t0, t1, t2⟩, ht⟩ : ∃ x, x0[j]? = some x := ⟨_, List.getElem?_eq_getElem (by omega)⟩
                          obtain ⟨f0, f1, f2⟩ := HC.out j _ ht
                          have f0 := cell_later hbz f0
                          have f1 := cell_later hbz f1
                          have f2 := cell_later hbz f2
                          simp only at f0 f1 f2
                          have g0 := cell_later hbz2 v0
                          have g1 := cell_later hbz2 v1
                          have g2 := cell_later hbz2 v2
                          have hji : (j : Int) < (k : Int) := by omega
                          have htk : (x0.take k)[j]? = some (t0, t1, t2) := by rw [List.getElem?_take, if_pos hjk, ht]
                          obtain ⟨U, hU⟩ : ∃ U, U = wZ.alloc (.cells #[.int .i64 t0, .int .i64 t1, .int .i64 t2] 51) := ⟨_, rfl⟩
                          have hbU : Below wZ.heap.size wZ U := by rw [hU]; exact (Below.refl _ _).alloc (Nat.le_refl _) _
                          have u0 : U.cell? ⟨wZ.heap.size, 0, none⟩ = some (.int .i64 t0) := by rw [hU]; simp
                          have u1 : U.cell? ⟨wZ.heap.size, 1, none⟩ = some (.int .i64 t1) := by rw [hU]; simp
                          have u2 : U.cell? ⟨wZ.heap.size, 2, none⟩ = some (.int .i64 t2) := by rw [hU]; simp
                          have g0 := cell_later hbU g0
                          have g1 := cell_later hbU g1
                          have g2 := cell_later hbU g2
                          have HBU := Hid.mk (hbz.trans (hbU.mono hbz.size))
                          have HBU2 := Hid.mk (hbz2.trans (hbU.mono hbz2.size))
                          have KC := Hid.mk (l13Clash_any y0 y1 y2 t0 t1 t2 U)
                          rw [clB_symm] at KC
                          have HCL := Hid.mk hcl
                          clear hcl hbz hbz2 hbU ht
                          go_upto_region 11 with fail
                          rw [← hU]
                          clear hU f0 f1 f2
                          go_wp2_with fail
                          refine KC.out.mono ?_
                          rintro e w5 ⟨rfl, hb5⟩
                          have HB5 := Hid.mk (HBU.out.trans (hb5.mono HBU.out.size))
                          have HB52 := Hid.mk (HBU2.out.trans (hb5.mono HBU2.out.size))
                          clear hb5 KC g0 g1 g2 u0 u1 u2
                          cases hct : clB (t0, t1, t2) (y0, y1, y2) with
                          | true =>
                            have HNO : Hid (glB (x0, x1, x2, x3, x4) = false) := Hid.mk (HNG.out (held_no hkx (by rw [HDEF.out]; rw [Bool.and_eq_false_iff]; right; exact List.all_eq_false.2 ⟨_, List.mem_of_getElem? htk, by rw [hct]; decide⟩)))
                            clear hct htk
                            go_wp2
                            go_ret
                            exact ⟨ret_bool (by rw [HNO.out]), HBW.out.trans (HB5.out.mono HBW.out.size)⟩
                          | false =>
                            have HCN : Hid ((((x0.take k).take (j + 1)).all fun z => !clB z (y0, y1, y2)) = true) := Hid.mk (by rw [all_takeS htk, HCL.out, hct]; rfl)
                            clear hct htk
                            go_wp2
                            go_roundw
                            case rel => exact ⟨j + 1, by omega, by go_num, HCN.out, HB5.out, HB52.out⟩
                            case measure => simp [intOf]; omega
                        · obtain rfl : j = k := by omega
                          have hji : ¬ (j : Int) < (j : Int) := by omega
                          have HAT : Hid (heldAt x0 j = true) := Hid.mk (by
                            rw [List.take_of_length_le (by rw [List.length_take]; omega)] at hcl
                            rw [HDEF.out, HLS.out, hcl]; rfl)
                          have HBZ := Hid.mk hbz
                          clear hcl hbz hbz2
                          go_wp2
                          go_roundw
                          case rel => exact ⟨j + 1, by omega, by go_num, (fun i hi => by
                            rcases Nat.lt_succ_iff_lt_or_eq.1 hi with h | rfl
                            · exact HIN.out i h
                            · exact ⟨HAT.out, HEN1.out⟩), HBZ.out⟩
                          case measure => simp [intOf]; omega
                  · have HLS : Hid ((decide (k = 0) || lessS (x0.getD (k - 1) z3) (y0, y1, y2)) = true) := Hid.mk (by rw [HLSD.out]; unfold lessS; simp only; rw [decide_eq_true (show q0 < y0 by omega)]; rfl)
                    have hsb : (q0 == y0) = false := beq_eq_false_iff_ne.2 hs
                    clear hs
                    go_upto_region 6 with fail
                    rw [← hV]
                    clear hV e0 e1 e2
                    refine wp_region_held_drew (S := fun w' => w'.cell? ⟨w.heap.size, 0, none⟩ = some (.slice (some ⟨b, off, none⟩) n0 c0) ∧ w'.cell? ⟨w.heap.size, 1, none⟩ = some (.slice a1 n1 c1) ∧ w'.cell? ⟨w.heap.size, 2, none⟩ = some (.slice a2 n2 c2) ∧ w'.cell? ⟨w.heap.size, 3, none⟩ = some (.slice a3 n3 c3) ∧ w'.cell? ⟨w.heap.size, 4, none⟩ = some (.slice a4 n4 c4) ∧ w'.cell? ⟨wY.heap.size, 0, none⟩ = some (.int .i64 y0) ∧ w'.cell? ⟨wY.heap.size, 1, none⟩ = some (.int .i64 y1) ∧ w'.cell? ⟨wY.heap.size, 2, none⟩ = some (.int .i64 y2) ∧ w'.cell? ⟨b, off + (k - 1) * 3, none⟩ = some (.int .i64 q0) ∧ w'.cell? ⟨b, off + (k - 1) * 3 + 2, none⟩ = some (.int .i64 q2)) (by kernel_rfl) ?_ (fun hHeld => ?_)
                    · (try dsimp only)
                      exact ⟨p0, p1, p2, p3, p4, v0, v1, v2, d0, d2⟩
                    refine tk 0 ?_
                    refine tk 1 ?_
                    refine tk 2 ?_
                    refine tr 3 (fun K hK => ?_)
                    go_simp
                    go_at_call 28
                    refine (KE.out y0 _ HB.out.drew).mono ?_
                    rintro e w2 ⟨rfl, hb2⟩
                    have hbd : Below V.heap.size V w2 := (Below.refl _ _).drew.trans hb2
                    have p0 := cell_later hbd p0
                    have p1 := cell_later hbd p1
                    have p2 := cell_later hbd p2
                    have p3 := cell_later hbd p3
                    have p4 := cell_later hbd p4
                    have v0 := cell_later hbd v0
                    have v1 := cell_later hbd v1
                    have v2 := cell_later hbd v2
                    have d0 := cell_later hbd d0
                    have d2 := cell_later hbd d2
                    have HB2 := Hid.mk (HB.out.trans (hbd.mono HB.out.size))
                    rw [HEN.out]
                    clear hb2 hbd
                    (try go_wp2_with fail)
                    refine hK.out _ _ ?_ (fun hHeld' => ?_)
                    · (try dsimp only)
                      exact ⟨p0, p1, p2, p3, p4, v0, v1, v2, d0, d2⟩
                    clear hK K hHeld
                    have hHeld := hHeld'
                    clear hHeld'
                    (try simp only [Act.put, List.setIfInBounds_toArray, List.set_cons_zero, List.set_cons_succ])
                    refine tk 4 ?_
                    refine tk 5 ?_
                    refine tk 6 ?_
                    refine tk 7 ?_
                    refine tk 8 ?_
                    refine tk 9 ?_
                    refine tk 10 ?_
                    refine tk 11 ?_
                    refine tk 12 ?_
                    refine tk 13 ?_
                    refine tk 14 ?_
                    refine tk 15 ?_
                    refine tk 16 ?_
                    refine tk 17 ?_
                    refine tk 18 ?_
                    refine tk 19 ?_
                    refine tk 20 ?_
                    refine tk 21 ?_
                    refine tk 22 ?_
                    refine tk 23 ?_
                    refine tk 24 ?_
                    refine tk 25 ?_
                    refine tk 26 ?_
                    refine tk 27 ?_
                    refine tk 28 ?_
                    refine tk 29 ?_
                    refine tu 30 ?_
                    refine tu 31 ?_
                    refine tu 32 ?_
                    refine tu 33 ?_
                    refine tu 34 ?_
                    refine tu 35 ?_
                    refine tu 36 ?_
                    refine tu 37 ?_
                    refine tu 38 ?_
                    refine tu 39 ?_
                    refine tk 40 ?_
                    refine tk 41 ?_
                    refine tk 42 ?_
                    refine tk 43 ?_
                    refine wpAnyH_done (by kernel_rfl) ?_ _
                    have HB3 := HB2
                    go_upto_region 8 with fail
                    go_wp2
                    go_loopw [87] (fun i wr => ∃ (j : Nat), j ≤ k ∧ i = .int .i64 j ∧ (((x0.take k).take j).all fun z => !clB z (y0, y1, y2)) = true ∧ Below W.heap.size W wr ∧ Below w2.heap.size w2 wr) (fun i _ => k - (intOf i).toNat)
                    case atStart => exact ⟨0, Nat.zero_le _, rfl, rfl, HB2.out, Below.refl _ _⟩
                    case round =>
                      clear HB3
                      obtain ⟨j, hj, rfl, hcl, hbz, hbz2⟩ := hrel
                      obtain ⟨wZ, rfl⟩ : ∃ x, x = wr := ⟨_, rfl⟩
                      by_cases hjk : j < k
                      · obtain ⟨⟨t0, t1, t2⟩, ht⟩ : ∃ x, x0[j]? = some x := ⟨_, List.getElem?_eq_getElem (by omega)⟩
                        obtain ⟨f0, f1, f2⟩ := HC.out j _ ht
                        have f0 := cell_later hbz f0
                        have f1 := cell_later hbz f1
                        have f2 := cell_later hbz f2
                        simp only at f0 f1 f2
                        have g0 := cell_later hbz2 v0
                        have g1 := cell_later hbz2 v1
                        have g2 := cell_later hbz2 v2
                        have hji : (j : Int) < (k : Int) := by omega
                        have htk : (x0.take k)[j]? = some (t0, t1, t2) := by rw [List.getElem?_take, if_pos hjk, ht]
                        obtain ⟨U, hU⟩ : ∃ U, U = wZ.alloc (.cells #[.int .i64 t0, .int .i64 t1, .int .i64 t2] 51) := ⟨_, rfl⟩
                        have hbU : Below wZ.heap.size wZ U := by rw [hU]; exact (Below.refl _ _).alloc (Nat.le_refl _) _
                        have u0 : U.cell? ⟨wZ.heap.size, 0, none⟩ = some (.int .i64 t0) := by rw [hU]; simp
                        have u1 : U.cell? ⟨wZ.heap.size, 1, none⟩ = some (.int .i64 t1) := by rw [hU]; simp
                        have u2 : U.cell? ⟨wZ.heap.size, 2, none⟩ = some (.int .i64 t2) := by rw [hU]; simp
                        have g0 := cell_later hbU g0
                        have g1 := cell_later hbU g1
                        have g2 := cell_later hbU g2
                        have HBU := Hid.mk (hbz.trans (hbU.mono hbz.size))
                        have HBU2 := Hid.mk (hbz2.trans (hbU.mono hbz2.size))
                        have KC := Hid.mk (l13Clash_any y0 y1 y2 t0 t1 t2 U)
                        rw [clB_symm] at KC
                        have HCL := Hid.mk hcl
                        clear hcl hbz hbz2 hbU ht
                        go_upto_region 11 with fail
                        rw [← hU]
                        clear hU f0 f1 f2
                        go_wp2_with fail
                        refine KC.out.mono ?_
                        rintro e w5 ⟨rfl, hb5⟩
                        have HB5 := Hid.mk (HBU.out.trans (hb5.mono HBU.out.size))
                        have HB52 := Hid.mk (HBU2.out.trans (hb5.mono HBU2.out.size))
                        clear hb5 KC g0 g1 g2 u0 u1 u2
                        cases hct : clB (t0, t1, t2) (y0, y1, y2) with
                        | true =>
                          have HNO : Hid (glB (x0, x1, x2, x3, x4) = false) := Hid.mk (HNG.out (held_no hkx (by rw [HDEF.out]; rw [Bool.and_eq_false_iff]; right; exact List.all_eq_false.2 ⟨_, List.mem_of_getElem? htk, by rw [hct]; decide⟩)))
                          clear hct htk
                          go_wp2
                          go_ret
                          exact ⟨ret_bool (by rw [HNO.out]), HBW.out.trans (HB5.out.mono HBW.out.size)⟩
                        | false =>
                          have HCN : Hid ((((x0.take k).take (j + 1)).all fun z => !clB z (y0, y1, y2)) = true) := Hid.mk (by rw [all_takeS htk, HCL.out, hct]; rfl)
                          clear hct htk
                          go_wp2
                          go_roundw
                          case rel => exact ⟨j + 1, by omega, by go_num, HCN.out, HB5.out, HB52.out⟩
                          case measure => simp [intOf]; omega
                      · obtain rfl : j = k := by omega
                        have hji : ¬ (j : Int) < (j : Int) := by omega
                        have HAT : Hid (heldAt x0 j = true) := Hid.mk (by
                          rw [List.take_of_length_le (by rw [List.length_take]; omega)] at hcl
                          rw [HDEF.out, HLS.out, hcl]; rfl)
                        have HBZ := Hid.mk hbz
                        clear hcl hbz hbz2
                        go_wp2
                        go_roundw
                        case rel => exact ⟨j + 1, by omega, by go_num, (fun i hi => by
                          rcases Nat.lt_succ_iff_lt_or_eq.1 hi with h | rfl
                          · exact HIN.out i h
                          · exact ⟨HAT.out, HEN1.out⟩), HBZ.out⟩
                        case measure => simp [intOf]; omega
          · obtain rfl : n0 = k := by omega
            have hki : ¬ (n0 : Int) < (n0 : Int) := by omega
            have HALL : Hid (heldB x0 = true ∧ (x0.all fun x => !endedB x3 x4 x.1) = true) := Hid.mk ⟨held_all (fun i hi => (HIN.out i (by have := HZ0.out; omega)).1), List.all_eq_true.2 fun x hx => by
              obtain ⟨i, hi, rfl⟩ := List.getElem_of_mem hx
              rw [(HIN.out i (by have := HZ0.out; omega)).2 _ (List.getElem?_eq_getElem hi)]; rfl⟩
            have p0 := cell_later hbw HP0.out
            have p1 := cell_later hbw HP1.out
            have p2 := cell_later hbw HP2.out
            have p3 := cell_later hbw HP3.out
            have p4 := cell_later hbw HP4.out
            have HBL := Hid.mk hbw
            clear HIN hbw
            go_wp2
            go_loopw [99] (fun i wr => ∃ (k : Nat), k ≤ n1 ∧ i = .int .i64 k ∧ (∀ i, i < k → waitAt x1 x3 x4 i = true) ∧ Below W.heap.size W wr) (fun i _ => n1 - (intOf i).toNat)
            case atStart => exact ⟨0, Nat.zero_le _, rfl, fun i h => by omega, HBL.out⟩
            case round =>
              clear HBL
              skip
              obtain ⟨k, hk, rfl, hin, hbw⟩ := hrel
              obtain ⟨wY, rfl⟩ : ∃ x, x = wr := ⟨_, rfl⟩
              have HIN := Hid.mk hin
              clear hin
              by_cases hlt : k < n1
              · obtain ⟨⟨y0, y1, y2⟩, hx⟩ : ∃ x, x1[k]? = some x := ⟨_, List.getElem?_eq_getElem (by have := HZ1.out; omega)⟩
                obtain ⟨b, off, rfl, hb, hc⟩ := flStep_some HA1.out (by have := HZ1.out; omega)
                obtain ⟨e0, e1, e2⟩ := hc k _ hx
                have e0 := (hbw.cell hb).trans e0
                have e1 := (hbw.cell hb).trans e1
                have e2 := (hbw.cell hb).trans e2
                have hkx : k < x1.length := by have := HZ1.out; omega
                simp only at e0 e1 e2
                have hki : (k : Int) < (n1 : Int) := by omega
                obtain ⟨V, hV⟩ : ∃ V, V = wY.alloc (.cells #[.int .i64 y0, .int .i64 y1, .int .i64 y2] 51) := ⟨_, rfl⟩
                have hbV : Below wY.heap.size wY V := by rw [hV]; exact (Below.refl _ _).alloc (Nat.le_refl _) _
                have v0 : V.cell? ⟨wY.heap.size, 0, none⟩ = some (.int .i64 y0) := by rw [hV]; simp
                have v1 : V.cell? ⟨wY.heap.size, 1, none⟩ = some (.int .i64 y1) := by rw [hV]; simp
                have v2 : V.cell? ⟨wY.heap.size, 2, none⟩ = some (.int .i64 y2) := by rw [hV]; simp
                have HB := Hid.mk (hbw.trans (hbV.mono hbw.size))
                have p0 := cell_later HB.out HP0.out
                have p1 := cell_later HB.out HP1.out
                have p2 := cell_later HB.out HP2.out
                have p3 := cell_later HB.out HP3.out
                have p4 := cell_later HB.out HP4.out

                have HC : Hid (∀ (i : Nat) (x : TStep), x1[i]? = some x → W.cell? ⟨b, off + i * 3, none⟩ = some (.int .i64 x.1) ∧ W.cell? ⟨b, off + i * 3 + 1, none⟩ = some (.int .i64 x.2.1) ∧ W.cell? ⟨b, off + i * 3 + 2, none⟩ = some (.int .i64 x.2.2)) := Hid.mk hc
                have HX := Hid.mk hx
                have hkc : k ≤ c1 := by omega
                have HDEF : Hid (waitAt x1 x3 x4 k = (!endedB x3 x4 y0 && (x1.take k).all fun z => !decide (z.1 = y0))) := Hid.mk (by unfold waitAt; rw [show x1.getD k z3 = (y0, y1, y2) by simp [List.getD, hx]])
                obtain ⟨E, hE⟩ : ∃ E, endedB x3 x4 y0 = E := ⟨_, rfl⟩
                have HEN := Hid.mk hE
                have KE2 := Hid.mk (KE.out y0 V HB.out)
                rw [hE] at KE2
                clear hc hx hbw hbV hE
                go_upto_region 18 with fail
                rw [← hV]
                clear hV e0 e1 e2
                go_wp2_with fail
                refine KE2.out.mono ?_
                rintro e w2 ⟨rfl, hb2⟩
                have p0 := cell_later hb2 p0
                have p1 := cell_later hb2 p1
                have p2 := cell_later hb2 p2
                have p3 := cell_later hb2 p3
                have p4 := cell_later hb2 p4
                have v0 := cell_later hb2 v0
                have HB2 := Hid.mk (HB.out.trans (hb2.mono HB.out.size))
                clear hb2 KE2 v1 v2
                cases E with
                | true =>
                  have HNO : Hid (glB (x0, x1, x2, x3, x4) = false) := Hid.mk (HNW.out hkx (by rw [HDEF.out, HEN.out]; rfl))
                  go_wp2
                  go_ret
                  exact ⟨ret_bool (by rw [HNO.out]), HBW.out.trans (HB2.out.mono HBW.out.size)⟩
                | false =>
                  go_upto_region 20 with fail
                  go_wp2
                  go_loopw [113] (fun i wr => ∃ (j : Nat), j ≤ k ∧ i = .int .i64 j ∧ (((x1.take k).take j).all fun z => !decide (z.1 = y0)) = true ∧ Below W.heap.size W wr ∧ Below w2.heap.size w2 wr) (fun i _ => k - (intOf i).toNat)
                  case atStart => exact ⟨0, Nat.zero_le _, rfl, rfl, HB2.out, Below.refl _ _⟩
                  case round =>
                    obtain ⟨j, hj, rfl, hcl, hbz, hbz2⟩ := hrel
                    obtain ⟨wZ, rfl⟩ : ∃ x, x = wr := ⟨_, rfl⟩
                    by_cases hjk : j < k
                    · obtain ⟨⟨t0, t1, t2⟩, ht⟩ : ∃ x, x1[j]? = some x := ⟨_, List.getElem?_eq_getElem (by omega)⟩
                      obtain ⟨f0, f1, f2⟩ := HC.out j _ ht
                      have f0 := cell_later hbz f0
                      have f1 := cell_later hbz f1
                      have f2 := cell_later hbz f2
                      simp only at f0 f1 f2
                      have g0 := cell_later hbz2 v0
                      have hji : (j : Int) < (k : Int) := by omega
                      have htk : (x1.take k)[j]? = some (t0, t1, t2) := by rw [List.getElem?_take, if_pos hjk, ht]
                      obtain ⟨U, hU⟩ : ∃ U, U = wZ.alloc (.cells #[.int .i64 t0, .int .i64 t1, .int .i64 t2] 51) := ⟨_, rfl⟩
                      have hbU : Below wZ.heap.size wZ U := by rw [hU]; exact (Below.refl _ _).alloc (Nat.le_refl _) _
                      have u0 : U.cell? ⟨wZ.heap.size, 0, none⟩ = some (.int .i64 t0) := by rw [hU]; simp
                      have g0 := cell_later hbU g0
                      have HBU := Hid.mk (hbz.trans (hbU.mono hbz.size))
                      have HBU2 := Hid.mk (hbz2.trans (hbU.mono hbz2.size))
                      have HCL := Hid.mk hcl
                      clear hcl hbz hbz2 hbU ht
                      by_cases hct : t0 = y0
                      · have hcb : (y0 == t0) = true := beq_iff_eq.2 hct.symm
                        have HNO : Hid (glB (x0, x1, x2, x3, x4) = false) := Hid.mk (HNW.out hkx (by rw [HDEF.out, Bool.and_eq_false_iff]; right; exact List.all_eq_false.2 ⟨_, List.mem_of_getElem? htk, by simp only; rw [decide_eq_true hct]; decide⟩))
                        clear hct htk
                        go_upto_region 23 with fail
                        rw [← hU]
                        clear hU f0 f1 f2
                        go_wp2
                        go_ret
                        exact ⟨ret_bool (by rw [HNO.out]), HBW.out.trans (HBU.out.mono HBW.out.size)⟩
                      · have hcb : (y0 == t0) = false := beq_eq_false_iff_ne.2 (fun e => hct e.symm)
                        have HCN : Hid ((((x1.take k).take (j + 1)).all fun z => !decide (z.1 = y0)) = true) := Hid.mk (by rw [all_takeS htk, HCL.out]; simp only; rw [decide_eq_false hct]; rfl)
                        clear hct htk
                        go_upto_region 23 with fail
                        rw [← hU]
                        clear hU f0 f1 f2
                        go_wp2
                        go_roundw
                        case rel => exact ⟨j + 1, by omega, by go_num, HCN.out, HBU.out, HBU2.out⟩
                        case measure => simp [intOf]; omega
                    · obtain rfl : j = k := by omega
                      have hji : ¬ (j : Int) < (j : Int) := by omega
                      have HAT : Hid (waitAt x1 x3 x4 j = true) := Hid.mk (by
                        rw [List.take_of_length_le (by rw [List.length_take]; omega)] at hcl
                        rw [HDEF.out, HEN.out, hcl]; rfl)
                      have HBZ := Hid.mk hbz
                      clear hcl hbz hbz2
                      go_wp2
                      go_roundw
                      case rel => exact ⟨j + 1, by omega, by go_num, (fun i hi => by
                        rcases Nat.lt_succ_iff_lt_or_eq.1 hi with h | rfl
                        · exact HIN.out i h
                        · exact HAT.out), HBZ.out⟩
                      case measure => simp [intOf]; omega
              · obtain rfl : n1 = k := by omega
                have hki : ¬ (n1 : Int) < (n1 : Int) := by omega
                have HWT : Hid (∀ i, i < x1.length → waitAt x1 x3 x4 i = true) := Hid.mk (fun i hi => HIN.out i (by have := HZ1.out; omega))
                have p0 := cell_later hbw HP0.out
                have p1 := cell_later hbw HP1.out
                have p2 := cell_later hbw HP2.out
                have p3 := cell_later hbw HP3.out
                have p4 := cell_later hbw HP4.out
                have HBL := Hid.mk hbw
                clear HIN hbw
                go_upto_region 27 with fail
                refine wp_region_held_drew (S := fun w' => w'.cell? ⟨w.heap.size, 0, none⟩ = some (.slice a0 n0 c0) ∧ w'.cell? ⟨w.heap.size, 1, none⟩ = some (.slice a1 n1 c1) ∧ w'.cell? ⟨w.heap.size, 2, none⟩ = some (.slice a2 n2 c2) ∧ w'.cell? ⟨w.heap.size, 3, none⟩ = some (.slice a3 n3 c3) ∧ w'.cell? ⟨w.heap.size, 4, none⟩ = some (.slice a4 n4 c4)) (by kernel_rfl) ?_ (fun hHeld => ?_)
                · (try dsimp only)
                  exact ⟨p0, p1, p2, p3, p4⟩
                refine tk 1 ?_
                refine tk 2 ?_
                refine tk 4 ?_
                refine tk 5 ?_
                obtain ⟨Y, hY⟩ : ∃ u, u = wY.drew := ⟨_, rfl⟩
                have bY : Below wY.heap.size wY Y := by rw [hY]; exact (Below.refl _ _).drew
                have p0 := cell_later bY p0
                have p1 := cell_later bY p1
                have p2 := cell_later bY p2
                have p3 := cell_later bY p3
                have p4 := cell_later bY p4
                have HBY := Hid.mk (HBL.out.trans (bY.mono HBL.out.size))
                rw [← hY]
                clear hY bY
                refine wpAnyH_ready (rs := [0]) (by kernel_rfl) (by simp) ?_
                refine AllReadyH.cons (o := ?_) ?_ (fun K hK => ?_) AllReadyH.nil
                rotate_left
                · (simp only [List.getElem?_toArray, List.getElem?_cons_zero]; rfl)
                go_simp
                skip
                (try go_wp2_with fail)
                refine hK.out _ _ ?_ (fun hHeld' => ?_)
                · (try dsimp only)
                  exact ⟨cell_later ((Below.refl _ _).alloc (Nat.le_refl _) _) p0, cell_later ((Below.refl _ _).alloc (Nat.le_refl _) _) p1, cell_later ((Below.refl _ _).alloc (Nat.le_refl _) _) p2, cell_later ((Below.refl _ _).alloc (Nat.le_refl _) _) p3, cell_later ((Below.refl _ _).alloc (Nat.le_refl _) _) p4⟩
                clear hK K hHeld
                have hHeld := hHeld'
                clear hHeld'
                (try simp only [Act.put, List.setIfInBounds_toArray, List.set_cons_zero, List.set_cons_succ])
                obtain ⟨X, hX⟩ : ∃ u, u = Y.alloc (.cells #[] 3) := ⟨_, rfl⟩
                have bX : Below Y.heap.size Y X := by rw [hX]; exact (Below.refl _ _).alloc (Nat.le_refl _) _
                have oX : X.ownsRow Y.heap.size 3 1 (.slice (some ⟨Y.heap.size, 0, none⟩) 0 0) 0 [] := ⟨by simp, .inr ⟨Y.heap.size, 0, #[], rfl, Nat.le_refl _, by rw [hX]; exact heap_alloc_new Y _, Nat.le_refl _, by decide, by simp, by simp⟩⟩
                have p0 := cell_later bX p0
                have p1 := cell_later bX p1
                have p2 := cell_later bX p2
                have p3 := cell_later bX p3
                have p4 := cell_later bX p4
                have HBX := Hid.mk (HBY.out.trans (bX.mono HBY.out.size))
                rw [← hX]
                clear hX
                refine wpAnyH_ready (rs := [3]) (by kernel_rfl) (by simp) ?_
                refine AllReadyH.cons (o := ?_) ?_ (fun K hK => ?_) AllReadyH.nil
                rotate_left
                · (simp only [List.getElem?_toArray, List.getElem?_cons_zero, List.getElem?_cons_succ]; rfl)
                refine step_append_all rfl (.tmp 124) (.tmp 126) 23 rfl Y.heap.size 3 i0 (.int .i64 0) 8 Tryd.underlying23 hi hz0_ hz1_ hz2_ rfl (.slice (some ⟨Y.heap.size, 0, none⟩) 0 0) 0 [] (by simp [Act.eval]) oX a3 n3 c3 x3 (by simp [Act.eval]) HZ3.out (At.below HA3.out HBX.out) hF3 (by unfold maxLen; omega) (by omega) bX.size ?_
                intro r1 d1 u1 oo1 hg1 ht1
                simp only [Nat.zero_add, List.nil_append] at oo1 ht1 ⊢
                have bU1 : Below Y.heap.size Y u1 := bX.grown hg1 bX.size (fun j hj => (oX.lt j hj).1)
                have p0 := by have h9 := cell_later (Below.refl _ _) p0; exact hg1.cell h9 (fun e => by have h8 := (oX.lt _ e.symm).1; have h7 := HSZ.out; have h6 := HBY.out.size; simp only at h8; omega)
                have p1 := by have h9 := cell_later (Below.refl _ _) p1; exact hg1.cell h9 (fun e => by have h8 := (oX.lt _ e.symm).1; have h7 := HSZ.out; have h6 := HBY.out.size; simp only at h8; omega)
                have p2 := by have h9 := cell_later (Below.refl _ _) p2; exact hg1.cell h9 (fun e => by have h8 := (oX.lt _ e.symm).1; have h7 := HSZ.out; have h6 := HBY.out.size; simp only at h8; omega)
                have p3 := by have h9 := cell_later (Below.refl _ _) p3; exact hg1.cell h9 (fun e => by have h8 := (oX.lt _ e.symm).1; have h7 := HSZ.out; have h6 := HBY.out.size; simp only at h8; omega)
                have p4 := by have h9 := cell_later (Below.refl _ _) p4; exact hg1.cell h9 (fun e => by have h8 := (oX.lt _ e.symm).1; have h7 := HSZ.out; have h6 := HBY.out.size; simp only at h8; omega)
                have HBU1 := Hid.mk (HBY.out.trans (bU1.mono HBY.out.size))
                refine hK.out _ _ ?_ (fun hHeld' => ?_)
                · (try dsimp only)
                  exact ⟨p0, p1, p2, p3, p4⟩
                clear hK K hHeld
                have hHeld := hHeld'
                clear hHeld'
                (try simp only [Act.put, List.setIfInBounds_toArray, List.set_cons_zero, List.set_cons_succ])
                refine wpAnyH_ready (rs := [6]) (by kernel_rfl) (by simp) ?_
                refine AllReadyH.cons (o := ?_) ?_ (fun K hK => ?_) AllReadyH.nil
                rotate_left
                · (simp only [List.getElem?_toArray, List.getElem?_cons_zero, List.getElem?_cons_succ]; rfl)
                refine step_append_all rfl (.tmp 127) (.tmp 129) 23 rfl Y.heap.size 3 i0 (.int .i64 0) 8 Tryd.underlying23 hi hz0_ hz1_ hz2_ rfl (.slice r1 n3 d1) n3 (x3.map (.int .i64)) (by simp [Act.eval]) oo1 a4 n4 c4 x4 (by simp [Act.eval]) HZ4.out (At.below HA4.out HBU1.out) hF4 (by unfold maxLen; omega) (by omega) bU1.size ?_
                intro r2 d2 u2 oo2 hg2 ht2
                have bU2 : Below Y.heap.size Y u2 := bU1.grown hg2 bU1.size (fun j hj => (oo1.lt j hj).1)
                have p0 := hg2.cell p0 (fun e => by have h8 := (oo1.lt _ e.symm).1; have h7 := HSZ.out; have h6 := HBY.out.size; simp only at h8; omega)
                have p1 := hg2.cell p1 (fun e => by have h8 := (oo1.lt _ e.symm).1; have h7 := HSZ.out; have h6 := HBY.out.size; simp only at h8; omega)
                have p2 := hg2.cell p2 (fun e => by have h8 := (oo1.lt _ e.symm).1; have h7 := HSZ.out; have h6 := HBY.out.size; simp only at h8; omega)
                have p3 := hg2.cell p3 (fun e => by have h8 := (oo1.lt _ e.symm).1; have h7 := HSZ.out; have h6 := HBY.out.size; simp only at h8; omega)
                have p4 := hg2.cell p4 (fun e => by have h8 := (oo1.lt _ e.symm).1; have h7 := HSZ.out; have h6 := HBY.out.size; simp only at h8; omega)
                have HBU2 := Hid.mk (HBY.out.trans (bU2.mono HBY.out.size))
                refine hK.out _ _ ?_ (fun hHeld' => ?_)
                · (try dsimp only)
                  exact ⟨p0, p1, p2, p3, p4⟩
                clear hK K hHeld
                have hHeld := hHeld'
                clear hHeld'
                (try simp only [Act.put, List.setIfInBounds_toArray, List.set_cons_zero, List.set_cons_succ])
                refine tk 7 ?_
                refine wpAnyH_done (by kernel_rfl) ?_ _
                have HO : Hid (u2.ownsRow Y.heap.size 3 1 (.slice r2 (n3 + n4) d2) (n3 + n4) ((x3 ++ x4).map (.int .i64))) := Hid.mk (by rw [List.map_append]; exact oo2)
                clear oo1 oo2 hg1 hg2 ht1 ht2 oX bX bU1 bU2
                obtain ⟨N, hN⟩ : ∃ N, n3 + n4 = N := ⟨_, rfl⟩
                have HL : Hid ((x3 ++ x4).length = N) := Hid.mk (by rw [List.length_append, HZ3.out, HZ4.out, hN])
                have hNb : N ≤ 2097152 := by omega
                rw [hN] at HO ⊢
                clear hN
                obtain ⟨Z, hZ⟩ : ∃ Z, x3 ++ x4 = Z := ⟨_, rfl⟩
                rw [hZ] at HO HL
                have HZDEF := Hid.mk hZ
                clear hZ
                have hNd : N ≤ d2 := by
                  rcases HO.out.2 with ⟨_, h9⟩ | ⟨g9, cap, cur, hv, _, _, h8, _⟩
                  · omega
                  · simp only [Value.slice.injEq] at hv; omega
                go_wp2
                go_loopw [133] (fun i wr => ∃ (k : Nat), k ≤ N ∧ i = .int .i64 k ∧ (∀ i, i < k → leftAt Z i = true) ∧ Below W.heap.size W wr ∧ wr = u2) (fun i _ => N - (intOf i).toNat)
                case atStart => exact ⟨0, Nat.zero_le _, rfl, fun i h => by omega, HBU2.out, rfl⟩
                case round =>
                  obtain ⟨k, hk, rfl, hin, hbw, rfl⟩ := hrel
                  have HIN := Hid.mk hin
                  clear hin
                  by_cases hlt : k < N
                  · obtain ⟨b, off, hr, _, hc⟩ := At.some (At.owned HO.out) (by have := HL.out; omega)
                    obtain rfl := hr
                    have hcx := hc k (by have := HL.out; omega)
                    obtain ⟨t, ht⟩ : ∃ t, t = Z.getD k 0 := ⟨_, rfl⟩
                    rw [← ht] at hcx
                    have HDEF : Hid (leftAt Z k = (tOk t && !decide (t ∈ Z.take k))) := Hid.mk (by unfold leftAt; rw [ht])
                    have hki : (k : Int) < (N : Int) := by omega
                    have hkd : k ≤ d2 := by omega
                    have KH := Hid.mk (l1Has_any (some ⟨b, off, none⟩) k d2 (Z.take k) t wr (by rw [List.length_take]; have := HL.out; omega) (by omega) (flat_take k (At.owned HO.out)))
                    clear hc ht
                    by_cases hr : 0 ≤ t ∧ t < 6
                    · have h0 : ¬ t < 0 := by omega
                      have h6 : ¬ 6 ≤ t := by omega
                      have HTK : Hid (tOk t = true) := Hid.mk (tOk_iff.2 hr)
                      by_cases hm : t ∈ Z.take k
                      · rw [decide_eq_true hm] at KH
                        have HNO : Hid (glB (x0, x1, x2, x3, x4) = false) := Hid.mk (HNL.out (by rw [HZDEF.out]; exact left_no (k := k) (by have := HL.out; omega) (by rw [HDEF.out, decide_eq_true hm]; simp)))
                        go_wp2_with fail
                        refine KH.out.mono ?_
                        rintro e w7 ⟨rfl, hw7⟩
                        obtain rfl := hw7.symm
                        go_wp2
                        go_ret
                        exact ⟨ret_bool (by rw [HNO.out]), HBW.out.trans (hbw.mono HBW.out.size)⟩
                      · rw [decide_eq_false hm] at KH
                        have HAT : Hid (leftAt Z k = true) := Hid.mk (by rw [HDEF.out, HTK.out, decide_eq_false hm]; rfl)
                        go_wp2_with fail
                        refine KH.out.mono ?_
                        rintro e w7 ⟨rfl, hw7⟩
                        obtain rfl := hw7.symm
                        go_wp2
                        go_roundw
                        case rel => exact ⟨k + 1, by omega, by go_num, (fun i hi => by
                          rcases Nat.lt_succ_iff_lt_or_eq.1 hi with h | rfl
                          · exact HIN.out i h
                          · exact HAT.out), hbw, by trivial⟩
                        case measure => simp [intOf]; omega
                    · have HNO : Hid (glB (x0, x1, x2, x3, x4) = false) := Hid.mk (HNL.out (by rw [HZDEF.out]; exact left_no (k := k) (by have := HL.out; omega) (by rw [HDEF.out, Bool.eq_false_iff.2 (fun h => hr (tOk_iff.1 h))]; rfl)))
                      by_cases h0 : t < 0
                      · clear hr
                        go_wp2
                        go_ret
                        exact ⟨ret_bool (by rw [HNO.out]), HBW.out.trans (hbw.mono HBW.out.size)⟩
                      · have h6 : 6 ≤ t := by omega
                        clear hr
                        go_wp2
                        go_ret
                        exact ⟨ret_bool (by rw [HNO.out]), HBW.out.trans (hbw.mono HBW.out.size)⟩
                  · obtain rfl : N = k := by omega
                    have hki : ¬ (N : Int) < (N : Int) := by omega
                    have HLT : Hid (leftG Z = true) := Hid.mk (left_all (fun i hi => HIN.out i (by have := HL.out; omega)))
                    have hw40 : IntKind.i64.wrap ((n2 : Int) + (n1 : Int)) = ((n2 + n1 : Nat) : Int) := (IntWalk.i64_in _ (by omega)).trans (by omega)
                    have HFIN : Hid (glB (x0, x1, x2, x3, x4) = decide (n2 + n1 ≤ 40)) := Hid.mk (HYES.out HALL.out.1 HALL.out.2 HWT.out (by rw [HZDEF.out]; exact HLT.out))
                    by_cases h40 : n2 + n1 ≤ 40
                    · have h40i : ((n2 + n1 : Nat) : Int) ≤ 40 := by omega
                      rw [decide_eq_true h40] at HFIN
                      go_wp2
                      go_ret
                      exact ⟨ret_bool (by rw [HFIN.out]; simp <;> omega), HBW.out.trans (hbw.mono HBW.out.size)⟩
                    · have h40i : ¬ ((n2 + n1 : Nat) : Int) ≤ 40 := by omega
                      rw [decide_eq_false h40] at HFIN
                      go_wp2
                      go_ret
                      exact ⟨ret_bool (by rw [HFIN.out]; simp <;> omega), HBW.out.trans (hbw.mono HBW.out.size)⟩

end Go.Proofs.YtjjebodlekepaaaDoor
