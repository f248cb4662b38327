/- Several texts of one proof, in build order: SjI, KeptB, SjH, L1In. -/
import Derived.Test.YtkcmlphpilggpaaM14
import Derived.Test.YtkcmlphpilggpaaM15
import Derived.Test.YtkcmlphpilggpaaM3
import Derived.BigQuiet
import Derived.Deep.CutBlock
import Derived.Test.YtkcmlphpilggpaaM1
import Derived.Test.YtkcmlphpilggpaaRows

/- Plain functions of SemiJoin; contracts of impl.alikeInPairs and impl.partners.haveOneFor. -/
namespace Go.Proofs.Ytkcmlphpilggpaa
open Go.RowKit Go.Shelf

/-- Two rows are alike in all pairs of columns. -/
def alikeP (x y p : List Int) : Bool := decide (x.getD (p.getD 0 0).toNat 0 = y.getD (p.getD 1 0).toNat 0)
def alikeB (x y : List Int) (ps : List (List Int)) : Bool := ps.all (alikeP x y)
theorem alikeB_step {x y : List Int} {ps : List (List Int)} {k : Nat} (h : k < ps.length) : alikeB x y (ps.drop k) = (alikeP x y (ps.getD k []) && alikeB x y (ps.drop (k + 1))) := by
  unfold alikeB
  rw [List.drop_eq_getElem_cons h, List.all_cons]
  simp [List.getD, h]
theorem alikeB_done {x y : List Int} {ps : List (List Int)} {n : Nat} (h : ps.length = n) : alikeB x y (ps.drop n) = true := by
  rw [List.drop_of_length_le (by omega)]; rfl
/-- Some row of these is alike. -/
def haveB (ys : List WRow) (ps : List (List Int)) (x : List Int) : Bool := ys.any fun y => alikeB x y.1 ps
theorem haveB_take {ys : List WRow} {ps : List (List Int)} {x : List Int} {k : Nat} (h : k < ys.length) : haveB (ys.take (k + 1)) ps x = (haveB (ys.take k) ps x || alikeB x (wat ys k).1 ps) := by
  unfold haveB
  rw [wtake_succ ys k h, List.any_append, List.any_cons, List.any_nil, Bool.or_false]

set_option maxHeartbeats 2000000 in
theorem alikeInPairs_any (xa : Option Addr) (q xc : Nat) (x : List Int) (ya : Option Addr) (q' yc : Nat) (y : List Int) (a : Option Addr) (n c : Nat) (ps : List (List Int)) (w : World) (hx : x.length = q) (hy : y.length = q') (hq : q ≤ 6) (hq' : q' ≤ 6) (hz : ps.length = n)
    (hok : pairsOk ps q q' = true) (hax : At w xa x) (hay : At w ya y) (ha : AtS w a ps) :
    Calls Try.prog 104 #[.agg #[.slice xa q xc], .agg #[.slice ya q' yc], .slice a n c] w fun e w' => e = .returned (.bool (alikeB x y ps)) ∧ Below w.heap.size w w' := by
  have hn6 := pairsOk_len hok
  have hpair := fun k hk => pairsOk_at hok k hk
  clear hok
  obtain ⟨W, hW⟩ : ∃ W, W = (w.alloc (.cells #[.slice xa q xc] 97)).alloc (.cells #[.slice ya q' yc] 97) := ⟨_, rfl⟩
  have B0 : Below w.heap.size w W := by rw [hW]; exact ((Below.refl _ _).alloc (Nat.le_refl _) _).alloc (by simp) _
  have c0 : W.cell? ⟨w.heap.size, 0, none⟩ = some (.slice xa q xc) := by rw [hW]; simp
  have c1 : W.cell? ⟨w.heap.size + 1, 0, none⟩ = some (.slice ya q' yc) := by rw [hW]; simp
  have HX := Hid.mk (hax.below B0)
  have HY := Hid.mk (hay.below B0)
  have HA := Hid.mk (ha.below B0)
  clear hax hay ha
  go_enter Try.func104, Try.ntmps104
  go_wp2_with fail
  rw [← hW]
  clear hW
  go_loopw [11] (fun i wr => ∃ k : Nat, k ≤ n ∧ i = .int .i64 k ∧ alikeB x y ps = alikeB x y (ps.drop k) ∧ Below W.heap.size W wr) (fun i _ => n - (intOf i).toNat)
  case atStart => exact ⟨0, Nat.zero_le _, rfl, by simp, Below.refl _ _⟩
  case round =>
    obtain ⟨k, hk, rfl, hs, hbw⟩ := hrel
    have d0 := cell_later hbw c0
    have d1 := cell_later hbw c1
    have BW : Below w.heap.size w wr := B0.trans (hbw.mono B0.size)
    by_cases hlt : k < n
    · obtain ⟨b, off, rfl, hc⟩ := (HA.out.below hbw).some (by omega)
      obtain ⟨pq, pd, hcx, _, hat⟩ := hc k (by omega)
      obtain ⟨hl2, hi0, hi1⟩ := hpair k (by omega)
      rw [alikeB_step (by omega)] at hs
      unfold alikeP at hs
      generalize ps.getD k [] = pr at *
      obtain ⟨b', off', rfl, _, hc'⟩ := hat.some (by omega)
      have hp0 := hc' 0 (by omega)
      rw [Nat.add_zero] at hp0
      have hp1 := hc' 1 (by omega)
      rw [hl2] at hcx
      obtain ⟨v, hv⟩ : ∃ v, pr.getD 0 0 = v := ⟨_, rfl⟩
      obtain ⟨v', hv'⟩ : ∃ v, pr.getD 1 0 = v := ⟨_, rfl⟩
      rw [hv] at hp0 hi0 hs
      rw [hv'] at hp1 hi1 hs
      obtain ⟨j, rfl⟩ : ∃ j : Nat, v = (j : Int) := ⟨v.toNat, by omega⟩
      obtain ⟨j', rfl⟩ : ∃ j : Nat, v' = (j : Int) := ⟨v'.toNat, by omega⟩
      obtain ⟨b1, off1, rfl, _, hc1⟩ := (HX.out.below hbw).some (by omega)
      obtain ⟨b2, off2, rfl, _, hc2⟩ := (HY.out.below hbw).some (by omega)
      have hx1 := hc1 j (by omega)
      have hy1 := hc2 j' (by omega)
      rw [show (j : Int).toNat = j by omega, show (j' : Int).toNat = j' by omega] at hs
      obtain ⟨u, hu⟩ : ∃ u, x.getD j 0 = u := ⟨_, rfl⟩
      obtain ⟨u', hu'⟩ : ∃ u, y.getD j' 0 = u := ⟨_, rfl⟩
      rw [hu] at hx1 hs
      rw [hu'] at hy1 hs
      have hki : (k : Int) < (n : Int) := by omega
      have hji : (j : Int) < (q : Int) := by omega
      have hji' : (j' : Int) < (q' : Int) := by omega
      have HS := Hid.mk hs
      clear hs hc hc1 hc2 hu hu' hv hv' hi0 hi1 hc' hat hl2 hpair
      by_cases e : u = u'
      · have HE : Hid (alikeB x y ps = alikeB x y (ps.drop (k + 1))) := by show _ = _; rw [HS.out, decide_eq_true e, Bool.true_and]
        have hne : (u != u') = false := by simp [e]
        clear e
        go_wp2_with fail
        go_quiet (fail)
        go_wp2
        go_roundw
        case rel => exact ⟨k + 1, by omega, by go_num, HE.out, by first | exact hbw | exact below_drewN hbw _⟩
        case measure => simp [intOf]; omega
      · have HE : Hid (alikeB x y ps = false) := by show _ = _; rw [HS.out, decide_eq_false e, Bool.false_and]
        have hne : (u != u') = true := by simp [e]
        clear e
        go_wp2_with fail
        go_quiet (fail)
        go_wp2
        go_ret
        exact ⟨by rw [HE.out]; rfl, by first | exact BW | exact below_drewN BW _⟩
    · obtain rfl : k = n := by omega
      have HE : Hid (alikeB x y ps = true) := by show _ = _; rw [hs]; exact alikeB_done hz
      clear hs
      go_wp2
      go_ret
      exact ⟨by rw [HE.out]; rfl, BW⟩

end Go.Proofs.Ytkcmlphpilggpaa

/- Contracts of impl.keptRows and of the function that it hands back, where a method value says which rows are kept. -/
namespace Go.Proofs.Ytkcmlphpilggpaa
open Go.RowKit Go.Shelf

attribute [local go_sem] Oper.semAt_some

/-- The method kf of rv says of each row of Q whether it is kept, in whatever world keeps what lay below w's end. -/
def SieveB (P : Program) (kf : Nat) (rv : Value) (keep : List Int → Bool) (Q : List Int → Prop) (w : World) : Prop :=
  ∀ (W : World) (a : Option Addr) (n c : Nat) (zs : List Int), Below w.heap.size w W → Q zs → zs.length = n → At W a zs →
    Calls P kf #[rv, .agg #[.slice a n c]] W fun e W' => e = .returned (.bool (keep zs)) ∧ Below W.heap.size W W'
theorem SieveB.later {P : Program} {kf : Nat} {rv : Value} {keep : List Int → Bool} {Q : List Int → Prop} {w w' : World} (h : SieveB P kf rv keep Q w) (hb : Below w.heap.size w w') : SieveB P kf rv keep Q w' :=
  fun W a n c zs h1 => h W a n c zs (hb.trans (h1.mono hb.size))

theorem keptRowsB_any (gf kf : Nat) (lb : Array Value) (rv : Value) (w : World) :
    Calls Try.prog 84 #[.func (.func gf) #[] lb, .func (.func kf) #[rv] #[]] w fun e w' => e = .returned (.func (.func 103) #[] #[.pointer (some ⟨w.heap.size, 0, none⟩), .pointer (some ⟨w.heap.size + 1, 0, none⟩)]) ∧ w' = (w.alloc (.cells #[.func (.func gf) #[] lb] 115)).alloc (.cells #[.func (.func kf) #[rv] #[]] 100) := by
  go_enter Try.func84, Try.ntmps84
  go_wp2
  go_ret
  exact ⟨rfl, rfl⟩

set_option maxRecDepth 100000 in
set_option maxHeartbeats 4000000 in
theorem keptRowsB1_hands (T K gf kf : Nat) (lb : Array Value) (rv : Value) (xs : List WRow) (keep : List Int → Bool) (Q : List Int → Prop) (w : World) (hT : w.cell? ⟨T, 0, none⟩ = some (.func (.func gf) #[] lb)) (hK : w.cell? ⟨K, 0, none⟩ = some (.func (.func kf) #[rv] #[]))
    (eg : ∀ args w, (callFunc gf args).run Try.prog w = .ok (.enter gf args) w) (ek : ∀ args w, (callFunc kf args).run Try.prog w = .ok (.enter kf args) w) (hH : Hands Try.prog gf lb xs w) (hS : SieveB Try.prog kf rv keep Q w) (hQ : ∀ k, k < xs.length → Q (wat xs k).1) :
    Hands Try.prog 103 #[.pointer (some ⟨T, 0, none⟩), .pointer (some ⟨K, 0, none⟩)] (xs.filterMap (keptG keep)) w := by
  intro n₀ l J W h1 h2 hb hJ hY h0
  refine callsIn_of_wp_marks Try.func103 rfl trivial ?_
  simp only [Try.ntmps103, List.size_toArray, List.length_cons, List.length_nil, Nat.reduceAdd, Nat.reduceSub, Array.replicate_succ, Array.replicate_zero, List.push_toArray, List.append_toArray, List.nil_append, List.cons_append]
  obtain ⟨W0, hW0⟩ : ∃ W0, W0 = W.alloc (.cells #[.func (.yield l) #[] #[]] 134) := ⟨_, rfl⟩
  have hbW : Below W.heap.size W W0 := by rw [hW0]; exact (Below.refl _ _).alloc (Nat.le_refl _) _
  have z0 : W0.heap.size = W.heap.size + 1 := by rw [hW0]; simp
  have hTW := cell_later hb hT
  have hTL : (W.alloc (.cells #[.func (.yield l) #[] #[]] 134)).cell? ⟨T, 0, none⟩ = some (.func (.func gf) #[] lb) := cell_later ((Below.refl _ _).alloc (Nat.le_refl _) _) hTW
  have I0 : Passing n₀ J W (fun _ _ => True) W0.heap.size (keptG keep) xs (.func (.yield l) #[] #[]) 134 0 W0 := by
    refine ⟨hJ 0 W W0 hbW h0, ?_, ⟨hbW.os, hbW.tape, hbW.output, hbW.size, fun j hj _ => hbW.block j hj⟩, Nat.le_refl _⟩
    rw [hW0]; exact heap_alloc_new W _
  gi_wp2
  rw [← hW0]
  clear hW0 hTL
  refine range_hands (gf := gf) (lb := lb) rfl eg hH (hb.trans (hbW.mono hb.size)) n₀ h1 (by omega) _ (fun k A B hB h => h.keep hJ (by omega) hB) I0 ?round ?done
  case round =>
    intro r k W1 b n c hr hkx hI hsz hrec hln hnil hat hfar
    have hq := hQ k hkx
    obtain ⟨Y, hYk⟩ : ∃ Y, Y = wat xs k := ⟨_, rfl⟩
    rw [← hYk] at hln hat hfar hq ⊢
    obtain ⟨ys, x⟩ := Y
    simp only at hln hat hfar hq
    gi_wp2
    refine ⟨(Below.refl _ _).alloc (Nat.le_refl _) _, fun W3 hT3 _ => ?_⟩
    obtain ⟨W2, hW2⟩ : ∃ W2, W2 = W1.alloc (.cells #[.slice b n c] 97) := ⟨_, rfl⟩
    have hb2 : Below W1.heap.size W1 W2 := by rw [hW2]; exact (Below.refl _ _).alloc (Nat.le_refl _) _
    have cr : W2.cell? ⟨W1.heap.size, 0, none⟩ = some (.slice b n c) := by rw [hW2]; simp
    rw [← hW2] at hT3
    clear hW2
    have hI3 := (hI.keep hJ (by omega) (hb2.mono hsz)).keep hJ (by omega) (hT3.below hr)
    have cr3 := hT3.cell cr
    have cy3 : W3.cell? ⟨W.heap.size, 0, none⟩ = some (.func (.yield l) #[] #[]) := by rw [cell_of_row W3 _ 0 _ _ (0, 0) hI3.box]; rfl
    have hat3 := hT3.at (hat.below hb2)
    have hb3 : Below w.heap.size w W3 := hb.trans (hI3.low.below hb.size h1)
    have ck3 := cell_later hb3 hK
    clear hI hat cr hT3
    have hC := hS W3 b n c ys hb3 hq hln hat3
    cases hx : keep ys with
    | true =>
      have hgx : keptG keep (wat xs k) = some (ys, x) := by rw [← hYk]; exact if_pos hx
      obtain ⟨o1, o2, o3⟩ := outW_some hkx hgx
      have HI3 := Hid.mk hI3
      have HO1 := Hid.mk o1
      have HO3 := Hid.mk o3
      have HX := Hid.mk hx
      have HY := Hid.mk hY
      clear hI3 o1 o3 hgx hYk hx hY
      gi_wp2_with fail
      refine ⟨trivial, rfl, ?_⟩
      refine (callsIn_wide.2 hC).mono ?_
      rintro e W4 ⟨rfl, hb4⟩
      rw [HX.out]
      have cr4 := cell_later hb4 cr3
      have cy4 := cell_later hb4 cy3
      have hI4 := HI3.out.keep hJ (by omega) (hb4.mono HI3.out.size)
      obtain ⟨fn, tmps, assign, body, hy, hR⟩ := HY.out (outW (keptG keep) xs k) W4 b n c o2 hI4.told (by have := hI4.size; omega) (by rw [HO3.out]; exact hln) hnil (by rw [HO3.out]; exact hat3.below hb4) (by rw [HO3.out]; exact hfar.mono (by omega))
      rw [HO3.out] at hy
      simp only at hy
      have HI4 := Hid.mk hI4
      clear hI4 HI3 HY
      gi_wp2
      refine ⟨rfl, hR.mono ?_⟩
      rintro e W5 ⟨rfl, hJ5, hap5⟩
      have hI4 := HI4.out
      have hfin : Passing n₀ J W (fun _ _ => True) W0.heap.size (keptG keep) xs (.func (.yield l) #[] #[]) 134 (k + 1) W5 := by
        refine ⟨by rw [HO1.out]; exact hJ5, (hap5.block _ (by have := hI4.size; omega) (.inr (Nat.le_refl _))).trans hI4.box, hI4.low.trans hap5, Nat.le_trans hI4.size hap5.size⟩
      have hapf : Apart n₀ W0.heap.size W3 W5 := ⟨hap5.os.trans hb4.os, hap5.tape.trans hb4.tape, hap5.output.trans hb4.output, Nat.le_trans hb4.size hap5.size, fun j hj hc => (hap5.block j (by have := hb4.size; omega) (by omega)).trans (hb4.block j hj)⟩
      rw [z0] at hfin hapf
      clear hI4 HI4 hJ5 hap5 hR hy
      gi_wp2
      done
    | false =>
      have hgx : keptG keep (wat xs k) = none := by rw [← hYk]; exact if_neg (by rw [hx]; simp)
      have HO1 := Hid.mk (outW_none hkx hgx)
      have HI3 := Hid.mk hI3
      have HX := Hid.mk hx
      clear hI3 hgx hYk hx hY
      gi_wp2_with fail
      refine ⟨trivial, rfl, ?_⟩
      refine (callsIn_wide.2 hC).mono ?_
      rintro e W4 ⟨rfl, hb4⟩
      rw [HX.out]
      have hI4 := HI3.out.keep hJ (by omega) (hb4.mono HI3.out.size)
      have hfin : Passing n₀ J W (fun _ _ => True) W0.heap.size (keptG keep) xs (.func (.yield l) #[] #[]) 134 (k + 1) W4 := ⟨by rw [HO1.out]; exact hI4.told, hI4.box, hI4.low, hI4.size⟩
      have hapf : Apart n₀ W0.heap.size W3 W4 := ⟨hb4.os, hb4.tape, hb4.output, hb4.size, fun j hj _ => hb4.block j hj⟩
      rw [z0] at hfin hapf
      clear hI4 HI3
      gi_wp2
      refine ⟨fun _ h => (by cases h), ?_⟩
      gi_wp2
      done
  case done =>
    intro D A hD hI hap hdef
    have hto := hI.told
    rw [outW_all] at hto
    have hDl : D < A.heap.size := (Array.getElem?_eq_some_iff.1 hdef).1
    have hJf := hJ _ A (A.putObj D (.deferred none)) ((Below.refl _ _).grown (grownBy_putObj' A D _) (by omega) (fun j hj => by cases hj; omega)) hto
    have hapf : Apart n₀ W.heap.size W (A.putObj D (.deferred none)) := ⟨hI.low.os, hI.low.tape, hI.low.output, by have := hI.low.size; simp; omega, fun j hj hc => (World.putObj_heap_other (by omega)).trans (hI.low.block j hj hc)⟩
    gi_wp2
    refine ⟨by simp, .inl ⟨_, _, rfl, run_takeDeferred hdef, ?_⟩⟩
    exact ⟨_, results_none rfl _ _ _, ⟨_, rfl⟩, hJf, hapf⟩
end Go.Proofs.Ytkcmlphpilggpaa

/- The contract of impl.partners.haveOneFor. -/
namespace Go.Proofs.Ytkcmlphpilggpaa
open Go.RowKit Go.Shelf

attribute [local go_sem] Oper.semAt_some

/-- What haveOneFor holds while it looks: its boxes, and what it has found. -/
structure Looking (w : World) (R : Value) (x : Value) (t1 t2 t3 : TypeId) (gv pv : Value) (N : Nat) (found : Bool) (A : World) : Prop where
  b0 : A.heap[w.heap.size]? = some (.cells #[gv, pv] t1 (0, 0))
  b1 : A.heap[w.heap.size + 1]? = some (.cells #[x] t2 (0, 0))
  b2 : A.heap[w.heap.size + 1 + 1]? = some (.cells #[.bool found] t3 (0, 0))
  low : Below w.heap.size w A
  size : N ≤ A.heap.size
theorem Looking.keep {w : World} {R x : Value} {t1 t2 t3 : TypeId} {gv pv : Value} {N : Nat} {f : Bool} {A B : World} (hN : w.heap.size + 1 + 1 < N) (h : Looking w R x t1 t2 t3 gv pv N f A) (hb : Below N A B) : Looking w R x t1 t2 t3 gv pv N f B :=
  ⟨(hb.block _ (by omega)).trans h.b0, (hb.block _ (by omega)).trans h.b1, (hb.block _ (by omega)).trans h.b2, h.low.trans (hb.mono (by omega)), Nat.le_trans h.size hb.size⟩

/-- The first row that is alike, or the end. -/
theorem first_like (ys : List WRow) (ps : List (List Int)) (x : List Int) : ∃ s, (∀ k, k < ys.length → k ≤ s → alikeB x (wat ys k).1 ps = decide (¬ k < s)) ∧ haveB ys ps x = decide (s < ys.length) := by
  have hex : ∀ n, n ≤ ys.length → ∃ m, m ≤ n ∧ (∀ k, k < m → alikeB x (wat ys k).1 ps = false) ∧ (m < n → alikeB x (wat ys m).1 ps = true) := by
    intro n
    induction n with
    | zero => exact fun _ => ⟨0, Nat.le_refl _, fun k hk => by omega, fun h => by omega⟩
    | succ n ih =>
      intro hn
      obtain ⟨m, hm, h1, h2⟩ := ih (by omega)
      by_cases hlt : m < n
      · exact ⟨m, by omega, h1, fun _ => h2 hlt⟩
      · obtain rfl : m = n := by omega
        cases hal : alikeB x (wat ys m).1 ps with
        | true => exact ⟨m, by omega, h1, fun _ => hal⟩
        | false => exact ⟨m + 1, Nat.le_refl _, fun k hk => by
            by_cases e : k = m
            · subst e; exact hal
            · exact h1 k (by omega), fun h => by omega⟩
  obtain ⟨m, hm, h1, h2⟩ := hex ys.length (Nat.le_refl _)
  have hno : ∀ k, k ≤ m → haveB (ys.take k) ps x = false := by
    intro k
    induction k with
    | zero => exact fun _ => rfl
    | succ k ih => exact fun hk => by rw [haveB_take (by omega), ih (by omega), h1 k (by omega)]; rfl
  refine ⟨m, fun k hk hkm => ?_, ?_⟩
  · by_cases hlt : k < m
    · rw [h1 k hlt, decide_eq_false (by simpa using hlt)]
    · obtain rfl : k = m := by omega
      rw [h2 hk, decide_eq_true hlt]
  · by_cases hlt : m < ys.length
    · rw [decide_eq_true hlt]
      have := haveB_take (ps := ps) (x := x) hlt
      rw [hno m (Nat.le_refl _), h2 hlt, Bool.false_or] at this
      unfold haveB at this ⊢
      obtain ⟨y, hy, hp⟩ := List.any_eq_true.1 this
      exact List.any_eq_true.2 ⟨y, List.mem_of_mem_take hy, hp⟩
    · obtain rfl : m = ys.length := by omega
      rw [decide_eq_false hlt, ← hno ys.length (Nat.le_refl _), List.take_length]

set_option maxRecDepth 100000 in
set_option maxHeartbeats 4000000 in
theorem haveOneFor_any (gf : Nat) (lb : Array Value) (ys : List WRow) (a : Option Addr) (np cp : Nat) (ps : List (List Int)) (q q' : Nat) (w0 : World) (eg : ∀ args w, (callFunc gf args).run Try.prog w = .ok (.enter gf args) w) (hH : HandsT Try.prog gf lb ys w0)
    (h6 : q ≤ 6) (h6' : q' ≤ 6) (hz : ps.length = np) (hok : pairsOk ps q q' = true) (hys : ∀ k, k < ys.length → (wat ys k).1.length = q') (ha : AtS w0 a ps) :
    SieveB Try.prog 85 (.agg #[.func (.func gf) #[] lb, .slice a np cp]) (haveB ys ps) (fun zs => zs.length = q) w0 := by
  intro w xa n c x hb0 hq hx hax
  obtain rfl : n = q := hx.symm.trans hq
  refine (callsIn_wide (n := 0)).1 ?_
  refine callsIn_of_wp_marks Try.func85 rfl trivial ?_
  simp only [Try.ntmps85, List.size_toArray, List.length_cons, List.length_nil, Nat.reduceAdd, Nat.reduceSub, Array.replicate_succ, Array.replicate_zero, List.push_toArray, List.append_toArray, List.nil_append, List.cons_append]
  obtain ⟨s, hal, hhave⟩ := first_like ys ps x
  obtain ⟨W0, hW0⟩ : ∃ W0, W0 = ((w.alloc (.cells #[.func (.func gf) #[] lb, .slice a np cp] 119)).alloc (.cells #[.slice xa n c] 97)).alloc (.cells #[.bool false] 4) := ⟨_, rfl⟩
  have z0 : W0.heap.size = w.heap.size + 1 + 1 + 1 := by rw [hW0]; simp
  have B0 : Below w.heap.size w W0 := by rw [hW0]; exact (((Below.refl _ _).alloc (Nat.le_refl _) _).alloc (by simp) _).alloc (by simp; omega) _
  have I0 : Looking w (.bool true) (.slice xa n c) 119 97 4 (.func (.func gf) #[] lb) (.slice a np cp) W0.heap.size false W0 := by
    refine ⟨?_, ?_, ?_, B0, Nat.le_refl _⟩
    · rw [hW0]; exact (Below.heap_alloc _ _ _ (by simp; omega)).trans ((Below.heap_alloc _ _ _ (by simp)).trans (heap_alloc_new w _))
    · rw [hW0]; refine (Below.heap_alloc _ _ _ (by simp)).trans ?_; have := heap_alloc_new (w.alloc (.cells #[.func (.func gf) #[] lb, .slice a np cp] 119)) (.cells #[.slice xa n c] 97); rwa [World.size_alloc] at this
    · rw [hW0]; have := heap_alloc_new ((w.alloc (.cells #[.func (.func gf) #[] lb, .slice a np cp] 119)).alloc (.cells #[.slice xa n c] 97)) (.cells #[.bool false] 4); rwa [World.size_alloc, World.size_alloc] at this
  have k0 : W0.cell? ⟨w.heap.size, 0, none⟩ = some (.func (.func gf) #[] lb) := by rw [cell_of_row W0 _ 0 _ _ (0, 0) I0.b0]; rfl
  gi_wp2_with fail
  rw [← hW0]
  clear hW0
  gi_wp2
  refine range_handsT (s := s) (gf := gf) (lb := lb) rfl eg hH (hb0.trans (B0.mono hb0.size)) w.heap.size hb0.size (by omega) (fun k A => Looking w (.bool true) (.slice xa n c) 119 97 4 (.func (.func gf) #[] lb) (.slice a np cp) W0.heap.size (decide (s < k)) A) (fun k A B hB h => h.keep (by omega) hB) I0 ?round ?done
  case round =>
    intro r k W1 b m d hr hkx hks hI hsz hrec hln hnil hat hfar
    have hq' := hys k hkx
    have halk := hal k hkx hks
    obtain ⟨Y, hYk⟩ : ∃ Y, Y = wat ys k := ⟨_, rfl⟩
    rw [← hYk] at hln hat hfar hq' halk ⊢
    obtain ⟨y, yw⟩ := Y
    simp only at hln hat hfar hq' halk
    obtain rfl : m = q' := hln.symm.trans hq'
    gi_wp2
    refine ⟨(Below.refl _ _).alloc (Nat.le_refl _) _, fun W3 hT3 _ => ?_⟩
    obtain ⟨W2, hW2⟩ : ∃ W2, W2 = W1.alloc (.cells #[.slice b m d] 97) := ⟨_, rfl⟩
    have hb2 : Below W1.heap.size W1 W2 := by rw [hW2]; exact (Below.refl _ _).alloc (Nat.le_refl _) _
    have cr : W2.cell? ⟨W1.heap.size, 0, none⟩ = some (.slice b m d) := by rw [hW2]; simp
    rw [← hW2] at hT3
    clear hW2
    have hns : decide (s < k) = false := decide_eq_false (by omega)
    rw [hns] at hI
    have hI3 := (hI.keep (by omega) (hb2.mono hsz)).keep (by omega) (hT3.below hr)
    have cr3 := hT3.cell cr
    have c1 : W3.cell? ⟨w.heap.size, 1, none⟩ = some (.slice a np cp) := by rw [cell_of_row W3 _ 1 _ _ (0, 0) hI3.b0]; rfl
    have c2 : W3.cell? ⟨w.heap.size + 1, 0, none⟩ = some (.slice xa n c) := by rw [cell_of_row W3 _ 0 _ _ (0, 0) hI3.b1]; rfl
    have hat3 := hT3.at (hat.below hb2)
    have hC := alikeInPairs_any xa n c x b m d y a np cp ps W3 hx hln h6 h6' hz hok (hax.below hI3.low) hat3 ((ha.below hb0).below hI3.low)
    have HI3 := Hid.mk hI3
    clear hI hat cr hT3 hI3
    by_cases hon : k < s
    · rw [exitT_on hon]
      have HX : Hid (alikeB x y ps = false) := halk.trans (decide_eq_false (by simpa using hon))
      have HF : Hid (decide (s < k + 1) = false) := decide_eq_false (by omega)
      clear halk hal hhave
      gi_wp2_with fail
      refine ⟨trivial, rfl, ?_⟩
      refine (callsIn_wide.2 hC).mono ?_
      rintro e W4 ⟨rfl, hb4⟩
      rw [HX.out]
      have hfin := HI3.out.keep (by omega) (hb4.mono HI3.out.size)
      have hapf : Apart w.heap.size W0.heap.size W3 W4 := ⟨hb4.os, hb4.tape, hb4.output, hb4.size, fun j hj _ => hb4.block j hj⟩
      rw [← HF.out] at hfin
      rw [z0] at hfin hapf
      clear HI3 hC
      gi_wp2
      done
    · rw [exitT_off hon]
      have HX : Hid (alikeB x y ps = true) := halk.trans (decide_eq_true hon)
      have HF : Hid (decide (s < k + 1) = true) := decide_eq_true (by omega)
      clear halk hal hhave
      gi_wp2_with fail
      refine ⟨trivial, rfl, ?_⟩
      refine (callsIn_wide.2 hC).mono ?_
      rintro e W4 ⟨rfl, hb4⟩
      rw [HX.out]
      have hI4 := HI3.out.keep (by omega) (hb4.mono HI3.out.size)
      have c4 : W4.cell? ⟨w.heap.size + 1 + 1, 0, none⟩ = some (.bool false) := by rw [cell_of_row W4 _ 0 _ _ (0, 0) hI4.b2]; rfl
      have f4 : W4.frozen? ⟨w.heap.size + 1 + 1, 0, none⟩ = false := frozen_of_row _ _ 0 _ _ hI4.b2
      have HI4 := Hid.mk hI4
      clear HI3 hC hI4
      have hI4 := HI4.out
      have zI := hI4.size
      have hfin : Looking w (.bool true) (.slice xa n c) 119 97 4 (.func (.func gf) #[] lb) (.slice a np cp) W0.heap.size (decide (s < k + 1)) (W4.setCell ⟨w.heap.size + 1 + 1, 0, none⟩ (.bool true)) :=
        ⟨blk_other hI4.b0 (by show w.heap.size ≠ w.heap.size + 1 + 1; omega) _, blk_other hI4.b1 (by show w.heap.size + 1 ≠ w.heap.size + 1 + 1; omega) _, by rw [HF.out]; exact blk_set hI4.b2 0 _, hI4.low.setCell (by show w.heap.size ≤ w.heap.size + 1 + 1; omega) _, by simpa using hI4.size⟩
      have hapf : Apart w.heap.size W0.heap.size W3 (W4.setCell ⟨w.heap.size + 1 + 1, 0, none⟩ (.bool true)) :=
        ⟨hb4.os, hb4.tape, hb4.output, by simpa using hb4.size, fun j hj hc => (Below.heap_setCell _ _ _ _ (by show j ≠ w.heap.size + 1 + 1; omega)).trans (hb4.block j hj)⟩
      rw [z0] at hfin hapf
      clear HI4 hI4
      gi_wp2
      done
  case done =>
    intro D A hD hI hap hdef
    have hDl : D < A.heap.size := (Array.getElem?_eq_some_iff.1 hdef).1
    have zA := hI.size
    by_cases hlt : s < ys.length
    · rw [if_pos hlt]
      rw [Nat.min_eq_left (show s + 1 ≤ ys.length from hlt), decide_eq_true (Nat.lt_succ_self s)] at hI
      rw [decide_eq_true hlt] at hhave
      have hB : Below w.heap.size w (A.putObj D (.deferred none)) := hI.low.grown (grownBy_putObj' A D _) (by omega) (fun j hj => by cases hj; omega)
      have hr : (A.putObj D (.deferred none)).cell? ⟨w.heap.size + 1 + 1, 0, none⟩ = some (.bool true) := by
        rw [cell_of_row _ _ 0 _ _ (0, 0) ((World.putObj_heap_other (by omega)).trans hI.b2)]; rfl
      gi_wp2
      refine ⟨by simp, .inl ⟨_, _, rfl, run_takeDeferred hdef, ?_⟩⟩
      exact ⟨.bool true, by simp [results, Try.results85, go_sem, hr], by rw [hhave], hB⟩
    · rw [if_neg hlt]
      rw [Nat.min_eq_right (show ys.length ≤ s + 1 by omega), decide_eq_false (show ¬ s < ys.length from hlt)] at hI
      rw [decide_eq_false hlt] at hhave
      have c4 : A.cell? ⟨w.heap.size + 1 + 1, 0, none⟩ = some (.bool false) := by rw [cell_of_row A _ 0 _ _ (0, 0) hI.b2]; rfl
      have f4 : A.frozen? ⟨w.heap.size + 1 + 1, 0, none⟩ = false := frozen_of_row _ _ 0 _ _ hI.b2
      obtain ⟨A', hA'⟩ : ∃ A', A' = A.setCell ⟨w.heap.size + 1 + 1, 0, none⟩ (.bool false) := ⟨_, rfl⟩
      have hbx : A'.heap[w.heap.size + 1 + 1]? = some (.cells #[.bool false] 4 (0, 0)) := by rw [hA']; exact blk_set hI.b2 0 _
      have hdef' : A'.heap[D]? = some (.deferred (some [])) := by rw [hA']; exact blk_other hdef (by show D ≠ w.heap.size + 1 + 1; omega) _
      have hB : Below w.heap.size w (A'.putObj D (.deferred none)) := Below.grown (by rw [hA']; exact hI.low.setCell (by show w.heap.size ≤ w.heap.size + 1 + 1; omega) _) (grownBy_putObj' A' D _) (by rw [hA']; simp; omega) (fun j hj => by cases hj; omega)
      have hr : (A'.putObj D (.deferred none)).cell? ⟨w.heap.size + 1 + 1, 0, none⟩ = some (.bool false) := by
        rw [cell_of_row _ _ 0 _ _ (0, 0) ((World.putObj_heap_other (by omega)).trans hbx)]; rfl
      gi_wp2
      rw [← hA']
      refine ⟨by simp, .inl ⟨_, _, rfl, run_takeDeferred hdef', ?_⟩⟩
      exact ⟨.bool false, by simp [results, Try.results85, go_sem, hr], by rw [hhave], hB⟩
end Go.Proofs.Ytkcmlphpilggpaa

/- Contract of spec.l1In. -/
namespace Go.Proofs.Ytkcmlphpilggpaa
open Go.RowKit

theorem l1In_any (x lo hi : Int) (w : World) :
    Calls Try.prog 54 #[.int .i64 x, .int .i64 lo, .int .i64 hi] w fun e w' => e = .returned (.bool (decide (lo ≤ x) && decide (x ≤ hi))) ∧ w' = w := by
  by_cases h : lo ≤ x
  · have h1 : decide (lo ≤ x) = true := decide_eq_true h
    go_enter Try.func54, Try.ntmps54
    go_wp2
    go_ret
    exact ⟨ret_bool (by simp [h]), rfl⟩
  · have h1 : decide (lo ≤ x) = false := decide_eq_false h
    go_enter Try.func54, Try.ntmps54
    go_wp2
    go_ret
    exact ⟨ret_bool (by simp), rfl⟩

end Go.Proofs.Ytkcmlphpilggpaa
