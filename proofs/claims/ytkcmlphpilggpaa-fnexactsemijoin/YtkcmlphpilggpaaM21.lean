/- Several texts of one proof, in build order: SjS, SjY. -/
import Derived.Test.YtkcmlphpilggpaaM18
import Derived.Test.YtkcmlphpilggpaaM15
import Derived.BigQuiet
import Derived.Deep.AppendLies
import Derived.Test.YtkcmlphpilggpaaM20
import Derived.Test.YtkcmlphpilggpaaM6
import Derived.Test.YtkcmlphpilggpaaM17

/- The contract of spec.l11Semi. -/
namespace Go.Proofs.Ytkcmlphpilggpaa
open Go.RowKit Go.Shelf

/-- As the model asks it: some row that is there is alike. -/
def haveM (ys : List WRow) (ps : List (List Int)) (x : List Int) : Bool := ys.any fun y => decide (0 < y.2) && alikeB x y.1 ps
theorem haveM_eq (ys : List WRow) (ps : List (List Int)) (x : List Int) : haveM ys ps x = haveB (ys.filterMap plainG) ps x := by
  unfold haveM haveB
  induction ys with
  | nil => rfl
  | cons y ys ih =>
    rw [List.any_cons, ih, List.filterMap_cons]
    unfold plainG
    by_cases h : 0 < y.2
    · simp [h]
    · simp [h]
theorem haveM_take {ys : List WRow} {ps : List (List Int)} {x : List Int} {k : Nat} (h : k < ys.length) : haveM (ys.take (k + 1)) ps x = (haveM (ys.take k) ps x || (decide (0 < (wat ys k).2) && alikeB x (wat ys k).1 ps)) := by
  unfold haveM
  rw [wtake_succ ys k h, List.any_append, List.any_cons, List.any_nil, Bool.or_false]
theorem alikeB_take {x y : List Int} {ps : List (List Int)} {k : Nat} (h : k < ps.length) : alikeB x y (ps.take (k + 1)) = (alikeB x y (ps.take k) && alikeP x y (ps.getD k [])) := by
  unfold alikeB
  rw [List.take_succ_eq_append_getElem h, List.all_append, List.all_cons, List.all_nil, Bool.and_true]
  simp [List.getD, h]
theorem semiW_take (ts ts' : List WRow) (ps : List (List Int)) (k : Nat) (h : k < ts.length) : semiW (ts.take (k + 1)) ts' ps = semiW (ts.take k) ts' ps ++ (keptG (haveB (ts'.filterMap plainG) ps) (wat ts k)).toList := by
  unfold semiW
  rw [wtake_succ ts k h, List.filterMap_append, List.filterMap_cons]
  cases keptG (haveB (ts'.filterMap plainG) ps) (wat ts k) <;> rfl

set_option maxRecDepth 100000 in
set_option maxHeartbeats 8000000 in
theorem l11Semi_any (a a' ap : Option Addr) (n n' np c c' cp : Nat) (ts ts' : List WRow) (ps : List (List Int)) (q0 q' : Nat) (w : World) (hz : ts.length = n) (hz' : ts'.length = n') (hzp : ps.length = np) (hn : n ≤ 60) (hn' : n' ≤ 60) (h6 : q0 ≤ 6) (h6' : q' ≤ 6) (hgt : ∀ t ∈ ts, t.1.length = q0) (hgt' : ∀ t ∈ ts', t.1.length = q') (hok : pairsOk ps q0 q' = true) (ha : AtM w a ts) (ha' : AtM w a' ts') (hap : AtS w ap ps) :
    Calls Try.prog 44 #[.slice a n c, .slice a' n' c', .slice ap np cp] w fun e w' => ∃ r k d, e = .returned (.slice r k d) ∧ (semiW ts ts' ps).length = k ∧ AtM w' r (semiW ts ts' ps) ∧ Below w.heap.size w w' := by
  obtain ⟨i0, hi, hz0, hz1, hz2⟩ := info_parts Try.infoW
  have np6 : np ≤ 6 := by have := pairsOk_len hok; omega
  have HPR : Hid (∀ k, k < ps.length → (ps.getD k []).length = 2 ∧ (0 ≤ (ps.getD k []).getD 0 0 ∧ (ps.getD k []).getD 0 0 < q0) ∧ (0 ≤ (ps.getD k []).getD 1 0 ∧ (ps.getD k []).getD 1 0 < q')) := fun k hk => pairsOk_at hok k hk
  have HGT' := Hid.mk hgt'
  have HA' := Hid.mk ha'
  have HAP := Hid.mk hap
  clear hok hgt' ha' hap
  go_enter Try.func44, Try.ntmps44
  go_wp2
  go_loopw [7, 18] (fun o i wr => ∃ (k m : Nat) (r : Option Addr) (d : Nat) (cs : List Value), k ≤ n ∧ m ≤ k ∧ i = .int .i64 k ∧ o = .slice r m d ∧ (semiW (ts.take k) ts' ps).length = m ∧ wr.ownsRow w.heap.size 99 2 (.slice r m d) m cs ∧ Means w cs (semiW (ts.take k) ts' ps) ∧ Below w.heap.size w wr) (fun _ i _ => n - (intOf i).toNat)
  case atStart => exact ⟨0, 0, none, 0, [], Nat.zero_le _, Nat.le_refl _, rfl, rfl, rfl, World.ownsRow_nil _ _ _ _, trivial, Below.refl _ _⟩
  case round =>
    obtain ⟨k, m, r, d, cs, hk, hmk, rfl, rfl, hml, ho, hme, hbw⟩ := hrel
    by_cases hlt : k < n
    · obtain ⟨b, off, rfl, hc⟩ := ha.some (by omega)
      obtain ⟨q, dd, hcx, hwx, hm1, hnil, hat⟩ := hc k (by omega)
      have hgk := at_of_mem hgt k (by omega)
      have HS := Hid.mk (semiW_take ts ts' ps k (by omega))
      have hki : (k : Int) < (n : Int) := by omega
      generalize wat ts k = Y at *
      obtain ⟨ys, x⟩ := Y
      simp only at hcx hwx hat hm1 hgk
      obtain ⟨m2, hmm⟩ : ∃ m2, ys.length = m2 := ⟨_, rfl⟩
      rw [hmm] at hcx hm1 hgk
      subst hgk
      have HM := Hid.mk hmm
      have HATW := Hid.mk hat
      have hcx := cell_later hbw hcx
      have hwx := cell_later hbw hwx
      have zz := hbw.size
      clear hc hat
      have hbL : Below wr.heap.size wr (wr.alloc (.cells #[.slice q m2 dd, .int .i64 x] 99)) := (Below.refl _ _).alloc (Nat.le_refl _) _
      have oL := ho.alloc (.cells #[.slice q m2 dd, .int .i64 x] 99)
      obtain ⟨w4, hw4⟩ : ∃ w4, w4 = wr.alloc (.cells #[.slice q m2 dd, .int .i64 x] 99) := ⟨_, rfl⟩
      have z4 : w4.heap.size = wr.heap.size + 1 := by rw [hw4]; simp
      have x4 : w4.cell? ⟨wr.heap.size, 0, none⟩ = some (.slice q m2 dd) := by rw [hw4]; simp
      have y4 : w4.cell? ⟨wr.heap.size, 1, none⟩ = some (.int .i64 x) := by rw [hw4]; simp
      rw [← hw4] at hbL oL
      have hb4 := hbw.trans (hbL.mono hbw.size)
      have HB4 := Hid.mk hb4
      have HOL := Hid.mk oL
      have HME := Hid.mk hme
      have HML := Hid.mk hml
      clear hbL oL hb4 hmm ho hbw hme hml
      go_wp2_with fail
      rw [← hw4]
      clear hw4
      go_loopw [10, 24] (fun f i wr => ∃ (j : Nat), j ≤ n' ∧ i = .int .i64 j ∧ f = .bool (haveM (ts'.take j) ps ys) ∧ Below w4.heap.size w4 wr) (fun _ i _ => n' - (intOf i).toNat)
      case atStart => exact ⟨0, Nat.zero_le _, rfl, rfl, Below.refl _ _⟩
      case round =>
        obtain ⟨j, hj, rfl, rfl, hbi⟩ := hrel
        have x5 := cell_later hbi x4
        have y5 := cell_later hbi y4
        by_cases hjl : j < n'
        · obtain ⟨b2, off2, rfl, hc2⟩ := HA'.out.some (by omega)
          obtain ⟨q2, dd2, hx2, hw2, hm3, _, hat2⟩ := hc2 j (by omega)
          have hg2 := at_of_mem HGT'.out j (by omega)
          have HT := Hid.mk (haveM_take (ps := ps) (x := ys) (show j < ts'.length by omega))
          have hji : (j : Int) < (n' : Int) := by omega
          generalize wat ts' j = Y2 at *
          obtain ⟨y, yw⟩ := Y2
          simp only at hx2 hw2 hat2 hg2 hm3 HT
          rw [hg2] at hx2
          have HG2 := Hid.mk hg2
          have BI : Below w.heap.size w wr := HB4.out.trans (hbi.mono HB4.out.size)
          have hx2 := cell_later BI hx2
          have hw2 := cell_later BI hw2
          have HAT2 := Hid.mk (At.below hat2 BI)
          obtain ⟨w6, hw6⟩ : ∃ w6, w6 = wr.alloc (.cells #[.slice q2 q' dd2, .int .i64 yw] 99) := ⟨_, rfl⟩
          have hbA : Below wr.heap.size wr w6 := by rw [hw6]; exact (Below.refl _ _).alloc (Nat.le_refl _) _
          have u6 : w6.cell? ⟨wr.heap.size, 0, none⟩ = some (.slice q2 q' dd2) := by rw [hw6]; simp
          have v6 : w6.cell? ⟨wr.heap.size, 1, none⟩ = some (.int .i64 yw) := by rw [hw6]; simp
          have x6 := cell_later hbA x5
          have B6 : Below w.heap.size w w6 := BI.trans (hbA.mono BI.size)
          have HB46 := Hid.mk (hbi.trans (hbA.mono hbi.size))
          have HAT2 := Hid.mk (At.below HAT2.out hbA)
          obtain ⟨fd, hfd⟩ : ∃ fd, haveM (ts'.take j) ps ys = fd := ⟨_, rfl⟩
          rw [hfd] at HT ⊢
          clear hat2 hc2 hg2 hfd hbi
          go_wp2_with fail
          rw [← hw6]
          clear hw6
          go_loopw [13, 33] (fun f i wr => ∃ (l : Nat), l ≤ np ∧ i = .int .i64 l ∧ f = .bool (decide (0 < yw) && alikeB ys y (ps.take l)) ∧ Below w6.heap.size w6 wr) (fun _ i _ => np - (intOf i).toNat)
          case atStart => exact ⟨0, Nat.zero_le _, rfl, by simp [alikeB], Below.refl _ _⟩
          case round =>
            obtain ⟨l, hl, rfl, rfl, hbl⟩ := hrel
            have x7 := cell_later hbl x6
            have u7 := cell_later hbl u6
            by_cases hll : l < np
            · have BL : Below w.heap.size w wr := B6.trans (hbl.mono B6.size)
              obtain ⟨pb, poff, rfl, hpc⟩ := (AtS.below HAP.out BL).some (by omega)
              obtain ⟨pq, pd, hpx, _, hpt⟩ := hpc l (by omega)
              obtain ⟨hl2, hi0, hi1⟩ := HPR.out l (by omega)
              have hs := alikeB_take (x := ys) (y := y) (show l < ps.length by omega)
              have hli : (l : Int) < (np : Int) := by omega
              unfold alikeP at hs
              generalize ps.getD l [] = pr at *
              obtain ⟨b', off', rfl, _, hc'⟩ := hpt.some (by omega)
              have hp0 := hc' 0 (by omega)
              rw [Nat.add_zero] at hp0
              have hp1 := hc' 1 (by omega)
              rw [hl2] at hpx
              obtain ⟨v, hv⟩ : ∃ v, pr.getD 0 0 = v := ⟨_, rfl⟩
              obtain ⟨v', hv'⟩ : ∃ v, pr.getD 1 0 = v := ⟨_, rfl⟩
              rw [hv] at hp0 hi0 hs
              rw [hv'] at hp1 hi1 hs
              obtain ⟨jj, rfl⟩ : ∃ j : Nat, v = (j : Int) := ⟨v.toNat, by omega⟩
              obtain ⟨jj', rfl⟩ : ∃ j : Nat, v' = (j : Int) := ⟨v'.toNat, by omega⟩
              have hlen := HM.out
              have hlen' := HG2.out
              obtain ⟨b1, off1, rfl, _, hc1⟩ := (At.below HATW.out BL).some (by omega)
              obtain ⟨b3, off3, rfl, _, hc3⟩ := (At.below HAT2.out hbl).some (by omega)
              have hx1 := hc1 jj (by omega)
              have hy1 := hc3 jj' (by omega)
              rw [show (jj : Int).toNat = jj by omega, show (jj' : Int).toNat = jj' by omega] at hs
              obtain ⟨u, hu⟩ : ∃ u, ys.getD jj 0 = u := ⟨_, rfl⟩
              obtain ⟨u', hu'⟩ : ∃ u, y.getD jj' 0 = u := ⟨_, rfl⟩
              rw [hu] at hx1 hs
              rw [hu'] at hy1 hs
              have hj1 : (jj : Int) < (m2 : Int) := by omega
              have hj2 : (jj' : Int) < (q' : Int) := by omega
              have HSS : Hid ((decide (0 < yw) && alikeB ys y (ps.take (l + 1))) = ((decide (0 < yw) && alikeB ys y (ps.take l)) && decide (u = u'))) := by show _ = _; rw [hs, Bool.and_assoc]
              clear hs hc' hc1 hc3 hu hu' hv hv' hi0 hi1 hpc hpt hl2 hlen hlen'
              generalize (decide (0 < yw) && alikeB ys y (ps.take l)) = bl at *
              cases bl with
              | false =>
                go_wp2_with fail
                go_quiet (fail)
                go_wp2
                go_roundw
                case rel => exact ⟨l + 1, by omega, by go_num, by rw [HSS.out]; rfl, by first | exact hbl | exact below_drewN hbl _⟩
                case measure => simp [intOf]; omega
              | true =>
                by_cases e : u = u'
                · have HE : Hid (decide (u = u') = true) := decide_eq_true e
                  have hne : (u == u') = true := by simp [e]
                  clear e
                  go_wp2_with fail
                  go_quiet (fail)
                  go_wp2
                  go_roundw
                  case rel => exact ⟨l + 1, by omega, by go_num, by rw [HSS.out, HE.out]; rfl, by first | exact hbl | exact below_drewN hbl _⟩
                  case measure => simp [intOf]; omega
                · have HE : Hid (decide (u = u') = false) := decide_eq_false e
                  have hne : (u == u') = false := by simp [e]
                  clear e
                  go_wp2_with fail
                  go_quiet (fail)
                  go_wp2
                  go_roundw
                  case rel => exact ⟨l + 1, by omega, by go_num, by rw [HSS.out, HE.out]; rfl, by first | exact hbl | exact below_drewN hbl _⟩
                  case measure => simp [intOf]; omega
            · obtain rfl : l = np := by omega
              rw [show ps.take l = ps by rw [← hzp, List.take_length]]
              have HB4l := Hid.mk (HB46.out.trans (hbl.mono HB46.out.size))
              generalize (decide (0 < yw) && alikeB ys y ps) = bl at *
              cases fd with
              | true =>
                go_wp2
                go_roundw
                case rel => exact ⟨j + 1, by omega, by go_num, by rw [HT.out]; rfl, HB4l.out⟩
                case measure => simp [intOf]; omega
              | false =>
                go_wp2
                go_roundw
                case rel => exact ⟨j + 1, by omega, by go_num, by rw [HT.out]; rfl, HB4l.out⟩
                case measure => simp [intOf]; omega
        · obtain rfl : j = n' := by omega
          rw [wtake_all' ts' hz', haveM_eq]
          obtain ⟨w5, hw5⟩ : ∃ w5, w5 = wr := ⟨_, rfl⟩
          rw [← hw5] at hbi x5 y5 ⊢
          clear hw5
          have hbw5 := HB4.out.trans (hbi.mono HB4.out.size)
          have o5 := HOL.out.kept (Below.toGrown hbi none) (by simp; exact Classical.em _)
          have z5 := hbi.size
          have hme := HME.out
          have hml := HML.out
          cases hx : haveB (ts'.filterMap plainG) ps ys with
          | true =>
            have HSX : Hid (semiW (ts.take (k + 1)) ts' ps = semiW (ts.take k) ts' ps ++ [(ys, x)]) := by show _ = _; rw [HS.out]; unfold keptG; simp [hx]
            clear hx
            go_wp2_with (at_builtin; refine wpList_append_lies _ rfl (.tmp 64) (.tmp 66) 45 rfl w.heap.size 99 i0 (.agg #[.slice none 0 0, .int .i64 0]) 2 32 Try.underlying45 hi hz0 hz1 hz2 rfl (by decide) (.slice r m d) m cs rfl (o5.alloc _) ⟨w5.heap.size, 0, none⟩ 1 1 [.slice q m2 dd, .int .i64 x] (by simp [Act.eval]) rfl (by simpa using news_at w5 #[.slice q m2 dd, .int .i64 x] 99) (by intro u hu; simp at hu; rcases hu with rfl | rfl <;> rfl) (by decide) (by unfold maxLen; omega) (by omega) (by simp; omega) (w5.heap.size + 1) (by simp) ?_; intro g2 cap2 w6 hown6 hgrow6 hat6 hlt6)
            have hgr : w5.grownBy w6 (Value.slice r m d).ownBlock := grown_alloc hgrow6
            have HB := Hid.mk (hbw5.grown hgr hbw5.size (fun j hj => (o5.lt j hj).1))
            have HO := Hid.mk hown6
            have HMM : Hid (Means w (cs ++ [.slice q m2 dd, .int .i64 x]) (semiW (ts.take (k + 1)) ts' ps)) := by
              show Means _ _ _
              rw [HSX.out]
              exact hme.append (Means.one HM.out (by omega) hnil HATW.out)
            have HL2 : Hid ((semiW (ts.take (k + 1)) ts' ps).length = m + 1) := by show _ = _; rw [HSX.out, List.length_append, hml]; rfl
            clear hown6 hgrow6 hat6 hlt6 hgr o5 hme hbw5 hml x5 y5
            go_wp2
            go_roundw
            case rel => exact ⟨k + 1, m + 1, _, _, _, by omega, by omega, by go_num, rfl, HL2.out, HO.out, HMM.out, HB.out⟩
            case measure => simp [intOf]; omega
          | false =>
            have HSX : Hid (semiW (ts.take (k + 1)) ts' ps = semiW (ts.take k) ts' ps) := by show _ = _; rw [HS.out]; unfold keptG; simp [hx]
            have HL2 : Hid ((semiW (ts.take (k + 1)) ts' ps).length = m) := by show _ = _; rw [HSX.out, hml]
            have HMM : Hid (Means w cs (semiW (ts.take (k + 1)) ts' ps)) := by show Means _ _ _; rw [HSX.out]; exact hme
            have HO := Hid.mk o5
            have HB := Hid.mk hbw5
            clear o5 hme hbw5 hml hx
            go_wp2
            go_roundw
            case rel => exact ⟨k + 1, m, _, _, _, by omega, by omega, by go_num, rfl, HL2.out, HO.out, HMM.out, HB.out⟩
            case measure => simp [intOf]; omega
    · obtain rfl : k = n := by omega
      rw [wtake_all' ts hz] at hme hml
      go_wp2
      go_ret
      exact ⟨_, _, _, rfl, hml, (hme.below hbw).ownedM hml ho, hbw⟩

end Go.Proofs.Ytkcmlphpilggpaa

/- The contract of spec.SemiJoin. -/
namespace Go.Proofs.Ytkcmlphpilggpaa
open Go.RowKit Go.Shelf

theorem AtS.drewJ {w : World} {a : Option Addr} {zss : List (List Int)} (h : AtS w a zss) : AtS w.drew a zss := h.below (Below.refl _ _).drew

set_option maxRecDepth 100000 in
set_option maxHeartbeats 8000000 in
theorem specSemiJoin (a a' ap : Option Addr) (n n' np c c' cp : Nat) (ts ts' : List WRow) (ps : List (List Int)) (p p' : Int) (w : World) (hz : ts.length = n) (hz' : ts'.length = n') (hzp : ps.length = np) (hn : n ≤ 1048576) (hn' : n' ≤ 1048576) (hnp : np ≤ 1048576) (ha : AtM w a ts) (ha' : AtM w a' ts') (hap : AtS w ap ps) :
    Calls Try.prog 17 #[.agg #[.int .i64 p, .slice a n c], .agg #[.int .i64 p', .slice a' n' c'], .slice ap np cp] w fun e w' => TabAns e w' w.heap.size (sjB p p' ts ts' ps) p (semiW ts ts' ps) ∧ Below w.heap.size w w' := by
  obtain ⟨W, hW⟩ : ∃ W, W = ((w.alloc (.cells #[.int .i64 p, .slice a n c] 47)).alloc (.cells #[.int .i64 p', .slice a' n' c'] 47)).alloc (.cells #[.int .i64 0, .slice none 0 0] 47) := ⟨_, rfl⟩
  have zW : W.heap.size = w.heap.size + 1 + 1 + 1 := by rw [hW]; simp
  have B0 : Below w.heap.size w W := by rw [hW]; exact (((Below.refl _ _).alloc (Nat.le_refl _) _).alloc (by simp) _).alloc (by simp; omega) _
  have c0 : W.cell? ⟨w.heap.size, 0, none⟩ = some (.int .i64 p) := by rw [hW]; exact alloc_keeps (alloc_keeps (pair0 w _ _ _) _) _
  have c1 : W.cell? ⟨w.heap.size, 1, none⟩ = some (.slice a n c) := by rw [hW]; exact alloc_keeps (alloc_keeps (pair1 w _ _ _) _) _
  have b1 : W.cell? ⟨w.heap.size + 1, 1, none⟩ = some (.slice a' n' c') := by rw [hW]; refine alloc_keeps ?_ _; have := pair1 (w.alloc (.cells #[.int .i64 p, .slice a n c] 47)) (.int .i64 p') (.slice a' n' c') 47; rwa [World.size_alloc] at this
  have b0 : W.cell? ⟨w.heap.size + 1, 0, none⟩ = some (.int .i64 p') := by rw [hW]; refine alloc_keeps ?_ _; have := pair0 (w.alloc (.cells #[.int .i64 p, .slice a n c] 47)) (.int .i64 p') (.slice a' n' c') 47; rwa [World.size_alloc] at this
  have q0 : W.heap[w.heap.size + 1 + 1]? = some (.cells #[.int .i64 0, .slice none 0 0] 47 (0, 0)) := by
    rw [hW]
    have := heap_alloc_new ((w.alloc (.cells #[.int .i64 p, .slice a n c] 47)).alloc (.cells #[.int .i64 p', .slice a' n' c'] 47)) (.cells #[.int .i64 0, .slice none 0 0] 47)
    rwa [World.size_alloc, World.size_alloc] at this
  have e0 : W.cell? ⟨w.heap.size + 1 + 1, 0, none⟩ = some (.int .i64 0) := by rw [cell_of_row _ _ 0 _ _ (0, 0) q0]; rfl
  have e1 : W.cell? ⟨w.heap.size + 1 + 1, 1, none⟩ = some (.slice none 0 0) := by rw [cell_of_row _ _ 1 _ _ (0, 0) q0]; rfl
  have f0 : W.frozen? ⟨w.heap.size + 1 + 1, 0, none⟩ = false := frozen_of_row _ _ 0 _ _ q0
  have f1 : W.frozen? ⟨w.heap.size + 1 + 1, 1, none⟩ = false := frozen_of_row _ _ 1 _ _ q0
  have HA := ha.below B0
  have HA' := ha'.below B0
  clear ha ha' q0
  have HP := hap.below B0
  clear hap
  cases hg : goodT p ts with
  | false =>
    have HG := Hid.mk hg
    clear hg
    go_enter Try.func17, Try.ntmps17
    go_wp2_with fail
    rw [← hW]
    clear hW
    refine (specGoodTable_any _ _ _ ts _ _ hz hn HA.atW).mono ?_
    rintro e w1 ⟨rfl, hb1⟩
    rw [HG.out]
    have B1 := B0.trans (hb1.mono B0.size)
    have f0 := frozen_later hb1 e0 f0
    have f1 := frozen_later hb1 e1 f1
    have e0 := cell_later hb1 e0
    have e1 := cell_later hb1 e1
    have c0 := cell_later hb1 c0
    have c1 := cell_later hb1 c1
    have b0 := cell_later hb1 b0
    have b1 := cell_later hb1 b1
    have HA := HA.below hb1
    have HA' := HA'.below hb1
    have HP := HP.below hb1
    clear hb1
    go_wp2
    refine bodyPost_ret (v := .tuple #[.agg #[.int .i64 0, .slice none 0 0], .bool false]) (by simp [results, Try.results17, go_sem, e0, e1]) rfl ⟨TabAns.zero (sjB_a HG.out) rfl, ?_⟩
    exact (B1.setCell (by show w.heap.size ≤ w.heap.size + 1 + 1; omega) _).setCell (by show w.heap.size ≤ w.heap.size + 1 + 1; omega) _
  | true =>
    have HG := Hid.mk hg
    clear hg
    cases hg' : goodT p' ts' with
    | false =>
      have HG' := Hid.mk hg'
      clear hg'
      go_enter Try.func17, Try.ntmps17
      go_wp2_with fail
      rw [← hW]
      clear hW
      refine (specGoodTable_any _ _ _ ts _ _ hz hn HA.atW).mono ?_
      rintro e w1 ⟨rfl, hb1⟩
      rw [HG.out]
      have B1 := B0.trans (hb1.mono B0.size)
      have f0 := frozen_later hb1 e0 f0
      have f1 := frozen_later hb1 e1 f1
      have e0 := cell_later hb1 e0
      have e1 := cell_later hb1 e1
      have c0 := cell_later hb1 c0
      have c1 := cell_later hb1 c1
      have b0 := cell_later hb1 b0
      have b1 := cell_later hb1 b1
      have HA := HA.below hb1
      have HA' := HA'.below hb1
      have HP := HP.below hb1
      clear hb1
      go_wp2_with fail
      refine (specGoodTable_any _ _ _ ts' _ _ hz' hn' HA'.atW).mono ?_
      rintro e w2 ⟨rfl, hb2⟩
      rw [HG'.out]
      have B2 := B1.trans (hb2.mono B1.size)
      have f0 := frozen_later hb2 e0 f0
      have f1 := frozen_later hb2 e1 f1
      have e0 := cell_later hb2 e0
      have e1 := cell_later hb2 e1
      have c0 := cell_later hb2 c0
      have c1 := cell_later hb2 c1
      have b0 := cell_later hb2 b0
      have b1 := cell_later hb2 b1
      have HA := HA.below hb2
      have HA' := HA'.below hb2
      have HP := HP.below hb2
      clear hb2
      go_wp2
      refine bodyPost_ret (v := .tuple #[.agg #[.int .i64 0, .slice none 0 0], .bool false]) (by simp [results, Try.results17, go_sem, e0, e1]) rfl ⟨TabAns.zero (sjB_b HG'.out) rfl, ?_⟩
      exact (B2.setCell (by show w.heap.size ≤ w.heap.size + 1 + 1; omega) _).setCell (by show w.heap.size ≤ w.heap.size + 1 + 1; omega) _
    | true =>
      obtain ⟨q, hq⟩ : ∃ q : Nat, p = q := ⟨p.toNat, by have := inc_range (goodT_parts HG.out).1; omega⟩
      obtain ⟨q', hq'⟩ : ∃ q : Nat, p' = q := ⟨p'.toNat, by have := inc_range (goodT_parts hg').1; omega⟩
      subst hq hq'
      have h6 : q ≤ 6 := by have := inc_range (goodT_parts HG.out).1; omega
      have h6' : q' ≤ 6 := by have := inc_range (goodT_parts hg').1; omega
      have HG' := Hid.mk hg'
      clear hg' 
      go_enter Try.func17, Try.ntmps17
      go_wp2_with fail
      rw [← hW]
      clear hW
      refine (specGoodTable_any _ _ _ ts _ _ hz hn HA.atW).mono ?_
      rintro e w1 ⟨rfl, hb1⟩
      rw [HG.out]
      have B1 := B0.trans (hb1.mono B0.size)
      have f0 := frozen_later hb1 e0 f0
      have f1 := frozen_later hb1 e1 f1
      have e0 := cell_later hb1 e0
      have e1 := cell_later hb1 e1
      have c0 := cell_later hb1 c0
      have c1 := cell_later hb1 c1
      have b0 := cell_later hb1 b0
      have b1 := cell_later hb1 b1
      have HA := HA.below hb1
      have HA' := HA'.below hb1
      have HP := HP.below hb1
      clear hb1
      go_wp2_with fail
      refine (specGoodTable_any _ _ _ ts' _ _ hz' hn' HA'.atW).mono ?_
      rintro e w2 ⟨rfl, hb2⟩
      rw [HG'.out]
      have B2 := B1.trans (hb2.mono B1.size)
      have f0 := frozen_later hb2 e0 f0
      have f1 := frozen_later hb2 e1 f1
      have e0 := cell_later hb2 e0
      have e1 := cell_later hb2 e1
      have c0 := cell_later hb2 c0
      have c1 := cell_later hb2 c1
      have b0 := cell_later hb2 b0
      have b1 := cell_later hb2 b1
      have HA := HA.below hb2
      have HA' := HA'.below hb2
      have HP := HP.below hb2
      clear hb2
      go_wp2_with fail
      refine (l1Pairs_any _ _ _ ps q q' _ hzp (by omega) HP).mono ?_
      rintro e w3 ⟨rfl, hw3⟩
      obtain rfl := hw3.symm
      clear hw3
      have HNB := Hid.mk (sjB_yes (ps := ps) HG.out HG'.out)
      cases hok : pairsOk ps q q' with
      | false =>
        rw [hok] at HNB
        clear hok
        go_wp2
        refine bodyPost_ret (v := .tuple #[.agg #[.int .i64 0, .slice none 0 0], .bool false]) (by simp [results, Try.results17, go_sem, e0, e1]) rfl ⟨TabAns.zero HNB.out rfl, ?_⟩
        exact (B2.setCell (by show w.heap.size ≤ w.heap.size + 1 + 1; omega) _).setCell (by show w.heap.size ≤ w.heap.size + 1 + 1; omega) _
      | true =>
        rw [hok] at HNB
        have HOK := Hid.mk hok
        have HNC : Hid (sjB q q' ts ts' ps = goodT q (semiW ts ts' ps)) := by show _ = _; rw [HNB.out, semiW_good HG.out]
        have n60 := goodT_len60 HG.out
        have n60' := goodT_len60 HG'.out
        clear hok
        go_wp2_with fail
        refine wp_region_held_drew (S := fun w' => w'.cell? ⟨w.heap.size, 0, none⟩ = some (.int .i64 q) ∧ w'.cell? ⟨w.heap.size, 1, none⟩ = some (.slice a n c) ∧ w'.cell? ⟨w.heap.size + 1, 1, none⟩ = some (.slice a' n' c')) (by kernel_rfl) ?_ (fun hHeld => ?_)
        · (try dsimp only)
          exact ⟨c0, c1, b1⟩
        refine tk 0 ?_
        refine tk 1 ?_
        refine tk 2 ?_
        refine tk 3 ?_
        refine tk 4 ?_
        refine tk 5 ?_
        refine tk 6 ?_
        refine tr 7 (fun K hK => ?_)
        go_simp
        go_at_call 44; refine (l11Semi_any _ _ _ _ _ _ _ _ _ ts ts' ps q q' _ hz hz' hzp (by omega) (by omega) h6 h6' (fun t ht => (goodT_mem HG.out t ht).2) (fun t ht => (goodT_mem HG'.out t ht).2) HOK.out HA.drew HA'.drew HP.drewJ).mono ?_; rintro e w3 ⟨r3, m3, d3, rfl, hm3, ha3, hb3⟩; have f0 := frozen_later (w := w2.drew) hb3 e0 f0; have f1 := frozen_later (w := w2.drew) hb3 e1 f1; have e0 := cell_later hb3 e0; have e1 := cell_later hb3 e1; have c0 := cell_later hb3 c0; have c1 := cell_later hb3 c1; have b1 := cell_later hb3 b1
        (try go_wp2_with fail)
        refine hK.out _ _ ?_ (fun hHeld' => ?_)
        · (try dsimp only)
          exact ⟨c0, c1, b1⟩
        clear hK K hHeld
        have hHeld := hHeld'
        clear hHeld'
        (try simp only [Act.put, List.setIfInBounds_toArray, List.set_cons_zero, List.set_cons_succ])
        refine tr 8 (fun K hK => ?_)
        go_simp
        go_at_call 43; have HPL : Hid (m3 ≤ 1048576) := (by show _ ≤ _; have := semiW_len ts ts' ps; omega); have HPR : Hid (∀ k, k < m3 → (wat (semiW ts ts' ps) k).1.length ≤ 1048576) := (fun k hk => by have := at_of_mem (fun t ht => (goodT_mem HG.out t (semiW_mem ht)).2) k (show k < (semiW ts ts' ps).length by omega); omega); refine (l2Tell_any _ _ _ (semiW ts ts' ps) _ _ hm3 HPL.out HPR.out ha3).mono ?_; rintro e w4 ⟨⟨r4, m4, d4, cells4, rfl, ho4⟩, hb4⟩; have i0 := cell_later hb4 c0; have i1 := cell_later hb4 c1; have i2 := cell_later hb4 b1; have t0 := frozen_later hb4 e0 f0; have t1 := frozen_later hb4 e1 f1; have s0 := cell_later hb4 e0; have s1 := cell_later hb4 e1
        (try go_wp2_with fail)
        refine hK.out _ _ ?_ (fun hHeld' => ?_)
        · (try dsimp only)
          exact ⟨i0, i1, i2⟩
        clear hK K hHeld
        have hHeld := hHeld'
        clear hHeld'
        (try simp only [Act.put, List.setIfInBounds_toArray, List.set_cons_zero, List.set_cons_succ])
        refine tk 9 ?_
        refine tk 10 ?_
        refine tr 11 (fun K hK => ?_)
        go_simp
        skip
        (try go_wp2_with fail)
        refine hK.out _ _ ?_ (fun hHeld' => ?_)
        · (try dsimp only)
          exact ⟨keep_far (keep_far i0 (by omega)) (by omega), keep_far (keep_far i1 (by omega)) (by omega), keep_far (keep_far i2 (by omega)) (by omega)⟩
        clear hK K hHeld
        have hHeld := hHeld'
        clear hHeld'
        (try simp only [Act.put, List.setIfInBounds_toArray, List.set_cons_zero, List.set_cons_succ])
        refine tk 12 ?_
        refine wpAnyH_done (by kernel_rfl) ?_ _
        have B3 := B2.drew.trans (hb3.mono B2.size)
        have B4 := B3.trans (hb4.mono B3.size)
        have e0 := s0
        have e1 := s1
        have zR : w.heap.size + 1 + 1 < w3.heap.size := World.block_lt_of_cell? _ _ (by assumption : w3.cell? ⟨w.heap.size + 1 + 1, 0, none⟩ = _)
        clear HA HA' HP hb3 hb4 hHeld ha3 hm3
        go_wp2
        refine bodyPost_ret (v := .tuple #[.agg #[.int .i64 _, .slice r4 m4 d4], .bool _]) (by simp [results, Try.results17, go_sem, e0, e1]) rfl ⟨TabAns.tell HNC.out ⟨r4, m4, d4, cells4, rfl, ho4.stored zR (by omega) _ _⟩, ?_⟩
        exact (B4.setCell (by show w.heap.size ≤ w.heap.size + 1 + 1; omega) _).setCell (by show w.heap.size ≤ w.heap.size + 1 + 1; omega) _

end Go.Proofs.Ytkcmlphpilggpaa
