/- Several texts of one proof, in build order: JoinS, JoinP, CheckP. -/
import Derived.Test.YthiabjkjpjmahaaGreatM14
import Derived.Test.YthiabjkjpjmahaaGreatM12
import Derived.Test.YthiabjkjpjmahaaGreatM10

/- Contracts of spec.l1Join, spec.JoinRows, and impl.JoinRows whole. -/
namespace Go.Proofs.YthiabjkjpjmahaaGreat
open Go.RowKit

theorem implJoinRows (a b : Option Addr) (n n' c c' : Nat) (xs ys : List Int) (p : Option Addr) (l d : Nat) (ps : List (List Int)) (w : World) (hz : xs.length = n) (hz' : ys.length = n') (hl : ps.length = l) (hn : n ≤ 9223372036854775807) (hn' : n' ≤ 9223372036854775807) (hl' : l ≤ 9223372036854775807)
    (hnil : a = none → c = 0) (ha : At w a xs) (hb : At w b ys) (hp : AtS w p ps) :
    Calls Tryz.prog 148 #[.agg #[.slice a n c], .agg #[.slice b n' c'], .slice p l d] w fun e w' => ∃ r m d, e = .returned (.tuple #[.agg #[.slice r m d], .bool (joinOk xs ys ps)]) ∧
      (joinAns xs ys ps).length = m ∧ w'.ownsRow w.heap.size 3 1 (.slice r m d) m ((joinAns xs ys ps).map (.int .i64)) ∧ Below w.heap.size w w' := by
  cases h2 : pairs2 ps with
  | false => exact implJoinRows_c1 a b p n n' l c c' d xs ys ps w hz hz' hl hn hn' hl' hnil ha hb hp h2
  | true => exact implJoinRows_c2 a b p n n' l c c' d xs ys ps w hz hz' hl hn hn' hl' hnil ha hb hp h2

theorem contains_snoc (cols : List Int) (i : Nat) (h : i < cols.length) (j : Int) : (cols.take (i + 1)).contains j = ((cols.take i).contains j || (cols.getD i 0 == j)) := by
  rw [take_snocD cols i h]
  simp only [List.contains_eq_mem, List.mem_append, List.mem_singleton, Bool.decide_or]
  congr 1
  by_cases e : j = cols.getD i 0
  · rw [decide_eq_true e, e]; simp
  · rw [decide_eq_false e, beq_false_of_ne (Ne.symm e)]

theorem picks_succ {xs ys : List Int} {ps : List (List Int)} {k : Nat} (hk : k < ps.length) (h : pick xs (side (ps.take k) 0) = pick ys (side (ps.take k) 1))
    (he : xs.getD ((ps.getD k []).getD 0 0).toNat 0 = ys.getD ((ps.getD k []).getD 1 0).toNat 0) : pick xs (side (ps.take (k + 1)) 0) = pick ys (side (ps.take (k + 1)) 1) := by
  rw [side_take ps 0 k hk, side_take ps 1 k hk]
  unfold pick at *
  rw [List.map_append, List.map_append, h, List.map_cons, List.map_cons, he]
  rfl
theorem picks_not {xs ys : List Int} {ps : List (List Int)} {k : Nat} (hk : k < ps.length) (he : xs.getD ((ps.getD k []).getD 0 0).toNat 0 ≠ ys.getD ((ps.getD k []).getD 1 0).toNat 0) : pick xs (side ps 0) ≠ pick ys (side ps 1) := fun h => by
  apply he
  have := congrArg (fun q => q.getD k 0) h
  have h0 := side_getD ps 0 k hk
  have h1 := side_getD ps 1 k hk
  simp only [pick, List.getD, List.getElem?_map] at this h0 h1 ⊢
  rw [List.getElem?_eq_getElem (by rw [side_length]; exact hk), List.getElem?_eq_getElem (by rw [side_length]; exact hk)] at this
  rw [List.getElem?_eq_getElem (by rw [side_length]; exact hk)] at h0 h1
  simp only [Option.map_some, Option.getD_some] at this h0 h1
  rw [← h0, ← h1]
  exact this

/-- What l1Join answers. -/
def l1Z (xs ys : List Int) (ps : List (List Int)) : List Int := if pick xs (side ps 0) = pick ys (side ps 1) then joinZ xs ys (side ps 1) else []
def l1B (xs ys : List Int) (ps : List (List Int)) : Bool := decide (pick xs (side ps 0) = pick ys (side ps 1)) && decide ((joinZ xs ys (side ps 1)).length ≤ 6)

set_option maxHeartbeats 8000000 in
theorem l1Join_any (a b p : Option Addr) (n n' l c c' d : Nat) (xs ys : List Int) (ps : List (List Int)) (w : World) (hz : xs.length = n) (hz' : ys.length = n') (hl : ps.length = l) (hn : n ≤ 6) (hn' : n' ≤ 6)
    (hnil : a = none → c = 0) (ha : At w a xs) (hb : At w b ys) (hp : AtS w p ps) (hok : pairsOk ps n n' = true) :
    Calls Tryz.prog 123 #[.agg #[.slice a n c], .agg #[.slice b n' c'], .slice p l d] w fun e w' => ∃ r m d, e = .returned (.tuple #[.agg #[.slice r m d], .bool (l1B xs ys ps)]) ∧
      (l1Z xs ys ps).length = m ∧ w'.ownsRow w.heap.size 3 1 (.slice r m d) m ((l1Z xs ys ps).map (.int .i64)) ∧ Below w.heap.size w w' := by
  have h6 := pairsOk_len hok
  have hpair := fun k hk => pairsOk_at hok k hk
  obtain ⟨i0, hi, hz0, hz1, hz2⟩ := info_parts Tryz.infoInt
  obtain ⟨W, hW⟩ : ∃ W, W = ((w.alloc (.cells #[.slice a n c] 80)).alloc (.cells #[.slice b n' c'] 80)).alloc (.cells #[.slice none 0 0] 80) := ⟨_, rfl⟩
  have B : Below w.heap.size w W := by rw [hW]; exact (((Below.refl _ _).alloc (Nat.le_refl _) _).alloc (by simp) _).alloc (by simp; omega) _
  have A1 : At W a xs := ha.below B
  have A2 : At W b ys := hb.below B
  have A3 : AtS W p ps := hp.below B
  have c1 : W.cell? ⟨w.heap.size, 0, none⟩ = some (.slice a n c) := by rw [hW]; simp [go_sem]
  have c2 : W.cell? ⟨w.heap.size + 1, 0, none⟩ = some (.slice b n' c') := by rw [hW]; simp [go_sem]
  have c3 : W.cell? ⟨w.heap.size + 1 + 1, 0, none⟩ = some (.slice none 0 0) := by rw [hW]; simp [go_sem]
  have f3 : W.frozen? ⟨w.heap.size + 1 + 1, 0, none⟩ = false := by rw [hW]; simp [go_sem]
  have zW : W.heap.size = w.heap.size + 1 + 1 + 1 := by rw [hW]; simp
  have zWa : w.heap.size + 1 + 1 + 1 ≤ W.heap.size := by omega
  have o0 : (W.alloc (.cells #[] 3)).ownsRow (w.heap.size + 1 + 1 + 1) 3 1 (.slice (some ⟨w.heap.size + 1 + 1 + 1, 0, none⟩) 0 0) 0 [] := by
    have := World.ownsRow_lit (base := w.heap.size + 1 + 1 + 1) (e := 3) (size := 1) W #[] 0 zWa (by unfold maxLen; omega) (by simp)
    rw [zW] at this
    simpa using this
  have A1a := A1.alloc (.cells #[] 3)
  have BA : Below W.heap.size W (W.alloc (.cells #[] 3)) := (Below.refl _ _).alloc (Nat.le_refl _) _
  have zWb : W.heap.size ≤ w.heap.size + 1 + 1 + 1 := by omega
  clear hok zW
  go_enter Tryz.func123, Tryz.ntmps123
  go_wp2_with (at_builtin; rw [← hW]; refine wpList_append_all rfl (.tmp 16) (.tmp 18) 23 rfl (w.heap.size + 1 + 1 + 1) 3 i0 (.int .i64 0) 8 Tryz.underlying23 hi hz0 hz1 hz2 rfl _ _ _ rfl o0 a n c xs rfl hz A1a hnil (by unfold maxLen; omega) (by omega) (by simp; omega) ?_; intro r cap w2 hown2 hgrow2; rw [Nat.zero_add] at hown2; rw [Nat.zero_add])
  have V0 : RowVar2 (w2.alloc (.cells #[.slice r n cap] 80)) w2.heap.size 80 (w.heap.size + 1 + 1 + 1) 3 r n cap (joinTo xs ys (side ps 1) 0) := by
    rw [show joinTo xs ys (side ps 1) 0 = xs by simp [joinTo, restTo]]
    exact RowVar2.new hz (by simpa using hown2)
  have B2 : Below W.heap.size W (w2.alloc (.cells #[.slice r n cap] 80)) := (BA.grown hgrow2 (by simp) (fun k hk => Nat.le_trans zWb (Nat.le_of_eq (Option.some.inj hk)))).alloc (by have := hgrow2.size; simp at this; omega) _
  have zR : w.heap.size + 1 + 1 + 1 ≤ w2.heap.size := by have := hgrow2.size; simp at this; omega
  obtain ⟨U, hU⟩ : ∃ U, U = w2.alloc (.cells #[.slice r n cap] 80) := ⟨_, rfl⟩
  rw [← hU] at V0 B2
  rw [← hU]
  have e1 := cell_later B2 c1
  have e2 := cell_later B2 c2
  have e3 := cell_later B2 c3
  have k3 := frozen_later B2 c3 f3
  have BU := B.trans (B2.mono B.size)
  obtain ⟨R, hR⟩ : ∃ R, R = w2.heap.size := ⟨_, rfl⟩
  rw [← hR] at V0 zR
  rw [← hR]
  clear hU hR hown2 hgrow2 hW B A1 A2 A3 A1a BA o0 c1 c2 c3 f3 B2
  go_loopw [23] (fun i wr => ∃ k : Nat, k ≤ l ∧ i = .int .i64 k ∧ pick xs (side (ps.take k) 0) = pick ys (side (ps.take k) 1) ∧ Below U.heap.size U wr) (fun i _ => l - (intOf i).toNat)
  case atStart => exact ⟨0, Nat.zero_le _, rfl, by simp [pick, side], Below.refl _ _⟩
  case round =>
    obtain ⟨k, hk, rfl, hpk, hbw⟩ := hrel
    have g1 := cell_later hbw e1
    have g2 := cell_later hbw e2
    have g3 := cell_later hbw e3
    have j3 := frozen_later hbw e3 k3
    have BT := BU.trans (hbw.mono BU.size)
    by_cases hlt : k < l
    · obtain ⟨pb, poff, rfl, hpc⟩ := (hp.below BT).some (by omega)
      obtain ⟨q, qd, hcx, _, hat⟩ := hpc k (by omega)
      obtain ⟨hl2, ⟨hx0, hx1⟩, hy0, hy1⟩ := hpair k (by omega)
      have HS := Hid.mk (fun he => picks_succ (xs := xs) (ys := ys) (ps := ps) (k := k) (by omega) hpk he)
      have HN := Hid.mk (fun he => picks_not (xs := xs) (ys := ys) (ps := ps) (k := k) (by omega) he)
      generalize ps.getD k [] = pr at *
      obtain ⟨b', off', rfl, hb', hc'⟩ := hat.some (by omega)
      have hp0 := hc' 0 (by omega)
      have hp1 := hc' 1 (by omega)
      rw [Nat.add_zero] at hp0
      rw [hl2] at hcx
      obtain ⟨i, hii⟩ := Int.eq_ofNat_of_zero_le hx0
      obtain ⟨j, hjj⟩ := Int.eq_ofNat_of_zero_le hy0
      rw [hii] at hp0 hx1 HS HN
      rw [hjj] at hp1 hy1 HS HN
      have hin : i < n := by omega
      have hjn : j < n' := by omega
      obtain ⟨ba, offa, rfl, hba, hca⟩ := (ha.below BT).some (by omega)
      obtain ⟨bb, offb, rfl, hbb, hcb⟩ := (hb.below BT).some (by omega)
      have hu := hca i (by omega)
      have hv := hcb j (by omega)
      rw [show ((i : Int)).toNat = i from rfl, show ((j : Int)).toNat = j from rfl] at HS HN
      generalize xs.getD i 0 = u at *
      generalize ys.getD j 0 = v at *
      clear hpc hc' hca hcb hii hjj hx0 hy0 hpk hl2 hpair V0
      by_cases huv : u = v
      · subst huv
        go_wp2
        go_quiet (fail)
        go_wp2
        go_roundw
        case rel => exact ⟨k + 1, by omega, by go_num, HS.out (by trivial), below_drewN hbw _⟩
        case measure => simp [intOf]; omega
      · have hne : (u != v) = true := by simpa using huv
        have HZ : Hid (l1Z xs ys ps = []) := by show _ = _; rw [l1Z, if_neg (HN.out huv)]
        have HB : Hid (l1B xs ys ps = false) := by show _ = _; rw [l1B, decide_eq_false (HN.out huv)]; rfl
        go_wp2
        go_quiet (fail)
        go_wp2
        refine bodyPost_ret (v := .tuple #[.agg #[.slice none 0 0], .bool false]) (by simp [results, Tryz.results123, go_sem, g3]) rfl ⟨none, 0, 0, by rw [HB.out], by rw [HZ.out]; rfl, ?_, ?_⟩
        · rw [HZ.out]; exact World.ownsRow_nil _ _ _ _
        · exact (below_drewN BT _).setCell (by simp; omega) _
    · obtain rfl : k = l := by omega
      have hpe : pick xs (side ps 0) = pick ys (side ps 1) := by rw [← hl, List.take_length] at hpk; exact hpk
      have HZ : Hid (l1Z xs ys ps = joinZ xs ys (side ps 1)) := by show _ = _; rw [l1Z, if_pos hpe]
      have HB : Hid (l1B xs ys ps = decide ((joinZ xs ys (side ps 1)).length ≤ 6)) := by show _ = _; rw [l1B, decide_eq_true hpe]; rfl
      have V1 := V0.below hbw
      clear hpk hpe V0
      obtain ⟨T, rfl⟩ : ∃ T, T = wr := ⟨_, rfl⟩
      go_wp2
      go_loopw [47] (fun i ws => ∃ (j : Nat) (r : Option Addr) (m cap : Nat), j ≤ n' ∧ i = .int .i64 j ∧ RowVar2 ws R 80 (w.heap.size + 1 + 1 + 1) 3 r m cap (joinTo xs ys (side ps 1) j) ∧ Below (w.heap.size + 1 + 1 + 1) T ws) (fun i _ => n' - (intOf i).toNat)
      case atStart => exact ⟨0, r, n, cap, Nat.zero_le _, rfl, V1, Below.refl _ _⟩
      case round =>
        clear V1
        obtain ⟨j, r3, m3, cap3, hj, rfl, hv, hbs⟩ := hrel
        have BS := BT.trans (hbs.mono (by omega))
        have q3 : wr.cell? ⟨w.heap.size + 1 + 1, 0, none⟩ = some (.slice none 0 0) := (hbs.cell (by simp)).trans g3
        have q3f : wr.frozen? ⟨w.heap.size + 1 + 1, 0, none⟩ = false := (hbs.frozen (by simp)).trans j3
        by_cases hjl : j < n'
        · obtain ⟨b2, off2, rfl, hb2, hc2⟩ := (hb.below BS).some (by omega)
          have hcy := hc2 j (by omega)
          have HT := Hid.mk (joinTo_take xs ys (side ps 1) j)
          have HK := Hid.mk (joinTo_skip xs ys (side ps 1) j)
          have hlen := joinTo_length xs ys (side ps 1) j
          have hl13 : m3 ≤ 12 := by have := hv.1; omega
          generalize ys.getD j 0 = y at hcy HT
          clear hc2 hlen
          go_wp2
          go_loop [13, 54] (fun pd i => ∃ i' : Nat, i' ≤ k ∧ i = .int .i64 i' ∧ pd = .bool (((side ps 1).take i').contains (j : Int))) (fun _ i => k - (intOf i).toNat)
          case atStart => exact ⟨0, Nat.zero_le _, rfl, by simp⟩
          case round =>
            obtain ⟨i, hi', rfl, rfl⟩ := hrel
            by_cases hil : i < k
            · obtain ⟨pb, poff, rfl, hpc⟩ := (hp.below BS).some (by omega)
              obtain ⟨q, qd, hcx, _, hat⟩ := hpc i (by omega)
              obtain ⟨hl2, _⟩ := hpair i (by omega)
              have HC := Hid.mk (contains_snoc (side ps 1) i (by rw [side_length]; omega) (j : Int))
              rw [side_getD ps 1 i (by omega)] at HC
              generalize ps.getD i [] = pr at *
              obtain ⟨b', off', rfl, hb', hc'⟩ := hat.some (by omega)
              have hp1 := hc' 1 (by omega)
              rw [hl2] at hcx
              generalize pr.getD 1 0 = y1 at *
              generalize ((side ps 1).take i).contains (j : Int) = bl at *
              clear hpc hc' hl2 hpair hv HT HK
              cases bl with
              | true =>
                go_wp2
                go_round
                case rel => exact ⟨i + 1, by omega, by go_num, by rw [HC.out]; rfl⟩
                case measure => simp [intOf]; omega
              | false =>
                go_wp2
                go_round
                case rel => exact ⟨i + 1, by omega, by go_num, by rw [HC.out]; simp⟩
                case measure => simp [intOf]; omega
            · obtain rfl : i = k := by omega
              rw [show (side ps 1).take i = side ps 1 by rw [List.take_of_length_le (by rw [side_length]; omega)]]
              have hcr := hv.cell
              have hfr := hv.frozen
              cases hct : (side ps 1).contains (j : Int) with
              | true =>
                have HE := Hid.mk (HK.out hct)
                clear HK HT hct
                go_wp2
                go_roundw
                case rel => exact ⟨j + 1, r3, m3, cap3, by omega, by go_num, by rw [HE.out]; exact hv, hbs⟩
                case measure => simp [intOf]; omega
              | false =>
                have HE := Hid.mk (HT.out hct)
                have zz := hv.lt
                clear HK HT hct
                go_wp2_with (at_builtin; refine wpList_append_lies _ rfl (.tmp 70) (.tmp 72) 23 rfl (w.heap.size + 1 + 1 + 1) 3 i0 (.int .i64 0) 1 8 Tryz.underlying23 hi hz0 hz1 hz2 rfl (by decide) _ _ _ rfl (hv.own.alloc _) ⟨wr.heap.size, 0, none⟩ 1 1 [.int .i64 y] rfl rfl (news_at wr _ _) (by simp; rfl) (by decide) (by unfold maxLen; omega) (by omega) (by simp; omega) (wr.heap.size + 1) (by simp) ?_; intro g4 cap4 w4 hown4 hgrow4 hat4 _; obtain ⟨t1, t2, hv4⟩ := hv.pushed hown4 hgrow4 hat4)
                have HB4 := Hid.mk (hv.pushed_below (v := .slice (some ⟨g4, 0, none⟩) (m3 + 1) cap4) hgrow4 hbs zR (Nat.le_refl _))
                rw [← HE.out] at hv4
                have HV := Hid.mk hv4
                clear hv4 hown4 hgrow4 hv hbs t1 t2 hat4
                go_roundw
                case rel => exact ⟨j + 1, _, _, _, by omega, by go_num, HV.out, HB4.out⟩
                case measure => simp [intOf]; omega
        · obtain rfl : j = n' := by omega
          have hjz : joinTo xs ys (side ps 1) j = joinZ xs ys (side ps 1) := by rw [joinZ, joinTo, hz']
          rw [hjz] at hv
          have hcr := hv.cell
          have hm := hv.1
          have hown := owns_mono hv.own (show w.heap.size ≤ w.heap.size + 1 + 1 + 1 by omega)
          have hne : (Value.slice r3 m3 cap3).ownBlock = none ∨ (Value.slice r3 m3 cap3).ownBlock ≠ some (w.heap.size + 1 + 1) := by
            cases hv' : (Value.slice r3 m3 cap3).ownBlock with
            | none => exact .inl rfl
            | some q => exact .inr (fun e => by have := (hv.own.lt q hv').1; simp at e; omega)
          have zz := hv.lt
          by_cases hm6 : m3 ≤ 6
          · have HB' : Hid (l1B xs ys ps = true) := by show _ = _; rw [HB.out, hm]; exact decide_eq_true hm6
            have hd : decide ((m3 : Int) ≤ 6) = true := by simp; omega
            go_wp2
            go_region
            all_goals
              go_wp2
              refine bodyPost_ret (v := .tuple #[.agg #[.slice r3 m3 cap3], .bool true]) (by simp [results, Tryz.results123, go_sem, q3]) rfl ⟨r3, m3, cap3, by rw [HB'.out], by rw [HZ.out]; exact hm, ?_, ?_⟩
              · rw [HZ.out]; exact hown.drew.kept (setCell_grown _ _ _) hne
              · exact BS.drew.setCell (by simp; omega) _
          · have HB' : Hid (l1B xs ys ps = false) := by show _ = _; rw [HB.out, hm]; exact decide_eq_false hm6
            have hd : decide ((m3 : Int) ≤ 6) = false := by simp; omega
            go_wp2
            go_region
            all_goals
              go_wp2
              refine bodyPost_ret (v := .tuple #[.agg #[.slice r3 m3 cap3], .bool false]) (by simp [results, Tryz.results123, go_sem, q3]) rfl ⟨r3, m3, cap3, by rw [HB'.out], by rw [HZ.out]; exact hm, ?_, ?_⟩
              · rw [HZ.out]; exact hown.drew.kept (setCell_grown _ _ _) hne
              · exact BS.drew.setCell (by simp; omega) _

end Go.Proofs.YthiabjkjpjmahaaGreat

/- Plain: what is joined of two lists of weighted rows. -/
namespace Go.Proofs.YthiabjkjpjmahaaGreat

def joinG (ps : List (List Int)) (t u : WRow) : Option WRow := if joinOk t.1 u.1 ps = true then some (joinAns t.1 u.1 ps, t.2 * u.2) else none
def joinL (xs ys : List WRow) (ps : List (List Int)) : List WRow := xs.flatMap fun t => ys.filterMap (joinG ps t)
def outJ (xs ys : List WRow) (ps : List (List Int)) (k : Nat) : Nat := (joinL (xs.take k) ys ps).length
theorem outJ_succ {xs ys : List WRow} {ps : List (List Int)} {k : Nat} (h : k < xs.length) : outJ xs ys ps (k + 1) = outJ xs ys ps k + (ys.filterMap (joinG ps (wat xs k))).length := by
  unfold outJ joinL
  rw [wtake_succ xs k h, List.flatMap_append, List.length_append]
  simp
theorem wsplit {xs : List WRow} {k : Nat} (h : k < xs.length) : xs = xs.take k ++ wat xs k :: xs.drop (k + 1) := by
  have h3 := (List.take_append_drop k xs).symm
  rw [List.drop_eq_getElem_cons h] at h3
  rw [show wat xs k = xs[k] by simp [wat, List.getD, h]]
  exact h3
theorem joinL_at {xs ys : List WRow} {ps : List (List Int)} {k j : Nat} (h : k < xs.length) (hj : j < (ys.filterMap (joinG ps (wat xs k))).length) :
    outJ xs ys ps k + j < (joinL xs ys ps).length ∧ wat (joinL xs ys ps) (outJ xs ys ps k + j) = wat (ys.filterMap (joinG ps (wat xs k))) j := by
  have e : joinL xs ys ps = joinL (xs.take k) ys ps ++ (ys.filterMap (joinG ps (wat xs k)) ++ joinL (xs.drop (k + 1)) ys ps) := by
    have h4 := congrArg (fun l => joinL l ys ps) (wsplit h)
    simp only [joinL, List.flatMap_append, List.flatMap_cons] at h4
    exact h4
  rw [e]
  unfold outJ
  generalize ys.filterMap (joinG ps (wat xs k)) = M at *
  refine ⟨by simp only [List.length_append]; omega, ?_⟩
  simp only [wat, List.getD]
  rw [List.getElem?_append_right (by omega), Nat.add_sub_cancel_left, List.getElem?_append_left hj]

/-- How many of so many columns are in no pair. -/
def leftN (cols : List Int) (k : Nat) : Nat := ((List.range k).filter fun (j : Nat) => !cols.contains (j : Int)).length
theorem leftN_skip (cols : List Int) (k : Nat) (h : cols.contains (k : Int) = true) : leftN cols (k + 1) = leftN cols k := by
  simp only [leftN, List.range_succ, List.filter_append, List.filter_cons, List.filter_nil, h, Bool.not_true, Bool.false_eq_true, if_false, List.append_nil]
theorem leftN_take (cols : List Int) (k : Nat) (h : cols.contains (k : Int) = false) : leftN cols (k + 1) = leftN cols k + 1 := by
  simp only [leftN, List.range_succ, List.filter_append, List.filter_cons, List.filter_nil, h, Bool.not_false, if_true, List.length_append, List.length_cons, List.length_nil]
theorem leftN_le (cols : List Int) (k : Nat) : leftN cols k ≤ k := by
  have := List.length_filter_le (fun j : Nat => !cols.contains (j : Int)) (List.range k)
  simpa [leftN] using this
theorem restTo_len (ys cols : List Int) (k : Nat) : (restTo ys cols k).length = leftN cols k := by simp [restTo, leftN]
theorem joinZ_len (xs ys cols : List Int) : (joinZ xs ys cols).length = xs.length + leftN cols ys.length := by rw [joinZ, List.length_append, restTo_len]

def joinC (p q : Int) (ps : List (List Int)) : Nat := p.toNat + leftN (side ps 1) q.toNat
def joinW (ts us : List WRow) (ps : List (List Int)) : List WRow := putAll [] (joinL ts us ps)
def joinB (p q : Int) (ts us : List WRow) (ps : List (List Int)) : Bool := goodT p ts && (goodT q us && (pairsOk ps p.toNat q.toNat && (decide (joinC p q ps ≤ 6) && goodT (joinC p q ps) (joinW ts us ps))))
section
variable {p q : Int} {ts us : List WRow} {ps : List (List Int)}
theorem joinB_a (h : goodT p ts = false) : joinB p q ts us ps = false := by simp [joinB, h]
theorem joinB_b (h : goodT q us = false) : joinB p q ts us ps = false := by simp [joinB, h]
theorem joinB_p (h : pairsOk ps p.toNat q.toNat = false) : joinB p q ts us ps = false := by simp [joinB, h]
theorem joinB_c (h : 6 < joinC p q ps) : joinB p q ts us ps = false := by
  have : decide (joinC p q ps ≤ 6) = false := by simp; omega
  simp [joinB, this]
theorem joinB_yes (h1 : goodT p ts = true) (h2 : goodT q us = true) (h3 : pairsOk ps p.toNat q.toNat = true) (h4 : joinC p q ps ≤ 6) : joinB p q ts us ps = goodT (joinC p q ps) (joinW ts us ps) := by simp [joinB, h1, h2, h3, h4]
end

theorem good_noughts' {q : Nat} (h : q ≤ 6) : good (List.replicate q 0) = true := by
  refine good_of (by simpa using h) fun k hk => ?_
  have : (List.replicate q (0 : Int)).getD k 0 = 0 := by
    rw [List.getD_eq_getElem?_getD, List.getElem?_replicate]; split <;> rfl
  rw [this]; omega
theorem pick_noughts (q : Nat) (cols : List Int) : pick (List.replicate q 0) cols = List.replicate cols.length 0 := by
  unfold pick
  rw [List.eq_replicate_iff]
  refine ⟨by simp, fun x hx => ?_⟩
  obtain ⟨c, _, rfl⟩ := List.mem_map.1 hx
  rw [List.getD_eq_getElem?_getD, List.getElem?_replicate]; split <;> rfl
theorem joinOk_noughts {p q : Nat} (hp : p ≤ 6) (hq : q ≤ 6) (ps : List (List Int)) : joinOk (List.replicate p 0) (List.replicate q 0) ps = (pairsOk ps p q && decide (joinC p q ps ≤ 6)) := by
  unfold joinOk
  rw [good_noughts' hp, good_noughts' hq, pick_noughts, pick_noughts, side_length, side_length, joinZ_len, List.length_replicate, List.length_replicate, decide_eq_true rfl]
  simp [joinC]
  rfl
theorem joinAns_noughts {p q : Nat} {ps : List (List Int)} (h : joinOk (List.replicate p 0) (List.replicate q 0) ps = true) : (joinAns (List.replicate p 0) (List.replicate q 0) ps).length = joinC p q ps := by
  unfold joinAns
  rw [if_pos h, joinZ_len]
  simp [joinC]

theorem prod_in {x y : Int} (h1 : -1000000 ≤ x) (h2 : x ≤ 1000000) (h3 : -1000000 ≤ y) (h4 : y ≤ 1000000) : -1000000000000 ≤ x * y ∧ x * y ≤ 1000000000000 := by
  have a := Int.mul_nonneg (show 0 ≤ 1000000 - x by omega) (show 0 ≤ 1000000 + y by omega)
  have b := Int.mul_nonneg (show 0 ≤ 1000000 + x by omega) (show 0 ≤ 1000000 - y by omega)
  have c := Int.mul_nonneg (show 0 ≤ 1000000 - x by omega) (show 0 ≤ 1000000 - y by omega)
  have d := Int.mul_nonneg (show 0 ≤ 1000000 + x by omega) (show 0 ≤ 1000000 + y by omega)
  simp only [Int.sub_mul, Int.add_mul, Int.mul_sub, Int.mul_add] at a b c d
  constructor <;> omega
theorem prod_wrap {x y : Int} (h1 : -1000000 ≤ x) (h2 : x ≤ 1000000) (h3 : -1000000 ≤ y) (h4 : y ≤ 1000000) : IntKind.i64.wrap (x * y) = x * y := by
  have := prod_in h1 h2 h3 h4
  exact IntWalk.i64_in _ (by omega)

theorem prod_wrap64 {x y : Int} (h1 : -1000000 ≤ x) (h2 : x ≤ 1000000) (h3 : -1000000 ≤ y) (h4 : y ≤ 1000000) : Go.RowKit.wrap64 (x * y) = x * y := by
  have := prod_in h1 h2 h3 h4
  unfold Go.RowKit.wrap64; omega

theorem joinG_some {ps : List (List Int)} {t u v : WRow} (h : joinG ps t u = some v) : joinOk t.1 u.1 ps = true ∧ v = (joinZ t.1 u.1 (side ps 1), t.2 * u.2) := by
  unfold joinG at h
  split at h
  · rename_i h1
    cases h
    exact ⟨h1, by rw [joinAns, if_pos h1]⟩
  · cases h
theorem joinL_mem {xs ys : List WRow} {ps : List (List Int)} {t : WRow} (h : t ∈ joinL xs ys ps) : ∃ a ∈ xs, ∃ b ∈ ys, joinG ps a b = some t := by
  unfold joinL at h
  obtain ⟨a, ha, h1⟩ := List.mem_flatMap.1 h
  obtain ⟨b, hb, h2⟩ := List.mem_filterMap.1 h1
  exact ⟨a, ha, b, hb, h2⟩
theorem joinG_row {p q : Nat} {ts us : List WRow} {ps : List (List Int)} (h : goodT p ts = true) (k : goodT q us = true) {a b t : WRow} (ha : a ∈ ts) (hb : b ∈ us) (hg : joinG ps a b = some t) :
    good t.1 = true ∧ t.1.length = joinC p q ps ∧ -1000000000000 ≤ t.2 ∧ t.2 ≤ 1000000000000 := by
  obtain ⟨h1, rfl⟩ := joinG_some hg
  have ga := goodT_mem h a ha
  have gb := goodT_mem k b hb
  have wa := (goodL_mem (goodL_of_goodT h) a ha).2.2
  have wb := (goodL_mem (goodL_of_goodT k) b hb).2.2
  have hj : (joinZ a.1 b.1 (side ps 1)).length ≤ 6 := by
    simp only [joinOk, Bool.and_eq_true, decide_eq_true_eq] at h1
    exact h1.2
  refine ⟨?_, ?_, prod_in wa.1 wa.2 wb.1 wb.2⟩
  · show good (joinZ a.1 b.1 (side ps 1)) = true
    rw [good_joinZ ga.1 gb.1, decide_eq_true hj]
  · show (joinZ a.1 b.1 (side ps 1)).length = _
    rw [joinZ_len, ga.2, gb.2]; simp [joinC]
theorem joinL_rows {p q : Nat} {ts us : List WRow} {ps : List (List Int)} (h : goodT p ts = true) (k : goodT q us = true) : ∀ t ∈ joinL ts us ps, good t.1 = true ∧ t.1.length = joinC p q ps ∧ -1000000000000 ≤ t.2 ∧ t.2 ≤ 1000000000000 := fun t ht => by
  obtain ⟨a, ha, b, hb, hg⟩ := joinL_mem ht
  exact joinG_row h k ha hb hg
theorem joinL_len (xs ys : List WRow) (ps : List (List Int)) : (joinL xs ys ps).length ≤ xs.length * ys.length := by
  unfold joinL
  induction xs with
  | nil => simp
  | cons t xs ih =>
    rw [List.flatMap_cons, List.length_append, List.length_cons, Nat.succ_mul]
    have := List.length_filterMap_le (joinG ps t) ys
    omega
theorem tells_join {p q : Nat} {ts us : List WRow} {ps : List (List Int)} (h : goodT p ts = true) (k : goodT q us = true) : Tells (joinC p q ps) (sumAt (joinL ts us ps) (joinL ts us ps).length 1) (joinW ts us ps) :=
  tells_put List.Pairwise.nil (fun t ht => by cases ht) (fun t ht => by cases ht) (fun t ht => by have := joinL_rows h k t ht; exact ⟨this.1, this.2.1⟩)
    fun zs h1 _ => by rw [sumAt_sumW rfl 1 (fun t ht => (joinL_rows h k t ht).1) h1, wOf_nil]; omega

/-- What has come of the join when k rows of the one are through and j of the other with the next. -/
def accJ (ts us : List WRow) (ps : List (List Int)) (k j : Nat) : List WRow := joinL (ts.take k) us ps ++ (us.take j).filterMap (joinG ps (wat ts k))
section
variable {ts us : List WRow} {ps : List (List Int)} {k j : Nat}
theorem accJ_zero : accJ ts us ps k 0 = joinL (ts.take k) us ps := by simp [accJ]
theorem accJ_some (hj : j < us.length) {v : WRow} (h : joinG ps (wat ts k) (wat us j) = some v) : putAll [] (accJ ts us ps k (j + 1)) = putW (putAll [] (accJ ts us ps k j)) v.1 v.2 := by
  have e : accJ ts us ps k (j + 1) = accJ ts us ps k j ++ [v] := by
    unfold accJ
    rw [wtake_succ us j hj, List.filterMap_append, List.filterMap_cons, h, List.append_assoc]
    rfl
  rw [e, putAll_snoc]
theorem accJ_none (hj : j < us.length) (h : joinG ps (wat ts k) (wat us j) = none) : accJ ts us ps k (j + 1) = accJ ts us ps k j := by
  unfold accJ
  rw [wtake_succ us j hj, List.filterMap_append, List.filterMap_cons, h]
  simp
theorem accJ_all (hk : k < ts.length) : accJ ts us ps k us.length = joinL (ts.take (k + 1)) us ps := by
  unfold accJ joinL
  rw [wtake_succ ts k hk, List.flatMap_append, List.take_length]
  simp
theorem accJ_len (h1 : ts.length ≤ 60) (h2 : us.length ≤ 60) (hk : k < ts.length) : (accJ ts us ps k j).length ≤ 3600 := by
  unfold accJ
  rw [List.length_append]
  have a := joinL_len (ts.take k) us ps
  have b := List.length_filterMap_le (joinG ps (wat ts k)) (us.take j)
  rw [List.length_take] at a b
  have c : min k ts.length * us.length ≤ 59 * 60 := Nat.mul_le_mul (by omega) h2
  omega
theorem accJ_row {p q : Nat} (h : goodT p ts = true) (g : goodT q us = true) (hk : k < ts.length) : ∀ t ∈ accJ ts us ps k j, good t.1 = true ∧ t.1.length = joinC p q ps ∧ -1000000000000 ≤ t.2 ∧ t.2 ≤ 1000000000000 := fun t ht => by
  rcases List.mem_append.1 ht with h1 | h1
  · obtain ⟨a, ha, b, hb, hg⟩ := joinL_mem h1
    exact joinG_row h g (List.mem_of_mem_take ha) hb hg
  · obtain ⟨b, hb, hg⟩ := List.mem_filterMap.1 h1
    exact joinG_row h g (wat_mem hk) (List.mem_of_mem_take hb) hg
end

theorem putAll_in' {l : List WRow} {M : Int} (hM : 0 ≤ M) (hl : ∀ t ∈ l, t.1.length ≤ 6 ∧ -M ≤ t.2 ∧ t.2 ≤ M) : ∀ t ∈ putAll [] l, t.1.length ≤ 6 ∧ -(M * l.length) ≤ t.2 ∧ t.2 ≤ M * l.length := fun t h => by
  have hr : Rises [] := List.Pairwise.nil
  have h6 : t.1.length ≤ 6 := by
    rcases putAll_rows h with ⟨s, hs, e⟩ | ⟨s, hs, e⟩
    · cases hs
    · rw [← e]; exact (hl s hs).1
  have hw := wOf_mem (putAll_rises (l := l) hr) h
  rw [putAll_wOf t.1 hr] at hw
  have b2 := sumW_bound (zs := t.1) hM (fun s hs => (hl s hs).2)
  have b0 : wOf [] t.1 = 0 := rfl
  omega

/-- All that a walk of the inner loop asks of them. -/
theorem accJ_pack {p q : Nat} {ts us : List WRow} {ps : List (List Int)} {k n' : Nat} (h : goodT p ts = true) (g : goodT q us = true) (hk : k < ts.length) (hn' : us.length = n') :
    ∃ AC : Nat → List WRow, AC 0 = putAll [] (joinL (ts.take k) us ps) ∧ (∀ j v, j < n' → joinG ps (wat ts k) (wat us j) = some v → AC (j + 1) = putW (AC j) v.1 v.2) ∧ (∀ j, j < n' → joinG ps (wat ts k) (wat us j) = none → AC (j + 1) = AC j) ∧
      AC n' = putAll [] (joinL (ts.take (k + 1)) us ps) ∧ ∀ j, (AC j).length ≤ 3600 ∧ ∀ i, i < (AC j).length → (wat (AC j) i).1.length ≤ 6 ∧ -4000000000000000000 ≤ (wat (AC j) i).2 ∧ (wat (AC j) i).2 ≤ 4000000000000000000 := by
  refine ⟨fun j => putAll [] (accJ ts us ps k j), by simp only [accJ_zero], fun j v hj hv => accJ_some (by omega) hv, fun j hj hv => by simp only [accJ_none (show j < us.length by omega) hv], by subst hn'; simp only [accJ_all hk], fun j => ?_⟩
  have hl := accJ_len (ps := ps) (j := j) (goodT_len60 h) (goodT_len60 g) hk
  refine ⟨?_, fun i hi => ?_⟩
  · have := putAll_len (accJ ts us ps k j) []
    simp only [List.length_nil] at this
    show (putAll [] (accJ ts us ps k j)).length ≤ 3600
    omega
  · have := at_of_mem (putAll_in' (M := 1000000000000) (by omega) (fun t ht => by have := accJ_row (ps := ps) h g hk t ht; exact ⟨good_len this.1, this.2.2⟩)) i hi
    refine ⟨this.1, ?_, ?_⟩ <;> (dsimp only; omega)

/-- The model's join of two rows, where all is good. -/
theorem l1B_joinOk {xs ys : List Int} {ps : List (List Int)} (hx : good xs = true) (hy : good ys = true) (hp : pairsOk ps xs.length ys.length = true) : l1B xs ys ps = joinOk xs ys ps := by
  simp [joinOk, l1B, hx, hy, hp]
theorem l1Z_joinAns {xs ys : List Int} {ps : List (List Int)} (h : joinOk xs ys ps = true) : l1Z xs ys ps = joinAns xs ys ps := by
  have : pick xs (side ps 0) = pick ys (side ps 1) := by simp only [joinOk, Bool.and_eq_true, decide_eq_true_eq] at h; exact h.1.2
  simp [joinAns, h, l1Z, this]

end Go.Proofs.YthiabjkjpjmahaaGreat

/- Plain: how many columns the parts of a view have. -/
namespace Go.Proofs.YthiabjkjpjmahaaGreat

def numAt (l : List Int) (i : Int) : Option Int := if 0 ≤ i ∧ i < l.length then l[i.toNat]? else none
theorem numAt_no {l : List Int} {i : Int} (h : i < 0 ∨ (l.length : Int) ≤ i) : numAt l i = none := if_neg (by omega)
theorem numAt_yes {l : List Int} {i : Nat} (h : i < l.length) : numAt l i = some (l.getD i 0) := by
  rw [numAt, if_pos (by omega)]; simp [List.getD, h]
theorem numAt_some {l : List Int} {i z : Int} (h : numAt l i = some z) : ∃ k : Nat, i = k ∧ k < l.length ∧ l.getD k 0 = z ∧ l[k]? = some z := by
  unfold numAt at h
  split at h
  · rename_i h1
    refine ⟨i.toNat, by omega, by omega, ?_, h⟩
    simp [List.getD, h]
  · cases h
theorem numAt_mem {l : List Int} {i z : Int} (h : numAt l i = some z) : z ∈ l := by
  obtain ⟨k, _, hk, _, h2⟩ := numAt_some h
  exact List.mem_of_getElem? h2

/-- What a part's kind has not is not there. -/
def noMore (x : PartD) : Bool :=
  (decide (x.K = 2) || decide (x.ts.length = 0)) && ((decide (x.K = 3) || decide (x.cs.length = 0)) && ((decide (x.K = 4) || decide (x.ps.length = 0)) && (decide (x.K = 4 ∨ x.K = 5 ∨ x.K = 6) || decide (x.B = 0))))

def widthP (ss ah : List Int) (x : PartD) : Option Int :=
  if x.K = 1 then numAt ss x.A
  else if x.K = 2 then (numAt ah x.A).bind fun a => if goodEs a x.ts = true then some a else none
  else if x.K = 3 then (numAt ah x.A).bind fun a => if colsOk x.cs a.toNat = true then some (x.cs.length : Int) else none
  else if x.K = 4 then (numAt ah x.A).bind fun a => (numAt ah x.B).bind fun b => if pairsOk x.ps a.toNat b.toNat = true ∧ joinC a b x.ps ≤ 6 then some (joinC a b x.ps : Int) else none
  else if x.K = 5 ∨ x.K = 6 then (numAt ah x.A).bind fun a => (numAt ah x.B).bind fun b => if a = b then some a else none
  else if x.K = 7 then numAt ah x.A
  else none
/-- How many columns a part has, where all is right. -/
def partW (ss ah : List Int) (x : PartD) : Option Int := if noMore x = true then widthP ss ah x else none
def checkTo (ss : List Int) (xs : List PartD) : Nat → Option (List Int)
  | 0 => some []
  | k + 1 => (checkTo ss xs k).bind fun ah => (xs[k]?).bind fun x => (partW ss ah x).map fun n => ah ++ [n]
def srcOk (ss : List Int) : Bool := decide (1 ≤ ss.length) && (decide (ss.length ≤ 4) && ss.all inc)
def checkV (v : ViewD) : Option (List Int) := if srcOk v.1 = true ∧ 1 ≤ v.2.length ∧ v.2.length ≤ 12 then checkTo v.1 v.2 v.2.length else none

theorem widthP_inc {ss ah : List Int} {x : PartD} {n : Int} (hs : ss.all inc = true) (ha : ah.all inc = true) (h : widthP ss ah x = some n) : inc n = true := by
  have S : ∀ z ∈ ss, inc z = true := List.all_eq_true.1 hs
  have H : ∀ z ∈ ah, inc z = true := List.all_eq_true.1 ha
  unfold widthP at h
  split at h
  · exact S _ (numAt_mem h)
  split at h
  · obtain ⟨a, h1, h2⟩ := Option.bind_eq_some_iff.1 h
    split at h2
    · cases h2; exact H _ (numAt_mem h1)
    · cases h2
  split at h
  · obtain ⟨a, h1, h2⟩ := Option.bind_eq_some_iff.1 h
    split at h2
    · rename_i hc
      cases h2
      simp only [colsOk, Bool.and_eq_true, decide_eq_true_eq] at hc
      simp [inc]; omega
    · cases h2
  split at h
  · obtain ⟨a, h1, h2⟩ := Option.bind_eq_some_iff.1 h
    obtain ⟨b, h3, h4⟩ := Option.bind_eq_some_iff.1 h2
    split at h4
    · rename_i hc
      cases h4
      simp [inc]; omega
    · cases h4
  split at h
  · obtain ⟨a, h1, h2⟩ := Option.bind_eq_some_iff.1 h
    obtain ⟨b, h3, h4⟩ := Option.bind_eq_some_iff.1 h2
    split at h4
    · cases h4; exact H _ (numAt_mem h1)
    · cases h4
  split at h
  · exact H _ (numAt_mem h)
  · cases h
theorem partW_inc {ss ah : List Int} {x : PartD} {n : Int} (hs : ss.all inc = true) (ha : ah.all inc = true) (h : partW ss ah x = some n) : inc n = true := by
  unfold partW at h
  split at h
  · exact widthP_inc hs ha h
  · cases h
theorem checkTo_some {ss : List Int} {xs : List PartD} (hs : ss.all inc = true) : ∀ {k : Nat} {ah : List Int}, checkTo ss xs k = some ah → ah.length = k ∧ ah.all inc = true
  | 0, ah, h => by cases h; exact ⟨rfl, rfl⟩
  | k + 1, ah, h => by
    obtain ⟨a, h1, h2⟩ := Option.bind_eq_some_iff.1 h
    obtain ⟨x, h3, h4⟩ := Option.bind_eq_some_iff.1 h2
    obtain ⟨n, h5, rfl⟩ := Option.map_eq_some_iff.1 h4
    have ih := checkTo_some hs h1
    refine ⟨by simp [ih.1], ?_⟩
    rw [List.all_append, ih.2]
    simp [partW_inc hs ih.2 h5]
theorem checkTo_step {ss : List Int} {xs : List PartD} {k : Nat} {ah : List Int} {x : PartD} (h : checkTo ss xs k = some ah) (hx : xs[k]? = some x) : checkTo ss xs (k + 1) = (partW ss ah x).map fun n => ah ++ [n] := by
  rw [checkTo, h]; simp [hx]
theorem checkTo_none {ss : List Int} {xs : List PartD} {k : Nat} (h : checkTo ss xs k = none) : ∀ {n : Nat}, k ≤ n → checkTo ss xs n = none
  | n, hn => by
    obtain ⟨d, rfl⟩ := Nat.le.dest hn
    clear hn
    induction d with
    | zero => exact h
    | succ d ih => rw [show k + (d + 1) = (k + d) + 1 from rfl, checkTo, ih]; rfl
theorem checkV_src {v : ViewD} (h : srcOk v.1 = false) : checkV v = none := if_neg (by simp [h])
theorem checkV_len {v : ViewD} (h : ¬ (1 ≤ v.2.length ∧ v.2.length ≤ 12)) : checkV v = none := if_neg (fun e => h e.2)
theorem checkV_to {v : ViewD} {n : Nat} (h : srcOk v.1 = true) (hn : v.2.length = n) (h1 : 1 ≤ n) (h2 : n ≤ 12) : checkV v = checkTo v.1 v.2 n := by subst hn; exact if_pos ⟨h, h1, h2⟩
theorem srcOk_all {ss : List Int} (h : srcOk ss = true) : ss.all inc = true := by
  simp only [srcOk, Bool.and_eq_true] at h; exact h.2.2
theorem checkV_good {v : ViewD} {ah : List Int} (h : checkV v = some ah) : srcOk v.1 = true ∧ 1 ≤ v.2.length ∧ v.2.length ≤ 12 ∧ ah.length = v.2.length ∧ ah.all inc = true ∧ checkTo v.1 v.2 v.2.length = some ah := by
  unfold checkV at h
  split at h
  · rename_i h1
    have := checkTo_some (srcOk_all h1.1) h
    exact ⟨h1.1, h1.2.1, h1.2.2, this.1, this.2, h⟩
  · cases h

/-- What CheckView answers. -/
def ckB (v : ViewD) : Bool := (checkV v).isSome
def ckZ (v : ViewD) : List Int := (checkV v).getD []
theorem ck_none {v : ViewD} (h : checkV v = none) : ckB v = false ∧ ckZ v = [] := by simp [ckB, ckZ, h]
theorem ck_some {v : ViewD} {ah : List Int} (h : checkV v = some ah) : ckB v = true ∧ ckZ v = ah := by simp [ckB, ckZ, h]
end Go.Proofs.YthiabjkjpjmahaaGreat
