/- Contracts of spec.l1Join, spec.JoinRows, and impl.JoinRows whole. -/
import Derived.Test.YtagijnfiiifppabJoinR
import Derived.Test.YtagijnfiiifppabPickS
namespace Go.Proofs.Ytagijnfiiifppab
open Go.RowKit

theorem implJoinRows (a b : Option Addr) (n n' c c' : Nat) (xs ys : List Int) (p : Option Addr) (l d : Nat) (ps : List (List Int)) (w : World) (hz : xs.length = n) (hz' : ys.length = n') (hl : ps.length = l) (hn : n ≤ 9223372036854775807) (hn' : n' ≤ 9223372036854775807) (hl' : l ≤ 9223372036854775807)
    (hnil : a = none → c = 0) (ha : At w a xs) (hb : At w b ys) (hp : AtS w p ps) :
    Calls Try.prog 18 #[.agg #[.slice a n c], .agg #[.slice b n' c'], .slice p l d] w fun e w' => ∃ r m d, e = .returned (.tuple #[.agg #[.slice r m d], .bool (joinOk xs ys ps)]) ∧
      (joinAns xs ys ps).length = m ∧ w'.ownsRow w.heap.size 3 1 (.slice r m d) m ((joinAns xs ys ps).map (.int .i64)) ∧ Below w.heap.size w w' := by
  cases h2 : pairs2 ps with
  | false => exact implJoinRows_c1 a b p n n' l c c' d xs ys ps w hz hz' hl hn hn' hl' hnil ha hb hp h2
  | true => exact implJoinRows_c2 a b p n n' l c c' d xs ys ps w hz hz' hl hn hn' hl' hnil ha hb hp h2

theorem contains_snoc (cols : List Int) (i : Nat) (h : i < cols.length) (j : Int) : (cols.take (i + 1)).contains j = ((cols.take i).contains j || (cols.getD i 0 == j)) := by
  rw [take_snocD cols i h]
  simp only [List.contains_eq_mem, List.mem_append, List.mem_singleton, Bool.decide_or]
  congr 1
  by_cases e : j = cols.getD i 0
  · rw [decide_eq_true e, e]; simp
  · rw [decide_eq_false e, beq_false_of_ne (Ne.symm e)]

theorem picks_succ {xs ys : List Int} {ps : List (List Int)} {k : Nat} (hk : k < ps.length) (h : pick xs (side (ps.take k) 0) = pick ys (side (ps.take k) 1))
    (he : xs.getD ((ps.getD k []).getD 0 0).toNat 0 = ys.getD ((ps.getD k []).getD 1 0).toNat 0) : pick xs (side (ps.take (k + 1)) 0) = pick ys (side (ps.take (k + 1)) 1) := by
  rw [side_take ps 0 k hk, side_take ps 1 k hk]
  unfold pick at *
  rw [List.map_append, List.map_append, h, List.map_cons, List.map_cons, he]
  rfl
theorem picks_not {xs ys : List Int} {ps : List (List Int)} {k : Nat} (hk : k < ps.length) (he : xs.getD ((ps.getD k []).getD 0 0).toNat 0 ≠ ys.getD ((ps.getD k []).getD 1 0).toNat 0) : pick xs (side ps 0) ≠ pick ys (side ps 1) := fun h => by
  apply he
  have := congrArg (fun q => q.getD k 0) h
  have h0 := side_getD ps 0 k hk
  have h1 := side_getD ps 1 k hk
  simp only [pick, List.getD, List.getElem?_map] at this h0 h1 ⊢
  rw [List.getElem?_eq_getElem (by rw [side_length]; exact hk), List.getElem?_eq_getElem (by rw [side_length]; exact hk)] at this
  rw [List.getElem?_eq_getElem (by rw [side_length]; exact hk)] at h0 h1
  simp only [Option.map_some, Option.getD_some] at this h0 h1
  rw [← h0, ← h1]
  exact this

/-- What l1Join answers. -/
def l1Z (xs ys : List Int) (ps : List (List Int)) : List Int := if pick xs (side ps 0) = pick ys (side ps 1) then joinZ xs ys (side ps 1) else []
def l1B (xs ys : List Int) (ps : List (List Int)) : Bool := decide (pick xs (side ps 0) = pick ys (side ps 1)) && decide ((joinZ xs ys (side ps 1)).length ≤ 6)

set_option maxHeartbeats 8000000 in
theorem l1Join_any (a b p : Option Addr) (n n' l c c' d : Nat) (xs ys : List Int) (ps : List (List Int)) (w : World) (hz : xs.length = n) (hz' : ys.length = n') (hl : ps.length = l) (hn : n ≤ 6) (hn' : n' ≤ 6)
    (hnil : a = none → c = 0) (ha : At w a xs) (hb : At w b ys) (hp : AtS w p ps) (hok : pairsOk ps n n' = true) :
    Calls Try.prog 28 #[.agg #[.slice a n c], .agg #[.slice b n' c'], .slice p l d] w fun e w' => ∃ r m d, e = .returned (.tuple #[.agg #[.slice r m d], .bool (l1B xs ys ps)]) ∧
      (l1Z xs ys ps).length = m ∧ w'.ownsRow w.heap.size 3 1 (.slice r m d) m ((l1Z xs ys ps).map (.int .i64)) ∧ Below w.heap.size w w' := by
  have h6 := pairsOk_len hok
  have hpair := fun k hk => pairsOk_at hok k hk
  obtain ⟨i0, hi, hz0, hz1, hz2⟩ := info_parts Try.infoInt
  obtain ⟨W, hW⟩ : ∃ W, W = ((w.alloc (.cells #[.slice a n c] 26)).alloc (.cells #[.slice b n' c'] 26)).alloc (.cells #[.slice none 0 0] 26) := ⟨_, rfl⟩
  have B : Below w.heap.size w W := by rw [hW]; exact (((Below.refl _ _).alloc (Nat.le_refl _) _).alloc (by simp) _).alloc (by simp; omega) _
  have A1 : At W a xs := ha.below B
  have A2 : At W b ys := hb.below B
  have A3 : AtS W p ps := hp.below B
  have c1 : W.cell? ⟨w.heap.size, 0, none⟩ = some (.slice a n c) := by rw [hW]; simp [go_sem]
  have c2 : W.cell? ⟨w.heap.size + 1, 0, none⟩ = some (.slice b n' c') := by rw [hW]; simp [go_sem]
  have c3 : W.cell? ⟨w.heap.size + 1 + 1, 0, none⟩ = some (.slice none 0 0) := by rw [hW]; simp [go_sem]
  have f3 : W.frozen? ⟨w.heap.size + 1 + 1, 0, none⟩ = false := by rw [hW]; simp [go_sem]
  have zW : W.heap.size = w.heap.size + 1 + 1 + 1 := by rw [hW]; simp
  have zWa : w.heap.size + 1 + 1 + 1 ≤ W.heap.size := by omega
  have o0 : (W.alloc (.cells #[] 3)).ownsRow (w.heap.size + 1 + 1 + 1) 3 1 (.slice (some ⟨w.heap.size + 1 + 1 + 1, 0, none⟩) 0 0) 0 [] := by
    have := World.ownsRow_lit (base := w.heap.size + 1 + 1 + 1) (e := 3) (size := 1) W #[] 0 zWa (by unfold maxLen; omega) (by simp)
    rw [zW] at this
    simpa using this
  have A1a := A1.alloc (.cells #[] 3)
  have BA : Below W.heap.size W (W.alloc (.cells #[] 3)) := (Below.refl _ _).alloc (Nat.le_refl _) _
  have zWb : W.heap.size ≤ w.heap.size + 1 + 1 + 1 := by omega
  clear hok zW
  go_enter Try.func28, Try.ntmps28
  go_wp2_with (at_builtin; rw [← hW]; refine wpList_append_all rfl (.tmp 16) (.tmp 18) 22 rfl (w.heap.size + 1 + 1 + 1) 3 i0 (.int .i64 0) 8 Try.underlying22 hi hz0 hz1 hz2 rfl _ _ _ rfl o0 a n c xs rfl hz A1a hnil (by unfold maxLen; omega) (by omega) (by simp; omega) ?_; intro r cap w2 hown2 hgrow2; rw [Nat.zero_add] at hown2; rw [Nat.zero_add])
  have V0 : RowVar2 (w2.alloc (.cells #[.slice r n cap] 26)) w2.heap.size 26 (w.heap.size + 1 + 1 + 1) 3 r n cap (joinTo xs ys (side ps 1) 0) := by
    rw [show joinTo xs ys (side ps 1) 0 = xs by simp [joinTo, restTo]]
    exact RowVar2.new hz (by simpa using hown2)
  have B2 : Below W.heap.size W (w2.alloc (.cells #[.slice r n cap] 26)) := (BA.grown hgrow2 (by simp) (fun k hk => Nat.le_trans zWb (Nat.le_of_eq (Option.some.inj hk)))).alloc (by have := hgrow2.size; simp at this; omega) _
  have zR : w.heap.size + 1 + 1 + 1 ≤ w2.heap.size := by have := hgrow2.size; simp at this; omega
  obtain ⟨U, hU⟩ : ∃ U, U = w2.alloc (.cells #[.slice r n cap] 26) := ⟨_, rfl⟩
  rw [← hU] at V0 B2
  rw [← hU]
  have e1 := cell_later B2 c1
  have e2 := cell_later B2 c2
  have e3 := cell_later B2 c3
  have k3 := frozen_later B2 c3 f3
  have BU := B.trans (B2.mono B.size)
  obtain ⟨R, hR⟩ : ∃ R, R = w2.heap.size := ⟨_, rfl⟩
  rw [← hR] at V0 zR
  rw [← hR]
  clear hU hR hown2 hgrow2 hW B A1 A2 A3 A1a BA o0 c1 c2 c3 f3 B2
  go_loopw [23] (fun i wr => ∃ k : Nat, k ≤ l ∧ i = .int .i64 k ∧ pick xs (side (ps.take k) 0) = pick ys (side (ps.take k) 1) ∧ Below U.heap.size U wr) (fun i _ => l - (intOf i).toNat)
  case atStart => exact ⟨0, Nat.zero_le _, rfl, by simp [pick, side], Below.refl _ _⟩
  case round =>
    obtain ⟨k, hk, rfl, hpk, hbw⟩ := hrel
    have g1 := cell_later hbw e1
    have g2 := cell_later hbw e2
    have g3 := cell_later hbw e3
    have j3 := frozen_later hbw e3 k3
    have BT := BU.trans (hbw.mono BU.size)
    by_cases hlt : k < l
    · obtain ⟨pb, poff, rfl, hpc⟩ := (hp.below BT).some (by omega)
      obtain ⟨q, qd, hcx, _, hat⟩ := hpc k (by omega)
      obtain ⟨hl2, ⟨hx0, hx1⟩, hy0, hy1⟩ := hpair k (by omega)
      have HS := Hid.mk (fun he => picks_succ (xs := xs) (ys := ys) (ps := ps) (k := k) (by omega) hpk he)
      have HN := Hid.mk (fun he => picks_not (xs := xs) (ys := ys) (ps := ps) (k := k) (by omega) he)
      generalize ps.getD k [] = pr at *
      obtain ⟨b', off', rfl, hb', hc'⟩ := hat.some (by omega)
      have hp0 := hc' 0 (by omega)
      have hp1 := hc' 1 (by omega)
      rw [Nat.add_zero] at hp0
      rw [hl2] at hcx
      obtain ⟨i, hii⟩ := Int.eq_ofNat_of_zero_le hx0
      obtain ⟨j, hjj⟩ := Int.eq_ofNat_of_zero_le hy0
      rw [hii] at hp0 hx1 HS HN
      rw [hjj] at hp1 hy1 HS HN
      have hin : i < n := by omega
      have hjn : j < n' := by omega
      obtain ⟨ba, offa, rfl, hba, hca⟩ := (ha.below BT).some (by omega)
      obtain ⟨bb, offb, rfl, hbb, hcb⟩ := (hb.below BT).some (by omega)
      have hu := hca i (by omega)
      have hv := hcb j (by omega)
      rw [show ((i : Int)).toNat = i from rfl, show ((j : Int)).toNat = j from rfl] at HS HN
      generalize xs.getD i 0 = u at *
      generalize ys.getD j 0 = v at *
      clear hpc hc' hca hcb hii hjj hx0 hy0 hpk hl2 hpair V0
      by_cases huv : u = v
      · subst huv
        go_wp2
        go_quiet (fail)
        go_wp2
        go_roundw
        case rel => exact ⟨k + 1, by omega, by go_num, HS.out (by trivial), below_drewN hbw _⟩
        case measure => simp [intOf]; omega
      · have hne : (u != v) = true := by simpa using huv
        have HZ : Hid (l1Z xs ys ps = []) := by show _ = _; rw [l1Z, if_neg (HN.out huv)]
        have HB : Hid (l1B xs ys ps = false) := by show _ = _; rw [l1B, decide_eq_false (HN.out huv)]; rfl
        go_wp2
        go_quiet (fail)
        go_wp2
        refine bodyPost_ret (v := .tuple #[.agg #[.slice none 0 0], .bool false]) (by simp [results, Try.results28, go_sem, g3]) rfl ⟨none, 0, 0, by rw [HB.out], by rw [HZ.out]; rfl, ?_, ?_⟩
        · rw [HZ.out]; exact World.ownsRow_nil _ _ _ _
        · exact (below_drewN BT _).setCell (by simp; omega) _
    · obtain rfl : k = l := by omega
      have hpe : pick xs (side ps 0) = pick ys (side ps 1) := by rw [← hl, List.take_length] at hpk; exact hpk
      have HZ : Hid (l1Z xs ys ps = joinZ xs ys (side ps 1)) := by show _ = _; rw [l1Z, if_pos hpe]
      have HB : Hid (l1B xs ys ps = decide ((joinZ xs ys (side ps 1)).length ≤ 6)) := by show _ = _; rw [l1B, decide_eq_true hpe]; rfl
      have V1 := V0.below hbw
      clear hpk hpe V0
      obtain ⟨T, rfl⟩ : ∃ T, T = wr := ⟨_, rfl⟩
      go_wp2
      go_loopw [47] (fun i ws => ∃ (j : Nat) (r : Option Addr) (m cap : Nat), j ≤ n' ∧ i = .int .i64 j ∧ RowVar2 ws R 26 (w.heap.size + 1 + 1 + 1) 3 r m cap (joinTo xs ys (side ps 1) j) ∧ Below (w.heap.size + 1 + 1 + 1) T ws) (fun i _ => n' - (intOf i).toNat)
      case atStart => exact ⟨0, r, n, cap, Nat.zero_le _, rfl, V1, Below.refl _ _⟩
      case round =>
        clear V1
        obtain ⟨j, r3, m3, cap3, hj, rfl, hv, hbs⟩ := hrel
        have BS := BT.trans (hbs.mono (by omega))
        have q3 : wr.cell? ⟨w.heap.size + 1 + 1, 0, none⟩ = some (.slice none 0 0) := (hbs.cell (by simp)).trans g3
        have q3f : wr.frozen? ⟨w.heap.size + 1 + 1, 0, none⟩ = false := (hbs.frozen (by simp)).trans j3
        by_cases hjl : j < n'
        · obtain ⟨b2, off2, rfl, hb2, hc2⟩ := (hb.below BS).some (by omega)
          have hcy := hc2 j (by omega)
          have HT := Hid.mk (joinTo_take xs ys (side ps 1) j)
          have HK := Hid.mk (joinTo_skip xs ys (side ps 1) j)
          have hlen := joinTo_length xs ys (side ps 1) j
          have hl13 : m3 ≤ 12 := by have := hv.1; omega
          generalize ys.getD j 0 = y at hcy HT
          clear hc2 hlen
          go_wp2
          go_loop [13, 54] (fun pd i => ∃ i' : Nat, i' ≤ k ∧ i = .int .i64 i' ∧ pd = .bool (((side ps 1).take i').contains (j : Int))) (fun _ i => k - (intOf i).toNat)
          case atStart => exact ⟨0, Nat.zero_le _, rfl, by simp⟩
          case round =>
            obtain ⟨i, hi', rfl, rfl⟩ := hrel
            by_cases hil : i < k
            · obtain ⟨pb, poff, rfl, hpc⟩ := (hp.below BS).some (by omega)
              obtain ⟨q, qd, hcx, _, hat⟩ := hpc i (by omega)
              obtain ⟨hl2, _⟩ := hpair i (by omega)
              have HC := Hid.mk (contains_snoc (side ps 1) i (by rw [side_length]; omega) (j : Int))
              rw [side_getD ps 1 i (by omega)] at HC
              generalize ps.getD i [] = pr at *
              obtain ⟨b', off', rfl, hb', hc'⟩ := hat.some (by omega)
              have hp1 := hc' 1 (by omega)
              rw [hl2] at hcx
              generalize pr.getD 1 0 = y1 at *
              generalize ((side ps 1).take i).contains (j : Int) = bl at *
              clear hpc hc' hl2 hpair hv HT HK
              cases bl with
              | true =>
                go_wp2
                go_round
                case rel => exact ⟨i + 1, by omega, by go_num, by rw [HC.out]; rfl⟩
                case measure => simp [intOf]; omega
              | false =>
                go_wp2
                go_round
                case rel => exact ⟨i + 1, by omega, by go_num, by rw [HC.out]; simp⟩
                case measure => simp [intOf]; omega
            · obtain rfl : i = k := by omega
              rw [show (side ps 1).take i = side ps 1 by rw [List.take_of_length_le (by rw [side_length]; omega)]]
              have hcr := hv.cell
              have hfr := hv.frozen
              cases hct : (side ps 1).contains (j : Int) with
              | true =>
                have HE := Hid.mk (HK.out hct)
                clear HK HT hct
                go_wp2
                go_roundw
                case rel => exact ⟨j + 1, r3, m3, cap3, by omega, by go_num, by rw [HE.out]; exact hv, hbs⟩
                case measure => simp [intOf]; omega
              | false =>
                have HE := Hid.mk (HT.out hct)
                have zz := hv.lt
                clear HK HT hct
                go_wp2_with (at_builtin; refine wpList_append_lies _ rfl (.tmp 70) (.tmp 72) 22 rfl (w.heap.size + 1 + 1 + 1) 3 i0 (.int .i64 0) 1 8 Try.underlying22 hi hz0 hz1 hz2 rfl (by decide) _ _ _ rfl (hv.own.alloc _) ⟨wr.heap.size, 0, none⟩ 1 1 [.int .i64 y] rfl rfl (news_at wr _ _) (by simp; rfl) (by decide) (by unfold maxLen; omega) (by omega) (by simp; omega) (wr.heap.size + 1) (by simp) ?_; intro g4 cap4 w4 hown4 hgrow4 hat4 _; obtain ⟨t1, t2, hv4⟩ := hv.pushed hown4 hgrow4 hat4)
                have HB4 := Hid.mk (hv.pushed_below (v := .slice (some ⟨g4, 0, none⟩) (m3 + 1) cap4) hgrow4 hbs zR (Nat.le_refl _))
                rw [← HE.out] at hv4
                have HV := Hid.mk hv4
                clear hv4 hown4 hgrow4 hv hbs t1 t2 hat4
                go_roundw
                case rel => exact ⟨j + 1, _, _, _, by omega, by go_num, HV.out, HB4.out⟩
                case measure => simp [intOf]; omega
        · obtain rfl : j = n' := by omega
          have hjz : joinTo xs ys (side ps 1) j = joinZ xs ys (side ps 1) := by rw [joinZ, joinTo, hz']
          rw [hjz] at hv
          have hcr := hv.cell
          have hm := hv.1
          have hown := owns_mono hv.own (show w.heap.size ≤ w.heap.size + 1 + 1 + 1 by omega)
          have hne : (Value.slice r3 m3 cap3).ownBlock = none ∨ (Value.slice r3 m3 cap3).ownBlock ≠ some (w.heap.size + 1 + 1) := by
            cases hv' : (Value.slice r3 m3 cap3).ownBlock with
            | none => exact .inl rfl
            | some q => exact .inr (fun e => by have := (hv.own.lt q hv').1; simp at e; omega)
          have zz := hv.lt
          by_cases hm6 : m3 ≤ 6
          · have HB' : Hid (l1B xs ys ps = true) := by show _ = _; rw [HB.out, hm]; exact decide_eq_true hm6
            have hd : decide ((m3 : Int) ≤ 6) = true := by simp; omega
            go_wp2
            go_region
            all_goals
              go_wp2
              refine bodyPost_ret (v := .tuple #[.agg #[.slice r3 m3 cap3], .bool true]) (by simp [results, Try.results28, go_sem, q3]) rfl ⟨r3, m3, cap3, by rw [HB'.out], by rw [HZ.out]; exact hm, ?_, ?_⟩
              · rw [HZ.out]; exact hown.drew.kept (setCell_grown _ _ _) hne
              · exact BS.drew.setCell (by simp; omega) _
          · have HB' : Hid (l1B xs ys ps = false) := by show _ = _; rw [HB.out, hm]; exact decide_eq_false hm6
            have hd : decide ((m3 : Int) ≤ 6) = false := by simp; omega
            go_wp2
            go_region
            all_goals
              go_wp2
              refine bodyPost_ret (v := .tuple #[.agg #[.slice r3 m3 cap3], .bool false]) (by simp [results, Try.results28, go_sem, q3]) rfl ⟨r3, m3, cap3, by rw [HB'.out], by rw [HZ.out]; exact hm, ?_, ?_⟩
              · rw [HZ.out]; exact hown.drew.kept (setCell_grown _ _ _) hne
              · exact BS.drew.setCell (by simp; omega) _

end Go.Proofs.Ytagijnfiiifppab
