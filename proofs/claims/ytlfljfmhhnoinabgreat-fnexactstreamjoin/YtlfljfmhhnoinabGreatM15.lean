/- Several texts of one proof, in build order: JoinS, JoinP, Alike, DD, ScaleP, LstP. -/
import Derived.Test.YtlfljfmhhnoinabGreatM14
import Derived.Test.YtlfljfmhhnoinabGreatM13
import Derived.Test.YtlfljfmhhnoinabGreatM11
import Derived.Test.YtlfljfmhhnoinabGreatM8
import Derived.Test.YtlfljfmhhnoinabGreatM7
import Derived.Test.YtlfljfmhhnoinabGreatM2

/- Contracts of spec.l1Join, spec.JoinRows, and impl.JoinRows whole. -/
namespace Go.Proofs.YtlfljfmhhnoinabGreat
open Go.RowKit

theorem implJoinRows (a b : Option Addr) (n n' c c' : Nat) (xs ys : List Int) (p : Option Addr) (l d : Nat) (ps : List (List Int)) (w : World) (hz : xs.length = n) (hz' : ys.length = n') (hl : ps.length = l) (hn : n ≤ 9223372036854775807) (hn' : n' ≤ 9223372036854775807) (hl' : l ≤ 9223372036854775807)
    (hnil : a = none → c = 0) (ha : At w a xs) (hb : At w b ys) (hp : AtS w p ps) :
    Calls Tryz.prog 44 #[.agg #[.slice a n c], .agg #[.slice b n' c'], .slice p l d] w fun e w' => ∃ r m d, e = .returned (.tuple #[.agg #[.slice r m d], .bool (joinOk xs ys ps)]) ∧
      (joinAns xs ys ps).length = m ∧ w'.ownsRow w.heap.size 3 1 (.slice r m d) m ((joinAns xs ys ps).map (.int .i64)) ∧ Below w.heap.size w w' := by
  cases h2 : pairs2 ps with
  | false => exact implJoinRows_c1 a b p n n' l c c' d xs ys ps w hz hz' hl hn hn' hl' hnil ha hb hp h2
  | true => exact implJoinRows_c2 a b p n n' l c c' d xs ys ps w hz hz' hl hn hn' hl' hnil ha hb hp h2

theorem contains_snoc (cols : List Int) (i : Nat) (h : i < cols.length) (j : Int) : (cols.take (i + 1)).contains j = ((cols.take i).contains j || (cols.getD i 0 == j)) := by
  rw [take_snocD cols i h]
  simp only [List.contains_eq_mem, List.mem_append, List.mem_singleton, Bool.decide_or]
  congr 1
  by_cases e : j = cols.getD i 0
  · rw [decide_eq_true e, e]; simp
  · rw [decide_eq_false e, beq_false_of_ne (Ne.symm e)]

theorem picks_succ {xs ys : List Int} {ps : List (List Int)} {k : Nat} (hk : k < ps.length) (h : pick xs (side (ps.take k) 0) = pick ys (side (ps.take k) 1))
    (he : xs.getD ((ps.getD k []).getD 0 0).toNat 0 = ys.getD ((ps.getD k []).getD 1 0).toNat 0) : pick xs (side (ps.take (k + 1)) 0) = pick ys (side (ps.take (k + 1)) 1) := by
  rw [side_take ps 0 k hk, side_take ps 1 k hk]
  unfold pick at *
  rw [List.map_append, List.map_append, h, List.map_cons, List.map_cons, he]
  rfl
theorem picks_not {xs ys : List Int} {ps : List (List Int)} {k : Nat} (hk : k < ps.length) (he : xs.getD ((ps.getD k []).getD 0 0).toNat 0 ≠ ys.getD ((ps.getD k []).getD 1 0).toNat 0) : pick xs (side ps 0) ≠ pick ys (side ps 1) := fun h => by
  apply he
  have := congrArg (fun q => q.getD k 0) h
  have h0 := side_getD ps 0 k hk
  have h1 := side_getD ps 1 k hk
  simp only [pick, List.getD, List.getElem?_map] at this h0 h1 ⊢
  rw [List.getElem?_eq_getElem (by rw [side_length]; exact hk), List.getElem?_eq_getElem (by rw [side_length]; exact hk)] at this
  rw [List.getElem?_eq_getElem (by rw [side_length]; exact hk)] at h0 h1
  simp only [Option.map_some, Option.getD_some] at this h0 h1
  rw [← h0, ← h1]
  exact this

/-- What l1Join answers. -/
def l1Z (xs ys : List Int) (ps : List (List Int)) : List Int := if pick xs (side ps 0) = pick ys (side ps 1) then joinZ xs ys (side ps 1) else []
def l1B (xs ys : List Int) (ps : List (List Int)) : Bool := decide (pick xs (side ps 0) = pick ys (side ps 1)) && decide ((joinZ xs ys (side ps 1)).length ≤ 6)

set_option maxHeartbeats 8000000 in
theorem l1Join_any (a b p : Option Addr) (n n' l c c' d : Nat) (xs ys : List Int) (ps : List (List Int)) (w : World) (hz : xs.length = n) (hz' : ys.length = n') (hl : ps.length = l) (hn : n ≤ 6) (hn' : n' ≤ 6)
    (hnil : a = none → c = 0) (ha : At w a xs) (hb : At w b ys) (hp : AtS w p ps) (hok : pairsOk ps n n' = true) :
    Calls Tryz.prog 64 #[.agg #[.slice a n c], .agg #[.slice b n' c'], .slice p l d] w fun e w' => ∃ r m d, e = .returned (.tuple #[.agg #[.slice r m d], .bool (l1B xs ys ps)]) ∧
      (l1Z xs ys ps).length = m ∧ w'.ownsRow w.heap.size 3 1 (.slice r m d) m ((l1Z xs ys ps).map (.int .i64)) ∧ Below w.heap.size w w' := by
  have h6 := pairsOk_len hok
  have hpair := fun k hk => pairsOk_at hok k hk
  obtain ⟨i0, hi, hz0, hz1, hz2⟩ := info_parts Tryz.infoInt
  obtain ⟨W, hW⟩ : ∃ W, W = ((w.alloc (.cells #[.slice a n c] 76)).alloc (.cells #[.slice b n' c'] 76)).alloc (.cells #[.slice none 0 0] 76) := ⟨_, rfl⟩
  have B : Below w.heap.size w W := by rw [hW]; exact (((Below.refl _ _).alloc (Nat.le_refl _) _).alloc (by simp) _).alloc (by simp; omega) _
  have A1 : At W a xs := ha.below B
  have A2 : At W b ys := hb.below B
  have A3 : AtS W p ps := hp.below B
  have c1 : W.cell? ⟨w.heap.size, 0, none⟩ = some (.slice a n c) := by rw [hW]; simp [go_sem]
  have c2 : W.cell? ⟨w.heap.size + 1, 0, none⟩ = some (.slice b n' c') := by rw [hW]; simp [go_sem]
  have c3 : W.cell? ⟨w.heap.size + 1 + 1, 0, none⟩ = some (.slice none 0 0) := by rw [hW]; simp [go_sem]
  have f3 : W.frozen? ⟨w.heap.size + 1 + 1, 0, none⟩ = false := by rw [hW]; simp [go_sem]
  have zW : W.heap.size = w.heap.size + 1 + 1 + 1 := by rw [hW]; simp
  have zWa : w.heap.size + 1 + 1 + 1 ≤ W.heap.size := by omega
  have o0 : (W.alloc (.cells #[] 3)).ownsRow (w.heap.size + 1 + 1 + 1) 3 1 (.slice (some ⟨w.heap.size + 1 + 1 + 1, 0, none⟩) 0 0) 0 [] := by
    have := World.ownsRow_lit (base := w.heap.size + 1 + 1 + 1) (e := 3) (size := 1) W #[] 0 zWa (by unfold maxLen; omega) (by simp)
    rw [zW] at this
    simpa using this
  have A1a := A1.alloc (.cells #[] 3)
  have BA : Below W.heap.size W (W.alloc (.cells #[] 3)) := (Below.refl _ _).alloc (Nat.le_refl _) _
  have zWb : W.heap.size ≤ w.heap.size + 1 + 1 + 1 := by omega
  clear hok zW
  go_enter Tryz.func64, Tryz.ntmps64
  go_wp2_with (at_builtin; rw [← hW]; refine wpList_append_all rfl (.tmp 16) (.tmp 18) 41 rfl (w.heap.size + 1 + 1 + 1) 3 i0 (.int .i64 0) 8 Tryz.underlying41 hi hz0 hz1 hz2 rfl _ _ _ rfl o0 a n c xs rfl hz A1a hnil (by unfold maxLen; omega) (by omega) (by simp; omega) ?_; intro r cap w2 hown2 hgrow2; rw [Nat.zero_add] at hown2; rw [Nat.zero_add])
  have V0 : RowVar2 (w2.alloc (.cells #[.slice r n cap] 76)) w2.heap.size 76 (w.heap.size + 1 + 1 + 1) 3 r n cap (joinTo xs ys (side ps 1) 0) := by
    rw [show joinTo xs ys (side ps 1) 0 = xs by simp [joinTo, restTo]]
    exact RowVar2.new hz (by simpa using hown2)
  have B2 : Below W.heap.size W (w2.alloc (.cells #[.slice r n cap] 76)) := (BA.grown hgrow2 (by simp) (fun k hk => Nat.le_trans zWb (Nat.le_of_eq (Option.some.inj hk)))).alloc (by have := hgrow2.size; simp at this; omega) _
  have zR : w.heap.size + 1 + 1 + 1 ≤ w2.heap.size := by have := hgrow2.size; simp at this; omega
  obtain ⟨U, hU⟩ : ∃ U, U = w2.alloc (.cells #[.slice r n cap] 76) := ⟨_, rfl⟩
  rw [← hU] at V0 B2
  rw [← hU]
  have e1 := cell_later B2 c1
  have e2 := cell_later B2 c2
  have e3 := cell_later B2 c3
  have k3 := frozen_later B2 c3 f3
  have BU := B.trans (B2.mono B.size)
  obtain ⟨R, hR⟩ : ∃ R, R = w2.heap.size := ⟨_, rfl⟩
  rw [← hR] at V0 zR
  rw [← hR]
  clear hU hR hown2 hgrow2 hW B A1 A2 A3 A1a BA o0 c1 c2 c3 f3 B2
  go_loopw [23] (fun i wr => ∃ k : Nat, k ≤ l ∧ i = .int .i64 k ∧ pick xs (side (ps.take k) 0) = pick ys (side (ps.take k) 1) ∧ Below U.heap.size U wr) (fun i _ => l - (intOf i).toNat)
  case atStart => exact ⟨0, Nat.zero_le _, rfl, by simp [pick, side], Below.refl _ _⟩
  case round =>
    obtain ⟨k, hk, rfl, hpk, hbw⟩ := hrel
    have g1 := cell_later hbw e1
    have g2 := cell_later hbw e2
    have g3 := cell_later hbw e3
    have j3 := frozen_later hbw e3 k3
    have BT := BU.trans (hbw.mono BU.size)
    by_cases hlt : k < l
    · obtain ⟨pb, poff, rfl, hpc⟩ := (hp.below BT).some (by omega)
      obtain ⟨q, qd, hcx, _, hat⟩ := hpc k (by omega)
      obtain ⟨hl2, ⟨hx0, hx1⟩, hy0, hy1⟩ := hpair k (by omega)
      have HS := Hid.mk (fun he => picks_succ (xs := xs) (ys := ys) (ps := ps) (k := k) (by omega) hpk he)
      have HN := Hid.mk (fun he => picks_not (xs := xs) (ys := ys) (ps := ps) (k := k) (by omega) he)
      generalize ps.getD k [] = pr at *
      obtain ⟨b', off', rfl, hb', hc'⟩ := hat.some (by omega)
      have hp0 := hc' 0 (by omega)
      have hp1 := hc' 1 (by omega)
      rw [Nat.add_zero] at hp0
      rw [hl2] at hcx
      obtain ⟨i, hii⟩ := Int.eq_ofNat_of_zero_le hx0
      obtain ⟨j, hjj⟩ := Int.eq_ofNat_of_zero_le hy0
      rw [hii] at hp0 hx1 HS HN
      rw [hjj] at hp1 hy1 HS HN
      have hin : i < n := by omega
      have hjn : j < n' := by omega
      obtain ⟨ba, offa, rfl, hba, hca⟩ := (ha.below BT).some (by omega)
      obtain ⟨bb, offb, rfl, hbb, hcb⟩ := (hb.below BT).some (by omega)
      have hu := hca i (by omega)
      have hv := hcb j (by omega)
      rw [show ((i : Int)).toNat = i from rfl, show ((j : Int)).toNat = j from rfl] at HS HN
      generalize xs.getD i 0 = u at *
      generalize ys.getD j 0 = v at *
      clear hpc hc' hca hcb hii hjj hx0 hy0 hpk hl2 hpair V0
      by_cases huv : u = v
      · subst huv
        go_wp2
        go_quiet (fail)
        go_wp2
        go_roundw
        case rel => exact ⟨k + 1, by omega, by go_num, HS.out (by trivial), below_drewN hbw _⟩
        case measure => simp [intOf]; omega
      · have hne : (u != v) = true := by simpa using huv
        have HZ : Hid (l1Z xs ys ps = []) := by show _ = _; rw [l1Z, if_neg (HN.out huv)]
        have HB : Hid (l1B xs ys ps = false) := by show _ = _; rw [l1B, decide_eq_false (HN.out huv)]; rfl
        go_wp2
        go_quiet (fail)
        go_wp2
        refine bodyPost_ret (v := .tuple #[.agg #[.slice none 0 0], .bool false]) (by simp [results, Tryz.results64, go_sem, g3]) rfl ⟨none, 0, 0, by rw [HB.out], by rw [HZ.out]; rfl, ?_, ?_⟩
        · rw [HZ.out]; exact World.ownsRow_nil _ _ _ _
        · exact (below_drewN BT _).setCell (by simp; omega) _
    · obtain rfl : k = l := by omega
      have hpe : pick xs (side ps 0) = pick ys (side ps 1) := by rw [← hl, List.take_length] at hpk; exact hpk
      have HZ : Hid (l1Z xs ys ps = joinZ xs ys (side ps 1)) := by show _ = _; rw [l1Z, if_pos hpe]
      have HB : Hid (l1B xs ys ps = decide ((joinZ xs ys (side ps 1)).length ≤ 6)) := by show _ = _; rw [l1B, decide_eq_true hpe]; rfl
      have V1 := V0.below hbw
      clear hpk hpe V0
      obtain ⟨T, rfl⟩ : ∃ T, T = wr := ⟨_, rfl⟩
      go_wp2
      go_loopw [47] (fun i ws => ∃ (j : Nat) (r : Option Addr) (m cap : Nat), j ≤ n' ∧ i = .int .i64 j ∧ RowVar2 ws R 76 (w.heap.size + 1 + 1 + 1) 3 r m cap (joinTo xs ys (side ps 1) j) ∧ Below (w.heap.size + 1 + 1 + 1) T ws) (fun i _ => n' - (intOf i).toNat)
      case atStart => exact ⟨0, r, n, cap, Nat.zero_le _, rfl, V1, Below.refl _ _⟩
      case round =>
        clear V1
        obtain ⟨j, r3, m3, cap3, hj, rfl, hv, hbs⟩ := hrel
        have BS := BT.trans (hbs.mono (by omega))
        have q3 : wr.cell? ⟨w.heap.size + 1 + 1, 0, none⟩ = some (.slice none 0 0) := (hbs.cell (by simp)).trans g3
        have q3f : wr.frozen? ⟨w.heap.size + 1 + 1, 0, none⟩ = false := (hbs.frozen (by simp)).trans j3
        by_cases hjl : j < n'
        · obtain ⟨b2, off2, rfl, hb2, hc2⟩ := (hb.below BS).some (by omega)
          have hcy := hc2 j (by omega)
          have HT := Hid.mk (joinTo_take xs ys (side ps 1) j)
          have HK := Hid.mk (joinTo_skip xs ys (side ps 1) j)
          have hlen := joinTo_length xs ys (side ps 1) j
          have hl13 : m3 ≤ 12 := by have := hv.1; omega
          generalize ys.getD j 0 = y at hcy HT
          clear hc2 hlen
          go_wp2
          go_loop [13, 54] (fun pd i => ∃ i' : Nat, i' ≤ k ∧ i = .int .i64 i' ∧ pd = .bool (((side ps 1).take i').contains (j : Int))) (fun _ i => k - (intOf i).toNat)
          case atStart => exact ⟨0, Nat.zero_le _, rfl, by simp⟩
          case round =>
            obtain ⟨i, hi', rfl, rfl⟩ := hrel
            by_cases hil : i < k
            · obtain ⟨pb, poff, rfl, hpc⟩ := (hp.below BS).some (by omega)
              obtain ⟨q, qd, hcx, _, hat⟩ := hpc i (by omega)
              obtain ⟨hl2, _⟩ := hpair i (by omega)
              have HC := Hid.mk (contains_snoc (side ps 1) i (by rw [side_length]; omega) (j : Int))
              rw [side_getD ps 1 i (by omega)] at HC
              generalize ps.getD i [] = pr at *
              obtain ⟨b', off', rfl, hb', hc'⟩ := hat.some (by omega)
              have hp1 := hc' 1 (by omega)
              rw [hl2] at hcx
              generalize pr.getD 1 0 = y1 at *
              generalize ((side ps 1).take i).contains (j : Int) = bl at *
              clear hpc hc' hl2 hpair hv HT HK
              cases bl with
              | true =>
                go_wp2
                go_round
                case rel => exact ⟨i + 1, by omega, by go_num, by rw [HC.out]; rfl⟩
                case measure => simp [intOf]; omega
              | false =>
                go_wp2
                go_round
                case rel => exact ⟨i + 1, by omega, by go_num, by rw [HC.out]; simp⟩
                case measure => simp [intOf]; omega
            · obtain rfl : i = k := by omega
              rw [show (side ps 1).take i = side ps 1 by rw [List.take_of_length_le (by rw [side_length]; omega)]]
              have hcr := hv.cell
              have hfr := hv.frozen
              cases hct : (side ps 1).contains (j : Int) with
              | true =>
                have HE := Hid.mk (HK.out hct)
                clear HK HT hct
                go_wp2
                go_roundw
                case rel => exact ⟨j + 1, r3, m3, cap3, by omega, by go_num, by rw [HE.out]; exact hv, hbs⟩
                case measure => simp [intOf]; omega
              | false =>
                have HE := Hid.mk (HT.out hct)
                have zz := hv.lt
                clear HK HT hct
                go_wp2_with (at_builtin; refine wpList_append_lies _ rfl (.tmp 70) (.tmp 72) 41 rfl (w.heap.size + 1 + 1 + 1) 3 i0 (.int .i64 0) 1 8 Tryz.underlying41 hi hz0 hz1 hz2 rfl (by decide) _ _ _ rfl (hv.own.alloc _) ⟨wr.heap.size, 0, none⟩ 1 1 [.int .i64 y] rfl rfl (news_at wr _ _) (by simp; rfl) (by decide) (by unfold maxLen; omega) (by omega) (by simp; omega) (wr.heap.size + 1) (by simp) ?_; intro g4 cap4 w4 hown4 hgrow4 hat4 _; obtain ⟨t1, t2, hv4⟩ := hv.pushed hown4 hgrow4 hat4)
                have HB4 := Hid.mk (hv.pushed_below (v := .slice (some ⟨g4, 0, none⟩) (m3 + 1) cap4) hgrow4 hbs zR (Nat.le_refl _))
                rw [← HE.out] at hv4
                have HV := Hid.mk hv4
                clear hv4 hown4 hgrow4 hv hbs t1 t2 hat4
                go_roundw
                case rel => exact ⟨j + 1, _, _, _, by omega, by go_num, HV.out, HB4.out⟩
                case measure => simp [intOf]; omega
        · obtain rfl : j = n' := by omega
          have hjz : joinTo xs ys (side ps 1) j = joinZ xs ys (side ps 1) := by rw [joinZ, joinTo, hz']
          rw [hjz] at hv
          have hcr := hv.cell
          have hm := hv.1
          have hown := owns_mono hv.own (show w.heap.size ≤ w.heap.size + 1 + 1 + 1 by omega)
          have hne : (Value.slice r3 m3 cap3).ownBlock = none ∨ (Value.slice r3 m3 cap3).ownBlock ≠ some (w.heap.size + 1 + 1) := by
            cases hv' : (Value.slice r3 m3 cap3).ownBlock with
            | none => exact .inl rfl
            | some q => exact .inr (fun e => by have := (hv.own.lt q hv').1; simp at e; omega)
          have zz := hv.lt
          by_cases hm6 : m3 ≤ 6
          · have HB' : Hid (l1B xs ys ps = true) := by show _ = _; rw [HB.out, hm]; exact decide_eq_true hm6
            have hd : decide ((m3 : Int) ≤ 6) = true := by simp; omega
            go_wp2
            go_region
            all_goals
              go_wp2
              refine bodyPost_ret (v := .tuple #[.agg #[.slice r3 m3 cap3], .bool true]) (by simp [results, Tryz.results64, go_sem, q3]) rfl ⟨r3, m3, cap3, by rw [HB'.out], by rw [HZ.out]; exact hm, ?_, ?_⟩
              · rw [HZ.out]; exact hown.drew.kept (setCell_grown _ _ _) hne
              · exact BS.drew.setCell (by simp; omega) _
          · have HB' : Hid (l1B xs ys ps = false) := by show _ = _; rw [HB.out, hm]; exact decide_eq_false hm6
            have hd : decide ((m3 : Int) ≤ 6) = false := by simp; omega
            go_wp2
            go_region
            all_goals
              go_wp2
              refine bodyPost_ret (v := .tuple #[.agg #[.slice r3 m3 cap3], .bool false]) (by simp [results, Tryz.results64, go_sem, q3]) rfl ⟨r3, m3, cap3, by rw [HB'.out], by rw [HZ.out]; exact hm, ?_, ?_⟩
              · rw [HZ.out]; exact hown.drew.kept (setCell_grown _ _ _) hne
              · exact BS.drew.setCell (by simp; omega) _

end Go.Proofs.YtlfljfmhhnoinabGreat

/- Plain: what is joined of two lists of weighted rows. -/
namespace Go.Proofs.YtlfljfmhhnoinabGreat

def joinG (ps : List (List Int)) (t u : WRow) : Option WRow := if joinOk t.1 u.1 ps = true then some (joinAns t.1 u.1 ps, t.2 * u.2) else none
def joinL (xs ys : List WRow) (ps : List (List Int)) : List WRow := xs.flatMap fun t => ys.filterMap (joinG ps t)
/-- How many of so many columns are in no pair. -/
def leftN (cols : List Int) (k : Nat) : Nat := ((List.range k).filter fun (j : Nat) => !cols.contains (j : Int)).length
theorem leftN_skip (cols : List Int) (k : Nat) (h : cols.contains (k : Int) = true) : leftN cols (k + 1) = leftN cols k := by
  simp only [leftN, List.range_succ, List.filter_append, List.filter_cons, List.filter_nil, h, Bool.not_true, Bool.false_eq_true, if_false, List.append_nil]
theorem leftN_take (cols : List Int) (k : Nat) (h : cols.contains (k : Int) = false) : leftN cols (k + 1) = leftN cols k + 1 := by
  simp only [leftN, List.range_succ, List.filter_append, List.filter_cons, List.filter_nil, h, Bool.not_false, if_true, List.length_append, List.length_cons, List.length_nil]
theorem leftN_le (cols : List Int) (k : Nat) : leftN cols k ≤ k := by
  have := List.length_filter_le (fun j : Nat => !cols.contains (j : Int)) (List.range k)
  simpa [leftN] using this
theorem restTo_len (ys cols : List Int) (k : Nat) : (restTo ys cols k).length = leftN cols k := by simp [restTo, leftN]
theorem joinZ_len (xs ys cols : List Int) : (joinZ xs ys cols).length = xs.length + leftN cols ys.length := by rw [joinZ, List.length_append, restTo_len]

def joinC (p q : Int) (ps : List (List Int)) : Nat := p.toNat + leftN (side ps 1) q.toNat
def joinW (ts us : List WRow) (ps : List (List Int)) : List WRow := putAll [] (joinL ts us ps)
section
variable {p q : Int} {ts us : List WRow} {ps : List (List Int)}
end

theorem good_noughts' {q : Nat} (h : q ≤ 6) : good (List.replicate q 0) = true := by
  refine good_of (by simpa using h) fun k hk => ?_
  have : (List.replicate q (0 : Int)).getD k 0 = 0 := by
    rw [List.getD_eq_getElem?_getD, List.getElem?_replicate]; split <;> rfl
  rw [this]; omega
theorem pick_noughts (q : Nat) (cols : List Int) : pick (List.replicate q 0) cols = List.replicate cols.length 0 := by
  unfold pick
  rw [List.eq_replicate_iff]
  refine ⟨by simp, fun x hx => ?_⟩
  obtain ⟨c, _, rfl⟩ := List.mem_map.1 hx
  rw [List.getD_eq_getElem?_getD, List.getElem?_replicate]; split <;> rfl
theorem joinOk_noughts {p q : Nat} (hp : p ≤ 6) (hq : q ≤ 6) (ps : List (List Int)) : joinOk (List.replicate p 0) (List.replicate q 0) ps = (pairsOk ps p q && decide (joinC p q ps ≤ 6)) := by
  unfold joinOk
  rw [good_noughts' hp, good_noughts' hq, pick_noughts, pick_noughts, side_length, side_length, joinZ_len, List.length_replicate, List.length_replicate, decide_eq_true rfl]
  simp [joinC]
  rfl
theorem joinAns_noughts {p q : Nat} {ps : List (List Int)} (h : joinOk (List.replicate p 0) (List.replicate q 0) ps = true) : (joinAns (List.replicate p 0) (List.replicate q 0) ps).length = joinC p q ps := by
  unfold joinAns
  rw [if_pos h, joinZ_len]
  simp [joinC]

theorem joinG_some {ps : List (List Int)} {t u v : WRow} (h : joinG ps t u = some v) : joinOk t.1 u.1 ps = true ∧ v = (joinZ t.1 u.1 (side ps 1), t.2 * u.2) := by
  unfold joinG at h
  split at h
  · rename_i h1
    cases h
    exact ⟨h1, by rw [joinAns, if_pos h1]⟩
  · cases h
theorem joinL_mem {xs ys : List WRow} {ps : List (List Int)} {t : WRow} (h : t ∈ joinL xs ys ps) : ∃ a ∈ xs, ∃ b ∈ ys, joinG ps a b = some t := by
  unfold joinL at h
  obtain ⟨a, ha, h1⟩ := List.mem_flatMap.1 h
  obtain ⟨b, hb, h2⟩ := List.mem_filterMap.1 h1
  exact ⟨a, ha, b, hb, h2⟩
theorem joinL_len (xs ys : List WRow) (ps : List (List Int)) : (joinL xs ys ps).length ≤ xs.length * ys.length := by
  unfold joinL
  induction xs with
  | nil => simp
  | cons t xs ih =>
    rw [List.flatMap_cons, List.length_append, List.length_cons, Nat.succ_mul]
    have := List.length_filterMap_le (joinG ps t) ys
    omega
/-- What has come of the join when k rows of the one are through and j of the other with the next. -/
def accJ (ts us : List WRow) (ps : List (List Int)) (k j : Nat) : List WRow := joinL (ts.take k) us ps ++ (us.take j).filterMap (joinG ps (wat ts k))
section
variable {ts us : List WRow} {ps : List (List Int)} {k j : Nat}
theorem accJ_zero : accJ ts us ps k 0 = joinL (ts.take k) us ps := by simp [accJ]
theorem accJ_some (hj : j < us.length) {v : WRow} (h : joinG ps (wat ts k) (wat us j) = some v) : putAll [] (accJ ts us ps k (j + 1)) = putW (putAll [] (accJ ts us ps k j)) v.1 v.2 := by
  have e : accJ ts us ps k (j + 1) = accJ ts us ps k j ++ [v] := by
    unfold accJ
    rw [wtake_succ us j hj, List.filterMap_append, List.filterMap_cons, h, List.append_assoc]
    rfl
  rw [e, putAll_snoc]
theorem accJ_none (hj : j < us.length) (h : joinG ps (wat ts k) (wat us j) = none) : accJ ts us ps k (j + 1) = accJ ts us ps k j := by
  unfold accJ
  rw [wtake_succ us j hj, List.filterMap_append, List.filterMap_cons, h]
  simp
theorem accJ_all (hk : k < ts.length) : accJ ts us ps k us.length = joinL (ts.take (k + 1)) us ps := by
  unfold accJ joinL
  rw [wtake_succ ts k hk, List.flatMap_append, List.take_length]
  simp
end

theorem putAll_in' {l : List WRow} {M : Int} (hM : 0 ≤ M) (hl : ∀ t ∈ l, t.1.length ≤ 6 ∧ -M ≤ t.2 ∧ t.2 ≤ M) : ∀ t ∈ putAll [] l, t.1.length ≤ 6 ∧ -(M * l.length) ≤ t.2 ∧ t.2 ≤ M * l.length := fun t h => by
  have hr : Rises [] := List.Pairwise.nil
  have h6 : t.1.length ≤ 6 := by
    rcases putAll_rows h with ⟨s, hs, e⟩ | ⟨s, hs, e⟩
    · cases hs
    · rw [← e]; exact (hl s hs).1
  have hw := wOf_mem (putAll_rises (l := l) hr) h
  rw [putAll_wOf t.1 hr] at hw
  have b2 := sumW_bound (zs := t.1) hM (fun s hs => (hl s hs).2)
  have b0 : wOf [] t.1 = 0 := rfl
  omega

/-- The model's join of two rows, where all is good. -/
theorem l1B_joinOk {xs ys : List Int} {ps : List (List Int)} (hx : good xs = true) (hy : good ys = true) (hp : pairsOk ps xs.length ys.length = true) : l1B xs ys ps = joinOk xs ys ps := by
  simp [joinOk, l1B, hx, hy, hp]
theorem l1Z_joinAns {xs ys : List Int} {ps : List (List Int)} (h : joinOk xs ys ps = true) : l1Z xs ys ps = joinAns xs ys ps := by
  have : pick xs (side ps 0) = pick ys (side ps 1) := by simp only [joinOk, Bool.and_eq_true, decide_eq_true_eq] at h; exact h.1.2
  simp [joinAns, h, l1Z, this]

end Go.Proofs.YtlfljfmhhnoinabGreat

/- Contract of impl.goodAlike. -/
namespace Go.Proofs.YtlfljfmhhnoinabGreat
open Go.RowKit Go.Maps

end Go.Proofs.YtlfljfmhhnoinabGreat

/- Plain: what DistinctDelta tells. -/
namespace Go.Proofs.YtlfljfmhhnoinabGreat

end Go.Proofs.YtlfljfmhhnoinabGreat

/- Plain: a table's rows, scaled. -/
namespace Go.Proofs.YtlfljfmhhnoinabGreat

end Go.Proofs.YtlfljfmhhnoinabGreat

/- Plain: lists of rows within bounds; sums over keys. -/
namespace Go.Proofs.YtlfljfmhhnoinabGreat

theorem mul_in {x y B C : Int} (h1 : -B ≤ x) (h2 : x ≤ B) (h3 : -C ≤ y) (h4 : y ≤ C) : -(B * C) ≤ x * y ∧ x * y ≤ B * C := by
  have a := Int.mul_nonneg (show 0 ≤ B - x by omega) (show 0 ≤ C + y by omega)
  have b := Int.mul_nonneg (show 0 ≤ B + x by omega) (show 0 ≤ C - y by omega)
  have c := Int.mul_nonneg (show 0 ≤ B - x by omega) (show 0 ≤ C - y by omega)
  have d := Int.mul_nonneg (show 0 ≤ B + x by omega) (show 0 ≤ C + y by omega)
  simp only [Int.sub_mul, Int.add_mul, Int.mul_sub, Int.mul_add] at a b c d
  constructor <;> omega

/-- Rows that rise, without noughts, with so many cells, weights within a bound. -/
structure Lst (q N : Nat) (B : Int) (xs : List WRow) : Prop where
  len : xs.length ≤ N
  rises : Rises xs
  noZero : NoZero xs
  rows : ∀ t ∈ xs, good t.1 = true ∧ t.1.length = q
  within : ∀ t ∈ xs, -B ≤ t.2 ∧ t.2 ≤ B

section
variable {q N N' : Nat} {B B' : Int} {xs ys : List WRow}
theorem Lst.nil (q : Nat) : Lst q 0 0 [] := ⟨Nat.le_refl _, List.Pairwise.nil, fun t h => (by cases h), fun t h => (by cases h), fun t h => (by cases h)⟩
theorem Lst.mono (h : Lst q N B xs) (hN : N ≤ N') (hB : B ≤ B') : Lst q N' B' xs := ⟨Nat.le_trans h.len hN, h.rises, h.noZero, h.rows, fun t ht => by have := h.within t ht; omega⟩
theorem goodT_lst (h : goodT q xs = true) : Lst q 60 1000000 xs :=
  ⟨goodT_len60 h, goodT_rises h, goodT_noZero h, goodT_mem h, fun t ht => (goodT_six h t ht).2⟩
theorem Lst.take (h : Lst q N B xs) (k : Nat) : Lst q N B (xs.take k) :=
  ⟨by rw [List.length_take]; have := h.len; omega, h.rises.sublist (List.take_sublist _ _), fun t ht => h.noZero t (List.mem_of_mem_take ht), fun t ht => h.rows t (List.mem_of_mem_take ht), fun t ht => h.within t (List.mem_of_mem_take ht)⟩
theorem Lst.put (h : Lst q N B xs) (k : Lst q N' B' ys) (h0 : 0 ≤ B) (h0' : 0 ≤ B') : Lst q (N + N') (B + B') (putAll xs ys) where
  len := by have := putAll_len ys xs; have := h.len; have := k.len; omega
  rises := putAll_rises h.rises
  noZero := putAll_nozero h.noZero
  rows := fun t ht => by
    rcases putAll_rows ht with ⟨s, hs, e⟩ | ⟨s, hs, e⟩
    · rw [← e]; exact h.rows s hs
    · rw [← e]; exact k.rows s hs
  within := fun t ht => by
    have hw := wOf_mem (putAll_rises (l := ys) h.rises) ht
    rw [putAll_wOf t.1 h.rises, sumW_rises k.rises] at hw
    have b1 := wOf_bound (zs := t.1) h0 h.within
    have b2 := wOf_bound (zs := t.1) h0' k.within
    omega
theorem Lst.tells (h : Lst q N B xs) {f : List Int → Int} (hf : ∀ zs, good zs = true → zs.length = q → wOf xs zs = f (raised zs)) : Tells q f xs := ⟨h.rises, h.noZero, h.rows, hf⟩
end
/-- A sum over keys hangs on those alone that count. -/
theorem sum_perm {h : List Int → Int} {ks ks' : List (List Int)} (p : ks.Perm ks') : (ks.map h).sum = (ks'.map h).sum := by
  induction p with
  | nil => rfl
  | cons x _ ih => simp only [List.map_cons, List.sum_cons, ih]
  | swap x y l => simp only [List.map_cons, List.sum_cons]; omega
  | trans _ _ ih1 ih2 => rw [ih1, ih2]
theorem sum_filter (h : List Int → Int) (ks : List (List Int)) : (ks.map h).sum = ((ks.filter fun a => decide (h a ≠ 0)).map h).sum := by
  induction ks with
  | nil => rfl
  | cons a ks ih =>
    by_cases e : h a = 0
    · rw [List.filter_cons_of_neg (by simp [e]), List.map_cons, List.sum_cons, ih, e]; omega
    · rw [List.filter_cons_of_pos (by simp [e]), List.map_cons, List.sum_cons, List.map_cons, List.sum_cons, ih]
theorem sum_support {h : List Int → Int} {ks ks' : List (List Int)} (n : ks.Nodup) (n' : ks'.Nodup) (hs : ∀ a, h a ≠ 0 → (a ∈ ks ↔ a ∈ ks')) : (ks.map h).sum = (ks'.map h).sum := by
  rw [sum_filter h ks, sum_filter h ks']
  refine sum_perm ((List.perm_ext_iff_of_nodup (n.filter _) (n'.filter _)).2 fun a => ?_)
  simp only [List.mem_filter, decide_eq_true_eq]
  constructor
  · rintro ⟨h1, h2⟩; exact ⟨(hs a h2).1 h1, h2⟩
  · rintro ⟨h1, h2⟩; exact ⟨(hs a h2).2 h1, h2⟩

/-- A sum over a map's keys is one over the rows that it tells. -/
theorem sum_tells {q : Nat} {f : List Int → Int} {xs : List WRow} {ks : List (List Int)} (h : Tells q f xs) (hk : Keys q ks) (hn : ks.Nodup) (hz : ∀ zs, good zs = true → zs.length = q → raised zs ∉ ks → f (raised zs) = 0) (G : List Int → Int) :
    (ks.map fun a => f a * G a).sum = (xs.map fun t => t.2 * G (raised t.1)).sum := by
  have e : (xs.map fun t => t.2 * G (raised t.1)) = (xs.map fun t => raised t.1).map fun a => f a * G a := by
    rw [List.map_map]
    refine List.map_congr_left fun t ht => ?_
    show t.2 * G (raised t.1) = f (raised t.1) * G (raised t.1)
    rw [← h.weight t.1 (h.rows t ht).1 (h.rows t ht).2, wOf_mem h.rises ht]
  rw [e]
  refine sum_support hn ?_ fun a ha => ?_
  · unfold List.Nodup
    rw [List.pairwise_map]
    refine h.rises.imp_of_mem fun {s t} hs ht hc e => ?_
    exact cmp_ne hc (raised_inj (h.rows s hs).1 (h.rows t ht).1 e)
  · constructor
    · intro hm
      obtain ⟨zs, h1, h2, rfl⟩ := hk a hm
      have hf : f (raised zs) ≠ 0 := fun e => ha (by rw [e, Int.zero_mul])
      rw [← h.weight zs h1 h2] at hf
      exact List.mem_map.2 ⟨_, mem_wOf hf, rfl⟩
    · intro hm
      obtain ⟨t, ht, rfl⟩ := List.mem_map.1 hm
      refine Classical.byContradiction fun hno => ?_
      have := hz t.1 (h.rows t ht).1 (h.rows t ht).2 hno
      exact ha (by rw [this, Int.zero_mul])

end Go.Proofs.YtlfljfmhhnoinabGreat
