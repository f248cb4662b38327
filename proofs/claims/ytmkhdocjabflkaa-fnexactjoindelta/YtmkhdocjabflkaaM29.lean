/- Several texts of one proof, in build order: JoinQ, JoinL, L4J. -/
import Derived.Test.YtmkhdocjabflkaaM15
import Derived.Test.YtmkhdocjabflkaaM7
import Derived.Test.YtmkhdocjabflkaaM19
import Derived.Test.YtmkhdocjabflkaaM21
import Derived.Test.YtmkhdocjabflkaaM26

/- Contracts of spec.l3Left and spec.l3Join. -/
namespace Go.Proofs.Ytmkhdocjabflkaa
open Go.RowKit

set_option maxRecDepth 100000 in
set_option maxHeartbeats 2000000 in
theorem l3Left_any (p : Option Addr) (l d : Nat) (ps : List (List Int)) (na nb : Nat) (w : World) (hl : ps.length = l) (hnb : nb ≤ 6) (hok : pairsOk ps na nb = true) (hp : AtS w p ps) :
    Calls Try.prog 52 #[.slice p l d, .int .i64 nb] w fun e w' => e = .returned (.int .i64 (leftN (side ps 1) nb : Nat)) ∧ w' = w := by
  have l6 : l ≤ 6 := by have := pairsOk_len hok; omega
  have hpair := fun k hk => pairsOk_at hok k hk
  clear hok
  go_enter Try.func52, Try.ntmps52
  go_wp2
  go_loop [5, 6] (fun a i => ∃ k : Nat, k ≤ nb ∧ i = .int .i64 k ∧ a = .int .i64 (leftN (side ps 1) k : Nat)) (fun _ i => nb - (intOf i).toNat)
  case atStart => exact ⟨0, Nat.zero_le _, rfl, rfl⟩
  case round =>
    obtain ⟨k, hk, rfl, rfl⟩ := hrel
    by_cases hlt : k < nb
    · have hle := leftN_le (side ps 1) k
      have HT := Hid.mk (leftN_take (side ps 1) k)
      have HK := Hid.mk (leftN_skip (side ps 1) k)
      generalize leftN (side ps 1) k = N at *
      go_wp2
      go_loop [7, 17] (fun pd i => ∃ i' : Nat, i' ≤ l ∧ i = .int .i64 i' ∧ pd = .bool (((side ps 1).take i').contains (k : Int))) (fun _ i => l - (intOf i).toNat)
      case atStart => exact ⟨0, Nat.zero_le _, rfl, by simp⟩
      case round =>
        obtain ⟨i, hi', rfl, rfl⟩ := hrel
        by_cases hil : i < l
        · obtain ⟨pb, poff, rfl, hpc⟩ := hp.some (by omega)
          obtain ⟨q, qd, hcx, _, hat⟩ := hpc i (by omega)
          obtain ⟨hl2, _⟩ := hpair i (by omega)
          have HC := Hid.mk (contains_snoc (side ps 1) i (by rw [side_length]; omega) (k : Int))
          rw [side_getD ps 1 i (by omega)] at HC
          generalize ps.getD i [] = pr at *
          obtain ⟨b', off', rfl, hb', hc'⟩ := hat.some (by omega)
          have hp1 := hc' 1 (by omega)
          rw [hl2] at hcx
          generalize pr.getD 1 0 = y1 at *
          generalize ((side ps 1).take i).contains (k : Int) = bl at *
          clear hpc hc' hl2 hpair HT HK
          cases bl with
          | true =>
            go_wp2
            go_round
            case rel => exact ⟨i + 1, by omega, by go_num, by rw [HC.out]; rfl⟩
            case measure => simp [intOf]; omega
          | false =>
            go_wp2
            go_round
            case rel => exact ⟨i + 1, by omega, by go_num, by rw [HC.out]; simp⟩
            case measure => simp [intOf]; omega
        · obtain rfl : i = l := by omega
          rw [show (side ps 1).take i = side ps 1 by rw [List.take_of_length_le (by rw [side_length]; omega)]]
          cases hct : (side ps 1).contains (k : Int) with
          | true =>
            have HE := Hid.mk (HK.out hct)
            clear HK HT hct
            go_wp2
            go_round
            case rel => exact ⟨k + 1, by omega, by go_num, by rw [HE.out]⟩
            case measure => simp [intOf]; omega
          | false =>
            have HE := Hid.mk (HT.out hct)
            clear HK HT hct
            go_wp2
            go_round
            case rel => exact ⟨k + 1, by omega, by go_num, by rw [HE.out]; go_num⟩
            case measure => simp [intOf]; omega
    · obtain rfl : k = nb := by omega
      go_wp2
      go_ret
      exact ⟨rfl, rfl⟩

set_option maxRecDepth 100000 in
set_option maxHeartbeats 4000000 in
theorem l3Join_any (a a' p : Option Addr) (n n' l c c' d : Nat) (ts us : List WRow) (ps : List (List Int)) (p0 q0 : Nat) (w : World) (hz : ts.length = n) (hz' : us.length = n') (hl : ps.length = l) (hgT : goodT p0 ts = true) (hgU : goodT q0 us = true) (hok : pairsOk ps p0 q0 = true)
    (ha : AtM w a ts) (ha' : AtM w a' us) (hp : AtS w p ps) :
    Calls Try.prog 112 #[.slice a n c, .slice a' n' c', .slice p l d] w fun e w' => ∃ r k d, e = .returned (.slice r k d) ∧ (joinW ts us ps).length = k ∧ AtM w' r (joinW ts us ps) ∧ Below w.heap.size w w' := by
  have n60 : n ≤ 60 := by have := goodT_len60 hgT; omega
  have n60' : n' ≤ 60 := by have := goodT_len60 hgU; omega
  have q6 : p0 ≤ 6 := by have := inc_range (goodT_parts hgT).1; omega
  have q6' : q0 ≤ 6 := by have := inc_range (goodT_parts hgU).1; omega
  have HRT : Hid (∀ k, k < n → good (wat ts k).1 = true ∧ (wat ts k).1.length = p0 ∧ -1000000 ≤ (wat ts k).2 ∧ (wat ts k).2 ≤ 1000000) := fun k hk => by
    have h1 := at_of_mem (goodT_mem hgT) k (by omega)
    exact ⟨h1.1, h1.2, (at_of_mem (goodL_mem (goodL_of_goodT hgT)) k (by omega)).2.2⟩
  have HRU : Hid (∀ k, k < n' → good (wat us k).1 = true ∧ (wat us k).1.length = q0 ∧ -1000000 ≤ (wat us k).2 ∧ (wat us k).2 ≤ 1000000) := fun k hk => by
    have h1 := at_of_mem (goodT_mem hgU) k (by omega)
    exact ⟨h1.1, h1.2, (at_of_mem (goodL_mem (goodL_of_goodT hgU)) k (by omega)).2.2⟩
  have HPK : Hid (∀ k, k < n → _) := fun k hk => accJ_pack (ps := ps) hgT hgU (show k < ts.length by omega) hz'
  have HOK := Hid.mk hok
  have HW : Hid (joinW ts us ps = putAll [] (joinL (ts.take n) us ps)) := by show _ = _; rw [List.take_of_length_le (by omega)]; rfl
  clear hgT hgU hok
  go_enter Try.func112, Try.ntmps112
  go_wp2
  go_loopw [7, 16] (fun o i wr => ∃ (k : Nat) (r : Option Addr) (m d : Nat), k ≤ n ∧ i = .int .i64 k ∧ o = .slice r m d ∧ (putAll [] (joinL (ts.take k) us ps)).length = m ∧ Formed r m d ∧ AtM wr r (putAll [] (joinL (ts.take k) us ps)) ∧ Below w.heap.size w wr) (fun _ i _ => n - (intOf i).toNat)
  case atStart => exact ⟨0, none, 0, 0, Nat.zero_le _, rfl, rfl, rfl, Formed.nil, atM_nil _ _, Below.refl _ _⟩
  case round =>
    obtain ⟨k, r, m, dm, hk, rfl, rfl, hm, hFr, har, hbw⟩ := hrel
    by_cases hlt : k < n
    · obtain ⟨b, off, rfl, hc⟩ := (ha.below hbw).some (by omega)
      obtain ⟨q, dd, hcx, hwx, hm1, hnil, hat⟩ := hc k (by omega)
      have hro := HRT.out k hlt
      obtain ⟨AC, a0, aS, aN, aA, aB⟩ := HPK.out k hlt
      rw [← a0] at hm har
      have HAS := Hid.mk aS
      have HAN := Hid.mk aN
      have HAA := Hid.mk aA
      have HAB := Hid.mk aB
      clear aS aN aA aB a0
      have hki : (k : Int) < (n : Int) := by omega
      generalize wat ts k = Y at *
      obtain ⟨xz, x⟩ := Y
      simp only at hcx hwx hat hm1 hro
      obtain ⟨m2, hmm⟩ : ∃ m2, xz.length = m2 := ⟨_, rfl⟩
      rw [hmm] at hcx hm1 hro
      have HM := Hid.mk hmm
      have HRO := Hid.mk hro
      have l6 : m2 ≤ 6 := by omega
      obtain ⟨V, hV⟩ : ∃ V, V = wr.alloc (.cells #[.slice q m2 dd, .int .i64 x] 90) := ⟨_, rfl⟩
      obtain ⟨S, hS⟩ : ∃ S, S = wr.heap.size := ⟨_, rfl⟩
      have hbV : Below wr.heap.size wr V := by rw [hV]; exact (Below.refl _ _).alloc (Nat.le_refl _) _
      have v0 : V.cell? ⟨S, 0, none⟩ = some (.slice q m2 dd) := by rw [hV, hS]; exact pair0 wr _ _ _
      have v1 : V.cell? ⟨S, 1, none⟩ = some (.int .i64 x) := by rw [hV, hS]; exact pair1 wr _ _ _
      have HB1 := Hid.mk (hbw.trans (hbV.mono hbw.size))
      have HAT := Hid.mk (hat.below hbV)
      have HAR := Hid.mk (har.below hbV)
      clear hmm hc hat har hro hbV
      go_wp2
      rw [← hV, ← hS]
      clear hV hcx hwx hS
      go_loopw [7, 22] (fun o i ws => ∃ (j : Nat) (r : Option Addr) (m d : Nat), j ≤ n' ∧ i = .int .i64 j ∧ o = .slice r m d ∧ (AC j).length = m ∧ Formed r m d ∧ AtM ws r (AC j) ∧ Below V.heap.size V ws) (fun _ i _ => n' - (intOf i).toNat)
      case atStart => exact ⟨0, r, m, dm, Nat.zero_le _, rfl, rfl, hm, hFr, HAR.out, Below.refl _ _⟩
      case round =>
        clear hm hFr HAR hbw
        obtain ⟨j, r, m, dm, hj, rfl, rfl, hm, hFr, har, hbs⟩ := hrel
        have BS := HB1.out.trans (hbs.mono HB1.out.size)
        by_cases hjt : j < n'
        · obtain ⟨b2, off2, rfl, hc2⟩ := (ha'.below BS).some (by omega)
          obtain ⟨q2, dd2, hcx2, hwx2, hm12, hnil2, hat2⟩ := hc2 j (by omega)
          have hru := HRU.out j hjt
          have HS1 := Hid.mk (fun v => HAS.out j v hjt)
          have HN1 := Hid.mk (HAN.out j hjt)
          have HLB := Hid.mk (HAB.out j)
          have hm36 : m ≤ 3600 := by have := HLB.out.1; omega
          have hji : (j : Int) < (n' : Int) := by omega
          generalize wat us j = Y2 at *
          obtain ⟨yz, y⟩ := Y2
          simp only at hcx2 hwx2 hat2 hm12 hru
          obtain ⟨m3, hmm⟩ : ∃ m3, yz.length = m3 := ⟨_, rfl⟩
          rw [hmm] at hcx2 hm12 hru
          have HM2 := Hid.mk hmm
          have l62 : m3 ≤ 6 := by omega
          obtain ⟨U, hU⟩ : ∃ U, U = wr.alloc (.cells #[.slice q2 m3 dd2, .int .i64 y] 90) := ⟨_, rfl⟩
          have hbU : Below wr.heap.size wr U := by rw [hU]; exact (Below.refl _ _).alloc (Nat.le_refl _) _
          have u0 : U.cell? ⟨wr.heap.size, 0, none⟩ = some (.slice q2 m3 dd2) := by rw [hU]; exact pair0 wr _ _ _
          have u1 : U.cell? ⟨wr.heap.size, 1, none⟩ = some (.int .i64 y) := by rw [hU]; exact pair1 wr _ _ _
          have hbUL : Below wr.heap.size wr (wr.alloc (.cells #[.slice q2 m3 dd2, .int .i64 y] 90)) := (Below.refl _ _).alloc (Nat.le_refl _) _
          have x0 := cell_later hbUL (cell_later hbs v0)
          have x1 := cell_later hbUL (cell_later hbs v1)
          have BU := BS.trans (hbU.mono BS.size)
          have YU := hbs.trans (hbU.mono hbs.size)
          have HATX := Hid.mk (HAT.out.below YU)
          have HATY := Hid.mk (hat2.below hbU)
          have HAR := Hid.mk (har.below hbU)
          have HP := Hid.mk (hp.below BU)
          have hokk : pairsOk ps m2 m3 = true := by rw [HRO.out.2.1, hru.2.1]; exact HOK.out
          have HKK := Hid.mk hokk
          have HLJ : Hid (l1B xz yz ps = joinOk xz yz ps) := l1B_joinOk HRO.out.1 hru.1 (by rw [HM.out, HM2.out]; exact hokk)
          have hwr := prod_wrap HRO.out.2.2.1 HRO.out.2.2.2 hru.2.2.1 hru.2.2.2
          have hwr2 := prod_wrap64 HRO.out.2.2.1 HRO.out.2.2.2 hru.2.2.1 hru.2.2.2
          have HPI := Hid.mk (prod_in HRO.out.2.2.1 HRO.out.2.2.2 hru.2.2.1 hru.2.2.2)
          clear hmm hc2 hat2 har hokk hru
          go_wp2_with fail
          rw [← hU] at x0 x1 ⊢
          clear hU hcx2 hwx2 hbUL
          refine (l1Join_any _ _ _ _ _ _ _ _ _ xz yz ps _ HM.out HM2.out hl l6 l62 hnil HATX.out HATY.out HP.out HKK.out).mono ?_
          rintro e w5 ⟨r5, m5, d5, rfl, hm5, ho5, hb5⟩
          rw [HLJ.out]
          have x0 := cell_later hb5 x0
          have x1 := cell_later hb5 x1
          have u0 := cell_later hb5 u0
          have u1 := cell_later hb5 u1
          have YU := YU.trans (hb5.mono YU.size)
          have HAR := Hid.mk (HAR.out.below hb5)
          obtain ⟨w6, hw6⟩ : ∃ w6, w6 = w5.alloc (.cells #[.slice r5 m5 d5] 88) := ⟨_, rfl⟩
          have hbL : Below w5.heap.size w5 (w5.alloc (.cells #[.slice r5 m5 d5] 88)) := (Below.refl _ _).alloc (Nat.le_refl _) _
          have hb6 : Below w5.heap.size w5 w6 := by rw [hw6]; exact hbL
          have x0 := cell_later hbL x0
          have x1 := cell_later hbL x1
          have u0 := cell_later hbL u0
          have u1 := cell_later hbL u1
          have YU := YU.trans (hb6.mono YU.size)
          have HAR := Hid.mk (HAR.out.below hb6)
          cases hok : joinOk xz yz ps with
          | true =>
            have hjs := HS1.out (joinAns xz yz ps, x * y) (if_pos hok)
            have HJS := Hid.mk hjs
            have HJA := Hid.mk (l1Z_joinAns hok)
            rw [HJA.out] at hm5 ho5
            have HO5 := Hid.mk ho5
            have hm56 : m5 ≤ 6 := by
              have hj6 : (joinZ xz yz (side ps 1)).length ≤ 6 := by simp only [joinOk, Bool.and_eq_true, decide_eq_true_eq] at hok; exact hok.2
              rw [← hm5, joinAns, if_pos hok]; exact hj6
            clear hjs hok ho5 hb5 hbs hbU BU BS
            go_wp2_with fail
            rw [← hw6]
            refine (l2Put_any _ _ _ _ _ _ (AC j) (joinAns xz yz ps) (x * y) _ hm hm5 (by omega) hFr hm56 (owns_formed HO5.out).2.1 (fun i hi => HLB.out.2 i (by omega)) (by have := HPI.out; omega) (by have := HPI.out; omega) HAR.out ((At.owned HO5.out).below hb6)).mono ?_
            rintro e w7 ⟨r7, m7, d7, rfl, hm7, hF7, ha7, hb7⟩
            rw [← HJS.out] at hm7 ha7
            have HM7 := Hid.mk hm7
            have HF7 := Hid.mk hF7
            have HA7 := Hid.mk ha7
            have HB7 := Hid.mk (YU.trans (hb7.mono YU.size))
            clear hm7 hF7 ha7 hb7 hm hFr HAR YU hb6 hbL hw6
            go_wp2
            go_roundw
            case rel => exact ⟨j + 1, _, _, _, by omega, by go_num, rfl, HM7.out, HF7.out, HA7.out, HB7.out⟩
            case measure => simp [intOf]; omega
          | false =>
            have HE : Hid (AC (j + 1) = AC j) := HN1.out (if_neg (by simp [hok]))
            have HM7 : Hid ((AC (j + 1)).length = m) := by show _ = _; rw [HE.out]; exact hm
            have HA7 : Hid (AtM w6 r (AC (j + 1))) := by show AtM _ _ _; rw [HE.out]; exact HAR.out
            have HB7 := Hid.mk YU
            clear hok ho5 hb5 hbs hbU BU BS hm HAR YU hb6 hbL
            go_wp2
            go_roundw
            case rel => exact ⟨j + 1, _, _, _, by omega, by go_num, rfl, HM7.out, hFr, by rw [← hw6]; exact HA7.out, by rw [← hw6]; exact HB7.out⟩
            case measure => simp [intOf]; omega
        · obtain rfl : j = n' := by omega
          rw [HAA.out] at hm har
          have HMM := Hid.mk hm
          have HARR := Hid.mk har
          have HBS := Hid.mk BS
          clear hm har BS hbs
          go_wp2
          go_roundw
          case rel => exact ⟨k + 1, _, _, _, by omega, by go_num, rfl, HMM.out, hFr, HARR.out, HBS.out⟩
          case measure => simp [intOf]; omega
    · obtain rfl : k = n := by omega
      rw [← HW.out] at hm har
      go_wp2
      go_ret
      exact ⟨_, _, _, rfl, hm, har, hbw⟩

end Go.Proofs.Ytmkhdocjabflkaa

/- Contract of spec.l3Join over lists within whatever bounds. -/
namespace Go.Proofs.Ytmkhdocjabflkaa
open Go.RowKit

theorem wrapL {v : Int} (h : -4000000000000000000 ≤ v ∧ v ≤ 4000000000000000000) : IntKind.i64.wrap v = v := IntWalk.i64_in _ (by omega)
theorem wrapL64 {v : Int} (h : -4000000000000000000 ≤ v ∧ v ≤ 4000000000000000000) : Go.RowKit.wrap64 v = v := by unfold Go.RowKit.wrap64; omega

theorem accJ_packL {p q N N' : Nat} {B B' : Int} {ts us : List WRow} {ps : List (List Int)} {k n' : Nat} (h : Lst p N B ts) (g : Lst q N' B' us) (h0 : 0 ≤ B) (h0' : 0 ≤ B') (hNN : N * N' ≤ 1000000) (hBB : B * B' * (N * N' : Nat) ≤ 4000000000000000000) (hk : k < ts.length) (hn' : us.length = n') :
    ∃ AC : Nat → List WRow, AC 0 = putAll [] (joinL (ts.take k) us ps) ∧ (∀ j v, j < n' → joinG ps (wat ts k) (wat us j) = some v → AC (j + 1) = putW (AC j) v.1 v.2) ∧ (∀ j, j < n' → joinG ps (wat ts k) (wat us j) = none → AC (j + 1) = AC j) ∧
      AC n' = putAll [] (joinL (ts.take (k + 1)) us ps) ∧ ∀ j, (AC j).length ≤ 1000000 ∧ ∀ i, i < (AC j).length → (wat (AC j) i).1.length ≤ 6 ∧ -4000000000000000000 ≤ (wat (AC j) i).2 ∧ (wat (AC j) i).2 ≤ 4000000000000000000 := by
  refine ⟨fun j => putAll [] (accJ ts us ps k j), by simp only [accJ_zero], fun j v hj hv => accJ_some (by omega) hv, fun j hj hv => by simp only [accJ_none (show j < us.length by omega) hv], by subst hn'; simp only [accJ_all hk], fun j => ?_⟩
  have hBp := Int.mul_nonneg h0 h0'
  have hl : (accJ ts us ps k j).length ≤ N * N' := by
    unfold accJ
    rw [List.length_append]
    have a := joinL_len (ts.take k) us ps
    have b := List.length_filterMap_le (joinG ps (wat ts k)) (us.take j)
    rw [List.length_take] at a b
    have c : (min k ts.length + 1) * us.length ≤ N * N' := Nat.mul_le_mul (by have := h.len; omega) g.len
    rw [Nat.succ_mul] at c
    omega
  have hrow : ∀ t ∈ accJ ts us ps k j, t.1.length ≤ 6 ∧ -(B * B') ≤ t.2 ∧ t.2 ≤ B * B' := fun t ht => by
    have : ∃ a ∈ ts, ∃ b ∈ us, joinG ps a b = some t := by
      rcases List.mem_append.1 ht with h1 | h1
      · obtain ⟨a, ha, b, hb, hg⟩ := joinL_mem h1
        exact ⟨a, List.mem_of_mem_take ha, b, hb, hg⟩
      · obtain ⟨b, hb, hg⟩ := List.mem_filterMap.1 h1
        exact ⟨_, wat_mem hk, b, List.mem_of_mem_take hb, hg⟩
    obtain ⟨a, ha, b, hb, hg⟩ := this
    obtain ⟨h1, rfl⟩ := joinG_some hg
    have ga := h.within a ha
    have gb := g.within b hb
    refine ⟨?_, mul_in ga.1 ga.2 gb.1 gb.2⟩
    simp only [joinOk, Bool.and_eq_true, decide_eq_true_eq] at h1
    exact h1.2
  refine ⟨?_, fun i hi => ?_⟩
  · have := putAll_len (accJ ts us ps k j) []
    simp only [List.length_nil] at this
    show (putAll [] (accJ ts us ps k j)).length ≤ 1000000
    omega
  · have b3 : B * B' * ((accJ ts us ps k j).length : Int) ≤ B * B' * ((N * N' : Nat) : Int) := Int.mul_le_mul_of_nonneg_left (by exact_mod_cast hl) hBp
    have := at_of_mem (putAll_in' (M := B * B') hBp hrow) i hi
    refine ⟨this.1, ?_, ?_⟩ <;> (dsimp only; omega)

set_option maxRecDepth 100000 in
set_option maxHeartbeats 4000000 in
theorem l3Join_gen (a a' p : Option Addr) (n n' l c c' d : Nat) (ts us : List WRow) (ps : List (List Int)) (p0 q0 N N' : Nat) (B B' : Int) (w : World) (hz : ts.length = n) (hz' : us.length = n') (hl : ps.length = l) (hgT : Lst p0 N B ts) (hgU : Lst q0 N' B' us) (q6 : p0 ≤ 6) (q6' : q0 ≤ 6) (h0 : 0 ≤ B) (h0' : 0 ≤ B') (hNs : N ≤ 1000000) (hNs' : N' ≤ 1000000) (hNN : N * N' ≤ 1000000) (hBB : B * B' * (N * N' : Nat) ≤ 4000000000000000000) (hBs : B * B' ≤ 4000000000000000000) (hok : pairsOk ps p0 q0 = true)
    (ha : AtM w a ts) (ha' : AtM w a' us) (hp : AtS w p ps) :
    Calls Try.prog 112 #[.slice a n c, .slice a' n' c', .slice p l d] w fun e w' => ∃ r k d, e = .returned (.slice r k d) ∧ (joinW ts us ps).length = k ∧ Formed r k d ∧ AtM w' r (joinW ts us ps) ∧ Below w.heap.size w w' := by
  have n60 : n ≤ 1000000 := by have := hgT.len; omega
  have n60' : n' ≤ 1000000 := by have := hgU.len; omega
  have HRT : Hid (∀ k, k < n → good (wat ts k).1 = true ∧ (wat ts k).1.length = p0 ∧ -B ≤ (wat ts k).2 ∧ (wat ts k).2 ≤ B) := fun k hk => by
    have h1 := at_of_mem hgT.rows k (by omega)
    exact ⟨h1.1, h1.2, at_of_mem hgT.within k (by omega)⟩
  have HRU : Hid (∀ k, k < n' → good (wat us k).1 = true ∧ (wat us k).1.length = q0 ∧ -B' ≤ (wat us k).2 ∧ (wat us k).2 ≤ B') := fun k hk => by
    have h1 := at_of_mem hgU.rows k (by omega)
    exact ⟨h1.1, h1.2, at_of_mem hgU.within k (by omega)⟩
  have HPB : Hid (∀ x y : Int, -B ≤ x → x ≤ B → -B' ≤ y → y ≤ B' → -4000000000000000000 ≤ x * y ∧ x * y ≤ 4000000000000000000) := fun x y h1 h2 h3 h4 => by
    have := mul_in h1 h2 h3 h4
    omega
  have HPK : Hid (∀ k, k < n → _) := fun k hk => accJ_packL (ps := ps) hgT hgU h0 h0' hNN hBB (show k < ts.length by omega) hz'
  have HOK := Hid.mk hok
  have HW : Hid (joinW ts us ps = putAll [] (joinL (ts.take n) us ps)) := by show _ = _; rw [List.take_of_length_le (by omega)]; rfl
  clear hgT hgU hok hNN hBB hBs hNs hNs'
  go_enter Try.func112, Try.ntmps112
  go_wp2
  go_loopw [7, 16] (fun o i wr => ∃ (k : Nat) (r : Option Addr) (m d : Nat), k ≤ n ∧ i = .int .i64 k ∧ o = .slice r m d ∧ (putAll [] (joinL (ts.take k) us ps)).length = m ∧ Formed r m d ∧ AtM wr r (putAll [] (joinL (ts.take k) us ps)) ∧ Below w.heap.size w wr) (fun _ i _ => n - (intOf i).toNat)
  case atStart => exact ⟨0, none, 0, 0, Nat.zero_le _, rfl, rfl, rfl, Formed.nil, atM_nil _ _, Below.refl _ _⟩
  case round =>
    obtain ⟨k, r, m, dm, hk, rfl, rfl, hm, hFr, har, hbw⟩ := hrel
    by_cases hlt : k < n
    · obtain ⟨b, off, rfl, hc⟩ := (ha.below hbw).some (by omega)
      obtain ⟨q, dd, hcx, hwx, hm1, hnil, hat⟩ := hc k (by omega)
      have hro := HRT.out k hlt
      obtain ⟨AC, a0, aS, aN, aA, aB⟩ := HPK.out k hlt
      rw [← a0] at hm har
      have HAS := Hid.mk aS
      have HAN := Hid.mk aN
      have HAA := Hid.mk aA
      have HAB := Hid.mk aB
      clear aS aN aA aB a0
      have hki : (k : Int) < (n : Int) := by omega
      generalize wat ts k = Y at *
      obtain ⟨xz, x⟩ := Y
      simp only at hcx hwx hat hm1 hro
      obtain ⟨m2, hmm⟩ : ∃ m2, xz.length = m2 := ⟨_, rfl⟩
      rw [hmm] at hcx hm1 hro
      have HM := Hid.mk hmm
      have HRO := Hid.mk hro
      have l6 : m2 ≤ 6 := by omega
      obtain ⟨V, hV⟩ : ∃ V, V = wr.alloc (.cells #[.slice q m2 dd, .int .i64 x] 90) := ⟨_, rfl⟩
      obtain ⟨S, hS⟩ : ∃ S, S = wr.heap.size := ⟨_, rfl⟩
      have hbV : Below wr.heap.size wr V := by rw [hV]; exact (Below.refl _ _).alloc (Nat.le_refl _) _
      have v0 : V.cell? ⟨S, 0, none⟩ = some (.slice q m2 dd) := by rw [hV, hS]; exact pair0 wr _ _ _
      have v1 : V.cell? ⟨S, 1, none⟩ = some (.int .i64 x) := by rw [hV, hS]; exact pair1 wr _ _ _
      have HB1 := Hid.mk (hbw.trans (hbV.mono hbw.size))
      have HAT := Hid.mk (hat.below hbV)
      have HAR := Hid.mk (har.below hbV)
      clear hmm hc hat har hro hbV
      go_wp2
      rw [← hV, ← hS]
      clear hV hcx hwx hS
      go_loopw [7, 22] (fun o i ws => ∃ (j : Nat) (r : Option Addr) (m d : Nat), j ≤ n' ∧ i = .int .i64 j ∧ o = .slice r m d ∧ (AC j).length = m ∧ Formed r m d ∧ AtM ws r (AC j) ∧ Below V.heap.size V ws) (fun _ i _ => n' - (intOf i).toNat)
      case atStart => exact ⟨0, r, m, dm, Nat.zero_le _, rfl, rfl, hm, hFr, HAR.out, Below.refl _ _⟩
      case round =>
        clear hm hFr HAR hbw
        obtain ⟨j, r, m, dm, hj, rfl, rfl, hm, hFr, har, hbs⟩ := hrel
        have BS := HB1.out.trans (hbs.mono HB1.out.size)
        by_cases hjt : j < n'
        · obtain ⟨b2, off2, rfl, hc2⟩ := (ha'.below BS).some (by omega)
          obtain ⟨q2, dd2, hcx2, hwx2, hm12, hnil2, hat2⟩ := hc2 j (by omega)
          have hru := HRU.out j hjt
          have HS1 := Hid.mk (fun v => HAS.out j v hjt)
          have HN1 := Hid.mk (HAN.out j hjt)
          have HLB := Hid.mk (HAB.out j)
          have hm36 : m ≤ 1000000 := by have := HLB.out.1; omega
          have hji : (j : Int) < (n' : Int) := by omega
          generalize wat us j = Y2 at *
          obtain ⟨yz, y⟩ := Y2
          simp only at hcx2 hwx2 hat2 hm12 hru
          obtain ⟨m3, hmm⟩ : ∃ m3, yz.length = m3 := ⟨_, rfl⟩
          rw [hmm] at hcx2 hm12 hru
          have HM2 := Hid.mk hmm
          have l62 : m3 ≤ 6 := by omega
          obtain ⟨U, hU⟩ : ∃ U, U = wr.alloc (.cells #[.slice q2 m3 dd2, .int .i64 y] 90) := ⟨_, rfl⟩
          have hbU : Below wr.heap.size wr U := by rw [hU]; exact (Below.refl _ _).alloc (Nat.le_refl _) _
          have u0 : U.cell? ⟨wr.heap.size, 0, none⟩ = some (.slice q2 m3 dd2) := by rw [hU]; exact pair0 wr _ _ _
          have u1 : U.cell? ⟨wr.heap.size, 1, none⟩ = some (.int .i64 y) := by rw [hU]; exact pair1 wr _ _ _
          have hbUL : Below wr.heap.size wr (wr.alloc (.cells #[.slice q2 m3 dd2, .int .i64 y] 90)) := (Below.refl _ _).alloc (Nat.le_refl _) _
          have x0 := cell_later hbUL (cell_later hbs v0)
          have x1 := cell_later hbUL (cell_later hbs v1)
          have BU := BS.trans (hbU.mono BS.size)
          have YU := hbs.trans (hbU.mono hbs.size)
          have HATX := Hid.mk (HAT.out.below YU)
          have HATY := Hid.mk (hat2.below hbU)
          have HAR := Hid.mk (har.below hbU)
          have HP := Hid.mk (hp.below BU)
          have hokk : pairsOk ps m2 m3 = true := by rw [HRO.out.2.1, hru.2.1]; exact HOK.out
          have HKK := Hid.mk hokk
          have HLJ : Hid (l1B xz yz ps = joinOk xz yz ps) := l1B_joinOk HRO.out.1 hru.1 (by rw [HM.out, HM2.out]; exact hokk)
          have hwr := wrapL (HPB.out _ _ HRO.out.2.2.1 HRO.out.2.2.2 hru.2.2.1 hru.2.2.2)
          have hwr2 := wrapL64 (HPB.out _ _ HRO.out.2.2.1 HRO.out.2.2.2 hru.2.2.1 hru.2.2.2)
          have HPI := Hid.mk (HPB.out _ _ HRO.out.2.2.1 HRO.out.2.2.2 hru.2.2.1 hru.2.2.2)
          clear hmm hc2 hat2 har hokk hru
          go_wp2_with fail
          rw [← hU] at x0 x1 ⊢
          clear hU hcx2 hwx2 hbUL
          refine (l1Join_any _ _ _ _ _ _ _ _ _ xz yz ps _ HM.out HM2.out hl l6 l62 hnil HATX.out HATY.out HP.out HKK.out).mono ?_
          rintro e w5 ⟨r5, m5, d5, rfl, hm5, ho5, hb5⟩
          rw [HLJ.out]
          have x0 := cell_later hb5 x0
          have x1 := cell_later hb5 x1
          have u0 := cell_later hb5 u0
          have u1 := cell_later hb5 u1
          have YU := YU.trans (hb5.mono YU.size)
          have HAR := Hid.mk (HAR.out.below hb5)
          obtain ⟨w6, hw6⟩ : ∃ w6, w6 = w5.alloc (.cells #[.slice r5 m5 d5] 88) := ⟨_, rfl⟩
          have hbL : Below w5.heap.size w5 (w5.alloc (.cells #[.slice r5 m5 d5] 88)) := (Below.refl _ _).alloc (Nat.le_refl _) _
          have hb6 : Below w5.heap.size w5 w6 := by rw [hw6]; exact hbL
          have x0 := cell_later hbL x0
          have x1 := cell_later hbL x1
          have u0 := cell_later hbL u0
          have u1 := cell_later hbL u1
          have YU := YU.trans (hb6.mono YU.size)
          have HAR := Hid.mk (HAR.out.below hb6)
          cases hok : joinOk xz yz ps with
          | true =>
            have hjs := HS1.out (joinAns xz yz ps, x * y) (if_pos hok)
            have HJS := Hid.mk hjs
            have HJA := Hid.mk (l1Z_joinAns hok)
            rw [HJA.out] at hm5 ho5
            have HO5 := Hid.mk ho5
            have hm56 : m5 ≤ 6 := by
              have hj6 : (joinZ xz yz (side ps 1)).length ≤ 6 := by simp only [joinOk, Bool.and_eq_true, decide_eq_true_eq] at hok; exact hok.2
              rw [← hm5, joinAns, if_pos hok]; exact hj6
            clear hjs hok ho5 hb5 hbs hbU BU BS
            go_wp2_with fail
            rw [← hw6]
            refine (l2Put_any _ _ _ _ _ _ (AC j) (joinAns xz yz ps) (x * y) _ hm hm5 (by omega) hFr hm56 (owns_formed HO5.out).2.1 (fun i hi => HLB.out.2 i (by omega)) (by have := HPI.out; omega) (by have := HPI.out; omega) HAR.out ((At.owned HO5.out).below hb6)).mono ?_
            rintro e w7 ⟨r7, m7, d7, rfl, hm7, hF7, ha7, hb7⟩
            rw [← HJS.out] at hm7 ha7
            have HM7 := Hid.mk hm7
            have HF7 := Hid.mk hF7
            have HA7 := Hid.mk ha7
            have HB7 := Hid.mk (YU.trans (hb7.mono YU.size))
            clear hm7 hF7 ha7 hb7 hm hFr HAR YU hb6 hbL hw6
            go_wp2
            go_roundw
            case rel => exact ⟨j + 1, _, _, _, by omega, by go_num, rfl, HM7.out, HF7.out, HA7.out, HB7.out⟩
            case measure => simp [intOf]; omega
          | false =>
            have HE : Hid (AC (j + 1) = AC j) := HN1.out (if_neg (by simp [hok]))
            have HM7 : Hid ((AC (j + 1)).length = m) := by show _ = _; rw [HE.out]; exact hm
            have HA7 : Hid (AtM w6 r (AC (j + 1))) := by show AtM _ _ _; rw [HE.out]; exact HAR.out
            have HB7 := Hid.mk YU
            clear hok ho5 hb5 hbs hbU BU BS hm HAR YU hb6 hbL
            go_wp2
            go_roundw
            case rel => exact ⟨j + 1, _, _, _, by omega, by go_num, rfl, HM7.out, hFr, by rw [← hw6]; exact HA7.out, by rw [← hw6]; exact HB7.out⟩
            case measure => simp [intOf]; omega
        · obtain rfl : j = n' := by omega
          rw [HAA.out] at hm har
          have HMM := Hid.mk hm
          have HARR := Hid.mk har
          have HBS := Hid.mk BS
          clear hm har BS hbs
          go_wp2
          go_roundw
          case rel => exact ⟨k + 1, _, _, _, by omega, by go_num, rfl, HMM.out, hFr, HARR.out, HBS.out⟩
          case measure => simp [intOf]; omega
    · obtain rfl : k = n := by omega
      rw [← HW.out] at hm har
      go_wp2
      go_ret
      exact ⟨_, _, _, rfl, hm, hFr, har, hbw⟩

end Go.Proofs.Ytmkhdocjabflkaa

/- Contract of spec.l4Join. -/
namespace Go.Proofs.Ytmkhdocjabflkaa
open Go.RowKit

theorem Lst.big {q N : Nat} {B : Int} {xs : List WRow} (h : Lst q N B xs) (h6 : q ≤ 6) (hB : B ≤ 4000000000000000000) : ∀ t ∈ xs, t.1.length ≤ 6 ∧ -4000000000000000000 ≤ t.2 ∧ t.2 ≤ 4000000000000000000 := fun t ht => by
  have h1 := (h.rows t ht).2
  have h2 := h.within t ht
  refine ⟨by omega, by omega, by omega⟩

set_option maxRecDepth 100000 in
set_option maxHeartbeats 4000000 in
theorem l4Join_any (a1 a2 a3 a4 p : Option Addr) (n1 n2 n3 n4 l c1 c2 c3 c4 d : Nat) (xs ys dxs dys : List WRow) (ps : List (List Int)) (q q' M D : Nat) (B C : Int) (w : World) (hz1 : xs.length = n1) (hz2 : ys.length = n2) (hz3 : dxs.length = n3) (hz4 : dys.length = n4) (hl : ps.length = l)
    (lx : Lst q M B xs) (ly : Lst q' M B ys) (ldx : Lst q D C dxs) (ldy : Lst q' D C dys) (h6 : q ≤ 6) (h6' : q' ≤ 6) (hok : pairsOk ps q q' = true) (hjc : joinC q q' ps ≤ 6)
    (hN : D * M + M * D + D * D ≤ 500000) (hM : M ≤ 1000000) (hD : D ≤ 1000000) (hB0 : 0 ≤ B) (hC0 : 0 ≤ C) (h1 : C * B * (D * M : Nat) ≤ 1000000000000000000) (h2 : B * C * (M * D : Nat) ≤ 1000000000000000000) (h3 : C * C * (D * D : Nat) ≤ 1000000000000000000) (h4 : C * B ≤ 4000000000000000000) (h5 : B * C ≤ 4000000000000000000) (h7 : C * C ≤ 4000000000000000000)
    (ha1 : AtM w a1 xs) (ha2 : AtM w a2 ys) (ha3 : AtM w a3 dxs) (ha4 : AtM w a4 dys) (hp : AtS w p ps) :
    Calls Try.prog 54 #[.slice a1 n1 c1, .slice a2 n2 c2, .slice a3 n3 c3, .slice a4 n4 c4, .slice p l d] w fun e w' => ∃ r k d, e = .returned (.slice r k d) ∧ (jdW xs ys dxs dys ps).length = k ∧ Formed r k d ∧ AtM w' r (jdW xs ys dxs dys ps) ∧ Below w.heap.size w w' := by
  have L1 := Hid.mk (lst_join (ps := ps) ldx ly hC0 hB0)
  have L2 := Hid.mk (lst_join (ps := ps) lx ldy hB0 hC0)
  have L3 := Hid.mk (lst_join (ps := ps) ldx ldy hC0 hC0)
  have m1 := Int.mul_nonneg (Int.mul_nonneg hC0 hB0) (show (0 : Int) ≤ (D * M : Nat) from Int.natCast_nonneg _)
  have m2 := Int.mul_nonneg (Int.mul_nonneg hB0 hC0) (show (0 : Int) ≤ (M * D : Nat) from Int.natCast_nonneg _)
  have m3 := Int.mul_nonneg (Int.mul_nonneg hC0 hC0) (show (0 : Int) ≤ (D * D : Nat) from Int.natCast_nonneg _)
  go_enter Try.func54, Try.ntmps54
  go_wp2_with fail
  refine (l3Join_gen _ _ _ _ _ _ _ _ _ dxs ys ps q q' D M C B _ hz3 hz2 hl ldx ly h6 h6' hC0 hB0 hD hM (by omega) (by omega) h4 hok ha3 ha2 hp).mono ?_
  rintro e w1 ⟨r1, k1, e1, rfl, hk1, hF1, hr1, hb1⟩
  replace ha1 := ha1.below hb1
  replace ha3 := ha3.below hb1
  replace ha4 := ha4.below hb1
  replace hp := hp.below hb1
  have B1 := hb1
  clear ha2 hb1
  go_wp2_with fail
  refine (l3Join_gen _ _ _ _ _ _ _ _ _ xs dys ps q q' M D B C _ hz1 hz4 hl lx ldy h6 h6' hB0 hC0 hM hD (by omega) (by omega) h5 hok ha1 ha4 hp).mono ?_
  rintro e w2 ⟨r2, k2, e2, rfl, hk2, hF2, hr2, hb2⟩
  replace ha3 := ha3.below hb2
  replace ha4 := ha4.below hb2
  replace hp := hp.below hb2
  replace hr1 := hr1.below hb2
  have B2 := B1.trans (hb2.mono B1.size)
  clear ha1 hb2
  have b1 : k1 ≤ D * M := by have := L1.out.len; omega
  have b2 : k2 ≤ M * D := by have := L2.out.len; omega
  go_wp2_with fail
  refine (l2Add_gen _ _ _ _ _ _ (joinW dxs ys ps) (joinW xs dys ps) _ hk1 hk2 (by omega) (by omega) hF1 (fun k hk => (L1.out.put (L2.out.take k) m1 m2).big hjc (by omega)) (L2.out.big hjc (by omega)) hr1 hr2).mono ?_
  rintro e w3 ⟨r3, k3, e3, rfl, hk3, hF3, hr3, hb3⟩
  replace ha3 := ha3.below hb3
  replace ha4 := ha4.below hb3
  replace hp := hp.below hb3
  have B3 := B2.trans (hb3.mono B2.size)
  have L12 := Hid.mk (L1.out.put L2.out m1 m2)
  clear hr1 hr2 hb3 hk1 hk2
  go_wp2_with fail
  refine (l3Join_gen _ _ _ _ _ _ _ _ _ dxs dys ps q q' D D C C _ hz3 hz4 hl ldx ldy h6 h6' hC0 hC0 hD hD (by omega) (by omega) h7 hok ha3 ha4 hp).mono ?_
  rintro e w4 ⟨r4, k4, e4, rfl, hk4, hF4, hr4, hb4⟩
  replace hr3 := hr3.below hb4
  have B4 := B3.trans (hb4.mono B3.size)
  clear ha3 ha4 hp hb4
  have b3 : k3 ≤ D * M + M * D := by have := L12.out.len; omega
  have b4 : k4 ≤ D * D := by have := L3.out.len; omega
  go_wp2_with fail
  refine (l2Add_gen _ _ _ _ _ _ (putAll (joinW dxs ys ps) (joinW xs dys ps)) (joinW dxs dys ps) _ hk3 hk4 (by omega) (by omega) hF3 (fun k hk => (L12.out.put (L3.out.take k) (by omega) m3).big hjc (by omega)) (L3.out.big hjc (by omega)) hr3 hr4).mono ?_
  rintro e w5 ⟨r5, k5, e5, rfl, hk5, hF5, hr5, hb5⟩
  have B5 := B4.trans (hb5.mono B4.size)
  have HK := Hid.mk hk5
  have HR := Hid.mk hr5
  clear hr3 hr4 hk5 hr5 hk3 hk4
  go_wp2
  go_ret
  exact ⟨_, _, _, rfl, HK.out, hF5, HR.out, B5⟩

end Go.Proofs.Ytmkhdocjabflkaa
