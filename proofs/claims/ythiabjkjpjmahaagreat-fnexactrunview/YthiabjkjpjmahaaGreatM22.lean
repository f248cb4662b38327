/- Several texts of one proof, in build order: JoinQ, CkS, MkL, IntsR. -/
import Derived.Test.YthiabjkjpjmahaaGreatM15
import Derived.Test.YthiabjkjpjmahaaGreatM8
import Derived.Test.YthiabjkjpjmahaaGreatM21
import Derived.Test.YthiabjkjpjmahaaGreatM14
import Derived.Test.YthiabjkjpjmahaaGreatM3

/- Contracts of spec.l3Left and spec.l3Join. -/
namespace Go.Proofs.YthiabjkjpjmahaaGreat
open Go.RowKit

set_option maxRecDepth 100000 in
set_option maxHeartbeats 2000000 in
theorem l3Left_any (p : Option Addr) (l d : Nat) (ps : List (List Int)) (na nb : Nat) (w : World) (hl : ps.length = l) (hnb : nb ≤ 6) (hok : pairsOk ps na nb = true) (hp : AtS w p ps) :
    Calls Tryz.prog 118 #[.slice p l d, .int .i64 nb] w fun e w' => e = .returned (.int .i64 (leftN (side ps 1) nb : Nat)) ∧ w' = w := by
  have l6 : l ≤ 6 := by have := pairsOk_len hok; omega
  have hpair := fun k hk => pairsOk_at hok k hk
  clear hok
  go_enter Tryz.func118, Tryz.ntmps118
  go_wp2
  go_loop [5, 6] (fun a i => ∃ k : Nat, k ≤ nb ∧ i = .int .i64 k ∧ a = .int .i64 (leftN (side ps 1) k : Nat)) (fun _ i => nb - (intOf i).toNat)
  case atStart => exact ⟨0, Nat.zero_le _, rfl, rfl⟩
  case round =>
    obtain ⟨k, hk, rfl, rfl⟩ := hrel
    by_cases hlt : k < nb
    · have hle := leftN_le (side ps 1) k
      have HT := Hid.mk (leftN_take (side ps 1) k)
      have HK := Hid.mk (leftN_skip (side ps 1) k)
      generalize leftN (side ps 1) k = N at *
      go_wp2
      go_loop [7, 17] (fun pd i => ∃ i' : Nat, i' ≤ l ∧ i = .int .i64 i' ∧ pd = .bool (((side ps 1).take i').contains (k : Int))) (fun _ i => l - (intOf i).toNat)
      case atStart => exact ⟨0, Nat.zero_le _, rfl, by simp⟩
      case round =>
        obtain ⟨i, hi', rfl, rfl⟩ := hrel
        by_cases hil : i < l
        · obtain ⟨pb, poff, rfl, hpc⟩ := hp.some (by omega)
          obtain ⟨q, qd, hcx, _, hat⟩ := hpc i (by omega)
          obtain ⟨hl2, _⟩ := hpair i (by omega)
          have HC := Hid.mk (contains_snoc (side ps 1) i (by rw [side_length]; omega) (k : Int))
          rw [side_getD ps 1 i (by omega)] at HC
          generalize ps.getD i [] = pr at *
          obtain ⟨b', off', rfl, hb', hc'⟩ := hat.some (by omega)
          have hp1 := hc' 1 (by omega)
          rw [hl2] at hcx
          generalize pr.getD 1 0 = y1 at *
          generalize ((side ps 1).take i).contains (k : Int) = bl at *
          clear hpc hc' hl2 hpair HT HK
          cases bl with
          | true =>
            go_wp2
            go_round
            case rel => exact ⟨i + 1, by omega, by go_num, by rw [HC.out]; rfl⟩
            case measure => simp [intOf]; omega
          | false =>
            go_wp2
            go_round
            case rel => exact ⟨i + 1, by omega, by go_num, by rw [HC.out]; simp⟩
            case measure => simp [intOf]; omega
        · obtain rfl : i = l := by omega
          rw [show (side ps 1).take i = side ps 1 by rw [List.take_of_length_le (by rw [side_length]; omega)]]
          cases hct : (side ps 1).contains (k : Int) with
          | true =>
            have HE := Hid.mk (HK.out hct)
            clear HK HT hct
            go_wp2
            go_round
            case rel => exact ⟨k + 1, by omega, by go_num, by rw [HE.out]⟩
            case measure => simp [intOf]; omega
          | false =>
            have HE := Hid.mk (HT.out hct)
            clear HK HT hct
            go_wp2
            go_round
            case rel => exact ⟨k + 1, by omega, by go_num, by rw [HE.out]; go_num⟩
            case measure => simp [intOf]; omega
    · obtain rfl : k = nb := by omega
      go_wp2
      go_ret
      exact ⟨rfl, rfl⟩

set_option maxRecDepth 100000 in
set_option maxHeartbeats 4000000 in
theorem l3Join_any (a a' p : Option Addr) (n n' l c c' d : Nat) (ts us : List WRow) (ps : List (List Int)) (p0 q0 : Nat) (w : World) (hz : ts.length = n) (hz' : us.length = n') (hl : ps.length = l) (hgT : goodT p0 ts = true) (hgU : goodT q0 us = true) (hok : pairsOk ps p0 q0 = true)
    (ha : AtM w a ts) (ha' : AtM w a' us) (hp : AtS w p ps) :
    Calls Tryz.prog 78 #[.slice a n c, .slice a' n' c', .slice p l d] w fun e w' => ∃ r k d, e = .returned (.slice r k d) ∧ (joinW ts us ps).length = k ∧ AtM w' r (joinW ts us ps) ∧ Below w.heap.size w w' := by
  have n60 : n ≤ 60 := by have := goodT_len60 hgT; omega
  have n60' : n' ≤ 60 := by have := goodT_len60 hgU; omega
  have q6 : p0 ≤ 6 := by have := inc_range (goodT_parts hgT).1; omega
  have q6' : q0 ≤ 6 := by have := inc_range (goodT_parts hgU).1; omega
  have HRT : Hid (∀ k, k < n → good (wat ts k).1 = true ∧ (wat ts k).1.length = p0 ∧ -1000000 ≤ (wat ts k).2 ∧ (wat ts k).2 ≤ 1000000) := fun k hk => by
    have h1 := at_of_mem (goodT_mem hgT) k (by omega)
    exact ⟨h1.1, h1.2, (at_of_mem (goodL_mem (goodL_of_goodT hgT)) k (by omega)).2.2⟩
  have HRU : Hid (∀ k, k < n' → good (wat us k).1 = true ∧ (wat us k).1.length = q0 ∧ -1000000 ≤ (wat us k).2 ∧ (wat us k).2 ≤ 1000000) := fun k hk => by
    have h1 := at_of_mem (goodT_mem hgU) k (by omega)
    exact ⟨h1.1, h1.2, (at_of_mem (goodL_mem (goodL_of_goodT hgU)) k (by omega)).2.2⟩
  have HPK : Hid (∀ k, k < n → _) := fun k hk => accJ_pack (ps := ps) hgT hgU (show k < ts.length by omega) hz'
  have HOK := Hid.mk hok
  have HW : Hid (joinW ts us ps = putAll [] (joinL (ts.take n) us ps)) := by show _ = _; rw [List.take_of_length_le (by omega)]; rfl
  clear hgT hgU hok
  go_enter Tryz.func78, Tryz.ntmps78
  go_wp2
  go_loopw [7, 16] (fun o i wr => ∃ (k : Nat) (r : Option Addr) (m d : Nat), k ≤ n ∧ i = .int .i64 k ∧ o = .slice r m d ∧ (putAll [] (joinL (ts.take k) us ps)).length = m ∧ Formed r m d ∧ AtM wr r (putAll [] (joinL (ts.take k) us ps)) ∧ Below w.heap.size w wr) (fun _ i _ => n - (intOf i).toNat)
  case atStart => exact ⟨0, none, 0, 0, Nat.zero_le _, rfl, rfl, rfl, Formed.nil, atM_nil _ _, Below.refl _ _⟩
  case round =>
    obtain ⟨k, r, m, dm, hk, rfl, rfl, hm, hFr, har, hbw⟩ := hrel
    by_cases hlt : k < n
    · obtain ⟨b, off, rfl, hc⟩ := (ha.below hbw).some (by omega)
      obtain ⟨q, dd, hcx, hwx, hm1, hnil, hat⟩ := hc k (by omega)
      have hro := HRT.out k hlt
      obtain ⟨AC, a0, aS, aN, aA, aB⟩ := HPK.out k hlt
      rw [← a0] at hm har
      have HAS := Hid.mk aS
      have HAN := Hid.mk aN
      have HAA := Hid.mk aA
      have HAB := Hid.mk aB
      clear aS aN aA aB a0
      have hki : (k : Int) < (n : Int) := by omega
      generalize wat ts k = Y at *
      obtain ⟨xz, x⟩ := Y
      simp only at hcx hwx hat hm1 hro
      obtain ⟨m2, hmm⟩ : ∃ m2, xz.length = m2 := ⟨_, rfl⟩
      rw [hmm] at hcx hm1 hro
      have HM := Hid.mk hmm
      have HRO := Hid.mk hro
      have l6 : m2 ≤ 6 := by omega
      obtain ⟨V, hV⟩ : ∃ V, V = wr.alloc (.cells #[.slice q m2 dd, .int .i64 x] 82) := ⟨_, rfl⟩
      obtain ⟨S, hS⟩ : ∃ S, S = wr.heap.size := ⟨_, rfl⟩
      have hbV : Below wr.heap.size wr V := by rw [hV]; exact (Below.refl _ _).alloc (Nat.le_refl _) _
      have v0 : V.cell? ⟨S, 0, none⟩ = some (.slice q m2 dd) := by rw [hV, hS]; exact pair0 wr _ _ _
      have v1 : V.cell? ⟨S, 1, none⟩ = some (.int .i64 x) := by rw [hV, hS]; exact pair1 wr _ _ _
      have HB1 := Hid.mk (hbw.trans (hbV.mono hbw.size))
      have HAT := Hid.mk (hat.below hbV)
      have HAR := Hid.mk (har.below hbV)
      clear hmm hc hat har hro hbV
      go_wp2
      rw [← hV, ← hS]
      clear hV hcx hwx hS
      go_loopw [7, 22] (fun o i ws => ∃ (j : Nat) (r : Option Addr) (m d : Nat), j ≤ n' ∧ i = .int .i64 j ∧ o = .slice r m d ∧ (AC j).length = m ∧ Formed r m d ∧ AtM ws r (AC j) ∧ Below V.heap.size V ws) (fun _ i _ => n' - (intOf i).toNat)
      case atStart => exact ⟨0, r, m, dm, Nat.zero_le _, rfl, rfl, hm, hFr, HAR.out, Below.refl _ _⟩
      case round =>
        clear hm hFr HAR hbw
        obtain ⟨j, r, m, dm, hj, rfl, rfl, hm, hFr, har, hbs⟩ := hrel
        have BS := HB1.out.trans (hbs.mono HB1.out.size)
        by_cases hjt : j < n'
        · obtain ⟨b2, off2, rfl, hc2⟩ := (ha'.below BS).some (by omega)
          obtain ⟨q2, dd2, hcx2, hwx2, hm12, hnil2, hat2⟩ := hc2 j (by omega)
          have hru := HRU.out j hjt
          have HS1 := Hid.mk (fun v => HAS.out j v hjt)
          have HN1 := Hid.mk (HAN.out j hjt)
          have HLB := Hid.mk (HAB.out j)
          have hm36 : m ≤ 3600 := by have := HLB.out.1; omega
          have hji : (j : Int) < (n' : Int) := by omega
          generalize wat us j = Y2 at *
          obtain ⟨yz, y⟩ := Y2
          simp only at hcx2 hwx2 hat2 hm12 hru
          obtain ⟨m3, hmm⟩ : ∃ m3, yz.length = m3 := ⟨_, rfl⟩
          rw [hmm] at hcx2 hm12 hru
          have HM2 := Hid.mk hmm
          have l62 : m3 ≤ 6 := by omega
          obtain ⟨U, hU⟩ : ∃ U, U = wr.alloc (.cells #[.slice q2 m3 dd2, .int .i64 y] 82) := ⟨_, rfl⟩
          have hbU : Below wr.heap.size wr U := by rw [hU]; exact (Below.refl _ _).alloc (Nat.le_refl _) _
          have u0 : U.cell? ⟨wr.heap.size, 0, none⟩ = some (.slice q2 m3 dd2) := by rw [hU]; exact pair0 wr _ _ _
          have u1 : U.cell? ⟨wr.heap.size, 1, none⟩ = some (.int .i64 y) := by rw [hU]; exact pair1 wr _ _ _
          have hbUL : Below wr.heap.size wr (wr.alloc (.cells #[.slice q2 m3 dd2, .int .i64 y] 82)) := (Below.refl _ _).alloc (Nat.le_refl _) _
          have x0 := cell_later hbUL (cell_later hbs v0)
          have x1 := cell_later hbUL (cell_later hbs v1)
          have BU := BS.trans (hbU.mono BS.size)
          have YU := hbs.trans (hbU.mono hbs.size)
          have HATX := Hid.mk (HAT.out.below YU)
          have HATY := Hid.mk (hat2.below hbU)
          have HAR := Hid.mk (har.below hbU)
          have HP := Hid.mk (hp.below BU)
          have hokk : pairsOk ps m2 m3 = true := by rw [HRO.out.2.1, hru.2.1]; exact HOK.out
          have HKK := Hid.mk hokk
          have HLJ : Hid (l1B xz yz ps = joinOk xz yz ps) := l1B_joinOk HRO.out.1 hru.1 (by rw [HM.out, HM2.out]; exact hokk)
          have hwr := prod_wrap HRO.out.2.2.1 HRO.out.2.2.2 hru.2.2.1 hru.2.2.2
          have hwr2 := prod_wrap64 HRO.out.2.2.1 HRO.out.2.2.2 hru.2.2.1 hru.2.2.2
          have HPI := Hid.mk (prod_in HRO.out.2.2.1 HRO.out.2.2.2 hru.2.2.1 hru.2.2.2)
          clear hmm hc2 hat2 har hokk hru
          go_wp2_with fail
          rw [← hU] at x0 x1 ⊢
          clear hU hcx2 hwx2 hbUL
          refine (l1Join_any _ _ _ _ _ _ _ _ _ xz yz ps _ HM.out HM2.out hl l6 l62 hnil HATX.out HATY.out HP.out HKK.out).mono ?_
          rintro e w5 ⟨r5, m5, d5, rfl, hm5, ho5, hb5⟩
          rw [HLJ.out]
          have x0 := cell_later hb5 x0
          have x1 := cell_later hb5 x1
          have u0 := cell_later hb5 u0
          have u1 := cell_later hb5 u1
          have YU := YU.trans (hb5.mono YU.size)
          have HAR := Hid.mk (HAR.out.below hb5)
          obtain ⟨w6, hw6⟩ : ∃ w6, w6 = w5.alloc (.cells #[.slice r5 m5 d5] 80) := ⟨_, rfl⟩
          have hbL : Below w5.heap.size w5 (w5.alloc (.cells #[.slice r5 m5 d5] 80)) := (Below.refl _ _).alloc (Nat.le_refl _) _
          have hb6 : Below w5.heap.size w5 w6 := by rw [hw6]; exact hbL
          have x0 := cell_later hbL x0
          have x1 := cell_later hbL x1
          have u0 := cell_later hbL u0
          have u1 := cell_later hbL u1
          have YU := YU.trans (hb6.mono YU.size)
          have HAR := Hid.mk (HAR.out.below hb6)
          cases hok : joinOk xz yz ps with
          | true =>
            have hjs := HS1.out (joinAns xz yz ps, x * y) (if_pos hok)
            have HJS := Hid.mk hjs
            have HJA := Hid.mk (l1Z_joinAns hok)
            rw [HJA.out] at hm5 ho5
            have HO5 := Hid.mk ho5
            have hm56 : m5 ≤ 6 := by
              have hj6 : (joinZ xz yz (side ps 1)).length ≤ 6 := by simp only [joinOk, Bool.and_eq_true, decide_eq_true_eq] at hok; exact hok.2
              rw [← hm5, joinAns, if_pos hok]; exact hj6
            clear hjs hok ho5 hb5 hbs hbU BU BS
            go_wp2_with fail
            rw [← hw6]
            refine (l2Put_any _ _ _ _ _ _ (AC j) (joinAns xz yz ps) (x * y) _ hm hm5 (by omega) hFr hm56 (owns_formed HO5.out).2.1 (fun i hi => HLB.out.2 i (by omega)) (by have := HPI.out; omega) (by have := HPI.out; omega) HAR.out ((At.owned HO5.out).below hb6)).mono ?_
            rintro e w7 ⟨r7, m7, d7, rfl, hm7, hF7, ha7, hb7⟩
            rw [← HJS.out] at hm7 ha7
            have HM7 := Hid.mk hm7
            have HF7 := Hid.mk hF7
            have HA7 := Hid.mk ha7
            have HB7 := Hid.mk (YU.trans (hb7.mono YU.size))
            clear hm7 hF7 ha7 hb7 hm hFr HAR YU hb6 hbL hw6
            go_wp2
            go_roundw
            case rel => exact ⟨j + 1, _, _, _, by omega, by go_num, rfl, HM7.out, HF7.out, HA7.out, HB7.out⟩
            case measure => simp [intOf]; omega
          | false =>
            have HE : Hid (AC (j + 1) = AC j) := HN1.out (if_neg (by simp [hok]))
            have HM7 : Hid ((AC (j + 1)).length = m) := by show _ = _; rw [HE.out]; exact hm
            have HA7 : Hid (AtM w6 r (AC (j + 1))) := by show AtM _ _ _; rw [HE.out]; exact HAR.out
            have HB7 := Hid.mk YU
            clear hok ho5 hb5 hbs hbU BU BS hm HAR YU hb6 hbL
            go_wp2
            go_roundw
            case rel => exact ⟨j + 1, _, _, _, by omega, by go_num, rfl, HM7.out, hFr, by rw [← hw6]; exact HA7.out, by rw [← hw6]; exact HB7.out⟩
            case measure => simp [intOf]; omega
        · obtain rfl : j = n' := by omega
          rw [HAA.out] at hm har
          have HMM := Hid.mk hm
          have HARR := Hid.mk har
          have HBS := Hid.mk BS
          clear hm har BS hbs
          go_wp2
          go_roundw
          case rel => exact ⟨k + 1, _, _, _, by omega, by go_num, rfl, HMM.out, hFr, HARR.out, HBS.out⟩
          case measure => simp [intOf]; omega
    · obtain rfl : k = n := by omega
      rw [← HW.out] at hm har
      go_wp2
      go_ret
      exact ⟨_, _, _, rfl, hm, har, hbw⟩

end Go.Proofs.YthiabjkjpjmahaaGreat

/- Contract of spec.l6Columns: how many columns a part has. -/
namespace Go.Proofs.YthiabjkjpjmahaaGreat
open Go.RowKit

/-- A number and a yes that tell what there is. -/
def ColRet (e : Ending) (O : Option Int) : Prop := ∃ n ok, e = .returned (.tuple #[.int .i64 n, .bool ok]) ∧ (O = none → ok = false) ∧ ∀ m, O = some m → ok = true ∧ n = m
theorem ColRet.yes {e : Ending} {O : Option Int} {n : Int} (h : O = some n) (he : e = .returned (.tuple #[.int .i64 n, .bool true])) : ColRet e O := ⟨n, true, he, fun h' => (by rw [h] at h'; cases h'), fun m hm => ⟨rfl, by rw [h] at hm; cases hm; rfl⟩⟩
theorem ColRet.no {e : Ending} {O : Option Int} {n : Int} (h : O = none) (he : e = .returned (.tuple #[.int .i64 n, .bool false])) : ColRet e O := ⟨n, false, he, fun _ => rfl, fun m hm => (by rw [h] at hm; cases hm)⟩

set_option linter.unusedVariables false in
set_option maxRecDepth 100000 in
set_option maxHeartbeats 4000000 in
theorem cols_2 (A B : Int) (ta : Option Addr) (tn tc : Nat) (ca : Option Addr) (cn cc : Nat) (pa : Option Addr) (pn pc : Nat) (ts : List Tst) (aa : Option Addr) (an ac : Nat) (ah : List Int) (a : Nat) (w : World) (hah : ah.length = an) (han : an ≤ 1048576) (haa : At w aa ah) (hA : numAt ah A = some (a : Int)) (h6 : a ≤ 6) (htz : ts.length = tn) (htn : tn ≤ 1048576) (hta : AtE w ta ts) :
    Calls Tryz.prog 75 #[.agg (cellsP 2 A B ta tn tc ca cn cc pa pn pc).toArray, .slice aa an ac] w fun e w' => ColRet e (selAt ah A ts) ∧ Below w.heap.size w w' := by
  obtain ⟨kA, rfl, hkA, hgA, _⟩ := numAt_some hA
  obtain ⟨b, off, rfl, hb, hc⟩ := At.some haa (by omega)
  have hcA := hc kA (by omega)
  rw [hgA] at hcA
  have HA := Hid.mk hA
  have hkA' : (kA : Int) < (an : Int) := by omega
  obtain ⟨W, hW⟩ : ∃ W, W = w.alloc (.cells (cellsP 2 kA B ta tn tc ca cn cc pa pn pc).toArray 74) := ⟨_, rfl⟩
  have hW' : W = w.alloc (.cells (cellsP 2 kA B ta tn tc ca cn cc pa pn pc).toArray 74) := hW
  have B0 : Below w.heap.size w W := by rw [hW]; exact (Below.refl _ _).alloc (Nat.le_refl _) _
  have b0 : W.heap[w.heap.size]? = some (.cells (cellsP 2 kA B ta tn tc ca cn cc pa pn pc).toArray 74 (0, 0)) := by rw [hW]; exact heap_alloc_new w _
  have hcA2 := cell_later B0 hcA
  have k0 := blk_cell b0 0 (v := .int .i64 2) rfl
  have k2 := blk_cell b0 2 (v := .int .i64 B) rfl
  have k3 := blk_cell b0 3 (v := .slice ta tn tc) rfl
  have k4 := blk_cell b0 4 (v := .slice ca cn cc) rfl
  have k5 := blk_cell b0 5 (v := .slice pa pn pc) rfl
  clear hA hgA hW'
  have HT : Hid (selAt ah kA ts = if goodEs a ts = true then some (a : Int) else none) := by show _ = _; unfold selAt; rw [HA.out, Option.bind_some]
  clear hc
  go_enter Tryz.func75, Tryz.ntmps75
  go_wp2_with fail
  rw [← hW]
  clear hW
  refine (specGoodTests_any ta tn tc ts a W htz htn h6 (AtE.below hta B0)).mono ?_
  rintro e w1 ⟨rfl, hb1⟩
  have B1 := B0.trans (hb1.mono B0.size)
  obtain ⟨G, hG⟩ : ∃ G, goodEs a ts = G := ⟨_, rfl⟩
  rw [hG] at HT ⊢
  clear hG hb1
  cases G with
  | false =>
    go_wp2
    refine bodyPost_ret (v := .tuple #[.int .i64 a, .bool false]) (by simp [results, Tryz.results75, go_sem]) rfl ⟨ColRet.no (by rw [HT.out]; rfl) rfl, B1⟩
  | true =>
    go_wp2
    refine bodyPost_ret (v := .tuple #[.int .i64 a, .bool true]) (by simp [results, Tryz.results75, go_sem]) rfl ⟨ColRet.yes (by rw [HT.out]; rfl) rfl, B1⟩

set_option linter.unusedVariables false in
set_option maxRecDepth 100000 in
set_option maxHeartbeats 4000000 in
theorem cols_3 (A B : Int) (ta : Option Addr) (tn tc : Nat) (ca : Option Addr) (cn cc : Nat) (pa : Option Addr) (pn pc : Nat) (zs : List Int) (aa : Option Addr) (an ac : Nat) (ah : List Int) (a : Nat) (w : World) (hah : ah.length = an) (han : an ≤ 1048576) (haa : At w aa ah) (hA : numAt ah A = some (a : Int)) (h6 : a ≤ 6) (hcz : zs.length = cn) (hcn : cn ≤ 1048576) (hca : At w ca zs) :
    Calls Tryz.prog 75 #[.agg (cellsP 3 A B ta tn tc ca cn cc pa pn pc).toArray, .slice aa an ac] w fun e w' => ColRet e (prjAt ah A zs) ∧ Below w.heap.size w w' := by
  obtain ⟨kA, rfl, hkA, hgA, _⟩ := numAt_some hA
  obtain ⟨b, off, rfl, hb, hc⟩ := At.some haa (by omega)
  have hcA := hc kA (by omega)
  rw [hgA] at hcA
  have HA := Hid.mk hA
  have hkA' : (kA : Int) < (an : Int) := by omega
  obtain ⟨W, hW⟩ : ∃ W, W = w.alloc (.cells (cellsP 3 kA B ta tn tc ca cn cc pa pn pc).toArray 74) := ⟨_, rfl⟩
  have hW' : W = w.alloc (.cells (cellsP 3 kA B ta tn tc ca cn cc pa pn pc).toArray 74) := hW
  have B0 : Below w.heap.size w W := by rw [hW]; exact (Below.refl _ _).alloc (Nat.le_refl _) _
  have b0 : W.heap[w.heap.size]? = some (.cells (cellsP 3 kA B ta tn tc ca cn cc pa pn pc).toArray 74 (0, 0)) := by rw [hW]; exact heap_alloc_new w _
  have hcA2 := cell_later B0 hcA
  have k0 := blk_cell b0 0 (v := .int .i64 3) rfl
  have k2 := blk_cell b0 2 (v := .int .i64 B) rfl
  have k3 := blk_cell b0 3 (v := .slice ta tn tc) rfl
  have k4 := blk_cell b0 4 (v := .slice ca cn cc) rfl
  have k5 := blk_cell b0 5 (v := .slice pa pn pc) rfl
  clear hA hgA hW'
  have HT : Hid (prjAt ah kA zs = if colsOk zs a = true then some (cn : Int) else none) := by show _ = _; unfold prjAt; rw [HA.out, Option.bind_some, hcz]; rfl
  have HC := Hid.mk (At.below hca B0)
  have HZ := Hid.mk hcz
  clear hc hca hcz
  have hq : ∀ W' : World, W' = W ∨ W' = W.drew → Calls Tryz.prog 116 #[.slice ca cn cc, .int .i64 a] W' fun e w' => e = .returned (.bool (colsOk zs a)) ∧ w' = W' := fun W' h => l1Columns_any ca cn cc zs a W' HZ.out (by omega) (by omega) (by rcases h with rfl | rfl; exact HC.out; exact HC.out.drew)
  have HQ := Hid.mk hq
  clear hq
  go_enter Tryz.func75, Tryz.ntmps75
  go_upto_region 6 with fail
  rw [← hW]
  clear hW
  go_region_held3 (fun w' => w'.cell? ⟨w.heap.size, 4, none⟩ = some (.slice ca cn cc)) (exact k4)
    (first | (go_at_call 116; refine (HQ.out _ (.inr rfl)).mono ?_; rintro e w1 ⟨rfl, rfl⟩; have k4' : W.drew.cell? ⟨w.heap.size, 4, none⟩ = some (.slice ca cn cc) := k4) | fail)
  obtain ⟨G, hG⟩ : ∃ G, colsOk zs a = G := ⟨_, rfl⟩
  rw [hG] at HT ⊢
  clear hG
  cases G with
  | false =>
    go_wp2
    refine bodyPost_ret (v := .tuple #[.int .i64 cn, .bool false]) (by simp [results, Tryz.results75, go_sem]) rfl ⟨ColRet.no (by rw [HT.out]; rfl) rfl, B0.drew⟩
  | true =>
    go_wp2
    refine bodyPost_ret (v := .tuple #[.int .i64 cn, .bool true]) (by simp [results, Tryz.results75, go_sem]) rfl ⟨ColRet.yes (by rw [HT.out]; rfl) rfl, B0.drew⟩

set_option linter.unusedVariables false in
set_option maxRecDepth 100000 in
set_option maxHeartbeats 4000000 in
theorem cols_4 (A B : Int) (ta : Option Addr) (tn tc : Nat) (ca : Option Addr) (cn cc : Nat) (pa : Option Addr) (pn pc : Nat) (ps : List (List Int)) (a' : Nat) (aa : Option Addr) (an ac : Nat) (ah : List Int) (a : Nat) (w : World) (hah : ah.length = an) (han : an ≤ 1048576) (haa : At w aa ah) (hA : numAt ah A = some (a : Int)) (h6 : a ≤ 6) (hpz : ps.length = pn) (hpn : pn ≤ 1048576) (hpa : AtS w pa ps) (hB : numAt ah B = some (a' : Int)) (h6' : a' ≤ 6) :
    Calls Tryz.prog 75 #[.agg (cellsP 4 A B ta tn tc ca cn cc pa pn pc).toArray, .slice aa an ac] w fun e w' => ColRet e (jonAt ah A B ps) ∧ Below w.heap.size w w' := by
  obtain ⟨kA, rfl, hkA, hgA, _⟩ := numAt_some hA
  obtain ⟨b, off, rfl, hb, hc⟩ := At.some haa (by omega)
  have hcA := hc kA (by omega)
  rw [hgA] at hcA
  have HA := Hid.mk hA
  have hkA' : (kA : Int) < (an : Int) := by omega
  obtain ⟨W, hW⟩ : ∃ W, W = w.alloc (.cells (cellsP 4 kA B ta tn tc ca cn cc pa pn pc).toArray 74) := ⟨_, rfl⟩
  have hW' : W = w.alloc (.cells (cellsP 4 kA B ta tn tc ca cn cc pa pn pc).toArray 74) := hW
  have B0 : Below w.heap.size w W := by rw [hW]; exact (Below.refl _ _).alloc (Nat.le_refl _) _
  have b0 : W.heap[w.heap.size]? = some (.cells (cellsP 4 kA B ta tn tc ca cn cc pa pn pc).toArray 74 (0, 0)) := by rw [hW]; exact heap_alloc_new w _
  have hcA2 := cell_later B0 hcA
  have k0 := blk_cell b0 0 (v := .int .i64 4) rfl
  have k2 := blk_cell b0 2 (v := .int .i64 B) rfl
  have k3 := blk_cell b0 3 (v := .slice ta tn tc) rfl
  have k4 := blk_cell b0 4 (v := .slice ca cn cc) rfl
  have k5 := blk_cell b0 5 (v := .slice pa pn pc) rfl
  clear hA hgA hW'
  obtain ⟨kB, rfl, hkB, hgB, _⟩ := numAt_some hB
  have hcB := hc kB (by omega)
  rw [hgB] at hcB
  have hcB2 := cell_later B0 hcB
  have hkB' : (kB : Int) < (an : Int) := by omega
  have HT : Hid (jonAt ah kA kB ps = if pairsOk ps a a' = true ∧ joinC a a' ps ≤ 6 then some (joinC a a' ps : Int) else none) := by show _ = _; unfold jonAt; rw [HA.out, Option.bind_some, hB, Option.bind_some]; rfl
  have HP := Hid.mk (AtS.below hpa B0)
  have HZ := Hid.mk hpz
  clear hc hpa hB hgB hpz
  cases hok : pairsOk ps a a' with
  | false =>
    have HO := Hid.mk hok
    clear hok
    go_enter Tryz.func75, Tryz.ntmps75
    go_wp2_with fail
    rw [← hW]
    clear hW
    refine (l1Pairs_any pa pn pc ps a a' W HZ.out (by omega) HP.out).mono ?_
    rintro e w1 ⟨rfl, rfl⟩
    rw [HO.out]
    go_wp2
    refine bodyPost_ret (v := .tuple #[.int .i64 0, .bool false]) (by simp [results, Tryz.results75, go_sem]) rfl ⟨ColRet.no (by rw [HT.out, if_neg (by rw [HO.out]; simp)]) rfl, B0⟩
  | true =>
    have HO := Hid.mk hok
    have HJ : Hid (joinC a a' ps = a + leftN (side ps 1) a') := by show _ = _; unfold joinC; simp
    have hl6 := leftN_le (side ps 1) a'
    clear hok
    go_enter Tryz.func75, Tryz.ntmps75
    go_wp2_with fail
    rw [← hW]
    clear hW
    refine (l1Pairs_any pa pn pc ps a a' W HZ.out (by omega) HP.out).mono ?_
    rintro e w1 ⟨rfl, rfl⟩
    rw [HO.out]
    go_wp2_with fail
    refine (l3Left_any pa pn pc ps a a' _ HZ.out h6' HO.out HP.out).mono ?_
    rintro e w2 ⟨rfl, rfl⟩
    obtain ⟨J, hJ⟩ : ∃ J, leftN (side ps 1) a' = J := ⟨_, rfl⟩
    rw [hJ] at HJ hl6 ⊢
    clear hJ
    have hw : IntKind.i64.wrap ((a : Int) + (J : Int)) = ((a + J : Nat) : Int) := by rw [IntWalk.i64_in _ (by omega)]; omega
    by_cases h9 : a + J ≤ 6
    · have h9' : ((a + J : Nat) : Int) ≤ 6 := by omega
      have HH : Hid (a + J ≤ 6) := h9
      generalize a + J = q at *
      go_wp2
      refine bodyPost_ret (v := .tuple #[.int .i64 q, .bool true]) (by simp [results, Tryz.results75, go_sem]; try omega) rfl ⟨ColRet.yes (by rw [HT.out, HJ.out, if_pos ⟨HO.out, HH.out⟩]) rfl, B0⟩
    · have h9' : ¬ ((a + J : Nat) : Int) ≤ 6 := by omega
      have HH : Hid (¬ a + J ≤ 6) := h9
      generalize a + J = q at *
      go_wp2
      refine bodyPost_ret (v := .tuple #[.int .i64 q, .bool false]) (by simp [results, Tryz.results75, go_sem]; try omega) rfl ⟨ColRet.no (by rw [HT.out, HJ.out, if_neg (fun h => HH.out h.2)]) rfl, B0⟩

set_option linter.unusedVariables false in
set_option maxRecDepth 100000 in
set_option maxHeartbeats 4000000 in
theorem cols_5 (A B : Int) (ta : Option Addr) (tn tc : Nat) (ca : Option Addr) (cn cc : Nat) (pa : Option Addr) (pn pc : Nat) (a' : Nat) (aa : Option Addr) (an ac : Nat) (ah : List Int) (a : Nat) (w : World) (hah : ah.length = an) (han : an ≤ 1048576) (haa : At w aa ah) (hA : numAt ah A = some (a : Int)) (h6 : a ≤ 6) (hB : numAt ah B = some (a' : Int)) (h6' : a' ≤ 6) :
    Calls Tryz.prog 75 #[.agg (cellsP 5 A B ta tn tc ca cn cc pa pn pc).toArray, .slice aa an ac] w fun e w' => ColRet e (twoAt ah A B) ∧ Below w.heap.size w w' := by
  obtain ⟨kA, rfl, hkA, hgA, _⟩ := numAt_some hA
  obtain ⟨b, off, rfl, hb, hc⟩ := At.some haa (by omega)
  have hcA := hc kA (by omega)
  rw [hgA] at hcA
  have HA := Hid.mk hA
  have hkA' : (kA : Int) < (an : Int) := by omega
  obtain ⟨W, hW⟩ : ∃ W, W = w.alloc (.cells (cellsP 5 kA B ta tn tc ca cn cc pa pn pc).toArray 74) := ⟨_, rfl⟩
  have hW' : W = w.alloc (.cells (cellsP 5 kA B ta tn tc ca cn cc pa pn pc).toArray 74) := hW
  have B0 : Below w.heap.size w W := by rw [hW]; exact (Below.refl _ _).alloc (Nat.le_refl _) _
  have b0 : W.heap[w.heap.size]? = some (.cells (cellsP 5 kA B ta tn tc ca cn cc pa pn pc).toArray 74 (0, 0)) := by rw [hW]; exact heap_alloc_new w _
  have hcA2 := cell_later B0 hcA
  have k0 := blk_cell b0 0 (v := .int .i64 5) rfl
  have k2 := blk_cell b0 2 (v := .int .i64 B) rfl
  have k3 := blk_cell b0 3 (v := .slice ta tn tc) rfl
  have k4 := blk_cell b0 4 (v := .slice ca cn cc) rfl
  have k5 := blk_cell b0 5 (v := .slice pa pn pc) rfl
  clear hA hgA hW'
  obtain ⟨kB, rfl, hkB, hgB, _⟩ := numAt_some hB
  have hcB := hc kB (by omega)
  rw [hgB] at hcB
  have hcB2 := cell_later B0 hcB
  have hkB' : (kB : Int) < (an : Int) := by omega
  have HT : Hid (twoAt ah kA kB = if (a : Int) = (a' : Int) then some (a : Int) else none) := by show _ = _; unfold twoAt; rw [HA.out, Option.bind_some, hB, Option.bind_some]
  clear hc hB hgB
  by_cases he : (a : Int) = (a' : Int)
  · have HH := Hid.mk he
    have hd : ((a : Int) == (a' : Int)) = true := by simpa using he
    have hd' : decide ((a : Int) = (a' : Int)) = true := by simpa using he
    clear he
    go_enter Tryz.func75, Tryz.ntmps75
    go_upto_region 15 with fail
    rw [← hW]
    clear hW
    go_region_held3 (fun w' => w'.cell? ⟨w.heap.size, 2, none⟩ = some (.int .i64 kB) ∧ w'.cell? ⟨b, off + kB, none⟩ = some (.int .i64 a')) (exact ⟨k2, hcB2⟩) (fail)
    go_wp2
    refine bodyPost_ret (v := .tuple #[.int .i64 a, .bool true]) (by simp [results, Tryz.results75, go_sem, HH.out]) rfl ⟨ColRet.yes (by rw [HT.out, if_pos HH.out]) rfl, B0.drew⟩
  · have HH := Hid.mk he
    have hd : ((a : Int) == (a' : Int)) = false := by simpa using he
    have hd' : decide ((a : Int) = (a' : Int)) = false := by simpa using he
    clear he
    go_enter Tryz.func75, Tryz.ntmps75
    go_upto_region 15 with fail
    rw [← hW]
    clear hW
    go_region_held3 (fun w' => w'.cell? ⟨w.heap.size, 2, none⟩ = some (.int .i64 kB) ∧ w'.cell? ⟨b, off + kB, none⟩ = some (.int .i64 a')) (exact ⟨k2, hcB2⟩) (fail)
    go_wp2
    refine bodyPost_ret (v := .tuple #[.int .i64 a, .bool false]) (by simp [results, Tryz.results75, go_sem]; try exact HH.out) rfl ⟨ColRet.no (by rw [HT.out, if_neg HH.out]) rfl, B0.drew⟩

set_option linter.unusedVariables false in
set_option maxRecDepth 100000 in
set_option maxHeartbeats 4000000 in
theorem cols_6 (A B : Int) (ta : Option Addr) (tn tc : Nat) (ca : Option Addr) (cn cc : Nat) (pa : Option Addr) (pn pc : Nat) (a' : Nat) (aa : Option Addr) (an ac : Nat) (ah : List Int) (a : Nat) (w : World) (hah : ah.length = an) (han : an ≤ 1048576) (haa : At w aa ah) (hA : numAt ah A = some (a : Int)) (h6 : a ≤ 6) (hB : numAt ah B = some (a' : Int)) (h6' : a' ≤ 6) :
    Calls Tryz.prog 75 #[.agg (cellsP 6 A B ta tn tc ca cn cc pa pn pc).toArray, .slice aa an ac] w fun e w' => ColRet e (twoAt ah A B) ∧ Below w.heap.size w w' := by
  obtain ⟨kA, rfl, hkA, hgA, _⟩ := numAt_some hA
  obtain ⟨b, off, rfl, hb, hc⟩ := At.some haa (by omega)
  have hcA := hc kA (by omega)
  rw [hgA] at hcA
  have HA := Hid.mk hA
  have hkA' : (kA : Int) < (an : Int) := by omega
  obtain ⟨W, hW⟩ : ∃ W, W = w.alloc (.cells (cellsP 6 kA B ta tn tc ca cn cc pa pn pc).toArray 74) := ⟨_, rfl⟩
  have hW' : W = w.alloc (.cells (cellsP 6 kA B ta tn tc ca cn cc pa pn pc).toArray 74) := hW
  have B0 : Below w.heap.size w W := by rw [hW]; exact (Below.refl _ _).alloc (Nat.le_refl _) _
  have b0 : W.heap[w.heap.size]? = some (.cells (cellsP 6 kA B ta tn tc ca cn cc pa pn pc).toArray 74 (0, 0)) := by rw [hW]; exact heap_alloc_new w _
  have hcA2 := cell_later B0 hcA
  have k0 := blk_cell b0 0 (v := .int .i64 6) rfl
  have k2 := blk_cell b0 2 (v := .int .i64 B) rfl
  have k3 := blk_cell b0 3 (v := .slice ta tn tc) rfl
  have k4 := blk_cell b0 4 (v := .slice ca cn cc) rfl
  have k5 := blk_cell b0 5 (v := .slice pa pn pc) rfl
  clear hA hgA hW'
  obtain ⟨kB, rfl, hkB, hgB, _⟩ := numAt_some hB
  have hcB := hc kB (by omega)
  rw [hgB] at hcB
  have hcB2 := cell_later B0 hcB
  have hkB' : (kB : Int) < (an : Int) := by omega
  have HT : Hid (twoAt ah kA kB = if (a : Int) = (a' : Int) then some (a : Int) else none) := by show _ = _; unfold twoAt; rw [HA.out, Option.bind_some, hB, Option.bind_some]
  clear hc hB hgB
  by_cases he : (a : Int) = (a' : Int)
  · have HH := Hid.mk he
    have hd : ((a : Int) == (a' : Int)) = true := by simpa using he
    have hd' : decide ((a : Int) = (a' : Int)) = true := by simpa using he
    clear he
    go_enter Tryz.func75, Tryz.ntmps75
    go_upto_region 15 with fail
    rw [← hW]
    clear hW
    go_region_held3 (fun w' => w'.cell? ⟨w.heap.size, 2, none⟩ = some (.int .i64 kB) ∧ w'.cell? ⟨b, off + kB, none⟩ = some (.int .i64 a')) (exact ⟨k2, hcB2⟩) (fail)
    go_wp2
    refine bodyPost_ret (v := .tuple #[.int .i64 a, .bool true]) (by simp [results, Tryz.results75, go_sem, HH.out]) rfl ⟨ColRet.yes (by rw [HT.out, if_pos HH.out]) rfl, B0.drew⟩
  · have HH := Hid.mk he
    have hd : ((a : Int) == (a' : Int)) = false := by simpa using he
    have hd' : decide ((a : Int) = (a' : Int)) = false := by simpa using he
    clear he
    go_enter Tryz.func75, Tryz.ntmps75
    go_upto_region 15 with fail
    rw [← hW]
    clear hW
    go_region_held3 (fun w' => w'.cell? ⟨w.heap.size, 2, none⟩ = some (.int .i64 kB) ∧ w'.cell? ⟨b, off + kB, none⟩ = some (.int .i64 a')) (exact ⟨k2, hcB2⟩) (fail)
    go_wp2
    refine bodyPost_ret (v := .tuple #[.int .i64 a, .bool false]) (by simp [results, Tryz.results75, go_sem]; try exact HH.out) rfl ⟨ColRet.no (by rw [HT.out, if_neg HH.out]) rfl, B0.drew⟩

set_option linter.unusedVariables false in
set_option maxRecDepth 100000 in
set_option maxHeartbeats 4000000 in
theorem cols_o (K : Int) (A B : Int) (ta : Option Addr) (tn tc : Nat) (ca : Option Addr) (cn cc : Nat) (pa : Option Addr) (pn pc : Nat)  (aa : Option Addr) (an ac : Nat) (ah : List Int) (a : Nat) (w : World) (hah : ah.length = an) (han : an ≤ 1048576) (haa : At w aa ah) (hA : numAt ah A = some (a : Int)) (h6 : a ≤ 6) (hK : K ≠ 2 ∧ K ≠ 3 ∧ K ≠ 4 ∧ K ≠ 5 ∧ K ≠ 6) :
    Calls Tryz.prog 75 #[.agg (cellsP K A B ta tn tc ca cn cc pa pn pc).toArray, .slice aa an ac] w fun e w' => ColRet e (if K = 7 then numAt ah A else none) ∧ Below w.heap.size w w' := by
  obtain ⟨kA, rfl, hkA, hgA, _⟩ := numAt_some hA
  obtain ⟨b, off, rfl, hb, hc⟩ := At.some haa (by omega)
  have hcA := hc kA (by omega)
  rw [hgA] at hcA
  have HA := Hid.mk hA
  have hkA' : (kA : Int) < (an : Int) := by omega
  obtain ⟨W, hW⟩ : ∃ W, W = w.alloc (.cells (cellsP K kA B ta tn tc ca cn cc pa pn pc).toArray 74) := ⟨_, rfl⟩
  have hW' : W = w.alloc (.cells (cellsP K kA B ta tn tc ca cn cc pa pn pc).toArray 74) := hW
  have B0 : Below w.heap.size w W := by rw [hW]; exact (Below.refl _ _).alloc (Nat.le_refl _) _
  have b0 : W.heap[w.heap.size]? = some (.cells (cellsP K kA B ta tn tc ca cn cc pa pn pc).toArray 74 (0, 0)) := by rw [hW]; exact heap_alloc_new w _
  have hcA2 := cell_later B0 hcA
  have k0 := blk_cell b0 0 (v := .int .i64 K) rfl
  have k2 := blk_cell b0 2 (v := .int .i64 B) rfl
  have k3 := blk_cell b0 3 (v := .slice ta tn tc) rfl
  have k4 := blk_cell b0 4 (v := .slice ca cn cc) rfl
  have k5 := blk_cell b0 5 (v := .slice pa pn pc) rfl
  clear hA hgA hW'
  obtain ⟨h2, h3, h4, h5, h6x⟩ := hK
  clear hc
  by_cases h7 : K = 7
  · subst h7
    go_enter Tryz.func75, Tryz.ntmps75
    go_upto_region 16 with fail
    rw [← hW]
    clear hW
    go_region_held3 (fun w' => w'.cell? ⟨w.heap.size, 0, none⟩ = some (.int .i64 7)) (exact k0) (fail)
    go_wp2
    refine bodyPost_ret (v := .tuple #[.int .i64 a, .bool true]) (by simp [results, Tryz.results75, go_sem]) rfl ⟨ColRet.yes (by first | exact HA.out | (rw [if_pos rfl]; exact HA.out)) rfl, B0.drew⟩
  · have HH := Hid.mk h7
    go_enter Tryz.func75, Tryz.ntmps75
    go_upto_region 16 with fail
    rw [← hW]
    clear hW
    go_region_held3 (fun w' => w'.cell? ⟨w.heap.size, 0, none⟩ = some (.int .i64 K)) (exact k0) (fail)
    go_wp2
    refine bodyPost_ret (v := .tuple #[.int .i64 a, .bool false]) (by simp [results, Tryz.results75, go_sem]; try exact HH.out) rfl ⟨ColRet.no (by first | rfl | rw [if_neg HH.out]) rfl, B0.drew⟩

end Go.Proofs.YthiabjkjpjmahaaGreat

/- Plain: things as the laws mark them, one behind the other, whatever they are. -/
namespace Go.Proofs.YthiabjkjpjmahaaGreat
open Go.RowKit

section
variable {α : Type} (f : Int → α → α) (sz : α → Nat)
def mkL : Int → List α → List α
  | _, [] => []
  | m, x :: xs => f m x :: mkL (m + sz x) xs
def szL (xs : List α) (k : Nat) : Nat := ((xs.take k).map sz).sum
theorem mkL_length : ∀ (m : Int) (xs : List α), (mkL f sz m xs).length = xs.length
  | _, [] => rfl
  | m, x :: xs => by simp [mkL, mkL_length]
theorem szL_succ {xs : List α} {k : Nat} {x : α} (h : xs[k]? = some x) : szL sz xs (k + 1) = szL sz xs k + sz x := by
  have hk := (List.getElem?_eq_some_iff.1 h).1
  unfold szL
  rw [List.take_succ_eq_append_getElem hk, List.map_append, List.sum_append, (List.getElem?_eq_some_iff.1 h).2]
  simp
theorem mkL_at : ∀ (m : Int) (xs : List α) (k : Nat) (x : α), xs[k]? = some x → (mkL f sz m xs)[k]? = some (f (m + szL sz xs k) x)
  | m, y :: xs, 0, x, h => by
    simp at h
    subst h
    simp [mkL, szL]
  | m, y :: xs, k + 1, x, h => by
    have ih := mkL_at (m + sz y) xs k x (by simpa using h)
    have e : szL sz (y :: xs) (k + 1) = sz y + szL sz xs k := by simp [szL]
    rw [e]
    simp only [mkL, List.getElem?_cons_succ, ih]
    congr 2
    omega
/-- The first k are marked. -/
def mkTo (m : Int) (xs : List α) (k : Nat) : List α := (mkL f sz m xs).take k ++ xs.drop k
theorem mkTo_zero (m : Int) (xs : List α) : mkTo f sz m xs 0 = xs := by simp [mkTo]
theorem mkTo_all (m : Int) (xs : List α) {n : Nat} (h : xs.length = n) : mkTo f sz m xs n = mkL f sz m xs := by
  unfold mkTo
  rw [List.take_of_length_le (by rw [mkL_length]; omega), List.drop_of_length_le (by omega), List.append_nil]
theorem mkTo_next {m : Int} {xs : List α} {k : Nat} {x : α} (h : xs[k]? = some x) : (mkTo f sz m xs k)[k]? = some x := by
  have hk := (List.getElem?_eq_some_iff.1 h).1
  unfold mkTo
  have hl : ((mkL f sz m xs).take k).length = k := by rw [List.length_take, mkL_length]; omega
  rw [List.getElem?_append_right (by omega), hl, Nat.sub_self]
  simpa using h
theorem mkTo_set {m : Int} {xs : List α} {k : Nat} {x : α} (h : xs[k]? = some x) : (mkTo f sz m xs k).set k (f (m + szL sz xs k) x) = mkTo f sz m xs (k + 1) := by
  have hk := (List.getElem?_eq_some_iff.1 h).1
  have hm := mkL_at f sz m xs k x h
  have hl : ((mkL f sz m xs).take k).length = k := by rw [List.length_take, mkL_length]; omega
  unfold mkTo
  rw [List.set_append_right _ _ (by omega), hl, Nat.sub_self, List.drop_eq_getElem_cons hk, List.set_cons_zero]
  obtain ⟨hk2, hm2⟩ := List.getElem?_eq_some_iff.1 hm
  rw [List.take_succ_eq_append_getElem hk2, hm2, List.append_assoc]
  rfl
end

def mkInts (m : Int) (zs : List Int) : List Int := marks m zs.length
def mkPairs (m : Int) (ps : List (List Int)) : List (List Int) := mkL (fun m zs => mkInts m zs) List.length m ps
theorem szL_pairs (ps : List (List Int)) (k : Nat) : szL List.length ps k = tot ps k := rfl
theorem marks_succ (m : Int) (n : Nat) : marks m (n + 1) = m :: marks (m + 1) n := by
  unfold marks
  rw [List.range_succ_eq_map, List.map_cons, List.map_map]
  simp only [List.cons.injEq]
  refine ⟨by simp, ?_⟩
  apply List.map_congr_left
  intro i _
  simp only [Function.comp]
  push_cast
  omega
theorem szL_mono {α : Type} (sz : α → Nat) (xs : List α) (j k : Nat) (h : j ≤ k) : szL sz xs j ≤ szL sz xs k := by
  obtain ⟨d, rfl⟩ := Nat.le.dest h
  induction d with
  | zero => exact Nat.le_refl _
  | succ d ih =>
    by_cases hk : j + d < xs.length
    · rw [show j + (d + 1) = (j + d) + 1 from rfl, szL_succ sz (List.getElem?_eq_getElem hk)]; have := ih (by omega); omega
    · have e1 : szL sz xs (j + (d + 1)) = szL sz xs (j + d) := by unfold szL; rw [List.take_of_length_le (by omega), List.take_of_length_le (by omega)]
      rw [e1]; exact ih (by omega)

end Go.Proofs.YthiabjkjpjmahaaGreat

/- Lists of numbers that are answered, held as the laws marked them. -/
namespace Go.Proofs.YthiabjkjpjmahaaGreat
open Go.RowKit

def IntsRet (e : Ending) (w' : World) (lo : Nat) (ok : Bool) (zs : List Int) : Prop := ∃ r m d, e = .returned (.tuple #[.slice r m d, .bool ok]) ∧ zs.length = m ∧ w'.ownsRow lo 3 1 (.slice r m d) m (zs.map (.int .i64))
theorem Off.toBelow {lo hi B : Nat} {a b : World} (h : Off (From lo hi) a b) (hlo : B ≤ lo) (hB : B ≤ a.heap.size) : Below B a b := ⟨h.os, h.tape, h.output, h.size, fun k hk => h.block k (by omega) (fun e => by have := e.1; omega)⟩

end Go.Proofs.YthiabjkjpjmahaaGreat
