/- Several texts of one proof, in build order: JoinQ, CkS. -/
import Derived.Test.YthdcjelahoiepabM10
import Derived.Test.YthdcjelahoiepabM5
import Derived.Test.YthdcjelahoiepabM16
import Derived.Test.YthdcjelahoiepabM9

/- Contracts of spec.l3Left and spec.l3Join. -/
namespace Go.Proofs.Ythdcjelahoiepab
open Go.RowKit

set_option maxRecDepth 100000 in
set_option maxHeartbeats 2000000 in
theorem l3Left_any (p : Option Addr) (l d : Nat) (ps : List (List Int)) (na nb : Nat) (w : World) (hl : ps.length = l) (hnb : nb ≤ 6) (hok : pairsOk ps na nb = true) (hp : AtS w p ps) :
    Calls Try.prog 49 #[.slice p l d, .int .i64 nb] w fun e w' => e = .returned (.int .i64 (leftN (side ps 1) nb : Nat)) ∧ w' = w := by
  have l6 : l ≤ 6 := by have := pairsOk_len hok; omega
  have hpair := fun k hk => pairsOk_at hok k hk
  clear hok
  go_enter Try.func49, Try.ntmps49
  go_wp2
  go_loop [5, 6] (fun a i => ∃ k : Nat, k ≤ nb ∧ i = .int .i64 k ∧ a = .int .i64 (leftN (side ps 1) k : Nat)) (fun _ i => nb - (intOf i).toNat)
  case atStart => exact ⟨0, Nat.zero_le _, rfl, rfl⟩
  case round =>
    obtain ⟨k, hk, rfl, rfl⟩ := hrel
    by_cases hlt : k < nb
    · have hle := leftN_le (side ps 1) k
      have HT := Hid.mk (leftN_take (side ps 1) k)
      have HK := Hid.mk (leftN_skip (side ps 1) k)
      generalize leftN (side ps 1) k = N at *
      go_wp2
      go_loop [7, 17] (fun pd i => ∃ i' : Nat, i' ≤ l ∧ i = .int .i64 i' ∧ pd = .bool (((side ps 1).take i').contains (k : Int))) (fun _ i => l - (intOf i).toNat)
      case atStart => exact ⟨0, Nat.zero_le _, rfl, by simp⟩
      case round =>
        obtain ⟨i, hi', rfl, rfl⟩ := hrel
        by_cases hil : i < l
        · obtain ⟨pb, poff, rfl, hpc⟩ := hp.some (by omega)
          obtain ⟨q, qd, hcx, _, hat⟩ := hpc i (by omega)
          obtain ⟨hl2, _⟩ := hpair i (by omega)
          have HC := Hid.mk (contains_snoc (side ps 1) i (by rw [side_length]; omega) (k : Int))
          rw [side_getD ps 1 i (by omega)] at HC
          generalize ps.getD i [] = pr at *
          obtain ⟨b', off', rfl, hb', hc'⟩ := hat.some (by omega)
          have hp1 := hc' 1 (by omega)
          rw [hl2] at hcx
          generalize pr.getD 1 0 = y1 at *
          generalize ((side ps 1).take i).contains (k : Int) = bl at *
          clear hpc hc' hl2 hpair HT HK
          cases bl with
          | true =>
            go_wp2
            go_round
            case rel => exact ⟨i + 1, by omega, by go_num, by rw [HC.out]; rfl⟩
            case measure => simp [intOf]; omega
          | false =>
            go_wp2
            go_round
            case rel => exact ⟨i + 1, by omega, by go_num, by rw [HC.out]; simp⟩
            case measure => simp [intOf]; omega
        · obtain rfl : i = l := by omega
          rw [show (side ps 1).take i = side ps 1 by rw [List.take_of_length_le (by rw [side_length]; omega)]]
          cases hct : (side ps 1).contains (k : Int) with
          | true =>
            have HE := Hid.mk (HK.out hct)
            clear HK HT hct
            go_wp2
            go_round
            case rel => exact ⟨k + 1, by omega, by go_num, by rw [HE.out]⟩
            case measure => simp [intOf]; omega
          | false =>
            have HE := Hid.mk (HT.out hct)
            clear HK HT hct
            go_wp2
            go_round
            case rel => exact ⟨k + 1, by omega, by go_num, by rw [HE.out]; go_num⟩
            case measure => simp [intOf]; omega
    · obtain rfl : k = nb := by omega
      go_wp2
      go_ret
      exact ⟨rfl, rfl⟩

end Go.Proofs.Ythdcjelahoiepab

/- Contract of spec.l6Columns: how many columns a part has. -/
namespace Go.Proofs.Ythdcjelahoiepab
open Go.RowKit

/-- A number and a yes that tell what there is. -/
def ColRet (e : Ending) (O : Option Int) : Prop := ∃ n ok, e = .returned (.tuple #[.int .i64 n, .bool ok]) ∧ (O = none → ok = false) ∧ ∀ m, O = some m → ok = true ∧ n = m
theorem ColRet.yes {e : Ending} {O : Option Int} {n : Int} (h : O = some n) (he : e = .returned (.tuple #[.int .i64 n, .bool true])) : ColRet e O := ⟨n, true, he, fun h' => (by rw [h] at h'; cases h'), fun m hm => ⟨rfl, by rw [h] at hm; cases hm; rfl⟩⟩
theorem ColRet.no {e : Ending} {O : Option Int} {n : Int} (h : O = none) (he : e = .returned (.tuple #[.int .i64 n, .bool false])) : ColRet e O := ⟨n, false, he, fun _ => rfl, fun m hm => (by rw [h] at hm; cases hm)⟩

set_option linter.unusedVariables false in
set_option maxRecDepth 100000 in
set_option maxHeartbeats 4000000 in
theorem cols_2 (A B : Int) (ta : Option Addr) (tn tc : Nat) (ca : Option Addr) (cn cc : Nat) (pa : Option Addr) (pn pc : Nat) (ts : List Tst) (aa : Option Addr) (an ac : Nat) (ah : List Int) (a : Nat) (w : World) (hah : ah.length = an) (han : an ≤ 1048576) (haa : At w aa ah) (hA : numAt ah A = some (a : Int)) (h6 : a ≤ 6) (htz : ts.length = tn) (htn : tn ≤ 1048576) (hta : AtE w ta ts) :
    Calls Try.prog 33 #[.agg (cellsP 2 A B ta tn tc ca cn cc pa pn pc).toArray, .slice aa an ac] w fun e w' => ColRet e (selAt ah A ts) ∧ Below w.heap.size w w' := by
  obtain ⟨kA, rfl, hkA, hgA, _⟩ := numAt_some hA
  obtain ⟨b, off, rfl, hb, hc⟩ := At.some haa (by omega)
  have hcA := hc kA (by omega)
  rw [hgA] at hcA
  have HA := Hid.mk hA
  have hkA' : (kA : Int) < (an : Int) := by omega
  obtain ⟨W, hW⟩ : ∃ W, W = w.alloc (.cells (cellsP 2 kA B ta tn tc ca cn cc pa pn pc).toArray 45) := ⟨_, rfl⟩
  have hW' : W = w.alloc (.cells (cellsP 2 kA B ta tn tc ca cn cc pa pn pc).toArray 45) := hW
  have B0 : Below w.heap.size w W := by rw [hW]; exact (Below.refl _ _).alloc (Nat.le_refl _) _
  have b0 : W.heap[w.heap.size]? = some (.cells (cellsP 2 kA B ta tn tc ca cn cc pa pn pc).toArray 45 (0, 0)) := by rw [hW]; exact heap_alloc_new w _
  have hcA2 := cell_later B0 hcA
  have k0 := blk_cell b0 0 (v := .int .i64 2) rfl
  have k2 := blk_cell b0 2 (v := .int .i64 B) rfl
  have k3 := blk_cell b0 3 (v := .slice ta tn tc) rfl
  have k4 := blk_cell b0 4 (v := .slice ca cn cc) rfl
  have k5 := blk_cell b0 5 (v := .slice pa pn pc) rfl
  clear hA hgA hW'
  have HT : Hid (selAt ah kA ts = if goodEs a ts = true then some (a : Int) else none) := by show _ = _; unfold selAt; rw [HA.out, Option.bind_some]
  clear hc
  go_enter Try.func33, Try.ntmps33
  go_wp2_with fail
  rw [← hW]
  clear hW
  refine (specGoodTests_any ta tn tc ts a W htz htn h6 (AtE.below hta B0)).mono ?_
  rintro e w1 ⟨rfl, hb1⟩
  have B1 := B0.trans (hb1.mono B0.size)
  obtain ⟨G, hG⟩ : ∃ G, goodEs a ts = G := ⟨_, rfl⟩
  rw [hG] at HT ⊢
  clear hG hb1
  cases G with
  | false =>
    go_wp2
    refine bodyPost_ret (v := .tuple #[.int .i64 a, .bool false]) (by simp [results, Try.results33, go_sem]) rfl ⟨ColRet.no (by rw [HT.out]; rfl) rfl, B1⟩
  | true =>
    go_wp2
    refine bodyPost_ret (v := .tuple #[.int .i64 a, .bool true]) (by simp [results, Try.results33, go_sem]) rfl ⟨ColRet.yes (by rw [HT.out]; rfl) rfl, B1⟩

set_option linter.unusedVariables false in
set_option maxRecDepth 100000 in
set_option maxHeartbeats 4000000 in
theorem cols_3 (A B : Int) (ta : Option Addr) (tn tc : Nat) (ca : Option Addr) (cn cc : Nat) (pa : Option Addr) (pn pc : Nat) (zs : List Int) (aa : Option Addr) (an ac : Nat) (ah : List Int) (a : Nat) (w : World) (hah : ah.length = an) (han : an ≤ 1048576) (haa : At w aa ah) (hA : numAt ah A = some (a : Int)) (h6 : a ≤ 6) (hcz : zs.length = cn) (hcn : cn ≤ 1048576) (hca : At w ca zs) :
    Calls Try.prog 33 #[.agg (cellsP 3 A B ta tn tc ca cn cc pa pn pc).toArray, .slice aa an ac] w fun e w' => ColRet e (prjAt ah A zs) ∧ Below w.heap.size w w' := by
  obtain ⟨kA, rfl, hkA, hgA, _⟩ := numAt_some hA
  obtain ⟨b, off, rfl, hb, hc⟩ := At.some haa (by omega)
  have hcA := hc kA (by omega)
  rw [hgA] at hcA
  have HA := Hid.mk hA
  have hkA' : (kA : Int) < (an : Int) := by omega
  obtain ⟨W, hW⟩ : ∃ W, W = w.alloc (.cells (cellsP 3 kA B ta tn tc ca cn cc pa pn pc).toArray 45) := ⟨_, rfl⟩
  have hW' : W = w.alloc (.cells (cellsP 3 kA B ta tn tc ca cn cc pa pn pc).toArray 45) := hW
  have B0 : Below w.heap.size w W := by rw [hW]; exact (Below.refl _ _).alloc (Nat.le_refl _) _
  have b0 : W.heap[w.heap.size]? = some (.cells (cellsP 3 kA B ta tn tc ca cn cc pa pn pc).toArray 45 (0, 0)) := by rw [hW]; exact heap_alloc_new w _
  have hcA2 := cell_later B0 hcA
  have k0 := blk_cell b0 0 (v := .int .i64 3) rfl
  have k2 := blk_cell b0 2 (v := .int .i64 B) rfl
  have k3 := blk_cell b0 3 (v := .slice ta tn tc) rfl
  have k4 := blk_cell b0 4 (v := .slice ca cn cc) rfl
  have k5 := blk_cell b0 5 (v := .slice pa pn pc) rfl
  clear hA hgA hW'
  have HT : Hid (prjAt ah kA zs = if colsOk zs a = true then some (cn : Int) else none) := by show _ = _; unfold prjAt; rw [HA.out, Option.bind_some, hcz]; rfl
  have HC := Hid.mk (At.below hca B0)
  have HZ := Hid.mk hcz
  clear hc hca hcz
  have hq : ∀ W' : World, W' = W ∨ W' = W.drew → Calls Try.prog 47 #[.slice ca cn cc, .int .i64 a] W' fun e w' => e = .returned (.bool (colsOk zs a)) ∧ w' = W' := fun W' h => l1Columns_any ca cn cc zs a W' HZ.out (by omega) (by omega) (by rcases h with rfl | rfl; exact HC.out; exact HC.out.drew)
  have HQ := Hid.mk hq
  clear hq
  go_enter Try.func33, Try.ntmps33
  go_upto_region 6 with fail
  rw [← hW]
  clear hW
  go_region_held3 (fun w' => w'.cell? ⟨w.heap.size, 4, none⟩ = some (.slice ca cn cc)) (exact k4)
    (first | (go_at_call 47; refine (HQ.out _ (.inr rfl)).mono ?_; rintro e w1 ⟨rfl, rfl⟩; have k4' : W.drew.cell? ⟨w.heap.size, 4, none⟩ = some (.slice ca cn cc) := k4) | fail)
  obtain ⟨G, hG⟩ : ∃ G, colsOk zs a = G := ⟨_, rfl⟩
  rw [hG] at HT ⊢
  clear hG
  cases G with
  | false =>
    go_wp2
    refine bodyPost_ret (v := .tuple #[.int .i64 cn, .bool false]) (by simp [results, Try.results33, go_sem]) rfl ⟨ColRet.no (by rw [HT.out]; rfl) rfl, B0.drew⟩
  | true =>
    go_wp2
    refine bodyPost_ret (v := .tuple #[.int .i64 cn, .bool true]) (by simp [results, Try.results33, go_sem]) rfl ⟨ColRet.yes (by rw [HT.out]; rfl) rfl, B0.drew⟩

set_option linter.unusedVariables false in
set_option maxRecDepth 100000 in
set_option maxHeartbeats 4000000 in
theorem cols_4 (A B : Int) (ta : Option Addr) (tn tc : Nat) (ca : Option Addr) (cn cc : Nat) (pa : Option Addr) (pn pc : Nat) (ps : List (List Int)) (a' : Nat) (aa : Option Addr) (an ac : Nat) (ah : List Int) (a : Nat) (w : World) (hah : ah.length = an) (han : an ≤ 1048576) (haa : At w aa ah) (hA : numAt ah A = some (a : Int)) (h6 : a ≤ 6) (hpz : ps.length = pn) (hpn : pn ≤ 1048576) (hpa : AtS w pa ps) (hB : numAt ah B = some (a' : Int)) (h6' : a' ≤ 6) :
    Calls Try.prog 33 #[.agg (cellsP 4 A B ta tn tc ca cn cc pa pn pc).toArray, .slice aa an ac] w fun e w' => ColRet e (jonAt ah A B ps) ∧ Below w.heap.size w w' := by
  obtain ⟨kA, rfl, hkA, hgA, _⟩ := numAt_some hA
  obtain ⟨b, off, rfl, hb, hc⟩ := At.some haa (by omega)
  have hcA := hc kA (by omega)
  rw [hgA] at hcA
  have HA := Hid.mk hA
  have hkA' : (kA : Int) < (an : Int) := by omega
  obtain ⟨W, hW⟩ : ∃ W, W = w.alloc (.cells (cellsP 4 kA B ta tn tc ca cn cc pa pn pc).toArray 45) := ⟨_, rfl⟩
  have hW' : W = w.alloc (.cells (cellsP 4 kA B ta tn tc ca cn cc pa pn pc).toArray 45) := hW
  have B0 : Below w.heap.size w W := by rw [hW]; exact (Below.refl _ _).alloc (Nat.le_refl _) _
  have b0 : W.heap[w.heap.size]? = some (.cells (cellsP 4 kA B ta tn tc ca cn cc pa pn pc).toArray 45 (0, 0)) := by rw [hW]; exact heap_alloc_new w _
  have hcA2 := cell_later B0 hcA
  have k0 := blk_cell b0 0 (v := .int .i64 4) rfl
  have k2 := blk_cell b0 2 (v := .int .i64 B) rfl
  have k3 := blk_cell b0 3 (v := .slice ta tn tc) rfl
  have k4 := blk_cell b0 4 (v := .slice ca cn cc) rfl
  have k5 := blk_cell b0 5 (v := .slice pa pn pc) rfl
  clear hA hgA hW'
  obtain ⟨kB, rfl, hkB, hgB, _⟩ := numAt_some hB
  have hcB := hc kB (by omega)
  rw [hgB] at hcB
  have hcB2 := cell_later B0 hcB
  have hkB' : (kB : Int) < (an : Int) := by omega
  have HT : Hid (jonAt ah kA kB ps = if pairsOk ps a a' = true ∧ joinC a a' ps ≤ 6 then some (joinC a a' ps : Int) else none) := by show _ = _; unfold jonAt; rw [HA.out, Option.bind_some, hB, Option.bind_some]; rfl
  have HP := Hid.mk (AtS.below hpa B0)
  have HZ := Hid.mk hpz
  clear hc hpa hB hgB hpz
  cases hok : pairsOk ps a a' with
  | false =>
    have HO := Hid.mk hok
    clear hok
    go_enter Try.func33, Try.ntmps33
    go_wp2_with fail
    rw [← hW]
    clear hW
    refine (l1Pairs_any pa pn pc ps a a' W HZ.out (by omega) HP.out).mono ?_
    rintro e w1 ⟨rfl, rfl⟩
    rw [HO.out]
    go_wp2
    refine bodyPost_ret (v := .tuple #[.int .i64 0, .bool false]) (by simp [results, Try.results33, go_sem]) rfl ⟨ColRet.no (by rw [HT.out, if_neg (by rw [HO.out]; simp)]) rfl, B0⟩
  | true =>
    have HO := Hid.mk hok
    have HJ : Hid (joinC a a' ps = a + leftN (side ps 1) a') := by show _ = _; unfold joinC; simp
    have hl6 := leftN_le (side ps 1) a'
    clear hok
    go_enter Try.func33, Try.ntmps33
    go_wp2_with fail
    rw [← hW]
    clear hW
    refine (l1Pairs_any pa pn pc ps a a' W HZ.out (by omega) HP.out).mono ?_
    rintro e w1 ⟨rfl, rfl⟩
    rw [HO.out]
    go_wp2_with fail
    refine (l3Left_any pa pn pc ps a a' _ HZ.out h6' HO.out HP.out).mono ?_
    rintro e w2 ⟨rfl, rfl⟩
    obtain ⟨J, hJ⟩ : ∃ J, leftN (side ps 1) a' = J := ⟨_, rfl⟩
    rw [hJ] at HJ hl6 ⊢
    clear hJ
    have hw : IntKind.i64.wrap ((a : Int) + (J : Int)) = ((a + J : Nat) : Int) := by rw [IntWalk.i64_in _ (by omega)]; omega
    by_cases h9 : a + J ≤ 6
    · have h9' : ((a + J : Nat) : Int) ≤ 6 := by omega
      have HH : Hid (a + J ≤ 6) := h9
      generalize a + J = q at *
      go_wp2
      refine bodyPost_ret (v := .tuple #[.int .i64 q, .bool true]) (by simp [results, Try.results33, go_sem]; try omega) rfl ⟨ColRet.yes (by rw [HT.out, HJ.out, if_pos ⟨HO.out, HH.out⟩]) rfl, B0⟩
    · have h9' : ¬ ((a + J : Nat) : Int) ≤ 6 := by omega
      have HH : Hid (¬ a + J ≤ 6) := h9
      generalize a + J = q at *
      go_wp2
      refine bodyPost_ret (v := .tuple #[.int .i64 q, .bool false]) (by simp [results, Try.results33, go_sem]; try omega) rfl ⟨ColRet.no (by rw [HT.out, HJ.out, if_neg (fun h => HH.out h.2)]) rfl, B0⟩

set_option linter.unusedVariables false in
set_option maxRecDepth 100000 in
set_option maxHeartbeats 4000000 in
theorem cols_5 (A B : Int) (ta : Option Addr) (tn tc : Nat) (ca : Option Addr) (cn cc : Nat) (pa : Option Addr) (pn pc : Nat) (a' : Nat) (aa : Option Addr) (an ac : Nat) (ah : List Int) (a : Nat) (w : World) (hah : ah.length = an) (han : an ≤ 1048576) (haa : At w aa ah) (hA : numAt ah A = some (a : Int)) (h6 : a ≤ 6) (hB : numAt ah B = some (a' : Int)) (h6' : a' ≤ 6) :
    Calls Try.prog 33 #[.agg (cellsP 5 A B ta tn tc ca cn cc pa pn pc).toArray, .slice aa an ac] w fun e w' => ColRet e (twoAt ah A B) ∧ Below w.heap.size w w' := by
  obtain ⟨kA, rfl, hkA, hgA, _⟩ := numAt_some hA
  obtain ⟨b, off, rfl, hb, hc⟩ := At.some haa (by omega)
  have hcA := hc kA (by omega)
  rw [hgA] at hcA
  have HA := Hid.mk hA
  have hkA' : (kA : Int) < (an : Int) := by omega
  obtain ⟨W, hW⟩ : ∃ W, W = w.alloc (.cells (cellsP 5 kA B ta tn tc ca cn cc pa pn pc).toArray 45) := ⟨_, rfl⟩
  have hW' : W = w.alloc (.cells (cellsP 5 kA B ta tn tc ca cn cc pa pn pc).toArray 45) := hW
  have B0 : Below w.heap.size w W := by rw [hW]; exact (Below.refl _ _).alloc (Nat.le_refl _) _
  have b0 : W.heap[w.heap.size]? = some (.cells (cellsP 5 kA B ta tn tc ca cn cc pa pn pc).toArray 45 (0, 0)) := by rw [hW]; exact heap_alloc_new w _
  have hcA2 := cell_later B0 hcA
  have k0 := blk_cell b0 0 (v := .int .i64 5) rfl
  have k2 := blk_cell b0 2 (v := .int .i64 B) rfl
  have k3 := blk_cell b0 3 (v := .slice ta tn tc) rfl
  have k4 := blk_cell b0 4 (v := .slice ca cn cc) rfl
  have k5 := blk_cell b0 5 (v := .slice pa pn pc) rfl
  clear hA hgA hW'
  obtain ⟨kB, rfl, hkB, hgB, _⟩ := numAt_some hB
  have hcB := hc kB (by omega)
  rw [hgB] at hcB
  have hcB2 := cell_later B0 hcB
  have hkB' : (kB : Int) < (an : Int) := by omega
  have HT : Hid (twoAt ah kA kB = if (a : Int) = (a' : Int) then some (a : Int) else none) := by show _ = _; unfold twoAt; rw [HA.out, Option.bind_some, hB, Option.bind_some]
  clear hc hB hgB
  by_cases he : (a : Int) = (a' : Int)
  · have HH := Hid.mk he
    have hd : ((a : Int) == (a' : Int)) = true := by simpa using he
    have hd' : decide ((a : Int) = (a' : Int)) = true := by simpa using he
    clear he
    go_enter Try.func33, Try.ntmps33
    go_upto_region 15 with fail
    rw [← hW]
    clear hW
    go_region_held3 (fun w' => w'.cell? ⟨w.heap.size, 2, none⟩ = some (.int .i64 kB) ∧ w'.cell? ⟨b, off + kB, none⟩ = some (.int .i64 a')) (exact ⟨k2, hcB2⟩) (fail)
    go_wp2
    refine bodyPost_ret (v := .tuple #[.int .i64 a, .bool true]) (by simp [results, Try.results33, go_sem, HH.out]) rfl ⟨ColRet.yes (by rw [HT.out, if_pos HH.out]) rfl, B0.drew⟩
  · have HH := Hid.mk he
    have hd : ((a : Int) == (a' : Int)) = false := by simpa using he
    have hd' : decide ((a : Int) = (a' : Int)) = false := by simpa using he
    clear he
    go_enter Try.func33, Try.ntmps33
    go_upto_region 15 with fail
    rw [← hW]
    clear hW
    go_region_held3 (fun w' => w'.cell? ⟨w.heap.size, 2, none⟩ = some (.int .i64 kB) ∧ w'.cell? ⟨b, off + kB, none⟩ = some (.int .i64 a')) (exact ⟨k2, hcB2⟩) (fail)
    go_wp2
    refine bodyPost_ret (v := .tuple #[.int .i64 a, .bool false]) (by simp [results, Try.results33, go_sem]; try exact HH.out) rfl ⟨ColRet.no (by rw [HT.out, if_neg HH.out]) rfl, B0.drew⟩

set_option linter.unusedVariables false in
set_option maxRecDepth 100000 in
set_option maxHeartbeats 4000000 in
theorem cols_6 (A B : Int) (ta : Option Addr) (tn tc : Nat) (ca : Option Addr) (cn cc : Nat) (pa : Option Addr) (pn pc : Nat) (a' : Nat) (aa : Option Addr) (an ac : Nat) (ah : List Int) (a : Nat) (w : World) (hah : ah.length = an) (han : an ≤ 1048576) (haa : At w aa ah) (hA : numAt ah A = some (a : Int)) (h6 : a ≤ 6) (hB : numAt ah B = some (a' : Int)) (h6' : a' ≤ 6) :
    Calls Try.prog 33 #[.agg (cellsP 6 A B ta tn tc ca cn cc pa pn pc).toArray, .slice aa an ac] w fun e w' => ColRet e (twoAt ah A B) ∧ Below w.heap.size w w' := by
  obtain ⟨kA, rfl, hkA, hgA, _⟩ := numAt_some hA
  obtain ⟨b, off, rfl, hb, hc⟩ := At.some haa (by omega)
  have hcA := hc kA (by omega)
  rw [hgA] at hcA
  have HA := Hid.mk hA
  have hkA' : (kA : Int) < (an : Int) := by omega
  obtain ⟨W, hW⟩ : ∃ W, W = w.alloc (.cells (cellsP 6 kA B ta tn tc ca cn cc pa pn pc).toArray 45) := ⟨_, rfl⟩
  have hW' : W = w.alloc (.cells (cellsP 6 kA B ta tn tc ca cn cc pa pn pc).toArray 45) := hW
  have B0 : Below w.heap.size w W := by rw [hW]; exact (Below.refl _ _).alloc (Nat.le_refl _) _
  have b0 : W.heap[w.heap.size]? = some (.cells (cellsP 6 kA B ta tn tc ca cn cc pa pn pc).toArray 45 (0, 0)) := by rw [hW]; exact heap_alloc_new w _
  have hcA2 := cell_later B0 hcA
  have k0 := blk_cell b0 0 (v := .int .i64 6) rfl
  have k2 := blk_cell b0 2 (v := .int .i64 B) rfl
  have k3 := blk_cell b0 3 (v := .slice ta tn tc) rfl
  have k4 := blk_cell b0 4 (v := .slice ca cn cc) rfl
  have k5 := blk_cell b0 5 (v := .slice pa pn pc) rfl
  clear hA hgA hW'
  obtain ⟨kB, rfl, hkB, hgB, _⟩ := numAt_some hB
  have hcB := hc kB (by omega)
  rw [hgB] at hcB
  have hcB2 := cell_later B0 hcB
  have hkB' : (kB : Int) < (an : Int) := by omega
  have HT : Hid (twoAt ah kA kB = if (a : Int) = (a' : Int) then some (a : Int) else none) := by show _ = _; unfold twoAt; rw [HA.out, Option.bind_some, hB, Option.bind_some]
  clear hc hB hgB
  by_cases he : (a : Int) = (a' : Int)
  · have HH := Hid.mk he
    have hd : ((a : Int) == (a' : Int)) = true := by simpa using he
    have hd' : decide ((a : Int) = (a' : Int)) = true := by simpa using he
    clear he
    go_enter Try.func33, Try.ntmps33
    go_upto_region 15 with fail
    rw [← hW]
    clear hW
    go_region_held3 (fun w' => w'.cell? ⟨w.heap.size, 2, none⟩ = some (.int .i64 kB) ∧ w'.cell? ⟨b, off + kB, none⟩ = some (.int .i64 a')) (exact ⟨k2, hcB2⟩) (fail)
    go_wp2
    refine bodyPost_ret (v := .tuple #[.int .i64 a, .bool true]) (by simp [results, Try.results33, go_sem, HH.out]) rfl ⟨ColRet.yes (by rw [HT.out, if_pos HH.out]) rfl, B0.drew⟩
  · have HH := Hid.mk he
    have hd : ((a : Int) == (a' : Int)) = false := by simpa using he
    have hd' : decide ((a : Int) = (a' : Int)) = false := by simpa using he
    clear he
    go_enter Try.func33, Try.ntmps33
    go_upto_region 15 with fail
    rw [← hW]
    clear hW
    go_region_held3 (fun w' => w'.cell? ⟨w.heap.size, 2, none⟩ = some (.int .i64 kB) ∧ w'.cell? ⟨b, off + kB, none⟩ = some (.int .i64 a')) (exact ⟨k2, hcB2⟩) (fail)
    go_wp2
    refine bodyPost_ret (v := .tuple #[.int .i64 a, .bool false]) (by simp [results, Try.results33, go_sem]; try exact HH.out) rfl ⟨ColRet.no (by rw [HT.out, if_neg HH.out]) rfl, B0.drew⟩

set_option linter.unusedVariables false in
set_option maxRecDepth 100000 in
set_option maxHeartbeats 4000000 in
theorem cols_o (K : Int) (A B : Int) (ta : Option Addr) (tn tc : Nat) (ca : Option Addr) (cn cc : Nat) (pa : Option Addr) (pn pc : Nat)  (aa : Option Addr) (an ac : Nat) (ah : List Int) (a : Nat) (w : World) (hah : ah.length = an) (han : an ≤ 1048576) (haa : At w aa ah) (hA : numAt ah A = some (a : Int)) (h6 : a ≤ 6) (hK : K ≠ 2 ∧ K ≠ 3 ∧ K ≠ 4 ∧ K ≠ 5 ∧ K ≠ 6) :
    Calls Try.prog 33 #[.agg (cellsP K A B ta tn tc ca cn cc pa pn pc).toArray, .slice aa an ac] w fun e w' => ColRet e (if K = 7 then numAt ah A else none) ∧ Below w.heap.size w w' := by
  obtain ⟨kA, rfl, hkA, hgA, _⟩ := numAt_some hA
  obtain ⟨b, off, rfl, hb, hc⟩ := At.some haa (by omega)
  have hcA := hc kA (by omega)
  rw [hgA] at hcA
  have HA := Hid.mk hA
  have hkA' : (kA : Int) < (an : Int) := by omega
  obtain ⟨W, hW⟩ : ∃ W, W = w.alloc (.cells (cellsP K kA B ta tn tc ca cn cc pa pn pc).toArray 45) := ⟨_, rfl⟩
  have hW' : W = w.alloc (.cells (cellsP K kA B ta tn tc ca cn cc pa pn pc).toArray 45) := hW
  have B0 : Below w.heap.size w W := by rw [hW]; exact (Below.refl _ _).alloc (Nat.le_refl _) _
  have b0 : W.heap[w.heap.size]? = some (.cells (cellsP K kA B ta tn tc ca cn cc pa pn pc).toArray 45 (0, 0)) := by rw [hW]; exact heap_alloc_new w _
  have hcA2 := cell_later B0 hcA
  have k0 := blk_cell b0 0 (v := .int .i64 K) rfl
  have k2 := blk_cell b0 2 (v := .int .i64 B) rfl
  have k3 := blk_cell b0 3 (v := .slice ta tn tc) rfl
  have k4 := blk_cell b0 4 (v := .slice ca cn cc) rfl
  have k5 := blk_cell b0 5 (v := .slice pa pn pc) rfl
  clear hA hgA hW'
  obtain ⟨h2, h3, h4, h5, h6x⟩ := hK
  clear hc
  by_cases h7 : K = 7
  · subst h7
    go_enter Try.func33, Try.ntmps33
    go_upto_region 16 with fail
    rw [← hW]
    clear hW
    go_region_held3 (fun w' => w'.cell? ⟨w.heap.size, 0, none⟩ = some (.int .i64 7)) (exact k0) (fail)
    go_wp2
    refine bodyPost_ret (v := .tuple #[.int .i64 a, .bool true]) (by simp [results, Try.results33, go_sem]) rfl ⟨ColRet.yes (by first | exact HA.out | (rw [if_pos rfl]; exact HA.out)) rfl, B0.drew⟩
  · have HH := Hid.mk h7
    go_enter Try.func33, Try.ntmps33
    go_upto_region 16 with fail
    rw [← hW]
    clear hW
    go_region_held3 (fun w' => w'.cell? ⟨w.heap.size, 0, none⟩ = some (.int .i64 K)) (exact k0) (fail)
    go_wp2
    refine bodyPost_ret (v := .tuple #[.int .i64 a, .bool false]) (by simp [results, Try.results33, go_sem]; try exact HH.out) rfl ⟨ColRet.no (by first | rfl | rw [if_neg HH.out]) rfl, B0.drew⟩

end Go.Proofs.Ythdcjelahoiepab
