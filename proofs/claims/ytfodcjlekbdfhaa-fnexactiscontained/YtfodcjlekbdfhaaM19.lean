/- Several texts of one proof, in build order: SpI, QrH, QrT, IntE. -/
import Derived.Test.YtfodcjlekbdfhaaM17
import Derived.Test.YtfodcjlekbdfhaaM18
import Derived.Test.YtfodcjlekbdfhaaM6
import Derived.Test.YtfodcjlekbdfhaaM4
import Derived.Deep.CutBlock
import Derived.Test.YtfodcjlekbdfhaaM3

/- Contracts of spec.l10Contained, spec.IsContained. -/
namespace Go.Proofs.Ytfodcjlekbdfhaa
open Go.RowKit

theorem gq_some {hs : List Int} {zs : List Atm} {ts : List Int} (h : gqB hs zs ts = true) : bl (vset zs) ≠ [] := fun he => by
  obtain ⟨h1, h2, _, h4, _⟩ := gq_parts h
  obtain ⟨a, ha⟩ : ∃ a, a ∈ zs := ⟨zs[0], List.getElem_mem _⟩
  have h5 := List.all_eq_true.1 h4 a ha
  simp only [atOk, Bool.and_eq_true, decide_eq_true_eq] at h5
  have h6 := tabOk_in h1 a.1.toNat (by omega)
  have h7 : 0 < a.2.length := by omega
  have h8 : a.2[0] ∈ bl (vset zs) := (mem_bl_mk (flat_in (gq_in h)) _).2 (List.mem_flatMap.2 ⟨a, ha, List.getElem_mem h7⟩)
  rw [he] at h8
  cases h8
theorem ic_map {ph qh : List Int} {pz qz : List Atm} {ts : List Int} (_hp : gqB ph pz ts = true) (hq : gqB qh qz ts = true) : (lmF qh ph qz pz).map wnum = mapF qh ph qz pz 6 [] :=
  lm_map ⟨gq_head hq, gq_in hq⟩ (gq_parts hq).2.2.2.2 (gq_some hq)

set_option maxRecDepth 100000 in
theorem l10Contained_any (pha : Option Addr) (phn phc : Nat) (ph : List Int) (pa : Option Addr) (pn pc : Nat) (pz : List Atm) (qha : Option Addr) (qhn qhc : Nat) (qh : List Int) (qa : Option Addr) (qn qc : Nat) (qz : List Atm) (w : World) (hph : ph.length = phn) (hpb : phn ≤ 9223372036854775807) (hpha : At w pha ph) (hpz : pz.length = pn) (hpzb : pn ≤ 9223372036854775807) (hpa : AtQ w pa pz) (hqh : qh.length = qhn) (hqb : qhn ≤ 9223372036854775807) (hqha : At w qha qh) (hqz : qz.length = qn) (hqzb : qn ≤ 9223372036854775807) (hqa : AtQ w qa qz) (hI : InV qh qz) (hle : qhn ≤ phn) (hfit : Fit qz pz) (hIp : ∀ a ∈ pz, ∀ v ∈ a.2, (0 : Int) ≤ v ∧ v < 6) :
    Calls Try.prog 42 #[.agg #[.slice pha phn phc, .slice pa pn pc], .agg #[.slice qha qhn qhc, .slice qa qn qc]] w fun e w' => MapRet (mapF qh ph qz pz 6 []) e w' w.heap.size ∧ Below w.heap.size w w' := by
  obtain ⟨W, hW⟩ : ∃ W, W = (w.alloc (.cells #[.slice pha phn phc, .slice pa pn pc] 30)).alloc (.cells #[.slice qha qhn qhc, .slice qa qn qc] 30) := ⟨_, rfl⟩
  have B0 : Below w.heap.size w W := by rw [hW]; exact ((Below.refl _ _).alloc (Nat.le_refl _) _).alloc (by simp) _
  have b0 : W.heap[w.heap.size]? = some (.cells #[.slice pha phn phc, .slice pa pn pc] 30 (0, 0)) := by rw [hW]; exact blk_alloc (heap_alloc_new w _) _
  have b1 : W.heap[w.heap.size + 1]? = some (.cells #[.slice qha qhn qhc, .slice qa qn qc] 30 (0, 0)) := by
    rw [hW]
    have h := heap_alloc_new (w.alloc (.cells #[.slice pha phn phc, .slice pa pn pc] 30)) (.cells #[.slice qha qhn qhc, .slice qa qn qc] 30)
    simpa only [World.size_alloc] using h
  have c0 := blk_cell b0 0 (v := .slice pha phn phc) rfl
  have c1 := blk_cell b0 1 (v := .slice pa pn pc) rfl
  have d0 := blk_cell b1 0 (v := .slice qha qhn qhc) rfl
  have d1 := blk_cell b1 1 (v := .slice qa qn qc) rfl
  have KM : Hid (Calls Try.prog 69 #[.agg #[.slice pha phn phc, .slice pa pn pc], .agg #[.slice qha qhn qhc, .slice qa qn qc], .int .i64 0, .slice none 0 0] W fun e w' => MapRet (mapF qh ph qz pz 6 []) e w' W.heap.size ∧ Below W.heap.size W w') :=
    l10Map_any pha phn phc ph pa pn pc pz qha qhn qhc qh qa qn qc qz 6 0 rfl none 0 [] W hph hpb (At.below hpha B0) hpz hpzb (AtSl.below hpa B0) hqh hqb (At.below hqha B0) hqz hqzb (AtSl.below hqa B0) hI hle hfit hIp rfl (.inl rfl) (fun _ => rfl)
  obtain ⟨O, hO⟩ : ∃ O, O = mapF qh ph qz pz 6 [] := ⟨_, rfl⟩
  rw [← hO] at KM ⊢
  clear hO hph hpha hpz hpa hqh hqha hqz hqa hI hfit hIp b0 b1
  go_enter Try.func42, Try.ntmps42
  go_upto_region 1 with fail
  rw [← hW]
  clear hW
  go_wp2_with fail
  refine KM.out.mono ?_
  rintro e w2 ⟨hret, hb2⟩
  have B2 := B0.trans (hb2.mono B0.size)
  cases O with
  | none =>
    have hret : e = .returned (.tuple #[.slice none 0 0, .bool false]) := hret
    subst hret
    go_wp2
    exact bodyPost_ret (v := .tuple #[.slice none 0 0, .bool false]) (by simp [results, Try.results42, go_sem]) rfl ⟨rfl, B2⟩
  | some r =>
    obtain ⟨ra, rd, rfl, hor⟩ := hret
    have HOR := Hid.mk (owns_mono hor B0.size)
    clear hor
    go_wp2
    exact bodyPost_ret (v := .tuple #[.slice ra 6 rd, .bool true]) (by simp [results, Try.results42, go_sem]) rfl ⟨⟨ra, rd, rfl, HOR.out⟩, B2⟩

set_option maxRecDepth 100000 in
set_option maxHeartbeats 8000000 in
theorem specIsContained (pha : Option Addr) (phn phc : Nat) (ph : List Int) (pa : Option Addr) (pn pc : Nat) (pz : List Atm) (qha : Option Addr) (qhn qhc : Nat) (qh : List Int) (qa : Option Addr) (qn qc : Nat) (qz : List Atm) (ta : Option Addr) (tn tc : Nat) (ts : List Int) (w : World)
    (h1 : ph.length = phn) (h2 : phn ≤ 9223372036854775807) (h3 : At w pha ph) (h4 : pz.length = pn) (h5 : pn ≤ 9223372036854775807) (h6 : AtQ w pa pz) (g1 : qh.length = qhn) (g2 : qhn ≤ 9223372036854775807) (g3 : At w qha qh) (g4 : qz.length = qn) (g5 : qn ≤ 9223372036854775807) (g6 : AtQ w qa qz) (t1 : ts.length = tn) (t2 : tn ≤ 9223372036854775807) (t3 : At w ta ts) :
    Calls Try.prog 14 #[.agg #[.slice pha phn phc, .slice pa pn pc], .agg #[.slice qha qhn qhc, .slice qa qn qc], .slice ta tn tc] w fun e w' => IcRet e w' w.heap.size (icM ph pz qh qz ts).isSome (icB ph pz qh qz ts) (icL ph pz qh qz ts) ∧ Below w.heap.size w w' := by
  obtain ⟨W, hW⟩ : ∃ W, W = (w.alloc (.cells #[.slice pha phn phc, .slice pa pn pc] 30)).alloc (.cells #[.slice qha qhn qhc, .slice qa qn qc] 30) := ⟨_, rfl⟩
  have B0 : Below w.heap.size w W := by rw [hW]; exact ((Below.refl _ _).alloc (Nat.le_refl _) _).alloc (by simp) _
  have b0 : W.heap[w.heap.size]? = some (.cells #[.slice pha phn phc, .slice pa pn pc] 30 (0, 0)) := by rw [hW]; exact blk_alloc (heap_alloc_new w _) _
  have b1 : W.heap[w.heap.size + 1]? = some (.cells #[.slice qha qhn qhc, .slice qa qn qc] 30 (0, 0)) := by
    rw [hW]
    have h := heap_alloc_new (w.alloc (.cells #[.slice pha phn phc, .slice pa pn pc] 30)) (.cells #[.slice qha qhn qhc, .slice qa qn qc] 30)
    simpa only [World.size_alloc] using h
  have KP : Hid (∀ w', Below W.heap.size W w' → Calls Try.prog 8 #[.agg #[.slice pha phn phc, .slice pa pn pc], .slice ta tn tc] w' fun e w'' => e = .returned (.bool (gqB ph pz ts)) ∧ Below w'.heap.size w' w'') := fun w' h => by
    have hb := B0.trans (h.mono B0.size)
    exact specGoodQuery pha phn phc ph pa pn pc pz ta tn tc ts w' h1 h2 (At.below h3 hb) h4 h5 (AtSl.below h6 hb) t1 t2 (At.below t3 hb)
  have KQ : Hid (∀ w', Below W.heap.size W w' → Calls Try.prog 8 #[.agg #[.slice qha qhn qhc, .slice qa qn qc], .slice ta tn tc] w' fun e w'' => e = .returned (.bool (gqB qh qz ts)) ∧ Below w'.heap.size w' w'') := fun w' h => by
    have hb := B0.trans (h.mono B0.size)
    exact specGoodQuery qha qhn qhc qh qa qn qc qz ta tn tc ts w' g1 g2 (At.below g3 hb) g4 g5 (AtSl.below g6 hb) t1 t2 (At.below t3 hb)
  have HNO : Hid (icB ph pz qh qz ts = false → ∀ w' : World, IcRet (.returned (.tuple #[.slice none 0 0, .bool false, .bool false])) w' w.heap.size (icM ph pz qh qz ts).isSome (icB ph pz qh qz ts) (icL ph pz qh qz ts)) := fun hf w' => by
    have hM : icM ph pz qh qz ts = none := by unfold icM; rw [hf]; rfl
    have hL : icL ph pz qh qz ts = [] := by unfold icL; rw [hM]
    rw [hf, hM, hL]
    exact ⟨none, 0, 0, rfl, rfl, World.ownsRow_nil _ _ _ _⟩
  have c0 := blk_cell b0 0 (v := .slice pha phn phc) rfl
  have c1 := blk_cell b0 1 (v := .slice pa pn pc) rfl
  have d0 := blk_cell b1 0 (v := .slice qha qhn qhc) rfl
  have d1 := blk_cell b1 1 (v := .slice qa qn qc) rfl
  cases hp : gqB ph pz ts with
  | false =>
    rw [hp] at KP
    have HF := Hid.mk (HNO.out (by unfold icB; rw [hp]; rfl))
    go_enter Try.func14, Try.ntmps14
    go_upto_region 1 with fail
    rw [← hW]
    clear hW
    go_wp2_with fail
    refine (KP.out _ (Below.refl _ _)).mono ?_
    rintro e w1 ⟨rfl, hb1⟩
    go_wp2
    exact bodyPost_ret (v := .tuple #[.slice none 0 0, .bool false, .bool false]) (by simp [results, Try.results14, go_sem]) rfl ⟨HF.out _, B0.trans (hb1.mono B0.size)⟩
  | true =>
  cases hq : gqB qh qz ts with
  | false =>
    rw [hp] at KP
    rw [hq] at KQ
    have HF := Hid.mk (HNO.out (by unfold icB; rw [hq]; simp))
    go_enter Try.func14, Try.ntmps14
    go_upto_region 1 with fail
    rw [← hW]
    clear hW
    go_wp2_with fail
    refine (KP.out _ (Below.refl _ _)).mono ?_
    rintro e w1 ⟨rfl, hb1⟩
    have d0 := cell_later hb1 d0
    have d1 := cell_later hb1 d1
    go_wp2_with fail
    refine (KQ.out _ hb1).mono ?_
    rintro e w2 ⟨rfl, hb2⟩
    have hb := hb1.trans (hb2.mono hb1.size)
    go_wp2
    exact bodyPost_ret (v := .tuple #[.slice none 0 0, .bool false, .bool false]) (by simp [results, Try.results14, go_sem]) rfl ⟨HF.out _, B0.trans (hb.mono B0.size)⟩
  | true =>
  by_cases hl : phn = qhn
  rotate_left
  · have hli : ¬ (phn : Int) = (qhn : Int) := by omega
    rw [hp] at KP
    rw [hq] at KQ
    have HF := Hid.mk (HNO.out (by unfold icB; rw [decide_eq_false (by omega)]; simp))
    go_enter Try.func14, Try.ntmps14
    go_upto_region 1 with fail
    rw [← hW]
    clear hW
    go_wp2_with fail
    refine (KP.out _ (Below.refl _ _)).mono ?_
    rintro e w1 ⟨rfl, hb1⟩
    have d0 := cell_later hb1 d0
    have d1 := cell_later hb1 d1
    have c0 := cell_later hb1 c0
    go_wp2_with fail
    refine (KQ.out _ hb1).mono ?_
    rintro e w2 ⟨rfl, hb2⟩
    have d0 := cell_later hb2 d0
    have c0 := cell_later hb2 c0
    have hb := hb1.trans (hb2.mono hb1.size)
    go_wp2
    exact bodyPost_ret (v := .tuple #[.slice none 0 0, .bool false, .bool false]) (by simp [results, Try.results14, go_sem]) rfl ⟨HF.out _, B0.trans (hb.mono B0.size)⟩
  have hB : icB ph pz qh qz ts = true := by unfold icB; rw [hp, hq, decide_eq_true (by omega)]; rfl
  have hM : icM ph pz qh qz ts = lmF qh ph qz pz := by unfold icM; rw [hB]; rfl
  have hLM := ic_map hp hq
  have KL : Hid (∀ w', Below W.heap.size W w' → Calls Try.prog 42 #[.agg #[.slice pha phn phc, .slice pa pn pc], .agg #[.slice qha qhn qhc, .slice qa qn qc]] w' fun e w'' => MapRet (mapF qh ph qz pz 6 []) e w'' w'.heap.size ∧ Below w'.heap.size w' w'') := fun w' h => by
    have hb := B0.trans (h.mono B0.size)
    exact l10Contained_any pha phn phc ph pa pn pc pz qha qhn qhc qh qa qn qc qz w' h1 h2 (At.below h3 hb) h4 h5 (AtSl.below h6 hb) g1 g2 (At.below g3 hb) g4 g5 (AtSl.below g6 hb) ⟨gq_head hq, gq_in hq⟩ (by omega) (gq_fit hq hp) (gq_in hp)
  rw [← hLM] at KL
  rw [hp] at KP
  rw [hq] at KQ
  rw [hB]
  obtain ⟨L, hL⟩ : ∃ L, L = icL ph pz qh qz ts := ⟨_, rfl⟩
  rw [← hL, hM]
  have hLn : lmF qh ph qz pz = none → L = [] := fun h => by rw [hL]; unfold icL; rw [hM, h]
  have hLs : ∀ m, lmF qh ph qz pz = some m → L = wnum m := fun m h => by rw [hL]; unfold icL; rw [hM, h]
  obtain ⟨O, hO⟩ : ∃ O, O = lmF qh ph qz pz := ⟨_, rfl⟩
  have hOl : ∀ m, O = some m → m.length = 6 := fun m h => startF_len m (by rw [← h, hO]; rfl)
  rw [← hO] at KL hLn hLs ⊢
  subst hl
  have HW : Hid (∀ (w' : World), Below W.heap.size W w' → w'.cell? ⟨w.heap.size, 0, none⟩ = some (.slice pha phn phc) ∧ w'.cell? ⟨w.heap.size, 1, none⟩ = some (.slice pa pn pc) ∧ w'.cell? ⟨w.heap.size + 1, 0, none⟩ = some (.slice qha phn qhc) ∧ w'.cell? ⟨w.heap.size + 1, 1, none⟩ = some (.slice qa qn qc)) := fun w' h => ⟨cell_later h c0, cell_later h c1, cell_later h d0, cell_later h d1⟩
  clear hO hL hM hB hp hq HNO b0 b1 h1 h3 h4 h6 g1 g3 g4 g6 t1 t3 hLM
  cases O with
  | none =>
    have HL := Hid.mk (hLn rfl)
    have KL' : Hid (∀ w', Below W.heap.size W w' → Calls Try.prog 42 #[.agg #[.slice pha phn phc, .slice pa pn pc], .agg #[.slice qha phn qhc, .slice qa qn qc]] w' fun e w'' => e = .returned (.tuple #[.slice none 0 0, .bool false]) ∧ Below w'.heap.size w' w'') := KL.out
    clear hLn hLs hOl KL
    go_enter Try.func14, Try.ntmps14
    go_upto_region 1 with fail
    rw [← hW]
    clear hW
    go_wp2_with fail
    refine (KP.out _ (Below.refl _ _)).mono ?_
    rintro e w1 ⟨rfl, hb1⟩
    obtain ⟨c0, c1, d0, d1⟩ := HW.out w1 hb1
    go_wp2_with fail
    refine (KQ.out _ hb1).mono ?_
    rintro e w2 ⟨rfl, hb2⟩
    have hb := hb1.trans (hb2.mono hb1.size)
    obtain ⟨c0, c1, d0, d1⟩ := HW.out w2 hb
    go_wp2_with fail
    refine (KL'.out _ hb).mono ?_
    rintro e w3 ⟨rfl, hb3⟩
    have hb' := hb.trans (hb3.mono hb.size)
    have B3 := B0.trans (hb'.mono B0.size)
    go_wp2
    exact bodyPost_ret (v := .tuple #[.slice none 0 0, .bool false, .bool true]) (by simp [results, Try.results14, go_sem]) rfl ⟨by rw [HL.out]; exact ⟨none, 0, 0, rfl, rfl, World.ownsRow_nil _ _ _ _⟩, B3⟩
  | some m =>
    have hm := hOl m rfl
    have HL := Hid.mk (hLs m rfl)
    have KL' : Hid (∀ w', Below W.heap.size W w' → Calls Try.prog 42 #[.agg #[.slice pha phn phc, .slice pa pn pc], .agg #[.slice qha phn qhc, .slice qa qn qc]] w' fun e w'' => (∃ ra d, e = .returned (.tuple #[.slice ra 6 d, .bool true]) ∧ w''.ownsRow w'.heap.size 3 1 (.slice ra 6 d) 6 ((wnum m).map (.int .i64))) ∧ Below w'.heap.size w' w'') := KL.out
    have HML : Hid ((wnum m).length = 6) := by show _ = _; unfold wnum; rw [List.length_map, hm]
    clear hLn hLs hOl hm KL
    go_enter Try.func14, Try.ntmps14
    go_upto_region 1 with fail
    rw [← hW]
    clear hW
    go_wp2_with fail
    refine (KP.out _ (Below.refl _ _)).mono ?_
    rintro e w1 ⟨rfl, hb1⟩
    obtain ⟨c0, c1, d0, d1⟩ := HW.out w1 hb1
    go_wp2_with fail
    refine (KQ.out _ hb1).mono ?_
    rintro e w2 ⟨rfl, hb2⟩
    have hb := hb1.trans (hb2.mono hb1.size)
    obtain ⟨c0, c1, d0, d1⟩ := HW.out w2 hb
    go_wp2_with fail
    refine (KL'.out _ hb).mono ?_
    rintro e w3 ⟨⟨r, dd, rfl, ho⟩, hb3⟩
    have hb' := hb.trans (hb3.mono hb.size)
    have B3 := B0.trans (hb'.mono B0.size)
    have HO := Hid.mk (owns_mono ho (B0.trans (hb.mono B0.size)).size)
    clear ho
    go_wp2
    exact bodyPost_ret (v := .tuple #[.slice r 6 dd, .bool true, .bool true]) (by simp [results, Try.results14, go_sem]) rfl ⟨by rw [HL.out]; exact ⟨r, 6, dd, rfl, HML.out, HO.out⟩, B3⟩

end Go.Proofs.Ytfodcjlekbdfhaa

/- Contracts of the laws' helpers over queries: szAtom, szAtomS, szQuery. -/
namespace Go.Proofs.Ytfodcjlekbdfhaa
open Go.RowKit

set_option maxRecDepth 100000 in
set_option maxHeartbeats 1000000 in
theorem szAtom_any (p : Int) (pa : Option Addr) (pn pc : Nat) (xs : List Int) (l : Int) (w : World) (hz : xs.length = pn) (hn : pn ≤ 9223372036854775807) (h0 : 0 ≤ l) (h1 : l ≤ 1048576) :
    Calls Try.prog 59 #[.agg #[.int .i64 p, .slice pa pn pc], .int .i64 l] w fun e w' => e = .returned (.int .i64 (leftOf l (acost (p, xs)))) ∧ Below w.heap.size w w' := by
  have hv : acost (p, xs) = pn := by unfold acost; simp only; rw [hz]
  rw [hv]
  clear hv
  obtain ⟨W, hW⟩ : ∃ W, W = w.alloc (.cells #[.int .i64 p, .slice pa pn pc] 88) := ⟨_, rfl⟩
  have B0 : Below w.heap.size w W := by rw [hW]; exact (Below.refl _ _).alloc (Nat.le_refl _) _
  clear hz
  by_cases c1 : l < pn
  · go_enter Try.func59, Try.ntmps59
    go_wp2_with fail
    rw [← hW]
    clear hW
    refine (szIntS_any pa pn pc l W hn h0 h1).mono ?_
    rintro e w2 ⟨rfl, rfl⟩
    rw [if_pos c1]
    go_wp2
    go_ret
    exact ⟨ret_int (leftOf_no (by omega)).symm, B0⟩
  · go_enter Try.func59, Try.ntmps59
    have d1 : ¬ l - (pn : Int) < 0 := by omega
    go_wp2_with fail
    rw [← hW]
    clear hW
    refine (szIntS_any pa pn pc l W hn h0 h1).mono ?_
    rintro e w2 ⟨rfl, rfl⟩
    rw [if_neg (by omega)]
    go_wp2
    go_ret
    exact ⟨ret_int (by rw [leftOf_yes (by omega)]), B0⟩

set_option maxRecDepth 100000 in
set_option maxHeartbeats 2000000 in
theorem szAtomS_any (a : Option Addr) (n c : Nat) (xs : List Atm) (l : Int) (w : World) (hz : xs.length = n) (hn : n ≤ 9223372036854775807) (h0 : 0 ≤ l) (h1 : l ≤ 1048576) (ha : AtQ w a xs) :
    Calls Try.prog 31 #[.slice a n c, .int .i64 l] w fun e w' => e = .returned (.int .i64 (leftOf l (n + asum xs n : Nat))) ∧ Below w.heap.size w w' := by
  by_cases hb : l < n
  · have h' : l - (n : Int) < 0 := by omega
    go_enter Try.func31, Try.ntmps31
    go_wp2
    go_ret
    exact ⟨ret_int (leftOf_no (by omega)).symm, Below.refl _ _⟩
  have h' : ¬ l - (n : Int) < 0 := by omega
  by_cases hn0 : n = 0
  · subst hn0
    have ht : asum xs 0 = 0 := asum_zero xs
    go_enter Try.func31, Try.ntmps31
    go_wp2
    refine wp_loop_rounds 1 ?_
    rw [rounds_succ]
    go_wp2
    go_ret
    exact ⟨ret_int (by rw [ht, leftOf_yes (by omega)]; omega), Below.refl _ _⟩
  · go_enter Try.func31, Try.ntmps31
    go_wp2
    go_loopw [1, 5] (fun q i wr => ∃ (k : Nat) (r : Int), k ≤ n ∧ i = .int .i64 k ∧ q = .int .i64 r ∧ 0 ≤ r ∧ r ≤ 1048576 ∧ r + asum xs k = l - n ∧ Below w.heap.size w wr) (fun _ i _ => n - (intOf i).toNat)
    case atStart => exact ⟨0, l - n, Nat.zero_le _, rfl, rfl, by omega, by omega, by rw [asum_zero]; omega, Below.refl _ _⟩
    case round =>
      obtain ⟨k, r, hk, rfl, rfl, hr0, hr1, hr, hbw⟩ := hrel
      by_cases hlt : k < n
      · obtain ⟨b, off, rfl, _, hc⟩ := AtQ.row (AtSl.below ha hbw) (by omega)
        obtain ⟨⟨xp, xt⟩, hx⟩ : ∃ x, xs[k]? = some x := ⟨_, List.getElem?_eq_getElem (by omega)⟩
        obtain ⟨ta, tn, tc, g0, g1, u1, u2, _⟩ := hc k _ hx
        have hts := asum_succ hx
        have htm := asum_mono xs (k + 1) n (by omega)
        have HR := Hid.mk hr
        have HT := Hid.mk hts
        have HM := Hid.mk htm
        have HX2 := Hid.mk u1
        have hki : (k : Int) < (n : Int) := by omega
        clear hc hr hts ha htm hx u1
        by_cases hfit : r < acost (xp, xt)
        · go_wp2_with fail
          refine (szAtom_any xp ta tn tc xt r wr HX2.out u2 hr0 hr1).mono ?_
          rintro e w' ⟨rfl, hb'⟩
          rw [leftOf_no hfit]
          go_wp2
          go_ret
          exact ⟨ret_int (leftOf_no (by have := HR.out; have := HT.out; have := HM.out; omega)).symm, hbw.trans (hb'.mono hbw.size)⟩
        · have hd : ¬ r - (acost (xp, xt) : Int) < 0 := by omega
          go_wp2_with fail
          refine (szAtom_any xp ta tn tc xt r wr HX2.out u2 hr0 hr1).mono ?_
          rintro e w' ⟨rfl, hb'⟩
          rw [leftOf_yes (by omega)]
          go_wp2
          go_roundw
          case rel => exact ⟨k + 1, r - acost (xp, xt), by omega, by go_num, rfl, by omega, by omega, by have := HR.out; have := HT.out; omega, hbw.trans (hb'.mono hbw.size)⟩
          case measure => simp [intOf]; omega
      · obtain rfl : k = n := by omega
        have HR := Hid.mk hr
        clear hr
        go_wp2
        go_ret
        exact ⟨ret_int (by have := HR.out; rw [leftOf_yes (by omega)]; omega), hbw⟩

/-- What the laws count for a query. -/
def qcost (x : Qry) : Nat := x.1.length + (x.2.length + asum x.2 x.2.length)

set_option maxRecDepth 100000 in
set_option maxHeartbeats 1000000 in
theorem szQuery_any (sa : Option Addr) (sn sc : Nat) (pa : Option Addr) (pn pc : Nat) (ss : List Int) (xs : List Atm) (l : Int) (w : World) (hs : ss.length = sn) (hsn : sn ≤ 9223372036854775807) (hz : xs.length = pn) (hn : pn ≤ 9223372036854775807) (h0 : 0 ≤ l) (h1 : l ≤ 1048576) (ha : AtQ w pa xs) :
    Calls Try.prog 7 #[.agg #[.slice sa sn sc, .slice pa pn pc], .int .i64 l] w fun e w' => e = .returned (.int .i64 (leftOf l (qcost (ss, xs)))) ∧ Below w.heap.size w w' := by
  obtain ⟨C, hC⟩ : ∃ C, pn + asum xs pn = C := ⟨_, rfl⟩
  have hv : qcost (ss, xs) = sn + C := by unfold qcost; simp only; rw [hs, hz, hC]
  rw [hv]
  clear hv
  have HC := Hid.mk hC
  clear hC
  obtain ⟨W, hW⟩ : ∃ W, W = w.alloc (.cells #[.slice sa sn sc, .slice pa pn pc] 25) := ⟨_, rfl⟩
  have B0 : Below w.heap.size w W := by rw [hW]; exact (Below.refl _ _).alloc (Nat.le_refl _) _
  have q1 : W.cell? ⟨w.heap.size, 1, none⟩ = some (.slice pa pn pc) := by rw [hW]; simp
  have HZ := Hid.mk hz
  have HA := Hid.mk (AtSl.below ha B0)
  clear hz hs ha
  by_cases c1 : l < sn
  · go_enter Try.func7, Try.ntmps7
    go_wp2_with fail
    rw [← hW]
    clear hW
    refine (szIntS_any sa sn sc l W hsn h0 h1).mono ?_
    rintro e w2 ⟨rfl, rfl⟩
    rw [if_pos c1]
    go_wp2
    go_ret
    exact ⟨ret_int (leftOf_no (by omega)).symm, B0⟩
  by_cases c2 : l - sn < (C : Int)
  · go_enter Try.func7, Try.ntmps7
    have d1 : ¬ l - (sn : Int) < 0 := by omega
    go_wp2_with fail
    rw [← hW]
    clear hW
    refine (szIntS_any sa sn sc l W hsn h0 h1).mono ?_
    rintro e w2 ⟨rfl, h9⟩
    obtain rfl := h9.symm
    rw [if_neg (by omega)]
    go_wp2_with fail
    refine (szAtomS_any pa pn pc xs (l - sn) _ HZ.out hn (by omega) (by omega) HA.out).mono ?_
    rintro e w3 ⟨rfl, hb⟩
    rw [HC.out, leftOf_no c2]
    go_wp2
    go_ret
    exact ⟨ret_int (leftOf_no (by omega)).symm, B0.trans (hb.mono B0.size)⟩
  · go_enter Try.func7, Try.ntmps7
    have d1 : ¬ l - (sn : Int) < 0 := by omega
    have d2 : ¬ l - (sn : Int) - (C : Int) < 0 := by omega
    go_wp2_with fail
    rw [← hW]
    clear hW
    refine (szIntS_any sa sn sc l W hsn h0 h1).mono ?_
    rintro e w2 ⟨rfl, h9⟩
    obtain rfl := h9.symm
    rw [if_neg (by omega)]
    go_wp2_with fail
    refine (szAtomS_any pa pn pc xs (l - sn) _ HZ.out hn (by omega) (by omega) HA.out).mono ?_
    rintro e w3 ⟨rfl, hb⟩
    rw [HC.out, leftOf_yes (by omega)]
    go_wp2
    go_ret
    exact ⟨ret_int (by rw [leftOf_yes (by omega)]; omega), B0.trans (hb.mono B0.size)⟩

end Go.Proofs.Ytfodcjlekbdfhaa

/- Contracts of the laws' helpers over queries: toAtom, toAtomS, toQuery. -/
namespace Go.Proofs.Ytfodcjlekbdfhaa
open Go.RowKit

theorem toAtom_any (p : Int) (a : Option Addr) (n c : Nat) (zss : List Int) (w : World) (hz : zss.length = n) (hn : n ≤ 1048576) (ha : At w a zss) :
    Calls Try.prog 62 #[.agg #[.int .i64 p, .slice a n c]] w fun e w' => ∃ g, e = .returned (.agg #[.int .i64 p, .slice (some ⟨g, 0, none⟩) n n]) ∧ RAtm.Own w' (From w.heap.size w'.heap.size) [.int .i64 p, .slice (some ⟨g, 0, none⟩) n n] (p, zss) ∧ Below w.heap.size w w' := by
  go_enter Try.func62, Try.ntmps62
  go_wp2_with fail
  refine (toInts_rep _ _ _ zss _ hz hn ?_).mono ?_
  · exact At.below ha ((((Below.refl _ _).alloc (Nat.le_refl _) _).alloc (by simp) _).alloc (by simp; omega) _)
  · rintro e w' ⟨g, rfl, hown, hb⟩
    obtain ⟨hc, hf⟩ := bcell hb
    have hz' : w.heap.size + 2 < w'.heap.size := by have := hb.size; simp at this; omega
    simp only [World.size_alloc] at hc hf hown
    go_wp2
    have dj : ∀ b, From (w.heap.size + 1 + 1 + 1) w'.heap.size b → ¬ From 0 (w.heap.size + 3) b := fun b h k => by have := h.1; have := k.2; omega
    have ho := RInts.ownOff (RInts.ownOff (RInts.ownOff hown (Off.set (F := From 0 (w.heap.size + 3)) (a := ⟨w.heap.size + 1 + 1, 1, none⟩) ⟨by simp, by simp⟩ (.slice (some ⟨g, 0, none⟩) n n)) dj) (Off.set (F := From 0 (w.heap.size + 3)) (a := ⟨w.heap.size + 1, 0, none⟩) ⟨by simp, by simp⟩ (.int .i64 p)) dj) (Off.set (F := From 0 (w.heap.size + 3)) (a := ⟨w.heap.size + 1, 1, none⟩) ⟨by simp, by simp⟩ (.slice (some ⟨g, 0, none⟩) n n)) dj
    refine bodyPost_ret (v := .agg #[.int .i64 p, .slice (some ⟨g, 0, none⟩) n n]) (by simp [results, Try.results62, go_sem, hc]) rfl ⟨_, rfl, RAtm.own_mk (RInts.mono ho fun b h => ⟨by have := h.1; omega, by have := h.2; simp only [World.setCell, Array.size_modify]; exact this⟩), ?_⟩
    exact (((((((Below.refl _ _).alloc (Nat.le_refl _) _).alloc (by simp) _).alloc (by simp; omega) _).trans (hb.mono (by simp; omega))).setCell (by simp; omega) _).setCell (by simp) _).setCell (by simp) _

theorem Try.infoAtom : (Try.prog.info? 56).map (fun i => (i.zero, i.size, i.bytes)) = some (some (.agg #[.int .i64 0, .slice none 0 0]), 2, 32) := by kernel_rfl

set_option maxRecDepth 100000 in
set_option maxHeartbeats 4000000 in
theorem toAtomS_any (a : Option Addr) (n c : Nat) (xs : List Atm) (w : World) (hz : xs.length = n) (hn : n ≤ 1048576) (hs : ∀ (i : Nat) (x : Atm), xs[i]? = some x → x.2.length ≤ 1048576) (ha : AtQ w a xs) :
    Calls Try.prog 37 #[.slice a n c] w fun e w' => ∃ g, e = .returned (.slice (some ⟨g, 0, none⟩) n n) ∧ RAtms.Own w' (From w.heap.size w'.heap.size) [.slice (some ⟨g, 0, none⟩) n n] xs ∧ Below w.heap.size w w' := by
  obtain ⟨i0, hi, hz0, hz1, hz2⟩ := info_parts Try.infoAtom
  go_enter Try.func37, Try.ntmps37
  go_wp2_with (at_make; refine wpList_make_full _ rfl _ _ 28 rfl w.heap.size 56 i0 (.agg #[.int .i64 0, .slice none 0 0]) 2 Try.underlying28 hi hz0 hz1 .i64 .i64 _ _ n rfl rfl rfl rfl (by rw [hz2]; omega) (by unfold maxLen; omega) (Nat.le_refl _) ?_; intro w1 hown hg)
  have hb1 : Below w.heap.size w w1 := (Below.refl _ _).grown hg (Nat.le_refl _) (by simp)
  have hlt1 := (hown.lt w.heap.size rfl).2
  obtain ⟨cs, hcs⟩ : ∃ cs, cs = (madeCells (Value.agg #[.int .i64 0, .slice none 0 0]).cells (n * 2)).toList := ⟨_, rfl⟩
  rw [← hcs] at hown
  have hst : Laid RAtm w1 (From w.heap.size w1.heap.size) 56 (some ⟨w.heap.size, 0, none⟩) n n xs cs (fun _ _ => False) 0 := Laid.start hz (by omega) (owns_mono hown (Nat.zero_le _)) (fun b hb => hown.lt b hb) _
  clear hcs hown hg
  go_loopw [4] (fun i wr => ∃ (k : Nat) (cells : List Value) (G : Nat → Nat → Prop), k ≤ n ∧ i = .int .i64 k ∧ Laid RAtm wr (From w.heap.size wr.heap.size) 56 (some ⟨w.heap.size, 0, none⟩) n n xs cells G k ∧ w.heap.size < wr.heap.size ∧ Below w.heap.size w wr) (fun i _ => n - (intOf i).toNat)
  case atStart => exact ⟨0, cs, _, Nat.zero_le _, rfl, hst, hlt1, hb1⟩
  case round =>
    clear hst hb1 hlt1 cs
    obtain ⟨k, cells, G, hk, rfl, ho, hzr, hbw⟩ := hrel
    by_cases hlt : k < n
    · obtain ⟨b, off, rfl, _, hc⟩ := AtQ.row (AtSl.below ha hbw) (by omega)
      obtain ⟨x, hx⟩ : ∃ x, xs[k]? = some x := ⟨_, List.getElem?_eq_getElem (by omega)⟩
      obtain ⟨ta, tn, tc, g0, g1, u1, u2, u3, _⟩ := hc k x hx
      have hsm := hs k x hx
      have hki : (k : Int) < (n : Int) := by omega
      have HO := Hid.mk ho
      have HX := Hid.mk hx
      have HC := Hid.mk (toAtom_any x.1 ta tn tc x.2 wr u1 (by omega) u3)
      clear hc ha ho hs hx u1 u3 hsm
      go_wp2_with fail
      refine HC.out.mono ?_
      rintro e w2 ⟨h2, rfl, ho2, hb2⟩
      obtain ⟨g, hgg⟩ : ∃ g, g = w.heap.size := ⟨_, rfl⟩
      have hput := HO.out.put hlt (fun b hb => hb.2) hb2 HX.out ho2 (fun b hb => hb.1)
      have z2 := hb2.size
      have hput2 := hput.mono (F' := From w.heap.size w2.heap.size) (fun b hb => by rcases hb with hb | hb; exact ⟨hb.1, by have := hb.2; omega⟩; exact ⟨by have := hb.1; omega, hb.2⟩)
      have HP : Hid (Laid RAtm ((w2.setCell ⟨w.heap.size, k * 2, none⟩ (.int .i64 x.1)).setCell ⟨w.heap.size, k * 2 + 1, none⟩ (.slice (some ⟨h2, 0, none⟩) tn tn)) (From w.heap.size w2.heap.size) 56 (some ⟨w.heap.size, 0, none⟩) n n xs _ _ (k + 1)) := hput2
      have hout := (HO.out.below hb2).outer
      have hln := hout.1
      have hln : cells.length = n * 2 := hln
      obtain ⟨u0, hu0⟩ : ∃ u, cells[k * 2]? = some u := ⟨_, List.getElem?_eq_getElem (by omega)⟩
      have q0 : w2.cell? ⟨w.heap.size, k * 2, none⟩ = some u0 := (hout.cellAt _ (show k * 2 < n * 2 by omega)).trans hu0
      have f0 : w2.frozen? ⟨w.heap.size, k * 2, none⟩ = false := hout.frozenAt _
      clear hu0
      obtain ⟨u1, hu1⟩ : ∃ u, cells[k * 2 + 1]? = some u := ⟨_, List.getElem?_eq_getElem (by omega)⟩
      have q1 : w2.cell? ⟨w.heap.size, k * 2 + 1, none⟩ = some u1 := (hout.cellAt _ (show k * 2 + 1 < n * 2 by omega)).trans hu1
      have f1 : w2.frozen? ⟨w.heap.size, k * 2 + 1, none⟩ = false := hout.frozenAt _
      clear hu1
      have HB : Hid (Below w.heap.size w ((w2.setCell ⟨w.heap.size, k * 2, none⟩ (.int .i64 x.1)).setCell ⟨w.heap.size, k * 2 + 1, none⟩ (.slice (some ⟨h2, 0, none⟩) tn tn))) := (((hbw.trans (hb2.mono hbw.size)).setCell (Nat.le_refl _) _).setCell (Nat.le_refl _) _)
      clear hput hput2 hout hln hb2 hbw ho2 g0 g1 hgg
      go_wp2
      go_roundw
      case rel => exact ⟨k + 1, _, _, by omega, by go_num, by simpa only [World.setCell, Array.size_modify] using HP.out, by simp [World.setCell]; omega, HB.out⟩
      case measure => simp [intOf]; omega
    · obtain rfl : k = n := by omega
      go_wp2
      go_ret
      exact ⟨_, rfl, ⟨_, _, _, _, _, rfl, ho⟩, hbw⟩

set_option maxRecDepth 100000 in
set_option maxHeartbeats 2000000 in
theorem toQuery_any (sa : Option Addr) (sn sc : Nat) (pa : Option Addr) (pn pc : Nat) (ss : List Int) (xs : List Atm) (w : World) (hsz : ss.length = sn) (hz : xs.length = pn) (hsn : sn ≤ 1048576) (hpn : pn ≤ 1048576) (hsm : ∀ (i : Nat) (x : Atm), xs[i]? = some x → x.2.length ≤ 1048576) (hsa : At w sa ss) (ha : AtQ w pa xs) :
    Calls Try.prog 9 #[.agg #[.slice sa sn sc, .slice pa pn pc]] w fun e w' => ∃ g1 g2, e = .returned (.agg #[.slice (some ⟨g1, 0, none⟩) sn sn, .slice (some ⟨g2, 0, none⟩) pn pn]) ∧
      RQry.Own w' (From w.heap.size w'.heap.size) [.slice (some ⟨g1, 0, none⟩) sn sn, .slice (some ⟨g2, 0, none⟩) pn pn] (ss, xs) ∧ Below w.heap.size w w' := by
  obtain ⟨W, hW⟩ : ∃ W, W = (((w.alloc (.cells #[.slice sa sn sc, .slice pa pn pc] 25)).alloc (.cells #[.slice none 0 0, .slice none 0 0] 30)).alloc (.cells #[.slice none 0 0, .slice none 0 0] 30)) := ⟨_, rfl⟩
  have B0 : Below w.heap.size w W := by rw [hW]; exact ((((Below.refl _ _).alloc (Nat.le_refl _) _).alloc (by simp) _).alloc (by simp; omega) _)
  have zW : w.heap.size + 2 < W.heap.size := by rw [hW]; simp
  have b2 : W.heap[w.heap.size + 1 + 1]? = some (.cells #[.slice none 0 0, .slice none 0 0] 30 (0, 0)) := by
    rw [hW]
    have q := heap_alloc_new ((w.alloc (.cells #[.slice sa sn sc, .slice pa pn pc] 25)).alloc (.cells #[.slice none 0 0, .slice none 0 0] 30)) (.cells #[.slice none 0 0, .slice none 0 0] 30)
    simpa only [World.size_alloc] using q
  have b1 : W.heap[w.heap.size + 1]? = some (.cells #[.slice none 0 0, .slice none 0 0] 30 (0, 0)) := by
    rw [hW]
    refine blk_alloc ?_ _
    have q := heap_alloc_new (w.alloc (.cells #[.slice sa sn sc, .slice pa pn pc] 25)) (.cells #[.slice none 0 0, .slice none 0 0] 30)
    simpa only [World.size_alloc] using q
  have b0 : W.heap[w.heap.size]? = some (.cells #[.slice sa sn sc, .slice pa pn pc] 25 (0, 0)) := by
    rw [hW]
    exact blk_alloc (blk_alloc (heap_alloc_new w _) _) _
  have U3 := Hid.mk hsa
  have V3 := Hid.mk ha
  have HSM := Hid.mk hsm
  have HU1 := Hid.mk hsz
  have HV1 := Hid.mk hz
  clear hsa ha hsz hz hsm
  go_enter Try.func9, Try.ntmps9
  go_wp2_with fail
  rw [← hW]
  clear hW
  refine (toInts_rep sa sn sc ss W HU1.out hsn (At.below U3.out B0)).mono ?_
  rintro e w1 ⟨g1, rfl, o1, hb1⟩
  have k2 := blk_below b2 hb1
  have k1 := blk_below b1 hb1
  have k0 := blk_below b0 hb1
  clear b2 b1 b0
  have z1 := hb1.size
  have B1 : Below w.heap.size w w1 := B0.trans (hb1.mono (by omega))
  have q := blk_cell k2 0 (v := .slice none 0 0) rfl
  have f := blk_frozen k2 0
  have r := blk_cell k0 1 (v := .slice pa pn pc) rfl
  obtain ⟨X1, hX1⟩ : ∃ u, u = w1.setCell ⟨w.heap.size + 1 + 1, 0, none⟩ (.slice (some ⟨g1, 0, none⟩) sn sn) := ⟨_, rfl⟩
  have y1 : w1.heap.size ≤ X1.heap.size := by rw [hX1]; simp [World.setCell]
  have b2 : X1.heap[w.heap.size + 1 + 1]? = some (.cells #[.slice (some ⟨g1, 0, none⟩) sn sn, .slice none 0 0] 30 (0, 0)) := by rw [hX1]; exact blk_set k2 0 _
  have b1 : X1.heap[w.heap.size + 1]? = some (.cells #[.slice none 0 0, .slice none 0 0] 30 (0, 0)) := by rw [hX1]; exact blk_other k1 (by simp) _
  have C1 : Below w.heap.size w X1 := by rw [hX1]; exact B1.setCell (by simp; omega) _
  have S1 : Hid (Off (From w.heap.size (w.heap.size + 3)) w1 X1) := by rw [hX1]; exact Off.set ⟨by simp; omega, by simp⟩ _
  have O1 : Hid (RInts.Own X1 (From W.heap.size w1.heap.size) [.slice (some ⟨g1, 0, none⟩) sn sn] ss) := RInts.ownOff o1 S1.out (fun b h k => by have := h.1; have := k.2; omega)
  clear o1 hb1 S1 k2 k1 k0
  go_wp2_with fail
  rw [← hX1]
  clear hX1 q f r
  refine (toAtomS_any pa pn pc xs X1 HV1.out hpn HSM.out (AtSl.below V3.out C1)).mono ?_
  rintro e w2 ⟨g2, rfl, o2, hb2⟩
  have k2 := blk_below b2 hb2
  have k1 := blk_below b1 hb2
  clear b2 b1
  have z2 := hb2.size
  have B2 : Below w.heap.size w w2 := C1.trans (hb2.mono (by omega))
  have q := blk_cell k2 1 (v := .slice none 0 0) rfl
  have f := blk_frozen k2 1
  obtain ⟨X2, hX2⟩ : ∃ u, u = w2.setCell ⟨w.heap.size + 1 + 1, 1, none⟩ (.slice (some ⟨g2, 0, none⟩) pn pn) := ⟨_, rfl⟩
  have y2 : w2.heap.size ≤ X2.heap.size := by rw [hX2]; simp [World.setCell]
  have b2 : X2.heap[w.heap.size + 1 + 1]? = some (.cells #[.slice (some ⟨g1, 0, none⟩) sn sn, .slice (some ⟨g2, 0, none⟩) pn pn] 30 (0, 0)) := by rw [hX2]; exact blk_set k2 1 _
  have b1 : X2.heap[w.heap.size + 1]? = some (.cells #[.slice none 0 0, .slice none 0 0] 30 (0, 0)) := by rw [hX2]; exact blk_other k1 (by simp) _
  have C2 : Below w.heap.size w X2 := by rw [hX2]; exact B2.setCell (by simp; omega) _
  have S2 : Hid (Off (From w.heap.size (w.heap.size + 3)) w2 X2) := by rw [hX2]; exact Off.set ⟨by simp; omega, by simp⟩ _
  have O2 : Hid (RInts.Own X2 (From W.heap.size w1.heap.size) [.slice (some ⟨g1, 0, none⟩) sn sn] ss) := RInts.ownOff (RInts.ownBelow O1.out hb2) S2.out (fun b h k => by have := h.1; have := k.2; omega)
  have Q2 : Hid (RAtms.Own X2 (From X1.heap.size w2.heap.size) [.slice (some ⟨g2, 0, none⟩) pn pn] xs) := RAtms.ownOff o2 S2.out (fun b h k => by have := h.1; have := k.2; omega)
  clear o2 hb2 S2 O1 k2 k1
  go_upto_region 4 with fail
  rw [← hX2]
  clear hX2 q f
  have u0 := blk_cell b2 0 (v := .slice (some ⟨g1, 0, none⟩) sn sn) rfl
  have u1 := blk_cell b2 1 (v := .slice (some ⟨g2, 0, none⟩) pn pn) rfl
  have p0 := blk_cell b1 0 (v := .slice none 0 0) rfl
  have p1 := blk_cell b1 1 (v := .slice none 0 0) rfl
  have f0 := blk_frozen b1 0
  have f1 := blk_frozen b1 1
  obtain ⟨Y, hY⟩ : ∃ u, u = stores X2 (w.heap.size + 1) 0 [.slice (some ⟨g1, 0, none⟩) sn sn, .slice (some ⟨g2, 0, none⟩) pn pn] := ⟨_, rfl⟩
  have D : Below w.heap.size w Y := by rw [hY]; exact stores_below _ _ _ _ C2 (by omega)
  have S : Off (From w.heap.size (w.heap.size + 3)) X2 Y := by rw [hY]; exact stores_off _ _ _ _ ⟨by omega, by omega⟩
  have zY : Y.heap.size = X2.heap.size := by rw [hY]; exact stores_size _ _ _ _
  have R : Hid (RQry.Own Y (From w.heap.size Y.heap.size) [.slice (some ⟨g1, 0, none⟩) sn sn, .slice (some ⟨g2, 0, none⟩) pn pn] (ss, xs)) :=
    ⟨[_], [_], _, _, rfl, RInts.ownOff O2.out S (fun b h k => by have := h.1; have := k.2; omega), RAtms.ownOff Q2.out S (fun b h k => by have := h.1; have := k.2; omega), fun b h => ⟨by have := h.1; omega, by have := h.2; omega⟩, fun b h => ⟨by have := h.1; omega, by have := h.2; omega⟩, fun b h k => by have := h.2; have := k.1; omega⟩
  have HY := Hid.mk hY
  have HD := Hid.mk D
  clear S D O2 Q2 hY zY b1 b2 C2
  go_wp2
  refine bodyPost_ret (v := .agg #[.slice (some ⟨g1, 0, none⟩) sn sn, .slice (some ⟨g2, 0, none⟩) pn pn]) (by simp [results, Try.results9, go_sem, p0, p1]) rfl ⟨g1, g2, rfl, ?_, ?_⟩
  · have h := R.out
    rw [HY.out] at h
    exact h
  · have h := HD.out
    rw [HY.out] at h
    exact h

end Go.Proofs.Ytfodcjlekbdfhaa

/- Slices of numbers that are alike are held equal. -/
namespace Go.Proofs.Ytfodcjlekbdfhaa
open Go.RowKit

theorem eqIntS_same (a a' : Option Addr) (n c c' : Nat) (zs : List Int) (w : World) (hz : zs.length = n) (hn : n ≤ 1048576) (ha : At w a zs) (ha' : At w a' zs) :
    Calls Try.prog 13 #[.slice a n c, .slice a' n c'] w fun e w' => e = .returned (.bool true) ∧ Below w.heap.size w w' :=
  (eqIntS_any a a' n n c c' zs zs w hz hz hn hn ha ha').mono fun _ _ ⟨h1, h2⟩ => ⟨by rw [h1, decide_eq_true rfl], h2⟩
end Go.Proofs.Ytfodcjlekbdfhaa
