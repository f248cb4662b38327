/- Several texts of one proof, in build order: SmQ, QrH. -/
import Derived.Test.YtfodcjlekbdfhabM14
import Derived.Test.YtfodcjlekbdfhabM18
import Derived.Test.YtfodcjlekbdfhabM6

/- Contracts of impl.SameQueries, spec.l10Same, spec.SameQueries. -/
namespace Go.Proofs.Ytfodcjlekbdfhab
open Go.RowKit

def smV (ph : List Int) (pz : List Atm) (qh : List Int) (qz : List Atm) (ts : List Int) : Bool := (icM ph pz qh qz ts).isSome && (icM qh qz ph pz ts).isSome
theorem icB_comm (ph : List Int) (pz : List Atm) (qh : List Int) (qz : List Atm) (ts : List Int) : icB qh qz ph pz ts = icB ph pz qh qz ts := by
  unfold icB
  rw [Bool.and_comm (gqB qh qz ts), show decide (qh.length = ph.length) = decide (ph.length = qh.length) from by simp only [eq_comm]]
theorem smV_no {ph : List Int} {pz : List Atm} {qh : List Int} {qz : List Atm} {ts : List Int} (h : icB ph pz qh qz ts = false) : smV ph pz qh qz ts = false := by
  unfold smV icM
  rw [h]
  rfl
theorem smV_yes {ph : List Int} {pz : List Atm} {qh : List Int} {qz : List Atm} {ts : List Int} (h : icB ph pz qh qz ts = true) : smV ph pz qh qz ts = ((mapF qh ph qz pz 6 []).isSome && (mapF ph qh pz qz 6 []).isSome) := by
  have h' := h
  have h2 := icB_comm ph pz qh qz ts
  unfold icB at h'
  simp only [Bool.and_eq_true, decide_eq_true_eq] at h'
  rw [← ic_map h'.1.1 h'.1.2, ← ic_map h'.1.2 h'.1.1]
  unfold smV icM
  rw [h2, h]
  simp
theorem mapRet_shape {O : Option (List Int)} {e : Ending} {w' : World} {lo : Nat} (h : MapRet O e w' lo) : ∃ r n d, e = .returned (.tuple #[.slice r n d, .bool O.isSome]) := by
  cases O with
  | none => exact ⟨none, 0, 0, h⟩
  | some m => obtain ⟨r, d, h1, _⟩ := h; exact ⟨r, 6, d, h1⟩

set_option maxRecDepth 100000 in
set_option maxHeartbeats 8000000 in
theorem implSameQueries (pha : Option Addr) (phn phc : Nat) (ph : List Int) (pa : Option Addr) (pn pc : Nat) (pz : List Atm) (qha : Option Addr) (qhn qhc : Nat) (qh : List Int) (qa : Option Addr) (qn qc : Nat) (qz : List Atm) (ta : Option Addr) (tn tc : Nat) (ts : List Int) (w : World)
    (h1 : ph.length = phn) (h2 : phn ≤ 9223372036854775807) (h3 : At w pha ph) (h4 : pz.length = pn) (h5 : pn ≤ 9223372036854775807) (h6 : AtQ w pa pz) (g1 : qh.length = qhn) (g2 : qhn ≤ 9223372036854775807) (g3 : At w qha qh) (g4 : qz.length = qn) (g5 : qn ≤ 9223372036854775807) (g6 : AtQ w qa qz) (t1 : ts.length = tn) (t2 : tn ≤ 9223372036854775807) (t3 : At w ta ts) :
    Calls Try.prog 9 #[.agg #[.slice pha phn phc, .slice pa pn pc], .agg #[.slice qha qhn qhc, .slice qa qn qc], .slice ta tn tc] w fun e w' => e = .returned (.tuple #[.bool (smV ph pz qh qz ts), .bool (icB ph pz qh qz ts)]) ∧ Below w.heap.size w w' := by
  obtain ⟨W, hW⟩ : ∃ W, W = (w.alloc (.cells #[.slice pha phn phc, .slice pa pn pc] 31)).alloc (.cells #[.slice qha qhn qhc, .slice qa qn qc] 31) := ⟨_, rfl⟩
  have B0 : Below w.heap.size w W := by rw [hW]; exact ((Below.refl _ _).alloc (Nat.le_refl _) _).alloc (by simp) _
  have b0 : W.heap[w.heap.size]? = some (.cells #[.slice pha phn phc, .slice pa pn pc] 31 (0, 0)) := by rw [hW]; exact blk_alloc (heap_alloc_new w _) _
  have b1 : W.heap[w.heap.size + 1]? = some (.cells #[.slice qha qhn qhc, .slice qa qn qc] 31 (0, 0)) := by
    rw [hW]
    have h := heap_alloc_new (w.alloc (.cells #[.slice pha phn phc, .slice pa pn pc] 31)) (.cells #[.slice qha qhn qhc, .slice qa qn qc] 31)
    simpa only [World.size_alloc] using h
  have K1 : Hid (∀ w', Below W.heap.size W w' → Calls Try.prog 22 #[.agg #[.slice pha phn phc, .slice pa pn pc], .agg #[.slice qha qhn qhc, .slice qa qn qc], .slice ta tn tc] w' fun e w'' => (∃ r n d, e = .returned (.tuple #[.slice r n d, .bool (icM ph pz qh qz ts).isSome, .bool (icB ph pz qh qz ts)])) ∧ Below w'.heap.size w' w'') := fun w' h => by
    have hb := B0.trans (h.mono B0.size)
    refine (implIsContained pha phn phc ph pa pn pc pz qha qhn qhc qh qa qn qc qz ta tn tc ts w' h1 h2 (At.below h3 hb) h4 h5 (AtSl.below h6 hb) g1 g2 (At.below g3 hb) g4 g5 (AtSl.below g6 hb) t1 t2 (At.below t3 hb)).mono ?_
    rintro e w'' ⟨⟨r, n, d, h9, _⟩, h8⟩
    exact ⟨⟨r, n, d, h9⟩, h8⟩
  have K2 : Hid (∀ w', Below W.heap.size W w' → Calls Try.prog 22 #[.agg #[.slice qha qhn qhc, .slice qa qn qc], .agg #[.slice pha phn phc, .slice pa pn pc], .slice ta tn tc] w' fun e w'' => (∃ r n d, e = .returned (.tuple #[.slice r n d, .bool (icM qh qz ph pz ts).isSome, .bool (icB qh qz ph pz ts)])) ∧ Below w'.heap.size w' w'') := fun w' h => by
    have hb := B0.trans (h.mono B0.size)
    refine (implIsContained qha qhn qhc qh qa qn qc qz pha phn phc ph pa pn pc pz ta tn tc ts w' g1 g2 (At.below g3 hb) g4 g5 (AtSl.below g6 hb) h1 h2 (At.below h3 hb) h4 h5 (AtSl.below h6 hb) t1 t2 (At.below t3 hb)).mono ?_
    rintro e w'' ⟨⟨r, n, d, h9, _⟩, h8⟩
    exact ⟨⟨r, n, d, h9⟩, h8⟩
  have c0 := blk_cell b0 0 (v := .slice pha phn phc) rfl
  have c1 := blk_cell b0 1 (v := .slice pa pn pc) rfl
  have d0 := blk_cell b1 0 (v := .slice qha qhn qhc) rfl
  have d1 := blk_cell b1 1 (v := .slice qa qn qc) rfl
  have HW : Hid (∀ (w' : World), Below W.heap.size W w' → w'.cell? ⟨w.heap.size, 0, none⟩ = some (.slice pha phn phc) ∧ w'.cell? ⟨w.heap.size, 1, none⟩ = some (.slice pa pn pc) ∧ w'.cell? ⟨w.heap.size + 1, 0, none⟩ = some (.slice qha qhn qhc) ∧ w'.cell? ⟨w.heap.size + 1, 1, none⟩ = some (.slice qa qn qc)) := fun w' h => ⟨cell_later h c0, cell_later h c1, cell_later h d0, cell_later h d1⟩
  unfold smV
  obtain ⟨x, hx⟩ : ∃ x, x = (icM ph pz qh qz ts).isSome := ⟨_, rfl⟩
  obtain ⟨y, hy⟩ : ∃ y, y = (icM qh qz ph pz ts).isSome := ⟨_, rfl⟩
  obtain ⟨u, hu⟩ : ∃ u, u = icB ph pz qh qz ts := ⟨_, rfl⟩
  obtain ⟨v, hv⟩ : ∃ v, v = icB qh qz ph pz ts := ⟨_, rfl⟩
  rw [← hx, ← hu] at K1 ⊢
  rw [← hy, ← hv] at K2
  rw [← hy]
  clear hx hy hu hv b0 b1 h1 h3 h4 h6 g1 g3 g4 g6 t1 t3
  cases x <;> cases y
  all_goals (
    go_enter Try.func9, Try.ntmps9
    go_upto_region 1 with fail
    rw [← hW]
    clear hW
    go_wp2_with fail
    refine (K1.out _ (Below.refl _ _)).mono ?_
    rintro e w1 ⟨⟨r1, m1, e1, rfl⟩, hb1⟩
    obtain ⟨c0, c1, d0, d1⟩ := HW.out w1 hb1
    go_wp2_with fail
    refine (K2.out _ hb1).mono ?_
    rintro e w2 ⟨⟨r2, m2, e2, rfl⟩, hb2⟩
    have hb := hb1.trans (hb2.mono hb1.size)
    have B2 := B0.trans (hb.mono B0.size)
    go_wp2)
  · exact bodyPost_ret (v := .tuple #[.bool false, .bool u]) (by simp [results, Try.results9, go_sem]) rfl ⟨rfl, B2⟩
  · exact bodyPost_ret (v := .tuple #[.bool false, .bool u]) (by simp [results, Try.results9, go_sem]) rfl ⟨rfl, B2⟩
  · exact bodyPost_ret (v := .tuple #[.bool false, .bool u]) (by simp [results, Try.results9, go_sem]) rfl ⟨rfl, B2⟩
  · exact bodyPost_ret (v := .tuple #[.bool true, .bool u]) (by simp [results, Try.results9, go_sem]) rfl ⟨rfl, B2⟩

set_option maxRecDepth 100000 in
set_option maxHeartbeats 8000000 in
theorem l10Same_any (pha : Option Addr) (phn phc : Nat) (ph : List Int) (pa : Option Addr) (pn pc : Nat) (pz : List Atm) (qha : Option Addr) (qhn qhc : Nat) (qh : List Int) (qa : Option Addr) (qn qc : Nat) (qz : List Atm) (w : World) (h1 : ph.length = phn) (h2 : phn ≤ 9223372036854775807) (h3 : At w pha ph) (h4 : pz.length = pn) (h5 : pn ≤ 9223372036854775807) (h6 : AtQ w pa pz) (g1 : qh.length = qhn) (g2 : qhn ≤ 9223372036854775807) (g3 : At w qha qh) (g4 : qz.length = qn) (g5 : qn ≤ 9223372036854775807) (g6 : AtQ w qa qz) (hI : InV qh qz) (hIp : InV ph pz) (hle : phn = qhn) (hf : Fit qz pz) (hf' : Fit pz qz) :
    Calls Try.prog 20 #[.agg #[.slice pha phn phc, .slice pa pn pc], .agg #[.slice qha qhn qhc, .slice qa qn qc]] w fun e w' => e = .returned (.bool ((mapF qh ph qz pz 6 []).isSome && (mapF ph qh pz qz 6 []).isSome)) ∧ Below w.heap.size w w' := by
  obtain ⟨W, hW⟩ : ∃ W, W = (w.alloc (.cells #[.slice pha phn phc, .slice pa pn pc] 31)).alloc (.cells #[.slice qha qhn qhc, .slice qa qn qc] 31) := ⟨_, rfl⟩
  have B0 : Below w.heap.size w W := by rw [hW]; exact ((Below.refl _ _).alloc (Nat.le_refl _) _).alloc (by simp) _
  have b0 : W.heap[w.heap.size]? = some (.cells #[.slice pha phn phc, .slice pa pn pc] 31 (0, 0)) := by rw [hW]; exact blk_alloc (heap_alloc_new w _) _
  have b1 : W.heap[w.heap.size + 1]? = some (.cells #[.slice qha qhn qhc, .slice qa qn qc] 31 (0, 0)) := by
    rw [hW]
    have h := heap_alloc_new (w.alloc (.cells #[.slice pha phn phc, .slice pa pn pc] 31)) (.cells #[.slice qha qhn qhc, .slice qa qn qc] 31)
    simpa only [World.size_alloc] using h
  have K1 : Hid (∀ w', Below W.heap.size W w' → Calls Try.prog 35 #[.agg #[.slice pha phn phc, .slice pa pn pc], .agg #[.slice qha qhn qhc, .slice qa qn qc]] w' fun e w'' => (∃ r n d, e = .returned (.tuple #[.slice r n d, .bool (mapF qh ph qz pz 6 []).isSome])) ∧ Below w'.heap.size w' w'') := fun w' h => by
    have hb := B0.trans (h.mono B0.size)
    refine (l10Contained_any pha phn phc ph pa pn pc pz qha qhn qhc qh qa qn qc qz w' h1 h2 (At.below h3 hb) h4 h5 (AtSl.below h6 hb) g1 g2 (At.below g3 hb) g4 g5 (AtSl.below g6 hb) hI (by omega) hf hIp.2).mono ?_
    rintro e w'' ⟨h9, h8⟩
    exact ⟨mapRet_shape h9, h8⟩
  have K2 : Hid (∀ w', Below W.heap.size W w' → Calls Try.prog 35 #[.agg #[.slice qha qhn qhc, .slice qa qn qc], .agg #[.slice pha phn phc, .slice pa pn pc]] w' fun e w'' => (∃ r n d, e = .returned (.tuple #[.slice r n d, .bool (mapF ph qh pz qz 6 []).isSome])) ∧ Below w'.heap.size w' w'') := fun w' h => by
    have hb := B0.trans (h.mono B0.size)
    refine (l10Contained_any qha qhn qhc qh qa qn qc qz pha phn phc ph pa pn pc pz w' g1 g2 (At.below g3 hb) g4 g5 (AtSl.below g6 hb) h1 h2 (At.below h3 hb) h4 h5 (AtSl.below h6 hb) hIp (by omega) hf' hI.2).mono ?_
    rintro e w'' ⟨h9, h8⟩
    exact ⟨mapRet_shape h9, h8⟩
  have c0 := blk_cell b0 0 (v := .slice pha phn phc) rfl
  have c1 := blk_cell b0 1 (v := .slice pa pn pc) rfl
  have d0 := blk_cell b1 0 (v := .slice qha qhn qhc) rfl
  have d1 := blk_cell b1 1 (v := .slice qa qn qc) rfl
  have HW : Hid (∀ (w' : World), Below W.heap.size W w' → w'.cell? ⟨w.heap.size, 0, none⟩ = some (.slice pha phn phc) ∧ w'.cell? ⟨w.heap.size, 1, none⟩ = some (.slice pa pn pc) ∧ w'.cell? ⟨w.heap.size + 1, 0, none⟩ = some (.slice qha qhn qhc) ∧ w'.cell? ⟨w.heap.size + 1, 1, none⟩ = some (.slice qa qn qc)) := fun w' h => ⟨cell_later h c0, cell_later h c1, cell_later h d0, cell_later h d1⟩
  obtain ⟨x, hx⟩ : ∃ x, x = (mapF qh ph qz pz 6 []).isSome := ⟨_, rfl⟩
  obtain ⟨y, hy⟩ : ∃ y, y = (mapF ph qh pz qz 6 []).isSome := ⟨_, rfl⟩
  rw [← hx] at K1 ⊢
  rw [← hy] at K2 ⊢
  clear hx hy b0 b1 h1 h3 h4 h6 g1 g3 g4 g6 hI hIp hf hf' hle
  cases x <;> cases y
  all_goals (
    go_enter Try.func20, Try.ntmps20
    go_upto_region 1 with fail
    rw [← hW]
    clear hW
    go_wp2_with fail
    refine (K1.out _ (Below.refl _ _)).mono ?_
    rintro e w1 ⟨⟨r1, m1, e1, rfl⟩, hb1⟩
    obtain ⟨c0, c1, d0, d1⟩ := HW.out w1 hb1
    go_wp2_with fail
    refine (K2.out _ hb1).mono ?_
    rintro e w2 ⟨⟨r2, m2, e2, rfl⟩, hb2⟩
    have hb := hb1.trans (hb2.mono hb1.size)
    have B2 := B0.trans (hb.mono B0.size)
    go_wp2)
  · exact bodyPost_ret (v := .bool false) (by simp [results, Try.results20, go_sem]) rfl ⟨rfl, B2⟩
  · exact bodyPost_ret (v := .bool false) (by simp [results, Try.results20, go_sem]) rfl ⟨rfl, B2⟩
  · exact bodyPost_ret (v := .bool false) (by simp [results, Try.results20, go_sem]) rfl ⟨rfl, B2⟩
  · exact bodyPost_ret (v := .bool true) (by simp [results, Try.results20, go_sem]) rfl ⟨rfl, B2⟩

set_option maxRecDepth 100000 in
set_option maxHeartbeats 8000000 in
theorem specSameQueries (pha : Option Addr) (phn phc : Nat) (ph : List Int) (pa : Option Addr) (pn pc : Nat) (pz : List Atm) (qha : Option Addr) (qhn qhc : Nat) (qh : List Int) (qa : Option Addr) (qn qc : Nat) (qz : List Atm) (ta : Option Addr) (tn tc : Nat) (ts : List Int) (w : World)
    (h1 : ph.length = phn) (h2 : phn ≤ 9223372036854775807) (h3 : At w pha ph) (h4 : pz.length = pn) (h5 : pn ≤ 9223372036854775807) (h6 : AtQ w pa pz) (g1 : qh.length = qhn) (g2 : qhn ≤ 9223372036854775807) (g3 : At w qha qh) (g4 : qz.length = qn) (g5 : qn ≤ 9223372036854775807) (g6 : AtQ w qa qz) (t1 : ts.length = tn) (t2 : tn ≤ 9223372036854775807) (t3 : At w ta ts) :
    Calls Try.prog 6 #[.agg #[.slice pha phn phc, .slice pa pn pc], .agg #[.slice qha qhn qhc, .slice qa qn qc], .slice ta tn tc] w fun e w' => e = .returned (.tuple #[.bool (smV ph pz qh qz ts), .bool (icB ph pz qh qz ts)]) ∧ Below w.heap.size w w' := by
  obtain ⟨W, hW⟩ : ∃ W, W = (w.alloc (.cells #[.slice pha phn phc, .slice pa pn pc] 31)).alloc (.cells #[.slice qha qhn qhc, .slice qa qn qc] 31) := ⟨_, rfl⟩
  have B0 : Below w.heap.size w W := by rw [hW]; exact ((Below.refl _ _).alloc (Nat.le_refl _) _).alloc (by simp) _
  have b0 : W.heap[w.heap.size]? = some (.cells #[.slice pha phn phc, .slice pa pn pc] 31 (0, 0)) := by rw [hW]; exact blk_alloc (heap_alloc_new w _) _
  have b1 : W.heap[w.heap.size + 1]? = some (.cells #[.slice qha qhn qhc, .slice qa qn qc] 31 (0, 0)) := by
    rw [hW]
    have h := heap_alloc_new (w.alloc (.cells #[.slice pha phn phc, .slice pa pn pc] 31)) (.cells #[.slice qha qhn qhc, .slice qa qn qc] 31)
    simpa only [World.size_alloc] using h
  have KP : Hid (∀ w', Below W.heap.size W w' → Calls Try.prog 19 #[.agg #[.slice pha phn phc, .slice pa pn pc], .slice ta tn tc] w' fun e w'' => e = .returned (.bool (gqB ph pz ts)) ∧ Below w'.heap.size w' w'') := fun w' h => by
    have hb := B0.trans (h.mono B0.size)
    exact specGoodQuery pha phn phc ph pa pn pc pz ta tn tc ts w' h1 h2 (At.below h3 hb) h4 h5 (AtSl.below h6 hb) t1 t2 (At.below t3 hb)
  have KQ : Hid (∀ w', Below W.heap.size W w' → Calls Try.prog 19 #[.agg #[.slice qha qhn qhc, .slice qa qn qc], .slice ta tn tc] w' fun e w'' => e = .returned (.bool (gqB qh qz ts)) ∧ Below w'.heap.size w' w'') := fun w' h => by
    have hb := B0.trans (h.mono B0.size)
    exact specGoodQuery qha qhn qhc qh qa qn qc qz ta tn tc ts w' g1 g2 (At.below g3 hb) g4 g5 (AtSl.below g6 hb) t1 t2 (At.below t3 hb)
  have c0 := blk_cell b0 0 (v := .slice pha phn phc) rfl
  have c1 := blk_cell b0 1 (v := .slice pa pn pc) rfl
  have d0 := blk_cell b1 0 (v := .slice qha qhn qhc) rfl
  have d1 := blk_cell b1 1 (v := .slice qa qn qc) rfl
  have HW : Hid (∀ (w' : World), Below W.heap.size W w' → w'.cell? ⟨w.heap.size, 0, none⟩ = some (.slice pha phn phc) ∧ w'.cell? ⟨w.heap.size, 1, none⟩ = some (.slice pa pn pc) ∧ w'.cell? ⟨w.heap.size + 1, 0, none⟩ = some (.slice qha qhn qhc) ∧ w'.cell? ⟨w.heap.size + 1, 1, none⟩ = some (.slice qa qn qc)) := fun w' h => ⟨cell_later h c0, cell_later h c1, cell_later h d0, cell_later h d1⟩
  cases hp : gqB ph pz ts with
  | false =>
    rw [hp] at KP
    have hB : icB ph pz qh qz ts = false := by unfold icB; rw [hp]; rfl
    rw [smV_no hB, hB]
    clear hB
    go_enter Try.func6, Try.ntmps6
    go_upto_region 1 with fail
    rw [← hW]
    clear hW
    go_wp2_with fail
    refine (KP.out _ (Below.refl _ _)).mono ?_
    rintro e w1 ⟨rfl, hb1⟩
    go_wp2
    exact bodyPost_ret (v := .tuple #[.bool false, .bool false]) (by simp [results, Try.results6, go_sem]) rfl ⟨rfl, B0.trans (hb1.mono B0.size)⟩
  | true =>
  cases hq : gqB qh qz ts with
  | false =>
    rw [hp] at KP
    rw [hq] at KQ
    have hB : icB ph pz qh qz ts = false := by unfold icB; rw [hq]; simp
    rw [smV_no hB, hB]
    clear hB
    go_enter Try.func6, Try.ntmps6
    go_upto_region 1 with fail
    rw [← hW]
    clear hW
    go_wp2_with fail
    refine (KP.out _ (Below.refl _ _)).mono ?_
    rintro e w1 ⟨rfl, hb1⟩
    obtain ⟨c0, c1, d0, d1⟩ := HW.out w1 hb1
    go_wp2_with fail
    refine (KQ.out _ hb1).mono ?_
    rintro e w2 ⟨rfl, hb2⟩
    have hb := hb1.trans (hb2.mono hb1.size)
    go_wp2
    exact bodyPost_ret (v := .tuple #[.bool false, .bool false]) (by simp [results, Try.results6, go_sem]) rfl ⟨rfl, B0.trans (hb.mono B0.size)⟩
  | true =>
  by_cases hl : phn = qhn
  rotate_left
  · have hli : ¬ (phn : Int) = (qhn : Int) := by omega
    rw [hp] at KP
    rw [hq] at KQ
    have hB : icB ph pz qh qz ts = false := by unfold icB; rw [decide_eq_false (by omega)]; simp
    rw [smV_no hB, hB]
    clear hB
    go_enter Try.func6, Try.ntmps6
    go_upto_region 1 with fail
    rw [← hW]
    clear hW
    go_wp2_with fail
    refine (KP.out _ (Below.refl _ _)).mono ?_
    rintro e w1 ⟨rfl, hb1⟩
    obtain ⟨c0, c1, d0, d1⟩ := HW.out w1 hb1
    go_wp2_with fail
    refine (KQ.out _ hb1).mono ?_
    rintro e w2 ⟨rfl, hb2⟩
    have hb := hb1.trans (hb2.mono hb1.size)
    obtain ⟨c0, c1, d0, d1⟩ := HW.out w2 hb
    go_wp2
    exact bodyPost_ret (v := .tuple #[.bool false, .bool false]) (by simp [results, Try.results6, go_sem]) rfl ⟨rfl, B0.trans (hb.mono B0.size)⟩
  have hB : icB ph pz qh qz ts = true := by unfold icB; rw [hp, hq, decide_eq_true (by omega)]; rfl
  have KL : Hid (∀ w', Below W.heap.size W w' → Calls Try.prog 20 #[.agg #[.slice pha phn phc, .slice pa pn pc], .agg #[.slice qha qhn qhc, .slice qa qn qc]] w' fun e w'' => e = .returned (.bool (smV ph pz qh qz ts)) ∧ Below w'.heap.size w' w'') := fun w' h => by
    have hb := B0.trans (h.mono B0.size)
    rw [smV_yes hB]
    exact l10Same_any pha phn phc ph pa pn pc pz qha qhn qhc qh qa qn qc qz w' h1 h2 (At.below h3 hb) h4 h5 (AtSl.below h6 hb) g1 g2 (At.below g3 hb) g4 g5 (AtSl.below g6 hb) ⟨gq_head hq, gq_in hq⟩ ⟨gq_head hp, gq_in hp⟩ hl (gq_fit hq hp) (gq_fit hp hq)
  rw [hp] at KP
  rw [hq] at KQ
  rw [hB]
  obtain ⟨x, hx⟩ : ∃ x, x = smV ph pz qh qz ts := ⟨_, rfl⟩
  rw [← hx] at KL ⊢
  subst hl
  clear hx hB hp hq b0 b1 h1 h3 h4 h6 g1 g3 g4 g6 t1 t3
  go_enter Try.func6, Try.ntmps6
  go_upto_region 1 with fail
  rw [← hW]
  clear hW
  go_wp2_with fail
  refine (KP.out _ (Below.refl _ _)).mono ?_
  rintro e w1 ⟨rfl, hb1⟩
  obtain ⟨c0, c1, d0, d1⟩ := HW.out w1 hb1
  go_wp2_with fail
  refine (KQ.out _ hb1).mono ?_
  rintro e w2 ⟨rfl, hb2⟩
  have hb := hb1.trans (hb2.mono hb1.size)
  obtain ⟨c0, c1, d0, d1⟩ := HW.out w2 hb
  go_wp2_with fail
  refine (KL.out _ hb).mono ?_
  rintro e w3 ⟨rfl, hb3⟩
  have hb' := hb.trans (hb3.mono hb.size)
  have B3 := B0.trans (hb'.mono B0.size)
  go_wp2
  exact bodyPost_ret (v := .tuple #[.bool x, .bool true]) (by simp [results, Try.results6, go_sem]) rfl ⟨rfl, B3⟩

end Go.Proofs.Ytfodcjlekbdfhab

/- Contracts of the laws' helpers over queries: szAtom, szAtomS, szQuery. -/
namespace Go.Proofs.Ytfodcjlekbdfhab
open Go.RowKit

set_option maxRecDepth 100000 in
set_option maxHeartbeats 1000000 in
theorem szAtom_any (p : Int) (pa : Option Addr) (pn pc : Nat) (xs : List Int) (l : Int) (w : World) (hz : xs.length = pn) (hn : pn ≤ 9223372036854775807) (h0 : 0 ≤ l) (h1 : l ≤ 1048576) :
    Calls Try.prog 31 #[.agg #[.int .i64 p, .slice pa pn pc], .int .i64 l] w fun e w' => e = .returned (.int .i64 (leftOf l (acost (p, xs)))) ∧ Below w.heap.size w w' := by
  have hv : acost (p, xs) = pn := by unfold acost; simp only; rw [hz]
  rw [hv]
  clear hv
  obtain ⟨W, hW⟩ : ∃ W, W = w.alloc (.cells #[.int .i64 p, .slice pa pn pc] 56) := ⟨_, rfl⟩
  have B0 : Below w.heap.size w W := by rw [hW]; exact (Below.refl _ _).alloc (Nat.le_refl _) _
  clear hz
  by_cases c1 : l < pn
  · go_enter Try.func31, Try.ntmps31
    go_wp2_with fail
    rw [← hW]
    clear hW
    refine (szIntS_any pa pn pc l W hn h0 h1).mono ?_
    rintro e w2 ⟨rfl, rfl⟩
    rw [if_pos c1]
    go_wp2
    go_ret
    exact ⟨ret_int (leftOf_no (by omega)).symm, B0⟩
  · go_enter Try.func31, Try.ntmps31
    have d1 : ¬ l - (pn : Int) < 0 := by omega
    go_wp2_with fail
    rw [← hW]
    clear hW
    refine (szIntS_any pa pn pc l W hn h0 h1).mono ?_
    rintro e w2 ⟨rfl, rfl⟩
    rw [if_neg (by omega)]
    go_wp2
    go_ret
    exact ⟨ret_int (by rw [leftOf_yes (by omega)]), B0⟩

set_option maxRecDepth 100000 in
set_option maxHeartbeats 2000000 in
theorem szAtomS_any (a : Option Addr) (n c : Nat) (xs : List Atm) (l : Int) (w : World) (hz : xs.length = n) (hn : n ≤ 9223372036854775807) (h0 : 0 ≤ l) (h1 : l ≤ 1048576) (ha : AtQ w a xs) :
    Calls Try.prog 18 #[.slice a n c, .int .i64 l] w fun e w' => e = .returned (.int .i64 (leftOf l (n + asum xs n : Nat))) ∧ Below w.heap.size w w' := by
  by_cases hb : l < n
  · have h' : l - (n : Int) < 0 := by omega
    go_enter Try.func18, Try.ntmps18
    go_wp2
    go_ret
    exact ⟨ret_int (leftOf_no (by omega)).symm, Below.refl _ _⟩
  have h' : ¬ l - (n : Int) < 0 := by omega
  by_cases hn0 : n = 0
  · subst hn0
    have ht : asum xs 0 = 0 := asum_zero xs
    go_enter Try.func18, Try.ntmps18
    go_wp2
    refine wp_loop_rounds 1 ?_
    rw [rounds_succ]
    go_wp2
    go_ret
    exact ⟨ret_int (by rw [ht, leftOf_yes (by omega)]; omega), Below.refl _ _⟩
  · go_enter Try.func18, Try.ntmps18
    go_wp2
    go_loopw [1, 5] (fun q i wr => ∃ (k : Nat) (r : Int), k ≤ n ∧ i = .int .i64 k ∧ q = .int .i64 r ∧ 0 ≤ r ∧ r ≤ 1048576 ∧ r + asum xs k = l - n ∧ Below w.heap.size w wr) (fun _ i _ => n - (intOf i).toNat)
    case atStart => exact ⟨0, l - n, Nat.zero_le _, rfl, rfl, by omega, by omega, by rw [asum_zero]; omega, Below.refl _ _⟩
    case round =>
      obtain ⟨k, r, hk, rfl, rfl, hr0, hr1, hr, hbw⟩ := hrel
      by_cases hlt : k < n
      · obtain ⟨b, off, rfl, _, hc⟩ := AtQ.row (AtSl.below ha hbw) (by omega)
        obtain ⟨⟨xp, xt⟩, hx⟩ : ∃ x, xs[k]? = some x := ⟨_, List.getElem?_eq_getElem (by omega)⟩
        obtain ⟨ta, tn, tc, g0, g1, u1, u2, _⟩ := hc k _ hx
        have hts := asum_succ hx
        have htm := asum_mono xs (k + 1) n (by omega)
        have HR := Hid.mk hr
        have HT := Hid.mk hts
        have HM := Hid.mk htm
        have HX2 := Hid.mk u1
        have hki : (k : Int) < (n : Int) := by omega
        clear hc hr hts ha htm hx u1
        by_cases hfit : r < acost (xp, xt)
        · go_wp2_with fail
          refine (szAtom_any xp ta tn tc xt r wr HX2.out u2 hr0 hr1).mono ?_
          rintro e w' ⟨rfl, hb'⟩
          rw [leftOf_no hfit]
          go_wp2
          go_ret
          exact ⟨ret_int (leftOf_no (by have := HR.out; have := HT.out; have := HM.out; omega)).symm, hbw.trans (hb'.mono hbw.size)⟩
        · have hd : ¬ r - (acost (xp, xt) : Int) < 0 := by omega
          go_wp2_with fail
          refine (szAtom_any xp ta tn tc xt r wr HX2.out u2 hr0 hr1).mono ?_
          rintro e w' ⟨rfl, hb'⟩
          rw [leftOf_yes (by omega)]
          go_wp2
          go_roundw
          case rel => exact ⟨k + 1, r - acost (xp, xt), by omega, by go_num, rfl, by omega, by omega, by have := HR.out; have := HT.out; omega, hbw.trans (hb'.mono hbw.size)⟩
          case measure => simp [intOf]; omega
      · obtain rfl : k = n := by omega
        have HR := Hid.mk hr
        clear hr
        go_wp2
        go_ret
        exact ⟨ret_int (by have := HR.out; rw [leftOf_yes (by omega)]; omega), hbw⟩

/-- What the laws count for a query. -/
def qcost (x : Qry) : Nat := x.1.length + (x.2.length + asum x.2 x.2.length)

set_option maxRecDepth 100000 in
set_option maxHeartbeats 1000000 in
theorem szQuery_any (sa : Option Addr) (sn sc : Nat) (pa : Option Addr) (pn pc : Nat) (ss : List Int) (xs : List Atm) (l : Int) (w : World) (hs : ss.length = sn) (hsn : sn ≤ 9223372036854775807) (hz : xs.length = pn) (hn : pn ≤ 9223372036854775807) (h0 : 0 ≤ l) (h1 : l ≤ 1048576) (ha : AtQ w pa xs) :
    Calls Try.prog 5 #[.agg #[.slice sa sn sc, .slice pa pn pc], .int .i64 l] w fun e w' => e = .returned (.int .i64 (leftOf l (qcost (ss, xs)))) ∧ Below w.heap.size w w' := by
  obtain ⟨C, hC⟩ : ∃ C, pn + asum xs pn = C := ⟨_, rfl⟩
  have hv : qcost (ss, xs) = sn + C := by unfold qcost; simp only; rw [hs, hz, hC]
  rw [hv]
  clear hv
  have HC := Hid.mk hC
  clear hC
  obtain ⟨W, hW⟩ : ∃ W, W = w.alloc (.cells #[.slice sa sn sc, .slice pa pn pc] 25) := ⟨_, rfl⟩
  have B0 : Below w.heap.size w W := by rw [hW]; exact (Below.refl _ _).alloc (Nat.le_refl _) _
  have q1 : W.cell? ⟨w.heap.size, 1, none⟩ = some (.slice pa pn pc) := by rw [hW]; simp
  have HZ := Hid.mk hz
  have HA := Hid.mk (AtSl.below ha B0)
  clear hz hs ha
  by_cases c1 : l < sn
  · go_enter Try.func5, Try.ntmps5
    go_wp2_with fail
    rw [← hW]
    clear hW
    refine (szIntS_any sa sn sc l W hsn h0 h1).mono ?_
    rintro e w2 ⟨rfl, rfl⟩
    rw [if_pos c1]
    go_wp2
    go_ret
    exact ⟨ret_int (leftOf_no (by omega)).symm, B0⟩
  by_cases c2 : l - sn < (C : Int)
  · go_enter Try.func5, Try.ntmps5
    have d1 : ¬ l - (sn : Int) < 0 := by omega
    go_wp2_with fail
    rw [← hW]
    clear hW
    refine (szIntS_any sa sn sc l W hsn h0 h1).mono ?_
    rintro e w2 ⟨rfl, h9⟩
    obtain rfl := h9.symm
    rw [if_neg (by omega)]
    go_wp2_with fail
    refine (szAtomS_any pa pn pc xs (l - sn) _ HZ.out hn (by omega) (by omega) HA.out).mono ?_
    rintro e w3 ⟨rfl, hb⟩
    rw [HC.out, leftOf_no c2]
    go_wp2
    go_ret
    exact ⟨ret_int (leftOf_no (by omega)).symm, B0.trans (hb.mono B0.size)⟩
  · go_enter Try.func5, Try.ntmps5
    have d1 : ¬ l - (sn : Int) < 0 := by omega
    have d2 : ¬ l - (sn : Int) - (C : Int) < 0 := by omega
    go_wp2_with fail
    rw [← hW]
    clear hW
    refine (szIntS_any sa sn sc l W hsn h0 h1).mono ?_
    rintro e w2 ⟨rfl, h9⟩
    obtain rfl := h9.symm
    rw [if_neg (by omega)]
    go_wp2_with fail
    refine (szAtomS_any pa pn pc xs (l - sn) _ HZ.out hn (by omega) (by omega) HA.out).mono ?_
    rintro e w3 ⟨rfl, hb⟩
    rw [HC.out, leftOf_yes (by omega)]
    go_wp2
    go_ret
    exact ⟨ret_int (by rw [leftOf_yes (by omega)]; omega), B0.trans (hb.mono B0.size)⟩

end Go.Proofs.Ytfodcjlekbdfhab
