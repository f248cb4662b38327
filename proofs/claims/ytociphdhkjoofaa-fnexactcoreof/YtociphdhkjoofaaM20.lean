/- Several texts of one proof, in build order: SmQ, CrP, LayW, QrL, PsL, QvC, StepV, StepW. -/
import Derived.Test.YtociphdhkjoofaaM15
import Derived.Test.YtociphdhkjoofaaM19
import Derived.Test.YtociphdhkjoofaaM8
import Derived.Test.YtociphdhkjoofaaM5
import Derived.Test.YtociphdhkjoofaaM13
import Derived.Test.YtociphdhkjoofaaM3
import Derived.Test.YtociphdhkjoofaaM4

/- Contracts of impl.SameQueries, spec.l10Same, spec.SameQueries. -/
namespace Go.Proofs.Ytociphdhkjoofaa
open Go.RowKit

def smV (ph : List Int) (pz : List Atm) (qh : List Int) (qz : List Atm) (ts : List Int) : Bool := (icM ph pz qh qz ts).isSome && (icM qh qz ph pz ts).isSome
theorem icB_comm (ph : List Int) (pz : List Atm) (qh : List Int) (qz : List Atm) (ts : List Int) : icB qh qz ph pz ts = icB ph pz qh qz ts := by
  unfold icB
  rw [Bool.and_comm (gqB qh qz ts), show decide (qh.length = ph.length) = decide (ph.length = qh.length) from by simp only [eq_comm]]
theorem smV_no {ph : List Int} {pz : List Atm} {qh : List Int} {qz : List Atm} {ts : List Int} (h : icB ph pz qh qz ts = false) : smV ph pz qh qz ts = false := by
  unfold smV icM
  rw [h]
  rfl
theorem smV_yes {ph : List Int} {pz : List Atm} {qh : List Int} {qz : List Atm} {ts : List Int} (h : icB ph pz qh qz ts = true) : smV ph pz qh qz ts = ((mapF qh ph qz pz 6 []).isSome && (mapF ph qh pz qz 6 []).isSome) := by
  have h' := h
  have h2 := icB_comm ph pz qh qz ts
  unfold icB at h'
  simp only [Bool.and_eq_true, decide_eq_true_eq] at h'
  rw [← ic_map h'.1.1 h'.1.2, ← ic_map h'.1.2 h'.1.1]
  unfold smV icM
  rw [h2, h]
  simp
theorem mapRet_shape {O : Option (List Int)} {e : Ending} {w' : World} {lo : Nat} (h : MapRet O e w' lo) : ∃ r n d, e = .returned (.tuple #[.slice r n d, .bool O.isSome]) := by
  cases O with
  | none => exact ⟨none, 0, 0, h⟩
  | some m => obtain ⟨r, d, h1, _⟩ := h; exact ⟨r, 6, d, h1⟩

set_option maxRecDepth 100000 in
set_option maxHeartbeats 8000000 in
theorem implSameQueries (pha : Option Addr) (phn phc : Nat) (ph : List Int) (pa : Option Addr) (pn pc : Nat) (pz : List Atm) (qha : Option Addr) (qhn qhc : Nat) (qh : List Int) (qa : Option Addr) (qn qc : Nat) (qz : List Atm) (ta : Option Addr) (tn tc : Nat) (ts : List Int) (w : World)
    (h1 : ph.length = phn) (h2 : phn ≤ 9223372036854775807) (h3 : At w pha ph) (h4 : pz.length = pn) (h5 : pn ≤ 9223372036854775807) (h6 : AtQ w pa pz) (g1 : qh.length = qhn) (g2 : qhn ≤ 9223372036854775807) (g3 : At w qha qh) (g4 : qz.length = qn) (g5 : qn ≤ 9223372036854775807) (g6 : AtQ w qa qz) (t1 : ts.length = tn) (t2 : tn ≤ 9223372036854775807) (t3 : At w ta ts) :
    Calls Try.prog 37 #[.agg #[.slice pha phn phc, .slice pa pn pc], .agg #[.slice qha qhn qhc, .slice qa qn qc], .slice ta tn tc] w fun e w' => e = .returned (.tuple #[.bool (smV ph pz qh qz ts), .bool (icB ph pz qh qz ts)]) ∧ Below w.heap.size w w' := by
  obtain ⟨W, hW⟩ : ∃ W, W = (w.alloc (.cells #[.slice pha phn phc, .slice pa pn pc] 29)).alloc (.cells #[.slice qha qhn qhc, .slice qa qn qc] 29) := ⟨_, rfl⟩
  have B0 : Below w.heap.size w W := by rw [hW]; exact ((Below.refl _ _).alloc (Nat.le_refl _) _).alloc (by simp) _
  have b0 : W.heap[w.heap.size]? = some (.cells #[.slice pha phn phc, .slice pa pn pc] 29 (0, 0)) := by rw [hW]; exact blk_alloc (heap_alloc_new w _) _
  have b1 : W.heap[w.heap.size + 1]? = some (.cells #[.slice qha qhn qhc, .slice qa qn qc] 29 (0, 0)) := by
    rw [hW]
    have h := heap_alloc_new (w.alloc (.cells #[.slice pha phn phc, .slice pa pn pc] 29)) (.cells #[.slice qha qhn qhc, .slice qa qn qc] 29)
    simpa only [World.size_alloc] using h
  have K1 : Hid (∀ w', Below W.heap.size W w' → Calls Try.prog 61 #[.agg #[.slice pha phn phc, .slice pa pn pc], .agg #[.slice qha qhn qhc, .slice qa qn qc], .slice ta tn tc] w' fun e w'' => (∃ r n d, e = .returned (.tuple #[.slice r n d, .bool (icM ph pz qh qz ts).isSome, .bool (icB ph pz qh qz ts)])) ∧ Below w'.heap.size w' w'') := fun w' h => by
    have hb := B0.trans (h.mono B0.size)
    refine (implIsContained pha phn phc ph pa pn pc pz qha qhn qhc qh qa qn qc qz ta tn tc ts w' h1 h2 (At.below h3 hb) h4 h5 (AtSl.below h6 hb) g1 g2 (At.below g3 hb) g4 g5 (AtSl.below g6 hb) t1 t2 (At.below t3 hb)).mono ?_
    rintro e w'' ⟨⟨r, n, d, h9, _⟩, h8⟩
    exact ⟨⟨r, n, d, h9⟩, h8⟩
  have K2 : Hid (∀ w', Below W.heap.size W w' → Calls Try.prog 61 #[.agg #[.slice qha qhn qhc, .slice qa qn qc], .agg #[.slice pha phn phc, .slice pa pn pc], .slice ta tn tc] w' fun e w'' => (∃ r n d, e = .returned (.tuple #[.slice r n d, .bool (icM qh qz ph pz ts).isSome, .bool (icB qh qz ph pz ts)])) ∧ Below w'.heap.size w' w'') := fun w' h => by
    have hb := B0.trans (h.mono B0.size)
    refine (implIsContained qha qhn qhc qh qa qn qc qz pha phn phc ph pa pn pc pz ta tn tc ts w' g1 g2 (At.below g3 hb) g4 g5 (AtSl.below g6 hb) h1 h2 (At.below h3 hb) h4 h5 (AtSl.below h6 hb) t1 t2 (At.below t3 hb)).mono ?_
    rintro e w'' ⟨⟨r, n, d, h9, _⟩, h8⟩
    exact ⟨⟨r, n, d, h9⟩, h8⟩
  have c0 := blk_cell b0 0 (v := .slice pha phn phc) rfl
  have c1 := blk_cell b0 1 (v := .slice pa pn pc) rfl
  have d0 := blk_cell b1 0 (v := .slice qha qhn qhc) rfl
  have d1 := blk_cell b1 1 (v := .slice qa qn qc) rfl
  have HW : Hid (∀ (w' : World), Below W.heap.size W w' → w'.cell? ⟨w.heap.size, 0, none⟩ = some (.slice pha phn phc) ∧ w'.cell? ⟨w.heap.size, 1, none⟩ = some (.slice pa pn pc) ∧ w'.cell? ⟨w.heap.size + 1, 0, none⟩ = some (.slice qha qhn qhc) ∧ w'.cell? ⟨w.heap.size + 1, 1, none⟩ = some (.slice qa qn qc)) := fun w' h => ⟨cell_later h c0, cell_later h c1, cell_later h d0, cell_later h d1⟩
  unfold smV
  obtain ⟨x, hx⟩ : ∃ x, x = (icM ph pz qh qz ts).isSome := ⟨_, rfl⟩
  obtain ⟨y, hy⟩ : ∃ y, y = (icM qh qz ph pz ts).isSome := ⟨_, rfl⟩
  obtain ⟨u, hu⟩ : ∃ u, u = icB ph pz qh qz ts := ⟨_, rfl⟩
  obtain ⟨v, hv⟩ : ∃ v, v = icB qh qz ph pz ts := ⟨_, rfl⟩
  rw [← hx, ← hu] at K1 ⊢
  rw [← hy, ← hv] at K2
  rw [← hy]
  clear hx hy hu hv b0 b1 h1 h3 h4 h6 g1 g3 g4 g6 t1 t3
  cases x <;> cases y
  all_goals (
    go_enter Try.func37, Try.ntmps37
    go_upto_region 1 with fail
    rw [← hW]
    clear hW
    go_wp2_with fail
    refine (K1.out _ (Below.refl _ _)).mono ?_
    rintro e w1 ⟨⟨r1, m1, e1, rfl⟩, hb1⟩
    obtain ⟨c0, c1, d0, d1⟩ := HW.out w1 hb1
    go_wp2_with fail
    refine (K2.out _ hb1).mono ?_
    rintro e w2 ⟨⟨r2, m2, e2, rfl⟩, hb2⟩
    have hb := hb1.trans (hb2.mono hb1.size)
    have B2 := B0.trans (hb.mono B0.size)
    go_wp2)
  · exact bodyPost_ret (v := .tuple #[.bool false, .bool u]) (by simp [results, Try.results37, go_sem]) rfl ⟨rfl, B2⟩
  · exact bodyPost_ret (v := .tuple #[.bool false, .bool u]) (by simp [results, Try.results37, go_sem]) rfl ⟨rfl, B2⟩
  · exact bodyPost_ret (v := .tuple #[.bool false, .bool u]) (by simp [results, Try.results37, go_sem]) rfl ⟨rfl, B2⟩
  · exact bodyPost_ret (v := .tuple #[.bool true, .bool u]) (by simp [results, Try.results37, go_sem]) rfl ⟨rfl, B2⟩

set_option maxRecDepth 100000 in
set_option maxHeartbeats 8000000 in
theorem l10Same_any (pha : Option Addr) (phn phc : Nat) (ph : List Int) (pa : Option Addr) (pn pc : Nat) (pz : List Atm) (qha : Option Addr) (qhn qhc : Nat) (qh : List Int) (qa : Option Addr) (qn qc : Nat) (qz : List Atm) (w : World) (h1 : ph.length = phn) (h2 : phn ≤ 9223372036854775807) (h3 : At w pha ph) (h4 : pz.length = pn) (h5 : pn ≤ 9223372036854775807) (h6 : AtQ w pa pz) (g1 : qh.length = qhn) (g2 : qhn ≤ 9223372036854775807) (g3 : At w qha qh) (g4 : qz.length = qn) (g5 : qn ≤ 9223372036854775807) (g6 : AtQ w qa qz) (hI : InV qh qz) (hIp : InV ph pz) (hle : phn = qhn) (hf : Fit qz pz) (hf' : Fit pz qz) :
    Calls Try.prog 32 #[.agg #[.slice pha phn phc, .slice pa pn pc], .agg #[.slice qha qhn qhc, .slice qa qn qc]] w fun e w' => e = .returned (.bool ((mapF qh ph qz pz 6 []).isSome && (mapF ph qh pz qz 6 []).isSome)) ∧ Below w.heap.size w w' := by
  obtain ⟨W, hW⟩ : ∃ W, W = (w.alloc (.cells #[.slice pha phn phc, .slice pa pn pc] 29)).alloc (.cells #[.slice qha qhn qhc, .slice qa qn qc] 29) := ⟨_, rfl⟩
  have B0 : Below w.heap.size w W := by rw [hW]; exact ((Below.refl _ _).alloc (Nat.le_refl _) _).alloc (by simp) _
  have b0 : W.heap[w.heap.size]? = some (.cells #[.slice pha phn phc, .slice pa pn pc] 29 (0, 0)) := by rw [hW]; exact blk_alloc (heap_alloc_new w _) _
  have b1 : W.heap[w.heap.size + 1]? = some (.cells #[.slice qha qhn qhc, .slice qa qn qc] 29 (0, 0)) := by
    rw [hW]
    have h := heap_alloc_new (w.alloc (.cells #[.slice pha phn phc, .slice pa pn pc] 29)) (.cells #[.slice qha qhn qhc, .slice qa qn qc] 29)
    simpa only [World.size_alloc] using h
  have K1 : Hid (∀ w', Below W.heap.size W w' → Calls Try.prog 54 #[.agg #[.slice pha phn phc, .slice pa pn pc], .agg #[.slice qha qhn qhc, .slice qa qn qc]] w' fun e w'' => (∃ r n d, e = .returned (.tuple #[.slice r n d, .bool (mapF qh ph qz pz 6 []).isSome])) ∧ Below w'.heap.size w' w'') := fun w' h => by
    have hb := B0.trans (h.mono B0.size)
    refine (l10Contained_any pha phn phc ph pa pn pc pz qha qhn qhc qh qa qn qc qz w' h1 h2 (At.below h3 hb) h4 h5 (AtSl.below h6 hb) g1 g2 (At.below g3 hb) g4 g5 (AtSl.below g6 hb) hI (by omega) hf hIp.2).mono ?_
    rintro e w'' ⟨h9, h8⟩
    exact ⟨mapRet_shape h9, h8⟩
  have K2 : Hid (∀ w', Below W.heap.size W w' → Calls Try.prog 54 #[.agg #[.slice qha qhn qhc, .slice qa qn qc], .agg #[.slice pha phn phc, .slice pa pn pc]] w' fun e w'' => (∃ r n d, e = .returned (.tuple #[.slice r n d, .bool (mapF ph qh pz qz 6 []).isSome])) ∧ Below w'.heap.size w' w'') := fun w' h => by
    have hb := B0.trans (h.mono B0.size)
    refine (l10Contained_any qha qhn qhc qh qa qn qc qz pha phn phc ph pa pn pc pz w' g1 g2 (At.below g3 hb) g4 g5 (AtSl.below g6 hb) h1 h2 (At.below h3 hb) h4 h5 (AtSl.below h6 hb) hIp (by omega) hf' hI.2).mono ?_
    rintro e w'' ⟨h9, h8⟩
    exact ⟨mapRet_shape h9, h8⟩
  have c0 := blk_cell b0 0 (v := .slice pha phn phc) rfl
  have c1 := blk_cell b0 1 (v := .slice pa pn pc) rfl
  have d0 := blk_cell b1 0 (v := .slice qha qhn qhc) rfl
  have d1 := blk_cell b1 1 (v := .slice qa qn qc) rfl
  have HW : Hid (∀ (w' : World), Below W.heap.size W w' → w'.cell? ⟨w.heap.size, 0, none⟩ = some (.slice pha phn phc) ∧ w'.cell? ⟨w.heap.size, 1, none⟩ = some (.slice pa pn pc) ∧ w'.cell? ⟨w.heap.size + 1, 0, none⟩ = some (.slice qha qhn qhc) ∧ w'.cell? ⟨w.heap.size + 1, 1, none⟩ = some (.slice qa qn qc)) := fun w' h => ⟨cell_later h c0, cell_later h c1, cell_later h d0, cell_later h d1⟩
  obtain ⟨x, hx⟩ : ∃ x, x = (mapF qh ph qz pz 6 []).isSome := ⟨_, rfl⟩
  obtain ⟨y, hy⟩ : ∃ y, y = (mapF ph qh pz qz 6 []).isSome := ⟨_, rfl⟩
  rw [← hx] at K1 ⊢
  rw [← hy] at K2 ⊢
  clear hx hy b0 b1 h1 h3 h4 h6 g1 g3 g4 g6 hI hIp hf hf' hle
  cases x <;> cases y
  all_goals (
    go_enter Try.func32, Try.ntmps32
    go_upto_region 1 with fail
    rw [← hW]
    clear hW
    go_wp2_with fail
    refine (K1.out _ (Below.refl _ _)).mono ?_
    rintro e w1 ⟨⟨r1, m1, e1, rfl⟩, hb1⟩
    obtain ⟨c0, c1, d0, d1⟩ := HW.out w1 hb1
    go_wp2_with fail
    refine (K2.out _ hb1).mono ?_
    rintro e w2 ⟨⟨r2, m2, e2, rfl⟩, hb2⟩
    have hb := hb1.trans (hb2.mono hb1.size)
    have B2 := B0.trans (hb.mono B0.size)
    go_wp2)
  · exact bodyPost_ret (v := .bool false) (by simp [results, Try.results32, go_sem]) rfl ⟨rfl, B2⟩
  · exact bodyPost_ret (v := .bool false) (by simp [results, Try.results32, go_sem]) rfl ⟨rfl, B2⟩
  · exact bodyPost_ret (v := .bool false) (by simp [results, Try.results32, go_sem]) rfl ⟨rfl, B2⟩
  · exact bodyPost_ret (v := .bool true) (by simp [results, Try.results32, go_sem]) rfl ⟨rfl, B2⟩

end Go.Proofs.Ytociphdhkjoofaa

/- Plain: a question's core, atom by atom. -/
namespace Go.Proofs.Ytociphdhkjoofaa
open Go.RowKit

def coreF (hs ts : List Int) : Nat → List Atm → Nat → List Atm
  | 0, zs, _ => zs
  | f + 1, zs, i => if i < zs.length then (if smV hs zs hs (zs.eraseIdx i) ts then coreF hs ts f (zs.eraseIdx i) i else coreF hs ts f zs (i + 1)) else zs
theorem smV_comm (ph : List Int) (pz : List Atm) (qh : List Int) (qz : List Atm) (ts : List Int) : smV qh qz ph pz ts = smV ph pz qh qz ts := by
  unfold smV
  exact Bool.and_comm _ _
theorem smV_good {hs : List Int} {zs ys : List Atm} {ts : List Int} (h : smV hs zs hs ys ts = true) : gqB hs ys ts = true := by
  cases hB : icB hs zs hs ys ts with
  | false => rw [smV_no hB] at h; cases h
  | true => unfold icB at hB; simp only [Bool.and_eq_true] at hB; exact hB.1.2
/-- The model asks whether what is left is good, and then whether the two are the same; the program only the latter, the other way round. -/
theorem core_cond (hs : List Int) (zs ys : List Atm) (ts : List Int) : (gqB hs ys ts && smV hs ys hs zs ts) = smV hs zs hs ys ts := by
  rw [smV_comm]
  cases h : smV hs zs hs ys ts with
  | false => simp
  | true => rw [smV_good h]; rfl
theorem coreF_good {hs ts : List Int} : ∀ (f : Nat) (zs : List Atm) (i : Nat), gqB hs zs ts = true → gqB hs (coreF hs ts f zs i) ts = true
  | 0, _, _, h => h
  | f + 1, zs, i, h => by
    unfold coreF
    split
    · split
      · rename_i h1; exact coreF_good f _ i (smV_good h1)
      · exact coreF_good f zs (i + 1) h
    · exact h
theorem coreF_end {hs ts : List Int} {zs : List Atm} {i : Nat} (h : zs.length ≤ i) (f : Nat) : coreF hs ts f zs i = zs := by
  cases f with
  | zero => rfl
  | succ f => unfold coreF; rw [if_neg (by omega)]
theorem coreF_yes {hs ts : List Int} {zs : List Atm} {i f : Nat} (h : i < zs.length) (hs' : smV hs zs hs (zs.eraseIdx i) ts = true) : coreF hs ts (f + 1) zs i = coreF hs ts f (zs.eraseIdx i) i := by
  rw [coreF, if_pos h, if_pos hs']
theorem coreF_no {hs ts : List Int} {zs : List Atm} {i f : Nat} (h : i < zs.length) (hs' : smV hs zs hs (zs.eraseIdx i) ts = false) : coreF hs ts (f + 1) zs i = coreF hs ts f zs (i + 1) := by
  rw [coreF, if_pos h, if_neg (by rw [hs']; simp)]
theorem coreF_len {hs ts : List Int} : ∀ (f : Nat) (zs : List Atm) (i : Nat), (coreF hs ts f zs i).length ≤ zs.length
  | 0, _, _ => Nat.le_refl _
  | f + 1, zs, i => by
    unfold coreF
    split
    · split
      · exact Nat.le_trans (coreF_len f _ i) (List.length_eraseIdx_le zs i)
      · exact coreF_len f zs (i + 1)
    · exact Nat.le_refl _

end Go.Proofs.Ytociphdhkjoofaa

/- A list of things of which one is left out: in its own block moved up, or put anew elsewhere. No Go function is spoken of here. -/
namespace Go.Proofs.Ytociphdhkjoofaa
open Go.RowKit

section
variable {α : Type} {A : Rep α} {w w' : World} {F F' : Nat → Prop} {e : TypeId} {a a' : Option Addr} {n c c' i : Nat} {xs : List α} {cells : List Value} {G : Nat → Nat → Prop}

def skp (i j : Nat) : Nat := if j < i then j else j + 1
theorem skp_ne (i j : Nat) : skp i j ≠ i := by unfold skp; split <;> omega
theorem skp_inj {i j k : Nat} (h : skp i j = skp i k) : j = k := by unfold skp at h; split at h <;> split at h <;> omega
theorem skp_lt {i j n : Nat} (hj : j + 1 < n) : skp i j < n := by unfold skp; split <;> omega
theorem erase_skp {xs : List α} {i j : Nat} : (xs.eraseIdx i)[j]? = xs[skp i j]? := by
  rw [List.getElem?_eraseIdx]; unfold skp; split <;> rfl
def cutC (cells : List Value) (k i : Nat) : List Value := cells.take (i * k) ++ cells.drop ((i + 1) * k)
theorem cutC_len {k n i : Nat} (hl : cells.length = n * k) (hi : i < n) : (cutC cells k i).length = (n - 1) * k := by
  unfold cutC
  have h1 : (i + 1) * k ≤ n * k := Nat.mul_le_mul_right k hi
  have h2 : i * k ≤ (i + 1) * k := Nat.mul_le_mul_right k (by omega)
  rw [List.length_append, List.length_take, List.length_drop, hl, Nat.min_eq_left (by omega), Nat.sub_mul, Nat.one_mul]
  rw [Nat.succ_mul] at h1 ⊢
  omega
theorem cutC_sub {k n i j : Nat} (hl : cells.length = n * k) (hi : i < n) : sub (cutC cells k i) (j * k) k = sub cells (skp i j * k) k := by
  have hin : i * k ≤ n * k := Nat.mul_le_mul_right k (by omega)
  apply List.ext_getElem?
  intro q
  by_cases hq : q < k
  · rw [sub_at hq, sub_at hq]
    unfold cutC skp
    by_cases hji : j < i
    · rw [if_pos hji]
      have h1 : (j + 1) * k ≤ i * k := Nat.mul_le_mul_right k hji
      rw [Nat.succ_mul] at h1
      rw [List.getElem?_append_left (by rw [List.length_take, hl, Nat.min_eq_left hin]; omega), List.getElem?_take_of_lt (by omega)]
    · rw [if_neg hji]
      have h1 : i * k ≤ j * k := Nat.mul_le_mul_right k (by omega)
      rw [List.getElem?_append_right (by rw [List.length_take, hl, Nat.min_eq_left hin]; omega), List.length_take, hl, Nat.min_eq_left hin, List.getElem?_drop]
      congr 1
      rw [Nat.succ_mul, Nat.succ_mul]
      omega
  · have hb : ∀ (l : List Value) (o : Nat), (sub l o k)[q]? = none := fun l o => List.getElem?_eq_none (by simp [sub]; omega)
    rw [hb, hb]
theorem Laid.without (h : Laid A w F e a n c xs cells G n) (hi : i < n) (hw : ∀ j b, j < n → j ≠ i → G j b → b < w.heap.size → w'.heap[b]? = w.heap[b]?)
    (ho : w'.ownsRow 0 e A.k (.slice a' (n - 1) c') (n - 1) (cutC cells A.k i)) (hF' : ∀ b, (Value.slice a' (n - 1) c').ownBlock = some b → F' b) (hG : ∀ j b, j < n → G j b → F' b ∧ (Value.slice a' (n - 1) c').ownBlock ≠ some b) :
    Laid A w' F' e a' (n - 1) c' (xs.eraseIdx i) (cutC cells A.k i) (fun j => G (skp i j)) (n - 1) := by
  have hcl : cells.length = n * A.k := h.outer.1
  refine ⟨?_, by have := h.big; omega, ho, hF', fun j x hj hx => ?_, fun j b hj hb => hG _ b (skp_lt (by omega)) hb, fun j k b hj hk hjk hb => h.apart _ _ b (skp_lt (by omega)) (skp_lt (by omega)) (fun e => hjk (skp_inj e)) hb⟩
  · rw [List.length_eraseIdx, h.len, if_pos hi]
  · rw [cutC_sub hcl hi]
    rw [erase_skp] at hx
    refine A.frame (h.row _ x (skp_lt (by omega)) hx) (fun b hb hlt => hw _ b (skp_lt (by omega)) (skp_ne i j) hb hlt)
end

end Go.Proofs.Ytociphdhkjoofaa

/- Contracts of the laws' heldAtomS and heldQuery over things that the laws marked; a query that is told. -/
namespace Go.Proofs.Ytociphdhkjoofaa
open Go.RowKit

set_option maxRecDepth 100000 in
set_option maxHeartbeats 4000000 in
theorem heldAtomS_rep (a : Option Addr) (n c : Nat) (xs : List Atm) (m : Int) (w : World) (hz : xs.length = n) (hn : n ≤ 1048576) (ht : msum xs n ≤ 1048576) (h0 : 0 ≤ m) (h1 : m ≤ 134217728) (ha : AtQ w a (mkAtms m xs)) :
    Calls Try.prog 40 #[.slice a n c, .int .i64 m] w fun e w' => e = .returned (.int .i64 (m + msum xs n)) ∧ Below w.heap.size w w' := by
  have hl : (mkAtms m xs).length = n := by unfold mkAtms; rw [mkL_length, hz]
  by_cases hn0 : n = 0
  · subst hn0
    go_enter Try.func40, Try.ntmps40
    go_wp2
    refine wp_loop_rounds 1 ?_
    rw [rounds_succ]
    go_wp2
    go_ret
    exact ⟨by rw [msum_zero]; simp, Below.refl _ _⟩
  have HA := Hid.mk ha
  have HL := Hid.mk hl
  clear ha hl
  go_enter Try.func40, Try.ntmps40
  go_wp2
  go_loopw [1, 5] (fun q i wr => ∃ k : Nat, k ≤ n ∧ i = .int .i64 k ∧ q = .int .i64 (m + msum xs k) ∧ Below w.heap.size w wr) (fun _ i _ => n - (intOf i).toNat)
  case atStart => exact ⟨0, Nat.zero_le _, rfl, by simp [msum_zero], Below.refl _ _⟩
  case round =>
    obtain ⟨k, hk, rfl, rfl, hbw⟩ := hrel
    by_cases hlt : k < n
    · obtain ⟨b, off, rfl, _, hc⟩ := AtQ.row (AtSl.below HA.out hbw) (by have := HL.out; omega)
      obtain ⟨x, hx⟩ : ∃ x, xs[k]? = some x := ⟨_, List.getElem?_eq_getElem (by omega)⟩
      have hmk := mkL_at mkAtm amk m xs k x hx
      obtain ⟨ta, tn, tc, g0, g1, u1, u2, u3, _⟩ := hc k _ hmk
      have hts := msum_succ hx
      have htm := msum_mono xs (k + 1) n (by omega)
      have hT' : szL amk xs k = msum xs k := rfl
      rw [hT'] at g0 u1 u3
      obtain ⟨T, hT⟩ : ∃ T, msum xs k = T := ⟨_, rfl⟩
      rw [hT] at hts g0 u1 u3 ⊢
      have e2 : x.2.length = tn := by rw [← u1]; unfold mkAtm mkInts; rw [marks_length]
      have hps : amk x = 1 + tn := by unfold amk; rw [e2]
      rw [hps] at hts
      obtain ⟨M, hM⟩ : ∃ M : Int, M = m + T := ⟨_, rfl⟩
      rw [← hM] at g0 u3 ⊢
      have g0' : wr.cell? ⟨b, off + k * 2, none⟩ = some (.int .i64 M) := g0
      have A2 : Hid (At wr ta (mkInts (M + 1) x.2)) := u3
      have E2 := Hid.mk e2
      have HTS := Hid.mk hts
      have HM := Hid.mk hM
      have hM0 : 0 ≤ M := by omega
      have hM1 : M ≤ 140000000 := by omega
      have hs2 : tn ≤ 1048576 := by omega
      have hki : (k : Int) < (n : Int) := by omega
      have p2 : ¬ M + 1 + (tn : Int) < 0 := by omega
      clear u1 u3 hmk hc hx hts hT hT' hM e2 hps htm ht g0
      go_wp2_with fail
      refine (heldInts_rep ta tn tc x.2 (M + 1) wr E2.out hs2 (by omega) (by omega) A2.out).mono ?_
      rintro e w2 ⟨rfl, hb2⟩
      have B2 := Hid.mk (hbw.trans (hb2.mono hbw.size))
      clear hb2 A2 g1 g0'
      go_wp2
      go_roundw
      case rel => exact ⟨k + 1, by omega, by go_num, by rw [HTS.out, HM.out]; congr 1; push_cast; omega, B2.out⟩
      case measure => simp [intOf]; omega
    · obtain rfl : k = n := by omega
      go_wp2
      go_ret
      exact ⟨rfl, hbw⟩

set_option maxRecDepth 100000 in
set_option maxHeartbeats 2000000 in
theorem heldQuery_rep (sa : Option Addr) (sn sc : Nat) (pa : Option Addr) (pn pc : Nat) (ss : List Int) (xs : List Atm) (m : Int) (w : World) (hsz : ss.length = sn) (hz : xs.length = pn) (hsn : sn ≤ 1048576) (hpn : pn ≤ 1048576) (ht : msum xs pn ≤ 1048576) (h0 : 0 ≤ m) (h1 : m ≤ 16777216)
    (hsa : At w sa (mkInts m ss)) (ha : AtQ w pa (mkAtms (m + sn) xs)) :
    Calls Try.prog 15 #[.agg #[.slice sa sn sc, .slice pa pn pc], .int .i64 m] w fun e w' => e = .returned (.int .i64 (m + qmk (ss, xs))) ∧ Below w.heap.size w w' := by
  have hv : qmk (ss, xs) = sn + msum xs pn := by unfold qmk; simp only; rw [hsz, hz]
  rw [hv]
  obtain ⟨W, hW⟩ : ∃ W, W = w.alloc (.cells #[.slice sa sn sc, .slice pa pn pc] 29) := ⟨_, rfl⟩
  have B0 : Below w.heap.size w W := by rw [hW]; exact (Below.refl _ _).alloc (Nat.le_refl _) _
  have q1 : W.cell? ⟨w.heap.size, 1, none⟩ = some (.slice pa pn pc) := by rw [hW]; simp
  have K1 := Hid.mk (heldInts_rep sa sn sc ss m W hsz hsn h0 (by omega) (At.below hsa B0))
  have HA := Hid.mk (AtSl.below ha B0)
  have HZ := Hid.mk hz
  have p1 : ¬ m + (sn : Int) < 0 := by omega
  have p2 : ¬ m + (sn : Int) + (msum xs pn : Int) < 0 := by omega
  clear hsa ha hz hsz hv
  go_enter Try.func15, Try.ntmps15
  go_wp2_with fail
  rw [← hW]
  clear hW
  refine K1.out.mono ?_
  rintro e w1 ⟨rfl, hb1⟩
  have q1 := cell_later hb1 q1
  have K2 := Hid.mk (heldAtomS_rep pa pn pc xs (m + sn) w1 HZ.out hpn ht (by omega) (by omega) (AtSl.below HA.out hb1))
  have B1 := Hid.mk (B0.trans (hb1.mono B0.size))
  clear hb1 K1
  go_wp2_with fail
  refine K2.out.mono ?_
  rintro e w2 ⟨rfl, hb2⟩
  have B2 := Hid.mk (B1.out.trans (hb2.mono B1.out.size))
  clear hb2 K2 q1
  go_wp2
  go_ret
  exact ⟨ret_int (by push_cast; omega), B2.out⟩

def QryRet (e : Ending) (w' : World) (lo : Nat) (ok : Bool) (hs : List Int) (zs : List Atm) : Prop := ∃ r m d r' m' d', e = .returned (.tuple #[.agg #[.slice r m d, .slice r' m' d'], .bool ok]) ∧ RQry.Own w' (From lo w'.heap.size) [.slice r m d, .slice r' m' d'] (hs, zs)

end Go.Proofs.Ytociphdhkjoofaa

/- A thing that a call has made is appended to a list that lies in memory. -/
namespace Go.Proofs.Ytociphdhkjoofaa
open Go.RowKit

section
variable {α : Type} {A : Rep α} {w wr w2 w5 : World} {lo : Nat} {e : TypeId} {a a' : Option Addr} {n c c' : Nat} {xs : List α} {cells vs : List Value} {G : Nat → Nat → Prop} {x : α} {o : Obj}
theorem Laid.told (h : Laid A wr (From lo wr.heap.size) e a n c xs cells G n) (hlo : lo ≤ wr.heap.size) (hb : Below wr.heap.size wr w2) (ho : A.Own w2 (From wr.heap.size w2.heap.size) vs x)
    (ho4 : w5.ownsRow lo e A.k (.slice a' (n + 1) c') (n + 1) (cells ++ vs)) (hg4 : (w2.alloc o).grownBy w5 (Value.slice a n c).ownBlock) (hbig : n + 1 ≤ 9223372036854775807)
    (ht4 : (Value.slice a' (n + 1) c').ownBlock = (Value.slice a n c).ownBlock ∨ (Value.slice a' (n + 1) c').ownBlock = some (w2.heap.size + 1)) :
    ∃ G', Laid A w5 (From lo w5.heap.size) e a' (n + 1) c' (xs ++ [x]) (cells ++ vs) G' (n + 1) := by
  have z2 := hb.size
  have z5 : w2.heap.size < w5.heap.size := by have h9 := hg4.size; simp at h9; omega
  have BG : ∀ b, b < w2.heap.size → (Value.slice a n c).ownBlock ≠ some b → w5.heap[b]? = w2.heap[b]? := fun b hb hn => (hg4.block b (by simp; omega) (fun e => hn e.symm)).trans (Below.heap_alloc w2 _ b hb)
  exact ⟨_, h.push (fun b h => h.2) hb ho (fun b h => h) BG (owns_mono ho4 (Nat.zero_le _)) (by
      rcases ht4 with h9 | h9
      · exact .inl h9
      · refine .inr (fun b e => ?_)
        rw [h9] at e
        simp at e
        omega) hbig (fun b h => ⟨h.1, by have := h.2; omega⟩) (fun b h => ⟨by have := h.1; omega, by have := h.2; omega⟩) (fun b hb => ho4.lt b hb)⟩
theorem Laid.told_below (h : Laid A wr (From lo wr.heap.size) e a n c xs cells G n) (hw : Below lo w wr) (hlo : lo ≤ wr.heap.size) (hb : Below wr.heap.size wr w2) (hg4 : (w2.alloc o).grownBy w5 (Value.slice a n c).ownBlock) : Below lo w w5 :=
  ((hw.trans (hb.mono hlo)).alloc (by have := hb.size; omega) _).grown hg4 (by have := hb.size; simp; omega) (fun j hj => (h.outerF j hj).1)
theorem Laid.base (h : Laid A wr (From lo wr.heap.size) e a n c xs cells G n) (hb : Below wr.heap.size wr w2) : w2.ownsRow lo e A.k (.slice a n c) n cells :=
  owns_below (owns_base h.outer (fun b hb => (h.outerF b hb).1)) hb
end

end Go.Proofs.Ytociphdhkjoofaa

/- A question that is put together atom by atom in a variable of the call's own. -/
namespace Go.Proofs.Ytociphdhkjoofaa
open Go.RowKit

/-- The variable's block P holds the Head's slice and the Atoms' so far; these lie from lo on. -/
structure QVar (w : World) (P lo : Nat) (h : Value) (r : Option Addr) (k d : Nat) (zs : List Atm) (cells : List Value) (G : Nat → Nat → Prop) : Prop where
  blk : w.heap[P]? = some (.cells #[h, .slice r k d] 29 (0, 0))
  laid : Laid RAtm w (From lo w.heap.size) 58 r k d zs cells G k
  lt : P < lo

section
variable {w w4 w6 : World} {P lo : Nat} {h0 : Value} {r r3 r4 : Option Addr} {k d m3 d3 d4 : Nat} {zs : List Atm} {cells : List Value} {G : Nat → Nat → Prop} {p : Int} {z : List Int}
theorem QVar.owns (h : QVar w P lo h0 r k d zs cells G) : w.ownsRow lo 58 2 (.slice r k d) k cells := owns_base h.laid.outer (fun b hb => (h.laid.outerF b hb).1)
theorem QVar.size (h : QVar w P lo h0 r k d zs cells G) : P < w.heap.size := (Array.getElem?_eq_some_iff.1 h.blk).1
theorem QVar.below (h : QVar w P lo h0 r k d zs cells G) (hb : Below w.heap.size w w4) : QVar w4 P lo h0 r k d zs cells G :=
  ⟨blk_below h.blk hb, (h.laid.frame (fun b _ hl => hb.block b hl)).mono (fun _ hb' => ⟨hb'.1, Nat.lt_of_lt_of_le hb'.2 hb.size⟩), h.lt⟩
theorem QVar.cell0 (h : QVar w P lo h0 r k d zs cells G) : w.cell? ⟨P, 0, none⟩ = some h0 := blk_cell h.blk 0 rfl
theorem QVar.cell1 (h : QVar w P lo h0 r k d zs cells G) : w.cell? ⟨P, 1, none⟩ = some (.slice r k d) := blk_cell h.blk 1 rfl
theorem QVar.frozen1 (h : QVar w P lo h0 r k d zs cells G) : w.frozen? ⟨P, 1, none⟩ = false := blk_frozen h.blk 1
theorem QVar.new (w : World) (h : Value) : QVar (w.alloc (.cells #[h, .slice none 0 0] 29)) w.heap.size (w.heap.size + 1) h none 0 0 [] [] (fun _ _ => False) :=
  ⟨heap_alloc_new w _, Laid.none _ _ _ _, Nat.lt_succ_self _⟩
/-- One more atom: its Vars were made behind w (w4), its cells laid in a block o (the literal), the row grown (w6), the variable set. -/
theorem QVar.pushed {o : Obj} (h : QVar w P lo h0 r k d zs cells G) (hlo : lo ≤ w.heap.size) (hb : Below w.heap.size w w4) (ho : RInts.Own w4 (From w.heap.size w4.heap.size) [.slice r3 m3 d3] z)
    (ho4 : w6.ownsRow lo 58 2 (.slice r4 (k + 1) d4) (k + 1) (cells ++ [.int .i64 p, .slice r3 m3 d3])) (hg4 : (w4.alloc o).grownBy w6 (Value.slice r k d).ownBlock)
    (ht4 : (Value.slice r4 (k + 1) d4).ownBlock = (Value.slice r k d).ownBlock ∨ (Value.slice r4 (k + 1) d4).ownBlock = some (w4.heap.size + 1)) (hk : k ≤ 1048576) :
    ∃ G', QVar (w6.setCell ⟨P, 1, none⟩ (.slice r4 (k + 1) d4)) P lo h0 r4 (k + 1) d4 (zs ++ [(p, z)]) (cells ++ [.int .i64 p, .slice r3 m3 d3]) G' := by
  obtain ⟨G', hpush⟩ := h.laid.told hlo hb (RAtm.own_mk (p := p) ho) ho4 hg4 (by omega) ht4
  have hP : (Value.slice r k d).ownBlock ≠ some P := fun e => by have := (h.laid.outerF P e).1; have := h.lt; omega
  have hPs := h.size
  have zb := hb.size
  have hf := hpush.frame (w' := w6.setCell ⟨P, 1, none⟩ (.slice r4 (k + 1) d4)) (fun b hb' _ => Below.heap_setCell _ _ _ _ (by have h1 := hb'.1; have h2 := h.lt; show b ≠ P; omega))
  exact ⟨G', blk_set ((hg4.block P (by simp; omega) (fun e => hP e.symm)).trans ((Below.heap_alloc w4 o P (by omega)).trans ((hb.block P hPs).trans h.blk))) 1 _, hf.mono (fun b hb' => ⟨hb'.1, by have := hb'.2; simpa [World.setCell] using this⟩), h.lt⟩
end

end Go.Proofs.Ytociphdhkjoofaa

/- An append of whatever cells, at a step of a region that draws. -/
namespace Go.Proofs.Ytociphdhkjoofaa
open Go.RowKit

theorem step_append_vals {P : Program} {w : World} {ops : Array Oper} {o : Oper} {a : Act} {K : Act → World → Prop} {Q : Exit → Act → World → Prop} {E : Prop} (hgd : o.guard = none) (s x : Operand) (t : TypeId)
    (ho : o.op = .call { callee := .builtin .append, args := #[s, x], argTypes := #[t, t] })
    (base : Nat) (e : TypeId) (i : TypeInfo) (z : Value) (size bytes : Nat) (ht : P.underlying t = some (.slice e)) (hi : P.info? e = some i) (hz : i.zero = some z)
    (hsize : i.size = size) (hby : i.bytes = bytes) (hzs : z.cells.size = size) (hsz : 0 < size)
    (v : Value) (n : Nat) (xs : List Value) (hs : a.eval s = v) (hown : w.ownsRow base e size v n xs)
    (ao : Option Addr) (m c : Nat) (news : List Value) (hx : a.eval x = .slice ao m c) (hl : news.length = m * size) (hat : ∀ ad, ao = some ad → ∀ (j : Nat) (u : Value), news[j]? = some u → w.cell? (ad.add j) = some u) (h1 : ∀ u ∈ news, u.oneCell' = true) (hnil : ao = none → c = 0 ∧ m = 0)
    (h63 : n + m ≤ maxLen) (hbytes : (n + m) * bytes ≤ 140737488355328) (hbase : base ≤ w.heap.size)
    (h : ∀ r cap w', w'.ownsRow base e size (.slice r (n + m) cap) (n + m) (xs ++ news) → w.grownBy w' v.ownBlock → ((Value.slice r (n + m) cap).ownBlock = v.ownBlock ∨ (Value.slice r (n + m) cap).ownBlock = some w.heap.size) → K (a.put o.dst (.slice r (n + m) cap)) w') :
    if Region.wanted o (yielded ops a.tmps) = true then Oper.wp P o a w K Q else E := by
  have hw : Region.wanted o (yielded ops a.tmps) = true := by simp [Region.wanted, hgd]
  rw [if_pos hw]
  cases ao with
  | none =>
    obtain ⟨hc, hm⟩ := hnil rfl
    subst hc hm
    obtain rfl : news = [] := List.eq_nil_of_length_eq_zero (by simpa using hl)
    obtain ⟨r, cap, rfl⟩ := owns_slice hown
    have hrun := run_append_owned_none (P := P) (w := w) base t o.type e i size ht hi (.slice r n cap) n xs hown
    have := h r cap w (by simpa using hown) (World.grownBy.refl _ _) (.inl rfl)
    unfold Oper.wp
    simp [execOp, ho, resolve, invoke, builtin, hs, hx, hrun, Result.andThen]
    rw [Nat.add_zero] at this
    exact this
  | some ad =>
    obtain ⟨v', w', hr, h2, h3, _, h5⟩ := run_append_own_at (P := P) w base t o.type e i z size bytes ht hi hz hsize hby hzs hsz v n xs hown ad m c news hl (fun j u hj => hat ad rfl j u hj) h1 h63 hbytes hbase
    obtain ⟨r, cap, rfl⟩ := owns_slice h2
    unfold Oper.wp execOp
    simp only [ho, resolve, invoke, builtin, Sem.run_bind, Sem.run_pure, Result.andThen_ok, List.map_toArray, List.map_cons, List.map_nil, hs, hx, hr]
    exact h r cap w' h2 h3 h5

end Go.Proofs.Ytociphdhkjoofaa

/- An append of whatever cells, in a plain region. -/
namespace Go.Proofs.Ytociphdhkjoofaa
open Go.RowKit

theorem wpList_app_vals {P : Program} {w : World} {ops : Array Oper} {rest : List Oper} {o : Oper} {a : Act} {Q : Exit → Act → World → Prop} (hgd : o.guard = none) (s x : Operand) (t : TypeId)
    (ho : o.op = .call { callee := .builtin .append, args := #[s, x], argTypes := #[t, t] })
    (base : Nat) (e : TypeId) (i : TypeInfo) (z : Value) (size bytes : Nat) (ht : P.underlying t = some (.slice e)) (hi : P.info? e = some i) (hz : i.zero = some z)
    (hsize : i.size = size) (hby : i.bytes = bytes) (hzs : z.cells.size = size) (hsz : 0 < size)
    (v : Value) (n : Nat) (xs : List Value) (hs : a.eval s = v) (hown : w.ownsRow base e size v n xs)
    (ao : Option Addr) (m c : Nat) (news : List Value) (hx : a.eval x = .slice ao m c) (hl : news.length = m * size) (hat : ∀ ad, ao = some ad → ∀ (j : Nat) (u : Value), news[j]? = some u → w.cell? (ad.add j) = some u) (h1 : ∀ u ∈ news, u.oneCell' = true) (hnil : ao = none → c = 0 ∧ m = 0)
    (h63 : n + m ≤ maxLen) (hbytes : (n + m) * bytes ≤ 140737488355328) (hbase : base ≤ w.heap.size)
    (h : ∀ r cap w', w'.ownsRow base e size (.slice r (n + m) cap) (n + m) (xs ++ news) → w.grownBy w' v.ownBlock → ((Value.slice r (n + m) cap).ownBlock = v.ownBlock ∨ (Value.slice r (n + m) cap).ownBlock = some w.heap.size) → wpList P ops Q rest (a.put o.dst (.slice r (n + m) cap)) w') :
    wpList P ops Q (o :: rest) a w :=
  wpList_plain hgd fun K hK => by
    have hw : Region.wanted o (yielded ops a.tmps) = true := by simp [Region.wanted, hgd]
    have h9 := step_append_vals (P := P) (w := w) (ops := ops) (o := o) (a := a) (K := K) (Q := Q) (E := True) hgd s x t ho base e i z size bytes ht hi hz hsize hby hzs hsz v n xs hs hown ao m c news hx hl hat h1 hnil h63 hbytes hbase (fun r cap w' k1 k2 k3 => hK _ _ (h r cap w' k1 k2 k3))
    rw [if_pos hw] at h9
    exact h9

end Go.Proofs.Ytociphdhkjoofaa
