/- Plain: keys over lists of columns; a row that was made before is taken over. -/
import Derived.Test.YtpnaoahlfhbbmaaDoorSubI
namespace Go.Proofs.YtpnaoahlfhbbmaaDoor
open Go.RowKit

section
variable {α : Type} {A : Rep α} {w w4 : World} {F H F' : Nat → Prop} {e : TypeId} {a a' : Option Addr} {n c c' : Nat} {xs : List α} {cells vs : List Value} {G : Nat → Nat → Prop} {x : α}
/-- Behind 'append(l, x)' with an x that was made before. -/
theorem Laid.pushH (h : Laid A w F e a n c xs cells G n) (hF : ∀ b, F b → b < w.heap.size) (ho : A.Own w H vs x) (hH : ∀ b, H b → b < w.heap.size) (hFH : ∀ b, F b → ¬ H b)
    (hg : ∀ b, b < w.heap.size → (Value.slice a n c).ownBlock ≠ some b → w4.heap[b]? = w.heap[b]?) (hown : w4.ownsRow 0 e A.k (.slice a' (n + 1) c') (n + 1) (cells ++ vs))
    (hat : (Value.slice a' (n + 1) c').ownBlock = (Value.slice a n c).ownBlock ∨ ∀ b, (Value.slice a' (n + 1) c').ownBlock = some b → w.heap.size ≤ b) (hbig : n + 1 ≤ 9223372036854775807)
    (hF1 : ∀ b, F b → F' b) (hF2 : ∀ b, H b → F' b) (hF3 : ∀ b, (Value.slice a' (n + 1) c').ownBlock = some b → F' b) :
    Laid A w4 F' e a' (n + 1) c' (xs ++ [x]) (cells ++ vs) (fun i => if i = n then H else G i) (n + 1) := by
  have hl := A.ownLen ho
  have hcl : cells.length = n * A.k := h.outer.1
  refine ⟨by simp [h.len], hbig, hown, hF3, fun i y hi hy => ?_, fun i b hi hb' => ?_, fun i j b hi hj hij hb' => ?_⟩
  · by_cases ei : i = n
    · subst ei
      simp only [if_true]
      obtain rfl : x = y := by
        rw [List.getElem?_append_right (by rw [h.len]; exact Nat.le_refl _)] at hy
        simpa [h.len] using hy
      have := sub_append_right (cells := cells) hl
      rw [hcl] at this
      rw [this]
      exact A.frame ho (fun b hb' hb => hg b hb (fun e' => hFH b (h.outerF b e') hb'))
    · simp only [if_neg ei]
      have hi' : i < n := by omega
      rw [List.getElem?_append_left (by rw [h.len]; exact hi')] at hy
      rw [sub_append_left (by rw [hcl]; exact at_mul hi')]
      exact A.frame (h.row i y hi' hy) (fun b hb' hb => hg b hb (h.rowF i b hi' hb').2)
  · by_cases ei : i = n
    · subst ei
      simp only [if_true] at hb'
      refine ⟨hF2 b hb', fun e' => ?_⟩
      rcases hat with h2 | h2
      · rw [h2] at e'
        exact hFH b (h.outerF b e') hb'
      · have := h2 b e'
        have := hH b hb'
        omega
    · simp only [if_neg ei] at hb'
      have h1 := h.rowF i b (by omega) hb'
      refine ⟨hF1 b h1.1, fun e' => ?_⟩
      rcases hat with h2 | h2
      · rw [h2] at e'; exact h1.2 e'
      · have := h2 b e'
        have := hF b h1.1
        omega
  · by_cases ei : i = n
    · subst ei
      simp only [if_true] at hb'
      simp only [if_neg (Ne.symm hij)]
      exact fun e' => hFH b (h.rowF j b (by omega) e').1 hb'
    · simp only [if_neg ei] at hb'
      by_cases ej : j = n
      · simp only [if_pos ej]
        exact fun e' => hFH b (h.rowF i b (by omega) hb').1 e'
      · simp only [if_neg ej]
        exact h.apart i j b (by omega) (by omega) hij hb'
end

section
variable {w : World} {F : Nat → Prop} {r : Option Addr} {g m d i : Nat} {xs : List (List Int)} {x : List Int} {cells : List Value} {G : Nat → Nat → Prop}
theorem laidI_some (h : Laid RInts w F 23 r m d xs cells G m) (h0 : 0 < m) : ∃ g, r = some ⟨g, 0, none⟩ := by
  rcases h.outer.2 with ⟨_, h1⟩ | ⟨g, cap, cur, hv, _⟩
  · omega
  · simp only [Value.slice.injEq, true_and] at hv
    obtain ⟨rfl, rfl⟩ := hv
    exact ⟨g, rfl⟩
theorem laidI_row (h : Laid RInts w F 23 (some ⟨g, 0, none⟩) m d xs cells G m) (hx : xs[i]? = some x) : ∃ sa sn sc, w.cell? ⟨g, i, none⟩ = some (.slice sa sn sc) ∧ RInts.Own w (G i) [.slice sa sn sc] x := by
  have hi : i < m := by rw [← h.len]; exact (List.getElem?_eq_some_iff.1 hx).1
  have hA := h.row i x hi hx
  have hA' := hA
  obtain ⟨sa, sn, sc, cs, G', e, _⟩ := hA'
  rw [e] at hA
  have e' : sub cells (i * 1) 1 = [.slice sa sn sc] := e
  have s0 := sub_at (cells := cells) (o := i * 1) (k := 1) (j := 0) (by omega)
  rw [e', Nat.mul_one, Nat.add_zero] at s0
  exact ⟨sa, sn, sc, (h.outer.cellAt i (by show i < m * 1; omega)).trans s0.symm, hA⟩
end

/-- Whether s is a key, with none of the first t of acc in it. -/
noncomputable def fitT (M : List (Nat × Nat)) (c : Nat) (acc : List (List Int)) (s : List Int) (t : Nat) : Bool := decide ((bl (clo M (mk s))).length = c) && (acc.take t).all (fun k => !(k.all fun x => decide (x ∈ s)))
noncomputable def stepK (M : List (Nat × Nat)) (c : Nat) (acc : List (List Int)) (s : List Int) : List (List Int) := if fitT M c acc s acc.length then acc ++ [s] else acc
noncomputable def keysT (M : List (Nat × Nat)) (c : Nat) (acc ls : List (List Int)) : List (List Int) := ls.foldl (stepK M c) acc
def setsU (c t : Nat) : List (List Int) := (List.range t).flatMap fun m => subsL c m 0
noncomputable def keysL (M : List (Nat × Nat)) (c : Nat) : List (List Int) := keysT M c [] (setsU c (c + 1))
theorem fitT_zero (M : List (Nat × Nat)) (c : Nat) (acc : List (List Int)) (s : List Int) : fitT M c acc s 0 = decide ((bl (clo M (mk s))).length = c) := by simp [fitT]
theorem fitT_succ {M : List (Nat × Nat)} {c : Nat} {acc : List (List Int)} {s k : List Int} {t : Nat} (h : acc[t]? = some k) : fitT M c acc s (t + 1) = (fitT M c acc s t && !(k.all fun x => decide (x ∈ s))) := by
  obtain ⟨ht, rfl⟩ := List.getElem?_eq_some_iff.1 h
  unfold fitT
  rw [List.take_succ_eq_append_getElem ht, List.all_append, Bool.and_assoc]
  simp
theorem keysT_take {M : List (Nat × Nat)} {c : Nat} {acc ls : List (List Int)} {j : Nat} {s : List Int} (h : ls[j]? = some s) : keysT M c acc (ls.take (j + 1)) = stepK M c (keysT M c acc (ls.take j)) s := by
  obtain ⟨hj, rfl⟩ := List.getElem?_eq_some_iff.1 h
  rw [List.take_succ_eq_append_getElem hj]; unfold keysT; rw [List.foldl_append]; rfl
theorem keysT_len (M : List (Nat × Nat)) (c : Nat) : ∀ (ls acc : List (List Int)), (keysT M c acc ls).length ≤ acc.length + ls.length
  | [], acc => by simp [keysT]
  | s :: ls, acc => by
    have h1 := keysT_len M c ls (stepK M c acc s)
    have h2 : (stepK M c acc s).length ≤ acc.length + 1 := by unfold stepK; split <;> simp
    show (keysT M c (stepK M c acc s) ls).length ≤ _
    simp only [List.length_cons]; omega
theorem setsU_succ (c t : Nat) : setsU c (t + 1) = setsU c t ++ subsL c t 0 := by unfold setsU; rw [List.range_succ, List.flatMap_append]; simp
theorem keysU_succ (M : List (Nat × Nat)) (c t : Nat) : keysT M c [] (setsU c (t + 1)) = keysT M c (keysT M c [] (setsU c t)) (subsL c t 0) := by rw [setsU_succ]; unfold keysT; rw [List.foldl_append]
theorem setsU_ok_all : ∀ c : Nat, c < 7 → ∀ t : Nat, t < 8 → (setsU c t).length ≤ 64 := by decide +kernel
theorem subs_told_all : ∀ c : Nat, c < 7 → ∀ m : Nat, m < 7 → (subsL c m 0).all (fun l => decide (bl (mk l) = l) && decide (mk l < 64)) = true := by decide +kernel
theorem subs_told {c m j : Nat} {s : List Int} (hc : c ≤ 6) (hm : m ≤ 6) (h : (subsL c m 0)[j]? = some s) : Told s := by
  have h9 := subs_told_all c (by omega) m (by omega)
  rw [List.all_eq_true] at h9
  have := h9 s (List.mem_of_getElem? h)
  simp only [Bool.and_eq_true, decide_eq_true_eq] at this
  exact ⟨this.1, this.2⟩
theorem l7Subsets_zero (c : Nat) (hc : c ≤ 6) (m : Nat) (hm : m ≤ 6) (w : World) :
    Calls Tryd.prog 33 #[.int .i64 (c : Nat), .int .i64 (m : Nat), .int .i64 0] w fun e w' => ∃ r n d, e = .returned (.slice r n d) ∧ RPairs.Own w' (From w.heap.size w'.heap.size) [.slice r n d] (subsL c m 0) ∧ Below w.heap.size w w' := l7Subsets_any c hc m hm 0 (by omega) w

end Go.Proofs.YtpnaoahlfhbbmaaDoor
