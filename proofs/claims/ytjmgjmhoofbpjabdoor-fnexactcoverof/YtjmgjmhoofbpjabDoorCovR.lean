/- What the model's CoverOf leans on: lists that lie in memory, a row replaced, a row left out; l7Same. -/
import Derived.Test.YtjmgjmhoofbpjabDoorCovM
namespace Go.Proofs.YtjmgjmhoofbpjabDoor
open Go.RowKit

section
variable {α : Type} {A : Rep α} {w w' : World} {F F' H : Nat → Prop} {e : TypeId} {a a' : Option Addr} {n c c' i : Nat} {xs : List α} {cells cells' : List Value} {G : Nat → Nat → Prop} {x' : α}

/-- One row of it is another one now, which lies elsewhere. -/
theorem Laid.swap (h : Laid A w F e a n c xs cells G n) (hi : i < n) (hw : ∀ b, b < w.heap.size → (Value.slice a n c).ownBlock ≠ some b → w'.heap[b]? = w.heap[b]?)
    (ho : w'.ownsRow 0 e A.k (.slice a n c) n cells') (hc : ∀ j, j ≠ i → sub cells' (j * A.k) A.k = sub cells (j * A.k) A.k) (hx : A.Own w' H (sub cells' (i * A.k) A.k) x')
    (hH : ∀ b, H b → F' b ∧ (Value.slice a n c).ownBlock ≠ some b) (hd : ∀ j b, j ≠ i → j < n → G j b → ¬ H b) (hF : ∀ b, F b → F' b) :
    Laid A w' F' e a n c (xs.set i x') cells' (fun j => if j = i then H else G j) n := by
  refine ⟨by simp [h.len], h.big, ho, fun b hb => hF b (h.outerF b hb), fun j y hj hy => ?_, fun j b hj hb => ?_, fun j l b hj hl hjl hb => ?_⟩
  · by_cases ej : j = i
    · subst ej
      rw [List.getElem?_set_self (by rw [h.len]; exact hi)] at hy
      obtain rfl := Option.some.inj hy
      simp only [if_true]
      exact hx
    · simp only [if_neg ej]
      rw [List.getElem?_set_ne (Ne.symm ej)] at hy
      rw [hc j ej]
      exact A.frame (h.row j y hj hy) (fun b hb hl => hw b hl (h.rowF j b hj hb).2)
  · by_cases ej : j = i
    · simp only [if_pos ej] at hb; exact hH b hb
    · simp only [if_neg ej] at hb; exact ⟨hF b (h.rowF j b hj hb).1, (h.rowF j b hj hb).2⟩
  · by_cases ej : j = i
    · simp only [if_pos ej] at hb
      have el : l ≠ i := fun e => hjl (ej.trans e.symm)
      simp only [if_neg el]
      exact fun h9 => hd l b el hl h9 hb
    · simp only [if_neg ej] at hb
      by_cases el : l = i
      · simp only [if_pos el]; exact hd j b ej hj hb
      · simp only [if_neg el]; exact h.apart j l b hj hl hjl hb

theorem sub_erase {k : Nat} (hl : cells.length = n * k) (hi : i < n) (j : Nat) : sub (cells.take (i * k) ++ cells.drop ((i + 1) * k)) (j * k) k = sub cells ((if j < i then j else j + 1) * k) k := by
  have hik : i * k + k ≤ n * k := at_mul hi
  have e1 : (i + 1) * k = i * k + k := Nat.succ_mul i k
  have ht : (cells.take (i * k)).length = i * k := by rw [List.length_take]; omega
  apply List.ext_getElem?
  intro t
  by_cases htk : t < k
  · rw [sub_at htk, sub_at htk]
    by_cases hji : j < i
    · rw [if_pos hji]
      have := at_mul (k := k) hji
      rw [List.getElem?_append_left (by omega), List.getElem?_take, if_pos (by omega)]
    · rw [if_neg hji]
      have h9 : i * k ≤ j * k := Nat.mul_le_mul_right k (by omega)
      rw [List.getElem?_append_right (by omega), ht, List.getElem?_drop]
      congr 1
      have : (j + 1) * k = j * k + k := Nat.succ_mul j k
      omega
  · rw [List.getElem?_eq_none (by simp [sub]; omega), List.getElem?_eq_none (by simp [sub]; omega)]

/-- It without one row, in a block of its own. -/
theorem Laid.erase (h : Laid A w F e a n c xs cells G n) (hi : i < n) (hw : ∀ b, F b → b < w.heap.size → w'.heap[b]? = w.heap[b]?)
    (ho : w'.ownsRow 0 e A.k (.slice a' (n - 1) c') (n - 1) (cells.take (i * A.k) ++ cells.drop ((i + 1) * A.k))) (hF : ∀ b, F b → F' b) (hb1 : ∀ b, (Value.slice a' (n - 1) c').ownBlock = some b → F' b)
    (hb2 : ∀ b, (Value.slice a' (n - 1) c').ownBlock = some b → ¬ F b) :
    Laid A w' F' e a' (n - 1) c' (xs.eraseIdx i) (cells.take (i * A.k) ++ cells.drop ((i + 1) * A.k)) (fun j => G (if j < i then j else j + 1)) (n - 1) := by
  have hl := h.len
  have hb := h.big
  have hof : ∀ j, j < n - 1 → (if j < i then j else j + 1) < n := fun j hj => by split <;> omega
  refine ⟨by rw [List.length_eraseIdx, if_pos (by omega), hl], by omega, ho, hb1, fun j y hj hy => ?_, fun j b hj hb' => ?_, fun j l b hj hl' hjl hb' => ?_⟩
  · rw [sub_erase h.outer.1 hi j]
    refine A.frame (h.row _ y (hof j hj) ?_) (fun b h1 h2 => hw b (h.rowF _ b (hof j hj) h1).1 h2)
    rw [List.getElem?_eraseIdx] at hy
    by_cases hji : j < i
    · rw [if_pos hji] at hy ⊢; exact hy
    · rw [if_neg hji] at hy ⊢; exact hy
  · have h9 := h.rowF _ b (hof j hj) hb'
    exact ⟨hF b h9.1, fun e => hb2 b e h9.1⟩
  · exact h.apart _ _ b (hof j hj) (hof l hl') (by split <;> split <;> omega) hb'
end

/-- Each To has one column. -/
def One (M : List (Nat × Nat)) : Prop := ∀ p ∈ M, ∃ c, c < 6 ∧ p.2 = 2 ^ c
theorem One.add {M : List (Nat × Nat)} {f c : Nat} (h : One M) (hc : c < 6) : One (addT M (f, 2 ^ c)) := by
  unfold addT
  split
  · exact h
  · intro x hx
    simp only [List.mem_append, List.mem_singleton] at hx
    rcases hx with hx | rfl
    · exact h x hx
    · exact ⟨c, hc, rfl⟩
theorem partT_one {f : Nat} {M : List (Nat × Nat)} {ks : List Int} (h : One M) (hk : ∀ k ∈ ks, 0 ≤ k ∧ k < 6) : One (partT f M ks) := by
  unfold partT
  induction ks generalizing M with
  | nil => exact h
  | cons k ks ih => rw [List.foldl_cons]; have h0 := hk k (by simp); exact ih (h.add (by omega)) (fun x hx => hk x (by simp [hx]))
theorem partA_one : ∀ (l : List Dep), (∀ d ∈ l, ∀ k ∈ d.2, 0 ≤ k ∧ k < 6) → ∀ i, i ≤ l.length → One (partA (l.take i)) := by
  intro l hl i
  induction i with
  | zero => intro _ p hp; simp [partA] at hp
  | succ i ih =>
    intro hi
    rw [partA_take (List.getElem?_eq_getElem (by omega : i < l.length))]
    exact partT_one (ih (by omega)) (hl l[i] (List.getElem_mem _))
theorem bl_one_all : ∀ c : Nat, c < 6 → bl (2 ^ c) = [(c : Int)] := by decide +kernel
theorem mk_bl_all : ∀ s : Nat, s < 64 → mk (bl s) = s := by decide +kernel
theorem filter_bl_all : ∀ f : Nat, f < 64 → ∀ y : Nat, y < 6 → (bl f).filter (fun z => decide (z ≠ (y : Int))) = bl (f &&& (18446744073709551615 - 2 ^ y)) := by decide +kernel
theorem same_bl_all : ∀ a : Nat, a < 64 → ∀ b : Nat, b < 64 → (decide ((bl a).length = (bl b).length) && (bl b).all (fun k => decide (k ∈ bl a))) = decide (a = b) := by decide +kernel
theorem dms_und {M : List (Nat × Nat)} (h : Sets M) : dms (M.map und) = M := by
  unfold dms
  rw [List.map_map]
  conv => rhs; rw [← List.map_id M]
  refine List.map_congr_left fun p hp => ?_
  have := h p hp
  show (mk (bl p.1), mk (bl p.2)) = p
  rw [mk_bl_all _ this.1, mk_bl_all _ this.2]
theorem told_bl {s : Nat} (h : s < 64) : Told (bl s) := ⟨by rw [mk_bl_all s h], by rw [mk_bl_all s h]; exact h⟩
theorem tolds_und {M : List (Nat × Nat)} (h : Sets M) : Tolds (M.map und) := fun d hd => by
  obtain ⟨p, hp, rfl⟩ := List.mem_map.1 hd
  exact ⟨told_bl (h p hp).1, told_bl (h p hp).2⟩
theorem good_und {q : Nat} {M : List (Nat × Nat)} (hq1 : 1 ≤ q) (hq : q ≤ 6) (h : Lim q M) : goodDeps (M.map und) (q : Int) = decide (M.length ≤ 10) := by
  unfold goodDeps
  rw [decide_eq_true (show (1 : Int) ≤ (q : Int) by omega), decide_eq_true (show (q : Int) ≤ 6 by omega), List.length_map]
  have : allDep (q : Int) (M.map und) = true := by
    unfold allDep
    rw [List.all_eq_true]
    intro d hd
    obtain ⟨p, hp, rfl⟩ := List.mem_map.1 hd
    have h9 := h p hp
    have h8 := pow64 hq
    unfold goodDep und
    rw [ris_bl_all q (by omega) p.1 (by omega) h9.1, ris_bl_all q (by omega) p.2 (by omega) h9.2]; rfl
  rw [this]
  simp
theorem impV_und {M : List (Nat × Nat)} {f t : Nat} (h : Sets M) (hf : f < 64) (ht : t < 64) : impV (M.map und) (bl f, bl t) = sb t (clo M f) := by
  unfold impV
  rw [dms_und h, mk_bl_all f hf, mk_bl_all t ht]
theorem und_set (M : List (Nat × Nat)) (k : Nat) (p : Nat × Nat) : (M.set k p).map und = (M.map und).set k (und p) := List.map_set
theorem und_erase (M : List (Nat × Nat)) (k : Nat) : (M.eraseIdx k).map und = (M.map und).eraseIdx k := by rw [List.eraseIdx_eq_take_drop_succ, List.eraseIdx_eq_take_drop_succ, List.map_append, List.map_take, List.map_drop]

theorem l7Same_any (a : Option Addr) (n c : Nat) (zs : List Int) (a' : Option Addr) (n' c' : Nat) (ys : List Int) (w : World) (hz : zs.length = n) (hn : n ≤ 9223372036854775807) (ha : At w a zs) (hz' : ys.length = n') (hn' : n' ≤ 9223372036854775807) (ha' : At w a' ys) :
    Calls Tryd.prog 13 #[.slice a n c, .slice a' n' c'] w fun e w' => e = .returned (.bool (decide (n = n') && ys.all fun k => decide (k ∈ zs))) ∧ w' = w := by
  have K := Hid.mk (l7All_any a n c zs a' n' c' ys w hz hn ha hz' hn' ha')
  clear ha ha'
  by_cases h : n = n'
  · subst h
    have HE : Hid (decide (n = n) = true) := decide_eq_true rfl
    go_enter Tryd.func13, Tryd.ntmps13
    go_wp2_with fail
    refine K.out.mono ?_
    rintro e w1 ⟨rfl, rfl⟩
    go_wp2
    go_ret
    exact ⟨by rw [HE.out]; rfl, rfl⟩
  · have h' : decide (n = n') = false := decide_eq_false h
    have hb : ((n : Int) == (n' : Int)) = false := beq_eq_false_iff_ne.2 (by omega)
    have HE := Hid.mk h'
    clear h'
    go_enter Tryd.func13, Tryd.ntmps13
    go_wp2
    go_ret
    exact ⟨by rw [HE.out]; rfl, rfl⟩

end Go.Proofs.YtjmgjmhoofbpjabDoor
