/- Several texts of one proof, in build order: OrP, Flt, EaF. -/
import Derived.Test.YteggbamjfhbmfaaM5
import Derived.Test.YteggbamjfhbmfaaM10
import Derived.Test.YteggbamjfhbmfaaM11
import Derived.Test.YteggbamjfhbmfaaM3
import Derived.Test.YteggbamjfhbmfaaRows
import Derived.Deep.RegionHeld3

/- Plain: orders: lists that have each of the first numbers once. -/
namespace Go.Proofs.Yteggbamjfhbmfaa
open Go.RowKit

def srtI (l : List Int) : List Int := l.mergeSort fun x y => decide (x ≤ y)
def eachB (l : List Int) (n : Nat) : Bool := decide (srtI l = upN n)
theorem upN_mem {n : Nat} {x : Int} : x ∈ upN n ↔ 0 ≤ x ∧ x < (n : Int) := by
  unfold upN
  rw [List.mem_map]
  constructor
  · rintro ⟨i, hi, rfl⟩
    rw [List.mem_range] at hi
    omega
  · intro h
    exact ⟨x.toNat, List.mem_range.2 (by omega), by omega⟩
theorem upN_pair (n : Nat) : (upN n).Pairwise (· < ·) := by
  unfold upN
  rw [List.pairwise_map]
  exact List.pairwise_lt_range.imp (fun h => by omega)
theorem srtI_perm (l : List Int) : (srtI l).Perm l := List.mergeSort_perm l _
theorem srtI_pair (l : List Int) : (srtI l).Pairwise (· ≤ ·) := by
  have h := List.pairwise_mergeSort (le := fun x y : Int => decide (x ≤ y)) (fun a b c h1 h2 => by simp at *; omega) (fun a b => by simp; omega) l
  exact h.imp (fun h => by simpa using h)
theorem srtI_up {l : List Int} {n : Nat} (h : l.Perm (upN n)) : srtI l = upN n :=
  ((srtI_perm l).trans h).eq_of_pairwise (le := (· ≤ ·)) (fun a b _ _ h1 h2 => by omega) (srtI_pair l) ((upN_pair n).imp (fun h => by omega))
theorem eachB_iff {l : List Int} {n : Nat} : eachB l n = true ↔ l.Perm (upN n) := by
  unfold eachB
  rw [decide_eq_true_eq]
  exact ⟨fun h => (srtI_perm l).symm.trans (by rw [h]), srtI_up⟩
theorem each_tbl {l : List Int} {n : Nat} (h : l.Perm (upN n)) : TbL n l :=
  ⟨h.symm.nodup ((upN_pair n).imp (fun h => by omega)), fun x hx => upN_mem.1 (h.mem_iff.1 hx)⟩

theorem insI_perm {l : List Int} {x : Int} (h : ¬ x ∈ l) : (insI l x).Perm (x :: l) := by
  rw [insI_no h]
  refine List.perm_middle.trans ?_
  rw [List.take_append_drop]
def putI (acc l : List Int) : List Int := l.foldl insI acc
theorem putI_snoc (acc l : List Int) (x : Int) : putI acc (l ++ [x]) = insI (putI acc l) x := by simp [putI]
theorem putI_len : ∀ (l acc : List Int), (putI acc l).length ≤ acc.length + l.length ∧ ((putI acc l).length = acc.length + l.length → (putI acc l).Perm (acc ++ l))
  | [], acc => by simp [putI]
  | x :: l, acc => by
    have ih := putI_len l (insI acc x)
    have e : putI acc (x :: l) = putI (insI acc x) l := rfl
    rw [e, List.length_cons]
    by_cases h : x ∈ acc
    · rw [insI_yes h] at ih ⊢
      exact ⟨by omega, fun h9 => by omega⟩
    · have hp := insI_perm h
      have hl := hp.length_eq
      rw [List.length_cons] at hl
      refine ⟨by omega, fun h9 => ?_⟩
      refine (ih.2 (by omega)).trans ((hp.append_right l).trans ?_)
      rw [List.cons_append]
      exact List.perm_middle.symm
theorem putI_nodup : ∀ (l acc : List Int), (acc ++ l).Nodup → (putI acc l).Perm (acc ++ l)
  | [], acc, _ => by simp [putI]
  | x :: l, acc, h => by
    have hx : ¬ x ∈ acc := fun hx => by
      have := (List.nodup_append.1 h).2.2 x hx x (List.mem_cons_self ..)
      exact this rfl
    have hp := insI_perm hx
    have hp2 : (insI acc x ++ l).Perm (acc ++ x :: l) := (hp.append_right l).trans (by rw [List.cons_append]; exact List.perm_middle.symm)
    have e : putI acc (x :: l) = putI (insI acc x) l := rfl
    rw [e]
    exact (putI_nodup l (insI acc x) (hp2.symm.nodup h)).trans hp2
theorem putI_mem : ∀ (l acc : List Int) (y : Int), y ∈ putI acc l → y ∈ acc ∨ y ∈ l
  | [], acc, y, h => .inl h
  | x :: l, acc, y, h => by
    rcases putI_mem l (insI acc x) y h with h | h
    · by_cases hx : x ∈ acc
      · rw [insI_yes hx] at h; exact .inl h
      · rcases List.mem_cons.1 ((insI_perm hx).mem_iff.1 h) with h | h
        · exact .inr (by rw [h]; exact List.mem_cons_self ..)
        · exact .inl h
    · exact .inr (List.mem_cons_of_mem _ h)
theorem putI_bl : ∀ (l : List Int) (s : Nat), s < 64 → (∀ x ∈ l, 0 ≤ x ∧ x < 6) → ∃ t, t < 64 ∧ putI (bl s) l = bl t
  | [], s, hs, _ => ⟨s, hs, rfl⟩
  | x :: l, s, hs, h => by
    have hx := h x (List.mem_cons_self ..)
    have e : putI (bl s) (x :: l) = putI (insI (bl s) x) l := rfl
    rw [e, insI_bl hs hx.1 hx.2]
    have h2 : 2 ^ x.toNat < 64 := by
      have : ∀ k, k < 6 → 2 ^ k < 64 := by decide
      exact this _ (by omega)
    exact putI_bl l _ (Nat.or_lt_two_pow (n := 6) hs h2) (fun y hy => h y (List.mem_cons_of_mem _ hy))
theorem bl_full : ∀ n : Nat, n < 7 → ∀ t : Nat, t < 64 → (bl t).length = n → (bl t).all (fun x => decide (x < (n : Int))) = true → bl t = upN n := by decide +kernel
theorem bl_nil : bl 0 = [] := by decide
/-- What the model asks of an order. -/
def isoB (n : Nat) (l : List Int) : Bool := decide (l.length = n) && (l.all (fun x => decide (0 ≤ x) && decide (x < (l.length : Int))) && decide ((putI [] l).length = l.length))
theorem isoB_each {n : Nat} (hn : n ≤ 6) (l : List Int) : isoB n l = eachB l n := by
  rw [Bool.eq_iff_iff, eachB_iff]
  simp only [isoB, Bool.and_eq_true, decide_eq_true_eq, List.all_eq_true]
  constructor
  · rintro ⟨h1, h2, h3⟩
    have hp : (putI [] l).Perm l := by simpa using (putI_len l []).2 (by simpa using h3)
    obtain ⟨t, ht, e⟩ := putI_bl l 0 (by omega) (fun x hx => by have := h2 x hx; omega)
    rw [bl_nil] at e
    have hf := bl_full n (by omega) t ht (by rw [← e]; omega) (by
      rw [List.all_eq_true]
      intro x hx
      have := h2 x (hp.mem_iff.1 (by rw [e]; exact hx))
      simp; omega)
    rw [← hf, ← e]
    exact hp.symm
  · intro h
    have ht := each_tbl h
    have hl : l.length = n := by have := h.length_eq; rw [upN_len] at this; exact this
    refine ⟨hl, fun x hx => by have := ht.lt x hx; omega, ?_⟩
    have := (putI_nodup l [] (by simpa using ht.nd)).length_eq
    simpa using this

end Go.Proofs.Yteggbamjfhbmfaa

/- Things of so many numbers each, one behind the other, and slices of them. No Go function is spoken of here. -/
namespace Go.Proofs.Yteggbamjfhbmfaa
open Go.RowKit

/-- A thing of k numbers. -/
def Rep.flat {α : Type} (k : Nat) (en : α → List Int) (hk : ∀ x, (en x).length = k) : Rep α where
  k := k
  At _ cs x := cs = (en x).map (.int .i64)
  Own _ _ cs x := cs = (en x).map (.int .i64)
  len h := by rw [h, List.length_map, hk]
  below h _ := h
  toAt h := h
  mono h _ := h
  frame h _ := h
  tight h := h
def flatF {α : Type} (en : α → List Int) (xs : List α) : List Int := xs.flatMap en

section
variable {α : Type} {k : Nat} {en : α → List Int}
theorem flatF_len (hk : ∀ x, (en x).length = k) : ∀ xs : List α, (flatF en xs).length = xs.length * k
  | [] => by simp [flatF]
  | x :: xs => by
    have ih := flatF_len hk xs
    unfold flatF at *
    rw [List.flatMap_cons, List.length_append, ih, hk, List.length_cons, Nat.succ_mul]; omega
theorem flatF_get (hk : ∀ x, (en x).length = k) : ∀ (xs : List α) (i j : Nat) (x : α), xs[i]? = some x → j < k → (flatF en xs)[i * k + j]? = (en x)[j]?
  | [], i, j, x, h, _ => by simp at h
  | y :: ys, 0, j, x, h, hj => by
    obtain rfl : y = x := by simpa using h
    unfold flatF
    rw [List.flatMap_cons, Nat.zero_mul, Nat.zero_add, List.getElem?_append_left (by rw [hk]; exact hj)]
  | y :: ys, i + 1, j, x, h, hj => by
    have ih := flatF_get hk ys i j x (by simpa using h) hj
    unfold flatF at *
    rw [List.flatMap_cons, List.getElem?_append_right (by rw [hk, Nat.succ_mul]; omega), hk, ← ih]
    congr 1
    rw [Nat.succ_mul]; omega
theorem flatF_getD (hk : ∀ x, (en x).length = k) {xs : List α} {i j : Nat} {x : α} (h : xs[i]? = some x) (hj : j < k) : (flatF en xs).getD (i * k + j) 0 = (en x).getD j 0 := by
  rw [List.getD_eq_getElem?_getD, flatF_get hk xs i j x h hj, ← List.getD_eq_getElem?_getD]
theorem flatF_snoc (xs : List α) (x : α) : flatF en (xs ++ [x]) = flatF en xs ++ en x := by simp [flatF]

theorem flat_sub (hk : ∀ x, (en x).length = k) : ∀ (xs : List α) (i : Nat) (x : α), xs[i]? = some x → sub ((flatF en xs).map (Value.int .i64)) (i * k) k = (en x).map (.int .i64) := by
  intro xs i x hx
  have hi := (List.getElem?_eq_some_iff.1 hx).1
  have hle : i * k + k ≤ xs.length * k := by
    have := Nat.mul_le_mul_right k hi
    rw [Nat.succ_mul] at this
    exact this
  apply List.ext_getElem?
  intro j
  by_cases hj : j < k
  · rw [sub_at hj, List.getElem?_map, List.getElem?_map, flatF_get hk xs i j x hx hj]
  · rw [List.getElem?_eq_none (by rw [sub_len (by rw [List.length_map, flatF_len hk]; exact hle)]; omega), List.getElem?_eq_none (by rw [List.length_map, hk]; omega)]
theorem cells_flat (hk : ∀ x, (en x).length = k) : ∀ (xs : List α) (cells : List Value), cells.length = xs.length * k → (∀ i x, xs[i]? = some x → sub cells (i * k) k = (en x).map (.int .i64)) → cells = (flatF en xs).map (.int .i64)
  | [], cells, h, _ => by
    have : cells = [] := List.eq_nil_of_length_eq_zero (by simpa using h)
    rw [this]; rfl
  | x :: xs, cells, h, hr => by
    rw [List.length_cons, Nat.succ_mul] at h
    have h0 := hr 0 x rfl
    have e0 : sub cells (0 * k) k = cells.take k := by simp [sub]
    rw [e0] at h0
    have ih := cells_flat hk xs (cells.drop k) (by rw [List.length_drop]; omega) (fun i y hy => by
      have := hr (i + 1) y (by simpa using hy)
      rw [← this]
      unfold sub
      rw [List.drop_drop, Nat.succ_mul, Nat.add_comm k])
    rw [← List.take_append_drop k cells, h0, ih]
    simp [flatF]
theorem flat_own_iff {hk : ∀ x, (en x).length = k} {e : TypeId} {w : World} {F : Nat → Prop} {a : Option Addr} {n c : Nat} {xs : List α} :
    (Rep.slice e (Rep.flat k en hk)).Own w F [.slice a n c] xs ↔ xs.length = n ∧ n ≤ 9223372036854775807 ∧ w.ownsRow 0 e k (.slice a n c) n ((flatF en xs).map (.int .i64)) ∧ ∀ b, (Value.slice a n c).ownBlock = some b → F b := by
  constructor
  · rintro ⟨a', n', c', cells, G, e, h⟩
    simp only [List.cons.injEq, Value.slice.injEq, and_true] at e
    obtain ⟨rfl, rfl, rfl⟩ := e
    have hc : cells = (flatF en xs).map (.int .i64) := by
      refine cells_flat hk xs cells ?_ (fun i x hx => ?_)
      · have h9 := h.outer.1
        rw [h.len]
        exact h9
      · exact h.row i x (by rw [← h.len]; exact (List.getElem?_eq_some_iff.1 hx).1) hx
    refine ⟨h.len, h.big, ?_, h.outerF⟩
    rw [← hc]; exact h.outer
  · rintro ⟨h1, h2, h3, h4⟩
    exact ⟨a, n, c, _, fun _ _ => False, rfl, h1, h2, h3, h4, fun i x hi hx => flat_sub hk xs i x hx, fun i b hi hb => hb.elim, fun i j b _ _ _ hb => hb.elim⟩
theorem flat_of_owns {hk : ∀ x, (en x).length = k} {e : TypeId} {w : World} {base : Nat} {a : Option Addr} {n c : Nat} {xs : List α} (hz : xs.length = n) (hn : n ≤ 9223372036854775807) (h : w.ownsRow base e k (.slice a n c) n ((flatF en xs).map (.int .i64))) :
    (Rep.slice e (Rep.flat k en hk)).Own w (From base w.heap.size) [.slice a n c] xs := flat_own_iff.2 ⟨hz, hn, owns_mono h (Nat.zero_le _), fun b hb => h.lt b hb⟩
theorem At.ownedK {w : World} {base : Nat} {e : TypeId} {k : Nat} {a : Option Addr} {n c : Nat} {zs : List Int} (h : w.ownsRow base e k (.slice a n c) n (zs.map (.int .i64))) : At w a zs := by
  have hl := h.1
  rcases h.2 with ⟨h', rfl⟩ | ⟨g, cap, cur, h', _⟩
  · left; simpa using hl
  · right
    simp only [Value.slice.injEq, true_and] at h'
    obtain ⟨rfl, rfl⟩ := h'
    refine ⟨g, 0, rfl, fun i hi => ?_⟩
    rw [Nat.zero_add, h.cellAt i (by simp at hl; omega)]
    simp [List.getD, hi]
theorem flat_at {hk : ∀ x, (en x).length = k} {e : TypeId} {w : World} {F : Nat → Prop} {a : Option Addr} {n c : Nat} {xs : List α} (h : (Rep.slice e (Rep.flat k en hk)).Own w F [.slice a n c] xs) : At w a (flatF en xs) := At.ownedK (flat_own_iff.1 h).2.2.1
/-- The slice's things, as they are read. -/
theorem flat_atSl {hk : ∀ x, (en x).length = k} (h0 : 0 < k) {w : World} {a : Option Addr} {xs : List α} (h : AtSl (Rep.flat k en hk) w a xs) : At w a (flatF en xs) := by
  rcases h with rfl | ⟨b, off, rfl, hc⟩
  · exact .inl rfl
  · refine .inr ⟨b, off, rfl, fun i hi => ?_⟩
    rw [flatF_len hk] at hi
    have hq : i / k < xs.length := Nat.div_lt_of_lt_mul (by rw [Nat.mul_comm]; exact hi)
    have hr : i % k < k := Nat.mod_lt _ h0
    have hx : xs[i / k]? = some xs[i / k] := List.getElem?_eq_getElem hq
    obtain ⟨cs, h1, h2⟩ := hc _ _ hx
    have e : i = i / k * k + i % k := by rw [Nat.mul_comm]; exact (Nat.div_add_mod i k).symm
    have h3 := flatF_getD hk hx hr
    rw [← e] at h3
    have hlen : i % k < (en xs[i / k]).length := by rw [hk]; exact hr
    have h4 := h1 (i % k) (.int .i64 ((en xs[i / k]).getD (i % k) 0)) (by
      have h2' : cs = (en xs[i / k]).map (.int .i64) := h2
      rw [h2', List.getElem?_map, List.getElem?_eq_getElem hlen]
      simp [List.getD, hlen])
    rw [h3]
    have e2 : off + i / k * k + i % k = off + i := by omega
    rw [← e2]
    exact h4
theorem marks_app (m : Int) (a b : Nat) : marks m (a + b) = marks m a ++ marks (m + a) b := by
  unfold marks
  rw [List.range_add, List.map_append, List.map_map]
  congr 1
  apply List.map_congr_left
  intro i _
  simp only [Function.comp]
  push_cast
  omega
/-- Marked things. -/
def mkFl (de : List Int → α) (k : Nat) (m : Int) (n : Nat) : List α := (List.range n).map fun i => de (marks (m + (i * k : Nat)) k)
theorem mkFl_len (de : List Int → α) (k : Nat) (m : Int) (n : Nat) : (mkFl de k m n).length = n := by simp [mkFl]
theorem mkFl_flat {de : List Int → α} (hde : ∀ l : List Int, l.length = k → en (de l) = l) (m : Int) : ∀ n, flatF en (mkFl de k m n) = marks m (n * k)
  | 0 => by simp [flatF, mkFl, marks]
  | n + 1 => by
    have ih := mkFl_flat hde m n
    unfold mkFl at *
    rw [List.range_succ, List.map_append, List.map_cons, List.map_nil, flatF_snoc, ih, hde _ (marks_length _ _), Nat.succ_mul, marks_app]
end

end Go.Proofs.Yteggbamjfhbmfaa

/- Ear: 2 numbers each; slices of them; contracts of the laws' helpers over these. -/
namespace Go.Proofs.Yteggbamjfhbmfaa
open Go.RowKit

abbrev TEar := Int × Int
def enEar (x : TEar) : List Int := [x.1, x.2]
def deEar (l : List Int) : TEar := (l.getD 0 0, l.getD 1 0)
theorem enEar_len (x : TEar) : (enEar x).length = 2 := rfl
theorem deEar_en (l : List Int) (h : l.length = 2) : enEar (deEar l) = l := by
  match l, h with
  | [x0, x1], _ => rfl
abbrev REar : Rep TEar := Rep.flat 2 enEar enEar_len
abbrev REars : Rep (List TEar) := Rep.slice 71 REar
abbrev flEar (xs : List TEar) : List Int := flatF enEar xs
theorem flEar_len (xs : List TEar) : (flEar xs).length = xs.length * 2 := flatF_len enEar_len xs
theorem flEar_some {w : World} {a : Option Addr} {xs : List TEar} (h : At w a (flEar xs)) (hp : 0 < xs.length) : ∃ b off, a = some ⟨b, off, none⟩ ∧ b < w.heap.size ∧ ∀ (k : Nat) (x : TEar), xs[k]? = some x → w.cell? ⟨b, off + k * 2, none⟩ = some (.int .i64 x.1) ∧ w.cell? ⟨b, off + k * 2 + 1, none⟩ = some (.int .i64 x.2) := by
  obtain ⟨b, off, rfl, hb, hc⟩ := At.some h (by rw [flEar_len]; omega)
  refine ⟨b, off, rfl, hb, fun k x hx => ?_⟩
  have hl := flEar_len xs
  have hk := (List.getElem?_eq_some_iff.1 hx).1
  refine ⟨?_, ?_⟩
  · have h9 := hc (k * 2 + 0) (by omega)
    rw [flatF_getD enEar_len hx (show 0 < 2 by omega)] at h9
    exact h9
  · have h9 := hc (k * 2 + 1) (by omega)
    rw [flatF_getD enEar_len hx (show 1 < 2 by omega)] at h9
    rw [Nat.add_assoc]; exact h9
theorem Try.infFEar : (Try.prog.info? 71).map (fun i => (i.zero, i.size, i.bytes)) = some (some (.agg #[.int .i64 0, .int .i64 0]), 2, 16) := by kernel_rfl
theorem REars.of_owns {w : World} {base : Nat} {a : Option Addr} {n c : Nat} {xs : List TEar} (hz : xs.length = n) (hn : n ≤ 9223372036854775807) (h : w.ownsRow base 71 2 (.slice a n c) n ((flEar xs).map (.int .i64))) : REars.Own w (From base w.heap.size) [.slice a n c] xs := flat_of_owns hz hn h
theorem REars.at {w : World} {F : Nat → Prop} {a : Option Addr} {n c : Nat} {xs : List TEar} (h : REars.Own w F [.slice a n c] xs) : At w a (flEar xs) := flat_at h

def costEar (n : Nat) : Nat := n
theorem szEarS_any (a : Option Addr) (n c : Nat) (l : Int) (w : World) (hn : n ≤ 9223372036854775807) (h0 : 0 ≤ l) (h1 : l ≤ 1048576) :
    Calls Try.prog 21 #[.slice a n c, .int .i64 l] w fun e w' => e = .returned (.int .i64 (leftOf l (costEar n : Nat))) ∧ Below w.heap.size w w' := by
  unfold costEar
  by_cases h : l < n
  · have h' : l - (n : Int) < 0 := by omega
    go_enter Try.func21, Try.ntmps21
    go_wp2
    go_ret
    exact ⟨ret_int (leftOf_no (by omega)).symm, Below.refl _ _⟩
  · have h' : ¬ l - (n : Int) < 0 := by omega
    go_enter Try.func21, Try.ntmps21
    go_wp2
    go_ret
    exact ⟨ret_int (by rw [leftOf_yes (by omega)]), Below.refl _ _⟩

theorem Upto.setEar {cs : List Value} {zs : List Int} {k : Nat} (h : Upto cs zs (k * 2)) (hk : k * 2 + 1 < zs.length) : Upto ((cs.set (k * 2) (.int .i64 (zs.getD (k * 2) 0))).set (k * 2 + 1) (.int .i64 (zs.getD (k * 2 + 1) 0))) zs ((k + 1) * 2) := by
  have := ((h.set (by omega)).set (k := k * 2 + 1) (by omega))
  rw [show (k + 1) * 2 = k * 2 + 1 + 1 by omega]
  exact this

set_option maxRecDepth 100000 in
set_option maxHeartbeats 400000 in
theorem toEar_any (x0 x1 : Int) (w : World) :
    Calls Try.prog 49 #[.agg #[.int .i64 x0, .int .i64 x1]] w fun e w' => e = .returned (.agg #[.int .i64 x0, .int .i64 x1]) ∧ Below w.heap.size w w' := by
  go_enter Try.func49, Try.ntmps49
  go_wp2
  refine bodyPost_ret (v := .agg #[.int .i64 x0, .int .i64 x1]) (by simp [results, Try.results49, go_sem]) rfl ⟨rfl, ?_⟩
  exact (((Below.refl _ _).alloc (Nat.le_refl _) _).alloc (by simp) _).alloc (by simp; omega) _

set_option maxRecDepth 100000 in
set_option maxHeartbeats 1000000 in
theorem toEarS_rep (a : Option Addr) (n c : Nat) (xs : List TEar) (w : World) (hz : xs.length = n) (hn : n ≤ 1048576) (ha : At w a (flEar xs)) :
    Calls Try.prog 23 #[.slice a n c] w fun e w' => ∃ g, e = .returned (.slice (some ⟨g, 0, none⟩) n n) ∧ REars.Own w' (From w.heap.size w'.heap.size) [.slice (some ⟨g, 0, none⟩) n n] xs ∧ Below w.heap.size w w' := by
  obtain ⟨i0, hi, hz0, hz1, hz2⟩ := info_parts Try.infFEar
  by_cases h00 : n = 0
  · subst h00
    go_enter Try.func23, Try.ntmps23
    go_wp2_with (at_make; refine wpList_make_full _ rfl _ _ 27 rfl w.heap.size 71 i0 (.agg #[.int .i64 0, .int .i64 0]) 2 Try.underlying27 hi hz0 hz1 .i64 .i64 _ _ 0 rfl rfl rfl rfl (by simp) (by simp) (Nat.le_refl _) ?_; intro w1 hown hg)
    refine wp_loop_rounds 1 ?_
    rw [rounds_succ]
    go_wp2
    go_ret
    obtain rfl : xs = [] := List.eq_nil_of_length_eq_zero hz
    exact ⟨_, rfl, REars.of_owns rfl (by omega) (by simpa [madeCells, flatF] using hown), (Below.refl _ _).grown hg (Nat.le_refl _) (by simp)⟩
  · obtain ⟨b, off, rfl, hb, hc⟩ := flEar_some ha (by omega)
    have HFL : Hid ((flEar xs).length = n * 2) := by show _ = _; rw [flEar_len, hz]
    have HZ := Hid.mk hz
    go_enter Try.func23, Try.ntmps23
    go_wp2_with (at_make; refine wpList_make_full _ rfl _ _ 27 rfl w.heap.size 71 i0 (.agg #[.int .i64 0, .int .i64 0]) 2 Try.underlying27 hi hz0 hz1 .i64 .i64 _ _ n rfl rfl rfl rfl (by rw [hz2]; omega) (by unfold maxLen; omega) (Nat.le_refl _) ?_; intro w1 hown hg)
    have hb1 : Below w.heap.size w w1 := (Below.refl _ _).grown hg (Nat.le_refl _) (by simp)
    have hs0 : (madeCells (Value.agg #[.int .i64 0, .int .i64 0]).cells (n * 2)).toList.length = (flEar xs).length := by rw [HFL.out]; simp [madeCells]
    have hu0 := Upto.zero hs0
    obtain ⟨cs, hcs⟩ : ∃ cs, cs = (madeCells (Value.agg #[.int .i64 0, .int .i64 0]).cells (n * 2)).toList := ⟨_, rfl⟩
    rw [← hcs] at hown hu0
    clear hcs hs0 hg hz
    go_loopw [4] (fun i wr => ∃ (k : Nat) (cs : List Value), k ≤ n ∧ i = .int .i64 k ∧ Upto cs (flEar xs) (k * 2) ∧ wr.ownsRow w.heap.size 71 2 (.slice (some ⟨w.heap.size, 0, none⟩) n n) n cs ∧ Below w.heap.size w wr) (fun i _ => n - (intOf i).toNat)
    case atStart => exact ⟨0, cs, Nat.zero_le _, rfl, hu0, hown, hb1⟩
    case round =>
      clear hown hu0 hb1 cs
      obtain ⟨k, cs, hk, rfl, hu, hown, hbw⟩ := hrel
      by_cases hlt : k < n
      · obtain ⟨x, hx⟩ : ∃ x, xs[k]? = some x := ⟨_, List.getElem?_eq_getElem (by have := HZ.out; omega)⟩
        obtain ⟨h0, h1⟩ := hc k x hx
        have h0 := (hbw.cell hb).trans h0
        have h1 := (hbw.cell hb).trans h1
        have HU := Hid.mk (hu.setEar (by rw [HFL.out]; omega))
        rw [show (flEar xs).getD (k * 2) 0 = (enEar x).getD 0 0 from flatF_getD (j := 0) enEar_len hx (by omega), show (flEar xs).getD (k * 2 + 1) 0 = (enEar x).getD 1 0 from flatF_getD (j := 1) enEar_len hx (by omega)] at HU
        have hlen : cs.length = n * 2 := by rw [hu.1]; exact HFL.out
        clear hu hc hx
        obtain ⟨x0, x1⟩ := x
        simp only [enEar] at h0 h1 HU
        have HU2 : Hid (Upto ((cs.set (k * 2) (.int .i64 x0)).set (k * 2 + 1) (.int .i64 x1)) (flEar xs) ((k + 1) * 2)) := HU.out
        clear HU
        have hki : (k : Int) < (n : Int) := by omega
        go_wp2_with fail
        refine (toEar_any x0 x1 _).mono ?_
        rintro e w2 ⟨rfl, hb2⟩
        have ho2 := owns_below hown hb2
        have B2 := hbw.trans (hb2.mono hbw.size)
        obtain ⟨u0, hu0⟩ : ∃ u, cs[k * 2]? = some u := ⟨_, List.getElem?_eq_getElem (by omega)⟩
        have q0 : w2.cell? ⟨w.heap.size, k * 2, none⟩ = some u0 := (ho2.cellAt _ (by omega)).trans hu0
        have p0 : w2.frozen? ⟨w.heap.size, k * 2, none⟩ = false := ho2.frozenAt _
        clear hu0
        obtain ⟨u1, hu1⟩ : ∃ u, cs[k * 2 + 1]? = some u := ⟨_, List.getElem?_eq_getElem (by omega)⟩
        have q1 : w2.cell? ⟨w.heap.size, k * 2 + 1, none⟩ = some u1 := (ho2.cellAt _ (by omega)).trans hu1
        have p1 : w2.frozen? ⟨w.heap.size, k * 2 + 1, none⟩ = false := ho2.frozenAt _
        clear hu1
        have s1 := ho2.stored (k * 2) (.int .i64 x0)
        have s2 := s1.1.stored (k * 2 + 1) (.int .i64 x1)
        have HO := Hid.mk s2.1
        have HB : Hid (Below w.heap.size w (((w2.setCell ⟨w.heap.size, k * 2, none⟩ (.int .i64 x0)).setCell ⟨w.heap.size, k * 2 + 1, none⟩ (.int .i64 x1)))) := ((B2.setCell (Nat.le_refl _) _).setCell (Nat.le_refl _) _)
        clear s1 s2 ho2 hown hbw B2 hb2 h0 h1
        go_wp2
        go_roundw
        case rel => exact ⟨k + 1, _, by omega, by go_num, HU2.out, HO.out, HB.out⟩
        case measure => simp [intOf]; omega
      · obtain rfl : k = n := by omega
        rw [hu.all (by rw [HFL.out]; omega)] at hown
        go_wp2
        go_ret
        exact ⟨_, rfl, REars.of_owns HZ.out (by omega) hown, hbw⟩

set_option maxRecDepth 100000 in
set_option maxHeartbeats 400000 in
theorem eqEar_same (x0 x1 : Int) (w : World) :
    Calls Try.prog 43 #[.agg #[.int .i64 x0, .int .i64 x1], .agg #[.int .i64 x0, .int .i64 x1]] w fun e w' => e = .returned (.bool true) ∧ Below w.heap.size w w' := by
  go_enter Try.func43, Try.ntmps43
  go_wp2
  go_ret
  exact ⟨rfl, ((Below.refl _ _).alloc (Nat.le_refl _) _).alloc (by simp) _⟩

set_option maxRecDepth 100000 in
set_option maxHeartbeats 1000000 in
theorem eqEarS_same (a a' : Option Addr) (n c c' : Nat) (xs : List TEar) (w : World) (hz : xs.length = n) (hn : n ≤ 1048576) (ha : At w a (flEar xs)) (ha' : At w a' (flEar xs)) :
    Calls Try.prog 14 #[.slice a n c, .slice a' n c'] w fun e w' => e = .returned (.bool true) ∧ Below w.heap.size w w' := by
  by_cases h0 : n = 0
  · subst h0
    go_enter Try.func14, Try.ntmps14
    go_wp2
    refine wp_loop_rounds 1 ?_
    rw [rounds_succ]
    go_wp2
    go_ret
    exact ⟨rfl, Below.refl _ _⟩
  · obtain ⟨b, off, rfl, hb, hc⟩ := flEar_some ha (by omega)
    obtain ⟨b', off', rfl, hb', hc'⟩ := flEar_some ha' (by omega)
    clear ha ha'
    go_enter Try.func14, Try.ntmps14
    go_wp2
    go_loopw [5] (fun i wr => ∃ (k : Nat), k ≤ n ∧ i = .int .i64 k ∧ Below w.heap.size w wr) (fun i _ => n - (intOf i).toNat)
    case atStart => exact ⟨0, Nat.zero_le _, rfl, Below.refl _ _⟩
    case round =>
      obtain ⟨k, hk, rfl, hbw⟩ := hrel
      by_cases hlt : k < n
      · obtain ⟨x, hx⟩ : ∃ x, xs[k]? = some x := ⟨_, List.getElem?_eq_getElem (by omega)⟩
        obtain ⟨h0, h1⟩ := hc k x hx
        obtain ⟨g0, g1⟩ := hc' k x hx
        have h0 := (hbw.cell hb).trans h0
        have g0 := (hbw.cell hb').trans g0
        have h1 := (hbw.cell hb).trans h1
        have g1 := (hbw.cell hb').trans g1
        obtain ⟨x0, x1⟩ := x
        simp only at h0 g0 h1 g1
        have hki : (k : Int) < (n : Int) := by omega
        clear hc hc' hx
        go_wp2_with fail
        go_region_held3 (fun w' => w'.cell? ⟨b, off + k * 2, none⟩ = some (.int .i64 x0) ∧ w'.cell? ⟨b, off + k * 2 + 1, none⟩ = some (.int .i64 x1) ∧ w'.cell? ⟨b', off' + k * 2, none⟩ = some (.int .i64 x0) ∧ w'.cell? ⟨b', off' + k * 2 + 1, none⟩ = some (.int .i64 x1)) (refine ⟨?_, ?_, ?_, ?_⟩ <;> assumption)
          (first | (go_at_call 43; refine (eqEar_same x0 x1 _).mono ?_; rintro e w2 ⟨rfl, hb2⟩; have e0 := cell_later hb2 h0; have d0 := cell_later hb2 g0; have e1 := cell_later hb2 h1; have d1 := cell_later hb2 g1) | fail)
        go_wp2
        go_roundw
        case rel => exact ⟨k + 1, by omega, by go_num, hbw.drew.trans (hb2.mono hbw.size)⟩
        case measure => simp [intOf]; omega
      · go_wp2
        go_ret
        exact ⟨rfl, hbw⟩

set_option maxRecDepth 100000 in
set_option maxHeartbeats 2000000 in
theorem markEarS_any (base : Nat) (a : Option Addr) (n c : Nat) (cs : List Value) (m : Int) (w : World) (hn : n ≤ 1048576) (h0 : 0 ≤ m) (h1 : m ≤ 1073741824) (hown : w.ownsRow base 71 2 (.slice a n c) n cs) :
    Calls Try.prog 19 #[.slice a n c, .int .i64 m] w fun e w' => e = .returned (.int .i64 (m + (n * 2 : Nat))) ∧
      w'.ownsRow base 71 2 (.slice a n c) n ((marks m (n * 2)).map (.int .i64)) ∧ w.grownBy w' (Value.slice a n c).ownBlock := by
  rcases hown.2 with ⟨hv, h00⟩ | ⟨g, cap, cur, hv, hjunk⟩
  · simp only [Value.slice.injEq] at hv
    obtain ⟨rfl, rfl, rfl⟩ := hv
    go_enter Try.func19, Try.ntmps19
    go_wp2
    refine wp_loop_rounds 1 ?_
    rw [rounds_succ]
    go_wp2
    go_ret
    exact ⟨by simp, by simpa [marks] using World.ownsRow_nil w base 71 2, World.grownBy.refl _ _⟩
  · simp only [Value.slice.injEq, true_and] at hv
    obtain ⟨rfl, rfl⟩ := hv
    clear hjunk
    have hu0 := Upto.zero (cs := cs) (zs := marks m (n * 2)) (by rw [marks_length]; simpa using hown.1)
    go_enter Try.func19, Try.ntmps19
    go_wp2
    go_loopw [1, 5] (fun q i wr => ∃ (k : Nat) (cs : List Value), k ≤ n ∧ i = .int .i64 k ∧ q = .int .i64 (m + 2 * (k : Int)) ∧ Upto cs (marks m (n * 2)) (k * 2) ∧ wr.ownsRow base 71 2 (.slice (some ⟨g, 0, none⟩) n c) n cs ∧ w.grownBy wr (some g)) (fun _ i _ => n - (intOf i).toNat)
    case atStart => exact ⟨0, cs, Nat.zero_le _, rfl, by simp, hu0, hown, World.grownBy.refl _ _⟩
    case round =>
      clear hown hu0 cs
      obtain ⟨k, cs, hk, rfl, rfl, hu, hown, hbw⟩ := hrel
      by_cases hlt : k < n
      · have hlen : cs.length = n * 2 := by rw [hu.1, marks_length]
        have hset := hu.setEar (by rw [marks_length]; omega)
        rw [marks_getD m (n * 2) (k * 2) (by omega), marks_getD m (n * 2) (k * 2 + 1) (by omega)] at hset
        obtain ⟨x, hx⟩ : ∃ x : Int, x = m + 2 * (k : Int) := ⟨_, rfl⟩
        rw [show m + ((k * 2 : Nat) : Int) = x by omega, show m + ((k * 2 + 1 : Nat) : Int) = x + 1 by omega] at hset
        have HU := Hid.mk hset
        have HX := Hid.mk hx
        have x0 : 0 ≤ x := by omega
        have x1 : x ≤ 1090000000 := by omega
        rw [← hx]
        clear hset hu hx
        obtain ⟨u0, hu0⟩ : ∃ u, cs[k * 2]? = some u := ⟨_, List.getElem?_eq_getElem (by omega)⟩
        have q0 : wr.cell? ⟨g, k * 2, none⟩ = some u0 := (hown.cellAt _ (by omega)).trans hu0
        have p0 : wr.frozen? ⟨g, k * 2, none⟩ = false := hown.frozenAt _
        clear hu0
        obtain ⟨u1, hu1⟩ : ∃ u, cs[k * 2 + 1]? = some u := ⟨_, List.getElem?_eq_getElem (by omega)⟩
        have q1 : wr.cell? ⟨g, k * 2 + 1, none⟩ = some u1 := (hown.cellAt _ (by omega)).trans hu1
        have p1 : wr.frozen? ⟨g, k * 2 + 1, none⟩ = false := hown.frozenAt _
        clear hu1
        have s1 := hown.stored (k * 2) (.int .i64 (x))
        have s2 := s1.1.stored (k * 2 + 1) (.int .i64 (x + 1))
        have HO := Hid.mk s2.1
        have HB := Hid.mk (grown_trans (grown_trans hbw s1.2) s2.2)
        have hki : (k : Int) < (n : Int) := by omega
        clear s1 s2 hown hbw
        go_wp2
        go_roundw
        case rel => exact ⟨k + 1, _, by omega, by go_num, by have := HX.out; first | (go_num; omega) | (congr 1; omega), HU.out, HO.out, HB.out⟩
        case measure => simp [intOf]; omega
      · obtain rfl : k = n := by omega
        rw [hu.all (by rw [marks_length]; omega)] at hown
        go_wp2
        go_ret
        exact ⟨ret_int (by omega), hown, hbw⟩
def mkEars (m : Int) (xs : List TEar) : List TEar := mkFl deEar 2 m xs.length
theorem markEarS_rep (F : Nat → Prop) (a : Option Addr) (n c : Nat) (xs : List TEar) (m : Int) (w : World) (hn : n ≤ 1048576) (h0 : 0 ≤ m) (h1 : m ≤ 268435456) (ho : REars.Own w F [.slice a n c] xs) :
    Calls Try.prog 19 #[.slice a n c, .int .i64 m] w fun e w' => e = .returned (.int .i64 (m + (n * 2 : Nat))) ∧ REars.Own w' F [.slice a n c] (mkEars m xs) ∧ Off F w w' := by
  obtain ⟨hz, hb, how, hF⟩ := flat_own_iff.1 ho
  refine (markEarS_any 0 a n c _ m w hn h0 (by omega) how).mono ?_
  rintro e w' ⟨rfl, ho', hg⟩
  refine ⟨rfl, flat_own_iff.2 ⟨by unfold mkEars; rw [mkFl_len, hz], hb, ?_, hF⟩, Off.grown hg (fun k hk => hF k hk)⟩
  unfold mkEars
  rw [mkFl_flat deEar_en, hz]
  exact ho'

set_option maxRecDepth 100000 in
set_option maxHeartbeats 1000000 in
theorem heldEarS_any (a : Option Addr) (n c : Nat) (m : Int) (w : World) (hn : n ≤ 1048576) (h0 : 0 ≤ m) (h1 : m ≤ 1073741824) (ha : At w a (marks m (n * 2))) :
    Calls Try.prog 20 #[.slice a n c, .int .i64 m] w fun e w' => e = .returned (.int .i64 (m + (n * 2 : Nat))) ∧ w' = w := by
  by_cases hz : n = 0
  · subst hz
    go_enter Try.func20, Try.ntmps20
    go_wp2
    refine wp_loop_rounds 1 ?_
    rw [rounds_succ]
    go_wp2
    go_ret
    exact ⟨by simp, rfl⟩
  · obtain ⟨b, off, rfl, hb, hc⟩ := ha.some (by rw [marks_length]; omega)
    clear ha
    go_enter Try.func20, Try.ntmps20
    go_wp2
    go_loop [1, 5] (fun q i => ∃ (k : Nat) (x : Int), k ≤ n ∧ i = .int .i64 k ∧ q = .int .i64 x ∧ x = m + 2 * (k : Int)) (fun _ i => n - (intOf i).toNat)
    case atStart => exact ⟨0, m, Nat.zero_le _, rfl, rfl, by simp⟩
    case round =>
      obtain ⟨k, x, hk, rfl, rfl, hx⟩ := hrel
      by_cases hlt : k < n
      · have c0 : w.cell? ⟨b, off + k * 2, none⟩ = some (.int .i64 (x)) := by
          have h9 := hc (k * 2 + 0) (by rw [marks_length]; omega)
          rw [marks_getD m (n * 2) (k * 2 + 0) (by omega), show m + ((k * 2 + 0 : Nat) : Int) = x by push_cast; omega] at h9
          simpa using h9
        have c1 : w.cell? ⟨b, off + k * 2 + 1, none⟩ = some (.int .i64 (x + 1)) := by
          have h9 := hc (k * 2 + 1) (by rw [marks_length]; omega)
          rw [marks_getD m (n * 2) (k * 2 + 1) (by omega), show m + ((k * 2 + 1 : Nat) : Int) = x + 1 by push_cast; omega] at h9
          rw [Nat.add_assoc]; exact h9
        have HX := Hid.mk hx
        have hxb : 0 ≤ x := by omega
        have hxc : x ≤ 1090000000 := by omega
        clear hx hc
        have hki : (k : Int) < (n : Int) := by omega
        go_wp2
        go_round
        case rel => exact ⟨k + 1, x + 1 + 1, by omega, by go_num, rfl, by have := HX.out; push_cast; omega⟩
        case measure => simp [intOf]; omega
      · obtain rfl : k = n := by omega
        have HX := Hid.mk hx
        clear hx
        go_wp2
        go_ret
        exact ⟨ret_int (by have := HX.out; push_cast; omega), rfl⟩
theorem heldEarS_rep (a : Option Addr) (n c : Nat) (xs : List TEar) (m : Int) (w : World) (hz : xs.length = n) (hn : n ≤ 1048576) (h0 : 0 ≤ m) (h1 : m ≤ 268435456) (ha : At w a (flEar (mkEars m xs))) :
    Calls Try.prog 20 #[.slice a n c, .int .i64 m] w fun e w' => e = .returned (.int .i64 (m + (n * 2 : Nat))) ∧ Below w.heap.size w w' := by
  have ha2 : At w a (flatF enEar (mkFl deEar 2 m xs.length)) := ha
  rw [mkFl_flat deEar_en, hz] at ha2
  exact (heldEarS_any a n c m w hn h0 (by omega) ha2).mono fun _ _ ⟨h1, h2⟩ => ⟨h1, h2 ▸ Below.refl _ _⟩

end Go.Proofs.Yteggbamjfhbmfaa
