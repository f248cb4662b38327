/- Several texts of one proof, in build order: SzP, OrP, CsP, SzI, CloM. -/
import Derived.Test.YteggbamjfhbmfaaM5
import Derived.Test.YteggbamjfhbmfaaRows
import Derived.Deep.CutBlock

/- Plain: sizes of joins: products of sizes and of factors, in any order. -/
namespace Go.Proofs.Yteggbamjfhbmfaa
open Go.RowKit

def prodL : List Int → Int
  | [] => 1
  | x :: l => x * prodL l
theorem prodL_app : ∀ a b : List Int, prodL (a ++ b) = prodL a * prodL b
  | [], b => by simp [prodL]
  | x :: a, b => by simp only [List.cons_append, prodL, prodL_app a b, Int.mul_assoc]
theorem prodL_perm {a b : List Int} (h : a.Perm b) : prodL a = prodL b := by
  induction h with
  | nil => rfl
  | cons x _ ih => simp only [prodL, ih]
  | swap x y l => simp only [prodL, Int.mul_left_comm]
  | trans _ _ h1 h2 => exact h1.trans h2
theorem prodL_in {m : Int} (hm : 1 ≤ m) : ∀ {l : List Int}, (∀ x ∈ l, 1 ≤ x ∧ x ≤ m) → 1 ≤ prodL l ∧ prodL l ≤ m ^ l.length
  | [], _ => by simp [prodL]
  | x :: l, h => by
    obtain ⟨h1, h2⟩ := prodL_in hm (l := l) fun y hy => h y (List.mem_cons_of_mem _ hy)
    obtain ⟨x1, x2⟩ := h x (List.mem_cons_self ..)
    refine ⟨?_, ?_⟩
    · have := Int.mul_le_mul x1 h1 (by omega) (by omega)
      simpa [prodL] using this
    · have := Int.mul_le_mul x2 h2 (by omega) (by omega)
      simp only [prodL, List.length_cons, Int.pow_succ]
      rw [Int.mul_comm (m ^ _)]; exact this
def sizA (zs : List Int) (x : Int) : Int := zs.getD x.toNat 0
def facA (fs : List (List Int)) (a b : Int) : Int := (fs.getD (max a b).toNat []).getD (min a b).toNat 0
theorem facA_comm (fs : List (List Int)) (a b : Int) : facA fs a b = facA fs b a := by unfold facA; rw [Int.max_comm, Int.min_comm]
def dnP (fs : List (List Int)) : List Int → Int
  | [] => 1
  | x :: l => prodL (l.map (facA fs x)) * dnP fs l
theorem dnP_snoc (fs : List (List Int)) (x : Int) : ∀ l : List Int, dnP fs (l ++ [x]) = dnP fs l * prodL (l.map (facA fs x))
  | [] => by simp [dnP, prodL]
  | y :: l => by
    have ih := dnP_snoc fs x l
    simp only [List.cons_append, dnP, ih, List.map_append, List.map_cons, List.map_nil, prodL_app, prodL, Int.mul_one]
    rw [facA_comm fs y x]
    simp only [Int.mul_assoc, Int.mul_comm, Int.mul_left_comm]
theorem dnP_perm (fs : List (List Int)) {a b : List Int} (h : a.Perm b) : dnP fs a = dnP fs b := by
  induction h with
  | nil => rfl
  | cons x h ih => simp only [dnP, ih, prodL_perm (h.map (facA fs x))]
  | swap x y l =>
    simp only [dnP, List.map_cons, prodL]
    rw [facA_comm fs x y]
    simp only [Int.mul_assoc, Int.mul_comm, Int.mul_left_comm]
  | trans _ _ h1 h2 => exact h1.trans h2
def upP (zs l : List Int) : Int := prodL (l.map (sizA zs))
/-- What a join of some tables tells. -/
def szQ (zs : List Int) (fs : List (List Int)) (l : List Int) : Int := upP zs l / dnP fs l
theorem szQ_perm (zs : List Int) (fs : List (List Int)) {a b : List Int} (h : a.Perm b) : szQ zs fs a = szQ zs fs b := by
  unfold szQ upP
  rw [dnP_perm fs h, prodL_perm (h.map (sizA zs))]
/-- What is known of good statistics. -/
structure GsF (zs : List Int) (fs : List (List Int)) : Prop where
  n1 : 1 ≤ zs.length
  n6 : zs.length ≤ 6
  nf : fs.length = zs.length
  sz : ∀ k, k < zs.length → 1 ≤ zs.getD k 0 ∧ zs.getD k 0 ≤ 50
  fl : ∀ (k : Nat) (f : List Int), fs[k]? = some f → f.length = k
  fc : ∀ k j, k < zs.length → j < k → 1 ≤ (fs.getD k []).getD j 0 ∧ (fs.getD k []).getD j 0 ≤ 10
theorem wiB_all {m : Int} {l : List Int} (h : wiB m l = true) {k : Nat} (hk : k < l.length) : 1 ≤ l.getD k 0 ∧ l.getD k 0 ≤ m := by
  unfold wiB at h
  have h1 := List.all_eq_true.1 h l[k] (List.getElem_mem hk)
  have e : l.getD k 0 = l[k] := by simp [List.getD, hk]
  rw [e]
  simpa [inB] using h1
theorem facB_all : ∀ (fs : List (List Int)) (k : Nat), facB k fs = true → ∀ (j : Nat) (f : List Int), fs[j]? = some f → f.length = k + j ∧ wiB 10 f = true
  | [], _, _, _, _, h => by simp at h
  | g :: r, k, h, j, f, hj => by
    simp only [facB, Bool.and_eq_true, decide_eq_true_eq] at h
    cases j with
    | zero =>
      obtain rfl : g = f := by simpa using hj
      exact ⟨h.1.1, h.1.2⟩
    | succ j =>
      have := facB_all r (k + 1) h.2 j f (by simpa using hj)
      exact ⟨by omega, this.2⟩
theorem gsF {zs : List Int} {fs : List (List Int)} (h : gsB zs fs = true) : GsF zs fs := by
  simp only [gsB, Bool.and_eq_true, decide_eq_true_eq] at h
  obtain ⟨⟨⟨h1, h2⟩, h3⟩, h4, h5⟩ := h
  have hf := facB_all fs 0 h4
  refine ⟨h1, h2, h3, fun k hk => wiB_all h5 hk, fun k f hk => by have := (hf k f hk).1; omega, fun k j hk hj => ?_⟩
  obtain ⟨f, hfk⟩ : ∃ f, fs[k]? = some f := ⟨_, List.getElem?_eq_getElem (by omega)⟩
  have e : fs.getD k [] = f := by simp [List.getD, hfk]
  obtain ⟨g1, g2⟩ := hf k f hfk
  rw [e]
  exact wiB_all g2 (by omega)
/-- Numbers of tables, each once. -/
structure TbL (n : Nat) (l : List Int) : Prop where
  nd : l.Nodup
  lt : ∀ x ∈ l, 0 ≤ x ∧ x < (n : Int)
theorem TbL.len {n : Nat} {l : List Int} (h : TbL n l) : l.length ≤ n := by
  have h1 : (l.map Int.toNat).Nodup := by
    refine List.Pairwise.map _ ?_ (List.Pairwise.and_mem.1 h.nd)
    rintro a b ⟨ha, hb, hab⟩ e
    have := h.lt a ha
    have := h.lt b hb
    exact hab (by omega)
  have h2 := List.Nodup.length_le_of_subset h1 (l₂ := List.range n) (fun x hx => by
    obtain ⟨y, hy, rfl⟩ := List.mem_map.1 hx
    have := h.lt y hy
    simp; omega)
  simpa using h2
theorem TbL.take {n : Nat} {l : List Int} (h : TbL n l) (k : Nat) : TbL n (l.take k) := ⟨h.nd.sublist (List.take_sublist ..), fun x hx => h.lt x (List.mem_of_mem_take hx)⟩
def tri : Nat → Nat
  | 0 => 0
  | k + 1 => tri k + k
theorem sizA_in {zs : List Int} {fs : List (List Int)} (h : GsF zs fs) {x : Int} (hx : 0 ≤ x ∧ x < (zs.length : Int)) : 1 ≤ sizA zs x ∧ sizA zs x ≤ 50 := h.sz _ (by omega)
theorem facA_in {zs : List Int} {fs : List (List Int)} (h : GsF zs fs) {x y : Int} (hx : 0 ≤ x ∧ x < (zs.length : Int)) (hy : 0 ≤ y ∧ y < (zs.length : Int)) (hn : x ≠ y) : 1 ≤ facA fs x y ∧ facA fs x y ≤ 10 :=
  h.fc _ _ (by omega) (by omega)
theorem upP_in {zs : List Int} {fs : List (List Int)} (h : GsF zs fs) {l : List Int} (hl : TbL zs.length l) : 1 ≤ upP zs l ∧ upP zs l ≤ 15625000000 := by
  obtain ⟨h1, h2⟩ := prodL_in (m := 50) (by omega) (l := l.map (sizA zs)) (fun y hy => by obtain ⟨x, hx, rfl⟩ := List.mem_map.1 hy; exact sizA_in h (hl.lt x hx))
  refine ⟨h1, Int.le_trans h2 ?_⟩
  have h3 : l.length ≤ 6 := Nat.le_trans hl.len h.n6
  rw [List.length_map]
  have : ∀ k, k ≤ 6 → (50 : Int) ^ k ≤ 15625000000 := by decide
  exact this _ h3
theorem fac_in {zs : List Int} {fs : List (List Int)} (h : GsF zs fs) {x : Int} (hx : 0 ≤ x ∧ x < (zs.length : Int)) {l : List Int} (hl : TbL zs.length l) (hn : x ∉ l) : 1 ≤ prodL (l.map (facA fs x)) ∧ prodL (l.map (facA fs x)) ≤ 10 ^ l.length := by
  have := prodL_in (m := 10) (by omega) (l := l.map (facA fs x)) (fun y hy => by obtain ⟨z, hz, rfl⟩ := List.mem_map.1 hy; exact facA_in h hx (hl.lt z hz) (fun e => hn (e ▸ hz)))
  simpa using this
theorem dnP_in {zs : List Int} {fs : List (List Int)} (h : GsF zs fs) : ∀ {l : List Int}, TbL zs.length l → 1 ≤ dnP fs l ∧ dnP fs l ≤ 10 ^ tri l.length
  | [], _ => by simp [dnP, tri]
  | x :: l, hl => by
    have hl' : TbL zs.length l := ⟨(List.nodup_cons.1 hl.nd).2, fun y hy => hl.lt y (List.mem_cons_of_mem _ hy)⟩
    obtain ⟨h1, h2⟩ := dnP_in h hl'
    obtain ⟨k1, k2⟩ := fac_in h (hl.lt x (List.mem_cons_self ..)) hl' (List.nodup_cons.1 hl.nd).1
    refine ⟨?_, ?_⟩
    · have := Int.mul_le_mul k1 h1 (by omega) (by omega)
      simpa [dnP] using this
    · have := Int.mul_le_mul k2 h2 (by omega) (by omega)
      simp only [dnP, List.length_cons, tri, Int.pow_add]
      rw [Int.mul_comm (10 ^ tri _)]; exact this
/-- What the inner loop holds: the factors so far. -/
theorem dn_part {zs : List Int} {fs : List (List Int)} (h : GsF zs fs) {l : List Int} (hl : TbL zs.length l) {i j : Nat} {x : Int} (hi : l[i]? = some x) (hj : j ≤ i) :
    1 ≤ dnP fs (l.take i) * prodL ((l.take j).map (facA fs x)) ∧ dnP fs (l.take i) * prodL ((l.take j).map (facA fs x)) ≤ 1000000000000000 := by
  obtain ⟨hil, rfl⟩ := List.getElem?_eq_some_iff.1 hi
  have h6 := Nat.le_trans hl.len h.n6
  obtain ⟨h1, h2⟩ := dnP_in h (hl.take i)
  have hm : l[i] ∉ l.take j := by
    intro hm
    obtain ⟨k, hk, e⟩ := List.mem_take_iff_getElem.1 hm
    have := (List.getElem_inj hl.nd).1 e
    omega
  obtain ⟨k1, k2⟩ := fac_in h (hl.lt _ (List.getElem_mem hil)) (hl.take j) hm
  rw [List.length_take, Nat.min_eq_left (by omega)] at h2 k2
  refine ⟨?_, ?_⟩
  · have := Int.mul_le_mul h1 k1 (by omega) (by omega)
    simpa using this
  · have h3 := Int.mul_le_mul h2 k2 (by omega) (by omega)
    rw [← Int.pow_add] at h3
    refine Int.le_trans h3 ?_
    have : ∀ i, i < 6 → ∀ j, j ≤ i → (10 : Int) ^ (tri i + j) ≤ 1000000000000000 := by decide
    exact this i (by omega) j hj
theorem dn_step {fs : List (List Int)} {l : List Int} {i j : Nat} {x y : Int} (hj : l[j]? = some y) : dnP fs (l.take i) * prodL ((l.take (j + 1)).map (facA fs x)) = dnP fs (l.take i) * prodL ((l.take j).map (facA fs x)) * facA fs x y := by
  obtain ⟨hk, rfl⟩ := List.getElem?_eq_some_iff.1 hj
  rw [List.take_succ_eq_append_getElem hk, List.map_append, prodL_app]
  simp [prodL, Int.mul_assoc]
theorem dn_next {fs : List (List Int)} {l : List Int} {i : Nat} {x : Int} (hi : l[i]? = some x) : dnP fs (l.take (i + 1)) = dnP fs (l.take i) * prodL ((l.take i).map (facA fs x)) := by
  obtain ⟨hk, rfl⟩ := List.getElem?_eq_some_iff.1 hi
  rw [List.take_succ_eq_append_getElem hk, dnP_snoc]
theorem up_next {zs : List Int} {l : List Int} {i : Nat} {x : Int} (hi : l[i]? = some x) : upP zs (l.take (i + 1)) = upP zs (l.take i) * sizA zs x := by
  obtain ⟨hk, rfl⟩ := List.getElem?_eq_some_iff.1 hi
  unfold upP
  rw [List.take_succ_eq_append_getElem hk, List.map_append, prodL_app]
  simp [prodL]

end Go.Proofs.Yteggbamjfhbmfaa

/- Plain: orders: lists that have each of the first numbers once. -/
namespace Go.Proofs.Yteggbamjfhbmfaa
open Go.RowKit

def srtI (l : List Int) : List Int := l.mergeSort fun x y => decide (x ≤ y)
def eachB (l : List Int) (n : Nat) : Bool := decide (srtI l = upN n)
theorem upN_mem {n : Nat} {x : Int} : x ∈ upN n ↔ 0 ≤ x ∧ x < (n : Int) := by
  unfold upN
  rw [List.mem_map]
  constructor
  · rintro ⟨i, hi, rfl⟩
    rw [List.mem_range] at hi
    omega
  · intro h
    exact ⟨x.toNat, List.mem_range.2 (by omega), by omega⟩
theorem upN_pair (n : Nat) : (upN n).Pairwise (· < ·) := by
  unfold upN
  rw [List.pairwise_map]
  exact List.pairwise_lt_range.imp (fun h => by omega)
theorem srtI_perm (l : List Int) : (srtI l).Perm l := List.mergeSort_perm l _
theorem srtI_pair (l : List Int) : (srtI l).Pairwise (· ≤ ·) := by
  have h := List.pairwise_mergeSort (le := fun x y : Int => decide (x ≤ y)) (fun a b c h1 h2 => by simp at *; omega) (fun a b => by simp; omega) l
  exact h.imp (fun h => by simpa using h)
theorem srtI_up {l : List Int} {n : Nat} (h : l.Perm (upN n)) : srtI l = upN n :=
  ((srtI_perm l).trans h).eq_of_pairwise (le := (· ≤ ·)) (fun a b _ _ h1 h2 => by omega) (srtI_pair l) ((upN_pair n).imp (fun h => by omega))
theorem eachB_iff {l : List Int} {n : Nat} : eachB l n = true ↔ l.Perm (upN n) := by
  unfold eachB
  rw [decide_eq_true_eq]
  exact ⟨fun h => (srtI_perm l).symm.trans (by rw [h]), srtI_up⟩
theorem each_tbl {l : List Int} {n : Nat} (h : l.Perm (upN n)) : TbL n l :=
  ⟨h.symm.nodup ((upN_pair n).imp (fun h => by omega)), fun x hx => upN_mem.1 (h.mem_iff.1 hx)⟩

theorem insI_perm {l : List Int} {x : Int} (h : ¬ x ∈ l) : (insI l x).Perm (x :: l) := by
  rw [insI_no h]
  refine List.perm_middle.trans ?_
  rw [List.take_append_drop]
def putI (acc l : List Int) : List Int := l.foldl insI acc
theorem putI_snoc (acc l : List Int) (x : Int) : putI acc (l ++ [x]) = insI (putI acc l) x := by simp [putI]
theorem putI_len : ∀ (l acc : List Int), (putI acc l).length ≤ acc.length + l.length ∧ ((putI acc l).length = acc.length + l.length → (putI acc l).Perm (acc ++ l))
  | [], acc => by simp [putI]
  | x :: l, acc => by
    have ih := putI_len l (insI acc x)
    have e : putI acc (x :: l) = putI (insI acc x) l := rfl
    rw [e, List.length_cons]
    by_cases h : x ∈ acc
    · rw [insI_yes h] at ih ⊢
      exact ⟨by omega, fun h9 => by omega⟩
    · have hp := insI_perm h
      have hl := hp.length_eq
      rw [List.length_cons] at hl
      refine ⟨by omega, fun h9 => ?_⟩
      refine (ih.2 (by omega)).trans ((hp.append_right l).trans ?_)
      rw [List.cons_append]
      exact List.perm_middle.symm
theorem putI_nodup : ∀ (l acc : List Int), (acc ++ l).Nodup → (putI acc l).Perm (acc ++ l)
  | [], acc, _ => by simp [putI]
  | x :: l, acc, h => by
    have hx : ¬ x ∈ acc := fun hx => by
      have := (List.nodup_append.1 h).2.2 x hx x (List.mem_cons_self ..)
      exact this rfl
    have hp := insI_perm hx
    have hp2 : (insI acc x ++ l).Perm (acc ++ x :: l) := (hp.append_right l).trans (by rw [List.cons_append]; exact List.perm_middle.symm)
    have e : putI acc (x :: l) = putI (insI acc x) l := rfl
    rw [e]
    exact (putI_nodup l (insI acc x) (hp2.symm.nodup h)).trans hp2
theorem putI_mem : ∀ (l acc : List Int) (y : Int), y ∈ putI acc l → y ∈ acc ∨ y ∈ l
  | [], acc, y, h => .inl h
  | x :: l, acc, y, h => by
    rcases putI_mem l (insI acc x) y h with h | h
    · by_cases hx : x ∈ acc
      · rw [insI_yes hx] at h; exact .inl h
      · rcases List.mem_cons.1 ((insI_perm hx).mem_iff.1 h) with h | h
        · exact .inr (by rw [h]; exact List.mem_cons_self ..)
        · exact .inl h
    · exact .inr (List.mem_cons_of_mem _ h)
theorem putI_bl : ∀ (l : List Int) (s : Nat), s < 64 → (∀ x ∈ l, 0 ≤ x ∧ x < 6) → ∃ t, t < 64 ∧ putI (bl s) l = bl t
  | [], s, hs, _ => ⟨s, hs, rfl⟩
  | x :: l, s, hs, h => by
    have hx := h x (List.mem_cons_self ..)
    have e : putI (bl s) (x :: l) = putI (insI (bl s) x) l := rfl
    rw [e, insI_bl hs hx.1 hx.2]
    have h2 : 2 ^ x.toNat < 64 := by
      have : ∀ k, k < 6 → 2 ^ k < 64 := by decide
      exact this _ (by omega)
    exact putI_bl l _ (Nat.or_lt_two_pow (n := 6) hs h2) (fun y hy => h y (List.mem_cons_of_mem _ hy))
theorem bl_full : ∀ n : Nat, n < 7 → ∀ t : Nat, t < 64 → (bl t).length = n → (bl t).all (fun x => decide (x < (n : Int))) = true → bl t = upN n := by decide +kernel
theorem bl_nil : bl 0 = [] := by decide
/-- What the model asks of an order. -/
def isoB (n : Nat) (l : List Int) : Bool := decide (l.length = n) && (l.all (fun x => decide (0 ≤ x) && decide (x < (l.length : Int))) && decide ((putI [] l).length = l.length))
theorem isoB_each {n : Nat} (hn : n ≤ 6) (l : List Int) : isoB n l = eachB l n := by
  rw [Bool.eq_iff_iff, eachB_iff]
  simp only [isoB, Bool.and_eq_true, decide_eq_true_eq, List.all_eq_true]
  constructor
  · rintro ⟨h1, h2, h3⟩
    have hp : (putI [] l).Perm l := by simpa using (putI_len l []).2 (by simpa using h3)
    obtain ⟨t, ht, e⟩ := putI_bl l 0 (by omega) (fun x hx => by have := h2 x hx; omega)
    rw [bl_nil] at e
    have hf := bl_full n (by omega) t ht (by rw [← e]; omega) (by
      rw [List.all_eq_true]
      intro x hx
      have := h2 x (hp.mem_iff.1 (by rw [e]; exact hx))
      simp; omega)
    rw [← hf, ← e]
    exact hp.symm
  · intro h
    have ht := each_tbl h
    have hl : l.length = n := by have := h.length_eq; rw [upN_len] at this; exact this
    refine ⟨hl, fun x hx => by have := ht.lt x hx; omega, ?_⟩
    have := (putI_nodup l [] (by simpa using ht.nd)).length_eq
    simpa using this

end Go.Proofs.Yteggbamjfhbmfaa

/- Plain: what an order costs. -/
namespace Go.Proofs.Yteggbamjfhbmfaa
open Go.RowKit

def lastC (zs : List Int) (fs : List (List Int)) (l : List Int) : Int := if l.length < 2 then 0 else szQ zs fs l
def csN (zs : List Int) (fs : List (List Int)) (l : List Int) : Nat → Int
  | 0 => 0
  | k + 1 => csN zs fs l k + lastC zs fs (l.take (k + 1))
def costL (zs : List Int) (fs : List (List Int)) (l : List Int) : Int := csN zs fs l l.length
theorem szQ_in {zs : List Int} {fs : List (List Int)} (h : GsF zs fs) {l : List Int} (hl : TbL zs.length l) : 0 ≤ szQ zs fs l ∧ szQ zs fs l ≤ 15625000000 := by
  have h1 := upP_in h hl
  have h2 := dnP_in h hl
  have h3 : 0 ≤ upP zs l / dnP fs l := Int.ediv_nonneg (by omega) (by omega)
  have h4 : upP zs l / dnP fs l ≤ upP zs l := Int.ediv_le_self _ (by omega)
  unfold szQ
  omega
theorem lastC_in {zs : List Int} {fs : List (List Int)} (h : GsF zs fs) {l : List Int} (hl : TbL zs.length l) : 0 ≤ lastC zs fs l ∧ lastC zs fs l ≤ 15625000000 := by
  unfold lastC
  split
  · omega
  · exact szQ_in h hl
theorem csN_in {zs : List Int} {fs : List (List Int)} (h : GsF zs fs) {l : List Int} (hl : TbL zs.length l) : ∀ k, 0 ≤ csN zs fs l k ∧ csN zs fs l k ≤ k * 15625000000
  | 0 => by simp [csN]
  | k + 1 => by
    have h1 := csN_in h hl k
    have h2 := lastC_in h (hl.take (k + 1))
    simp only [csN]
    push_cast
    omega
theorem bl_pair : ∀ t : Nat, t < 64 → (bl t).Pairwise (· < ·) := by decide +kernel
theorem putI_tbl {n : Nat} (hn : n ≤ 6) {l : List Int} (hl : TbL n l) : (putI [] l).Perm l ∧ (putI [] l).Pairwise (· < ·) := by
  refine ⟨by simpa using putI_nodup l [] (by simpa using hl.nd), ?_⟩
  obtain ⟨t, ht, e⟩ := putI_bl l 0 (by omega) (fun x hx => by have := hl.lt x hx; omega)
  rw [bl_nil] at e
  rw [e]
  exact bl_pair t ht
theorem TbL.perm {n : Nat} {a b : List Int} (h : TbL n a) (hp : a.Perm b) : TbL n b := ⟨hp.nodup h.nd, fun x hx => h.lt x (hp.mem_iff.2 hx)⟩

end Go.Proofs.Yteggbamjfhbmfaa

/- Contract of impl.sizeOfJoined: what a join of some tables tells. -/
namespace Go.Proofs.Yteggbamjfhbmfaa
open Go.RowKit

set_option maxRecDepth 100000 in
set_option maxHeartbeats 4000000 in
theorem sizeOfJoined_any (sa : Option Addr) (sn sc : Nat) (zs : List Int) (pa : Option Addr) (pn pc : Nat) (fs : List (List Int)) (a : Option Addr) (n c : Nat) (l : List Int) (w : World) (hs : zs.length = sn) (hsa : At w sa zs) (hz : fs.length = pn) (ha : AtS w pa fs) (hl : l.length = n) (hc : n ≤ c) (hla : At w a l) (hg : GsF zs fs) (ht : TbL zs.length l) :
    Calls Try.prog 59 #[.agg #[.slice sa sn sc, .slice pa pn pc], .slice a n c] w fun e w' => e = .returned (.int .i64 (szQ zs fs l)) ∧ Below w.heap.size w w' := by
  obtain ⟨W, hW⟩ : ∃ W, W = w.alloc (.cells #[.slice sa sn sc, .slice pa pn pc] 53) := ⟨_, rfl⟩
  have B0 : Below w.heap.size w W := by rw [hW]; exact (Below.refl _ _).alloc (Nat.le_refl _) _
  have q0 : W.cell? ⟨w.heap.size, 0, none⟩ = some (.slice sa sn sc) := by rw [hW]; simp
  have q1 : W.cell? ⟨w.heap.size, 1, none⟩ = some (.slice pa pn pc) := by rw [hW]; simp
  have zW : w.heap.size < W.heap.size := by rw [hW]; simp
  have hsn6 : sn ≤ 6 := by have := hg.n6; omega
  have hn6 : n ≤ 6 := by have := ht.len; have := hg.n6; omega
  have hpn : pn = sn := by have := hg.nf; omega
  have HS := Hid.mk hs
  have HZ := Hid.mk hz
  have HL := Hid.mk hl
  have HSA := Hid.mk (At.below hsa B0)
  have HA := Hid.mk (AtS.below ha B0)
  have HLA := Hid.mk (At.below hla B0)
  have HG := Hid.mk hg
  have HT := Hid.mk ht
  subst hpn
  clear hs hz hl hsa ha hla hg ht
  go_enter Try.func59, Try.ntmps59
  go_upto_region 2 with fail
  rw [← hW]
  clear hW
  go_wp2
  go_loopw [5, 6, 13] (fun u v i wr => ∃ (k : Nat) (U D : Int), k ≤ n ∧ i = .int .i64 k ∧ u = .int .i64 U ∧ v = .int .i64 D ∧ U = upP zs (l.take k) ∧ D = dnP fs (l.take k) ∧ Below W.heap.size W wr) (fun _ _ i _ => n - (intOf i).toNat)
  case atStart => exact ⟨0, 1, 1, Nat.zero_le _, rfl, rfl, rfl, rfl, rfl, Below.refl _ _⟩
  case round =>
    obtain ⟨k, U, D, hk, rfl, rfl, rfl, hU, hD, hbw⟩ := hrel
    by_cases hlt : k < n
    · obtain ⟨x, hx⟩ : ∃ x, l[k]? = some x := ⟨_, List.getElem?_eq_getElem (by have := HL.out; omega)⟩
      have hxm : x ∈ l := List.mem_of_getElem? hx
      have hxr := HT.out.lt x hxm
      obtain ⟨p, rfl⟩ : ∃ p : Nat, x = (p : Int) := ⟨x.toNat, by omega⟩
      have hp : p < pn := by have := HS.out; omega
      obtain ⟨b, off, rfl, hb, hcl⟩ := HLA.out.some (by have := HL.out; omega)
      have hcx : wr.cell? ⟨b, off + k, none⟩ = some (.int .i64 (p : Nat)) := by
        have h9 := (hbw.cell hb).trans (hcl k (by have := HL.out; omega))
        rw [h9]
        have : l.getD k 0 = (p : Int) := by simp [List.getD, hx]
        rw [this]
      obtain ⟨b2, off2, rfl, hb2, hc2⟩ := HSA.out.some (by have := HS.out; omega)
      obtain ⟨y, hy⟩ : ∃ y, y = zs.getD p 0 := ⟨_, rfl⟩
      have hcy : wr.cell? ⟨b2, off2 + p, none⟩ = some (.int .i64 y) := by rw [hy]; exact (hbw.cell hb2).trans (hc2 p (by have := HS.out; omega))
      have hup := up_next (zs := zs) hx
      rw [← hU, show sizA zs (p : Int) = y by rw [hy]; rfl] at hup
      have hui := upP_in HG.out (HT.out.take (k + 1))
      rw [hup] at hui
      obtain ⟨U2, hU2⟩ : ∃ U2, U * y = U2 := ⟨_, rfl⟩
      rw [hU2] at hui hup
      have hw1 : IntKind.i64.wrap (U * y) = U2 := by rw [hU2]; exact IntWalk.i64_in _ (by omega)
      have hki : (k : Int) < (n : Int) := by omega
      have hkc : k ≤ c := by omega
      have p0 := cell_later hbw q0
      have p1 := cell_later hbw q1
      have HU := Hid.mk hup
      have HD := Hid.mk hD
      have HX := Hid.mk hx
      have HB := Hid.mk hbw
      have HCL := Hid.mk hcl
      clear hup hD hx hbw hcl hc2 hy hU hU2 hui hxm hxr
      obtain ⟨wy, rfl⟩ : ∃ x, x = wr := ⟨_, rfl⟩
      go_wp2
      go_loopw [6, 29] (fun v i wr => ∃ (j : Nat) (E : Int), j ≤ k ∧ i = .int .i64 j ∧ v = .int .i64 E ∧ E = dnP fs (l.take k) * prodL ((l.take j).map (facA fs p)) ∧ Below wy.heap.size wy wr) (fun _ i _ => k - (intOf i).toNat)
      case atStart => exact ⟨0, D, Nat.zero_le _, rfl, rfl, by rw [HD.out]; simp [prodL], Below.refl _ _⟩
      case round =>
        obtain ⟨j, E, hj, rfl, rfl, hE, hbj⟩ := hrel
        by_cases hjt : j < k
        · obtain ⟨o, ho⟩ : ∃ o, l[j]? = some o := ⟨_, List.getElem?_eq_getElem (by have := HL.out; omega)⟩
          have hor := HT.out.lt o (List.mem_of_getElem? ho)
          obtain ⟨q, rfl⟩ : ∃ q : Nat, o = (q : Int) := ⟨o.toNat, by omega⟩
          have hq : q < pn := by have := HS.out; omega
          have hpq : p ≠ q := by
            intro e
            obtain ⟨h1, e1⟩ := List.getElem?_eq_some_iff.1 HX.out
            obtain ⟨h2, e2⟩ := List.getElem?_eq_some_iff.1 ho
            have := (List.getElem_inj (h₀ := h1) (h₁ := h2) HT.out.nd).1 (by rw [e1, e2, e])
            omega
          by_cases hqp : q < p
          · obtain ⟨f, hf⟩ : ∃ f, fs[p]? = some f := ⟨_, List.getElem?_eq_getElem (by have := HZ.out; omega)⟩
            have hfl := HG.out.fl _ _ hf
            obtain ⟨b3, off3, a', c', rfl, hcr, hm1, hax⟩ := atS_rw (AtS.below HA.out (HB.out.trans (hbj.mono HB.out.size))) hf
            rw [hfl] at hcr hm1
            obtain ⟨b4, off4, rfl, hb4, hc4⟩ := hax.some (by omega)
            obtain ⟨y2, hy2⟩ : ∃ y2, y2 = f.getD q 0 := ⟨_, rfl⟩
            have hcq : wr.cell? ⟨b4, off4 + q, none⟩ = some (.int .i64 y2) := by rw [hy2]; exact hc4 q (by omega)
            have hco : wr.cell? ⟨b, off + j, none⟩ = some (.int .i64 (q : Nat)) := by
              have h9 := ((HB.out.trans (hbj.mono HB.out.size)).cell hb).trans (HCL.out j (by have := HL.out; omega))
              rw [h9]
              have : l.getD j 0 = (q : Int) := by simp [List.getD, ho]
              rw [this]
            have hfa : facA fs p q = y2 := by
              unfold facA
              rw [Int.max_eq_left (by omega), Int.min_eq_right (by omega), Int.toNat_natCast, Int.toNat_natCast, hy2]
              simp [List.getD, hf]
            have hst := dn_step (fs := fs) (i := k) (x := (p : Int)) ho
            rw [← hE, hfa] at hst
            have hin := dn_part HG.out HT.out HX.out (show j + 1 ≤ k by omega)
            rw [hst] at hin
            obtain ⟨E2, hE2⟩ : ∃ E2, E * y2 = E2 := ⟨_, rfl⟩
            rw [hE2] at hin hst
            have hw2 : IntKind.i64.wrap (E * y2) = E2 := by rw [hE2]; exact IntWalk.i64_in _ (by omega)
            have hji : (j : Int) < (k : Int) := by omega
            have r1 := cell_later hbj p1
            have HE := Hid.mk hst
            have HBJ := Hid.mk hbj
            have hmx : max (p : Int) (q : Int) = (p : Int) := Int.max_eq_left (by omega)
            have hmn : min (p : Int) (q : Int) = (q : Int) := Int.min_eq_right (by omega)
            clear hst hE hbj ho hf hfl hax hc4 hy2 hfa hE2 hin
            go_wp2
            go_roundw
            case rel => exact ⟨j + 1, E2, by omega, by go_num, rfl, HE.out.symm, HBJ.out⟩
            case measure => simp [intOf]; omega
          · have hqp' : p < q := by omega
            obtain ⟨f, hf⟩ : ∃ f, fs[q]? = some f := ⟨_, List.getElem?_eq_getElem (by have := HZ.out; omega)⟩
            have hfl := HG.out.fl _ _ hf
            obtain ⟨b3, off3, a', c', rfl, hcr, hm1, hax⟩ := atS_rw (AtS.below HA.out (HB.out.trans (hbj.mono HB.out.size))) hf
            rw [hfl] at hcr hm1
            obtain ⟨b4, off4, rfl, hb4, hc4⟩ := hax.some (by omega)
            obtain ⟨y2, hy2⟩ : ∃ y2, y2 = f.getD p 0 := ⟨_, rfl⟩
            have hcq : wr.cell? ⟨b4, off4 + p, none⟩ = some (.int .i64 y2) := by rw [hy2]; exact hc4 p (by omega)
            have hco : wr.cell? ⟨b, off + j, none⟩ = some (.int .i64 (q : Nat)) := by
              have h9 := ((HB.out.trans (hbj.mono HB.out.size)).cell hb).trans (HCL.out j (by have := HL.out; omega))
              rw [h9]
              have : l.getD j 0 = (q : Int) := by simp [List.getD, ho]
              rw [this]
            have hfa : facA fs p q = y2 := by
              unfold facA
              rw [Int.max_eq_right (by omega), Int.min_eq_left (by omega), Int.toNat_natCast, Int.toNat_natCast, hy2]
              simp [List.getD, hf]
            have hst := dn_step (fs := fs) (i := k) (x := (p : Int)) ho
            rw [← hE, hfa] at hst
            have hin := dn_part HG.out HT.out HX.out (show j + 1 ≤ k by omega)
            rw [hst] at hin
            obtain ⟨E2, hE2⟩ : ∃ E2, E * y2 = E2 := ⟨_, rfl⟩
            rw [hE2] at hin hst
            have hw2 : IntKind.i64.wrap (E * y2) = E2 := by rw [hE2]; exact IntWalk.i64_in _ (by omega)
            have hji : (j : Int) < (k : Int) := by omega
            have r1 := cell_later hbj p1
            have HE := Hid.mk hst
            have HBJ := Hid.mk hbj
            have hmx : max (p : Int) (q : Int) = (q : Int) := Int.max_eq_right (by omega)
            have hmn : min (p : Int) (q : Int) = (p : Int) := Int.min_eq_left (by omega)
            clear hst hE hbj ho hf hfl hax hc4 hy2 hfa hE2 hin
            go_wp2
            go_roundw
            case rel => exact ⟨j + 1, E2, by omega, by go_num, rfl, HE.out.symm, HBJ.out⟩
            case measure => simp [intOf]; omega
        · obtain rfl : j = k := by omega
          have hji : ¬ (j : Int) < (j : Int) := by omega
          have HE : Hid (E = dnP fs (l.take (j + 1))) := by show _ = _; rw [dn_next HX.out]; exact hE
          have HBJ := Hid.mk hbj
          clear hE hbj
          go_wp2
          go_roundw
          case rel => exact ⟨j + 1, U2, E, by omega, by go_num, rfl, rfl, HU.out.symm, HE.out, HB.out.trans (HBJ.out.mono HB.out.size)⟩
          case measure => simp [intOf]; omega
    · obtain rfl : k = n := by omega
      have hki : ¬ (k : Int) < (k : Int) := by omega
      rw [List.take_of_length_le (by have := HL.out; omega)] at hU hD
      have hui := upP_in HG.out HT.out
      have hdi := dnP_in HG.out HT.out
      rw [← hU] at hui
      rw [← hD] at hdi
      have HV : Hid (szQ zs fs l = U / D) := by show _ = _; unfold szQ; rw [hU, hD]
      have hd0 : 1 ≤ D := hdi.1
      have hdne : ¬ D = 0 := by omega
      have hdb : (D == 0) = false := beq_eq_false_iff_ne.2 (by omega)
      have hq0 : 0 ≤ U / D := Int.ediv_nonneg (by omega) (by omega)
      have hq1 : U / D ≤ U := Int.ediv_le_self _ (by omega)
      have htd : U.tdiv D = U / D := Int.tdiv_eq_ediv_of_nonneg (by omega)
      have hwq : IntKind.i64.wrap (U.tdiv D) = U / D := by rw [htd]; exact IntWalk.i64_in _ (by omega)
      have HB := Hid.mk hbw
      clear hU hD hbw hdi
      go_wp2
      go_ret
      exact ⟨ret_int (by rw [HV.out]), B0.trans (HB.out.mono (by omega))⟩

end Go.Proofs.Yteggbamjfhbmfaa

/- Contracts of the model's l1Has, l7All, l7Put. -/
namespace Go.Proofs.Yteggbamjfhbmfaa
open Go.RowKit

set_option maxHeartbeats 1000000 in
theorem l1Has_any (a : Option Addr) (n c : Nat) (zs : List Int) (x : Int) (w : World) (hz : zs.length = n) (hn : n ≤ 9223372036854775807) (ha : At w a zs) :
    Calls Try.prog 46 #[.slice a n c, .int .i64 x] w fun e w' => e = .returned (.bool (decide (x ∈ zs))) ∧ w' = w := by
  by_cases h0 : n = 0
  · subst h0
    obtain rfl := List.eq_nil_of_length_eq_zero hz
    go_enter Try.func46, Try.ntmps46
    go_wp2
    refine wp_loop_rounds 1 ?_
    rw [rounds_succ]
    go_wp2
    go_ret
    exact ⟨rfl, rfl⟩
  · obtain ⟨b, off, rfl, hb, hc⟩ := ha.some (by omega)
    clear ha
    go_enter Try.func46, Try.ntmps46
    go_wp2
    go_loopw [9] (fun i wr => ∃ (k : Nat), k ≤ n ∧ i = .int .i64 k ∧ (¬ x ∈ zs.take k) ∧ wr = w) (fun i _ => n - (intOf i).toNat)
    case atStart => exact ⟨0, Nat.zero_le _, rfl, by simp, rfl⟩
    case round =>
      obtain ⟨k, hk, rfl, ht, rfl⟩ := hrel
      by_cases hlt : k < n
      · have hcx : wr.cell? ⟨b, off + k, none⟩ = some (.int .i64 (zs.getD k 0)) := hc k (by omega)
        have hm : zs.getD k 0 ∈ zs := by simp [List.getD, show k < zs.length by omega]
        have hnx : zs.getD k 0 ≠ x → ¬ x ∈ zs.take (k + 1) := fun h => by
          rw [take_succ_getD zs k (by omega)]
          simp only [List.mem_append, List.mem_singleton, not_or]
          exact ⟨ht, fun e => h e.symm⟩
        obtain ⟨y, hy⟩ : ∃ y, y = zs.getD k 0 := ⟨_, rfl⟩
        rw [← hy] at hcx hm hnx
        have HM := Hid.mk hm
        have HN := Hid.mk hnx
        clear hc hm hnx hy ht
        by_cases he : y = x
        · subst he
          go_wp2
          go_ret
          exact ⟨by rw [decide_eq_true HM.out]; rfl, rfl⟩
        · go_wp2
          go_roundw
          case rel => exact ⟨k + 1, by omega, by go_num, HN.out he, trivial⟩
          case measure => simp [intOf]; omega
      · rw [List.take_of_length_le (by omega)] at ht
        have HT := Hid.mk ht
        clear ht
        go_wp2
        go_ret
        exact ⟨by rw [decide_eq_false HT.out]; rfl, rfl⟩

set_option maxHeartbeats 1000000 in
theorem l7All_any (a : Option Addr) (n c : Nat) (zs : List Int) (a' : Option Addr) (n' c' : Nat) (ys : List Int) (w : World) (hz : zs.length = n) (hn : n ≤ 9223372036854775807) (ha : At w a zs) (hz' : ys.length = n') (hn' : n' ≤ 9223372036854775807) (ha' : At w a' ys) :
    Calls Try.prog 47 #[.slice a n c, .slice a' n' c'] w fun e w' => e = .returned (.bool (ys.all fun k => decide (k ∈ zs))) ∧ w' = w := by
  have HC := Hid.mk (fun x => l1Has_any a n c zs x w hz hn ha)
  clear hz hn ha
  by_cases h0 : n' = 0
  · subst h0
    obtain rfl := List.eq_nil_of_length_eq_zero hz'
    go_enter Try.func47, Try.ntmps47
    go_wp2
    refine wp_loop_rounds 1 ?_
    rw [rounds_succ]
    go_wp2
    go_ret
    exact ⟨rfl, rfl⟩
  · obtain ⟨b, off, rfl, hb, hc⟩ := ha'.some (by omega)
    clear ha'
    go_enter Try.func47, Try.ntmps47
    go_wp2
    go_loopw [9] (fun i wr => ∃ (k : Nat), k ≤ n' ∧ i = .int .i64 k ∧ (ys.all fun k => decide (k ∈ zs)) = ((ys.drop k).all fun k => decide (k ∈ zs)) ∧ wr = w) (fun i _ => n' - (intOf i).toNat)
    case atStart => exact ⟨0, Nat.zero_le _, rfl, rfl, rfl⟩
    case round =>
      obtain ⟨k, hk, rfl, ht, rfl⟩ := hrel
      by_cases hlt : k < n'
      · have hcx : wr.cell? ⟨b, off + k, none⟩ = some (.int .i64 (ys.getD k 0)) := hc k (by omega)
        have hd : ys.drop k = ys.getD k 0 :: ys.drop (k + 1) := by rw [List.drop_eq_getElem_cons (by omega)]; simp [List.getD, show k < ys.length by omega]
        rw [hd] at ht
        obtain ⟨y, hy⟩ : ∃ y, y = ys.getD k 0 := ⟨_, rfl⟩
        rw [← hy, List.all_cons] at ht
        rw [← hy] at hcx
        have HT := Hid.mk ht
        clear hc hy ht hd
        go_wp2_with fail
        refine (HC.out y).mono ?_
        rintro e w1 ⟨rfl, rfl⟩
        cases hr : decide (y ∈ zs) with
        | false =>
          go_wp2
          go_ret
          exact ⟨by rw [HT.out, hr]; rfl, rfl⟩
        | true =>
          go_wp2
          go_roundw
          case rel => exact ⟨k + 1, by omega, by go_num, by rw [HT.out, hr]; rfl, trivial⟩
          case measure => simp [intOf]; omega
      · rw [List.drop_of_length_le (by omega)] at ht
        have HT := Hid.mk ht
        clear ht
        go_wp2
        go_ret
        exact ⟨by rw [HT.out]; rfl, rfl⟩

end Go.Proofs.Yteggbamjfhbmfaa
