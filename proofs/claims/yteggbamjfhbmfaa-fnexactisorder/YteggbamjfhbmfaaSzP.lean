/- Plain: sizes of joins: products of sizes and of factors, in any order. -/
import Derived.Test.YteggbamjfhbmfaaGsP
namespace Go.Proofs.Yteggbamjfhbmfaa
open Go.RowKit

def prodL : List Int → Int
  | [] => 1
  | x :: l => x * prodL l
theorem prodL_app : ∀ a b : List Int, prodL (a ++ b) = prodL a * prodL b
  | [], b => by simp [prodL]
  | x :: a, b => by simp only [List.cons_append, prodL, prodL_app a b, Int.mul_assoc]
theorem prodL_perm {a b : List Int} (h : a.Perm b) : prodL a = prodL b := by
  induction h with
  | nil => rfl
  | cons x _ ih => simp only [prodL, ih]
  | swap x y l => simp only [prodL, Int.mul_left_comm]
  | trans _ _ h1 h2 => exact h1.trans h2
theorem prodL_in {m : Int} (hm : 1 ≤ m) : ∀ {l : List Int}, (∀ x ∈ l, 1 ≤ x ∧ x ≤ m) → 1 ≤ prodL l ∧ prodL l ≤ m ^ l.length
  | [], _ => by simp [prodL]
  | x :: l, h => by
    obtain ⟨h1, h2⟩ := prodL_in hm (l := l) fun y hy => h y (List.mem_cons_of_mem _ hy)
    obtain ⟨x1, x2⟩ := h x (List.mem_cons_self ..)
    refine ⟨?_, ?_⟩
    · have := Int.mul_le_mul x1 h1 (by omega) (by omega)
      simpa [prodL] using this
    · have := Int.mul_le_mul x2 h2 (by omega) (by omega)
      simp only [prodL, List.length_cons, Int.pow_succ]
      rw [Int.mul_comm (m ^ _)]; exact this
def sizA (zs : List Int) (x : Int) : Int := zs.getD x.toNat 0
def facA (fs : List (List Int)) (a b : Int) : Int := (fs.getD (max a b).toNat []).getD (min a b).toNat 0
theorem facA_comm (fs : List (List Int)) (a b : Int) : facA fs a b = facA fs b a := by unfold facA; rw [Int.max_comm, Int.min_comm]
def dnP (fs : List (List Int)) : List Int → Int
  | [] => 1
  | x :: l => prodL (l.map (facA fs x)) * dnP fs l
theorem dnP_snoc (fs : List (List Int)) (x : Int) : ∀ l : List Int, dnP fs (l ++ [x]) = dnP fs l * prodL (l.map (facA fs x))
  | [] => by simp [dnP, prodL]
  | y :: l => by
    have ih := dnP_snoc fs x l
    simp only [List.cons_append, dnP, ih, List.map_append, List.map_cons, List.map_nil, prodL_app, prodL, Int.mul_one]
    rw [facA_comm fs y x]
    simp only [Int.mul_assoc, Int.mul_comm, Int.mul_left_comm]
theorem dnP_perm (fs : List (List Int)) {a b : List Int} (h : a.Perm b) : dnP fs a = dnP fs b := by
  induction h with
  | nil => rfl
  | cons x h ih => simp only [dnP, ih, prodL_perm (h.map (facA fs x))]
  | swap x y l =>
    simp only [dnP, List.map_cons, prodL]
    rw [facA_comm fs x y]
    simp only [Int.mul_assoc, Int.mul_comm, Int.mul_left_comm]
  | trans _ _ h1 h2 => exact h1.trans h2
def upP (zs l : List Int) : Int := prodL (l.map (sizA zs))
/-- What a join of some tables tells. -/
def szQ (zs : List Int) (fs : List (List Int)) (l : List Int) : Int := upP zs l / dnP fs l
theorem szQ_perm (zs : List Int) (fs : List (List Int)) {a b : List Int} (h : a.Perm b) : szQ zs fs a = szQ zs fs b := by
  unfold szQ upP
  rw [dnP_perm fs h, prodL_perm (h.map (sizA zs))]
/-- What is known of good statistics. -/
structure GsF (zs : List Int) (fs : List (List Int)) : Prop where
  n1 : 1 ≤ zs.length
  n6 : zs.length ≤ 6
  nf : fs.length = zs.length
  sz : ∀ k, k < zs.length → 1 ≤ zs.getD k 0 ∧ zs.getD k 0 ≤ 50
  fl : ∀ (k : Nat) (f : List Int), fs[k]? = some f → f.length = k
  fc : ∀ k j, k < zs.length → j < k → 1 ≤ (fs.getD k []).getD j 0 ∧ (fs.getD k []).getD j 0 ≤ 10
theorem wiB_all {m : Int} {l : List Int} (h : wiB m l = true) {k : Nat} (hk : k < l.length) : 1 ≤ l.getD k 0 ∧ l.getD k 0 ≤ m := by
  unfold wiB at h
  have h1 := List.all_eq_true.1 h l[k] (List.getElem_mem hk)
  have e : l.getD k 0 = l[k] := by simp [List.getD, hk]
  rw [e]
  simpa [inB] using h1
theorem facB_all : ∀ (fs : List (List Int)) (k : Nat), facB k fs = true → ∀ (j : Nat) (f : List Int), fs[j]? = some f → f.length = k + j ∧ wiB 10 f = true
  | [], _, _, _, _, h => by simp at h
  | g :: r, k, h, j, f, hj => by
    simp only [facB, Bool.and_eq_true, decide_eq_true_eq] at h
    cases j with
    | zero =>
      obtain rfl : g = f := by simpa using hj
      exact ⟨h.1.1, h.1.2⟩
    | succ j =>
      have := facB_all r (k + 1) h.2 j f (by simpa using hj)
      exact ⟨by omega, this.2⟩
theorem gsF {zs : List Int} {fs : List (List Int)} (h : gsB zs fs = true) : GsF zs fs := by
  simp only [gsB, Bool.and_eq_true, decide_eq_true_eq] at h
  obtain ⟨⟨⟨h1, h2⟩, h3⟩, h4, h5⟩ := h
  have hf := facB_all fs 0 h4
  refine ⟨h1, h2, h3, fun k hk => wiB_all h5 hk, fun k f hk => by have := (hf k f hk).1; omega, fun k j hk hj => ?_⟩
  obtain ⟨f, hfk⟩ : ∃ f, fs[k]? = some f := ⟨_, List.getElem?_eq_getElem (by omega)⟩
  have e : fs.getD k [] = f := by simp [List.getD, hfk]
  obtain ⟨g1, g2⟩ := hf k f hfk
  rw [e]
  exact wiB_all g2 (by omega)
/-- Numbers of tables, each once. -/
structure TbL (n : Nat) (l : List Int) : Prop where
  nd : l.Nodup
  lt : ∀ x ∈ l, 0 ≤ x ∧ x < (n : Int)
theorem TbL.len {n : Nat} {l : List Int} (h : TbL n l) : l.length ≤ n := by
  have h1 : (l.map Int.toNat).Nodup := by
    refine List.Pairwise.map _ ?_ (List.Pairwise.and_mem.1 h.nd)
    rintro a b ⟨ha, hb, hab⟩ e
    have := h.lt a ha
    have := h.lt b hb
    exact hab (by omega)
  have h2 := List.Nodup.length_le_of_subset h1 (l₂ := List.range n) (fun x hx => by
    obtain ⟨y, hy, rfl⟩ := List.mem_map.1 hx
    have := h.lt y hy
    simp; omega)
  simpa using h2
theorem TbL.take {n : Nat} {l : List Int} (h : TbL n l) (k : Nat) : TbL n (l.take k) := ⟨h.nd.sublist (List.take_sublist ..), fun x hx => h.lt x (List.mem_of_mem_take hx)⟩
def tri : Nat → Nat
  | 0 => 0
  | k + 1 => tri k + k
theorem sizA_in {zs : List Int} {fs : List (List Int)} (h : GsF zs fs) {x : Int} (hx : 0 ≤ x ∧ x < (zs.length : Int)) : 1 ≤ sizA zs x ∧ sizA zs x ≤ 50 := h.sz _ (by omega)
theorem facA_in {zs : List Int} {fs : List (List Int)} (h : GsF zs fs) {x y : Int} (hx : 0 ≤ x ∧ x < (zs.length : Int)) (hy : 0 ≤ y ∧ y < (zs.length : Int)) (hn : x ≠ y) : 1 ≤ facA fs x y ∧ facA fs x y ≤ 10 :=
  h.fc _ _ (by omega) (by omega)
theorem upP_in {zs : List Int} {fs : List (List Int)} (h : GsF zs fs) {l : List Int} (hl : TbL zs.length l) : 1 ≤ upP zs l ∧ upP zs l ≤ 15625000000 := by
  obtain ⟨h1, h2⟩ := prodL_in (m := 50) (by omega) (l := l.map (sizA zs)) (fun y hy => by obtain ⟨x, hx, rfl⟩ := List.mem_map.1 hy; exact sizA_in h (hl.lt x hx))
  refine ⟨h1, Int.le_trans h2 ?_⟩
  have h3 : l.length ≤ 6 := Nat.le_trans hl.len h.n6
  rw [List.length_map]
  have : ∀ k, k ≤ 6 → (50 : Int) ^ k ≤ 15625000000 := by decide
  exact this _ h3
theorem fac_in {zs : List Int} {fs : List (List Int)} (h : GsF zs fs) {x : Int} (hx : 0 ≤ x ∧ x < (zs.length : Int)) {l : List Int} (hl : TbL zs.length l) (hn : x ∉ l) : 1 ≤ prodL (l.map (facA fs x)) ∧ prodL (l.map (facA fs x)) ≤ 10 ^ l.length := by
  have := prodL_in (m := 10) (by omega) (l := l.map (facA fs x)) (fun y hy => by obtain ⟨z, hz, rfl⟩ := List.mem_map.1 hy; exact facA_in h hx (hl.lt z hz) (fun e => hn (e ▸ hz)))
  simpa using this
theorem dnP_in {zs : List Int} {fs : List (List Int)} (h : GsF zs fs) : ∀ {l : List Int}, TbL zs.length l → 1 ≤ dnP fs l ∧ dnP fs l ≤ 10 ^ tri l.length
  | [], _ => by simp [dnP, tri]
  | x :: l, hl => by
    have hl' : TbL zs.length l := ⟨(List.nodup_cons.1 hl.nd).2, fun y hy => hl.lt y (List.mem_cons_of_mem _ hy)⟩
    obtain ⟨h1, h2⟩ := dnP_in h hl'
    obtain ⟨k1, k2⟩ := fac_in h (hl.lt x (List.mem_cons_self ..)) hl' (List.nodup_cons.1 hl.nd).1
    refine ⟨?_, ?_⟩
    · have := Int.mul_le_mul k1 h1 (by omega) (by omega)
      simpa [dnP] using this
    · have := Int.mul_le_mul k2 h2 (by omega) (by omega)
      simp only [dnP, List.length_cons, tri, Int.pow_add]
      rw [Int.mul_comm (10 ^ tri _)]; exact this
/-- What the inner loop holds: the factors so far. -/
theorem dn_part {zs : List Int} {fs : List (List Int)} (h : GsF zs fs) {l : List Int} (hl : TbL zs.length l) {i j : Nat} {x : Int} (hi : l[i]? = some x) (hj : j ≤ i) :
    1 ≤ dnP fs (l.take i) * prodL ((l.take j).map (facA fs x)) ∧ dnP fs (l.take i) * prodL ((l.take j).map (facA fs x)) ≤ 1000000000000000 := by
  obtain ⟨hil, rfl⟩ := List.getElem?_eq_some_iff.1 hi
  have h6 := Nat.le_trans hl.len h.n6
  obtain ⟨h1, h2⟩ := dnP_in h (hl.take i)
  have hm : l[i] ∉ l.take j := by
    intro hm
    obtain ⟨k, hk, e⟩ := List.mem_take_iff_getElem.1 hm
    have := (List.getElem_inj hl.nd).1 e
    omega
  obtain ⟨k1, k2⟩ := fac_in h (hl.lt _ (List.getElem_mem hil)) (hl.take j) hm
  rw [List.length_take, Nat.min_eq_left (by omega)] at h2 k2
  refine ⟨?_, ?_⟩
  · have := Int.mul_le_mul h1 k1 (by omega) (by omega)
    simpa using this
  · have h3 := Int.mul_le_mul h2 k2 (by omega) (by omega)
    rw [← Int.pow_add] at h3
    refine Int.le_trans h3 ?_
    have : ∀ i, i < 6 → ∀ j, j ≤ i → (10 : Int) ^ (tri i + j) ≤ 1000000000000000 := by decide
    exact this i (by omega) j hj
theorem dn_step {fs : List (List Int)} {l : List Int} {i j : Nat} {x y : Int} (hj : l[j]? = some y) : dnP fs (l.take i) * prodL ((l.take (j + 1)).map (facA fs x)) = dnP fs (l.take i) * prodL ((l.take j).map (facA fs x)) * facA fs x y := by
  obtain ⟨hk, rfl⟩ := List.getElem?_eq_some_iff.1 hj
  rw [List.take_succ_eq_append_getElem hk, List.map_append, prodL_app]
  simp [prodL, Int.mul_assoc]
theorem dn_next {fs : List (List Int)} {l : List Int} {i : Nat} {x : Int} (hi : l[i]? = some x) : dnP fs (l.take (i + 1)) = dnP fs (l.take i) * prodL ((l.take i).map (facA fs x)) := by
  obtain ⟨hk, rfl⟩ := List.getElem?_eq_some_iff.1 hi
  rw [List.take_succ_eq_append_getElem hk, dnP_snoc]
theorem up_next {zs : List Int} {l : List Int} {i : Nat} {x : Int} (hi : l[i]? = some x) : upP zs (l.take (i + 1)) = upP zs (l.take i) * sizA zs x := by
  obtain ⟨hk, rfl⟩ := List.getElem?_eq_some_iff.1 hi
  unfold upP
  rw [List.take_succ_eq_append_getElem hk, List.map_append, prodL_app]
  simp [prodL]

end Go.Proofs.Yteggbamjfhbmfaa
