/- Several texts of one proof, in build order: RepP, CloI, InsP, GsP, SzP, OrP, SwP. -/
import Derived.Test.YtociphdhkjoofaaDoorM1
import Derived.Test.YtociphdhkjoofaaDoorM5
import Derived.Deep.AppendLies
import Derived.Deep.LoopGhost
import Derived.WalkMore
import Derived.Test.YtociphdhkjoofaaDoorM0
import Derived.Test.YtociphdhkjoofaaDoorM4

/- One more thing at a slice's end. -/
namespace Go.Proofs.YtociphdhkjoofaaDoor
open Go.RowKit

section
variable {α : Type} {A : Rep α} {w w2 w4 : World} {F H F' : Nat → Prop} {e : TypeId} {a a' : Option Addr} {n c c' : Nat} {xs : List α} {cells vs : List Value} {G : Nat → Nat → Prop} {x : α}

theorem sub_append_left {cells vs : List Value} {o k : Nat} (h : o + k ≤ cells.length) : sub (cells ++ vs) o k = sub cells o k := by
  unfold sub
  rw [List.drop_append_of_le_length (by omega), List.take_append_of_le_length (by simp; omega)]
theorem sub_append_right {cells vs : List Value} {k : Nat} (h : vs.length = k) : sub (cells ++ vs) cells.length k = vs := by
  unfold sub
  rw [List.drop_left, ← h, List.take_length]

/-- Behind 'append(l, x)': the slice lies in its old block, or in a new one. -/
theorem Laid.push (h : Laid A w F e a n c xs cells G n) (hF : ∀ b, F b → b < w.heap.size) (hb : Below w.heap.size w w2) (ho : A.Own w2 H vs x) (hH : ∀ b, H b → w.heap.size ≤ b ∧ b < w2.heap.size)
    (hg : ∀ b, b < w2.heap.size → (Value.slice a n c).ownBlock ≠ some b → w4.heap[b]? = w2.heap[b]?) (hown : w4.ownsRow 0 e A.k (.slice a' (n + 1) c') (n + 1) (cells ++ vs))
    (hat : (Value.slice a' (n + 1) c').ownBlock = (Value.slice a n c).ownBlock ∨ ∀ b, (Value.slice a' (n + 1) c').ownBlock = some b → w2.heap.size ≤ b) (hbig : n + 1 ≤ 9223372036854775807)
    (hF1 : ∀ b, F b → F' b) (hF2 : ∀ b, H b → F' b) (hF3 : ∀ b, (Value.slice a' (n + 1) c').ownBlock = some b → F' b) :
    Laid A w4 F' e a' (n + 1) c' (xs ++ [x]) (cells ++ vs) (fun i => if i = n then H else G i) (n + 1) := by
  have hl := A.ownLen ho
  have hcl : cells.length = n * A.k := h.outer.1
  have hz := hb.size
  have hB : ∀ i b, i < n → G i b → b < w.heap.size ∧ (Value.slice a n c).ownBlock ≠ some b := fun i b hi hg' => ⟨hF b (h.rowF i b hi hg').1, (h.rowF i b hi hg').2⟩
  have hO : ∀ b, (Value.slice a n c).ownBlock = some b → b < w.heap.size := fun b hb' => hF b (h.outerF b hb')
  refine ⟨by simp [h.len], hbig, hown, hF3, fun i y hi hy => ?_, fun i b hi hb' => ?_, fun i j b hi hj hij hb' => ?_⟩
  · by_cases ei : i = n
    · subst ei
      simp only [if_true]
      obtain rfl : x = y := by
        rw [List.getElem?_append_right (by rw [h.len]; exact Nat.le_refl _)] at hy
        simpa [h.len] using hy
      have := sub_append_right (cells := cells) hl
      rw [hcl] at this
      rw [this]
      exact A.frame ho (fun b hb' _ => hg b (hH b hb').2 (fun e' => by have := hO b e'; have := (hH b hb').1; omega))
    · simp only [if_neg ei]
      have hi' : i < n := by omega
      rw [List.getElem?_append_left (by rw [h.len]; exact hi')] at hy
      rw [sub_append_left (by rw [hcl]; exact at_mul hi')]
      exact A.frame (A.ownBelow (h.row i y hi' hy) hb) (fun b hb' _ => hg b (by have := (hB i b hi' hb').1; omega) (hB i b hi' hb').2)
  · by_cases ei : i = n
    · subst ei
      simp only [if_true] at hb'
      refine ⟨hF2 b hb', fun e' => ?_⟩
      have h1 := hH b hb'
      rcases hat with h2 | h2
      · rw [h2] at e'
        have := hO b e'
        omega
      · have := h2 b e'
        omega
    · simp only [if_neg ei] at hb'
      have h1 := hB i b (by omega) hb'
      refine ⟨hF1 b (h.rowF i b (by omega) hb').1, fun e' => ?_⟩
      rcases hat with h2 | h2
      · rw [h2] at e'; exact h1.2 e'
      · have := h2 b e'
        omega
  · by_cases ei : i = n
    · subst ei
      simp only [if_true] at hb'
      simp only [if_neg (Ne.symm hij)]
      intro e'
      have := (hB j b (by omega) e').1
      have := (hH b hb').1
      omega
    · simp only [if_neg ei] at hb'
      by_cases ej : j = n
      · simp only [if_pos ej]
        intro e'
        have := (hB i b (by omega) hb').1
        have := (hH b e').1
        omega
      · simp only [if_neg ej]
        exact h.apart i j b (by omega) (by omega) hij hb'

/-- A slice of nothing. -/
theorem Laid.none (A : Rep α) (w : World) (F : Nat → Prop) (e : TypeId) : Laid A w F e none 0 0 [] [] (fun _ _ => False) 0 :=
  ⟨rfl, by omega, World.ownsRow_nil _ _ _ _, fun b hb => (by cases hb), fun i x h => by omega, fun i b h => by omega, fun i j b h => by omega⟩
end

end Go.Proofs.YtociphdhkjoofaaDoor

/- Contracts of columnSet.has, setOf, tellingOf, tellingsOf, closure, implied. -/
namespace Go.Proofs.YtociphdhkjoofaaDoor
open Go.RowKit

theorem wrap64_small {n : Nat} (h : n < 18446744073709551616) : IntKind.u64.wrap (n : Int) = (n : Int) := by
  simp only [IntKind.wrap, IntKind.bits, IntKind.signed]
  have h1 : (n : Int) % 18446744073709551616 = n := Int.emod_eq_of_lt (by omega) (by omega)
  simpa using h1
theorem two_pow_lt {x : Nat} (h : x < 6) : 2 ^ x < 64 := by
  have : 2 ^ x ≤ 2 ^ 5 := Nat.pow_le_pow_right (by omega) (by omega)
  omega
theorem wrap_pow {x : Int} (h0 : 0 ≤ x) (h1 : x < 6) : IntKind.u64.wrap (2 ^ x.toNat) = ((2 ^ x.toNat : Nat) : Int) := by
  have h2 := two_pow_lt (x := x.toNat) (by omega)
  have := wrap64_small (n := 2 ^ x.toNat) (by omega)
  rw [← this]
  congr 1
theorem or_pow {S : Nat} {x : Int} (hS : S < 64) (h0 : 0 ≤ x) (h1 : x < 6) : bits .or .u64 (S : Int) (IntKind.u64.wrap (2 ^ x.toNat)) = ((S ||| 2 ^ x.toNat : Nat) : Int) := by
  have h2 := two_pow_lt (x := x.toNat) (by omega)
  rw [wrap_pow h0 h1]
  exact u64_or_nat S (2 ^ x.toNat) (by omega) (by omega)
theorem mk_take {zs : List Int} {k : Nat} (h : k < zs.length) : mk (zs.take (k + 1)) = mk (zs.take k) ||| 2 ^ (zs.getD k 0).toNat := by
  rw [List.take_succ_eq_append_getElem h]
  unfold mk
  rw [List.foldl_append]
  simp [List.getD, h]
theorem mk_lt6 {zs : List Int} (h : ∀ x ∈ zs, 0 ≤ x ∧ x < 6) : mk zs < 64 := by
  refine Nat.lt_pow_two_of_testBit (n := 6) _ fun i hi => ?_
  cases hb : (mk zs).testBit i with
  | false => rfl
  | true =>
    have := (h _ ((mk_bit zs (fun x hx => (h x hx).1) i).1 hb)).2
    omega
theorem ris_in {c : Int} {l : List Int} (hc : c ≤ 6) (h : ris c l = true) : ∀ x ∈ l, 0 ≤ x ∧ x < 6 := fun x hx => by have := (risB_mem h).2 x hx; omega

/-- A number without a sign. -/
def Rep.u64 : Rep Nat where
  k := 1
  At _ cs z := cs = [.int .u64 (z : Int)]
  Own _ _ cs z := cs = [.int .u64 (z : Int)]
  len h := by rw [h]; rfl
  below h _ := h
  toAt h := h
  mono h _ := h
  frame h _ := h
  tight h := h
abbrev RTell : Rep (Nat × Nat) := Rep.pair Rep.u64 Rep.u64
abbrev AtT (w : World) (a : Option Addr) (xs : List (Nat × Nat)) : Prop := AtSl RTell w a xs
theorem AtT.row {w : World} {a : Option Addr} {xs : List (Nat × Nat)} (h : AtT w a xs) (hp : 0 < xs.length) : ∃ b off, a = some ⟨b, off, none⟩ ∧ b < w.heap.size ∧ ∀ (i : Nat) (x : Nat × Nat), xs[i]? = some x →
    w.cell? ⟨b, off + i * 2, none⟩ = some (.int .u64 (x.1 : Nat)) ∧ w.cell? ⟨b, off + i * 2 + 1, none⟩ = some (.int .u64 (x.2 : Nat)) := by
  obtain ⟨b, off, rfl, hc⟩ := AtSl.each h hp
  have row : ∀ (i : Nat) (x : Nat × Nat), xs[i]? = some x → w.cell? ⟨b, off + i * 2, none⟩ = some (.int .u64 (x.1 : Nat)) ∧ w.cell? ⟨b, off + i * 2 + 1, none⟩ = some (.int .u64 (x.2 : Nat)) := by
    intro i x hx
    obtain ⟨cs, h1, c1, c2, rfl, e1, e2⟩ := hc i x hx
    obtain rfl : c1 = _ := e1
    obtain rfl : c2 = _ := e2
    exact ⟨h1 0 _ rfl, h1 1 _ rfl⟩
  exact ⟨b, off, rfl, World.block_lt_of_cell? _ _ (row 0 xs[0] (List.getElem?_eq_getElem hp)).1, row⟩

/-- The sets that are laid are small. -/
def Sets (l : List (Nat × Nat)) : Prop := ∀ d ∈ l, d.1 < 64 ∧ d.2 < 64

end Go.Proofs.YtociphdhkjoofaaDoor

/- Plain: a number put to its place in a rising list, as sets of columns tell it. -/
namespace Go.Proofs.YtociphdhkjoofaaDoor
open Go.RowKit

/-- A number put to its place, once: ahead of the first that is not less. -/
def lessN (n : Int) : List Int → Nat
  | [] => 0
  | z :: zs => if z < n then lessN n zs + 1 else 0
def insI (l : List Int) (n : Int) : List Int := if n ∈ l then l else l.take (lessN n l) ++ n :: l.drop (lessN n l)
theorem lessN_le (n : Int) : ∀ l, lessN n l ≤ l.length
  | [] => Nat.le_refl _
  | z :: zs => by unfold lessN; split; have := lessN_le n zs; simp; omega; simp
theorem lessN_is (n : Int) : ∀ (l : List Int) (k : Nat), k ≤ l.length → (∀ j, j < k → l.getD j 0 < n) → (k < l.length → ¬ l.getD k 0 < n) → lessN n l = k
  | [], k, h, _, _ => by simp at h; simp [lessN, h]
  | z :: zs, 0, _, _, h => by have := h (by simp); simp at this; unfold lessN; rw [if_neg (by omega)]
  | z :: zs, k + 1, h1, h2, h3 => by
    have h0 := h2 0 (by omega)
    simp at h0
    unfold lessN
    rw [if_pos h0, lessN_is n zs k (by simpa using h1) (fun j hj => by simpa using h2 (j + 1) (by omega)) (fun hk => by simpa using h3 (by simpa using hk))]
theorem insI_yes {l : List Int} {n : Int} (h : n ∈ l) : insI l n = l := if_pos h
theorem insI_no {l : List Int} {n : Int} (h : ¬ n ∈ l) : insI l n = l.take (lessN n l) ++ n :: l.drop (lessN n l) := if_neg h
theorem insI_bl_all : ∀ s : Nat, s < 64 → ∀ n : Nat, n < 6 → insI (bl s) (n : Int) = bl (s ||| 2 ^ n) := by decide +kernel
theorem insI_bl {s : Nat} {n : Int} (hs : s < 64) (h0 : 0 ≤ n) (h1 : n < 6) : insI (bl s) n = bl (s ||| 2 ^ n.toNat) := by
  have := insI_bl_all s hs n.toNat (by omega)
  rw [Int.toNat_of_nonneg h0] at this
  exact this
theorem len_bl_all : ∀ s : Nat, s < 64 → ∀ t : Nat, t < 64 → sb s t = true → (bl t).length = (bl s).length → t = s := by decide +kernel
theorem all_bl {D T : Nat} (hD : D < 64) : (bl D).all (fun k => decide (k ∈ bl T)) = sb D T := by
  cases h : sb D T with
  | true =>
    rw [List.all_eq_true]
    intro k hk
    obtain ⟨i, h1, h2, rfl⟩ := mem_bl.1 hk
    exact decide_eq_true (mem_bl.2 ⟨i, h1, sb_bit h i h2, rfl⟩)
  | false =>
    rw [← Bool.not_eq_true]
    intro h'
    rw [List.all_eq_true] at h'
    have : sb D T = true := sb_of_bits fun i hi => by
      have hi6 : i < 6 := by
        by_cases h6 : i < 6
        · exact h6
        · rw [Nat.testBit_lt_two_pow (Nat.lt_of_lt_of_le hD (by have : 2 ^ 6 ≤ 2 ^ i := Nat.pow_le_pow_right (by omega) (by omega); omega))] at hi; cases hi
      have h9 := of_decide_eq_true (h' (i : Int) (mem_bl.2 ⟨i, hi6, hi, rfl⟩))
      obtain ⟨j, _, h4, h5⟩ := mem_bl.1 h9
      obtain rfl : i = j := by omega
      exact h4
    rw [h] at this; cases this
/-- Putting all of a list, one by one. -/
theorem mk_or (l : List Int) (s : Nat) : l.foldl (fun s k => s ||| 2 ^ k.toNat) s = s ||| mk l := by
  apply Nat.eq_of_testBit_eq
  have key : ∀ (l : List Int) (s i : Nat), (l.foldl (fun s k => s ||| 2 ^ k.toNat) s).testBit i = (s.testBit i || (l.foldl (fun (s : Nat) (k : Int) => s ||| 2 ^ k.toNat) 0).testBit i) := by
    intro l
    induction l with
    | nil => intro s i; simp
    | cons x l ih => intro s i; rw [List.foldl_cons, List.foldl_cons, ih, ih (0 ||| _), Nat.testBit_or, Nat.testBit_or]; simp [Bool.or_assoc]
  intro i
  rw [key, Nat.testBit_or]
  rfl

end Go.Proofs.YtociphdhkjoofaaDoor

/- Plain: statistics that are good. -/
namespace Go.Proofs.YtociphdhkjoofaaDoor
open Go.RowKit

def inB (m x : Int) : Bool := decide (1 ≤ x) && decide (x ≤ m)
def wiB (m : Int) (l : List Int) : Bool := l.all (inB m)
theorem wiB_step {m : Int} {zs : List Int} {k : Nat} (h : k < zs.length) : wiB m (zs.drop k) = (inB m (zs.getD k 0) && wiB m (zs.drop (k + 1))) := by
  rw [List.drop_eq_getElem_cons h]
  have e : zs.getD k 0 = zs[k] := by simp [List.getD, h]
  rw [e]; rfl
theorem wiB_done {m : Int} {zs : List Int} {n : Nat} (h : zs.length = n) : wiB m (zs.drop n) = true := by
  rw [List.drop_of_length_le (by omega)]; rfl
/-- Factors from the kth list on: each has as many numbers as lists stand ahead of it. -/
def facB : Nat → List (List Int) → Bool
  | _, [] => true
  | k, f :: r => (decide (f.length = k) && wiB 10 f) && facB (k + 1) r
theorem facB_step {fs : List (List Int)} {k : Nat} {f : List Int} (h : fs[k]? = some f) : facB k (fs.drop k) = ((decide (f.length = k) && wiB 10 f) && facB (k + 1) (fs.drop (k + 1))) := by
  obtain ⟨hk, rfl⟩ := List.getElem?_eq_some_iff.1 h
  rw [List.drop_eq_getElem_cons hk]; rfl
theorem facB_done {fs : List (List Int)} {n : Nat} (h : fs.length = n) : facB n (fs.drop n) = true := by
  rw [List.drop_of_length_le (by omega)]; rfl
/-- Statistics that are good. -/
def gsB (zs : List Int) (fs : List (List Int)) : Bool := ((decide (1 ≤ zs.length) && decide (zs.length ≤ 6)) && decide (fs.length = zs.length)) && (facB 0 fs && wiB 50 zs)
theorem atS_rw {w : World} {a : Option Addr} {zss : List (List Int)} (h : AtS w a zss) {k : Nat} {zs : List Int} (hk : zss[k]? = some zs) :
    ∃ b off a' c', a = some ⟨b, off, none⟩ ∧ w.cell? ⟨b, off + k, none⟩ = some (.slice a' zs.length c') ∧ zs.length ≤ 9223372036854775807 ∧ At w a' zs := by
  obtain ⟨hl, rfl⟩ := List.getElem?_eq_some_iff.1 hk
  rcases h with h | ⟨b, off, rfl, hc⟩
  · rw [h] at hl; simp at hl
  · obtain ⟨a', c', h1, h2, h3⟩ := hc k hl
    have e : zss.getD k [] = zss[k] := by simp [List.getD, hl]
    rw [e] at h1 h2 h3
    exact ⟨b, off, a', c', rfl, h1, h2, h3⟩

end Go.Proofs.YtociphdhkjoofaaDoor

/- Plain: sizes of joins: products of sizes and of factors, in any order. -/
namespace Go.Proofs.YtociphdhkjoofaaDoor
open Go.RowKit

def prodL : List Int → Int
  | [] => 1
  | x :: l => x * prodL l
theorem prodL_app : ∀ a b : List Int, prodL (a ++ b) = prodL a * prodL b
  | [], b => by simp [prodL]
  | x :: a, b => by simp only [List.cons_append, prodL, prodL_app a b, Int.mul_assoc]
theorem prodL_perm {a b : List Int} (h : a.Perm b) : prodL a = prodL b := by
  induction h with
  | nil => rfl
  | cons x _ ih => simp only [prodL, ih]
  | swap x y l => simp only [prodL, Int.mul_left_comm]
  | trans _ _ h1 h2 => exact h1.trans h2
theorem prodL_in {m : Int} (hm : 1 ≤ m) : ∀ {l : List Int}, (∀ x ∈ l, 1 ≤ x ∧ x ≤ m) → 1 ≤ prodL l ∧ prodL l ≤ m ^ l.length
  | [], _ => by simp [prodL]
  | x :: l, h => by
    obtain ⟨h1, h2⟩ := prodL_in hm (l := l) fun y hy => h y (List.mem_cons_of_mem _ hy)
    obtain ⟨x1, x2⟩ := h x (List.mem_cons_self ..)
    refine ⟨?_, ?_⟩
    · have := Int.mul_le_mul x1 h1 (by omega) (by omega)
      simpa [prodL] using this
    · have := Int.mul_le_mul x2 h2 (by omega) (by omega)
      simp only [prodL, List.length_cons, Int.pow_succ]
      rw [Int.mul_comm (m ^ _)]; exact this
def sizA (zs : List Int) (x : Int) : Int := zs.getD x.toNat 0
def facA (fs : List (List Int)) (a b : Int) : Int := (fs.getD (max a b).toNat []).getD (min a b).toNat 0
theorem facA_comm (fs : List (List Int)) (a b : Int) : facA fs a b = facA fs b a := by unfold facA; rw [Int.max_comm, Int.min_comm]
def dnP (fs : List (List Int)) : List Int → Int
  | [] => 1
  | x :: l => prodL (l.map (facA fs x)) * dnP fs l
theorem dnP_snoc (fs : List (List Int)) (x : Int) : ∀ l : List Int, dnP fs (l ++ [x]) = dnP fs l * prodL (l.map (facA fs x))
  | [] => by simp [dnP, prodL]
  | y :: l => by
    have ih := dnP_snoc fs x l
    simp only [List.cons_append, dnP, ih, List.map_append, List.map_cons, List.map_nil, prodL_app, prodL, Int.mul_one]
    rw [facA_comm fs y x]
    simp only [Int.mul_assoc, Int.mul_comm, Int.mul_left_comm]
theorem dnP_perm (fs : List (List Int)) {a b : List Int} (h : a.Perm b) : dnP fs a = dnP fs b := by
  induction h with
  | nil => rfl
  | cons x h ih => simp only [dnP, ih, prodL_perm (h.map (facA fs x))]
  | swap x y l =>
    simp only [dnP, List.map_cons, prodL]
    rw [facA_comm fs x y]
    simp only [Int.mul_assoc, Int.mul_comm, Int.mul_left_comm]
  | trans _ _ h1 h2 => exact h1.trans h2
def upP (zs l : List Int) : Int := prodL (l.map (sizA zs))
/-- What a join of some tables tells. -/
def szQ (zs : List Int) (fs : List (List Int)) (l : List Int) : Int := upP zs l / dnP fs l
theorem szQ_perm (zs : List Int) (fs : List (List Int)) {a b : List Int} (h : a.Perm b) : szQ zs fs a = szQ zs fs b := by
  unfold szQ upP
  rw [dnP_perm fs h, prodL_perm (h.map (sizA zs))]
/-- What is known of good statistics. -/
structure GsF (zs : List Int) (fs : List (List Int)) : Prop where
  n1 : 1 ≤ zs.length
  n6 : zs.length ≤ 6
  nf : fs.length = zs.length
  sz : ∀ k, k < zs.length → 1 ≤ zs.getD k 0 ∧ zs.getD k 0 ≤ 50
  fl : ∀ (k : Nat) (f : List Int), fs[k]? = some f → f.length = k
  fc : ∀ k j, k < zs.length → j < k → 1 ≤ (fs.getD k []).getD j 0 ∧ (fs.getD k []).getD j 0 ≤ 10
theorem wiB_all {m : Int} {l : List Int} (h : wiB m l = true) {k : Nat} (hk : k < l.length) : 1 ≤ l.getD k 0 ∧ l.getD k 0 ≤ m := by
  unfold wiB at h
  have h1 := List.all_eq_true.1 h l[k] (List.getElem_mem hk)
  have e : l.getD k 0 = l[k] := by simp [List.getD, hk]
  rw [e]
  simpa [inB] using h1
theorem facB_all : ∀ (fs : List (List Int)) (k : Nat), facB k fs = true → ∀ (j : Nat) (f : List Int), fs[j]? = some f → f.length = k + j ∧ wiB 10 f = true
  | [], _, _, _, _, h => by simp at h
  | g :: r, k, h, j, f, hj => by
    simp only [facB, Bool.and_eq_true, decide_eq_true_eq] at h
    cases j with
    | zero =>
      obtain rfl : g = f := by simpa using hj
      exact ⟨h.1.1, h.1.2⟩
    | succ j =>
      have := facB_all r (k + 1) h.2 j f (by simpa using hj)
      exact ⟨by omega, this.2⟩
theorem gsF {zs : List Int} {fs : List (List Int)} (h : gsB zs fs = true) : GsF zs fs := by
  simp only [gsB, Bool.and_eq_true, decide_eq_true_eq] at h
  obtain ⟨⟨⟨h1, h2⟩, h3⟩, h4, h5⟩ := h
  have hf := facB_all fs 0 h4
  refine ⟨h1, h2, h3, fun k hk => wiB_all h5 hk, fun k f hk => by have := (hf k f hk).1; omega, fun k j hk hj => ?_⟩
  obtain ⟨f, hfk⟩ : ∃ f, fs[k]? = some f := ⟨_, List.getElem?_eq_getElem (by omega)⟩
  have e : fs.getD k [] = f := by simp [List.getD, hfk]
  obtain ⟨g1, g2⟩ := hf k f hfk
  rw [e]
  exact wiB_all g2 (by omega)
/-- Numbers of tables, each once. -/
structure TbL (n : Nat) (l : List Int) : Prop where
  nd : l.Nodup
  lt : ∀ x ∈ l, 0 ≤ x ∧ x < (n : Int)
theorem TbL.len {n : Nat} {l : List Int} (h : TbL n l) : l.length ≤ n := by
  have h1 : (l.map Int.toNat).Nodup := by
    refine List.Pairwise.map _ ?_ (List.Pairwise.and_mem.1 h.nd)
    rintro a b ⟨ha, hb, hab⟩ e
    have := h.lt a ha
    have := h.lt b hb
    exact hab (by omega)
  have h2 := List.Nodup.length_le_of_subset h1 (l₂ := List.range n) (fun x hx => by
    obtain ⟨y, hy, rfl⟩ := List.mem_map.1 hx
    have := h.lt y hy
    simp; omega)
  simpa using h2
theorem TbL.take {n : Nat} {l : List Int} (h : TbL n l) (k : Nat) : TbL n (l.take k) := ⟨h.nd.sublist (List.take_sublist ..), fun x hx => h.lt x (List.mem_of_mem_take hx)⟩
def tri : Nat → Nat
  | 0 => 0
  | k + 1 => tri k + k
theorem sizA_in {zs : List Int} {fs : List (List Int)} (h : GsF zs fs) {x : Int} (hx : 0 ≤ x ∧ x < (zs.length : Int)) : 1 ≤ sizA zs x ∧ sizA zs x ≤ 50 := h.sz _ (by omega)
theorem facA_in {zs : List Int} {fs : List (List Int)} (h : GsF zs fs) {x y : Int} (hx : 0 ≤ x ∧ x < (zs.length : Int)) (hy : 0 ≤ y ∧ y < (zs.length : Int)) (hn : x ≠ y) : 1 ≤ facA fs x y ∧ facA fs x y ≤ 10 :=
  h.fc _ _ (by omega) (by omega)
theorem upP_in {zs : List Int} {fs : List (List Int)} (h : GsF zs fs) {l : List Int} (hl : TbL zs.length l) : 1 ≤ upP zs l ∧ upP zs l ≤ 15625000000 := by
  obtain ⟨h1, h2⟩ := prodL_in (m := 50) (by omega) (l := l.map (sizA zs)) (fun y hy => by obtain ⟨x, hx, rfl⟩ := List.mem_map.1 hy; exact sizA_in h (hl.lt x hx))
  refine ⟨h1, Int.le_trans h2 ?_⟩
  have h3 : l.length ≤ 6 := Nat.le_trans hl.len h.n6
  rw [List.length_map]
  have : ∀ k, k ≤ 6 → (50 : Int) ^ k ≤ 15625000000 := by decide
  exact this _ h3
theorem fac_in {zs : List Int} {fs : List (List Int)} (h : GsF zs fs) {x : Int} (hx : 0 ≤ x ∧ x < (zs.length : Int)) {l : List Int} (hl : TbL zs.length l) (hn : x ∉ l) : 1 ≤ prodL (l.map (facA fs x)) ∧ prodL (l.map (facA fs x)) ≤ 10 ^ l.length := by
  have := prodL_in (m := 10) (by omega) (l := l.map (facA fs x)) (fun y hy => by obtain ⟨z, hz, rfl⟩ := List.mem_map.1 hy; exact facA_in h hx (hl.lt z hz) (fun e => hn (e ▸ hz)))
  simpa using this
theorem dnP_in {zs : List Int} {fs : List (List Int)} (h : GsF zs fs) : ∀ {l : List Int}, TbL zs.length l → 1 ≤ dnP fs l ∧ dnP fs l ≤ 10 ^ tri l.length
  | [], _ => by simp [dnP, tri]
  | x :: l, hl => by
    have hl' : TbL zs.length l := ⟨(List.nodup_cons.1 hl.nd).2, fun y hy => hl.lt y (List.mem_cons_of_mem _ hy)⟩
    obtain ⟨h1, h2⟩ := dnP_in h hl'
    obtain ⟨k1, k2⟩ := fac_in h (hl.lt x (List.mem_cons_self ..)) hl' (List.nodup_cons.1 hl.nd).1
    refine ⟨?_, ?_⟩
    · have := Int.mul_le_mul k1 h1 (by omega) (by omega)
      simpa [dnP] using this
    · have := Int.mul_le_mul k2 h2 (by omega) (by omega)
      simp only [dnP, List.length_cons, tri, Int.pow_add]
      rw [Int.mul_comm (10 ^ tri _)]; exact this
/-- What the inner loop holds: the factors so far. -/
theorem dn_part {zs : List Int} {fs : List (List Int)} (h : GsF zs fs) {l : List Int} (hl : TbL zs.length l) {i j : Nat} {x : Int} (hi : l[i]? = some x) (hj : j ≤ i) :
    1 ≤ dnP fs (l.take i) * prodL ((l.take j).map (facA fs x)) ∧ dnP fs (l.take i) * prodL ((l.take j).map (facA fs x)) ≤ 1000000000000000 := by
  obtain ⟨hil, rfl⟩ := List.getElem?_eq_some_iff.1 hi
  have h6 := Nat.le_trans hl.len h.n6
  obtain ⟨h1, h2⟩ := dnP_in h (hl.take i)
  have hm : l[i] ∉ l.take j := by
    intro hm
    obtain ⟨k, hk, e⟩ := List.mem_take_iff_getElem.1 hm
    have := (List.getElem_inj hl.nd).1 e
    omega
  obtain ⟨k1, k2⟩ := fac_in h (hl.lt _ (List.getElem_mem hil)) (hl.take j) hm
  rw [List.length_take, Nat.min_eq_left (by omega)] at h2 k2
  refine ⟨?_, ?_⟩
  · have := Int.mul_le_mul h1 k1 (by omega) (by omega)
    simpa using this
  · have h3 := Int.mul_le_mul h2 k2 (by omega) (by omega)
    rw [← Int.pow_add] at h3
    refine Int.le_trans h3 ?_
    have : ∀ i, i < 6 → ∀ j, j ≤ i → (10 : Int) ^ (tri i + j) ≤ 1000000000000000 := by decide
    exact this i (by omega) j hj
theorem dn_step {fs : List (List Int)} {l : List Int} {i j : Nat} {x y : Int} (hj : l[j]? = some y) : dnP fs (l.take i) * prodL ((l.take (j + 1)).map (facA fs x)) = dnP fs (l.take i) * prodL ((l.take j).map (facA fs x)) * facA fs x y := by
  obtain ⟨hk, rfl⟩ := List.getElem?_eq_some_iff.1 hj
  rw [List.take_succ_eq_append_getElem hk, List.map_append, prodL_app]
  simp [prodL, Int.mul_assoc]
theorem dn_next {fs : List (List Int)} {l : List Int} {i : Nat} {x : Int} (hi : l[i]? = some x) : dnP fs (l.take (i + 1)) = dnP fs (l.take i) * prodL ((l.take i).map (facA fs x)) := by
  obtain ⟨hk, rfl⟩ := List.getElem?_eq_some_iff.1 hi
  rw [List.take_succ_eq_append_getElem hk, dnP_snoc]
theorem up_next {zs : List Int} {l : List Int} {i : Nat} {x : Int} (hi : l[i]? = some x) : upP zs (l.take (i + 1)) = upP zs (l.take i) * sizA zs x := by
  obtain ⟨hk, rfl⟩ := List.getElem?_eq_some_iff.1 hi
  unfold upP
  rw [List.take_succ_eq_append_getElem hk, List.map_append, prodL_app]
  simp [prodL]

end Go.Proofs.YtociphdhkjoofaaDoor

/- Plain: orders: lists that have each of the first numbers once. -/
namespace Go.Proofs.YtociphdhkjoofaaDoor
open Go.RowKit

def srtI (l : List Int) : List Int := l.mergeSort fun x y => decide (x ≤ y)
def eachB (l : List Int) (n : Nat) : Bool := decide (srtI l = upN n)
theorem upN_mem {n : Nat} {x : Int} : x ∈ upN n ↔ 0 ≤ x ∧ x < (n : Int) := by
  unfold upN
  rw [List.mem_map]
  constructor
  · rintro ⟨i, hi, rfl⟩
    rw [List.mem_range] at hi
    omega
  · intro h
    exact ⟨x.toNat, List.mem_range.2 (by omega), by omega⟩
theorem upN_pair (n : Nat) : (upN n).Pairwise (· < ·) := by
  unfold upN
  rw [List.pairwise_map]
  exact List.pairwise_lt_range.imp (fun h => by omega)
theorem srtI_perm (l : List Int) : (srtI l).Perm l := List.mergeSort_perm l _
theorem srtI_pair (l : List Int) : (srtI l).Pairwise (· ≤ ·) := by
  have h := List.pairwise_mergeSort (le := fun x y : Int => decide (x ≤ y)) (fun a b c h1 h2 => by simp at *; omega) (fun a b => by simp; omega) l
  exact h.imp (fun h => by simpa using h)
theorem srtI_up {l : List Int} {n : Nat} (h : l.Perm (upN n)) : srtI l = upN n :=
  ((srtI_perm l).trans h).eq_of_pairwise (le := (· ≤ ·)) (fun a b _ _ h1 h2 => by omega) (srtI_pair l) ((upN_pair n).imp (fun h => by omega))
theorem eachB_iff {l : List Int} {n : Nat} : eachB l n = true ↔ l.Perm (upN n) := by
  unfold eachB
  rw [decide_eq_true_eq]
  exact ⟨fun h => (srtI_perm l).symm.trans (by rw [h]), srtI_up⟩
theorem each_tbl {l : List Int} {n : Nat} (h : l.Perm (upN n)) : TbL n l :=
  ⟨h.symm.nodup ((upN_pair n).imp (fun h => by omega)), fun x hx => upN_mem.1 (h.mem_iff.1 hx)⟩

theorem insI_perm {l : List Int} {x : Int} (h : ¬ x ∈ l) : (insI l x).Perm (x :: l) := by
  rw [insI_no h]
  refine List.perm_middle.trans ?_
  rw [List.take_append_drop]
def putI (acc l : List Int) : List Int := l.foldl insI acc
theorem putI_snoc (acc l : List Int) (x : Int) : putI acc (l ++ [x]) = insI (putI acc l) x := by simp [putI]
theorem putI_len : ∀ (l acc : List Int), (putI acc l).length ≤ acc.length + l.length ∧ ((putI acc l).length = acc.length + l.length → (putI acc l).Perm (acc ++ l))
  | [], acc => by simp [putI]
  | x :: l, acc => by
    have ih := putI_len l (insI acc x)
    have e : putI acc (x :: l) = putI (insI acc x) l := rfl
    rw [e, List.length_cons]
    by_cases h : x ∈ acc
    · rw [insI_yes h] at ih ⊢
      exact ⟨by omega, fun h9 => by omega⟩
    · have hp := insI_perm h
      have hl := hp.length_eq
      rw [List.length_cons] at hl
      refine ⟨by omega, fun h9 => ?_⟩
      refine (ih.2 (by omega)).trans ((hp.append_right l).trans ?_)
      rw [List.cons_append]
      exact List.perm_middle.symm
theorem putI_nodup : ∀ (l acc : List Int), (acc ++ l).Nodup → (putI acc l).Perm (acc ++ l)
  | [], acc, _ => by simp [putI]
  | x :: l, acc, h => by
    have hx : ¬ x ∈ acc := fun hx => by
      have := (List.nodup_append.1 h).2.2 x hx x (List.mem_cons_self ..)
      exact this rfl
    have hp := insI_perm hx
    have hp2 : (insI acc x ++ l).Perm (acc ++ x :: l) := (hp.append_right l).trans (by rw [List.cons_append]; exact List.perm_middle.symm)
    have e : putI acc (x :: l) = putI (insI acc x) l := rfl
    rw [e]
    exact (putI_nodup l (insI acc x) (hp2.symm.nodup h)).trans hp2
theorem putI_mem : ∀ (l acc : List Int) (y : Int), y ∈ putI acc l → y ∈ acc ∨ y ∈ l
  | [], acc, y, h => .inl h
  | x :: l, acc, y, h => by
    rcases putI_mem l (insI acc x) y h with h | h
    · by_cases hx : x ∈ acc
      · rw [insI_yes hx] at h; exact .inl h
      · rcases List.mem_cons.1 ((insI_perm hx).mem_iff.1 h) with h | h
        · exact .inr (by rw [h]; exact List.mem_cons_self ..)
        · exact .inl h
    · exact .inr (List.mem_cons_of_mem _ h)
theorem putI_bl : ∀ (l : List Int) (s : Nat), s < 64 → (∀ x ∈ l, 0 ≤ x ∧ x < 6) → ∃ t, t < 64 ∧ putI (bl s) l = bl t
  | [], s, hs, _ => ⟨s, hs, rfl⟩
  | x :: l, s, hs, h => by
    have hx := h x (List.mem_cons_self ..)
    have e : putI (bl s) (x :: l) = putI (insI (bl s) x) l := rfl
    rw [e, insI_bl hs hx.1 hx.2]
    have h2 : 2 ^ x.toNat < 64 := by
      have : ∀ k, k < 6 → 2 ^ k < 64 := by decide
      exact this _ (by omega)
    exact putI_bl l _ (Nat.or_lt_two_pow (n := 6) hs h2) (fun y hy => h y (List.mem_cons_of_mem _ hy))
theorem bl_full : ∀ n : Nat, n < 7 → ∀ t : Nat, t < 64 → (bl t).length = n → (bl t).all (fun x => decide (x < (n : Int))) = true → bl t = upN n := by decide +kernel
theorem bl_nil : bl 0 = [] := by decide
/-- What the model asks of an order. -/
def isoB (n : Nat) (l : List Int) : Bool := decide (l.length = n) && (l.all (fun x => decide (0 ≤ x) && decide (x < (l.length : Int))) && decide ((putI [] l).length = l.length))
theorem isoB_each {n : Nat} (hn : n ≤ 6) (l : List Int) : isoB n l = eachB l n := by
  rw [Bool.eq_iff_iff, eachB_iff]
  simp only [isoB, Bool.and_eq_true, decide_eq_true_eq, List.all_eq_true]
  constructor
  · rintro ⟨h1, h2, h3⟩
    have hp : (putI [] l).Perm l := by simpa using (putI_len l []).2 (by simpa using h3)
    obtain ⟨t, ht, e⟩ := putI_bl l 0 (by omega) (fun x hx => by have := h2 x hx; omega)
    rw [bl_nil] at e
    have hf := bl_full n (by omega) t ht (by rw [← e]; omega) (by
      rw [List.all_eq_true]
      intro x hx
      have := h2 x (hp.mem_iff.1 (by rw [e]; exact hx))
      simp; omega)
    rw [← hf, ← e]
    exact hp.symm
  · intro h
    have ht := each_tbl h
    have hl : l.length = n := by have := h.length_eq; rw [upN_len] at this; exact this
    refine ⟨hl, fun x hx => by have := ht.lt x hx; omega, ?_⟩
    have := (putI_nodup l [] (by simpa using ht.nd)).length_eq
    simpa using this
theorem putI_take {l : List Int} {k : Nat} {x : Int} (h : l[k]? = some x) : putI [] (l.take (k + 1)) = insI (putI [] (l.take k)) x := by
  obtain ⟨hk, rfl⟩ := List.getElem?_eq_some_iff.1 h
  rw [List.take_succ_eq_append_getElem hk, putI_snoc]

end Go.Proofs.YtociphdhkjoofaaDoor

/- Plain: two steps that change places; what is told of steps. -/
namespace Go.Proofs.YtociphdhkjoofaaDoor
open Go.RowKit

def stM (xs : List TStep) (k : Nat) : TStep := xs.getD k (0, 0, 0)
theorem stM_at {xs : List TStep} {k : Nat} {x : TStep} (h : xs[k]? = some x) : stM xs k = x := by
  unfold stM; rw [List.getD_eq_getElem?_getD, h]; rfl
def swB (xs : List TStep) (k : Int) : Bool := gpB xs && (decide (0 ≤ k) && (decide (k < (xs.length : Int) - 1) && (decide ((stM xs k.toNat).1 ≠ (stM xs (k.toNat + 1)).1) && !clB (stM xs k.toNat) (stM xs (k.toNat + 1)))))
def swL (xs : List TStep) (k : Int) : List TStep := if swB xs k then xs.take k.toNat ++ (stM xs (k.toNat + 1) :: stM xs k.toNat :: xs.drop (k.toNat + 2)) else []
theorem swL_len (xs : List TStep) (k : Int) : (swL xs k).length ≤ 40 := by
  unfold swL
  split
  · rename_i h
    simp only [swB, Bool.and_eq_true, decide_eq_true_eq] at h
    have := gp_len h.1
    simp only [List.length_append, List.length_take, List.length_cons, List.length_drop]
    omega
  · simp
theorem swB_bad {xs : List TStep} {k : Int} (h : gpB xs = false) : swB xs k = false := by unfold swB; rw [h]; rfl
theorem swB_low {xs : List TStep} {k : Int} (h : k < 0) : swB xs k = false := by unfold swB; rw [decide_eq_false (by omega)]; simp
theorem swB_high {xs : List TStep} {k : Int} (h : (xs.length : Int) - 1 ≤ k) : swB xs k = false := by unfold swB; rw [decide_eq_false (show ¬ k < (xs.length : Int) - 1 by omega)]; simp
theorem swB_in {xs : List TStep} {p : Nat} {x y : TStep} (h : gpB xs = true) (hx : xs[p]? = some x) (hy : xs[p + 1]? = some y) : swB xs (p : Int) = (decide (x.1 ≠ y.1) && !clB x y) := by
  have := (List.getElem?_eq_some_iff.1 hy).1
  unfold swB
  rw [h, decide_eq_true (show (0 : Int) ≤ (p : Int) by omega), decide_eq_true (show (p : Int) < (xs.length : Int) - 1 by omega), Int.toNat_natCast, stM_at hx, stM_at hy]; rfl
theorem swL_in {xs : List TStep} {p : Nat} {x y : TStep} (h : swB xs (p : Int) = true) (hx : xs[p]? = some x) (hy : xs[p + 1]? = some y) : swL xs (p : Int) = xs.take p ++ (y :: x :: xs.drop (p + 2)) := by
  unfold swL; rw [h, Int.toNat_natCast, stM_at hx, stM_at hy]; rfl
theorem swL_no {xs : List TStep} {k : Int} (h : swB xs k = false) : swL xs k = [] := by unfold swL; rw [h]; rfl
theorem swap_set {xs : List TStep} {p : Nat} {x y : TStep} (hx : xs[p]? = some x) (hy : xs[p + 1]? = some y) : (xs.set p y).set (p + 1) x = xs.take p ++ (y :: x :: xs.drop (p + 2)) := by
  have hp := (List.getElem?_eq_some_iff.1 hx).1
  have hp1 := (List.getElem?_eq_some_iff.1 hy).1
  have e : xs = xs.take p ++ (x :: y :: xs.drop (p + 2)) := by
    conv => lhs; rw [← List.take_append_drop p xs]
    rw [List.drop_eq_getElem_cons hp, List.drop_eq_getElem_cons hp1, (List.getElem?_eq_some_iff.1 hx).2, (List.getElem?_eq_some_iff.1 hy).2]
  obtain ⟨A, hA⟩ : ∃ A, xs.take p = A := ⟨_, rfl⟩
  obtain ⟨B, hB⟩ : ∃ B, xs.drop (p + 2) = B := ⟨_, rfl⟩
  have hl : A.length = p := by rw [← hA, List.length_take]; omega
  rw [hA, hB] at e ⊢
  rw [e, ← hl]
  simp
def StepsRet (e : Ending) (w' : World) (lo : Nat) (ok : Bool) (ta : List TStep) : Prop :=
  ∃ r m d, e = .returned (.tuple #[.slice r m d, .bool ok]) ∧ ta.length = m ∧ w'.ownsRow lo 46 3 (.slice r m d) m ((flStep ta).map (.int .i64))
theorem StepsRet.no {w' : World} {lo : Nat} : StepsRet (.returned (.tuple #[.slice none 0 0, .bool false])) w' lo false [] :=
  ⟨none, 0, 0, rfl, rfl, World.ownsRow_nil _ _ _ _⟩

end Go.Proofs.YtociphdhkjoofaaDoor
