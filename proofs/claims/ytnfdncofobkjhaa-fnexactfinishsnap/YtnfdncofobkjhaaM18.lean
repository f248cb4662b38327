/- Several texts of one proof, in build order: GroundM, L2Own, RowH, TableH, Plain, GoodRow, ArrEq, ArrayOf, Compare, PlainT, PlainC. -/
import Derived.Test.YtnfdncofobkjhaaM0
import Derived.Test.YtnfdncofobkjhaaM5
import Derived.Test.YtnfdncofobkjhaaM3
import Derived.Laws.StructEq

/- Cells that mean weighted rows, whoever owns them; 'append(out, xs...)' of whatever elements. -/
namespace Go.Proofs.Ytnfdncofobkjhaa
open Go.RowKit

/-- Cells that mean weighted rows. -/
def Means (w : World) : List Value → List WRow → Prop
  | [], [] => True
  | u :: v :: cs, t :: ts => (∃ a c, u = .slice a t.1.length c ∧ (a = none → c = 0) ∧ At w a t.1) ∧ t.1.length ≤ 9223372036854775807 ∧ v = .int .i64 t.2 ∧ Means w cs ts
  | _, _ => False

theorem Means.nil (w : World) : Means w [] [] := trivial
theorem Means.one {w : World} {a : Option Addr} {zs : List Int} {n c : Nat} {x : Int} (hn : zs.length = n) (h6 : n ≤ 9223372036854775807) (hnil : a = none → c = 0) (h : At w a zs) : Means w [.slice a n c, .int .i64 x] [(zs, x)] :=
  ⟨⟨a, c, by rw [hn], hnil, h⟩, by simp only [hn]; exact h6, rfl, trivial⟩

set_option linter.unusedVariables false in
theorem Means.length {w : World} : ∀ {cs : List Value} {ts : List WRow}, Means w cs ts → cs.length = ts.length * 2
  | [], [], _ => rfl
  | [], _ :: _, h => h.elim
  | [_], [], h => h.elim
  | [_], _ :: _, h => h.elim
  | _ :: _ :: _, [], h => h.elim
  | u :: v :: cs, t :: ts, ⟨_, _, _, h⟩ => by have := Means.length h; simp [this]; omega

set_option linter.unusedVariables false in
theorem Means.below {w w' : World} (hb : Below w.heap.size w w') : ∀ {cs : List Value} {ts : List WRow}, Means w cs ts → Means w' cs ts
  | [], [], _ => trivial
  | [], _ :: _, h => h.elim
  | [_], [], h => h.elim
  | [_], _ :: _, h => h.elim
  | _ :: _ :: _, [], h => h.elim
  | u :: v :: cs, t :: ts, ⟨⟨a, c, h1, h0, h2⟩, h3, h4, h5⟩ => ⟨⟨a, c, h1, h0, h2.below hb⟩, h3, h4, Means.below hb h5⟩

set_option linter.unusedVariables false in
theorem Means.append {w : World} : ∀ {cs cs' : List Value} {ts ts' : List WRow}, Means w cs ts → Means w cs' ts' → Means w (cs ++ cs') (ts ++ ts')
  | [], _, [], _, _, h => h
  | [], _, _ :: _, _, h, _ => h.elim
  | [_], _, [], _, h, _ => h.elim
  | [_], _, _ :: _, _, h, _ => h.elim
  | _ :: _ :: _, _, [], _, h, _ => h.elim
  | u :: v :: cs, cs', t :: ts, ts', ⟨h1, h2, h3, h4⟩, h => ⟨h1, h2, h3, Means.append h4 h⟩

set_option linter.unusedVariables false in
theorem Means.take {w : World} : ∀ {cs : List Value} {ts : List WRow} (k : Nat), Means w cs ts → Means w (cs.take (k * 2)) (ts.take k)
  | [], [], _, _ => by simp [Means]
  | [], _ :: _, _, h => h.elim
  | [_], [], _, h => h.elim
  | [_], _ :: _, _, h => h.elim
  | _ :: _ :: _, [], _, h => h.elim
  | u :: v :: cs, t :: ts, 0, _ => by simp [Means]
  | u :: v :: cs, t :: ts, k + 1, ⟨h1, h2, h3, h4⟩ => by
    rw [show (k + 1) * 2 = k * 2 + 1 + 1 by omega]
    exact ⟨h1, h2, h3, Means.take k h4⟩
set_option linter.unusedVariables false in
theorem Means.drop {w : World} : ∀ {cs : List Value} {ts : List WRow} (k : Nat), Means w cs ts → Means w (cs.drop (k * 2)) (ts.drop k)
  | [], [], _, _ => by simp [Means]
  | [], _ :: _, _, h => h.elim
  | [_], [], _, h => h.elim
  | [_], _ :: _, _, h => h.elim
  | _ :: _ :: _, [], _, h => h.elim
  | u :: v :: cs, t :: ts, 0, h => by simpa using h
  | u :: v :: cs, t :: ts, k + 1, ⟨h1, h2, h3, h4⟩ => by
    rw [show (k + 1) * 2 = k * 2 + 1 + 1 by omega]
    exact Means.drop k h4

set_option linter.unusedVariables false in
theorem Means.at {w : World} : ∀ {cs : List Value} {ts : List WRow} (i : Nat), Means w cs ts → i < ts.length → ∃ a c, cs[i * 2]? = some (.slice a (wat ts i).1.length c) ∧ cs[i * 2 + 1]? = some (.int .i64 (wat ts i).2) ∧ (wat ts i).1.length ≤ 9223372036854775807 ∧ (a = none → c = 0) ∧ At w a (wat ts i).1
  | [], [], _, _, h => by simp at h
  | [], _ :: _, _, h, _ => h.elim
  | [_], [], _, h, _ => h.elim
  | [_], _ :: _, _, h, _ => h.elim
  | _ :: _ :: _, [], _, h, _ => h.elim
  | u :: v :: cs, t :: ts, 0, ⟨⟨a, c, h1, h0, h2⟩, h3, h4, _⟩, _ => ⟨a, c, by simp [wat, h1], by simp [wat, h4], by simpa [wat] using h3, h0, by simpa [wat] using h2⟩
  | u :: v :: cs, t :: ts, i + 1, ⟨_, _, _, h5⟩, hi => by
    obtain ⟨a, c, k1, k2, k3, k0, k4⟩ := Means.at i h5 (by simpa using hi)
    have e : wat (t :: ts) (i + 1) = wat ts i := by simp [wat]
    rw [e]
    refine ⟨a, c, ?_, ?_, k3, k0, k4⟩
    · rw [show (i + 1) * 2 = i * 2 + 1 + 1 by omega]; simpa using k1
    · rw [show (i + 1) * 2 + 1 = (i * 2 + 1) + 1 + 1 by omega]; simpa using k2

set_option linter.unusedVariables false in
theorem Means.oneCell {w : World} : ∀ {cs : List Value} {ts : List WRow}, Means w cs ts → ∀ u ∈ cs, u.oneCell' = true
  | [], [], _, _, h => by cases h
  | [], _ :: _, h, _, _ => h.elim
  | [_], [], h, _, _ => h.elim
  | [_], _ :: _, h, _, _ => h.elim
  | _ :: _ :: _, [], h, _, _ => h.elim
  | u :: v :: cs, t :: ts, ⟨⟨a, c, h1, _, _⟩, _, h4, h5⟩, x, hx => by
    rcases List.mem_cons.1 hx with rfl | hx
    · subst h1; rfl
    · rcases List.mem_cons.1 hx with rfl | hx
      · subst h4; rfl
      · exact Means.oneCell h5 x hx

theorem means_of {w : World} : ∀ {ts : List WRow} {cs : List Value}, cs.length = ts.length * 2 → (∀ i, i < ts.length → ∃ a c, cs[i * 2]? = some (.slice a (wat ts i).1.length c) ∧ cs[i * 2 + 1]? = some (.int .i64 (wat ts i).2) ∧ (wat ts i).1.length ≤ 9223372036854775807 ∧ (a = none → c = 0) ∧ At w a (wat ts i).1) → Means w cs ts
  | [], [], _, _ => trivial
  | [], _ :: _, h, _ => by simp at h
  | _ :: _, [], h, _ => by simp at h
  | _ :: _, [_], h, _ => by simp at h; omega
  | t :: ts, u :: v :: cs, hl, h => by
    obtain ⟨a, c, k1, k2, k3, k0, k4⟩ := h 0 (by simp)
    have e : wat (t :: ts) 0 = t := by simp [wat]
    rw [e] at k1 k2 k3 k4
    refine ⟨⟨a, c, by simpa using k1, k0, k4⟩, k3, by simpa using k2, means_of (by simp at hl; omega) fun i hi => ?_⟩
    obtain ⟨a, c, k1, k2, k3, k0, k4⟩ := h (i + 1) (by simpa using hi)
    have e : wat (t :: ts) (i + 1) = wat ts i := by simp [wat]
    rw [e] at k1 k2 k3 k4
    rw [show (i + 1) * 2 = i * 2 + 1 + 1 by omega] at k1 k2
    exact ⟨a, c, by simpa using k1, by simpa using k2, k3, k0, k4⟩

theorem Means.atW {w : World} {cs : List Value} {ts : List WRow} {b off : Nat} (h : Means w cs ts) (hc : ∀ j u, cs[j]? = some u → w.cell? ⟨b, off + j, none⟩ = some u) : AtW w (some ⟨b, off, none⟩) ts :=
  .inr ⟨b, off, rfl, fun i hi => by
    obtain ⟨a, c, k1, k2, k3, _, k4⟩ := h.at i hi
    exact ⟨a, c, by rw [hc _ _ k1], by rw [show off + i * 2 + 1 = off + (i * 2 + 1) by omega, hc _ _ k2], k3, k4⟩⟩

theorem Means.owned {w : World} {cs : List Value} {ts : List WRow} {base : Nat} {e : TypeId} {a : Option Addr} {n c : Nat} (h : Means w cs ts) (hn : ts.length = n) (ho : w.ownsRow base e 2 (.slice a n c) n cs) : AtW w a ts := by
  have hl := h.length
  rcases ho.2 with ⟨h', rfl⟩ | ⟨g, cap, cur, h', _⟩
  · left; exact List.eq_nil_of_length_eq_zero hn
  · simp only [Value.slice.injEq, true_and] at h'
    obtain ⟨rfl, rfl⟩ := h'
    refine h.atW fun j u hj => ?_
    have hj' := (List.getElem?_eq_some_iff.1 hj).1
    rw [Nat.zero_add, ho.cellAt j (by omega)]
    exact hj

/-- A slice of weighted rows as a model's function reads it: where a row's slice is nil it has no room. -/
def AtM (w : World) (a : Option Addr) (ts : List WRow) : Prop :=
  ts = [] ∨ ∃ b off cs, a = some ⟨b, off, none⟩ ∧ Means w cs ts ∧ ∀ j u, cs[j]? = some u → w.cell? ⟨b, off + j, none⟩ = some u

theorem AtM.atW {w : World} {a : Option Addr} {ts : List WRow} (h : AtM w a ts) : AtW w a ts := by
  rcases h with rfl | ⟨b, off, cs, rfl, hm, hc⟩
  · exact .inl rfl
  · exact hm.atW hc
theorem AtM.below {w w' : World} {a : Option Addr} {ts : List WRow} (h : AtM w a ts) (hb : Below w.heap.size w w') : AtM w' a ts := by
  rcases h with rfl | ⟨b, off, cs, rfl, hm, hc⟩
  · exact .inl rfl
  · exact .inr ⟨b, off, cs, rfl, hm.below hb, fun j u hj => cell_later hb (hc j u hj)⟩
theorem AtM.alloc {w : World} {a : Option Addr} {ts : List WRow} (h : AtM w a ts) (o : Obj) : AtM (w.alloc o) a ts := h.below ((Below.refl _ _).alloc (Nat.le_refl _) o)
theorem AtM.drew {w : World} {a : Option Addr} {ts : List WRow} (h : AtM w a ts) : AtM w.drew a ts := h.below (Below.refl _ _).drew
theorem atM_nil (w : World) (a : Option Addr) : AtM w a [] := .inl rfl
theorem Means.ownedM {w : World} {cs : List Value} {ts : List WRow} {base : Nat} {e : TypeId} {a : Option Addr} {n c : Nat} (h : Means w cs ts) (hn : ts.length = n) (ho : w.ownsRow base e 2 (.slice a n c) n cs) : AtM w a ts := by
  have hl := h.length
  rcases ho.2 with ⟨h', rfl⟩ | ⟨g, cap, cur, h', _⟩
  · left; exact List.eq_nil_of_length_eq_zero hn
  · simp only [Value.slice.injEq, true_and] at h'
    obtain ⟨rfl, rfl⟩ := h'
    refine .inr ⟨g, 0, cs, rfl, h, fun j u hj => ?_⟩
    have hj' := (List.getElem?_eq_some_iff.1 hj).1
    rw [Nat.zero_add, ho.cellAt j (by omega)]
    exact hj
theorem owns_nil {w : World} {base : Nat} {e : TypeId} {size : Nat} {a : Option Addr} {n c : Nat} {xs : List Value} (h : w.ownsRow base e size (.slice a n c) n xs) : a = none → c = 0 := by
  rintro rfl
  rcases h.2 with ⟨h', _⟩ | ⟨g, cap, cur, h', _⟩
  · simp at h'; exact h'.2
  · simp at h'
theorem OwnWk.means {w : World} {lo hi : Nat} {te ti : TypeId} {a : Option Addr} {n c : Nat} {ts : List WRow} {cells : List Value} (h : OwnW w lo hi te ti a n c ts cells) (hs : ∀ i, i < n → (wat ts i).1.length ≤ 9223372036854775807) : Means w cells ts :=
  means_of (by rw [h.len]; exact h.outer.1) fun i hi => by
    rw [h.len] at hi
    obtain ⟨a', c', k1, k2, k3⟩ := h.row i hi
    exact ⟨a', c', k1, k2, hs i hi, owns_nil k3, At.owned k3⟩
theorem OwnWk.atM {w : World} {lo hi : Nat} {te ti : TypeId} {a : Option Addr} {n c : Nat} {ts : List WRow} {cells : List Value} (h : OwnW w lo hi te ti a n c ts cells) (hs : ∀ i, i < n → (wat ts i).1.length ≤ 9223372036854775807) : AtM w a ts :=
  (h.means hs).ownedM h.len h.outer
/-- One row of it. -/
theorem AtM.some {w : World} {a : Option Addr} {ts : List WRow} (h : AtM w a ts) (hp : 0 < ts.length) :
    ∃ b off, a = Option.some ⟨b, off, none⟩ ∧ ∀ i, i < ts.length → ∃ a' c', w.cell? ⟨b, off + i * 2, none⟩ = Option.some (.slice a' (wat ts i).1.length c') ∧ w.cell? ⟨b, off + i * 2 + 1, none⟩ = Option.some (.int .i64 (wat ts i).2) ∧
      (wat ts i).1.length ≤ 9223372036854775807 ∧ (a' = none → c' = 0) ∧ At w a' (wat ts i).1 := by
  rcases h with rfl | ⟨b, off, cs, rfl, hm, hc⟩
  · simp at hp
  · refine ⟨b, off, rfl, fun i hi => ?_⟩
    obtain ⟨a', c', k1, k2, k3, k0, k4⟩ := hm.at i hi
    exact ⟨a', c', hc _ _ k1, by rw [show off + i * 2 + 1 = off + (i * 2 + 1) by omega]; exact hc _ _ k2, k3, k0, k4⟩

theorem wpList_append_any {P : Program} {w : World} {ops : Array Oper} {rest : List Oper} {o : Oper} {a : Act} {Q : Exit → Act → World → Prop} (hgd : o.guard = none) (s x : Operand) (t : TypeId)
    (ho : o.op = .call { callee := .builtin .append, args := #[s, x], argTypes := #[t, t] })
    (base : Nat) (e : TypeId) (i : TypeInfo) (z : Value) (size bytes : Nat) (ht : P.underlying t = some (.slice e)) (hi : P.info? e = some i) (hz : i.zero = some z)
    (hsize : i.size = size) (hby : i.bytes = bytes) (hzs : z.cells.size = size) (hsz : 0 < size)
    (v : Value) (n : Nat) (xs : List Value) (hs : a.eval s = v) (hown : w.ownsRow base e size v n xs)
    (ad : Addr) (m c : Nat) (news : List Value) (hx : a.eval x = .slice (some ad) m c) (hl : news.length = m * size) (hat : ∀ j u, news[j]? = some u → w.cell? (ad.add j) = some u) (h1 : ∀ u ∈ news, u.oneCell' = true)
    (h63 : n + m ≤ maxLen) (hbytes : (n + m) * bytes ≤ 140737488355328) (hbase : base ≤ w.heap.size)
    (h : ∀ r cap w', w'.ownsRow base e size (.slice r (n + m) cap) (n + m) (xs ++ news) → w.grownBy w' v.ownBlock → wpList P ops Q rest (a.put o.dst (.slice r (n + m) cap)) w') : wpList P ops Q (o :: rest) a w := by
  refine wpList_append_own w hgd s x t ho base e i z size bytes ht hi hz hsize hby hzs hsz v n xs hs hown ad m c news hx hl hat h1 h63 hbytes hbase ?_
  intro v' w' h2 h3 _
  obtain ⟨r, cap, rfl⟩ := owns_slice h2
  exact h r cap w' h2 h3

end Go.Proofs.Ytnfdncofobkjhaa

/- Contract of spec.l2OwnRow. -/
namespace Go.Proofs.Ytnfdncofobkjhaa
open Go.RowKit

theorem owns_empty (w : World) (e : TypeId) (size : Nat) : (w.alloc (.cells #[] e)).ownsRow w.heap.size e size (.slice (some ⟨w.heap.size, 0, none⟩) 0 0) 0 [] :=
  ⟨by simp, .inr ⟨w.heap.size, 0, #[], rfl, Nat.le_refl _, heap_alloc_new w _, by simp, by simp, by simp, by simp⟩⟩

end Go.Proofs.Ytnfdncofobkjhaa

/- Contracts of the laws' helpers over rows: szRow, toRow, eqRow. -/
namespace Go.Proofs.Ytnfdncofobkjhaa
open Go.RowKit

end Go.Proofs.Ytnfdncofobkjhaa

/- Contracts of the laws' helpers over weighted rows: szWeighted, szWeightedS, szTable, toWeighted, toWeightedS, toTable. -/
namespace Go.Proofs.Ytnfdncofobkjhaa
open Go.RowKit

/-- What szWeightedS takes: a slot a row, and the rows' cells. -/
theorem wtot_cells (ts : List WRow) (k : Nat) (h : k ≤ ts.length) : ∃ s : Nat, wtot ts k = k + s := ⟨wtot ts k - k, by have := wtot_len ts k h; omega⟩

end Go.Proofs.Ytnfdncofobkjhaa

/- Plain functions on lists of numbers: what the program's row functions answer. -/
namespace Go.Proofs.Ytnfdncofobkjhaa

def inb (z : Int) : Bool := decide (-100000 ≤ z) && decide (z ≤ 100000)
/-- A good row's cells. -/
def good (zs : List Int) : Bool := decide (zs.length ≤ 6) && zs.all inb

theorem good_len {zs : List Int} (h : good zs = true) : zs.length ≤ 6 := by simp [good] at h; exact h.1
theorem good_cell {zs : List Int} (h : good zs = true) (k : Nat) (hk : k < zs.length) : -100000 ≤ zs.getD k 0 ∧ zs.getD k 0 ≤ 100000 := by
  simp [good, inb] at h
  have := h.2 (zs[k]) (List.getElem_mem hk)
  simpa [List.getD, hk] using this
theorem good_long {zs : List Int} (h : 6 < zs.length) : good zs = false := by simp [good]; omega
theorem not_good_cell {zs : List Int} (k : Nat) (hk : k < zs.length) (h : zs.getD k 0 < -100000 ∨ 100000 < zs.getD k 0) : good zs = false := by
  cases hg : good zs with
  | false => rfl
  | true => have := good_cell hg k hk; omega
theorem good_of {zs : List Int} (hl : zs.length ≤ 6) (h : ∀ k, k < zs.length → -100000 ≤ zs.getD k 0 ∧ zs.getD k 0 ≤ 100000) : good zs = true := by
  simp only [good, Bool.and_eq_true, decide_eq_true_eq, List.all_eq_true, inb]
  refine ⟨hl, fun x hx => ?_⟩
  obtain ⟨k, hk, rfl⟩ := List.getElem_of_mem hx
  simpa [List.getD, hk] using h k hk

/-- Cell by cell; the first unlike one decides; a row that ends there is less. -/
def cmp : List Int → List Int → Int
  | [], [] => 0
  | [], _ :: _ => -1
  | _ :: _, [] => 1
  | x :: xs, y :: ys => if x < y then -1 else if y < x then 1 else cmp xs ys

theorem cmp_drop (xs ys : List Int) (k : Nat) (h1 : k < xs.length) (h2 : k < ys.length) :
    cmp (xs.drop k) (ys.drop k) = if xs.getD k 0 < ys.getD k 0 then -1 else if ys.getD k 0 < xs.getD k 0 then 1 else cmp (xs.drop (k + 1)) (ys.drop (k + 1)) := by
  rw [List.drop_eq_getElem_cons h1, List.drop_eq_getElem_cons h2, cmp]
  simp [List.getD, h1, h2]

theorem cmp_end (xs ys : List Int) (k : Nat) (h : k = xs.length ∨ k = ys.length) (h1 : k ≤ xs.length) (h2 : k ≤ ys.length) :
    cmp (xs.drop k) (ys.drop k) = if xs.length < ys.length then -1 else if ys.length < xs.length then 1 else 0 := by
  rcases h with rfl | rfl
  · rw [List.drop_length]
    by_cases e : xs.length = ys.length
    · rw [List.drop_eq_nil_of_le (by omega), if_neg (by omega), if_neg (by omega)]; rfl
    · rw [List.drop_eq_getElem_cons (by omega), if_pos (by omega)]; rfl
  · rw [List.drop_length]
    by_cases e : xs.length = ys.length
    · rw [List.drop_eq_nil_of_le (by omega), if_neg (by omega), if_neg (by omega)]; rfl
    · rw [List.drop_eq_getElem_cons (by omega), if_neg (by omega), if_pos (by omega)]; rfl

theorem cmp_self (xs : List Int) : cmp xs xs = 0 := by
  induction xs with
  | nil => rfl
  | cons x xs ih => simp [cmp, ih]

def good2 (xs ys : List Int) : Bool := good xs && good ys
def cmpAns (xs ys : List Int) : Int := if good xs && good ys then cmp xs ys else 0

/-- A cell's three bytes. -/
def cellNums (z : Int) : List Int := [(z + 100000) / 65536, (z + 100000) / 256 % 256, (z + 100000) % 256]
def rowNumsTo (zs : List Int) (k : Nat) : List Int := (zs.length : Int) :: (zs.take k).flatMap cellNums
def rowNums (zs : List Int) : List Int := (zs.length : Int) :: zs.flatMap cellNums

theorem take_snocD (zs : List Int) (k : Nat) (h : k < zs.length) : zs.take (k + 1) = zs.take k ++ [zs.getD k 0] := by
  rw [List.take_succ_eq_append_getElem h]; simp [List.getD, h]
theorem rowNumsTo_succ (zs : List Int) (k : Nat) (h : k < zs.length) : rowNumsTo zs (k + 1) = rowNumsTo zs k ++ cellNums (zs.getD k 0) := by
  unfold rowNumsTo
  rw [take_snocD zs k h, List.flatMap_append]
  simp only [List.flatMap_cons, List.flatMap_nil, List.append_nil, List.cons_append]
theorem rowNumsTo_all (zs : List Int) : rowNumsTo zs zs.length = rowNums zs := by simp [rowNumsTo, rowNums]
theorem rowNumsTo_length (zs : List Int) (k : Nat) (h : k ≤ zs.length) : (rowNumsTo zs k).length = 1 + 3 * k := by
  induction k with
  | zero => simp [rowNumsTo]
  | succ k ih => rw [rowNumsTo_succ zs k (by omega), List.length_append, ih (by omega)]; simp [cellNums]; omega

/-- The row itself where it is good, else the empty one. -/
def goodOr (zs : List Int) : List Int := if good zs then zs else []

def byt (s : ByteArray) (k : Nat) : Nat := (s.data.toList.getD k 0).toNat
/-- The j-th cell that a row's bytes tell. -/
def cellAt (s : ByteArray) (j : Nat) : Int := (byt s (1 + 3 * j) : Int) * 65536 + (byt s (1 + 3 * j + 1) : Int) * 256 + (byt s (1 + 3 * j + 2) : Int) - 100000
def cellsTo (s : ByteArray) (k : Nat) : List Int := (List.range k).map (cellAt s)
theorem byt_lt (s : ByteArray) (k : Nat) : byt s k < 256 := (s.data.toList.getD k 0).toNat_lt
theorem byt_at (s : ByteArray) (k : Nat) (h : k < s.size) : (s[k]'h).toNat = byt s k := by
  have h' : k < s.data.size := h
  unfold byt
  rw [show s.data.toList.getD k 0 = s[k] from by simp only [List.getD, Array.getElem?_toList, Array.getElem?_eq_getElem h', Option.getD_some]; rfl]
theorem cellsTo_succ (s : ByteArray) (k : Nat) : cellsTo s (k + 1) = cellsTo s k ++ [cellAt s k] := by simp [cellsTo, List.range_succ]
theorem cellsTo_length (s : ByteArray) (k : Nat) : (cellsTo s k).length = k := by simp [cellsTo]

/-- A good row's cells raised above 0, and 0 behind the last one. -/
def raised (zs : List Int) : List Int := zs.map (· + 100001) ++ List.replicate (6 - zs.length) 0

theorem cmp_raised' (xs : List Int) : ∀ (ys : List Int) (a b : Nat), (∀ x ∈ xs, -100000 ≤ x) → (∀ y ∈ ys, -100000 ≤ y) → xs.length + a = ys.length + b →
    cmp (xs.map (· + 100001) ++ List.replicate a 0) (ys.map (· + 100001) ++ List.replicate b 0) = cmp xs ys := by
  induction xs with
  | nil =>
    intro ys a b _ hy hl
    cases ys with
    | nil => simp at hl; subst hl; simp [cmp_self, cmp]
    | cons y ys =>
      obtain ⟨a', rfl⟩ : ∃ a', a = a' + 1 := ⟨a - 1, by simp at hl; omega⟩
      have := hy y (by simp)
      simp [List.replicate_succ, cmp]
      omega
  | cons x xs ih =>
    intro ys a b hx hy hl
    have h0 := hx x (by simp)
    cases ys with
    | nil =>
      obtain ⟨b', rfl⟩ : ∃ b', b = b' + 1 := ⟨b - 1, by simp at hl; omega⟩
      simp only [List.map_cons, List.cons_append, List.map_nil, List.nil_append, List.replicate_succ, cmp]
      rw [if_neg (by omega), if_pos (by omega)]
    | cons y ys =>
      have h1 := hy y (by simp)
      simp only [List.map_cons, List.cons_append, cmp]
      rw [ih ys a b (fun z hz => hx z (by simp [hz])) (fun z hz => hy z (by simp [hz])) (by simp at hl; omega)]
      by_cases e1 : x < y
      · rw [if_pos (by omega), if_pos e1]
      · rw [if_neg (by omega), if_neg e1]
        by_cases e2 : y < x
        · rw [if_pos (by omega), if_pos e2]
        · rw [if_neg (by omega), if_neg e2]

theorem good_mem {zs : List Int} (h : good zs = true) : ∀ z ∈ zs, -100000 ≤ z ∧ z ≤ 100000 := by
  simp only [good, Bool.and_eq_true, List.all_eq_true, inb, decide_eq_true_eq] at h
  exact h.2

theorem cmp_raised {xs ys : List Int} (hx : good xs = true) (hy : good ys = true) : cmp (raised xs) (raised ys) = cmp xs ys := by
  have h1 := good_len hx
  have h2 := good_len hy
  exact cmp_raised' xs ys _ _ (fun z hz => (good_mem hx z hz).1) (fun z hz => (good_mem hy z hz).1) (by omega)

/-- The array while it is filled. -/
def rowTo (zs : List Int) (k : Nat) : List Int := (zs.take k).map (· + 100001) ++ List.replicate (6 - k) 0

theorem rowTo_length (zs : List Int) (k : Nat) (h : k ≤ zs.length) (h6 : k ≤ 6) : (rowTo zs k).length = 6 := by simp [rowTo]; omega

theorem rowTo_set (zs : List Int) (k : Nat) (h : k < zs.length) (h6 : k < 6) : (rowTo zs k).set k (zs.getD k 0 + 100001) = rowTo zs (k + 1) := by
  unfold rowTo
  rw [List.set_append_right _ _ (by simp; omega)]
  rw [show k - (List.map (· + 100001) (List.take k zs)).length = 0 by simp; omega]
  rw [show 6 - k = (6 - (k + 1)) + 1 by omega, List.replicate_succ, List.set_cons_zero]
  rw [List.take_succ_eq_append_getElem h, List.map_append, List.append_assoc]
  simp [List.getD, h]

theorem rowTo_all (zs : List Int) : rowTo zs zs.length = raised zs := by simp [rowTo, raised]

theorem raised_length {zs : List Int} (h : zs.length ≤ 6) : (raised zs).length = 6 := by simp [raised]; omega

end Go.Proofs.Ytnfdncofobkjhaa

/- Contracts of impl.GoodRow and spec.GoodRow. -/
namespace Go.Proofs.Ytnfdncofobkjhaa
open Go.RowKit

end Go.Proofs.Ytnfdncofobkjhaa

/- Two arrays of ints, compared by '==': a law of the model's own equality. -/
namespace Go.Proofs.Ytnfdncofobkjhaa
open Go.RowKit

def eqParts (d : Nat) (e : TypeId) (n : Nat) (xs ys : Array Value) : List Nat → Sem Bool
  | [] => pure true
  | i :: is => do
    let a ← part e xs (i * n)
    let b ← part e ys (i * n)
    let r ← Op.equalIn d e a b
    if (!r) = true then pure false else eqParts d e n xs ys is

theorem run_equalIn_array {P : Program} (w : World) (d : Nat) (t e : TypeId) (i : TypeInfo) (len : Nat) (ht : P.underlying t = some (.array len e)) (hi : P.info? e = some i) (xs ys : Array Value) :
    (Op.equalIn (d + 1) t (.agg xs) (.agg ys)).run P w = (eqParts d e i.size xs ys (List.range' 0 len)).run P w := by
  simp only [Op.equalIn, Sem.run_bind, run_underlying ht, Result.andThen_ok, sizeOf, typeInfo, run_program, hi, Sem.run_pure]
  rw [Std.Legacy.Range.forIn_eq_forIn_range']
  simp only [Std.Legacy.Range.size, Nat.sub_zero, Nat.add_sub_cancel, Nat.div_one]
  generalize List.range' 0 len = is
  clear ht
  induction is generalizing w with
  | nil => simp [eqParts]
  | cons f fs ih =>
    simp only [List.forIn_cons, eqParts, Sem.run_bind, Sem.run_ite]
    generalize (part e xs (f * i.size)).run P w = r1
    cases r1 with
    | ok a w1 =>
      simp only [Result.andThen_ok]
      generalize (part e ys (f * i.size)).run P w1 = r2
      cases r2 with
      | ok b w2 =>
        simp only [Result.andThen_ok]
        generalize (Op.equalIn d e a b).run P w2 = r3
        cases r3 with
        | ok r w3 =>
          cases r
          · simp only [Result.andThen_ok, Bool.not_false, if_true, Sem.run_pure]
          · simp only [Result.andThen_ok, Bool.not_true, Bool.false_eq_true, if_false, Sem.run_pure]
            exact ih w3
        | halt x w3 => simp [Result.andThen]
      | halt x w2 => simp [Result.andThen]
    | halt x w1 => simp [Result.andThen]

theorem run_eqParts_ints {P : Program} (w : World) (d : Nat) (e : TypeId) (he : P.underlying e = some (.int .i64)) (xs ys : List Int) (is : List Nat) (hx : ∀ i ∈ is, i < xs.length) (hy : ∀ i ∈ is, i < ys.length) :
    (eqParts (d + 1) e 1 (xs.map (Value.int .i64)).toArray (ys.map (Value.int .i64)).toArray is).run P w = .ok (is.all fun i => xs.getD i 0 == ys.getD i 0) w := by
  induction is with
  | nil => simp [eqParts]
  | cons i is ih =>
    have h1 := hx i (by simp)
    have h2 := hy i (by simp)
    have ih' := ih (fun j hj => hx j (by simp [hj])) (fun j hj => hy j (by simp [hj]))
    have p1 : (part e (xs.map (Value.int .i64)).toArray (i * 1)).run P w = .ok (.int .i64 (xs.getD i 0)) w := by simp [part, isAgg, run_underlying he, List.getD, h1]
    have p2 : (part e (ys.map (Value.int .i64)).toArray (i * 1)).run P w = .ok (.int .i64 (ys.getD i 0)) w := by simp [part, isAgg, run_underlying he, List.getD, h2]
    simp only [eqParts, Sem.run_bind, p1, p2, Result.andThen_ok, run_equalIn_int w d e .i64 .i64 _ _ he, Sem.run_ite, ih']
    cases h : (xs.getD i 0 == ys.getD i 0) <;> simp [Sem.run_pure]
    all_goals (simp at h; simp [h])

theorem all_range_eq (xs ys : List Int) (h : xs.length = ys.length) : ((List.range' 0 xs.length).all fun i => xs.getD i 0 == ys.getD i 0) = decide (xs = ys) := by
  rw [Bool.eq_iff_iff, List.all_eq_true, decide_eq_true_eq]
  constructor
  · intro hall
    apply List.ext_getElem h
    intro i h1 h2
    have := hall i (by simp; omega)
    simpa [List.getD, h1, h2] using this
  · rintro rfl i _
    simp

theorem run_equal_ints {P : Program} {len : Nat} (w : World) (d : Nat) (t e : TypeId) (i : TypeInfo) (ht : P.underlying t = some (.array len e)) (he : P.underlying e = some (.int .i64)) (hi : P.info? e = some i) (hs : i.size = 1)
    (xs ys : List Int) (hx : xs.length = len) (hy : ys.length = len) :
    (Op.equalIn (d + 1 + 1) t (.agg (xs.map (Value.int .i64)).toArray) (.agg (ys.map (Value.int .i64)).toArray)).run P w = .ok (decide (xs = ys)) w := by
  rw [run_equalIn_array w (d + 1) t e i len ht hi, hs, run_eqParts_ints w d e he xs ys _ (by simp; omega) (by simp; omega), ← hx, all_range_eq xs ys (by omega)]

end Go.Proofs.Ytnfdncofobkjhaa

/- Contract of impl.arrayOf. -/
namespace Go.Proofs.Ytnfdncofobkjhaa
open Go.RowKit

end Go.Proofs.Ytnfdncofobkjhaa

/- Contracts of spec.l1Compare, impl.compareArrays. -/
namespace Go.Proofs.Ytnfdncofobkjhaa
open Go.RowKit

end Go.Proofs.Ytnfdncofobkjhaa

/- Plain functions on lists of weighted rows: what a good table is. -/
namespace Go.Proofs.Ytnfdncofobkjhaa

def inw (x : Int) : Bool := decide (-1000000 ≤ x) && decide (x ≤ 1000000)
def inc (p : Int) : Bool := decide (0 ≤ p) && decide (p ≤ 6)
/-- A row that may be handed in. -/
def goodW (p : Int) (t : WRow) : Bool := good t.1 && (decide ((t.1.length : Int) = p) && inw t.2)
/-- The k-th row may stand in a table. -/
def stepB (p : Int) (ts : List WRow) (k : Nat) : Bool := goodW p (wat ts k) && (!decide ((wat ts k).2 = 0) && (decide (k = 0) || decide (cmp (wat ts (k - 1)).1 (wat ts k).1 < 0)))
/-- A good table. -/
def goodT (p : Int) (ts : List WRow) : Bool := inc p && (decide (ts.length ≤ 60) && (List.range ts.length).all (stepB p ts))
def goodL (p : Int) (ts : List WRow) : Bool := ts.all (goodW p)

theorem goodW_cells {p : Int} {t : WRow} (h : goodW p t = true) : good t.1 = true ∧ (t.1.length : Int) = p ∧ -1000000 ≤ t.2 ∧ t.2 ≤ 1000000 := by
  simpa [goodW, inw] using h
theorem goodW_mk {p : Int} {t : WRow} (h1 : good t.1 = true) (h2 : (t.1.length : Int) = p) (h3 : inw t.2 = true) : goodW p t = true := by
  simp [goodW, h1, h2, h3]
theorem goodW_row {p : Int} {t : WRow} (h : good t.1 = false) : goodW p t = false := by simp [goodW, h]
theorem goodW_len {p : Int} {t : WRow} (h : (t.1.length : Int) ≠ p) : goodW p t = false := by simp [goodW, h]
theorem goodW_wt {p : Int} {t : WRow} (h : inw t.2 = false) : goodW p t = false := by simp [goodW, h]

theorem wat_mem {ts : List WRow} {k : Nat} (h : k < ts.length) : wat ts k ∈ ts := by
  rw [show wat ts k = ts[k] by simp [wat, List.getD, h]]; exact List.getElem_mem h

theorem goodL_of {p : Int} {ts : List WRow} (h : ∀ k, k < ts.length → goodW p (wat ts k) = true) : goodL p ts = true := by
  unfold goodL
  rw [List.all_eq_true]
  intro t ht
  obtain ⟨k, hk, rfl⟩ := List.getElem_of_mem ht
  simpa [wat, List.getD, hk] using h k hk
theorem goodL_at {p : Int} {ts : List WRow} (h : goodL p ts = true) (k : Nat) (hk : k < ts.length) : goodW p (wat ts k) = true := List.all_eq_true.1 h _ (wat_mem hk)
theorem goodL_not {p : Int} {ts : List WRow} (k : Nat) (hk : k < ts.length) (h : goodW p (wat ts k) = false) : goodL p ts = false := by
  cases hg : goodL p ts with
  | false => rfl
  | true => rw [goodL_at hg k hk] at h; cases h

theorem goodT_of {p : Int} {ts : List WRow} (h1 : inc p = true) (h2 : ts.length ≤ 60) (h : ∀ k, k < ts.length → stepB p ts k = true) : goodT p ts = true := by
  simp only [goodT, h1, decide_eq_true h2, Bool.true_and, List.all_eq_true, List.mem_range]; exact h
theorem goodT_parts {p : Int} {ts : List WRow} (h : goodT p ts = true) : inc p = true ∧ ts.length ≤ 60 ∧ ∀ k, k < ts.length → stepB p ts k = true := by
  simpa only [goodT, Bool.and_eq_true, decide_eq_true_eq, List.all_eq_true, List.mem_range] using h
theorem goodT_col {p : Int} {ts : List WRow} (h : inc p = false) : goodT p ts = false := by simp [goodT, h]
theorem goodT_len {p : Int} {ts : List WRow} (h : 60 < ts.length) : goodT p ts = false := by
  have : decide (ts.length ≤ 60) = false := by simp; omega
  simp [goodT, this]
theorem goodT_not {p : Int} {ts : List WRow} (k : Nat) (hk : k < ts.length) (h : stepB p ts k = false) : goodT p ts = false := by
  cases hg : goodT p ts with
  | false => rfl
  | true => rw [(goodT_parts hg).2.2 k hk] at h; cases h
theorem stepB_good {p : Int} {ts : List WRow} {k : Nat} (h : stepB p ts k = true) : goodW p (wat ts k) = true := by
  simp only [stepB, Bool.and_eq_true] at h; exact h.1
theorem stepB_row {p : Int} {ts : List WRow} {k : Nat} (h : goodW p (wat ts k) = false) : stepB p ts k = false := by simp only [stepB, h, Bool.false_and]
theorem stepB_zero {p : Int} {ts : List WRow} {k : Nat} (h : (wat ts k).2 = 0) : stepB p ts k = false := by simp only [stepB, h, decide_true, Bool.not_true, Bool.false_and, Bool.and_false]
theorem stepB_cmp {p : Int} {ts : List WRow} {k : Nat} (h0 : k ≠ 0) (h : ¬ cmp (wat ts (k - 1)).1 (wat ts k).1 < 0) : stepB p ts k = false := by
  simp only [stepB, decide_eq_false h0, decide_eq_false h, Bool.or_false, Bool.and_false]
theorem stepB_mk {p : Int} {ts : List WRow} {k : Nat} (h1 : goodW p (wat ts k) = true) (h2 : (wat ts k).2 ≠ 0) (h3 : k = 0 ∨ cmp (wat ts (k - 1)).1 (wat ts k).1 < 0) : stepB p ts k = true := by
  rcases h3 with h3 | h3 <;> simp only [stepB, h1, decide_eq_false h2, decide_eq_true h3, Bool.not_false, Bool.true_and, Bool.or_true, Bool.true_or]
theorem goodL_of_goodT {p : Int} {ts : List WRow} (h : goodT p ts = true) : goodL p ts = true := goodL_of fun k hk => stepB_good ((goodT_parts h).2.2 k hk)
theorem goodT_goodL {p : Int} {ts : List WRow} (h : goodL p ts = false) : goodT p ts = false := by
  cases hg : goodT p ts with
  | false => rfl
  | true => rw [goodL_of_goodT hg] at h; cases h
theorem inc_range {p : Int} (h : inc p = true) : 0 ≤ p ∧ p ≤ 6 := by simpa [inc] using h

/-- cmp tells -1, 0 or 1. -/
theorem cmp_range (xs : List Int) : ∀ ys, cmp xs ys = -1 ∨ cmp xs ys = 0 ∨ cmp xs ys = 1 := by
  induction xs with
  | nil => intro ys; cases ys <;> simp [cmp]
  | cons x xs ih =>
    intro ys
    cases ys with
    | nil => simp [cmp]
    | cons y ys =>
      simp only [cmp]
      by_cases h1 : x < y
      · simp [h1]
      · by_cases h2 : y < x
        · simp [h1, h2]
        · simp [h1, h2, ih ys]

end Go.Proofs.Ytnfdncofobkjhaa

/- Plain facts: cmp is an order of the rows; the rows of a good table rise; the weight of a row. -/
namespace Go.Proofs.Ytnfdncofobkjhaa

theorem cmp_eq {xs : List Int} : ∀ {ys : List Int}, cmp xs ys = 0 → xs = ys := by
  induction xs with
  | nil => intro ys h; cases ys with
    | nil => rfl
    | cons y ys => simp [cmp] at h
  | cons x xs ih =>
    intro ys h
    cases ys with
    | nil => simp [cmp] at h
    | cons y ys =>
      simp only [cmp] at h
      by_cases h1 : x < y
      · simp [h1] at h
      · by_cases h2 : y < x
        · simp [h1, h2] at h
        · simp only [if_neg h1, if_neg h2] at h
          obtain rfl : x = y := by omega
          rw [ih h]

theorem cmp_swap (xs : List Int) : ∀ ys, cmp ys xs = - cmp xs ys := by
  induction xs with
  | nil => intro ys; cases ys <;> simp [cmp]
  | cons x xs ih =>
    intro ys
    cases ys with
    | nil => simp [cmp]
    | cons y ys =>
      simp only [cmp]
      by_cases h1 : x < y
      · rw [if_neg (by omega), if_pos h1, if_pos h1]; rfl
      · by_cases h2 : y < x
        · rw [if_pos h2, if_neg h1, if_pos h2]
        · rw [if_neg h2, if_neg h1, if_neg h1, if_neg h2, ih ys]

theorem cmp_trans {xs : List Int} : ∀ {ys zs : List Int}, cmp xs ys < 0 → cmp ys zs < 0 → cmp xs zs < 0 := by
  induction xs with
  | nil =>
    intro ys zs h1 h2
    cases ys with
    | nil => simp [cmp] at h1
    | cons y ys => cases zs with
      | nil => simp [cmp] at h2
      | cons z zs => simp [cmp]
  | cons x xs ih =>
    intro ys zs h1 h2
    cases ys with
    | nil => simp [cmp] at h1
    | cons y ys => cases zs with
      | nil => simp [cmp] at h2
      | cons z zs =>
        simp only [cmp] at *
        by_cases a1 : x < y
        · by_cases a2 : y < z
          · rw [if_pos (by omega)]; omega
          · rw [if_neg a2] at h2
            by_cases a3 : z < y
            · rw [if_pos a3] at h2; omega
            · rw [if_pos (by omega)]; omega
        · rw [if_neg a1] at h1
          by_cases a1' : y < x
          · rw [if_pos a1'] at h1; omega
          · rw [if_neg a1'] at h1
            by_cases a2 : y < z
            · rw [if_pos (by omega)]; omega
            · rw [if_neg a2] at h2
              by_cases a3 : z < y
              · rw [if_pos a3] at h2; omega
              · rw [if_neg a3] at h2
                rw [if_neg (by omega), if_neg (by omega)]
                exact ih h1 h2

theorem cmp_irrefl (xs : List Int) : ¬ cmp xs xs < 0 := by rw [cmp_self]; omega
theorem cmp_ne {xs ys : List Int} (h : cmp xs ys < 0) : xs ≠ ys := fun e => by rw [e] at h; exact cmp_irrefl ys h

/-- Rows that rise. -/
def Rises (ts : List WRow) : Prop := ts.Pairwise fun s t => cmp s.1 t.1 < 0

theorem rises_of {ts : List WRow} (h : ∀ k, k + 1 < ts.length → cmp (wat ts k).1 (wat ts (k + 1)).1 < 0) : Rises ts := by
  induction ts with
  | nil => exact List.Pairwise.nil
  | cons t ts ih =>
    have ih' : Rises ts := ih fun k hk => by simpa [wat, List.getD] using h (k + 1) (by simpa using hk)
    refine List.pairwise_cons.2 ⟨fun s hs => ?_, ih'⟩
    cases ts with
    | nil => simp at hs
    | cons u us =>
      have h0 : cmp t.1 u.1 < 0 := by simpa [wat, List.getD] using h 0 (by simp)
      rcases List.mem_cons.1 hs with rfl | hs
      · exact h0
      · exact cmp_trans h0 ((List.pairwise_cons.1 ih').1 s hs)

theorem goodT_rises {p : Int} {ts : List WRow} (h : goodT p ts = true) : Rises ts := rises_of fun k hk => by
  have := (goodT_parts h).2.2 (k + 1) hk
  simp only [stepB, Bool.and_eq_true, Bool.or_eq_true, decide_eq_true_eq] at this
  rcases this.2.2 with h0 | h0
  · omega
  · simpa using h0

theorem raised_inj {xs ys : List Int} (hx : good xs = true) (hy : good ys = true) (h : raised xs = raised ys) : xs = ys := by
  apply cmp_eq
  rw [← cmp_raised hx hy, h, cmp_self]

/-- The weight of a row, 0 where it is not there. -/
def wOf (ts : List WRow) (zs : List Int) : Int := ((ts.find? fun t => decide (t.1 = zs)).map fun t => t.2).getD 0

theorem wOf_nil (zs : List Int) : wOf [] zs = 0 := rfl
theorem wOf_cons (t : WRow) (ts : List WRow) (zs : List Int) : wOf (t :: ts) zs = if t.1 = zs then t.2 else wOf ts zs := by
  unfold wOf
  by_cases e : t.1 = zs <;> simp [e]
theorem wOf_absent {ts : List WRow} {zs : List Int} (h : ∀ t ∈ ts, t.1 ≠ zs) : wOf ts zs = 0 := by
  induction ts with
  | nil => rfl
  | cons t ts ih => rw [wOf_cons, if_neg (h t (by simp))]; exact ih fun s hs => h s (by simp [hs])
theorem wOf_drop (ts : List WRow) (k : Nat) (zs : List Int) (h : k < ts.length) : wOf (ts.drop k) zs = if (wat ts k).1 = zs then (wat ts k).2 else wOf (ts.drop (k + 1)) zs := by
  rw [List.drop_eq_getElem_cons h, wOf_cons]
  simp [wat, List.getD, h]

end Go.Proofs.Ytnfdncofobkjhaa
