/- Cells that mean weighted rows, whoever owns them; 'append(out, xs...)' of whatever elements. -/
import Derived.Test.YtecaaekilbdgdaaGroundT
import Derived.Test.YtecaaekilbdgdaaAppendAll
namespace Go.Proofs.Ytecaaekilbdgdaa
open Go.RowKit

/-- Cells that mean weighted rows. -/
def Means (w : World) : List Value → List WRow → Prop
  | [], [] => True
  | u :: v :: cs, t :: ts => (∃ a c, u = .slice a t.1.length c ∧ (a = none → c = 0) ∧ At w a t.1) ∧ t.1.length ≤ 9223372036854775807 ∧ v = .int .i64 t.2 ∧ Means w cs ts
  | _, _ => False

theorem Means.nil (w : World) : Means w [] [] := trivial
theorem Means.one {w : World} {a : Option Addr} {zs : List Int} {n c : Nat} {x : Int} (hn : zs.length = n) (h6 : n ≤ 9223372036854775807) (hnil : a = none → c = 0) (h : At w a zs) : Means w [.slice a n c, .int .i64 x] [(zs, x)] :=
  ⟨⟨a, c, by rw [hn], hnil, h⟩, by simp only [hn]; exact h6, rfl, trivial⟩

set_option linter.unusedVariables false in
theorem Means.length {w : World} : ∀ {cs : List Value} {ts : List WRow}, Means w cs ts → cs.length = ts.length * 2
  | [], [], _ => rfl
  | [], _ :: _, h => h.elim
  | [_], [], h => h.elim
  | [_], _ :: _, h => h.elim
  | _ :: _ :: _, [], h => h.elim
  | u :: v :: cs, t :: ts, ⟨_, _, _, h⟩ => by have := Means.length h; simp [this]; omega

set_option linter.unusedVariables false in
theorem Means.below {w w' : World} (hb : Below w.heap.size w w') : ∀ {cs : List Value} {ts : List WRow}, Means w cs ts → Means w' cs ts
  | [], [], _ => trivial
  | [], _ :: _, h => h.elim
  | [_], [], h => h.elim
  | [_], _ :: _, h => h.elim
  | _ :: _ :: _, [], h => h.elim
  | u :: v :: cs, t :: ts, ⟨⟨a, c, h1, h0, h2⟩, h3, h4, h5⟩ => ⟨⟨a, c, h1, h0, h2.below hb⟩, h3, h4, Means.below hb h5⟩

set_option linter.unusedVariables false in
theorem Means.append {w : World} : ∀ {cs cs' : List Value} {ts ts' : List WRow}, Means w cs ts → Means w cs' ts' → Means w (cs ++ cs') (ts ++ ts')
  | [], _, [], _, _, h => h
  | [], _, _ :: _, _, h, _ => h.elim
  | [_], _, [], _, h, _ => h.elim
  | [_], _, _ :: _, _, h, _ => h.elim
  | _ :: _ :: _, _, [], _, h, _ => h.elim
  | u :: v :: cs, cs', t :: ts, ts', ⟨h1, h2, h3, h4⟩, h => ⟨h1, h2, h3, Means.append h4 h⟩

set_option linter.unusedVariables false in
theorem Means.take {w : World} : ∀ {cs : List Value} {ts : List WRow} (k : Nat), Means w cs ts → Means w (cs.take (k * 2)) (ts.take k)
  | [], [], _, _ => by simp [Means]
  | [], _ :: _, _, h => h.elim
  | [_], [], _, h => h.elim
  | [_], _ :: _, _, h => h.elim
  | _ :: _ :: _, [], _, h => h.elim
  | u :: v :: cs, t :: ts, 0, _ => by simp [Means]
  | u :: v :: cs, t :: ts, k + 1, ⟨h1, h2, h3, h4⟩ => by
    rw [show (k + 1) * 2 = k * 2 + 1 + 1 by omega]
    exact ⟨h1, h2, h3, Means.take k h4⟩
set_option linter.unusedVariables false in
theorem Means.drop {w : World} : ∀ {cs : List Value} {ts : List WRow} (k : Nat), Means w cs ts → Means w (cs.drop (k * 2)) (ts.drop k)
  | [], [], _, _ => by simp [Means]
  | [], _ :: _, _, h => h.elim
  | [_], [], _, h => h.elim
  | [_], _ :: _, _, h => h.elim
  | _ :: _ :: _, [], _, h => h.elim
  | u :: v :: cs, t :: ts, 0, h => by simpa using h
  | u :: v :: cs, t :: ts, k + 1, ⟨h1, h2, h3, h4⟩ => by
    rw [show (k + 1) * 2 = k * 2 + 1 + 1 by omega]
    exact Means.drop k h4

set_option linter.unusedVariables false in
theorem Means.at {w : World} : ∀ {cs : List Value} {ts : List WRow} (i : Nat), Means w cs ts → i < ts.length → ∃ a c, cs[i * 2]? = some (.slice a (wat ts i).1.length c) ∧ cs[i * 2 + 1]? = some (.int .i64 (wat ts i).2) ∧ (wat ts i).1.length ≤ 9223372036854775807 ∧ (a = none → c = 0) ∧ At w a (wat ts i).1
  | [], [], _, _, h => by simp at h
  | [], _ :: _, _, h, _ => h.elim
  | [_], [], _, h, _ => h.elim
  | [_], _ :: _, _, h, _ => h.elim
  | _ :: _ :: _, [], _, h, _ => h.elim
  | u :: v :: cs, t :: ts, 0, ⟨⟨a, c, h1, h0, h2⟩, h3, h4, _⟩, _ => ⟨a, c, by simp [wat, h1], by simp [wat, h4], by simpa [wat] using h3, h0, by simpa [wat] using h2⟩
  | u :: v :: cs, t :: ts, i + 1, ⟨_, _, _, h5⟩, hi => by
    obtain ⟨a, c, k1, k2, k3, k0, k4⟩ := Means.at i h5 (by simpa using hi)
    have e : wat (t :: ts) (i + 1) = wat ts i := by simp [wat]
    rw [e]
    refine ⟨a, c, ?_, ?_, k3, k0, k4⟩
    · rw [show (i + 1) * 2 = i * 2 + 1 + 1 by omega]; simpa using k1
    · rw [show (i + 1) * 2 + 1 = (i * 2 + 1) + 1 + 1 by omega]; simpa using k2

set_option linter.unusedVariables false in
theorem Means.oneCell {w : World} : ∀ {cs : List Value} {ts : List WRow}, Means w cs ts → ∀ u ∈ cs, u.oneCell' = true
  | [], [], _, _, h => by cases h
  | [], _ :: _, h, _, _ => h.elim
  | [_], [], h, _, _ => h.elim
  | [_], _ :: _, h, _, _ => h.elim
  | _ :: _ :: _, [], h, _, _ => h.elim
  | u :: v :: cs, t :: ts, ⟨⟨a, c, h1, _, _⟩, _, h4, h5⟩, x, hx => by
    rcases List.mem_cons.1 hx with rfl | hx
    · subst h1; rfl
    · rcases List.mem_cons.1 hx with rfl | hx
      · subst h4; rfl
      · exact Means.oneCell h5 x hx

theorem means_of {w : World} : ∀ {ts : List WRow} {cs : List Value}, cs.length = ts.length * 2 → (∀ i, i < ts.length → ∃ a c, cs[i * 2]? = some (.slice a (wat ts i).1.length c) ∧ cs[i * 2 + 1]? = some (.int .i64 (wat ts i).2) ∧ (wat ts i).1.length ≤ 9223372036854775807 ∧ (a = none → c = 0) ∧ At w a (wat ts i).1) → Means w cs ts
  | [], [], _, _ => trivial
  | [], _ :: _, h, _ => by simp at h
  | _ :: _, [], h, _ => by simp at h
  | _ :: _, [_], h, _ => by simp at h; omega
  | t :: ts, u :: v :: cs, hl, h => by
    obtain ⟨a, c, k1, k2, k3, k0, k4⟩ := h 0 (by simp)
    have e : wat (t :: ts) 0 = t := by simp [wat]
    rw [e] at k1 k2 k3 k4
    refine ⟨⟨a, c, by simpa using k1, k0, k4⟩, k3, by simpa using k2, means_of (by simp at hl; omega) fun i hi => ?_⟩
    obtain ⟨a, c, k1, k2, k3, k0, k4⟩ := h (i + 1) (by simpa using hi)
    have e : wat (t :: ts) (i + 1) = wat ts i := by simp [wat]
    rw [e] at k1 k2 k3 k4
    rw [show (i + 1) * 2 = i * 2 + 1 + 1 by omega] at k1 k2
    exact ⟨a, c, by simpa using k1, by simpa using k2, k3, k0, k4⟩

theorem Means.atW {w : World} {cs : List Value} {ts : List WRow} {b off : Nat} (h : Means w cs ts) (hc : ∀ j u, cs[j]? = some u → w.cell? ⟨b, off + j, none⟩ = some u) : AtW w (some ⟨b, off, none⟩) ts :=
  .inr ⟨b, off, rfl, fun i hi => by
    obtain ⟨a, c, k1, k2, k3, _, k4⟩ := h.at i hi
    exact ⟨a, c, by rw [hc _ _ k1], by rw [show off + i * 2 + 1 = off + (i * 2 + 1) by omega, hc _ _ k2], k3, k4⟩⟩

theorem Means.owned {w : World} {cs : List Value} {ts : List WRow} {base : Nat} {e : TypeId} {a : Option Addr} {n c : Nat} (h : Means w cs ts) (hn : ts.length = n) (ho : w.ownsRow base e 2 (.slice a n c) n cs) : AtW w a ts := by
  have hl := h.length
  rcases ho.2 with ⟨h', rfl⟩ | ⟨g, cap, cur, h', _⟩
  · left; exact List.eq_nil_of_length_eq_zero hn
  · simp only [Value.slice.injEq, true_and] at h'
    obtain ⟨rfl, rfl⟩ := h'
    refine h.atW fun j u hj => ?_
    have hj' := (List.getElem?_eq_some_iff.1 hj).1
    rw [Nat.zero_add, ho.cellAt j (by omega)]
    exact hj

/-- A slice of weighted rows as a model's function reads it: where a row's slice is nil it has no room. -/
def AtM (w : World) (a : Option Addr) (ts : List WRow) : Prop :=
  ts = [] ∨ ∃ b off cs, a = some ⟨b, off, none⟩ ∧ Means w cs ts ∧ ∀ j u, cs[j]? = some u → w.cell? ⟨b, off + j, none⟩ = some u

theorem AtM.atW {w : World} {a : Option Addr} {ts : List WRow} (h : AtM w a ts) : AtW w a ts := by
  rcases h with rfl | ⟨b, off, cs, rfl, hm, hc⟩
  · exact .inl rfl
  · exact hm.atW hc
theorem AtM.below {w w' : World} {a : Option Addr} {ts : List WRow} (h : AtM w a ts) (hb : Below w.heap.size w w') : AtM w' a ts := by
  rcases h with rfl | ⟨b, off, cs, rfl, hm, hc⟩
  · exact .inl rfl
  · exact .inr ⟨b, off, cs, rfl, hm.below hb, fun j u hj => cell_later hb (hc j u hj)⟩
theorem AtM.alloc {w : World} {a : Option Addr} {ts : List WRow} (h : AtM w a ts) (o : Obj) : AtM (w.alloc o) a ts := h.below ((Below.refl _ _).alloc (Nat.le_refl _) o)
theorem AtM.drew {w : World} {a : Option Addr} {ts : List WRow} (h : AtM w a ts) : AtM w.drew a ts := h.below (Below.refl _ _).drew
theorem atM_nil (w : World) (a : Option Addr) : AtM w a [] := .inl rfl
theorem Means.ownedM {w : World} {cs : List Value} {ts : List WRow} {base : Nat} {e : TypeId} {a : Option Addr} {n c : Nat} (h : Means w cs ts) (hn : ts.length = n) (ho : w.ownsRow base e 2 (.slice a n c) n cs) : AtM w a ts := by
  have hl := h.length
  rcases ho.2 with ⟨h', rfl⟩ | ⟨g, cap, cur, h', _⟩
  · left; exact List.eq_nil_of_length_eq_zero hn
  · simp only [Value.slice.injEq, true_and] at h'
    obtain ⟨rfl, rfl⟩ := h'
    refine .inr ⟨g, 0, cs, rfl, h, fun j u hj => ?_⟩
    have hj' := (List.getElem?_eq_some_iff.1 hj).1
    rw [Nat.zero_add, ho.cellAt j (by omega)]
    exact hj
theorem owns_nil {w : World} {base : Nat} {e : TypeId} {size : Nat} {a : Option Addr} {n c : Nat} {xs : List Value} (h : w.ownsRow base e size (.slice a n c) n xs) : a = none → c = 0 := by
  rintro rfl
  rcases h.2 with ⟨h', _⟩ | ⟨g, cap, cur, h', _⟩
  · simp at h'; exact h'.2
  · simp at h'
theorem OwnWk.means {w : World} {lo hi : Nat} {te ti : TypeId} {a : Option Addr} {n c : Nat} {ts : List WRow} {cells : List Value} (h : OwnW w lo hi te ti a n c ts cells) (hs : ∀ i, i < n → (wat ts i).1.length ≤ 9223372036854775807) : Means w cells ts :=
  means_of (by rw [h.len]; exact h.outer.1) fun i hi => by
    rw [h.len] at hi
    obtain ⟨a', c', k1, k2, k3⟩ := h.row i hi
    exact ⟨a', c', k1, k2, hs i hi, owns_nil k3, At.owned k3⟩
theorem OwnWk.atM {w : World} {lo hi : Nat} {te ti : TypeId} {a : Option Addr} {n c : Nat} {ts : List WRow} {cells : List Value} (h : OwnW w lo hi te ti a n c ts cells) (hs : ∀ i, i < n → (wat ts i).1.length ≤ 9223372036854775807) : AtM w a ts :=
  (h.means hs).ownedM h.len h.outer
/-- One row of it. -/
theorem AtM.some {w : World} {a : Option Addr} {ts : List WRow} (h : AtM w a ts) (hp : 0 < ts.length) :
    ∃ b off, a = Option.some ⟨b, off, none⟩ ∧ ∀ i, i < ts.length → ∃ a' c', w.cell? ⟨b, off + i * 2, none⟩ = Option.some (.slice a' (wat ts i).1.length c') ∧ w.cell? ⟨b, off + i * 2 + 1, none⟩ = Option.some (.int .i64 (wat ts i).2) ∧
      (wat ts i).1.length ≤ 9223372036854775807 ∧ (a' = none → c' = 0) ∧ At w a' (wat ts i).1 := by
  rcases h with rfl | ⟨b, off, cs, rfl, hm, hc⟩
  · simp at hp
  · refine ⟨b, off, rfl, fun i hi => ?_⟩
    obtain ⟨a', c', k1, k2, k3, k0, k4⟩ := hm.at i hi
    exact ⟨a', c', hc _ _ k1, by rw [show off + i * 2 + 1 = off + (i * 2 + 1) by omega]; exact hc _ _ k2, k3, k0, k4⟩

theorem wpList_append_any {P : Program} {w : World} {ops : Array Oper} {rest : List Oper} {o : Oper} {a : Act} {Q : Exit → Act → World → Prop} (hgd : o.guard = none) (s x : Operand) (t : TypeId)
    (ho : o.op = .call { callee := .builtin .append, args := #[s, x], argTypes := #[t, t] })
    (base : Nat) (e : TypeId) (i : TypeInfo) (z : Value) (size bytes : Nat) (ht : P.underlying t = some (.slice e)) (hi : P.info? e = some i) (hz : i.zero = some z)
    (hsize : i.size = size) (hby : i.bytes = bytes) (hzs : z.cells.size = size) (hsz : 0 < size)
    (v : Value) (n : Nat) (xs : List Value) (hs : a.eval s = v) (hown : w.ownsRow base e size v n xs)
    (ad : Addr) (m c : Nat) (news : List Value) (hx : a.eval x = .slice (some ad) m c) (hl : news.length = m * size) (hat : ∀ j u, news[j]? = some u → w.cell? (ad.add j) = some u) (h1 : ∀ u ∈ news, u.oneCell' = true)
    (h63 : n + m ≤ maxLen) (hbytes : (n + m) * bytes ≤ 140737488355328) (hbase : base ≤ w.heap.size)
    (h : ∀ r cap w', w'.ownsRow base e size (.slice r (n + m) cap) (n + m) (xs ++ news) → w.grownBy w' v.ownBlock → wpList P ops Q rest (a.put o.dst (.slice r (n + m) cap)) w') : wpList P ops Q (o :: rest) a w := by
  refine wpList_append_own w hgd s x t ho base e i z size bytes ht hi hz hsize hby hzs hsz v n xs hs hown ad m c news hx hl hat h1 h63 hbytes hbase ?_
  intro v' w' h2 h3 _
  obtain ⟨r, cap, rfl⟩ := owns_slice h2
  exact h r cap w' h2 h3

end Go.Proofs.Ytecaaekilbdgdaa
