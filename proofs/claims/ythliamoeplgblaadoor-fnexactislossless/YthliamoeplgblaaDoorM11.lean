/- Several texts of one proof, in build order: GroundM, L2Own, AtR, ChT, Pick. -/
import Derived.Test.YthliamoeplgblaaDoorM1
import Derived.Test.YthliamoeplgblaaDoorM5
import Derived.Test.YthliamoeplgblaaDoorM3
import Derived.Test.YthliamoeplgblaaDoorM10
import Derived.Test.YthliamoeplgblaaDoorM7
import Derived.Test.YthliamoeplgblaaDoorM4
import Derived.Deep.AppendLies
import Derived.Deep.RegionLaw

/- Cells that mean weighted rows, whoever owns them; 'append(out, xs...)' of whatever elements. -/
namespace Go.Proofs.YthliamoeplgblaaDoor
open Go.RowKit

/-- Cells that mean weighted rows. -/
def Means (w : World) : List Value → List WRow → Prop
  | [], [] => True
  | u :: v :: cs, t :: ts => (∃ a c, u = .slice a t.1.length c ∧ (a = none → c = 0) ∧ At w a t.1) ∧ t.1.length ≤ 9223372036854775807 ∧ v = .int .i64 t.2 ∧ Means w cs ts
  | _, _ => False

theorem Means.nil (w : World) : Means w [] [] := trivial
theorem Means.one {w : World} {a : Option Addr} {zs : List Int} {n c : Nat} {x : Int} (hn : zs.length = n) (h6 : n ≤ 9223372036854775807) (hnil : a = none → c = 0) (h : At w a zs) : Means w [.slice a n c, .int .i64 x] [(zs, x)] :=
  ⟨⟨a, c, by rw [hn], hnil, h⟩, by simp only [hn]; exact h6, rfl, trivial⟩

set_option linter.unusedVariables false in
theorem Means.length {w : World} : ∀ {cs : List Value} {ts : List WRow}, Means w cs ts → cs.length = ts.length * 2
  | [], [], _ => rfl
  | [], _ :: _, h => h.elim
  | [_], [], h => h.elim
  | [_], _ :: _, h => h.elim
  | _ :: _ :: _, [], h => h.elim
  | u :: v :: cs, t :: ts, ⟨_, _, _, h⟩ => by have := Means.length h; simp [this]; omega

set_option linter.unusedVariables false in
theorem Means.below {w w' : World} (hb : Below w.heap.size w w') : ∀ {cs : List Value} {ts : List WRow}, Means w cs ts → Means w' cs ts
  | [], [], _ => trivial
  | [], _ :: _, h => h.elim
  | [_], [], h => h.elim
  | [_], _ :: _, h => h.elim
  | _ :: _ :: _, [], h => h.elim
  | u :: v :: cs, t :: ts, ⟨⟨a, c, h1, h0, h2⟩, h3, h4, h5⟩ => ⟨⟨a, c, h1, h0, h2.below hb⟩, h3, h4, Means.below hb h5⟩

set_option linter.unusedVariables false in
theorem Means.append {w : World} : ∀ {cs cs' : List Value} {ts ts' : List WRow}, Means w cs ts → Means w cs' ts' → Means w (cs ++ cs') (ts ++ ts')
  | [], _, [], _, _, h => h
  | [], _, _ :: _, _, h, _ => h.elim
  | [_], _, [], _, h, _ => h.elim
  | [_], _, _ :: _, _, h, _ => h.elim
  | _ :: _ :: _, _, [], _, h, _ => h.elim
  | u :: v :: cs, cs', t :: ts, ts', ⟨h1, h2, h3, h4⟩, h => ⟨h1, h2, h3, Means.append h4 h⟩

set_option linter.unusedVariables false in
theorem Means.take {w : World} : ∀ {cs : List Value} {ts : List WRow} (k : Nat), Means w cs ts → Means w (cs.take (k * 2)) (ts.take k)
  | [], [], _, _ => by simp [Means]
  | [], _ :: _, _, h => h.elim
  | [_], [], _, h => h.elim
  | [_], _ :: _, _, h => h.elim
  | _ :: _ :: _, [], _, h => h.elim
  | u :: v :: cs, t :: ts, 0, _ => by simp [Means]
  | u :: v :: cs, t :: ts, k + 1, ⟨h1, h2, h3, h4⟩ => by
    rw [show (k + 1) * 2 = k * 2 + 1 + 1 by omega]
    exact ⟨h1, h2, h3, Means.take k h4⟩
set_option linter.unusedVariables false in
theorem Means.drop {w : World} : ∀ {cs : List Value} {ts : List WRow} (k : Nat), Means w cs ts → Means w (cs.drop (k * 2)) (ts.drop k)
  | [], [], _, _ => by simp [Means]
  | [], _ :: _, _, h => h.elim
  | [_], [], _, h => h.elim
  | [_], _ :: _, _, h => h.elim
  | _ :: _ :: _, [], _, h => h.elim
  | u :: v :: cs, t :: ts, 0, h => by simpa using h
  | u :: v :: cs, t :: ts, k + 1, ⟨h1, h2, h3, h4⟩ => by
    rw [show (k + 1) * 2 = k * 2 + 1 + 1 by omega]
    exact Means.drop k h4

set_option linter.unusedVariables false in
theorem Means.at {w : World} : ∀ {cs : List Value} {ts : List WRow} (i : Nat), Means w cs ts → i < ts.length → ∃ a c, cs[i * 2]? = some (.slice a (wat ts i).1.length c) ∧ cs[i * 2 + 1]? = some (.int .i64 (wat ts i).2) ∧ (wat ts i).1.length ≤ 9223372036854775807 ∧ (a = none → c = 0) ∧ At w a (wat ts i).1
  | [], [], _, _, h => by simp at h
  | [], _ :: _, _, h, _ => h.elim
  | [_], [], _, h, _ => h.elim
  | [_], _ :: _, _, h, _ => h.elim
  | _ :: _ :: _, [], _, h, _ => h.elim
  | u :: v :: cs, t :: ts, 0, ⟨⟨a, c, h1, h0, h2⟩, h3, h4, _⟩, _ => ⟨a, c, by simp [wat, h1], by simp [wat, h4], by simpa [wat] using h3, h0, by simpa [wat] using h2⟩
  | u :: v :: cs, t :: ts, i + 1, ⟨_, _, _, h5⟩, hi => by
    obtain ⟨a, c, k1, k2, k3, k0, k4⟩ := Means.at i h5 (by simpa using hi)
    have e : wat (t :: ts) (i + 1) = wat ts i := by simp [wat]
    rw [e]
    refine ⟨a, c, ?_, ?_, k3, k0, k4⟩
    · rw [show (i + 1) * 2 = i * 2 + 1 + 1 by omega]; simpa using k1
    · rw [show (i + 1) * 2 + 1 = (i * 2 + 1) + 1 + 1 by omega]; simpa using k2

set_option linter.unusedVariables false in
theorem Means.oneCell {w : World} : ∀ {cs : List Value} {ts : List WRow}, Means w cs ts → ∀ u ∈ cs, u.oneCell' = true
  | [], [], _, _, h => by cases h
  | [], _ :: _, h, _, _ => h.elim
  | [_], [], h, _, _ => h.elim
  | [_], _ :: _, h, _, _ => h.elim
  | _ :: _ :: _, [], h, _, _ => h.elim
  | u :: v :: cs, t :: ts, ⟨⟨a, c, h1, _, _⟩, _, h4, h5⟩, x, hx => by
    rcases List.mem_cons.1 hx with rfl | hx
    · subst h1; rfl
    · rcases List.mem_cons.1 hx with rfl | hx
      · subst h4; rfl
      · exact Means.oneCell h5 x hx

theorem means_of {w : World} : ∀ {ts : List WRow} {cs : List Value}, cs.length = ts.length * 2 → (∀ i, i < ts.length → ∃ a c, cs[i * 2]? = some (.slice a (wat ts i).1.length c) ∧ cs[i * 2 + 1]? = some (.int .i64 (wat ts i).2) ∧ (wat ts i).1.length ≤ 9223372036854775807 ∧ (a = none → c = 0) ∧ At w a (wat ts i).1) → Means w cs ts
  | [], [], _, _ => trivial
  | [], _ :: _, h, _ => by simp at h
  | _ :: _, [], h, _ => by simp at h
  | _ :: _, [_], h, _ => by simp at h; omega
  | t :: ts, u :: v :: cs, hl, h => by
    obtain ⟨a, c, k1, k2, k3, k0, k4⟩ := h 0 (by simp)
    have e : wat (t :: ts) 0 = t := by simp [wat]
    rw [e] at k1 k2 k3 k4
    refine ⟨⟨a, c, by simpa using k1, k0, k4⟩, k3, by simpa using k2, means_of (by simp at hl; omega) fun i hi => ?_⟩
    obtain ⟨a, c, k1, k2, k3, k0, k4⟩ := h (i + 1) (by simpa using hi)
    have e : wat (t :: ts) (i + 1) = wat ts i := by simp [wat]
    rw [e] at k1 k2 k3 k4
    rw [show (i + 1) * 2 = i * 2 + 1 + 1 by omega] at k1 k2
    exact ⟨a, c, by simpa using k1, by simpa using k2, k3, k0, k4⟩

theorem Means.atW {w : World} {cs : List Value} {ts : List WRow} {b off : Nat} (h : Means w cs ts) (hc : ∀ j u, cs[j]? = some u → w.cell? ⟨b, off + j, none⟩ = some u) : AtW w (some ⟨b, off, none⟩) ts :=
  .inr ⟨b, off, rfl, fun i hi => by
    obtain ⟨a, c, k1, k2, k3, _, k4⟩ := h.at i hi
    exact ⟨a, c, by rw [hc _ _ k1], by rw [show off + i * 2 + 1 = off + (i * 2 + 1) by omega, hc _ _ k2], k3, k4⟩⟩

theorem Means.owned {w : World} {cs : List Value} {ts : List WRow} {base : Nat} {e : TypeId} {a : Option Addr} {n c : Nat} (h : Means w cs ts) (hn : ts.length = n) (ho : w.ownsRow base e 2 (.slice a n c) n cs) : AtW w a ts := by
  have hl := h.length
  rcases ho.2 with ⟨h', rfl⟩ | ⟨g, cap, cur, h', _⟩
  · left; exact List.eq_nil_of_length_eq_zero hn
  · simp only [Value.slice.injEq, true_and] at h'
    obtain ⟨rfl, rfl⟩ := h'
    refine h.atW fun j u hj => ?_
    have hj' := (List.getElem?_eq_some_iff.1 hj).1
    rw [Nat.zero_add, ho.cellAt j (by omega)]
    exact hj

/-- A slice of weighted rows as a model's function reads it: where a row's slice is nil it has no room. -/
def AtM (w : World) (a : Option Addr) (ts : List WRow) : Prop :=
  ts = [] ∨ ∃ b off cs, a = some ⟨b, off, none⟩ ∧ Means w cs ts ∧ ∀ j u, cs[j]? = some u → w.cell? ⟨b, off + j, none⟩ = some u

theorem AtM.atW {w : World} {a : Option Addr} {ts : List WRow} (h : AtM w a ts) : AtW w a ts := by
  rcases h with rfl | ⟨b, off, cs, rfl, hm, hc⟩
  · exact .inl rfl
  · exact hm.atW hc
theorem AtM.below {w w' : World} {a : Option Addr} {ts : List WRow} (h : AtM w a ts) (hb : Below w.heap.size w w') : AtM w' a ts := by
  rcases h with rfl | ⟨b, off, cs, rfl, hm, hc⟩
  · exact .inl rfl
  · exact .inr ⟨b, off, cs, rfl, hm.below hb, fun j u hj => cell_later hb (hc j u hj)⟩
theorem AtM.alloc {w : World} {a : Option Addr} {ts : List WRow} (h : AtM w a ts) (o : Obj) : AtM (w.alloc o) a ts := h.below ((Below.refl _ _).alloc (Nat.le_refl _) o)
theorem AtM.drew {w : World} {a : Option Addr} {ts : List WRow} (h : AtM w a ts) : AtM w.drew a ts := h.below (Below.refl _ _).drew
theorem atM_nil (w : World) (a : Option Addr) : AtM w a [] := .inl rfl
theorem Means.ownedM {w : World} {cs : List Value} {ts : List WRow} {base : Nat} {e : TypeId} {a : Option Addr} {n c : Nat} (h : Means w cs ts) (hn : ts.length = n) (ho : w.ownsRow base e 2 (.slice a n c) n cs) : AtM w a ts := by
  have hl := h.length
  rcases ho.2 with ⟨h', rfl⟩ | ⟨g, cap, cur, h', _⟩
  · left; exact List.eq_nil_of_length_eq_zero hn
  · simp only [Value.slice.injEq, true_and] at h'
    obtain ⟨rfl, rfl⟩ := h'
    refine .inr ⟨g, 0, cs, rfl, h, fun j u hj => ?_⟩
    have hj' := (List.getElem?_eq_some_iff.1 hj).1
    rw [Nat.zero_add, ho.cellAt j (by omega)]
    exact hj
theorem owns_nil {w : World} {base : Nat} {e : TypeId} {size : Nat} {a : Option Addr} {n c : Nat} {xs : List Value} (h : w.ownsRow base e size (.slice a n c) n xs) : a = none → c = 0 := by
  rintro rfl
  rcases h.2 with ⟨h', _⟩ | ⟨g, cap, cur, h', _⟩
  · simp at h'; exact h'.2
  · simp at h'
theorem OwnWk.means {w : World} {lo hi : Nat} {te ti : TypeId} {a : Option Addr} {n c : Nat} {ts : List WRow} {cells : List Value} (h : OwnW w lo hi te ti a n c ts cells) (hs : ∀ i, i < n → (wat ts i).1.length ≤ 9223372036854775807) : Means w cells ts :=
  means_of (by rw [h.len]; exact h.outer.1) fun i hi => by
    rw [h.len] at hi
    obtain ⟨a', c', k1, k2, k3⟩ := h.row i hi
    exact ⟨a', c', k1, k2, hs i hi, owns_nil k3, At.owned k3⟩
theorem OwnWk.atM {w : World} {lo hi : Nat} {te ti : TypeId} {a : Option Addr} {n c : Nat} {ts : List WRow} {cells : List Value} (h : OwnW w lo hi te ti a n c ts cells) (hs : ∀ i, i < n → (wat ts i).1.length ≤ 9223372036854775807) : AtM w a ts :=
  (h.means hs).ownedM h.len h.outer
/-- One row of it. -/
theorem AtM.some {w : World} {a : Option Addr} {ts : List WRow} (h : AtM w a ts) (hp : 0 < ts.length) :
    ∃ b off, a = Option.some ⟨b, off, none⟩ ∧ ∀ i, i < ts.length → ∃ a' c', w.cell? ⟨b, off + i * 2, none⟩ = Option.some (.slice a' (wat ts i).1.length c') ∧ w.cell? ⟨b, off + i * 2 + 1, none⟩ = Option.some (.int .i64 (wat ts i).2) ∧
      (wat ts i).1.length ≤ 9223372036854775807 ∧ (a' = none → c' = 0) ∧ At w a' (wat ts i).1 := by
  rcases h with rfl | ⟨b, off, cs, rfl, hm, hc⟩
  · simp at hp
  · refine ⟨b, off, rfl, fun i hi => ?_⟩
    obtain ⟨a', c', k1, k2, k3, k0, k4⟩ := hm.at i hi
    exact ⟨a', c', hc _ _ k1, by rw [show off + i * 2 + 1 = off + (i * 2 + 1) by omega]; exact hc _ _ k2, k3, k0, k4⟩

theorem wpList_append_any {P : Program} {w : World} {ops : Array Oper} {rest : List Oper} {o : Oper} {a : Act} {Q : Exit → Act → World → Prop} (hgd : o.guard = none) (s x : Operand) (t : TypeId)
    (ho : o.op = .call { callee := .builtin .append, args := #[s, x], argTypes := #[t, t] })
    (base : Nat) (e : TypeId) (i : TypeInfo) (z : Value) (size bytes : Nat) (ht : P.underlying t = some (.slice e)) (hi : P.info? e = some i) (hz : i.zero = some z)
    (hsize : i.size = size) (hby : i.bytes = bytes) (hzs : z.cells.size = size) (hsz : 0 < size)
    (v : Value) (n : Nat) (xs : List Value) (hs : a.eval s = v) (hown : w.ownsRow base e size v n xs)
    (ad : Addr) (m c : Nat) (news : List Value) (hx : a.eval x = .slice (some ad) m c) (hl : news.length = m * size) (hat : ∀ j u, news[j]? = some u → w.cell? (ad.add j) = some u) (h1 : ∀ u ∈ news, u.oneCell' = true)
    (h63 : n + m ≤ maxLen) (hbytes : (n + m) * bytes ≤ 140737488355328) (hbase : base ≤ w.heap.size)
    (h : ∀ r cap w', w'.ownsRow base e size (.slice r (n + m) cap) (n + m) (xs ++ news) → w.grownBy w' v.ownBlock → wpList P ops Q rest (a.put o.dst (.slice r (n + m) cap)) w') : wpList P ops Q (o :: rest) a w := by
  refine wpList_append_own w hgd s x t ho base e i z size bytes ht hi hz hsize hby hzs hsz v n xs hs hown ad m c news hx hl hat h1 h63 hbytes hbase ?_
  intro v' w' h2 h3 _
  obtain ⟨r, cap, rfl⟩ := owns_slice h2
  exact h r cap w' h2 h3

end Go.Proofs.YthliamoeplgblaaDoor

/- Contract of spec.l2OwnRow. -/
namespace Go.Proofs.YthliamoeplgblaaDoor
open Go.RowKit

theorem owns_empty (w : World) (e : TypeId) (size : Nat) : (w.alloc (.cells #[] e)).ownsRow w.heap.size e size (.slice (some ⟨w.heap.size, 0, none⟩) 0 0) 0 [] :=
  ⟨by simp, .inr ⟨w.heap.size, 0, #[], rfl, Nat.le_refl _, heap_alloc_new w _, by simp, by simp, by simp, by simp⟩⟩

set_option maxHeartbeats 1000000 in
set_option maxRecDepth 100000 in
theorem l2OwnRow_any (a : Option Addr) (n c : Nat) (zs : List Int) (w : World) (hz : zs.length = n) (hn : n ≤ 1048576) (hnil : a = none → c = 0) (ha : At w a zs) :
    Calls Tryd.prog 68 #[.agg #[.slice a n c]] w fun e w' => ∃ r d, e = .returned (.agg #[.slice r n d]) ∧ w'.ownsRow w.heap.size 3 1 (.slice r n d) n (zs.map (.int .i64)) ∧ Below w.heap.size w w' := by
  obtain ⟨i0, hi, hz0, hz1, hz2⟩ := info_parts Tryd.infoInt
  obtain ⟨W, hW⟩ : ∃ W, W = (w.alloc (.cells #[.slice a n c] 47)).alloc (.cells #[.slice none 0 0] 47) := ⟨_, rfl⟩
  have zW : W.heap.size = w.heap.size + 1 + 1 := by rw [hW]; simp
  have B : Below w.heap.size w W := by rw [hW]; exact ((Below.refl _ _).alloc (Nat.le_refl _) _).alloc (by simp) _
  have c1 : W.cell? ⟨w.heap.size, 0, none⟩ = some (.slice a n c) := by rw [hW]; simp
  have q1 : W.heap[w.heap.size + 1]? = some (.cells #[.slice none 0 0] 47 (0, 0)) := by
    rw [hW]
    have := heap_alloc_new (w.alloc (.cells #[.slice a n c] 47)) (.cells #[.slice none 0 0] 47)
    rwa [World.size_alloc] at this
  have Q1 : (W.alloc (.cells #[] 3)).heap[w.heap.size + 1]? = some (.cells #[.slice none 0 0] 47 (0, 0)) := (Below.heap_alloc _ _ _ (by omega)).trans q1
  have HA := ha.below B
  have HA2 := HA.alloc (.cells #[] 3)
  have OE := owns_empty W 3 1
  clear ha HA
  go_enter Tryd.func68, Tryd.ntmps68
  subst hW
  rw [zW] at OE
  go_wp2_with (at_builtin; refine wpList_append_all rfl (.tmp 3) (.tmp 5) 43 rfl (w.heap.size + 1 + 1) 3 i0 (.int .i64 0) 8 Tryd.underlying43 hi hz0 hz1 hz2 rfl (.slice (some ⟨w.heap.size + 1 + 1, 0, none⟩) 0 0) 0 [] rfl OE a n c zs rfl hz HA2 hnil (by unfold maxLen; omega) (by omega) (by simp) ?_; intro r cap w2 hown2 hgrow2; rw [Nat.zero_add] at hown2; rw [Nat.zero_add]; have hR := (hgrow2.block (w.heap.size + 1) (by simp) (by simp [Value.ownBlock])).trans Q1; have t1 : w2.cell? ⟨w.heap.size + 1, 0, none⟩ = some (.slice none 0 0) := (by rw [cell_of_row w2 _ 0 _ _ (0, 0) hR]; simp); have t2 : w2.frozen? ⟨w.heap.size + 1, 0, none⟩ = false := frozen_of_row w2 _ 0 _ _ hR)
  refine bodyPost_ret (v := .agg #[.slice r n cap]) (by simp [results, Tryd.results68, go_sem, t1]) rfl ⟨r, cap, rfl, ?_, ?_⟩
  · exact owns_mono (ownsRow_setCell_below hown2 (by simp) _) (by omega)
  · exact ((B.alloc (by omega) _).grown hgrow2 (by simp; omega) (fun j hj => by simp [Value.ownBlock] at hj; omega)).setCell (by simp) _

end Go.Proofs.YthliamoeplgblaaDoor

/- Rows in memory, as the model reads them. -/
namespace Go.Proofs.YthliamoeplgblaaDoor
open Go.RowKit

abbrev AtR (w : World) (a : Option Addr) (zss : List (List Int)) : Prop := AtSl RInts w a zss
theorem AtR.row {w : World} {a : Option Addr} {zss : List (List Int)} (h : AtR w a zss) (hp : 0 < zss.length) : ∃ b off, a = some ⟨b, off, none⟩ ∧ ∀ (i : Nat) (z : List Int), zss[i]? = some z →
    ∃ a' c', w.cell? ⟨b, off + i, none⟩ = some (.slice a' z.length c') ∧ z.length ≤ 9223372036854775807 ∧ At w a' z ∧ (a' = none → c' = 0) := by
  obtain ⟨b, off, rfl, hc⟩ := AtSl.each h hp
  refine ⟨b, off, rfl, fun i z hz => ?_⟩
  obtain ⟨cs, h1, a2, n2, c2, rfl, e1, e2, e3, e4⟩ := hc i z hz
  have h9 := h1 0 _ rfl
  refine ⟨a2, c2, ?_, by omega, atSl_int.1 e3, e4⟩
  rw [e1]
  simpa [RInts, Rep.slice] using h9

end Go.Proofs.YthliamoeplgblaaDoor

/- Contract of spec.l9Made. -/
namespace Go.Proofs.YthliamoeplgblaaDoor
open Go.RowKit

theorem mrgIn_yes {z : List Int} {j : Nat} {col g l : Int} (hj : col.toNat = j) (h : z.getD j 0 = g) : z.set j l = mrgIn (col, g, l) z := by
  unfold mrgIn; simp only; rw [hj, if_pos h]
theorem mrgIn_no {z : List Int} {j : Nat} {col g l : Int} (hj : col.toNat = j) (h : ¬ z.getD j 0 = g) : z = mrgIn (col, g, l) z := by
  unfold mrgIn; simp only; rw [hj, if_neg h]

set_option maxRecDepth 100000 in
set_option maxHeartbeats 8000000 in
theorem l9Made_any (p : Int) (a : Option Addr) (n c : Nat) (zss : List (List Int)) (col u v : Int) (q : Nat) (w : World) (hz : zss.length = n) (hn : n ≤ 1048576) (hrow : ∀ (k : Nat) (z : List Int), zss[k]? = some z → z.length = q) (hq : q ≤ 6) (h0 : 0 ≤ col) (h1 : col < q) (ha : AtR w a zss) :
    Calls Tryd.prog 61 #[.agg #[.int .i64 p, .slice a n c], .int .i64 col, .int .i64 u, .int .i64 v] w fun e w' => ∃ r d, e = .returned (.agg #[.int .i64 p, .slice r n d]) ∧ RRows.Own w' (From w.heap.size w'.heap.size) [.slice r n d] (zss.map (mrgIn (col, (if v < u then u else v), (if v < u then v else u)))) ∧ Below w.heap.size w w' := by
  obtain ⟨k0, hk0, hx0, hx1, hx2⟩ := info_parts Tryd.infoRow
  obtain ⟨j, hj⟩ : ∃ j : Nat, col = (j : Int) := ⟨col.toNat, by omega⟩
  have hjq : j < q := by omega
  obtain ⟨V, hV⟩ : ∃ V, V = (w.alloc (.cells #[.int .i64 p, .slice a n c] 26)).alloc (.cells #[.int .i64 0, .slice none 0 0] 26) := ⟨_, rfl⟩
  obtain ⟨W, hW⟩ : ∃ W, W = V.alloc (.cells #[.int .i64 p, .slice none 0 0] 26) := ⟨_, rfl⟩
  have zV : V.heap.size = w.heap.size + 1 + 1 := by rw [hV]; simp
  have B0 : Below w.heap.size w V := by rw [hV]; exact ((Below.refl _ _).alloc (Nat.le_refl _) _).alloc (by simp) _
  have hbV : Below V.heap.size V W := by rw [hW]; exact (Below.refl _ _).alloc (Nat.le_refl _) _
  have BW := B0.trans (hbV.mono B0.size)
  have TV : Hid (TbVar W (w.heap.size + 1 + 1) (w.heap.size + 1 + 1 + 1) p none 0 0 [] [] (fun _ _ => False)) := by
    have h := TbVar.new V p
    rw [← hW, zV] at h
    exact h
  have b1 : V.heap[w.heap.size + 1]? = some (.cells #[.int .i64 0, .slice none 0 0] 26 (0, 0)) := by
    rw [hV]
    have h := heap_alloc_new (w.alloc (.cells #[.int .i64 p, .slice a n c] 26)) (.cells #[.int .i64 0, .slice none 0 0] 26)
    simpa only [World.size_alloc] using h
  have c1 : W.cell? ⟨w.heap.size, 1, none⟩ = some (.slice a n c) := by rw [hW, hV]; simp [go_sem]
  have q1 := blk_below b1 hbV
  have HA := Hid.mk ha
  have HZ := Hid.mk hz
  have HS := Hid.mk hrow
  have hWV : W = ((w.alloc (.cells #[.int .i64 p, .slice a n c] 26)).alloc (.cells #[.int .i64 0, .slice none 0 0] 26)).alloc (.cells #[.int .i64 p, .slice none 0 0] 26) := by rw [hW, hV]
  subst hj
  have HJ : Hid ((j : Int).toNat = j) := by show _ = _; omega
  clear ha hz hrow zV b1 hbV hW hV B0
  by_cases hvu : v < u
  · rw [if_pos hvu, if_pos hvu]
    go_enter Tryd.func61, Tryd.ntmps61
    go_upto_region 7 with fail
    rw [← hWV]
    clear hWV
    go_wp2_with fail
    go_loopw [28] (fun i wr => ∃ (k : Nat) (r : Option Addr) (d : Nat) (cells : List Value) (G : Nat → Nat → Prop), k ≤ n ∧ i = .int .i64 k ∧ TbVar wr (w.heap.size + 1 + 1) (w.heap.size + 1 + 1 + 1) p r k d ((zss.take k).map (mrgIn ((j : Int), u, v))) cells G ∧ Below (w.heap.size + 1 + 1) W wr) (fun i _ => n - (intOf i).toNat)
    case atStart => exact ⟨0, none, 0, [], _, Nat.zero_le _, rfl, TV.out, Below.refl _ _⟩
    case round =>
      clear TV
      obtain ⟨k, r, d, cells, G, hk, rfl, hT, hbw⟩ := hrel
      have zr : w.heap.size + 1 + 1 + 1 ≤ wr.heap.size := by have := hT.size; omega
      have Bw : Below w.heap.size w wr := BW.trans (hbw.mono (by omega))
      have q2 : wr.heap[w.heap.size + 1]? = some (.cells #[.int .i64 0, .slice none 0 0] 26 (0, 0)) := (hbw.block _ (by omega)).trans q1
      by_cases hlt : k < n
      · obtain ⟨b, off, rfl, hc⟩ := AtR.row (AtSl.below HA.out Bw) (by have := HZ.out; omega)
        obtain ⟨z, hy⟩ : ∃ z, zss[k]? = some z := ⟨_, List.getElem?_eq_getElem (by have := HZ.out; omega)⟩
        obtain ⟨a', c', hcx, _, hat, hnil⟩ := hc k z hy
        have hzl := HS.out k z hy
        rw [hzl] at hcx
        have hki : (k : Int) < (n : Int) := by omega
        obtain ⟨U, hU⟩ : ∃ U, U = wr.alloc (.cells #[.slice a' q c'] 47) := ⟨_, rfl⟩
        have hbU : Below wr.heap.size wr U := by rw [hU]; exact (Below.refl _ _).alloc (Nat.le_refl _) _
        have zU : wr.heap.size < U.heap.size := by rw [hU]; simp
        have r0 : U.cell? ⟨wr.heap.size, 0, none⟩ = some (.slice a' q c') := by rw [hU]; exact row0 _ _ _
        have HTK : Hid ((zss.take (k + 1)).map (mrgIn ((j : Int), u, v)) = (zss.take k).map (mrgIn ((j : Int), u, v)) ++ [mrgIn ((j : Int), u, v) z]) := by show _ = _; rw [take_snocS hy, List.map_append]; rfl
        have HZL := Hid.mk hzl
        have HT := Hid.mk hT
        have HB := Hid.mk hbw
        have KO := Hid.mk (l2OwnRow_any a' q c' z U hzl (by omega) hnil (hat.below hbU))
        have HBU := Hid.mk hbU
        clear hc hy hzl hat hnil hT hbw hbU q2 Bw
        go_upto_region 10 with fail
        rw [← hU]
        clear hU hcx
        go_wp2_with fail
        refine KO.out.mono ?_
        rintro e w3 ⟨r3, d3, rfl, ho3, hb3⟩
        obtain ⟨g3, hg3⟩ : ∃ g3, r3 = some ⟨g3, 0, none⟩ := by
          rcases ho3.2 with ⟨_, h9⟩ | ⟨g, cap, cur, hv, _⟩
          · omega
          · simp only [Value.slice.injEq, true_and] at hv
            exact ⟨g, hv.1⟩
        subst hg3
        have hg3l := ho3.lt g3 rfl
        obtain ⟨X, hX⟩ : ∃ X, X = w3.alloc (.cells #[.slice (some ⟨g3, 0, none⟩) q d3] 47) := ⟨_, rfl⟩
        have hbX : Below w3.heap.size w3 X := by rw [hX]; exact (Below.refl _ _).alloc (Nat.le_refl _) _
        have x0 : X.cell? ⟨w3.heap.size, 0, none⟩ = some (.slice (some ⟨g3, 0, none⟩) q d3) := by rw [hX]; exact row0 _ _ _
        have hoX := owns_below ho3 hbX
        have hUX := hb3.trans (hbX.mono hb3.size)
        have hbrX : Below wr.heap.size wr X := HBU.out.trans (hUX.mono HBU.out.size)
        have xj : X.cell? ⟨g3, j, none⟩ = some (.int .i64 (z.getD j 0)) := by
          rw [hoX.cellAt j (by omega)]
          have : j < z.length := by rw [HZL.out]; exact hjq
          simp [List.getD, this]
        have fj : X.frozen? ⟨g3, j, none⟩ = false := hoX.frozenAt _
        have hji : (j : Int) < (q : Int) := by omega
        have zX := hbX.size
        have HOX := Hid.mk hoX
        have HbrX := Hid.mk hbrX
        obtain ⟨y, hyj⟩ : ∃ y, z.getD j 0 = y := ⟨_, rfl⟩
        rw [hyj] at xj
        have HYJ := Hid.mk hyj
        clear ho3 hb3 hbX hoX hUX hbrX hyj KO HBU r0
        go_upto_region 11 with fail
        rw [← hX]
        clear hX
        by_cases e : y = u
        · have HR : Hid (z.set j v = mrgIn ((j : Int), u, v) z) := mrgIn_yes HJ.out (HYJ.out.trans e)
          have e' := e.symm
          subst e'
          clear e
          obtain ⟨Y, hY⟩ : ∃ Y, Y = X.setCell ⟨g3, j, none⟩ (.int .i64 v) := ⟨_, rfl⟩
          have hbY : Below wr.heap.size wr Y := by rw [hY]; exact HbrX.out.setCell (show wr.heap.size ≤ g3 by omega) _
          have y0 : Y.cell? ⟨w3.heap.size, 0, none⟩ = some (.slice (some ⟨g3, 0, none⟩) q d3) := by rw [hY]; exact keep_far x0 (by omega)
          have HOI : Hid (RInts.Own Y (From wr.heap.size Y.heap.size) [.slice (some ⟨g3, 0, none⟩) q d3] (mrgIn ((j : Int), u, v) z)) := by
            have h9 := (HOX.out.stored j (.int .i64 v)).1
            rw [← List.map_set, HR.out, ← hY] at h9
            exact RInts.mono (RInts.of_owns (by rw [mrgIn_length]; exact HZL.out) (by omega) h9) (fun b h => ⟨by have := h.1; omega, h.2⟩)
          go_upto_region 13 with fail
          rw [← hY]
          clear hY xj fj x0
          have T2 := HT.out.below hbY
          have g1 := T2.cell1
          have HW2 := Hid.mk T2.owns
          have HBY := Hid.mk hbY
          have z2 : w.heap.size + 1 + 1 + 1 ≤ Y.heap.size := by have := hbY.size; omega
          clear T2 hbY
          go_wp2_with (at_builtin; refine wpList_app_vals rfl (.tmp 47) (.tmp 49) 24 rfl (w.heap.size + 1 + 1 + 1) 47 k0 (.agg #[.slice none 0 0]) 1 24 Tryd.underlying24 hk0 hx0 hx1 hx2 rfl (by decide) (.slice r k d) k cells rfl (HW2.out.alloc _) (some ⟨Y.heap.size, 0, none⟩) 1 1 [.slice (some ⟨g3, 0, none⟩) q d3] rfl rfl (fun ad he => by cases he; simpa using news_at Y #[.slice (some ⟨g3, 0, none⟩) q d3] 47) (by simp; rfl) (fun h => by cases h) (by unfold maxLen; omega) (by omega) (by simp; omega) ?_; intro r4 d4 w6 ho4 hg4 ht4; have x1 := (HT.out.at6 HBY.out hg4).1; have x2 := (HT.out.at6 HBY.out hg4).2)
          obtain ⟨G', hT'⟩ := HT.out.pushed zr HBY.out HOI.out ho4 hg4 ht4 (by omega)
          have hB' := HT.out.pushed_below (B := w.heap.size + 1 + 1) (Nat.le_refl _) zr HB.out HBY.out hg4 (.slice r4 (k + 1) d4)
          rw [← HTK.out] at hT'
          have HT' := Hid.mk hT'
          have HB' := Hid.mk hB'
          clear hT' hB' ho4 hg4 ht4 x1 x2 HT HBY HOI HW2 HB
          go_wp2
          go_roundw
          case rel => exact ⟨k + 1, r4, d4, _, G', by omega, by go_num, HT'.out, HB'.out⟩
          case measure => simp [intOf]; omega
        · have HR : Hid (z = mrgIn ((j : Int), u, v) z) := mrgIn_no HJ.out (by rw [HYJ.out]; exact e)
          obtain ⟨Y, hY⟩ : ∃ Y, Y = X := ⟨_, rfl⟩
          have hbY : Below wr.heap.size wr Y := by rw [hY]; exact HbrX.out
          have y0 : Y.cell? ⟨w3.heap.size, 0, none⟩ = some (.slice (some ⟨g3, 0, none⟩) q d3) := by rw [hY]; exact x0
          have HOI : Hid (RInts.Own Y (From wr.heap.size Y.heap.size) [.slice (some ⟨g3, 0, none⟩) q d3] (mrgIn ((j : Int), u, v) z)) := by
            have h9 := HOX.out
            rw [HR.out, ← hY] at h9
            exact RInts.mono (RInts.of_owns (by rw [mrgIn_length]; exact HZL.out) (by omega) h9) (fun b h => ⟨by have := h.1; omega, h.2⟩)
          go_upto_region 13 with fail
          rw [← hY]
          clear hY xj fj x0
          have T2 := HT.out.below hbY
          have g1 := T2.cell1
          have HW2 := Hid.mk T2.owns
          have HBY := Hid.mk hbY
          have z2 : w.heap.size + 1 + 1 + 1 ≤ Y.heap.size := by have := hbY.size; omega
          clear T2 hbY
          go_wp2_with (at_builtin; refine wpList_app_vals rfl (.tmp 47) (.tmp 49) 24 rfl (w.heap.size + 1 + 1 + 1) 47 k0 (.agg #[.slice none 0 0]) 1 24 Tryd.underlying24 hk0 hx0 hx1 hx2 rfl (by decide) (.slice r k d) k cells rfl (HW2.out.alloc _) (some ⟨Y.heap.size, 0, none⟩) 1 1 [.slice (some ⟨g3, 0, none⟩) q d3] rfl rfl (fun ad he => by cases he; simpa using news_at Y #[.slice (some ⟨g3, 0, none⟩) q d3] 47) (by simp; rfl) (fun h => by cases h) (by unfold maxLen; omega) (by omega) (by simp; omega) ?_; intro r4 d4 w6 ho4 hg4 ht4; have x1 := (HT.out.at6 HBY.out hg4).1; have x2 := (HT.out.at6 HBY.out hg4).2)
          obtain ⟨G', hT'⟩ := HT.out.pushed zr HBY.out HOI.out ho4 hg4 ht4 (by omega)
          have hB' := HT.out.pushed_below (B := w.heap.size + 1 + 1) (Nat.le_refl _) zr HB.out HBY.out hg4 (.slice r4 (k + 1) d4)
          rw [← HTK.out] at hT'
          have HT' := Hid.mk hT'
          have HB' := Hid.mk hB'
          clear hT' hB' ho4 hg4 ht4 x1 x2 HT HBY HOI HW2 HB
          go_wp2
          go_roundw
          case rel => exact ⟨k + 1, r4, d4, _, G', by omega, by go_num, HT'.out, HB'.out⟩
          case measure => simp [intOf]; omega
      · obtain rfl : k = n := by omega
        have HTA : Hid (zss.take k = zss) := List.take_of_length_le (by have := HZ.out; omega)
        rw [HTA.out] at hT
        have g0 := hT.cell0
        have g1 := hT.cell1
        have e0 := blk_cell q2 0 (v := .int .i64 0) rfl
        have e1 := blk_cell q2 1 (v := .slice none 0 0) rfl
        have f0 := blk_frozen q2 0
        have f1 := blk_frozen q2 1
        have HO := Hid.mk (hT.own)
        clear hT hbw q2 q1
        go_wp2
        refine bodyPost_ret (v := .agg #[.int .i64 p, .slice r k d]) (by simp [results, Tryd.results61, go_sem, e0, e1]) rfl ⟨r, d, rfl, ?_, ?_⟩
        · refine RRows.mono (RRows.ownOff (RRows.ownOff HO.out (Off.set (F := From 0 (w.heap.size + 1 + 1)) (a := ⟨w.heap.size + 1, 0, none⟩) ⟨by simp, by simp⟩ _) (fun b h h' => by have := h.1; have := h'.2; omega)) (Off.set (F := From 0 (w.heap.size + 1 + 1)) (a := ⟨w.heap.size + 1, 1, none⟩) ⟨by simp, by simp⟩ _) (fun b h h' => by have := h.1; have := h'.2; omega)) (fun b h => ⟨by have := h.1; omega, by have := h.2; simp only [World.setCell, Array.size_modify]; exact this⟩)
        · exact (Bw.setCell (by simp) _).setCell (by simp) _
  · rw [if_neg hvu, if_neg hvu]
    go_enter Tryd.func61, Tryd.ntmps61
    go_upto_region 7 with fail
    rw [← hWV]
    clear hWV
    go_wp2_with fail
    go_loopw [28] (fun i wr => ∃ (k : Nat) (r : Option Addr) (d : Nat) (cells : List Value) (G : Nat → Nat → Prop), k ≤ n ∧ i = .int .i64 k ∧ TbVar wr (w.heap.size + 1 + 1) (w.heap.size + 1 + 1 + 1) p r k d ((zss.take k).map (mrgIn ((j : Int), v, u))) cells G ∧ Below (w.heap.size + 1 + 1) W wr) (fun i _ => n - (intOf i).toNat)
    case atStart => exact ⟨0, none, 0, [], _, Nat.zero_le _, rfl, TV.out, Below.refl _ _⟩
    case round =>
      clear TV
      obtain ⟨k, r, d, cells, G, hk, rfl, hT, hbw⟩ := hrel
      have zr : w.heap.size + 1 + 1 + 1 ≤ wr.heap.size := by have := hT.size; omega
      have Bw : Below w.heap.size w wr := BW.trans (hbw.mono (by omega))
      have q2 : wr.heap[w.heap.size + 1]? = some (.cells #[.int .i64 0, .slice none 0 0] 26 (0, 0)) := (hbw.block _ (by omega)).trans q1
      by_cases hlt : k < n
      · obtain ⟨b, off, rfl, hc⟩ := AtR.row (AtSl.below HA.out Bw) (by have := HZ.out; omega)
        obtain ⟨z, hy⟩ : ∃ z, zss[k]? = some z := ⟨_, List.getElem?_eq_getElem (by have := HZ.out; omega)⟩
        obtain ⟨a', c', hcx, _, hat, hnil⟩ := hc k z hy
        have hzl := HS.out k z hy
        rw [hzl] at hcx
        have hki : (k : Int) < (n : Int) := by omega
        obtain ⟨U, hU⟩ : ∃ U, U = wr.alloc (.cells #[.slice a' q c'] 47) := ⟨_, rfl⟩
        have hbU : Below wr.heap.size wr U := by rw [hU]; exact (Below.refl _ _).alloc (Nat.le_refl _) _
        have zU : wr.heap.size < U.heap.size := by rw [hU]; simp
        have r0 : U.cell? ⟨wr.heap.size, 0, none⟩ = some (.slice a' q c') := by rw [hU]; exact row0 _ _ _
        have HTK : Hid ((zss.take (k + 1)).map (mrgIn ((j : Int), v, u)) = (zss.take k).map (mrgIn ((j : Int), v, u)) ++ [mrgIn ((j : Int), v, u) z]) := by show _ = _; rw [take_snocS hy, List.map_append]; rfl
        have HZL := Hid.mk hzl
        have HT := Hid.mk hT
        have HB := Hid.mk hbw
        have KO := Hid.mk (l2OwnRow_any a' q c' z U hzl (by omega) hnil (hat.below hbU))
        have HBU := Hid.mk hbU
        clear hc hy hzl hat hnil hT hbw hbU q2 Bw
        go_upto_region 10 with fail
        rw [← hU]
        clear hU hcx
        go_wp2_with fail
        refine KO.out.mono ?_
        rintro e w3 ⟨r3, d3, rfl, ho3, hb3⟩
        obtain ⟨g3, hg3⟩ : ∃ g3, r3 = some ⟨g3, 0, none⟩ := by
          rcases ho3.2 with ⟨_, h9⟩ | ⟨g, cap, cur, hv, _⟩
          · omega
          · simp only [Value.slice.injEq, true_and] at hv
            exact ⟨g, hv.1⟩
        subst hg3
        have hg3l := ho3.lt g3 rfl
        obtain ⟨X, hX⟩ : ∃ X, X = w3.alloc (.cells #[.slice (some ⟨g3, 0, none⟩) q d3] 47) := ⟨_, rfl⟩
        have hbX : Below w3.heap.size w3 X := by rw [hX]; exact (Below.refl _ _).alloc (Nat.le_refl _) _
        have x0 : X.cell? ⟨w3.heap.size, 0, none⟩ = some (.slice (some ⟨g3, 0, none⟩) q d3) := by rw [hX]; exact row0 _ _ _
        have hoX := owns_below ho3 hbX
        have hUX := hb3.trans (hbX.mono hb3.size)
        have hbrX : Below wr.heap.size wr X := HBU.out.trans (hUX.mono HBU.out.size)
        have xj : X.cell? ⟨g3, j, none⟩ = some (.int .i64 (z.getD j 0)) := by
          rw [hoX.cellAt j (by omega)]
          have : j < z.length := by rw [HZL.out]; exact hjq
          simp [List.getD, this]
        have fj : X.frozen? ⟨g3, j, none⟩ = false := hoX.frozenAt _
        have hji : (j : Int) < (q : Int) := by omega
        have zX := hbX.size
        have HOX := Hid.mk hoX
        have HbrX := Hid.mk hbrX
        obtain ⟨y, hyj⟩ : ∃ y, z.getD j 0 = y := ⟨_, rfl⟩
        rw [hyj] at xj
        have HYJ := Hid.mk hyj
        clear ho3 hb3 hbX hoX hUX hbrX hyj KO HBU r0
        go_upto_region 11 with fail
        rw [← hX]
        clear hX
        by_cases e : y = v
        · have HR : Hid (z.set j u = mrgIn ((j : Int), v, u) z) := mrgIn_yes HJ.out (HYJ.out.trans e)
          have e' := e.symm
          subst e'
          clear e
          obtain ⟨Y, hY⟩ : ∃ Y, Y = X.setCell ⟨g3, j, none⟩ (.int .i64 u) := ⟨_, rfl⟩
          have hbY : Below wr.heap.size wr Y := by rw [hY]; exact HbrX.out.setCell (show wr.heap.size ≤ g3 by omega) _
          have y0 : Y.cell? ⟨w3.heap.size, 0, none⟩ = some (.slice (some ⟨g3, 0, none⟩) q d3) := by rw [hY]; exact keep_far x0 (by omega)
          have HOI : Hid (RInts.Own Y (From wr.heap.size Y.heap.size) [.slice (some ⟨g3, 0, none⟩) q d3] (mrgIn ((j : Int), v, u) z)) := by
            have h9 := (HOX.out.stored j (.int .i64 u)).1
            rw [← List.map_set, HR.out, ← hY] at h9
            exact RInts.mono (RInts.of_owns (by rw [mrgIn_length]; exact HZL.out) (by omega) h9) (fun b h => ⟨by have := h.1; omega, h.2⟩)
          go_upto_region 13 with fail
          rw [← hY]
          clear hY xj fj x0
          have T2 := HT.out.below hbY
          have g1 := T2.cell1
          have HW2 := Hid.mk T2.owns
          have HBY := Hid.mk hbY
          have z2 : w.heap.size + 1 + 1 + 1 ≤ Y.heap.size := by have := hbY.size; omega
          clear T2 hbY
          go_wp2_with (at_builtin; refine wpList_app_vals rfl (.tmp 47) (.tmp 49) 24 rfl (w.heap.size + 1 + 1 + 1) 47 k0 (.agg #[.slice none 0 0]) 1 24 Tryd.underlying24 hk0 hx0 hx1 hx2 rfl (by decide) (.slice r k d) k cells rfl (HW2.out.alloc _) (some ⟨Y.heap.size, 0, none⟩) 1 1 [.slice (some ⟨g3, 0, none⟩) q d3] rfl rfl (fun ad he => by cases he; simpa using news_at Y #[.slice (some ⟨g3, 0, none⟩) q d3] 47) (by simp; rfl) (fun h => by cases h) (by unfold maxLen; omega) (by omega) (by simp; omega) ?_; intro r4 d4 w6 ho4 hg4 ht4; have x1 := (HT.out.at6 HBY.out hg4).1; have x2 := (HT.out.at6 HBY.out hg4).2)
          obtain ⟨G', hT'⟩ := HT.out.pushed zr HBY.out HOI.out ho4 hg4 ht4 (by omega)
          have hB' := HT.out.pushed_below (B := w.heap.size + 1 + 1) (Nat.le_refl _) zr HB.out HBY.out hg4 (.slice r4 (k + 1) d4)
          rw [← HTK.out] at hT'
          have HT' := Hid.mk hT'
          have HB' := Hid.mk hB'
          clear hT' hB' ho4 hg4 ht4 x1 x2 HT HBY HOI HW2 HB
          go_wp2
          go_roundw
          case rel => exact ⟨k + 1, r4, d4, _, G', by omega, by go_num, HT'.out, HB'.out⟩
          case measure => simp [intOf]; omega
        · have HR : Hid (z = mrgIn ((j : Int), v, u) z) := mrgIn_no HJ.out (by rw [HYJ.out]; exact e)
          obtain ⟨Y, hY⟩ : ∃ Y, Y = X := ⟨_, rfl⟩
          have hbY : Below wr.heap.size wr Y := by rw [hY]; exact HbrX.out
          have y0 : Y.cell? ⟨w3.heap.size, 0, none⟩ = some (.slice (some ⟨g3, 0, none⟩) q d3) := by rw [hY]; exact x0
          have HOI : Hid (RInts.Own Y (From wr.heap.size Y.heap.size) [.slice (some ⟨g3, 0, none⟩) q d3] (mrgIn ((j : Int), v, u) z)) := by
            have h9 := HOX.out
            rw [HR.out, ← hY] at h9
            exact RInts.mono (RInts.of_owns (by rw [mrgIn_length]; exact HZL.out) (by omega) h9) (fun b h => ⟨by have := h.1; omega, h.2⟩)
          go_upto_region 13 with fail
          rw [← hY]
          clear hY xj fj x0
          have T2 := HT.out.below hbY
          have g1 := T2.cell1
          have HW2 := Hid.mk T2.owns
          have HBY := Hid.mk hbY
          have z2 : w.heap.size + 1 + 1 + 1 ≤ Y.heap.size := by have := hbY.size; omega
          clear T2 hbY
          go_wp2_with (at_builtin; refine wpList_app_vals rfl (.tmp 47) (.tmp 49) 24 rfl (w.heap.size + 1 + 1 + 1) 47 k0 (.agg #[.slice none 0 0]) 1 24 Tryd.underlying24 hk0 hx0 hx1 hx2 rfl (by decide) (.slice r k d) k cells rfl (HW2.out.alloc _) (some ⟨Y.heap.size, 0, none⟩) 1 1 [.slice (some ⟨g3, 0, none⟩) q d3] rfl rfl (fun ad he => by cases he; simpa using news_at Y #[.slice (some ⟨g3, 0, none⟩) q d3] 47) (by simp; rfl) (fun h => by cases h) (by unfold maxLen; omega) (by omega) (by simp; omega) ?_; intro r4 d4 w6 ho4 hg4 ht4; have x1 := (HT.out.at6 HBY.out hg4).1; have x2 := (HT.out.at6 HBY.out hg4).2)
          obtain ⟨G', hT'⟩ := HT.out.pushed zr HBY.out HOI.out ho4 hg4 ht4 (by omega)
          have hB' := HT.out.pushed_below (B := w.heap.size + 1 + 1) (Nat.le_refl _) zr HB.out HBY.out hg4 (.slice r4 (k + 1) d4)
          rw [← HTK.out] at hT'
          have HT' := Hid.mk hT'
          have HB' := Hid.mk hB'
          clear hT' hB' ho4 hg4 ht4 x1 x2 HT HBY HOI HW2 HB
          go_wp2
          go_roundw
          case rel => exact ⟨k + 1, r4, d4, _, G', by omega, by go_num, HT'.out, HB'.out⟩
          case measure => simp [intOf]; omega
      · obtain rfl : k = n := by omega
        have HTA : Hid (zss.take k = zss) := List.take_of_length_le (by have := HZ.out; omega)
        rw [HTA.out] at hT
        have g0 := hT.cell0
        have g1 := hT.cell1
        have e0 := blk_cell q2 0 (v := .int .i64 0) rfl
        have e1 := blk_cell q2 1 (v := .slice none 0 0) rfl
        have f0 := blk_frozen q2 0
        have f1 := blk_frozen q2 1
        have HO := Hid.mk (hT.own)
        clear hT hbw q2 q1
        go_wp2
        refine bodyPost_ret (v := .agg #[.int .i64 p, .slice r k d]) (by simp [results, Tryd.results61, go_sem, e0, e1]) rfl ⟨r, d, rfl, ?_, ?_⟩
        · refine RRows.mono (RRows.ownOff (RRows.ownOff HO.out (Off.set (F := From 0 (w.heap.size + 1 + 1)) (a := ⟨w.heap.size + 1, 0, none⟩) ⟨by simp, by simp⟩ _) (fun b h h' => by have := h.1; have := h'.2; omega)) (Off.set (F := From 0 (w.heap.size + 1 + 1)) (a := ⟨w.heap.size + 1, 1, none⟩) ⟨by simp, by simp⟩ _) (fun b h h' => by have := h.1; have := h'.2; omega)) (fun b h => ⟨by have := h.1; omega, by have := h.2; simp only [World.setCell, Array.size_modify]; exact this⟩)
        · exact (Bw.setCell (by simp) _).setCell (by simp) _

end Go.Proofs.YthliamoeplgblaaDoor

/- Contracts of impl.PickCells, spec.l1Columns, spec.l1Pick, spec.PickCells. -/
namespace Go.Proofs.YthliamoeplgblaaDoor
open Go.RowKit

end Go.Proofs.YthliamoeplgblaaDoor
