/- Several texts of one proof, in build order: GroundM, L2Own, RowH, TableH, GoodRow, ArrEq, ArrayOf, Compare, L2Put, TabVar, GoodT. -/
import Derived.Test.YtkcfhlpdenjimaaDoorM0
import Derived.Test.YtkcfhlpdenjimaaDoorM4
import Derived.Test.YtkcfhlpdenjimaaDoorM3
import Derived.Test.YtkcfhlpdenjimaaDoorM7
import Derived.Laws.StructEq
import Derived.Test.YtkcfhlpdenjimaaDoorM8
import Derived.Deep.AppendLies

/- Cells that mean weighted rows, whoever owns them; 'append(out, xs...)' of whatever elements. -/
namespace Go.Proofs.YtkcfhlpdenjimaaDoor
open Go.RowKit

/-- Cells that mean weighted rows. -/
def Means (w : World) : List Value → List WRow → Prop
  | [], [] => True
  | u :: v :: cs, t :: ts => (∃ a c, u = .slice a t.1.length c ∧ (a = none → c = 0) ∧ At w a t.1) ∧ t.1.length ≤ 9223372036854775807 ∧ v = .int .i64 t.2 ∧ Means w cs ts
  | _, _ => False

theorem Means.nil (w : World) : Means w [] [] := trivial
theorem Means.one {w : World} {a : Option Addr} {zs : List Int} {n c : Nat} {x : Int} (hn : zs.length = n) (h6 : n ≤ 9223372036854775807) (hnil : a = none → c = 0) (h : At w a zs) : Means w [.slice a n c, .int .i64 x] [(zs, x)] :=
  ⟨⟨a, c, by rw [hn], hnil, h⟩, by simp only [hn]; exact h6, rfl, trivial⟩

set_option linter.unusedVariables false in
theorem Means.length {w : World} : ∀ {cs : List Value} {ts : List WRow}, Means w cs ts → cs.length = ts.length * 2
  | [], [], _ => rfl
  | [], _ :: _, h => h.elim
  | [_], [], h => h.elim
  | [_], _ :: _, h => h.elim
  | _ :: _ :: _, [], h => h.elim
  | u :: v :: cs, t :: ts, ⟨_, _, _, h⟩ => by have := Means.length h; simp [this]; omega

set_option linter.unusedVariables false in
theorem Means.below {w w' : World} (hb : Below w.heap.size w w') : ∀ {cs : List Value} {ts : List WRow}, Means w cs ts → Means w' cs ts
  | [], [], _ => trivial
  | [], _ :: _, h => h.elim
  | [_], [], h => h.elim
  | [_], _ :: _, h => h.elim
  | _ :: _ :: _, [], h => h.elim
  | u :: v :: cs, t :: ts, ⟨⟨a, c, h1, h0, h2⟩, h3, h4, h5⟩ => ⟨⟨a, c, h1, h0, h2.below hb⟩, h3, h4, Means.below hb h5⟩

set_option linter.unusedVariables false in
theorem Means.append {w : World} : ∀ {cs cs' : List Value} {ts ts' : List WRow}, Means w cs ts → Means w cs' ts' → Means w (cs ++ cs') (ts ++ ts')
  | [], _, [], _, _, h => h
  | [], _, _ :: _, _, h, _ => h.elim
  | [_], _, [], _, h, _ => h.elim
  | [_], _, _ :: _, _, h, _ => h.elim
  | _ :: _ :: _, _, [], _, h, _ => h.elim
  | u :: v :: cs, cs', t :: ts, ts', ⟨h1, h2, h3, h4⟩, h => ⟨h1, h2, h3, Means.append h4 h⟩

set_option linter.unusedVariables false in
theorem Means.take {w : World} : ∀ {cs : List Value} {ts : List WRow} (k : Nat), Means w cs ts → Means w (cs.take (k * 2)) (ts.take k)
  | [], [], _, _ => by simp [Means]
  | [], _ :: _, _, h => h.elim
  | [_], [], _, h => h.elim
  | [_], _ :: _, _, h => h.elim
  | _ :: _ :: _, [], _, h => h.elim
  | u :: v :: cs, t :: ts, 0, _ => by simp [Means]
  | u :: v :: cs, t :: ts, k + 1, ⟨h1, h2, h3, h4⟩ => by
    rw [show (k + 1) * 2 = k * 2 + 1 + 1 by omega]
    exact ⟨h1, h2, h3, Means.take k h4⟩
set_option linter.unusedVariables false in
theorem Means.drop {w : World} : ∀ {cs : List Value} {ts : List WRow} (k : Nat), Means w cs ts → Means w (cs.drop (k * 2)) (ts.drop k)
  | [], [], _, _ => by simp [Means]
  | [], _ :: _, _, h => h.elim
  | [_], [], _, h => h.elim
  | [_], _ :: _, _, h => h.elim
  | _ :: _ :: _, [], _, h => h.elim
  | u :: v :: cs, t :: ts, 0, h => by simpa using h
  | u :: v :: cs, t :: ts, k + 1, ⟨h1, h2, h3, h4⟩ => by
    rw [show (k + 1) * 2 = k * 2 + 1 + 1 by omega]
    exact Means.drop k h4

set_option linter.unusedVariables false in
theorem Means.at {w : World} : ∀ {cs : List Value} {ts : List WRow} (i : Nat), Means w cs ts → i < ts.length → ∃ a c, cs[i * 2]? = some (.slice a (wat ts i).1.length c) ∧ cs[i * 2 + 1]? = some (.int .i64 (wat ts i).2) ∧ (wat ts i).1.length ≤ 9223372036854775807 ∧ (a = none → c = 0) ∧ At w a (wat ts i).1
  | [], [], _, _, h => by simp at h
  | [], _ :: _, _, h, _ => h.elim
  | [_], [], _, h, _ => h.elim
  | [_], _ :: _, _, h, _ => h.elim
  | _ :: _ :: _, [], _, h, _ => h.elim
  | u :: v :: cs, t :: ts, 0, ⟨⟨a, c, h1, h0, h2⟩, h3, h4, _⟩, _ => ⟨a, c, by simp [wat, h1], by simp [wat, h4], by simpa [wat] using h3, h0, by simpa [wat] using h2⟩
  | u :: v :: cs, t :: ts, i + 1, ⟨_, _, _, h5⟩, hi => by
    obtain ⟨a, c, k1, k2, k3, k0, k4⟩ := Means.at i h5 (by simpa using hi)
    have e : wat (t :: ts) (i + 1) = wat ts i := by simp [wat]
    rw [e]
    refine ⟨a, c, ?_, ?_, k3, k0, k4⟩
    · rw [show (i + 1) * 2 = i * 2 + 1 + 1 by omega]; simpa using k1
    · rw [show (i + 1) * 2 + 1 = (i * 2 + 1) + 1 + 1 by omega]; simpa using k2

set_option linter.unusedVariables false in
theorem Means.oneCell {w : World} : ∀ {cs : List Value} {ts : List WRow}, Means w cs ts → ∀ u ∈ cs, u.oneCell' = true
  | [], [], _, _, h => by cases h
  | [], _ :: _, h, _, _ => h.elim
  | [_], [], h, _, _ => h.elim
  | [_], _ :: _, h, _, _ => h.elim
  | _ :: _ :: _, [], h, _, _ => h.elim
  | u :: v :: cs, t :: ts, ⟨⟨a, c, h1, _, _⟩, _, h4, h5⟩, x, hx => by
    rcases List.mem_cons.1 hx with rfl | hx
    · subst h1; rfl
    · rcases List.mem_cons.1 hx with rfl | hx
      · subst h4; rfl
      · exact Means.oneCell h5 x hx

theorem means_of {w : World} : ∀ {ts : List WRow} {cs : List Value}, cs.length = ts.length * 2 → (∀ i, i < ts.length → ∃ a c, cs[i * 2]? = some (.slice a (wat ts i).1.length c) ∧ cs[i * 2 + 1]? = some (.int .i64 (wat ts i).2) ∧ (wat ts i).1.length ≤ 9223372036854775807 ∧ (a = none → c = 0) ∧ At w a (wat ts i).1) → Means w cs ts
  | [], [], _, _ => trivial
  | [], _ :: _, h, _ => by simp at h
  | _ :: _, [], h, _ => by simp at h
  | _ :: _, [_], h, _ => by simp at h; omega
  | t :: ts, u :: v :: cs, hl, h => by
    obtain ⟨a, c, k1, k2, k3, k0, k4⟩ := h 0 (by simp)
    have e : wat (t :: ts) 0 = t := by simp [wat]
    rw [e] at k1 k2 k3 k4
    refine ⟨⟨a, c, by simpa using k1, k0, k4⟩, k3, by simpa using k2, means_of (by simp at hl; omega) fun i hi => ?_⟩
    obtain ⟨a, c, k1, k2, k3, k0, k4⟩ := h (i + 1) (by simpa using hi)
    have e : wat (t :: ts) (i + 1) = wat ts i := by simp [wat]
    rw [e] at k1 k2 k3 k4
    rw [show (i + 1) * 2 = i * 2 + 1 + 1 by omega] at k1 k2
    exact ⟨a, c, by simpa using k1, by simpa using k2, k3, k0, k4⟩

theorem Means.atW {w : World} {cs : List Value} {ts : List WRow} {b off : Nat} (h : Means w cs ts) (hc : ∀ j u, cs[j]? = some u → w.cell? ⟨b, off + j, none⟩ = some u) : AtW w (some ⟨b, off, none⟩) ts :=
  .inr ⟨b, off, rfl, fun i hi => by
    obtain ⟨a, c, k1, k2, k3, _, k4⟩ := h.at i hi
    exact ⟨a, c, by rw [hc _ _ k1], by rw [show off + i * 2 + 1 = off + (i * 2 + 1) by omega, hc _ _ k2], k3, k4⟩⟩

theorem Means.owned {w : World} {cs : List Value} {ts : List WRow} {base : Nat} {e : TypeId} {a : Option Addr} {n c : Nat} (h : Means w cs ts) (hn : ts.length = n) (ho : w.ownsRow base e 2 (.slice a n c) n cs) : AtW w a ts := by
  have hl := h.length
  rcases ho.2 with ⟨h', rfl⟩ | ⟨g, cap, cur, h', _⟩
  · left; exact List.eq_nil_of_length_eq_zero hn
  · simp only [Value.slice.injEq, true_and] at h'
    obtain ⟨rfl, rfl⟩ := h'
    refine h.atW fun j u hj => ?_
    have hj' := (List.getElem?_eq_some_iff.1 hj).1
    rw [Nat.zero_add, ho.cellAt j (by omega)]
    exact hj

/-- A slice of weighted rows as a model's function reads it: where a row's slice is nil it has no room. -/
def AtM (w : World) (a : Option Addr) (ts : List WRow) : Prop :=
  ts = [] ∨ ∃ b off cs, a = some ⟨b, off, none⟩ ∧ Means w cs ts ∧ ∀ j u, cs[j]? = some u → w.cell? ⟨b, off + j, none⟩ = some u

theorem AtM.atW {w : World} {a : Option Addr} {ts : List WRow} (h : AtM w a ts) : AtW w a ts := by
  rcases h with rfl | ⟨b, off, cs, rfl, hm, hc⟩
  · exact .inl rfl
  · exact hm.atW hc
theorem AtM.below {w w' : World} {a : Option Addr} {ts : List WRow} (h : AtM w a ts) (hb : Below w.heap.size w w') : AtM w' a ts := by
  rcases h with rfl | ⟨b, off, cs, rfl, hm, hc⟩
  · exact .inl rfl
  · exact .inr ⟨b, off, cs, rfl, hm.below hb, fun j u hj => cell_later hb (hc j u hj)⟩
theorem AtM.alloc {w : World} {a : Option Addr} {ts : List WRow} (h : AtM w a ts) (o : Obj) : AtM (w.alloc o) a ts := h.below ((Below.refl _ _).alloc (Nat.le_refl _) o)
theorem AtM.drew {w : World} {a : Option Addr} {ts : List WRow} (h : AtM w a ts) : AtM w.drew a ts := h.below (Below.refl _ _).drew
theorem atM_nil (w : World) (a : Option Addr) : AtM w a [] := .inl rfl
theorem Means.ownedM {w : World} {cs : List Value} {ts : List WRow} {base : Nat} {e : TypeId} {a : Option Addr} {n c : Nat} (h : Means w cs ts) (hn : ts.length = n) (ho : w.ownsRow base e 2 (.slice a n c) n cs) : AtM w a ts := by
  have hl := h.length
  rcases ho.2 with ⟨h', rfl⟩ | ⟨g, cap, cur, h', _⟩
  · left; exact List.eq_nil_of_length_eq_zero hn
  · simp only [Value.slice.injEq, true_and] at h'
    obtain ⟨rfl, rfl⟩ := h'
    refine .inr ⟨g, 0, cs, rfl, h, fun j u hj => ?_⟩
    have hj' := (List.getElem?_eq_some_iff.1 hj).1
    rw [Nat.zero_add, ho.cellAt j (by omega)]
    exact hj
theorem owns_nil {w : World} {base : Nat} {e : TypeId} {size : Nat} {a : Option Addr} {n c : Nat} {xs : List Value} (h : w.ownsRow base e size (.slice a n c) n xs) : a = none → c = 0 := by
  rintro rfl
  rcases h.2 with ⟨h', _⟩ | ⟨g, cap, cur, h', _⟩
  · simp at h'; exact h'.2
  · simp at h'
theorem OwnWk.means {w : World} {lo hi : Nat} {te ti : TypeId} {a : Option Addr} {n c : Nat} {ts : List WRow} {cells : List Value} (h : OwnW w lo hi te ti a n c ts cells) (hs : ∀ i, i < n → (wat ts i).1.length ≤ 9223372036854775807) : Means w cells ts :=
  means_of (by rw [h.len]; exact h.outer.1) fun i hi => by
    rw [h.len] at hi
    obtain ⟨a', c', k1, k2, k3⟩ := h.row i hi
    exact ⟨a', c', k1, k2, hs i hi, owns_nil k3, At.owned k3⟩
theorem OwnWk.atM {w : World} {lo hi : Nat} {te ti : TypeId} {a : Option Addr} {n c : Nat} {ts : List WRow} {cells : List Value} (h : OwnW w lo hi te ti a n c ts cells) (hs : ∀ i, i < n → (wat ts i).1.length ≤ 9223372036854775807) : AtM w a ts :=
  (h.means hs).ownedM h.len h.outer
/-- One row of it. -/
theorem AtM.some {w : World} {a : Option Addr} {ts : List WRow} (h : AtM w a ts) (hp : 0 < ts.length) :
    ∃ b off, a = Option.some ⟨b, off, none⟩ ∧ ∀ i, i < ts.length → ∃ a' c', w.cell? ⟨b, off + i * 2, none⟩ = Option.some (.slice a' (wat ts i).1.length c') ∧ w.cell? ⟨b, off + i * 2 + 1, none⟩ = Option.some (.int .i64 (wat ts i).2) ∧
      (wat ts i).1.length ≤ 9223372036854775807 ∧ (a' = none → c' = 0) ∧ At w a' (wat ts i).1 := by
  rcases h with rfl | ⟨b, off, cs, rfl, hm, hc⟩
  · simp at hp
  · refine ⟨b, off, rfl, fun i hi => ?_⟩
    obtain ⟨a', c', k1, k2, k3, k0, k4⟩ := hm.at i hi
    exact ⟨a', c', hc _ _ k1, by rw [show off + i * 2 + 1 = off + (i * 2 + 1) by omega]; exact hc _ _ k2, k3, k0, k4⟩

theorem wpList_append_any {P : Program} {w : World} {ops : Array Oper} {rest : List Oper} {o : Oper} {a : Act} {Q : Exit → Act → World → Prop} (hgd : o.guard = none) (s x : Operand) (t : TypeId)
    (ho : o.op = .call { callee := .builtin .append, args := #[s, x], argTypes := #[t, t] })
    (base : Nat) (e : TypeId) (i : TypeInfo) (z : Value) (size bytes : Nat) (ht : P.underlying t = some (.slice e)) (hi : P.info? e = some i) (hz : i.zero = some z)
    (hsize : i.size = size) (hby : i.bytes = bytes) (hzs : z.cells.size = size) (hsz : 0 < size)
    (v : Value) (n : Nat) (xs : List Value) (hs : a.eval s = v) (hown : w.ownsRow base e size v n xs)
    (ad : Addr) (m c : Nat) (news : List Value) (hx : a.eval x = .slice (some ad) m c) (hl : news.length = m * size) (hat : ∀ j u, news[j]? = some u → w.cell? (ad.add j) = some u) (h1 : ∀ u ∈ news, u.oneCell' = true)
    (h63 : n + m ≤ maxLen) (hbytes : (n + m) * bytes ≤ 140737488355328) (hbase : base ≤ w.heap.size)
    (h : ∀ r cap w', w'.ownsRow base e size (.slice r (n + m) cap) (n + m) (xs ++ news) → w.grownBy w' v.ownBlock → wpList P ops Q rest (a.put o.dst (.slice r (n + m) cap)) w') : wpList P ops Q (o :: rest) a w := by
  refine wpList_append_own w hgd s x t ho base e i z size bytes ht hi hz hsize hby hzs hsz v n xs hs hown ad m c news hx hl hat h1 h63 hbytes hbase ?_
  intro v' w' h2 h3 _
  obtain ⟨r, cap, rfl⟩ := owns_slice h2
  exact h r cap w' h2 h3

end Go.Proofs.YtkcfhlpdenjimaaDoor

/- Contract of spec.l2OwnRow. -/
namespace Go.Proofs.YtkcfhlpdenjimaaDoor
open Go.RowKit

theorem owns_empty (w : World) (e : TypeId) (size : Nat) : (w.alloc (.cells #[] e)).ownsRow w.heap.size e size (.slice (some ⟨w.heap.size, 0, none⟩) 0 0) 0 [] :=
  ⟨by simp, .inr ⟨w.heap.size, 0, #[], rfl, Nat.le_refl _, heap_alloc_new w _, by simp, by simp, by simp, by simp⟩⟩

set_option maxHeartbeats 1000000 in
set_option maxRecDepth 100000 in
theorem l2OwnRow_any (a : Option Addr) (n c : Nat) (zs : List Int) (w : World) (hz : zs.length = n) (hn : n ≤ 1048576) (hnil : a = none → c = 0) (ha : At w a zs) :
    Calls Tryd.prog 70 #[.agg #[.slice a n c]] w fun e w' => ∃ r d, e = .returned (.agg #[.slice r n d]) ∧ w'.ownsRow w.heap.size 3 1 (.slice r n d) n (zs.map (.int .i64)) ∧ Below w.heap.size w w' := by
  obtain ⟨i0, hi, hz0, hz1, hz2⟩ := info_parts Tryd.infoInt
  obtain ⟨W, hW⟩ : ∃ W, W = (w.alloc (.cells #[.slice a n c] 71)).alloc (.cells #[.slice none 0 0] 71) := ⟨_, rfl⟩
  have zW : W.heap.size = w.heap.size + 1 + 1 := by rw [hW]; simp
  have B : Below w.heap.size w W := by rw [hW]; exact ((Below.refl _ _).alloc (Nat.le_refl _) _).alloc (by simp) _
  have c1 : W.cell? ⟨w.heap.size, 0, none⟩ = some (.slice a n c) := by rw [hW]; simp
  have q1 : W.heap[w.heap.size + 1]? = some (.cells #[.slice none 0 0] 71 (0, 0)) := by
    rw [hW]
    have := heap_alloc_new (w.alloc (.cells #[.slice a n c] 71)) (.cells #[.slice none 0 0] 71)
    rwa [World.size_alloc] at this
  have Q1 : (W.alloc (.cells #[] 3)).heap[w.heap.size + 1]? = some (.cells #[.slice none 0 0] 71 (0, 0)) := (Below.heap_alloc _ _ _ (by omega)).trans q1
  have HA := ha.below B
  have HA2 := HA.alloc (.cells #[] 3)
  have OE := owns_empty W 3 1
  clear ha HA
  go_enter Tryd.func70, Tryd.ntmps70
  subst hW
  rw [zW] at OE
  go_wp2_with (at_builtin; refine wpList_append_all rfl (.tmp 3) (.tmp 5) 23 rfl (w.heap.size + 1 + 1) 3 i0 (.int .i64 0) 8 Tryd.underlying23 hi hz0 hz1 hz2 rfl (.slice (some ⟨w.heap.size + 1 + 1, 0, none⟩) 0 0) 0 [] rfl OE a n c zs rfl hz HA2 hnil (by unfold maxLen; omega) (by omega) (by simp) ?_; intro r cap w2 hown2 hgrow2; rw [Nat.zero_add] at hown2; rw [Nat.zero_add]; have hR := (hgrow2.block (w.heap.size + 1) (by simp) (by simp [Value.ownBlock])).trans Q1; have t1 : w2.cell? ⟨w.heap.size + 1, 0, none⟩ = some (.slice none 0 0) := (by rw [cell_of_row w2 _ 0 _ _ (0, 0) hR]; simp); have t2 : w2.frozen? ⟨w.heap.size + 1, 0, none⟩ = false := frozen_of_row w2 _ 0 _ _ hR)
  refine bodyPost_ret (v := .agg #[.slice r n cap]) (by simp [results, Tryd.results70, go_sem, t1]) rfl ⟨r, cap, rfl, ?_, ?_⟩
  · exact owns_mono (ownsRow_setCell_below hown2 (by simp) _) (by omega)
  · exact ((B.alloc (by omega) _).grown hgrow2 (by simp; omega) (fun j hj => by simp [Value.ownBlock] at hj; omega)).setCell (by simp) _

end Go.Proofs.YtkcfhlpdenjimaaDoor

/- Contracts of the laws' helpers over rows: szRow, toRow, eqRow. -/
namespace Go.Proofs.YtkcfhlpdenjimaaDoor
open Go.RowKit

theorem eqRow_any (a a' : Option Addr) (n n' c c' : Nat) (zs zs' : List Int) (w : World) (hz : zs.length = n) (hz' : zs'.length = n') (hn : n ≤ 1048576) (hn' : n' ≤ 1048576) (ha : At w a zs) (ha' : At w a' zs') :
    Calls Tryd.prog 91 #[.agg #[.slice a n c], .agg #[.slice a' n' c']] w fun e w' => e = .returned (.bool (decide (zs = zs'))) ∧ Below w.heap.size w w' := by
  have HA := (ha.alloc (.cells #[.slice a n c] 71)).alloc (.cells #[.slice a' n' c'] 71)
  have HA' := (ha'.alloc (.cells #[.slice a n c] 71)).alloc (.cells #[.slice a' n' c'] 71)
  clear ha ha'
  have hd : ∀ d : Bool, decide (zs = zs') = d → Calls Tryd.prog 91 #[.agg #[.slice a n c], .agg #[.slice a' n' c']] w fun e w' => e = .returned (.bool d) ∧ Below w.heap.size w w' := by
    intro d hd
    have HD : Hid (decide (zs = zs') = d) := hd
    clear hd
    cases d
    all_goals
      go_enter Tryd.func91, Tryd.ntmps91
      go_wp2_with (go_at_call 12; refine (eqIntS_any _ _ _ _ _ _ zs zs' _ hz hz' hn hn' HA HA').mono ?_; rintro e w' ⟨rfl, hb⟩; rw [HD.out])
      go_ret
      exact ⟨rfl, (((Below.refl _ _).alloc (Nat.le_refl _) _).alloc (by simp) _).trans (hb.mono (by simp; omega))⟩
  exact hd _ rfl

end Go.Proofs.YtkcfhlpdenjimaaDoor

/- Contracts of the laws' helpers over weighted rows: szWeighted, szWeightedS, szTable, toWeighted, toWeightedS, toTable. -/
namespace Go.Proofs.YtkcfhlpdenjimaaDoor
open Go.RowKit

/-- What szWeightedS takes: a slot a row, and the rows' cells. -/
theorem wtot_cells (ts : List WRow) (k : Nat) (h : k ≤ ts.length) : ∃ s : Nat, wtot ts k = k + s := ⟨wtot ts k - k, by have := wtot_len ts k h; omega⟩

theorem Tryd.infoW : (Tryd.prog.info? 74).map (fun i => (i.zero, i.size, i.bytes)) = some (some (.agg #[.slice none 0 0, .int .i64 0]), 2, 32) := by kernel_rfl

end Go.Proofs.YtkcfhlpdenjimaaDoor

/- Contracts of impl.GoodRow and spec.GoodRow. -/
namespace Go.Proofs.YtkcfhlpdenjimaaDoor
open Go.RowKit

set_option maxHeartbeats 400000 in
theorem specGoodRow_any (a : Option Addr) (n c : Nat) (zs : List Int) (w : World) (hz : zs.length = n) (hn : n ≤ 9223372036854775807) (ha : At w a zs) :
    Calls Tryd.prog 88 #[.agg #[.slice a n c]] w fun e w' => e = .returned (.bool (good zs)) ∧ Below w.heap.size w w' := by
  by_cases h0 : n = 0
  · subst h0
    obtain rfl := List.eq_nil_of_length_eq_zero hz
    go_enter Tryd.func88, Tryd.ntmps88
    go_wp2
    refine wp_loop_rounds 1 ?_
    rw [rounds_succ]
    go_wp2
    go_ret
    exact ⟨ret_bool (by simp [good]), (Below.refl _ _).alloc (Nat.le_refl _) _⟩
  · obtain ⟨b, off, rfl, hb, hc⟩ := (ha.alloc (.cells #[.slice a n c] 71)).some (by omega)
    clear ha
    go_enter Tryd.func88, Tryd.ntmps88
    go_wp2
    go_loop [8] (fun i => ∃ k : Nat, k ≤ n ∧ i = .int .i64 k ∧ ∀ j, j < k → -100000 ≤ zs.getD j 0 ∧ zs.getD j 0 ≤ 100000) (fun i => n - (intOf i).toNat)
    case atStart => exact ⟨0, Nat.zero_le _, rfl, fun j hj => by omega⟩
    case round =>
      obtain ⟨k, hk, rfl, hall⟩ := hrel
      by_cases hlt : k < n
      · have hcx := hc k (by omega)
        have HN := not_good_cell (zs := zs) k (by omega)
        have HS : Hid (-100000 ≤ zs.getD k 0 → zs.getD k 0 ≤ 100000 → ∀ j, j < k + 1 → -100000 ≤ zs.getD j 0 ∧ zs.getD j 0 ≤ 100000) := fun h1 h2 j hj => by
          by_cases e : j = k
          · subst e; exact ⟨h1, h2⟩
          · exact hall j (by omega)
        clear hall hc
        obtain ⟨x, hx⟩ : ∃ x, x = zs.getD k 0 := ⟨_, rfl⟩
        rw [← hx] at hcx HN HS
        have HN' : Hid (x < -100000 ∨ 100000 < x → good zs = false) := HN
        clear hx HN
        by_cases hlo : x < -100000
        · go_wp2
          go_ret
          exact ⟨ret_bool (HN'.out (.inl hlo)).symm, (Below.refl _ _).alloc (Nat.le_refl _) _⟩
        · by_cases hhi : 100000 < x
          · have hd : decide (x ≤ 100000) = false := by simp; omega
            go_wp2
            go_ret
            exact ⟨ret_bool (HN'.out (.inr hhi)).symm, (Below.refl _ _).alloc (Nat.le_refl _) _⟩
          · have hd : decide (x ≤ 100000) = true := by simp; omega
            go_wp2
            go_round
            case rel => exact ⟨k + 1, by omega, by go_num, HS.out (by omega) (by omega)⟩
            case measure => simp [intOf]; omega
      · by_cases h6 : n ≤ 6
        · have hg := good_of (zs := zs) (by omega) (fun j hj => hall j (by omega))
          clear hall hc
          have HG : Hid (good zs = true) := hg
          clear hg
          go_wp2
          go_ret
          exact ⟨ret_bool (by rw [HG.out]; simp; omega), (Below.refl _ _).alloc (Nat.le_refl _) _⟩
        · have HG : Hid (good zs = false) := good_long (zs := zs) (by omega)
          clear hall hc
          go_wp2
          go_ret
          exact ⟨ret_bool (by rw [HG.out]; simp; omega), (Below.refl _ _).alloc (Nat.le_refl _) _⟩

end Go.Proofs.YtkcfhlpdenjimaaDoor

/- Two arrays of ints, compared by '==': a law of the model's own equality. -/
namespace Go.Proofs.YtkcfhlpdenjimaaDoor
open Go.RowKit

def eqParts (d : Nat) (e : TypeId) (n : Nat) (xs ys : Array Value) : List Nat → Sem Bool
  | [] => pure true
  | i :: is => do
    let a ← part e xs (i * n)
    let b ← part e ys (i * n)
    let r ← Op.equalIn d e a b
    if (!r) = true then pure false else eqParts d e n xs ys is

theorem run_equalIn_array {P : Program} (w : World) (d : Nat) (t e : TypeId) (i : TypeInfo) (len : Nat) (ht : P.underlying t = some (.array len e)) (hi : P.info? e = some i) (xs ys : Array Value) :
    (Op.equalIn (d + 1) t (.agg xs) (.agg ys)).run P w = (eqParts d e i.size xs ys (List.range' 0 len)).run P w := by
  simp only [Op.equalIn, Sem.run_bind, run_underlying ht, Result.andThen_ok, sizeOf, typeInfo, run_program, hi, Sem.run_pure]
  rw [Std.Legacy.Range.forIn_eq_forIn_range']
  simp only [Std.Legacy.Range.size, Nat.sub_zero, Nat.add_sub_cancel, Nat.div_one]
  generalize List.range' 0 len = is
  clear ht
  induction is generalizing w with
  | nil => simp [eqParts]
  | cons f fs ih =>
    simp only [List.forIn_cons, eqParts, Sem.run_bind, Sem.run_ite]
    generalize (part e xs (f * i.size)).run P w = r1
    cases r1 with
    | ok a w1 =>
      simp only [Result.andThen_ok]
      generalize (part e ys (f * i.size)).run P w1 = r2
      cases r2 with
      | ok b w2 =>
        simp only [Result.andThen_ok]
        generalize (Op.equalIn d e a b).run P w2 = r3
        cases r3 with
        | ok r w3 =>
          cases r
          · simp only [Result.andThen_ok, Bool.not_false, if_true, Sem.run_pure]
          · simp only [Result.andThen_ok, Bool.not_true, Bool.false_eq_true, if_false, Sem.run_pure]
            exact ih w3
        | halt x w3 => simp [Result.andThen]
      | halt x w2 => simp [Result.andThen]
    | halt x w1 => simp [Result.andThen]

theorem run_eqParts_ints {P : Program} (w : World) (d : Nat) (e : TypeId) (he : P.underlying e = some (.int .i64)) (xs ys : List Int) (is : List Nat) (hx : ∀ i ∈ is, i < xs.length) (hy : ∀ i ∈ is, i < ys.length) :
    (eqParts (d + 1) e 1 (xs.map (Value.int .i64)).toArray (ys.map (Value.int .i64)).toArray is).run P w = .ok (is.all fun i => xs.getD i 0 == ys.getD i 0) w := by
  induction is with
  | nil => simp [eqParts]
  | cons i is ih =>
    have h1 := hx i (by simp)
    have h2 := hy i (by simp)
    have ih' := ih (fun j hj => hx j (by simp [hj])) (fun j hj => hy j (by simp [hj]))
    have p1 : (part e (xs.map (Value.int .i64)).toArray (i * 1)).run P w = .ok (.int .i64 (xs.getD i 0)) w := by simp [part, isAgg, run_underlying he, List.getD, h1]
    have p2 : (part e (ys.map (Value.int .i64)).toArray (i * 1)).run P w = .ok (.int .i64 (ys.getD i 0)) w := by simp [part, isAgg, run_underlying he, List.getD, h2]
    simp only [eqParts, Sem.run_bind, p1, p2, Result.andThen_ok, run_equalIn_int w d e .i64 .i64 _ _ he, Sem.run_ite, ih']
    cases h : (xs.getD i 0 == ys.getD i 0) <;> simp [Sem.run_pure]
    all_goals (simp at h; simp [h])

theorem all_range_eq (xs ys : List Int) (h : xs.length = ys.length) : ((List.range' 0 xs.length).all fun i => xs.getD i 0 == ys.getD i 0) = decide (xs = ys) := by
  rw [Bool.eq_iff_iff, List.all_eq_true, decide_eq_true_eq]
  constructor
  · intro hall
    apply List.ext_getElem h
    intro i h1 h2
    have := hall i (by simp; omega)
    simpa [List.getD, h1, h2] using this
  · rintro rfl i _
    simp

theorem run_equal_ints {P : Program} {len : Nat} (w : World) (d : Nat) (t e : TypeId) (i : TypeInfo) (ht : P.underlying t = some (.array len e)) (he : P.underlying e = some (.int .i64)) (hi : P.info? e = some i) (hs : i.size = 1)
    (xs ys : List Int) (hx : xs.length = len) (hy : ys.length = len) :
    (Op.equalIn (d + 1 + 1) t (.agg (xs.map (Value.int .i64)).toArray) (.agg (ys.map (Value.int .i64)).toArray)).run P w = .ok (decide (xs = ys)) w := by
  rw [run_equalIn_array w (d + 1) t e i len ht hi, hs, run_eqParts_ints w d e he xs ys _ (by simp; omega) (by simp; omega), ← hx, all_range_eq xs ys (by omega)]

end Go.Proofs.YtkcfhlpdenjimaaDoor

/- Contract of impl.arrayOf. -/
namespace Go.Proofs.YtkcfhlpdenjimaaDoor
open Go.RowKit

end Go.Proofs.YtkcfhlpdenjimaaDoor

/- Contracts of spec.l1Compare, impl.compareArrays. -/
namespace Go.Proofs.YtkcfhlpdenjimaaDoor
open Go.RowKit

set_option maxHeartbeats 1000000 in
theorem l1Compare_any (a a' : Option Addr) (n n' c c' : Nat) (xs ys : List Int) (w : World) (hz : xs.length = n) (hz' : ys.length = n') (hn : n ≤ 6) (hn' : n' ≤ 6) (ha : At w a xs) (ha' : At w a' ys) :
    Calls Tryd.prog 90 #[.agg #[.slice a n c], .agg #[.slice a' n' c']] w fun e w' => e = .returned (.int .i64 (cmp xs ys)) ∧ Below w.heap.size w w' := by
  obtain ⟨W, hW⟩ : ∃ W, W = (w.alloc (.cells #[.slice a n c] 71)).alloc (.cells #[.slice a' n' c'] 71) := ⟨_, rfl⟩
  have B : Below w.heap.size w W := by rw [hW]; exact ((Below.refl _ _).alloc (Nat.le_refl _) _).alloc (by simp) _
  have HA : At W a xs := ha.below B
  have HA' : At W a' ys := ha'.below B
  have c1 : W.cell? ⟨w.heap.size, 0, none⟩ = some (.slice a n c) := by rw [hW]; simp
  have c2 : W.cell? ⟨w.heap.size + 1, 0, none⟩ = some (.slice a' n' c') := by rw [hW]; simp
  have z2 : W.heap.size = w.heap.size + 1 + 1 := by rw [hW]; simp
  clear ha ha'
  go_enter Tryd.func90, Tryd.ntmps90
  go_wp2
  rw [← hW]
  clear hW
  go_loopw [5] (fun i wr => ∃ k : Nat, k ≤ n ∧ k ≤ n' ∧ i = .int .i64 k ∧ cmp xs ys = cmp (xs.drop k) (ys.drop k) ∧ Below W.heap.size W wr) (fun i _ => 7 - (intOf i).toNat)
  case atStart => exact ⟨0, Nat.zero_le _, Nat.zero_le _, rfl, by simp, Below.refl _ _⟩
  case round =>
    obtain ⟨k, hk, hk', rfl, hcmp, hbw⟩ := hrel
    have d1 := cell_later hbw c1
    have d2 := cell_later hbw c2
    have BW : Below w.heap.size w wr := B.trans (hbw.mono B.size)
    have HC : Hid (cmp xs ys = cmp (xs.drop k) (ys.drop k)) := hcmp
    clear hcmp
    by_cases hlt : k < n
    · by_cases hlt' : k < n'
      · obtain ⟨b, off, rfl, hb, hc⟩ := (HA.below hbw).some (by omega)
        obtain ⟨b', off', rfl, hb', hc'⟩ := (HA'.below hbw).some (by omega)
        have hcx := hc k (by omega)
        have hcy := hc' k (by omega)
        have HD : Hid (cmp xs ys = _) := HC.out.trans (cmp_drop xs ys k (by omega) (by omega))
        clear hc hc' HC HA HA' c1 c2 z2
        obtain ⟨x, hx⟩ : ∃ x, x = xs.getD k 0 := ⟨_, rfl⟩
        obtain ⟨y, hy⟩ : ∃ y, y = ys.getD k 0 := ⟨_, rfl⟩
        rw [← hx] at hcx HD
        rw [← hy] at hcy HD
        clear hx hy
        by_cases hxy : x < y
        · go_wp2
          go_quiet (fail)
          go_wp2
          go_ret
          exact ⟨ret_int (by rw [HD.out, if_pos hxy]), below_drewN BW _⟩
        · go_wp2
          go_quiet (fail)
          go_wp2
          by_cases hyx : y < x
          · go_quiet (fail)
            go_wp2
            go_ret
            exact ⟨ret_int (by rw [HD.out, if_neg (by omega), if_pos hyx]), below_drewN (below_drewN BW _) _⟩
          · go_quiet (fail)
            go_wp2
            go_roundw
            case rel => exact ⟨k + 1, by omega, by omega, by go_num, by rw [HD.out, if_neg (by omega), if_neg (by omega)], below_drewN hbw _⟩
            case measure => simp [intOf]; omega
      · have HE : Hid (cmp xs ys = _) := HC.out.trans (cmp_end xs ys k (by omega) (by omega) (by omega))
        have hg : ¬ n < n' := by omega
        have hg' : n' < n := by omega
        go_wp2
        go_ret
        exact ⟨ret_int (by rw [HE.out, if_neg (by omega), if_pos (by omega)]), BW⟩
    · have HE : Hid (cmp xs ys = _) := HC.out.trans (cmp_end xs ys k (by omega) (by omega) (by omega))
      by_cases hg : n < n'
      · go_wp2
        go_ret
        exact ⟨ret_int (by rw [HE.out, if_pos (by omega)]), BW⟩
      · have hg' : n = n' := by omega
        subst hg'
        go_wp2
        go_ret
        exact ⟨ret_int (by rw [HE.out, if_neg (by omega), if_neg (by omega)]), BW⟩

end Go.Proofs.YtkcfhlpdenjimaaDoor

/- Contract of spec.l2Put. -/
namespace Go.Proofs.YtkcfhlpdenjimaaDoor
open Go.RowKit

theorem atM_cells {w : World} {b off : Nat} {ts : List WRow} (h : AtM w (some ⟨b, off, none⟩) ts) : ∃ cs, Means w cs ts ∧ ∀ j u, cs[j]? = some u → w.cell? ⟨b, off + j, none⟩ = some u := by
  rcases h with rfl | ⟨b', off', cs, he, hm, hc⟩
  · exact ⟨[], trivial, fun j u h => by simp at h⟩
  · simp only [Option.some.injEq, Addr.mk.injEq, and_true] at he
    obtain ⟨rfl, rfl⟩ := he
    exact ⟨cs, hm, hc⟩
theorem take_cells {cs : List Value} {w : World} {b off : Nat} (hc : ∀ j u, cs[j]? = some u → w.cell? ⟨b, off + j, none⟩ = some u) (k : Nat) : ∀ j u, (cs.take k)[j]? = some u → w.cell? ((⟨b, off, none⟩ : Addr).add j) = some u := fun j u hj => by
  rw [Addr.add_lit]
  refine hc j u ?_
  rw [List.getElem?_take] at hj
  split at hj
  · exact hj
  · cases hj
theorem drop_cells {cs : List Value} {w : World} {b off : Nat} (hc : ∀ j u, cs[j]? = some u → w.cell? ⟨b, off + j, none⟩ = some u) (k : Nat) : ∀ j u, (cs.drop k)[j]? = some u → w.cell? ((⟨b, off + k, none⟩ : Addr).add j) = some u := fun j u hj => by
  rw [Addr.add_lit]
  rw [List.getElem?_drop] at hj
  rw [show off + k + j = off + (k + j) by omega]
  exact hc _ _ hj
theorem owns_cap {w : World} {base : Nat} {e : TypeId} {size : Nat} {a : Option Addr} {n c : Nat} {xs : List Value} (h : w.ownsRow base e size (.slice a n c) n xs) : n ≤ c := by
  rcases h.2 with ⟨h', h0⟩ | ⟨g, cap, cur, h', _, _, h1, _⟩
  · simp at h'; omega
  · simp at h'; omega
/-- A slice's head as Go makes them. -/
def Formed (a : Option Addr) (n c : Nat) : Prop := n ≤ c ∧ (a = none → c = 0) ∧ ∀ ad, a = some ad → ∃ b off, ad = ⟨b, off, none⟩
theorem Formed.nil : Formed none 0 0 := ⟨Nat.le_refl _, fun _ => rfl, fun _ h => by cases h⟩
theorem Formed.some {b off n c : Nat} (h : n ≤ c) : Formed (Option.some ⟨b, off, none⟩) n c := ⟨h, fun h => (by cases h), fun ad h => ⟨b, off, by cases h; rfl⟩⟩
theorem owns_formed {w : World} {base : Nat} {e : TypeId} {size : Nat} {a : Option Addr} {n c : Nat} {xs : List Value} (h : w.ownsRow base e size (.slice a n c) n xs) : Formed a n c := by
  rcases h.2 with ⟨h', h0⟩ | ⟨g, cap, cur, h', _, _, h1, _⟩
  · simp at h'
    obtain ⟨rfl, rfl, rfl⟩ := h'
    exact Formed.nil
  · simp at h'
    obtain ⟨rfl, rfl⟩ := h'
    exact Formed.some h1
theorem oneW_no {zs : List Int} {x : Int} (h : x = 0) : oneW zs x = [] := if_pos h
theorem oneW_yes {zs : List Int} {x : Int} (h : x ≠ 0) : oneW zs x = [(zs, x)] := if_neg h

end Go.Proofs.YtkcfhlpdenjimaaDoor

/- A variable that holds a table: its block, and the rows that the call owns. -/
namespace Go.Proofs.YtkcfhlpdenjimaaDoor
open Go.RowKit

/-- A variable of a table (block T): its columns, and its rows, the call's own from T + 1 on. -/
def TabVar (w : World) (T : Nat) (p : Int) (r : Option Addr) (k d : Nat) (ts : List WRow) (cells : List Value) : Prop :=
  w.heap[T]? = some (.cells #[.int .i64 p, .slice r k d] 40 (0, 0)) ∧ OwnW w (T + 1) w.heap.size 74 3 r k d ts cells

section
variable {w w' : World} {T : Nat} {p : Int} {r : Option Addr} {k d : Nat} {ts : List WRow} {cells : List Value}

theorem TabVar.lt (h : TabVar w T p r k d ts cells) : T < w.heap.size := (Array.getElem?_eq_some_iff.1 h.1).1
theorem TabVar.cell0 (h : TabVar w T p r k d ts cells) : w.cell? ⟨T, 0, none⟩ = some (.int .i64 p) := by rw [cell_of_row w T 0 _ _ (0, 0) h.1]; rfl
theorem TabVar.cell1 (h : TabVar w T p r k d ts cells) : w.cell? ⟨T, 1, none⟩ = some (.slice r k d) := by rw [cell_of_row w T 1 _ _ (0, 0) h.1]; rfl
theorem TabVar.frozen1 (h : TabVar w T p r k d ts cells) : w.frozen? ⟨T, 1, none⟩ = false := frozen_of_row w T 1 _ _ h.1
theorem TabVar.below (h : TabVar w T p r k d ts cells) (hb : Below w.heap.size w w') : TabVar w' T p r k d ts cells :=
  ⟨(hb.block T h.lt).trans h.1, (h.2.below hb).widen (Nat.le_refl _) hb.size (Nat.le_refl _)⟩
theorem TabVar.drew (h : TabVar w T p r k d ts cells) : TabVar w.drew T p r k d ts cells := h.below (Below.refl _ _).drew
theorem TabVar.new (w : World) (p : Int) : TabVar (w.alloc (.cells #[.int .i64 p, .slice none 0 0] 40)) w.heap.size p none 0 0 [] [] :=
  ⟨heap_alloc_new w _, OwnWk.start rfl (Nat.le_refl _) (World.ownsRow_nil _ _ _ _) (fun b hb => by cases hb)⟩
theorem TabVar.own (h : TabVar w T p r k d ts cells) : w.ownsRow (T + 1) 74 2 (.slice r k d) k cells := h.2.outer

theorem TabVar.pushed {w2 w4 : World} {a' : Option Addr} {m c' g cap : Nat} {zs : List Int} {x : Int} {o : Obj} (h : TabVar w T p r k d ts cells) (hb : Below w.heap.size w w2)
    (hm : zs.length = m) (hrow : w2.ownsRow w.heap.size 3 1 (.slice a' m c') m (zs.map (.int .i64)))
    (hown : w4.ownsRow (T + 1) 74 2 (.slice (some ⟨g, 0, none⟩) (k + 1) cap) (k + 1) (cells ++ [.slice a' m c', .int .i64 x])) (hgr : (w2.alloc o).grownBy w4 (Value.slice r k d).ownBlock)
    (hat : (Value.slice r k d).ownBlock = some g ∨ g = w2.heap.size + 1) (hlt : g < w4.heap.size) :
    w4.cell? ⟨T, 1, none⟩ = some (.slice r k d) ∧ w4.frozen? ⟨T, 1, none⟩ = false ∧ TabVar (w4.setCell ⟨T, 1, none⟩ (.slice (some ⟨g, 0, none⟩) (k + 1) cap)) T p (some ⟨g, 0, none⟩) (k + 1) cap (ts ++ [(zs, x)]) (cells ++ [.slice a' m c', .int .i64 x]) := by
  have hT := h.lt
  have h2 := hb.size
  have hne : some T ≠ (Value.slice r k d).ownBlock := fun e => by have := (h.own.lt T e.symm).1; omega
  have hR : w4.heap[T]? = some (.cells #[.int .i64 p, .slice r k d] 40 (0, 0)) := by
    rw [hgr.block T (by simp; omega) hne, Below.heap_alloc w2 o T (by omega), hb.block T hT]
    exact h.1
  refine ⟨by rw [cell_of_row w4 T 1 _ _ (0, 0) hR]; rfl, frozen_of_row w4 T 1 _ _ hR, ?_, ?_⟩
  · rw [heap_setCell_same w4 T 1 _ _ _ hR]; rfl
  · have hp := h.2.pushed (by omega) hb hm hrow hown hgr hat hlt
    exact (hp.setCell (a0 := ⟨T, 1, none⟩) (.inl (by show T < T + 1; omega)) _).widen (Nat.le_refl _) (by simp [World.setCell]) (Nat.le_refl _)

theorem TabVar.pushed_below {w2 w4 : World} {o : Obj} {B : Nat} {W : World} {v : Value} (h : TabVar w T p r k d ts cells) (hb : Below w.heap.size w w2)
    (hgr : (w2.alloc o).grownBy w4 (Value.slice r k d).ownBlock) (hB : Below B W w) (hBT : B ≤ T) : Below B W (w4.setCell ⟨T, 1, none⟩ v) := by
  have hT := h.lt
  have h2 := hb.size
  exact (((hB.trans (hb.mono (by omega))).alloc (by omega) o).grown hgr (by simp; omega) (fun j hj => by have := (h.own.lt j hj).1; omega)).setCell hBT _
end

/-- What a function that tells a table hands back. -/
def TabRet (e : Ending) (w' : World) (lo : Nat) (ok : Bool) (p : Int) (ts : List WRow) : Prop :=
  ∃ r m d cells, e = .returned (.tuple #[.agg #[.int .i64 p, .slice r m d], .bool ok]) ∧ OwnW w' lo w'.heap.size 74 3 r m d ts cells

/-- The columns and the rows that are told, nothing where they are no good table. -/
def tellP (p : Int) (ts : List WRow) : Int := if goodT p ts then p else 0
def tellT (p : Int) (ts : List WRow) : List WRow := if goodT p ts then ts else []

end Go.Proofs.YtkcfhlpdenjimaaDoor

/- Contracts of impl.goodColumns, impl.goodWeight, impl.goodWeighted, impl.GoodTable. -/
namespace Go.Proofs.YtkcfhlpdenjimaaDoor
open Go.RowKit

theorem goodColumns_any (p : Int) (w : World) :
    Calls Tryd.prog 85 #[.int .i64 p] w fun e w' => e = .returned (.bool (inc p)) ∧ w' = w := by
  by_cases h : 0 ≤ p
  · go_enter Tryd.func85, Tryd.ntmps85
    go_wp2
    go_ret
    exact ⟨ret_bool (by simp [inc, h]), rfl⟩
  · go_enter Tryd.func85, Tryd.ntmps85
    go_wp2
    go_ret
    exact ⟨ret_bool (by simp only [inc, decide_eq_false (show ¬ 0 ≤ p by omega), Bool.false_and]), rfl⟩

end Go.Proofs.YtkcfhlpdenjimaaDoor
