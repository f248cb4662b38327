/- Several texts of one proof, in build order: GroundM, L2Own, GoodRow, ArrEq, ArrayOf, Compare, L2Put, TabVar, GoodT, MapA. -/
import Derived.Test.YthdcjelahoiepabM0
import Derived.Test.YthdcjelahoiepabM4
import Derived.Test.YthdcjelahoiepabM3
import Derived.Laws.StructEq
import Derived.Deep.AppendLies
import Derived.WideKeyEntry
import Derived.Deep.RegionHeld3

/- Cells that mean weighted rows, whoever owns them; 'append(out, xs...)' of whatever elements. -/
namespace Go.Proofs.Ythdcjelahoiepab
open Go.RowKit

/-- Cells that mean weighted rows. -/
def Means (w : World) : List Value → List WRow → Prop
  | [], [] => True
  | u :: v :: cs, t :: ts => (∃ a c, u = .slice a t.1.length c ∧ (a = none → c = 0) ∧ At w a t.1) ∧ t.1.length ≤ 9223372036854775807 ∧ v = .int .i64 t.2 ∧ Means w cs ts
  | _, _ => False

theorem Means.nil (w : World) : Means w [] [] := trivial
theorem Means.one {w : World} {a : Option Addr} {zs : List Int} {n c : Nat} {x : Int} (hn : zs.length = n) (h6 : n ≤ 9223372036854775807) (hnil : a = none → c = 0) (h : At w a zs) : Means w [.slice a n c, .int .i64 x] [(zs, x)] :=
  ⟨⟨a, c, by rw [hn], hnil, h⟩, by simp only [hn]; exact h6, rfl, trivial⟩

set_option linter.unusedVariables false in
theorem Means.length {w : World} : ∀ {cs : List Value} {ts : List WRow}, Means w cs ts → cs.length = ts.length * 2
  | [], [], _ => rfl
  | [], _ :: _, h => h.elim
  | [_], [], h => h.elim
  | [_], _ :: _, h => h.elim
  | _ :: _ :: _, [], h => h.elim
  | u :: v :: cs, t :: ts, ⟨_, _, _, h⟩ => by have := Means.length h; simp [this]; omega

set_option linter.unusedVariables false in
theorem Means.below {w w' : World} (hb : Below w.heap.size w w') : ∀ {cs : List Value} {ts : List WRow}, Means w cs ts → Means w' cs ts
  | [], [], _ => trivial
  | [], _ :: _, h => h.elim
  | [_], [], h => h.elim
  | [_], _ :: _, h => h.elim
  | _ :: _ :: _, [], h => h.elim
  | u :: v :: cs, t :: ts, ⟨⟨a, c, h1, h0, h2⟩, h3, h4, h5⟩ => ⟨⟨a, c, h1, h0, h2.below hb⟩, h3, h4, Means.below hb h5⟩

set_option linter.unusedVariables false in
theorem Means.append {w : World} : ∀ {cs cs' : List Value} {ts ts' : List WRow}, Means w cs ts → Means w cs' ts' → Means w (cs ++ cs') (ts ++ ts')
  | [], _, [], _, _, h => h
  | [], _, _ :: _, _, h, _ => h.elim
  | [_], _, [], _, h, _ => h.elim
  | [_], _, _ :: _, _, h, _ => h.elim
  | _ :: _ :: _, _, [], _, h, _ => h.elim
  | u :: v :: cs, cs', t :: ts, ts', ⟨h1, h2, h3, h4⟩, h => ⟨h1, h2, h3, Means.append h4 h⟩

set_option linter.unusedVariables false in
theorem Means.take {w : World} : ∀ {cs : List Value} {ts : List WRow} (k : Nat), Means w cs ts → Means w (cs.take (k * 2)) (ts.take k)
  | [], [], _, _ => by simp [Means]
  | [], _ :: _, _, h => h.elim
  | [_], [], _, h => h.elim
  | [_], _ :: _, _, h => h.elim
  | _ :: _ :: _, [], _, h => h.elim
  | u :: v :: cs, t :: ts, 0, _ => by simp [Means]
  | u :: v :: cs, t :: ts, k + 1, ⟨h1, h2, h3, h4⟩ => by
    rw [show (k + 1) * 2 = k * 2 + 1 + 1 by omega]
    exact ⟨h1, h2, h3, Means.take k h4⟩
set_option linter.unusedVariables false in
theorem Means.drop {w : World} : ∀ {cs : List Value} {ts : List WRow} (k : Nat), Means w cs ts → Means w (cs.drop (k * 2)) (ts.drop k)
  | [], [], _, _ => by simp [Means]
  | [], _ :: _, _, h => h.elim
  | [_], [], _, h => h.elim
  | [_], _ :: _, _, h => h.elim
  | _ :: _ :: _, [], _, h => h.elim
  | u :: v :: cs, t :: ts, 0, h => by simpa using h
  | u :: v :: cs, t :: ts, k + 1, ⟨h1, h2, h3, h4⟩ => by
    rw [show (k + 1) * 2 = k * 2 + 1 + 1 by omega]
    exact Means.drop k h4

set_option linter.unusedVariables false in
theorem Means.at {w : World} : ∀ {cs : List Value} {ts : List WRow} (i : Nat), Means w cs ts → i < ts.length → ∃ a c, cs[i * 2]? = some (.slice a (wat ts i).1.length c) ∧ cs[i * 2 + 1]? = some (.int .i64 (wat ts i).2) ∧ (wat ts i).1.length ≤ 9223372036854775807 ∧ (a = none → c = 0) ∧ At w a (wat ts i).1
  | [], [], _, _, h => by simp at h
  | [], _ :: _, _, h, _ => h.elim
  | [_], [], _, h, _ => h.elim
  | [_], _ :: _, _, h, _ => h.elim
  | _ :: _ :: _, [], _, h, _ => h.elim
  | u :: v :: cs, t :: ts, 0, ⟨⟨a, c, h1, h0, h2⟩, h3, h4, _⟩, _ => ⟨a, c, by simp [wat, h1], by simp [wat, h4], by simpa [wat] using h3, h0, by simpa [wat] using h2⟩
  | u :: v :: cs, t :: ts, i + 1, ⟨_, _, _, h5⟩, hi => by
    obtain ⟨a, c, k1, k2, k3, k0, k4⟩ := Means.at i h5 (by simpa using hi)
    have e : wat (t :: ts) (i + 1) = wat ts i := by simp [wat]
    rw [e]
    refine ⟨a, c, ?_, ?_, k3, k0, k4⟩
    · rw [show (i + 1) * 2 = i * 2 + 1 + 1 by omega]; simpa using k1
    · rw [show (i + 1) * 2 + 1 = (i * 2 + 1) + 1 + 1 by omega]; simpa using k2

set_option linter.unusedVariables false in
theorem Means.oneCell {w : World} : ∀ {cs : List Value} {ts : List WRow}, Means w cs ts → ∀ u ∈ cs, u.oneCell' = true
  | [], [], _, _, h => by cases h
  | [], _ :: _, h, _, _ => h.elim
  | [_], [], h, _, _ => h.elim
  | [_], _ :: _, h, _, _ => h.elim
  | _ :: _ :: _, [], h, _, _ => h.elim
  | u :: v :: cs, t :: ts, ⟨⟨a, c, h1, _, _⟩, _, h4, h5⟩, x, hx => by
    rcases List.mem_cons.1 hx with rfl | hx
    · subst h1; rfl
    · rcases List.mem_cons.1 hx with rfl | hx
      · subst h4; rfl
      · exact Means.oneCell h5 x hx

theorem means_of {w : World} : ∀ {ts : List WRow} {cs : List Value}, cs.length = ts.length * 2 → (∀ i, i < ts.length → ∃ a c, cs[i * 2]? = some (.slice a (wat ts i).1.length c) ∧ cs[i * 2 + 1]? = some (.int .i64 (wat ts i).2) ∧ (wat ts i).1.length ≤ 9223372036854775807 ∧ (a = none → c = 0) ∧ At w a (wat ts i).1) → Means w cs ts
  | [], [], _, _ => trivial
  | [], _ :: _, h, _ => by simp at h
  | _ :: _, [], h, _ => by simp at h
  | _ :: _, [_], h, _ => by simp at h; omega
  | t :: ts, u :: v :: cs, hl, h => by
    obtain ⟨a, c, k1, k2, k3, k0, k4⟩ := h 0 (by simp)
    have e : wat (t :: ts) 0 = t := by simp [wat]
    rw [e] at k1 k2 k3 k4
    refine ⟨⟨a, c, by simpa using k1, k0, k4⟩, k3, by simpa using k2, means_of (by simp at hl; omega) fun i hi => ?_⟩
    obtain ⟨a, c, k1, k2, k3, k0, k4⟩ := h (i + 1) (by simpa using hi)
    have e : wat (t :: ts) (i + 1) = wat ts i := by simp [wat]
    rw [e] at k1 k2 k3 k4
    rw [show (i + 1) * 2 = i * 2 + 1 + 1 by omega] at k1 k2
    exact ⟨a, c, by simpa using k1, by simpa using k2, k3, k0, k4⟩

theorem Means.atW {w : World} {cs : List Value} {ts : List WRow} {b off : Nat} (h : Means w cs ts) (hc : ∀ j u, cs[j]? = some u → w.cell? ⟨b, off + j, none⟩ = some u) : AtW w (some ⟨b, off, none⟩) ts :=
  .inr ⟨b, off, rfl, fun i hi => by
    obtain ⟨a, c, k1, k2, k3, _, k4⟩ := h.at i hi
    exact ⟨a, c, by rw [hc _ _ k1], by rw [show off + i * 2 + 1 = off + (i * 2 + 1) by omega, hc _ _ k2], k3, k4⟩⟩

theorem Means.owned {w : World} {cs : List Value} {ts : List WRow} {base : Nat} {e : TypeId} {a : Option Addr} {n c : Nat} (h : Means w cs ts) (hn : ts.length = n) (ho : w.ownsRow base e 2 (.slice a n c) n cs) : AtW w a ts := by
  have hl := h.length
  rcases ho.2 with ⟨h', rfl⟩ | ⟨g, cap, cur, h', _⟩
  · left; exact List.eq_nil_of_length_eq_zero hn
  · simp only [Value.slice.injEq, true_and] at h'
    obtain ⟨rfl, rfl⟩ := h'
    refine h.atW fun j u hj => ?_
    have hj' := (List.getElem?_eq_some_iff.1 hj).1
    rw [Nat.zero_add, ho.cellAt j (by omega)]
    exact hj

/-- A slice of weighted rows as a model's function reads it: where a row's slice is nil it has no room. -/
def AtM (w : World) (a : Option Addr) (ts : List WRow) : Prop :=
  ts = [] ∨ ∃ b off cs, a = some ⟨b, off, none⟩ ∧ Means w cs ts ∧ ∀ j u, cs[j]? = some u → w.cell? ⟨b, off + j, none⟩ = some u

theorem AtM.atW {w : World} {a : Option Addr} {ts : List WRow} (h : AtM w a ts) : AtW w a ts := by
  rcases h with rfl | ⟨b, off, cs, rfl, hm, hc⟩
  · exact .inl rfl
  · exact hm.atW hc
theorem AtM.below {w w' : World} {a : Option Addr} {ts : List WRow} (h : AtM w a ts) (hb : Below w.heap.size w w') : AtM w' a ts := by
  rcases h with rfl | ⟨b, off, cs, rfl, hm, hc⟩
  · exact .inl rfl
  · exact .inr ⟨b, off, cs, rfl, hm.below hb, fun j u hj => cell_later hb (hc j u hj)⟩
theorem AtM.alloc {w : World} {a : Option Addr} {ts : List WRow} (h : AtM w a ts) (o : Obj) : AtM (w.alloc o) a ts := h.below ((Below.refl _ _).alloc (Nat.le_refl _) o)
theorem AtM.drew {w : World} {a : Option Addr} {ts : List WRow} (h : AtM w a ts) : AtM w.drew a ts := h.below (Below.refl _ _).drew
theorem atM_nil (w : World) (a : Option Addr) : AtM w a [] := .inl rfl
theorem Means.ownedM {w : World} {cs : List Value} {ts : List WRow} {base : Nat} {e : TypeId} {a : Option Addr} {n c : Nat} (h : Means w cs ts) (hn : ts.length = n) (ho : w.ownsRow base e 2 (.slice a n c) n cs) : AtM w a ts := by
  have hl := h.length
  rcases ho.2 with ⟨h', rfl⟩ | ⟨g, cap, cur, h', _⟩
  · left; exact List.eq_nil_of_length_eq_zero hn
  · simp only [Value.slice.injEq, true_and] at h'
    obtain ⟨rfl, rfl⟩ := h'
    refine .inr ⟨g, 0, cs, rfl, h, fun j u hj => ?_⟩
    have hj' := (List.getElem?_eq_some_iff.1 hj).1
    rw [Nat.zero_add, ho.cellAt j (by omega)]
    exact hj
theorem owns_nil {w : World} {base : Nat} {e : TypeId} {size : Nat} {a : Option Addr} {n c : Nat} {xs : List Value} (h : w.ownsRow base e size (.slice a n c) n xs) : a = none → c = 0 := by
  rintro rfl
  rcases h.2 with ⟨h', _⟩ | ⟨g, cap, cur, h', _⟩
  · simp at h'; exact h'.2
  · simp at h'
theorem OwnWk.means {w : World} {lo hi : Nat} {te ti : TypeId} {a : Option Addr} {n c : Nat} {ts : List WRow} {cells : List Value} (h : OwnW w lo hi te ti a n c ts cells) (hs : ∀ i, i < n → (wat ts i).1.length ≤ 9223372036854775807) : Means w cells ts :=
  means_of (by rw [h.len]; exact h.outer.1) fun i hi => by
    rw [h.len] at hi
    obtain ⟨a', c', k1, k2, k3⟩ := h.row i hi
    exact ⟨a', c', k1, k2, hs i hi, owns_nil k3, At.owned k3⟩
theorem OwnWk.atM {w : World} {lo hi : Nat} {te ti : TypeId} {a : Option Addr} {n c : Nat} {ts : List WRow} {cells : List Value} (h : OwnW w lo hi te ti a n c ts cells) (hs : ∀ i, i < n → (wat ts i).1.length ≤ 9223372036854775807) : AtM w a ts :=
  (h.means hs).ownedM h.len h.outer
/-- One row of it. -/
theorem AtM.some {w : World} {a : Option Addr} {ts : List WRow} (h : AtM w a ts) (hp : 0 < ts.length) :
    ∃ b off, a = Option.some ⟨b, off, none⟩ ∧ ∀ i, i < ts.length → ∃ a' c', w.cell? ⟨b, off + i * 2, none⟩ = Option.some (.slice a' (wat ts i).1.length c') ∧ w.cell? ⟨b, off + i * 2 + 1, none⟩ = Option.some (.int .i64 (wat ts i).2) ∧
      (wat ts i).1.length ≤ 9223372036854775807 ∧ (a' = none → c' = 0) ∧ At w a' (wat ts i).1 := by
  rcases h with rfl | ⟨b, off, cs, rfl, hm, hc⟩
  · simp at hp
  · refine ⟨b, off, rfl, fun i hi => ?_⟩
    obtain ⟨a', c', k1, k2, k3, k0, k4⟩ := hm.at i hi
    exact ⟨a', c', hc _ _ k1, by rw [show off + i * 2 + 1 = off + (i * 2 + 1) by omega]; exact hc _ _ k2, k3, k0, k4⟩

theorem wpList_append_any {P : Program} {w : World} {ops : Array Oper} {rest : List Oper} {o : Oper} {a : Act} {Q : Exit → Act → World → Prop} (hgd : o.guard = none) (s x : Operand) (t : TypeId)
    (ho : o.op = .call { callee := .builtin .append, args := #[s, x], argTypes := #[t, t] })
    (base : Nat) (e : TypeId) (i : TypeInfo) (z : Value) (size bytes : Nat) (ht : P.underlying t = some (.slice e)) (hi : P.info? e = some i) (hz : i.zero = some z)
    (hsize : i.size = size) (hby : i.bytes = bytes) (hzs : z.cells.size = size) (hsz : 0 < size)
    (v : Value) (n : Nat) (xs : List Value) (hs : a.eval s = v) (hown : w.ownsRow base e size v n xs)
    (ad : Addr) (m c : Nat) (news : List Value) (hx : a.eval x = .slice (some ad) m c) (hl : news.length = m * size) (hat : ∀ j u, news[j]? = some u → w.cell? (ad.add j) = some u) (h1 : ∀ u ∈ news, u.oneCell' = true)
    (h63 : n + m ≤ maxLen) (hbytes : (n + m) * bytes ≤ 140737488355328) (hbase : base ≤ w.heap.size)
    (h : ∀ r cap w', w'.ownsRow base e size (.slice r (n + m) cap) (n + m) (xs ++ news) → w.grownBy w' v.ownBlock → wpList P ops Q rest (a.put o.dst (.slice r (n + m) cap)) w') : wpList P ops Q (o :: rest) a w := by
  refine wpList_append_own w hgd s x t ho base e i z size bytes ht hi hz hsize hby hzs hsz v n xs hs hown ad m c news hx hl hat h1 h63 hbytes hbase ?_
  intro v' w' h2 h3 _
  obtain ⟨r, cap, rfl⟩ := owns_slice h2
  exact h r cap w' h2 h3

end Go.Proofs.Ythdcjelahoiepab

/- Contract of spec.l2OwnRow. -/
namespace Go.Proofs.Ythdcjelahoiepab
open Go.RowKit

theorem owns_empty (w : World) (e : TypeId) (size : Nat) : (w.alloc (.cells #[] e)).ownsRow w.heap.size e size (.slice (some ⟨w.heap.size, 0, none⟩) 0 0) 0 [] :=
  ⟨by simp, .inr ⟨w.heap.size, 0, #[], rfl, Nat.le_refl _, heap_alloc_new w _, by simp, by simp, by simp, by simp⟩⟩

end Go.Proofs.Ythdcjelahoiepab

/- Contracts of impl.GoodRow and spec.GoodRow. -/
namespace Go.Proofs.Ythdcjelahoiepab
open Go.RowKit

set_option maxHeartbeats 400000 in
theorem implGoodRow_any (a : Option Addr) (n c : Nat) (zs : List Int) (w : World) (hz : zs.length = n) (hn : n ≤ 9223372036854775807) (ha : At w a zs) :
    Calls Try.prog 82 #[.agg #[.slice a n c]] w fun e w' => e = .returned (.bool (good zs)) ∧ Below w.heap.size w w' := by
  by_cases h6 : n ≤ 6
  · by_cases h0 : n = 0
    · subst h0
      obtain rfl := List.eq_nil_of_length_eq_zero hz
      go_enter Try.func82, Try.ntmps82
      go_wp2
      refine wp_loop_rounds 1 ?_
      rw [rounds_succ]
      go_wp2
      go_ret
      exact ⟨ret_bool (by simp [good]), (Below.refl _ _).alloc (Nat.le_refl _) _⟩
    · obtain ⟨b, off, rfl, hb, hc⟩ := (ha.alloc (.cells #[.slice a n c] 124)).some (by omega)
      clear ha
      go_enter Try.func82, Try.ntmps82
      go_wp2
      go_loop [12] (fun i => ∃ k : Nat, k ≤ n ∧ i = .int .i64 k ∧ ∀ j, j < k → -100000 ≤ zs.getD j 0 ∧ zs.getD j 0 ≤ 100000) (fun i => n - (intOf i).toNat)
      case atStart => exact ⟨0, Nat.zero_le _, rfl, fun j hj => by omega⟩
      case round =>
        obtain ⟨k, hk, rfl, hall⟩ := hrel
        by_cases hlt : k < n
        · have hcx := hc k (by omega)
          have HN := not_good_cell (zs := zs) k (by omega)
          have HS : Hid (-100000 ≤ zs.getD k 0 → zs.getD k 0 ≤ 100000 → ∀ j, j < k + 1 → -100000 ≤ zs.getD j 0 ∧ zs.getD j 0 ≤ 100000) := fun h1 h2 j hj => by
            by_cases e : j = k
            · subst e; exact ⟨h1, h2⟩
            · exact hall j (by omega)
          clear hall hc
          obtain ⟨x, hx⟩ : ∃ x, x = zs.getD k 0 := ⟨_, rfl⟩
          rw [← hx] at hcx HN HS
          have HN' : Hid (x < -100000 ∨ 100000 < x → good zs = false) := HN
          clear hx HN
          by_cases hlo : x < -100000
          · go_wp2
            go_ret
            exact ⟨ret_bool (HN'.out (.inl hlo)).symm, (Below.refl _ _).alloc (Nat.le_refl _) _⟩
          · by_cases hhi : 100000 < x
            · go_wp2
              go_ret
              exact ⟨ret_bool (HN'.out (.inr hhi)).symm, (Below.refl _ _).alloc (Nat.le_refl _) _⟩
            · go_wp2
              go_round
              case rel => exact ⟨k + 1, by omega, by go_num, HS.out (by omega) (by omega)⟩
              case measure => simp [intOf]; omega
        · go_wp2
          go_ret
          exact ⟨ret_bool (good_of (by omega) (fun j hj => hall j (by omega))).symm, (Below.refl _ _).alloc (Nat.le_refl _) _⟩
  · go_enter Try.func82, Try.ntmps82
    go_wp2
    go_ret
    exact ⟨ret_bool (good_long (by omega)).symm, (Below.refl _ _).alloc (Nat.le_refl _) _⟩

end Go.Proofs.Ythdcjelahoiepab

/- Two arrays of ints, compared by '==': a law of the model's own equality. -/
namespace Go.Proofs.Ythdcjelahoiepab
open Go.RowKit

def eqParts (d : Nat) (e : TypeId) (n : Nat) (xs ys : Array Value) : List Nat → Sem Bool
  | [] => pure true
  | i :: is => do
    let a ← part e xs (i * n)
    let b ← part e ys (i * n)
    let r ← Op.equalIn d e a b
    if (!r) = true then pure false else eqParts d e n xs ys is

theorem run_equalIn_array {P : Program} (w : World) (d : Nat) (t e : TypeId) (i : TypeInfo) (len : Nat) (ht : P.underlying t = some (.array len e)) (hi : P.info? e = some i) (xs ys : Array Value) :
    (Op.equalIn (d + 1) t (.agg xs) (.agg ys)).run P w = (eqParts d e i.size xs ys (List.range' 0 len)).run P w := by
  simp only [Op.equalIn, Sem.run_bind, run_underlying ht, Result.andThen_ok, sizeOf, typeInfo, run_program, hi, Sem.run_pure]
  rw [Std.Legacy.Range.forIn_eq_forIn_range']
  simp only [Std.Legacy.Range.size, Nat.sub_zero, Nat.add_sub_cancel, Nat.div_one]
  generalize List.range' 0 len = is
  clear ht
  induction is generalizing w with
  | nil => simp [eqParts]
  | cons f fs ih =>
    simp only [List.forIn_cons, eqParts, Sem.run_bind, Sem.run_ite]
    generalize (part e xs (f * i.size)).run P w = r1
    cases r1 with
    | ok a w1 =>
      simp only [Result.andThen_ok]
      generalize (part e ys (f * i.size)).run P w1 = r2
      cases r2 with
      | ok b w2 =>
        simp only [Result.andThen_ok]
        generalize (Op.equalIn d e a b).run P w2 = r3
        cases r3 with
        | ok r w3 =>
          cases r
          · simp only [Result.andThen_ok, Bool.not_false, if_true, Sem.run_pure]
          · simp only [Result.andThen_ok, Bool.not_true, Bool.false_eq_true, if_false, Sem.run_pure]
            exact ih w3
        | halt x w3 => simp [Result.andThen]
      | halt x w2 => simp [Result.andThen]
    | halt x w1 => simp [Result.andThen]

theorem run_eqParts_ints {P : Program} (w : World) (d : Nat) (e : TypeId) (he : P.underlying e = some (.int .i64)) (xs ys : List Int) (is : List Nat) (hx : ∀ i ∈ is, i < xs.length) (hy : ∀ i ∈ is, i < ys.length) :
    (eqParts (d + 1) e 1 (xs.map (Value.int .i64)).toArray (ys.map (Value.int .i64)).toArray is).run P w = .ok (is.all fun i => xs.getD i 0 == ys.getD i 0) w := by
  induction is with
  | nil => simp [eqParts]
  | cons i is ih =>
    have h1 := hx i (by simp)
    have h2 := hy i (by simp)
    have ih' := ih (fun j hj => hx j (by simp [hj])) (fun j hj => hy j (by simp [hj]))
    have p1 : (part e (xs.map (Value.int .i64)).toArray (i * 1)).run P w = .ok (.int .i64 (xs.getD i 0)) w := by simp [part, isAgg, run_underlying he, List.getD, h1]
    have p2 : (part e (ys.map (Value.int .i64)).toArray (i * 1)).run P w = .ok (.int .i64 (ys.getD i 0)) w := by simp [part, isAgg, run_underlying he, List.getD, h2]
    simp only [eqParts, Sem.run_bind, p1, p2, Result.andThen_ok, run_equalIn_int w d e .i64 .i64 _ _ he, Sem.run_ite, ih']
    cases h : (xs.getD i 0 == ys.getD i 0) <;> simp [Sem.run_pure]
    all_goals (simp at h; simp [h])

theorem all_range_eq (xs ys : List Int) (h : xs.length = ys.length) : ((List.range' 0 xs.length).all fun i => xs.getD i 0 == ys.getD i 0) = decide (xs = ys) := by
  rw [Bool.eq_iff_iff, List.all_eq_true, decide_eq_true_eq]
  constructor
  · intro hall
    apply List.ext_getElem h
    intro i h1 h2
    have := hall i (by simp; omega)
    simpa [List.getD, h1, h2] using this
  · rintro rfl i _
    simp

theorem run_equal_ints {P : Program} {len : Nat} (w : World) (d : Nat) (t e : TypeId) (i : TypeInfo) (ht : P.underlying t = some (.array len e)) (he : P.underlying e = some (.int .i64)) (hi : P.info? e = some i) (hs : i.size = 1)
    (xs ys : List Int) (hx : xs.length = len) (hy : ys.length = len) :
    (Op.equalIn (d + 1 + 1) t (.agg (xs.map (Value.int .i64)).toArray) (.agg (ys.map (Value.int .i64)).toArray)).run P w = .ok (decide (xs = ys)) w := by
  rw [run_equalIn_array w (d + 1) t e i len ht hi, hs, run_eqParts_ints w d e he xs ys _ (by simp; omega) (by simp; omega), ← hx, all_range_eq xs ys (by omega)]

end Go.Proofs.Ythdcjelahoiepab

/- Contract of impl.arrayOf. -/
namespace Go.Proofs.Ythdcjelahoiepab
open Go.RowKit

set_option maxHeartbeats 1000000 in
theorem arrayOf_any (a : Option Addr) (n c : Nat) (zs : List Int) (w : World) (hz : zs.length = n) (hn : n ≤ 6) (hg : ∀ k, k < n → -100000 ≤ zs.getD k 0 ∧ zs.getD k 0 ≤ 100000) (ha : At w a zs) :
    Calls Try.prog 80 #[.agg #[.slice a n c]] w fun e w' => ∃ x0 x1 x2 x3 x4 x5, e = .returned (.agg #[.int .i64 x0, .int .i64 x1, .int .i64 x2, .int .i64 x3, .int .i64 x4, .int .i64 x5]) ∧ raised zs = [x0, x1, x2, x3, x4, x5] ∧ Below w.heap.size w w' := by
  obtain ⟨W, hW⟩ : ∃ W, W = ((w.alloc (.cells #[.slice a n c] 124)).alloc (.cells #[.int .i64 0, .int .i64 0, .int .i64 0, .int .i64 0, .int .i64 0, .int .i64 0] 132)).alloc (.cells #[.int .i64 0, .int .i64 0, .int .i64 0, .int .i64 0, .int .i64 0, .int .i64 0] 132) := ⟨_, rfl⟩
  have B : Below w.heap.size w W := by rw [hW]; exact (((Below.refl _ _).alloc (Nat.le_refl _) _).alloc (by simp) _).alloc (by simp; omega) _
  have HA : At W a zs := ha.below B
  have A1 : Arr W (w.heap.size + 1) 132 [0, 0, 0, 0, 0, 0] := by
    rw [hW]; exact (Arr.new (by simp) (by simp)).alloc _
  have A2 : Arr W (w.heap.size + 1 + 1) 132 (rowTo zs 0) := by
    rw [hW]; exact Arr.new (by simp) (by simp [rowTo])
  have hb0 : ∀ b off, a = some ⟨b, off, none⟩ → 0 < n → b < w.heap.size := by
    rintro b off rfl h0
    obtain ⟨b', off', he, hb', _⟩ := ha.some (by omega)
    simp at he
    omega
  have zW : W.heap.size = w.heap.size + 3 := by rw [hW]; simp
  go_enter Try.func80, Try.ntmps80
  go_wp2
  rw [← hW]
  clear hW ha
  go_loopw [9] (fun i wr => ∃ k : Nat, k ≤ n ∧ i = .int .i64 k ∧ Arr wr (w.heap.size + 1 + 1) 132 (rowTo zs k) ∧ Below (w.heap.size + 2) W wr) (fun i _ => n - (intOf i).toNat)
  case atStart => exact ⟨0, Nat.zero_le _, rfl, A2, Below.refl _ _⟩
  case round =>
    obtain ⟨k, hk, rfl, hrow, hbw⟩ := hrel
    by_cases hlt : k < n
    · obtain ⟨b, off, rfl, hb, hc⟩ := HA.some (by omega)
      have hbb := hb0 b off rfl (by omega)
      have hcx := (hbw.cell (p := ⟨b, off + k, none⟩) (by simp; omega)).trans (hc k (by omega))
      have hgk := hg k hlt
      have hco := hrow.cell k (by rw [rowTo_length zs k (by omega) (by omega)]; omega)
      have hfo := hrow.frozen k
      have HS : Hid (Arr (wr.setCell ⟨w.heap.size + 1 + 1, k, none⟩ (.int .i64 (zs.getD k 0 + 100001))) (w.heap.size + 1 + 1) 132 (rowTo zs (k + 1))) := by
        have := hrow.set k (zs.getD k 0 + 100001)
        rwa [rowTo_set zs k (by omega) (by omega)] at this
      have HB : Hid (Below (w.heap.size + 2) W (wr.setCell ⟨w.heap.size + 1 + 1, k, none⟩ (.int .i64 (zs.getD k 0 + 100001)))) := hbw.setCell (by simp) _
      clear hc hg hrow A1 A2 HA hb0
      obtain ⟨x, hx⟩ : ∃ x, x = zs.getD k 0 := ⟨_, rfl⟩
      rw [← hx] at hcx hgk HS HB
      obtain ⟨y, hy⟩ : ∃ y, y = (rowTo zs k).getD k 0 := ⟨_, rfl⟩
      rw [← hy] at hco
      clear hx hy
      obtain ⟨hlo, hhi⟩ := hgk
      have hk6 : (k : Int) < 6 := by omega
      go_wp2
      go_roundw
      case rel => exact ⟨k + 1, by omega, by go_num, by simpa [Int.add_assoc] using HS.out, by simpa [Int.add_assoc] using HB.out⟩
      case measure => simp [intOf]; omega
    · obtain rfl : k = n := by omega
      rw [← hz, rowTo_all] at hrow
      obtain ⟨x0, x1, x2, x3, x4, x5, hx⟩ := list6 (raised_length (zs := zs) (by omega))
      have HX : Hid (raised zs = [x0, x1, x2, x3, x4, x5]) := hx
      rw [hx] at hrow
      have A1w := A1.below hbw (by omega)
      have e0 := hrow.cell 0 (by simp)
      have e1 := hrow.cell 1 (by simp)
      have e2 := hrow.cell 2 (by simp)
      have e3 := hrow.cell 3 (by simp)
      have e4 := hrow.cell 4 (by simp)
      have e5 := hrow.cell 5 (by simp)
      have f0 := A1w.cell 0 (by simp)
      have f1 := A1w.cell 1 (by simp)
      have f2 := A1w.cell 2 (by simp)
      have f3 := A1w.cell 3 (by simp)
      have f4 := A1w.cell 4 (by simp)
      have f5 := A1w.cell 5 (by simp)
      have r0 := A1w.frozen 0
      have r1 := A1w.frozen 1
      have r2 := A1w.frozen 2
      have r3 := A1w.frozen 3
      have r4 := A1w.frozen 4
      have r5 := A1w.frozen 5
      simp only [List.getD_eq_getElem?_getD, List.getElem?_cons_zero, List.getElem?_cons_succ, Option.getD_some] at e0 e1 e2 e3 e4 e5 f0 f1 f2 f3 f4 f5
      clear hx hrow A1 A2 A1w HA hb0 hg
      go_wp2
      refine bodyPost_ret (v := .agg #[.int .i64 x0, .int .i64 x1, .int .i64 x2, .int .i64 x3, .int .i64 x4, .int .i64 x5]) (by simp [results, Try.results80, go_sem, f0, f1, f2, f3, f4, f5]) rfl ⟨x0, x1, x2, x3, x4, x5, rfl, HX.out, ?_⟩
      exact ((((((B.trans (hbw.mono (by omega))).setCell (by simp) _).setCell (by simp) _).setCell (by simp) _).setCell (by simp) _).setCell (by simp) _).setCell (by simp) _

end Go.Proofs.Ythdcjelahoiepab

/- Contracts of spec.l1Compare, impl.compareArrays. -/
namespace Go.Proofs.Ythdcjelahoiepab
open Go.RowKit

end Go.Proofs.Ythdcjelahoiepab

/- Contract of spec.l2Put. -/
namespace Go.Proofs.Ythdcjelahoiepab
open Go.RowKit

theorem atM_cells {w : World} {b off : Nat} {ts : List WRow} (h : AtM w (some ⟨b, off, none⟩) ts) : ∃ cs, Means w cs ts ∧ ∀ j u, cs[j]? = some u → w.cell? ⟨b, off + j, none⟩ = some u := by
  rcases h with rfl | ⟨b', off', cs, he, hm, hc⟩
  · exact ⟨[], trivial, fun j u h => by simp at h⟩
  · simp only [Option.some.injEq, Addr.mk.injEq, and_true] at he
    obtain ⟨rfl, rfl⟩ := he
    exact ⟨cs, hm, hc⟩
theorem take_cells {cs : List Value} {w : World} {b off : Nat} (hc : ∀ j u, cs[j]? = some u → w.cell? ⟨b, off + j, none⟩ = some u) (k : Nat) : ∀ j u, (cs.take k)[j]? = some u → w.cell? ((⟨b, off, none⟩ : Addr).add j) = some u := fun j u hj => by
  rw [Addr.add_lit]
  refine hc j u ?_
  rw [List.getElem?_take] at hj
  split at hj
  · exact hj
  · cases hj
theorem drop_cells {cs : List Value} {w : World} {b off : Nat} (hc : ∀ j u, cs[j]? = some u → w.cell? ⟨b, off + j, none⟩ = some u) (k : Nat) : ∀ j u, (cs.drop k)[j]? = some u → w.cell? ((⟨b, off + k, none⟩ : Addr).add j) = some u := fun j u hj => by
  rw [Addr.add_lit]
  rw [List.getElem?_drop] at hj
  rw [show off + k + j = off + (k + j) by omega]
  exact hc _ _ hj
theorem owns_cap {w : World} {base : Nat} {e : TypeId} {size : Nat} {a : Option Addr} {n c : Nat} {xs : List Value} (h : w.ownsRow base e size (.slice a n c) n xs) : n ≤ c := by
  rcases h.2 with ⟨h', h0⟩ | ⟨g, cap, cur, h', _, _, h1, _⟩
  · simp at h'; omega
  · simp at h'; omega
/-- A slice's head as Go makes them. -/
def Formed (a : Option Addr) (n c : Nat) : Prop := n ≤ c ∧ (a = none → c = 0) ∧ ∀ ad, a = some ad → ∃ b off, ad = ⟨b, off, none⟩
theorem Formed.nil : Formed none 0 0 := ⟨Nat.le_refl _, fun _ => rfl, fun _ h => by cases h⟩
theorem Formed.some {b off n c : Nat} (h : n ≤ c) : Formed (Option.some ⟨b, off, none⟩) n c := ⟨h, fun h => (by cases h), fun ad h => ⟨b, off, by cases h; rfl⟩⟩
theorem owns_formed {w : World} {base : Nat} {e : TypeId} {size : Nat} {a : Option Addr} {n c : Nat} {xs : List Value} (h : w.ownsRow base e size (.slice a n c) n xs) : Formed a n c := by
  rcases h.2 with ⟨h', h0⟩ | ⟨g, cap, cur, h', _, _, h1, _⟩
  · simp at h'
    obtain ⟨rfl, rfl, rfl⟩ := h'
    exact Formed.nil
  · simp at h'
    obtain ⟨rfl, rfl⟩ := h'
    exact Formed.some h1
theorem oneW_no {zs : List Int} {x : Int} (h : x = 0) : oneW zs x = [] := if_pos h
theorem oneW_yes {zs : List Int} {x : Int} (h : x ≠ 0) : oneW zs x = [(zs, x)] := if_neg h

end Go.Proofs.Ythdcjelahoiepab

/- A variable that holds a table: its block, and the rows that the call owns. -/
namespace Go.Proofs.Ythdcjelahoiepab
open Go.RowKit

section
variable {w w' : World} {T : Nat} {p : Int} {r : Option Addr} {k d : Nat} {ts : List WRow} {cells : List Value}

end

/-- The columns and the rows that are told, nothing where they are no good table. -/
def tellP (p : Int) (ts : List WRow) : Int := if goodT p ts then p else 0
def tellT (p : Int) (ts : List WRow) : List WRow := if goodT p ts then ts else []

end Go.Proofs.Ythdcjelahoiepab

/- Contracts of impl.goodColumns, impl.goodWeight, impl.goodWeighted, impl.GoodTable. -/
namespace Go.Proofs.Ythdcjelahoiepab
open Go.RowKit

theorem goodColumns_any (p : Int) (w : World) :
    Calls Try.prog 52 #[.int .i64 p] w fun e w' => e = .returned (.bool (inc p)) ∧ w' = w := by
  by_cases h : 0 ≤ p
  · go_enter Try.func52, Try.ntmps52
    go_wp2
    go_ret
    exact ⟨ret_bool (by simp [inc, h]), rfl⟩
  · go_enter Try.func52, Try.ntmps52
    go_wp2
    go_ret
    exact ⟨ret_bool (by simp only [inc, decide_eq_false (show ¬ 0 ≤ p by omega), Bool.false_and]), rfl⟩

end Go.Proofs.Ythdcjelahoiepab

/- Contracts of impl.weights.add, impl.sumsOf. -/
namespace Go.Proofs.Ythdcjelahoiepab
open Go.RowKit Go.Maps
open Go.ChangeMaps (setBlock)

theorem Try.zeroInt (w : World) : (zeroValue 3).run Try.prog w = .ok (.int .i64 0) w := by kernel_rfl

theorem setBlock_twice (w : World) (b : Nat) (o o' : Obj) : setBlock (setBlock w b o) b o' = setBlock w b o' := by simp [setBlock]
theorem heap_setBlock_at {w : World} {b : Nat} {es : Array MapEntry} {clock : Nat} (hb : w.heap[b]? = some (.map es clock)) (o : Obj) : (setBlock w b o).heap[b]? = some o := by
  have := (Array.getElem?_eq_some_iff.1 hb).1
  simp [setBlock, this]
theorem setBlock_grown (w : World) (b : Nat) (o : Obj) : w.grownBy (setBlock w b o) (some b) :=
  ⟨rfl, rfl, rfl, by simp [setBlock], fun k _ hn => by simp [setBlock, show b ≠ k from fun e => hn (by rw [e])]⟩

theorem mul_bound {x t : Int} (h1 : -1000000 ≤ x) (h2 : x ≤ 1000000) (h3 : -1000 ≤ t) (h4 : t ≤ 1000) : -1000000000 ≤ x * t ∧ x * t ≤ 1000000000 := by
  have a1 : (x + 1000000) * (t + 1000) ≥ 0 := Int.mul_nonneg (by omega) (by omega)
  have a2 : (1000000 - x) * (1000 - t) ≥ 0 := Int.mul_nonneg (by omega) (by omega)
  have a3 : (x + 1000000) * (1000 - t) ≥ 0 := Int.mul_nonneg (by omega) (by omega)
  have a4 : (1000000 - x) * (t + 1000) ≥ 0 := Int.mul_nonneg (by omega) (by omega)
  simp only [Int.add_mul, Int.sub_mul, Int.mul_add, Int.mul_sub] at a1 a2 a3 a4
  omega

theorem MapIs.congr {D : DataW Unit} {f f' : List Int → Int} {S S' : List (List Int)} (h : MapIs D f S) (hf : ∀ x, f x = f' x) (hS : S = S') : MapIs D f' S' := by
  obtain rfl : f = f' := funext hf
  subst hS
  exact h

/-- To take the entry is to store at the key what it holds, 0 where it is new. -/
theorem entry_is_update {P : Program} {t k e : TypeId} (K : WideMaps.KeyLaw P k) (ht : P.underlying t = some (.map k e)) {z : Value} (hz : ∀ u : World, (zeroValue e).run P u = .ok z u) {w W1 : World} {b : Nat} {es : Array MapEntry} {clock : Nat}
    {R : Value → Option (DataW Unit × List MemPlace)} (hb : w.heap[b]? = some (.map es clock)) (F : WideElems.Fit P k R es clock) {key : Value} {kl : Lit} (hkey : keyOf P k key = some kl) {v0 : Value} {st : Nat}
    (hrun : (Instr.mapEntry t (.map (some b)) key).run P w = .ok (.tuple #[v0, goInt st]) W1) : (Instr.mapUpdate t (.map (some b)) key v0).run P w = .ok () W1 := by
  rcases K.find w hkey es.toList F.keys with ⟨h1, h2⟩ | ⟨j, e0, h1, h2, h3⟩
  · simp [Instr.mapEntry, run_underlying ht, MapKept.run_getObj_map hb, K.check w false hkey, h1, hz, MapKept.run_setObj_map _ hb, Result.andThen] at hrun
    obtain ⟨⟨rfl, _⟩, rfl⟩ := hrun
    simp [Instr.mapUpdate, run_underlying ht, MapKept.run_getObj_map hb, K.check w false hkey, h1, MapKept.run_setObj_map _ hb, Result.andThen]
  · have hj : es[j]? = some e0 := by simpa using h2
    simp [Instr.mapEntry, run_underlying ht, MapKept.run_getObj_map hb, K.check w false hkey, h1, hj, h3, K.stays w hkey, MapKept.run_setObj_map _ hb, Result.andThen] at hrun
    obtain ⟨⟨rfl, _⟩, rfl⟩ := hrun
    have hmod : es.modify j (fun e' => { e' with key := key, val := e0.val }) = es.modify j (fun e' => { e' with key := key }) := by
      apply Array.ext'
      rw [Array.toList_modify, Array.toList_modify, ChangeMaps.modify_eq_set _ _ _ _ h2, ChangeMaps.modify_eq_set _ _ _ _ h2]
    simp [Instr.mapUpdate, run_underlying ht, MapKept.run_getObj_map hb, K.check w false hkey, h1, hj, h3, K.stays w hkey, MapKept.run_setObj_map _ hb, Result.andThen, hmod]

/-- 'm[k] += v' in its steps: the look-up (ahead of the entry or behind it), the entry, the store. -/
theorem bump {P : Program} {t k e : TypeId} (K : WideMaps.KeyLaw P k) (ht : P.underlying t = some (.map k e)) (he : P.underlying e = some (.int .i64)) (hz : ∀ u : World, (zeroValue e).run P u = .ok (.int .i64 0) u) {w : World} {b cnt : Nat} {D : DataW Unit}
    (hown : w.ownsMap P k (plainElem P e) b cnt D) (hcnt : cnt < maxLen) {key : Value} {kl : Lit} (hkey : keyOf P k key = some kl) :
    ∃ c : Int, (Instr.lookup t (.map (some b)) key false).run P w = .ok (.int .i64 c) w ∧ D.atKey kl (.lit (.int .i64 0)) = .lit (.int .i64 c) ∧
      ∀ v : Int, (Lit.int .i64 v).wf = true → ∃ (v0 : Value) (st : Nat) (W1 W2 : World), (Instr.mapEntry t (.map (some b)) key).run P w = .ok (.tuple #[v0, .int .i64 st]) W1 ∧ (Instr.lookup t (.map (some b)) key false).run P W1 = .ok (.int .i64 c) W1 ∧
        (Instr.entryStore t (.map (some b)) (.int .i64 st) (.int .i64 v)).run P W1 = .ok () W2 ∧ W2.ownsMap P k (plainElem P e) b (cnt + 1) (D.put kl (.lit (.int .i64 v))) ∧ w.grownBy W1 (some b) ∧ w.grownBy W2 (some b) := by
  have KK := Keyed.of_law K
  obtain ⟨c, h1, h2, _⟩ := hown.lookup_int KK ht he (hz w) hkey
  refine ⟨c, h1, h2, fun v hv => ?_⟩
  obtain ⟨w', hu, ho, hg⟩ := hown.update KK ht hcnt hkey (plainElem_int he hv)
  have hown' := hown
  obtain ⟨es, clock, hb, F, _, hD⟩ := hown
  obtain ⟨v0, st, es1, clock1, r1, rv, r2⟩ := WideElems.entry_then_store K ht hz hb F hkey
  obtain ⟨es', clock', s1, s2⟩ := r2 (setBlock w b (.map es1 clock1)) (.int .i64 v) (heap_setBlock_at hb _)
  rw [setBlock_twice] at s1
  have e : w' = setBlock w b (.map es' clock') := by rw [s2] at hu; simpa using hu.symm
  subst e
  have hupd := entry_is_update K ht hz hb F hkey r1
  have hv0 : v0 = .int .i64 c := by
    rcases fit_look false KK ht (hz w) hb F hkey with ⟨hrun, hno, _⟩ | ⟨e0, y, hy1, hy2, hrun, _, _, _⟩
    · rw [h1] at hrun
      rcases rv with ⟨e0, he0, hk0, _⟩ | ⟨_, hv⟩
      · exact absurd hk0 (hno e0 he0)
      · rw [hv]; simpa using hrun.symm
    · rw [h1] at hrun
      rcases rv with ⟨e1, he1, hk1, hv⟩ | ⟨hno, _⟩
      · rw [hv, entry_eq_of_key (by have := F.stamped.2.2; rwa [List.Nodup, List.pairwise_map] at this) he1 hy1 (hk1.trans hy2.symm)]; simpa using hrun.symm
      · exact absurd hy2 (hno e0 hy1)
  subst hv0
  have hwc : (Lit.int .i64 c).wf = true := by
    obtain ⟨c', h1', h2', h3'⟩ := hown'.lookup_int KK ht he (hz w) hkey
    rw [h1] at h1'
    simp at h1'
    subst h1'
    exact h3'
  obtain ⟨w'', hu'', ho'', _⟩ := hown'.update KK ht hcnt hkey (plainElem_int he hwc)
  have e : w'' = setBlock w b (.map es1 clock1) := by rw [hupd] at hu''; simpa using hu''.symm
  subst e
  obtain ⟨c2, k1, k2, _⟩ := ho''.lookup_int KK ht he (hz _) hkey
  rw [atKey_put_same hown'.isMap (KK.key hkey)] at k2
  have : c2 = c := by simpa using k2.symm
  subst this
  exact ⟨.int .i64 c2, st, _, _, r1, k1, s1, ho, setBlock_grown _ _ _, hg⟩

end Go.Proofs.Ythdcjelahoiepab
