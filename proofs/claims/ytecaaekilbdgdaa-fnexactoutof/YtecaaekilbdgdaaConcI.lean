/- Contracts of slices.Grow, slices.Concat at []int: a nil slice grown, two slices put together. An append at a region's step that draws. -/
import Derived.Lib.Walk
import Derived.Lib.AppendZerosOnto
import Derived.Test.YtecaaekilbdgdaaAppendAll
import Derived.Test.YtecaaekilbdgdaaL2Put
namespace Go.Proofs.Ytecaaekilbdgdaa
open Go.RowKit

/-- 'append(out, xs...)' of whatever ints, at a step of a region that draws. -/
theorem step_append_all {P : Program} {w : World} {ops : Array Oper} {o : Oper} {a : Act} {K : Act → World → Prop} {Q : Exit → Act → World → Prop} {E : Prop} (hgd : o.guard = none) (s x : Operand) (t : TypeId)
    (ho : o.op = .call { callee := .builtin .append, args := #[s, x], argTypes := #[t, t] })
    (base : Nat) (e : TypeId) (i : TypeInfo) (z : Value) (bytes : Nat) (ht : P.underlying t = some (.slice e)) (hi : P.info? e = some i) (hz : i.zero = some z)
    (hsize : i.size = 1) (hby : i.bytes = bytes) (hzs : z.cells.size = 1)
    (v : Value) (n : Nat) (xs : List Value) (hs : a.eval s = v) (hown : w.ownsRow base e 1 v n xs)
    (ao : Option Addr) (m c : Nat) (zs : List Int) (hx : a.eval x = .slice ao m c) (hl : zs.length = m) (hat : At w ao zs) (hnil : ao = none → c = 0)
    (h63 : n + m ≤ maxLen) (hbytes : (n + m) * bytes ≤ 140737488355328) (hbase : base ≤ w.heap.size)
    (h : ∀ r cap w', w'.ownsRow base e 1 (.slice r (n + m) cap) (n + m) (xs ++ zs.map (.int .i64)) → w.grownBy w' v.ownBlock → ((Value.slice r (n + m) cap).ownBlock = v.ownBlock ∨ (Value.slice r (n + m) cap).ownBlock = some w.heap.size) → K (a.put o.dst (.slice r (n + m) cap)) w') :
    if Region.wanted o (yielded ops a.tmps) = true then Oper.wp P o a w K Q else E := by
  have hw : Region.wanted o (yielded ops a.tmps) = true := by simp [Region.wanted, hgd]
  rw [if_pos hw]
  cases ao with
  | none =>
    have hc := hnil rfl
    have hzs' : zs = [] := by
      rcases hat with h | ⟨b, off, h, _⟩
      · exact h
      · cases h
    subst hzs' hc
    simp at hl
    subst hl
    obtain ⟨r, cap, rfl⟩ := owns_slice hown
    have hrun := run_append_owned_none (P := P) (w := w) base t o.type e i 1 ht hi (.slice r n cap) n xs hown
    have := h r cap w (by simpa using hown) (World.grownBy.refl _ _) (.inl rfl)
    unfold Oper.wp
    simp [execOp, ho, resolve, invoke, builtin, hs, hx, hrun, Result.andThen]
    rw [Nat.add_zero] at this
    exact this
  | some ad =>
    obtain ⟨v', w', hr, h2, h3, _, h5⟩ := run_append_own_at (P := P) w base t o.type e i z 1 bytes ht hi hz hsize hby hzs (by decide) v n xs hown ad m c (zs.map (.int .i64)) (by simpa using hl) (fun j u hj => by
      have hjl : j < zs.length := by
        have := (List.getElem?_eq_some_iff.1 hj).1
        simpa using this
      obtain ⟨b, off, he, _, hc⟩ := hat.some (by omega)
      simp only [Option.some.injEq] at he
      subst he
      rw [Addr.add_lit, hc j hjl]
      simpa [List.getD, hjl] using hj) (fun u hu => by
      obtain ⟨y, _, rfl⟩ := List.mem_map.1 hu
      rfl) h63 hbytes hbase
    obtain ⟨r, cap, rfl⟩ := owns_slice h2
    unfold Oper.wp execOp
    simp only [ho, resolve, invoke, builtin, Sem.run_bind, Sem.run_pure, Result.andThen_ok, List.map_toArray, List.map_cons, List.map_nil, hs, hx, hr]
    exact h r cap w' h2 h3 h5

end Go.Proofs.Ytecaaekilbdgdaa
