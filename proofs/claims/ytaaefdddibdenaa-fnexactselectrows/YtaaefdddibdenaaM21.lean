/- Opening slices of tests among the laws' arguments. -/
import Derived.Test.YtaaefdddibdenaaM20
import Derived.Test.YtaaefdddibdenaaM12
namespace Go.Proofs.Ytaaefdddibdenaa
open Go.ChangeShapes Go.WideShapes Go.ChangeAt Go.RowKit Go.Joins Go.Deep

section
variable {H : Type} {enc : TypeId × Value → H} {P : Program} {w : World} {base : Nat} {held : Bool}

theorem open_atE {t e : TypeId} {f0 f1 f2 : Field} {fuel n c : Nat} {a : Option Addr} {x : DataW H × List MemPlace} (ht : P.underlying t = some (.slice e)) (he : P.underlying e = some (.struct #[f0, f1, f2]))
    (ce : P.cellsOf e = 3) (o0 : f0.offset = 0) (o1 : f1.offset = 1) (o2 : f2.offset = 2) (c0 : P.cellsOf f0.type = 1) (c1 : P.cellsOf f1.type = 1) (c2 : P.cellsOf f2.type = 1)
    (i0 : P.underlying f0.type = some (.int .i64)) (i1 : P.underlying f1.type = some (.int .i64)) (i2 : P.underlying f2.type = some (.int .i64))
    (h : DataW.trod enc P w base (fun _ => true) held fuel t [.slice a n c] = some x) : ∃ es : List Tst, es.length = n ∧ n ≤ 9223372036854775807 ∧ AtE w a es := by
  rcases open_slice ht h with ⟨hcs, _⟩ | ⟨ad, len, cap, m, k, D, Pl, hcs, _, hl, hm, hmm, _, hx⟩
  · simp at hcs
    obtain ⟨rfl, rfl, rfl⟩ := hcs
    exact ⟨[], rfl, by omega, .inl rfl⟩
  · simp at hcs
    obtain ⟨rfl, rfl, rfl⟩ := hcs
    simp only [if_true] at hmm
    subst hmm
    unfold maxLen at hm
    have each : ∀ i, i < n → ∃ y : Tst, w.cell? (ad.add (i * 3)) = some (.int .i64 y.1) ∧ w.cell? (ad.add (i * 3 + 1)) = some (.int .i64 y.2.1) ∧ w.cell? (ad.add (i * 3 + 2)) = some (.int .i64 y.2.2) := by
      intro i hi'
      obtain ⟨cs', h1, h2⟩ := hx i (by omega)
      rw [ce] at h1
      obtain ⟨_, hlen, hcell⟩ := World.cells?_some h1
      obtain ⟨xs, k', hk, hxy, _, hxl, hf⟩ := DataW.trod_struct he h2
      match xs, hxl, cs', hlen with
      | [y0, y1, y2], _, [v0, v1, v2], _ =>
        have g0 := hf 0 f0 rfl
        have g1 := hf 1 f1 rfl
        have g2 := hf 2 f2 rfl
        simp [o0, o1, o2, c0, c1, c2] at g0 g1 g2
        obtain ⟨z0, q0, _, _⟩ := DataW.trod_int i0 g0
        obtain ⟨z1, q1, _, _⟩ := DataW.trod_int i1 g1
        obtain ⟨z2, q2, _, _⟩ := DataW.trod_int i2 g2
        have e0 := hcell 0 (by omega)
        have e1 := hcell 1 (by omega)
        have e2 := hcell 2 (by omega)
        rw [add_add] at e0 e1 e2
        simp only [List.cons.injEq, and_true] at q0 q1 q2
        subst q0 q1 q2
        exact ⟨(z0, z1, z2), by simpa using e0, by simpa using e1, by simpa using e2⟩
    obtain ⟨y, hy⟩ := choose_lt each
    refine ⟨(List.range n).map y, by simp, by omega, ?_⟩
    by_cases h0 : n = 0
    · left; simp [h0, flatE]
    · right
      obtain ⟨b, off, spot⟩ := ad
      have hc0 := (hy 0 (by omega)).1
      have hspot : spot = none := by simpa [Addr.add] using World.cell?_spot hc0
      subst hspot
      refine ⟨b, off, rfl, fun j hj => ?_⟩
      rw [flatE_len] at hj
      simp only [List.length_map, List.length_range] at hj
      have hk : j / 3 < n := by omega
      have hf := flatE_at ((List.range n).map y) (j / 3) (by simpa using hk)
      have ht : tat ((List.range n).map y) (j / 3) = y (j / 3) := by simp [tat, List.getD, hk]
      rw [ht] at hf
      have hyk := hy (j / 3) hk
      rw [Addr.add_lit, Addr.add_lit, Addr.add_lit] at hyk
      have hmod : j % 3 = 0 ∨ j % 3 = 1 ∨ j % 3 = 2 := by omega
      rcases hmod with hm | hm | hm
      · have e : j = j / 3 * 3 := by omega
        rw [e, hf.1]; exact hyk.1
      · have e : j = j / 3 * 3 + 1 := by omega
        rw [e, hf.2.1]; exact hyk.2.1
      · have e : j = j / 3 * 3 + 2 := by omega
        rw [e, hf.2.2]; exact hyk.2.2
end

end Go.Proofs.Ytaaefdddibdenaa
