/- Rows of three cells as they lie in memory; slices.Clone at processes and wires that are told. -/
import Derived.Test.YtnfdncofobkjhaaM5
namespace Go.Proofs.Ytnfdncofobkjhaa
open Go.RowKit

/-- What a wire's three cells mean. -/
def WCells (w : World) (x : TWire) (vs : List Value) : Prop := ∃ a0 c0 a1 c1, vs = [.slice a0 x.1.length c0, .slice a1 x.2.1.length c1, .bool x.2.2] ∧ At w a0 x.1 ∧ (a0 = none → c0 = 0) ∧ At w a1 x.2.1 ∧ (a1 = none → c1 = 0)

theorem cloneProc_any (a : Option Addr) (n c : Nat) (ps : List TProc) (w : World) (hz : ps.length = n) (h0 : 0 < n) (hn : n ≤ 1048576) (ha : AtSl RProc w a ps) :
    Calls Try.prog 65 #[.slice a n c] w fun e w' => ∃ g d cells, e = .returned (.slice (some ⟨g, 0, none⟩) n d) ∧ w'.ownsRow w.heap.size 74 3 (.slice (some ⟨g, 0, none⟩) n d) n cells ∧ (∀ i p, ps[i]? = some p → sub cells (i * 3) 3 = [.int .i64 p.1, .int .i64 p.2.1, .bool p.2.2]) ∧ Below w.heap.size w w' := by
  obtain ⟨b, off, rfl, hb, hc⟩ := RProc.row ha (by omega)
  obtain ⟨L, l1, l2, l3, l4⟩ := row_cells (w := w) (b := b) (off := off) (R := fun i vs => ∀ p, ps[i]? = some p → vs = [.int .i64 p.1, .int .i64 p.2.1, .bool p.2.2]) n (fun i hi => by
    obtain ⟨p, hp⟩ : ∃ p, ps[i]? = some p := ⟨_, List.getElem?_eq_getElem (by omega)⟩
    obtain ⟨q0, q1, q2, _⟩ := hc i p hp
    refine ⟨[.int .i64 p.1, .int .i64 p.2.1, .bool p.2.2], rfl, fun j v hv => ?_, fun u hu => ?_, fun p' hp' => by rw [hp] at hp'; obtain rfl := Option.some.inj hp'; rfl⟩
    · match j, hv with
      | 0, hv => obtain rfl := Option.some.inj hv; exact q0
      | 1, hv => obtain rfl := Option.some.inj hv; exact q1
      | 2, hv => obtain rfl := Option.some.inj hv; exact q2
    · simp only [List.mem_cons, List.not_mem_nil, or_false] at hu
      rcases hu with rfl | rfl | rfl <;> rfl)
  refine (cloneProc_vals b off n c L w hn l1 l2 l3).mono ?_
  rintro e w' ⟨r, d, rfl, ho, hbw⟩
  rcases ho.2 with ⟨hv, _⟩ | ⟨g, cap, cur, hv, _⟩
  · simp at hv; omega
  · simp only [Value.slice.injEq, true_and] at hv
    obtain ⟨rfl, rfl⟩ := hv
    exact ⟨g, d, L, rfl, ho, fun i p hp => l4 i (by have := (List.getElem?_eq_some_iff.1 hp).1; omega) p hp, hbw⟩

theorem cloneWire_any (a : Option Addr) (n c : Nat) (ws : List TWire) (w0 w : World) (hbw0 : Below w0.heap.size w0 w) (hz : ws.length = n) (h0 : 0 < n) (hn : n ≤ 1048576) (ha : AtSl RWire w0 a ws) :
    Calls Try.prog 66 #[.slice a n c] w fun e w' => ∃ g d cells, e = .returned (.slice (some ⟨g, 0, none⟩) n d) ∧ w'.ownsRow w.heap.size 76 3 (.slice (some ⟨g, 0, none⟩) n d) n cells ∧ (∀ i x, ws[i]? = some x → WCells w0 x (sub cells (i * 3) 3)) ∧ Below w.heap.size w w' := by
  obtain ⟨b, off, rfl, hb, hc⟩ := RWire.row ha (by omega)
  obtain ⟨L, l1, l2, l3, l4⟩ := row_cells (w := w) (b := b) (off := off) (R := fun i vs => ∀ x, ws[i]? = some x → WCells w0 x vs) n (fun i hi => by
    obtain ⟨x, hx⟩ : ∃ x, ws[i]? = some x := ⟨_, List.getElem?_eq_getElem (by omega)⟩
    obtain ⟨a0, m0, c0, a1, m1, c1, q0, q1, q2, ⟨u0, _, u1, u2⟩, ⟨v0, _, v1, v2⟩⟩ := hc i x hx
    have q0 := cell_later hbw0 q0
    have q1 := cell_later hbw0 q1
    have q2 := cell_later hbw0 q2
    subst u0 v0
    refine ⟨[.slice a0 x.1.length c0, .slice a1 x.2.1.length c1, .bool x.2.2], rfl, fun j v hv => ?_, fun u hu => ?_, fun x' hx' => by rw [hx] at hx'; obtain rfl := Option.some.inj hx'; exact ⟨a0, c0, a1, c1, rfl, u1, u2, v1, v2⟩⟩
    · match j, hv with
      | 0, hv => obtain rfl := Option.some.inj hv; exact q0
      | 1, hv => obtain rfl := Option.some.inj hv; exact q1
      | 2, hv => obtain rfl := Option.some.inj hv; exact q2
    · simp only [List.mem_cons, List.not_mem_nil, or_false] at hu
      rcases hu with rfl | rfl | rfl <;> rfl)
  refine (cloneWire_vals b off n c L w hn l1 l2 l3).mono ?_
  rintro e w' ⟨r, d, rfl, ho, hbw⟩
  rcases ho.2 with ⟨hv, _⟩ | ⟨g, cap, cur, hv, _⟩
  · simp at hv; omega
  · simp only [Value.slice.injEq, true_and] at hv
    obtain ⟨rfl, rfl⟩ := hv
    exact ⟨g, d, L, rfl, ho, fun i x hx => l4 i (by have := (List.getElem?_eq_some_iff.1 hx).1; omega) x hx, hbw⟩

end Go.Proofs.Ytnfdncofobkjhaa
