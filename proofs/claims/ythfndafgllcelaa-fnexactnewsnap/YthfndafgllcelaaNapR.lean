/- Plain: what TotalIn and PictureOf tell. -/
import Derived.Test.YthfndafgllcelaaNapP
namespace Go.Proofs.Ythfndafgllcelaa
open Go.RowKit

def picB (x : TSnap) : Bool := gsB x && x.1.all (fun p => p.2.2) && x.2.all (fun v => !v.2.2)
theorem gs_parts {ps : List TProc} {ws : List TWire} {n0 n1 : Nat} (h0 : ps.length = n0) (h1 : ws.length = n1) (h : gsB (ps, ws) = true) :
    2 ≤ n0 ∧ n0 ≤ 4 ∧ n1 = n0 * n0 ∧ n1 ≤ 16 ∧ PsOk ps ∧ WsOk ws ∧ amtS (ps, ws) + recS (ps, ws) ≤ 2000000000 := by
  unfold gsB at h
  simp only [Bool.and_eq_true, decide_eq_true_eq, h0, h1] at h
  obtain ⟨⟨⟨⟨⟨g1, g2⟩, g3⟩, g4⟩, g5⟩, g6⟩ := h
  have h16 : n0 * n0 ≤ 16 := Nat.mul_le_mul g2 g2
  exact ⟨g1, g2, g3, by omega, psOk_of g4, wsOk_of g5, g6⟩

end Go.Proofs.Ythfndafgllcelaa
