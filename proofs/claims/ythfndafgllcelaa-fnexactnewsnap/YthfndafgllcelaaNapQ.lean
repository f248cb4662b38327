/- Plain: all sums of a snap at once. -/
import Derived.Test.YthfndafgllcelaaNapP
namespace Go.Proofs.Ythfndafgllcelaa
open Go.RowKit

theorem map_add {α : Type} (f g : α → Int) (xs : List α) : (xs.map (fun x => f x + g x)).sum = (xs.map f).sum + (xs.map g).sum := by
  induction xs with
  | nil => rfl
  | cons x xs ih => simp only [List.map_cons, List.sum_cons, ih]; omega
theorem tot_eq (ps : List TProc) (ws : List TWire) : (ps.map (fun p : TProc => p.1 + p.2.1)).sum + (ws.map (fun v : TWire => v.1.sum + v.2.1.sum)).sum = amtS (ps, ws) + recS (ps, ws) := by
  have h1 := map_add (fun p : TProc => p.1) (fun p : TProc => p.2.1) ps
  have h2 := map_add (fun v : TWire => v.1.sum) (fun v : TWire => v.2.1.sum) ws
  have e1 : amtS (ps, ws) = (ps.map (fun p : TProc => p.1)).sum + (ws.map (fun v : TWire => v.1.sum)).sum := rfl
  have e2 : recS (ps, ws) = (ps.map (fun p : TProc => p.2.1)).sum + (ws.map (fun v : TWire => v.2.1.sum)).sum := rfl
  omega

end Go.Proofs.Ythfndafgllcelaa
