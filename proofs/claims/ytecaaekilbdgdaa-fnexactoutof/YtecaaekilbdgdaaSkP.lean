/- Plain: sinks that hold nothing; a sink that is told. -/
import Derived.Test.YtecaaekilbdgdaaGkP
import Derived.Test.YtecaaekilbdgdaaRepP
namespace Go.Proofs.Ytecaaekilbdgdaa
open Go.RowKit

abbrev newK (src : List Int) : TSink := (src, 0, [], [], [], 0, 0)
theorem gk_new (src : List Int) : gkB (newK src) = decide (src.length ≤ 30) := by
  unfold gkB hdB
  simp [pgsB, upF, seg]
theorem RInts.void (w : World) (F : Nat → Prop) : RInts.Own w F [.slice none 0 0] [] := RInts.own_iff.2 ⟨rfl, by omega, World.ownsRow_nil _ _ _ _, fun b hb => by cases hb⟩
theorem RPrepareds.void (w : World) (F : Nat → Prop) : RPrepareds.Own w F [.slice none 0 0] [] := ⟨none, 0, 0, [], _, rfl, Laid.none _ _ _ _⟩
theorem RSink.void (w : World) (F : Nat → Prop) : RSink.Own w F [.slice none 0 0, .int .i64 0, .slice none 0 0, .slice none 0 0, .slice none 0 0, .int .i64 0, .int .i64 0] (newK []) :=
  RSink.own_mk (F0 := fun _ => False) (F2 := fun _ => False) (F3 := fun _ => False) (F4 := fun _ => False) (RInts.void _ _) (RInts.void _ _) ⟨none, 0, 0, [], _, rfl, Laid.none _ _ _ _⟩ (RInts.void _ _)
    (fun _ h => h.elim) (fun _ h => h.elim) (fun _ h => h.elim) (fun _ h => h.elim) (fun _ h => h.elim) (fun _ h => h.elim) (fun _ h => h.elim) (fun _ h => h.elim) (fun _ h => h.elim) (fun _ h => h.elim)
/-- A sink and a truth value that are told, in memory that the call made. -/
def SinkRet (e : Ending) (w' : World) (lo : Nat) (ok : Bool) (x : TSink) : Prop :=
  ∃ r0 m0 d0 r2 m2 d2 r3 m3 d3 r4 m4 d4, e = .returned (.tuple #[.agg #[.slice r0 m0 d0, .int .i64 x.2.1, .slice r2 m2 d2, .slice r3 m3 d3, .slice r4 m4 d4, .int .i64 x.2.2.2.2.2.1, .int .i64 x.2.2.2.2.2.2], .bool ok]) ∧
    RSink.Own w' (From lo w'.heap.size) [.slice r0 m0 d0, .int .i64 x.2.1, .slice r2 m2 d2, .slice r3 m3 d3, .slice r4 m4 d4, .int .i64 x.2.2.2.2.2.1, .int .i64 x.2.2.2.2.2.2] x
def SinkRetN (e : Ending) (w' : World) (lo : Nat) (k : Int) (ok : Bool) (x : TSink) : Prop :=
  ∃ r0 m0 d0 r2 m2 d2 r3 m3 d3 r4 m4 d4, e = .returned (.tuple #[.agg #[.slice r0 m0 d0, .int .i64 x.2.1, .slice r2 m2 d2, .slice r3 m3 d3, .slice r4 m4 d4, .int .i64 x.2.2.2.2.2.1, .int .i64 x.2.2.2.2.2.2], .int .i64 k, .bool ok]) ∧
    RSink.Own w' (From lo w'.heap.size) [.slice r0 m0 d0, .int .i64 x.2.1, .slice r2 m2 d2, .slice r3 m3 d3, .slice r4 m4 d4, .int .i64 x.2.2.2.2.2.1, .int .i64 x.2.2.2.2.2.2] x
theorem ownCap {w : World} {base : Nat} {e : TypeId} {size : Nat} {a : Option Addr} {n c : Nat} {xs : List Value} (h : w.ownsRow base e size (.slice a n c) n xs) : n ≤ c := by
  rcases h.2 with ⟨h', h0⟩ | ⟨g, cap, cur, h', _, _, h1, _⟩
  · simp at h'; omega
  · simp at h'; omega
/-- A row of numbers that the call made. -/
theorem RInts.made {w : World} {base : Nat} {a : Option Addr} {n c : Nat} {zs : List Int} (hz : zs.length = n) (hn : n ≤ 9223372036854775807) (ho : w.ownsRow base 3 1 (.slice a n c) n (zs.map (.int .i64))) : RInts.Own w (From base w.heap.size) [.slice a n c] zs :=
  RInts.own_iff.2 ⟨hz, hn, owns_mono ho (Nat.zero_le _), fun b hb => ho.lt b hb⟩
/-- A sink with a source alone. -/
theorem RSink.fresh {w : World} {F : Nat → Prop} {a : Option Addr} {n c : Nat} {zs : List Int} (h : RInts.Own w F [.slice a n c] zs) : RSink.Own w F [.slice a n c, .int .i64 0, .slice none 0 0, .slice none 0 0, .slice none 0 0, .int .i64 0, .int .i64 0] (newK zs) :=
  RSink.own_mk (F2 := fun _ => False) (F3 := fun _ => False) (F4 := fun _ => False) h (RInts.void _ _) (RPrepareds.void _ _) (RInts.void _ _)
    (fun _ h => h) (fun _ h => h.elim) (fun _ h => h.elim) (fun _ h => h.elim) (fun _ _ h => h.elim) (fun _ _ h => h.elim) (fun _ _ h => h.elim) (fun _ h => h.elim) (fun _ h => h.elim) (fun _ h => h.elim)
/-- What a good sink says. -/
theorem gk_parts {src : List Int} {t : Int} {pd : List Int} {ps : List TPrepared} {ou : List Int} {la up : Int} (h : gkB (src, t, pd, ps, ou, la, up) = true) :
    src.length ≤ 30 ∧ 0 ≤ t ∧ t ≤ src.length ∧ 0 ≤ up ∧ up ≤ t ∧ 0 ≤ la ∧ la ≤ 1000 ∧ ps.length ≤ 4 ∧ la + ps.length ≤ 1000 ∧ pgsB src t la up ps = true ∧ pd = seg src (upF up ps) t ∧ ou = seg src 0 up := by
  unfold gkB hdB at h
  simp only [Bool.and_eq_true, decide_eq_true_eq] at h
  obtain ⟨⟨⟨⟨⟨⟨⟨⟨h1, h2, h3⟩, h4, h5⟩, h6, h7⟩, h8⟩, h9⟩, h10⟩, h11⟩, h12⟩ := h
  exact ⟨h1, h2, h3, h4, h5, h6, h7, h8, h9, h10, h11, h12⟩
theorem gk_out {src : List Int} {t : Int} {pd : List Int} {ps : List TPrepared} {ou : List Int} {la up : Int} (h : gkB (src, t, pd, ps, ou, la, up) = true) : (ou.length : Int) = up ∧ ou.length ≤ 30 := by
  obtain ⟨h1, h2, h3, h4, h5, _, _, _, _, _, _, h12⟩ := gk_parts h
  have q : ou.length = up.toNat := by rw [h12, seg_len (by omega) h4 (by omega)]; omega
  omega
def outL (x : TSink) : List Int := if gkB x then x.2.2.2.2.1 else []
def outN (x : TSink) : Int := if gkB x then x.1.length - x.2.2.2.2.2.2 else 0
theorem out_small (x : TSink) : (outL x).length ≤ 30 := by
  obtain ⟨src, t, pd, ps, ou, la, up⟩ := x
  unfold outL
  split
  · next h => exact (gk_out h).2
  · simp
theorem new_smallK (src : List Int) : costSink (if gkB (newK src) then newK src else newK []) ≤ 1048576 := by
  rw [gk_new]
  cases h : decide (src.length ≤ 30) with
  | false => show costSink (newK []) ≤ 1048576; decide
  | true =>
    have := of_decide_eq_true h
    simp only [if_true]
    unfold costSink
    simp [csumPrepared_zero]
    omega

end Go.Proofs.Ytecaaekilbdgdaa
