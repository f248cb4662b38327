/- Several texts of one proof, in build order: CmQ, DrP, DrQ, StA, SsP, PlP, PyQ, ClnI. -/
import Derived.Test.YtmbjmmnodcebbaaM14
import Derived.Test.YtmbjmmnodcebbaaM8
import Derived.Test.YtmbjmmnodcebbaaM12
import Derived.Test.YtmbjmmnodcebbaaM9
import Derived.Test.YtmbjmmnodcebbaaM10
import Derived.Test.YtmbjmmnodcebbaaM11
import Derived.Test.YtmbjmmnodcebbaaM13
import Derived.Test.YtmbjmmnodcebbaaM6
import Derived.Test.YtmbjmmnodcebbaaM3
import Derived.Test.YtmbjmmnodcebbaaM7

/- Plain: what comes of giving out all that is stored. -/
namespace Go.Proofs.Ytmbjmmnodcebbaa
open Go.RowKit

def ouC : List Int → List TPrepared → List Int
  | ou, [] => ou
  | ou, p :: ps => ouC (ou ++ p.2.2) ps
def noC : Int → List TPrepared → Int
  | la, [] => la
  | _, p :: ps => noC p.1 ps
theorem itK_all (src : List Int) (t : Int) (pd : List Int) : ∀ (ps : List TPrepared) (ou : List Int) (la up : Int), itK cmK ps.length (src, t, pd, ps, ou, la, up) = ((src, t, pd, [], ouC ou ps, noC la ps, upF up ps), ps.length)
  | [], _, _, _ => rfl
  | p :: ps, ou, la, up => by
    rw [List.length_cons, itK_yes (by rfl)]
    have ih := itK_all src t pd ps (ou ++ p.2.2) p.1 p.2.1
    show ((itK cmK ps.length (src, t, pd, ps, ou ++ p.2.2, p.1, p.2.1)).1, (itK cmK ps.length (src, t, pd, ps, ou ++ p.2.2, p.1, p.2.1)).2 + 1) = _
    rw [ih]
    rfl
theorem drop_at {ps : List TPrepared} {k : Nat} {p : TPrepared} (h : ps[k]? = some p) : ps.drop k = p :: ps.drop (k + 1) := by
  rw [List.drop_eq_getElem_cons (List.getElem?_eq_some_iff.1 h).1, (List.getElem?_eq_some_iff.1 h).2]
theorem ouC_step {ps : List TPrepared} {k : Nat} {p : TPrepared} {ou : List Int} (h : ps[k]? = some p) : ouC ou (ps.drop k) = ouC (ou ++ p.2.2) (ps.drop (k + 1)) := by rw [drop_at h]; rfl
theorem noC_step {ps : List TPrepared} {k : Nat} {p : TPrepared} {la : Int} (h : ps[k]? = some p) : noC la (ps.drop k) = noC p.1 (ps.drop (k + 1)) := by rw [drop_at h]; rfl
theorem upF_step {ps : List TPrepared} {k : Nat} {p : TPrepared} {up : Int} (h : ps[k]? = some p) : upF up (ps.drop k) = upF p.2.1 (ps.drop (k + 1)) := by rw [drop_at h]; rfl
theorem recX_eq (src : List Int) (t : Int) (pd : List Int) (ps : List TPrepared) (ou : List Int) (la up : Int) : recX (src, t, pd, ps, ou, la, up) = if gkB (src, t, pd, ps, ou, la, up) then (src, upF up ps, [], [], ouC ou ps, noC la ps, upF up ps) else newK [] := by
  have q := itK_all src (upF up ps) [] ps ou la up
  have q2 : itK cmK (muK (crK (src, t, pd, ps, ou, la, up))) (crK (src, t, pd, ps, ou, la, up)) = ((src, upF up ps, [], [], ouC ou ps, noC la ps, upF up ps), ps.length) := q
  unfold recX
  rw [q2]
theorem recN_eq (src : List Int) (t : Int) (pd : List Int) (ps : List TPrepared) (ou : List Int) (la up : Int) : recN (src, t, pd, ps, ou, la, up) = if gkB (src, t, pd, ps, ou, la, up) then (ps.length : Int) else 0 := by
  have q := itK_all src (upF up ps) [] ps ou la up
  have q2 : itK cmK (muK (crK (src, t, pd, ps, ou, la, up))) (crK (src, t, pd, ps, ou, la, up)) = ((src, upF up ps, [], [], ouC ou ps, noC la ps, upF up ps), ps.length) := q
  unfold recN
  rw [q2]
theorem ouC_len : ∀ (ps : List TPrepared) (ou : List Int), (∀ p ∈ ps, p.2.2.length ≤ 30) → (ouC ou ps).length ≤ ou.length + 30 * ps.length
  | [], ou, _ => by simp [ouC]
  | p :: ps, ou, h => by
    have q := ouC_len ps (ou ++ p.2.2) (fun q hq => h q (List.mem_cons_of_mem _ hq))
    have hp := h p (by simp)
    rw [List.length_append] at q
    show (ouC (ou ++ p.2.2) ps).length ≤ _
    rw [List.length_cons]
    omega
theorem rec_small (x : TSink) : costSink (recX x) ≤ 1048576 := by
  obtain ⟨src, t, pd, ps, ou, la, up⟩ := x
  rw [recX_eq]
  cases hg : gkB (src, t, pd, ps, ou, la, up) with
  | false => show costSink (newK []) ≤ 1048576; decide
  | true =>
    have hp := gk_PK hg
    have h1 := (gk_parts hg).1
    have h2 := ouC_len ps ou hp.2.1
    have h3 : ou.length + 30 * ps.length ≤ 150 := hp.2.2
    simp only [if_true]
    unfold costSink
    simp [csumPrepared_zero]
    omega

end Go.Proofs.Ytmbjmmnodcebbaa

/- Plain: draining a sink. -/
namespace Go.Proofs.Ytmbjmmnodcebbaa
open Go.RowKit

def rdK (x : TSink) : TSink × Bool := if x.2.1 = x.1.length then (x, false) else ((x.1, x.2.1 + 1, x.2.2.1 ++ [x.1.getD x.2.1.toNat 0], x.2.2.2.1, x.2.2.2.2.1, x.2.2.2.2.2.1, x.2.2.2.2.2.2), true)
def PR (x : TSink) : Prop := x.1.length ≤ 30 ∧ 0 ≤ x.2.1 ∧ x.2.1 ≤ x.1.length ∧ x.2.2.1.length + (x.1.length - x.2.1.toNat) ≤ 30
def muR (x : TSink) : Nat := x.1.length - x.2.1.toNat
theorem rdK_step (x : TSink) (hp : PR x) (h : (rdK x).2 = true) : PR (rdK x).1 ∧ muR (rdK x).1 + 1 = muR x := by
  obtain ⟨src, t, pd, ps, ou, la, up⟩ := x
  obtain ⟨h1, h2, h3, h4⟩ := hp
  simp only at h1 h2 h3 h4
  unfold rdK at h ⊢
  simp only at h ⊢
  by_cases e : t = src.length
  · rw [if_pos e] at h; cases h
  · rw [if_neg e]
    refine ⟨⟨h1, ?_, ?_, ?_⟩, ?_⟩
    · show 0 ≤ t + 1; omega
    · show t + 1 ≤ src.length; omega
    · show (pd ++ [src.getD t.toNat 0]).length + (src.length - (t + 1).toNat) ≤ 30
      rw [List.length_append]; simp only [List.length_cons, List.length_nil]; omega
    · show src.length - (t + 1).toNat + 1 = src.length - t.toNat
      omega
theorem read_step : StepK 41 rdK PR := by
  intro F a0 n0 c0 a2 n2 c2 a3 n3 c3 a4 n4 c4 t la up src pd ps ou w hp hF ho
  obtain ⟨h1, h2, h3, h4⟩ := hp
  simp only at h1 h2 h3 h4
  have hl0 := (RSink.lens ho).1
  have hl2 := (RSink.lens ho).2.2.1
  unfold rdK
  simp only
  by_cases e : t = src.length
  · rw [if_pos e]
    refine (read_no F a0 n0 c0 a2 n2 c2 a3 n3 c3 a4 n4 c4 t la up src pd ps ou w (by omega) ho).mono ?_
    rintro e w' ⟨h, hb⟩
    exact ⟨h, fun _ => hb⟩
  · rw [if_neg e]
    obtain ⟨T, rfl⟩ : ∃ T : Nat, t = T := ⟨t.toNat, by omega⟩
    obtain ⟨x, hx⟩ : ∃ x, src[T]? = some x := ⟨_, List.getElem?_eq_getElem (by omega)⟩
    have hg : src.getD (T : Int).toNat 0 = x := by
      rw [Int.toNat_natCast]; simp [List.getD, hx]
    rw [hg]
    refine (read_yes F a0 n0 c0 a2 n2 c2 a3 n3 c3 a4 n4 c4 T la up src pd ps ou x w hF hx (by omega) (by omega) ho).mono ?_
    intro e w' h
    exact ⟨h, fun h => by cases h⟩
def prK (x : TSink) : TSink × Bool := if x.2.2.1.length = 0 ∨ x.2.2.2.1.length = 4 ∨ 1000 < x.2.2.2.2.2.1 + (x.2.2.2.1.length : Int) + 1 then (x, false) else ((x.1, x.2.1, [], x.2.2.2.1 ++ [(x.2.2.2.2.2.1 + (x.2.2.2.1.length : Int) + 1, x.2.1, x.2.2.1)], x.2.2.2.2.1, x.2.2.2.2.2.1, x.2.2.2.2.2.2), true)
theorem prepare_any (F : Nat → Prop) (a0 : Option Addr) (n0 c0 : Nat) (a2 : Option Addr) (n2 c2 : Nat) (a3 : Option Addr) (n3 c3 : Nat) (a4 : Option Addr) (n4 c4 : Nat) (t la up : Int) (src pd : List Int) (ps : List TPrepared) (ou : List Int) (w : World) (hF : ∀ b, F b → b < w.heap.size) (h34 : n3 ≤ 4) (hl0 : 0 ≤ la) (hl1 : la ≤ 1000)
    (ho : RSink.Own w F [.slice a0 n0 c0, .int .i64 t, .slice a2 n2 c2, .slice a3 n3 c3, .slice a4 n4 c4, .int .i64 la, .int .i64 up] (src, t, pd, ps, ou, la, up)) :
    Calls Try.prog 42 #[.agg #[.slice a0 n0 c0, .int .i64 t, .slice a2 n2 c2, .slice a3 n3 c3, .slice a4 n4 c4, .int .i64 la, .int .i64 up]] w fun e w' => KRet e w w' F (prK (src, t, pd, ps, ou, la, up)).2 (prK (src, t, pd, ps, ou, la, up)).1 := by
  have hp2 := (RSink.lens ho).2.2.1
  have hp3 := (RSink.lens ho).2.2.2.2.1
  unfold prK
  simp only
  rw [hp2, hp3]
  by_cases h : n2 = 0 ∨ n3 = 4 ∨ 1000 < la + (n3 : Int) + 1
  · rw [if_pos h]
    exact (prepare_no F a0 n0 c0 a2 n2 c2 a3 n3 c3 a4 n4 c4 t la up src pd ps ou w h h34 hl0 hl1 ho).mono (fun e w' h => h.1)
  · rw [if_neg h]
    exact prepare_yes F a0 n0 c0 a2 n2 c2 a3 n3 c3 a4 n4 c4 t la up src pd ps ou w hF (by omega) (by omega) hl0 (by omega) ho

/-- Bounds while all is given out. -/
def PD (x : TSink) : Prop := x.2.2.2.1.length ≤ 4 ∧ (∀ p ∈ x.2.2.2.1, p.2.2.length ≤ 30) ∧ x.2.2.2.2.1.length + 30 * x.2.2.2.1.length ≤ 300
theorem cmD_step (x : TSink) (hp : PD x) (h : (cmK x).2 = true) : PD (cmK x).1 ∧ muK (cmK x).1 + 1 = muK x := by
  obtain ⟨src, t, pd, ps, ou, la, up⟩ := x
  cases ps with
  | nil => cases h
  | cons p ps =>
    obtain ⟨h1, h2, h3⟩ := hp
    have hr := h2 p (by simp)
    simp only [List.length_cons] at h1 h3
    refine ⟨⟨?_, fun q hq => h2 q (List.mem_cons_of_mem _ hq), ?_⟩, ?_⟩
    · show ps.length ≤ 4; omega
    · show (ou ++ p.2.2).length + 30 * ps.length ≤ 300
      rw [List.length_append]; omega
    · show ps.length + 1 = (p :: ps).length
      simp
theorem commit_stepD : StepK 40 cmK PD := by
  intro F a0 n0 c0 a2 n2 c2 a3 n3 c3 a4 n4 c4 t la up src pd ps ou w hp hF ho
  cases ps with
  | nil =>
    obtain rfl : 0 = n3 := (RSink.lens ho).2.2.2.2.1
    refine (commit_no F a0 n0 c0 a2 n2 c2 a3 c3 a4 n4 c4 t la up src pd ou w ho).mono ?_
    rintro e w' ⟨h, hb⟩
    exact ⟨h, fun _ => hb⟩
  | cons p ps =>
    obtain ⟨no, ut, rw0⟩ := p
    obtain ⟨h1, h2, h3⟩ := hp
    simp only [List.length_cons] at h1 h3
    have hl := (RSink.lens ho).2.2.2.2.1
    have hl4 := (RSink.lens ho).2.2.2.2.2.2.1
    obtain ⟨_, _, F3, _, _, _, ⟨a, n, c, cells, G, hcs, hL⟩, _⟩ := RSink.own_iff ho
    simp only [List.cons.injEq, Value.slice.injEq, and_true] at hcs
    obtain ⟨rfl, rfl, rfl⟩ := hcs
    obtain ⟨g, rfl⟩ : ∃ g, a3 = some ⟨g, 0, none⟩ := by
      rcases hL.outer.2 with ⟨_, h0⟩ | ⟨g, cap, cur, hv, _⟩
      · rw [← hl] at h0; simp at h0
      · simp only [Value.slice.injEq, true_and] at hv
        exact ⟨g, hv.1⟩
    obtain rfl : ps.length + 1 = n3 := by simpa using hl
    have hrw := h2 (no, ut, rw0) (by simp)
    simp only at hrw
    refine (commit_yes F a0 n0 c0 a2 n2 c2 g ps.length c3 a4 n4 c4 t la up src pd no ut rw0 ps ou w hF (by omega) (by omega) (by omega) ho).mono ?_
    intro e w' h
    exact ⟨h, fun h => by cases h⟩

/-- The steps of draining. -/
def dr1 (x : TSink) : TSink := if x.2.2.2.1.length = 4 then (itK cmK (muK x) x).1 else x
def dr2 (x : TSink) : TSink := (itK rdK (muR x) x).1
def dr3 (x : TSink) : TSink := (prK x).1
def dr4 (x : TSink) : TSink := (itK cmK (muK x) x).1
def drX (x : TSink) : TSink := if gkB x then dr4 (dr3 (dr2 (dr1 x))) else newK []
def drN (x : TSink) : Int := if gkB x then ((dr4 (dr3 (dr2 (dr1 x)))).2.2.2.2.1.length : Int) - x.2.2.2.2.1.length else 0

end Go.Proofs.Ytmbjmmnodcebbaa

/- Plain: bounds while a sink is drained. -/
namespace Go.Proofs.Ytmbjmmnodcebbaa
open Go.RowKit

def DP (x : TSink) : Prop := PR x ∧ x.2.2.2.1.length ≤ 4 ∧ (∀ p ∈ x.2.2.2.1, p.2.2.length ≤ 30) ∧ x.2.2.2.2.1.length + 30 * x.2.2.2.1.length ≤ 150 ∧ 0 ≤ x.2.2.2.2.2.1 ∧ x.2.2.2.2.2.1 ≤ 1000
theorem noC_good {src : List Int} {t : Int} : ∀ {no u : Int} {ps : List TPrepared}, pgsB src t no u ps = true → noC no ps = no + ps.length
  | no, _, [], _ => by simp [noC]
  | no, u, p :: ps, h => by
    unfold pgsB pgB at h
    simp only [Bool.and_eq_true, decide_eq_true_eq] at h
    have ih := noC_good h.2
    show noC p.1 ps = _
    rw [h.1.1.1.1, ih, List.length_cons]
    push_cast
    omega
theorem gk_DP {src : List Int} {t : Int} {pd : List Int} {ps : List TPrepared} {ou : List Int} {la up : Int} (h : gkB (src, t, pd, ps, ou, la, up) = true) : DP (src, t, pd, ps, ou, la, up) := by
  have hk := gk_PK h
  obtain ⟨h1, h2, h3, h4, h5, h6, h7, h8, h9, h10, h11, h12⟩ := gk_parts h
  have hu := pgsB_up h10 h5
  have hl : pd.length = (t - upF up ps).toNat := by rw [h11, seg_len (by omega) hu.2 h3]
  refine ⟨⟨h1, h2, h3, ?_⟩, hk.1, hk.2.1, hk.2.2, h6, h7⟩
  show pd.length + (src.length - t.toNat) ≤ 30
  omega
theorem dr1_DP {src : List Int} {t : Int} {pd : List Int} {ps : List TPrepared} {ou : List Int} {la up : Int} (h : gkB (src, t, pd, ps, ou, la, up) = true) : DP (dr1 (src, t, pd, ps, ou, la, up)) := by
  have hd := gk_DP h
  unfold dr1
  by_cases h4 : ps.length = 4
  · rw [if_pos h4]
    have q : itK cmK (muK (src, t, pd, ps, ou, la, up)) (src, t, pd, ps, ou, la, up) = ((src, t, pd, [], ouC ou ps, noC la ps, upF up ps), ps.length) := itK_all src t pd ps ou la up
    rw [q]
    obtain ⟨hp, _, hr, hb, _, _⟩ := hd
    simp only at hr hb
    obtain ⟨_, _, _, _, _, h6, h7, _, h9, h10, _, _⟩ := gk_parts h
    have hn := noC_good h10
    refine ⟨hp, by simp, fun p hp => (by cases hp), ?_, ?_, ?_⟩
    · show (ouC ou ps).length + 30 * 0 ≤ 150
      have := ouC_len ps ou hr
      omega
    · show 0 ≤ noC la ps; omega
    · show noC la ps ≤ 1000; omega
  · rw [if_neg h4]; exact hd
theorem rd_keeps : ∀ (n : Nat) (x : TSink), PR x → PR (itK rdK n x).1 ∧ (itK rdK n x).1.2.2.2 = x.2.2.2
  | 0, _, h => ⟨h, rfl⟩
  | n + 1, x, h => by
    cases hr : (rdK x).2 with
    | false => rw [itK_no hr]; exact ⟨h, rfl⟩
    | true =>
      rw [itK_yes hr]
      have q := rd_keeps n (rdK x).1 (rdK_step x h hr).1
      refine ⟨q.1, q.2.trans ?_⟩
      unfold rdK at hr ⊢
      by_cases e : x.2.1 = x.1.length
      · rw [if_pos e]
      · rw [if_neg e]
theorem dr2_DP {y : TSink} (h : DP y) : DP (dr2 y) := by
  obtain ⟨h1, h2, h3, h4, h5, h6⟩ := h
  have q := rd_keeps (muR y) y h1
  unfold dr2
  have e := q.2
  refine ⟨q.1, ?_, ?_, ?_, ?_, ?_⟩ <;> rw [e] <;> assumption
theorem dr3_PD {y : TSink} (h : DP y) : PD (dr3 y) := by
  obtain ⟨h1, h2, h3, h4, h5, h6⟩ := h
  unfold dr3 prK
  by_cases e : y.2.2.1.length = 0 ∨ y.2.2.2.1.length = 4 ∨ 1000 < y.2.2.2.2.2.1 + (y.2.2.2.1.length : Int) + 1
  · rw [if_pos e]
    exact ⟨h2, h3, by show y.2.2.2.2.1.length + 30 * y.2.2.2.1.length ≤ 300; omega⟩
  · rw [if_neg e]
    have hpd : y.2.2.1.length ≤ 30 := by have := h1.2.2.2; omega
    refine ⟨?_, ?_, ?_⟩
    · simp only [List.length_append, List.length_cons, List.length_nil]; omega
    · intro p hp
      simp only [List.mem_append, List.mem_singleton] at hp
      rcases hp with hp | rfl
      · exact h3 p hp
      · exact hpd
    · simp only [List.length_append, List.length_cons, List.length_nil]; omega
theorem muR_le {y : TSink} (h : DP y) : muR y ≤ 1000 := by
  have := h.1.1
  unfold muR; omega
theorem DP_PD {y : TSink} (h : DP y) : PD y := ⟨h.2.1, h.2.2.1, by have := h.2.2.2.1; omega⟩
theorem dr4_PD {y : TSink} (h : PD y) : (dr4 y).2.2.2.2.1.length ≤ 300 ∧ (dr4 y).2.2.2.1 = [] ∧ (dr4 y).1 = y.1 ∧ (dr4 y).2.2.1 = y.2.2.1 := by
  obtain ⟨src, t, pd, ps, ou, la, up⟩ := y
  have q : itK cmK (muK (src, t, pd, ps, ou, la, up)) (src, t, pd, ps, ou, la, up) = ((src, t, pd, [], ouC ou ps, noC la ps, upF up ps), ps.length) := itK_all src t pd ps ou la up
  unfold dr4
  rw [q]
  have := ouC_len ps ou h.2.1
  have h3 : ou.length + 30 * ps.length ≤ 300 := h.2.2
  exact ⟨by simp only; omega, rfl, rfl, rfl⟩

end Go.Proofs.Ytmbjmmnodcebbaa

/- The model's l16Step at whatever kind, over a sink that is held: what it tells can be read. -/
namespace Go.Proofs.Ytmbjmmnodcebbaa
open Go.RowKit

theorem RSink.at_mk {w : World} {a0 : Option Addr} {n0 c0 : Nat} {x0 : List Int} {t : Int} {a2 : Option Addr} {n2 c2 : Nat} {x2 : List Int} {a3 : Option Addr} {n3 c3 : Nat} {x3 : List TPrepared} {a4 : Option Addr} {n4 c4 : Nat} {x4 : List Int} {la up : Int}
    (h0 : RInts.At w [.slice a0 n0 c0] x0) (h2 : RInts.At w [.slice a2 n2 c2] x2) (h3 : RPrepareds.At w [.slice a3 n3 c3] x3) (h4 : RInts.At w [.slice a4 n4 c4] x4) : RSink.At w [.slice a0 n0 c0, .int .i64 t, .slice a2 n2 c2, .slice a3 n3 c3, .slice a4 n4 c4, .int .i64 la, .int .i64 up] (x0, t, x2, x3, x4, la, up) :=
  ⟨[_], _, rfl, h0, [_], _, rfl, rfl, [_], _, rfl, h2, [_], _, rfl, h3, [_], _, rfl, h4, [_], _, rfl, rfl, rfl⟩
theorem atSl_tail {w : World} {g : Nat} {p : TPrepared} {ps : List TPrepared} (h : AtSl RPrepared w (some ⟨g, 0, none⟩) (p :: ps)) : AtSl RPrepared w (some ⟨g, 3, none⟩) ps := by
  rcases h with h | ⟨b, off, e, hc⟩
  · cases h
  · simp only [Option.some.injEq, Addr.mk.injEq, and_true] at e
    obtain ⟨rfl, rfl⟩ := e
    refine .inr ⟨g, 3, rfl, fun i x hx => ?_⟩
    obtain ⟨cs, h1, h2⟩ := hc (i + 1) x (by simpa using hx)
    refine ⟨cs, fun j v hj => ?_, h2⟩
    have q := h1 j v hj
    have e : 0 + (i + 1) * RPrepared.k + j = 3 + i * RPrepared.k + j := by rw [RPrepared_k]; omega
    rw [e] at q
    exact q
/-- What a step tells, as it can be read. -/
def LRet (e : Ending) (w w' : World) (F : Nat → Prop) (ok : Bool) (x : TSink) : Prop :=
  ∃ r0 m0 d0 r2 m2 d2 r3 m3 d3 r4 m4 d4, e = .returned (.tuple #[.agg #[.slice r0 m0 d0, .int .i64 x.2.1, .slice r2 m2 d2, .slice r3 m3 d3, .slice r4 m4 d4, .int .i64 x.2.2.2.2.2.1, .int .i64 x.2.2.2.2.2.2], .bool ok]) ∧
    RSink.At w' [.slice r0 m0 d0, .int .i64 x.2.1, .slice r2 m2 d2, .slice r3 m3 d3, .slice r4 m4 d4, .int .i64 x.2.2.2.2.2.1, .int .i64 x.2.2.2.2.2.2] x ∧ Off F w w'
theorem KRet.lret {e : Ending} {w w' : World} {F : Nat → Prop} {ok : Bool} {x : TSink} (h : KRet e w w' F ok x) : LRet e w w' F ok x := by
  obtain ⟨r0, m0, d0, r2, m2, d2, r3, m3, d3, r4, m4, d4, h1, h2, h3⟩ := h
  exact ⟨r0, m0, d0, r2, m2, d2, r3, m3, d3, r4, m4, d4, h1, RSink.toAt h2, h3⟩
def stK (x : TSink) (k : Int) : TSink × Bool :=
  if k = 1 then rdK x else if k = 2 then prK x else if k = 3 then cmK x else if k = 4 then (crK x, true)
  else if k = 5 then (if x.2.2.2.1.length < 2 then (x, false) else (crK (x.1, x.2.1, x.2.2.1, x.2.2.2.1.take (x.2.2.2.1.length - 1), x.2.2.2.2.1, x.2.2.2.2.2.1, x.2.2.2.2.2.2), true)) else (x, false)

theorem l16Step_any (F : Nat → Prop) (a0 : Option Addr) (n0 c0 : Nat) (a2 : Option Addr) (n2 c2 : Nat) (a3 : Option Addr) (n3 c3 : Nat) (a4 : Option Addr) (n4 c4 : Nat) (t la up k : Int) (src pd : List Int) (ps : List TPrepared) (ou : List Int) (w : World) (hF : ∀ b, F b → b < w.heap.size) (hd : DP (src, t, pd, ps, ou, la, up))
    (ho : RSink.Own w F [.slice a0 n0 c0, .int .i64 t, .slice a2 n2 c2, .slice a3 n3 c3, .slice a4 n4 c4, .int .i64 la, .int .i64 up] (src, t, pd, ps, ou, la, up)) :
    Calls Try.prog 26 #[.agg #[.slice a0 n0 c0, .int .i64 t, .slice a2 n2 c2, .slice a3 n3 c3, .slice a4 n4 c4, .int .i64 la, .int .i64 up], .int .i64 k] w fun e w' => LRet e w w' F (stK (src, t, pd, ps, ou, la, up) k).2 (stK (src, t, pd, ps, ou, la, up) k).1 := by
  obtain ⟨⟨h1, h2, h3, h4⟩, hn3, hrw, hol, hl0, hl1⟩ := hd
  simp only at h1 h2 h3 h4 hn3 hrw hol hl0 hl1
  have hz0 := (RSink.lens ho).1
  have hz2 := (RSink.lens ho).2.2.1
  have hz3 := (RSink.lens ho).2.2.2.2.1
  have hz4 := (RSink.lens ho).2.2.2.2.2.2.1
  unfold stK
  by_cases k1 : k = 1
  · subst k1
    rw [if_pos rfl]
    unfold rdK
    simp only
    by_cases e : t = src.length
    · rw [if_pos e]
      exact (step1_no F a0 n0 c0 a2 n2 c2 a3 n3 c3 a4 n4 c4 t la up src pd ps ou w (by omega) ho).mono (fun e w' h => h.1.lret)
    · rw [if_neg e]
      obtain ⟨T, rfl⟩ : ∃ T : Nat, t = T := ⟨t.toNat, by omega⟩
      obtain ⟨x, hx⟩ : ∃ x, src[T]? = some x := ⟨_, List.getElem?_eq_getElem (by omega)⟩
      have hg : src.getD (T : Int).toNat 0 = x := by
        rw [Int.toNat_natCast]; simp [List.getD, hx]
      rw [hg]
      exact (step1_yes F a0 n0 c0 a2 n2 c2 a3 n3 c3 a4 n4 c4 T la up src pd ps ou x w hF hx (by omega) (by omega) ho).mono (fun e w' h => h.lret)
  rw [if_neg k1]
  by_cases k2 : k = 2
  · subst k2
    rw [if_pos rfl]
    unfold prK
    simp only
    rw [hz2, hz3]
    by_cases h : n2 = 0 ∨ n3 = 4 ∨ 1000 < la + (n3 : Int) + 1
    · rw [if_pos h]
      exact (step2_no F a0 n0 c0 a2 n2 c2 a3 n3 c3 a4 n4 c4 t la up src pd ps ou w h (by omega) hl0 hl1 ho).mono (fun e w' h => h.1.lret)
    · rw [if_neg h]
      exact (step2_yes F a0 n0 c0 a2 n2 c2 a3 n3 c3 a4 n4 c4 t la up src pd ps ou w hF (by omega) (by omega) hl0 (by omega) ho).mono (fun e w' h => h.lret)
  rw [if_neg k2]
  by_cases k3 : k = 3
  · subst k3
    rw [if_pos rfl]
    cases ps with
    | nil =>
      obtain rfl : 0 = n3 := hz3
      refine (step3_no a0 n0 c0 a2 n2 c2 a3 c3 a4 n4 c4 t la up w).mono ?_
      rintro e w' ⟨h, hb⟩
      exact ⟨a0, n0, c0, a2, n2, c2, a3, 0, c3, a4, n4, c4, h, RSink.toAt (RSink.ownBelow ho hb), Off.below hb⟩
    | cons p ps =>
      obtain ⟨no, ut, rw0⟩ := p
      obtain ⟨_, _, F3, _, _, _, ⟨a, n, c, cells, G, hcs, hL⟩, _⟩ := RSink.own_iff ho
      simp only [List.cons.injEq, Value.slice.injEq, and_true] at hcs
      obtain ⟨rfl, rfl, rfl⟩ := hcs
      have hcap := ownCap hL.outer
      obtain ⟨g, rfl⟩ : ∃ g, a3 = some ⟨g, 0, none⟩ := by
        rcases hL.outer.2 with ⟨_, h0⟩ | ⟨g, cap, cur, hv, _⟩
        · rw [← hz3] at h0; simp at h0
        · simp only [Value.slice.injEq, true_and] at hv
          exact ⟨g, hv.1⟩
      obtain rfl : ps.length + 1 = n3 := by simpa using hz3
      have hr := hrw (no, ut, rw0) (by simp)
      simp only at hr
      have q := step3_yes F a0 n0 c0 a2 n2 c2 g 0 ps.length c3 (ps.length + 1) c3 a4 n4 c4 t la up src pd no ut rw0 ((no, ut, rw0) :: ps) ou w hF rfl (by omega) (by omega) (by omega) (by omega) (by omega) ho
      simp only [Nat.zero_mul] at q
      refine q.mono ?_
      rintro e w' ⟨r, l, d, o, h, hom, hown, hoff⟩
      refine ⟨a0, n0, c0, a2, n2, c2, some ⟨g, o, none⟩, ps.length, c3 - 1, r, l, d, h, ?_, hoff⟩
      have hat := RSink.at_iff (RSink.toAt hown)
      refine RSink.at_mk (RInts.at_iff.2 hat.1) (RInts.at_iff.2 hat.2.1) ⟨_, _, _, rfl, rfl, by omega, ?_, fun h => (by cases h)⟩ (RInts.at_iff.2 hat.2.2.2)
      by_cases hm : 0 < ps.length
      · have ho3 : o = 3 := by have := hom hm; omega
        rw [ho3]
        exact atSl_tail hat.2.2.1.2.2.1
      · exact .inl (List.length_eq_zero_iff.1 (by omega))
  rw [if_neg k3]
  by_cases k4 : k = 4
  · subst k4
    rw [if_pos rfl]
    exact (step4_any F a0 n0 c0 a2 n2 c2 a3 n3 c3 a4 n4 c4 t la up src pd ps ou w hF ho).mono (fun e w' h => h.lret)
  rw [if_neg k4]
  by_cases k5 : k = 5
  · subst k5
    rw [if_pos rfl]
    simp only
    rw [hz3]
    by_cases h : n3 < 2
    · rw [if_pos h]
      exact (step5_no F a0 n0 c0 a2 n2 c2 a3 n3 c3 a4 n4 c4 t la up src pd ps ou w h ho).mono (fun e w' h => h.1.lret)
    · rw [if_neg h]
      exact (step5_yes F a0 n0 c0 a2 n2 c2 a3 n3 c3 a4 n4 c4 t la up src pd ps ou w hF (by omega) (by omega) ho).mono (fun e w' h => h.lret)
  rw [if_neg k5]
  exact (step9_no F a0 n0 c0 a2 n2 c2 a3 n3 c3 a4 n4 c4 t la up src pd ps ou k w ⟨k1, k2, k3, k4, k5⟩ ho).mono (fun e w' h => h.1.lret)

end Go.Proofs.Ytmbjmmnodcebbaa

/- Plain: one step of a sink, within bounds. -/
namespace Go.Proofs.Ytmbjmmnodcebbaa
open Go.RowKit

def ssB (x : TSink) (k : Int) : Bool := gkB x && (stK x k).2
def ssX (x : TSink) (k : Int) : TSink := if ssB x k then (stK x k).1 else newK []
/-- So small that it can be copied and counted. -/
def SM (y : TSink) : Prop := y.1.length ≤ 30 ∧ y.2.2.1.length ≤ 31 ∧ y.2.2.2.1.length ≤ 5 ∧ y.2.2.2.2.1.length ≤ 200 ∧ ∀ p ∈ y.2.2.2.1, p.2.2.length ≤ 30
theorem DP_SM {x : TSink} (h : DP x) : SM x := ⟨h.1.1, by have := h.1.2.2.2; omega, by have := h.2.1; omega, by have := h.2.2.2.1; omega, h.2.2.1⟩
theorem stK_small {x : TSink} (k : Int) (h : DP x) : SM (stK x k).1 := by
  have hs := DP_SM h
  obtain ⟨h1, hn3, hrw, hol, hl0, hl1⟩ := h
  obtain ⟨src, t, pd, ps, ou, la, up⟩ := x
  obtain ⟨h1, h2, h3, h4⟩ := h1
  simp only at h1 h2 h3 h4 hn3 hrw hol hl0 hl1
  unfold stK
  by_cases k1 : k = 1
  · rw [if_pos k1]
    unfold rdK
    by_cases e : t = src.length
    · rw [if_pos e]; exact hs
    · rw [if_neg e]
      refine ⟨h1, ?_, by show ps.length ≤ 5; omega, by show ou.length ≤ 200; omega, hrw⟩
      show (pd ++ [src.getD t.toNat 0]).length ≤ 31
      rw [List.length_append]; simp only [List.length_cons, List.length_nil]; omega
  rw [if_neg k1]
  by_cases k2 : k = 2
  · rw [if_pos k2]
    unfold prK
    by_cases e : pd.length = 0 ∨ ps.length = 4 ∨ 1000 < la + (ps.length : Int) + 1
    · rw [if_pos e]; exact hs
    · rw [if_neg e]
      refine ⟨h1, by simp, ?_, by show ou.length ≤ 200; omega, ?_⟩
      · show (ps ++ [_]).length ≤ 5
        rw [List.length_append]; simp only [List.length_cons, List.length_nil]; omega
      · intro p hp
        simp only [List.mem_append, List.mem_singleton] at hp
        rcases hp with hp | rfl
        · exact hrw p hp
        · show pd.length ≤ 30; omega
  rw [if_neg k2]
  by_cases k3 : k = 3
  · rw [if_pos k3]
    cases ps with
    | nil => exact hs
    | cons p ps =>
      have hr := hrw p (by simp)
      simp only [List.length_cons] at hn3 hol
      refine ⟨h1, by show pd.length ≤ 31; omega, by show ps.length ≤ 5; omega, ?_, fun q hq => hrw q (List.mem_cons_of_mem _ hq)⟩
      show (ou ++ p.2.2).length ≤ 200
      rw [List.length_append]; omega
  rw [if_neg k3]
  by_cases k4 : k = 4
  · rw [if_pos k4]
    exact ⟨h1, by simp [crK], by show ps.length ≤ 5; omega, by show ou.length ≤ 200; omega, hrw⟩
  rw [if_neg k4]
  by_cases k5 : k = 5
  · rw [if_pos k5]
    by_cases e : ps.length < 2
    · rw [if_pos e]; exact hs
    · rw [if_neg e]
      refine ⟨h1, by simp [crK], ?_, by show ou.length ≤ 200; omega, fun p hp => hrw p (List.mem_of_mem_take hp)⟩
      show (ps.take (ps.length - 1)).length ≤ 5
      rw [List.length_take]; omega
  rw [if_neg k5]
  exact hs
theorem SM_cost {y : TSink} (h : SM y) : ∀ (i : Nat) (x : TPrepared), y.2.2.2.1[i]? = some x → costPrepared x ≤ 1048576 := fun i x hx => by
  have := h.2.2.2.2 x (List.mem_of_getElem? hx)
  unfold costPrepared
  omega
theorem csum_small : ∀ (ps : List TPrepared) (k : Nat), (∀ p ∈ ps, p.2.2.length ≤ 30) → csumPrepared ps k ≤ 30 * k
  | ps, 0, _ => by rw [csumPrepared_zero]; omega
  | ps, k + 1, h => by
    have ih := csum_small ps k h
    cases hx : ps[k]? with
    | none =>
      have e : csumPrepared ps (k + 1) = csumPrepared ps k := by
        have hl := List.getElem?_eq_none_iff.1 hx
        unfold csumPrepared szL
        rw [List.take_of_length_le (by omega), List.take_of_length_le hl]
      omega
    | some x =>
      rw [csumPrepared_succ hx]
      have := h x (List.mem_of_getElem? hx)
      unfold costPrepared
      omega
theorem ss_small (x : TSink) (k : Int) : costSink (ssX x k) ≤ 1048576 := by
  unfold ssX
  cases hg : ssB x k with
  | false => show costSink (newK []) ≤ 1048576; decide
  | true =>
    simp only [if_true]
    have hk : gkB x = true := by unfold ssB at hg; rw [Bool.and_eq_true] at hg; exact hg.1
    obtain ⟨src, t, pd, ps, ou, la, up⟩ := x
    have hs := stK_small k (gk_DP hk)
    obtain ⟨h1, h2, h3, h4, h5⟩ := hs
    have hc := csum_small (stK (src, t, pd, ps, ou, la, up) k).1.2.2.2.1 (stK (src, t, pd, ps, ou, la, up) k).1.2.2.2.1.length h5
    unfold costSink
    omega

end Go.Proofs.Ytmbjmmnodcebbaa

/- Plain: playing steps on a sink: what holds of every sink that steps lead to. -/
namespace Go.Proofs.Ytmbjmmnodcebbaa
open Go.RowKit

/-- The stored ones follow one another from where u numbers are out, the last of which has the number no. -/
def chn : Int → Int → List TPrepared → Prop
  | _, _, [] => True
  | u, no, p :: ps => p.1 = no + 1 ∧ p.2.1 = u + p.2.2.length ∧ chn p.2.1 p.1 ps
theorem chn_add : ∀ (ps : List TPrepared) (u no : Int) (q : TPrepared), chn u no ps → q.1 = no + ps.length + 1 → q.2.1 = upF u ps + q.2.2.length → chn u no (ps ++ [q])
  | [], u, no, q, _, h1, h2 => ⟨by rw [h1]; simp, h2, trivial⟩
  | p :: ps, u, no, q, h, h1, h2 => ⟨h.1, h.2.1, chn_add ps p.2.1 p.1 q h.2.2 (by rw [h1, h.1, List.length_cons]; push_cast; omega) h2⟩
theorem chn_take : ∀ (n : Nat) (ps : List TPrepared) (u no : Int), chn u no ps → chn u no (ps.take n)
  | 0, _, _, _, _ => by rw [List.take_zero]; trivial
  | n + 1, [], _, _, _ => trivial
  | n + 1, p :: ps, u, no, h => ⟨h.1, h.2.1, chn_take n ps p.2.1 p.1 h.2.2⟩
theorem chn_up : ∀ (ps : List TPrepared) (u no : Int), chn u no ps → u ≤ upF u ps ∧ (∀ p ∈ ps, (p.2.2.length : Int) ≤ upF u ps - u) ∧ ∀ n, upF u (ps.take n) ≤ upF u ps
  | [], u, no, _ => ⟨Int.le_refl _, fun _ h => (by cases h), fun n => by rw [List.take_nil]; exact Int.le_refl _⟩
  | p :: ps, u, no, h => by
    obtain ⟨h1, h2, h3⟩ := chn_up ps p.2.1 p.1 h.2.2
    have e : upF u (p :: ps) = upF p.2.1 ps := rfl
    have hp := h.2.1
    refine ⟨by rw [e]; omega, ?_, ?_⟩
    · intro q hq
      rw [e]
      rcases List.mem_cons.1 hq with rfl | hq
      · omega
      · have := h2 q hq; omega
    · intro n
      cases n with
      | zero => rw [List.take_zero, e]; show u ≤ _; omega
      | succ n => rw [e]; exact h3 n
/-- What holds of every sink that steps lead to. -/
def JS (x : TSink) : Prop := x.1.length ≤ 30 ∧ x.2.1 ≤ x.1.length ∧ x.2.2.2.2.2.2 = x.2.2.2.2.1.length ∧ chn x.2.2.2.2.2.2 x.2.2.2.2.2.1 x.2.2.2.1 ∧ x.2.1 = upF x.2.2.2.2.2.2 x.2.2.2.1 + x.2.2.1.length ∧ 0 ≤ x.2.2.2.2.2.1 ∧ x.2.2.2.2.2.1 + (x.2.2.2.1.length : Int) ≤ 1000 ∧ x.2.2.2.1.length ≤ 4
theorem JS_DP {x : TSink} (h : JS x) : DP x := by
  obtain ⟨src, t, pd, ps, ou, la, up⟩ := x
  obtain ⟨h1, h2, h3, h4, h5, h6, h7, h8⟩ := h
  simp only at h1 h2 h3 h4 h5 h6 h7 h8
  obtain ⟨k1, k2, _⟩ := chn_up ps up la h4
  refine ⟨⟨h1, by show 0 ≤ t; omega, by show t ≤ src.length; omega, by show pd.length + (src.length - t.toNat) ≤ 30; omega⟩, h8, ?_, by show ou.length + 30 * ps.length ≤ 150; omega, h6, by show la ≤ 1000; omega⟩
  intro p hp
  have := k2 p hp
  omega
theorem JS_new {l : List Int} (h : gkB (newK l) = true) : JS (newK l) := by
  have h1 := (gk_parts h).1
  exact ⟨h1, by show (0 : Int) ≤ l.length; omega, rfl, trivial, rfl, Int.le_refl _, by show (0 : Int) + (([] : List TPrepared).length : Int) ≤ 1000; decide, by show ([] : List TPrepared).length ≤ 4; decide⟩
theorem JS_crash {x : TSink} (h : JS x) : JS (crK x) := by
  obtain ⟨src, t, pd, ps, ou, la, up⟩ := x
  obtain ⟨h1, h2, h3, h4, h5, h6, h7, h8⟩ := h
  simp only at h1 h2 h3 h4 h5 h6 h7 h8
  exact ⟨h1, by show upF up ps ≤ src.length; omega, h3, h4, by show upF up ps = upF up ps + (([] : List Int).length : Int); simp, h6, h7, h8⟩
theorem JS_step (x : TSink) (k : Int) (h : JS x) : JS (stK x k).1 := by
  have h0 := h
  obtain ⟨src, t, pd, ps, ou, la, up⟩ := x
  obtain ⟨h1, h2, h3, h4, h5, h6, h7, h8⟩ := h
  simp only at h1 h2 h3 h4 h5 h6 h7 h8
  obtain ⟨k1, k2, k3⟩ := chn_up ps up la h4
  unfold stK
  by_cases e1 : k = 1
  · rw [if_pos e1]
    unfold rdK
    by_cases e : t = src.length
    · rw [if_pos e]; exact h0
    · rw [if_neg e]
      refine ⟨h1, by show t + 1 ≤ src.length; omega, h3, h4, ?_, h6, h7, h8⟩
      show t + 1 = upF up ps + ((pd ++ [src.getD t.toNat 0]).length : Int)
      rw [List.length_append]; simp only [List.length_cons, List.length_nil]; push_cast; omega
  rw [if_neg e1]
  by_cases e2 : k = 2
  · rw [if_pos e2]
    unfold prK
    by_cases e : pd.length = 0 ∨ ps.length = 4 ∨ 1000 < la + (ps.length : Int) + 1
    · rw [if_pos e]; exact h0
    · rw [if_neg e]
      have hu : ∀ (qs : List TPrepared) (u : Int), upF u (qs ++ [(la + (ps.length : Int) + 1, t, pd)]) = t := by
        intro qs
        induction qs with
        | nil => intro u; rfl
        | cons q qs ih => intro u; exact ih q.2.1
      refine ⟨h1, h2, h3, chn_add ps up la _ h4 rfl h5, ?_, h6, ?_, ?_⟩
      · show t = upF up (ps ++ [(la + (ps.length : Int) + 1, t, pd)]) + (([] : List Int).length : Int)
        rw [hu]; simp
      · show la + ((ps ++ [(la + (ps.length : Int) + 1, t, pd)]).length : Int) ≤ 1000
        rw [List.length_append]; simp only [List.length_cons, List.length_nil]; push_cast; omega
      · show (ps ++ [(la + (ps.length : Int) + 1, t, pd)]).length ≤ 4
        rw [List.length_append]; simp only [List.length_cons, List.length_nil]; omega
  rw [if_neg e2]
  by_cases e3 : k = 3
  · rw [if_pos e3]
    cases ps with
    | nil => exact h0
    | cons p ps =>
      obtain ⟨c1, c2, c3⟩ := h4
      simp only [List.length_cons] at h7 h8
      push_cast at h7
      refine ⟨h1, h2, ?_, c3, h5, ?_, ?_, ?_⟩
      · show p.2.1 = ((ou ++ p.2.2).length : Int)
        rw [List.length_append]; push_cast; omega
      · show 0 ≤ p.1; omega
      · show p.1 + (ps.length : Int) ≤ 1000; omega
      · show ps.length ≤ 4; omega
  rw [if_neg e3]
  by_cases e4 : k = 4
  · rw [if_pos e4]; exact JS_crash h0
  rw [if_neg e4]
  by_cases e5 : k = 5
  · rw [if_pos e5]
    by_cases e : ps.length < 2
    · rw [if_pos e]; exact h0
    · rw [if_neg e]
      refine JS_crash (x := (src, upF up (ps.take (ps.length - 1)), [], ps.take (ps.length - 1), ou, la, up)) ⟨h1, ?_, h3, chn_take _ _ _ _ h4, ?_, h6, ?_, ?_⟩
      · show upF up (ps.take (ps.length - 1)) ≤ src.length
        have := k3 (ps.length - 1); omega
      · show upF up (ps.take (ps.length - 1)) = upF up (ps.take (ps.length - 1)) + (([] : List Int).length : Int)
        simp
      · show la + ((ps.take (ps.length - 1)).length : Int) ≤ 1000
        rw [List.length_take]; omega
      · show (ps.take (ps.length - 1)).length ≤ 4
        rw [List.length_take]; omega
  rw [if_neg e5]
  exact h0
/-- A step that can't be done leaves all as it was. -/
theorem stK_no {x : TSink} {k : Int} (h : (stK x k).2 = false) : (stK x k).1 = x := by
  unfold stK at h ⊢
  by_cases e1 : k = 1
  · rw [if_pos e1] at h ⊢
    unfold rdK at h ⊢
    by_cases e : x.2.1 = x.1.length
    · rw [if_pos e]
    · rw [if_neg e] at h; cases h
  rw [if_neg e1] at h ⊢
  by_cases e2 : k = 2
  · rw [if_pos e2] at h ⊢
    unfold prK at h ⊢
    by_cases e : x.2.2.1.length = 0 ∨ x.2.2.2.1.length = 4 ∨ 1000 < x.2.2.2.2.2.1 + (x.2.2.2.1.length : Int) + 1
    · rw [if_pos e]
    · rw [if_neg e] at h; cases h
  rw [if_neg e2] at h ⊢
  by_cases e3 : k = 3
  · rw [if_pos e3] at h ⊢
    obtain ⟨src, t, pd, ps, ou, la, up⟩ := x
    cases ps with
    | nil => rfl
    | cons p ps => cases h
  rw [if_neg e3] at h ⊢
  by_cases e4 : k = 4
  · rw [if_pos e4] at h; cases h
  rw [if_neg e4] at h ⊢
  by_cases e5 : k = 5
  · rw [if_pos e5] at h ⊢
    by_cases e : x.2.2.2.1.length < 2
    · rw [if_pos e]
    · rw [if_neg e] at h; cases h
  rw [if_neg e5]
def plS : TSink → List Int → TSink
  | x, [] => x
  | x, k :: l => plS (stK x k).1 l
def plB : TSink → List Int → List Bool
  | _, [] => []
  | x, k :: l => (stK x k).2 :: plB (stK x k).1 l
theorem plB_len : ∀ (l : List Int) (x : TSink), (plB x l).length = l.length
  | [], _ => rfl
  | k :: l, x => by show (plB _ l).length + 1 = l.length + 1; rw [plB_len l]
theorem JS_play : ∀ (l : List Int) (x : TSink), JS x → JS (plS x l)
  | [], _, h => h
  | k :: l, x, h => JS_play l _ (JS_step x k h)
/-- How far: what was told, and what is still to come. -/
theorem pl_at {l : List Int} {i : Nat} {k : Int} (h : l[i]? = some k) (x : TSink) : plS x (l.drop i) = plS (stK x k).1 (l.drop (i + 1)) ∧ plB x (l.drop i) = (stK x k).2 :: plB (stK x k).1 (l.drop (i + 1)) := by
  have e : l.drop i = k :: l.drop (i + 1) := by
    rw [List.drop_eq_getElem_cons (List.getElem?_eq_some_iff.1 h).1, (List.getElem?_eq_some_iff.1 h).2]
  rw [e]; exact ⟨rfl, rfl⟩
def pyOk (src l : List Int) : Bool := gkB (newK src) && decide (l.length ≤ 120)
def pyX (src l : List Int) : TSink := if pyOk src l then plS (newK src) l else newK []
def pyB (src l : List Int) : List Bool := if pyOk src l then plB (newK src) l else []
theorem JS_cost {x : TSink} (h : JS x) : costSink x ≤ 1048576 := by
  obtain ⟨src, t, pd, ps, ou, la, up⟩ := x
  obtain ⟨h1, h2, h3, h4, h5⟩ := DP_SM (JS_DP h)
  simp only at h1 h2 h3 h4 h5
  have hc := csum_small ps ps.length h5
  unfold costSink
  simp only
  omega
theorem py_small (src l : List Int) : costSink (pyX src l) ≤ 1048576 := by
  unfold pyX
  cases hg : pyOk src l with
  | false => show costSink (newK []) ≤ 1048576; decide
  | true =>
    unfold pyOk at hg
    rw [Bool.and_eq_true] at hg
    exact JS_cost (JS_play l _ (JS_new hg.1))
theorem py_len (src l : List Int) : (pyB src l).length ≤ 120 := by
  unfold pyB
  cases hg : pyOk src l with
  | false => show ([] : List Bool).length ≤ 120; decide
  | true =>
    unfold pyOk at hg
    rw [Bool.and_eq_true, decide_eq_true_eq] at hg
    rw [if_pos rfl, plB_len]
    exact hg.2

end Go.Proofs.Ytmbjmmnodcebbaa

/- What PlaySink tells. -/
namespace Go.Proofs.Ytmbjmmnodcebbaa
open Go.RowKit

def PyRet (e : Ending) (w' : World) (lo : Nat) (ok : Bool) (x : TSink) (bs : List Bool) : Prop :=
  ∃ r0 m0 d0 r2 m2 d2 r3 m3 d3 r4 m4 d4 rb nb db, e = .returned (.tuple #[.agg #[.slice r0 m0 d0, .int .i64 x.2.1, .slice r2 m2 d2, .slice r3 m3 d3, .slice r4 m4 d4, .int .i64 x.2.2.2.2.2.1, .int .i64 x.2.2.2.2.2.2], .slice rb nb db, .bool ok]) ∧
    WithB RSink w' (From lo w'.heap.size) [.slice r0 m0 d0, .int .i64 x.2.1, .slice r2 m2 d2, .slice r3 m3 d3, .slice r4 m4 d4, .int .i64 x.2.2.2.2.2.1, .int .i64 x.2.2.2.2.2.2] x rb nb db bs

end Go.Proofs.Ytmbjmmnodcebbaa

/- Contract of slices.Clone at ints. -/
namespace Go.Proofs.Ytmbjmmnodcebbaa
open Go.RowKit

theorem own_void (w : World) (e : TypeId) (size : Nat) : (w.alloc (.cells #[] e)).ownsRow w.heap.size e size (.slice (some ⟨w.heap.size, 0, none⟩) 0 0) 0 [] :=
  ⟨by simp, .inr ⟨w.heap.size, 0, #[], rfl, Nat.le_refl _, heap_alloc_new w _, by simp, by simp, by simp, by simp⟩⟩
theorem eqNilI (a : Option Addr) (n c : Nat) (w : World) : (binOp .eql 22 (.slice a n c) (.slice none 0 0)).run Try.prog w = .ok (.bool a.isNone) w := by
  have he : (Op.equalIn (9999 + 1) 22 (.slice a n c) (.slice none 0 0)).run Try.prog w = .ok a.isNone w := by
    unfold Op.equalIn
    simp only [Sem.run_bind, run_underlying Try.underlying22, Result.andThen_ok]
    cases a <;> rfl
  have he' : (Op.equal 22 (.slice a n c) (.slice none 0 0)).run Try.prog w = .ok a.isNone w := he
  simp only [binOp]
  rw [Sem.run_bind, he']
  rfl

set_option maxHeartbeats 2000000 in
theorem cloneI_any (a : Option Addr) (n c : Nat) (zs : List Int) (w : World) (hz : zs.length = n) (hn : n ≤ 1048576) (hF : a = none → c = 0) (ha : At w a zs) :
    Calls Try.prog 52 #[.slice a n c] w fun e w' => ∃ r d, e = .returned (.slice r n d) ∧ w'.ownsRow w.heap.size 3 1 (.slice r n d) n (zs.map (.int .i64)) ∧ Below w.heap.size w w' := by
  obtain ⟨i0, hi, hz0, hz1, hz2⟩ := info_parts Try.infoInt
  cases a with
  | none =>
    have hc0 := hF rfl
    subst hc0
    have hM : zs = [] := by rcases ha with h | ⟨b, off, h, _⟩; exact h; cases h
    subst hM
    have hn0 : 0 = n := hz
    subst hn0
    have hq := fun w => eqNilI none 0 0 w
    go_enter Try.func52, Try.ntmps52
    go_wp2
    go_ret
    exact ⟨none, 0, rfl, World.ownsRow_nil _ _ _ _, Below.refl _ _⟩
  | some ad =>
    have OE := Hid.mk (own_void w 3 1)
    have HA := Hid.mk (ha.alloc (.cells #[] 3))
    have HZ := Hid.mk hz
    clear ha hF hz
    have hq := fun w => eqNilI (some ad) n c w
    go_enter Try.func52, Try.ntmps52
    go_wp2_with (at_builtin; refine wpList_append_all rfl (.tmp 5) (.tmp 6) 22 rfl w.heap.size 3 i0 (.int .i64 0) 8 Try.underlying22 hi hz0 hz1 hz2 rfl (.slice (some ⟨w.heap.size, 0, none⟩) 0 0) 0 [] rfl OE.out (some ad) n c zs rfl HZ.out HA.out (fun h => by cases h) (by unfold maxLen; omega) (by omega) (by simp) ?_)
    intro r1 d1 w1 ho1 hg1
    have HB : Hid (Below w.heap.size w w1) := ((Below.refl _ _).alloc (Nat.le_refl _) _).grown hg1 (by simp) (fun j hj => by simp [Value.ownBlock] at hj; omega)
    have HO : Hid (w1.ownsRow w.heap.size 3 1 (.slice r1 n d1) n (zs.map (.int .i64))) := Hid.mk (by simpa using ho1)
    clear ho1 hg1
    go_wp2
    go_ret
    exact ⟨r1, d1, by first | rfl | simp, HO.out, HB.out⟩

end Go.Proofs.Ytmbjmmnodcebbaa
