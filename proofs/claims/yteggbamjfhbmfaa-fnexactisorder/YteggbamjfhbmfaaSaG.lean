/- Statistics (Sizes, Factors) as things in memory. -/
import Derived.Test.YteggbamjfhbmfaaPairM
namespace Go.Proofs.Yteggbamjfhbmfaa
open Go.RowKit

/-- Statistics: Sizes, Factors. -/
abbrev Sta := List Int × List (List Int)
abbrev RSta : Rep Sta := Rep.pair RInts RPairs
theorem szPairs_nat (a : Option Addr) (n c : Nat) (zss : List (List Int)) (l : Int) (w : World) (hz : zss.length = n) (hn : n ≤ 9223372036854775807) (h0 : 0 ≤ l) (h1 : l ≤ 1048576) (ha : AtS w a zss) :
    Calls Try.prog 51 #[.slice a n c, .int .i64 l] w fun e w' => e = .returned (.int .i64 (leftOf l (n + tot zss n : Nat))) ∧ Below w.heap.size w w' :=
  (szIntSS_at a n c zss l w hz hn h0 h1 ha).mono fun _ _ ⟨h1, h2⟩ => ⟨by rw [h1]; push_cast; rfl, h2⟩
/-- Factors within the laws' bound. -/
def SmF (zss : List (List Int)) (n : Nat) : Prop := zss.length = n ∧ n + tot zss n ≤ 1048576
theorem SmF.n {zss : List (List Int)} {n : Nat} (h : SmF zss n) : n ≤ 1048576 := by have := h.2; omega
theorem SmF.sum {zss : List (List Int)} {n : Nat} (h : SmF zss n) : tot zss n ≤ 1048576 := by have := h.2; omega
theorem SmF.each {zss : List (List Int)} {n : Nat} (h : SmF zss n) : ∀ i, i < zss.length → (zss.getD i []).length ≤ 1048576 := fun i hi => by
  have h1 := tot_succ zss i hi
  have h2 := tot_mono zss (i + 1) n (by have := h.1; omega)
  have := h.sum
  omega
/-- What a statistics by value is. -/
theorem RSta.at_iff {w : World} {ha : Option Addr} {hn hc : Nat} {a : Option Addr} {n c : Nat} {x : Sta} (h : RSta.At w [.slice ha hn hc, .slice a n c] x) :
    (x.1.length = hn ∧ hn ≤ 9223372036854775807 ∧ At w ha x.1 ∧ (ha = none → hc = 0)) ∧ (x.2.length = n ∧ n ≤ 9223372036854775807 ∧ AtS w a x.2 ∧ (a = none → c = 0)) := by
  obtain ⟨c1, c2, e, ⟨fa', fn', fc', rfl, t1, t2, t3, t4⟩, ⟨ta', tn', tc', rfl, u1, u2, u3, u4⟩⟩ := h
  simp only [List.cons_append, List.nil_append, List.cons.injEq, Value.slice.injEq, and_true] at e
  obtain ⟨⟨rfl, rfl, rfl⟩, rfl, rfl, rfl⟩ := e
  exact ⟨⟨t1, t2, atSl_int.1 t3, t4⟩, ⟨u1, u2, atSl_ints u3, u4⟩⟩
theorem RSta.at_open {w : World} {cs : List Value} {x : Sta} (h : RSta.At w cs x) : ∃ ha hn hc a n c, cs = [.slice ha hn hc, .slice a n c] := by
  obtain ⟨c1, c2, rfl, ⟨fa', fn', fc', rfl, _⟩, ⟨ta', tn', tc', rfl, _⟩⟩ := h
  exact ⟨_, _, _, _, _, _, rfl⟩
theorem RSta.own_mk {w : World} {F F1 F2 : Nat → Prop} {hs : List Int} {fcs : List (List Int)} {fa : Option Addr} {fn fc : Nat} {ta : Option Addr} {tn tc : Nat}
    (h1 : RInts.Own w F1 [.slice fa fn fc] hs) (h2 : RPairs.Own w F2 [.slice ta tn tc] fcs) (f1 : ∀ b, F1 b → F b) (f2 : ∀ b, F2 b → F b) (d12 : ∀ b, F1 b → ¬ F2 b) : RSta.Own w F [.slice fa fn fc, .slice ta tn tc] (hs, fcs) :=
  ⟨[_], [_], F1, F2, rfl, h1, h2, f1, f2, d12⟩
theorem RSta.own_open {w : World} {F : Nat → Prop} {fa : Option Addr} {fn fc : Nat} {ta : Option Addr} {tn tc : Nat} {x : Sta} (h : RSta.Own w F [.slice fa fn fc, .slice ta tn tc] x) : ∃ F1 F2,
    RInts.Own w F1 [.slice fa fn fc] x.1 ∧ RPairs.Own w F2 [.slice ta tn tc] x.2 ∧ (∀ b, F1 b → F b) ∧ (∀ b, F2 b → F b) ∧ (∀ b, F1 b → ¬ F2 b) := by
  obtain ⟨c1, d1, F1, F2, e, h1, h2, a1, a2, a3⟩ := h
  obtain ⟨ta', tn', tc', tcells, tG, rfl, tl⟩ := h1
  obtain ⟨ca, cn, cc, ccells, cG, rfl, cl⟩ := h2
  simp only [List.cons_append, List.nil_append, List.cons.injEq, Value.slice.injEq, and_true] at e
  obtain ⟨⟨rfl, rfl, rfl⟩, rfl, rfl, rfl⟩ := e
  exact ⟨F1, F2, ⟨_, _, _, tcells, tG, rfl, tl⟩, ⟨_, _, _, ccells, cG, rfl, cl⟩, a1, a2, a3⟩
theorem sta_at {w : World} {F : Nat → Prop} {fa : Option Addr} {fn fc : Nat} {ta : Option Addr} {tn tc : Nat} {x : Sta} (h : RSta.Own w F [.slice fa fn fc, .slice ta tn tc] x) : At w fa x.1 ∧ AtS w ta x.2 :=
  ⟨(RSta.at_iff (RSta.toAt h)).1.2.2.1, (RSta.at_iff (RSta.toAt h)).2.2.2.1⟩

end Go.Proofs.Yteggbamjfhbmfaa
