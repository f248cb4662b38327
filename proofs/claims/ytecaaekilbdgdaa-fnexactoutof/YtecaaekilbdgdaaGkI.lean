/- Where a part of a list lies; impl.isUpTo, storedUpto. -/
import Derived.Test.YtecaaekilbdgdaaGkP
import Derived.BigQuiet
import Derived.Deep.Cut
namespace Go.Proofs.Ytecaaekilbdgdaa
open Go.RowKit

/-- The address of a slice that begins u places further on (Go keeps the old one where nothing is left behind it). -/
def shA (a : Option Addr) (c u : Nat) : Option Addr := if c = u then a else a.map (·.add u)
theorem at_seg {w : World} {a : Option Addr} {src : List Int} {n c u v : Nat} (hz : src.length = n) (hnc : n ≤ c) (hu : u ≤ v) (hv : v ≤ n) (h : At w a src) : At w (shA a c u) (seg src (u : Int) (v : Int)) := by
  have hl : (seg src (u : Int) (v : Int)).length = v - u := by rw [seg_len (by omega) (by omega) (by omega)]; omega
  by_cases h0 : v - u = 0
  · exact .inl (List.length_eq_zero_iff.1 (by omega))
  · rcases h with rfl | ⟨b, off, rfl, hc⟩
    · exact .inl (by simp [seg])
    · refine .inr ⟨b, off + u, ?_, fun i hi => ?_⟩
      · unfold shA; rw [if_neg (by omega)]; simp [Addr.add]
      · rw [hl] at hi
        rw [Nat.add_assoc, hc (u + i) (by omega)]
        have e : (seg src (u : Int) (v : Int)).getD i 0 = src.getD (u + i) 0 := by
          unfold seg
          simp only [List.getD, Int.toNat_natCast]
          rw [List.getElem?_take_of_lt (by omega), List.getElem?_drop]
        rw [e]
theorem at_pre {w : World} {a : Option Addr} {src : List Int} {n v : Nat} (hz : src.length = n) (hv : v ≤ n) (h : At w a src) : At w a (seg src 0 (v : Int)) := by
  have hl : (seg src 0 (v : Int)).length = v := by rw [seg_len (by omega) (by omega) (by omega)]; omega
  rcases h with rfl | ⟨b, off, rfl, hc⟩
  · exact .inl (by simp [seg])
  · refine .inr ⟨b, off, rfl, fun i hi => ?_⟩
    rw [hl] at hi
    rw [hc i (by omega)]
    have e : (seg src 0 (v : Int)).getD i 0 = src.getD i 0 := by
      unfold seg
      simp only [List.getD, Int.sub_zero, Int.toNat_natCast, Int.toNat_zero, List.drop_zero]
      rw [List.getElem?_take_of_lt (by omega)]
    rw [e]

theorem isUpTo_any (x m : Int) (w : World) :
    Calls Try.prog 36 #[.int .i64 x, .int .i64 m] w fun e w' => e = .returned (.bool (decide (0 ≤ x) && decide (x ≤ m))) ∧ w' = w := by
  by_cases h : 0 ≤ x
  · rw [decide_eq_true h]
    go_enter Try.func36, Try.ntmps36
    go_wp2
    go_ret
    exact ⟨ret_bool (by simp), rfl⟩
  · rw [decide_eq_false h]
    have h' : x < 0 := by omega
    clear h
    go_enter Try.func36, Try.ntmps36
    go_wp2
    go_ret
    exact ⟨ret_bool (by simp <;> omega), rfl⟩

theorem storedUpto_any (a0 : Option Addr) (n0 c0 : Nat) (t : Int) (a2 : Option Addr) (n2 c2 : Nat) (a3 : Option Addr) (n3 c3 : Nat) (a4 : Option Addr) (n4 c4 : Nat) (la up : Int) (ps : List TPrepared) (w : World) (h3 : ps.length = n3) (hb3 : n3 ≤ 9223372036854775807) (ha : AtSl RPrepared w a3 ps) :
    Calls Try.prog 39 #[.agg #[.slice a0 n0 c0, .int .i64 t, .slice a2 n2 c2, .slice a3 n3 c3, .slice a4 n4 c4, .int .i64 la, .int .i64 up]] w fun e w' => e = .returned (.int .i64 (upF up ps)) ∧ Below w.heap.size w w' := by
  obtain ⟨W, hW⟩ : ∃ W, W = w.alloc (.cells #[.slice a0 n0 c0, .int .i64 t, .slice a2 n2 c2, .slice a3 n3 c3, .slice a4 n4 c4, .int .i64 la, .int .i64 up] 25) := ⟨_, rfl⟩
  have B0 : Below w.heap.size w W := by rw [hW]; exact (Below.refl _ _).alloc (Nat.le_refl _) _
  have p3 : W.cell? ⟨w.heap.size, 3, none⟩ = some (.slice a3 n3 c3) := by rw [hW]; simp
  have p6 : W.cell? ⟨w.heap.size, 6, none⟩ = some (.int .i64 up) := by rw [hW]; simp
  by_cases h0 : n3 = 0
  · have hup : upF up ps = up := upF_nil (by omega)
    have hn0 : ((n3 : Int) == 0) = true := beq_iff_eq.2 (by omega)
    rw [hup]
    clear hup h0 ha h3
    go_enter Try.func39, Try.ntmps39
    go_upto_region 1 with fail
    rw [← hW]
    clear hW
    go_wp2
    go_ret
    exact ⟨rfl, B0⟩
  · obtain ⟨b, off, rfl, _, hc⟩ := RPrepared.row (AtSl.below ha B0) (by omega)
    obtain ⟨⟨x0, x1, x2⟩, hx⟩ : ∃ x, ps[n3 - 1]? = some x := ⟨_, List.getElem?_eq_getElem (by omega)⟩
    obtain ⟨d, l, e, _, g1, _, _⟩ := hc _ _ hx
    have hup : upF up ps = x1 := upF_last (n := n3 - 1) (by omega) hx
    have hn0 : ((n3 : Int) == 0) = false := beq_eq_false_iff_ne.2 (by omega)
    have hw1 : IntKind.i64.wrap ((n3 : Int) - 1) = ((n3 - 1 : Nat) : Int) := by rw [IntWalk.i64_in _ (by omega)]; omega
    have hlt : n3 - 1 < n3 := by omega
    have hlti : ((n3 - 1 : Nat) : Int) < (n3 : Int) := by omega
    simp only at g1
    rw [hup]
    clear hup h0 ha h3 hc hx
    go_enter Try.func39, Try.ntmps39
    go_upto_region 1 with fail
    rw [← hW]
    clear hW
    go_wp2
    go_ret
    exact ⟨rfl, B0⟩

end Go.Proofs.Ytecaaekilbdgdaa
