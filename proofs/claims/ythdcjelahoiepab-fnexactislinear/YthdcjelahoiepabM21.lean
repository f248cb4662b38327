/- Several texts of one proof, in build order: LawIsLinear, Open, OpenP, OpenW. -/
import Derived.Test.YthdcjelahoiepabM19
import Derived.Test.YthdcjelahoiepabM20
import Derived.Test.YthdcjelahoiepabM0
import Derived.ProofKit
import Derived.OpenShut
import Derived.ShutString
import Derived.ChangeOld
import Derived.Lib.SmallJoins
import Derived.Test.YthdcjelahoiepabM1
import Derived.Test.YthdcjelahoiepabM7

/- The law FnExactIsLinear returns true at every input, and writes nothing that was there. -/
namespace Go.Proofs.Ythdcjelahoiepab
open Go.RowKit

set_option maxRecDepth 100000 in
set_option maxHeartbeats 16000000 in
theorem lawIsLinear (sa0 : Option Addr) (sn0 sc0 : Nat) (pa0 : Option Addr) (pn0 pc0 : Nat) (ss0 : List Int) (xs0 : List PartD) (w : World) (hs0 : ss0.length = sn0) (hsn0 : sn0 ≤ 9223372036854775807) (hz0 : xs0.length = pn0) (hn0 : pn0 ≤ 9223372036854775807) (hat0 : At w sa0 ss0) (ha0 : AtSl RPart w pa0 xs0) :
    Calls Try.prog 3 #[.agg #[.slice sa0 sn0 sc0, .slice pa0 pn0 pc0]] w fun e w' => e = .returned (.bool true) ∧ Below w.heap.size w w' := by
  obtain ⟨W, hW⟩ : ∃ W, W = (w.alloc (.cells #[.slice sa0 sn0 sc0, .slice pa0 pn0 pc0] 25)) := ⟨_, rfl⟩
  have B0 : Below w.heap.size w W := by rw [hW]; exact (Below.refl _ _).alloc (Nat.le_refl _) _
  have zW : w.heap.size < W.heap.size := by rw [hW]; simp
  have p00_0 : W.cell? ⟨w.heap.size, 0, none⟩ = some (.slice sa0 sn0 sc0) := by rw [hW]; simp
  have p01_0 : W.cell? ⟨w.heap.size, 1, none⟩ = some (.slice pa0 pn0 pc0) := by rw [hW]; simp
  have HA0 := Hid.mk (And.intro hat0 ha0)
  clear hat0 ha0
  by_cases big0 : (1048576 : Int) < (vcost (ss0, xs0) : Nat)
  · go_enter Try.func3, Try.ntmps3
    go_wp2_with fail
    rw [← hW]
    clear hW
    refine (szView_any sa0 sn0 sc0 pa0 pn0 pc0 ss0 xs0 _ _ hs0 hsn0 hz0 hn0 (by omega) (by omega) (HA0.out.2.below B0)).mono ?_
    rintro e v0 ⟨rfl, hv0⟩
    rw [leftOf_no big0]
    have y0 := B0.trans (hv0.mono B0.size)
    go_wp2
    go_ret
    exact ⟨rfl, y0⟩
  have HSM0 : Hid (SmView (ss0, xs0)) := by show vcost _ ≤ _; omega
  have hl0 : ¬ (1048576 : Int) - (vcost (ss0, xs0) : Nat) < 0 := by omega
  have hge0 : ¬ (1048576 : Int) < (vcost (ss0, xs0) : Nat) := big0
  clear big0
  have HSZ0 := HSM0.out.size.2
  obtain ⟨C0, hC0⟩ : ∃ C : Nat, vcost (ss0, xs0) = C := ⟨_, rfl⟩
  rw [hC0] at hl0 hge0
  have HC0 := Hid.mk hC0
  clear hC0
  obtain ⟨V0, hV0⟩ : ∃ C : Nat, vsize (ss0, xs0) = C := ⟨_, rfl⟩
  rw [hV0] at HSZ0
  have HV0 := Hid.mk hV0
  clear hV0
  obtain ⟨b1, b2, HS, HI⟩ : ∃ (b1 b2 : Bool), Hid (∀ (x1 x2 : Nat) (w : World) (F : Nat → Prop), RView.Own w F [.slice (some ⟨x1, 0, none⟩) sn0 sn0, .slice (some ⟨x2, 0, none⟩) pn0 pn0] (ss0, xs0) → Calls Try.prog 6 #[.agg #[.slice (some ⟨x1, 0, none⟩) sn0 sn0, .slice (some ⟨x2, 0, none⟩) pn0 pn0]] w fun e w' => e = .returned (.tuple #[.bool b1, .bool b2]) ∧ Below w.heap.size w w') ∧ Hid (∀ (x1 x2 : Nat) (w : World) (F : Nat → Prop), RView.Own w F [.slice (some ⟨x1, 0, none⟩) sn0 sn0, .slice (some ⟨x2, 0, none⟩) pn0 pn0] (ss0, xs0) → Calls Try.prog 8 #[.agg #[.slice (some ⟨x1, 0, none⟩) sn0 sn0, .slice (some ⟨x2, 0, none⟩) pn0 pn0]] w fun e w' => e = .returned (.tuple #[.bool b1, .bool b2]) ∧ Below w.heap.size w w') := ⟨linB (ss0, xs0), ckB (ss0, xs0), fun x1 x2 w F o => specIsLinear (some ⟨x1, 0, none⟩) sn0 sn0 (some ⟨x2, 0, none⟩) pn0 pn0 ss0 xs0 w hs0 hz0 HSM0.out (view_at o).1 (view_at o).2, fun x1 x2 w F o => implIsLinear (some ⟨x1, 0, none⟩) sn0 sn0 (some ⟨x2, 0, none⟩) pn0 pn0 ss0 xs0 w hs0 hz0 HSM0.out (view_at o).1 (view_at o).2⟩
  go_enter Try.func3, Try.ntmps3
  go_wp2_with fail
  rw [← hW]
  clear hW
  refine (szView_any sa0 sn0 sc0 pa0 pn0 pc0 ss0 xs0 _ _ hs0 hsn0 hz0 hn0 (by omega) (by omega) (HA0.out.2.below B0)).mono ?_
  rintro e w1 ⟨rfl, hb1⟩
  rw [HC0.out, leftOf_yes (by omega)]
  have p00_1 := cell_later hb1 p00_0
  have p01_1 := cell_later hb1 p01_0
  have B_1 := B0.trans (hb1.mono B0.size)
  have zz1 : W.heap.size ≤ w1.heap.size := hb1.size
  clear p00_0 p01_0
  clear hb1
  go_wp2_with fail
  refine (toView_any sa0 sn0 sc0 pa0 pn0 pc0 ss0 xs0 _ hs0 hz0 HSM0.out (HA0.out.1.below B_1) (HA0.out.2.below B_1)).mono ?_
  rintro e w2 ⟨g2_1, g2_2, rfl, ho2, hb2⟩
  have ot_2 := Hid.mk ho2
  clear ho2
  have p00_2 := cell_later hb2 p00_1
  have p01_2 := cell_later hb2 p01_1
  have B_2 := B_1.trans (hb2.mono B_1.size)
  have zz2 : w1.heap.size ≤ w2.heap.size := hb2.size
  clear p00_1 p01_1 B_1
  clear hb2
  go_wp2_with fail
  refine (HS.out _ _ _ _ ot_2.out).mono ?_
  rintro e w3 ⟨rfl, hb3⟩
  clear ot_2
  have p00_3 := cell_later hb3 p00_2
  have p01_3 := cell_later hb3 p01_2
  have B_3 := B_2.trans (hb3.mono B_2.size)
  have zz3 : w2.heap.size ≤ w3.heap.size := hb3.size
  clear p00_2 p01_2 B_2
  clear hb3
  go_wp2_with fail
  refine (toView_any sa0 sn0 sc0 pa0 pn0 pc0 ss0 xs0 _ hs0 hz0 HSM0.out (HA0.out.1.below B_3) (HA0.out.2.below B_3)).mono ?_
  rintro e w4 ⟨g4_1, g4_2, rfl, ho4, hb4⟩
  have ox_4 := Hid.mk ho4
  clear ho4
  have p00_4 := cell_later hb4 p00_3
  have p01_4 := cell_later hb4 p01_3
  have B_4 := B_3.trans (hb4.mono B_3.size)
  have zz4 : w3.heap.size ≤ w4.heap.size := hb4.size
  clear p00_3 p01_3 B_3
  clear hb4
  obtain ⟨w5, hU5⟩ : ∃ u, u = w4.alloc (.cells #[.slice (some ⟨g4_1, 0, none⟩) sn0 sn0, .slice (some ⟨g4_2, 0, none⟩) pn0 pn0] 31) := ⟨_, rfl⟩
  have hb5 : Below w4.heap.size w4 w5 := by rw [hU5]; exact (Below.refl _ _).alloc (Nat.le_refl _) _
  have zl5 : w4.heap.size < w5.heap.size := by rw [hU5]; simp
  have nx0 : w5.cell? ⟨w4.heap.size, 0, none⟩ = some (.slice (some ⟨g4_1, 0, none⟩) sn0 sn0) := by rw [hU5]; simp
  have nx1 : w5.cell? ⟨w4.heap.size, 1, none⟩ = some (.slice (some ⟨g4_2, 0, none⟩) pn0 pn0) := by rw [hU5]; simp
  have p00_5 := cell_later hb5 p00_4
  have p01_5 := cell_later hb5 p01_4
  have ox_5 := Hid.mk (RView.ownBelow ox_4.out hb5)
  have B_5 := B_4.trans (hb5.mono B_4.size)
  have zz5 : w4.heap.size ≤ w5.heap.size := hb5.size
  clear p00_4 p01_4 ox_4 B_4
  clear hb5
  go_wp2_with fail
  rw [← hU5]
  clear hU5
  refine (HI.out _ _ _ _ ox_5.out).mono ?_
  rintro e w6 ⟨rfl, hb6⟩
  have p00_6 := cell_later hb6 p00_5
  have p01_6 := cell_later hb6 p01_5
  have x0_6 := cell_later hb6 nx0
  have x1_6 := cell_later hb6 nx1
  have ox_6 := Hid.mk (RView.ownBelow ox_5.out hb6)
  have B_6 := B_5.trans (hb6.mono B_5.size)
  have zz6 : w5.heap.size ≤ w6.heap.size := hb6.size
  clear p00_5 p01_5 nx0 nx1 ox_5 B_5
  clear hb6
  go_wp2_with fail
  refine wp_region_held_drew (S := fun w' => w'.cell? ⟨w4.heap.size, 0, none⟩ = some (.slice (some ⟨g4_1, 0, none⟩) sn0 sn0) ∧ w'.cell? ⟨w4.heap.size, 1, none⟩ = some (.slice (some ⟨g4_2, 0, none⟩) pn0 pn0) ∧ w'.cell? ⟨w.heap.size, 0, none⟩ = some (.slice sa0 sn0 sc0) ∧ w'.cell? ⟨w.heap.size, 1, none⟩ = some (.slice pa0 pn0 pc0)) (by kernel_rfl) ?_ (fun hHeld => ?_)
  · (try dsimp only)
    exact ⟨x0_6, x1_6, p00_6, p01_6⟩
  refine wpAnyH_take (i := 0) (oi := ?_) (v := ?_) ?_ (by kernel_rfl) (by kernel_rfl) (by kernel_rfl) ?_ (Or.inl ⟨?_, ?_⟩) (by assumption) ?_
  rotate_left 2
  · (simp only [List.getElem?_toArray, List.getElem?_cons_zero]; rfl)
  · exact fun _ _ _ h => h
  · rfl
  · (intro wS hSw; (try dsimp only at hSw); go_simp; (try with_reducible rfl))
  (try simp only [Act.put, List.setIfInBounds_toArray, List.set_cons_zero, List.set_cons_succ])
  refine wpAnyH_take (i := 1) (oi := ?_) (v := ?_) ?_ (by kernel_rfl) (by kernel_rfl) (by kernel_rfl) ?_ (Or.inl ⟨?_, ?_⟩) (by assumption) ?_
  rotate_left 2
  · (simp only [List.getElem?_toArray, List.getElem?_cons_zero, List.getElem?_cons_succ]; rfl)
  · exact fun _ _ _ h => h
  · rfl
  · (intro wS hSw; (try dsimp only at hSw); go_simp; (try with_reducible rfl))
  (try simp only [Act.put, List.setIfInBounds_toArray, List.set_cons_zero, List.set_cons_succ])
  refine wpAnyH_ready (rs := [2]) (by kernel_rfl) (by simp) ?_
  refine AllReadyH.cons (o := ?_) ?_ (fun K hK => ?_) AllReadyH.nil
  rotate_left
  · (simp only [List.getElem?_toArray, List.getElem?_cons_zero, List.getElem?_cons_succ]; rfl)
  go_simp
  go_at_call 7
  refine (toView_any sa0 sn0 sc0 pa0 pn0 pc0 ss0 xs0 _ hs0 hz0 HSM0.out (HA0.out.1.below B_6.drew) (HA0.out.2.below B_6.drew)).mono ?_
  rintro e w7 ⟨g7_1, g7_2, rfl, ho7, hd7⟩
  have hb7 : Below w6.heap.size w6 w7 := (Below.refl _ _).drew.trans hd7
  clear hd7
  have oy_7 := Hid.mk ho7
  clear ho7
  have p00_7 := cell_later hb7 p00_6
  have p01_7 := cell_later hb7 p01_6
  have x0_7 := cell_later hb7 x0_6
  have x1_7 := cell_later hb7 x1_6
  have ox_7 := Hid.mk (RView.ownBelow ox_6.out hb7)
  have B_7 := B_6.trans (hb7.mono B_6.size)
  have zz7 : w6.heap.size ≤ w7.heap.size := hb7.size
  clear p00_6 p01_6 x0_6 x1_6 ox_6 B_6
  clear hb7
  (try go_wp2_with fail)
  refine hK.out _ _ ?_ (fun hHeld' => ?_)
  · (try dsimp only)
    exact ⟨x0_7, x1_7, p00_7, p01_7⟩
  clear hK K hHeld
  have hHeld := hHeld'
  clear hHeld'
  (try simp only [Act.put, List.setIfInBounds_toArray, List.set_cons_zero, List.set_cons_succ])
  refine wpAnyH_ready (rs := [3]) (by kernel_rfl) (by simp) ?_
  refine AllReadyH.cons (o := ?_) ?_ (fun K hK => ?_) AllReadyH.nil
  rotate_left
  · (simp only [List.getElem?_toArray, List.getElem?_cons_zero, List.getElem?_cons_succ]; rfl)
  go_simp
  go_at_call 9
  refine (eqView_same _ _ _ _ _ _ _ _ _ _ ss0 xs0 _ hs0 hz0 HSM0.out (view_at ox_7.out).1 (view_at ox_7.out).2 (view_at oy_7.out).1 (view_at oy_7.out).2).mono ?_
  rintro e w8 ⟨rfl, hb8⟩
  clear oy_7
  have p00_8 := cell_later hb8 p00_7
  have p01_8 := cell_later hb8 p01_7
  have x0_8 := cell_later hb8 x0_7
  have x1_8 := cell_later hb8 x1_7
  have ox_8 := Hid.mk (RView.ownBelow ox_7.out hb8)
  have B_8 := B_7.trans (hb8.mono B_7.size)
  have zz8 : w7.heap.size ≤ w8.heap.size := hb8.size
  clear p00_7 p01_7 x0_7 x1_7 ox_7 B_7
  clear hb8
  (try go_wp2_with fail)
  refine hK.out _ _ ?_ (fun hHeld' => ?_)
  · (try dsimp only)
    exact ⟨x0_8, x1_8, p00_8, p01_8⟩
  clear hK K hHeld
  have hHeld := hHeld'
  clear hHeld'
  (try simp only [Act.put, List.setIfInBounds_toArray, List.set_cons_zero, List.set_cons_succ])
  refine wpAnyH_take (i := 4) (oi := ?_) (v := ?_) ?_ (by kernel_rfl) (by kernel_rfl) (by kernel_rfl) ?_ (Or.inl ⟨?_, ?_⟩) (by assumption) ?_
  rotate_left 2
  · (simp only [List.getElem?_toArray, List.getElem?_cons_zero, List.getElem?_cons_succ]; rfl)
  · exact fun _ _ _ h => h
  · rfl
  · (intro wS hSw; (try dsimp only at hSw); go_simp; (try with_reducible rfl))
  (try simp only [Act.put, List.setIfInBounds_toArray, List.set_cons_zero, List.set_cons_succ])
  refine wpAnyH_done (by kernel_rfl) ?_ _
  clear hHeld
  go_wp2
  go_ret
  exact ⟨rfl, B_8⟩

end Go.Proofs.Ythdcjelahoiepab

/- Opening the laws' arguments: rows, slices of ints; plain facts on readings. -/
namespace Go.Proofs.Ythdcjelahoiepab
open Go.ChangeShapes Go.WideShapes Go.ChangeAt Go.RowKit Go.Joins Go.Deep

section
variable {H : Type} {enc : TypeId × Value → H} {P : Program} {w : World} {base : Nat} {spare : Nat → Bool} {held : Bool}

theorem array1 {α : Type} {cs : Array α} (h : cs.size = 1) : ∃ c0, cs = #[c0] := by
  obtain ⟨l⟩ := cs
  match l, h with
  | [c0], _ => exact ⟨c0, rfl⟩

theorem open_agg1 {r : Reach} {b0 : Nat} {t : TypeId} {f0 : Field} {v : Value} {d : DataW H} {p : List MemPlace} (hs : P.underlying t = some (.struct #[f0])) (hone : oneCellFields P #[f0] = true) (hC : P.cellsOf t = 1)
    (hv : Value.okWide P w r b0 t v) (h : DataW.Trod enc P w base spare held t v d p) :
    ∃ (v0 : Value) (y0 : DataW H × List MemPlace) (n : Nat), v = .agg #[v0] ∧ d = .agg [y0.1] ∧ p = y0.2 ∧ DataW.trod enc P w base spare held n f0.type [v0] = some y0 := by
  obtain ⟨cs, rfl, hsz⟩ := okWide_struct hs hv
  obtain ⟨c0, rfl⟩ := array1 (hsz.trans hC)
  obtain ⟨fuel, hf⟩ := h
  obtain ⟨y0, n, hx, _, h0⟩ := trod_struct1 hs hf
  obtain ⟨o0, k0⟩ := hone_of hone 0 f0 rfl
  simp only [Prod.mk.injEq] at hx
  exact ⟨c0, y0, n, rfl, hx.1, hx.2, by simpa [Value.cells, o0, k0] using h0⟩

/-- A slice of ints that reads: its numbers. -/
theorem open_at {t e : TypeId} {fuel n c : Nat} {a : Option Addr} {x : DataW H × List MemPlace} (ht : P.underlying t = some (.slice e)) (he : P.underlying e = some (.int .i64)) (hC : P.cellsOf e = 1)
    (h : DataW.trod enc P w base spare held fuel t [.slice a n c] = some x) : ∃ zs : List Int, zs.length = n ∧ n ≤ 9223372036854775807 ∧ At w a zs := by
  rcases open_ints ht he hC h with ⟨hcs, _⟩ | ⟨ad, l, c', zs, hcs, _, hl, hm, hz, _, hcell, _⟩
  · simp at hcs
    obtain ⟨rfl, rfl, rfl⟩ := hcs
    exact ⟨[], rfl, by omega, At.nil _ _⟩
  · simp at hcs
    obtain ⟨rfl, rfl, rfl⟩ := hcs
    unfold maxLen at hm
    have hz' : n ≤ zs.length := by split at hz <;> omega
    refine ⟨zs.take n, by simp; omega, by omega, ?_⟩
    by_cases h0 : n = 0
    · left; simp [h0]
    · right
      obtain ⟨b, off, spot⟩ := ad
      have hc := hcell 0 (by omega)
      have hspot : spot = none := by simpa [Addr.add] using World.cell?_spot hc
      subst hspot
      refine ⟨b, off, rfl, fun i hi => ?_⟩
      have hin : i < n := by simp at hi; omega
      have := hcell i (by omega)
      rw [show (zs.take n).getD i 0 = zs.getD i 0 by simp [List.getD, hin]]
      rw [Addr.add_lit] at this
      exact this

/-- A struct of one slice of ints, by value. -/
theorem open_row {r : Reach} {b0 : Nat} {t ts e : TypeId} {f0 : Field} {v : Value} {d : DataW H} {p : List MemPlace} (hs : P.underlying t = some (.struct #[f0])) (hf0 : f0.type = ts) (hone : oneCellFields P #[f0] = true) (hC : P.cellsOf t = 1)
    (ht : P.underlying ts = some (.slice e)) (he : P.underlying e = some (.int .i64)) (hCe : P.cellsOf e = 1)
    (hv : Value.okWide P w r b0 t v) (h : DataW.Trod enc P w base spare held t v d p) : ∃ a n c, v = .agg #[.slice a n c] ∧ ∃ zs : List Int, zs.length = n ∧ n ≤ 9223372036854775807 ∧ At w a zs := by
  obtain ⟨v0, y0, m, rfl, _, _, h0⟩ := open_agg1 hs hone hC hv h
  subst hf0
  obtain ⟨a, n, c, hcs⟩ := slice_form ht h0
  obtain rfl : v0 = .slice a n c := by simpa using hcs
  exact ⟨a, n, c, rfl, open_at ht he hCe h0⟩
end

end Go.Proofs.Ythdcjelahoiepab

/- Opening things in memory among the laws' arguments, by their shape. -/
namespace Go.Proofs.Ythdcjelahoiepab
open Go.ChangeShapes Go.WideShapes Go.ChangeAt Go.RowKit Go.Joins Go.Deep

section
variable {H : Type} (enc : TypeId × Value → H) (P : Program) (w : World) (base : Nat) (held : Bool)
/-- Whatever reads as a value of type t is such a thing. -/
def Opens {α : Type} (t : TypeId) (A : Rep α) : Prop := ∀ fuel cs x, DataW.trod enc P w base (fun _ => true) held fuel t cs = some x → ∃ y, A.At w cs y
variable {enc P w base held}

theorem Opens.int {t : TypeId} (ht : P.underlying t = some (.int .i64)) : Opens enc P w base held t Rep.int := fun fuel cs x h => by
  obtain ⟨z, hz, _, _⟩ := DataW.trod_int ht h
  exact ⟨z, hz⟩

theorem Opens.slice {α : Type} [Inhabited α] {A : Rep α} {t e e' : TypeId} (ht : P.underlying t = some (.slice e)) (ce : P.cellsOf e = A.k) (hA : Opens enc P w base held e A) (hk : 0 < A.k) : Opens enc P w base held t (Rep.slice e' A) := fun fuel cs x h => by
  rcases open_slice ht h with ⟨rfl, _⟩ | ⟨ad, len, cap, m, k, D, Pl, rfl, _, hl, hm, hmm, _, hx⟩
  · exact ⟨[], none, 0, 0, rfl, rfl, by omega, .inl rfl, fun _ => rfl⟩
  · simp only [if_true] at hmm
    subst hmm
    unfold maxLen at hm
    have each : ∀ i, i < len → ∃ y : α × List Value, (∀ j v, y.2[j]? = some v → w.cell? (ad.add (i * A.k + j)) = some v) ∧ A.At w y.2 y.1 ∧ y.2.length = A.k := by
      intro i hi
      obtain ⟨cs', h1, h2⟩ := hx i (by omega)
      rw [ce] at h1
      obtain ⟨_, hlen, hcell⟩ := World.cells?_some h1
      obtain ⟨y, hy⟩ := hA _ _ _ h2
      refine ⟨(y, cs'), fun j v hv => ?_, hy, by simpa using hlen⟩
      have hj := (List.getElem?_eq_some_iff.1 hv).1
      have := hcell j (by have h5 : cs'.length = A.k := hlen; have h6 : j < cs'.length := hj; omega)
      rw [add_add] at this
      rw [this]
      simpa using hv
    obtain ⟨y, hy⟩ := choose_lt each
    refine ⟨(List.range len).map fun i => (y i).1, some ad, len, _, rfl, by simp, by omega, ?_, fun h => by cases h⟩
    by_cases h0 : len = 0
    · left; simp [h0]
    · right
      obtain ⟨b, off, spot⟩ := ad
      obtain ⟨e1, _, e3⟩ := hy 0 (by omega)
      obtain ⟨v0, hv0⟩ : ∃ v0, (y 0).2[0]? = some v0 := ⟨_, List.getElem?_eq_getElem (by omega)⟩
      have hc0 := e1 0 v0 hv0
      have hspot : spot = none := by simpa [Addr.add] using World.cell?_spot hc0
      subst hspot
      refine ⟨b, off, rfl, fun i x hx' => ?_⟩
      have hi : i < len := by have := (List.getElem?_eq_some_iff.1 hx').1; simpa using this
      obtain ⟨k1, k2, _⟩ := hy i hi
      have hxe : (y i).1 = x := by simpa [hi] using hx'
      refine ⟨(y i).2, fun j v hv => ?_, hxe ▸ k2⟩
      have := k1 j v hv
      rw [Addr.add_lit] at this
      rw [Nat.add_assoc]; exact this

theorem take_one {cs : List Value} {v : Value} (i : Nat) (h : cs[i]? = some v) : (cs.drop i).take 1 = [v] := by
  obtain ⟨hi, rfl⟩ := List.getElem?_eq_some_iff.1 h
  rw [List.drop_eq_getElem_cons hi]; rfl

theorem Opens.struct2 {α β : Type} {A : Rep α} {B : Rep β} {t : TypeId} {f0 f1 : Field} (ht : P.underlying t = some (.struct #[f0, f1])) (hC : P.cellsOf t = 2) (o0 : f0.offset = 0) (o1 : f1.offset = 1)
    (c0 : P.cellsOf f0.type = 1) (c1 : P.cellsOf f1.type = 1) (h0 : Opens enc P w base held f0.type A) (h1 : Opens enc P w base held f1.type B) : Opens enc P w base held t (Rep.pair A B) := fun fuel cs x h => by
  obtain ⟨xs, n, _, rfl, hl, hlen, hf⟩ := DataW.trod_struct ht h
  match xs, hlen, cs, hl.trans hC with
  | [y0, y1], _, [v0, v1], _ =>
    have g0 := hf 0 f0 rfl
    have g1 := hf 1 f1 rfl
    simp [o0, o1, c0, c1] at g0 g1
    obtain ⟨x0, q0⟩ := h0 _ _ _ g0
    obtain ⟨x1, q1⟩ := h1 _ _ _ g1
    exact ⟨(x0, x1), [v0], [v1], rfl, q0, q1⟩

theorem Opens.struct3 {α β γ : Type} {A : Rep α} {B : Rep β} {C : Rep γ} {t : TypeId} {f0 f1 f2 : Field} (ht : P.underlying t = some (.struct #[f0, f1, f2])) (hC : P.cellsOf t = 3) (o0 : f0.offset = 0) (o1 : f1.offset = 1) (o2 : f2.offset = 2)
    (c0 : P.cellsOf f0.type = 1) (c1 : P.cellsOf f1.type = 1) (c2 : P.cellsOf f2.type = 1) (h0 : Opens enc P w base held f0.type A) (h1 : Opens enc P w base held f1.type B) (h2 : Opens enc P w base held f2.type C) : Opens enc P w base held t (Rep.pair A (Rep.pair B C)) := fun fuel cs x h => by
  obtain ⟨xs, n, _, rfl, hl, hlen, hf⟩ := DataW.trod_struct ht h
  match xs, hlen, cs, hl.trans hC with
  | [y0, y1, y2], _, [v0, v1, v2], _ =>
    have g0 := hf 0 f0 rfl
    have g1 := hf 1 f1 rfl
    have g2 := hf 2 f2 rfl
    simp [o0, o1, o2, c0, c1, c2] at g0 g1 g2
    obtain ⟨x0, q0⟩ := h0 _ _ _ g0
    obtain ⟨x1, q1⟩ := h1 _ _ _ g1
    obtain ⟨x2, q2⟩ := h2 _ _ _ g2
    exact ⟨(x0, x1, x2), [v0], _, rfl, q0, [v1], [v2], rfl, q1, q2⟩

theorem Opens.struct6 {α β γ δ ε ζ : Type} {A : Rep α} {B : Rep β} {C : Rep γ} {D : Rep δ} {E : Rep ε} {Z : Rep ζ} {t : TypeId} {f0 f1 f2 f3 f4 f5 : Field} (ht : P.underlying t = some (.struct #[f0, f1, f2, f3, f4, f5])) (hC : P.cellsOf t = 6)
    (o0 : f0.offset = 0) (o1 : f1.offset = 1) (o2 : f2.offset = 2) (o3 : f3.offset = 3) (o4 : f4.offset = 4) (o5 : f5.offset = 5)
    (c0 : P.cellsOf f0.type = 1) (c1 : P.cellsOf f1.type = 1) (c2 : P.cellsOf f2.type = 1) (c3 : P.cellsOf f3.type = 1) (c4 : P.cellsOf f4.type = 1) (c5 : P.cellsOf f5.type = 1)
    (h0 : Opens enc P w base held f0.type A) (h1 : Opens enc P w base held f1.type B) (h2 : Opens enc P w base held f2.type C) (h3 : Opens enc P w base held f3.type D) (h4 : Opens enc P w base held f4.type E) (h5 : Opens enc P w base held f5.type Z) :
    Opens enc P w base held t (Rep.pair A (Rep.pair B (Rep.pair C (Rep.pair D (Rep.pair E Z))))) := fun fuel cs x h => by
  obtain ⟨xs, n, _, rfl, hl, hlen, hf⟩ := DataW.trod_struct ht h
  match xs, hlen, cs, hl.trans hC with
  | [y0, y1, y2, y3, y4, y5], _, [v0, v1, v2, v3, v4, v5], _ =>
    have g0 := hf 0 f0 rfl
    have g1 := hf 1 f1 rfl
    have g2 := hf 2 f2 rfl
    have g3 := hf 3 f3 rfl
    have g4 := hf 4 f4 rfl
    have g5 := hf 5 f5 rfl
    simp [o0, o1, o2, o3, o4, o5, c0, c1, c2, c3, c4, c5] at g0 g1 g2 g3 g4 g5
    obtain ⟨x0, q0⟩ := h0 _ _ _ g0
    obtain ⟨x1, q1⟩ := h1 _ _ _ g1
    obtain ⟨x2, q2⟩ := h2 _ _ _ g2
    obtain ⟨x3, q3⟩ := h3 _ _ _ g3
    obtain ⟨x4, q4⟩ := h4 _ _ _ g4
    obtain ⟨x5, q5⟩ := h5 _ _ _ g5
    exact ⟨(x0, x1, x2, x3, x4, x5), [v0], _, rfl, q0, [v1], _, rfl, q1, [v2], _, rfl, q2, [v3], _, rfl, q3, [v4], [v5], rfl, q4, q5⟩

/-- A struct by value. -/
theorem open_struct {α : Type} {A : Rep α} {r : Reach} {b0 : Nat} {t : TypeId} {fs : Array Field} {v : Value} {d : DataW H} {p : List MemPlace} (hs : P.underlying t = some (.struct fs)) (hA : Opens enc P w base held t A) (hv : Value.okWide P w r b0 t v)
    (h : DataW.Trod enc P w base (fun _ => true) held t v d p) : ∃ cs x, v = .agg cs.toArray ∧ A.At w cs x := by
  obtain ⟨cs, rfl, _⟩ := okWide_struct hs hv
  obtain ⟨fuel, hf⟩ := h
  obtain ⟨x, hx⟩ := hA _ _ _ hf
  exact ⟨_, x, by simp [Value.cells], hx⟩
end

end Go.Proofs.Ythdcjelahoiepab

/- Opening a view among the laws' arguments. -/
namespace Go.Proofs.Ythdcjelahoiepab
open Go.ChangeShapes Go.WideShapes Go.ChangeAt Go.RowKit Go.Joins Go.Deep

set_option maxRecDepth 100000 in
theorem open_view {H : Type} {enc : TypeId × Value → H} {w : World} {base b0 : Nat} {held : Bool} {r : Reach} {v : Value} {d : DataW H} {p : List MemPlace} (hv : Value.okWide Try.prog w r b0 25 v) (h : DataW.Trod enc Try.prog w base (fun _ => true) held 25 v d p) :
    ∃ sa sn sc pa pn pc ss xs, v = .agg #[.slice sa sn sc, .slice pa pn pc] ∧ ss.length = sn ∧ sn ≤ 9223372036854775807 ∧ xs.length = pn ∧ pn ≤ 9223372036854775807 ∧ At w sa ss ∧ AtSl RPart w pa xs := by
  have oi : Opens enc Try.prog w base held 3 Rep.int := Opens.int Try.underlying3
  have ois : Opens enc Try.prog w base held 22 RInts := Opens.slice Try.underlying22 (by kernel_rfl) oi (by decide)
  have oss : Opens enc Try.prog w base held 43 RPairs := Opens.slice Try.underlying43 (by kernel_rfl) ois (by decide)
  have ot : Opens enc Try.prog w base held 104 RTest := Opens.struct3 Try.underlying104 (by kernel_rfl) rfl rfl rfl (by kernel_rfl) (by kernel_rfl) (by kernel_rfl) oi oi oi
  have ots : Opens enc Try.prog w base held 62 RTests := Opens.slice Try.underlying62 (by kernel_rfl) ot (by decide)
  have op : Opens enc Try.prog w base held 64 RPart := Opens.struct6 Try.underlying64 (by kernel_rfl) rfl rfl rfl rfl rfl rfl (by kernel_rfl) (by kernel_rfl) (by kernel_rfl) (by kernel_rfl) (by kernel_rfl) (by kernel_rfl) oi oi oi ots ois oss
  have ops : Opens enc Try.prog w base held 23 RParts := Opens.slice Try.underlying23 (by kernel_rfl) op (by decide)
  have ov : Opens enc Try.prog w base held 25 RView := Opens.struct2 Try.underlying25 (by kernel_rfl) rfl rfl (by kernel_rfl) (by kernel_rfl) ois ops
  obtain ⟨cs, ⟨ss, xs⟩, rfl, c1, c2, rfl, ⟨sa, sn, sc, rfl, h1, h2, h3, _⟩, ⟨pa, pn, pc, rfl, g1, g2, g3, _⟩⟩ := open_struct Try.underlying25 ov hv h
  exact ⟨sa, sn, sc, pa, pn, pc, ss, xs, rfl, h1, h2, g1, g2, atSl_int.1 h3, g3⟩

end Go.Proofs.Ythdcjelahoiepab
