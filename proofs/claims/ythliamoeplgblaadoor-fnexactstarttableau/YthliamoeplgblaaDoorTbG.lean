/- Tableaus as things in memory, and the laws' helpers over them: szRowS, szTableau, eqRowS, eqTableau. -/
import Derived.Test.YthliamoeplgblaaDoorRowH
import Derived.Test.YthliamoeplgblaaDoorMkL
import Derived.Test.YthliamoeplgblaaDoorBlk
import Derived.Test.YthliamoeplgblaaDoorRepD
namespace Go.Proofs.YthliamoeplgblaaDoor
open Go.RowKit

abbrev RRows : Rep (List (List Int)) := Rep.slice 47 RInts
abbrev Tbl := Int × List (List Int)
abbrev RTbl : Rep Tbl := Rep.pair Rep.int RRows

theorem RTbl.at_iff {w : World} {p : Int} {a : Option Addr} {n c : Nat} {x : Tbl} (h : RTbl.At w [.int .i64 p, .slice a n c] x) : x.1 = p ∧ x.2.length = n ∧ n ≤ 9223372036854775807 ∧ AtS w a x.2 ∧ (a = none → c = 0) := by
  obtain ⟨c1, c2, e, h1, a', n', c', rfl, t1, t2, t3, t4⟩ := h
  obtain rfl : c1 = [.int .i64 x.1] := h1
  simp only [List.cons_append, List.nil_append, List.cons.injEq, Value.slice.injEq, Value.int.injEq, and_true, true_and] at e
  obtain ⟨rfl, rfl, rfl, rfl⟩ := e
  exact ⟨rfl, t1, t2, atSl_ints t3, t4⟩

theorem RTbl.own_mk {w : World} {F : Nat → Prop} {p : Int} {a : Option Addr} {n c : Nat} {zss : List (List Int)} (h : RRows.Own w F [.slice a n c] zss) : RTbl.Own w F [.int .i64 p, .slice a n c] (p, zss) :=
  ⟨[_], [_], fun _ => False, F, rfl, rfl, h, fun _ h => h.elim, fun _ h => h, fun _ h => h.elim⟩
theorem RTbl.own_open {w : World} {F : Nat → Prop} {p : Int} {a : Option Addr} {n c : Nat} {x : Tbl} (h : RTbl.Own w F [.int .i64 p, .slice a n c] x) : x.1 = p ∧ RRows.Own w F [.slice a n c] x.2 := by
  obtain ⟨c1, c2, F1, F2, e, h1, h2, _, h4, _⟩ := h
  obtain rfl : c1 = [.int .i64 x.1] := h1
  simp only [List.cons_append, List.nil_append, List.cons.injEq, Value.int.injEq, true_and] at e
  obtain ⟨rfl, rfl⟩ := e
  exact ⟨rfl, RRows.mono h2 h4⟩
theorem RRows.atS {w : World} {F : Nat → Prop} {a : Option Addr} {n c : Nat} {zss : List (List Int)} (h : RRows.Own w F [.slice a n c] zss) : zss.length = n ∧ AtS w a zss := by
  obtain ⟨a', n', c', e, t1, t2, t3, _⟩ := RRows.toAt h
  simp only [List.cons.injEq, Value.slice.injEq, and_true] at e
  obtain ⟨rfl, rfl, rfl⟩ := e
  exact ⟨t1, atSl_ints t3⟩
theorem RRows.atR {w : World} {F : Nat → Prop} {a : Option Addr} {n c : Nat} {zss : List (List Int)} (h : RRows.Own w F [.slice a n c] zss) : AtSl RInts w a zss := by
  obtain ⟨a', n', c', e, t1, t2, t3, _⟩ := RRows.toAt h
  simp only [List.cons.injEq, Value.slice.injEq, and_true] at e
  obtain ⟨rfl, rfl, rfl⟩ := e
  exact t3

/-- Rows within the laws' bound. -/
def SmR (zss : List (List Int)) (n : Nat) : Prop := zss.length = n ∧ n + tot zss n ≤ 1048576
theorem SmR.n {zss : List (List Int)} {n : Nat} (h : SmR zss n) : n ≤ 1048576 := by have := h.2; omega
theorem SmR.sum {zss : List (List Int)} {n : Nat} (h : SmR zss n) : tot zss n ≤ 1048576 := by have := h.2; omega
theorem SmR.each {zss : List (List Int)} {n : Nat} (h : SmR zss n) : ∀ i, i < zss.length → (zss.getD i []).length ≤ 1048576 := fun i hi => by
  have h1 := tot_succ zss i hi
  have h2 := tot_mono zss (i + 1) n (by have := h.1; omega)
  have := h.2
  omega

set_option maxHeartbeats 2000000 in
theorem eqRowS_same (a a' : Option Addr) (n c c' : Nat) (zss : List (List Int)) (w : World) (hs : SmR zss n) (ha : AtS w a zss) (ha' : AtS w a' zss) :
    Calls Tryd.prog 26 #[.slice a n c, .slice a' n c'] w fun e w' => e = .returned (.bool true) ∧ Below w.heap.size w w' := by
  have hn := hs.n
  have hz := hs.1
  by_cases h0 : n = 0
  · subst h0
    go_enter Tryd.func26, Tryd.ntmps26
    go_wp2
    refine wp_loop_rounds 1 ?_
    rw [rounds_succ]
    go_wp2
    go_ret
    exact ⟨rfl, Below.refl _ _⟩
  · go_enter Tryd.func26, Tryd.ntmps26
    go_wp2
    go_loopw [5] (fun i wr => ∃ (k : Nat), k ≤ n ∧ i = .int .i64 k ∧ Below w.heap.size w wr) (fun i _ => n - (intOf i).toNat)
    case atStart => exact ⟨0, Nat.zero_le _, rfl, Below.refl _ _⟩
    case round =>
      obtain ⟨k, hk, rfl, hbw⟩ := hrel
      by_cases hlt : k < n
      · obtain ⟨b, off, rfl, hc⟩ := (ha.below hbw).some (by omega)
        obtain ⟨b', off', rfl, hc'⟩ := (ha'.below hbw).some (by omega)
        obtain ⟨q, d, hcx, _, hat⟩ := hc k (by omega)
        obtain ⟨q', d', hcy, _, hat'⟩ := hc' k (by omega)
        have hm := hs.each k (by omega)
        generalize zss.getD k [] = ys at *
        obtain ⟨m, hmm⟩ : ∃ m, ys.length = m := ⟨_, rfl⟩
        rw [hmm] at hcx hcy hm
        have hki : (k : Int) < (n : Int) := by omega
        have HE : Hid (∀ w' : World, Below wr.heap.size wr w' → Calls Tryd.prog 48 #[.agg #[.slice q m d], .agg #[.slice q' m d']] w' fun e w'' => e = .returned (.bool true) ∧ Below w'.heap.size w' w'') :=
          fun w' hw' => (eqRow_any q q' m m d d' ys ys w' hmm hmm hm hm (At.below hat hw') (At.below hat' hw')).mono fun _ _ ⟨h1, h2⟩ => ⟨by rw [h1, decide_eq_true rfl], h2⟩
        clear hc hc' hmm ha ha' hs hz
        go_wp2_with fail
        go_region_held3 (fun w' => w'.cell? ⟨b, off + k, none⟩ = some (.slice q m d) ∧ w'.cell? ⟨b', off' + k, none⟩ = some (.slice q' m d')) (refine ⟨?_, ?_⟩ <;> assumption)
          (first | (go_at_call 48; refine (HE.out wr.drew (Below.refl _ _).drew).mono ?_; rintro e w2 ⟨rfl, hb2⟩; have e0 := cell_later hb2 hcx; have e1 := cell_later hb2 hcy) | fail)
        go_wp2
        go_roundw
        case rel => exact ⟨k + 1, by omega, by go_num, hbw.drew.trans (hb2.mono hbw.size)⟩
        case measure => simp [intOf]; omega
      · go_wp2
        go_ret
        exact ⟨rfl, hbw⟩

theorem eqTableau_same (p : Int) (a a' : Option Addr) (n c c' : Nat) (zss : List (List Int)) (w : World) (hs : SmR zss n) (ha : AtS w a zss) (ha' : AtS w a' zss) :
    Calls Tryd.prog 9 #[.agg #[.int .i64 p, .slice a n c], .agg #[.int .i64 p, .slice a' n c']] w fun e w' => e = .returned (.bool true) ∧ Below w.heap.size w w' := by
  obtain ⟨W, hW⟩ : ∃ W, W = (w.alloc (.cells #[.int .i64 p, .slice a n c] 26)).alloc (.cells #[.int .i64 p, .slice a' n c'] 26) := ⟨_, rfl⟩
  have B : Below w.heap.size w W := by rw [hW]; exact ((Below.refl _ _).alloc (Nat.le_refl _) _).alloc (by simp) _
  have HA := Hid.mk (ha.below B)
  have HA' := Hid.mk (ha'.below B)
  clear ha ha'
  go_enter Tryd.func9, Tryd.ntmps9
  go_wp2_with fail
  rw [← hW]
  clear hW
  refine (eqRowS_same _ _ _ _ _ zss _ hs HA.out HA'.out).mono ?_
  rintro e w1 ⟨rfl, hb⟩
  go_wp2
  go_ret
  exact ⟨rfl, B.trans (hb.mono B.size)⟩

end Go.Proofs.YthliamoeplgblaaDoor
