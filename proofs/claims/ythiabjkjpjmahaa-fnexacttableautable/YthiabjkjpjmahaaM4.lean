/- Several texts of one proof, in build order: TbG, RepP, IntM, IntsR, TbM. -/
import Derived.Test.YthiabjkjpjmahaaM1
import Derived.Test.YthiabjkjpjmahaaM3

/- Tableaus as things in memory, and the laws' helpers over them: szRowS, szTableau, eqRowS, eqTableau. -/
namespace Go.Proofs.Ythiabjkjpjmahaa
open Go.RowKit

abbrev RRows : Rep (List (List Int)) := Rep.slice 78 RInts
abbrev Tbl := Int × List (List Int)
abbrev RTbl : Rep Tbl := Rep.pair Rep.int RRows

theorem RTbl.at_iff {w : World} {p : Int} {a : Option Addr} {n c : Nat} {x : Tbl} (h : RTbl.At w [.int .i64 p, .slice a n c] x) : x.1 = p ∧ x.2.length = n ∧ n ≤ 9223372036854775807 ∧ AtS w a x.2 ∧ (a = none → c = 0) := by
  obtain ⟨c1, c2, e, h1, a', n', c', rfl, t1, t2, t3, t4⟩ := h
  obtain rfl : c1 = [.int .i64 x.1] := h1
  simp only [List.cons_append, List.nil_append, List.cons.injEq, Value.slice.injEq, Value.int.injEq, and_true, true_and] at e
  obtain ⟨rfl, rfl, rfl, rfl⟩ := e
  exact ⟨rfl, t1, t2, atSl_ints t3, t4⟩

theorem RTbl.own_mk {w : World} {F : Nat → Prop} {p : Int} {a : Option Addr} {n c : Nat} {zss : List (List Int)} (h : RRows.Own w F [.slice a n c] zss) : RTbl.Own w F [.int .i64 p, .slice a n c] (p, zss) :=
  ⟨[_], [_], fun _ => False, F, rfl, rfl, h, fun _ h => h.elim, fun _ h => h, fun _ h => h.elim⟩
theorem RTbl.own_open {w : World} {F : Nat → Prop} {p : Int} {a : Option Addr} {n c : Nat} {x : Tbl} (h : RTbl.Own w F [.int .i64 p, .slice a n c] x) : x.1 = p ∧ RRows.Own w F [.slice a n c] x.2 := by
  obtain ⟨c1, c2, F1, F2, e, h1, h2, _, h4, _⟩ := h
  obtain rfl : c1 = [.int .i64 x.1] := h1
  simp only [List.cons_append, List.nil_append, List.cons.injEq, Value.int.injEq, true_and] at e
  obtain ⟨rfl, rfl⟩ := e
  exact ⟨rfl, RRows.mono h2 h4⟩
theorem RRows.atS {w : World} {F : Nat → Prop} {a : Option Addr} {n c : Nat} {zss : List (List Int)} (h : RRows.Own w F [.slice a n c] zss) : zss.length = n ∧ AtS w a zss := by
  obtain ⟨a', n', c', e, t1, t2, t3, _⟩ := RRows.toAt h
  simp only [List.cons.injEq, Value.slice.injEq, and_true] at e
  obtain ⟨rfl, rfl, rfl⟩ := e
  exact ⟨t1, atSl_ints t3⟩
theorem RRows.atR {w : World} {F : Nat → Prop} {a : Option Addr} {n c : Nat} {zss : List (List Int)} (h : RRows.Own w F [.slice a n c] zss) : AtSl RInts w a zss := by
  obtain ⟨a', n', c', e, t1, t2, t3, _⟩ := RRows.toAt h
  simp only [List.cons.injEq, Value.slice.injEq, and_true] at e
  obtain ⟨rfl, rfl, rfl⟩ := e
  exact t3

/-- Rows within the laws' bound. -/
def SmR (zss : List (List Int)) (n : Nat) : Prop := zss.length = n ∧ n + tot zss n ≤ 1048576
theorem SmR.n {zss : List (List Int)} {n : Nat} (h : SmR zss n) : n ≤ 1048576 := by have := h.2; omega
theorem SmR.sum {zss : List (List Int)} {n : Nat} (h : SmR zss n) : tot zss n ≤ 1048576 := by have := h.2; omega
theorem SmR.each {zss : List (List Int)} {n : Nat} (h : SmR zss n) : ∀ i, i < zss.length → (zss.getD i []).length ≤ 1048576 := fun i hi => by
  have h1 := tot_succ zss i hi
  have h2 := tot_mono zss (i + 1) n (by have := h.1; omega)
  have := h.2
  omega

set_option maxHeartbeats 1000000 in
theorem szRowS_any (a : Option Addr) (n c : Nat) (zss : List (List Int)) (l : Int) (w : World) (hz : zss.length = n) (hn : n ≤ 9223372036854775807) (h0 : 0 ≤ l) (h1 : l ≤ 1048576) (ha : AtS w a zss) :
    Calls Try.prog 52 #[.slice a n c, .int .i64 l] w fun e w' => e = .returned (.int .i64 (leftOf l (n + tot zss n : Nat))) ∧ Below w.heap.size w w' := by
  by_cases hb : l < n
  · have h' : l - (n : Int) < 0 := by omega
    go_enter Try.func52, Try.ntmps52
    go_wp2
    go_ret
    exact ⟨ret_int (leftOf_no (by omega)).symm, Below.refl _ _⟩
  have h' : ¬ l - (n : Int) < 0 := by omega
  by_cases hn0 : n = 0
  · subst hn0
    have ht : tot zss 0 = 0 := rfl
    go_enter Try.func52, Try.ntmps52
    go_wp2
    refine wp_loop_rounds 1 ?_
    rw [rounds_succ]
    go_wp2
    go_ret
    exact ⟨ret_int (by rw [ht, leftOf_yes (by omega)]; omega), Below.refl _ _⟩
  · go_enter Try.func52, Try.ntmps52
    go_wp2
    go_loopw [1, 5] (fun q i wr => ∃ (k : Nat) (r : Int), k ≤ n ∧ i = .int .i64 k ∧ q = .int .i64 r ∧ 0 ≤ r ∧ r ≤ 1048576 ∧ r + tot zss k = l - n ∧ Below w.heap.size w wr) (fun _ i _ => n - (intOf i).toNat)
    case atStart => exact ⟨0, l - n, Nat.zero_le _, rfl, rfl, by omega, by omega, by rw [tot_zero]; omega, Below.refl _ _⟩
    case round =>
      obtain ⟨k, r, hk, rfl, rfl, hr0, hr1, hr, hbw⟩ := hrel
      by_cases hlt : k < n
      · obtain ⟨b, off, rfl, hc⟩ := (ha.below hbw).some (by omega)
        obtain ⟨a', c', hcx, hm, hat⟩ := hc k (by omega)
        have hts := tot_succ zss k (by omega)
        have htm := tot_mono zss (k + 1) n (by omega)
        obtain ⟨m, hmm⟩ : ∃ m, m = (zss.getD k []).length := ⟨_, rfl⟩
        rw [← hmm] at hcx hm hts
        have HR := Hid.mk hr
        have HT := Hid.mk hts
        have HM := Hid.mk htm
        have hki : (k : Int) < (n : Int) := by omega
        clear hmm hat hc hr hts htm ha
        by_cases hfit : r < m
        · go_wp2_with fail
          refine (szRow_any a' m c' r wr hm hr0 hr1).mono ?_
          rintro e w' ⟨rfl, hb'⟩
          rw [if_pos hfit]
          go_wp2
          go_ret
          exact ⟨ret_int (leftOf_no (by have := HR.out; have := HT.out; have := HM.out; omega)).symm, hbw.trans (hb'.mono hbw.size)⟩
        · have hd : ¬ r - (m : Int) < 0 := by omega
          go_wp2_with fail
          refine (szRow_any a' m c' r wr hm hr0 hr1).mono ?_
          rintro e w' ⟨rfl, hb'⟩
          rw [if_neg (by omega)]
          go_wp2
          go_roundw
          case rel => exact ⟨k + 1, r - m, by omega, by go_num, rfl, by omega, by omega, by have := HR.out; have := HT.out; omega, hbw.trans (hb'.mono hbw.size)⟩
          case measure => simp [intOf]; omega
      · obtain rfl : k = n := by omega
        have HR := Hid.mk hr
        clear hr
        go_wp2
        go_ret
        exact ⟨ret_int (by have := HR.out; rw [leftOf_yes (by omega)]; omega), hbw⟩

theorem szTableau_any (p : Int) (a : Option Addr) (n c : Nat) (zss : List (List Int)) (l : Int) (w : World) (hz : zss.length = n) (hn : n ≤ 9223372036854775807) (h0 : 0 ≤ l) (h1 : l ≤ 1048576) (ha : AtS w a zss) :
    Calls Try.prog 15 #[.agg #[.int .i64 p, .slice a n c], .int .i64 l] w fun e w' => e = .returned (.int .i64 (leftOf l (n + tot zss n : Nat))) ∧ Below w.heap.size w w' := by
  have B0 : Below w.heap.size w (w.alloc (.cells #[.int .i64 p, .slice a n c] 40)) := (Below.refl _ _).alloc (Nat.le_refl _) _
  have HA := Hid.mk (ha.below B0)
  clear ha
  obtain ⟨C, hC⟩ : ∃ C, n + tot zss n = C := ⟨_, rfl⟩
  have HC := Hid.mk hC
  rw [hC]
  clear hC
  by_cases h : l < C
  · go_enter Try.func15, Try.ntmps15
    go_wp2_with fail
    refine (szRowS_any _ _ _ zss _ _ hz hn h0 h1 HA.out).mono ?_
    rintro e w' ⟨rfl, hb⟩
    rw [HC.out, leftOf_no h]
    go_wp2
    go_ret
    exact ⟨ret_int (leftOf_no h).symm, B0.trans (hb.mono B0.size)⟩
  · have h' : ¬ l - (C : Int) < 0 := by omega
    go_enter Try.func15, Try.ntmps15
    go_wp2_with fail
    refine (szRowS_any _ _ _ zss _ _ hz hn h0 h1 HA.out).mono ?_
    rintro e w' ⟨rfl, hb⟩
    rw [HC.out, leftOf_yes (by omega)]
    go_wp2
    go_ret
    exact ⟨ret_int (leftOf_yes (by omega)).symm, B0.trans (hb.mono B0.size)⟩

set_option maxHeartbeats 2000000 in
theorem eqRowS_same (a a' : Option Addr) (n c c' : Nat) (zss : List (List Int)) (w : World) (hs : SmR zss n) (ha : AtS w a zss) (ha' : AtS w a' zss) :
    Calls Try.prog 60 #[.slice a n c, .slice a' n c'] w fun e w' => e = .returned (.bool true) ∧ Below w.heap.size w w' := by
  have hn := hs.n
  have hz := hs.1
  by_cases h0 : n = 0
  · subst h0
    go_enter Try.func60, Try.ntmps60
    go_wp2
    refine wp_loop_rounds 1 ?_
    rw [rounds_succ]
    go_wp2
    go_ret
    exact ⟨rfl, Below.refl _ _⟩
  · go_enter Try.func60, Try.ntmps60
    go_wp2
    go_loopw [5] (fun i wr => ∃ (k : Nat), k ≤ n ∧ i = .int .i64 k ∧ Below w.heap.size w wr) (fun i _ => n - (intOf i).toNat)
    case atStart => exact ⟨0, Nat.zero_le _, rfl, Below.refl _ _⟩
    case round =>
      obtain ⟨k, hk, rfl, hbw⟩ := hrel
      by_cases hlt : k < n
      · obtain ⟨b, off, rfl, hc⟩ := (ha.below hbw).some (by omega)
        obtain ⟨b', off', rfl, hc'⟩ := (ha'.below hbw).some (by omega)
        obtain ⟨q, d, hcx, _, hat⟩ := hc k (by omega)
        obtain ⟨q', d', hcy, _, hat'⟩ := hc' k (by omega)
        have hm := hs.each k (by omega)
        generalize zss.getD k [] = ys at *
        obtain ⟨m, hmm⟩ : ∃ m, ys.length = m := ⟨_, rfl⟩
        rw [hmm] at hcx hcy hm
        have hki : (k : Int) < (n : Int) := by omega
        have HE : Hid (∀ w' : World, Below wr.heap.size wr w' → Calls Try.prog 101 #[.agg #[.slice q m d], .agg #[.slice q' m d']] w' fun e w'' => e = .returned (.bool true) ∧ Below w'.heap.size w' w'') :=
          fun w' hw' => (eqRow_any q q' m m d d' ys ys w' hmm hmm hm hm (At.below hat hw') (At.below hat' hw')).mono fun _ _ ⟨h1, h2⟩ => ⟨by rw [h1, decide_eq_true rfl], h2⟩
        clear hc hc' hmm ha ha' hs hz
        go_wp2_with fail
        go_region_held3 (fun w' => w'.cell? ⟨b, off + k, none⟩ = some (.slice q m d) ∧ w'.cell? ⟨b', off' + k, none⟩ = some (.slice q' m d')) (refine ⟨?_, ?_⟩ <;> assumption)
          (first | (go_at_call 101; refine (HE.out wr.drew (Below.refl _ _).drew).mono ?_; rintro e w2 ⟨rfl, hb2⟩; have e0 := cell_later hb2 hcx; have e1 := cell_later hb2 hcy) | fail)
        go_wp2
        go_roundw
        case rel => exact ⟨k + 1, by omega, by go_num, hbw.drew.trans (hb2.mono hbw.size)⟩
        case measure => simp [intOf]; omega
      · go_wp2
        go_ret
        exact ⟨rfl, hbw⟩

theorem eqTableau_same (p : Int) (a a' : Option Addr) (n c c' : Nat) (zss : List (List Int)) (w : World) (hs : SmR zss n) (ha : AtS w a zss) (ha' : AtS w a' zss) :
    Calls Try.prog 20 #[.agg #[.int .i64 p, .slice a n c], .agg #[.int .i64 p, .slice a' n c']] w fun e w' => e = .returned (.bool true) ∧ Below w.heap.size w w' := by
  obtain ⟨W, hW⟩ : ∃ W, W = (w.alloc (.cells #[.int .i64 p, .slice a n c] 45)).alloc (.cells #[.int .i64 p, .slice a' n c'] 45) := ⟨_, rfl⟩
  have B : Below w.heap.size w W := by rw [hW]; exact ((Below.refl _ _).alloc (Nat.le_refl _) _).alloc (by simp) _
  have HA := Hid.mk (ha.below B)
  have HA' := Hid.mk (ha'.below B)
  clear ha ha'
  go_enter Try.func20, Try.ntmps20
  go_wp2_with fail
  rw [← hW]
  clear hW
  refine (eqRowS_same _ _ _ _ _ zss _ hs HA.out HA'.out).mono ?_
  rintro e w1 ⟨rfl, hb⟩
  go_wp2
  go_ret
  exact ⟨rfl, B.trans (hb.mono B.size)⟩

end Go.Proofs.Ythiabjkjpjmahaa

/- One more thing at a slice's end. -/
namespace Go.Proofs.Ythiabjkjpjmahaa
open Go.RowKit

section
variable {α : Type} {A : Rep α} {w w2 w4 : World} {F H F' : Nat → Prop} {e : TypeId} {a a' : Option Addr} {n c c' : Nat} {xs : List α} {cells vs : List Value} {G : Nat → Nat → Prop} {x : α}

theorem sub_append_left {cells vs : List Value} {o k : Nat} (h : o + k ≤ cells.length) : sub (cells ++ vs) o k = sub cells o k := by
  unfold sub
  rw [List.drop_append_of_le_length (by omega), List.take_append_of_le_length (by simp; omega)]
theorem sub_append_right {cells vs : List Value} {k : Nat} (h : vs.length = k) : sub (cells ++ vs) cells.length k = vs := by
  unfold sub
  rw [List.drop_left, ← h, List.take_length]

/-- Behind 'append(l, x)': the slice lies in its old block, or in a new one. -/
theorem Laid.push (h : Laid A w F e a n c xs cells G n) (hF : ∀ b, F b → b < w.heap.size) (hb : Below w.heap.size w w2) (ho : A.Own w2 H vs x) (hH : ∀ b, H b → w.heap.size ≤ b ∧ b < w2.heap.size)
    (hg : ∀ b, b < w2.heap.size → (Value.slice a n c).ownBlock ≠ some b → w4.heap[b]? = w2.heap[b]?) (hown : w4.ownsRow 0 e A.k (.slice a' (n + 1) c') (n + 1) (cells ++ vs))
    (hat : (Value.slice a' (n + 1) c').ownBlock = (Value.slice a n c).ownBlock ∨ ∀ b, (Value.slice a' (n + 1) c').ownBlock = some b → w2.heap.size ≤ b) (hbig : n + 1 ≤ 9223372036854775807)
    (hF1 : ∀ b, F b → F' b) (hF2 : ∀ b, H b → F' b) (hF3 : ∀ b, (Value.slice a' (n + 1) c').ownBlock = some b → F' b) :
    Laid A w4 F' e a' (n + 1) c' (xs ++ [x]) (cells ++ vs) (fun i => if i = n then H else G i) (n + 1) := by
  have hl := A.ownLen ho
  have hcl : cells.length = n * A.k := h.outer.1
  have hz := hb.size
  have hB : ∀ i b, i < n → G i b → b < w.heap.size ∧ (Value.slice a n c).ownBlock ≠ some b := fun i b hi hg' => ⟨hF b (h.rowF i b hi hg').1, (h.rowF i b hi hg').2⟩
  have hO : ∀ b, (Value.slice a n c).ownBlock = some b → b < w.heap.size := fun b hb' => hF b (h.outerF b hb')
  refine ⟨by simp [h.len], hbig, hown, hF3, fun i y hi hy => ?_, fun i b hi hb' => ?_, fun i j b hi hj hij hb' => ?_⟩
  · by_cases ei : i = n
    · subst ei
      simp only [if_true]
      obtain rfl : x = y := by
        rw [List.getElem?_append_right (by rw [h.len]; exact Nat.le_refl _)] at hy
        simpa [h.len] using hy
      have := sub_append_right (cells := cells) hl
      rw [hcl] at this
      rw [this]
      exact A.frame ho (fun b hb' _ => hg b (hH b hb').2 (fun e' => by have := hO b e'; have := (hH b hb').1; omega))
    · simp only [if_neg ei]
      have hi' : i < n := by omega
      rw [List.getElem?_append_left (by rw [h.len]; exact hi')] at hy
      rw [sub_append_left (by rw [hcl]; exact at_mul hi')]
      exact A.frame (A.ownBelow (h.row i y hi' hy) hb) (fun b hb' _ => hg b (by have := (hB i b hi' hb').1; omega) (hB i b hi' hb').2)
  · by_cases ei : i = n
    · subst ei
      simp only [if_true] at hb'
      refine ⟨hF2 b hb', fun e' => ?_⟩
      have h1 := hH b hb'
      rcases hat with h2 | h2
      · rw [h2] at e'
        have := hO b e'
        omega
      · have := h2 b e'
        omega
    · simp only [if_neg ei] at hb'
      have h1 := hB i b (by omega) hb'
      refine ⟨hF1 b (h.rowF i b (by omega) hb').1, fun e' => ?_⟩
      rcases hat with h2 | h2
      · rw [h2] at e'; exact h1.2 e'
      · have := h2 b e'
        omega
  · by_cases ei : i = n
    · subst ei
      simp only [if_true] at hb'
      simp only [if_neg (Ne.symm hij)]
      intro e'
      have := (hB j b (by omega) e').1
      have := (hH b hb').1
      omega
    · simp only [if_neg ei] at hb'
      by_cases ej : j = n
      · simp only [if_pos ej]
        intro e'
        have := (hB i b (by omega) hb').1
        have := (hH b e').1
        omega
      · simp only [if_neg ej]
        exact h.apart i j b (by omega) (by omega) hij hb'

/-- A slice of nothing. -/
theorem Laid.none (A : Rep α) (w : World) (F : Nat → Prop) (e : TypeId) : Laid A w F e none 0 0 [] [] (fun _ _ => False) 0 :=
  ⟨rfl, by omega, World.ownsRow_nil _ _ _ _, fun b hb => (by cases hb), fun i x h => by omega, fun i b h => by omega, fun i j b h => by omega⟩
end

end Go.Proofs.Ythiabjkjpjmahaa

/- Slices of numbers, marked, as things that are owned. -/
namespace Go.Proofs.Ythiabjkjpjmahaa
open Go.RowKit

theorem markInts_rep (F : Nat → Prop) (a : Option Addr) (n c : Nat) (zs : List Int) (m : Int) (w : World) (hn : n ≤ 1048576) (h0 : 0 ≤ m) (h1 : m ≤ 268435456) (ho : RInts.Own w F [.slice a n c] zs) :
    Calls Try.prog 102 #[.slice a n c, .int .i64 m] w fun e w' => e = .returned (.int .i64 (m + n)) ∧ RInts.Own w' F [.slice a n c] (mkInts m zs) ∧ Off F w w' := by
  obtain ⟨h2, h3, h4, h5⟩ := RInts.own_iff.1 ho
  refine (markIntS_any 0 a n c _ m w hn h0 (by omega) h4).mono fun e w' ⟨e1, e2, e3⟩ => ⟨e1, RInts.own_iff.2 ⟨by unfold mkInts; rw [marks_length, h2], h3, by unfold mkInts; rw [h2]; exact e2, h5⟩, Off.grown e3 h5⟩
end Go.Proofs.Ythiabjkjpjmahaa

/- Lists of numbers that are answered, held as the laws marked them. -/
namespace Go.Proofs.Ythiabjkjpjmahaa
open Go.RowKit

def IntsRet (e : Ending) (w' : World) (lo : Nat) (ok : Bool) (zs : List Int) : Prop := ∃ r m d, e = .returned (.tuple #[.slice r m d, .bool ok]) ∧ zs.length = m ∧ w'.ownsRow lo 3 1 (.slice r m d) m (zs.map (.int .i64))
theorem ints_at {w : World} {F : Nat → Prop} {a : Option Addr} {n c : Nat} {zs : List Int} (h : RInts.Own w F [.slice a n c] zs) : At w a zs := (RInts.at_iff.1 (RInts.toAt h)).2.2.1
theorem heldInts_rep (a : Option Addr) (n c : Nat) (zs : List Int) (m : Int) (w : World) (hz : zs.length = n) (hn : n ≤ 1048576) (h0 : 0 ≤ m) (h1 : m ≤ 268435456) (ha : At w a (mkInts m zs)) :
    Calls Try.prog 103 #[.slice a n c, .int .i64 m] w fun e w' => e = .returned (.int .i64 (m + n)) ∧ Below w.heap.size w w' := by
  unfold mkInts at ha
  rw [hz] at ha
  exact (heldIntS_any a n c m w hn h0 (by omega) ha).mono fun _ _ ⟨h1, h2⟩ => ⟨h1, by first | exact h2 | (rw [h2]; exact Below.refl _ _)⟩

theorem Off.toBelow {lo hi B : Nat} {a b : World} (h : Off (From lo hi) a b) (hlo : B ≤ lo) (hB : B ≤ a.heap.size) : Below B a b := ⟨h.os, h.tape, h.output, h.size, fun k hk => h.block k (by omega) (fun e => by have := e.1; omega)⟩

end Go.Proofs.Ythiabjkjpjmahaa

/- Contracts of the laws' helpers over tableaus: toRowS, toTableau, markRowS, markTableau, heldRowS, heldTableau. -/
namespace Go.Proofs.Ythiabjkjpjmahaa
open Go.RowKit

theorem Try.infoRow : (Try.prog.info? 78).map (fun i => (i.zero, i.size, i.bytes)) = some (some (.agg #[.slice none 0 0]), 1, 24) := by kernel_rfl

set_option maxRecDepth 100000 in
set_option maxHeartbeats 4000000 in
theorem toRowS_any (a : Option Addr) (n c : Nat) (zss : List (List Int)) (w : World) (hs : SmR zss n) (ha : AtS w a zss) :
    Calls Try.prog 56 #[.slice a n c] w fun e w' => ∃ g, e = .returned (.slice (some ⟨g, 0, none⟩) n n) ∧ RRows.Own w' (From w.heap.size w'.heap.size) [.slice (some ⟨g, 0, none⟩) n n] zss ∧ Below w.heap.size w w' := by
  obtain ⟨i0, hi, hz0, hz1, hz2⟩ := info_parts Try.infoRow
  have hn := hs.n
  have hz := hs.1
  go_enter Try.func56, Try.ntmps56
  go_wp2_with (at_make; refine wpList_make_full _ rfl _ _ 43 rfl w.heap.size 78 i0 (.agg #[.slice none 0 0]) 1 Try.underlying43 hi hz0 hz1 .i64 .i64 _ _ n rfl rfl rfl rfl (by rw [hz2]; omega) (by unfold maxLen; omega) (Nat.le_refl _) ?_; intro w1 hown hg)
  have hb1 : Below w.heap.size w w1 := (Below.refl _ _).grown hg (Nat.le_refl _) (by simp)
  have hlt1 := (hown.lt w.heap.size rfl).2
  obtain ⟨cs, hcs⟩ : ∃ cs, cs = (madeCells (Value.agg #[.slice none 0 0]).cells (n * 1)).toList := ⟨_, rfl⟩
  rw [← hcs] at hown
  have hst : Laid RInts w1 (From w.heap.size w1.heap.size) 78 (some ⟨w.heap.size, 0, none⟩) n n zss cs (fun _ _ => False) 0 := Laid.start hz (by omega) (owns_mono hown (Nat.zero_le _)) (fun b hb => hown.lt b hb) _
  clear hcs hown hg
  go_loopw [4] (fun i wr => ∃ (k : Nat) (cells : List Value) (G : Nat → Nat → Prop), k ≤ n ∧ i = .int .i64 k ∧ Laid RInts wr (From w.heap.size wr.heap.size) 78 (some ⟨w.heap.size, 0, none⟩) n n zss cells G k ∧ w.heap.size < wr.heap.size ∧ Below w.heap.size w wr) (fun i _ => n - (intOf i).toNat)
  case atStart => exact ⟨0, cs, _, Nat.zero_le _, rfl, hst, hlt1, hb1⟩
  case round =>
    clear hst hb1 hlt1 cs
    obtain ⟨k, cells, G, hk, rfl, ho, hzr, hbw⟩ := hrel
    by_cases hlt : k < n
    · obtain ⟨b, off, rfl, hc⟩ := (ha.below hbw).some (by omega)
      obtain ⟨ys, hy⟩ : ∃ ys, zss[k]? = some ys := ⟨_, List.getElem?_eq_getElem (by omega)⟩
      obtain ⟨a', c', hcx, _, hat⟩ := hc k (by omega)
      have hsm := hs.each k (by omega)
      have hgk : zss.getD k [] = ys := by simp [List.getD, hy]
      rw [hgk] at hcx hat hsm
      obtain ⟨m, hm⟩ : ∃ m, ys.length = m := ⟨_, rfl⟩
      rw [hm] at hcx hsm
      have hki : (k : Int) < (n : Int) := by omega
      have HO := Hid.mk ho
      have HX := Hid.mk hy
      have HM := Hid.mk hm
      have HC := Hid.mk (toRow_any a' m c' ys wr hm hsm hat)
      clear hc ha ho hs hy hat hgk hm
      go_wp2_with fail
      refine HC.out.mono ?_
      rintro e w2 ⟨h1, rfl, ho2, hb2⟩
      have ho2 := RInts.of_owns HM.out (by omega) ho2
      have hput := HO.out.put hlt (fun b hb => hb.2) hb2 HX.out ho2 (fun b hb => hb.1)
      have z2 := hb2.size
      have hput2 := hput.mono (F' := From w.heap.size w2.heap.size) (fun b hb => by rcases hb with hb | hb; exact ⟨hb.1, by have := hb.2; omega⟩; exact ⟨by have := hb.1; omega, hb.2⟩)
      have HP : Hid (Laid RInts (w2.setCell ⟨w.heap.size, k * 1, none⟩ (.slice (some ⟨h1, 0, none⟩) m m)) (From w.heap.size w2.heap.size) 78 (some ⟨w.heap.size, 0, none⟩) n n zss _ _ (k + 1)) := hput2
      rw [Nat.mul_one] at HP
      have hout := (HO.out.below hb2).outer
      have hln : cells.length = n * 1 := hout.1
      obtain ⟨u0, hu0⟩ : ∃ u, cells[k]? = some u := ⟨_, List.getElem?_eq_getElem (by omega)⟩
      have q0 : w2.cell? ⟨w.heap.size, k, none⟩ = some u0 := (hout.cellAt _ (show k < n * 1 by omega)).trans hu0
      have f0 : w2.frozen? ⟨w.heap.size, k, none⟩ = false := hout.frozenAt _
      clear hu0
      have HB : Hid (Below w.heap.size w (w2.setCell ⟨w.heap.size, k, none⟩ (.slice (some ⟨h1, 0, none⟩) m m))) := (hbw.trans (hb2.mono hbw.size)).setCell (Nat.le_refl _) _
      clear hput hput2 hout hln hb2 hbw ho2 hcx
      go_wp2
      go_roundw
      case rel => exact ⟨k + 1, _, _, by omega, by go_num, by simpa only [World.setCell, Array.size_modify] using HP.out, by simp [World.setCell]; omega, HB.out⟩
      case measure => simp [intOf]; omega
    · obtain rfl : k = n := by omega
      go_wp2
      go_ret
      exact ⟨_, rfl, ⟨_, _, _, _, _, rfl, ho⟩, hbw⟩

theorem toTableau_any (p : Int) (a : Option Addr) (n c : Nat) (zss : List (List Int)) (w : World) (hs : SmR zss n) (ha : AtS w a zss) :
    Calls Try.prog 17 #[.agg #[.int .i64 p, .slice a n c]] w fun e w' => ∃ g, e = .returned (.agg #[.int .i64 p, .slice (some ⟨g, 0, none⟩) n n]) ∧ RTbl.Own w' (From w.heap.size w'.heap.size) [.int .i64 p, .slice (some ⟨g, 0, none⟩) n n] (p, zss) ∧ Below w.heap.size w w' := by
  go_enter Try.func17, Try.ntmps17
  go_wp2_with fail
  refine (toRowS_any _ _ _ zss _ hs ?_).mono ?_
  · exact AtS.below ha ((((Below.refl _ _).alloc (Nat.le_refl _) _).alloc (by simp) _).alloc (by simp; omega) _)
  · rintro e w' ⟨g, rfl, hown, hb⟩
    obtain ⟨hc, hf⟩ := bcell hb
    have hz' : w.heap.size + 2 < w'.heap.size := by have := hb.size; simp at this; omega
    simp only [World.size_alloc] at hc hf hown
    go_wp2
    have dj : ∀ b, From (w.heap.size + 1 + 1 + 1) w'.heap.size b → ¬ From 0 (w.heap.size + 3) b := fun b h k => by have := h.1; have := k.2; omega
    have ho := RRows.ownOff (RRows.ownOff (RRows.ownOff hown (Off.set (F := From 0 (w.heap.size + 3)) (a := ⟨w.heap.size + 1 + 1, 1, none⟩) ⟨by simp, by simp⟩ (.slice (some ⟨g, 0, none⟩) n n)) dj) (Off.set (F := From 0 (w.heap.size + 3)) (a := ⟨w.heap.size + 1, 0, none⟩) ⟨by simp, by simp⟩ (.int .i64 p)) dj) (Off.set (F := From 0 (w.heap.size + 3)) (a := ⟨w.heap.size + 1, 1, none⟩) ⟨by simp, by simp⟩ (.slice (some ⟨g, 0, none⟩) n n)) dj
    refine bodyPost_ret (v := .agg #[.int .i64 p, .slice (some ⟨g, 0, none⟩) n n]) (by simp [results, Try.results17, go_sem, hc]) rfl ⟨_, rfl, RTbl.own_mk (RRows.mono ho fun b h => ⟨by have := h.1; omega, by have := h.2; simp only [World.setCell, Array.size_modify]; exact this⟩), ?_⟩
    exact (((((((Below.refl _ _).alloc (Nat.le_refl _) _).alloc (by simp) _).alloc (by simp; omega) _).trans (hb.mono (by simp; omega))).setCell (by simp; omega) _).setCell (by simp) _).setCell (by simp) _

set_option maxRecDepth 100000 in
set_option maxHeartbeats 4000000 in
theorem markRowS_rep (F : Nat → Prop) (a : Option Addr) (n c : Nat) (zss : List (List Int)) (m : Int) (w : World) (hn : n ≤ 1048576) (ht : tot zss n ≤ 1048576) (h0 : 0 ≤ m) (h1 : m ≤ 134217728) (ho : RRows.Own w F [.slice a n c] zss) :
    Calls Try.prog 61 #[.slice a n c, .int .i64 m] w fun e w' => e = .returned (.int .i64 (m + tot zss n)) ∧ RRows.Own w' F [.slice a n c] (mkPairs m zss) ∧ Off F w w' := by
  obtain ⟨a', n', c', cells, G, he, hl⟩ := ho
  simp only [List.cons.injEq, Value.slice.injEq, and_true] at he
  obtain ⟨rfl, rfl, rfl⟩ := he
  go_enter Try.func61, Try.ntmps61
  go_wp2
  go_loopw [1, 5] (fun q i wr => ∃ k : Nat, k ≤ n ∧ i = .int .i64 k ∧ q = .int .i64 (m + tot zss k) ∧ Laid RInts wr F 78 a n c (mkTo (fun m zs => mkInts m zs) List.length m zss k) cells G n ∧ Off F w wr) (fun _ i _ => n - (intOf i).toNat)
  case atStart => exact ⟨0, Nat.zero_le _, rfl, by simp [tot_zero], by rw [mkTo_zero]; exact hl, Off.refl _ _⟩
  case round =>
    have hzl := hl.len
    clear hl
    obtain ⟨k, hk, rfl, rfl, hl, hof⟩ := hrel
    by_cases hlt : k < n
    · obtain ⟨ys, hy⟩ : ∃ ys, zss[k]? = some ys := ⟨_, List.getElem?_eq_getElem (by omega)⟩
      have hrow := hl.row k ys hlt (mkTo_next _ _ hy)
      obtain ⟨a2, n2, c2, _, _, he2, _⟩ := hrow
      have hrow := hl.row k ys hlt (mkTo_next _ _ hy)
      rw [he2] at hrow
      rcases hl.outer.2 with ⟨_, h00⟩ | ⟨g, cap, cur, hv, _⟩
      · omega
      simp only [Value.slice.injEq, true_and] at hv
      obtain ⟨rfl, rfl⟩ := hv
      have hcl : cells.length = n * 1 := hl.outer.1
      have hcx : wr.cell? ⟨g, k, none⟩ = some (.slice a2 n2 c2) := by
        rw [hl.outer.cellAt k (show k < n * 1 by omega)]
        have h9 := sub_at (cells := cells) (o := k * 1) (k := 1) (j := 0) (by omega)
        have he3 : sub cells (k * 1) 1 = [.slice a2 n2 c2] := he2
        rw [he3] at h9
        simpa using h9.symm
      have hly : ys.length = n2 := (RInts.own_iff.1 hrow).1
      have hts := tot_succ zss k (by omega)
      have hgk : zss.getD k [] = ys := by simp [List.getD, hy]
      rw [hgk, hly] at hts
      have htm := tot_mono zss (k + 1) n (by omega)
      have HL := Hid.mk hl
      have HR := Hid.mk hrow
      have HO := Hid.mk hof
      have HY := Hid.mk hy
      have HLY := Hid.mk hly
      obtain ⟨T, hT⟩ : ∃ T, tot zss k = T := ⟨_, rfl⟩
      have HT := Hid.mk hT
      rw [hT] at hts ⊢
      have hn2 : n2 ≤ 1048576 := by omega
      have hmT : m + (T : Int) ≤ 268435456 := by omega
      have hki : (k : Int) < (n : Int) := by omega
      have HTS := Hid.mk hts
      have HE2 := Hid.mk he2
      clear hl hrow hof hy hly hT hts hgk he2 hcl htm
      go_wp2_with fail
      refine (markInts_rep (G k) a2 n2 c2 ys (m + T) wr hn2 (by omega) hmT HR.out).mono ?_
      rintro e w2 ⟨rfl, o2, f2⟩
      have hturn := HL.out.turn (w' := w2) (cells' := cells) (x' := mkInts (m + T) ys) hlt (fun b hb hn1 _ => f2.block b hb hn1) (ownsRow_frame HL.out.outer (fun b hb hlb => f2.block b hlb (fun hG => (HL.out.rowF k b hlt hG).2 hb))) (fun _ _ => rfl) (by rw [HE2.out]; exact o2)
      have HLN : Hid (Laid RInts w2 F 78 (some ⟨g, 0, none⟩) n c (mkTo (fun m zs => mkInts m zs) List.length m zss (k + 1)) cells G n) := by
        have h9 := mkTo_set (fun m zs => mkInts m zs) List.length (m := m) HY.out
        rw [szL_pairs, HT.out] at h9
        show Laid _ _ _ _ _ _ _ _ _ _ _
        rw [← h9]
        exact hturn
      have HON : Hid (Off F w w2) := HO.out.trans (f2.mono (fun b hb => (HL.out.rowF k b hlt hb).1))
      clear hturn o2 f2
      go_wp2
      go_roundw
      case rel => exact ⟨k + 1, by omega, by go_num, by rw [HTS.out]; congr 1; push_cast; omega, HLN.out, HON.out⟩
      case measure => simp [intOf]; omega
    · obtain rfl : k = n := by omega
      have HL := Hid.mk hl
      clear hl
      go_wp2
      go_ret
      refine ⟨rfl, ⟨_, _, _, cells, G, rfl, ?_⟩, hof⟩
      have h9 := HL.out
      rw [mkTo_all _ _ _ _ hzl] at h9
      exact h9

theorem markTableau_rep (F : Nat → Prop) (p : Int) (a : Option Addr) (n c : Nat) (zss : List (List Int)) (m : Int) (w : World) (hn : n ≤ 1048576) (ht : tot zss n ≤ 1048576) (h0 : 0 ≤ m) (h1 : m ≤ 134217728) (ho : RTbl.Own w F [.int .i64 p, .slice a n c] (p, zss)) :
    Calls Try.prog 21 #[.agg #[.int .i64 p, .slice a n c], .int .i64 m] w fun e w' => e = .returned (.int .i64 (m + tot zss n)) ∧ RTbl.Own w' F [.int .i64 p, .slice a n c] (p, mkPairs m zss) ∧ Off F w w' := by
  have B0 : Below w.heap.size w (w.alloc (.cells #[.int .i64 p, .slice a n c] 45)) := (Below.refl _ _).alloc (Nat.le_refl _) _
  have HR := Hid.mk (RRows.ownBelow (RTbl.own_open ho).2 B0)
  clear ho
  go_enter Try.func21, Try.ntmps21
  go_wp2_with fail
  refine (markRowS_rep F a n c zss m _ hn ht h0 h1 HR.out).mono ?_
  rintro e w2 ⟨rfl, o2, f2⟩
  go_wp2
  go_ret
  exact ⟨rfl, RTbl.own_mk o2, (Off.below B0).trans f2⟩

theorem markTableau_rows (F : Nat → Prop) (p : Int) (a : Option Addr) (n c : Nat) (zss : List (List Int)) (m : Int) (w : World) (hn : n ≤ 1048576) (ht : tot zss n ≤ 1048576) (h0 : 0 ≤ m) (h1 : m ≤ 134217728) (ho : RRows.Own w F [.slice a n c] zss) :
    Calls Try.prog 21 #[.agg #[.int .i64 p, .slice a n c], .int .i64 m] w fun e w' => e = .returned (.int .i64 (m + tot zss n)) ∧ RRows.Own w' F [.slice a n c] (mkPairs m zss) ∧ Off F w w' :=
  (markTableau_rep F p a n c zss m w hn ht h0 h1 (RTbl.own_mk ho)).mono fun _ _ ⟨h1, h2, h3⟩ => ⟨h1, (RTbl.own_open h2).2, h3⟩

/-- What is answered: a tableau and a bool. -/
def TblRet (e : Ending) (w' : World) (lo : Nat) (ok : Bool) (p : Int) (zss : List (List Int)) : Prop := ∃ r m d, e = .returned (.tuple #[.agg #[.int .i64 p, .slice r m d], .bool ok]) ∧ RRows.Own w' (From lo w'.heap.size) [.slice r m d] zss
def TblRet3 (e : Ending) (w' : World) (lo : Nat) (ok : Bool) (p cnt : Int) (zss : List (List Int)) : Prop := ∃ r m d, e = .returned (.tuple #[.agg #[.int .i64 p, .slice r m d], .int .i64 cnt, .bool ok]) ∧ RRows.Own w' (From lo w'.heap.size) [.slice r m d] zss
theorem tbl_at {w : World} {F : Nat → Prop} {p : Int} {a : Option Addr} {n c : Nat} {zss : List (List Int)} (h : RTbl.Own w F [.int .i64 p, .slice a n c] (p, zss)) : AtS w a zss := (RRows.atS (RTbl.own_open h).2).2
theorem RRows.nil (w : World) (F : Nat → Prop) : RRows.Own w F [.slice none 0 0] [] := ⟨none, 0, 0, [], fun _ _ => False, rfl, Laid.none _ _ _ _⟩

end Go.Proofs.Ythiabjkjpjmahaa
