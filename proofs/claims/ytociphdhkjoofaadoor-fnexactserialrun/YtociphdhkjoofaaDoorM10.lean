/- Several texts of one proof, in build order: SwC, FlD, TzI, IntsR, KrR, LsK, RepD, Blk. -/
import Derived.Test.YtociphdhkjoofaaDoorM4
import Derived.Deep.CutBlock
import Derived.Test.YtociphdhkjoofaaDoorM6
import Derived.Lib.TrailingZeros
import Derived.Lib.LaidTab
import Derived.Test.YtociphdhkjoofaaDoorM3
import Derived.Test.YtociphdhkjoofaaDoorM5

/- Contracts of impl.clash and spec.l13Clash. -/
namespace Go.Proofs.YtociphdhkjoofaaDoor
open Go.RowKit

theorem clB_txn {x1 x2 y1 y2 z : Int} : clB (z, x1, x2) (z, y1, y2) = false := by simp [clB]
theorem clB_item {x0 x1 x2 y0 y1 y2 : Int} (h : ¬ x2 = y2) : clB (x0, x1, x2) (y0, y1, y2) = false := by simp [clB, h]
theorem clB_kind {x0 x1 z y0 y1 : Int} (h : ¬ x0 = y0) : clB (x0, x1, z) (y0, y1, z) = (decide (x1 = 2) || decide (y1 = 2)) := by simp [clB, h]

set_option maxRecDepth 100000 in
set_option maxHeartbeats 1000000 in
theorem clash_any (x0 x1 x2 y0 y1 y2 : Int) (w : World) (hx : x1 = 1 ∨ x1 = 2) (hy : y1 = 1 ∨ y1 = 2) :
    Calls Tryd.prog 44 #[.agg #[.int .i64 x0, .int .i64 x1, .int .i64 x2], .agg #[.int .i64 y0, .int .i64 y1, .int .i64 y2]] w fun e w' => e = .returned (.bool (clB (x0, x1, x2) (y0, y1, y2))) ∧ Below w.heap.size w w' := by
  by_cases e0 : x0 = y0
  · subst e0
    have e0' : (x0 != x0) = false := by simp
    rcases hx with rfl | rfl <;> rcases hy with rfl | rfl
    · have HV := Hid.mk (clB_txn (x1 := 1) (x2 := x2) (y1 := 1) (y2 := y2) (z := x0))
      go_enter Tryd.func44, Tryd.ntmps44
      go_wp2
      go_ret
      exact ⟨ret_bool (by rw [HV.out]), ((Below.refl _ _).alloc (Nat.le_refl _) _).alloc (by simp) _⟩
    · have HV := Hid.mk (clB_txn (x1 := 1) (x2 := x2) (y1 := 2) (y2 := y2) (z := x0))
      go_enter Tryd.func44, Tryd.ntmps44
      go_wp2
      go_ret
      exact ⟨ret_bool (by rw [HV.out]), ((Below.refl _ _).alloc (Nat.le_refl _) _).alloc (by simp) _⟩
    · have HV := Hid.mk (clB_txn (x1 := 2) (x2 := x2) (y1 := 1) (y2 := y2) (z := x0))
      go_enter Tryd.func44, Tryd.ntmps44
      go_wp2
      go_ret
      exact ⟨ret_bool (by rw [HV.out]), ((Below.refl _ _).alloc (Nat.le_refl _) _).alloc (by simp) _⟩
    · have HV := Hid.mk (clB_txn (x1 := 2) (x2 := x2) (y1 := 2) (y2 := y2) (z := x0))
      go_enter Tryd.func44, Tryd.ntmps44
      go_wp2
      go_ret
      exact ⟨ret_bool (by rw [HV.out]), ((Below.refl _ _).alloc (Nat.le_refl _) _).alloc (by simp) _⟩
  · have e0' : (x0 != y0) = true := bne_iff_ne.2 e0
    by_cases e2 : x2 = y2
    · subst e2
      rcases hx with rfl | rfl <;> rcases hy with rfl | rfl
      · have HV : Hid (clB (x0, 1, x2) (y0, 1, x2) = false) := Hid.mk ((clB_kind e0).trans (rfl))
        go_enter Tryd.func44, Tryd.ntmps44
        go_wp2
        go_ret
        exact ⟨ret_bool (by rw [HV.out]), ((Below.refl _ _).alloc (Nat.le_refl _) _).alloc (by simp) _⟩
      · have HV : Hid (clB (x0, 1, x2) (y0, 2, x2) = true) := Hid.mk ((clB_kind e0).trans (rfl))
        go_enter Tryd.func44, Tryd.ntmps44
        go_wp2
        go_ret
        exact ⟨ret_bool (by rw [HV.out]), ((Below.refl _ _).alloc (Nat.le_refl _) _).alloc (by simp) _⟩
      · have HV : Hid (clB (x0, 2, x2) (y0, 1, x2) = true) := Hid.mk ((clB_kind e0).trans (rfl))
        go_enter Tryd.func44, Tryd.ntmps44
        go_wp2
        go_ret
        exact ⟨ret_bool (by rw [HV.out]), ((Below.refl _ _).alloc (Nat.le_refl _) _).alloc (by simp) _⟩
      · have HV : Hid (clB (x0, 2, x2) (y0, 2, x2) = true) := Hid.mk ((clB_kind e0).trans (rfl))
        go_enter Tryd.func44, Tryd.ntmps44
        go_wp2
        go_ret
        exact ⟨ret_bool (by rw [HV.out]), ((Below.refl _ _).alloc (Nat.le_refl _) _).alloc (by simp) _⟩
    · have e2' : (x2 == y2) = false := beq_eq_false_iff_ne.2 e2
      rcases hx with rfl | rfl <;> rcases hy with rfl | rfl
      · have HV := Hid.mk (clB_item (x0 := x0) (x1 := 1) (y0 := y0) (y1 := 1) e2)
        go_enter Tryd.func44, Tryd.ntmps44
        go_wp2
        go_ret
        exact ⟨ret_bool (by rw [HV.out]), ((Below.refl _ _).alloc (Nat.le_refl _) _).alloc (by simp) _⟩
      · have HV := Hid.mk (clB_item (x0 := x0) (x1 := 1) (y0 := y0) (y1 := 2) e2)
        go_enter Tryd.func44, Tryd.ntmps44
        go_wp2
        go_ret
        exact ⟨ret_bool (by rw [HV.out]), ((Below.refl _ _).alloc (Nat.le_refl _) _).alloc (by simp) _⟩
      · have HV := Hid.mk (clB_item (x0 := x0) (x1 := 2) (y0 := y0) (y1 := 1) e2)
        go_enter Tryd.func44, Tryd.ntmps44
        go_wp2
        go_ret
        exact ⟨ret_bool (by rw [HV.out]), ((Below.refl _ _).alloc (Nat.le_refl _) _).alloc (by simp) _⟩
      · have HV := Hid.mk (clB_item (x0 := x0) (x1 := 2) (y0 := y0) (y1 := 2) e2)
        go_enter Tryd.func44, Tryd.ntmps44
        go_wp2
        go_ret
        exact ⟨ret_bool (by rw [HV.out]), ((Below.refl _ _).alloc (Nat.le_refl _) _).alloc (by simp) _⟩

set_option maxRecDepth 100000 in
set_option maxHeartbeats 1000000 in
theorem l13Clash_any (x0 x1 x2 y0 y1 y2 : Int) (w : World) :
    Calls Tryd.prog 40 #[.agg #[.int .i64 x0, .int .i64 x1, .int .i64 x2], .agg #[.int .i64 y0, .int .i64 y1, .int .i64 y2]] w fun e w' => e = .returned (.bool (clB (x0, x1, x2) (y0, y1, y2))) ∧ Below w.heap.size w w' := by
  by_cases e0 : x0 = y0
  · subst e0
    have e0' : (x0 != x0) = false := by simp
    by_cases k1 : x1 = 2
    · subst k1
      have HV := Hid.mk (clB_txn (x1 := 2) (x2 := x2) (y1 := y1) (y2 := y2) (z := x0))
      go_enter Tryd.func40, Tryd.ntmps40
      go_wp2
      go_ret
      exact ⟨ret_bool (by rw [HV.out]), ((Below.refl _ _).alloc (Nat.le_refl _) _).alloc (by simp) _⟩
    · have k1' : (x1 == 2) = false := beq_eq_false_iff_ne.2 k1
      by_cases k2 : y1 = 2
      · subst k2
        have HV := Hid.mk (clB_txn (x1 := x1) (x2 := x2) (y1 := 2) (y2 := y2) (z := x0))
        go_enter Tryd.func40, Tryd.ntmps40
        go_wp2
        go_ret
        exact ⟨ret_bool (by rw [HV.out]), ((Below.refl _ _).alloc (Nat.le_refl _) _).alloc (by simp) _⟩
      · have k2' : (y1 == 2) = false := beq_eq_false_iff_ne.2 k2
        have HV := Hid.mk (clB_txn (x1 := x1) (x2 := x2) (y1 := y1) (y2 := y2) (z := x0))
        go_enter Tryd.func40, Tryd.ntmps40
        go_wp2
        go_ret
        exact ⟨ret_bool (by rw [HV.out]), ((Below.refl _ _).alloc (Nat.le_refl _) _).alloc (by simp) _⟩
  · have e0' : (x0 != y0) = true := bne_iff_ne.2 e0
    by_cases e2 : x2 = y2
    · subst e2
      by_cases k1 : x1 = 2
      · subst k1
        have HV : Hid (clB (x0, 2, x2) (y0, y1, x2) = true) := Hid.mk ((clB_kind e0).trans (by simp))
        go_enter Tryd.func40, Tryd.ntmps40
        go_wp2
        go_ret
        exact ⟨ret_bool (by rw [HV.out]), ((Below.refl _ _).alloc (Nat.le_refl _) _).alloc (by simp) _⟩
      · have k1' : (x1 == 2) = false := beq_eq_false_iff_ne.2 k1
        by_cases k2 : y1 = 2
        · subst k2
          have HV : Hid (clB (x0, x1, x2) (y0, 2, x2) = true) := Hid.mk ((clB_kind e0).trans (by simp))
          go_enter Tryd.func40, Tryd.ntmps40
          go_wp2
          go_ret
          exact ⟨ret_bool (by rw [HV.out]), ((Below.refl _ _).alloc (Nat.le_refl _) _).alloc (by simp) _⟩
        · have k2' : (y1 == 2) = false := beq_eq_false_iff_ne.2 k2
          have HV : Hid (clB (x0, x1, x2) (y0, y1, x2) = false) := Hid.mk ((clB_kind e0).trans (by simp [k1, k2]))
          go_enter Tryd.func40, Tryd.ntmps40
          go_wp2
          go_ret
          exact ⟨ret_bool (by rw [HV.out]), ((Below.refl _ _).alloc (Nat.le_refl _) _).alloc (by simp) _⟩
    · have e2' : (x2 == y2) = false := beq_eq_false_iff_ne.2 e2
      by_cases k1 : x1 = 2
      · subst k1
        have HV := Hid.mk (clB_item (x0 := x0) (x1 := 2) (y0 := y0) (y1 := y1) e2)
        go_enter Tryd.func40, Tryd.ntmps40
        go_wp2
        go_ret
        exact ⟨ret_bool (by rw [HV.out]), ((Below.refl _ _).alloc (Nat.le_refl _) _).alloc (by simp) _⟩
      · have k1' : (x1 == 2) = false := beq_eq_false_iff_ne.2 k1
        by_cases k2 : y1 = 2
        · subst k2
          have HV := Hid.mk (clB_item (x0 := x0) (x1 := x1) (y0 := y0) (y1 := 2) e2)
          go_enter Tryd.func40, Tryd.ntmps40
          go_wp2
          go_ret
          exact ⟨ret_bool (by rw [HV.out]), ((Below.refl _ _).alloc (Nat.le_refl _) _).alloc (by simp) _⟩
        · have k2' : (y1 == 2) = false := beq_eq_false_iff_ne.2 k2
          have HV := Hid.mk (clB_item (x0 := x0) (x1 := x1) (y0 := y0) (y1 := y1) e2)
          go_enter Tryd.func40, Tryd.ntmps40
          go_wp2
          go_ret
          exact ⟨ret_bool (by rw [HV.out]), ((Below.refl _ _).alloc (Nat.le_refl _) _).alloc (by simp) _⟩

end Go.Proofs.YtociphdhkjoofaaDoor

/- Lists of steps that are cut. -/
namespace Go.Proofs.YtociphdhkjoofaaDoor
open Go.RowKit

theorem flat_take {w : World} {b off : Nat} {zs : List Int} (k : Nat) (h : At w (some ⟨b, off, none⟩) zs) : At w (some ⟨b, off, none⟩) (zs.take k) := by
  rcases h with rfl | ⟨b', off', e, hc⟩
  · exact .inl (by simp)
  · refine .inr ⟨b', off', e, fun i hi => ?_⟩
    have hi' : i < zs.length := by have := List.length_take (i := k) (l := zs); omega
    have hik : i < k := by have := List.length_take (i := k) (l := zs); omega
    rw [hc i hi']
    simp [List.getD, hik]
theorem flat_drop {w : World} {b off : Nat} {zs : List Int} (k : Nat) (h : At w (some ⟨b, off, none⟩) zs) : At w (some ⟨b, off + k, none⟩) (zs.drop k) := by
  rcases h with rfl | ⟨b', off', e, hc⟩
  · exact .inl (by simp)
  · simp only [Option.some.injEq, Addr.mk.injEq, and_true] at e
    obtain ⟨rfl, rfl⟩ := e
    refine .inr ⟨b, off + k, rfl, fun i hi => ?_⟩
    have hi' : k + i < zs.length := by simp at hi; omega
    rw [Nat.add_assoc, hc (k + i) hi']
    simp [List.getD]
theorem flStep_take : ∀ (xs : List TStep) (k : Nat), flStep (xs.take k) = (flStep xs).take (k * 3)
  | [], k => by simp [flatF]
  | x :: xs, 0 => by simp [flatF]
  | x :: xs, k + 1 => by
    have ih := flStep_take xs k
    have e : ∀ l, flStep (x :: l) = x.1 :: x.2.1 :: x.2.2 :: flStep l := fun _ => rfl
    rw [List.take_succ_cons, e, e, ih, show (k + 1) * 3 = k * 3 + 1 + 1 + 1 by omega]
    simp only [List.take_succ_cons]
theorem flStep_drop : ∀ (xs : List TStep) (k : Nat), flStep (xs.drop k) = (flStep xs).drop (k * 3)
  | [], k => by simp [flatF]
  | x :: xs, 0 => by simp
  | x :: xs, k + 1 => by
    have ih := flStep_drop xs k
    have e : ∀ l, flStep (x :: l) = x.1 :: x.2.1 :: x.2.2 :: flStep l := fun _ => rfl
    rw [List.drop_succ_cons, e, ih, show (k + 1) * 3 = k * 3 + 1 + 1 + 1 by omega]
    simp only [List.drop_succ_cons]
theorem own_rowC {w : World} {base g n : Nat} {e : TypeId} {xs : List Value} (h : w.ownsRow base e 1 (.slice (some ⟨g, 0, none⟩) n n) n xs) : w.heap[g]? = some (.cells xs.toArray e (0, 0)) := by
  rcases h.2 with ⟨hv, _⟩ | ⟨g', cap, cur, hv, _, hh, _, _, hs, ht⟩
  · cases hv
  · simp only [Value.slice.injEq, Option.some.injEq, Addr.mk.injEq, true_and, and_true] at hv
    obtain ⟨rfl, rfl⟩ := hv
    rw [hh, ← ht, List.take_of_length_le (by simp [hs])]

end Go.Proofs.YtociphdhkjoofaaDoor

/- Contracts of math/bits.TrailingZeros at sets of columns, and of columnSet.list. -/
namespace Go.Proofs.YtociphdhkjoofaaDoor
open Go.RowKit

theorem TabIs.below {P : Program} {w w' : World} {name : String} {k : IntKind} {ns : List Int} (h : Lib.TabIs P w name k ns) (hb : Below w.heap.size w w') : Lib.TabIs P w' name k ns := by
  unfold Lib.TabIs World.var? at *
  cases hg : P.globalNamed name with
  | none => rw [hg] at h; cases h
  | some g =>
    rw [hg] at h
    simp only [Option.bind_some] at h ⊢
    have hlt : g < w.heap.size := by
      by_cases hl : g < w.heap.size
      · exact hl
      · rw [Array.getElem?_eq_none (by omega)] at h
        cases h
    rw [hb.block g hlt]
    exact h

/-- The table that TrailingZeros reads. -/
def deB : List Int := Lib.deBruijn64tab.map Int.ofNat
abbrev TabB (w : World) : Prop := Lib.TabIs Tryd.prog w "math/bits.deBruijn64tab" .u8 deB
theorem gTab : Tryd.prog.globalNamed "math/bits.deBruijn64tab" = some 1 := by kernel_rfl

/-- The first column of a set. -/
def tz (x : Nat) : Nat := ((List.range 6).find? (fun i => x.testBit i)).getD 0
def tzAt (x : Nat) : Nat := (x &&& (18446744073709551616 - x)) * 285870213051353865 % 18446744073709551616 / 288230376151711744
theorem tz_key : ∀ x : Nat, x < 64 → x ≠ 0 → tzAt x < 64 ∧ Lib.deBruijn64tab.getD (tzAt x) 0 = tz x ∧ tz x < 6 := by decide +kernel
theorem bl_step : ∀ x : Nat, x < 64 → x ≠ 0 → bl x = (tz x : Int) :: bl (x &&& (x - 1)) ∧ (x &&& (x - 1)) < x := by decide +kernel
theorem bl_zero : bl 0 = [] := by decide +kernel
theorem deB_at : ∀ i : Nat, i < 64 → deB.getD i 0 = (Lib.deBruijn64tab.getD i 0 : Nat) := by decide +kernel

theorem tz_wrap {x : Nat} (hx : x < 64) (h0 : x ≠ 0) :
    IntKind.u64.wrap (bits BinOp.and IntKind.u64 (x : Int) (IntKind.u64.wrap (-(x : Int))) * 285870213051353865) / 288230376151711744 = (tzAt x : Int) := by
  have e0 : ∀ n : Int, IntKind.u64.wrap n = n % 18446744073709551616 := fun n => by simp [IntKind.wrap, IntKind.bits, IntKind.signed]
  have e1 : IntKind.u64.wrap (-(x : Int)) = ((18446744073709551616 - x : Nat) : Int) := by rw [e0]; omega
  rw [e1, u64_and_nat x _ (by omega) (by omega), e0]
  unfold tzAt
  omega

set_option maxHeartbeats 1000000 in
theorem tz64_any (x : Nat) (w : World) (hx : x < 64) (h0 : x ≠ 0) (ht : TabB w) :
    Calls Tryd.prog 56 #[.int .u64 (x : Nat)] w fun e w' => e = .returned (.int .i64 (tz x : Nat)) ∧ w' = w := by
  obtain ⟨k1, k2, k3⟩ := tz_key x hx h0
  have key := tz_wrap hx h0
  have hc := Lib.TabIs.cell ht gTab (tzAt x) (by show tzAt x < 64; exact k1)
  rw [deB_at _ k1, k2] at hc
  have hb : ((x : Int) == 0) = false := beq_eq_false_iff_ne.2 (by omega)
  obtain ⟨I, hI⟩ : ∃ I, tzAt x = I := ⟨_, rfl⟩
  obtain ⟨Z, hZ⟩ : ∃ Z, tz x = Z := ⟨_, rfl⟩
  rw [hI] at key hc k1
  rw [hZ] at hc k3 ⊢
  clear ht k2 hI hZ
  go_enter Tryd.func56, Tryd.ntmps56
  go_wp2_with (simp only [key])
  go_ret
  exact ⟨rfl, rfl⟩

theorem tz_any (x : Nat) (w : World) (hx : x < 64) (h0 : x ≠ 0) (ht : TabB w) :
    Calls Tryd.prog 50 #[.int .u64 (x : Nat)] w fun e w' => e = .returned (.int .i64 (tz x : Nat)) ∧ w' = w := by
  have K := Hid.mk (tz64_any x w hx h0 ht)
  clear ht
  go_enter Tryd.func50, Tryd.ntmps50
  go_wp2_with fail
  refine K.out.mono ?_
  rintro e w1 ⟨rfl, rfl⟩
  go_wp2
  go_ret
  exact ⟨rfl, rfl⟩

set_option maxRecDepth 100000 in
set_option maxHeartbeats 2000000 in
theorem list_any (S : Nat) (w : World) (hS : S < 64) (ht : TabB w) :
    Calls Tryd.prog 37 #[.int .u64 (S : Nat)] w fun e w' => ∃ r m d, e = .returned (.slice r m d) ∧ (bl S).length = m ∧ w'.ownsRow w.heap.size 3 1 (.slice r m d) m ((bl S).map (.int .i64)) ∧ Below w.heap.size w w' := by
  obtain ⟨i0, hi, hz0, hz1, hz2⟩ := info_parts Tryd.infoInt
  have HT := Hid.mk ht
  clear ht
  go_enter Tryd.func37, Tryd.ntmps37
  go_wp2
  go_loopg [0, 3] S (fun g p q wr => ∃ (s : Nat) (zs : List Int) (r : Option Addr) (m d : Nat), s = g ∧ s < 64 ∧ p = .int .u64 (s : Nat) ∧ q = .slice r m d ∧ bl S = zs ++ bl s ∧ zs.length = m ∧ wr.ownsRow w.heap.size 3 1 (.slice r m d) m (zs.map (.int .i64)) ∧ Below w.heap.size w wr)
  case atStart => exact ⟨S, [], none, 0, 0, rfl, hS, rfl, rfl, rfl, rfl, World.ownsRow_nil _ _ _ _, Below.refl _ _⟩
  case round =>
    obtain ⟨s, zs, r, m, d, rfl, hs, rfl, rfl, hbl, hm, hown, hbw⟩ := hrel
    by_cases h0 : s = 0
    · have HB : Hid (bl S = zs) := by show _ = _; rw [hbl, h0, bl_zero, List.append_nil]
      have hsb : ((s : Int) != 0) = false := by rw [h0]; rfl
      have HO := Hid.mk hown
      have HM := Hid.mk hm
      clear hbl hown hm
      go_wp2
      go_ret
      exact ⟨r, m, d, rfl, by rw [HB.out]; exact HM.out, by rw [HB.out]; exact HO.out, hbw⟩
    · obtain ⟨b1, b2⟩ := bl_step s hs h0
      have hm6 : m ≤ 6 := by have h9 := bl_len S; rw [hbl, List.length_append] at h9; omega
      rw [b1] at hbl
      have hsb : ((s : Int) != 0) = true := bne_iff_ne.2 (by omega)
      have hsub : IntKind.u64.wrap ((s : Int) - 1) = ((s - 1 : Nat) : Int) := by
        rw [show (s : Int) - 1 = ((s - 1 : Nat) : Int) by omega]; exact wrap64_small (by omega)
      have hand := u64_and_nat s (s - 1) (by omega) (by omega)
      have K := Hid.mk (tz_any s wr hs h0 (TabIs.below HT.out hbw))
      obtain ⟨Z, hZ⟩ : ∃ Z, tz s = Z := ⟨_, rfl⟩
      obtain ⟨Q, hQ⟩ : ∃ Q, s &&& (s - 1) = Q := ⟨_, rfl⟩
      rw [hZ] at hbl K
      rw [hQ] at hbl hand b2
      have HBL := Hid.mk hbl
      have HM := Hid.mk hm
      have HO := Hid.mk hown
      have HB := Hid.mk hbw
      have z := hbw.size
      clear hbl hm hown hbw hZ hQ b1 h0
      go_wp2_with fail
      refine K.out.mono ?_
      rintro e w1 ⟨rfl, rfl⟩
      go_wp2_with (at_builtin; refine wpList_append_lies _ rfl (.tmp 6) (.tmp 9) 34 rfl w.heap.size 3 i0 (.int .i64 0) 1 8 Tryd.underlying34 hi hz0 hz1 hz2 rfl (by decide) _ _ _ rfl (HO.out.alloc _) ⟨w1.heap.size, 0, none⟩ 1 1 [.int .i64 (Z : Nat)] rfl rfl (news_at w1 _ _) (by intro u hu; simp at hu; subst hu; rfl) (by decide) (by unfold maxLen; omega) (by omega) (by simp; omega) (w1.heap.size + 1) (by simp) ?_)
      intro g3 cap3 w3 ho3 hg3 hat3 hlt3
      have HB3 : Hid (Below w.heap.size w w3) := (HB.out.alloc z _).grown hg3 (by simp; omega) (fun j hj => (HO.out.lt j hj).1)
      have HO3 : Hid (w3.ownsRow w.heap.size 3 1 (.slice (some ⟨g3, 0, none⟩) (m + 1) cap3) (m + 1) ((zs ++ [(Z : Int)]).map (.int .i64))) := by
        show World.ownsRow _ _ _ _ _ _ _
        rw [List.map_append]; exact ho3
      clear ho3 hg3 hat3 HO HB K
      go_wp2
      go_roundg Q
      case measure => omega
      case rel => exact ⟨Q, zs ++ [(Z : Int)], some ⟨g3, 0, none⟩, m + 1, cap3, rfl, by omega, rfl, rfl, by rw [HBL.out]; simp, by have := HM.out; simp; omega, HO3.out, HB3.out⟩

end Go.Proofs.YtociphdhkjoofaaDoor

/- Lists of numbers that are answered, held as the laws marked them. -/
namespace Go.Proofs.YtociphdhkjoofaaDoor
open Go.RowKit

def IntsRet (e : Ending) (w' : World) (lo : Nat) (ok : Bool) (zs : List Int) : Prop := ∃ r m d, e = .returned (.tuple #[.slice r m d, .bool ok]) ∧ zs.length = m ∧ w'.ownsRow lo 3 1 (.slice r m d) m (zs.map (.int .i64))
theorem ints_at {w : World} {F : Nat → Prop} {a : Option Addr} {n c : Nat} {zs : List Int} (h : RInts.Own w F [.slice a n c] zs) : At w a zs := (RInts.at_iff.1 (RInts.toAt h)).2.2.1
theorem heldInts_rep (a : Option Addr) (n c : Nat) (zs : List Int) (m : Int) (w : World) (hz : zs.length = n) (hn : n ≤ 1048576) (h0 : 0 ≤ m) (h1 : m ≤ 268435456) (ha : At w a (mkInts m zs)) :
    Calls Tryd.prog 19 #[.slice a n c, .int .i64 m] w fun e w' => e = .returned (.int .i64 (m + n)) ∧ Below w.heap.size w w' := by
  unfold mkInts at ha
  rw [hz] at ha
  exact (heldIntS_any a n c m w hn h0 (by omega) ha).mono fun _ _ ⟨h1, h2⟩ => ⟨h1, by first | exact h2 | (rw [h2]; exact Below.refl _ _)⟩

theorem Off.toBelow {lo hi B : Nat} {a b : World} (h : Off (From lo hi) a b) (hlo : B ≤ lo) (hB : B ≤ a.heap.size) : Below B a b := ⟨h.os, h.tape, h.output, h.size, fun k hk => h.block k (by omega) (fun e => by have := e.1; omega)⟩

end Go.Proofs.YtociphdhkjoofaaDoor

/- Lists of numbers that are told, and whether. -/
namespace Go.Proofs.YtociphdhkjoofaaDoor
open Go.RowKit

/-- Lists of columns, and whether. -/
def KeysRet (e : Ending) (w' : World) (lo : Nat) (ok : Bool) (zss : List (List Int)) : Prop := ∃ r m d, e = .returned (.tuple #[.slice r m d, .bool ok]) ∧ RPairs.Own w' (From lo w'.heap.size) [.slice r m d] zss
theorem keysRet_none (w : World) (lo : Nat) {ok : Bool} {ds : List (List Int)} (h1 : ok = false) (h2 : ds = []) : KeysRet (.returned (.tuple #[.slice none 0 0, .bool false])) w lo ok ds := by
  subst h1 h2
  exact ⟨none, 0, 0, rfl, none, 0, 0, [], _, rfl, Laid.none _ _ _ _⟩
theorem atSl_pairK {w : World} {a : Option Addr} {zss : List (List Int)} (h : AtSl RInts w a zss) {k : Nat} {zs : List Int} (hk : zss[k]? = some zs) :
    ∃ b off a' n' c', a = some ⟨b, off, none⟩ ∧ w.cell? ⟨b, off + k, none⟩ = some (.slice a' n' c') ∧ zs.length = n' ∧ n' ≤ 9223372036854775807 ∧ At w a' zs ∧ (a' = none → c' = 0) := by
  have hp : 0 < zss.length := Nat.lt_of_le_of_lt (Nat.zero_le _) (List.getElem?_eq_some_iff.1 hk).1
  obtain ⟨b, off, rfl, hc⟩ := h.each hp
  obtain ⟨cs, h1, a', n', c', rfl, e1, e2, e3, e4⟩ := hc k zs hk
  have g := h1 0 _ rfl
  exact ⟨b, off, a', n', c', rfl, by simpa [RInts, Rep.slice] using g, e1, e2, atSl_int.1 e3, e4⟩
theorem pairs_at {w : World} {F : Nat → Prop} {a : Option Addr} {n c : Nat} {xs : List (List Int)} (h : RPairs.Own w F [.slice a n c] xs) : xs.length = n ∧ AtSl RInts w a xs := by
  obtain ⟨a', n', c', e, h1, _, h3, _⟩ := RPairs.toAt h
  simp only [List.cons.injEq, Value.slice.injEq, and_true] at e
  obtain ⟨rfl, rfl, rfl⟩ := e
  exact ⟨h1, h3⟩

end Go.Proofs.YtociphdhkjoofaaDoor

/- Contract of impl.listsOf. -/
namespace Go.Proofs.YtociphdhkjoofaaDoor
open Go.RowKit

def encK (x : Nat) : Value := .int .u64 (x : Nat)
set_option maxRecDepth 100000 in
set_option maxHeartbeats 2000000 in
theorem listsK_any (base : Nat) (a : Option Addr) (n c : Nat) (ks : List Nat) (w : World) (hz : ks.length = n) (hn : n ≤ 64) (hks : ∀ k ∈ ks, k < 64) (ho : w.ownsRow base 57 1 (.slice a n c) n (ks.map encK)) (ht : TabB w) :
    Calls Tryd.prog 28 #[.slice a n c] w fun e w' => ∃ r m d, e = .returned (.slice r m d) ∧ RPairs.Own w' (From w.heap.size w'.heap.size) [.slice r m d] (ks.map bl) ∧ Below w.heap.size w w' := by
  obtain ⟨k0, hk, hx0, hx1, hx2⟩ := info_parts Tryd.infoInts
  have HT := Hid.mk ht
  have HO := Hid.mk ho
  have HKS := Hid.mk hks
  clear ht ho hks
  go_enter Tryd.func28, Tryd.ntmps28
  go_wp2_with fail
  go_loopw [3, 8] (fun p i wx => ∃ (k : Nat) (r : Option Addr) (d : Nat) (cells : List Value) (G : Nat → Nat → Prop), k ≤ n ∧ i = .int .i64 k ∧ p = .slice r k d ∧ Laid RInts wx (From w.heap.size wx.heap.size) 34 r k d ((ks.take k).map bl) cells G k ∧ Below w.heap.size w wx) (fun _ i _ => n - (intOf i).toNat)
  case atStart => exact ⟨0, none, 0, [], _, Nat.zero_le _, rfl, rfl, Laid.none _ _ _ _, Below.refl _ _⟩
  case round =>
    obtain ⟨k, r, d, cells, G, hkn, rfl, rfl, hlaid, hbw⟩ := hrel
    by_cases hlt : k < n
    · obtain ⟨s, hs⟩ : ∃ s, ks[k]? = some s := ⟨_, List.getElem?_eq_getElem (by omega)⟩
      have hs64 := HKS.out s (List.mem_of_getElem? hs)
      obtain ⟨g, hg⟩ : ∃ g, a = some ⟨g, 0, none⟩ := by
        rcases HO.out.2 with ⟨_, h1⟩ | ⟨g, cap, cur, hv, _⟩
        · omega
        · simp only [Value.slice.injEq, true_and] at hv
          exact ⟨g, hv.1⟩
      subst hg
      have hcx : wr.cell? ⟨g, k, none⟩ = some (.int .u64 (s : Nat)) := cell_later hbw ((HO.out.cellAt k (by omega)).trans (by rw [List.getElem?_map, hs]; rfl))
      have HTK : Hid ((ks.take (k + 1)).map bl = (ks.take k).map bl ++ [bl s]) := by
        show _ = _
        obtain ⟨hh, rfl⟩ := List.getElem?_eq_some_iff.1 hs
        rw [List.take_succ_eq_append_getElem hh, List.map_append]; rfl
      have hki : (k : Int) < (n : Int) := by omega
      have K := Hid.mk (list_any s wr hs64 (TabIs.below HT.out hbw))
      have HLA := Hid.mk hlaid
      have HB := Hid.mk hbw
      have zw := hbw.size
      clear hlaid hbw hs
      go_wp2_with fail
      refine K.out.mono ?_
      rintro e w4 ⟨r3, m3, d3, rfl, hm3, ho3, hb2⟩
      have hm36 : m3 ≤ 6 := by rw [← hm3]; exact bl_len s
      have z4 := hb2.size
      have HOI : Hid (RInts.Own w4 (From wr.heap.size w4.heap.size) [.slice r3 m3 d3] (bl s)) := RInts.of_owns hm3 (by omega) ho3
      have HW : Hid (wr.ownsRow w.heap.size 34 1 (.slice r k d) k cells) := owns_base HLA.out.outer (fun b hb => (HLA.out.outerF b hb).1)
      have HW4 := Hid.mk (owns_below HW.out hb2)
      have HB2 := Hid.mk hb2
      clear ho3 hb2 hm3 K
      go_wp2_with (at_builtin; refine wpList_app_vals rfl (.tmp 12) (.tmp 15) 24 rfl w.heap.size 34 k0 (.slice none 0 0) 1 24 Tryd.underlying24 hk hx0 hx1 hx2 rfl (by decide) (.slice r k d) k cells rfl (HW4.out.alloc _) (some ⟨w4.heap.size, 0, none⟩) 1 1 [.slice r3 m3 d3] rfl rfl (fun ad he => by cases he; simpa using news_at w4 #[.slice r3 m3 d3] 34) (by simp; rfl) (fun h => by cases h) (by unfold maxLen; omega) (by omega) (by simp; omega) ?_)
      intro r4 d4 w5 ho4 hg4 ht4
      have z5 : w4.heap.size < w5.heap.size := by have h9 := hg4.size; simp at h9; omega
      have BG : ∀ b, b < w4.heap.size → (Value.slice r k d).ownBlock ≠ some b → w5.heap[b]? = w4.heap[b]? := fun b hb hn => (hg4.block b (by simp; omega) (fun e => hn e.symm)).trans (Below.heap_alloc w4 _ b hb)
      have hpush := HLA.out.push (F' := From w.heap.size w5.heap.size) (fun b h => h.2) HB2.out HOI.out (fun b h => h) BG (owns_mono ho4 (Nat.zero_le _)) (by
        rcases ht4 with h9 | h9
        · exact .inl h9
        · refine .inr (fun b e => ?_)
          rw [h9] at e
          simp at e
          omega) (by omega) (fun b h => ⟨h.1, by have := h.2; omega⟩) (fun b h => ⟨by have := h.1; omega, by have := h.2; omega⟩) (fun b h => ho4.lt b h)
      obtain ⟨G', HL'⟩ : ∃ G', Hid (Laid RInts w5 (From w.heap.size w5.heap.size) 34 r4 (k + 1) d4 ((ks.take (k + 1)).map bl) (cells ++ [.slice r3 m3 d3]) G' (k + 1)) := by
        rw [HTK.out]
        exact ⟨_, Hid.mk hpush⟩
      have HB' : Hid (Below w.heap.size w w5) := ((HB.out.trans (HB2.out.mono HB.out.size)).alloc (by omega) _).grown hg4 (by simp; omega) (fun j hj => (HW.out.lt j hj).1)
      clear hpush BG ho4 hg4 ht4 HLA HB HB2 HW HW4 HOI
      go_wp2
      go_roundw
      case rel => exact ⟨k + 1, r4, d4, _, G', by omega, by go_num, rfl, HL'.out, HB'.out⟩
      case measure => simp [intOf]; omega
    · obtain rfl : k = n := by omega
      rw [List.take_of_length_le (by omega)] at hlaid
      have hkk : ¬ (k : Int) < (k : Int) := by omega
      have HFIN : Hid (RPairs.Own wr (From w.heap.size wr.heap.size) [.slice r k d] (ks.map bl)) := ⟨_, _, _, cells, G, rfl, hlaid⟩
      clear hlaid
      go_wp2
      go_ret
      exact ⟨r, k, d, rfl, HFIN.out, hbw⟩


end Go.Proofs.YtociphdhkjoofaaDoor

/- The laws' copies of slices of numbers, of slices of numbers, as things that are owned. -/
namespace Go.Proofs.YtociphdhkjoofaaDoor
open Go.RowKit

theorem toInts_rep (a : Option Addr) (n c : Nat) (zs : List Int) (w : World) (hz : zs.length = n) (hn : n ≤ 1048576) (ha : At w a zs) :
    Calls Tryd.prog 21 #[.slice a n c] w fun e w' => ∃ g, e = .returned (.slice (some ⟨g, 0, none⟩) n n) ∧ RInts.Own w' (From w.heap.size w'.heap.size) [.slice (some ⟨g, 0, none⟩) n n] zs ∧ Below w.heap.size w w' :=
  (toIntS_any a n c zs w hz hn ha).mono fun _ _ ⟨h1, h2, h3⟩ => ⟨_, h1, RInts.of_owns hz (by omega) h2, h3⟩
end Go.Proofs.YtociphdhkjoofaaDoor

/- A block of cells that a function holds: what is stored, what stays. -/
namespace Go.Proofs.YtociphdhkjoofaaDoor
open Go.RowKit

theorem blk_set {w : World} {g : Nat} {cs : Array Value} {t : TypeId} (h : w.heap[g]? = some (.cells cs t (0, 0))) (k : Nat) (v : Value) : (w.setCell ⟨g, k, none⟩ v).heap[g]? = some (.cells (cs.setIfInBounds k v) t (0, 0)) := heap_setCell_same w g k cs t v h
theorem blk_cell {w : World} {g : Nat} {cs : Array Value} {t : TypeId} (h : w.heap[g]? = some (.cells cs t (0, 0))) (k : Nat) {v : Value} (hv : cs[k]? = some v) : w.cell? ⟨g, k, none⟩ = some v := by
  rw [cell_of_row w g k _ t (0, 0) h]; exact hv
theorem blk_frozen {w : World} {g : Nat} {cs : Array Value} {t : TypeId} (h : w.heap[g]? = some (.cells cs t (0, 0))) (k : Nat) : w.frozen? ⟨g, k, none⟩ = false := frozen_of_row w g k _ t h
theorem blk_below {w w' : World} {g : Nat} {o : Obj} (h : w.heap[g]? = some o) (hb : Below w.heap.size w w') : w'.heap[g]? = some o := (hb.block g (Array.getElem?_eq_some_iff.1 h).1).trans h
theorem blk_other {w : World} {g : Nat} {o : Obj} (h : w.heap[g]? = some o) {a : Addr} (ha : g ≠ a.block) (v : Value) : (w.setCell a v).heap[g]? = some o := (Below.heap_setCell w a v g ha).trans h
theorem blk_alloc {w : World} {g : Nat} {o : Obj} (h : w.heap[g]? = some o) (o' : Obj) : (w.alloc o').heap[g]? = some o := (Below.heap_alloc w o' g (Array.getElem?_eq_some_iff.1 h).1).trans h

end Go.Proofs.YtociphdhkjoofaaDoor
