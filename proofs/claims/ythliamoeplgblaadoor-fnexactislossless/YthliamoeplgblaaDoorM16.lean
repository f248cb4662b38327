/- Several texts of one proof, in build order: TzI, NouO, GpI. -/
import Derived.Test.YthliamoeplgblaaDoorM15
import Derived.Lib.TrailingZeros
import Derived.Lib.LaidTab
import Derived.Test.YthliamoeplgblaaDoorM11

/- Contracts of math/bits.TrailingZeros at sets of columns, and of columnSet.list. -/
namespace Go.Proofs.YthliamoeplgblaaDoor
open Go.RowKit

theorem TabIs.below {P : Program} {w w' : World} {name : String} {k : IntKind} {ns : List Int} (h : Lib.TabIs P w name k ns) (hb : Below w.heap.size w w') : Lib.TabIs P w' name k ns := by
  unfold Lib.TabIs World.var? at *
  cases hg : P.globalNamed name with
  | none => rw [hg] at h; cases h
  | some g =>
    rw [hg] at h
    simp only [Option.bind_some] at h ⊢
    have hlt : g < w.heap.size := by
      by_cases hl : g < w.heap.size
      · exact hl
      · rw [Array.getElem?_eq_none (by omega)] at h
        cases h
    rw [hb.block g hlt]
    exact h

/-- The table that TrailingZeros reads. -/
def deB : List Int := Lib.deBruijn64tab.map Int.ofNat
abbrev TabB (w : World) : Prop := Lib.TabIs Tryd.prog w "math/bits.deBruijn64tab" .u8 deB
theorem gTab : Tryd.prog.globalNamed "math/bits.deBruijn64tab" = some 1 := by kernel_rfl

/-- The first column of a set. -/
def tz (x : Nat) : Nat := ((List.range 6).find? (fun i => x.testBit i)).getD 0
def tzAt (x : Nat) : Nat := (x &&& (18446744073709551616 - x)) * 285870213051353865 % 18446744073709551616 / 288230376151711744
theorem tz_key : ∀ x : Nat, x < 64 → x ≠ 0 → tzAt x < 64 ∧ Lib.deBruijn64tab.getD (tzAt x) 0 = tz x ∧ tz x < 6 := by decide +kernel
theorem bl_step : ∀ x : Nat, x < 64 → x ≠ 0 → bl x = (tz x : Int) :: bl (x &&& (x - 1)) ∧ (x &&& (x - 1)) < x := by decide +kernel
theorem bl_zero : bl 0 = [] := by decide +kernel
theorem deB_at : ∀ i : Nat, i < 64 → deB.getD i 0 = (Lib.deBruijn64tab.getD i 0 : Nat) := by decide +kernel

theorem tz_wrap {x : Nat} (hx : x < 64) (h0 : x ≠ 0) :
    IntKind.u64.wrap (bits BinOp.and IntKind.u64 (x : Int) (IntKind.u64.wrap (-(x : Int))) * 285870213051353865) / 288230376151711744 = (tzAt x : Int) := by
  have e0 : ∀ n : Int, IntKind.u64.wrap n = n % 18446744073709551616 := fun n => by simp [IntKind.wrap, IntKind.bits, IntKind.signed]
  have e1 : IntKind.u64.wrap (-(x : Int)) = ((18446744073709551616 - x : Nat) : Int) := by rw [e0]; omega
  rw [e1, u64_and_nat x _ (by omega) (by omega), e0]
  unfold tzAt
  omega

set_option maxHeartbeats 1000000 in
theorem tz64_any (x : Nat) (w : World) (hx : x < 64) (h0 : x ≠ 0) (ht : TabB w) :
    Calls Tryd.prog 67 #[.int .u64 (x : Nat)] w fun e w' => e = .returned (.int .i64 (tz x : Nat)) ∧ w' = w := by
  obtain ⟨k1, k2, k3⟩ := tz_key x hx h0
  have key := tz_wrap hx h0
  have hc := Lib.TabIs.cell ht gTab (tzAt x) (by show tzAt x < 64; exact k1)
  rw [deB_at _ k1, k2] at hc
  have hb : ((x : Int) == 0) = false := beq_eq_false_iff_ne.2 (by omega)
  obtain ⟨I, hI⟩ : ∃ I, tzAt x = I := ⟨_, rfl⟩
  obtain ⟨Z, hZ⟩ : ∃ Z, tz x = Z := ⟨_, rfl⟩
  rw [hI] at key hc k1
  rw [hZ] at hc k3 ⊢
  clear ht k2 hI hZ
  go_enter Tryd.func67, Tryd.ntmps67
  go_wp2_with (simp only [key])
  go_ret
  exact ⟨rfl, rfl⟩

theorem tz_any (x : Nat) (w : World) (hx : x < 64) (h0 : x ≠ 0) (ht : TabB w) :
    Calls Tryd.prog 58 #[.int .u64 (x : Nat)] w fun e w' => e = .returned (.int .i64 (tz x : Nat)) ∧ w' = w := by
  have K := Hid.mk (tz64_any x w hx h0 ht)
  clear ht
  go_enter Tryd.func58, Tryd.ntmps58
  go_wp2_with fail
  refine K.out.mono ?_
  rintro e w1 ⟨rfl, rfl⟩
  go_wp2
  go_ret
  exact ⟨rfl, rfl⟩

set_option maxRecDepth 100000 in
set_option maxHeartbeats 2000000 in
theorem list_any (S : Nat) (w : World) (hS : S < 64) (ht : TabB w) :
    Calls Tryd.prog 47 #[.int .u64 (S : Nat)] w fun e w' => ∃ r m d, e = .returned (.slice r m d) ∧ (bl S).length = m ∧ w'.ownsRow w.heap.size 3 1 (.slice r m d) m ((bl S).map (.int .i64)) ∧ Below w.heap.size w w' := by
  obtain ⟨i0, hi, hz0, hz1, hz2⟩ := info_parts Tryd.infoInt
  have HT := Hid.mk ht
  clear ht
  go_enter Tryd.func47, Tryd.ntmps47
  go_wp2
  go_loopg [0, 3] S (fun g p q wr => ∃ (s : Nat) (zs : List Int) (r : Option Addr) (m d : Nat), s = g ∧ s < 64 ∧ p = .int .u64 (s : Nat) ∧ q = .slice r m d ∧ bl S = zs ++ bl s ∧ zs.length = m ∧ wr.ownsRow w.heap.size 3 1 (.slice r m d) m (zs.map (.int .i64)) ∧ Below w.heap.size w wr)
  case atStart => exact ⟨S, [], none, 0, 0, rfl, hS, rfl, rfl, rfl, rfl, World.ownsRow_nil _ _ _ _, Below.refl _ _⟩
  case round =>
    obtain ⟨s, zs, r, m, d, rfl, hs, rfl, rfl, hbl, hm, hown, hbw⟩ := hrel
    by_cases h0 : s = 0
    · have HB : Hid (bl S = zs) := by show _ = _; rw [hbl, h0, bl_zero, List.append_nil]
      have hsb : ((s : Int) != 0) = false := by rw [h0]; rfl
      have HO := Hid.mk hown
      have HM := Hid.mk hm
      clear hbl hown hm
      go_wp2
      go_ret
      exact ⟨r, m, d, rfl, by rw [HB.out]; exact HM.out, by rw [HB.out]; exact HO.out, hbw⟩
    · obtain ⟨b1, b2⟩ := bl_step s hs h0
      have hm6 : m ≤ 6 := by have h9 := bl_len S; rw [hbl, List.length_append] at h9; omega
      rw [b1] at hbl
      have hsb : ((s : Int) != 0) = true := bne_iff_ne.2 (by omega)
      have hsub : IntKind.u64.wrap ((s : Int) - 1) = ((s - 1 : Nat) : Int) := by
        rw [show (s : Int) - 1 = ((s - 1 : Nat) : Int) by omega]; exact wrap64_small (by omega)
      have hand := u64_and_nat s (s - 1) (by omega) (by omega)
      have K := Hid.mk (tz_any s wr hs h0 (TabIs.below HT.out hbw))
      obtain ⟨Z, hZ⟩ : ∃ Z, tz s = Z := ⟨_, rfl⟩
      obtain ⟨Q, hQ⟩ : ∃ Q, s &&& (s - 1) = Q := ⟨_, rfl⟩
      rw [hZ] at hbl K
      rw [hQ] at hbl hand b2
      have HBL := Hid.mk hbl
      have HM := Hid.mk hm
      have HO := Hid.mk hown
      have HB := Hid.mk hbw
      have z := hbw.size
      clear hbl hm hown hbw hZ hQ b1 h0
      go_wp2_with fail
      refine K.out.mono ?_
      rintro e w1 ⟨rfl, rfl⟩
      go_wp2_with (at_builtin; refine wpList_append_lies _ rfl (.tmp 6) (.tmp 9) 43 rfl w.heap.size 3 i0 (.int .i64 0) 1 8 Tryd.underlying43 hi hz0 hz1 hz2 rfl (by decide) _ _ _ rfl (HO.out.alloc _) ⟨w1.heap.size, 0, none⟩ 1 1 [.int .i64 (Z : Nat)] rfl rfl (news_at w1 _ _) (by intro u hu; simp at hu; subst hu; rfl) (by decide) (by unfold maxLen; omega) (by omega) (by simp; omega) (w1.heap.size + 1) (by simp) ?_)
      intro g3 cap3 w3 ho3 hg3 hat3 hlt3
      have HB3 : Hid (Below w.heap.size w w3) := (HB.out.alloc z _).grown hg3 (by simp; omega) (fun j hj => (HO.out.lt j hj).1)
      have HO3 : Hid (w3.ownsRow w.heap.size 3 1 (.slice (some ⟨g3, 0, none⟩) (m + 1) cap3) (m + 1) ((zs ++ [(Z : Int)]).map (.int .i64))) := by
        show World.ownsRow _ _ _ _ _ _ _
        rw [List.map_append]; exact ho3
      clear ho3 hg3 hat3 HO HB K
      go_wp2
      go_roundg Q
      case measure => omega
      case rel => exact ⟨Q, zs ++ [(Z : Int)], some ⟨g3, 0, none⟩, m + 1, cap3, rfl, by omega, rfl, rfl, by rw [HBL.out]; simp, by have := HM.out; simp; omega, HO3.out, HB3.out⟩

end Go.Proofs.YthliamoeplgblaaDoor

/- Contract of impl.noughts: a row that the call made. -/
namespace Go.Proofs.YthliamoeplgblaaDoor
open Go.RowKit

set_option maxRecDepth 100000 in
set_option maxHeartbeats 1000000 in
theorem noughts_own (q : Nat) (w : World) (h6 : q ≤ 6) :
    Calls Tryd.prog 46 #[.int .i64 q] w fun e w' => ∃ g, e = .returned (.agg #[.slice (some ⟨g, 0, none⟩) q q]) ∧ w'.ownsRow w.heap.size 3 1 (.slice (some ⟨g, 0, none⟩) q q) q ((List.replicate q 0).map (.int .i64)) ∧ Below w.heap.size w w' := by
  obtain ⟨i0, hi, hz0, hz1, hz2⟩ := info_parts Tryd.infoInt
  have hbL : Below w.heap.size w (w.alloc (.cells #[.slice none 0 0] 47)) := (Below.refl _ _).alloc (Nat.le_refl _) _
  have c0 : (w.alloc (.cells #[.slice none 0 0] 47)).cell? ⟨w.heap.size, 0, none⟩ = some (.slice none 0 0) := by simp
  have f0 : (w.alloc (.cells #[.slice none 0 0] 47)).frozen? ⟨w.heap.size, 0, none⟩ = false := by simp
  obtain ⟨w2, hr, ho, hg⟩ := run_makeSlice_full (P := Tryd.prog) (w.alloc (.cells #[.slice none 0 0] 47)) (w.heap.size + 1) 43 3 i0 (.int .i64 0) 1 Tryd.underlying43 hi hz0 hz1 .i64 .i64 q (by omega) (by rw [hz2]; omega) (by unfold maxLen; omega) (by simp)
  have hmc : (madeCells (Value.int .i64 0).cells (q * 1)).toList = (List.replicate q 0).map (.int .i64) := by
    have : q = 0 ∨ q = 1 ∨ q = 2 ∨ q = 3 ∨ q = 4 ∨ q = 5 ∨ q = 6 := by omega
    rcases this with rfl | rfl | rfl | rfl | rfl | rfl | rfl <;> simp [madeCells, Value.cells, Array.toList_map, Array.toList_range, List.range, List.range.loop, List.replicate]
  rw [hmc] at ho
  have e2 := hg.cell c0 (by simp)
  have k2 : w2.frozen? ⟨w.heap.size, 0, none⟩ = false := (World.frozen?_of_block (hg.block w.heap.size (by simp) (by simp))).trans f0
  have hb2 : Below w.heap.size w w2 := hbL.grown hg hbL.size (fun j hj => by cases hj)
  have HO := Hid.mk ho
  clear hmc ho hg hbL c0 f0
  simp only [World.size_alloc] at hr
  go_enter Tryd.func46, Tryd.ntmps46
  go_wp2
  refine bodyPost_ret (v := .agg #[.slice (some ⟨w.heap.size + 1, 0, none⟩) q q]) (by simp [results, Tryd.results46, go_sem, e2]) rfl ⟨_, rfl, ?_, ?_⟩
  · have h2 := HO.out
    rw [World.size_alloc] at h2
    exact owns_mono (ownsRow_setCell_below h2 (by show w.heap.size < _; omega) _) (by omega)
  · exact hb2.setCell (by show w.heap.size ≤ w.heap.size; omega) _

end Go.Proofs.YthliamoeplgblaaDoor

/- Contracts of GoodParts, the program's and the model's. -/
namespace Go.Proofs.YthliamoeplgblaaDoor
open Go.RowKit

set_option maxRecDepth 100000 in
set_option maxHeartbeats 4000000 in
theorem implGoodParts (a : Option Addr) (n c : Nat) (zss : List (List Int)) (C : Int) (w : World) (hz : zss.length = n) (hn : n ≤ 9223372036854775807) (ha : AtS w a zss) :
    Calls Tryd.prog 23 #[.slice a n c, .int .i64 C] w fun e w' => e = .returned (.bool (gpB zss C)) ∧ Below w.heap.size w w' := by
  have HZ := Hid.mk hz
  have HA := Hid.mk ha
  clear hz ha
  cases hs : (decide (1 ≤ C) && decide (C ≤ 6)) with
  | false =>
    have HG : Hid (gpB zss C = false) := by show _ = _; unfold gpB; rw [hs]; rfl
    go_enter Tryd.func23, Tryd.ntmps23
    go_wp2_with fail
    refine (someColumns_any C _).mono ?_
    rintro e w1 ⟨rfl, hw1⟩
    obtain rfl := hw1.symm
    rw [hs]
    go_wp2
    go_ret
    exact ⟨by rw [HG.out]; rfl, Below.refl _ _⟩
  | true =>
  have hs' : 1 ≤ C ∧ C ≤ 6 := by simpa using hs
  obtain ⟨q, hq⟩ : ∃ q : Nat, C = (q : Int) := ⟨C.toNat, by omega⟩
  have hq1 : 1 ≤ q := by omega
  have hq6 : q ≤ 6 := by omega
  by_cases c1 : n < 1
  · have c1' : (n : Int) < 1 := by omega
    have HG : Hid (gpB zss C = false) := by show _ = _; unfold gpB; rw [HZ.out, hs, decide_eq_false (by omega : ¬ 1 ≤ n)]; rfl
    clear hs' hq
    go_enter Tryd.func23, Tryd.ntmps23
    go_wp2_with fail
    refine (someColumns_any C _).mono ?_
    rintro e w1 ⟨rfl, hw1⟩
    obtain rfl := hw1.symm
    rw [hs]
    go_wp2
    go_ret
    exact ⟨by rw [HG.out]; rfl, Below.refl _ _⟩
  by_cases c2 : 8 < n
  · have c1' : ¬ (n : Int) < 1 := by omega
    have c2' : (8 : Int) < (n : Int) := by omega
    have HG : Hid (gpB zss C = false) := by show _ = _; unfold gpB; rw [HZ.out, hs, decide_eq_false (by omega : ¬ n ≤ 8)]; simp
    clear hs' hq
    go_enter Tryd.func23, Tryd.ntmps23
    go_wp2_with fail
    refine (someColumns_any C _).mono ?_
    rintro e w1 ⟨rfl, hw1⟩
    obtain rfl := hw1.symm
    rw [hs]
    go_wp2
    go_ret
    exact ⟨by rw [HG.out]; rfl, Below.refl _ _⟩
  have c1' : ¬ (n : Int) < 1 := by omega
  have c2' : ¬ (8 : Int) < (n : Int) := by omega
  have HG : Hid (gpB zss C = (zss.all (prtOk C) && decide (oth q (uni zss) = 0))) := by
    show _ = _; unfold gpB
    rw [HZ.out, hs, decide_eq_true (by omega : 1 ≤ n), decide_eq_true (by omega : n ≤ 8), show C.toNat = q by omega]; rfl
  have HRI : Hid (∀ (zs : List Int), ris C zs = true → mk zs < 64 ∧ ∀ x ∈ zs, 0 ≤ x ∧ x < 6) := fun zs h => ⟨mk_lt hs'.2 h, ris_in hs'.2 h⟩
  have HQ := Hid.mk hq
  clear hs' hq c1 c2
  go_enter Tryd.func23, Tryd.ntmps23
  go_wp2_with fail
  refine (someColumns_any C _).mono ?_
  rintro e w1 ⟨rfl, hw1⟩
  obtain rfl := hw1.symm
  rw [hs]
  clear hs
  go_wp2_with fail
  go_loopw [5, 23] (fun p i wx => ∃ (k S : Nat), k ≤ n ∧ i = .int .i64 k ∧ p = .int .u64 (S : Nat) ∧ S < 64 ∧ S = uni (zss.take k) ∧ zss.all (prtOk C) = (zss.drop k).all (prtOk C) ∧ Below w.heap.size w wx) (fun _ i _ => n - (intOf i).toNat)
  case atStart => exact ⟨0, 0, Nat.zero_le _, rfl, rfl, by omega, rfl, rfl, Below.refl _ _⟩
  case round =>
    obtain ⟨k, S, hk, rfl, rfl, hS, hSu, hall, hbw⟩ := hrel
    by_cases hlt : k < n
    · obtain ⟨zs, hzs⟩ : ∃ zs, zss[k]? = some zs := ⟨_, List.getElem?_eq_getElem (by have := HZ.out; omega)⟩
      obtain ⟨b, off, a', c', rfl, hcx, hm1, hax⟩ := atS_row (AtS.below HA.out hbw) hzs
      rw [allPrt_drop hzs] at hall
      have hun := uni_take hzs
      rw [← hSu] at hun
      obtain ⟨m, hm⟩ : ∃ m, zs.length = m := ⟨_, rfl⟩
      rw [hm] at hcx hm1
      have hki : (k : Int) < (n : Int) := by omega
      have HALL := Hid.mk hall
      have HUN := Hid.mk hun
      have HM := Hid.mk hm
      have HAX := Hid.mk hax
      have HB := Hid.mk hbw
      clear hall hun hm hax hbw hSu hzs
      by_cases h0 : m = 0
      · have HF : Hid (gpB zss C = false) := by show _ = _; rw [HG.out, HALL.out]; unfold prtOk; rw [HM.out, decide_eq_true h0]; simp
        have h0' : ((m : Int) == 0) = true := by rw [h0]; rfl
        clear h0
        go_wp2
        go_ret
        exact ⟨by rw [HF.out]; rfl, HB.out⟩
      · have h0' : ((m : Int) == 0) = false := beq_eq_false_iff_ne.2 (by omega)
        have K := Hid.mk (areRising_any a' m c' zs C wr HM.out hm1 HAX.out)
        have HP : Hid (prtOk C zs = ris C zs) := by show _ = _; unfold prtOk; rw [HM.out, decide_eq_false h0]; simp
        clear h0
        go_wp2_with fail
        refine K.out.mono ?_
        rintro e w2 ⟨rfl, hb2⟩
        have HB2 := Hid.mk (HB.out.trans (hb2.mono HB.out.size))
        have HAX2 := Hid.mk (At.below HAX.out hb2)
        clear hb2 K
        cases hr : ris C zs with
        | false =>
          have HF : Hid (gpB zss C = false) := by show _ = _; rw [HG.out, HALL.out, HP.out, hr]; rfl
          go_wp2
          go_ret
          exact ⟨by rw [HF.out]; rfl, HB2.out⟩
        | true =>
          have HA2 : Hid (zss.all (prtOk C) = (zss.drop (k + 1)).all (prtOk C)) := by show _ = _; rw [HALL.out, HP.out, hr]; rfl
          obtain ⟨hmk, hin⟩ := HRI.out zs hr
          have HIN := Hid.mk hin
          have hor := u64_or_nat S (mk zs) (by omega) (by omega)
          have hlt64 := or_lt64 hS hmk
          obtain ⟨M, hM⟩ : ∃ M, mk zs = M := ⟨_, rfl⟩
          have K2 := Hid.mk (setOf_any a' m c' zs w2 HM.out hm1 HIN.out HAX2.out)
          rw [hM] at hor hlt64 HUN K2
          obtain ⟨Q, hQ⟩ : ∃ Q, S ||| M = Q := ⟨_, rfl⟩
          rw [hQ] at hor hlt64 HUN
          clear hin hmk hM hQ
          go_wp2_with fail
          refine K2.out.mono ?_
          rintro e w3 ⟨rfl, hw3⟩
          obtain rfl := hw3.symm
          clear hw3
          go_wp2
          go_roundw
          case rel => exact ⟨k + 1, Q, by omega, by go_num, rfl, hlt64, HUN.out.symm, HA2.out, HB2.out⟩
          case measure => simp [intOf]; omega
    · obtain rfl : k = n := by omega
      have hki : ¬ (k : Int) < (k : Int) := by omega
      rw [List.take_of_length_le (by have := HZ.out; omega)] at hSu
      rw [List.drop_of_length_le (by have := HZ.out; omega)] at hall
      have HF : Hid (gpB zss C = decide (oth q S = 0)) := by show _ = _; rw [HG.out, hall, hSu]; rfl
      have K := Hid.mk (others_any S q wr hS hq6)
      obtain ⟨O, hO⟩ : ∃ O, oth q S = O := ⟨_, rfl⟩
      rw [hO] at HF K
      have HQ2 : Hid (C = (q : Int)) := HQ.out
      have K2 : Hid (Calls Tryd.prog 45 #[.int .u64 (S : Nat), .int .i64 C] wr fun e w' => e = .returned (.int .u64 (O : Nat)) ∧ w' = wr) := by
        show Calls _ _ _ _ _
        rw [HQ2.out]; exact K.out
      clear hSu hall hO K
      go_wp2_with fail
      refine K2.out.mono ?_
      rintro e w3 ⟨rfl, hw3⟩
      obtain rfl := hw3.symm
      clear hw3
      have HE : Hid (((O : Int) == 0) = decide (O = 0)) := by
        show _ = _
        by_cases e : O = 0
        · subst e; rfl
        · rw [decide_eq_false e]; exact beq_eq_false_iff_ne.2 (by omega)
      go_wp2
      go_ret
      exact ⟨by rw [HF.out, ← HE.out]; rfl, hbw⟩

set_option maxRecDepth 100000 in
set_option maxHeartbeats 4000000 in
theorem specGoodParts (a : Option Addr) (n c : Nat) (zss : List (List Int)) (C : Int) (w : World) (hz : zss.length = n) (hn : n ≤ 1048576) (ht : tot zss n ≤ 1048576) (ha : AtS w a zss) :
    Calls Tryd.prog 20 #[.slice a n c, .int .i64 C] w fun e w' => e = .returned (.bool (gpB zss C)) ∧ Below w.heap.size w w' := by
  have HZ := Hid.mk hz
  have HA := Hid.mk ha
  have HT := Hid.mk ht
  clear hz ha ht
  have HG : Hid (zss.all (prtOk C) = false → gpB zss C = false) := fun h => by unfold gpB; rw [h]; simp
  go_enter Tryd.func20, Tryd.ntmps20
  go_wp2_with fail
  go_loopw [5, 12] (fun p i wx => ∃ (k m : Nat) (r : Option Addr) (d : Nat) (L : List Int), k ≤ n ∧ i = .int .i64 k ∧ p = .slice r m d ∧ L.length = m ∧ m ≤ tot zss k ∧ wx.ownsRow w.heap.size 3 1 (.slice r m d) m (L.map (.int .i64)) ∧ (C ≤ 6 → L = bl (uni (zss.take k)) ∧ uni (zss.take k) < 64 ∧ (0 ≤ C → uni (zss.take k) < 2 ^ C.toNat)) ∧ zss.all (prtOk C) = (zss.drop k).all (prtOk C) ∧ Below w.heap.size w wx) (fun _ i _ => n - (intOf i).toNat)
  case atStart => exact ⟨0, 0, none, 0, [], Nat.zero_le _, rfl, rfl, rfl, Nat.zero_le _, World.ownsRow_nil _ _ _ _, fun _ => ⟨by show [] = bl 0; decide +kernel, by show (0 : Nat) < 64; omega, fun _ => Nat.two_pow_pos _⟩, rfl, Below.refl _ _⟩
  case round =>
    obtain ⟨k, m, r, d, L, hk, rfl, rfl, hm, hmt, hown, hL, hall, hbw⟩ := hrel
    by_cases hlt : k < n
    · obtain ⟨zs, hzs⟩ : ∃ zs, zss[k]? = some zs := ⟨_, List.getElem?_eq_getElem (by have := HZ.out; omega)⟩
      obtain ⟨b, off, a', c', rfl, hcx, hm1, hax⟩ := atS_row (AtS.below HA.out hbw) hzs
      rw [allPrt_drop hzs] at hall
      have hun := uni_take hzs
      have htk := tot_take hzs
      have htm := tot_mono zss (k + 1) n (by omega)
      have hTT := HT.out
      obtain ⟨mz, hmz⟩ : ∃ m, zs.length = m := ⟨_, rfl⟩
      rw [hmz] at hcx hm1 htk
      have hmz20 : mz ≤ 1048576 := by omega
      have hm20 : m + mz ≤ 1048576 := by omega
      have hki : (k : Int) < (n : Int) := by omega
      have HALL := Hid.mk hall
      have HUN := Hid.mk hun
      have HTK := Hid.mk htk
      have HMT := Hid.mk hmt
      have HM := Hid.mk hm
      have HMZ := Hid.mk hmz
      have HL := Hid.mk hL
      have HOW := Hid.mk hown
      have HB := Hid.mk hbw
      have K := Hid.mk (l1Some_any a' mz c' zs C wr hmz hm1 hax)
      have HAX := Hid.mk hax
      clear hall hun htk htm hmt hm hmz hL hown hbw hax hzs hTT
      go_wp2_with fail
      refine K.out.mono ?_
      rintro e w2 ⟨rfl, hb2⟩
      have HB2 := Hid.mk (HB.out.trans (hb2.mono HB.out.size))
      have HAX2 := Hid.mk (At.below HAX.out hb2)
      have HOW2 := Hid.mk (owns_below HOW.out hb2)
      clear hb2 K HOW HAX HB
      cases hr : ris C zs with
      | false =>
        have HF := Hid.mk (HG.out (by rw [HALL.out]; unfold prtOk; rw [hr]; rfl))
        go_wp2
        go_ret
        exact ⟨by rw [HF.out]; rfl, HB2.out⟩
      | true =>
        by_cases h0 : mz = 0
        · have HF := Hid.mk (HG.out (by rw [HALL.out]; unfold prtOk; rw [HMZ.out, decide_eq_true h0]; simp))
          have h0' : ((mz : Int) == 0) = true := by rw [h0]; rfl
          clear h0
          go_wp2
          go_ret
          exact ⟨by rw [HF.out]; rfl, HB2.out⟩
        · have h0' : ((mz : Int) == 0) = false := beq_eq_false_iff_ne.2 (by omega)
          have HA2 : Hid (zss.all (prtOk C) = (zss.drop (k + 1)).all (prtOk C)) := by show _ = _; rw [HALL.out]; unfold prtOk; rw [hr, HMZ.out, decide_eq_false h0]; rfl
          have HRI : Hid (C ≤ 6 → mk zs < 64 ∧ (∀ x ∈ zs, 0 ≤ x ∧ x < 6) ∧ (0 ≤ C → mk zs < 2 ^ C.toNat)) := fun h6 => ⟨mk_lt h6 hr, ris_in h6 hr, fun h0 => mk_limQ (by rw [Int.toNat_of_nonneg h0]; exact hr)⟩
          clear h0
          go_wp2_with fail
          go_loopw [5, 27] (fun p i wx => ∃ (j m' : Nat) (r' : Option Addr) (d' : Nat) (L' : List Int), j ≤ mz ∧ i = .int .i64 j ∧ p = .slice r' m' d' ∧ L'.length = m' ∧ m' ≤ m + j ∧ wx.ownsRow w.heap.size 3 1 (.slice r' m' d') m' (L'.map (.int .i64)) ∧ (C ≤ 6 → L' = bl (uni (zss.take k) ||| mk (zs.take j))) ∧ Below w.heap.size w wx ∧ Below w2.heap.size w2 wx) (fun _ i _ => mz - (intOf i).toNat)
          case atStart => exact ⟨0, m, r, d, L, Nat.zero_le _, rfl, rfl, HM.out, by omega, HOW2.out, fun h6 => by rw [(HL.out h6).1]; simp [mk], HB2.out, Below.refl _ _⟩
          case round =>
            obtain ⟨j, m', r', d', L', hj, rfl, rfl, hm', hmj, hown', hL', hbw', hbz'⟩ := hrel
            by_cases hjlt : j < mz
            · obtain ⟨b4, off4, rfl, hb4, hc4⟩ := (At.below HAX2.out hbz').some (by have := HMZ.out; omega)
              have hcy : wr.cell? ⟨b4, off4 + j, none⟩ = some (.int .i64 (zs.getD j 0)) := hc4 j (by have := HMZ.out; omega)
              have HINS : Hid (C ≤ 6 → insI L' (zs.getD j 0) = bl (uni (zss.take k) ||| mk (zs.take (j + 1)))) := fun h6 => by
                rw [hL' h6]
                exact mk_take_bl (HL.out h6).2.1 (HRI.out h6).2.1 (by have := HMZ.out; omega)
              obtain ⟨y, hy⟩ : ∃ y, y = zs.getD j 0 := ⟨_, rfl⟩
              rw [← hy] at hcy HINS
              have K3 := Hid.mk (l7Put_any w.heap.size r' m' d' L' y wr hm' (by omega) hbw'.size hown')
              have hil := insI_len L' y
              rw [hm'] at hil
              have hji : (j : Int) < (mz : Int) := by omega
              have HBW := Hid.mk hbw'
              have HBZ := Hid.mk hbz'
              obtain ⟨L2, hL2⟩ : ∃ L2, insI L' y = L2 := ⟨_, rfl⟩
              rw [hL2] at K3 HINS hil
              clear hc4 hy hm' hown' hL' hbw' hbz' hL2
              go_wp2_with fail
              refine K3.out.mono ?_
              rintro e w5 ⟨r5, m5, d5, rfl, hm5, ho5, hb5⟩
              have HM5 := Hid.mk hm5
              have HO5 := Hid.mk ho5
              have HB5 := Hid.mk (HBW.out.trans (hb5.mono HBW.out.size))
              have HZ5 := Hid.mk (HBZ.out.trans (hb5.mono HBZ.out.size))
              rw [hm5] at hil
              clear hm5 ho5 hb5 HBW HBZ K3
              go_wp2
              go_roundw
              case rel => exact ⟨j + 1, m5, r5, d5, L2, by omega, by go_num, rfl, HM5.out, by omega, HO5.out, HINS.out, HB5.out, HZ5.out⟩
              case measure => simp [intOf]; omega
            · obtain rfl : j = mz := by omega
              have hji : ¬ (j : Int) < (j : Int) := by omega
              have HL3 : Hid (C ≤ 6 → L' = bl (uni (zss.take (k + 1))) ∧ uni (zss.take (k + 1)) < 64 ∧ (0 ≤ C → uni (zss.take (k + 1)) < 2 ^ C.toNat)) := fun h6 => by
                have e9 : zs.take j = zs := List.take_of_length_le (by have := HMZ.out; omega)
                rw [hL' h6, e9, HUN.out]
                exact ⟨rfl, or_lt64 (HL.out h6).2.1 (HRI.out h6).1, fun h0 => Nat.or_lt_two_pow ((HL.out h6).2.2 h0) ((HRI.out h6).2.2 h0)⟩
              have HM' := Hid.mk hm'
              have HO' := Hid.mk hown'
              have HB' := Hid.mk hbw'
              clear hm' hown' hL' hbw' hbz'
              go_wp2
              go_roundw
              case rel => exact ⟨k + 1, m', r', d', L', by omega, by go_num, rfl, HM'.out, by have := HTK.out; have := HMT.out; omega, HO'.out, HL3.out, HA2.out, HB'.out⟩
              case measure => simp [intOf]; omega
    · obtain rfl : k = n := by omega
      have hki : ¬ (k : Int) < (k : Int) := by omega
      rw [List.take_of_length_le (by have := HZ.out; omega)] at hL
      rw [List.drop_of_length_le (by have := HZ.out; omega)] at hall
      have HALL : Hid (zss.all (prtOk C) = true) := hall
      have HL := Hid.mk hL
      have HM := Hid.mk hm
      clear hown hL hm hmt hall
      go_wp2_with fail
      refine (l1In_any C 1 6 wr).mono ?_
      rintro e w1 ⟨rfl, hw1⟩
      obtain rfl := hw1.symm
      clear hw1
      cases h1 : (decide (1 ≤ C) && decide (C ≤ 6)) with
      | false =>
        have HF : Hid (gpB zss C = false) := by show _ = _; unfold gpB; rw [h1]; rfl
        go_wp2
        go_ret
        exact ⟨by rw [HF.out]; rfl, hbw⟩
      | true =>
        have h1' : 1 ≤ C ∧ C ≤ 6 := by simpa using h1
        have HFB : Hid (gpB zss C = ((decide (1 ≤ k) && decide (k ≤ 8)) && decide (m = C.toNat))) := by
          show _ = _
          obtain ⟨l1, l2, l3⟩ := HL.out h1'.2
          have h9 := oth_full_all C.toNat (by omega) (uni zss) (l3 (by omega)) l2
          rw [← l1, HM.out] at h9
          unfold gpB; rw [h1, HZ.out, HALL.out, ← h9]; rfl
        have hCm : ((m : Int) == C) = decide (m = C.toNat) := by
          by_cases e : m = C.toNat
          · rw [decide_eq_true e]; exact beq_iff_eq.2 (by omega)
          · rw [decide_eq_false e]; exact beq_eq_false_iff_ne.2 (by omega)
        obtain ⟨bq, hbq⟩ : ∃ bq, decide (m = C.toNat) = bq := ⟨_, rfl⟩
        rw [hbq] at HFB hCm
        clear h1' h1 hbq
        have h8 : (decide (1 ≤ (k : Int)) && decide ((k : Int) ≤ 8)) = (decide (1 ≤ k) && decide (k ≤ 8)) := by congr 1 <;> exact decide_eq_decide.2 (by omega)
        go_wp2_with fail
        refine (l1In_any (k : Int) 1 8 wr).mono ?_
        rintro e w1 ⟨rfl, hw1⟩
        obtain rfl := hw1.symm
        clear hw1
        rw [h8]
        cases h2 : (decide (1 ≤ k) && decide (k ≤ 8)) with
        | false =>
          have HF : Hid (gpB zss C = false) := by show _ = _; rw [HFB.out, h2]; rfl
          clear h8
          go_wp2
          go_ret
          exact ⟨by rw [HF.out]; rfl, hbw⟩
        | true =>
          have HF : Hid (gpB zss C = bq) := by show _ = _; rw [HFB.out, h2]; rfl
          clear h8
          go_wp2
          go_ret
          exact ⟨by rw [HF.out]; rfl, hbw⟩

end Go.Proofs.YthliamoeplgblaaDoor
