/- Several texts of one proof, in build order: WitY, DepH. -/
import Derived.Test.YtkcfhlpdenjimaaDoorM14
import Derived.Test.YtkcfhlpdenjimaaDoorM3

/- Contract of the model's WitnessFor. -/
namespace Go.Proofs.YtkcfhlpdenjimaaDoor
open Go.RowKit

theorem wit_good_all : ∀ q : Nat, q < 7 → ∀ T : Nat, T < 64 → oth q T ≠ 0 → goodT (q : Int) (witT q T) = true := by decide +kernel
theorem oth_ne {q T D : Nat} (hq : q ≤ 6) (hT : T < 64) (hD : ∀ i, D.testBit i = true → i < q) (h : sb D T = false) : oth q T ≠ 0 := fun e => by
  have h2 : 2 ^ q ≤ 64 := by have : 2 ^ q ≤ 2 ^ 6 := Nat.pow_le_pow_right (by omega) hq; omega
  have h1 : 1 ≤ 2 ^ q := Nat.one_le_two_pow
  have k := (andNot_sb (a := 2 ^ q - 1) (b := T) (by omega) hT).1 e
  have : sb D T = true := sb_of_bits fun i hi => sb_bit k i (by rw [Nat.testBit_two_pow_sub_one]; exact decide_eq_true (hD i hi))
  rw [h] at this; cases this
theorem ris_bit {c : Int} {l : List Int} {q : Nat} (hc : c = (q : Int)) (h : ris c l = true) : ∀ i, (mk l).testBit i = true → i < q := fun i hi => by
  have := ((risB_mem h).2 _ ((mk_bit l (ris_nonneg h) i).1 hi)).2
  omega
theorem witRow_push (k T : Nat) : witRow (k + 1) T = witRow k T ++ [if T.testBit k then 0 else 1] := by simp [witRow, List.range_succ]
theorem in_bl {T k : Nat} (h : k < 6) : decide ((k : Int) ∈ bl T) = T.testBit k := by
  cases hb : T.testBit k with
  | true => exact decide_eq_true (mem_bl.2 ⟨k, h, hb, rfl⟩)
  | false =>
    refine decide_eq_false (fun h' => ?_)
    obtain ⟨i, _, h2, h3⟩ := mem_bl.1 h'
    obtain rfl : k = i := by omega
    rw [hb] at h2; cases h2

set_option maxRecDepth 100000 in
set_option maxHeartbeats 8000000 in
theorem specWitnessFor (a : Option Addr) (n c : Nat) (xs : List Dep) (C : Int) (fa : Option Addr) (fn fc : Nat) (ta : Option Addr) (tn tc : Nat) (d : Dep) (w : World) (hz : xs.length = n) (hn : n ≤ 1048576) (ha : AtD w a xs) (hd : RDep.At w [.slice fa fn fc, .slice ta tn tc] d) :
    Calls Tryd.prog 18 #[.slice a n c, .int .i64 C, .agg #[.slice fa fn fc, .slice ta tn tc]] w fun e w' => TabAns e w' w.heap.size (witB xs C d) C (witL xs C d) ∧ Below w.heap.size w w' := by
  obtain ⟨i0, hi, hz0, hz1, hz2⟩ := info_parts Tryd.infoInt
  obtain ⟨W, hW⟩ : ∃ W, W = (w.alloc (.cells #[.slice fa fn fc, .slice ta tn tc] 43)).alloc (.cells #[.int .i64 0, .slice none 0 0] 40) := ⟨_, rfl⟩
  have B0 : Below w.heap.size w W := by rw [hW]; exact ((Below.refl _ _).alloc (Nat.le_refl _) _).alloc (by simp) _
  have zW : w.heap.size + 1 < W.heap.size := by rw [hW]; simp
  have q0 : W.cell? ⟨w.heap.size, 0, none⟩ = some (.slice fa fn fc) := by rw [hW]; simp
  have q1 : W.cell? ⟨w.heap.size, 1, none⟩ = some (.slice ta tn tc) := by rw [hW]; simp
  have b1 : W.heap[w.heap.size + 1]? = some (.cells #[.int .i64 0, .slice none 0 0] 40 (0, 0)) := by
    rw [hW]
    have q := heap_alloc_new (w.alloc (.cells #[.slice fa fn fc, .slice ta tn tc] 43)) (.cells #[.int .i64 0, .slice none 0 0] 40)
    simpa only [World.size_alloc] using q
  have K1 := Hid.mk (specImplies a n c xs C fa fn fc ta tn tc d W hz hn (AtSl.below ha B0) (RDep.below hd B0))
  have HA := Hid.mk (AtSl.below ha B0)
  have HD := Hid.mk (RDep.below hd B0)
  have HZ := Hid.mk hz
  clear ha hd hz
  go_enter Tryd.func18, Tryd.ntmps18
  go_wp2_with fail
  rw [← hW]
  clear hW
  refine K1.out.mono ?_
  rintro e w1 ⟨rfl, hb1⟩
  have q0 := cell_later hb1 q0
  have q1 := cell_later hb1 q1
  have b1 := blk_below b1 hb1
  have HA1 := Hid.mk (AtSl.below HA.out hb1)
  have HD1 := Hid.mk (RDep.below HD.out hb1)
  have B1 := B0.trans (hb1.mono B0.size)
  have z1 := hb1.size
  clear hb1 HA HD B0 K1
  have r0 := blk_cell b1 0 (v := .int .i64 0) rfl
  have r1 := blk_cell b1 1 (v := .slice none 0 0) rfl
  have f0 := blk_frozen b1 0
  have f1 := blk_frozen b1 1
  cases hb : impB xs C d with
  | false =>
    have HR : Hid (witB xs C d = false) := by show _ = _; unfold witB; rw [hb]; rfl
    rw [Bool.false_and]
    go_wp2
    refine bodyPost_ret (v := .tuple #[.agg #[.int .i64 0, .slice none 0 0], .bool false]) (by simp [results, Tryd.results18, go_sem, r0, r1]) rfl ⟨TabAns.zero HR.out rfl, ?_⟩
    exact (B1.setCell (by show w.heap.size ≤ w.heap.size + 1; omega) _).setCell (by show w.heap.size ≤ w.heap.size + 1; omega) _
  | true =>
    rw [Bool.true_and]
    cases hv : impV xs d with
    | true =>
      have HR : Hid (witB xs C d = false) := by show _ = _; unfold witB; rw [hb, hv]; rfl
      go_wp2
      refine bodyPost_ret (v := .tuple #[.agg #[.int .i64 0, .slice none 0 0], .bool false]) (by simp [results, Tryd.results18, go_sem, r0, r1]) rfl ⟨TabAns.zero HR.out rfl, ?_⟩
      exact (B1.setCell (by show w.heap.size ≤ w.heap.size + 1; omega) _).setCell (by show w.heap.size ≤ w.heap.size + 1; omega) _
    | false =>
      have hwb : witB xs C d = true := by unfold witB; rw [hb, hv]; rfl
      have hg : goodDeps xs C = true ∧ goodDep C d = true := by unfold impB at hb; simpa using hb
      obtain ⟨hC1, hC6, _⟩ := goodDeps_C hg.1
      obtain ⟨td1, td2⟩ := goodDep_told hC6 hg.2
      obtain ⟨⟨a1, a2, a3, a4⟩, _⟩ := RDep.at_iff HD1.out
      have K2 := Hid.mk (l7Closure_any a n c xs fa fn fc d.1 w1 HZ.out hn (Tolds.of hg.1) HA1.out td1 a1 a3 a4)
      have HWB := Hid.mk hwb
      obtain ⟨q, hq⟩ : ∃ q : Nat, C = (q : Int) := ⟨C.toNat, by omega⟩
      subst hq
      have hq6 : q ≤ 6 := by omega
      have hq1 : 1 ≤ q := by omega
      have hgd2 := hg.2
      simp only [goodDep, Bool.and_eq_true] at hgd2
      have HBIT := Hid.mk (ris_bit rfl hgd2.2)
      have HV := Hid.mk hv
      clear r0 r1 f0 f1 hg td1 td2 a1 a3 a4 hwb HD1 HA1 hv hb hgd2
      go_wp2_with fail
      refine K2.out.mono ?_
      rintro e w4 ⟨U, rl, ml, dl, hU, rfl, hml, hol, hb4⟩
      have HCL := Hid.mk hU
      have hU64 := hU.lt
      have k1 := blk_below b1 hb4
      have B4 := B1.trans (hb4.mono B1.size)
      have z4 := hb4.size
      have HML := Hid.mk hml
      have HOL := Hid.mk hol
      have ml6 : ml ≤ 6 := by rw [← hml]; exact bl_len _
      have hne : oth q U ≠ 0 := oth_ne hq6 hU64 HBIT.out (by have h9 := HV.out; unfold impV at h9; rw [hU.clo_eq] at h9; exact h9)
      have HGT := Hid.mk (wit_good_all q (by omega) U hU64 hne)
      clear hU hb4 B1 K2 hml hol q0 q1 b1 hne HBIT HV
      obtain ⟨X, hX⟩ : ∃ X, X = (w4.alloc (.cells #[.slice none 0 0] 71)).alloc (.cells #[.slice none 0 0] 71) := ⟨_, rfl⟩
      have bX : Below w4.heap.size w4 X := by rw [hX]; exact ((Below.refl _ _).alloc (Nat.le_refl _) _).alloc (by simp) _
      have zX : w4.heap.size + 2 ≤ X.heap.size := by rw [hX]; simp
      have kA : X.heap[w4.heap.size]? = some (.cells #[.slice none 0 0] 71 (0, 0)) := by rw [hX]; exact blk_alloc (heap_alloc_new w4 _) _
      have kB : X.heap[w4.heap.size + 1]? = some (.cells #[.slice none 0 0] 71 (0, 0)) := by
        rw [hX]
        have q := heap_alloc_new (w4.alloc (.cells #[.slice none 0 0] 71)) (.cells #[.slice none 0 0] 71)
        simpa only [World.size_alloc] using q
      have HK := Hid.mk (And.intro kA (And.intro kB (blk_below k1 bX)))
      have HBX := Hid.mk (B4.trans (bX.mono B4.size))
      have HOLX := Hid.mk (owns_below HOL.out bX)
      have HOLT := Hid.mk (fun (b : Nat) (hb : (Value.slice rl ml dl).ownBlock = some b) => (HOL.out.lt b hb).2)
      clear bX kA kB k1 HOL
      go_wp2_with fail
      rw [← hX]
      clear hX
      go_loopw [13] (fun i wr => ∃ (k : Nat) (ra : Option Addr) (da : Nat) (rb : Option Addr) (db : Nat), k ≤ q ∧ i = .int .i64 k ∧ wr.heap[w4.heap.size]? = some (.cells #[.slice ra k da] 71 (0, 0)) ∧ wr.heap[w4.heap.size + 1]? = some (.cells #[.slice rb k db] 71 (0, 0)) ∧ wr.heap[w.heap.size + 1]? = some (.cells #[.int .i64 0, .slice none 0 0] 40 (0, 0)) ∧ wr.ownsRow (w4.heap.size + 2) 3 1 (.slice ra k da) k ((List.replicate k 0).map (.int .i64)) ∧ wr.ownsRow (w4.heap.size + 2) 3 1 (.slice rb k db) k ((witRow k U).map (.int .i64)) ∧ (∀ b, (Value.slice ra k da).ownBlock = some b → (Value.slice rb k db).ownBlock ≠ some b) ∧ wr.ownsRow w1.heap.size 3 1 (.slice rl ml dl) ml ((bl U).map (.int .i64)) ∧ (∀ b, (Value.slice rl ml dl).ownBlock = some b → b < w4.heap.size) ∧ w4.heap.size + 2 ≤ wr.heap.size ∧ Below w.heap.size w wr) (fun i _ => q - (intOf i).toNat)
      case atStart => exact ⟨0, none, 0, none, 0, Nat.zero_le _, rfl, HK.out.1, HK.out.2.1, HK.out.2.2, World.ownsRow_nil _ _ _ _, World.ownsRow_nil _ _ _ _, fun b h => (by cases h), HOLX.out, fun b hb => HOLT.out b hb, by omega, HBX.out⟩
      case round =>
        clear HK HOLX HBX
        obtain ⟨k, ra, da, rb, db, hk, rfl, kA, kB, k1, hoA, hoB, hdis, hol, hlt4, zr, hbw⟩ := hrel
        by_cases hlt : k < q
        · have HOA := Hid.mk hoA
          have HOB := Hid.mk hoB
          have HDIS := Hid.mk hdis
          have HOL := Hid.mk hol
          have HL4 := Hid.mk hlt4
          have HBW := Hid.mk hbw
          have HKB := Hid.mk kB
          have HK1 := Hid.mk k1
          have HKA := Hid.mk kA
          have cA := blk_cell kA 0 (v := .slice ra k da) rfl
          have hki : (k : Int) < (q : Int) := by omega
          clear hoA hoB hdis hol hlt4 hbw kB k1 kA
          go_wp2_with (at_builtin; refine wpList_append_lies _ rfl (.tmp 39) (.tmp 40) 23 rfl (w4.heap.size + 2) 3 i0 (.int .i64 0) 1 8 Tryd.underlying23 hi hz0 hz1 hz2 rfl (by decide) _ _ _ rfl (HOA.out.alloc _) ⟨wr.heap.size, 0, none⟩ 1 1 [.int .i64 0] rfl rfl (news_at wr _ _) (by intro u hu; simp at hu; subst hu; rfl) (by decide) (by unfold maxLen; omega) (by omega) (by simp; omega) (wr.heap.size + 1) (by simp) ?_)
          intro g5 cap5 w5 ho5 hg5 hat5 hlt5
          have z5 : wr.heap.size < w5.heap.size := by have h9 := hg5.size; simp at h9; omega
          have far5 : ∀ b, b < w4.heap.size + 2 → w5.heap[b]? = wr.heap[b]? := fun b hb => (hg5.block b (by simp; omega) (fun e => by have h9 := (HOA.out.lt _ e.symm).1; omega)).trans (Below.heap_alloc wr _ b (by omega))
          have oB5 := (HOB.out.alloc (.cells #[.int .i64 0] 3)).kept hg5 (by
            cases hrb : (Value.slice rb k db).ownBlock with
            | none => exact .inl rfl
            | some b => exact .inr (fun e => HDIS.out b e.symm hrb))
          have oL5 := ownsRow_frame (w' := w5) HOL.out (fun b hb hl => far5 b (by have := HL4.out b hb; omega))
          have dis5 : ∀ b, (Value.slice (some ⟨g5, 0, none⟩) (k + 1) cap5).ownBlock = some b → (Value.slice rb k db).ownBlock ≠ some b := fun b hb e => by
            simp only [Value.ownBlock, Option.some.injEq] at hb
            subst hb
            rcases hat5 with h9 | h9
            · exact HDIS.out _ h9 e
            · have := (HOB.out.lt _ e).2; omega
          obtain ⟨Y, hY⟩ : ∃ Y, Y = w5.setCell ⟨w4.heap.size, 0, none⟩ (.slice (some ⟨g5, 0, none⟩) (k + 1) cap5) := ⟨_, rfl⟩
          have kA5 := (far5 w4.heap.size (by omega)).trans HKA.out
          have cA5 := blk_cell kA5 0 (v := .slice ra k da) rfl
          have fA5 := blk_frozen kA5 0
          have kAY : Y.heap[w4.heap.size]? = some (.cells #[.slice (some ⟨g5, 0, none⟩) (k + 1) cap5] 71 (0, 0)) := by rw [hY]; exact blk_set kA5 0 _
          have kBY : Y.heap[w4.heap.size + 1]? = some (.cells #[.slice rb k db] 71 (0, 0)) := by rw [hY]; exact blk_other ((far5 _ (by omega)).trans HKB.out) (by show w4.heap.size + 1 ≠ w4.heap.size; omega) _
          have k1Y : Y.heap[w.heap.size + 1]? = some (.cells #[.int .i64 0, .slice none 0 0] 40 (0, 0)) := by rw [hY]; exact blk_other ((far5 _ (by omega)).trans HK1.out) (by show w.heap.size + 1 ≠ w4.heap.size; omega) _
          have oAY := Hid.mk (show Y.ownsRow (w4.heap.size + 2) 3 1 (.slice (some ⟨g5, 0, none⟩) (k + 1) cap5) (k + 1) ((List.replicate (k + 1) 0).map (.int .i64)) by
            rw [hY, List.replicate_succ', List.map_append, List.map_replicate]; exact ownsRow_setCell_below ho5 (show (⟨w4.heap.size, 0, none⟩ : Addr).block < w4.heap.size + 2 by show w4.heap.size < w4.heap.size + 2; omega) _)
          have oBY := Hid.mk (show Y.ownsRow (w4.heap.size + 2) 3 1 (.slice rb k db) k ((witRow k U).map (.int .i64)) by rw [hY]; exact ownsRow_setCell_below oB5 (show (⟨w4.heap.size, 0, none⟩ : Addr).block < w4.heap.size + 2 by show w4.heap.size < w4.heap.size + 2; omega) _)
          have oLY := Hid.mk (show Y.ownsRow w1.heap.size 3 1 (.slice rl ml dl) ml ((bl U).map (.int .i64)) by
            rw [hY]; exact ownsRow_frame oL5 (fun b hb _ => Below.heap_setCell _ _ _ _ (by have := HL4.out b hb; show b ≠ w4.heap.size; omega)))
          have zY : w5.heap.size ≤ Y.heap.size := by rw [hY]; simp [World.setCell]
          have BY : Below w.heap.size w Y := by
            rw [hY]; exact ((HBW.out.alloc HBW.out.size _).grown hg5 (by have := HBW.out.size; simp; omega) (fun j hj => by have := (HOA.out.lt j hj).1; omega)).setCell (by show w.heap.size ≤ w4.heap.size; omega) _
          have HDY := Hid.mk dis5
          have HBY := Hid.mk BY
          have HKAY := Hid.mk kAY
          have HKBY := Hid.mk kBY
          have HK1Y := Hid.mk k1Y
          have KH := Hid.mk (l1Has_any rl ml dl (bl U) (k : Int) Y HML.out (by omega) (At.owned oLY.out))
          have hin := in_bl (T := U) (k := k) (by omega)
          rw [hin] at KH
          clear ho5 hg5 hat5 far5 oB5 oL5 dis5 kA5 kAY k1Y BY HOA HOB HDIS HOL HKB HK1 HKA HBW cA hin
          have cB := blk_cell kBY 0 (v := .slice rb k db) rfl
          clear kBY
          go_wp2_with fail
          rw [← hY]
          clear hY cA5 fA5
          refine KH.out.mono ?_
          rintro e w6 ⟨rfl, rfl⟩
          cases hbit : U.testBit k with
          | true =>
            go_wp2_with (at_builtin; refine wpList_append_lies _ rfl (.tmp 47) (.tmp 48) 23 rfl (w4.heap.size + 2) 3 i0 (.int .i64 0) 1 8 Tryd.underlying23 hi hz0 hz1 hz2 rfl (by decide) _ _ _ rfl (oBY.out.alloc _) ⟨w6.heap.size, 0, none⟩ 1 1 [.int .i64 0] rfl rfl (news_at w6 _ _) (by intro u hu; simp at hu; subst hu; rfl) (by decide) (by unfold maxLen; omega) (by omega) (by simp; omega) (w6.heap.size + 1) (by simp) ?_)
            intro g7 cap7 w7 ho7 hg7 hat7 hlt7
            have z7 : w6.heap.size < w7.heap.size := by have h9 := hg7.size; simp at h9; omega
            have far7 : ∀ b, b < w4.heap.size + 2 → w7.heap[b]? = w6.heap[b]? := fun b hb => (hg7.block b (by simp; omega) (fun e => by have h9 := (oBY.out.lt _ e.symm).1; omega)).trans (Below.heap_alloc w6 _ b (by omega))
            have oA7 := (oAY.out.alloc (.cells #[.int .i64 0] 3)).kept hg7 (.inr (fun e => HDY.out g5 rfl e.symm))
            have oL7 := ownsRow_frame (w' := w7) oLY.out (fun b hb hl => far7 b (by have := HL4.out b hb; omega))
            have dis7 : ∀ b, (Value.slice (some ⟨g5, 0, none⟩) (k + 1) cap5).ownBlock = some b → (Value.slice (some ⟨g7, 0, none⟩) (k + 1) cap7).ownBlock ≠ some b := fun b hb e => by
              simp only [Value.ownBlock, Option.some.injEq] at hb e
              subst hb
              subst e
              rcases hat7 with h9 | h9
              · exact HDY.out _ rfl h9
              · have := (oAY.out.lt _ rfl).2; omega
            obtain ⟨Z, hZ⟩ : ∃ Z, Z = w7.setCell ⟨w4.heap.size + 1, 0, none⟩ (.slice (some ⟨g7, 0, none⟩) (k + 1) cap7) := ⟨_, rfl⟩
            have kB7 := (far7 (w4.heap.size + 1) (by omega)).trans HKBY.out
            have cB7 := blk_cell kB7 0 (v := .slice rb k db) rfl
            have fB7 := blk_frozen kB7 0
            have HKBZ := Hid.mk (show Z.heap[w4.heap.size + 1]? = some (.cells #[.slice (some ⟨g7, 0, none⟩) (k + 1) cap7] 71 (0, 0)) by rw [hZ]; exact blk_set kB7 0 _)
            have HKAZ := Hid.mk (show Z.heap[w4.heap.size]? = some (.cells #[.slice (some ⟨g5, 0, none⟩) (k + 1) cap5] 71 (0, 0)) by rw [hZ]; exact blk_other ((far7 _ (by omega)).trans HKAY.out) (by show w4.heap.size ≠ w4.heap.size + 1; omega) _)
            have HK1Z := Hid.mk (show Z.heap[w.heap.size + 1]? = some (.cells #[.int .i64 0, .slice none 0 0] 40 (0, 0)) by rw [hZ]; exact blk_other ((far7 _ (by omega)).trans HK1Y.out) (by show w.heap.size + 1 ≠ w4.heap.size + 1; omega) _)
            have oAZ := Hid.mk (show Z.ownsRow (w4.heap.size + 2) 3 1 (.slice (some ⟨g5, 0, none⟩) (k + 1) cap5) (k + 1) ((List.replicate (k + 1) 0).map (.int .i64)) by rw [hZ]; exact ownsRow_setCell_below oA7 (show (⟨w4.heap.size + 1, 0, none⟩ : Addr).block < w4.heap.size + 2 by show w4.heap.size + 1 < w4.heap.size + 2; omega) _)
            have oBZ := Hid.mk (show Z.ownsRow (w4.heap.size + 2) 3 1 (.slice (some ⟨g7, 0, none⟩) (k + 1) cap7) (k + 1) ((witRow (k + 1) U).map (.int .i64)) by
              rw [hZ, witRow_push, hbit, List.map_append]; exact ownsRow_setCell_below ho7 (show (⟨w4.heap.size + 1, 0, none⟩ : Addr).block < w4.heap.size + 2 by show w4.heap.size + 1 < w4.heap.size + 2; omega) _)
            have oLZ := Hid.mk (show Z.ownsRow w1.heap.size 3 1 (.slice rl ml dl) ml ((bl U).map (.int .i64)) by
              rw [hZ]; exact ownsRow_frame oL7 (fun b hb _ => Below.heap_setCell _ _ _ _ (by have := HL4.out b hb; show b ≠ w4.heap.size + 1; omega)))
            have zZ : w4.heap.size + 2 ≤ Z.heap.size := by rw [hZ]; simp [World.setCell]; omega
            have HBZ := Hid.mk (show Below w.heap.size w Z by
              rw [hZ]; exact ((HBY.out.alloc HBY.out.size _).grown hg7 (by have := HBY.out.size; simp; omega) (fun j hj => by have := (oBY.out.lt j hj).1; omega)).setCell (by show w.heap.size ≤ w4.heap.size + 1; omega) _)
            have HDZ := Hid.mk dis7
            clear ho7 hg7 hat7 far7 oA7 oL7 dis7 kB7 oAY oBY oLY HDY HBY HKAY HKBY HK1Y KH cB
            go_wp2_with fail
            rw [← hZ]
            clear hZ cB7 fB7
            go_wp2
            go_roundw
            case rel => exact ⟨k + 1, _, _, _, _, by omega, by go_num, HKAZ.out, HKBZ.out, HK1Z.out, oAZ.out, oBZ.out, HDZ.out, oLZ.out, HL4.out, zZ, HBZ.out⟩
            case measure => simp [intOf]; omega
          | false =>
            go_wp2_with (at_builtin; refine wpList_append_lies _ rfl (.tmp 52) (.tmp 53) 23 rfl (w4.heap.size + 2) 3 i0 (.int .i64 0) 1 8 Tryd.underlying23 hi hz0 hz1 hz2 rfl (by decide) _ _ _ rfl (oBY.out.alloc _) ⟨w6.heap.size, 0, none⟩ 1 1 [.int .i64 1] rfl rfl (news_at w6 _ _) (by intro u hu; simp at hu; subst hu; rfl) (by decide) (by unfold maxLen; omega) (by omega) (by simp; omega) (w6.heap.size + 1) (by simp) ?_)
            intro g7 cap7 w7 ho7 hg7 hat7 hlt7
            have z7 : w6.heap.size < w7.heap.size := by have h9 := hg7.size; simp at h9; omega
            have far7 : ∀ b, b < w4.heap.size + 2 → w7.heap[b]? = w6.heap[b]? := fun b hb => (hg7.block b (by simp; omega) (fun e => by have h9 := (oBY.out.lt _ e.symm).1; omega)).trans (Below.heap_alloc w6 _ b (by omega))
            have oA7 := (oAY.out.alloc (.cells #[.int .i64 1] 3)).kept hg7 (.inr (fun e => HDY.out g5 rfl e.symm))
            have oL7 := ownsRow_frame (w' := w7) oLY.out (fun b hb hl => far7 b (by have := HL4.out b hb; omega))
            have dis7 : ∀ b, (Value.slice (some ⟨g5, 0, none⟩) (k + 1) cap5).ownBlock = some b → (Value.slice (some ⟨g7, 0, none⟩) (k + 1) cap7).ownBlock ≠ some b := fun b hb e => by
              simp only [Value.ownBlock, Option.some.injEq] at hb e
              subst hb
              subst e
              rcases hat7 with h9 | h9
              · exact HDY.out _ rfl h9
              · have := (oAY.out.lt _ rfl).2; omega
            obtain ⟨Z, hZ⟩ : ∃ Z, Z = w7.setCell ⟨w4.heap.size + 1, 0, none⟩ (.slice (some ⟨g7, 0, none⟩) (k + 1) cap7) := ⟨_, rfl⟩
            have kB7 := (far7 (w4.heap.size + 1) (by omega)).trans HKBY.out
            have cB7 := blk_cell kB7 0 (v := .slice rb k db) rfl
            have fB7 := blk_frozen kB7 0
            have HKBZ := Hid.mk (show Z.heap[w4.heap.size + 1]? = some (.cells #[.slice (some ⟨g7, 0, none⟩) (k + 1) cap7] 71 (0, 0)) by rw [hZ]; exact blk_set kB7 0 _)
            have HKAZ := Hid.mk (show Z.heap[w4.heap.size]? = some (.cells #[.slice (some ⟨g5, 0, none⟩) (k + 1) cap5] 71 (0, 0)) by rw [hZ]; exact blk_other ((far7 _ (by omega)).trans HKAY.out) (by show w4.heap.size ≠ w4.heap.size + 1; omega) _)
            have HK1Z := Hid.mk (show Z.heap[w.heap.size + 1]? = some (.cells #[.int .i64 0, .slice none 0 0] 40 (0, 0)) by rw [hZ]; exact blk_other ((far7 _ (by omega)).trans HK1Y.out) (by show w.heap.size + 1 ≠ w4.heap.size + 1; omega) _)
            have oAZ := Hid.mk (show Z.ownsRow (w4.heap.size + 2) 3 1 (.slice (some ⟨g5, 0, none⟩) (k + 1) cap5) (k + 1) ((List.replicate (k + 1) 0).map (.int .i64)) by rw [hZ]; exact ownsRow_setCell_below oA7 (show (⟨w4.heap.size + 1, 0, none⟩ : Addr).block < w4.heap.size + 2 by show w4.heap.size + 1 < w4.heap.size + 2; omega) _)
            have oBZ := Hid.mk (show Z.ownsRow (w4.heap.size + 2) 3 1 (.slice (some ⟨g7, 0, none⟩) (k + 1) cap7) (k + 1) ((witRow (k + 1) U).map (.int .i64)) by
              rw [hZ, witRow_push, hbit, List.map_append]; exact ownsRow_setCell_below ho7 (show (⟨w4.heap.size + 1, 0, none⟩ : Addr).block < w4.heap.size + 2 by show w4.heap.size + 1 < w4.heap.size + 2; omega) _)
            have oLZ := Hid.mk (show Z.ownsRow w1.heap.size 3 1 (.slice rl ml dl) ml ((bl U).map (.int .i64)) by
              rw [hZ]; exact ownsRow_frame oL7 (fun b hb _ => Below.heap_setCell _ _ _ _ (by have := HL4.out b hb; show b ≠ w4.heap.size + 1; omega)))
            have zZ : w4.heap.size + 2 ≤ Z.heap.size := by rw [hZ]; simp [World.setCell]; omega
            have HBZ := Hid.mk (show Below w.heap.size w Z by
              rw [hZ]; exact ((HBY.out.alloc HBY.out.size _).grown hg7 (by have := HBY.out.size; simp; omega) (fun j hj => by have := (oBY.out.lt j hj).1; omega)).setCell (by show w.heap.size ≤ w4.heap.size + 1; omega) _)
            have HDZ := Hid.mk dis7
            clear ho7 hg7 hat7 far7 oA7 oL7 dis7 kB7 oAY oBY oLY HDY HBY HKAY HKBY HK1Y KH cB
            go_wp2_with fail
            rw [← hZ]
            clear hZ cB7 fB7
            go_wp2
            go_roundw
            case rel => exact ⟨k + 1, _, _, _, _, by omega, by go_num, HKAZ.out, HKBZ.out, HK1Z.out, oAZ.out, oBZ.out, HDZ.out, oLZ.out, HL4.out, zZ, HBZ.out⟩
            case measure => simp [intOf]; omega
        · obtain rfl : k = q := by omega
          obtain ⟨ga, capa, hva⟩ : ∃ g cap, Value.slice ra k da = .slice (some ⟨g, 0, none⟩) k cap := by
            rcases hoA.2 with ⟨_, h9⟩ | ⟨g, cap, cur, h9, _⟩
            · omega
            · exact ⟨g, cap, h9⟩
          obtain ⟨gb, capb, hvb⟩ : ∃ g cap, Value.slice rb k db = .slice (some ⟨g, 0, none⟩) k cap := by
            rcases hoB.2 with ⟨_, h9⟩ | ⟨g, cap, cur, h9, _⟩
            · omega
            · exact ⟨g, cap, h9⟩
          simp only [Value.slice.injEq, true_and] at hva hvb
          obtain ⟨rfl, rfl⟩ := hva
          obtain ⟨rfl, rfl⟩ := hvb
          have hab : ga ≠ gb := fun e => hdis ga rfl (by rw [e]; rfl)
          have hW2 := own_two (te := 74) hoA hoB (by simp) (witRow_len k U) hab (by omega)
          obtain ⟨Y, hY⟩ : ∃ Y, Y = wr.alloc (.cells #[.slice (some ⟨ga, 0, none⟩) k da, .int .i64 1, .slice (some ⟨gb, 0, none⟩) k db, .int .i64 1] 74) := ⟨_, rfl⟩
          rw [← hY] at hW2
          have bY : Below wr.heap.size wr Y := by rw [hY]; exact (Below.refl _ _).alloc (Nat.le_refl _) _
          have kY := blk_below k1 bY
          have zY : wr.heap.size < Y.heap.size := by rw [hY]; simp
          have BY := hbw.trans (bY.mono hbw.size)
          have hlen : ∀ j, j < 2 → (wat (witT k U) j).1.length ≤ 6 := fun j hj => by
            match j, hj with
            | 0, _ => show (List.replicate k 0).length ≤ 6; simp; omega
            | 1, _ => show (witRow k U).length ≤ 6; rw [witRow_len]; omega
          have hAM : AtM Y (some ⟨wr.heap.size, 0, none⟩) (witT k U) := OwnWk.atM hW2 (fun j hj => by have := hlen j hj; show (wat (witT k U) j).1.length ≤ _; omega)
          have KT := Hid.mk (l2Tell_any (some ⟨wr.heap.size, 0, none⟩) 2 2 (witT k U) (k : Int) Y rfl (by omega) (fun j hj => by have := hlen j hj; omega) hAM)
          have cA := blk_cell kA 0 (v := .slice (some ⟨ga, 0, none⟩) k da) rfl
          have cB := blk_cell kB 0 (v := .slice (some ⟨gb, 0, none⟩) k db) rfl
          have HKY := Hid.mk kY
          have HBY := Hid.mk BY
          have hki : ¬ (k : Int) < (k : Int) := by omega
          clear hoA hoB hdis hol hlt4 hbw kA kB k1 bY hW2 hAM kY BY hlen
          go_wp2_with fail
          rw [← hY]
          clear hY
          refine KT.out.mono ?_
          rintro e w8 ⟨⟨r8, m8, d8, cs8, rfl, ho8⟩, hb8⟩
          have k8 := blk_below HKY.out hb8
          have r0 := blk_cell k8 0 (v := .int .i64 0) rfl
          have r1 := blk_cell k8 1 (v := .slice none 0 0) rfl
          have f0 := blk_frozen k8 0
          have f1 := blk_frozen k8 1
          have hp : tellP (k : Int) (witT k U) = (k : Int) := by unfold tellP; rw [HGT.out]; rfl
          have ht : tellT (k : Int) (witT k U) = witT k U := by unfold tellT; rw [HGT.out]; rfl
          rw [ht] at ho8
          rw [hp, HGT.out]
          have B8 := HBY.out.trans (hb8.mono HBY.out.size)
          have HO8 := Hid.mk (OwnWk.stored (R := w.heap.size + 1) (lo' := w.heap.size) ho8 (by have := HBY.out.size; omega) HBY.out.size (.int .i64 (k : Nat)) (.slice r8 m8 d8))
          have HB8 := Hid.mk (show Below w.heap.size w ((w8.setCell ⟨w.heap.size + 1, 0, none⟩ (.int .i64 (k : Nat))).setCell ⟨w.heap.size + 1, 1, none⟩ (.slice r8 m8 d8)) from (B8.setCell (by show w.heap.size ≤ w.heap.size + 1; omega) _).setCell (by show w.heap.size ≤ w.heap.size + 1; omega) _)
          clear ho8 hb8 hp ht B8 KT HBY HKY
          go_wp2
          refine bodyPost_ret (v := .tuple #[.agg #[.int .i64 (k : Nat), .slice r8 m8 d8], .bool true]) (by simp [results, Tryd.results18, go_sem, r0, r1]) rfl ⟨?_, HB8.out⟩
          rw [HWB.out]
          refine ⟨r8, m8, d8, cs8, rfl, ?_⟩
          show OwnW _ w.heap.size _ _ _ _ _ _ (witL xs (k : Int) d) _
          unfold witL
          rw [HCL.out.clo_eq, show (k : Int).toNat = k from rfl]
          exact HO8.out

theorem wit_small (xs : List Dep) (C : Int) (d : Dep) : SmT (ansT (witB xs C d) (witL xs C d)) (ansT (witB xs C d) (witL xs C d)).length := by
  cases h : witB xs C d with
  | false => exact ⟨rfl, by simp [ansT, wtot]⟩
  | true =>
    have hC : C ≤ 6 := by
      unfold witB impB at h
      simp only [Bool.and_eq_true] at h
      exact (goodDeps_C h.1.1).2.1
    refine ⟨rfl, ?_⟩
    show wtot (witL xs C d) 2 ≤ 1048576
    have h9 := wtot_le (M := 6) (ts := witL xs C d) (by
      intro r hr
      unfold witL witT at hr
      simp only [List.mem_cons, List.not_mem_nil, or_false] at hr
      rcases hr with rfl | rfl
      · simp; omega
      · rw [witRow_len]; omega) 2 (Nat.le_refl _)
    omega

end Go.Proofs.YtkcfhlpdenjimaaDoor

/- Contracts of the laws' helpers over dependencies: szDepend, szDependS. -/
namespace Go.Proofs.YtkcfhlpdenjimaaDoor
open Go.RowKit

set_option maxRecDepth 100000 in
set_option maxHeartbeats 1000000 in
theorem szDepend_any (sa : Option Addr) (sn sc : Nat) (pa : Option Addr) (pn pc : Nat) (ss : List Int) (xs : List Int) (l : Int) (w : World) (hs : ss.length = sn) (hsn : sn ≤ 9223372036854775807) (hz : xs.length = pn) (hn : pn ≤ 9223372036854775807) (h0 : 0 ≤ l) (h1 : l ≤ 1048576) :
    Calls Tryd.prog 17 #[.agg #[.slice sa sn sc, .slice pa pn pc], .int .i64 l] w fun e w' => e = .returned (.int .i64 (leftOf l (dcost (ss, xs)))) ∧ Below w.heap.size w w' := by
  have hv : dcost (ss, xs) = sn + pn := by unfold dcost; simp only; rw [hs, hz]
  rw [hv]
  clear hv
  obtain ⟨W, hW⟩ : ∃ W, W = w.alloc (.cells #[.slice sa sn sc, .slice pa pn pc] 36) := ⟨_, rfl⟩
  have B0 : Below w.heap.size w W := by rw [hW]; exact (Below.refl _ _).alloc (Nat.le_refl _) _
  have q1 : W.cell? ⟨w.heap.size, 1, none⟩ = some (.slice pa pn pc) := by rw [hW]; simp
  have HZ := Hid.mk hz
  clear hz hs
  by_cases c1 : l < sn
  · go_enter Tryd.func17, Tryd.ntmps17
    go_wp2_with fail
    rw [← hW]
    clear hW
    refine (szIntS_any sa sn sc l W hsn h0 h1).mono ?_
    rintro e w2 ⟨rfl, rfl⟩
    rw [if_pos c1]
    go_wp2
    go_ret
    exact ⟨ret_int (leftOf_no (by omega)).symm, B0⟩
  by_cases c2 : l - sn < (pn : Int)
  · go_enter Tryd.func17, Tryd.ntmps17
    have d1 : ¬ l - (sn : Int) < 0 := by omega
    go_wp2_with fail
    rw [← hW]
    clear hW
    refine (szIntS_any sa sn sc l W hsn h0 h1).mono ?_
    rintro e w2 ⟨rfl, rfl⟩
    rw [if_neg (by omega)]
    go_wp2_with fail
    refine (szIntS_any pa pn pc (l - sn) _ hn (by omega) (by omega)).mono ?_
    rintro e w3 ⟨rfl, rfl⟩
    rw [if_pos (by omega)]
    go_wp2
    go_ret
    exact ⟨ret_int (leftOf_no (by omega)).symm, B0⟩
  · go_enter Tryd.func17, Tryd.ntmps17
    have d1 : ¬ l - (sn : Int) < 0 := by omega
    have d2 : ¬ l - (sn : Int) - (pn : Int) < 0 := by omega
    go_wp2_with fail
    rw [← hW]
    clear hW
    refine (szIntS_any sa sn sc l W hsn h0 h1).mono ?_
    rintro e w2 ⟨rfl, rfl⟩
    rw [if_neg (by omega)]
    go_wp2_with fail
    refine (szIntS_any pa pn pc (l - sn) _ hn (by omega) (by omega)).mono ?_
    rintro e w3 ⟨rfl, rfl⟩
    rw [if_neg (by omega)]
    go_wp2
    go_ret
    exact ⟨ret_int (by rw [leftOf_yes (by omega)]; omega), B0⟩

set_option maxRecDepth 100000 in
set_option maxHeartbeats 2000000 in
theorem szDependS_any (a : Option Addr) (n c : Nat) (xs : List Dep) (l : Int) (w : World) (hz : xs.length = n) (hn : n ≤ 9223372036854775807) (h0 : 0 ≤ l) (h1 : l ≤ 1048576) (ha : AtD w a xs) :
    Calls Tryd.prog 7 #[.slice a n c, .int .i64 l] w fun e w' => e = .returned (.int .i64 (leftOf l (n + dsum xs n : Nat))) ∧ Below w.heap.size w w' := by
  by_cases hb : l < n
  · have h' : l - (n : Int) < 0 := by omega
    go_enter Tryd.func7, Tryd.ntmps7
    go_wp2
    go_ret
    exact ⟨ret_int (leftOf_no (by omega)).symm, Below.refl _ _⟩
  have h' : ¬ l - (n : Int) < 0 := by omega
  by_cases hn0 : n = 0
  · subst hn0
    have ht : dsum xs 0 = 0 := dsum_zero xs
    go_enter Tryd.func7, Tryd.ntmps7
    go_wp2
    refine wp_loop_rounds 1 ?_
    rw [rounds_succ]
    go_wp2
    go_ret
    exact ⟨ret_int (by rw [ht, leftOf_yes (by omega)]; omega), Below.refl _ _⟩
  · go_enter Tryd.func7, Tryd.ntmps7
    go_wp2
    go_loopw [1, 5] (fun q i wr => ∃ (k : Nat) (r : Int), k ≤ n ∧ i = .int .i64 k ∧ q = .int .i64 r ∧ 0 ≤ r ∧ r ≤ 1048576 ∧ r + dsum xs k = l - n ∧ Below w.heap.size w wr) (fun _ i _ => n - (intOf i).toNat)
    case atStart => exact ⟨0, l - n, Nat.zero_le _, rfl, rfl, by omega, by omega, by rw [dsum_zero]; omega, Below.refl _ _⟩
    case round =>
      obtain ⟨k, r, hk, rfl, rfl, hr0, hr1, hr, hbw⟩ := hrel
      by_cases hlt : k < n
      · obtain ⟨b, off, rfl, _, hc⟩ := AtD.row (AtSl.below ha hbw) (by omega)
        obtain ⟨⟨xf, xt⟩, hx⟩ : ∃ x, xs[k]? = some x := ⟨_, List.getElem?_eq_getElem (by omega)⟩
        obtain ⟨fa, fn, fc, ta, tn, tc, g0, g1, ⟨t1, t2, _⟩, ⟨u1, u2, _⟩⟩ := hc k _ hx
        have hts := dsum_succ hx
        have htm := dsum_mono xs (k + 1) n (by omega)
        have HR := Hid.mk hr
        have HT := Hid.mk hts
        have HM := Hid.mk htm
        have HX1 := Hid.mk t1
        have HX2 := Hid.mk u1
        have hki : (k : Int) < (n : Int) := by omega
        clear hc hr hts ha htm hx t1 u1
        by_cases hfit : r < dcost (xf, xt)
        · go_wp2_with fail
          refine (szDepend_any fa fn fc ta tn tc xf xt r wr HX1.out t2 HX2.out u2 hr0 hr1).mono ?_
          rintro e w' ⟨rfl, hb'⟩
          rw [leftOf_no hfit]
          go_wp2
          go_ret
          exact ⟨ret_int (leftOf_no (by have := HR.out; have := HT.out; have := HM.out; omega)).symm, hbw.trans (hb'.mono hbw.size)⟩
        · have hd : ¬ r - (dcost (xf, xt) : Int) < 0 := by omega
          go_wp2_with fail
          refine (szDepend_any fa fn fc ta tn tc xf xt r wr HX1.out t2 HX2.out u2 hr0 hr1).mono ?_
          rintro e w' ⟨rfl, hb'⟩
          rw [leftOf_yes (by omega)]
          go_wp2
          go_roundw
          case rel => exact ⟨k + 1, r - dcost (xf, xt), by omega, by go_num, rfl, by omega, by omega, by have := HR.out; have := HT.out; omega, hbw.trans (hb'.mono hbw.size)⟩
          case measure => simp [intOf]; omega
      · obtain rfl : k = n := by omega
        have HR := Hid.mk hr
        clear hr
        go_wp2
        go_ret
        exact ⟨ret_int (by have := HR.out; rw [leftOf_yes (by omega)]; omega), hbw⟩

end Go.Proofs.YtkcfhlpdenjimaaDoor
