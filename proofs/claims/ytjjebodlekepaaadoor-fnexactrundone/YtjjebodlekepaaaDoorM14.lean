/- Several texts of one proof, in build order: CtI, RdI, InsP, CloM. -/
import Derived.Test.YtjjebodlekepaaaDoorShelfQ
import Derived.Test.YtjjebodlekepaaaDoorM0
import Derived.Test.YtjjebodlekepaaaDoorM12
import Derived.Test.YtjjebodlekepaaaDoorM5
import Derived.Test.YtjjebodlekepaaaDoorM11
import Derived.Test.YtjjebodlekepaaaDoorM6

/- Contract of slices.Contains at numbers. -/
namespace Go.Proofs.YtjjebodlekepaaaDoor
open Go.RowKit

theorem containsI_any (a : Option Addr) (n c : Nat) (zs : List Int) (x : Int) (w : World) (hz : zs.length = n) (hn : n ≤ 9223372036854775807) (ha : At w a zs) :
    Calls Tryd.prog 46 #[.slice a n c, .int .i64 x] w fun e w' => e = .returned (.bool (decide (x ∈ zs))) ∧ w' = w := by
  by_cases h0 : n = 0
  · subst h0
    obtain rfl := List.eq_nil_of_length_eq_zero hz
    exact (Tryd.slices_Contains_int_empty a c x w).mono fun _ _ ⟨h1, h2⟩ => ⟨by rw [h1]; simp, h2⟩
  · obtain ⟨b, off, rfl, _, hc⟩ := ha.some (by omega)
    exact (Tryd.slices_Contains_int b off n c zs x w (by omega) hn hc).mono fun _ _ ⟨h1, h2⟩ => ⟨by rw [h1, List.take_of_length_le (by omega)]; simp, h2⟩

end Go.Proofs.YtjjebodlekepaaaDoor

/- Contract of impl.RunDone. -/
namespace Go.Proofs.YtjjebodlekepaaaDoor
open Go.RowKit

set_option maxRecDepth 100000 in
set_option maxHeartbeats 4000000 in
theorem implRunDone (a0 : Option Addr) (a1 : Option Addr) (a2 : Option Addr) (a3 : Option Addr) (a4 : Option Addr) (n0 c0 n1 c1 n2 c2 n3 c3 n4 c4 : Nat) (x0 x1 x2 : List TStep) (x3 x4 : List Int) (w : World) (hz0 : x0.length = n0) (hs0 : n0 ≤ 1048576) (hc0 : n0 ≤ c0) (hF0 : a0 = none → c0 = 0) (ha0 : At w a0 (flStep x0)) (hz1 : x1.length = n1) (hs1 : n1 ≤ 1048576) (hc1 : n1 ≤ c1) (hF1 : a1 = none → c1 = 0) (ha1 : At w a1 (flStep x1)) (hz2 : x2.length = n2) (hs2 : n2 ≤ 1048576) (hc2 : n2 ≤ c2) (hF2 : a2 = none → c2 = 0) (ha2 : At w a2 (flStep x2)) (hz3 : x3.length = n3) (hs3 : n3 ≤ 1048576) (hc3 : n3 ≤ c3) (hF3 : a3 = none → c3 = 0) (ha3 : At w a3 x3) (hz4 : x4.length = n4) (hs4 : n4 ≤ 1048576) (hc4 : n4 ≤ c4) (hF4 : a4 = none → c4 = 0) (ha4 : At w a4 x4) (ht : TabB w) :
    Calls Tryd.prog 19 #[.agg #[.slice a0 n0 c0, .slice a1 n1 c1, .slice a2 n2 c2, .slice a3 n3 c3, .slice a4 n4 c4]] w fun e w' => StepsRet e w' w.heap.size (glB (x0, x1, x2, x3, x4)) (rdL (x0, x1, x2, x3, x4)) ∧ Below w.heap.size w w' := by
  obtain ⟨s0, hs0_, ht0, ht1, ht2⟩ := info_parts Tryd.infFStep
  obtain ⟨W, hW⟩ : ∃ W, W = w.alloc (.cells #[.slice a0 n0 c0, .slice a1 n1 c1, .slice a2 n2 c2, .slice a3 n3 c3, .slice a4 n4 c4] 30) := ⟨_, rfl⟩
  have B0 : Below w.heap.size w W := by rw [hW]; exact (Below.refl _ _).alloc (Nat.le_refl _) _
  have p0 : W.cell? ⟨w.heap.size, 0, none⟩ = some (.slice a0 n0 c0) := by rw [hW]; simp
  have p1 : W.cell? ⟨w.heap.size, 1, none⟩ = some (.slice a1 n1 c1) := by rw [hW]; simp
  have p2 : W.cell? ⟨w.heap.size, 2, none⟩ = some (.slice a2 n2 c2) := by rw [hW]; simp
  have p3 : W.cell? ⟨w.heap.size, 3, none⟩ = some (.slice a3 n3 c3) := by rw [hW]; simp
  have p4 : W.cell? ⟨w.heap.size, 4, none⟩ = some (.slice a4 n4 c4) := by rw [hW]; simp
  have HP0 := Hid.mk p0
  have HP1 := Hid.mk p1
  have HP2 := Hid.mk p2
  have HP3 := Hid.mk p3
  have HP4 := Hid.mk p4
  have KG := Hid.mk (implGoodLocks a0 a1 a2 a3 a4 n0 c0 n1 c1 n2 c2 n3 c3 n4 c4 x0 x1 x2 x3 x4 W hz0 hs0 hc0 hF0 (At.below ha0 B0) hz1 hs1 hc1 hF1 (At.below ha1 B0) hz2 hs2 hc2 hF2 (At.below ha2 B0) hz3 hs3 hc3 hF3 (At.below ha3 B0) hz4 hs4 hc4 hF4 (At.below ha4 B0) (TabIs.below ht B0))
  have HBW := Hid.mk B0
  have HA0 := Hid.mk (At.below ha0 HBW.out)
  have HZ0 := Hid.mk hz0
  clear ha0 hz0
  have HA1 := Hid.mk (At.below ha1 HBW.out)
  have HZ1 := Hid.mk hz1
  clear ha1 hz1
  have HA2 := Hid.mk (At.below ha2 HBW.out)
  have HZ2 := Hid.mk hz2
  clear ha2 hz2
  have HA3 := Hid.mk (At.below ha3 HBW.out)
  have HZ3 := Hid.mk hz3
  clear ha3 hz3
  have HA4 := Hid.mk (At.below ha4 HBW.out)
  have HZ4 := Hid.mk hz4
  clear ha4 hz4
  clear B0 ht
  go_enter Tryd.func19, Tryd.ntmps19
  go_wp2_with fail
  rw [← hW]
  clear hW
  refine KG.out.mono ?_
  rintro e w1 ⟨rfl, hb1⟩
  have p0 := cell_later hb1 p0
  have p1 := cell_later hb1 p1
  have p2 := cell_later hb1 p2
  have p3 := cell_later hb1 p3
  have p4 := cell_later hb1 p4
  have HB1 := Hid.mk hb1
  clear hb1 KG
  cases hg : glB (x0, x1, x2, x3, x4) with
  | false =>
    have HR : Hid (rdL (x0, x1, x2, x3, x4) = []) := Hid.mk (by unfold rdL; rw [hg]; rfl)
    have HG := Hid.mk hg
    have HB2 := Hid.mk (HBW.out.trans (HB1.out.mono HBW.out.size))
    go_wp2
    refine bodyPost_ret (v := .tuple #[.slice none 0 0, .bool false]) (by simp [results, Tryd.results19, go_sem]) rfl ⟨by rw [HR.out, HG.out]; exact StepsRet.no, HB2.out⟩
  | true =>
    have hn40 : n2 ≤ 40 := by have := gp_len (gl_run hg); have := HZ2.out; omega
    have HG := Hid.mk hg
    have HRD : Hid (rdL (x0, x1, x2, x3, x4) = ofD x3 x2) := Hid.mk (by unfold rdL; rw [hg]; rfl)
    clear hg
    go_wp2
    go_loopw [4, 13] (fun p i wr => ∃ (k m : Nat) (r : Option Addr) (d : Nat), k ≤ n2 ∧ i = .int .i64 k ∧ p = .slice r m d ∧ (ofD x3 (x2.take k)).length = m ∧ wr.ownsRow W.heap.size 51 3 (.slice r m d) m ((flStep (ofD x3 (x2.take k))).map (.int .i64)) ∧ Below W.heap.size W wr) (fun _ i _ => n2 - (intOf i).toNat)
    case atStart => exact ⟨0, 0, none, 0, Nat.zero_le _, rfl, rfl, rfl, World.ownsRow_nil _ _ _ _, HB1.out⟩
    case round =>
      clear HB1
      obtain ⟨k, m, r, d, hk, rfl, rfl, hm, ho, hbW⟩ := hrel
      obtain ⟨wY, rfl⟩ : ∃ x, x = wr := ⟨_, rfl⟩
      have hm40 : m ≤ 40 := by rw [← hm]; exact Nat.le_trans (List.length_filter_le _ _) (by rw [List.length_take]; have := HZ2.out; omega)
      by_cases hlt : k < n2
      · obtain ⟨⟨y0, y1, y2⟩, hx⟩ : ∃ x, x2[k]? = some x := ⟨_, List.getElem?_eq_getElem (by have := HZ2.out; omega)⟩
        obtain ⟨b, off, rfl, hb, hc⟩ := flStep_some HA2.out (by have := HZ2.out; omega)
        obtain ⟨e0, e1, e2⟩ := hc k _ hx
        have e0 := cell_later hbW e0
        have e1 := cell_later hbW e1
        have e2 := cell_later hbW e2
        simp only at e0 e1 e2
        have hki : (k : Int) < (n2 : Int) := by omega
        have p3 := cell_later hbW HP3.out
        obtain ⟨V, hV⟩ : ∃ V, V = wY.alloc (.cells #[.int .i64 y0, .int .i64 y1, .int .i64 y2] 51) := ⟨_, rfl⟩
        have hbV : Below wY.heap.size wY V := by rw [hV]; exact (Below.refl _ _).alloc (Nat.le_refl _) _
        have v0 : V.cell? ⟨wY.heap.size, 0, none⟩ = some (.int .i64 y0) := by rw [hV]; simp
        have v1 : V.cell? ⟨wY.heap.size, 1, none⟩ = some (.int .i64 y1) := by rw [hV]; simp
        have v2 : V.cell? ⟨wY.heap.size, 2, none⟩ = some (.int .i64 y2) := by rw [hV]; simp
        have p3 := cell_later hbV p3
        have HBV := Hid.mk (hbW.trans (hbV.mono hbW.size))
        have HO := Hid.mk (owns_below ho hbV)
        have HTK := Hid.mk (ofD_take (D := x3) hx)
        have KC := Hid.mk (containsI_any a3 n3 c3 x3 y0 V HZ3.out (by omega) (At.below HA3.out HBV.out))
        have HM := Hid.mk hm
        clear hc hx hbW hbV ho hm
        obtain ⟨A, hA⟩ : ∃ A, ofD x3 (x2.take k) = A := ⟨_, rfl⟩
        rw [hA] at HO HTK HM
        clear hA
        go_upto_region 7 with fail
        rw [← hV]
        clear hV e0 e1 e2
        by_cases hin : y0 ∈ x3
        · rw [decide_eq_true hin] at KC
          have HN : Hid (ofD x3 (x2.take (k + 1)) = A ++ [(y0, y1, y2)]) := Hid.mk (by rw [HTK.out, if_pos hin])
          have HFL : Hid ((flStep (A ++ [(y0, y1, y2)])).map (Value.int .i64) = (flStep A).map (.int .i64) ++ [.int .i64 y0, .int .i64 y1, .int .i64 y2]) := Hid.mk (by simp [flatF, enStep])
          clear hin
          go_wp2_with fail
          refine KC.out.mono ?_
          rintro e w9 ⟨rfl, hw9⟩
          obtain rfl := hw9.symm
          clear hw9 KC
          obtain ⟨LS, hLS⟩ : ∃ LS, (flStep A).map (Value.int .i64) = LS := ⟨_, rfl⟩
          rw [hLS] at HO HFL
          clear hLS
          go_wp2_with (at_builtin; refine wpList_app_vals rfl (.tmp 22) (.tmp 24) 28 rfl W.heap.size 51 s0 (.agg #[.int .i64 0, .int .i64 0, .int .i64 0]) 3 24 Tryd.underlying28 hs0_ ht0 ht1 ht2 rfl (by decide) (.slice r m d) m LS rfl (owns_below HO.out ((Below.refl _ _).alloc (Nat.le_refl _) _)) (some ⟨V.heap.size, 0, none⟩) 1 1 [.int .i64 y0, .int .i64 y1, .int .i64 y2] rfl rfl (fun ad he j u hu => by obtain rfl := Option.some.inj he; exact news_at V _ _ j u hu) (by intro u hu; simp at hu; rcases hu with rfl | rfl | rfl <;> rfl) (fun h => by cases h) (by unfold maxLen; omega) (by omega) (by have := HBV.out.size; simp; omega) ?_; intro r2 d2 w4 ho4 hg4 ht4; have HBW4 : Hid (Below W.heap.size W w4) := Hid.mk ((HBV.out.alloc HBV.out.size _).grown hg4 (by have := HBV.out.size; simp; omega) (fun j hj => (HO.out.lt j hj).1)); have HO4 := Hid.mk ho4; clear ho4 hg4 ht4 HO)
          go_roundw
          case rel => exact ⟨k + 1, m + 1, r2, d2, by omega, by go_num, rfl, by rw [HN.out, List.length_append, HM.out]; rfl, by rw [HN.out, HFL.out]; exact HO4.out, HBW4.out⟩
          case measure => simp [intOf]; omega
        · rw [decide_eq_false hin] at KC
          have HN : Hid (ofD x3 (x2.take (k + 1)) = A) := Hid.mk (by rw [HTK.out, if_neg hin, List.append_nil])
          clear hin
          go_wp2_with fail
          refine KC.out.mono ?_
          rintro e w9 ⟨rfl, hw9⟩
          obtain rfl := hw9.symm
          clear hw9 KC
          go_wp2
          go_roundw
          case rel => exact ⟨k + 1, m, r, d, by omega, by go_num, rfl, by rw [HN.out]; exact HM.out, by rw [HN.out]; exact HO.out, HBV.out⟩
          case measure => simp [intOf]; omega
      · obtain rfl : n2 = k := by omega
        have hki : ¬ (n2 : Int) < (n2 : Int) := by omega
        rw [List.take_of_length_le (by have := HZ2.out; omega)] at hm ho
        have HM := Hid.mk hm
        have HO := Hid.mk ho
        have HB := Hid.mk (HBW.out.trans (hbW.mono HBW.out.size))
        clear hm ho hbW
        go_wp2
        refine bodyPost_ret (v := .tuple #[.slice r m d, .bool true]) (by simp [results, Tryd.results19, go_sem]) rfl ⟨⟨r, m, d, by rw [HG.out], by rw [HRD.out]; exact HM.out, by rw [HRD.out]; exact owns_mono HO.out HBW.out.size⟩, HB.out⟩

end Go.Proofs.YtjjebodlekepaaaDoor

/- Plain: a number put to its place in a rising list, as sets of columns tell it. -/
namespace Go.Proofs.YtjjebodlekepaaaDoor
open Go.RowKit

/-- A number put to its place, once: ahead of the first that is not less. -/
def lessN (n : Int) : List Int → Nat
  | [] => 0
  | z :: zs => if z < n then lessN n zs + 1 else 0
def insI (l : List Int) (n : Int) : List Int := if n ∈ l then l else l.take (lessN n l) ++ n :: l.drop (lessN n l)
theorem lessN_le (n : Int) : ∀ l, lessN n l ≤ l.length
  | [] => Nat.le_refl _
  | z :: zs => by unfold lessN; split; have := lessN_le n zs; simp; omega; simp
theorem lessN_is (n : Int) : ∀ (l : List Int) (k : Nat), k ≤ l.length → (∀ j, j < k → l.getD j 0 < n) → (k < l.length → ¬ l.getD k 0 < n) → lessN n l = k
  | [], k, h, _, _ => by simp at h; simp [lessN, h]
  | z :: zs, 0, _, _, h => by have := h (by simp); simp at this; unfold lessN; rw [if_neg (by omega)]
  | z :: zs, k + 1, h1, h2, h3 => by
    have h0 := h2 0 (by omega)
    simp at h0
    unfold lessN
    rw [if_pos h0, lessN_is n zs k (by simpa using h1) (fun j hj => by simpa using h2 (j + 1) (by omega)) (fun hk => by simpa using h3 (by simpa using hk))]
theorem insI_yes {l : List Int} {n : Int} (h : n ∈ l) : insI l n = l := if_pos h
theorem insI_no {l : List Int} {n : Int} (h : ¬ n ∈ l) : insI l n = l.take (lessN n l) ++ n :: l.drop (lessN n l) := if_neg h
theorem insI_bl_all : ∀ s : Nat, s < 64 → ∀ n : Nat, n < 6 → insI (bl s) (n : Int) = bl (s ||| 2 ^ n) := by decide +kernel
theorem insI_bl {s : Nat} {n : Int} (hs : s < 64) (h0 : 0 ≤ n) (h1 : n < 6) : insI (bl s) n = bl (s ||| 2 ^ n.toNat) := by
  have := insI_bl_all s hs n.toNat (by omega)
  rw [Int.toNat_of_nonneg h0] at this
  exact this
theorem len_bl_all : ∀ s : Nat, s < 64 → ∀ t : Nat, t < 64 → sb s t = true → (bl t).length = (bl s).length → t = s := by decide +kernel
theorem all_bl {D T : Nat} (hD : D < 64) : (bl D).all (fun k => decide (k ∈ bl T)) = sb D T := by
  cases h : sb D T with
  | true =>
    rw [List.all_eq_true]
    intro k hk
    obtain ⟨i, h1, h2, rfl⟩ := mem_bl.1 hk
    exact decide_eq_true (mem_bl.2 ⟨i, h1, sb_bit h i h2, rfl⟩)
  | false =>
    rw [← Bool.not_eq_true]
    intro h'
    rw [List.all_eq_true] at h'
    have : sb D T = true := sb_of_bits fun i hi => by
      have hi6 : i < 6 := by
        by_cases h6 : i < 6
        · exact h6
        · rw [Nat.testBit_lt_two_pow (Nat.lt_of_lt_of_le hD (by have : 2 ^ 6 ≤ 2 ^ i := Nat.pow_le_pow_right (by omega) (by omega); omega))] at hi; cases hi
      have h9 := of_decide_eq_true (h' (i : Int) (mem_bl.2 ⟨i, hi6, hi, rfl⟩))
      obtain ⟨j, _, h4, h5⟩ := mem_bl.1 h9
      obtain rfl : i = j := by omega
      exact h4
    rw [h] at this; cases this
/-- Putting all of a list, one by one. -/
theorem mk_or (l : List Int) (s : Nat) : l.foldl (fun s k => s ||| 2 ^ k.toNat) s = s ||| mk l := by
  apply Nat.eq_of_testBit_eq
  have key : ∀ (l : List Int) (s i : Nat), (l.foldl (fun s k => s ||| 2 ^ k.toNat) s).testBit i = (s.testBit i || (l.foldl (fun (s : Nat) (k : Int) => s ||| 2 ^ k.toNat) 0).testBit i) := by
    intro l
    induction l with
    | nil => intro s i; simp
    | cons x l ih => intro s i; rw [List.foldl_cons, List.foldl_cons, ih, ih (0 ||| _), Nat.testBit_or, Nat.testBit_or]; simp [Bool.or_assoc]
  intro i
  rw [key, Nat.testBit_or]
  rfl

end Go.Proofs.YtjjebodlekepaaaDoor

/- Contracts of the model's l1Has, l7All, l7Put. -/
namespace Go.Proofs.YtjjebodlekepaaaDoor
open Go.RowKit

set_option maxHeartbeats 1000000 in
theorem l1Has_any (a : Option Addr) (n c : Nat) (zs : List Int) (x : Int) (w : World) (hz : zs.length = n) (hn : n ≤ 9223372036854775807) (ha : At w a zs) :
    Calls Tryd.prog 30 #[.slice a n c, .int .i64 x] w fun e w' => e = .returned (.bool (decide (x ∈ zs))) ∧ w' = w := by
  by_cases h0 : n = 0
  · subst h0
    obtain rfl := List.eq_nil_of_length_eq_zero hz
    go_enter Tryd.func30, Tryd.ntmps30
    go_wp2
    refine wp_loop_rounds 1 ?_
    rw [rounds_succ]
    go_wp2
    go_ret
    exact ⟨rfl, rfl⟩
  · obtain ⟨b, off, rfl, hb, hc⟩ := ha.some (by omega)
    clear ha
    go_enter Tryd.func30, Tryd.ntmps30
    go_wp2
    go_loopw [9] (fun i wr => ∃ (k : Nat), k ≤ n ∧ i = .int .i64 k ∧ (¬ x ∈ zs.take k) ∧ wr = w) (fun i _ => n - (intOf i).toNat)
    case atStart => exact ⟨0, Nat.zero_le _, rfl, by simp, rfl⟩
    case round =>
      obtain ⟨k, hk, rfl, ht, rfl⟩ := hrel
      by_cases hlt : k < n
      · have hcx : wr.cell? ⟨b, off + k, none⟩ = some (.int .i64 (zs.getD k 0)) := hc k (by omega)
        have hm : zs.getD k 0 ∈ zs := by simp [List.getD, show k < zs.length by omega]
        have hnx : zs.getD k 0 ≠ x → ¬ x ∈ zs.take (k + 1) := fun h => by
          rw [take_succ_getD zs k (by omega)]
          simp only [List.mem_append, List.mem_singleton, not_or]
          exact ⟨ht, fun e => h e.symm⟩
        obtain ⟨y, hy⟩ : ∃ y, y = zs.getD k 0 := ⟨_, rfl⟩
        rw [← hy] at hcx hm hnx
        have HM := Hid.mk hm
        have HN := Hid.mk hnx
        clear hc hm hnx hy ht
        by_cases he : y = x
        · subst he
          go_wp2
          go_ret
          exact ⟨by rw [decide_eq_true HM.out]; rfl, rfl⟩
        · go_wp2
          go_roundw
          case rel => exact ⟨k + 1, by omega, by go_num, HN.out he, trivial⟩
          case measure => simp [intOf]; omega
      · rw [List.take_of_length_le (by omega)] at ht
        have HT := Hid.mk ht
        clear ht
        go_wp2
        go_ret
        exact ⟨by rw [decide_eq_false HT.out]; rfl, rfl⟩

end Go.Proofs.YtjjebodlekepaaaDoor
