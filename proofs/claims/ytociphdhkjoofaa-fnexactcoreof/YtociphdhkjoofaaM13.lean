/- Several texts of one proof, in build order: RepR, SrtI, IntsR, QvJ. -/
import Derived.Test.YtociphdhkjoofaaM8
import Derived.Test.YtociphdhkjoofaaM0
import Derived.Test.YtociphdhkjoofaaShelfQ
import Derived.Sort.OwnSortedInts
import Derived.Test.YtociphdhkjoofaaM3
import Derived.Test.YtociphdhkjoofaaM11
import Derived.Deep.CutBlock

/- Rows of a slice, one by one: a slice that is cut and grown at its end. -/
namespace Go.Proofs.Ytociphdhkjoofaa
open Go.RowKit

structure RowsOf {α : Type} (A : Rep α) (w : World) (F : Nat → Prop) (ob : Option Nat) (n : Nat) (xs : List α) (cells : List Value) (G : Nat → Nat → Prop) : Prop where
  len : xs.length = n
  clen : cells.length = n * A.k
  row : ∀ i x, i < n → xs[i]? = some x → A.Own w (G i) (sub cells (i * A.k) A.k) x
  rowF : ∀ i b, i < n → G i b → F b ∧ ob ≠ some b
  apart : ∀ i j b, i < n → j < n → i ≠ j → G i b → ¬ G j b

section
variable {α : Type} {A : Rep α} {w w' : World} {F F' H : Nat → Prop} {e : TypeId} {a : Option Addr} {n m c : Nat} {xs : List α} {cells vs : List Value} {G : Nat → Nat → Prop} {x : α} {ob ob' : Option Nat}

theorem sub_take {cells : List Value} {o k m : Nat} (h : o + k ≤ m) : sub (cells.take m) o k = sub cells o k := by
  unfold sub
  rw [List.drop_take, List.take_take, Nat.min_eq_left (by omega)]

theorem RowsOf.of (h : Laid A w F e a n c xs cells G n) (hm : m ≤ n) : RowsOf A w F (Value.slice a n c).ownBlock m (xs.take m) (cells.take (m * A.k)) G where
  len := by rw [List.length_take, h.len]; omega
  clen := by
    have h1 : cells.length = n * A.k := h.outer.1
    have h2 := Nat.mul_le_mul_right A.k hm
    rw [List.length_take, h1]; omega
  row := fun i x hi hx => by
    rw [List.getElem?_take, if_pos hi] at hx
    rw [sub_take (at_mul hi)]
    exact h.row i x (by omega) hx
  rowF := fun i b hi hb => h.rowF i b (by omega) hb
  apart := fun i j b hi hj hij => h.apart i j b (by omega) (by omega) hij

theorem RowsOf.to (h : RowsOf A w F ob n xs cells G) (hf : ∀ i b, i < n → G i b → b < w.heap.size → w'.heap[b]? = w.heap[b]?) (hF : ∀ i b, i < n → G i b → F' b ∧ ob' ≠ some b) : RowsOf A w' F' ob' n xs cells G where
  len := h.len
  clen := h.clen
  row := fun i x hi hx => A.frame (h.row i x hi hx) (fun b h1 h2 => hf i b hi h1 h2)
  rowF := hF
  apart := h.apart

theorem RowsOf.add (h : RowsOf A w F ob n xs cells G) (ho : A.Own w H vs x) (hH : ∀ b, H b → F b ∧ ob ≠ some b) (hd : ∀ i b, i < n → G i b → ¬ H b) : RowsOf A w F ob (n + 1) (xs ++ [x]) (cells ++ vs) (fun i => if i = n then H else G i) where
  len := by simp [h.len]
  clen := by rw [List.length_append, h.clen, A.ownLen ho, Nat.succ_mul]
  row := fun i y hi hy => by
    by_cases ei : i = n
    · subst ei
      simp only [if_true]
      obtain rfl : x = y := by
        rw [List.getElem?_append_right (by rw [h.len]; exact Nat.le_refl _)] at hy
        simpa [h.len] using hy
      have := sub_append_right (cells := cells) (A.ownLen ho)
      rw [h.clen] at this
      rw [this]
      exact ho
    · simp only [if_neg ei]
      have hi' : i < n := by omega
      rw [List.getElem?_append_left (by rw [h.len]; exact hi')] at hy
      rw [sub_append_left (by rw [h.clen]; exact at_mul hi')]
      exact h.row i y hi' hy
  rowF := fun i b hi hb => by
    by_cases ei : i = n
    · simp only [if_pos ei] at hb; exact hH b hb
    · simp only [if_neg ei] at hb; exact h.rowF i b (by omega) hb
  apart := fun i j b hi hj hij hb => by
    by_cases ei : i = n
    · simp only [if_pos ei] at hb
      rw [if_neg (by omega)]
      exact fun hj' => hd j b (by omega) hj' hb
    · simp only [if_neg ei] at hb
      by_cases ej : j = n
      · rw [if_pos ej]
        exact hd i b (by omega) hb
      · rw [if_neg ej]
        exact h.apart i j b (by omega) (by omega) hij hb

theorem RowsOf.laid (h : RowsOf A w F (Value.slice a n c).ownBlock n xs cells G) (hbig : n ≤ 9223372036854775807) (ho : w.ownsRow 0 e A.k (.slice a n c) n cells) (hF : ∀ b, (Value.slice a n c).ownBlock = some b → F b) : Laid A w F e a n c xs cells G n :=
  ⟨h.len, hbig, ho, hF, h.row, h.rowF, h.apart⟩

theorem owns_take {base : Nat} {size : Nat} {g : Nat} {ys : List Value} (h : w.ownsRow base e size (.slice (some ⟨g, 0, none⟩) n c) n ys) (hm : m ≤ n) : w.ownsRow base e size (.slice (some ⟨g, 0, none⟩) m c) m (ys.take (m * size)) := by
  have h2 := Nat.mul_le_mul_right size hm
  refine ⟨by rw [List.length_take, h.1]; omega, ?_⟩
  rcases h.2 with ⟨h0, _⟩ | ⟨g', cap, cur, e1, e2, e3, e4, e5, e6, e7⟩
  · cases h0
  · simp only [Value.slice.injEq, Option.some.injEq, Addr.mk.injEq, and_true, true_and] at e1
    obtain ⟨rfl, rfl⟩ := e1
    refine .inr ⟨g, c, cur, rfl, e2, e3, by omega, e5, e6, ?_⟩
    rw [← e7, List.take_take, Nat.min_eq_left h2]
end

end Go.Proofs.Ytociphdhkjoofaa

/- slices.Sort and slices.Compact at ints, over a slice that the call owns. -/
namespace Go.Proofs.Ytociphdhkjoofaa
open Go.RowKit Go.Sort

theorem sortInts_own (B : Nat) (a : Option Addr) (n c : Nat) (zs : List Int) (w : World) (hz : zs.length = n) (hn : n ≤ 1048576) (hB : B ≤ w.heap.size) (ho : w.ownsRow B 3 1 (.slice a n c) n (zs.map (.int .i64))) :
    Calls Try.prog 70 #[.slice a n c] w fun e w' => e = .returned (.tuple #[]) ∧ w'.ownsRow B 3 1 (.slice a n c) n ((zs.mergeSort fun x y => decide (x ≤ y)).map (.int .i64)) ∧ Below B w w' := by
  by_cases h0 : n = 0
  · subst h0
    obtain rfl := List.eq_nil_of_length_eq_zero hz
    refine (Try.slices_Sort_int_none a c w).mono ?_
    rintro e w' ⟨rfl, rfl⟩
    exact ⟨rfl, by simpa using ho, Below.refl _ _⟩
  · rcases ho.2 with ⟨_, h⟩ | ⟨g, cap, cur, hv, hb, hg, hc1, hc2, hc3, hc4⟩
    · exact absurd h h0
    · simp only [Value.slice.injEq, true_and] at hv
      obtain ⟨rfl, rfl⟩ := hv
      have hcur : cur.toList.take zs.length = zs.map (.int .i64) := by rw [hz]; simpa using hc4
      have hH := holds_of_blockI hg hcur
      have h9 := Try.slices_Sort_int g 0 c zs w hH (Array.getElem?_eq_some_iff.1 hg).1 (by omega)
      rw [hz] at h9
      refine h9.mono ?_
      rintro e w' ⟨rfl, q, os, rfl⟩
      have hl : (zs.mergeSort fun x y => decide (x ≤ y)).length = zs.length := List.length_mergeSort ..
      have ho2 := ownsRow_sortedI (n := q) (os := os) (ss := zs) hl hb hg (by omega) hc2 hc3
      rw [hz] at ho2
      exact ⟨rfl, ho2, (Below.refl _ _).grown (grownBy_sortedI _) hB (fun j hj => by cases hj; exact hb)⟩

theorem compactInts_own (B : Nat) (a : Option Addr) (n c : Nat) (zs : List Int) (w : World) (hz : zs.length = n) (hn : n ≤ 1048576) (hB : B ≤ w.heap.size) (ho : w.ownsRow B 3 1 (.slice a n c) n (zs.map (.int .i64))) :
    Calls Try.prog 71 #[.slice a n c] w fun e w' => ∃ m, e = .returned (.slice a m c) ∧ (Lib.compact zs).length = m ∧ w'.ownsRow B 3 1 (.slice a m c) m ((Lib.compact zs).map (.int .i64)) ∧ Below B w w' := by
  by_cases h0 : n = 0
  · subst h0
    obtain rfl := List.eq_nil_of_length_eq_zero hz
    refine (Try.slices_Compact_int_empty a c w).mono ?_
    rintro e w' ⟨rfl, rfl⟩
    exact ⟨0, rfl, rfl, by simpa [Lib.compact, Lib.compactUpTo] using ho, Below.refl _ _⟩
  · rcases ho.2 with ⟨_, h⟩ | ⟨g, cap, cur, hv, hb, hg, hc1, hc2, hc3, hc4⟩
    · exact absurd h h0
    · simp only [Value.slice.injEq, true_and] at hv
      obtain ⟨rfl, rfl⟩ := hv
      have hcur : cur.toList.take zs.length = zs.map (.int .i64) := by rw [hz]; simpa using hc4
      have hH := holds_of_blockI hg hcur
      have h9 := Try.slices_Compact_int g 0 c zs w hH (by omega) (by omega)
      rw [hz] at h9
      refine h9.mono ?_
      rintro e w' ⟨rfl, q, rfl⟩
      have hle : (Lib.compact zs).length ≤ n := by
        rw [← hz]
        unfold Lib.compact Lib.compactUpTo
        rw [List.length_map]
        exact Nat.le_trans (List.length_filter_le _ _) (by simp)
      obtain ⟨ts, hts⟩ : ∃ ts, ts = Lib.compact zs ++ List.replicate (n - (Lib.compact zs).length) (0 : Int) := ⟨_, rfl⟩
      have hl : ts.length = zs.length := by rw [hts, List.length_append, List.length_replicate, hz]; omega
      rw [← hts]
      have ho2 := ownsRow_sortedI (n := q) (os := #[]) (ss := zs) hl hb hg (by omega) hc2 hc3
      have hg2 : w.grownBy (grow (putRow (Value.int .i64) (Sort.ahead w q) g 0 ts.toArray) #[]) (some g) := grownBy_sortedI _
      rw [hz] at ho2
      rw [grow_empty] at ho2 hg2
      have ho3 := owns_take ho2 hle
      have ht : (ts.map (Value.int .i64)).take ((Lib.compact zs).length * 1) = (Lib.compact zs).map (.int .i64) := by
        rw [Nat.mul_one, ← List.map_take, hts, List.take_left']
        rfl
      rw [ht] at ho3
      exact ⟨_, rfl, rfl, ho3, (Below.refl _ _).grown hg2 hB (fun j hj => by cases hj; exact hb)⟩

end Go.Proofs.Ytociphdhkjoofaa

/- Lists of numbers that are answered, held as the laws marked them. -/
namespace Go.Proofs.Ytociphdhkjoofaa
open Go.RowKit

def IntsRet (e : Ending) (w' : World) (lo : Nat) (ok : Bool) (zs : List Int) : Prop := ∃ r m d, e = .returned (.tuple #[.slice r m d, .bool ok]) ∧ zs.length = m ∧ w'.ownsRow lo 3 1 (.slice r m d) m (zs.map (.int .i64))
theorem ints_at {w : World} {F : Nat → Prop} {a : Option Addr} {n c : Nat} {zs : List Int} (h : RInts.Own w F [.slice a n c] zs) : At w a zs := (RInts.at_iff.1 (RInts.toAt h)).2.2.1
theorem heldInts_rep (a : Option Addr) (n c : Nat) (zs : List Int) (m : Int) (w : World) (hz : zs.length = n) (hn : n ≤ 1048576) (h0 : 0 ≤ m) (h1 : m ≤ 268435456) (ha : At w a (mkInts m zs)) :
    Calls Try.prog 27 #[.slice a n c, .int .i64 m] w fun e w' => e = .returned (.int .i64 (m + n)) ∧ Below w.heap.size w w' := by
  unfold mkInts at ha
  rw [hz] at ha
  exact (heldIntS_any a n c m w hn h0 (by omega) ha).mono fun _ _ ⟨h1, h2⟩ => ⟨h1, by first | exact h2 | (rw [h2]; exact Below.refl _ _)⟩

theorem Off.toBelow {lo hi B : Nat} {a b : World} (h : Off (From lo hi) a b) (hlo : B ≤ lo) (hB : B ≤ a.heap.size) : Below B a b := ⟨h.os, h.tape, h.output, h.size, fun k hk => h.block k (by omega) (fun e => by have := e.1; omega)⟩

end Go.Proofs.Ytociphdhkjoofaa

/- Contract of impl.VarsIn. -/
namespace Go.Proofs.Ytociphdhkjoofaa
open Go.RowKit

set_option maxRecDepth 100000 in
set_option maxHeartbeats 4000000 in
theorem implVarsIn (ha : Option Addr) (hn hc : Nat) (a : Option Addr) (n c : Nat) (zs : List Atm) (w : World) (hz : zs.length = n) (hb : n ≤ 9223372036854775807) (hat : AtQ w a zs) :
    Calls Try.prog 57 #[.agg #[.slice ha hn hc, .slice a n c]] w fun e w' => IntsRet e w' w.heap.size (qvB zs) (qvL zs) ∧ Below w.heap.size w w' := by
  obtain ⟨i0, hi, hz0, hz1, hz2⟩ := info_parts Try.infoInt
  obtain ⟨W, hW⟩ : ∃ W, W = w.alloc (.cells #[.slice ha hn hc, .slice a n c] 29) := ⟨_, rfl⟩
  have B0 : Below w.heap.size w W := by rw [hW]; exact (Below.refl _ _).alloc (Nat.le_refl _) _
  have q1 : W.cell? ⟨w.heap.size, 1, none⟩ = some (.slice a n c) := by rw [hW]; exact pair1 w _ _ _
  have HZ := Hid.mk hz
  have HA := Hid.mk hat
  have hno : qvB zs = false → qvL zs = [] := fun h1 => by unfold qvL; rw [if_neg (by rw [h1]; decide)]
  have HNO : Hid (∀ w' : World, qvB zs = false → IntsRet (.returned (.tuple #[.slice none 0 0, .bool false])) w' w.heap.size (qvB zs) (qvL zs)) := fun w' h1 => by
    rw [h1, hno h1]
    exact ⟨none, 0, 0, rfl, rfl, World.ownsRow_nil _ _ _ _⟩
  clear hz hat hno
  by_cases h5 : (5 : Int) < (n : Int)
  · have hf : qvB zs = false := by unfold qvB; rw [decide_eq_false (by have := HZ.out; omega)]; rfl
    have HF := Hid.mk hf
    clear hf
    go_enter Try.func57, Try.ntmps57
    go_wp2
    exact bodyPost_ret (v := .tuple #[.slice none 0 0, .bool false]) (by simp [results, Try.results57, go_sem]) rfl ⟨HNO.out _ HF.out, by rw [← hW]; exact B0⟩
  have HE : Hid (∀ wr : World, wr.ownsRow w.heap.size 3 1 (.slice none 0 0) 0 ((flatV (zs.take 0)).map (.int .i64))) := fun wr => (by rw [List.take_zero]; exact World.ownsRow_nil _ _ _ _)
  go_enter Try.func57, Try.ntmps57
  go_upto_region 5 with fail
  rw [← hW]
  clear hW q1
  go_loopw [4, 14] (fun p i wr => ∃ (k m : Nat) (r : Option Addr) (d : Nat), k ≤ n ∧ i = .int .i64 k ∧ p = .slice r m d ∧ (flatV (zs.take k)).length = m ∧ m ≤ 6 * k ∧ (zs.take k).all aOk = true ∧ wr.ownsRow w.heap.size 3 1 (.slice r m d) m ((flatV (zs.take k)).map (.int .i64)) ∧ Below w.heap.size w wr) (fun _ i _ => n - (intOf i).toNat)
  case atStart => exact ⟨0, 0, none, 0, Nat.zero_le _, rfl, rfl, by rw [List.take_zero]; rfl, Nat.le_refl _, by rw [List.take_zero]; rfl, HE.out _, B0⟩
  case round =>
    clear HE B0
    obtain ⟨k, m, r, d, hk, rfl, rfl, hm, hm6, hok, ho, hbw⟩ := hrel
    obtain ⟨wY, rfl⟩ : ∃ x, x = wr := ⟨_, rfl⟩
    by_cases hlt : k < n
    · obtain ⟨x, hx⟩ : ∃ x, zs[k]? = some x := ⟨_, List.getElem?_eq_getElem (by have := HZ.out; omega)⟩
      obtain ⟨b, off, rfl, _, hc⟩ := AtQ.row (AtSl.below HA.out hbw) (by have := HZ.out; omega)
      obtain ⟨ta, tn, tc, g0, g1, u1, u2, u3, u4⟩ := hc k x hx
      have hki : (k : Int) < (n : Int) := by omega
      have hmem : x ∈ zs := List.mem_of_getElem? hx
      have hbad : aOk x = false → qvB zs = false := fun h => by
        unfold qvB
        have : zs.all aOk = false := by
          rw [← Bool.not_eq_true]
          intro h'
          rw [List.all_eq_true.1 h' x hmem] at h
          cases h
        rw [this, Bool.and_false]
      have hao : aOk x = (decide (tn ≤ 6) && x.2.all vOk) := by unfold aOk; rw [u1]
      rw [hao] at hbad
      have hokn : (decide (tn ≤ 6) && x.2.all vOk) = true → (zs.take (k + 1)).all aOk = true := fun h => by
        obtain ⟨h1, h2⟩ := List.getElem?_eq_some_iff.1 hx
        rw [List.take_succ_eq_append_getElem h1, List.all_append, hok, h2, List.all_cons, hao, h]
        rfl
      have hft := flat_take zs k hx
      obtain ⟨U, hU⟩ : ∃ U, U = wY.alloc (.cells #[.int .i64 x.1, .slice ta tn tc] 58) := ⟨_, rfl⟩
      have hbU : Below wY.heap.size wY U := by rw [hU]; exact (Below.refl _ _).alloc (Nat.le_refl _) _
      have g1' : U.cell? ⟨wY.heap.size, 1, none⟩ = some (.slice ta tn tc) := by rw [hU]; exact pair1 wY _ _ _
      have HU3 := Hid.mk (At.below u3 hbU)
      have HU1 := Hid.mk u1
      have HU4 := Hid.mk u4
      have HO := Hid.mk (owns_below ho hbU)
      have HBU := Hid.mk (hbw.trans (hbU.mono hbw.size))
      have HBAD := Hid.mk hbad
      have HOKN := Hid.mk hokn
      have HFT := Hid.mk hft
      have HM := Hid.mk hm
      clear hc u3 u1 u4 hx hao hbad hokn hft hm hok ho hbw hbU hmem
      by_cases h6 : (6 : Int) < (tn : Int)
      · have HF := Hid.mk (HBAD.out (by rw [decide_eq_false (by omega)]; rfl))
        go_upto_region 7 with fail
        rw [← hU]
        clear hU g0 g1
        go_wp2
        exact bodyPost_ret (v := .tuple #[.slice none 0 0, .bool false]) (by simp [results, Try.results57, go_sem]) rfl ⟨HNO.out _ HF.out, HBU.out⟩
      · have HC := Hid.mk (noVars_any ta tn tc x.2 U HU1.out u2 HU3.out)
        go_upto_region 7 with fail
        rw [← hU]
        clear hU g0 g1
        cases hr : x.2.all vOk with
        | false =>
          have HF := Hid.mk (HBAD.out (by rw [hr]; simp))
          rw [hr] at HC
          clear hr
          go_wp2_with fail
          refine HC.out.mono ?_
          rintro e w2 ⟨rfl, h9⟩
          obtain rfl := h9.symm
          go_wp2
          exact bodyPost_ret (v := .tuple #[.slice none 0 0, .bool false]) (by simp [results, Try.results57, go_sem]) rfl ⟨HNO.out _ HF.out, HBU.out⟩
        | true =>
          have HOK := Hid.mk (HOKN.out (by rw [hr, decide_eq_true (by omega)]; rfl))
          rw [hr] at HC
          clear hr
          go_wp2_with fail
          refine HC.out.mono ?_
          rintro e w2 ⟨rfl, h9⟩
          obtain rfl := h9.symm
          go_wp2_with (at_builtin; refine wpList_append_all rfl (.tmp 27) (.tmp 29) 22 rfl w.heap.size 3 i0 (.int .i64 0) 8 Try.underlying22 hi hz0 hz1 hz2 rfl _ _ _ rfl HO.out ta tn tc x.2 rfl HU1.out HU3.out HU4.out (by unfold maxLen; omega) (by omega) HBU.out.size ?_)
          intro r3 d3 w3 ho3 hg3
          have HB3 := Hid.mk (HBU.out.grown hg3 HBU.out.size (fun j hj => (HO.out.lt j hj).1))
          have HO3 : Hid (w3.ownsRow w.heap.size 3 1 (.slice r3 (m + tn) d3) (m + tn) ((flatV (zs.take (k + 1))).map (.int .i64))) := by
            show World.ownsRow _ _ _ _ _ _ _
            rw [HFT.out, List.map_append]
            exact ho3
          have HM3 : Hid ((flatV (zs.take (k + 1))).length = m + tn) := by show _ = _; rw [HFT.out, List.length_append, HM.out, HU1.out]
          clear ho3 hg3 HO HC
          go_wp2
          go_roundw
          case rel => exact ⟨k + 1, m + tn, r3, d3, by omega, by go_num, rfl, HM3.out, by omega, HOK.out, HO3.out, HB3.out⟩
          case measure => simp [intOf]; omega
    · obtain rfl : k = n := by omega
      rw [List.take_of_length_le (by have := HZ.out; omega)] at hm hok ho
      have hf : qvB zs = true := by unfold qvB; rw [decide_eq_true (by have := HZ.out; omega), hok]; rfl
      have h2 : qvL zs = bl (vset zs) := by unfold qvL; rw [if_pos hf]
      have hin : ∀ x ∈ zs, ∀ v ∈ x.2, (0 : Int) ≤ v ∧ v < 6 := fun x hx => aOk_in (List.all_eq_true.1 hok x hx)
      have hcs := compact_sort (flat_in hin)
      have hsl : ((flatV zs).mergeSort fun x y => decide (x ≤ y)).length = m := by rw [List.length_mergeSort, hm]
      have HF := Hid.mk (And.intro hf h2)
      have HCS := Hid.mk hcs
      have HSL := Hid.mk hsl
      have HC := Hid.mk (sortInts_own w.heap.size r m d (flatV zs) wY hm (by omega) hbw.size ho)
      clear hf h2 hin hm hok ho hcs hsl
      go_wp2_with fail
      refine HC.out.mono ?_
      rintro e w2 ⟨rfl, o2, b2⟩
      have B2 := hbw.trans b2
      have HC2 := Hid.mk (compactInts_own w.heap.size r m d _ w2 HSL.out (by omega) B2.size o2)
      have HB2 := Hid.mk B2
      clear o2 b2 hbw B2 HC
      go_wp2_with fail
      refine HC2.out.mono ?_
      rintro e w3 ⟨m3, rfl, l3, o3, b3⟩
      rw [HCS.out] at l3 o3
      have HL3 := Hid.mk l3
      have HO3 := Hid.mk o3
      have HB3 := Hid.mk (HB2.out.trans b3)
      clear l3 o3 b3 HC2
      go_wp2
      exact bodyPost_ret (v := .tuple #[.slice r m3 d, .bool true]) (by simp [results, Try.results57, go_sem]) rfl ⟨by rw [HF.out.1, HF.out.2]; exact ⟨r, m3, d, rfl, HL3.out, HO3.out⟩, HB3.out⟩

end Go.Proofs.Ytociphdhkjoofaa
