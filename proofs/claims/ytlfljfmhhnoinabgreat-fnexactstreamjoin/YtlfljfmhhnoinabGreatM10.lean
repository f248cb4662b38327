/- Several texts of one proof, in build order: GoodStr, Rng, SortA, SixK. -/
import Derived.Test.YtlfljfmhhnoinabGreatM8
import Derived.Test.YtlfljfmhhnoinabGreatM9
import Derived.Test.YtlfljfmhhnoinabGreatM5
import Derived.RangeFuncNested
import Derived.RangeFuncCalls
import Derived.RangeFuncLeaves
import Derived.RangeFuncBound
import Derived.Shelf.Abstract
import Derived.Test.YtlfljfmhhnoinabGreatM3
import Derived.Shelf.SlSortCmp.InsertionK
import Derived.Test.YtlfljfmhhnoinabGreatM6

/- Contracts of impl.GoodStream and spec.GoodStream. -/
namespace Go.Proofs.YtlfljfmhhnoinabGreat
open Go.RowKit

/-- A table of p columns that is good. -/
def tabOk (p : Int) (t : Tab) : Bool := decide (t.1 = p) && goodT p t.2
/-- A good stream of p columns. -/
def goodS (p : Int) (ss : List Tab) : Bool := inc p && (decide (ss.length ≤ 12) && ss.all (tabOk p))
theorem goodS_col {p : Int} {ss : List Tab} (h : inc p = false) : goodS p ss = false := by simp [goodS, h]
theorem goodS_len {p : Int} {ss : List Tab} (h : 12 < ss.length) : goodS p ss = false := by
  have : decide (ss.length ≤ 12) = false := by simp; omega
  simp [goodS, this]
theorem goodS_tab {p : Int} {ss : List Tab} {k : Nat} (hk : k < ss.length) (h : tabOk p (tat ss k) = false) : goodS p ss = false := by
  have : ss.all (tabOk p) = false := by
    rw [List.all_eq_false]
    exact ⟨_, tat_mem hk, fun hh => by rw [h] at hh; cases hh⟩
  simp [goodS, this]
theorem all_tab {p : Int} {ss : List Tab} {n : Nat} (hz : ss.length = n) (h : ∀ j, j < n → tabOk p (tat ss j) = true) : ss.all (tabOk p) = true := by
  rw [List.all_eq_true]
  intro t ht
  obtain ⟨j, hj, rfl⟩ := List.getElem_of_mem ht
  have := h j (by omega)
  rwa [show tat ss j = ss[j] by simp [tat, List.getD, hj]] at this
theorem goodS_mk {p : Int} {ss : List Tab} {n : Nat} (hz : ss.length = n) (h : ∀ j, j < n → tabOk p (tat ss j) = true) : goodS p ss = (inc p && decide (n ≤ 12)) := by
  subst hz; simp [goodS, all_tab rfl h]
theorem goodS_parts {p : Int} {ss : List Tab} (h : goodS p ss = true) : inc p = true ∧ ss.length ≤ 12 ∧ ∀ k, k < ss.length → (tat ss k).1 = p ∧ goodT p (tat ss k).2 = true := by
  simp only [goodS, Bool.and_eq_true, decide_eq_true_eq, List.all_eq_true] at h
  refine ⟨h.1, h.2.1, fun k hk => ?_⟩
  have := h.2.2 _ (tat_mem hk)
  simpa [tabOk] using this

set_option maxHeartbeats 4000000 in
theorem implGoodStream (a : Option Addr) (n c : Nat) (ss : List Tab) (p : Int) (w : World) (hs : SmU ss n) (ha : AtSM w a ss) :
    Calls Tryz.prog 25 #[.agg #[.int .i64 p, .slice a n c]] w fun e w' => e = .returned (.bool (goodS p ss)) ∧ Below w.heap.size w w' := by
  obtain ⟨W, hW⟩ : ∃ W, W = w.alloc (.cells #[.int .i64 p, .slice a n c] 30) := ⟨_, rfl⟩
  have B0 : Below w.heap.size w W := by rw [hW]; exact (Below.refl _ _).alloc (Nat.le_refl _) _
  have c0 : W.cell? ⟨w.heap.size, 0, none⟩ = some (.int .i64 p) := by rw [hW]; exact pair0 w _ _ _
  have c1 : W.cell? ⟨w.heap.size, 1, none⟩ = some (.slice a n c) := by rw [hW]; exact pair1 w _ _ _
  have HA := ha.below B0
  have hz := hs.1
  clear ha
  cases hi : inc p with
  | false =>
    have HI := Hid.mk hi
    clear hi
    go_enter Tryz.func25, Tryz.ntmps25
    go_wp2_with fail
    rw [← hW]
    clear hW
    refine (goodColumns_any _ _).mono ?_
    rintro e w2 ⟨rfl, rfl⟩
    rw [HI.out]
    go_wp2
    go_ret
    exact ⟨ret_bool (goodS_col HI.out).symm, B0⟩
  | true =>
    have HI := Hid.mk hi
    clear hi
    by_cases h12 : 12 < n
    · have h12' : (12 : Int) < (n : Int) := by omega
      go_enter Tryz.func25, Tryz.ntmps25
      go_wp2_with fail
      rw [← hW]
      clear hW
      refine (goodColumns_any _ _).mono ?_
      rintro e w2 ⟨rfl, rfl⟩
      rw [HI.out]
      go_wp2
      go_ret
      exact ⟨ret_bool (goodS_len (by omega)).symm, B0⟩
    · have h12' : ¬ (12 : Int) < (n : Int) := by omega
      go_enter Tryz.func25, Tryz.ntmps25
      go_wp2_with fail
      rw [← hW]
      clear hW
      refine (goodColumns_any _ _).mono ?_
      rintro e w2 ⟨rfl, rfl⟩
      rw [HI.out]
      go_wp2
      go_loopw [18] (fun i wr => ∃ (k : Nat), k ≤ n ∧ i = .int .i64 k ∧ (∀ j, j < k → tabOk p (tat ss j) = true) ∧ Below w2.heap.size w2 wr) (fun i _ => n - (intOf i).toNat)
      case atStart => exact ⟨0, Nat.zero_le _, rfl, fun j hj => by omega, Below.refl _ _⟩
      case round =>
        obtain ⟨k, hk, rfl, hall, hbw⟩ := hrel
        have B2 := B0.trans (hbw.mono B0.size)
        by_cases hlt : k < n
        · obtain ⟨b, off, rfl, hc⟩ := (HA.below hbw).some (by omega)
          obtain ⟨q, d, hcw, hcx, _, _, hat⟩ := hc k (by omega)
          have hsm := hs.tab k hlt
          have HN : Hid (tabOk p (tat ss k) = false → goodS p ss = false) := fun h => goodS_tab (by omega) h
          have HS : Hid (tabOk p (tat ss k) = true → ∀ j, j < k + 1 → tabOk p (tat ss j) = true) := fun h j hj => by
            by_cases e : j = k
            · subst e; exact h
            · exact hall j (by omega)
          have cp := cell_later hbw c0
          have hki : (k : Int) < (n : Int) := by omega
          have zr := hbw.size
          generalize tat ss k = Y at *
          obtain ⟨x, us⟩ := Y
          simp only at hcw hcx hat hsm
          obtain ⟨m, hmm⟩ : ∃ m, us.length = m := ⟨_, rfl⟩
          rw [hmm] at hcx hsm
          have HM := Hid.mk hmm
          obtain ⟨V, hV⟩ : ∃ V, V = wr.alloc (.cells #[.int .i64 x, .slice q m d] 48) := ⟨_, rfl⟩
          have hbV : Below wr.heap.size wr V := by rw [hV]; exact (Below.refl _ _).alloc (Nat.le_refl _) _
          have cl : (wr.alloc (.cells #[.int .i64 x, .slice q m d] 48)).cell? ⟨w.heap.size, 0, none⟩ = some (.int .i64 p) := cell_later ((Below.refl _ _).alloc (Nat.le_refl _) _) cp
          have v0 : V.cell? ⟨wr.heap.size, 0, none⟩ = some (.int .i64 x) := by rw [hV]; exact pair0 wr _ _ _
          have v1 : V.cell? ⟨wr.heap.size, 1, none⟩ = some (.slice q m d) := by rw [hV]; exact pair1 wr _ _ _
          have HAV := (hat.below hbV).atW
          have B3 := hbw.trans (hbV.mono hbw.size)
          have B4 := B2.trans (hbV.mono B2.size)
          clear hc hall hmm hat
          by_cases hx : x = p
          · have hne : (x != p) = false := by simp [hx]
            have HX := Hid.mk hx
            rw [hx] at HN HS
            clear hx
            cases hg : goodT x us with
            | false =>
              have HG := Hid.mk hg
              clear hg
              go_wp2_with fail
              rw [← hV]
              clear hV hcw hcx
              refine (implGoodTable_any _ _ _ us _ _ HM.out hsm.n HAV).mono ?_
              rintro e w3 ⟨rfl, hb3⟩
              rw [HG.out]
              go_wp2
              go_ret
              exact ⟨ret_bool (HN.out (by have := HG.out; rw [HX.out] at this; simp [tabOk, this])).symm, B4.trans (hb3.mono B4.size)⟩
            | true =>
              have HG := Hid.mk hg
              clear hg
              go_wp2_with fail
              rw [← hV]
              clear hV hcw hcx
              refine (implGoodTable_any _ _ _ us _ _ HM.out hsm.n HAV).mono ?_
              rintro e w3 ⟨rfl, hb3⟩
              rw [HG.out]
              go_wp2
              go_roundw
              case rel => exact ⟨k + 1, by omega, by go_num, HS.out (by have := HG.out; rw [HX.out] at this; simp [tabOk, this]), B3.trans (hb3.mono B3.size)⟩
              case measure => simp [intOf]; omega
          · have hne : (x != p) = true := by simp [hx]
            have HX := Hid.mk hx
            clear hx
            go_wp2
            rw [← hV]
            go_ret
            exact ⟨ret_bool (HN.out (by simp [tabOk, HX.out])).symm, B4⟩
        · obtain rfl : k = n := by omega
          go_wp2
          go_ret
          exact ⟨ret_bool (by rw [goodS_mk hz hall, HI.out, decide_eq_true (show k ≤ 12 by omega)]; rfl), B2⟩

set_option maxHeartbeats 4000000 in
theorem specGoodStream (a : Option Addr) (n c : Nat) (ss : List Tab) (p : Int) (w : World) (hs : SmU ss n) (ha : AtSM w a ss) :
    Calls Tryz.prog 17 #[.agg #[.int .i64 p, .slice a n c]] w fun e w' => e = .returned (.bool (goodS p ss)) ∧ Below w.heap.size w w' := by
  obtain ⟨W, hW⟩ : ∃ W, W = w.alloc (.cells #[.int .i64 p, .slice a n c] 30) := ⟨_, rfl⟩
  have B0 : Below w.heap.size w W := by rw [hW]; exact (Below.refl _ _).alloc (Nat.le_refl _) _
  have c0 : W.cell? ⟨w.heap.size, 0, none⟩ = some (.int .i64 p) := by rw [hW]; exact pair0 w _ _ _
  have c1 : W.cell? ⟨w.heap.size, 1, none⟩ = some (.slice a n c) := by rw [hW]; exact pair1 w _ _ _
  have HA := ha.below B0
  have hz := hs.1
  have hn := hs.n
  clear ha
  go_enter Tryz.func17, Tryz.ntmps17
  go_wp2
  rw [← hW]
  clear hW
  go_loopw [8] (fun i wr => ∃ (k : Nat), k ≤ n ∧ i = .int .i64 k ∧ (∀ j, j < k → tabOk p (tat ss j) = true) ∧ Below W.heap.size W wr) (fun i _ => n - (intOf i).toNat)
  case atStart => exact ⟨0, Nat.zero_le _, rfl, fun j hj => by omega, Below.refl _ _⟩
  case round =>
    obtain ⟨k, hk, rfl, hall, hbw⟩ := hrel
    have B2 := B0.trans (hbw.mono B0.size)
    have cp := cell_later hbw c0
    have cq := cell_later hbw c1
    by_cases hlt : k < n
    · obtain ⟨b, off, rfl, hc⟩ := (HA.below hbw).some (by omega)
      obtain ⟨q, d, hcw, hcx, _, _, hat⟩ := hc k (by omega)
      have hsm := hs.tab k hlt
      have HN : Hid (tabOk p (tat ss k) = false → goodS p ss = false) := fun h => goodS_tab (by omega) h
      have HS : Hid (tabOk p (tat ss k) = true → ∀ j, j < k + 1 → tabOk p (tat ss j) = true) := fun h j hj => by
        by_cases e : j = k
        · subst e; exact h
        · exact hall j (by omega)
      have hki : (k : Int) < (n : Int) := by omega
      generalize tat ss k = Y at *
      obtain ⟨x, us⟩ := Y
      simp only at hcw hcx hat hsm
      obtain ⟨m, hmm⟩ : ∃ m, us.length = m := ⟨_, rfl⟩
      rw [hmm] at hcx hsm
      have HM := Hid.mk hmm
      obtain ⟨V, hV⟩ : ∃ V, V = wr.alloc (.cells #[.int .i64 x, .slice q m d] 48) := ⟨_, rfl⟩
      have hbV : Below wr.heap.size wr V := by rw [hV]; exact (Below.refl _ _).alloc (Nat.le_refl _) _
      have cp := cell_later hbV cp
      have v0 : V.cell? ⟨wr.heap.size, 0, none⟩ = some (.int .i64 x) := by rw [hV]; exact pair0 wr _ _ _
      have v1 : V.cell? ⟨wr.heap.size, 1, none⟩ = some (.slice q m d) := by rw [hV]; exact pair1 wr _ _ _
      have HAV := (hat.below hbV).atW
      have B3 := hbw.trans (hbV.mono hbw.size)
      have B4 := B2.trans (hbV.mono B2.size)
      clear hc hall hmm hat
      cases hg : goodT x us with
      | false =>
        have HG := Hid.mk hg
        clear hg
        go_wp2_with fail
        rw [← hV]
        clear hV hcw hcx
        refine (specGoodTable_any _ _ _ us _ _ HM.out hsm.n HAV).mono ?_
        rintro e w3 ⟨rfl, hb3⟩
        rw [HG.out]
        go_wp2
        go_ret
        exact ⟨ret_bool (HN.out (by
          by_cases e : x = p
          · subst e; simp [tabOk, HG.out]
          · simp [tabOk, e])).symm, B4.trans (hb3.mono B4.size)⟩
      | true =>
        have HG := Hid.mk hg
        clear hg
        by_cases hx : x = p
        · subst hx
          go_wp2_with fail
          rw [← hV]
          clear hV hcw hcx
          refine (specGoodTable_any _ _ _ us _ _ HM.out hsm.n HAV).mono ?_
          rintro e w3 ⟨rfl, hb3⟩
          rw [HG.out]
          have cp := cell_later hb3 cp
          have v0 := cell_later hb3 v0
          go_wp2
          go_roundw
          case rel => exact ⟨k + 1, by omega, by go_num, HS.out (by simp [tabOk, HG.out]), B3.trans (hb3.mono B3.size)⟩
          case measure => simp [intOf]; omega
        · have hne : (x != p) = true := by simp [hx]
          have HX := Hid.mk hx
          clear hx
          go_wp2_with fail
          rw [← hV]
          clear hV hcw hcx
          refine (specGoodTable_any _ _ _ us _ _ HM.out hsm.n HAV).mono ?_
          rintro e w3 ⟨rfl, hb3⟩
          rw [HG.out]
          have cp := cell_later hb3 cp
          have v0 := cell_later hb3 v0
          go_wp2
          go_ret
          exact ⟨ret_bool (HN.out (by simp [tabOk, HX.out])).symm, B4.trans (hb3.mono B4.size)⟩
    · obtain rfl : k = n := by omega
      have HG := Hid.mk (goodS_mk hz hall)
      have hii : (decide ((0 : Int) ≤ p) && decide (p ≤ 6)) = inc p := rfl
      clear hall
      cases hi : inc p with
      | false =>
        have HI := Hid.mk hi
        clear hi
        go_wp2_with fail
        refine (l1In_any _ _ _ _).mono ?_
        rintro e w3 ⟨rfl, rfl⟩
        rw [hii, HI.out]
        go_wp2
        go_ret
        exact ⟨ret_bool (by rw [HG.out, HI.out]; rfl), B2⟩
      | true =>
        have HI := Hid.mk hi
        clear hi
        go_wp2_with fail
        refine (l1In_any _ _ _ _).mono ?_
        rintro e w3 ⟨rfl, rfl⟩
        rw [hii, HI.out]
        go_wp2
        go_ret
        exact ⟨ret_bool (by rw [HG.out, HI.out]; simp; omega), B2⟩

end Go.Proofs.YtlfljfmhhnoinabGreat

/- A function that hands out weighted rows, and a range over it: what it promises, and the law for its caller. No Go function is spoken of here. -/
namespace Go.Proofs.YtlfljfmhhnoinabGreat
open Go.RowKit Go.Shelf

/-- The row a lies outside the blocks lo .. hi - 1, or is empty. -/
def Far (lo hi : Nat) (a : Option Addr) (zs : List Int) : Prop := zs = [] ∨ ∃ p, a = some p ∧ (p.block < lo ∨ hi ≤ p.block)
theorem Far.mono {lo hi hi' : Nat} {a : Option Addr} {zs : List Int} (h : Far lo hi a zs) (hh : hi' ≤ hi) : Far lo hi' a zs := h.imp id fun ⟨p, e, c⟩ => ⟨p, e, c.imp id (Nat.le_trans hh)⟩
/-- One block that holds no cells has turned. -/
structure Turned (l : Nat) (W W' : World) : Prop where
  grown : W.grownBy W' (some l)
  loop : ∃ r, W.heap[l]? = some (.loop r)
  size : W'.heap.size = W.heap.size
theorem Turned.cell {l : Nat} {W W' : World} (h : Turned l W W') {p : Addr} {v : Value} (hc : W.cell? p = some v) : W'.cell? p = some v := by
  obtain ⟨r, hr⟩ := h.loop
  refine h.grown.cell hc (fun e => ?_)
  simp only [Option.some.injEq] at e
  rw [World.cell?, e, hr] at hc
  simp at hc
theorem Turned.frozen {l : Nat} {W W' : World} (h : Turned l W W') {p : Addr} {v : Value} (hc : W.cell? p = some v) : W'.frozen? p = W.frozen? p := by
  obtain ⟨r, hr⟩ := h.loop
  refine World.frozen?_of_block (h.grown.block _ (World.block_lt_of_cell? _ _ hc) (fun e => ?_))
  simp only [Option.some.injEq] at e
  rw [World.cell?, e, hr] at hc
  simp at hc
theorem Turned.at {l : Nat} {W W' : World} (h : Turned l W W') {a : Option Addr} {zs : List Int} (ha : At W a zs) : At W' a zs := by
  rcases ha with ha | ⟨b, off, rfl, hc⟩
  · exact .inl ha
  · exact .inr ⟨b, off, rfl, fun i hi => h.cell (hc i hi)⟩
theorem Turned.below {l B : Nat} {W W' : World} (h : Turned l W W') (hB : B ≤ l) : Below B W W' :=
  ⟨h.grown.os, h.grown.tape, h.grown.output, h.grown.size, fun k hk => by
    obtain ⟨r, hr⟩ := h.loop
    have hlt := (Array.getElem?_eq_some_iff.1 hr).1
    exact h.grown.block k (by omega) (fun e => by simp only [Option.some.injEq] at e; omega)⟩
theorem turned_put {l : Nat} {W : World} {r : Loop} (h : W.heap[l]? = some (.loop r)) (o : Obj) : Turned l W (W.putObj l o) := ⟨grownBy_putObj' W l o, ⟨r, h⟩, by simp⟩

section
variable {P : Program} {Q : Exit → Act → World → Prop}

end
end Go.Proofs.YtlfljfmhhnoinabGreat

/- The order of arrays as slices.SortFunc asks it: impl.compareArrays lays two blocks, draws, and turns nothing else. -/
namespace Go.Proofs.YtlfljfmhhnoinabGreat
open Go.RowKit

set_option maxHeartbeats 1000000 in
theorem compareArrays_quiet (x0 x1 x2 x3 x4 x5 y0 y1 y2 y3 y4 y5 : Int) (xs ys : List Int) (hx : xs = [x0, x1, x2, x3, x4, x5]) (hy : ys = [y0, y1, y2, y3, y4, y5]) (w : World) :
    Calls Tryz.prog 68 #[.agg #[.int .i64 x0, .int .i64 x1, .int .i64 x2, .int .i64 x3, .int .i64 x4, .int .i64 x5], .agg #[.int .i64 y0, .int .i64 y1, .int .i64 y2, .int .i64 y3, .int .i64 y4, .int .i64 y5]] w fun e w' => e = .returned (.int .i64 (cmp xs ys)) ∧ ∃ q, w' = ((w.alloc (.cells #[.int .i64 x0, .int .i64 x1, .int .i64 x2, .int .i64 x3, .int .i64 x4, .int .i64 x5] 62)).alloc (.cells #[.int .i64 y0, .int .i64 y1, .int .i64 y2, .int .i64 y3, .int .i64 y4, .int .i64 y5] 62)).drewN q := by
  obtain ⟨W, hW⟩ : ∃ W, W = (w.alloc (.cells #[.int .i64 x0, .int .i64 x1, .int .i64 x2, .int .i64 x3, .int .i64 x4, .int .i64 x5] 62)).alloc (.cells #[.int .i64 y0, .int .i64 y1, .int .i64 y2, .int .i64 y3, .int .i64 y4, .int .i64 y5] 62) := ⟨_, rfl⟩
  have B : Below w.heap.size w W := by rw [hW]; exact ((Below.refl _ _).alloc (Nat.le_refl _) _).alloc (by simp) _
  have A1 : Arr W w.heap.size 62 xs := by rw [hW, hx]; exact (Arr.new rfl (by simp)).alloc _
  have A2 : Arr W (w.heap.size + 1) 62 ys := by rw [hW, hy]; exact Arr.new (by simp) (by simp)
  have HW := Hid.mk hW
  obtain ⟨i0, hi, hz0, hz1, hz2⟩ := info_parts Tryz.infoInt
  have hq : ∀ w, (Op.equalIn 10000 62 (.agg #[.int .i64 x0, .int .i64 x1, .int .i64 x2, .int .i64 x3, .int .i64 x4, .int .i64 x5]) (.agg #[.int .i64 y0, .int .i64 y1, .int .i64 y2, .int .i64 y3, .int .i64 y4, .int .i64 y5])).run Tryz.prog w = .ok (decide (xs = ys)) w := fun w => by
    rw [hx, hy]
    simpa using run_equal_ints w 9998 62 3 i0 Tryz.underlying62 Tryz.underlying3 hi hz1 [x0, x1, x2, x3, x4, x5] [y0, y1, y2, y3, y4, y5] rfl rfl
  have l1 : xs.length = 6 := by rw [hx]; rfl
  have l2 : ys.length = 6 := by rw [hy]; rfl
  clear hx hy hi hz0 hz1 hz2
  by_cases he : xs = ys
  · have HC : Hid (cmp xs ys = 0) := by rw [he]; exact cmp_self ys
    rw [decide_eq_true he] at hq
    clear he A1 A2
    go_enter Tryz.func68, Tryz.ntmps68
    go_wp2
    go_ret
    exact ⟨ret_int HC.out.symm, 0, rfl⟩
  · rw [decide_eq_false he] at hq
    have HN : Hid (xs ≠ ys) := he
    clear he
    go_enter Tryz.func68, Tryz.ntmps68
    go_wp2
    rw [← hW]
    clear hW hq
    go_loopw [5] (fun i wr => ∃ k : Nat, k ≤ 6 ∧ i = .int .i64 k ∧ xs.take k = ys.take k ∧ cmp xs ys = cmp (xs.drop k) (ys.drop k) ∧ ∃ q, wr = W.drewN q) (fun i _ => 7 - (intOf i).toNat)
    case atStart => exact ⟨0, Nat.zero_le _, rfl, rfl, by simp, 0, rfl⟩
    case round =>
      obtain ⟨k, hk, rfl, ht, hcmp, q, rfl⟩ := hrel
      have hlt : k < 6 := by
        rcases Nat.lt_or_ge k 6 with h | h
        · exact h
        · exact absurd (take_all_eq (by omega) (by omega) ht) HN.out
      have hcx := A1.cell k (by omega)
      have hcy := A2.cell k (by omega)
      have HT : Hid (xs.getD k 0 = ys.getD k 0 → xs.take (k + 1) = ys.take (k + 1)) := fun e => by
        rw [take_succ_getD xs k (by omega), take_succ_getD ys k (by omega), ht, e]
      have HD : Hid (cmp xs ys = _) := hcmp.trans (cmp_drop xs ys k (by omega) (by omega))
      clear ht hcmp A1 A2
      obtain ⟨x, hx⟩ : ∃ x, x = xs.getD k 0 := ⟨_, rfl⟩
      obtain ⟨y, hy⟩ : ∃ y, y = ys.getD k 0 := ⟨_, rfl⟩
      rw [← hx] at hcx HD HT
      rw [← hy] at hcy HD HT
      clear hx hy
      have hk6 : (k : Int) < 6 := by omega
      rcases Int.lt_trichotomy x y with h | h | h
      · have hne : (x == y) = false := by simp; omega
        go_wp2
        go_quiet (fail)
        go_wp2
        go_quiet (fail)
        go_wp2
        go_ret
        exact ⟨ret_int (by rw [HD.out, if_pos h]), _, by rw [← HW.out]; simp; rfl⟩
      · subst h
        go_wp2
        go_quiet (fail)
        go_wp2
        go_roundw
        case rel => exact ⟨k + 1, by omega, by go_num, HT.out (by trivial), by rw [HD.out, if_neg (by omega), if_neg (by omega)], _, rfl⟩
        case measure => simp [intOf]; omega
      · have hne : (x == y) = false := by simp; omega
        go_wp2
        go_quiet (fail)
        go_wp2
        go_quiet (fail)
        go_wp2
        go_ret
        exact ⟨ret_int (by rw [HD.out, if_neg (by omega), if_pos h]), _, by rw [← HW.out]; simp; rfl⟩

open Go.Shelf Go.Sort

/-- Six numbers. -/
abbrev Six := Int × Int × Int × Int × Int × Int
def Six.list (x : Six) : List Int := [x.1, x.2.1, x.2.2.1, x.2.2.2.1, x.2.2.2.2.1, x.2.2.2.2.2]
def Six.enc (x : Six) : List Value := [.int .i64 x.1, .int .i64 x.2.1, .int .i64 x.2.2.1, .int .i64 x.2.2.2.1, .int .i64 x.2.2.2.2.1, .int .i64 x.2.2.2.2.2]
def Six.cf (x y : Six) : Int := cmp (Six.list x) (Six.list y)
theorem Six.list_inj {x y : Six} (h : Six.list x = Six.list y) : x = y := by
  obtain ⟨a, b, c, d, e, f⟩ := x
  obtain ⟨a', b', c', d', e', f'⟩ := y
  simpa [Six.list] using h

theorem Six.lays (blk off size : Nat) (w : World) : CmpLays Tryz.prog 68 #[] Six.enc 6 Six.cf blk off size w := fun m os dk _ x y => by
  refine (compareArrays_quiet _ _ _ _ _ _ _ _ _ _ _ _ (Six.list x) (Six.list y) rfl rfl _).mono ?_
  rintro e w' ⟨rfl, q, rfl⟩
  exact ⟨rfl, q, _, by rw [alloc_eq_grow, alloc_eq_grow, grow_grow]; rfl⟩

theorem cmp_nlt {xs ys zs : List Int} (h1 : ¬ cmp xs ys < 0) (h2 : ¬ cmp ys zs < 0) : ¬ cmp xs zs < 0 := fun h => by
  have h3 := cmp_swap xs ys
  by_cases e : cmp ys xs < 0
  · exact h2 (cmp_trans e h)
  · have : cmp xs ys = 0 := by omega
    rw [cmp_eq this] at h
    exact h2 h

theorem Six.lt (x y : Six) : ltOf Six.cf x y = decide (cmp (Six.list x) (Six.list y) < 0) := rfl
theorem Six.swo : SWO (ltOf Six.cf) where
  irrefl x := by rw [Six.lt]; exact decide_eq_false (cmp_irrefl _)
  trans x y z h1 h2 := by rw [Six.lt, decide_eq_true_eq] at *; exact cmp_trans h1 h2
  ntrans x y z h1 h2 := by rw [Six.lt, decide_eq_false_iff_not] at *; exact cmp_nlt h1 h2
theorem Six.total (x y : Six) (h1 : ltOf Six.cf x y = false) (h2 : ltOf Six.cf y x = false) : x = y := by
  rw [Six.lt, decide_eq_false_iff_not] at h1 h2
  have := cmp_swap (Six.list x) (Six.list y)
  exact Six.list_inj (cmp_eq (by omega))

end Go.Proofs.YtlfljfmhhnoinabGreat

/- Arrays of six numbers as keys. -/
namespace Go.Proofs.YtlfljfmhhnoinabGreat
open Go.RowKit Go.Maps

/-- Six numbers as an array's value. -/
def Six.val (x : Six) : Value := .agg #[.int .i64 x.1, .int .i64 x.2.1, .int .i64 x.2.2.1, .int .i64 x.2.2.2.1, .int .i64 x.2.2.2.2.1, .int .i64 x.2.2.2.2.2]
theorem six_of {zs : List Int} (h : zs.length = 6) : ∃ x : Six, Six.list x = zs := by
  obtain ⟨x0, x1, x2, x3, x4, x5, rfl⟩ := list6 h
  exact ⟨(x0, x1, x2, x3, x4, x5), rfl⟩
theorem six_key {key : Value} {kl : Lit} (h : keyOf Tryz.prog 62 key = some kl) : ∃ x : Six, key = Six.val x := by
  obtain ⟨zs, hf, rfl, _⟩ := keyOf_arr_inv h
  obtain ⟨x, rfl⟩ := six_of hf.1
  exact ⟨x, rfl⟩
theorem Tryz.infoA : (Tryz.prog.info? 62).map (fun i => (i.zero, i.size, i.bytes)) = some (some (.agg #[.int .i64 0, .int .i64 0, .int .i64 0, .int .i64 0, .int .i64 0, .int .i64 0]), 6, 48) := by kernel_rfl

theorem look_any {w : World} {b cnt : Nat} {D : DataW Unit} {f : List Int → Int} {S : List (List Int)} (ho : w.ownsMap Tryz.prog 62 (plainElem Tryz.prog 3) b cnt D) (hm : MapIs D f S) (x0 x1 x2 x3 x4 x5 : Int) (hf : Fits [x0, x1, x2, x3, x4, x5]) :
    (Instr.lookup 93 (.map (some b)) (.agg #[.int .i64 x0, .int .i64 x1, .int .i64 x2, .int .i64 x3, .int .i64 x4, .int .i64 x5]) false).run Tryz.prog w = .ok (.int .i64 (f [x0, x1, x2, x3, x4, x5])) w := by
  obtain ⟨c, h1, h2, _⟩ := ho.lookup_int Tryz.keyedA Tryz.underlying93 Tryz.underlying3 (Tryz.zeroInt _) (keyOf_arr _ hf)
  rw [← hm.at hf h2]
  exact h1
theorem six_later {w w' : World} {Z : Nat} {x0 x1 x2 x3 x4 x5 : Int} (hb : Below w.heap.size w w') (h : w.cell? ⟨Z, 0, none⟩ = some (.int .i64 x0) ∧ w.cell? ⟨Z, 1, none⟩ = some (.int .i64 x1) ∧ w.cell? ⟨Z, 2, none⟩ = some (.int .i64 x2) ∧ w.cell? ⟨Z, 3, none⟩ = some (.int .i64 x3) ∧ w.cell? ⟨Z, 4, none⟩ = some (.int .i64 x4) ∧ w.cell? ⟨Z, 5, none⟩ = some (.int .i64 x5)) : w'.cell? ⟨Z, 0, none⟩ = some (.int .i64 x0) ∧ w'.cell? ⟨Z, 1, none⟩ = some (.int .i64 x1) ∧ w'.cell? ⟨Z, 2, none⟩ = some (.int .i64 x2) ∧ w'.cell? ⟨Z, 3, none⟩ = some (.int .i64 x3) ∧ w'.cell? ⟨Z, 4, none⟩ = some (.int .i64 x4) ∧ w'.cell? ⟨Z, 5, none⟩ = some (.int .i64 x5) :=
  ⟨cell_later hb h.1, cell_later hb h.2.1, cell_later hb h.2.2.1, cell_later hb h.2.2.2.1, cell_later hb h.2.2.2.2.1, cell_later hb h.2.2.2.2.2⟩
theorem six_grown {w w' : World} {Z : Nat} {x0 x1 x2 x3 x4 x5 : Int} {row : Option Nat} (hg : w.grownBy w' row) (hne : some Z ≠ row) (h : w.cell? ⟨Z, 0, none⟩ = some (.int .i64 x0) ∧ w.cell? ⟨Z, 1, none⟩ = some (.int .i64 x1) ∧ w.cell? ⟨Z, 2, none⟩ = some (.int .i64 x2) ∧ w.cell? ⟨Z, 3, none⟩ = some (.int .i64 x3) ∧ w.cell? ⟨Z, 4, none⟩ = some (.int .i64 x4) ∧ w.cell? ⟨Z, 5, none⟩ = some (.int .i64 x5)) : w'.cell? ⟨Z, 0, none⟩ = some (.int .i64 x0) ∧ w'.cell? ⟨Z, 1, none⟩ = some (.int .i64 x1) ∧ w'.cell? ⟨Z, 2, none⟩ = some (.int .i64 x2) ∧ w'.cell? ⟨Z, 3, none⟩ = some (.int .i64 x3) ∧ w'.cell? ⟨Z, 4, none⟩ = some (.int .i64 x4) ∧ w'.cell? ⟨Z, 5, none⟩ = some (.int .i64 x5) :=
  ⟨hg.cell h.1 hne, hg.cell h.2.1 hne, hg.cell h.2.2.1 hne, hg.cell h.2.2.2.1 hne, hg.cell h.2.2.2.2.1 hne, hg.cell h.2.2.2.2.2 hne⟩


/-- The row that an array was made of. -/
def unr (q : Nat) (l : List Int) : List Int := (l.take q).map (· - 100001)
theorem unr_raised (zs : List Int) : unr zs.length (raised zs) = zs := by
  unfold unr raised
  rw [List.take_append_of_le_length (by simp), List.take_of_length_le (by simp), List.map_map]
  conv => rhs; rw [← List.map_id zs]
  exact List.map_congr_left fun x _ => by simp only [Function.comp, id]; omega

end Go.Proofs.YtlfljfmhhnoinabGreat
