/- Several texts of one proof, in build order: GoodStr, Rng, SortA, SixK. -/
import Derived.Test.YtlfljfmhhnoinabGreatM10
import Derived.Test.YtlfljfmhhnoinabGreatM11
import Derived.Test.YtlfljfmhhnoinabGreatM5
import Derived.RangeFuncNested
import Derived.RangeFuncCalls
import Derived.RangeFuncLeaves
import Derived.RangeFuncBound
import Derived.Shelf.Abstract
import Derived.Test.YtlfljfmhhnoinabGreatM6
import Derived.Test.YtlfljfmhhnoinabGreatM4
import Derived.Shelf.SlSortCmp.InsertionK
import Derived.Test.YtlfljfmhhnoinabGreatM8

/- Contracts of impl.GoodStream and spec.GoodStream. -/
namespace Go.Proofs.YtlfljfmhhnoinabGreat
open Go.RowKit

/-- A table of p columns that is good. -/
def tabOk (p : Int) (t : Tab) : Bool := decide (t.1 = p) && goodT p t.2
/-- A good stream of p columns. -/
def goodS (p : Int) (ss : List Tab) : Bool := inc p && (decide (ss.length ≤ 12) && ss.all (tabOk p))
theorem goodS_col {p : Int} {ss : List Tab} (h : inc p = false) : goodS p ss = false := by simp [goodS, h]
theorem goodS_len {p : Int} {ss : List Tab} (h : 12 < ss.length) : goodS p ss = false := by
  have : decide (ss.length ≤ 12) = false := by simp; omega
  simp [goodS, this]
theorem goodS_tab {p : Int} {ss : List Tab} {k : Nat} (hk : k < ss.length) (h : tabOk p (tat ss k) = false) : goodS p ss = false := by
  have : ss.all (tabOk p) = false := by
    rw [List.all_eq_false]
    exact ⟨_, tat_mem hk, fun hh => by rw [h] at hh; cases hh⟩
  simp [goodS, this]
theorem all_tab {p : Int} {ss : List Tab} {n : Nat} (hz : ss.length = n) (h : ∀ j, j < n → tabOk p (tat ss j) = true) : ss.all (tabOk p) = true := by
  rw [List.all_eq_true]
  intro t ht
  obtain ⟨j, hj, rfl⟩ := List.getElem_of_mem ht
  have := h j (by omega)
  rwa [show tat ss j = ss[j] by simp [tat, List.getD, hj]] at this
theorem goodS_mk {p : Int} {ss : List Tab} {n : Nat} (hz : ss.length = n) (h : ∀ j, j < n → tabOk p (tat ss j) = true) : goodS p ss = (inc p && decide (n ≤ 12)) := by
  subst hz; simp [goodS, all_tab rfl h]
theorem goodS_parts {p : Int} {ss : List Tab} (h : goodS p ss = true) : inc p = true ∧ ss.length ≤ 12 ∧ ∀ k, k < ss.length → (tat ss k).1 = p ∧ goodT p (tat ss k).2 = true := by
  simp only [goodS, Bool.and_eq_true, decide_eq_true_eq, List.all_eq_true] at h
  refine ⟨h.1, h.2.1, fun k hk => ?_⟩
  have := h.2.2 _ (tat_mem hk)
  simpa [tabOk] using this

set_option maxHeartbeats 4000000 in
theorem implGoodStream (a : Option Addr) (n c : Nat) (ss : List Tab) (p : Int) (w : World) (hs : SmU ss n) (ha : AtSM w a ss) :
    Calls Tryz.prog 25 #[.agg #[.int .i64 p, .slice a n c]] w fun e w' => e = .returned (.bool (goodS p ss)) ∧ Below w.heap.size w w' := by
  obtain ⟨W, hW⟩ : ∃ W, W = w.alloc (.cells #[.int .i64 p, .slice a n c] 30) := ⟨_, rfl⟩
  have B0 : Below w.heap.size w W := by rw [hW]; exact (Below.refl _ _).alloc (Nat.le_refl _) _
  have c0 : W.cell? ⟨w.heap.size, 0, none⟩ = some (.int .i64 p) := by rw [hW]; exact pair0 w _ _ _
  have c1 : W.cell? ⟨w.heap.size, 1, none⟩ = some (.slice a n c) := by rw [hW]; exact pair1 w _ _ _
  have HA := ha.below B0
  have hz := hs.1
  clear ha
  cases hi : inc p with
  | false =>
    have HI := Hid.mk hi
    clear hi
    go_enter Tryz.func25, Tryz.ntmps25
    go_wp2_with fail
    rw [← hW]
    clear hW
    refine (goodColumns_any _ _).mono ?_
    rintro e w2 ⟨rfl, rfl⟩
    rw [HI.out]
    go_wp2
    go_ret
    exact ⟨ret_bool (goodS_col HI.out).symm, B0⟩
  | true =>
    have HI := Hid.mk hi
    clear hi
    by_cases h12 : 12 < n
    · have h12' : (12 : Int) < (n : Int) := by omega
      go_enter Tryz.func25, Tryz.ntmps25
      go_wp2_with fail
      rw [← hW]
      clear hW
      refine (goodColumns_any _ _).mono ?_
      rintro e w2 ⟨rfl, rfl⟩
      rw [HI.out]
      go_wp2
      go_ret
      exact ⟨ret_bool (goodS_len (by omega)).symm, B0⟩
    · have h12' : ¬ (12 : Int) < (n : Int) := by omega
      go_enter Tryz.func25, Tryz.ntmps25
      go_wp2_with fail
      rw [← hW]
      clear hW
      refine (goodColumns_any _ _).mono ?_
      rintro e w2 ⟨rfl, rfl⟩
      rw [HI.out]
      go_wp2
      go_loopw [18] (fun i wr => ∃ (k : Nat), k ≤ n ∧ i = .int .i64 k ∧ (∀ j, j < k → tabOk p (tat ss j) = true) ∧ Below w2.heap.size w2 wr) (fun i _ => n - (intOf i).toNat)
      case atStart => exact ⟨0, Nat.zero_le _, rfl, fun j hj => by omega, Below.refl _ _⟩
      case round =>
        obtain ⟨k, hk, rfl, hall, hbw⟩ := hrel
        have B2 := B0.trans (hbw.mono B0.size)
        by_cases hlt : k < n
        · obtain ⟨b, off, rfl, hc⟩ := (HA.below hbw).some (by omega)
          obtain ⟨q, d, hcw, hcx, _, _, hat⟩ := hc k (by omega)
          have hsm := hs.tab k hlt
          have HN : Hid (tabOk p (tat ss k) = false → goodS p ss = false) := fun h => goodS_tab (by omega) h
          have HS : Hid (tabOk p (tat ss k) = true → ∀ j, j < k + 1 → tabOk p (tat ss j) = true) := fun h j hj => by
            by_cases e : j = k
            · subst e; exact h
            · exact hall j (by omega)
          have cp := cell_later hbw c0
          have hki : (k : Int) < (n : Int) := by omega
          have zr := hbw.size
          generalize tat ss k = Y at *
          obtain ⟨x, us⟩ := Y
          simp only at hcw hcx hat hsm
          obtain ⟨m, hmm⟩ : ∃ m, us.length = m := ⟨_, rfl⟩
          rw [hmm] at hcx hsm
          have HM := Hid.mk hmm
          obtain ⟨V, hV⟩ : ∃ V, V = wr.alloc (.cells #[.int .i64 x, .slice q m d] 48) := ⟨_, rfl⟩
          have hbV : Below wr.heap.size wr V := by rw [hV]; exact (Below.refl _ _).alloc (Nat.le_refl _) _
          have cl : (wr.alloc (.cells #[.int .i64 x, .slice q m d] 48)).cell? ⟨w.heap.size, 0, none⟩ = some (.int .i64 p) := cell_later ((Below.refl _ _).alloc (Nat.le_refl _) _) cp
          have v0 : V.cell? ⟨wr.heap.size, 0, none⟩ = some (.int .i64 x) := by rw [hV]; exact pair0 wr _ _ _
          have v1 : V.cell? ⟨wr.heap.size, 1, none⟩ = some (.slice q m d) := by rw [hV]; exact pair1 wr _ _ _
          have HAV := (hat.below hbV).atW
          have B3 := hbw.trans (hbV.mono hbw.size)
          have B4 := B2.trans (hbV.mono B2.size)
          clear hc hall hmm hat
          by_cases hx : x = p
          · have hne : (x != p) = false := by simp [hx]
            have HX := Hid.mk hx
            rw [hx] at HN HS
            clear hx
            cases hg : goodT x us with
            | false =>
              have HG := Hid.mk hg
              clear hg
              go_wp2_with fail
              rw [← hV]
              clear hV hcw hcx
              refine (implGoodTable_any _ _ _ us _ _ HM.out hsm.n HAV).mono ?_
              rintro e w3 ⟨rfl, hb3⟩
              rw [HG.out]
              go_wp2
              go_ret
              exact ⟨ret_bool (HN.out (by have := HG.out; rw [HX.out] at this; simp [tabOk, this])).symm, B4.trans (hb3.mono B4.size)⟩
            | true =>
              have HG := Hid.mk hg
              clear hg
              go_wp2_with fail
              rw [← hV]
              clear hV hcw hcx
              refine (implGoodTable_any _ _ _ us _ _ HM.out hsm.n HAV).mono ?_
              rintro e w3 ⟨rfl, hb3⟩
              rw [HG.out]
              go_wp2
              go_roundw
              case rel => exact ⟨k + 1, by omega, by go_num, HS.out (by have := HG.out; rw [HX.out] at this; simp [tabOk, this]), B3.trans (hb3.mono B3.size)⟩
              case measure => simp [intOf]; omega
          · have hne : (x != p) = true := by simp [hx]
            have HX := Hid.mk hx
            clear hx
            go_wp2
            rw [← hV]
            go_ret
            exact ⟨ret_bool (HN.out (by simp [tabOk, HX.out])).symm, B4⟩
        · obtain rfl : k = n := by omega
          go_wp2
          go_ret
          exact ⟨ret_bool (by rw [goodS_mk hz hall, HI.out, decide_eq_true (show k ≤ 12 by omega)]; rfl), B2⟩

set_option maxHeartbeats 4000000 in
theorem specGoodStream (a : Option Addr) (n c : Nat) (ss : List Tab) (p : Int) (w : World) (hs : SmU ss n) (ha : AtSM w a ss) :
    Calls Tryz.prog 17 #[.agg #[.int .i64 p, .slice a n c]] w fun e w' => e = .returned (.bool (goodS p ss)) ∧ Below w.heap.size w w' := by
  obtain ⟨W, hW⟩ : ∃ W, W = w.alloc (.cells #[.int .i64 p, .slice a n c] 30) := ⟨_, rfl⟩
  have B0 : Below w.heap.size w W := by rw [hW]; exact (Below.refl _ _).alloc (Nat.le_refl _) _
  have c0 : W.cell? ⟨w.heap.size, 0, none⟩ = some (.int .i64 p) := by rw [hW]; exact pair0 w _ _ _
  have c1 : W.cell? ⟨w.heap.size, 1, none⟩ = some (.slice a n c) := by rw [hW]; exact pair1 w _ _ _
  have HA := ha.below B0
  have hz := hs.1
  have hn := hs.n
  clear ha
  go_enter Tryz.func17, Tryz.ntmps17
  go_wp2
  rw [← hW]
  clear hW
  go_loopw [8] (fun i wr => ∃ (k : Nat), k ≤ n ∧ i = .int .i64 k ∧ (∀ j, j < k → tabOk p (tat ss j) = true) ∧ Below W.heap.size W wr) (fun i _ => n - (intOf i).toNat)
  case atStart => exact ⟨0, Nat.zero_le _, rfl, fun j hj => by omega, Below.refl _ _⟩
  case round =>
    obtain ⟨k, hk, rfl, hall, hbw⟩ := hrel
    have B2 := B0.trans (hbw.mono B0.size)
    have cp := cell_later hbw c0
    have cq := cell_later hbw c1
    by_cases hlt : k < n
    · obtain ⟨b, off, rfl, hc⟩ := (HA.below hbw).some (by omega)
      obtain ⟨q, d, hcw, hcx, _, _, hat⟩ := hc k (by omega)
      have hsm := hs.tab k hlt
      have HN : Hid (tabOk p (tat ss k) = false → goodS p ss = false) := fun h => goodS_tab (by omega) h
      have HS : Hid (tabOk p (tat ss k) = true → ∀ j, j < k + 1 → tabOk p (tat ss j) = true) := fun h j hj => by
        by_cases e : j = k
        · subst e; exact h
        · exact hall j (by omega)
      have hki : (k : Int) < (n : Int) := by omega
      generalize tat ss k = Y at *
      obtain ⟨x, us⟩ := Y
      simp only at hcw hcx hat hsm
      obtain ⟨m, hmm⟩ : ∃ m, us.length = m := ⟨_, rfl⟩
      rw [hmm] at hcx hsm
      have HM := Hid.mk hmm
      obtain ⟨V, hV⟩ : ∃ V, V = wr.alloc (.cells #[.int .i64 x, .slice q m d] 48) := ⟨_, rfl⟩
      have hbV : Below wr.heap.size wr V := by rw [hV]; exact (Below.refl _ _).alloc (Nat.le_refl _) _
      have cp := cell_later hbV cp
      have v0 : V.cell? ⟨wr.heap.size, 0, none⟩ = some (.int .i64 x) := by rw [hV]; exact pair0 wr _ _ _
      have v1 : V.cell? ⟨wr.heap.size, 1, none⟩ = some (.slice q m d) := by rw [hV]; exact pair1 wr _ _ _
      have HAV := (hat.below hbV).atW
      have B3 := hbw.trans (hbV.mono hbw.size)
      have B4 := B2.trans (hbV.mono B2.size)
      clear hc hall hmm hat
      cases hg : goodT x us with
      | false =>
        have HG := Hid.mk hg
        clear hg
        go_wp2_with fail
        rw [← hV]
        clear hV hcw hcx
        refine (specGoodTable_any _ _ _ us _ _ HM.out hsm.n HAV).mono ?_
        rintro e w3 ⟨rfl, hb3⟩
        rw [HG.out]
        go_wp2
        go_ret
        exact ⟨ret_bool (HN.out (by
          by_cases e : x = p
          · subst e; simp [tabOk, HG.out]
          · simp [tabOk, e])).symm, B4.trans (hb3.mono B4.size)⟩
      | true =>
        have HG := Hid.mk hg
        clear hg
        by_cases hx : x = p
        · subst hx
          go_wp2_with fail
          rw [← hV]
          clear hV hcw hcx
          refine (specGoodTable_any _ _ _ us _ _ HM.out hsm.n HAV).mono ?_
          rintro e w3 ⟨rfl, hb3⟩
          rw [HG.out]
          have cp := cell_later hb3 cp
          have v0 := cell_later hb3 v0
          go_wp2
          go_roundw
          case rel => exact ⟨k + 1, by omega, by go_num, HS.out (by simp [tabOk, HG.out]), B3.trans (hb3.mono B3.size)⟩
          case measure => simp [intOf]; omega
        · have hne : (x != p) = true := by simp [hx]
          have HX := Hid.mk hx
          clear hx
          go_wp2_with fail
          rw [← hV]
          clear hV hcw hcx
          refine (specGoodTable_any _ _ _ us _ _ HM.out hsm.n HAV).mono ?_
          rintro e w3 ⟨rfl, hb3⟩
          rw [HG.out]
          have cp := cell_later hb3 cp
          have v0 := cell_later hb3 v0
          go_wp2
          go_ret
          exact ⟨ret_bool (HN.out (by simp [tabOk, HX.out])).symm, B4.trans (hb3.mono B4.size)⟩
    · obtain rfl : k = n := by omega
      have HG := Hid.mk (goodS_mk hz hall)
      have hii : (decide ((0 : Int) ≤ p) && decide (p ≤ 6)) = inc p := rfl
      clear hall
      cases hi : inc p with
      | false =>
        have HI := Hid.mk hi
        clear hi
        go_wp2_with fail
        refine (l1In_any _ _ _ _).mono ?_
        rintro e w3 ⟨rfl, rfl⟩
        rw [hii, HI.out]
        go_wp2
        go_ret
        exact ⟨ret_bool (by rw [HG.out, HI.out]; rfl), B2⟩
      | true =>
        have HI := Hid.mk hi
        clear hi
        go_wp2_with fail
        refine (l1In_any _ _ _ _).mono ?_
        rintro e w3 ⟨rfl, rfl⟩
        rw [hii, HI.out]
        go_wp2
        go_ret
        exact ⟨ret_bool (by rw [HG.out, HI.out]; simp; omega), B2⟩

end Go.Proofs.YtlfljfmhhnoinabGreat

/- A function that hands out weighted rows, and a range over it: what it promises, and the law for its caller. No Go function is spoken of here. -/
namespace Go.Proofs.YtlfljfmhhnoinabGreat
open Go.RowKit Go.Shelf

/-- The row a lies outside the blocks lo .. hi - 1, or is empty. -/
def Far (lo hi : Nat) (a : Option Addr) (zs : List Int) : Prop := zs = [] ∨ ∃ p, a = some p ∧ (p.block < lo ∨ hi ≤ p.block)
theorem Far.mono {lo hi hi' : Nat} {a : Option Addr} {zs : List Int} (h : Far lo hi a zs) (hh : hi' ≤ hi) : Far lo hi' a zs := h.imp id fun ⟨p, e, c⟩ => ⟨p, e, c.imp id (Nat.le_trans hh)⟩
theorem At.far_low {w : World} {a : Option Addr} {zs : List Int} (h : At w a zs) {lo hi : Nat} (hl : w.heap.size ≤ lo) : Far lo hi a zs := by
  rcases h with rfl | ⟨b, off, rfl, hc⟩
  · exact .inl rfl
  · by_cases hz : zs = []
    · exact .inl hz
    · have hlt := World.block_lt_of_cell? _ _ (hc 0 (List.length_pos_iff.2 hz))
      exact .inr ⟨_, rfl, .inl (Nat.lt_of_lt_of_le hlt hl)⟩
theorem far_owned {w : World} {base : Nat} {e : TypeId} {a : Option Addr} {n c : Nat} {zs : List Int} (h : w.ownsRow base e 1 (.slice a n c) n (zs.map (.int .i64))) {lo hi : Nat} (hh : hi ≤ base) : Far lo hi a zs := by
  rcases h.2 with ⟨_, hx⟩ | ⟨g, cap, cur, e, hb, _⟩
  · have h1 := h.1
    rw [hx] at h1
    simp only [List.length_map, Nat.zero_mul] at h1
    exact .inl (List.eq_nil_of_length_eq_zero h1)
  · cases e
    exact .inr ⟨_, rfl, .inr (Nat.le_trans hh hb)⟩
theorem At.far {lo hi : Nat} {w w' : World} {a : Option Addr} {zs : List Int} (h : At w a zs) (hf : Far lo hi a zs) (hap : Apart lo hi w w') : At w' a zs := by
  rcases h with rfl | ⟨b, off, rfl, hc⟩
  · exact .inl rfl
  · rcases hf with rfl | ⟨p, e, hp⟩
    · exact .inl rfl
    · cases e
      exact .inr ⟨b, off, rfl, fun i hi => hap.cell (hc i hi) hp⟩

/-- The function value (g, lb) calls yield with the rows xs, one by one, as long as yield says yes: all that it reads lies below w's end; a round may turn what lies from n₀ on and lay ahead of the call; behind it all is as each round leaves it. -/
def Hands (P : Program) (g : Nat) (lb : Array Value) (xs : List WRow) (w : World) : Prop :=
  ∀ (n₀ l : Nat) (J : Nat → World → Prop) (W : World), w.heap.size ≤ n₀ → n₀ ≤ W.heap.size → Below w.heap.size w W →
    (∀ k A B, Below W.heap.size A B → J k A → J k B) →
    (∀ k W1 a n c, k < xs.length → J k W1 → W.heap.size ≤ W1.heap.size → (wat xs k).1.length = n → (a = none → c = 0) → At W1 a (wat xs k).1 → Far n₀ W.heap.size a (wat xs k).1 →
      YieldAt Fence.wide 0 P l #[.agg #[.slice a n c], .int .i64 (wat xs k).2] W1 fun e W' => e = .returned (.bool true) ∧ J (k + 1) W' ∧ Apart n₀ W.heap.size W1 W') →
    J 0 W →
    CallsIn Fence.wide 0 P g (#[.func (.yield l) #[] #[]] ++ lb) W fun e W' => (∃ v, e = .returned v) ∧ J xs.length W' ∧ Apart n₀ W.heap.size W W'

theorem Hands.later {P : Program} {g : Nat} {lb : Array Value} {xs : List WRow} {w w' : World} (h : Hands P g lb xs w) (hb : Below w.heap.size w w') : Hands P g lb xs w' :=
  fun n₀ l J W h1 h2 h3 hJ hY h0 => h n₀ l J W (Nat.le_trans hb.size h1) h2 (hb.trans (h3.mono hb.size)) hJ hY h0

/-- One block that holds no cells has turned. -/
structure Turned (l : Nat) (W W' : World) : Prop where
  grown : W.grownBy W' (some l)
  loop : ∃ r, W.heap[l]? = some (.loop r)
  size : W'.heap.size = W.heap.size
theorem Turned.cell {l : Nat} {W W' : World} (h : Turned l W W') {p : Addr} {v : Value} (hc : W.cell? p = some v) : W'.cell? p = some v := by
  obtain ⟨r, hr⟩ := h.loop
  refine h.grown.cell hc (fun e => ?_)
  simp only [Option.some.injEq] at e
  rw [World.cell?, e, hr] at hc
  simp at hc
theorem Turned.frozen {l : Nat} {W W' : World} (h : Turned l W W') {p : Addr} {v : Value} (hc : W.cell? p = some v) : W'.frozen? p = W.frozen? p := by
  obtain ⟨r, hr⟩ := h.loop
  refine World.frozen?_of_block (h.grown.block _ (World.block_lt_of_cell? _ _ hc) (fun e => ?_))
  simp only [Option.some.injEq] at e
  rw [World.cell?, e, hr] at hc
  simp at hc
theorem Turned.at {l : Nat} {W W' : World} (h : Turned l W W') {a : Option Addr} {zs : List Int} (ha : At W a zs) : At W' a zs := by
  rcases ha with ha | ⟨b, off, rfl, hc⟩
  · exact .inl ha
  · exact .inr ⟨b, off, rfl, fun i hi => h.cell (hc i hi)⟩
theorem Turned.below {l B : Nat} {W W' : World} (h : Turned l W W') (hB : B ≤ l) : Below B W W' :=
  ⟨h.grown.os, h.grown.tape, h.grown.output, h.grown.size, fun k hk => by
    obtain ⟨r, hr⟩ := h.loop
    have hlt := (Array.getElem?_eq_some_iff.1 hr).1
    exact h.grown.block k (by omega) (fun e => by simp only [Option.some.injEq] at e; omega)⟩
theorem turned_put {l : Nat} {W : World} {r : Loop} (h : W.heap[l]? = some (.loop r)) (o : Obj) : Turned l W (W.putObj l o) := ⟨grownBy_putObj' W l o, ⟨r, h⟩, by simp⟩

section
variable {P : Program} {Q : Exit → Act → World → Prop}

/-- How a round is walked: the assignments, then the body, which always goes on. -/
def RoundWalk (P : Program) (xs : List WRow) (p0 p1 : Tmp) (assign body : Code) (tmps : Array Value) (I : Nat → World → Prop) (n₀ N : Nat) : Prop :=
  ∀ (l k : Nat) (W1 : World) (b : Option Addr) (n c : Nat), N ≤ l → k < xs.length → I k W1 → N ≤ W1.heap.size → (∃ r, W1.heap[l]? = some (.loop r)) → (wat xs k).1.length = n → (b = none → c = 0) → At W1 b (wat xs k).1 → Far n₀ N b (wat xs k).1 →
    assign.wpIn (Fence.wide.inRound l) 0 P (Exit.then (fun a' W2 => Below W1.heap.size W1 W2 ∧ ∀ W3, Turned l W2 W3 → (∃ r, W3.heap[l]? = some (.loop r)) →
      body.wpIn (Fence.wide.inRound l) 0 P (fun e _ W4 => e = .normal ∧ I (k + 1) W4 ∧ Apart n₀ N W3 W4) a' W3) (fun _ _ _ => False))
      { tmps := (tmps.setIfInBounds p0 (.agg #[.slice b n c])).setIfInBounds p1 (.int .i64 (wat xs k).2), defers := [] } W1

theorem zip_two (t : Array Value) (p0 p1 : Tmp) (u v : Value) : (#[p0, p1].zip #[u, v]).foldl (fun tmps x => match x with | (t, a) => tmps.setIfInBounds t a) t = (t.setIfInBounds p0 u).setIfInBounds p1 v := by simp

theorem round_core {xs : List WRow} {p0 p1 : Tmp} {assign body : Code} {a : Act} {I : Nat → World → Prop} {n₀ N l N' : Nat} {fn : FuncId} {D : Nat} {o : Obj} (hNl : N ≤ l) (hlN : l < N') (hDl : D ≠ l) (hND : N ≤ D) (hDN : D < N') (_hn₀ : n₀ ≤ N)
    (rec : LoopState → Option Code → Loop) (hrec : ∀ s j, (rec s j).params = #[p0, p1] ∧ (rec s j).tmps = a.tmps ∧ (rec s j).fn = fn ∧ (rec s j).assign = assign ∧ (rec s j).body = body ∧ (rec s j).state = s ∧
      (∀ s', { rec s j with state := s' } = rec s' j) ∧ (∀ s' j', { rec s j with state := s', pending := j' } = rec s' j'))
    (hI : ∀ k A B, Below N A B → I k A → I k B) (hround : RoundWalk P xs p0 p1 assign body a.tmps I n₀ N)
    (k : Nat) (W : World) (b : Option Addr) (n c : Nat) (hk : k < xs.length) (hJ : I k W ∧ W.heap[l]? = some (.loop (rec .ready none)) ∧ W.heap[D]? = some o) (hsz : N' ≤ W.heap.size) (hn : (wat xs k).1.length = n) (hnil : b = none → c = 0) (hat : At W b (wat xs k).1) (hfar : Far n₀ N' b (wat xs k).1) :
    YieldAt Fence.wide 0 P l #[.agg #[.slice b n c], .int .i64 (wat xs k).2] W fun e W' => e = .returned (.bool true) ∧ (I (k + 1) W' ∧ W'.heap[l]? = some (.loop (rec .ready none)) ∧ W'.heap[D]? = some o) ∧ Apart n₀ N' W W' := by
  obtain ⟨hi, hl, hd⟩ := hJ
  obtain ⟨h1, h2, h3, h4, h5, _, h7, h8⟩ := hrec .ready none
  have hy := run_yield (P := P) (args := #[.agg #[.slice b n c], .int .i64 (wat xs k).2]) hl (by rw [h1]; rfl)
  rw [h1, h2, h3, h4, h5] at hy
  refine ⟨fn, _, assign, body, hy, roundIn_of_wpIn trivial ?_⟩
  clear hy
  rw [zip_two]
  refine wpIn_mono (hround l k W b n c hNl hk hi (by omega) ⟨_, hl⟩ hn hnil hat (hfar.mono (by omega))) ?_
  intro e a' W2 hq
  cases e with
  | normal =>
    obtain ⟨hb2, hbody⟩ := hq
    have hl2 : W2.heap[l]? = some (.loop (rec .ready none)) := (hb2.block l (by omega)).trans hl
    have hd2 : W2.heap[D]? = some o := (hb2.block D (by omega)).trans hd
    have hbr := run_beginRound (P := P) hl2 (hrec .ready none).2.2.2.2.2.1
    rw [h7 .busy] at hbr
    refine ⟨_, hbr, ?_⟩
    have hlt2 : l < W2.heap.size := by have := hb2.size; omega
    have hT := turned_put hl2 (.loop (rec .busy none))
    have hl3 : (W2.putObj l (.loop (rec .busy none))).heap[l]? = some (.loop (rec .busy none)) := World.putObj_heap_same hlt2
    have hd3 : (W2.putObj l (.loop (rec .busy none))).heap[D]? = some o := (World.putObj_heap_other hDl).trans hd2
    refine wpIn_mono (hbody _ hT ⟨_, hl3⟩) ?_
    intro e' a'' W4 hq'
    obtain ⟨rfl, hi4, hap⟩ := hq'
    have hs3 : (W2.putObj l (.loop (rec .busy none))).heap.size = W2.heap.size := hT.size
    have hl4 : W4.heap[l]? = some (.loop (rec .busy none)) := (hap.block l (by omega) (.inr hNl)).trans hl3
    have hd4 : W4.heap[D]? = some o := (hap.block D (by have := hb2.size; omega) (.inr hND)).trans hd3
    have her := run_endRound (P := P) none hl4
    have e9 := (hrec .busy none).2.2.2.2.2.2.2
    simp only [Option.isNone_none, if_true] at her
    rw [e9 .ready none] at her
    have hT4 := turned_put hl4 (.loop (rec .ready none))
    have hlt4 : l < W4.heap.size := (Array.getElem?_eq_some_iff.1 hl4).1
    refine ⟨_, _, her, rfl, ⟨hI _ _ _ (hT4.below hNl) hi4, World.putObj_heap_same hlt4, (World.putObj_heap_other hDl).trans hd4⟩, ?_⟩
    refine ⟨hT4.grown.os.trans (hap.os.trans (hT.grown.os.trans hb2.os)), hT4.grown.tape.trans (hap.tape.trans (hT.grown.tape.trans hb2.tape)), hT4.grown.output.trans (hap.output.trans (hT.grown.output.trans hb2.output)), ?_, fun j hj hc => ?_⟩
    · have := hb2.size; have := hap.size; have := hT4.grown.size; omega
    · have hjl : j ≠ l := by omega
      have z2 := hb2.size
      have z4 := hap.size
      rw [hT4.grown.block j (by omega) (fun e => hjl (by simpa using e)), hap.block j (by omega) (by omega), hT.grown.block j (by omega) (fun e => hjl (by simpa using e)), hb2.block j hj]
  | _ => exact hq.elim

/-- **A range over such a function**, in a function's own body. -/
theorem range_hands {g : Operand} {p0 p1 : Tmp} {assign body : Code} {a : Act} {w w0 : World} {gf : Nat} {lb : Array Value} {xs : List WRow} (hg : a.eval g = .func (.func gf) #[] lb) (eg : ∀ args w, (callFunc gf args).run P w = .ok (.enter gf args) w)
    (hH : Hands P gf lb xs w0) (hw : Below w0.heap.size w0 w) (n₀ : Nat) (hn0 : w0.heap.size ≤ n₀) (hn1 : n₀ ≤ w.heap.size) (I : Nat → World → Prop) (hI : ∀ k A B, Below w.heap.size A B → I k A → I k B) (h0 : I 0 w)
    (hround : RoundWalk P xs p0 p1 assign body a.tmps I n₀ w.heap.size)
    (hdone : ∀ D W, w.heap.size ≤ D → I xs.length W → Apart n₀ w.heap.size w W → W.heap[D]? = some (.deferred (some [])) → Q .normal { a with defers := { target := .collected D, args := #[] } :: a.defers } W) :
    (Code.rangeFunc g #[p0, p1] assign body).wpIn Fence.wide 0 P Q a w := by
  refine wpIn_rangeFunc ?_
  intro fn _
  obtain ⟨rec, hrec⟩ : ∃ rec : LoopState → Option Code → Loop, rec = fun st pe => { state := st, pending := pe, fn, tmps := a.tmps, params := #[p0, p1], assign, body, defers := w.heap.size } := ⟨_, rfl⟩
  obtain ⟨W1, hW1⟩ : ∃ W1, W1 = (w.alloc (.deferred (some []))).alloc (.loop (rec .ready none)) := ⟨_, rfl⟩
  have z1 : W1.heap.size = w.heap.size + 1 + 1 := by rw [hW1]; simp
  have hL : W1.heap[w.heap.size + 1]? = some (.loop (rec .ready none)) := by
    rw [hW1]; have := heap_alloc_new (w.alloc (.deferred (some []))) (.loop (rec .ready none)); rwa [World.size_alloc] at this
  have hD : W1.heap[w.heap.size]? = some (.deferred (some [])) := by
    rw [hW1]; exact (Below.heap_alloc _ _ _ (by simp)).trans (heap_alloc_new w _)
  have hb1 : Below w.heap.size w W1 := by rw [hW1]; exact ((Below.refl _ w).alloc (Nat.le_refl _) _).alloc (by simp) _
  refine ⟨w.heap.size + 1, [{ target := .collected w.heap.size, args := #[] }], W1, { target := .fn (.func gf) lb, args := #[.func (.yield (w.heap.size + 1)) #[] #[]] }, W1, gf, #[.func (.yield (w.heap.size + 1)) #[] #[]] ++ lb, W1, ?_, ?_, fun _ _ => trivial, ?_, fun h => by simp [Fence.wide] at h, ?_⟩
  · rw [hW1, hrec]; exact run_enterLoop_outer _ _ _ _ _
  · simp only [resolve, hg]
    simp [go_sem]
  · simp [invoke, go_sem, eg]
  · refine (hH n₀ (w.heap.size + 1) (fun k W => I k W ∧ W.heap[w.heap.size + 1]? = some (.loop (rec .ready none)) ∧ W.heap[w.heap.size]? = some (.deferred (some []))) W1 hn0 (by omega) (hw.trans (hb1.mono hw.size))
      (fun k A B hb ⟨j1, j2, j3⟩ => ⟨hI k A B (hb.mono (by omega)) j1, (hb.block _ (by omega)).trans j2, (hb.block _ (by omega)).trans j3⟩)
      (fun k W b n c hk hJ hsz hn hnil hat hfar => round_core (N' := W1.heap.size) (by omega) (by omega) (by omega) (Nat.le_refl _) (by omega) hn1 rec (fun s j => by rw [hrec]; exact ⟨rfl, rfl, rfl, rfl, rfl, rfl, fun _ => rfl, fun _ _ => rfl⟩) hI hround k W b n c hk hJ hsz hn hnil hat hfar)
      ⟨hI 0 w W1 hb1 h0, hL, hD⟩).mono ?_
    rintro e W2 ⟨⟨v, rfl⟩, ⟨hi, hl, hd⟩, hap⟩
    have hst : (rec .ready none).state ≠ .busy := by rw [hrec]; simp
    have hel : (Instr.endLoop (w.heap.size + 1)).run P W2 = .ok none (W2.putObj (w.heap.size + 1) (.loop { rec .ready none with state := .exhausted })) := by
      have h := run_endLoop (P := P) hl hst
      rw [h, hrec]
    have hT := turned_put hl (.loop { rec .ready none with state := .exhausted })
    refine ⟨none, _, hel, hdone w.heap.size _ (Nat.le_refl _) (hI _ _ _ (hT.below (B := w.heap.size) (Nat.le_succ _)) hi) ?_ ((World.putObj_heap_other (show w.heap.size ≠ w.heap.size + 1 by omega)).trans hd)⟩
    refine ⟨hT.grown.os.trans (hap.os.trans hb1.os), hT.grown.tape.trans (hap.tape.trans hb1.tape), hT.grown.output.trans (hap.output.trans hb1.output), ?_, fun j hj hc => ?_⟩
    · have := hap.size; have := hT.grown.size; omega
    · have z2 := hap.size
      rw [hT.grown.block j (by omega) (fun e => by simp only [Option.some.injEq] at e; omega), hap.block j (by omega) (by omega), hb1.block j (by omega)]

end
end Go.Proofs.YtlfljfmhhnoinabGreat

/- The order of arrays as slices.SortFunc asks it: impl.compareArrays lays two blocks, draws, and turns nothing else. -/
namespace Go.Proofs.YtlfljfmhhnoinabGreat
open Go.RowKit

set_option maxHeartbeats 1000000 in
theorem compareArrays_quiet (x0 x1 x2 x3 x4 x5 y0 y1 y2 y3 y4 y5 : Int) (xs ys : List Int) (hx : xs = [x0, x1, x2, x3, x4, x5]) (hy : ys = [y0, y1, y2, y3, y4, y5]) (w : World) :
    Calls Tryz.prog 68 #[.agg #[.int .i64 x0, .int .i64 x1, .int .i64 x2, .int .i64 x3, .int .i64 x4, .int .i64 x5], .agg #[.int .i64 y0, .int .i64 y1, .int .i64 y2, .int .i64 y3, .int .i64 y4, .int .i64 y5]] w fun e w' => e = .returned (.int .i64 (cmp xs ys)) ∧ ∃ q, w' = ((w.alloc (.cells #[.int .i64 x0, .int .i64 x1, .int .i64 x2, .int .i64 x3, .int .i64 x4, .int .i64 x5] 62)).alloc (.cells #[.int .i64 y0, .int .i64 y1, .int .i64 y2, .int .i64 y3, .int .i64 y4, .int .i64 y5] 62)).drewN q := by
  obtain ⟨W, hW⟩ : ∃ W, W = (w.alloc (.cells #[.int .i64 x0, .int .i64 x1, .int .i64 x2, .int .i64 x3, .int .i64 x4, .int .i64 x5] 62)).alloc (.cells #[.int .i64 y0, .int .i64 y1, .int .i64 y2, .int .i64 y3, .int .i64 y4, .int .i64 y5] 62) := ⟨_, rfl⟩
  have B : Below w.heap.size w W := by rw [hW]; exact ((Below.refl _ _).alloc (Nat.le_refl _) _).alloc (by simp) _
  have A1 : Arr W w.heap.size 62 xs := by rw [hW, hx]; exact (Arr.new rfl (by simp)).alloc _
  have A2 : Arr W (w.heap.size + 1) 62 ys := by rw [hW, hy]; exact Arr.new (by simp) (by simp)
  have HW := Hid.mk hW
  obtain ⟨i0, hi, hz0, hz1, hz2⟩ := info_parts Tryz.infoInt
  have hq : ∀ w, (Op.equalIn 10000 62 (.agg #[.int .i64 x0, .int .i64 x1, .int .i64 x2, .int .i64 x3, .int .i64 x4, .int .i64 x5]) (.agg #[.int .i64 y0, .int .i64 y1, .int .i64 y2, .int .i64 y3, .int .i64 y4, .int .i64 y5])).run Tryz.prog w = .ok (decide (xs = ys)) w := fun w => by
    rw [hx, hy]
    simpa using run_equal_ints w 9998 62 3 i0 Tryz.underlying62 Tryz.underlying3 hi hz1 [x0, x1, x2, x3, x4, x5] [y0, y1, y2, y3, y4, y5] rfl rfl
  have l1 : xs.length = 6 := by rw [hx]; rfl
  have l2 : ys.length = 6 := by rw [hy]; rfl
  clear hx hy hi hz0 hz1 hz2
  by_cases he : xs = ys
  · have HC : Hid (cmp xs ys = 0) := by rw [he]; exact cmp_self ys
    rw [decide_eq_true he] at hq
    clear he A1 A2
    go_enter Tryz.func68, Tryz.ntmps68
    go_wp2
    go_ret
    exact ⟨ret_int HC.out.symm, 0, rfl⟩
  · rw [decide_eq_false he] at hq
    have HN : Hid (xs ≠ ys) := he
    clear he
    go_enter Tryz.func68, Tryz.ntmps68
    go_wp2
    rw [← hW]
    clear hW hq
    go_loopw [5] (fun i wr => ∃ k : Nat, k ≤ 6 ∧ i = .int .i64 k ∧ xs.take k = ys.take k ∧ cmp xs ys = cmp (xs.drop k) (ys.drop k) ∧ ∃ q, wr = W.drewN q) (fun i _ => 7 - (intOf i).toNat)
    case atStart => exact ⟨0, Nat.zero_le _, rfl, rfl, by simp, 0, rfl⟩
    case round =>
      obtain ⟨k, hk, rfl, ht, hcmp, q, rfl⟩ := hrel
      have hlt : k < 6 := by
        rcases Nat.lt_or_ge k 6 with h | h
        · exact h
        · exact absurd (take_all_eq (by omega) (by omega) ht) HN.out
      have hcx := A1.cell k (by omega)
      have hcy := A2.cell k (by omega)
      have HT : Hid (xs.getD k 0 = ys.getD k 0 → xs.take (k + 1) = ys.take (k + 1)) := fun e => by
        rw [take_succ_getD xs k (by omega), take_succ_getD ys k (by omega), ht, e]
      have HD : Hid (cmp xs ys = _) := hcmp.trans (cmp_drop xs ys k (by omega) (by omega))
      clear ht hcmp A1 A2
      obtain ⟨x, hx⟩ : ∃ x, x = xs.getD k 0 := ⟨_, rfl⟩
      obtain ⟨y, hy⟩ : ∃ y, y = ys.getD k 0 := ⟨_, rfl⟩
      rw [← hx] at hcx HD HT
      rw [← hy] at hcy HD HT
      clear hx hy
      have hk6 : (k : Int) < 6 := by omega
      rcases Int.lt_trichotomy x y with h | h | h
      · have hne : (x == y) = false := by simp; omega
        go_wp2
        go_quiet (fail)
        go_wp2
        go_quiet (fail)
        go_wp2
        go_ret
        exact ⟨ret_int (by rw [HD.out, if_pos h]), _, by rw [← HW.out]; simp; rfl⟩
      · subst h
        go_wp2
        go_quiet (fail)
        go_wp2
        go_roundw
        case rel => exact ⟨k + 1, by omega, by go_num, HT.out (by trivial), by rw [HD.out, if_neg (by omega), if_neg (by omega)], _, rfl⟩
        case measure => simp [intOf]; omega
      · have hne : (x == y) = false := by simp; omega
        go_wp2
        go_quiet (fail)
        go_wp2
        go_quiet (fail)
        go_wp2
        go_ret
        exact ⟨ret_int (by rw [HD.out, if_neg (by omega), if_pos h]), _, by rw [← HW.out]; simp; rfl⟩

open Go.Shelf Go.Sort

/-- Six numbers. -/
abbrev Six := Int × Int × Int × Int × Int × Int
def Six.list (x : Six) : List Int := [x.1, x.2.1, x.2.2.1, x.2.2.2.1, x.2.2.2.2.1, x.2.2.2.2.2]
def Six.enc (x : Six) : List Value := [.int .i64 x.1, .int .i64 x.2.1, .int .i64 x.2.2.1, .int .i64 x.2.2.2.1, .int .i64 x.2.2.2.2.1, .int .i64 x.2.2.2.2.2]
def Six.cf (x y : Six) : Int := cmp (Six.list x) (Six.list y)
theorem Six.list_inj {x y : Six} (h : Six.list x = Six.list y) : x = y := by
  obtain ⟨a, b, c, d, e, f⟩ := x
  obtain ⟨a', b', c', d', e', f'⟩ := y
  simpa [Six.list] using h

theorem Six.lays (blk off size : Nat) (w : World) : CmpLays Tryz.prog 68 #[] Six.enc 6 Six.cf blk off size w := fun m os dk _ x y => by
  refine (compareArrays_quiet _ _ _ _ _ _ _ _ _ _ _ _ (Six.list x) (Six.list y) rfl rfl _).mono ?_
  rintro e w' ⟨rfl, q, rfl⟩
  exact ⟨rfl, q, _, by rw [alloc_eq_grow, alloc_eq_grow, grow_grow]; rfl⟩

theorem cmp_nlt {xs ys zs : List Int} (h1 : ¬ cmp xs ys < 0) (h2 : ¬ cmp ys zs < 0) : ¬ cmp xs zs < 0 := fun h => by
  have h3 := cmp_swap xs ys
  by_cases e : cmp ys xs < 0
  · exact h2 (cmp_trans e h)
  · have : cmp xs ys = 0 := by omega
    rw [cmp_eq this] at h
    exact h2 h

theorem Six.lt (x y : Six) : ltOf Six.cf x y = decide (cmp (Six.list x) (Six.list y) < 0) := rfl
theorem Six.swo : SWO (ltOf Six.cf) where
  irrefl x := by rw [Six.lt]; exact decide_eq_false (cmp_irrefl _)
  trans x y z h1 h2 := by rw [Six.lt, decide_eq_true_eq] at *; exact cmp_trans h1 h2
  ntrans x y z h1 h2 := by rw [Six.lt, decide_eq_false_iff_not] at *; exact cmp_nlt h1 h2
theorem Six.total (x y : Six) (h1 : ltOf Six.cf x y = false) (h2 : ltOf Six.cf y x = false) : x = y := by
  rw [Six.lt, decide_eq_false_iff_not] at h1 h2
  have := cmp_swap (Six.list x) (Six.list y)
  exact Six.list_inj (cmp_eq (by omega))

end Go.Proofs.YtlfljfmhhnoinabGreat

/- Arrays of six numbers as keys. -/
namespace Go.Proofs.YtlfljfmhhnoinabGreat
open Go.RowKit Go.Maps

/-- Six numbers as an array's value. -/
def Six.val (x : Six) : Value := .agg #[.int .i64 x.1, .int .i64 x.2.1, .int .i64 x.2.2.1, .int .i64 x.2.2.2.1, .int .i64 x.2.2.2.2.1, .int .i64 x.2.2.2.2.2]
theorem Six.val_arr (x : Six) : Six.val x = arrV (Six.list x) := rfl
theorem six_of {zs : List Int} (h : zs.length = 6) : ∃ x : Six, Six.list x = zs := by
  obtain ⟨x0, x1, x2, x3, x4, x5, rfl⟩ := list6 h
  exact ⟨(x0, x1, x2, x3, x4, x5), rfl⟩
theorem six_key {key : Value} {kl : Lit} (h : keyOf Tryz.prog 62 key = some kl) : ∃ x : Six, key = Six.val x := by
  obtain ⟨zs, hf, rfl, _⟩ := keyOf_arr_inv h
  obtain ⟨x, rfl⟩ := six_of hf.1
  exact ⟨x, rfl⟩
theorem Tryz.infoA : (Tryz.prog.info? 62).map (fun i => (i.zero, i.size, i.bytes)) = some (some (.agg #[.int .i64 0, .int .i64 0, .int .i64 0, .int .i64 0, .int .i64 0, .int .i64 0]), 6, 48) := by kernel_rfl

theorem look_any {w : World} {b cnt : Nat} {D : DataW Unit} {f : List Int → Int} {S : List (List Int)} (ho : w.ownsMap Tryz.prog 62 (plainElem Tryz.prog 3) b cnt D) (hm : MapIs D f S) (x0 x1 x2 x3 x4 x5 : Int) (hf : Fits [x0, x1, x2, x3, x4, x5]) :
    (Instr.lookup 93 (.map (some b)) (.agg #[.int .i64 x0, .int .i64 x1, .int .i64 x2, .int .i64 x3, .int .i64 x4, .int .i64 x5]) false).run Tryz.prog w = .ok (.int .i64 (f [x0, x1, x2, x3, x4, x5])) w := by
  obtain ⟨c, h1, h2, _⟩ := ho.lookup_int Tryz.keyedA Tryz.underlying93 Tryz.underlying3 (Tryz.zeroInt _) (keyOf_arr _ hf)
  rw [← hm.at hf h2]
  exact h1
theorem six_later {w w' : World} {Z : Nat} {x0 x1 x2 x3 x4 x5 : Int} (hb : Below w.heap.size w w') (h : w.cell? ⟨Z, 0, none⟩ = some (.int .i64 x0) ∧ w.cell? ⟨Z, 1, none⟩ = some (.int .i64 x1) ∧ w.cell? ⟨Z, 2, none⟩ = some (.int .i64 x2) ∧ w.cell? ⟨Z, 3, none⟩ = some (.int .i64 x3) ∧ w.cell? ⟨Z, 4, none⟩ = some (.int .i64 x4) ∧ w.cell? ⟨Z, 5, none⟩ = some (.int .i64 x5)) : w'.cell? ⟨Z, 0, none⟩ = some (.int .i64 x0) ∧ w'.cell? ⟨Z, 1, none⟩ = some (.int .i64 x1) ∧ w'.cell? ⟨Z, 2, none⟩ = some (.int .i64 x2) ∧ w'.cell? ⟨Z, 3, none⟩ = some (.int .i64 x3) ∧ w'.cell? ⟨Z, 4, none⟩ = some (.int .i64 x4) ∧ w'.cell? ⟨Z, 5, none⟩ = some (.int .i64 x5) :=
  ⟨cell_later hb h.1, cell_later hb h.2.1, cell_later hb h.2.2.1, cell_later hb h.2.2.2.1, cell_later hb h.2.2.2.2.1, cell_later hb h.2.2.2.2.2⟩
theorem six_grown {w w' : World} {Z : Nat} {x0 x1 x2 x3 x4 x5 : Int} {row : Option Nat} (hg : w.grownBy w' row) (hne : some Z ≠ row) (h : w.cell? ⟨Z, 0, none⟩ = some (.int .i64 x0) ∧ w.cell? ⟨Z, 1, none⟩ = some (.int .i64 x1) ∧ w.cell? ⟨Z, 2, none⟩ = some (.int .i64 x2) ∧ w.cell? ⟨Z, 3, none⟩ = some (.int .i64 x3) ∧ w.cell? ⟨Z, 4, none⟩ = some (.int .i64 x4) ∧ w.cell? ⟨Z, 5, none⟩ = some (.int .i64 x5)) : w'.cell? ⟨Z, 0, none⟩ = some (.int .i64 x0) ∧ w'.cell? ⟨Z, 1, none⟩ = some (.int .i64 x1) ∧ w'.cell? ⟨Z, 2, none⟩ = some (.int .i64 x2) ∧ w'.cell? ⟨Z, 3, none⟩ = some (.int .i64 x3) ∧ w'.cell? ⟨Z, 4, none⟩ = some (.int .i64 x4) ∧ w'.cell? ⟨Z, 5, none⟩ = some (.int .i64 x5) :=
  ⟨hg.cell h.1 hne, hg.cell h.2.1 hne, hg.cell h.2.2.1 hne, hg.cell h.2.2.2.1 hne, hg.cell h.2.2.2.2.1 hne, hg.cell h.2.2.2.2.2 hne⟩


/-- The row that an array was made of. -/
def unr (q : Nat) (l : List Int) : List Int := (l.take q).map (· - 100001)
theorem unr_raised (zs : List Int) : unr zs.length (raised zs) = zs := by
  unfold unr raised
  rw [List.take_append_of_le_length (by simp), List.take_of_length_le (by simp), List.map_map]
  conv => rhs; rw [← List.map_id zs]
  exact List.map_congr_left fun x _ => by simp only [Function.comp, id]; omega

end Go.Proofs.YtlfljfmhhnoinabGreat
