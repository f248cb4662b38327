/- Contracts of impl.GoodStream and spec.GoodStream. -/
import Derived.Test.YtmkhdocjabflkaaGroundU
import Derived.Test.YtmkhdocjabflkaaGoodTI
import Derived.Test.YtmkhdocjabflkaaGoodTS
namespace Go.Proofs.Ytmkhdocjabflkaa
open Go.RowKit

/-- A table of p columns that is good. -/
def tabOk (p : Int) (t : Tab) : Bool := decide (t.1 = p) && goodT p t.2
/-- A good stream of p columns. -/
def goodS (p : Int) (ss : List Tab) : Bool := inc p && (decide (ss.length ≤ 12) && ss.all (tabOk p))
theorem goodS_col {p : Int} {ss : List Tab} (h : inc p = false) : goodS p ss = false := by simp [goodS, h]
theorem goodS_len {p : Int} {ss : List Tab} (h : 12 < ss.length) : goodS p ss = false := by
  have : decide (ss.length ≤ 12) = false := by simp; omega
  simp [goodS, this]
theorem goodS_tab {p : Int} {ss : List Tab} {k : Nat} (hk : k < ss.length) (h : tabOk p (tat ss k) = false) : goodS p ss = false := by
  have : ss.all (tabOk p) = false := by
    rw [List.all_eq_false]
    exact ⟨_, tat_mem hk, fun hh => by rw [h] at hh; cases hh⟩
  simp [goodS, this]
theorem all_tab {p : Int} {ss : List Tab} {n : Nat} (hz : ss.length = n) (h : ∀ j, j < n → tabOk p (tat ss j) = true) : ss.all (tabOk p) = true := by
  rw [List.all_eq_true]
  intro t ht
  obtain ⟨j, hj, rfl⟩ := List.getElem_of_mem ht
  have := h j (by omega)
  rwa [show tat ss j = ss[j] by simp [tat, List.getD, hj]] at this
theorem goodS_mk {p : Int} {ss : List Tab} {n : Nat} (hz : ss.length = n) (h : ∀ j, j < n → tabOk p (tat ss j) = true) : goodS p ss = (inc p && decide (n ≤ 12)) := by
  subst hz; simp [goodS, all_tab rfl h]
theorem goodS_parts {p : Int} {ss : List Tab} (h : goodS p ss = true) : inc p = true ∧ ss.length ≤ 12 ∧ ∀ k, k < ss.length → (tat ss k).1 = p ∧ goodT p (tat ss k).2 = true := by
  simp only [goodS, Bool.and_eq_true, decide_eq_true_eq, List.all_eq_true] at h
  refine ⟨h.1, h.2.1, fun k hk => ?_⟩
  have := h.2.2 _ (tat_mem hk)
  simpa [tabOk] using this

set_option maxHeartbeats 4000000 in
theorem implGoodStream (a : Option Addr) (n c : Nat) (ss : List Tab) (p : Int) (w : World) (hs : SmU ss n) (ha : AtSM w a ss) :
    Calls Try.prog 22 #[.agg #[.int .i64 p, .slice a n c]] w fun e w' => e = .returned (.bool (goodS p ss)) ∧ Below w.heap.size w w' := by
  obtain ⟨W, hW⟩ : ∃ W, W = w.alloc (.cells #[.int .i64 p, .slice a n c] 45) := ⟨_, rfl⟩
  have B0 : Below w.heap.size w W := by rw [hW]; exact (Below.refl _ _).alloc (Nat.le_refl _) _
  have c0 : W.cell? ⟨w.heap.size, 0, none⟩ = some (.int .i64 p) := by rw [hW]; exact pair0 w _ _ _
  have c1 : W.cell? ⟨w.heap.size, 1, none⟩ = some (.slice a n c) := by rw [hW]; exact pair1 w _ _ _
  have HA := ha.below B0
  have hz := hs.1
  clear ha
  cases hi : inc p with
  | false =>
    have HI := Hid.mk hi
    clear hi
    go_enter Try.func22, Try.ntmps22
    go_wp2_with fail
    rw [← hW]
    clear hW
    refine (goodColumns_any _ _).mono ?_
    rintro e w2 ⟨rfl, rfl⟩
    rw [HI.out]
    go_wp2
    go_ret
    exact ⟨ret_bool (goodS_col HI.out).symm, B0⟩
  | true =>
    have HI := Hid.mk hi
    clear hi
    by_cases h12 : 12 < n
    · have h12' : (12 : Int) < (n : Int) := by omega
      go_enter Try.func22, Try.ntmps22
      go_wp2_with fail
      rw [← hW]
      clear hW
      refine (goodColumns_any _ _).mono ?_
      rintro e w2 ⟨rfl, rfl⟩
      rw [HI.out]
      go_wp2
      go_ret
      exact ⟨ret_bool (goodS_len (by omega)).symm, B0⟩
    · have h12' : ¬ (12 : Int) < (n : Int) := by omega
      go_enter Try.func22, Try.ntmps22
      go_wp2_with fail
      rw [← hW]
      clear hW
      refine (goodColumns_any _ _).mono ?_
      rintro e w2 ⟨rfl, rfl⟩
      rw [HI.out]
      go_wp2
      go_loopw [18] (fun i wr => ∃ (k : Nat), k ≤ n ∧ i = .int .i64 k ∧ (∀ j, j < k → tabOk p (tat ss j) = true) ∧ Below w2.heap.size w2 wr) (fun i _ => n - (intOf i).toNat)
      case atStart => exact ⟨0, Nat.zero_le _, rfl, fun j hj => by omega, Below.refl _ _⟩
      case round =>
        obtain ⟨k, hk, rfl, hall, hbw⟩ := hrel
        have B2 := B0.trans (hbw.mono B0.size)
        by_cases hlt : k < n
        · obtain ⟨b, off, rfl, hc⟩ := (HA.below hbw).some (by omega)
          obtain ⟨q, d, hcw, hcx, _, _, hat⟩ := hc k (by omega)
          have hsm := hs.tab k hlt
          have HN : Hid (tabOk p (tat ss k) = false → goodS p ss = false) := fun h => goodS_tab (by omega) h
          have HS : Hid (tabOk p (tat ss k) = true → ∀ j, j < k + 1 → tabOk p (tat ss j) = true) := fun h j hj => by
            by_cases e : j = k
            · subst e; exact h
            · exact hall j (by omega)
          have cp := cell_later hbw c0
          have hki : (k : Int) < (n : Int) := by omega
          have zr := hbw.size
          generalize tat ss k = Y at *
          obtain ⟨x, us⟩ := Y
          simp only at hcw hcx hat hsm
          obtain ⟨m, hmm⟩ : ∃ m, us.length = m := ⟨_, rfl⟩
          rw [hmm] at hcx hsm
          have HM := Hid.mk hmm
          obtain ⟨V, hV⟩ : ∃ V, V = wr.alloc (.cells #[.int .i64 x, .slice q m d] 25) := ⟨_, rfl⟩
          have hbV : Below wr.heap.size wr V := by rw [hV]; exact (Below.refl _ _).alloc (Nat.le_refl _) _
          have cl : (wr.alloc (.cells #[.int .i64 x, .slice q m d] 25)).cell? ⟨w.heap.size, 0, none⟩ = some (.int .i64 p) := cell_later ((Below.refl _ _).alloc (Nat.le_refl _) _) cp
          have v0 : V.cell? ⟨wr.heap.size, 0, none⟩ = some (.int .i64 x) := by rw [hV]; exact pair0 wr _ _ _
          have v1 : V.cell? ⟨wr.heap.size, 1, none⟩ = some (.slice q m d) := by rw [hV]; exact pair1 wr _ _ _
          have HAV := (hat.below hbV).atW
          have B3 := hbw.trans (hbV.mono hbw.size)
          have B4 := B2.trans (hbV.mono B2.size)
          clear hc hall hmm hat
          by_cases hx : x = p
          · have hne : (x != p) = false := by simp [hx]
            have HX := Hid.mk hx
            rw [hx] at HN HS
            clear hx
            cases hg : goodT x us with
            | false =>
              have HG := Hid.mk hg
              clear hg
              go_wp2_with fail
              rw [← hV]
              clear hV hcw hcx
              refine (implGoodTable_any _ _ _ us _ _ HM.out hsm.n HAV).mono ?_
              rintro e w3 ⟨rfl, hb3⟩
              rw [HG.out]
              go_wp2
              go_ret
              exact ⟨ret_bool (HN.out (by have := HG.out; rw [HX.out] at this; simp [tabOk, this])).symm, B4.trans (hb3.mono B4.size)⟩
            | true =>
              have HG := Hid.mk hg
              clear hg
              go_wp2_with fail
              rw [← hV]
              clear hV hcw hcx
              refine (implGoodTable_any _ _ _ us _ _ HM.out hsm.n HAV).mono ?_
              rintro e w3 ⟨rfl, hb3⟩
              rw [HG.out]
              go_wp2
              go_roundw
              case rel => exact ⟨k + 1, by omega, by go_num, HS.out (by have := HG.out; rw [HX.out] at this; simp [tabOk, this]), B3.trans (hb3.mono B3.size)⟩
              case measure => simp [intOf]; omega
          · have hne : (x != p) = true := by simp [hx]
            have HX := Hid.mk hx
            clear hx
            go_wp2
            rw [← hV]
            go_ret
            exact ⟨ret_bool (HN.out (by simp [tabOk, HX.out])).symm, B4⟩
        · obtain rfl : k = n := by omega
          go_wp2
          go_ret
          exact ⟨ret_bool (by rw [goodS_mk hz hall, HI.out, decide_eq_true (show k ≤ 12 by omega)]; rfl), B2⟩

set_option maxHeartbeats 4000000 in
theorem specGoodStream (a : Option Addr) (n c : Nat) (ss : List Tab) (p : Int) (w : World) (hs : SmU ss n) (ha : AtSM w a ss) :
    Calls Try.prog 20 #[.agg #[.int .i64 p, .slice a n c]] w fun e w' => e = .returned (.bool (goodS p ss)) ∧ Below w.heap.size w w' := by
  obtain ⟨W, hW⟩ : ∃ W, W = w.alloc (.cells #[.int .i64 p, .slice a n c] 45) := ⟨_, rfl⟩
  have B0 : Below w.heap.size w W := by rw [hW]; exact (Below.refl _ _).alloc (Nat.le_refl _) _
  have c0 : W.cell? ⟨w.heap.size, 0, none⟩ = some (.int .i64 p) := by rw [hW]; exact pair0 w _ _ _
  have c1 : W.cell? ⟨w.heap.size, 1, none⟩ = some (.slice a n c) := by rw [hW]; exact pair1 w _ _ _
  have HA := ha.below B0
  have hz := hs.1
  have hn := hs.n
  clear ha
  go_enter Try.func20, Try.ntmps20
  go_wp2
  rw [← hW]
  clear hW
  go_loopw [8] (fun i wr => ∃ (k : Nat), k ≤ n ∧ i = .int .i64 k ∧ (∀ j, j < k → tabOk p (tat ss j) = true) ∧ Below W.heap.size W wr) (fun i _ => n - (intOf i).toNat)
  case atStart => exact ⟨0, Nat.zero_le _, rfl, fun j hj => by omega, Below.refl _ _⟩
  case round =>
    obtain ⟨k, hk, rfl, hall, hbw⟩ := hrel
    have B2 := B0.trans (hbw.mono B0.size)
    have cp := cell_later hbw c0
    have cq := cell_later hbw c1
    by_cases hlt : k < n
    · obtain ⟨b, off, rfl, hc⟩ := (HA.below hbw).some (by omega)
      obtain ⟨q, d, hcw, hcx, _, _, hat⟩ := hc k (by omega)
      have hsm := hs.tab k hlt
      have HN : Hid (tabOk p (tat ss k) = false → goodS p ss = false) := fun h => goodS_tab (by omega) h
      have HS : Hid (tabOk p (tat ss k) = true → ∀ j, j < k + 1 → tabOk p (tat ss j) = true) := fun h j hj => by
        by_cases e : j = k
        · subst e; exact h
        · exact hall j (by omega)
      have hki : (k : Int) < (n : Int) := by omega
      generalize tat ss k = Y at *
      obtain ⟨x, us⟩ := Y
      simp only at hcw hcx hat hsm
      obtain ⟨m, hmm⟩ : ∃ m, us.length = m := ⟨_, rfl⟩
      rw [hmm] at hcx hsm
      have HM := Hid.mk hmm
      obtain ⟨V, hV⟩ : ∃ V, V = wr.alloc (.cells #[.int .i64 x, .slice q m d] 25) := ⟨_, rfl⟩
      have hbV : Below wr.heap.size wr V := by rw [hV]; exact (Below.refl _ _).alloc (Nat.le_refl _) _
      have cp := cell_later hbV cp
      have v0 : V.cell? ⟨wr.heap.size, 0, none⟩ = some (.int .i64 x) := by rw [hV]; exact pair0 wr _ _ _
      have v1 : V.cell? ⟨wr.heap.size, 1, none⟩ = some (.slice q m d) := by rw [hV]; exact pair1 wr _ _ _
      have HAV := (hat.below hbV).atW
      have B3 := hbw.trans (hbV.mono hbw.size)
      have B4 := B2.trans (hbV.mono B2.size)
      clear hc hall hmm hat
      cases hg : goodT x us with
      | false =>
        have HG := Hid.mk hg
        clear hg
        go_wp2_with fail
        rw [← hV]
        clear hV hcw hcx
        refine (specGoodTable_any _ _ _ us _ _ HM.out hsm.n HAV).mono ?_
        rintro e w3 ⟨rfl, hb3⟩
        rw [HG.out]
        go_wp2
        go_ret
        exact ⟨ret_bool (HN.out (by
          by_cases e : x = p
          · subst e; simp [tabOk, HG.out]
          · simp [tabOk, e])).symm, B4.trans (hb3.mono B4.size)⟩
      | true =>
        have HG := Hid.mk hg
        clear hg
        by_cases hx : x = p
        · subst hx
          go_wp2_with fail
          rw [← hV]
          clear hV hcw hcx
          refine (specGoodTable_any _ _ _ us _ _ HM.out hsm.n HAV).mono ?_
          rintro e w3 ⟨rfl, hb3⟩
          rw [HG.out]
          have cp := cell_later hb3 cp
          have v0 := cell_later hb3 v0
          go_wp2
          go_roundw
          case rel => exact ⟨k + 1, by omega, by go_num, HS.out (by simp [tabOk, HG.out]), B3.trans (hb3.mono B3.size)⟩
          case measure => simp [intOf]; omega
        · have hne : (x != p) = true := by simp [hx]
          have HX := Hid.mk hx
          clear hx
          go_wp2_with fail
          rw [← hV]
          clear hV hcw hcx
          refine (specGoodTable_any _ _ _ us _ _ HM.out hsm.n HAV).mono ?_
          rintro e w3 ⟨rfl, hb3⟩
          rw [HG.out]
          have cp := cell_later hb3 cp
          have v0 := cell_later hb3 v0
          go_wp2
          go_ret
          exact ⟨ret_bool (HN.out (by simp [tabOk, HX.out])).symm, B4.trans (hb3.mono B4.size)⟩
    · obtain rfl : k = n := by omega
      have HG := Hid.mk (goodS_mk hz hall)
      have hii : (decide ((0 : Int) ≤ p) && decide (p ≤ 6)) = inc p := rfl
      clear hall
      cases hi : inc p with
      | false =>
        have HI := Hid.mk hi
        clear hi
        go_wp2_with fail
        refine (l1In_any _ _ _ _).mono ?_
        rintro e w3 ⟨rfl, rfl⟩
        rw [hii, HI.out]
        go_wp2
        go_ret
        exact ⟨ret_bool (by rw [HG.out, HI.out]; rfl), B2⟩
      | true =>
        have HI := Hid.mk hi
        clear hi
        go_wp2_with fail
        refine (l1In_any _ _ _ _).mono ?_
        rintro e w3 ⟨rfl, rfl⟩
        rw [hii, HI.out]
        go_wp2
        go_ret
        exact ⟨ret_bool (by rw [HG.out, HI.out]; simp; omega), B2⟩

end Go.Proofs.Ytmkhdocjabflkaa
