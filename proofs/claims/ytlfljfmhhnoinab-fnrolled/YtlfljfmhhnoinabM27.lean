/- Several texts of one proof, in build order: GaP, RdP, RollX. -/
import Derived.Test.YtlfljfmhhnoinabM26
import Derived.Test.YtlfljfmhhnoinabM11
import Derived.Test.YtlfljfmhhnoinabM17
import Derived.Test.YtlfljfmhhnoinabM20

/- Plain: groups told as a table; a table variable's columns set. -/
namespace Go.Proofs.Ytlfljfmhhnoinab
open Go.RowKit

def gaRow (g : GRow) : List Int := g.1 ++ [g.2.1, g.2.2]
def gaRows (ts : List GRow) : List WRow := ts.map fun g => (gaRow g, 1)
def gaP (ts : List GRow) : Int := if ts = [] then 0 else ((keyN ts + 2 : Nat) : Int)
/-- The columns behind k rows. -/
def gaC (ts : List GRow) (k : Nat) : Int := if k = 0 then 0 else ((keyN ts + 2 : Nat) : Int)
def gaB (ts : List GRow) : Bool := goodV ts && goodT (gaP ts) (gaRows ts)
section
variable {ts : List GRow}
theorem gaRow_length (g : GRow) : (gaRow g).length = g.1.length + 2 := by simp [gaRow]
theorem gaRows_length (ts : List GRow) : (gaRows ts).length = ts.length := by simp [gaRows]
theorem gaRows_at (k : Nat) (h : k < ts.length) : wat (gaRows ts) k = (gaRow (gat ts k), 1) := by simp [gaRows, wat, gat, List.getD, h]
theorem gaRows_take (k : Nat) (h : k < ts.length) : (gaRows ts).take (k + 1) = (gaRows ts).take k ++ [(gaRow (gat ts k), 1)] := by
  rw [wtake_succ _ k (by rw [gaRows_length]; exact h), gaRows_at k h]
theorem gaC_end {n : Nat} (h : ts.length = n) : gaC ts n = gaP ts := by
  unfold gaC gaP
  by_cases e : n = 0
  · rw [if_pos e, if_pos (List.eq_nil_of_length_eq_zero (by omega))]
  · rw [if_neg e, if_neg (fun e' => e (by rw [← h, e']; rfl))]
theorem gaC_succ (k : Nat) : gaC ts (k + 1) = ((keyN ts + 2 : Nat) : Int) := rfl
theorem gaB_good (h : goodV ts = false) : gaB ts = false := by simp [gaB, h]
theorem gaB_yes (h : goodV ts = true) : gaB ts = goodT (gaP ts) (gaRows ts) := by simp [gaB, h]
theorem gaB_row (k : Nat) (hk : k < ts.length) (h : good (gaRow (gat ts k)) = false) : gaB ts = false := by
  have : goodT (gaP ts) (gaRows ts) = false := goodT_not k (by rw [gaRows_length]; exact hk) (stepB_row (by rw [gaRows_at k hk]; exact goodW_row h))
  simp [gaB, this]
theorem gaB_goodT (h : gaB ts = true) : goodT (gaP ts) (gaRows ts) = true := by simp only [gaB, Bool.and_eq_true] at h; exact h.2
theorem cmp_front : ∀ {xs ys : List Int} (us vs : List Int), xs.length = ys.length → cmp xs ys < 0 → cmp (xs ++ us) (ys ++ vs) < 0
  | [], [], us, vs, _, h => by simp [cmp] at h
  | [], _ :: _, us, vs, hl, _ => by simp at hl
  | _ :: _, [], us, vs, hl, _ => by simp at hl
  | x :: xs, y :: ys, us, vs, hl, h => by
    simp only [List.length_cons, Nat.add_right_cancel_iff] at hl
    simp only [cmp] at h
    simp only [List.cons_append, cmp]
    by_cases h1 : x < y
    · rw [if_pos h1]; decide
    · rw [if_neg h1] at h ⊢
      by_cases h2 : y < x
      · rw [if_pos h2] at h; omega
      · rw [if_neg h2] at h ⊢
        exact cmp_front us vs hl h
theorem gaB_all (h : goodV ts = true) (hr : ∀ k, k < ts.length → good (gaRow (gat ts k)) = true) : gaB ts = true := by
  rw [gaB_yes h]
  have hl : ∀ k, k < ts.length → (gat ts k).1.length = keyN ts := fun k hk => (goodV_at h k hk).2.1
  by_cases e : ts = []
  · subst e; rfl
  · have hp : 0 < ts.length := Nat.pos_of_ne_zero fun e' => e (List.eq_nil_of_length_eq_zero e')
    have h6 : keyN ts + 2 ≤ 6 := by
      have h0 := good_len (hr 0 hp)
      rw [gaRow_length, hl 0 hp] at h0
      exact h0
    have hP : gaP ts = ((keyN ts + 2 : Nat) : Int) := by unfold gaP; rw [if_neg e]
    refine goodT_of (by rw [hP]; simp [inc]; omega) (by rw [gaRows_length]; exact (goodV_parts h).1) fun k hk => ?_
    rw [gaRows_length] at hk
    refine stepB_mk ?_ (by rw [gaRows_at k hk]; show (1 : Int) ≠ 0; decide) ?_
    · rw [gaRows_at k hk]
      exact goodW_mk (hr k hk) (by rw [hP]; show ((gaRow (gat ts k)).length : Int) = _; rw [gaRow_length, hl k hk]) rfl
    · by_cases e0 : k = 0
      · exact .inl e0
      · right
        rw [gaRows_at k hk, gaRows_at (k - 1) (by omega)]
        have hs := (goodV_parts h).2 k hk
        have hc : cmp (gat ts (k - 1)).1 (gat ts k).1 < 0 := by
          simp only [stepV, Bool.and_eq_true, Bool.or_eq_true, decide_eq_true_eq] at hs
          rcases hs.2 with e1 | e1
          · exact absurd e1 e0
          · exact e1
        exact cmp_front _ _ (by rw [hl k hk, hl (k - 1) (by omega)]) hc
end

theorem at_far {w w' : World} {row : Option Nat} {b : Nat} {zs : List Int} (h : At w (some ⟨b, 0, none⟩) zs) (hg : w.grownBy w' row) (hne : row ≠ some b) : At w' (some ⟨b, 0, none⟩) zs := by
  rcases h with h | ⟨b', off, e, hc⟩
  · exact .inl h
  · cases e
    exact .inr ⟨b, 0, rfl, fun i hi => hg.cell (hc i hi) (fun e => hne e.symm)⟩

section
variable {w w2 : World} {T : Nat} {p : Int} {r : Option Addr} {k d : Nat} {ts : List WRow} {cells : List Value}
theorem TabVar.frozen0 (h : TabVar w T p r k d ts cells) : w.frozen? ⟨T, 0, none⟩ = false := frozen_of_row w T 0 _ _ h.1
/-- The columns are set anew. -/
theorem TabVar.cols (h : TabVar w T p r k d ts cells) (hb : Below w.heap.size w w2) (p' : Int) :
    TabVar (w.setCell ⟨T, 0, none⟩ (.int .i64 p')) T p' r k d ts cells ∧ Below (w.setCell ⟨T, 0, none⟩ (.int .i64 p')).heap.size (w.setCell ⟨T, 0, none⟩ (.int .i64 p')) (w2.setCell ⟨T, 0, none⟩ (.int .i64 p')) := by
  have hT := h.lt
  have hs : ∀ (x : World) (a : Addr) (v : Value), (x.setCell a v).heap.size = x.heap.size := fun x a v => by simp [World.setCell]
  have e1 : (w.setCell ⟨T, 0, none⟩ (.int .i64 p')).heap[T]? = some (.cells #[.int .i64 p', .slice r k d] 32 (0, 0)) := by
    rw [heap_setCell_same w T 0 _ _ _ h.1]; rfl
  have e2 : (w2.setCell ⟨T, 0, none⟩ (.int .i64 p')).heap[T]? = some (.cells #[.int .i64 p', .slice r k d] 32 (0, 0)) := by
    rw [heap_setCell_same w2 T 0 _ _ _ ((hb.block T hT).trans h.1)]; rfl
  refine ⟨⟨e1, (h.2.setCell (a0 := ⟨T, 0, none⟩) (.inl (by show T < T + 1; omega)) _).widen (Nat.le_refl _) (by rw [hs]; exact Nat.le_refl _) (Nat.le_refl _)⟩, hb.os, hb.tape, hb.output, by rw [hs, hs]; exact hb.size, fun j hj => ?_⟩
  rw [hs] at hj
  by_cases e : j = T
  · rw [e, e1, e2]
  · rw [Below.heap_setCell w2 _ _ j e, Below.heap_setCell w _ _ j e]
    exact hb.block j hj
end

end Go.Proofs.Ytlfljfmhhnoinab

/- Plain: what is rolled up has the same totals. -/
namespace Go.Proofs.Ytlfljfmhhnoinab

theorem totalV_from (ts : List GRow) : ∀ x : Amt, ts.foldl (fun acc t => addA acc t.2) x = addA x (totalV ts) := by
  induction ts with
  | nil => intro x; simp [totalV, addA_zero]
  | cons t ts ih =>
    intro x
    unfold totalV
    rw [List.foldl_cons, List.foldl_cons, ih, ih (addA (0, 0) t.2), zero_addA, addA_assoc]
theorem totalV_cons (t : GRow) (ts : List GRow) : totalV (t :: ts) = addA t.2 (totalV ts) := by
  have := totalV_from ts (addA (0, 0) t.2)
  rw [zero_addA] at this
  unfold totalV at this ⊢
  rw [List.foldl_cons, zero_addA]
  exact this
theorem totalV_one (zs : List Int) (x : Amt) (ts : List GRow) : totalV (oneV zs x ++ ts) = addA x (totalV ts) := by
  unfold oneV
  by_cases h : x = (0, 0)
  · rw [if_pos h, h, zero_addA]; rfl
  · rw [if_neg h]; exact totalV_cons (zs, x) ts
theorem totalV_rest (zs : List Int) (x : Amt) (ts : List GRow) : totalV (restV zs x ts) = addA (totalV ts) x := by
  cases ts with
  | nil => have := totalV_one zs x []; simpa [restV, totalV, addA_comm, addA_zero] using this
  | cons t ts =>
    simp only [restV]
    by_cases h : cmp t.1 zs = 0
    · rw [if_pos h, totalV_one, totalV_cons, addA_assoc, addA_comm x]
    · rw [if_neg h, totalV_one, addA_comm]
theorem totalV_put (zs : List Int) (x : Amt) : ∀ ts : List GRow, totalV (putV ts zs x) = addA (totalV ts) x
  | [] => totalV_rest zs x []
  | t :: ts => by
    unfold putV
    by_cases h : cmp t.1 zs < 0
    · rw [if_pos h, totalV_cons, totalV_put zs x ts, totalV_cons, addA_assoc]
    · rw [if_neg h]; exact totalV_rest zs x (t :: ts)
theorem totalV_all (l : List GRow) : ∀ ts : List GRow, totalV (putAllV ts l) = addA (totalV ts) (totalV l) := by
  induction l with
  | nil => intro ts; rw [putAllV_nil, show totalV ([] : List GRow) = (0, 0) from rfl, addA_zero]
  | cons t l ih =>
    intro ts
    have : putAllV ts (t :: l) = putAllV (putV ts t.1 t.2) l := rfl
    rw [this, ih, totalV_put, totalV_cons, addA_assoc]
theorem totalV_roll (ts : List GRow) (cols : List Int) : totalV (rollL ts cols) = totalV ts := by
  have h1 := totalV_all (rolled ts cols) []
  rw [show totalV ([] : List GRow) = (0, 0) from rfl, zero_addA] at h1
  have h2 : ∀ ts : List GRow, totalV (rolled ts cols) = totalV ts := by
    intro ts
    induction ts with
    | nil => rfl
    | cons t ts ih => rw [show rolled (t :: ts) cols = (pick t.1 cols, t.2) :: rolled ts cols from rfl, totalV_cons, totalV_cons, ih]
  exact h1.trans (h2 ts)
theorem oneV_len (zs : List Int) (x : Amt) : (oneV zs x).length ≤ 1 := by unfold oneV; split <;> simp

end Go.Proofs.Ytlfljfmhhnoinab

/- Contracts of impl.mayBePicked, impl.RollUp. -/
namespace Go.Proofs.Ytlfljfmhhnoinab
open Go.RowKit Go.Maps

theorem mayPick_long {cols : List Int} (h : 6 < cols.length) : mayPick cols = false := by
  have : decide (cols.length ≤ 6) = false := by simp; omega
  simp [mayPick, this]
theorem mayPick_neg {cols : List Int} (k : Nat) (hk : k < cols.length) (h : cols.getD k 0 < 0) : mayPick cols = false := by
  cases hg : mayPick cols with
  | false => rfl
  | true =>
    simp only [mayPick, Bool.and_eq_true, decide_eq_true_eq, List.all_eq_true] at hg
    have := hg.2 (cols[k]) (List.getElem_mem hk)
    simp only [List.getD, List.getElem?_eq_getElem hk, Option.getD_some] at h
    omega
theorem mayPick_of {cols : List Int} (hl : cols.length ≤ 6) (h : ∀ k, k < cols.length → 0 ≤ cols.getD k 0) : mayPick cols = true := by
  simp only [mayPick, Bool.and_eq_true, decide_eq_true_eq, List.all_eq_true]
  refine ⟨hl, fun x hx => ?_⟩
  obtain ⟨k, hk, rfl⟩ := List.getElem_of_mem hx
  simpa [List.getD, hk] using h k hk

set_option maxHeartbeats 400000 in
theorem mayBePicked_any (a : Option Addr) (n c : Nat) (cols : List Int) (w : World) (hz : cols.length = n) (hn : n ≤ 9223372036854775807) (ha : At w a cols) :
    Calls Try.prog 57 #[.slice a n c] w fun e w' => e = .returned (.bool (mayPick cols)) ∧ Below w.heap.size w w' := by
  by_cases h6 : n ≤ 6
  · by_cases h0 : n = 0
    · subst h0
      obtain rfl := List.eq_nil_of_length_eq_zero hz
      go_enter Try.func57, Try.ntmps57
      go_wp2
      refine wp_loop_rounds 1 ?_
      rw [rounds_succ]
      go_wp2
      go_ret
      exact ⟨ret_bool rfl, Below.refl _ _⟩
    · obtain ⟨b, off, rfl, hb, hc⟩ := ha.some (by omega)
      clear ha
      go_enter Try.func57, Try.ntmps57
      go_wp2
      go_loop [10] (fun i => ∃ k : Nat, k ≤ n ∧ i = .int .i64 k ∧ ∀ j, j < k → 0 ≤ cols.getD j 0) (fun i => n - (intOf i).toNat)
      case atStart => exact ⟨0, Nat.zero_le _, rfl, fun j hj => by omega⟩
      case round =>
        obtain ⟨k, hk, rfl, hall⟩ := hrel
        by_cases hlt : k < n
        · have hcx := hc k (by omega)
          have HN : Hid (cols.getD k 0 < 0 → mayPick cols = false) := mayPick_neg k (by omega)
          have HS : Hid (0 ≤ cols.getD k 0 → ∀ j, j < k + 1 → 0 ≤ cols.getD j 0) := fun h1 j hj => by
            by_cases e : j = k
            · subst e; exact h1
            · exact hall j (by omega)
          clear hall hc
          obtain ⟨x, hx⟩ : ∃ x, x = cols.getD k 0 := ⟨_, rfl⟩
          rw [← hx] at hcx HN HS
          clear hx
          by_cases hlo : x < 0
          · go_wp2
            go_ret
            exact ⟨ret_bool (HN.out hlo).symm, Below.refl _ _⟩
          · go_wp2
            go_round
            case rel => exact ⟨k + 1, by omega, by go_num, HS.out (by omega)⟩
            case measure => simp [intOf]; omega
        · go_wp2
          go_ret
          exact ⟨ret_bool (mayPick_of (by omega) (fun j hj => hall j (by omega))).symm, Below.refl _ _⟩
  · go_enter Try.func57, Try.ntmps57
    go_wp2
    go_ret
    exact ⟨ret_bool (mayPick_long (by omega)).symm, Below.refl _ _⟩

set_option maxRecDepth 100000 in
set_option maxHeartbeats 8000000 in
theorem implRollUp (a a' : Option Addr) (n n' c c' : Nat) (ts : List GRow) (cols : List Int) (w : World) (hz : ts.length = n) (hn : n ≤ 1048576) (hz' : cols.length = n') (hn' : n' ≤ 9223372036854775807) (ha : AtV w a ts) (ha' : At w a' cols) :
    Calls Try.prog 19 #[.slice a n c, .slice a' n' c'] w fun e w' => GrpRet e w' w.heap.size (rollB ts cols) (ansG (rollB ts cols) (rollL ts cols)) ∧ Below w.heap.size w w' := by
  cases hg : goodV ts with
  | false =>
    have HG := Hid.mk hg
    clear hg
    go_enter Try.func19, Try.ntmps19
    go_wp2_with (go_at_call 56; refine (implGoodGroups_any _ _ _ ts _ hz hn ha).mono ?_; rintro e w1 ⟨rfl, hb1⟩; rw [HG.out])
    refine bodyPost_ret (v := .tuple #[.slice none 0 0, .bool false]) (by simp [results, Try.results19, go_sem]) rfl ⟨GrpRet.zero (rollB_good HG.out) rfl, hb1⟩
  | true =>
    have HG := Hid.mk hg
    clear hg
    cases hmp : mayPick cols with
    | false =>
      have HMP := Hid.mk hmp
      clear hmp
      go_enter Try.func19, Try.ntmps19
      go_wp2_with (first | (go_at_call 56; refine (implGoodGroups_any _ _ _ ts _ hz hn ha).mono ?_; rintro e w1 ⟨rfl, hb1⟩; rw [HG.out]; have HA1' := ha'.below hb1) | (go_at_call 57; refine (mayBePicked_any _ _ _ cols _ hz' hn' HA1').mono ?_; rintro e w2 ⟨rfl, hb2⟩; rw [HMP.out]))
      refine bodyPost_ret (v := .tuple #[.slice none 0 0, .bool false]) (by simp [results, Try.results19, go_sem]) rfl ⟨GrpRet.zero (rollB_cols (colsUp_may HMP.out)) rfl, hb1.trans (hb2.mono hb1.size)⟩
    | true =>
      have HMP := Hid.mk hmp
      clear hmp
      have hmm := @run_makeMap Try.prog
      have hn60 : n ≤ 60 := by have := (goodV_parts HG.out).1; omega
      have hn6 : n' ≤ 6 := by have := HMP.out; simp only [mayPick, Bool.and_eq_true, decide_eq_true_eq] at this; omega
      go_enter Try.func19, Try.ntmps19
      go_wp2_with (first | (go_at_call 56; refine (implGoodGroups_any _ _ _ ts _ hz hn ha).mono ?_; rintro e w1 ⟨rfl, hb1⟩; rw [HG.out]; have HA1' := ha'.below hb1) | (go_at_call 57; refine (mayBePicked_any _ _ _ cols _ hz' hn' HA1').mono ?_; rintro e w2 ⟨rfl, hb2⟩; rw [HMP.out]; have B2 : Below w.heap.size w w2 := hb1.trans (hb2.mono hb1.size); clear hb1 hb2 HA1'))
      obtain ⟨W, hW⟩ : ∃ W, W = w2.alloc (.map #[] 0) := ⟨_, rfl⟩
      have hbW : Below w2.heap.size w2 W := by rw [hW]; exact (Below.refl _ _).alloc (Nat.le_refl _) _
      have C0 : CntV W w2.heap.size n' 0 [] := by rw [hW]; exact CntV.made w2 n'
      have zW : w2.heap.size < W.heap.size := by rw [hW]; simp
      rw [← hW]
      clear hW hmm
      have ha2 := Hid.mk ha
      have ha2' := Hid.mk ha'
      clear ha ha'
      go_loopw [22] (fun i wr => ∃ (k : Nat), k ≤ n ∧ i = .int .i64 k ∧ (0 < k → colsOk cols (keyN ts) = true) ∧ CntV wr w2.heap.size n' k (putAllV [] ((rolled ts cols).take k)) ∧ Below w2.heap.size w2 wr) (fun i _ => n - (intOf i).toNat)
      case atStart => exact ⟨0, Nat.zero_le _, rfl, fun h => absurd h (by omega), C0, hbW⟩
      case round =>
        clear C0 hbW
        obtain ⟨k, hk, rfl, hok, hcv, hbw⟩ := hrel
        have HCV := Hid.mk hcv
        have HOK := Hid.mk hok
        have zb := hcv.lt
        clear hcv hok
        have B3 : Below w.heap.size w wr := B2.trans (hbw.mono B2.size)
        by_cases hlt : k < n
        · obtain ⟨b, off, rfl, hc⟩ := (ha2.out.below B3).some (by omega)
          obtain ⟨q, d, hcx, hwx, hvx, hm, hat⟩ := hc k (by omega)
          have hki : (k : Int) < (n : Int) := by omega
          obtain ⟨g1, g2, g3, _⟩ := goodV_at HG.out k (by omega)
          have HNE : Hid (ts ≠ []) := fun e => by rw [e] at hz; simp at hz; omega
          have HRA := Hid.mk (rolled_at ts cols k (by omega))
          have HPT := Hid.mk (putAllV_take [] (rolled ts cols) k (by rw [rolled_length]; omega))
          generalize gat ts k = Y at *
          obtain ⟨ys, x, y⟩ := Y
          simp only at hcx hwx hvx hat hm g1 g2 g3
          rw [HRA.out] at HPT
          have HG1 := Hid.mk g1
          have HG2 := Hid.mk g2
          have HG3 := Hid.mk g3
          obtain ⟨m, hmm⟩ : ∃ m, ys.length = m := ⟨_, rfl⟩
          rw [hmm] at hcx hm
          have HM := Hid.mk hmm
          clear hc g1 g2 g3 hmm
          obtain ⟨V, hV⟩ : ∃ V, V = wr.alloc (.cells #[.slice q m d, .int .i64 x, .int .i64 y] 73) := ⟨_, rfl⟩
          have hbV : Below wr.heap.size wr V := by rw [hV]; exact (Below.refl _ _).alloc (Nat.le_refl _) _
          have v0 : V.cell? ⟨wr.heap.size, 0, none⟩ = some (.slice q m d) := by rw [hV]; exact trip0 wr _ _ _ _
          have v1 : V.cell? ⟨wr.heap.size, 1, none⟩ = some (.int .i64 x) := by rw [hV]; exact trip1 wr _ _ _ _
          have v2 : V.cell? ⟨wr.heap.size, 2, none⟩ = some (.int .i64 y) := by rw [hV]; exact trip2 wr _ _ _ _
          have B4 : Below w.heap.size w V := B3.trans (hbV.mono B3.size)
          have Y4 : Below w2.heap.size w2 V := hbw.trans (hbV.mono hbw.size)
          have HCV1 := Hid.mk (HCV.out.below hbV)
          have HATV := Hid.mk (hat.below hbV)
          go_wp2_with fail
          rw [← hV]
          clear hV hcx hwx hvx hat hbV
          refine (implPickCells _ _ _ _ _ _ ys cols _ HM.out hz' hm (by omega) HATV.out (ha2'.out.below B4)).mono ?_
          rintro e w3 ⟨r3, m3, d3, rfl, hm3, ho3, hb3⟩
          have HPO : Hid (pickOk ys cols = colsOk cols (keyN ts)) := by show _ = _; rw [pickOk, HG1.out, HG2.out, Bool.true_and]
          have B5 : Below w.heap.size w w3 := B4.trans (hb3.mono B4.size)
          have Y5 : Below w2.heap.size w2 w3 := Y4.trans (hb3.mono Y4.size)
          have HCV2 := Hid.mk (HCV1.out.below hb3)
          replace v0 := cell_later hb3 v0
          replace v1 := cell_later hb3 v1
          replace v2 := cell_later hb3 v2
          rw [HPO.out]
          cases hco : colsOk cols (keyN ts) with
          | false =>
            have HCO := Hid.mk hco
            clear hco hm3 ho3
            go_wp2
            refine bodyPost_ret (v := .tuple #[.slice none 0 0, .bool false]) (by simp [results, Try.results19, go_sem]) rfl ⟨GrpRet.zero (rollB_cols (colsUp_not HNE.out HCO.out)) rfl, B5.alloc B5.size _⟩
          | true =>
            have HCO := Hid.mk hco
            have hpz : pickZ ys cols = pick ys cols := if_pos (by rw [HPO.out, hco])
            rw [hpz] at hm3 ho3
            have hpg := pick_good HG1.out HG2.out hco
            have HPG := Hid.mk hpg
            have HM3 := Hid.mk hm3
            clear hco hpz hpg hm3
            obtain ⟨U, hU⟩ : ∃ U, U = w3.alloc (.cells #[.slice r3 m3 d3] 67) := ⟨_, rfl⟩
            have hbU : Below w3.heap.size w3 U := by rw [hU]; exact (Below.refl _ _).alloc (Nat.le_refl _) _
            have u0 : U.cell? ⟨w3.heap.size, 0, none⟩ = some (.slice r3 m3 d3) := by rw [hU]; simp
            have HAT3 := Hid.mk ((At.owned ho3).below hbU)
            have HCV3 := Hid.mk (HCV2.out.below hbU)
            have B6 : Below w.heap.size w U := B5.trans (hbU.mono B5.size)
            have Y6 : Below w2.heap.size w2 U := Y5.trans (hbU.mono Y5.size)
            replace v0 := cell_later hbU v0
            replace v1 := cell_later hbU v1
            replace v2 := cell_later hbU v2
            go_wp2_with fail
            rw [← hU]
            clear hU ho3 hbU HCV HCV1 HCV2
            refine wp_region_held_drew (S := fun w' => w'.cell? ⟨w3.heap.size, 0, none⟩ = some (.slice r3 m3 d3) ∧ w'.cell? ⟨wr.heap.size, 0, none⟩ = some (.slice q m d) ∧ w'.cell? ⟨wr.heap.size, 1, none⟩ = some (.int .i64 x) ∧ w'.cell? ⟨wr.heap.size, 2, none⟩ = some (.int .i64 y)) (by kernel_rfl) ?_ (fun hHeld => ?_)
            · (try dsimp only)
              exact ⟨u0, v0, v1, v2⟩
            refine wpAnyH_take (i := 0) (oi := ?_) (v := ?_) ?_ (by kernel_rfl) (by kernel_rfl) (by kernel_rfl) ?_ (Or.inl ⟨?_, ?_⟩) (by assumption) ?_
            rotate_left 2
            · (simp only [List.getElem?_toArray, List.getElem?_cons_zero]; rfl)
            · exact fun _ _ _ h => h
            · rfl
            · (intro wS hSw; (try dsimp only at hSw); go_simp; (try with_reducible rfl))
            (try simp only [Act.put, List.setIfInBounds_toArray, List.set_cons_zero, List.set_cons_succ])
            refine wpAnyH_take (i := 1) (oi := ?_) (v := ?_) ?_ (by kernel_rfl) (by kernel_rfl) (by kernel_rfl) ?_ (Or.inl ⟨?_, ?_⟩) (by assumption) ?_
            rotate_left 2
            · (simp only [List.getElem?_toArray, List.getElem?_cons_zero, List.getElem?_cons_succ]; rfl)
            · exact fun _ _ _ h => h
            · rfl
            · (intro wS hSw; (try dsimp only at hSw); go_simp; (try with_reducible rfl))
            (try simp only [Act.put, List.setIfInBounds_toArray, List.set_cons_zero, List.set_cons_succ])
            refine wpAnyH_take (i := 2) (oi := ?_) (v := ?_) ?_ (by kernel_rfl) (by kernel_rfl) (by kernel_rfl) ?_ (Or.inl ⟨?_, ?_⟩) (by assumption) ?_
            rotate_left 2
            · (simp only [List.getElem?_toArray, List.getElem?_cons_zero, List.getElem?_cons_succ]; rfl)
            · exact fun _ _ _ h => h
            · rfl
            · (intro wS hSw; (try dsimp only at hSw); go_simp; (try with_reducible rfl))
            (try simp only [Act.put, List.setIfInBounds_toArray, List.set_cons_zero, List.set_cons_succ])
            refine wpAnyH_ready (rs := [3]) (by kernel_rfl) (by simp) ?_
            refine AllReadyH.cons (o := ?_) ?_ (fun K hK => ?_) AllReadyH.nil
            rotate_left
            · (simp only [List.getElem?_toArray, List.getElem?_cons_zero, List.getElem?_cons_succ]; rfl)
            go_simp
            go_at_call 58; refine (amountOf_any _ _ _ _ _ _).mono ?_; rintro e w4 ⟨rfl, hb4⟩; have HCV4 := Hid.mk (HCV3.out.drew.below hb4); have HAT4 := Hid.mk (HAT3.out.drew.below hb4); have B7 := B6.drew.trans (hb4.mono B6.size); have Y7 := Y6.drew.trans (hb4.mono Y6.size); have i0 := cell_later (w := U.drew) hb4 u0; have i1 := cell_later (w := U.drew) hb4 v0; have i2 := cell_later (w := U.drew) hb4 v1; have i3 := cell_later (w := U.drew) hb4 v2
            (try go_wp2_with fail)
            refine hK.out _ _ ?_ (fun hHeld' => ?_)
            · (try dsimp only)
              exact ⟨i0, i1, i2, i3⟩
            clear hK K hHeld
            have hHeld := hHeld'
            clear hHeld'
            (try simp only [Act.put, List.setIfInBounds_toArray, List.set_cons_zero, List.set_cons_succ])
            refine wpAnyH_ready (rs := [4]) (by kernel_rfl) (by simp) ?_
            refine AllReadyH.cons (o := ?_) ?_ (fun K hK => ?_) AllReadyH.nil
            rotate_left
            · (simp only [List.getElem?_toArray, List.getElem?_cons_zero, List.getElem?_cons_succ]; rfl)
            go_simp
            go_at_call 47; refine (addV_any _ _ _ w2.heap.size n' k (putAllV [] ((rolled ts cols).take k)) (pick ys cols) x y 6000000000000000 100000000000000 _ HM3.out HPG.out.1 (by rw [HPG.out.2]; exact hz') (by omega) (by omega) (fun t ht => (take_in (by omega) (fun t ht => (rolled_mem HG.out (fun _ => HCO.out) t ht).2.2) k 60 (by omega) t ht).mono (by omega)) HG3.out (by omega) HAT4.out HCV4.out).mono ?_; rintro e w5 ⟨rfl, hcv5, hgr5⟩; have j0 := hgr5.cell i0 (fun e => HCV4.out.nocell _ i0 (by simpa using e)); have j1 := hgr5.cell i1 (fun e => HCV4.out.nocell _ i1 (by simpa using e)); have j2 := hgr5.cell i2 (fun e => HCV4.out.nocell _ i2 (by simpa using e)); have j3 := hgr5.cell i3 (fun e => HCV4.out.nocell _ i3 (by simpa using e))
            (try go_wp2_with fail)
            refine hK.out _ _ ?_ (fun hHeld' => ?_)
            · (try dsimp only)
              exact ⟨j0, j1, j2, j3⟩
            clear hK K hHeld
            have hHeld := hHeld'
            clear hHeld'
            (try simp only [Act.put, List.setIfInBounds_toArray, List.set_cons_zero, List.set_cons_succ])
            refine wpAnyH_done (by kernel_rfl) ?_ _
            have HCV5 : Hid (CntV w5 w2.heap.size n' (k + 1) (putAllV [] ((rolled ts cols).take (k + 1)))) := by show CntV _ _ _ _ _; rw [HPT.out]; exact hcv5
            have Y8 : Below w2.heap.size w2 w5 := Y7.grown hgr5 Y7.size (fun j hj => by cases hj; exact Nat.le_refl _)
            have HY8 := Hid.mk Y8
            clear hcv5 hgr5 j0 j1 j2 j3 i0 i1 i2 i3 u0 v0 v1 v2 hHeld HCV3 HCV4 HAT3 HAT4 B6 B7 Y6 Y7 Y8 hb4
            go_wp2
            go_roundw
            case rel => exact ⟨k + 1, by omega, by go_num, fun _ => HCO.out, HCV5.out, HY8.out⟩
            case measure => simp [intOf]; omega
        · obtain rfl : k = n := by omega
          have hall : (rolled ts cols).take k = rolled ts cols := List.take_of_length_le (by rw [rolled_length]; omega)
          have HCU : Hid (colsUp cols ts = true) := colsUp_of HMP.out (fun hne => HOK.out (by
            have : ts.length ≠ 0 := fun e => hne (List.eq_nil_of_length_eq_zero e)
            omega))
          have HRB := Hid.mk (rollB_yes HG.out HCU.out)
          have HC2 : Hid (CntV wr w2.heap.size n' k (rollL ts cols)) := by have := HCV.out; rw [hall] at this; exact this
          clear hall HCV HOK
          go_wp2_with fail
          refine (groupsV_any w2.heap.size n' k (rollL ts cols) _ (by omega) hn6 HC2.out).mono ?_
          rintro e w6 ⟨⟨r6, m6, d6, rfl, ho6⟩, hb6⟩
          have z3 := B3.size
          obtain ⟨ok, hok6⟩ : ∃ ok, goodV (rollL ts cols) = ok := ⟨_, rfl⟩
          have HO6 := Hid.mk hok6
          rw [hok6] at ho6 ⊢
          clear hok6
          go_wp2
          refine bodyPost_ret (v := .tuple #[.slice r6 m6 d6, .bool ok]) (by simp [results, Try.results19, go_sem]) rfl ⟨?_, B3.trans (hb6.mono B3.size)⟩
          rw [HRB.out, HO6.out]
          exact ⟨r6, m6, d6, rfl, ho6.widen z3 (Nat.le_refl _) (Nat.le_refl _)⟩

end Go.Proofs.Ytlfljfmhhnoinab
