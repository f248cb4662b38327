/- Several texts of one proof, in build order: SwP, RdP, HlP, BsF, HlI, InsP, CloM. -/
import Derived.Test.YtjjebodlekepaaaDoorM4
import Derived.Test.YtjjebodlekepaaaDoorM6
import Derived.Test.YtjjebodlekepaaaDoorM7
import Derived.Deep.CutBlock
import Derived.Test.YtjjebodlekepaaaDoorM11

/- Plain: two steps that change places; what is told of steps. -/
namespace Go.Proofs.YtjjebodlekepaaaDoor
open Go.RowKit

def stM (xs : List TStep) (k : Nat) : TStep := xs.getD k (0, 0, 0)
theorem stM_at {xs : List TStep} {k : Nat} {x : TStep} (h : xs[k]? = some x) : stM xs k = x := by
  unfold stM; rw [List.getD_eq_getElem?_getD, h]; rfl
def swB (xs : List TStep) (k : Int) : Bool := gpB xs && (decide (0 ≤ k) && (decide (k < (xs.length : Int) - 1) && (decide ((stM xs k.toNat).1 ≠ (stM xs (k.toNat + 1)).1) && !clB (stM xs k.toNat) (stM xs (k.toNat + 1)))))
def swL (xs : List TStep) (k : Int) : List TStep := if swB xs k then xs.take k.toNat ++ (stM xs (k.toNat + 1) :: stM xs k.toNat :: xs.drop (k.toNat + 2)) else []
theorem swL_len (xs : List TStep) (k : Int) : (swL xs k).length ≤ 40 := by
  unfold swL
  split
  · rename_i h
    simp only [swB, Bool.and_eq_true, decide_eq_true_eq] at h
    have := gp_len h.1
    simp only [List.length_append, List.length_take, List.length_cons, List.length_drop]
    omega
  · simp
theorem swB_bad {xs : List TStep} {k : Int} (h : gpB xs = false) : swB xs k = false := by unfold swB; rw [h]; rfl
theorem swB_low {xs : List TStep} {k : Int} (h : k < 0) : swB xs k = false := by unfold swB; rw [decide_eq_false (by omega)]; simp
theorem swB_high {xs : List TStep} {k : Int} (h : (xs.length : Int) - 1 ≤ k) : swB xs k = false := by unfold swB; rw [decide_eq_false (show ¬ k < (xs.length : Int) - 1 by omega)]; simp
theorem swB_in {xs : List TStep} {p : Nat} {x y : TStep} (h : gpB xs = true) (hx : xs[p]? = some x) (hy : xs[p + 1]? = some y) : swB xs (p : Int) = (decide (x.1 ≠ y.1) && !clB x y) := by
  have := (List.getElem?_eq_some_iff.1 hy).1
  unfold swB
  rw [h, decide_eq_true (show (0 : Int) ≤ (p : Int) by omega), decide_eq_true (show (p : Int) < (xs.length : Int) - 1 by omega), Int.toNat_natCast, stM_at hx, stM_at hy]; rfl
theorem swL_in {xs : List TStep} {p : Nat} {x y : TStep} (h : swB xs (p : Int) = true) (hx : xs[p]? = some x) (hy : xs[p + 1]? = some y) : swL xs (p : Int) = xs.take p ++ (y :: x :: xs.drop (p + 2)) := by
  unfold swL; rw [h, Int.toNat_natCast, stM_at hx, stM_at hy]; rfl
theorem swL_no {xs : List TStep} {k : Int} (h : swB xs k = false) : swL xs k = [] := by unfold swL; rw [h]; rfl
theorem swap_set {xs : List TStep} {p : Nat} {x y : TStep} (hx : xs[p]? = some x) (hy : xs[p + 1]? = some y) : (xs.set p y).set (p + 1) x = xs.take p ++ (y :: x :: xs.drop (p + 2)) := by
  have hp := (List.getElem?_eq_some_iff.1 hx).1
  have hp1 := (List.getElem?_eq_some_iff.1 hy).1
  have e : xs = xs.take p ++ (x :: y :: xs.drop (p + 2)) := by
    conv => lhs; rw [← List.take_append_drop p xs]
    rw [List.drop_eq_getElem_cons hp, List.drop_eq_getElem_cons hp1, (List.getElem?_eq_some_iff.1 hx).2, (List.getElem?_eq_some_iff.1 hy).2]
  obtain ⟨A, hA⟩ : ∃ A, xs.take p = A := ⟨_, rfl⟩
  obtain ⟨B, hB⟩ : ∃ B, xs.drop (p + 2) = B := ⟨_, rfl⟩
  have hl : A.length = p := by rw [← hA, List.length_take]; omega
  rw [hA, hB] at e ⊢
  rw [e, ← hl]
  simp
def StepsRet (e : Ending) (w' : World) (lo : Nat) (ok : Bool) (ta : List TStep) : Prop :=
  ∃ r m d, e = .returned (.tuple #[.slice r m d, .bool ok]) ∧ ta.length = m ∧ w'.ownsRow lo 51 3 (.slice r m d) m ((flStep ta).map (.int .i64))
theorem StepsRet.no {w' : World} {lo : Nat} : StepsRet (.returned (.tuple #[.slice none 0 0, .bool false])) w' lo false [] :=
  ⟨none, 0, 0, rfl, rfl, World.ownsRow_nil _ _ _ _⟩

end Go.Proofs.YtjjebodlekepaaaDoor

/- Plain: the steps of those that have ended; a lock looked up. -/
namespace Go.Proofs.YtjjebodlekepaaaDoor
open Go.RowKit

def ofD (D : List Int) (l : List TStep) : List TStep := l.filter fun x => decide (x.1 ∈ D)
def rdL (k : TLk) : List TStep := if glB k then ofD k.2.2.2.1 k.2.2.1 else []
theorem gl_run {x0 x1 x2 : List TStep} {x3 x4 : List Int} (h : glB (x0, x1, x2, x3, x4) = true) : gpB x2 = true := by
  unfold glB at h
  simp only [Bool.and_eq_true] at h
  exact h.1.1.1.1.1.1.1.2
theorem gl_held {x0 x1 x2 : List TStep} {x3 x4 : List Int} (h : glB (x0, x1, x2, x3, x4) = true) : gpB x0 = true ∧ heldB x0 = true := by
  unfold glB at h
  simp only [Bool.and_eq_true] at h
  exact ⟨h.1.1.1.1.1.1.1.1.1, h.1.1.1.1.1.1.2⟩
theorem gl_waits {x0 x1 x2 : List TStep} {x3 x4 : List Int} (h : glB (x0, x1, x2, x3, x4) = true) : gpB x1 = true := by
  unfold glB at h
  simp only [Bool.and_eq_true] at h
  exact h.1.1.1.1.1.1.1.1.2
theorem rdL_len (k : TLk) : (rdL k).length ≤ 40 := by
  unfold rdL
  split
  · rename_i h
    exact Nat.le_trans (List.length_filter_le _ _) (gp_len (gl_run h))
  · simp
theorem ofD_take {D : List Int} {l : List TStep} {k : Nat} {x : TStep} (h : l[k]? = some x) : ofD D (l.take (k + 1)) = ofD D (l.take k) ++ (if x.1 ∈ D then [x] else []) := by
  obtain ⟨hk, rfl⟩ := List.getElem?_eq_some_iff.1 h
  unfold ofD
  rw [List.take_succ_eq_append_getElem hk, List.filter_append]
  congr 1
  by_cases hm : l[k].1 ∈ D
  · rw [if_pos hm]; simp [hm]
  · rw [if_neg hm]; simp [hm]

end Go.Proofs.YtjjebodlekepaaaDoor

/- Plain: a lock looked up by its transaction and its item. -/
namespace Go.Proofs.YtjjebodlekepaaaDoor
open Go.RowKit

def keyB (t i : Int) (x : TStep) : Bool := decide (x.1 = t) && decide (x.2.2 = i)
def hlO (k : TLk) (t i : Int) : Option Int := if glB k then (k.1.find? (keyB t i)).map (·.2.1) else none
theorem find_step {p : TStep → Bool} {xs : List TStep} {k : Nat} {x : TStep} (h : xs[k]? = some x) : (xs.drop k).find? p = if p x then some x else (xs.drop (k + 1)).find? p := by
  obtain ⟨hk, rfl⟩ := List.getElem?_eq_some_iff.1 h
  rw [List.drop_eq_getElem_cons hk, List.find?_cons]
  cases p xs[k] <;> rfl
theorem find_done {p : TStep → Bool} {xs : List TStep} {k : Nat} (h : xs.length ≤ k) : (xs.drop k).find? p = none := by rw [List.drop_of_length_le h]; rfl
theorem lessS_iff {x y : TStep} : lessS x y = true ↔ x.1 < y.1 ∨ x.1 = y.1 ∧ x.2.2 < y.2.2 := by simp [lessS]
theorem lessS_trans {x y z : TStep} (h : lessS x y = true) (k : lessS y z = true) : lessS x z = true := by
  rw [lessS_iff] at *
  omega
theorem key_cmp {x : TStep} {t z i : Int} : keyB t i x = true ↔ cmpS x (t, z, i) = 0 := by
  rw [cmpS_zero]; simp [keyB]
theorem held_next {H : List TStep} (h : heldB H = true) {i : Nat} {x y : TStep} (hx : H[i]? = some x) (hy : H[i + 1]? = some y) : lessS x y = true := by
  have hi := (List.getElem?_eq_some_iff.1 hy).1
  have := held_at h hi
  unfold heldAt at this
  rw [Bool.and_eq_true, Bool.or_eq_true, decide_eq_true_eq] at this
  rcases this.1 with h9 | h9
  · omega
  · rwa [Nat.add_sub_cancel, show H.getD i z3 = x by simp [List.getD, hx], show H.getD (i + 1) z3 = y by simp [List.getD, hy]] at h9
theorem held_less {H : List TStep} (h : heldB H = true) {i : Nat} {x : TStep} (hx : H[i]? = some x) : ∀ (j : Nat) (y : TStep), i < j → H[j]? = some y → lessS x y = true := by
  intro j
  induction j with
  | zero => intro y hj; omega
  | succ j ih =>
    intro y hj hy
    by_cases e : i = j
    · subst e; exact held_next h hx hy
    · obtain ⟨z, hz⟩ : ∃ z, H[j]? = some z := ⟨_, List.getElem?_eq_getElem (by have := (List.getElem?_eq_some_iff.1 hy).1; omega)⟩
      exact lessS_trans (ih z (by omega) hz) (held_next h hz hy)
theorem cmpS_down {x y k : TStep} (h : lessS x y = true) (hy : cmpS y k < 0) : cmpS x k < 0 := cmpS_neg.2 (lessS_trans h (cmpS_neg.1 hy))
theorem cmpS_up {x y k : TStep} (h : lessS x y = true) (hx : ¬ cmpS x k < 0) : ¬ cmpS y k < 0 ∧ cmpS y k ≠ 0 := by
  refine ⟨fun hy => hx (cmpS_down h hy), fun hy => hx ?_⟩
  rw [cmpS_zero] at hy
  rw [cmpS_neg, lessS_iff]
  rw [lessS_iff] at h
  omega
theorem find_hit {xs : List TStep} {t z i : Int} {p : Nat} {x : TStep} (hx : xs[p]? = some x) (h0 : cmpS x (t, z, i) = 0) (hb : ∀ (j : Nat) (y : TStep), j < p → xs[j]? = some y → cmpS y (t, z, i) < 0) : xs.find? (keyB t i) = some x := by
  have key : ∀ k, k ≤ p → (xs.drop k).find? (keyB t i) = some x := by
    intro k hk
    obtain ⟨d, hd⟩ : ∃ d, p - k = d := ⟨_, rfl⟩
    induction d generalizing k with
    | zero =>
      obtain rfl : k = p := by omega
      rw [find_step hx, if_pos (key_cmp.2 h0)]
    | succ d ih =>
      have hlt := (List.getElem?_eq_some_iff.1 hx).1
      obtain ⟨y, hy⟩ : ∃ y, xs[k]? = some y := ⟨_, List.getElem?_eq_getElem (by omega)⟩
      have hc := hb k y (by omega) hy
      rw [find_step hy, if_neg (fun h => by have := (key_cmp (z := z)).1 h; omega), ih (k + 1) (by omega) (by omega)]
  simpa using key 0 (Nat.zero_le _)
theorem find_miss {xs : List TStep} {t z i : Int} (h : ∀ (j : Nat) (y : TStep), xs[j]? = some y → cmpS y (t, z, i) ≠ 0) : xs.find? (keyB t i) = none := by
  refine List.find?_eq_none.2 fun x hx hk => ?_
  obtain ⟨j, hj, rfl⟩ := List.getElem_of_mem hx
  exact h j _ (List.getElem?_eq_getElem hj) (key_cmp.1 hk)

end Go.Proofs.YtjjebodlekepaaaDoor

/- Contracts of slices.BinarySearchFunc at locks, impl.placeOfLock. -/
namespace Go.Proofs.YtjjebodlekepaaaDoor
open Go.RowKit

def SrchOk (xs : List TStep) (k : TStep) (p : Nat) (f : Bool) : Prop :=
  (f = true ∧ ∃ x, xs[p]? = some x ∧ cmpS x k = 0 ∧ ∀ (j : Nat) (y : TStep), j < p → xs[j]? = some y → cmpS y k < 0) ∨ (f = false ∧ ∀ (j : Nat) (y : TStep), xs[j]? = some y → cmpS y k ≠ 0)

def SrchRet (e : Ending) (xs : List TStep) (k : TStep) : Prop := ∃ (p : Nat) (f : Bool), e = .returned (.tuple #[.int .i64 (p : Nat), .bool f]) ∧ SrchOk xs k p f

set_option maxRecDepth 100000 in
set_option maxHeartbeats 2000000 in
theorem searchLock_any (a : Option Addr) (n c : Nat) (xs : List TStep) (x0 x1 x2 : Int) (w : World) (hz : xs.length = n) (hn : n ≤ 40) (hs : heldB xs = true) (ha : At w a (flStep xs)) :
    Calls Tryd.prog 64 #[.slice a n c, .agg #[.int .i64 x0, .int .i64 x1, .int .i64 x2], .func (.func 51) #[] #[]] w fun e w' => SrchRet e xs (x0, x1, x2) ∧ Below w.heap.size w w' := by
  obtain ⟨W, hW⟩ : ∃ W, W = w.alloc (.cells #[.int .i64 x0, .int .i64 x1, .int .i64 x2] 51) := ⟨_, rfl⟩
  have B0 : Below w.heap.size w W := by rw [hW]; exact (Below.refl _ _).alloc (Nat.le_refl _) _
  have q0 : W.cell? ⟨w.heap.size, 0, none⟩ = some (.int .i64 x0) := by rw [hW]; simp
  have q1 : W.cell? ⟨w.heap.size, 1, none⟩ = some (.int .i64 x1) := by rw [hW]; simp
  have q2 : W.cell? ⟨w.heap.size, 2, none⟩ = some (.int .i64 x2) := by rw [hW]; simp
  have HQ := Hid.mk (And.intro q0 (And.intro q1 q2))
  have HZ := Hid.mk hz
  have HS := Hid.mk hs
  have HA := Hid.mk (At.below ha B0)
  have HB0 := Hid.mk B0
  obtain ⟨KEY, hKEY⟩ : ∃ K : TStep, K = (x0, x1, x2) := ⟨_, rfl⟩
  have HKEY := Hid.mk hKEY
  rw [← hKEY]
  clear hz hs ha B0 hKEY
  go_enter Tryd.func64, Tryd.ntmps64
  go_upto_region 1 with fail
  rw [← hW]
  clear hW
  go_wp2
  go_loopw [9, 10] (fun u v wr => ∃ (i j : Nat), u = .int .i64 (i : Nat) ∧ v = .int .i64 (j : Nat) ∧ i ≤ j ∧ j ≤ n ∧ (∀ (t : Nat) (y : TStep), t < i → xs[t]? = some y → cmpS y KEY < 0) ∧ (∀ (t : Nat) (y : TStep), j ≤ t → xs[t]? = some y → ¬ cmpS y KEY < 0) ∧ Below W.heap.size W wr) (fun u v _ => (intOf v).toNat - (intOf u).toNat)
  case atStart => exact ⟨0, n, rfl, rfl, Nat.zero_le _, Nat.le_refl _, fun t y h => by omega, fun t y h hy => by have h8 := (List.getElem?_eq_some_iff.1 hy).1; have h9 := HZ.out; omega, Below.refl _ _⟩
  case round =>
    clear q0 q1 q2
    obtain ⟨i, j, rfl, rfl, hij, hjn, hlo, hhi, hbw⟩ := hrel
    obtain ⟨wY, rfl⟩ : ∃ x, x = wr := ⟨_, rfl⟩
    have HLO := Hid.mk hlo
    have HHI := Hid.mk hhi
    have HBW := Hid.mk hbw
    have q0 := cell_later hbw HQ.out.1
    have q1 := cell_later hbw HQ.out.2.1
    have q2 := cell_later hbw HQ.out.2.2
    clear hlo hhi hbw
    by_cases hlt : i < j
    · have hlti : (i : Int) < (j : Int) := by omega
      obtain ⟨h, hh⟩ : ∃ h, (i + j) / 2 = h := ⟨_, rfl⟩
      have hih : i ≤ h := by omega
      have hhj : h < j := by omega
      have hhn : (h : Int) < (n : Int) := by omega
      have hw1 : IntKind.i64.wrap ((i : Int) + (j : Int)) = ((i + j : Nat) : Int) := (IntWalk.i64_in _ (by omega)).trans (by omega)
      have hw2 : IntKind.u64.wrap ((i : Int) + (j : Int)) = ((i + j : Nat) : Int) := by rw [show (i : Int) + (j : Int) = ((i + j : Nat) : Int) by omega]; exact wrap64_small (by omega)
      have hw3 : ((i : Int) + (j : Int)) / 2 = (h : Int) := by omega
      have hw4 : IntKind.i64.wrap (h : Int) = (h : Int) := IntWalk.i64_in _ (by omega)
      have hwh : IntKind.i64.wrap ((h : Int) + 1) = ((h + 1 : Nat) : Int) := (IntWalk.i64_in _ (by omega)).trans (by omega)
      obtain ⟨⟨y0, y1, y2⟩, hx⟩ : ∃ x, xs[h]? = some x := ⟨_, List.getElem?_eq_getElem (by have := HZ.out; omega)⟩
      obtain ⟨b, off, rfl, hb, hc⟩ := flStep_some HA.out (by have := HZ.out; omega)
      obtain ⟨e0, e1, e2⟩ := hc h _ hx
      have e0 := cell_later HBW.out e0
      have e1 := cell_later HBW.out e1
      have e2 := cell_later HBW.out e2
      simp only at e0 e1 e2
      obtain ⟨L, hL⟩ : ∃ L, cmpS (y0, y1, y2) (x0, x1, x2) = L := ⟨_, rfl⟩
      have HL := Hid.mk hL
      have HX := Hid.mk hx
      clear hc hx hL hh
      go_upto_region 5 with fail
      refine wp_region_held_drew (S := fun w' => w'.cell? ⟨w.heap.size, 0, none⟩ = some (.int .i64 x0) ∧ w'.cell? ⟨w.heap.size, 1, none⟩ = some (.int .i64 x1) ∧ w'.cell? ⟨w.heap.size, 2, none⟩ = some (.int .i64 x2) ∧ w'.cell? ⟨b, off + h * 3, none⟩ = some (.int .i64 y0) ∧ w'.cell? ⟨b, off + h * 3 + 1, none⟩ = some (.int .i64 y1) ∧ w'.cell? ⟨b, off + h * 3 + 2, none⟩ = some (.int .i64 y2)) (by kernel_rfl) ?_ (fun hHeld => ?_)
      · (try dsimp only)
        exact ⟨q0, q1, q2, e0, e1, e2⟩
      refine tk 0 ?_
      refine tk 1 ?_
      refine tk 2 ?_
      refine tk 3 ?_
      refine tk 4 ?_
      refine tk 5 ?_
      refine tr 6 (fun K hK => ?_)
      go_simp
      go_at_call 51
      refine (compareLocks_any y0 y1 y2 x0 x1 x2 _).mono ?_
      rintro e w2 ⟨rfl, hb2⟩
      have hbd : Below wY.heap.size wY w2 := (Below.refl _ _).drew.trans hb2
      have q0 := cell_later hbd q0
      have q1 := cell_later hbd q1
      have q2 := cell_later hbd q2
      have e0 := cell_later hbd e0
      have e1 := cell_later hbd e1
      have e2 := cell_later hbd e2
      have HB2 := Hid.mk (HBW.out.trans (hbd.mono HBW.out.size))
      rw [HL.out]
      clear hb2 hbd
      (try go_wp2_with fail)
      refine hK.out _ _ ?_ (fun hHeld' => ?_)
      · (try dsimp only)
        exact ⟨q0, q1, q2, e0, e1, e2⟩
      clear hK K hHeld
      have hHeld := hHeld'
      clear hHeld'
      (try simp only [Act.put, List.setIfInBounds_toArray, List.set_cons_zero, List.set_cons_succ])
      refine tk 7 ?_
      refine wpAnyH_done (by kernel_rfl) ?_ _
      by_cases hl0 : L < 0
      · have HN : Hid (∀ (t : Nat) (y : TStep), t < h + 1 → xs[t]? = some y → cmpS y KEY < 0) := Hid.mk (fun t y ht hy => by
          by_cases e : t = h
          · subst e; rw [HX.out] at hy; obtain rfl := Option.some.inj hy; rw [HKEY.out, HL.out]; exact hl0
          · exact cmpS_down (held_less HS.out hy h _ (by omega) HX.out) (by rw [HKEY.out, HL.out]; exact hl0))
        go_wp2
        go_roundw
        case rel => exact ⟨h + 1, j, by go_num, rfl, by omega, hjn, HN.out, (fun t y a b => by have := HHI.out t y a b; omega), HB2.out⟩
        case measure => simp [intOf]; omega
      · have HN : Hid (∀ (t : Nat) (y : TStep), h ≤ t → xs[t]? = some y → ¬ cmpS y KEY < 0) := Hid.mk (fun t y ht hy => by
          by_cases e : t = h
          · subst e; rw [HX.out] at hy; obtain rfl := Option.some.inj hy; rw [HKEY.out, HL.out]; exact hl0
          · exact (cmpS_up (held_less HS.out HX.out t y (by omega) hy) (by rw [HKEY.out, HL.out]; exact hl0)).1)
        have hl1 : 0 ≤ L := by omega
        go_wp2
        go_roundw
        case rel => exact ⟨i, h, rfl, rfl, hih, by omega, HLO.out, (fun t y a b => by have := HN.out t y a b; omega), HB2.out⟩
        case measure => simp [intOf]; omega
    · obtain rfl : j = i := by omega
      have hlti : ¬ (j : Int) < (j : Int) := by omega
      by_cases hin : j < n
      · have hji : (j : Int) < (n : Int) := by omega
        have hjd : decide (j < n) = true := decide_eq_true hin
        obtain ⟨⟨y0, y1, y2⟩, hx⟩ : ∃ x, xs[j]? = some x := ⟨_, List.getElem?_eq_getElem (by have := HZ.out; omega)⟩
        obtain ⟨b, off, rfl, hb, hc⟩ := flStep_some HA.out (by have := HZ.out; omega)
        obtain ⟨e0, e1, e2⟩ := hc j _ hx
        have e0 := cell_later HBW.out e0
        have e1 := cell_later HBW.out e1
        have e2 := cell_later HBW.out e2
        simp only at e0 e1 e2
        obtain ⟨L, hL⟩ : ∃ L, cmpS (y0, y1, y2) (x0, x1, x2) = L := ⟨_, rfl⟩
        have HL := Hid.mk hL
        have HX := Hid.mk hx
        have HOK : Hid (SrchOk xs KEY j (L == 0)) := Hid.mk (by
          by_cases h0 : L = 0
          · left
            exact ⟨by rw [h0]; rfl, _, hx, by rw [HKEY.out, hL, h0], HLO.out⟩
          · right
            refine ⟨beq_eq_false_iff_ne.2 h0, fun t y hy => ?_⟩
            by_cases h1 : t < j
            · have := HLO.out t y h1 hy; omega
            · by_cases h2 : t = j
              · subst h2; rw [hx] at hy; obtain rfl := Option.some.inj hy; rw [HKEY.out, hL]; exact h0
              · exact (cmpS_up (held_less HS.out hx t y (by omega) hy) (HHI.out j _ (Nat.le_refl _) hx)).2)
        obtain ⟨E, hE⟩ : ∃ E, (L == 0) = E := ⟨_, rfl⟩
        rw [hE] at HOK
        clear hc hx hL
        go_upto_region 8 with fail
        refine wp_region_held_drew (S := fun w' => w'.cell? ⟨w.heap.size, 0, none⟩ = some (.int .i64 x0) ∧ w'.cell? ⟨w.heap.size, 1, none⟩ = some (.int .i64 x1) ∧ w'.cell? ⟨w.heap.size, 2, none⟩ = some (.int .i64 x2) ∧ w'.cell? ⟨b, off + j * 3, none⟩ = some (.int .i64 y0) ∧ w'.cell? ⟨b, off + j * 3 + 1, none⟩ = some (.int .i64 y1) ∧ w'.cell? ⟨b, off + j * 3 + 2, none⟩ = some (.int .i64 y2)) (by kernel_rfl) ?_ (fun hHeld => ?_)
        · (try dsimp only)
          exact ⟨q0, q1, q2, e0, e1, e2⟩
        refine tk 0 ?_
        refine tk 1 ?_
        refine tk 2 ?_
        refine tk 3 ?_
        refine tk 4 ?_
        refine tk 5 ?_
        refine tk 6 ?_
        refine tk 7 ?_
        refine tk 8 ?_
        refine tk 9 ?_
        refine tk 10 ?_
        refine tr 11 (fun K hK => ?_)
        go_simp
        go_at_call 51
        refine (compareLocks_any y0 y1 y2 x0 x1 x2 _).mono ?_
        rintro e w2 ⟨rfl, hb2⟩
        have hbd : Below wY.heap.size wY w2 := (Below.refl _ _).drew.trans hb2
        have q0 := cell_later hbd q0
        have q1 := cell_later hbd q1
        have q2 := cell_later hbd q2
        have e0 := cell_later hbd e0
        have e1 := cell_later hbd e1
        have e2 := cell_later hbd e2
        have HB2 := Hid.mk (HBW.out.trans (hbd.mono HBW.out.size))
        rw [HL.out]
        clear hb2 hbd
        (try go_wp2_with fail)
        refine hK.out _ _ ?_ (fun hHeld' => ?_)
        · (try dsimp only)
          exact ⟨q0, q1, q2, e0, e1, e2⟩
        clear hK K hHeld
        have hHeld := hHeld'
        clear hHeld'
        (try simp only [Act.put, List.setIfInBounds_toArray, List.set_cons_zero, List.set_cons_succ])
        refine tk 12 ?_
        refine tk 13 ?_
        refine tk 14 ?_
        refine tk 15 ?_
        refine wpAnyH_done (by kernel_rfl) ?_ _
        go_wp2
        refine bodyPost_ret (v := .tuple #[.int .i64 (j : Nat), .bool E]) (by simp [results, Tryd.results64, go_sem]) rfl ⟨⟨j, E, rfl, HOK.out⟩, HB0.out.trans (HB2.out.mono HB0.out.size)⟩
      · obtain rfl : n = j := by omega
        have hjd : decide (n < n) = false := decide_eq_false (by omega)
        have hjd' : decide ((n : Int) < (n : Int)) = false := decide_eq_false (by omega)
        have HOK : Hid (SrchOk xs KEY n false) := Hid.mk (.inr ⟨rfl, fun t y hy => by
          have := HLO.out t y (by have h8 := (List.getElem?_eq_some_iff.1 hy).1; have h9 := HZ.out; omega) hy
          omega⟩)
        go_upto_region 8 with fail
        refine wp_region_held_drew (S := fun w' => w'.cell? ⟨w.heap.size, 0, none⟩ = some (.int .i64 x0) ∧ w'.cell? ⟨w.heap.size, 1, none⟩ = some (.int .i64 x1) ∧ w'.cell? ⟨w.heap.size, 2, none⟩ = some (.int .i64 x2)) (by kernel_rfl) ?_ (fun hHeld => ?_)
        · (try dsimp only)
          exact ⟨q0, q1, q2⟩
        refine tk 0 ?_
        refine tk 1 ?_
        refine tk 2 ?_
        refine tk 3 ?_
        refine tk 4 ?_
        refine tu 5 ?_
        refine tu 6 ?_
        refine tu 7 ?_
        refine tu 8 ?_
        refine tu 9 ?_
        refine tu 10 ?_
        refine tu 11 ?_
        refine tu 12 ?_
        refine tk 13 ?_
        refine tk 14 ?_
        refine tk 15 ?_
        refine wpAnyH_done (by kernel_rfl) ?_ _
        go_wp2
        refine bodyPost_ret (v := .tuple #[.int .i64 (n : Nat), .bool false]) (by simp [results, Tryd.results64, go_sem]) rfl ⟨⟨n, false, rfl, HOK.out⟩, HB0.out.trans (HBW.out.drew.mono HB0.out.size)⟩

theorem placeOfLock_any (a : Option Addr) (n c : Nat) (xs : List TStep) (x0 x1 x2 : Int) (w : World) (hz : xs.length = n) (hn : n ≤ 40) (hs : heldB xs = true) (ha : At w a (flStep xs)) :
    Calls Tryd.prog 48 #[.slice a n c, .agg #[.int .i64 x0, .int .i64 x1, .int .i64 x2]] w fun e w' => SrchRet e xs (x0, x1, x2) ∧ Below w.heap.size w w' := by
  obtain ⟨W, hW⟩ : ∃ W, W = w.alloc (.cells #[.int .i64 x0, .int .i64 x1, .int .i64 x2] 51) := ⟨_, rfl⟩
  have B0 : Below w.heap.size w W := by rw [hW]; exact (Below.refl _ _).alloc (Nat.le_refl _) _
  have q0 : W.cell? ⟨w.heap.size, 0, none⟩ = some (.int .i64 x0) := by rw [hW]; simp
  have q1 : W.cell? ⟨w.heap.size, 1, none⟩ = some (.int .i64 x1) := by rw [hW]; simp
  have q2 : W.cell? ⟨w.heap.size, 2, none⟩ = some (.int .i64 x2) := by rw [hW]; simp
  have K := Hid.mk (searchLock_any a n c xs x0 x1 x2 W hz hn hs (At.below ha B0))
  clear hz hs ha
  go_enter Tryd.func48, Tryd.ntmps48
  go_upto_region 1 with fail
  rw [← hW]
  clear hW
  go_wp2_with fail
  refine K.out.mono ?_
  rintro e w2 ⟨⟨p, f, rfl, hok⟩, hb2⟩
  have HOK := Hid.mk hok
  clear K hok
  go_wp2
  refine bodyPost_ret (v := .tuple #[.int .i64 (p : Nat), .bool f]) (by simp [results, Tryd.results48, go_sem]) rfl ⟨⟨p, f, rfl, HOK.out⟩, B0.trans (hb2.mono B0.size)⟩

end Go.Proofs.YtjjebodlekepaaaDoor

/- Contract of impl.HasLock. -/
namespace Go.Proofs.YtjjebodlekepaaaDoor
open Go.RowKit

set_option maxRecDepth 100000 in
set_option maxHeartbeats 2000000 in
theorem implHasLock (a0 : Option Addr) (a1 : Option Addr) (a2 : Option Addr) (a3 : Option Addr) (a4 : Option Addr) (n0 c0 n1 c1 n2 c2 n3 c3 n4 c4 : Nat) (x0 x1 x2 : List TStep) (x3 x4 : List Int) (tx it : Int) (w : World) (hz0 : x0.length = n0) (hs0 : n0 ≤ 1048576) (hc0 : n0 ≤ c0) (hF0 : a0 = none → c0 = 0) (ha0 : At w a0 (flStep x0)) (hz1 : x1.length = n1) (hs1 : n1 ≤ 1048576) (hc1 : n1 ≤ c1) (hF1 : a1 = none → c1 = 0) (ha1 : At w a1 (flStep x1)) (hz2 : x2.length = n2) (hs2 : n2 ≤ 1048576) (hc2 : n2 ≤ c2) (hF2 : a2 = none → c2 = 0) (ha2 : At w a2 (flStep x2)) (hz3 : x3.length = n3) (hs3 : n3 ≤ 1048576) (hc3 : n3 ≤ c3) (hF3 : a3 = none → c3 = 0) (ha3 : At w a3 x3) (hz4 : x4.length = n4) (hs4 : n4 ≤ 1048576) (hc4 : n4 ≤ c4) (hF4 : a4 = none → c4 = 0) (ha4 : At w a4 x4) (ht : TabB w) :
    Calls Tryd.prog 24 #[.agg #[.slice a0 n0 c0, .slice a1 n1 c1, .slice a2 n2 c2, .slice a3 n3 c3, .slice a4 n4 c4], .int .i64 tx, .int .i64 it] w fun e w' => e = .returned (.tuple #[.int .i64 ((hlO (x0, x1, x2, x3, x4) tx it).getD 0), .bool (hlO (x0, x1, x2, x3, x4) tx it).isSome]) ∧ Below w.heap.size w w' := by
  obtain ⟨W, hW⟩ : ∃ W, W = w.alloc (.cells #[.slice a0 n0 c0, .slice a1 n1 c1, .slice a2 n2 c2, .slice a3 n3 c3, .slice a4 n4 c4] 30) := ⟨_, rfl⟩
  have B0 : Below w.heap.size w W := by rw [hW]; exact (Below.refl _ _).alloc (Nat.le_refl _) _
  have p0 : W.cell? ⟨w.heap.size, 0, none⟩ = some (.slice a0 n0 c0) := by rw [hW]; simp
  have p1 : W.cell? ⟨w.heap.size, 1, none⟩ = some (.slice a1 n1 c1) := by rw [hW]; simp
  have p2 : W.cell? ⟨w.heap.size, 2, none⟩ = some (.slice a2 n2 c2) := by rw [hW]; simp
  have p3 : W.cell? ⟨w.heap.size, 3, none⟩ = some (.slice a3 n3 c3) := by rw [hW]; simp
  have p4 : W.cell? ⟨w.heap.size, 4, none⟩ = some (.slice a4 n4 c4) := by rw [hW]; simp
  have HP0 := Hid.mk p0
  have HP1 := Hid.mk p1
  have HP2 := Hid.mk p2
  have HP3 := Hid.mk p3
  have HP4 := Hid.mk p4
  have KG := Hid.mk (implGoodLocks a0 a1 a2 a3 a4 n0 c0 n1 c1 n2 c2 n3 c3 n4 c4 x0 x1 x2 x3 x4 W hz0 hs0 hc0 hF0 (At.below ha0 B0) hz1 hs1 hc1 hF1 (At.below ha1 B0) hz2 hs2 hc2 hF2 (At.below ha2 B0) hz3 hs3 hc3 hF3 (At.below ha3 B0) hz4 hs4 hc4 hF4 (At.below ha4 B0) (TabIs.below ht B0))
  have HBW := Hid.mk B0
  have HA0 := Hid.mk (At.below ha0 HBW.out)
  have HZ0 := Hid.mk hz0
  clear ha0 hz0
  have HA1 := Hid.mk (At.below ha1 HBW.out)
  have HZ1 := Hid.mk hz1
  clear ha1 hz1
  have HA2 := Hid.mk (At.below ha2 HBW.out)
  have HZ2 := Hid.mk hz2
  clear ha2 hz2
  have HA3 := Hid.mk (At.below ha3 HBW.out)
  have HZ3 := Hid.mk hz3
  clear ha3 hz3
  have HA4 := Hid.mk (At.below ha4 HBW.out)
  have HZ4 := Hid.mk hz4
  clear ha4 hz4
  clear B0 ht
  go_enter Tryd.func24, Tryd.ntmps24
  go_wp2_with fail
  rw [← hW]
  clear hW
  refine KG.out.mono ?_
  rintro e w1 ⟨rfl, hb1⟩
  have p0 := cell_later hb1 p0
  have p1 := cell_later hb1 p1
  have p2 := cell_later hb1 p2
  have p3 := cell_later hb1 p3
  have p4 := cell_later hb1 p4
  have HB1 := Hid.mk hb1
  clear hb1 KG
  have HB2 := Hid.mk (HBW.out.trans (HB1.out.mono HBW.out.size))
  cases hg : glB (x0, x1, x2, x3, x4) with
  | false =>
    have HR : Hid (hlO (x0, x1, x2, x3, x4) tx it = none) := Hid.mk (by unfold hlO; rw [hg]; rfl)
    clear hg
    go_wp2
    refine bodyPost_ret (v := .tuple #[.int .i64 0, .bool false]) (by simp [results, Tryd.results24, go_sem]) rfl ⟨by rw [HR.out]; rfl, HB2.out⟩
  | true =>
    have hn40 : n0 ≤ 40 := by have := gp_len (gl_held hg).1; have := HZ0.out; omega
    have KP := Hid.mk (placeOfLock_any a0 n0 c0 x0 tx 0 it w1 HZ0.out hn40 (gl_held hg).2 (At.below HA0.out HB1.out))
    have HR : Hid (hlO (x0, x1, x2, x3, x4) tx it = (x0.find? (keyB tx it)).map (·.2.1)) := Hid.mk (by unfold hlO; rw [hg]; rfl)
    clear hg
    go_wp2_with fail
    refine KP.out.mono ?_
    rintro e w2 ⟨⟨p, f, rfl, hok⟩, hb2⟩
    have p0 := cell_later hb2 p0
    have p1 := cell_later hb2 p1
    have p2 := cell_later hb2 p2
    have p3 := cell_later hb2 p3
    have p4 := cell_later hb2 p4
    have HB3 := Hid.mk (HB2.out.trans (hb2.mono HB2.out.size))
    have HBX := Hid.mk (HB1.out.trans (hb2.mono HB1.out.size))
    clear KP hb2
    rcases hok with ⟨rfl, ⟨y0, y1, y2⟩, hx, h0, hlo⟩ | ⟨rfl, hno⟩
    · have HF : Hid (hlO (x0, x1, x2, x3, x4) tx it = some y1) := Hid.mk (by rw [HR.out, find_hit hx h0 hlo]; rfl)
      have hpn : p < n0 := by have h8 := (List.getElem?_eq_some_iff.1 hx).1; have h9 := HZ0.out; omega
      have hpi : (p : Int) < (n0 : Int) := by omega
      obtain ⟨b, off, rfl, hb, hc⟩ := flStep_some HA0.out (by have := HZ0.out; omega)
      obtain ⟨e0, e1, e2⟩ := hc p _ hx
      have e1 := cell_later HBX.out e1
      simp only at e1
      clear hc hx h0 hlo e0 e2
      go_wp2
      refine bodyPost_ret (v := .tuple #[.int .i64 y1, .bool true]) (by simp [results, Tryd.results24, go_sem]) rfl ⟨by rw [HF.out]; rfl, HB3.out⟩
    · have HF : Hid (hlO (x0, x1, x2, x3, x4) tx it = none) := Hid.mk (by rw [HR.out, find_miss hno]; rfl)
      clear hno
      go_wp2
      refine bodyPost_ret (v := .tuple #[.int .i64 0, .bool false]) (by simp [results, Tryd.results24, go_sem]) rfl ⟨by rw [HF.out]; rfl, HB3.out⟩

end Go.Proofs.YtjjebodlekepaaaDoor

/- Plain: a number put to its place in a rising list, as sets of columns tell it. -/
namespace Go.Proofs.YtjjebodlekepaaaDoor
open Go.RowKit

/-- A number put to its place, once: ahead of the first that is not less. -/
def lessN (n : Int) : List Int → Nat
  | [] => 0
  | z :: zs => if z < n then lessN n zs + 1 else 0
def insI (l : List Int) (n : Int) : List Int := if n ∈ l then l else l.take (lessN n l) ++ n :: l.drop (lessN n l)
theorem lessN_le (n : Int) : ∀ l, lessN n l ≤ l.length
  | [] => Nat.le_refl _
  | z :: zs => by unfold lessN; split; have := lessN_le n zs; simp; omega; simp
theorem lessN_is (n : Int) : ∀ (l : List Int) (k : Nat), k ≤ l.length → (∀ j, j < k → l.getD j 0 < n) → (k < l.length → ¬ l.getD k 0 < n) → lessN n l = k
  | [], k, h, _, _ => by simp at h; simp [lessN, h]
  | z :: zs, 0, _, _, h => by have := h (by simp); simp at this; unfold lessN; rw [if_neg (by omega)]
  | z :: zs, k + 1, h1, h2, h3 => by
    have h0 := h2 0 (by omega)
    simp at h0
    unfold lessN
    rw [if_pos h0, lessN_is n zs k (by simpa using h1) (fun j hj => by simpa using h2 (j + 1) (by omega)) (fun hk => by simpa using h3 (by simpa using hk))]
theorem insI_yes {l : List Int} {n : Int} (h : n ∈ l) : insI l n = l := if_pos h
theorem insI_no {l : List Int} {n : Int} (h : ¬ n ∈ l) : insI l n = l.take (lessN n l) ++ n :: l.drop (lessN n l) := if_neg h
theorem insI_bl_all : ∀ s : Nat, s < 64 → ∀ n : Nat, n < 6 → insI (bl s) (n : Int) = bl (s ||| 2 ^ n) := by decide +kernel
theorem insI_bl {s : Nat} {n : Int} (hs : s < 64) (h0 : 0 ≤ n) (h1 : n < 6) : insI (bl s) n = bl (s ||| 2 ^ n.toNat) := by
  have := insI_bl_all s hs n.toNat (by omega)
  rw [Int.toNat_of_nonneg h0] at this
  exact this
theorem len_bl_all : ∀ s : Nat, s < 64 → ∀ t : Nat, t < 64 → sb s t = true → (bl t).length = (bl s).length → t = s := by decide +kernel
theorem all_bl {D T : Nat} (hD : D < 64) : (bl D).all (fun k => decide (k ∈ bl T)) = sb D T := by
  cases h : sb D T with
  | true =>
    rw [List.all_eq_true]
    intro k hk
    obtain ⟨i, h1, h2, rfl⟩ := mem_bl.1 hk
    exact decide_eq_true (mem_bl.2 ⟨i, h1, sb_bit h i h2, rfl⟩)
  | false =>
    rw [← Bool.not_eq_true]
    intro h'
    rw [List.all_eq_true] at h'
    have : sb D T = true := sb_of_bits fun i hi => by
      have hi6 : i < 6 := by
        by_cases h6 : i < 6
        · exact h6
        · rw [Nat.testBit_lt_two_pow (Nat.lt_of_lt_of_le hD (by have : 2 ^ 6 ≤ 2 ^ i := Nat.pow_le_pow_right (by omega) (by omega); omega))] at hi; cases hi
      have h9 := of_decide_eq_true (h' (i : Int) (mem_bl.2 ⟨i, hi6, hi, rfl⟩))
      obtain ⟨j, _, h4, h5⟩ := mem_bl.1 h9
      obtain rfl : i = j := by omega
      exact h4
    rw [h] at this; cases this
/-- Putting all of a list, one by one. -/
theorem mk_or (l : List Int) (s : Nat) : l.foldl (fun s k => s ||| 2 ^ k.toNat) s = s ||| mk l := by
  apply Nat.eq_of_testBit_eq
  have key : ∀ (l : List Int) (s i : Nat), (l.foldl (fun s k => s ||| 2 ^ k.toNat) s).testBit i = (s.testBit i || (l.foldl (fun (s : Nat) (k : Int) => s ||| 2 ^ k.toNat) 0).testBit i) := by
    intro l
    induction l with
    | nil => intro s i; simp
    | cons x l ih => intro s i; rw [List.foldl_cons, List.foldl_cons, ih, ih (0 ||| _), Nat.testBit_or, Nat.testBit_or]; simp [Bool.or_assoc]
  intro i
  rw [key, Nat.testBit_or]
  rfl

end Go.Proofs.YtjjebodlekepaaaDoor

/- Contracts of the model's l1Has, l7All, l7Put. -/
namespace Go.Proofs.YtjjebodlekepaaaDoor
open Go.RowKit

set_option maxHeartbeats 1000000 in
theorem l1Has_any (a : Option Addr) (n c : Nat) (zs : List Int) (x : Int) (w : World) (hz : zs.length = n) (hn : n ≤ 9223372036854775807) (ha : At w a zs) :
    Calls Tryd.prog 30 #[.slice a n c, .int .i64 x] w fun e w' => e = .returned (.bool (decide (x ∈ zs))) ∧ w' = w := by
  by_cases h0 : n = 0
  · subst h0
    obtain rfl := List.eq_nil_of_length_eq_zero hz
    go_enter Tryd.func30, Tryd.ntmps30
    go_wp2
    refine wp_loop_rounds 1 ?_
    rw [rounds_succ]
    go_wp2
    go_ret
    exact ⟨rfl, rfl⟩
  · obtain ⟨b, off, rfl, hb, hc⟩ := ha.some (by omega)
    clear ha
    go_enter Tryd.func30, Tryd.ntmps30
    go_wp2
    go_loopw [9] (fun i wr => ∃ (k : Nat), k ≤ n ∧ i = .int .i64 k ∧ (¬ x ∈ zs.take k) ∧ wr = w) (fun i _ => n - (intOf i).toNat)
    case atStart => exact ⟨0, Nat.zero_le _, rfl, by simp, rfl⟩
    case round =>
      obtain ⟨k, hk, rfl, ht, rfl⟩ := hrel
      by_cases hlt : k < n
      · have hcx : wr.cell? ⟨b, off + k, none⟩ = some (.int .i64 (zs.getD k 0)) := hc k (by omega)
        have hm : zs.getD k 0 ∈ zs := by simp [List.getD, show k < zs.length by omega]
        have hnx : zs.getD k 0 ≠ x → ¬ x ∈ zs.take (k + 1) := fun h => by
          rw [take_succ_getD zs k (by omega)]
          simp only [List.mem_append, List.mem_singleton, not_or]
          exact ⟨ht, fun e => h e.symm⟩
        obtain ⟨y, hy⟩ : ∃ y, y = zs.getD k 0 := ⟨_, rfl⟩
        rw [← hy] at hcx hm hnx
        have HM := Hid.mk hm
        have HN := Hid.mk hnx
        clear hc hm hnx hy ht
        by_cases he : y = x
        · subst he
          go_wp2
          go_ret
          exact ⟨by rw [decide_eq_true HM.out]; rfl, rfl⟩
        · go_wp2
          go_roundw
          case rel => exact ⟨k + 1, by omega, by go_num, HN.out he, trivial⟩
          case measure => simp [intOf]; omega
      · rw [List.take_of_length_le (by omega)] at ht
        have HT := Hid.mk ht
        clear ht
        go_wp2
        go_ret
        exact ⟨by rw [decide_eq_false HT.out]; rfl, rfl⟩

end Go.Proofs.YtjjebodlekepaaaDoor
