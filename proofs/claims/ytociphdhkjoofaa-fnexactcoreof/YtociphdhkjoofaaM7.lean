/- Several texts of one proof, in build order: MyI, TrI, LmP. -/
import Derived.Test.YtociphdhkjoofaaM6
import Derived.Test.YtociphdhkjoofaaM3
import Derived.Defers
import Derived.Recover
import Derived.Laws.Pointers

/- Contracts of impl.way.mayTake, of its closure in mayLead, of slices.ContainsFunc at it, of impl.way.mayLead. -/
namespace Go.Proofs.Ytociphdhkjoofaa
open Go.RowKit

/-- Whether an atom may go to another one, as far as is known. -/
def mTake (m : Wy) (a o : Atm) : Bool := decide (a.1 = o.1) && (wAll m a.2 o.2).2
def mLead (m : Wy) (ats os : List Atm) : Bool := ats.all fun a => os.any (mTake m a)

set_option maxRecDepth 100000 in
set_option maxHeartbeats 8000000 in
theorem mayTake_any (m : Wy) (ap : Int) (va : Option Addr) (vn vc : Nat) (vs : List Int) (op : Int) (xa : Option Addr) (xn xc : Nat) (xs : List Int) (w : World) (hm : m.length = 6) (hvz : vs.length = vn) (hvb : vn ≤ 9223372036854775807) (hin : ∀ v ∈ vs, 0 ≤ v ∧ v < 6) (hva : At w va vs) (hxz : xs.length = xn) (hxb : xn ≤ 9223372036854775807) (hle : ap = op → vn ≤ xn) (hxa : At w xa xs) :
    Calls Try.prog 103 #[.agg (wcells m).toArray, .agg #[.int .i64 ap, .slice va vn vc], .agg #[.int .i64 op, .slice xa xn xc]] w fun e w' => e = .returned (.bool (mTake m (ap, vs) (op, xs))) ∧ Below w.heap.size w w' := by
  obtain ⟨k0, k1, k2, k3, k4, k5, n0, n1, n2, n3, n4, n5, hw0⟩ := wcells_open hm
  obtain ⟨W, hW⟩ : ∃ W, W = ((w.alloc (.cells #[.bool k0, .bool k1, .bool k2, .bool k3, .bool k4, .bool k5, .int .i64 n0, .int .i64 n1, .int .i64 n2, .int .i64 n3, .int .i64 n4, .int .i64 n5] 101)).alloc (.cells #[.int .i64 ap, .slice va vn vc] 58)).alloc (.cells #[.int .i64 op, .slice xa xn xc] 58) := ⟨_, rfl⟩
  have B0 : Below w.heap.size w W := by rw [hW]; exact (((Below.refl _ _).alloc (Nat.le_refl _) _).alloc (by simp) _).alloc (by simp; omega) _
  have b0 : W.heap[w.heap.size]? = some (.cells #[.bool k0, .bool k1, .bool k2, .bool k3, .bool k4, .bool k5, .int .i64 n0, .int .i64 n1, .int .i64 n2, .int .i64 n3, .int .i64 n4, .int .i64 n5] 101 (0, 0)) := by rw [hW]; exact blk_alloc (blk_alloc (heap_alloc_new w _) _) _
  have b1 : W.heap[w.heap.size + 1]? = some (.cells #[.int .i64 ap, .slice va vn vc] 58 (0, 0)) := by
    rw [hW]
    refine blk_alloc ?_ _
    have h := heap_alloc_new (w.alloc (.cells #[.bool k0, .bool k1, .bool k2, .bool k3, .bool k4, .bool k5, .int .i64 n0, .int .i64 n1, .int .i64 n2, .int .i64 n3, .int .i64 n4, .int .i64 n5] 101)) (.cells #[.int .i64 ap, .slice va vn vc] 58)
    simpa only [World.size_alloc] using h
  have b2 : W.heap[w.heap.size + 1 + 1]? = some (.cells #[.int .i64 op, .slice xa xn xc] 58 (0, 0)) := by
    rw [hW]
    have h := heap_alloc_new ((w.alloc (.cells #[.bool k0, .bool k1, .bool k2, .bool k3, .bool k4, .bool k5, .int .i64 n0, .int .i64 n1, .int .i64 n2, .int .i64 n3, .int .i64 n4, .int .i64 n5] 101)).alloc (.cells #[.int .i64 ap, .slice va vn vc] 58)) (.cells #[.int .i64 op, .slice xa xn xc] 58)
    simpa only [World.size_alloc] using h
  have HW0 : Hid ((wcells m).toArray = #[.bool k0, .bool k1, .bool k2, .bool k3, .bool k4, .bool k5, .int .i64 n0, .int .i64 n1, .int .i64 n2, .int .i64 n3, .int .i64 n4, .int .i64 n5]) := by show _ = _; rw [hw0]
  have c0 := blk_cell b0 0 (v := .bool k0) rfl
  have c1 := blk_cell b0 1 (v := .bool k1) rfl
  have c2 := blk_cell b0 2 (v := .bool k2) rfl
  have c3 := blk_cell b0 3 (v := .bool k3) rfl
  have c4 := blk_cell b0 4 (v := .bool k4) rfl
  have c5 := blk_cell b0 5 (v := .bool k5) rfl
  have c6 := blk_cell b0 6 (v := .int .i64 n0) rfl
  have c7 := blk_cell b0 7 (v := .int .i64 n1) rfl
  have c8 := blk_cell b0 8 (v := .int .i64 n2) rfl
  have c9 := blk_cell b0 9 (v := .int .i64 n3) rfl
  have c10 := blk_cell b0 10 (v := .int .i64 n4) rfl
  have c11 := blk_cell b0 11 (v := .int .i64 n5) rfl
  have d0 := blk_cell b1 0 (v := .int .i64 ap) rfl
  have d1 := blk_cell b1 1 (v := .slice va vn vc) rfl
  have e0 := blk_cell b2 0 (v := .int .i64 op) rfl
  have e1 := blk_cell b2 1 (v := .slice xa xn xc) rfl
  rw [HW0.out]
  by_cases hop : ap = op
  · have KW : Hid (Calls Try.prog 88 #[.agg #[.bool k0, .bool k1, .bool k2, .bool k3, .bool k4, .bool k5, .int .i64 n0, .int .i64 n1, .int .i64 n2, .int .i64 n3, .int .i64 n4, .int .i64 n5], .slice va vn vc, .slice xa xn xc] W fun e w' => e = .returned (.tuple #[.agg (wcells (wAll m vs xs).1).toArray, .bool (wAll m vs xs).2]) ∧ Below W.heap.size W w') := by
      have h := withAll_any m va vn vc vs xa xn xc xs W hm hvz hvb hin (At.below hva B0) hxz hxb (hle hop) (At.below hxa B0)
      rw [HW0.out] at h
      exact h
    obtain ⟨k'0, k'1, k'2, k'3, k'4, k'5, n'0, n'1, n'2, n'3, n'4, n'5, hw2⟩ := wcells_open (wAll_len m vs xs hm)
    have HR : Hid (mTake m (ap, vs) (op, xs) = (wAll m vs xs).2) := by show _ = _; unfold mTake; rw [decide_eq_true (show (ap, vs).1 = (op, xs).1 from hop)]; rfl
    rw [hw2] at KW
    obtain ⟨ok, hok⟩ : ∃ ok, ok = (wAll m vs xs).2 := ⟨_, rfl⟩
    rw [← hok] at KW HR
    clear hm hvz hin hva hxz hxa hle b0 b1 b2 hw0 HW0 hw2 hok
    subst hop
    go_enter Try.func103, Try.ntmps103
    go_upto_region 1 with fail
    rw [← hW]
    clear hW
    go_wp2_with fail
    refine KW.out.mono ?_
    rintro e w2 ⟨rfl, hb2⟩
    have B2 := B0.trans (hb2.mono B0.size)
    clear hb2 KW c0 c1 c2 c3 c4 c5 c6 c7 c8 c9 c10 c11 d0 d1 e0 e1
    go_wp2
    go_ret
    exact ⟨ret_bool HR.out.symm, B2.alloc B2.size _⟩
  · have HR : Hid (mTake m (ap, vs) (op, xs) = false) := by show _ = _; unfold mTake; rw [decide_eq_false (show ¬ (ap, vs).1 = (op, xs).1 from hop)]; rfl
    clear hm hvz hin hva hxz hxa hle b0 b1 b2 hw0 HW0
    go_enter Try.func103, Try.ntmps103
    go_upto_region 1 with fail
    rw [← hW]
    clear hW
    go_wp2
    go_ret
    exact ⟨ret_bool HR.out.symm, B0⟩

set_option maxRecDepth 100000 in
set_option maxHeartbeats 8000000 in
theorem mayLead1_any (m : Wy) (bw ba : Nat) (ap : Int) (va : Option Addr) (vn vc : Nat) (vs : List Int) (op : Int) (xa : Option Addr) (xn xc : Nat) (xs : List Int) (w : World) (hm : m.length = 6) (hbw : w.heap[bw]? = some (.cells (wcells m).toArray 101 (0, 0))) (hba : w.heap[ba]? = some (.cells #[.int .i64 ap, .slice va vn vc] 58 (0, 0))) (hvz : vs.length = vn) (hvb : vn ≤ 9223372036854775807) (hin : ∀ v ∈ vs, 0 ≤ v ∧ v < 6) (hva : At w va vs) (hxz : xs.length = xn) (hxb : xn ≤ 9223372036854775807) (hle : ap = op → vn ≤ xn) (hxa : At w xa xs) :
    Calls Try.prog 102 #[.agg #[.int .i64 op, .slice xa xn xc], .pointer (some ⟨bw, 0, none⟩), .pointer (some ⟨ba, 0, none⟩)] w fun e w' => e = .returned (.bool (mTake m (ap, vs) (op, xs))) ∧ Below w.heap.size w w' := by
  obtain ⟨k0, k1, k2, k3, k4, k5, n0, n1, n2, n3, n4, n5, hw0⟩ := wcells_open hm
  obtain ⟨W, hW⟩ : ∃ W, W = w.alloc (.cells #[.int .i64 op, .slice xa xn xc] 58) := ⟨_, rfl⟩
  have B0 : Below w.heap.size w W := by rw [hW]; exact (Below.refl _ _).alloc (Nat.le_refl _) _
  have b0 : W.heap[bw]? = some (.cells #[.bool k0, .bool k1, .bool k2, .bool k3, .bool k4, .bool k5, .int .i64 n0, .int .i64 n1, .int .i64 n2, .int .i64 n3, .int .i64 n4, .int .i64 n5] 101 (0, 0)) := by have h := blk_below hbw B0; rw [hw0] at h; exact h
  have b1 := blk_below hba B0
  have e0 : W.cell? ⟨w.heap.size, 0, none⟩ = some (.int .i64 op) := by rw [hW]; exact pair0 w _ _ _
  have e1 : W.cell? ⟨w.heap.size, 1, none⟩ = some (.slice xa xn xc) := by rw [hW]; exact pair1 w _ _ _
  have c0 := blk_cell b0 0 (v := .bool k0) rfl
  have c1 := blk_cell b0 1 (v := .bool k1) rfl
  have c2 := blk_cell b0 2 (v := .bool k2) rfl
  have c3 := blk_cell b0 3 (v := .bool k3) rfl
  have c4 := blk_cell b0 4 (v := .bool k4) rfl
  have c5 := blk_cell b0 5 (v := .bool k5) rfl
  have c6 := blk_cell b0 6 (v := .int .i64 n0) rfl
  have c7 := blk_cell b0 7 (v := .int .i64 n1) rfl
  have c8 := blk_cell b0 8 (v := .int .i64 n2) rfl
  have c9 := blk_cell b0 9 (v := .int .i64 n3) rfl
  have c10 := blk_cell b0 10 (v := .int .i64 n4) rfl
  have c11 := blk_cell b0 11 (v := .int .i64 n5) rfl
  have d0 := blk_cell b1 0 (v := .int .i64 ap) rfl
  have d1 := blk_cell b1 1 (v := .slice va vn vc) rfl
  have KW : Hid (Calls Try.prog 103 #[.agg #[.bool k0, .bool k1, .bool k2, .bool k3, .bool k4, .bool k5, .int .i64 n0, .int .i64 n1, .int .i64 n2, .int .i64 n3, .int .i64 n4, .int .i64 n5], .agg #[.int .i64 ap, .slice va vn vc], .agg #[.int .i64 op, .slice xa xn xc]] W fun e w' => e = .returned (.bool (mTake m (ap, vs) (op, xs))) ∧ Below W.heap.size W w') := by
    have h := mayTake_any m ap va vn vc vs op xa xn xc xs W hm hvz hvb hin (At.below hva B0) hxz hxb hle (At.below hxa B0)
    rw [hw0] at h
    exact h
  clear hm hvz hin hva hxz hxa hle b0 b1 hw0 hbw hba
  go_enter Try.func102, Try.ntmps102
  go_upto_region 1 with fail
  rw [← hW]
  clear hW
  go_wp2_with fail
  refine KW.out.mono ?_
  rintro e w2 ⟨rfl, hb2⟩
  go_wp2
  go_ret
  exact ⟨rfl, B0.trans (hb2.mono B0.size)⟩

/-- Atoms and others of which those of one table have as many variables. -/
def Fit (ats os : List Atm) : Prop := (∀ a ∈ ats, ∀ v ∈ a.2, (0 : Int) ≤ v ∧ v < 6) ∧ ∀ a ∈ ats, ∀ o ∈ os, a.1 = o.1 → a.2.length ≤ o.2.length

set_option maxRecDepth 100000 in
set_option maxHeartbeats 8000000 in
theorem indexAtom_any (m : Wy) (bw ba : Nat) (ap : Int) (va : Option Addr) (vn vc : Nat) (vs : List Int) (a : Option Addr) (n c : Nat) (os : List Atm) (w : World) (hm : m.length = 6) (hbw : w.heap[bw]? = some (.cells (wcells m).toArray 101 (0, 0))) (hba : w.heap[ba]? = some (.cells #[.int .i64 ap, .slice va vn vc] 58 (0, 0))) (hvz : vs.length = vn) (hvb : vn ≤ 9223372036854775807) (hin : ∀ v ∈ vs, 0 ≤ v ∧ v < 6) (hva : At w va vs) (hz : os.length = n) (hn : n ≤ 9223372036854775807) (hle : ∀ o ∈ os, ap = o.1 → vn ≤ o.2.length) (haz : AtQ w a os) :
    Calls Try.prog 110 #[.slice a n c, .func (.func 102) #[] #[.pointer (some ⟨bw, 0, none⟩), .pointer (some ⟨ba, 0, none⟩)]] w fun e w' => ∃ k : Int, e = .returned (.int .i64 k) ∧ (os.any (mTake m (ap, vs)) = false → k = -1) ∧ (os.any (mTake m (ap, vs)) = true → 0 ≤ k) ∧ Below w.heap.size w w' := by
  by_cases h0 : n = 0
  · subst h0
    obtain rfl := List.eq_nil_of_length_eq_zero hz
    go_enter Try.func110, Try.ntmps110
    go_wp2
    refine wp_loop_rounds 1 ?_
    rw [rounds_succ]
    go_wp2
    go_ret
    exact ⟨-1, rfl, fun _ => rfl, fun h => (by cases h), Below.refl _ _⟩
  have HZ := Hid.mk hz
  have HA := Hid.mk haz
  have HLE := Hid.mk hle
  have KC : Hid (∀ (o : Atm) (xa : Option Addr) (xn xc : Nat) (w' : World), o ∈ os → o.2.length = xn → xn ≤ 9223372036854775807 → At w' xa o.2 → Below w.heap.size w w' → Calls Try.prog 102 #[.agg #[.int .i64 o.1, .slice xa xn xc], .pointer (some ⟨bw, 0, none⟩), .pointer (some ⟨ba, 0, none⟩)] w' fun e w'' => e = .returned (.bool (mTake m (ap, vs) o)) ∧ Below w'.heap.size w' w'') :=
    fun o xa xn xc w' ho h1 h2 h3 h4 => mayLead1_any m bw ba ap va vn vc vs o.1 xa xn xc o.2 w' hm (blk_below hbw h4) (blk_below hba h4) hvz hvb hin (At.below hva h4) h1 h2 (fun e => by have := hle o ho e; omega) h3
  clear hz haz hle hm hbw hba hvz hin hva
  go_enter Try.func110, Try.ntmps110
  go_wp2_with fail
  go_loopw [8] (fun i wr => ∃ (k : Nat), k ≤ n ∧ i = .int .i64 k ∧ os.any (mTake m (ap, vs)) = (os.drop k).any (mTake m (ap, vs)) ∧ Below w.heap.size w wr) (fun i _ => n - (intOf i).toNat)
  case atStart => exact ⟨0, Nat.zero_le _, rfl, rfl, Below.refl _ _⟩
  case round =>
    obtain ⟨k, hk, rfl, ht, hbr⟩ := hrel
    by_cases hlt : k < n
    · obtain ⟨x, hx⟩ : ∃ x, os[k]? = some x := ⟨_, List.getElem?_eq_getElem (by have := HZ.out; omega)⟩
      obtain ⟨b, off, rfl, _, hc⟩ := AtQ.row (AtSl.below HA.out hbr) (by have := HZ.out; omega)
      obtain ⟨xa, xn, xc, g0, g1, u1, u2, u3, _⟩ := hc k x hx
      have hki : (k : Int) < (n : Int) := by omega
      have hdr : os.drop k = x :: os.drop (k + 1) := by
        obtain ⟨h1, h2⟩ := List.getElem?_eq_some_iff.1 hx
        rw [List.drop_eq_getElem_cons h1, h2]
      rw [hdr, List.any_cons] at ht
      have HT := Hid.mk ht
      have HC := Hid.mk (KC.out x xa xn xc wr (List.mem_of_getElem? hx) u1 u2 u3 hbr)
      obtain ⟨xp, hxp⟩ : ∃ xp, xp = x.1 := ⟨_, rfl⟩
      rw [← hxp] at g0 HC
      clear hc hx hdr ht u1 u3 hxp
      cases hr : mTake m (ap, vs) x with
      | true =>
        rw [hr] at HC
        go_wp2_with fail
        refine HC.out.mono ?_
        rintro e w2 ⟨rfl, hb2⟩
        go_wp2
        go_ret
        exact ⟨k, rfl, fun h => (by rw [HT.out, hr] at h; cases h), fun _ => (by omega), hbr.trans (hb2.mono hbr.size)⟩
      | false =>
        rw [hr] at HC
        go_wp2_with fail
        refine HC.out.mono ?_
        rintro e w2 ⟨rfl, hb2⟩
        go_wp2
        go_roundw
        case rel => exact ⟨k + 1, by omega, by go_num, by rw [HT.out, hr]; rfl, hbr.trans (hb2.mono hbr.size)⟩
        case measure => simp [intOf]; omega
    · rw [List.drop_of_length_le (by have := HZ.out; omega)] at ht
      have HT := Hid.mk ht
      clear ht
      go_wp2
      go_ret
      exact ⟨-1, rfl, fun _ => rfl, fun h => (by rw [HT.out] at h; cases h), hbr⟩

theorem hasTake_any (m : Wy) (bw ba : Nat) (ap : Int) (va : Option Addr) (vn vc : Nat) (vs : List Int) (a : Option Addr) (n c : Nat) (os : List Atm) (w : World) (hm : m.length = 6) (hbw : w.heap[bw]? = some (.cells (wcells m).toArray 101 (0, 0))) (hba : w.heap[ba]? = some (.cells #[.int .i64 ap, .slice va vn vc] 58 (0, 0))) (hvz : vs.length = vn) (hvb : vn ≤ 9223372036854775807) (hin : ∀ v ∈ vs, 0 ≤ v ∧ v < 6) (hva : At w va vs) (hz : os.length = n) (hn : n ≤ 9223372036854775807) (hle : ∀ o ∈ os, ap = o.1 → vn ≤ o.2.length) (haz : AtQ w a os) :
    Calls Try.prog 101 #[.slice a n c, .func (.func 102) #[] #[.pointer (some ⟨bw, 0, none⟩), .pointer (some ⟨ba, 0, none⟩)]] w fun e w' => e = .returned (.bool (os.any (mTake m (ap, vs)))) ∧ Below w.heap.size w w' := by
  have HC := Hid.mk (indexAtom_any m bw ba ap va vn vc vs a n c os w hm hbw hba hvz hvb hin hva hz hn hle haz)
  clear haz hz hle hm hbw hba hvz hin hva
  cases hr : os.any (mTake m (ap, vs)) with
  | true =>
    rw [hr] at HC
    go_enter Try.func101, Try.ntmps101
    go_wp2_with fail
    refine HC.out.mono ?_
    rintro e w1 ⟨k, rfl, _, h2, hb⟩
    have hk := h2 trivial
    go_wp2
    go_ret
    exact ⟨ret_bool (by simp <;> omega), hb⟩
  | false =>
    rw [hr] at HC
    go_enter Try.func101, Try.ntmps101
    go_wp2_with fail
    refine HC.out.mono ?_
    rintro e w1 ⟨k, rfl, h1, _, hb⟩
    obtain rfl := h1 trivial
    go_wp2
    go_ret
    exact ⟨rfl, hb⟩

set_option maxRecDepth 100000 in
set_option maxHeartbeats 8000000 in
theorem mayLead_any (m : Wy) (a : Option Addr) (n c : Nat) (ats : List Atm) (oa : Option Addr) (on oc : Nat) (os : List Atm) (w : World) (hm : m.length = 6) (hz : ats.length = n) (hn : n ≤ 9223372036854775807) (haz : AtQ w a ats) (hoz : os.length = on) (hon : on ≤ 9223372036854775807) (hoa : AtQ w oa os) (hfit : Fit ats os) :
    Calls Try.prog 86 #[.agg (wcells m).toArray, .slice a n c, .slice oa on oc] w fun e w' => e = .returned (.bool (mLead m ats os)) ∧ Below w.heap.size w w' := by
  have hmf : ∀ (fn : Fn) (first cap : Array Value) (w : World), (Instr.makeFunc fn first cap).run Try.prog w = .ok (.func fn first cap) w := fun _ _ _ _ => rfl
  obtain ⟨k0, k1, k2, k3, k4, k5, n0, n1, n2, n3, n4, n5, hw0⟩ := wcells_open hm
  obtain ⟨W, hW⟩ : ∃ W, W = w.alloc (.cells #[.bool k0, .bool k1, .bool k2, .bool k3, .bool k4, .bool k5, .int .i64 n0, .int .i64 n1, .int .i64 n2, .int .i64 n3, .int .i64 n4, .int .i64 n5] 101) := ⟨_, rfl⟩
  have B0 : Below w.heap.size w W := by rw [hW]; exact (Below.refl _ _).alloc (Nat.le_refl _) _
  have b0 : W.heap[w.heap.size]? = some (.cells (wcells m).toArray 101 (0, 0)) := by rw [hW, hw0]; exact heap_alloc_new w _
  have HB0 := Hid.mk b0
  have HM := Hid.mk hm
  have HZ := Hid.mk hz
  have HA := Hid.mk haz
  have HOZ := Hid.mk hoz
  have HO := Hid.mk hoa
  have HF := Hid.mk hfit
  have HW0 : Hid ((wcells m).toArray = #[.bool k0, .bool k1, .bool k2, .bool k3, .bool k4, .bool k5, .int .i64 n0, .int .i64 n1, .int .i64 n2, .int .i64 n3, .int .i64 n4, .int .i64 n5]) := by show _ = _; rw [hw0]
  rw [HW0.out]
  clear hm hz haz hoz hoa hfit b0 hw0 HW0
  have HE : Hid (mLead m ats os = ats.all fun a => os.any (mTake m a)) := rfl
  by_cases hn0 : n = 0
  · subst hn0
    have ha0 := List.eq_nil_of_length_eq_zero HZ.out
    have HT : Hid (mLead m ats os = true) := by show _ = _; rw [HE.out, ha0]; rfl
    clear ha0
    go_enter Try.func86, Try.ntmps86
    go_upto_region 1 with fail
    rw [← hW]
    clear hW
    go_wp2_with fail
    refine wp_loop_rounds 1 ?_
    rw [rounds_succ]
    go_wp2
    go_ret
    exact ⟨ret_bool HT.out.symm, B0⟩
  go_enter Try.func86, Try.ntmps86
  go_upto_region 1 with fail
  rw [← hW]
  clear hW
  go_wp2_with fail
  go_loopw [11] (fun i wr => ∃ (k : Nat), k ≤ n ∧ i = .int .i64 k ∧ mLead m ats os = ((ats.drop k).all fun a => os.any (mTake m a)) ∧ Below w.heap.size w wr ∧ Below W.heap.size W wr) (fun i _ => n - (intOf i).toNat)
  case atStart => exact ⟨0, Nat.zero_le _, rfl, HE.out, B0, Below.refl _ _⟩
  case round =>
    clear B0 HE
    obtain ⟨k, hk, rfl, ht, hbw, hbW⟩ := hrel
    by_cases hlt : k < n
    · obtain ⟨⟨xp, xv⟩, hx⟩ : ∃ x, ats[k]? = some x := ⟨_, List.getElem?_eq_getElem (by have := HZ.out; omega)⟩
      obtain ⟨b, off, rfl, _, hc⟩ := AtQ.row (AtSl.below HA.out hbw) (by have := HZ.out; omega)
      obtain ⟨va, vn, vc, g0, g1, u1, u2, u3, _⟩ := hc k _ hx
      have hki : (k : Int) < (n : Int) := by omega
      have hmem := List.mem_of_getElem? hx
      have hdr : ats.drop k = (xp, xv) :: ats.drop (k + 1) := by
        obtain ⟨h1, h2⟩ := List.getElem?_eq_some_iff.1 hx
        rw [List.drop_eq_getElem_cons h1, h2]
      rw [hdr, List.all_cons] at ht
      obtain ⟨U, hU⟩ : ∃ U, U = wr.alloc (.cells #[.int .i64 xp, .slice va vn vc] 58) := ⟨_, rfl⟩
      have hbU : Below wr.heap.size wr U := by rw [hU]; exact (Below.refl _ _).alloc (Nat.le_refl _) _
      have b1 : U.heap[wr.heap.size]? = some (.cells #[.int .i64 xp, .slice va vn vc] 58 (0, 0)) := by rw [hU]; exact heap_alloc_new wr _
      have B1 := hbw.trans (hbU.mono hbw.size)
      have B2 := hbW.trans (hbU.mono hbW.size)
      have HC := Hid.mk (hasTake_any m w.heap.size wr.heap.size xp va vn vc xv oa on oc os U HM.out (blk_below HB0.out B2) b1 u1 u2 (HF.out.1 _ hmem) (At.below u3 hbU) HOZ.out hon (fun o ho e => by have := HF.out.2 _ hmem o ho e; have h9 : xv.length = vn := u1; simp only at this; omega) (AtSl.below HO.out B1))
      have HT := Hid.mk ht
      have HB1 := Hid.mk (And.intro B1 B2)
      clear hc hx hmem hdr ht u1 u3 hbU b1 B1 B2
      go_upto_region 4 with fail
      rw [← hU]
      clear hU g0 g1
      cases hr : os.any (mTake m (xp, xv)) with
      | false =>
        rw [hr] at HC
        have HF' : Hid (mLead m ats os = false) := by show _ = _; rw [HT.out, hr]; rfl
        go_wp2_with fail
        refine HC.out.mono ?_
        rintro e w2 ⟨rfl, hb2⟩
        have B3 := HB1.out.1.trans (hb2.mono HB1.out.1.size)
        clear hb2
        go_wp2
        go_ret
        exact ⟨ret_bool HF'.out.symm, B3⟩
      | true =>
        rw [hr] at HC
        have HN : Hid (mLead m ats os = ((ats.drop (k + 1)).all fun a => os.any (mTake m a))) := by show _ = _; rw [HT.out, hr]; rfl
        go_wp2_with fail
        refine HC.out.mono ?_
        rintro e w2 ⟨rfl, hb2⟩
        have B3 := Hid.mk (And.intro (HB1.out.1.trans (hb2.mono HB1.out.1.size)) (HB1.out.2.trans (hb2.mono HB1.out.2.size)))
        clear hb2
        go_wp2
        go_roundw
        case rel => exact ⟨k + 1, by omega, by go_num, HN.out, B3.out.1, B3.out.2⟩
        case measure => simp [intOf]; omega
    · rw [List.drop_of_length_le (by have := HZ.out; omega)] at ht
      have HT := Hid.mk ht
      clear ht
      go_wp2
      go_ret
      exact ⟨ret_bool HT.out.symm, hbw⟩

end Go.Proofs.Ytociphdhkjoofaa

/- Contracts of impl.orGiveUp, impl.tried. -/
namespace Go.Proofs.Ytociphdhkjoofaa
open Go.RowKit

set_option maxRecDepth 100000 in
theorem orGiveUp_yes (m : Wy) (w : World) (hm : m.length = 6) :
    Calls Try.prog 84 #[.agg (wcells m).toArray, .bool true] w fun e w' => e = .returned (.agg (wcells m).toArray) ∧ Below w.heap.size w w' := by
  obtain ⟨k0, k1, k2, k3, k4, k5, n0, n1, n2, n3, n4, n5, hw0⟩ := wcells_open hm
  rw [hw0]
  clear hw0 hm
  go_enter Try.func84, Try.ntmps84
  go_wp2
  exact bodyPost_ret (v := .agg #[.bool k0, .bool k1, .bool k2, .bool k3, .bool k4, .bool k5, .int .i64 n0, .int .i64 n1, .int .i64 n2, .int .i64 n3, .int .i64 n4, .int .i64 n5]) (by simp [results, Try.results84, go_sem]) rfl ⟨rfl, ((Below.refl _ _).alloc (Nat.le_refl _) _).alloc (by simp) _⟩

set_option maxRecDepth 100000 in
theorem orGiveUp_no (m : Wy) (w : World) (hm : m.length = 6) :
    Calls Try.prog 84 #[.agg (wcells m).toArray, .bool false] w fun e w' => e = .panicked [{ v := .iface 121 (.agg #[]), recovered := false }] ∧ Below w.heap.size w w' := by
  obtain ⟨k0, k1, k2, k3, k4, k5, n0, n1, n2, n3, n4, n5, hw0⟩ := wcells_open hm
  rw [hw0]
  clear hw0 hm
  go_enter Try.func84, Try.ntmps84
  go_wp2
  exact ⟨rfl, rfl, ((Below.refl _ _).alloc (Nat.le_refl _) _).alloc (by simp) _⟩

theorem caught_panicking (w : World) :
    CallsD Try.prog 100 #[] (.panicking [{ v := .iface 121 (.agg #[]), recovered := false }]) w fun e u' w' =>
      e = .returned (.tuple #[]) ∧ u' = .panicking [{ v := .iface 121 (.agg #[]), recovered := true }] ∧ Below w.heap.size w w' := by
  have hta : ∀ w, (Instr.typeAssert (.iface 121 (.agg #[])) 20 121 true).run Try.prog w = .ok (.tuple #[.agg #[], .bool true]) w := fun w => by kernel_rfl
  refine callsD_of_wpS Try.func100 rfl fun c₀ cs hu => ?_
  apply wpS_seq
  apply wpS_region
  simp [wpOpsS, go_sem, recoverD, hu, Try.ntmps100, Exit.thenS]
  refine wpS_of_wp ?_
  change Code.wp Try.prog _ _ { tmps := #[.iface 121 (.agg #[]), undef, undef, .iface 121 (.agg #[]), undef, undef, undef, undef, undef, undef, undef, undef, undef, undef, undef, undef], defers := [] } _
  go_wp2
  exact ⟨rfl, _, rfl, .tuple #[], by simp [results, Try.results100, go_sem], rfl, rfl, (Below.refl _ _).alloc (Nat.le_refl _) _⟩

theorem caught_idle (w : World) :
    CallsD Try.prog 100 #[] .returning w fun e u' w' => e = .returned (.tuple #[]) ∧ u' = .returning ∧ Below w.heap.size w w' := by
  have hta : ∀ w, (Instr.typeAssert .nilIface 20 121 true).run Try.prog w = .ok (.tuple #[.agg #[], .bool false]) w := fun w => by kernel_rfl
  refine callsD_of_wpS Try.func100 rfl fun c₀ cs hu => ?_
  apply wpS_seq
  apply wpS_region
  simp [wpOpsS, go_sem, recoverD, hu, Try.ntmps100, Exit.thenS]
  refine wpS_of_wp ?_
  change Code.wp Try.prog _ _ { tmps := #[.nilIface, undef, undef, .nilIface, undef, undef, undef, undef, undef, undef, undef, undef, undef, undef, undef, undef], defers := [] } _
  go_wp2
  refine ⟨rfl, .returning, by cases c₀; simp_all, .tuple #[], by simp [results, Try.results100, go_sem], rfl, rfl, (Below.refl _ _).alloc (Nat.le_refl _) _⟩

/-- How a try ends: with a way, or given up. -/
def Ends (o : Option Wy) (e : Ending) : Prop := match o with
  | some m => e = .returned (.agg (wcells m).toArray)
  | none => e = .panicked [{ v := .iface 121 (.agg #[]), recovered := false }]

set_option maxRecDepth 100000 in
set_option maxHeartbeats 4000000 in
theorem tried_any (g : Nat) (cap : Array Value) (o : Option Wy) (w : World) (eg : ∀ args w, (callFunc g args).run Try.prog w = .ok (.enter g args) w) (hm : ∀ m, o = some m → m.length = 6)
    (hC : ∀ W, Below w.heap.size w W → w.heap.size < W.heap.size → Calls Try.prog g cap W fun e w' => Ends o e ∧ Below W.heap.size W w') :
    Calls Try.prog 82 #[.func (.func g) #[] cap] w fun e w' => e = .returned (.tuple #[.agg (wcells (o.getD wy0)).toArray, .bool o.isSome]) ∧ Below w.heap.size w w' := by
  obtain ⟨W, hW⟩ : ∃ W, W = w.alloc (.cells #[.bool false, .bool false, .bool false, .bool false, .bool false, .bool false, .int .i64 0, .int .i64 0, .int .i64 0, .int .i64 0, .int .i64 0, .int .i64 0] 101) := ⟨_, rfl⟩
  have B0 : Below w.heap.size w W := by rw [hW]; exact (Below.refl _ _).alloc (Nat.le_refl _) _
  have zW : w.heap.size < W.heap.size := by rw [hW]; simp
  have b0 : W.heap[w.heap.size]? = some (.cells #[.bool false, .bool false, .bool false, .bool false, .bool false, .bool false, .int .i64 0, .int .i64 0, .int .i64 0, .int .i64 0, .int .i64 0, .int .i64 0] 101 (0, 0)) := by rw [hW]; exact heap_alloc_new w _
  have HC := Hid.mk (hC W B0 zW)
  clear hC
  cases o with
  | some m =>
    obtain ⟨k0, k1, k2, k3, k4, k5, n0, n1, n2, n3, n4, n5, hw0⟩ := wcells_open (hm m rfl)
    have HW0 : Hid ((wcells m).toArray = #[.bool k0, .bool k1, .bool k2, .bool k3, .bool k4, .bool k5, .int .i64 n0, .int .i64 n1, .int .i64 n2, .int .i64 n3, .int .i64 n4, .int .i64 n5]) := by show _ = _; rw [hw0]
    clear hw0 hm
    go_enter_defers Try.func82, Try.ntmps82
    go_wp2_with fail
    rw [← hW]
    clear hW
    refine HC.out.mono ?_
    rintro e w2 ⟨he, hb2⟩
    have he2 : e = .returned (.agg #[.bool k0, .bool k1, .bool k2, .bool k3, .bool k4, .bool k5, .int .i64 n0, .int .i64 n1, .int .i64 n2, .int .i64 n3, .int .i64 n4, .int .i64 n5]) := by
      have h : e = .returned (.agg (wcells m).toArray) := he
      rw [HW0.out] at h
      exact h
    subst he2
    have b2 := blk_below b0 hb2
    have B2 := B0.trans (hb2.mono B0.size)
    have z2 := hb2.size
    have r0 := blk_cell b2 0 (v := .bool false) rfl
    have r1 := blk_cell b2 1 (v := .bool false) rfl
    have r2 := blk_cell b2 2 (v := .bool false) rfl
    have r3 := blk_cell b2 3 (v := .bool false) rfl
    have r4 := blk_cell b2 4 (v := .bool false) rfl
    have r5 := blk_cell b2 5 (v := .bool false) rfl
    have r6 := blk_cell b2 6 (v := .int .i64 0) rfl
    have r7 := blk_cell b2 7 (v := .int .i64 0) rfl
    have r8 := blk_cell b2 8 (v := .int .i64 0) rfl
    have r9 := blk_cell b2 9 (v := .int .i64 0) rfl
    have r10 := blk_cell b2 10 (v := .int .i64 0) rfl
    have r11 := blk_cell b2 11 (v := .int .i64 0) rfl
    have f0 := blk_frozen b2 0
    have f1 := blk_frozen b2 1
    have f2 := blk_frozen b2 2
    have f3 := blk_frozen b2 3
    have f4 := blk_frozen b2 4
    have f5 := blk_frozen b2 5
    have f6 := blk_frozen b2 6
    have f7 := blk_frozen b2 7
    have f8 := blk_frozen b2 8
    have f9 := blk_frozen b2 9
    have f10 := blk_frozen b2 10
    have f11 := blk_frozen b2 11
    have HB2 := Hid.mk b2
    clear hb2 he HC b0 b2
    go_wp2
    refine leaves_cons (f := 100) (args := #[]) (by simp) (by simp [go_sem]) ?_
    refine (caught_idle _).mono ?_
    rintro e u' w3 ⟨rfl, rfl, hb3⟩
    have b3 := blk_stores12 HB2.out (.bool k0) (.bool k1) (.bool k2) (.bool k3) (.bool k4) (.bool k5) (.int .i64 n0) (.int .i64 n1) (.int .i64 n2) (.int .i64 n3) (.int .i64 n4) (.int .i64 n5)
    have B3 : Below w.heap.size w (stores w2 w.heap.size 0 [.bool k0, .bool k1, .bool k2, .bool k3, .bool k4, .bool k5, .int .i64 n0, .int .i64 n1, .int .i64 n2, .int .i64 n3, .int .i64 n4, .int .i64 n5]) := stores_below _ _ _ _ B2 (Nat.le_refl _)
    have hb3' : Below (stores w2 w.heap.size 0 [.bool k0, .bool k1, .bool k2, .bool k3, .bool k4, .bool k5, .int .i64 n0, .int .i64 n1, .int .i64 n2, .int .i64 n3, .int .i64 n4, .int .i64 n5]).heap.size (stores w2 w.heap.size 0 [.bool k0, .bool k1, .bool k2, .bool k3, .bool k4, .bool k5, .int .i64 n0, .int .i64 n1, .int .i64 n2, .int .i64 n3, .int .i64 n4, .int .i64 n5]) w3 := hb3
    have b4 := blk_below b3 hb3'
    have B4 := B3.trans (hb3'.mono B3.size)
    have q0 := blk_cell b4 0 (v := .bool k0) rfl
    have q1 := blk_cell b4 1 (v := .bool k1) rfl
    have q2 := blk_cell b4 2 (v := .bool k2) rfl
    have q3 := blk_cell b4 3 (v := .bool k3) rfl
    have q4 := blk_cell b4 4 (v := .bool k4) rfl
    have q5 := blk_cell b4 5 (v := .bool k5) rfl
    have q6 := blk_cell b4 6 (v := .int .i64 n0) rfl
    have q7 := blk_cell b4 7 (v := .int .i64 n1) rfl
    have q8 := blk_cell b4 8 (v := .int .i64 n2) rfl
    have q9 := blk_cell b4 9 (v := .int .i64 n3) rfl
    have q10 := blk_cell b4 10 (v := .int .i64 n4) rfl
    have q11 := blk_cell b4 11 (v := .int .i64 n5) rfl
    refine ⟨.tuple #[.agg #[.bool k0, .bool k1, .bool k2, .bool k3, .bool k4, .bool k5, .int .i64 n0, .int .i64 n1, .int .i64 n2, .int .i64 n3, .int .i64 n4, .int .i64 n5], .bool true], by simp [results, Try.results82, go_sem, q0, q1, q2, q3, q4, q5, q6, q7, q8, q9, q10, q11], ?_, B4⟩
    show _ = Ending.returned (.tuple #[.agg (wcells m).toArray, .bool true])
    rw [HW0.out]
  | none =>
    go_enter_defers Try.func82, Try.ntmps82
    go_wp2_with fail
    rw [← hW]
    clear hW
    refine HC.out.mono ?_
    rintro e w2 ⟨he, hb2⟩
    have he2 : e = .panicked [{ v := .iface 121 (.agg #[]), recovered := false }] := he
    subst he2
    have b2 := blk_below b0 hb2
    have B2 := B0.trans (hb2.mono B0.size)
    have HB2 := Hid.mk b2
    clear hb2 he HC b0 b2
    go_wp2
    refine leaves_cons (f := 100) (args := #[]) (by simp) (by simp [go_sem]) ?_
    refine (caught_panicking _).mono ?_
    rintro e u' w3 ⟨rfl, rfl, hb3⟩
    have b4 := blk_below HB2.out hb3
    have B4 := B2.trans (hb3.mono B2.size)
    have q0 := blk_cell b4 0 (v := .bool false) rfl
    have q1 := blk_cell b4 1 (v := .bool false) rfl
    have q2 := blk_cell b4 2 (v := .bool false) rfl
    have q3 := blk_cell b4 3 (v := .bool false) rfl
    have q4 := blk_cell b4 4 (v := .bool false) rfl
    have q5 := blk_cell b4 5 (v := .bool false) rfl
    have q6 := blk_cell b4 6 (v := .int .i64 0) rfl
    have q7 := blk_cell b4 7 (v := .int .i64 0) rfl
    have q8 := blk_cell b4 8 (v := .int .i64 0) rfl
    have q9 := blk_cell b4 9 (v := .int .i64 0) rfl
    have q10 := blk_cell b4 10 (v := .int .i64 0) rfl
    have q11 := blk_cell b4 11 (v := .int .i64 0) rfl
    exact ⟨.tuple #[.agg #[.bool false, .bool false, .bool false, .bool false, .bool false, .bool false, .int .i64 0, .int .i64 0, .int .i64 0, .int .i64 0, .int .i64 0, .int .i64 0], .bool false], by simp [results, Try.results82, go_sem, q0, q1, q2, q3, q4, q5, q6, q7, q8, q9, q10, q11], rfl, B4⟩

end Go.Proofs.Ytociphdhkjoofaa

/- Plain: the first map that is not given up; and what the search leans on in memory. -/
namespace Go.Proofs.Ytociphdhkjoofaa
open Go.RowKit

/-- From a way on, variable by variable, to the first target that leads on to the end. -/
def leadF (ats os : List Atm) (tg : List Int) : Wy → List Int → Option Wy
  | m, [] => some m
  | m, v :: vs => tg.findSome? fun t => if (wWith m v t).2 && mLead (wWith m v t).1 ats os then leadF ats os tg (wWith m v t).1 vs else none
def tryF (ats os : List Atm) (tg : List Int) (m : Wy) (v : Int) (vs : List Int) (t : Int) : Option Wy := if (wWith m v t).2 && mLead (wWith m v t).1 ats os then leadF ats os tg (wWith m v t).1 vs else none
theorem leadF_cons (ats os : List Atm) (tg : List Int) (m : Wy) (v : Int) (vs : List Int) : leadF ats os tg m (v :: vs) = tg.findSome? (tryF ats os tg m v vs) := rfl
theorem findSome_len {f : Int → Option Wy} {l : List Int} {m : Wy} (h : l.findSome? f = some m) (hf : ∀ t m, f t = some m → m.length = 6) : m.length = 6 := by
  induction l with
  | nil => simp at h
  | cons t l ih =>
    rw [List.findSome?_cons] at h
    cases ht : f t with
    | some m' => rw [ht] at h; cases h; exact hf t _ ht
    | none => rw [ht] at h; exact ih h
theorem leadF_len (ats os : List Atm) (tg : List Int) : ∀ (vs : List Int) (m m' : Wy), m.length = 6 → leadF ats os tg m vs = some m' → m'.length = 6
  | [], m, m', h, he => by cases he; exact h
  | v :: vs, m, m', h, he => by
    rw [leadF_cons] at he
    refine findSome_len he (fun t m2 h2 => ?_)
    unfold tryF at h2
    split at h2
    · exact leadF_len ats os tg vs _ _ (by rw [wWith_len, h]) h2
    · cases h2
theorem tryF_len {ats os : List Atm} {tg : List Int} {m : Wy} {v : Int} {vs : List Int} {t : Int} (hm : m.length = 6) : ∀ m', tryF ats os tg m v vs t = some m' → m'.length = 6 := fun m' h => by
  unfold tryF at h
  split at h
  · exact leadF_len ats os tg vs _ _ (by rw [wWith_len, hm]) h
  · cases h

/-- What a search leans on: the targets, itself, the two questions. -/
structure LD where
  (bt bl bf bo : Nat) (lt : TypeId)
  (tga : Option Addr) (tgn tgc : Nat) (tg : List Int)
  (fha : Option Addr) (fhn fhc : Nat) (fa : Option Addr) (fn fc : Nat) (ats : List Atm)
  (oha : Option Addr) (ohn ohc : Nat) (oa : Option Addr) (on oc : Nat) (os : List Atm)
def LD.caps (d : LD) : Array Value := #[.pointer (some ⟨d.bt, 0, none⟩), .pointer (some ⟨d.bl, 0, none⟩), .pointer (some ⟨d.bf, 0, none⟩), .pointer (some ⟨d.bo, 0, none⟩)]
structure LEnv (d : LD) (w : World) : Prop where
  t : w.heap[d.bt]? = some (.cells #[.slice d.tga d.tgn d.tgc] 22 (0, 0))
  l : w.heap[d.bl]? = some (.cells #[.func (.func 81) #[] #[.pointer (some ⟨d.bt, 0, none⟩), .pointer (some ⟨d.bl, 0, none⟩), .pointer (some ⟨d.bf, 0, none⟩), .pointer (some ⟨d.bo, 0, none⟩)]] d.lt (0, 0))
  f : w.heap[d.bf]? = some (.cells #[.slice d.fha d.fhn d.fhc, .slice d.fa d.fn d.fc] 29 (0, 0))
  o : w.heap[d.bo]? = some (.cells #[.slice d.oha d.ohn d.ohc, .slice d.oa d.on d.oc] 29 (0, 0))
  tgz : d.tg.length = d.tgn
  tgb : d.tgn ≤ 9223372036854775807
  tga : At w d.tga d.tg
  fz : d.ats.length = d.fn
  fb : d.fn ≤ 9223372036854775807
  fa : AtQ w d.fa d.ats
  oz : d.os.length = d.on
  ob : d.on ≤ 9223372036854775807
  oa : AtQ w d.oa d.os
  fit : Fit d.ats d.os
theorem LEnv.below {d : LD} {w w' : World} (h : LEnv d w) (hb : Below w.heap.size w w') : LEnv d w' :=
  ⟨blk_below h.t hb, blk_below h.l hb, blk_below h.f hb, blk_below h.o hb, h.tgz, h.tgb, At.below h.tga hb, h.fz, h.fb, AtSl.below h.fa hb, h.oz, h.ob, AtSl.below h.oa hb, h.fit⟩

end Go.Proofs.Ytociphdhkjoofaa
