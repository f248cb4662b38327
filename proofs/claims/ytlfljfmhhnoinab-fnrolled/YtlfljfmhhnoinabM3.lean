/- Several texts of one proof, in build order: Cur, CurP, IntS, RowH. -/
import Derived.Test.YtlfljfmhhnoinabM0
import Derived.Test.YtlfljfmhhnoinabM2
import Derived.Test.YtlfljfmhhnoinabRows

/- The model's cursor over bytes: what it draws lies within bounds, and it turns its own block alone. -/
namespace Go.Proofs.Ytlfljfmhhnoinab
open Go.RowKit

/-- n bytes lie at a. -/
def AtB (w : World) (a : Option Addr) (n : Nat) : Prop := n = 0 ∨ ∃ b off, a = some ⟨b, off, none⟩ ∧ ∀ i, i < n → ∃ x : Int, 0 ≤ x ∧ x ≤ 255 ∧ w.cell? ⟨b, off + i, none⟩ = some (.int .u8 x)
/-- A cursor (block C) over n bytes at a, at most M bytes ahead. -/
def Cur (w : World) (C : Nat) (a : Option Addr) (n c M : Nat) : Prop := ∃ (k : Nat) (s : Int), w.heap[C]? = some (.cells #[.slice a n c, .int .i64 k, .int .u64 s] 91 (0, 0)) ∧ k ≤ M ∧ 0 ≤ s ∧ s < 18446744073709551616

theorem wrap_u64 (x : Int) : 0 ≤ IntKind.u64.wrap x ∧ IntKind.u64.wrap x < 18446744073709551616 := by
  simp [IntKind.wrap, IntKind.bits, IntKind.signed]
  omega
theorem wrap_u64_in {x : Int} (h0 : 0 ≤ x) (h1 : x < 18446744073709551616) : IntKind.u64.wrap x = x := by
  simp [IntKind.wrap, IntKind.bits, IntKind.signed]
  omega
theorem and255 (y : Int) : 0 ≤ bits .and .u64 y 255 ∧ bits .and .u64 y 255 ≤ 255 := by
  have h : (BitVec.ofInt 64 y &&& BitVec.ofInt 64 255).toNat ≤ 255 := by
    rw [BitVec.toNat_and]
    exact Nat.and_le_right
  have e : bits .and .u64 y 255 = IntKind.u64.wrap ((BitVec.ofInt 64 y &&& BitVec.ofInt 64 255).toNat : Int) := rfl
  rw [e, wrap_u64_in (by omega) (by omega)]
  omega
section
variable {w w' : World} {C : Nat} {a : Option Addr} {n c M : Nat}
theorem Cur.lt (h : Cur w C a n c M) : C < w.heap.size := by obtain ⟨_, _, h, _⟩ := h; exact (Array.getElem?_eq_some_iff.1 h).1
theorem Cur.mono {M' : Nat} (h : Cur w C a n c M) (hM : M ≤ M') : Cur w C a n c M' := by obtain ⟨k, s, h1, h2, h3⟩ := h; exact ⟨k, s, h1, by omega, h3⟩
theorem Cur.below (h : Cur w C a n c M) (hb : Below w.heap.size w w') : Cur w' C a n c M := by have hl := h.lt; obtain ⟨k, s, h1, h2⟩ := h; exact ⟨k, s, (hb.block C hl).trans h1, h2⟩
theorem AtB.below (h : AtB w a n) (hb : Below w.heap.size w w') : AtB w' a n := h.imp id fun ⟨b, off, e, hc⟩ => ⟨b, off, e, fun i hi => by obtain ⟨x, h0, h1, h2⟩ := hc i hi; exact ⟨x, h0, h1, cell_later hb h2⟩⟩
/-- Bytes elsewhere than the cursor stand. -/
theorem AtB.grown (h : AtB w a n) (hg : w.grownBy w' (Option.some C)) (hne : 0 < n → ∀ b off, a = Option.some ⟨b, off, none⟩ → b ≠ C) : AtB w' a n := h.imp id fun ⟨b, off, e, hc⟩ => ⟨b, off, e, fun i hi => by
  obtain ⟨x, h0, h1, h2⟩ := hc i hi
  exact ⟨x, h0, h1, hg.cell h2 (fun e' => hne (by omega) b off e (by simpa using e'))⟩⟩
end

set_option maxHeartbeats 1000000 in
theorem next_any (C : Nat) (a : Option Addr) (n c M : Nat) (w : World) (hn : n ≤ 9223372036854775807) (hM : M ≤ 1000000000) (ha : AtB w a n) (hC : Cur w C a n c M) :
    Calls Try.prog 132 #[.pointer (some ⟨C, 0, none⟩)] w fun e w' => ∃ x : Int, 0 ≤ x ∧ x ≤ 255 ∧ e = .returned (.int .i64 x) ∧ Cur w' C a n c (M + 1) ∧ w.grownBy w' (some C) := by
  obtain ⟨k, s, hc, hk, hs0, hs1⟩ := hC
  have c0 : w.cell? ⟨C, 0, none⟩ = some (.slice a n c) := by rw [cell_of_row w _ 0 _ _ (0, 0) hc]; rfl
  have c1 : w.cell? ⟨C, 1, none⟩ = some (.int .i64 k) := by rw [cell_of_row w _ 1 _ _ (0, 0) hc]; rfl
  have c2 : w.cell? ⟨C, 2, none⟩ = some (.int .u64 s) := by rw [cell_of_row w _ 2 _ _ (0, 0) hc]; rfl
  have f1 : w.frozen? ⟨C, 1, none⟩ = false := frozen_of_row w _ 1 _ _ hc
  have f2 : w.frozen? ⟨C, 2, none⟩ = false := frozen_of_row w _ 2 _ _ hc
  by_cases hlt : k < n
  · rcases ha with h0 | ⟨b, off, rfl, hb⟩
    · omega
    obtain ⟨x, hx0, hx1, hx⟩ := hb k hlt
    have hki : (k : Int) < (n : Int) := by omega
    clear hb
    go_enter Try.func132, Try.ntmps132
    go_wp2
    go_quiet (fail)
    obtain ⟨w1, h1⟩ : ∃ x, x = w.drewN nq := ⟨_, rfl⟩
    have b1 : Below w.heap.size w w1 := by rw [h1]; exact below_drewN (Below.refl _ _) _
    replace hc := (b1.block C (Array.getElem?_eq_some_iff.1 hc).1).trans hc
    replace f1 := frozen_later b1 c1 f1
    replace f2 := frozen_later b1 c2 f2
    replace c0 := cell_later b1 c0
    replace c1 := cell_later b1 c1
    replace c2 := cell_later b1 c2
    replace hx := cell_later b1 hx
    rw [← h1]
    clear h1
    go_wp2
    go_quiet (fail)
    obtain ⟨w2, h2⟩ : ∃ x, x = w1.drewN nq := ⟨_, rfl⟩
    have b2 : Below w1.heap.size w1 w2 := by rw [h2]; exact below_drewN (Below.refl _ _) _
    replace hc := (b2.block C (Array.getElem?_eq_some_iff.1 hc).1).trans hc
    replace f1 := frozen_later b2 c1 f1
    replace f2 := frozen_later b2 c2 f2
    replace c0 := cell_later b2 c0
    replace c1 := cell_later b2 c1
    replace c2 := cell_later b2 c2
    rw [← h2]
    clear h2 hx
    go_wp2
    obtain ⟨S, hS⟩ : ∃ S, S = IntKind.u64.wrap (IntKind.u64.wrap (IntKind.u64.wrap (s * 6364136223846793005) + x) + 1442695040888963407) := ⟨_, rfl⟩
    rw [← hS]
    have hS' : 0 ≤ S ∧ S < 18446744073709551616 := by rw [hS]; exact wrap_u64 _
    clear hS
    obtain ⟨W, hW⟩ : ∃ W, W = (w2.setCell ⟨C, 1, none⟩ (.int .i64 ((k : Int) + 1))).setCell ⟨C, 2, none⟩ (.int .u64 S) := ⟨_, rfl⟩
    rw [← hW]
    have hg : w.grownBy W (some C) := by rw [hW]; exact grown_trans (Below.toGrown (b1.trans (b2.mono b1.size)) _) (grown_trans (setCell_grown _ ⟨C, 1, none⟩ _) (setCell_grown _ ⟨C, 2, none⟩ _))
    have hq : W.heap[C]? = some (.cells #[.slice (some ⟨b, off, none⟩) n c, .int .i64 ((k + 1 : Nat) : Int), .int .u64 S] 91 (0, 0)) := by
      rw [hW, heap_setCell_same _ C 2 _ _ _ (heap_setCell_same _ C 1 _ _ _ hc)]
      simp
    clear hW c0 c1 c2 f1 f2 hc
    have d0 : W.cell? ⟨C, 0, none⟩ = some (.slice (some ⟨b, off, none⟩) n c) := by rw [cell_of_row W _ 0 _ _ (0, 0) hq]; rfl
    have d1 : W.cell? ⟨C, 1, none⟩ = some (.int .i64 ((k : Int) + 1)) := by rw [cell_of_row W _ 1 _ _ (0, 0) hq]; simp
    have d2 : W.cell? ⟨C, 2, none⟩ = some (.int .u64 S) := by rw [cell_of_row W _ 2 _ _ (0, 0) hq]; rfl
    have hle : decide ((k : Int) + 1 ≤ (n : Int)) = true := by simp; omega
    go_quiet (fail)
    obtain ⟨w3, h3⟩ : ∃ x, x = W.drewN nq := ⟨_, rfl⟩
    have b3 : Below W.heap.size W w3 := by rw [h3]; exact below_drewN (Below.refl _ _) _
    have HCU : Hid (Cur w3 C (some ⟨b, off, none⟩) n c (M + 1)) := Cur.below (w := W) ⟨k + 1, S, hq, by omega, hS'.1, hS'.2⟩ b3
    have HGR : Hid (w.grownBy w3 (some C)) := grown_trans hg (Below.toGrown b3 _)
    replace d2 := cell_later b3 d2
    rw [← h3]
    clear h3
    go_wp2
    go_ret
    exact ⟨x, hx0, hx1, rfl, HCU.out, HGR.out⟩
  · have hki : ¬ (k : Int) < (n : Int) := by omega
    clear ha
    go_enter Try.func132, Try.ntmps132
    go_wp2
    go_quiet (fail)
    obtain ⟨w1, h1⟩ : ∃ x, x = w.drewN nq := ⟨_, rfl⟩
    have b1 : Below w.heap.size w w1 := by rw [h1]; exact below_drewN (Below.refl _ _) _
    replace hc := (b1.block C (Array.getElem?_eq_some_iff.1 hc).1).trans hc
    replace f1 := frozen_later b1 c1 f1
    replace f2 := frozen_later b1 c2 f2
    replace c0 := cell_later b1 c0
    replace c1 := cell_later b1 c1
    replace c2 := cell_later b1 c2
    rw [← h1]
    clear h1
    go_wp2
    obtain ⟨S, hS⟩ : ∃ S, S = IntKind.u64.wrap (IntKind.u64.wrap (IntKind.u64.wrap (s * 6364136223846793005)) + 1442695040888963407) := ⟨_, rfl⟩
    rw [← hS]
    have hS' : 0 ≤ S ∧ S < 18446744073709551616 := by rw [hS]; exact wrap_u64 _
    clear hS
    obtain ⟨W, hW⟩ : ∃ W, W = (w1.setCell ⟨C, 1, none⟩ (.int .i64 ((k : Int) + 1))).setCell ⟨C, 2, none⟩ (.int .u64 S) := ⟨_, rfl⟩
    rw [← hW]
    have hg : w.grownBy W (some C) := by rw [hW]; exact grown_trans (Below.toGrown b1 _) (grown_trans (setCell_grown _ ⟨C, 1, none⟩ _) (setCell_grown _ ⟨C, 2, none⟩ _))
    have hq : W.heap[C]? = some (.cells #[.slice a n c, .int .i64 ((k + 1 : Nat) : Int), .int .u64 S] 91 (0, 0)) := by
      rw [hW, heap_setCell_same _ C 2 _ _ _ (heap_setCell_same _ C 1 _ _ _ hc)]
      simp
    clear hW c0 c1 c2 f1 f2 hc
    have d0 : W.cell? ⟨C, 0, none⟩ = some (.slice a n c) := by rw [cell_of_row W _ 0 _ _ (0, 0) hq]; rfl
    have d1 : W.cell? ⟨C, 1, none⟩ = some (.int .i64 ((k : Int) + 1)) := by rw [cell_of_row W _ 1 _ _ (0, 0) hq]; simp
    have d2 : W.cell? ⟨C, 2, none⟩ = some (.int .u64 S) := by rw [cell_of_row W _ 2 _ _ (0, 0) hq]; rfl
    have hle : decide ((k : Int) + 1 ≤ (n : Int)) = false := by simp; omega
    go_quiet (fail)
    obtain ⟨w3, h3⟩ : ∃ x, x = W.drewN nq := ⟨_, rfl⟩
    have b3 : Below W.heap.size W w3 := by rw [h3]; exact below_drewN (Below.refl _ _) _
    have HCU : Hid (Cur w3 C a n c (M + 1)) := Cur.below (w := W) ⟨k + 1, S, hq, by omega, hS'.1, hS'.2⟩ b3
    have HGR : Hid (w.grownBy w3 (some C)) := grown_trans hg (Below.toGrown b3 _)
    replace d2 := cell_later b3 d2
    rw [← h3]
    clear h3
    go_wp2
    have h255 := and255 (S / 1099511627776)
    have hwr : Go.RowKit.wrap64 (bits .and .u64 (S / 1099511627776) 255) = bits .and .u64 (S / 1099511627776) 255 := by unfold Go.RowKit.wrap64; omega
    rw [hwr]
    go_ret
    exact ⟨_, h255.1, h255.2, rfl, HCU.out, HGR.out⟩

end Go.Proofs.Ytlfljfmhhnoinab

/- What the model's cursor draws: pick, one, among, few, cell. -/
namespace Go.Proofs.Ytlfljfmhhnoinab
open Go.RowKit

/-- A cursor that can draw: its bytes lie elsewhere. -/
def Drw (w : World) (C : Nat) (a : Option Addr) (n c M : Nat) : Prop := AtB w a n ∧ (0 < n → ∀ b off, a = some ⟨b, off, none⟩ → b ≠ C) ∧ n ≤ 9223372036854775807 ∧ Cur w C a n c M
section
variable {w w' w'' : World} {C : Nat} {a : Option Addr} {n c M : Nat}
theorem Drw.lt (h : Drw w C a n c M) : C < w.heap.size := h.2.2.2.lt
theorem Drw.mono {M' : Nat} (h : Drw w C a n c M) (hM : M ≤ M') : Drw w C a n c M' := ⟨h.1, h.2.1, h.2.2.1, h.2.2.2.mono hM⟩
theorem Drw.below (h : Drw w C a n c M) (hb : Below w.heap.size w w') : Drw w' C a n c M := ⟨h.1.below hb, h.2.1, h.2.2.1, h.2.2.2.below hb⟩
theorem grown_below (hg : w.grownBy w' (some C)) (hb : Below w'.heap.size w' w'') : w.grownBy w'' (some C) := grown_trans hg (Below.toGrown hb _)
end

theorem emod_parts {z q : Int} (h0 : 0 ≤ z) (hq : 1 < q) : 0 ≤ z % q ∧ z % q < q ∧ z % q ≤ z := by
  have h1 : 0 ≤ z % q := Int.emod_nonneg _ (by omega)
  have h2 : z % q < q := Int.emod_lt_of_pos _ (by omega)
  refine ⟨h1, h2, ?_⟩
  by_cases h : z < q
  · rw [Int.emod_eq_of_lt h0 h]; omega
  · omega
theorem next_drw (C : Nat) (a : Option Addr) (n c M : Nat) (w : World) (hM : M ≤ 1000000000) (h : Drw w C a n c M) :
    Calls Try.prog 132 #[.pointer (some ⟨C, 0, none⟩)] w fun e w' => ∃ x : Int, 0 ≤ x ∧ x ≤ 255 ∧ e = .returned (.int .i64 x) ∧ Drw w' C a n c (M + 1) ∧ w.grownBy w' (some C) :=
  (next_any C a n c M w h.2.2.1 hM h.1 h.2.2.2).mono fun _ _ ⟨x, h0, h1, h2, h3, h4⟩ => ⟨x, h0, h1, h2, ⟨h.1.grown h4 h.2.1, h.2.1, h.2.2.1, h3⟩, h4⟩

set_option maxHeartbeats 1000000 in
theorem pick_drw (q : Int) (C : Nat) (a : Option Addr) (n c M : Nat) (w : World) (hM : M ≤ 900000000) (h : Drw w C a n c M) (hq : q ≤ 9223372036854775807) (hq' : -9223372036854775808 ≤ q) :
    Calls Try.prog 102 #[.pointer (some ⟨C, 0, none⟩), .int .i64 q] w fun e w' => ∃ x : Int, 0 ≤ x ∧ x ≤ 65535 ∧ (x = 0 ∨ x < q) ∧ e = .returned (.int .i64 x) ∧ Drw w' C a n c (M + 2) ∧ w.grownBy w' (some C) := by
  have H := Hid.mk h
  clear h
  by_cases h1 : q ≤ 1
  · go_enter Try.func102, Try.ntmps102
    go_wp2
    go_ret
    exact ⟨0, by omega, by omega, .inl rfl, rfl, H.out.mono (by omega), World.grownBy.refl _ _⟩
  · have hq1 : ¬ q ≤ 1 := h1
    by_cases h2 : 200 < q
    · go_enter Try.func102, Try.ntmps102
      go_wp2_with fail
      refine (next_drw C a n c M w (by omega) H.out).mono ?_
      rintro e w1 ⟨x, hx0, hx1, rfl, hd1, hg1⟩
      have H1 := Hid.mk hd1
      have G1 := Hid.mk hg1
      clear hd1 hg1 H
      go_wp2_with fail
      refine (next_drw C a n c (M + 1) w1 (by omega) H1.out).mono ?_
      rintro e w2 ⟨y, hy0, hy1, rfl, hd2, hg2⟩
      have H2 := Hid.mk hd2
      have G2 := Hid.mk (grown_trans G1.out hg2)
      clear hd2 hg2 H1 G1
      have hm := emod_parts (z := x * 256 + y) (q := q) (by omega) (by omega)
      have HM := Hid.mk hm
      clear hm
      go_wp2
      go_ret
      exact ⟨_, HM.out.1, by have := HM.out.2.2; omega, .inr HM.out.2.1, rfl, H2.out, G2.out⟩
    · go_enter Try.func102, Try.ntmps102
      go_wp2_with fail
      refine (next_drw C a n c M w (by omega) H.out).mono ?_
      rintro e w1 ⟨x, hx0, hx1, rfl, hd1, hg1⟩
      have H1 := Hid.mk hd1
      have G1 := Hid.mk hg1
      have HM := Hid.mk (emod_parts (z := x) (q := q) (by omega) (by omega))
      clear hd1 hg1 H
      go_wp2
      go_ret
      exact ⟨_, HM.out.1, by have := HM.out.2.2; omega, .inr HM.out.2.1, rfl, H1.out.mono (by omega), G1.out⟩

theorem one_drw (q : Int) (C : Nat) (a : Option Addr) (n c M : Nat) (w : World) (hM : M ≤ 900000000) (h : Drw w C a n c M) (hq : q ≤ 9223372036854775807) (hq' : -9223372036854775808 ≤ q) :
    Calls Try.prog 103 #[.pointer (some ⟨C, 0, none⟩), .int .i64 q] w fun e w' => ∃ b : Bool, e = .returned (.bool b) ∧ Drw w' C a n c (M + 2) ∧ w.grownBy w' (some C) := by
  have H := Hid.mk h
  clear h
  go_enter Try.func103, Try.ntmps103
  go_wp2_with fail
  refine (pick_drw q C a n c M w hM H.out hq hq').mono ?_
  rintro e w1 ⟨x, _, _, _, rfl, hd1, hg1⟩
  have H1 := Hid.mk hd1
  have G1 := Hid.mk hg1
  clear hd1 hg1 H
  go_wp2
  go_ret
  exact ⟨_, rfl, H1.out, G1.out⟩

set_option maxHeartbeats 1000000 in
theorem among_drw (l : Option Addr) (m d : Nat) (zs : List Int) (C : Nat) (a : Option Addr) (n c M : Nat) (w : World) (hM : M ≤ 900000000) (h : Drw w C a n c M) (hz : zs.length = m) (h0 : 0 < m) (hm : m ≤ 1000000) (hl : At w l zs) (hne : ∀ b off, l = some ⟨b, off, none⟩ → b ≠ C) :
    Calls Try.prog 104 #[.pointer (some ⟨C, 0, none⟩), .slice l m d] w fun e w' => ∃ x ∈ zs, e = .returned (.int .i64 x) ∧ Drw w' C a n c (M + 2) ∧ w.grownBy w' (some C) := by
  have H := Hid.mk h
  clear h
  obtain ⟨b, off, rfl, _, hc⟩ := hl.some (by omega)
  have HC := Hid.mk hc
  have hb := hne b off rfl
  clear hc hne hl
  go_enter Try.func104, Try.ntmps104
  go_wp2_with fail
  refine (pick_drw m C a n c M w hM H.out (by omega) (by omega)).mono ?_
  rintro e w1 ⟨x, hx0, _, hx1, rfl, hd1, hg1⟩
  obtain ⟨k, rfl⟩ : ∃ k : Nat, x = k := ⟨x.toNat, by omega⟩
  have hk : k < m := by omega
  have hki : (k : Int) < (m : Int) := by omega
  have hcx := hg1.cell (HC.out k (by omega)) (fun e => hb (by simpa using e))
  have HIN : Hid (zs.getD k 0 ∈ zs) := by
    show _ ∈ _
    have : k < zs.length := by omega
    simp [List.getD, this]
  obtain ⟨v, hv⟩ : ∃ v, v = zs.getD k 0 := ⟨_, rfl⟩
  rw [← hv] at hcx HIN
  clear hv
  have H1 := Hid.mk hd1
  have G1 := Hid.mk hg1
  clear hd1 hg1 H HC
  go_wp2
  go_ret
  exact ⟨_, HIN.out, rfl, H1.out, G1.out⟩

theorem few_drw (C : Nat) (a : Option Addr) (n c M : Nat) (w : World) (hM : M ≤ 900000000) (h : Drw w C a n c M) :
    Calls Try.prog 53 #[.pointer (some ⟨C, 0, none⟩)] w fun e w' => ∃ x : Nat, 1 ≤ x ∧ x ≤ 3 ∧ e = .returned (.int .i64 x) ∧ Drw w' C a n c (M + 2) ∧ w.grownBy w' (some C) := by
  have H := Hid.mk h
  clear h
  go_enter Try.func53, Try.ntmps53
  go_wp2_with fail
  refine (pick_drw 3 C a n c M w hM H.out (by omega) (by omega)).mono ?_
  rintro e w1 ⟨x, hx0, _, hx1, rfl, hd1, hg1⟩
  have H1 := Hid.mk hd1
  have G1 := Hid.mk hg1
  clear hd1 hg1 H
  go_wp2
  go_ret
  exact ⟨(1 + x).toNat, by omega, by omega, ret_int (by omega), H1.out, G1.out⟩

set_option maxHeartbeats 1000000 in
theorem cell_drw (C : Nat) (a : Option Addr) (n c M : Nat) (w : World) (hM : M ≤ 800000000) (h : Drw w C a n c M) :
    Calls Try.prog 133 #[.pointer (some ⟨C, 0, none⟩)] w fun e w' => ∃ x : Int, -100001 ≤ x ∧ x ≤ 100001 ∧ e = .returned (.int .i64 x) ∧ Drw w' C a n c (M + 4) ∧ w.grownBy w' (some C) := by
  have H := Hid.mk h
  clear h
  go_enter Try.func133, Try.ntmps133
  go_wp2_with fail
  refine (one_drw 30 C a n c M w (by omega) H.out (by omega) (by omega)).mono ?_
  rintro e w1 ⟨bl, rfl, hd1, hg1⟩
  have H1 := Hid.mk hd1
  have G1 := Hid.mk hg1
  have z1 := hd1.lt
  clear hd1 hg1 H
  cases bl with
  | true =>
    obtain ⟨V, hV⟩ : ∃ V, V = w1.alloc (.cells #[.int .i64 (-100000), .int .i64 100000, .int .i64 (-1), .int .i64 (-100001), .int .i64 100001] 3) := ⟨_, rfl⟩
    have hbV : Below w1.heap.size w1 V := by rw [hV]; exact (Below.refl _ _).alloc (Nat.le_refl _) _
    have hq : V.heap[w1.heap.size]? = some (.cells #[.int .i64 (-100000), .int .i64 100000, .int .i64 (-1), .int .i64 (-100001), .int .i64 100001] 3 (0, 0)) := by rw [hV]; exact heap_alloc_new w1 _
    have HAT : Hid (At V (some ⟨w1.heap.size, 0, none⟩) [-100000, 100000, -1, -100001, 100001]) := .inr ⟨_, _, rfl, fun i hi => by
      rw [Nat.zero_add, cell_of_row V _ i _ _ (0, 0) hq]
      match i, hi with
      | 0, _ => rfl
      | 1, _ => rfl
      | 2, _ => rfl
      | 3, _ => rfl
      | 4, _ => rfl⟩
    go_wp2_with fail
    rw [← hV]
    clear hV hq
    refine (among_drw _ 5 5 [-100000, 100000, -1, -100001, 100001] C a n c (M + 2) V (by omega) (H1.out.below hbV) rfl (by omega) (by omega) HAT.out (fun b off e => by cases e; omega)).mono ?_
    rintro e w2 ⟨x, hx, rfl, hd2, hg2⟩
    have H2 := Hid.mk hd2
    have G2 := Hid.mk (grown_trans (grown_below G1.out hbV) hg2)
    have hxx : -100001 ≤ x ∧ x ≤ 100001 := by simp at hx; omega
    clear hd2 hg2 H1 G1 hx
    go_wp2
    go_ret
    exact ⟨x, hxx.1, hxx.2, rfl, H2.out, G2.out⟩
  | false =>
    go_wp2_with fail
    refine (pick_drw 4 C a n c (M + 2) w1 (by omega) H1.out (by omega) (by omega)).mono ?_
    rintro e w2 ⟨x, hx0, _, hx1, rfl, hd2, hg2⟩
    have H2 := Hid.mk hd2
    have G2 := Hid.mk (grown_trans G1.out hg2)
    clear hd2 hg2 H1 G1
    go_wp2
    go_ret
    exact ⟨x, by omega, by omega, rfl, H2.out, G2.out⟩

end Go.Proofs.Ytlfljfmhhnoinab

/- Contracts of the laws' helpers over slices of ints: szIntS, toIntS, eqIntS. -/
namespace Go.Proofs.Ytlfljfmhhnoinab
open Go.RowKit

theorem Try.infoInt : (Try.prog.info? 3).map (fun i => (i.zero, i.size, i.bytes)) = some (some (.int .i64 0), 1, 8) := by kernel_rfl

end Go.Proofs.Ytlfljfmhhnoinab

/- Contracts of the laws' helpers over rows: szRow, toRow, eqRow. -/
namespace Go.Proofs.Ytlfljfmhhnoinab
open Go.RowKit

end Go.Proofs.Ytlfljfmhhnoinab
