/- Contracts of slices.Index, slices.Contains, slices.Clone at tellings. -/
import Derived.Test.YtjmgjmhoofbpjabDoorCovQ
namespace Go.Proofs.YtjmgjmhoofbpjabDoor
open Go.RowKit

set_option maxRecDepth 100000 in
set_option maxHeartbeats 2000000 in
theorem indexT_any (a : Option Addr) (n c : Nat) (M : List (Nat × Nat)) (F D : Nat) (w : World) (hz : M.length = n) (hn : n ≤ 9223372036854775807) (ha : AtT w a M) :
    Calls Tryd.prog 44 #[.slice a n c, .agg #[.int .u64 (F : Nat), .int .u64 (D : Nat)]] w fun e w' => (∃ i : Int, e = .returned (.int .i64 i) ∧ decide (0 ≤ i) = decide ((F, D) ∈ M)) ∧ Below w.heap.size w w' := by
  obtain ⟨W, hW⟩ : ∃ W, W = w.alloc (.cells #[.int .u64 (F : Nat), .int .u64 (D : Nat)] 46) := ⟨_, rfl⟩
  have B0 : Below w.heap.size w W := by rw [hW]; exact (Below.refl _ _).alloc (Nat.le_refl _) _
  have q0 : W.cell? ⟨w.heap.size, 0, none⟩ = some (.int .u64 (F : Nat)) := by rw [hW]; simp
  have q1 : W.cell? ⟨w.heap.size, 1, none⟩ = some (.int .u64 (D : Nat)) := by rw [hW]; simp
  have zW : w.heap.size < W.heap.size := by rw [hW]; simp
  have HA := Hid.mk (AtSl.below ha B0)
  clear ha
  go_enter Tryd.func44, Tryd.ntmps44
  go_wp2_with fail
  rw [← hW]
  clear hW
  go_loopw [8] (fun i wr => ∃ (k : Nat), k ≤ n ∧ i = .int .i64 k ∧ (¬ (F, D) ∈ M.take k) ∧ Below W.heap.size W wr) (fun i _ => n - (intOf i).toNat)
  case atStart => exact ⟨0, Nat.zero_le _, rfl, by simp, Below.refl _ _⟩
  case round =>
    obtain ⟨k, hk, rfl, ht, hbw⟩ := hrel
    by_cases hlt : k < n
    · obtain ⟨b, off, rfl, _, hc⟩ := AtT.row (AtSl.below HA.out hbw) (by omega)
      obtain ⟨x, hx⟩ : ∃ x, M[k]? = some x := ⟨_, List.getElem?_eq_getElem (by omega)⟩
      obtain ⟨g0, g1⟩ := hc k x hx
      have q0 := cell_later hbw q0
      have q1 := cell_later hbw q1
      obtain ⟨F', hF⟩ : ∃ F, x.1 = F := ⟨_, rfl⟩
      obtain ⟨D', hD⟩ : ∃ D, x.2 = D := ⟨_, rfl⟩
      rw [hF] at g0
      rw [hD] at g1
      have hki : (k : Int) < (n : Int) := by omega
      have HX := Hid.mk hx
      have HE : Hid (x = (F', D')) := by show _ = _; rw [← hF, ← hD]
      have HT := Hid.mk ht
      have HB := Hid.mk hbw
      clear hc hx hF hD ht hbw
      have hE : (((F : Int) == (F' : Int)) && ((D : Int) == (D' : Int))) = decide ((F, D) = (F', D')) := by
        by_cases h1 : F = F' <;> by_cases h2 : D = D' <;> simp [h1, h2] <;> omega
      have hq := fun w => eqTell F D F' D' w
      simp only [hE] at hq
      clear hE
      by_cases he : (F, D) = (F', D')
      · rw [decide_eq_true he] at hq
        have HI : Hid ((F, D) ∈ M) := by show _ ∈ _; rw [he, ← HE.out]; exact List.mem_of_getElem? HX.out
        clear he
        go_wp2
        go_quiet (fail)
        go_wp2
        go_ret
        exact ⟨⟨k, rfl, by rw [decide_eq_true HI.out]; exact decide_eq_true (by omega)⟩, B0.trans (below_drewN HB.out _ |>.mono B0.size)⟩
      · rw [decide_eq_false he] at hq
        have HN : Hid (¬ (F, D) ∈ M.take (k + 1)) := by
          show ¬ _
          obtain ⟨hk', hx'⟩ := List.getElem?_eq_some_iff.1 HX.out
          rw [List.take_succ_eq_append_getElem hk', hx', HE.out]
          simp only [List.mem_append, List.mem_singleton, not_or]
          exact ⟨HT.out, he⟩
        clear he
        go_wp2
        go_quiet (fail)
        go_wp2
        go_roundw
        case rel => exact ⟨k + 1, by omega, by go_num, HN.out, below_drewN HB.out _⟩
        case measure => simp [intOf]; omega
    · rw [List.take_of_length_le (by omega)] at ht
      have HT := Hid.mk ht
      clear ht
      go_wp2
      go_ret
      exact ⟨⟨-1, rfl, by rw [decide_eq_false HT.out]; rfl⟩, B0.trans (hbw.mono B0.size)⟩

theorem containsT_any (a : Option Addr) (n c : Nat) (M : List (Nat × Nat)) (F D : Nat) (w : World) (hz : M.length = n) (hn : n ≤ 9223372036854775807) (ha : AtT w a M) :
    Calls Tryd.prog 35 #[.slice a n c, .agg #[.int .u64 (F : Nat), .int .u64 (D : Nat)]] w fun e w' => e = .returned (.bool (decide ((F, D) ∈ M))) ∧ Below w.heap.size w w' := by
  obtain ⟨W, hW⟩ : ∃ W, W = w.alloc (.cells #[.int .u64 (F : Nat), .int .u64 (D : Nat)] 46) := ⟨_, rfl⟩
  have B0 : Below w.heap.size w W := by rw [hW]; exact (Below.refl _ _).alloc (Nat.le_refl _) _
  have K := Hid.mk (indexT_any a n c M F D W hz hn (AtSl.below ha B0))
  clear ha
  go_enter Tryd.func35, Tryd.ntmps35
  go_wp2_with fail
  rw [← hW]
  clear hW
  refine K.out.mono ?_
  rintro e w1 ⟨⟨i, rfl, hi⟩, hb1⟩
  have HB := Hid.mk (B0.trans (hb1.mono B0.size))
  have HI := Hid.mk hi
  clear hb1 hi B0 K
  by_cases h0 : 0 ≤ i
  · go_wp2
    go_ret
    exact ⟨by rw [← HI.out, decide_eq_true h0]; rfl, HB.out⟩
  · have h0' : decide (0 ≤ i) = false := decide_eq_false h0
    go_wp2
    go_ret
    exact ⟨by rw [← HI.out, h0']; rfl, HB.out⟩

/-- Tellings that the call made. -/
abbrev OwnTl (w : World) (lo : Nat) (r : Option Addr) (n d : Nat) (M : List (Nat × Nat)) : Prop := w.ownsRow lo 46 2 (.slice r n d) n (flatT M)
theorem AtT.cells {w : World} {b off : Nat} {M : List (Nat × Nat)} (h : AtT w (some ⟨b, off, none⟩) M) : ∀ j u, (flatT M)[j]? = some u → w.cell? ((⟨b, off, none⟩ : Addr).add j) = some u := fun j u hj => by
  have hl : j < M.length * 2 := by rw [← flatT_len]; exact (List.getElem?_eq_some_iff.1 hj).1
  obtain ⟨b', off', e, _, hc⟩ := AtT.row h (by omega)
  simp only [Option.some.injEq, Addr.mk.injEq, and_true] at e
  obtain ⟨rfl, rfl⟩ := e
  have hk : j / 2 < M.length := by omega
  obtain ⟨g0, g1⟩ := hc (j / 2) _ (List.getElem?_eq_getElem hk)
  obtain ⟨e0, e1⟩ := flatT_at M (j / 2) _ (List.getElem?_eq_getElem hk)
  rw [Addr.add_lit]
  have hm : j % 2 = 0 ∨ j % 2 = 1 := by omega
  rcases hm with hm | hm
  · rw [show j / 2 * 2 = j by omega] at e0 g0
    rw [hj] at e0
    rw [g0, Option.some.inj e0]
  · rw [show j / 2 * 2 + 1 = j by omega] at e1
    rw [show off + j / 2 * 2 + 1 = off + j by omega] at g1
    rw [hj] at e1
    rw [g1, Option.some.inj e1]
theorem flatT_one {M : List (Nat × Nat)} : ∀ u ∈ flatT M, u.oneCell' = true := fun u hu => by
  unfold flatT at hu
  obtain ⟨d, _, hd⟩ := List.mem_flatMap.1 hu
  simp at hd
  rcases hd with rfl | rfl <;> rfl

theorem eqNil (a : Option Addr) (n c : Nat) (w : World) : (binOp .eql 40 (.slice a n c) (.slice none 0 0)).run Tryd.prog w = .ok (.bool a.isNone) w := by
  have he : (Op.equalIn (9999 + 1) 40 (.slice a n c) (.slice none 0 0)).run Tryd.prog w = .ok a.isNone w := by
    unfold Op.equalIn
    simp only [Sem.run_bind, run_underlying Tryd.underlying40, Result.andThen_ok]
    cases a <;> rfl
  have he' : (Op.equal 40 (.slice a n c) (.slice none 0 0)).run Tryd.prog w = .ok a.isNone w := he
  simp only [binOp]
  rw [Sem.run_bind, he']
  rfl

set_option maxRecDepth 100000 in
set_option maxHeartbeats 2000000 in
theorem cloneT_any (a : Option Addr) (n c : Nat) (M : List (Nat × Nat)) (w : World) (hz : M.length = n) (hn : n ≤ 1048576) (hF : a = none → c = 0) (ha : AtT w a M) (ha2 : ∀ ad, a = some ad → ∃ b off, ad = ⟨b, off, none⟩) :
    Calls Tryd.prog 31 #[.slice a n c] w fun e w' => ∃ r d, e = .returned (.slice r n d) ∧ OwnTl w' w.heap.size r n d M ∧ Below w.heap.size w w' := by
  obtain ⟨i0, hi, hz0, hz1, hz2⟩ := info_parts Tryd.infoTelling
  cases a with
  | none =>
    have hc0 := hF rfl
    subst hc0
    have hM : M = [] := by rcases ha with h | ⟨b, off, h, _⟩; exact h; cases h
    subst hM
    have hn0 : 0 = n := hz
    subst hn0
    have hq := fun w => eqNil none 0 0 w
    go_enter Tryd.func31, Tryd.ntmps31
    go_wp2
    go_ret
    exact ⟨none, 0, rfl, World.ownsRow_nil _ _ _ _, Below.refl _ _⟩
  | some ad =>
    obtain ⟨b, off, rfl⟩ := ha2 ad rfl
    have OE := Hid.mk (owns_void w 46 2)
    have HC := Hid.mk (AtT.cells (AtSl.below ha ((Below.refl _ _).alloc (Nat.le_refl _) (.cells #[] 46))))
    have HL : Hid ((flatT M).length = n * 2) := by show _ = _; rw [flatT_len, hz]
    clear ha ha2 hF
    have hq := fun w => eqNil (some ⟨b, off, none⟩) n c w
    go_enter Tryd.func31, Tryd.ntmps31
    go_wp2_with (at_builtin; refine wpList_append_own _ rfl (.tmp 5) (.tmp 6) 40 rfl w.heap.size 46 i0 (.agg #[.int .u64 0, .int .u64 0]) 2 16 Tryd.underlying40 hi hz0 hz1 hz2 rfl (by decide) _ _ _ rfl OE.out ⟨b, off, none⟩ n c (flatT M) rfl HL.out HC.out flatT_one (by unfold maxLen; omega) (by omega) (by simp) ?_)
    intro v' w1 ho hg _
    obtain ⟨r, cap, rfl⟩ := owns_slice ho
    have HO : Hid (OwnTl w1 w.heap.size r n cap M) := by
      exact ho
    have HB : Hid (Below w.heap.size w w1) := ((Below.refl _ _).alloc (Nat.le_refl _) _).grown hg (by simp) (fun j hj => by simp [Value.ownBlock] at hj; omega)
    clear ho hg
    go_wp2
    go_ret
    exact ⟨r, cap, rfl, HO.out, HB.out⟩

end Go.Proofs.YtjmgjmhoofbpjabDoor
