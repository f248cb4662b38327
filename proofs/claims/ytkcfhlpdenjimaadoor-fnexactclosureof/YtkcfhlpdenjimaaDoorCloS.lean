/- Contracts of tellingsOf and goodDepend. -/
import Derived.Test.YtkcfhlpdenjimaaDoorCloT
import Derived.Test.YtkcfhlpdenjimaaDoorDepI
namespace Go.Proofs.YtkcfhlpdenjimaaDoor
open Go.RowKit

def flatT (l : List (Nat × Nat)) : List Value := l.flatMap fun d => [.int .u64 (d.1 : Int), .int .u64 (d.2 : Int)]
theorem flatT_len (l : List (Nat × Nat)) : (flatT l).length = l.length * 2 := by
  induction l with
  | nil => rfl
  | cons x l ih => simp only [flatT, List.flatMap_cons, List.length_append] at ih ⊢; rw [ih]; simp; omega
theorem flatT_push (l : List (Nat × Nat)) (x : Nat × Nat) : flatT (l ++ [x]) = flatT l ++ [.int .u64 (x.1 : Int), .int .u64 (x.2 : Int)] := by simp [flatT]
theorem flatT_at : ∀ (l : List (Nat × Nat)) (i : Nat) (x : Nat × Nat), l[i]? = some x → (flatT l)[i * 2]? = some (.int .u64 (x.1 : Int)) ∧ (flatT l)[i * 2 + 1]? = some (.int .u64 (x.2 : Int))
  | y :: l, 0, x, h => by
    simp at h
    subst h
    simp [flatT]
  | y :: l, i + 1, x, h => by
    have ih := flatT_at l i x (by simpa using h)
    have e : flatT (y :: l) = .int .u64 (y.1 : Int) :: .int .u64 (y.2 : Int) :: flatT l := rfl
    rw [e, show (i + 1) * 2 = i * 2 + 1 + 1 by omega]
    simpa using ih
theorem AtT.of_owns {w : World} {base : Nat} {r : Option Addr} {n d : Nat} {l : List (Nat × Nat)} (h : w.ownsRow base 92 2 (.slice r n d) n (flatT l)) (hn : l.length = n) : AtT w r l := by
  rcases h.2 with ⟨hv, h0⟩ | ⟨g, cap, cur, hv, _⟩
  · left
    exact List.eq_nil_of_length_eq_zero (by omega)
  · simp only [Value.slice.injEq, true_and] at hv
    obtain ⟨rfl, rfl⟩ := hv
    refine .inr ⟨g, 0, rfl, fun i x hx => ?_⟩
    have hi := (List.getElem?_eq_some_iff.1 hx).1
    obtain ⟨e1, e2⟩ := flatT_at l i x hx
    refine ⟨[.int .u64 (x.1 : Int), .int .u64 (x.2 : Int)], fun j v hv => ?_, [_], [_], rfl, rfl, rfl⟩
    show w.cell? ⟨g, 0 + i * 2 + j, none⟩ = some v
    match j, hv with
    | 0, hv => obtain rfl := Option.some.inj hv; rw [show 0 + i * 2 + 0 = i * 2 by omega, h.cellAt _ (by omega)]; exact e1
    | 1, hv => obtain rfl := Option.some.inj hv; rw [show 0 + i * 2 + 1 = i * 2 + 1 by omega, h.cellAt _ (by omega)]; exact e2

theorem Tryd.infoTelling : (Tryd.prog.info? 92).map (fun i => (i.zero, i.size, i.bytes)) = some (some (.agg #[.int .u64 0, .int .u64 0]), 2, 16) := by kernel_rfl
theorem dms_take {xs : List Dep} {k : Nat} {x : Dep} (h : xs[k]? = some x) : (dms xs).take (k + 1) = (dms xs).take k ++ [dm x] := by
  obtain ⟨hk, rfl⟩ := List.getElem?_eq_some_iff.1 h
  rw [List.take_succ_eq_append_getElem (by simpa [dms] using hk)]
  simp [dms]
/-- Each number of each dependency is a column. -/
def Cols (xs : List Dep) : Prop := ∀ d ∈ xs, (∀ x ∈ d.1, 0 ≤ x ∧ x < 6) ∧ (∀ x ∈ d.2, 0 ≤ x ∧ x < 6)
theorem Cols.of {xs : List Dep} {C : Int} (h : goodDeps xs C = true) : Cols xs := by
  simp only [goodDeps, allDep, goodDep, Bool.and_eq_true, decide_eq_true_eq, List.all_eq_true] at h
  obtain ⟨_, h2, _, h4⟩ := h
  exact fun d hd => ⟨ris_in h2 (h4 d hd).1, ris_in h2 (h4 d hd).2⟩
theorem Cols.sets {xs : List Dep} (h : Cols xs) : Sets (dms xs) := by
  intro d hd
  obtain ⟨e, he, rfl⟩ := List.mem_map.1 hd
  exact ⟨mk_lt6 (h e he).1, mk_lt6 (h e he).2⟩

set_option maxRecDepth 100000 in
set_option maxHeartbeats 2000000 in
theorem tellingsOf_any (a : Option Addr) (n c : Nat) (xs : List Dep) (w : World) (hz : xs.length = n) (hn : n ≤ 1048576) (hin : Cols xs) (ha : AtD w a xs) :
    Calls Tryd.prog 40 #[.slice a n c] w fun e w' => ∃ r d, e = .returned (.slice r n d) ∧ AtT w' r (dms xs) ∧ Below w.heap.size w w' := by
  obtain ⟨i0, hi, hz0, hz1, hz2⟩ := info_parts Tryd.infoTelling
  have HIN := Hid.mk hin
  have HA := Hid.mk ha
  clear hin ha
  go_enter Tryd.func40, Tryd.ntmps40
  go_wp2
  go_loopw [3, 8] (fun p i wr => ∃ (k : Nat) (r : Option Addr) (d : Nat), k ≤ n ∧ i = .int .i64 k ∧ p = .slice r k d ∧ wr.ownsRow w.heap.size 92 2 (.slice r k d) k (flatT ((dms xs).take k)) ∧ Below w.heap.size w wr) (fun _ i _ => n - (intOf i).toNat)
  case atStart => exact ⟨0, none, 0, Nat.zero_le _, rfl, rfl, World.ownsRow_nil _ _ _ _, Below.refl _ _⟩
  case round =>
    obtain ⟨k, r, d, hk, rfl, rfl, hown, hbw⟩ := hrel
    by_cases hlt : k < n
    · obtain ⟨b, off, rfl, _, hc⟩ := AtD.row (AtSl.below HA.out hbw) (by omega)
      obtain ⟨x, hx⟩ : ∃ x, xs[k]? = some x := ⟨_, List.getElem?_eq_getElem (by omega)⟩
      obtain ⟨fa, fn, fc, ta, tn, tc, g0, g1, ⟨t1, t2, t3⟩, ⟨u1, u2, u3⟩⟩ := hc k x hx
      have hxin := HIN.out x (List.mem_of_getElem? hx)
      have hki : (k : Int) < (n : Int) := by omega
      have HT : Hid (flatT ((dms xs).take (k + 1)) = flatT ((dms xs).take k) ++ [.int .u64 (mk x.1 : Nat), .int .u64 (mk x.2 : Nat)]) := by show _ = _; rw [dms_take hx, flatT_push]; rfl
      obtain ⟨W, hW⟩ : ∃ W, W = wr.alloc (.cells #[.slice fa fn fc, .slice ta tn tc] 43) := ⟨_, rfl⟩
      have bW : Below wr.heap.size wr W := by rw [hW]; exact (Below.refl _ _).alloc (Nat.le_refl _) _
      have HC := Hid.mk (tellingOf_any fa fn fc ta tn tc x.1 x.2 W t1 t2 (At.below t3 bW) u1 u2 (At.below u3 bW) hxin.1 hxin.2)
      have HO := Hid.mk (owns_below hown bW)
      have HB := Hid.mk (hbw.trans (bW.mono hbw.size))
      obtain ⟨M, hM⟩ : ∃ M, mk x.1 = M := ⟨_, rfl⟩
      obtain ⟨N, hN⟩ : ∃ N, mk x.2 = N := ⟨_, rfl⟩
      rw [hM, hN] at HT HC
      clear hc hx t1 t3 u1 u3 hxin bW hown hbw hM hN
      go_wp2_with fail
      rw [← hW]
      clear hW
      refine HC.out.mono ?_
      rintro e w3 ⟨rfl, hb3⟩
      have HO3 := Hid.mk (owns_below HO.out hb3)
      have HB3 := Hid.mk (HB.out.trans (hb3.mono HB.out.size))
      have z3 := HB3.out.size
      clear HO HB HC hb3
      go_wp2_with (at_builtin; refine wpList_append_lies _ rfl (.tmp 12) (.tmp 15) 64 rfl w.heap.size 92 i0 (.agg #[.int .u64 0, .int .u64 0]) 2 16 Tryd.underlying64 hi hz0 hz1 hz2 rfl (by decide) _ _ _ rfl (HO3.out.alloc _) ⟨w3.heap.size, 0, none⟩ 1 1 [.int .u64 (M : Nat), .int .u64 (N : Nat)] rfl rfl (news_at w3 _ _) (by intro u hu; simp at hu; rcases hu with rfl | rfl <;> rfl) (by decide) (by unfold maxLen; omega) (by omega) (by simp; omega) (w3.heap.size + 1) (by simp) ?_)
      intro g4 cap4 w4 ho4 hg4 hat4 hlt4
      have HO4 : Hid (w4.ownsRow w.heap.size 92 2 (.slice (some ⟨g4, 0, none⟩) (k + 1) cap4) (k + 1) (flatT ((dms xs).take (k + 1)))) := by
        show World.ownsRow _ _ _ _ _ _ _
        rw [HT.out]; exact ho4
      have HB4 : Hid (Below w.heap.size w w4) := (HB3.out.alloc z3 _).grown hg4 (by simp; omega) (fun j hj => (HO3.out.lt j hj).1)
      clear ho4 hg4 hat4 HO3 HB3
      go_wp2
      go_roundw
      case rel => exact ⟨k + 1, _, _, by omega, by go_num, rfl, HO4.out, HB4.out⟩
      case measure => simp [intOf]; omega
    · obtain rfl : k = n := by omega
      have HT : Hid (AtT wr r (dms xs)) := by
        rw [List.take_of_length_le (by simp [dms]; omega)] at hown
        exact AtT.of_owns hown (by simp [dms]; exact hz)
      clear hown
      go_wp2
      go_ret
      exact ⟨r, d, rfl, HT.out, hbw⟩

theorem goodDeps_one (C : Int) (d : Dep) : goodDeps [d] C = (decide (1 ≤ C) && (decide (C ≤ 6) && goodDep C d)) := by
  unfold goodDeps allDep
  simp

set_option maxHeartbeats 1000000 in
theorem goodDepend_any (fa : Option Addr) (fn fc : Nat) (ta : Option Addr) (tn tc : Nat) (d : Dep) (C : Int) (w : World) (hd : RDep.At w [.slice fa fn fc, .slice ta tn tc] d) :
    Calls Tryd.prog 72 #[.agg #[.slice fa fn fc, .slice ta tn tc], .int .i64 C] w fun e w' => e = .returned (.bool (goodDeps [d] C)) ∧ Below w.heap.size w w' := by
  obtain ⟨W, hW⟩ : ∃ W, W = (w.alloc (.cells #[.slice fa fn fc, .slice ta tn tc] 43)).alloc (.cells #[.slice fa fn fc, .slice ta tn tc] 43) := ⟨_, rfl⟩
  have B0 : Below w.heap.size w W := by rw [hW]; exact ((Below.refl _ _).alloc (Nat.le_refl _) _).alloc (by simp) _
  have q0 : W.cell? ⟨w.heap.size + 1, 0, none⟩ = some (.slice fa fn fc) := by rw [hW]; simp
  have q1 : W.cell? ⟨w.heap.size + 1, 1, none⟩ = some (.slice ta tn tc) := by rw [hW]; simp
  have HA := Hid.mk (AtD.one q0 q1 (RDep.below hd B0))
  clear hd q0 q1
  go_enter Tryd.func72, Tryd.ntmps72
  go_wp2_with fail
  rw [← hW]
  clear hW
  refine (implGoodDepends (some ⟨w.heap.size + 1, 0, none⟩) 1 1 [d] C W rfl (by omega) HA.out).mono ?_
  rintro e w1 ⟨rfl, hb1⟩
  have HB := Hid.mk (B0.trans (hb1.mono B0.size))
  clear hb1 B0 HA
  go_wp2
  go_ret
  exact ⟨rfl, HB.out⟩

end Go.Proofs.YtkcfhlpdenjimaaDoor
