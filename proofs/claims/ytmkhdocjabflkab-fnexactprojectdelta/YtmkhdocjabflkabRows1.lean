/- Contracts of impl.rowsOf and of the function that it hands back. -/
import Derived.Test.YtmkhdocjabflkabRows
import Derived.Test.YtmkhdocjabflkabRng
import Derived.Test.YtmkhdocjabflkabTableH
import Derived.WalkKit
import Derived.OwnWalkIn
import Derived.TacticsInMore
import Derived.LoopNIn
import Derived.LoopIn
namespace Go.Proofs.Ytmkhdocjabflkab
open Go.RowKit Go.Shelf

attribute [local go_sem] Oper.semAt_some

set_option maxRecDepth 100000 in
set_option maxHeartbeats 2000000 in
theorem rowsOf1_hands (T : Nat) (a : Option Addr) (n c : Nat) (ts : List WRow) (w : World) (hz : ts.length = n) (hn : n ≤ 1048576) (hT : w.cell? ⟨T, 1, none⟩ = some (.slice a n c)) (ha : AtM w a ts) :
    Hands Try.prog 68 #[.pointer (some ⟨T, 0, none⟩)] ts w := by
  intro n₀ l J W h1 h2 hb hJ hY h0
  refine callsIn_of_wp Try.func68 rfl trivial ?_
  simp only [Try.ntmps68, List.size_toArray, List.length_cons, List.length_nil, Nat.reduceAdd, Nat.reduceSub, Array.replicate_succ, Array.replicate_zero, List.push_toArray, List.append_toArray, List.nil_append, List.cons_append]
  have hTW := cell_later hb hT
  gi_wp2
  gi_loopw [8] (fun i wr => ∃ (k : Nat), k ≤ n ∧ i = .int .i64 k ∧ J k wr ∧ Apart n₀ W.heap.size W wr) (fun i _ => n - (intOf i).toNat)
  case atStart => exact ⟨0, Nat.zero_le _, rfl, h0, Apart.refl _ _ _⟩
  case round =>
    obtain ⟨k, hk, rfl, hj, hap⟩ := hrel
    by_cases hlt : k < n
    · have hbr : Below w.heap.size w wr := hb.trans (hap.below hb.size h1)
      obtain ⟨b, off, rfl, hc⟩ := ha.some (by omega)
      obtain ⟨q, dd, hcx0, hwx0, hm, hnil, hat0⟩ := hc k (by omega)
      have hfar : Far n₀ W.heap.size q (wat ts k).1 := hat0.far_low h1
      have hcx := cell_later hbr hcx0
      have hwx := cell_later hbr hwx0
      have hat := hat0.below hbr
      clear hcx0 hwx0 hat0
      have hki : (k : Int) < (n : Int) := by omega
      obtain ⟨V, hV⟩ : ∃ V, V = wr.alloc (.cells #[.slice q (wat ts k).1.length dd, .int .i64 (wat ts k).2] 48) := ⟨_, rfl⟩
      have hbV : Below wr.heap.size wr V := by rw [hV]; exact (Below.refl _ _).alloc (Nat.le_refl _) _
      have c3 : V.cell? ⟨wr.heap.size, 0, none⟩ = some (.slice q (wat ts k).1.length dd) := by rw [hV]; exact pair0 wr _ _ _
      have c4 : V.cell? ⟨wr.heap.size, 1, none⟩ = some (.int .i64 (wat ts k).2) := by rw [hV]; exact pair1 wr _ _ _
      have zV : W.heap.size ≤ V.heap.size := Nat.le_trans hap.size hbV.size
      obtain ⟨fn, tmps, assign, body, hy, hR⟩ := hY k V q _ dd (by omega) (hJ k wr V (hbV.mono hap.size) hj) zV rfl hnil (hat.below hbV) hfar
      have hapV : Apart n₀ W.heap.size W V := hap.trans ⟨hbV.os, hbV.tape, hbV.output, hbV.size, fun i hi _ => hbV.block i hi⟩
      generalize wat ts k = Y at *
      obtain ⟨ys, x⟩ := Y
      simp only at hcx hwx hm hat c3 c4 hy hV
      generalize ys.length = m at *
      subst hV
      gi_wp2
      refine ⟨rfl, hR.mono ?_⟩
      rintro e W3 ⟨rfl, hJ3, hap3⟩
      have HA3 := Hid.mk (hapV.trans hap3)
      have HJ3 := Hid.mk hJ3
      clear hJ3 hap3 hapV hR hy hcx hwx c3 c4 hat hap hj hc
      gi_wp2
      go_roundw
      case rel => exact ⟨k + 1, by omega, by go_num, HJ3.out, HA3.out⟩
      case measure => simp [intOf]; omega
    · obtain rfl : k = n := by omega
      gi_wp2
      go_end0
      rw [hz]
      exact ⟨⟨_, rfl⟩, hj, hap⟩

theorem rowsOf_any (a : Option Addr) (n c : Nat) (p : Int) (w : World) :
    Calls Try.prog 56 #[.agg #[.int .i64 p, .slice a n c]] w fun e w' => e = .returned (.func (.func 68) #[] #[.pointer (some ⟨w.heap.size, 0, none⟩)]) ∧ w' = w.alloc (.cells #[.int .i64 p, .slice a n c] 28) := by
  go_enter Try.func56, Try.ntmps56
  go_wp2
  go_ret
  exact ⟨rfl, rfl⟩

end Go.Proofs.Ytmkhdocjabflkab
