/- Contracts of impl.firstNumbers and of the model's l11Without. -/
import Derived.Test.YtociphdhkjoofaaDoorRows
import Derived.Test.YtociphdhkjoofaaDoorStepW
import Derived.Test.YtociphdhkjoofaaDoorIntS
import Derived.Deep.CutBlock
namespace Go.Proofs.YtociphdhkjoofaaDoor
open Go.RowKit

def upN (n : Nat) : List Int := (List.range n).map fun (i : Nat) => (i : Int)
theorem upN_succ (n : Nat) : upN (n + 1) = upN n ++ [(n : Int)] := by unfold upN; rw [List.range_succ, List.map_append]; rfl
theorem upN_len (n : Nat) : (upN n).length = n := by simp [upN]
def woI (L : List Int) (x : Int) : List Int := L.filter fun k => decide (k ≠ x)
theorem woI_take {L : List Int} {j : Nat} {k : Int} (x : Int) (h : L[j]? = some k) : woI (L.take (j + 1)) x = woI (L.take j) x ++ (if k ≠ x then [k] else []) := by
  obtain ⟨hj, rfl⟩ := List.getElem?_eq_some_iff.1 h
  unfold woI
  rw [List.take_succ_eq_append_getElem hj, List.filter_append]
  congr 1
  by_cases e : L[j] = x <;> simp [e]
theorem woI_len (L : List Int) (x : Int) : (woI L x).length ≤ L.length := List.length_filter_le _ _
set_option maxRecDepth 100000 in
set_option maxHeartbeats 4000000 in
theorem l11Without_any (a : Option Addr) (n c : Nat) (L : List Int) (x : Int) (w : World) (hz : L.length = n) (hn : n ≤ 1048576) (ha : At w a L) :
    Calls Tryd.prog 45 #[.slice a n c, .int .i64 x] w fun e w' => ∃ r m d, e = .returned (.slice r m d) ∧ (woI L x).length = m ∧ w'.ownsRow w.heap.size 3 1 (.slice r m d) m ((woI L x).map (.int .i64)) ∧ Below w.heap.size w w' := by
  obtain ⟨j0, hj0, hy0, hy1, hy2⟩ := info_parts Tryd.infoInt
  have HZ := Hid.mk hz
  have HA := Hid.mk ha
  clear hz ha
  go_enter Tryd.func45, Tryd.ntmps45
  go_wp2_with fail
  go_loopw [5, 10] (fun p i wr => ∃ (k m : Nat) (r : Option Addr) (d : Nat), k ≤ n ∧ m ≤ k ∧ i = .int .i64 k ∧ p = .slice r m d ∧ (woI (L.take k) x).length = m ∧ wr.ownsRow w.heap.size 3 1 (.slice r m d) m ((woI (L.take k) x).map (.int .i64)) ∧ Below w.heap.size w wr) (fun _ i _ => n - (intOf i).toNat)
  case atStart => exact ⟨0, 0, none, 0, Nat.zero_le _, Nat.le_refl _, rfl, rfl, rfl, World.ownsRow_nil _ _ _ _, Below.refl _ _⟩
  case round =>
    obtain ⟨k, m, r, d, hk, hmk, rfl, rfl, hm, ho, hbw⟩ := hrel
    obtain ⟨wY, rfl⟩ : ∃ x, x = wr := ⟨_, rfl⟩
    by_cases hlt : k < n
    · obtain ⟨b, off, rfl, _, hc⟩ := (At.below HA.out hbw).some (by have := HZ.out; omega)
      have hcx := hc k (by have := HZ.out; omega)
      have hxj : L[k]? = some (L.getD k 0) := by rw [List.getElem?_eq_getElem (by have := HZ.out; omega)]; simp [List.getD, show k < L.length by have := HZ.out; omega]
      obtain ⟨u, hu⟩ : ∃ u, L.getD k 0 = u := ⟨_, rfl⟩
      rw [hu] at hcx hxj
      have HTK := Hid.mk (woI_take x hxj)
      have hki : (k : Int) < (n : Int) := by omega
      have HO := Hid.mk ho
      have HM := Hid.mk hm
      have HB := Hid.mk hbw
      have zw := hbw.size
      clear hc hu hxj ho hm hbw
      by_cases hux : u = x
      · have HE : Hid (woI (L.take (k + 1)) x = woI (L.take k) x) := by show _ = _; rw [HTK.out, if_neg (fun h => h hux), List.append_nil]
        rw [← HE.out] at HO HM
        clear HTK HE
        subst hux
        go_wp2
        go_roundw
        case rel => exact ⟨k + 1, m, r, d, by omega, by omega, by go_num, rfl, HM.out, HO.out, HB.out⟩
        case measure => simp [intOf]; omega
      · have HE : Hid (woI (L.take (k + 1)) x = woI (L.take k) x ++ [u]) := by show _ = _; rw [HTK.out, if_pos hux]
        clear HTK
        go_wp2_with (at_builtin; refine wpList_app_vals rfl (.tmp 17) (.tmp 19) 34 rfl w.heap.size 3 j0 (.int .i64 0) 1 8 Tryd.underlying34 hj0 hy0 hy1 hy2 rfl (by decide) (.slice r m d) m ((woI (L.take k) x).map (.int .i64)) rfl (HO.out.alloc _) (some ⟨wY.heap.size, 0, none⟩) 1 1 [.int .i64 u] rfl rfl (fun ad he => by cases he; simpa using news_at wY #[.int .i64 u] 3) (by simp; rfl) (fun h => by cases h) (by unfold maxLen; omega) (by omega) (by simp; omega) ?_)
        intro r5 d5 w5 ho5 hg5 ht5
        have HB5 : Hid (Below w.heap.size w w5) := (HB.out.alloc zw _).grown hg5 (by simp; omega) (fun j hj => (HO.out.lt j hj).1)
        have HO5 : Hid (w5.ownsRow w.heap.size 3 1 (.slice r5 (m + 1) d5) (m + 1) ((woI (L.take (k + 1)) x).map (.int .i64))) := by
          show World.ownsRow _ _ _ _ _ _ _
          rw [HE.out, List.map_append]; exact ho5
        have HM5 : Hid ((woI (L.take (k + 1)) x).length = m + 1) := by show _ = _; rw [HE.out, List.length_append, HM.out]; rfl
        clear ho5 hg5 ht5 HO HB HM
        go_wp2
        go_roundw
        case rel => exact ⟨k + 1, m + 1, r5, d5, by omega, by omega, by go_num, rfl, HM5.out, HO5.out, HB5.out⟩
        case measure => simp [intOf]; omega
    · obtain rfl : k = n := by omega
      rw [List.take_of_length_le (by have := HZ.out; omega)] at hm ho
      have hki : ¬ (k : Int) < (k : Int) := by omega
      have HO := Hid.mk ho
      have HM := Hid.mk hm
      clear ho hm
      go_wp2
      go_ret
      exact ⟨r, m, d, rfl, HM.out, HO.out, hbw⟩

end Go.Proofs.YtociphdhkjoofaaDoor
