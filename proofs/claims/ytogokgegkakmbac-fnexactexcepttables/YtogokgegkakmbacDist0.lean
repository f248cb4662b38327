/- Contracts of impl.plainRows, spec.l3Distinct. -/
import Derived.Test.YtogokgegkakmbacPlainR
import Derived.Test.YtogokgegkakmbacTableOf
import Derived.Test.YtogokgegkakmbacTabU
import Derived.Test.YtogokgegkakmbacGoodTI
namespace Go.Proofs.Ytogokgegkakmbac
open Go.RowKit Go.Shelf

theorem plainRows_any (gf : Nat) (lb : Array Value) (w : World) :
    Calls Try.prog 17 #[.func (.func gf) #[] lb] w fun e w' => e = .returned (.func (.func 34) #[] #[.pointer (some ⟨w.heap.size, 0, none⟩)]) ∧ w' = w.alloc (.cells #[.func (.func gf) #[] lb] 42) := by
  go_enter Try.func17, Try.ntmps17
  go_wp2
  go_ret
  exact ⟨rfl, rfl⟩

/-- The rows that are there, once. -/
def distW (ts : List WRow) : List WRow := ts.filterMap plainG
def distB (p : Int) (ts : List WRow) : Bool := goodT p ts && goodT p (distW ts)
theorem distB_no {p : Int} {ts : List WRow} (h : goodT p ts = false) : distB p ts = false := by simp [distB, h]
theorem distB_yes {p : Int} {ts : List WRow} (h : goodT p ts = true) : distB p ts = goodT p (distW ts) := by simp [distB, h]
theorem plainG_some {t s : WRow} (h : plainG t = some s) : s = (t.1, 1) ∧ 0 < t.2 := by
  unfold plainG at h
  split at h
  · exact ⟨by simpa using h.symm, by assumption⟩
  · cases h
theorem tells_dist {q : Nat} {ts : List WRow} (h : goodT q ts = true) : Tells q (sumAt (distW ts) (distW ts).length 1) (distW ts) :=
  tells_self (rises_some (fun t s hs => by rw [(plainG_some hs).1]) (goodT_rises h)) (fun t ht => by obtain ⟨s, hs, e⟩ := some_mem ht; rw [(plainG_some e).1]; simp) (fun t ht => by obtain ⟨s, hs, e⟩ := some_mem ht; rw [(plainG_some e).1]; exact goodT_mem h s hs)
theorem distW_len (ts : List WRow) : (distW ts).length ≤ ts.length := List.length_filterMap_le _ _
theorem distW_ok {p : Int} {ts : List WRow} (h : goodT p ts = true) : ∀ t ∈ distW ts, good t.1 = true ∧ -1000000000000 ≤ t.2 ∧ t.2 ≤ 1000000000000 := fun t ht => by
  obtain ⟨s, hs, e⟩ := some_mem ht
  rw [(plainG_some e).1]
  exact ⟨(goodL_mem (goodL_of_goodT h) s hs).1, by simp, by simp⟩

theorem distW_take (ts : List WRow) (k : Nat) (h : k < ts.length) : distW (ts.take (k + 1)) = distW (ts.take k) ++ (plainG (wat ts k)).toList := by
  unfold distW
  rw [wtake_succ ts k h, List.filterMap_append, List.filterMap_cons]
  cases plainG (wat ts k) <;> rfl

set_option maxRecDepth 100000 in
set_option maxHeartbeats 4000000 in
theorem l3Distinct_any (a : Option Addr) (n c : Nat) (ts : List WRow) (w : World) (hz : ts.length = n) (hn : n ≤ 2048) (hg : ∀ s ∈ ts, s.1.length ≤ 6) (ha : AtM w a ts) :
    Calls Try.prog 27 #[.slice a n c] w fun e w' => ∃ r k d, e = .returned (.slice r k d) ∧ (distW ts).length = k ∧ AtM w' r (distW ts) ∧ Below w.heap.size w w' := by
  obtain ⟨i0, hi, hz0, hz1, hz2⟩ := info_parts Try.infoW
  go_enter Try.func27, Try.ntmps27
  go_wp2
  go_loopw [3, 8] (fun o i wr => ∃ (k m : Nat) (r : Option Addr) (d : Nat) (cs : List Value), k ≤ n ∧ m ≤ k ∧ i = .int .i64 k ∧ o = .slice r m d ∧ (distW (ts.take k)).length = m ∧ wr.ownsRow w.heap.size 63 2 (.slice r m d) m cs ∧ Means w cs (distW (ts.take k)) ∧ Below w.heap.size w wr) (fun _ i _ => n - (intOf i).toNat)
  case atStart => exact ⟨0, 0, none, 0, [], Nat.zero_le _, Nat.le_refl _, rfl, rfl, rfl, World.ownsRow_nil _ _ _ _, trivial, Below.refl _ _⟩
  case round =>
    obtain ⟨k, m, r, d, cs, hk, hmk, rfl, rfl, hml, ho, hme, hbw⟩ := hrel
    by_cases hlt : k < n
    · obtain ⟨b, off, rfl, hc⟩ := ha.some (by omega)
      obtain ⟨q, dd, hcx, hwx, hm1, hnil, hat⟩ := hc k (by omega)
      have hgk := at_of_mem hg k (by omega)
      have HS := Hid.mk (distW_take ts k (by omega))
      have hki : (k : Int) < (n : Int) := by omega
      generalize wat ts k = Y at *
      obtain ⟨ys, x⟩ := Y
      simp only at hcx hwx hat hm1 hgk
      obtain ⟨m2, hmm⟩ : ∃ m2, ys.length = m2 := ⟨_, rfl⟩
      rw [hmm] at hcx hm1 hgk
      have HM := Hid.mk hmm
      have HATW := Hid.mk hat
      have hcx := cell_later hbw hcx
      have hwx := cell_later hbw hwx
      have zz := hbw.size
      clear hmm hc hat
      by_cases hx : 0 < x
      · have HSX : Hid (distW (ts.take (k + 1)) = distW (ts.take k) ++ [(ys, 1)]) := by show _ = _; rw [HS.out]; unfold plainG; rw [if_pos hx]; rfl
        have oV := ho.alloc (.cells #[.slice q m2 dd, .int .i64 x] 63)
        go_wp2_with (at_builtin; refine wpList_append_lies _ rfl (.tmp 15) (.tmp 19) 26 rfl w.heap.size 63 i0 (.agg #[.slice none 0 0, .int .i64 0]) 2 32 Try.underlying26 hi hz0 hz1 hz2 rfl (by decide) (.slice r m d) m cs rfl (oV.alloc _) ⟨wr.heap.size + 1, 0, none⟩ 1 1 [.slice q m2 dd, .int .i64 1] (by simp [Act.eval]) rfl (by simpa using news_at (wr.alloc (.cells #[.slice q m2 dd, .int .i64 x] 63)) #[.slice q m2 dd, .int .i64 1] 63) (by intro u hu; simp at hu; rcases hu with rfl | rfl <;> rfl) (by decide) (by unfold maxLen; omega) (by omega) (by simp; omega) (wr.heap.size + 1 + 1) (by simp) ?_; intro g2 cap2 w4 hown4 hgrow4 hat4 hlt4)
        have hgr : wr.grownBy w4 (Value.slice r m d).ownBlock := grown_alloc (grown_alloc hgrow4)
        have HB := Hid.mk (hbw.grown hgr hbw.size (fun j hj => (ho.lt j hj).1))
        have HO := Hid.mk hown4
        have HME : Hid (Means w (cs ++ [.slice q m2 dd, .int .i64 1]) (distW (ts.take (k + 1)))) := by
          show Means _ _ _
          rw [HSX.out]
          exact hme.append (Means.one HM.out (by omega) hnil HATW.out)
        have HL : Hid ((distW (ts.take (k + 1))).length = m + 1) := by show _ = _; rw [HSX.out, List.length_append, hml]; rfl
        clear hown4 hgrow4 hat4 hlt4 hgr ho hme hbw hcx hwx oV hml
        go_wp2
        go_roundw
        case rel => exact ⟨k + 1, m + 1, _, _, _, by omega, by omega, by go_num, rfl, HL.out, HO.out, HME.out, HB.out⟩
        case measure => simp [intOf]; omega
      · have HSX : Hid (distW (ts.take (k + 1)) = distW (ts.take k)) := by show _ = _; rw [HS.out]; unfold plainG; rw [if_neg hx]; simp
        have hxx : x ≤ 0 := by omega
        have HO := Hid.mk (ho.alloc (.cells #[.slice q m2 dd, .int .i64 x] 63))
        have HB := Hid.mk (hbw.alloc hbw.size (.cells #[.slice q m2 dd, .int .i64 x] 63))
        have HL : Hid ((distW (ts.take (k + 1))).length = m) := by show _ = _; rw [HSX.out, hml]
        have HME : Hid (Means w cs (distW (ts.take (k + 1)))) := by show Means _ _ _; rw [HSX.out]; exact hme
        clear ho hme hbw hml
        go_wp2
        go_roundw
        case rel => exact ⟨k + 1, m, _, _, _, by omega, by omega, by go_num, rfl, HL.out, HO.out, HME.out, HB.out⟩
        case measure => simp [intOf]; omega
    · obtain rfl : k = n := by omega
      rw [wtake_all' ts hz] at hme hml
      go_wp2
      go_ret
      exact ⟨_, _, _, rfl, hml, (hme.below hbw).ownedM hml ho, hbw⟩

end Go.Proofs.Ytogokgegkakmbac
