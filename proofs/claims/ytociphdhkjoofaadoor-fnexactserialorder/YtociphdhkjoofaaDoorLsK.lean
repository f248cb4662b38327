/- Contract of impl.listsOf. -/
import Derived.Test.YtociphdhkjoofaaDoorTzI
import Derived.Test.YtociphdhkjoofaaDoorStepW
import Derived.Test.YtociphdhkjoofaaDoorKrR
namespace Go.Proofs.YtociphdhkjoofaaDoor
open Go.RowKit

def encK (x : Nat) : Value := .int .u64 (x : Nat)
set_option maxRecDepth 100000 in
set_option maxHeartbeats 2000000 in
theorem listsK_any (base : Nat) (a : Option Addr) (n c : Nat) (ks : List Nat) (w : World) (hz : ks.length = n) (hn : n ≤ 64) (hks : ∀ k ∈ ks, k < 64) (ho : w.ownsRow base 57 1 (.slice a n c) n (ks.map encK)) (ht : TabB w) :
    Calls Tryd.prog 28 #[.slice a n c] w fun e w' => ∃ r m d, e = .returned (.slice r m d) ∧ RPairs.Own w' (From w.heap.size w'.heap.size) [.slice r m d] (ks.map bl) ∧ Below w.heap.size w w' := by
  obtain ⟨k0, hk, hx0, hx1, hx2⟩ := info_parts Tryd.infoInts
  have HT := Hid.mk ht
  have HO := Hid.mk ho
  have HKS := Hid.mk hks
  clear ht ho hks
  go_enter Tryd.func28, Tryd.ntmps28
  go_wp2_with fail
  go_loopw [3, 8] (fun p i wx => ∃ (k : Nat) (r : Option Addr) (d : Nat) (cells : List Value) (G : Nat → Nat → Prop), k ≤ n ∧ i = .int .i64 k ∧ p = .slice r k d ∧ Laid RInts wx (From w.heap.size wx.heap.size) 34 r k d ((ks.take k).map bl) cells G k ∧ Below w.heap.size w wx) (fun _ i _ => n - (intOf i).toNat)
  case atStart => exact ⟨0, none, 0, [], _, Nat.zero_le _, rfl, rfl, Laid.none _ _ _ _, Below.refl _ _⟩
  case round =>
    obtain ⟨k, r, d, cells, G, hkn, rfl, rfl, hlaid, hbw⟩ := hrel
    by_cases hlt : k < n
    · obtain ⟨s, hs⟩ : ∃ s, ks[k]? = some s := ⟨_, List.getElem?_eq_getElem (by omega)⟩
      have hs64 := HKS.out s (List.mem_of_getElem? hs)
      obtain ⟨g, hg⟩ : ∃ g, a = some ⟨g, 0, none⟩ := by
        rcases HO.out.2 with ⟨_, h1⟩ | ⟨g, cap, cur, hv, _⟩
        · omega
        · simp only [Value.slice.injEq, true_and] at hv
          exact ⟨g, hv.1⟩
      subst hg
      have hcx : wr.cell? ⟨g, k, none⟩ = some (.int .u64 (s : Nat)) := cell_later hbw ((HO.out.cellAt k (by omega)).trans (by rw [List.getElem?_map, hs]; rfl))
      have HTK : Hid ((ks.take (k + 1)).map bl = (ks.take k).map bl ++ [bl s]) := by
        show _ = _
        obtain ⟨hh, rfl⟩ := List.getElem?_eq_some_iff.1 hs
        rw [List.take_succ_eq_append_getElem hh, List.map_append]; rfl
      have hki : (k : Int) < (n : Int) := by omega
      have K := Hid.mk (list_any s wr hs64 (TabIs.below HT.out hbw))
      have HLA := Hid.mk hlaid
      have HB := Hid.mk hbw
      have zw := hbw.size
      clear hlaid hbw hs
      go_wp2_with fail
      refine K.out.mono ?_
      rintro e w4 ⟨r3, m3, d3, rfl, hm3, ho3, hb2⟩
      have hm36 : m3 ≤ 6 := by rw [← hm3]; exact bl_len s
      have z4 := hb2.size
      have HOI : Hid (RInts.Own w4 (From wr.heap.size w4.heap.size) [.slice r3 m3 d3] (bl s)) := RInts.of_owns hm3 (by omega) ho3
      have HW : Hid (wr.ownsRow w.heap.size 34 1 (.slice r k d) k cells) := owns_base HLA.out.outer (fun b hb => (HLA.out.outerF b hb).1)
      have HW4 := Hid.mk (owns_below HW.out hb2)
      have HB2 := Hid.mk hb2
      clear ho3 hb2 hm3 K
      go_wp2_with (at_builtin; refine wpList_app_vals rfl (.tmp 12) (.tmp 15) 24 rfl w.heap.size 34 k0 (.slice none 0 0) 1 24 Tryd.underlying24 hk hx0 hx1 hx2 rfl (by decide) (.slice r k d) k cells rfl (HW4.out.alloc _) (some ⟨w4.heap.size, 0, none⟩) 1 1 [.slice r3 m3 d3] rfl rfl (fun ad he => by cases he; simpa using news_at w4 #[.slice r3 m3 d3] 34) (by simp; rfl) (fun h => by cases h) (by unfold maxLen; omega) (by omega) (by simp; omega) ?_)
      intro r4 d4 w5 ho4 hg4 ht4
      have z5 : w4.heap.size < w5.heap.size := by have h9 := hg4.size; simp at h9; omega
      have BG : ∀ b, b < w4.heap.size → (Value.slice r k d).ownBlock ≠ some b → w5.heap[b]? = w4.heap[b]? := fun b hb hn => (hg4.block b (by simp; omega) (fun e => hn e.symm)).trans (Below.heap_alloc w4 _ b hb)
      have hpush := HLA.out.push (F' := From w.heap.size w5.heap.size) (fun b h => h.2) HB2.out HOI.out (fun b h => h) BG (owns_mono ho4 (Nat.zero_le _)) (by
        rcases ht4 with h9 | h9
        · exact .inl h9
        · refine .inr (fun b e => ?_)
          rw [h9] at e
          simp at e
          omega) (by omega) (fun b h => ⟨h.1, by have := h.2; omega⟩) (fun b h => ⟨by have := h.1; omega, by have := h.2; omega⟩) (fun b h => ho4.lt b h)
      obtain ⟨G', HL'⟩ : ∃ G', Hid (Laid RInts w5 (From w.heap.size w5.heap.size) 34 r4 (k + 1) d4 ((ks.take (k + 1)).map bl) (cells ++ [.slice r3 m3 d3]) G' (k + 1)) := by
        rw [HTK.out]
        exact ⟨_, Hid.mk hpush⟩
      have HB' : Hid (Below w.heap.size w w5) := ((HB.out.trans (HB2.out.mono HB.out.size)).alloc (by omega) _).grown hg4 (by simp; omega) (fun j hj => (HW.out.lt j hj).1)
      clear hpush BG ho4 hg4 ht4 HLA HB HB2 HW HW4 HOI
      go_wp2
      go_roundw
      case rel => exact ⟨k + 1, r4, d4, _, G', by omega, by go_num, rfl, HL'.out, HB'.out⟩
      case measure => simp [intOf]; omega
    · obtain rfl : k = n := by omega
      rw [List.take_of_length_le (by omega)] at hlaid
      have hkk : ¬ (k : Int) < (k : Int) := by omega
      have HFIN : Hid (RPairs.Own wr (From w.heap.size wr.heap.size) [.slice r k d] (ks.map bl)) := ⟨_, _, _, cells, G, rfl, hlaid⟩
      clear hlaid
      go_wp2
      go_ret
      exact ⟨r, k, d, rfl, HFIN.out, hbw⟩


end Go.Proofs.YtociphdhkjoofaaDoor
