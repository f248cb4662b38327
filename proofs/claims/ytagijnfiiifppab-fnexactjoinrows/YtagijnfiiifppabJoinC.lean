/- Contract of impl.joinCells. -/
import Derived.Test.YtagijnfiiifppabIntS
import Derived.Test.YtagijnfiiifppabPlainJoin
import Derived.Test.YtagijnfiiifppabAppendAll
namespace Go.Proofs.Ytagijnfiiifppab
open Go.RowKit

/-- Block g is an array of bools, free to be written. -/
def ArrB (w : World) (g : Nat) (t : TypeId) (bs : List Bool) : Prop := w.heap[g]? = some (.cells (bs.map Value.bool).toArray t (0, 0))
theorem ArrB.cell {w : World} {g : Nat} {t : TypeId} {bs : List Bool} (h : ArrB w g t bs) (k : Nat) (hk : k < bs.length) : w.cell? ⟨g, k, none⟩ = some (.bool (bs.getD k false)) := by
  rw [cell_of_row w g k _ t (0, 0) h]
  simp [List.getD, hk]
theorem ArrB.frozen {w : World} {g : Nat} {t : TypeId} {bs : List Bool} (h : ArrB w g t bs) (k : Nat) : w.frozen? ⟨g, k, none⟩ = false := frozen_of_row w g k _ t h
theorem ArrB.set {w : World} {g : Nat} {t : TypeId} {bs : List Bool} (h : ArrB w g t bs) (k : Nat) (v : Bool) : ArrB (w.setCell ⟨g, k, none⟩ (.bool v)) g t (bs.set k v) := by
  have := heap_setCell_same w g k _ t (.bool v) h
  unfold ArrB
  rw [this]
  simp [List.map_set]
theorem ArrB.below {w w' : World} {g : Nat} {t : TypeId} {bs : List Bool} {B : Nat} (h : ArrB w g t bs) (hb : Below B w w') (hg : g < B) : ArrB w' g t bs := (hb.block g hg).trans h
theorem ArrB.new {w : World} {cs : Array Value} {t : TypeId} {bs : List Bool} {g : Nat} (hg : g = w.heap.size) (hcs : cs = (bs.map Value.bool).toArray) : ArrB (w.alloc (.cells cs t)) g t bs := by
  subst hg hcs; exact heap_alloc_new w _

/-- Which of six columns are among the first k. -/
def Marked (bs : List Bool) (cols : List Int) (k : Nat) : Prop := bs.length = 6 ∧ ∀ j, j < 6 → bs.getD j false = (cols.take k).contains (j : Int)
theorem Marked.zero (cols : List Int) : Marked [false, false, false, false, false, false] cols 0 := ⟨rfl, fun j hj => by
  match j, hj with
  | 0, _ | 1, _ | 2, _ | 3, _ | 4, _ | 5, _ => simp⟩
theorem Marked.set {bs : List Bool} {cols : List Int} {k c : Nat} (h : Marked bs cols k) (hk : k < cols.length) (hc : cols.getD k 0 = (c : Int)) (h6 : c < 6) : Marked (bs.set c true) cols (k + 1) := by
  refine ⟨by simpa using h.1, fun j hj => ?_⟩
  rw [take_snocD cols k hk, hc]
  have hl := h.1
  by_cases e : c = j
  · subst e
    simp [List.getD, List.getElem?_set_self (show c < bs.length by omega)]
  · have := h.2 j hj
    rw [show (bs.set c true).getD j false = bs.getD j false by simp [List.getD, List.getElem?_set_ne e], this]
    simp only [List.contains_eq_mem, List.mem_append, List.mem_singleton]
    have : ¬ (j : Int) = (c : Int) := by omega
    simp [this]

set_option maxHeartbeats 4000000 in
theorem joinCells_any (a b q : Option Addr) (n n' m c c' d : Nat) (xs ys cols : List Int) (w : World) (hz : xs.length = n) (hz' : ys.length = n') (hq : cols.length = m) (hn : n ≤ 6) (hn' : n' ≤ 6) (hm : m ≤ 6)
    (hcols : ∀ j, j < m → 0 ≤ cols.getD j 0 ∧ cols.getD j 0 < n') (hnil : a = none → c = 0) (ha : At w a xs) (hb : At w b ys) (hc : At w q cols) :
    Calls Try.prog 32 #[.agg #[.slice a n c], .agg #[.slice b n' c'], .slice q m d] w fun e w' => ∃ r k dd, e = .returned (.agg #[.slice r k dd]) ∧ (joinZ xs ys cols).length = k ∧
      w'.ownsRow w.heap.size 3 1 (.slice r k dd) k ((joinZ xs ys cols).map (.int .i64)) ∧ Below w.heap.size w w' := by
  obtain ⟨i0, hi, hz0, hz1, hz2⟩ := info_parts Try.infoInt
  obtain ⟨w1, hW⟩ : ∃ w1, w1 = ((w.alloc (.cells #[.slice a n c] 26)).alloc (.cells #[.slice b n' c'] 26)).alloc (.cells #[.slice none 0 0] 26) := ⟨_, rfl⟩
  have B1 : Below w.heap.size w w1 := by rw [hW]; exact (((Below.refl _ _).alloc (Nat.le_refl _) _).alloc (by simp) _).alloc (by simp; omega) _
  have A1 : At w1 a xs := ha.below B1
  have A2 : At w1 b ys := hb.below B1
  have A3 : At w1 q cols := hc.below B1
  have c1 : w1.cell? ⟨w.heap.size, 0, none⟩ = some (.slice a n c) := by rw [hW]; simp [go_sem]
  have c2 : w1.cell? ⟨w.heap.size + 1, 0, none⟩ = some (.slice b n' c') := by rw [hW]; simp [go_sem]
  have c3 : w1.cell? ⟨w.heap.size + 1 + 1, 0, none⟩ = some (.slice none 0 0) := by rw [hW]; simp [go_sem]
  have f3 : w1.frozen? ⟨w.heap.size + 1 + 1, 0, none⟩ = false := by rw [hW]; simp [go_sem]
  have z1 : w1.heap.size = w.heap.size + 1 + 1 + 1 := by rw [hW]; simp
  have z1a : w1.heap.size ≤ w.heap.size + 1 + 1 + 1 := by omega
  have z1b : w.heap.size + 1 + 1 + 1 ≤ w1.heap.size := by omega
  have M0 : ArrB (w1.alloc (.cells #[.bool false, .bool false, .bool false, .bool false, .bool false, .bool false] 53)) (w.heap.size + 1 + 1 + 1) 53 [false, false, false, false, false, false] := ArrB.new z1.symm (by simp)
  clear ha hb hc z1
  go_enter Try.func32, Try.ntmps32
  go_wp2
  rw [← hW]
  clear hW
  go_loopw [15] (fun i wr => ∃ (k : Nat) (bs : List Bool), k ≤ m ∧ i = .int .i64 k ∧ Marked bs cols k ∧ ArrB wr (w.heap.size + 1 + 1 + 1) 53 bs ∧ w.heap.size + 1 + 1 + 1 < wr.heap.size ∧ Below w1.heap.size w1 wr) (fun i _ => m - (intOf i).toNat)
  case atStart => exact ⟨0, _, Nat.zero_le _, rfl, Marked.zero cols, M0, by simp; omega, (Below.refl _ _).alloc (Nat.le_refl _) _⟩
  case round =>
    clear M0
    obtain ⟨k, bs, hk, rfl, hmk, harr, hzr, hbw⟩ := hrel
    by_cases hlt : k < m
    · obtain ⟨b', off', rfl, hb', hc'⟩ := (A3.below hbw).some (by omega)
      have hcx := hc' k (by omega)
      obtain ⟨hx0, hx1⟩ := hcols k hlt
      obtain ⟨j, hj⟩ := Int.eq_ofNat_of_zero_le hx0
      rw [hj] at hcx hx1
      have hj6 : (j : Int) < 6 := by omega
      have hcell := harr.cell j (by have := hmk.1; omega)
      have hfz := harr.frozen j
      have HM := Hid.mk (hmk.set (by omega) hj (by omega))
      have HA := Hid.mk (harr.set j true)
      have HB : Hid (Below w1.heap.size w1 (wr.setCell ⟨w.heap.size + 1 + 1 + 1, j, none⟩ (.bool true))) := hbw.setCell z1a _
      generalize bs.getD j false = v0 at hcell
      clear hc' hj hmk harr hx0
      go_wp2
      go_roundw
      case rel => exact ⟨k + 1, _, by omega, by go_num, HM.out, HA.out, by simpa [World.setCell] using hzr, HB.out⟩
      case measure => simp [intOf]; omega
    · obtain rfl : k = m := by omega
      obtain ⟨V, rfl⟩ : ∃ V, V = wr := ⟨_, rfl⟩
      have g1 := cell_later hbw c1
      have g2 := cell_later hbw c2
      have g3 := cell_later hbw c3
      have g4 := frozen_later hbw c3 f3
      have BW := B1.trans (hbw.mono B1.size)
      have zA : w.heap.size < V.heap.size := by omega
      have zB : w.heap.size + 1 < V.heap.size := by omega
      have D1 := A1.below hbw
      have D2 := A2.below hbw
      have hmk' : ∀ j, j < 6 → bs.getD j false = cols.contains (j : Int) := fun j hj => by
        have := hmk.2 j hj
        rwa [← hq, List.take_length] at this
      have hbl := hmk.1
      have V0 : RowVar (V.alloc (.cells #[.slice none 0 0] 26)) V.heap.size 26 (V.heap.size + 1) 3 none 0 0 [] := RowVar.new rfl (by omega)
      have D1' := D1.alloc (.cells #[.slice none 0 0] 26)
      clear A1 A2 A3 c1 c2 c3 f3 B1 hmk hcols
      go_wp2_with (at_builtin; refine wpList_append_all rfl (.tmp 23) (.tmp 25) 22 rfl (V.heap.size + 1) 3 i0 (.int .i64 0) 8 Try.underlying22 hi hz0 hz1 hz2 rfl _ _ _ rfl V0.own a n c xs rfl hz D1' hnil (by unfold maxLen; omega) (by omega) (by simp) ?_; intro r cap w2 hown2 hgrow2; rw [Nat.zero_add] at hown2; rw [Nat.zero_add]; obtain ⟨t1, t2, V1⟩ := V0.put hz hown2 hgrow2; have B2 : Below V.heap.size V (w2.setCell ⟨V.heap.size, 0, none⟩ (.slice r n cap)) := V0.put_below hgrow2 ((Below.refl _ _).alloc (Nat.le_refl _) _) (Nat.le_refl _); have k2 := cell_later B2 g2)
      obtain ⟨w3, hw3⟩ : ∃ w3, w3 = w2.setCell ⟨V.heap.size, 0, none⟩ (.slice r n cap) := ⟨_, rfl⟩
      rw [← hw3] at V1 B2
      rw [← hw3]
      have hxj : xs = joinTo xs ys cols 0 := by simp [joinTo, restTo]
      rw [hxj] at V1
      clear hw3 hown2 hgrow2 V0 D1' g1 t1 t2 k2 hxj D1
      go_loopw [31] (fun i ws => ∃ (j : Nat) (r : Option Addr) (l cap : Nat), j ≤ n' ∧ i = .int .i64 j ∧ RowVar ws V.heap.size 26 (V.heap.size + 1) 3 r l cap (joinTo xs ys cols j) ∧ Below V.heap.size V ws) (fun i _ => n' - (intOf i).toNat)
      case atStart => exact ⟨0, r, n, cap, Nat.zero_le _, rfl, V1, B2⟩
      case round =>
        clear V1 B2
        obtain ⟨j, r3, l, cap3, hj, rfl, hv, hbs⟩ := hrel
        have e3 := cell_later hbs g3
        have e4 := frozen_later hbs g3 g4
        have BS := BW.trans (hbs.mono BW.size)
        have zs2 := hbs.size
        by_cases hjl : j < n'
        · obtain ⟨b2, off2, rfl, hb2, hc2⟩ := (D2.below hbs).some (by omega)
          have hcy := hc2 j (by omega)
          have harr2 := (harr.below hbs hzr).cell j (by omega)
          have hmj := hmk' j (by omega)
          have hj6 : (j : Int) < 6 := by omega
          have hlen := joinTo_length xs ys cols j
          have hl13 : l ≤ 12 := by have := hv.1; omega
          have hcr := hv.cell
          have hfr := hv.frozen
          have HT := Hid.mk (joinTo_take xs ys cols j)
          have HK := Hid.mk (joinTo_skip xs ys cols j)
          generalize ys.getD j 0 = y at hcy HT
          rw [hmj] at harr2
          clear hc2 hmj hlen
          cases hct : cols.contains (j : Int) with
          | true =>
            rw [hct] at harr2
            have HE := Hid.mk (HK.out hct)
            clear HK HT hct
            go_wp2
            go_roundw
            case rel => exact ⟨j + 1, r3, l, cap3, by omega, by go_num, by rw [HE.out]; exact hv, hbs⟩
            case measure => simp [intOf]; omega
          | false =>
            rw [hct] at harr2
            have HE := Hid.mk (HT.out hct)
            clear HK HT hct
            go_wp2_with (at_builtin; refine wpList_append_lies _ rfl (.tmp 41) (.tmp 43) 22 rfl (V.heap.size + 1) 3 i0 (.int .i64 0) 1 8 Try.underlying22 hi hz0 hz1 hz2 rfl (by decide) _ _ _ rfl (hv.own.alloc _) ⟨wr.heap.size, 0, none⟩ 1 1 [.int .i64 y] rfl rfl (news_at wr _ _) (by simp; rfl) (by decide) (by unfold maxLen; omega) (by omega) (by simp; omega) (wr.heap.size + 1) (by simp) ?_; intro g2 cap2 w4 hown4 hgrow4 _ _; obtain ⟨t1, t2, hv4⟩ := hv.pushed hown4 hgrow4)
            have HB := Hid.mk (hv.pushed_below (v := .slice (some ⟨g2, 0, none⟩) (l + 1) cap2) hgrow4 hbs (Nat.le_refl _))
            rw [← HE.out] at hv4
            have HV := Hid.mk hv4
            clear hv4 hown4 hgrow4 hv hbs t1 t2
            go_roundw
            case rel => exact ⟨j + 1, _, _, _, by omega, by go_num, HV.out, HB.out⟩
            case measure => simp [intOf]; omega
        · obtain rfl : j = n' := by omega
          have hjz : joinTo xs ys cols j = joinZ xs ys cols := by rw [joinZ, joinTo, hz']
          rw [hjz] at hv
          have hcr := hv.cell
          go_wp2
          refine bodyPost_ret (v := .agg #[.slice r3 l cap3]) (by simp [results, Try.results32, go_sem, e3]) rfl ⟨r3, l, cap3, rfl, hv.1, ?_, ?_⟩
          · exact owns_mono (ownsRow_setCell_below hv.own (by simp; omega) _) (by omega)
          · exact BS.setCell (by simp; omega) _

end Go.Proofs.Ytagijnfiiifppab
