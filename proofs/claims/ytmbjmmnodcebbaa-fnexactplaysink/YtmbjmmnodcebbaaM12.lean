/- Several texts of one proof, in build order: PpT, PrK. -/
import Derived.Test.YtmbjmmnodcebbaaM3
import Derived.Test.YtmbjmmnodcebbaaM6
import Derived.Deep.CutBlock
import Derived.Test.YtmbjmmnodcebbaaM8
import Derived.Test.YtmbjmmnodcebbaaM10

/- Contracts of the laws' to of Prepared. -/
namespace Go.Proofs.Ytmbjmmnodcebbaa
open Go.RowKit

set_option maxRecDepth 100000 in
set_option maxHeartbeats 8000000 in
theorem toPrepared_rep (a2 : Option Addr) (n2 : Nat) (c2 : Nat) (zi0 : Int) (zi1 : Int) (x2 : List Int) (w : World) (hz2 : x2.length = n2) (hs2 : n2 ≤ 1048576) (ha2 : At w a2 x2) :
    Calls Try.prog 47 #[.agg #[.int .i64 zi0, .int .i64 zi1, .slice a2 n2 c2]] w fun e w' => ∃ g2, e = .returned (.agg #[.int .i64 zi0, .int .i64 zi1, .slice (some ⟨g2, 0, none⟩) n2 n2]) ∧ RPrepared.Own w' (From w.heap.size w'.heap.size) [.int .i64 zi0, .int .i64 zi1, .slice (some ⟨g2, 0, none⟩) n2 n2] (zi0, zi1, x2) ∧ Below w.heap.size w w' := by
  obtain ⟨W, hW⟩ : ∃ W, W = (((w.alloc (.cells #[.int .i64 zi0, .int .i64 zi1, .slice a2 n2 c2] 62)).alloc (.cells #[.int .i64 0, .int .i64 0, .slice none 0 0] 64)).alloc (.cells #[.int .i64 zi0, .int .i64 zi1, .slice none 0 0] 64)) := ⟨_, rfl⟩
  have B0 : Below w.heap.size w W := by rw [hW]; exact ((((Below.refl _ _).alloc (Nat.le_refl _) _).alloc (by simp) _).alloc (by simp; omega) _)
  have zW : w.heap.size + 2 < W.heap.size := by rw [hW]; simp
  have b2 : W.heap[w.heap.size + 1 + 1]? = some (.cells #[.int .i64 zi0, .int .i64 zi1, .slice none 0 0] 64 (0, 0)) := by
    rw [hW]
    have q := heap_alloc_new ((w.alloc (.cells #[.int .i64 zi0, .int .i64 zi1, .slice a2 n2 c2] 62)).alloc (.cells #[.int .i64 0, .int .i64 0, .slice none 0 0] 64)) (.cells #[.int .i64 zi0, .int .i64 zi1, .slice none 0 0] 64)
    simpa only [World.size_alloc] using q
  have b1 : W.heap[w.heap.size + 1]? = some (.cells #[.int .i64 0, .int .i64 0, .slice none 0 0] 64 (0, 0)) := by
    rw [hW]
    refine blk_alloc ?_ _
    have q := heap_alloc_new (w.alloc (.cells #[.int .i64 zi0, .int .i64 zi1, .slice a2 n2 c2] 62)) (.cells #[.int .i64 0, .int .i64 0, .slice none 0 0] 64)
    simpa only [World.size_alloc] using q
  have b0 : W.heap[w.heap.size]? = some (.cells #[.int .i64 zi0, .int .i64 zi1, .slice a2 n2 c2] 62 (0, 0)) := by
    rw [hW]
    exact blk_alloc (blk_alloc (heap_alloc_new w _) _) _
  have HA2 := Hid.mk ha2
  have HZ2 := Hid.mk hz2
  clear ha2 hz2
  go_enter Try.func47, Try.ntmps47
  go_wp2_with fail
  rw [← hW]
  clear hW
  refine (toInts_rep a2 n2 c2 x2 W HZ2.out hs2 (At.below HA2.out B0)).mono ?_
  rintro e w2 ⟨g2, rfl, o2, hb2⟩
  have k2 := blk_below b2 hb2
  have k1 := blk_below b1 hb2
  have k0 := blk_below b0 hb2
  clear b2 b1 b0
  have z2 := hb2.size
  have E2 : Below w.heap.size w w2 := B0.trans (hb2.mono (by omega))
  have q := blk_cell k2 2 (v := .slice none 0 0) rfl
  have f := blk_frozen k2 2
  have r : True := trivial
  obtain ⟨X2, hX2⟩ : ∃ u, u = w2.setCell ⟨w.heap.size + 1 + 1, 2, none⟩ (.slice (some ⟨g2, 0, none⟩) n2 n2) := ⟨_, rfl⟩
  have y2 : w2.heap.size ≤ X2.heap.size := by rw [hX2]; simp [World.setCell]
  have b2 : X2.heap[w.heap.size + 1 + 1]? = some (.cells #[.int .i64 zi0, .int .i64 zi1, .slice (some ⟨g2, 0, none⟩) n2 n2] 64 (0, 0)) := by rw [hX2]; exact blk_set k2 2 _
  have b1 : X2.heap[w.heap.size + 1]? = some (.cells #[.int .i64 0, .int .i64 0, .slice none 0 0] 64 (0, 0)) := by rw [hX2]; exact blk_other k1 (by simp) _
  have b0 : X2.heap[w.heap.size]? = some (.cells #[.int .i64 zi0, .int .i64 zi1, .slice a2 n2 c2] 62 (0, 0)) := by rw [hX2]; exact blk_other k0 (by simp; omega) _
  have C2 : Below w.heap.size w X2 := by rw [hX2]; exact E2.setCell (by simp; omega) _
  have S2 : Hid (Off (From w.heap.size (w.heap.size + 3)) w2 X2) := by rw [hX2]; exact Off.set ⟨by simp; omega, by simp⟩ _
  have O2_2 := Hid.mk (RInts.ownOff o2 S2.out (fun b h k => by have := h.1; have := k.2; omega))
  clear o2 hb2
  clear S2 k2 k1 k0
  go_upto_region 5 with fail
  rw [← hX2]
  clear hX2 q f r
  have u0 := blk_cell b2 0 (v := .int .i64 zi0) rfl
  have p0 := blk_cell b1 0 (v := .int .i64 0) rfl
  have f0 := blk_frozen b1 0
  have u1 := blk_cell b2 1 (v := .int .i64 zi1) rfl
  have p1 := blk_cell b1 1 (v := .int .i64 0) rfl
  have f1 := blk_frozen b1 1
  have u2 := blk_cell b2 2 (v := .slice (some ⟨g2, 0, none⟩) n2 n2) rfl
  have p2 := blk_cell b1 2 (v := .slice none 0 0) rfl
  have f2 := blk_frozen b1 2
  obtain ⟨Y, hY⟩ : ∃ u, u = stores X2 (w.heap.size + 1) 0 [.int .i64 zi0, .int .i64 zi1, .slice (some ⟨g2, 0, none⟩) n2 n2] := ⟨_, rfl⟩
  have D : Below w.heap.size w Y := by rw [hY]; exact stores_below _ _ _ _ C2 (by omega)
  have S : Off (From w.heap.size (w.heap.size + 3)) X2 Y := by rw [hY]; exact stores_off _ _ _ _ ⟨by omega, by omega⟩
  have zY : Y.heap.size = X2.heap.size := by rw [hY]; exact stores_size _ _ _ _
  have R : Hid (RPrepared.Own Y (From w.heap.size Y.heap.size) [.int .i64 zi0, .int .i64 zi1, .slice (some ⟨g2, 0, none⟩) n2 n2] (zi0, zi1, x2)) :=
    RPrepared.own_mk (RInts.ownOff O2_2.out S (fun b h k => by have := h.1; have := k.2; omega)) (fun b h => ⟨by have := h.1; omega, by have := h.2; omega⟩) 
  have HY := Hid.mk hY
  have HD := Hid.mk D
  clear S D hY zY b1 b2 b0 C2 O2_2
  go_wp2
  refine bodyPost_ret (v := .agg #[.int .i64 zi0, .int .i64 zi1, .slice (some ⟨g2, 0, none⟩) n2 n2]) (by simp [results, Try.results47, go_sem, p0, p1, p2]) rfl ⟨g2, rfl, ?_, ?_⟩
  · have h := R.out
    rw [HY.out] at h
    exact h
  · have h := HD.out
    rw [HY.out] at h
    exact h

theorem Try.infoPrepared : (Try.prog.info? 64).map (fun i => (i.zero, i.size, i.bytes)) = some (some (.agg #[.int .i64 0, .int .i64 0, .slice none 0 0]), 3, 40) := by kernel_rfl

set_option maxRecDepth 100000 in
set_option maxHeartbeats 8000000 in
theorem toPreparedS_rep (a : Option Addr) (n c : Nat) (xs : List TPrepared) (w : World) (hz : xs.length = n) (hn : n ≤ 1048576) (hs : ∀ (i : Nat) (x : TPrepared), xs[i]? = some x → costPrepared x ≤ 1048576) (ha : AtSl RPrepared w a xs) :
    Calls Try.prog 28 #[.slice a n c] w fun e w' => ∃ g, e = .returned (.slice (some ⟨g, 0, none⟩) n n) ∧ RPrepareds.Own w' (From w.heap.size w'.heap.size) [.slice (some ⟨g, 0, none⟩) n n] xs ∧ Below w.heap.size w w' := by
  obtain ⟨i0, hi, hz0, hz1, hz2⟩ := info_parts Try.infoPrepared
  go_enter Try.func28, Try.ntmps28
  go_wp2_with (at_make; refine wpList_make_full _ rfl _ _ 27 rfl w.heap.size 64 i0 (.agg #[.int .i64 0, .int .i64 0, .slice none 0 0]) 3 Try.underlying27 hi hz0 hz1 .i64 .i64 _ _ n rfl rfl rfl rfl (by rw [hz2]; omega) (by unfold maxLen; omega) (Nat.le_refl _) ?_; intro w1 hown hg)
  have hb1 : Below w.heap.size w w1 := (Below.refl _ _).grown hg (Nat.le_refl _) (by simp)
  have hlt1 := (hown.lt w.heap.size rfl).2
  obtain ⟨cs, hcs⟩ : ∃ cs, cs = (madeCells (Value.agg #[.int .i64 0, .int .i64 0, .slice none 0 0]).cells (n * 3)).toList := ⟨_, rfl⟩
  rw [← hcs] at hown
  have hst : Laid RPrepared w1 (From w.heap.size w1.heap.size) 64 (some ⟨w.heap.size, 0, none⟩) n n xs cs (fun _ _ => False) 0 := Laid.start hz (by omega) (owns_mono hown (Nat.zero_le _)) (fun b hb => hown.lt b hb) _
  clear hcs hown hg
  go_loopw [4] (fun i wr => ∃ (k : Nat) (cells : List Value) (G : Nat → Nat → Prop), k ≤ n ∧ i = .int .i64 k ∧ Laid RPrepared wr (From w.heap.size wr.heap.size) 64 (some ⟨w.heap.size, 0, none⟩) n n xs cells G k ∧ w.heap.size < wr.heap.size ∧ Below w.heap.size w wr) (fun i _ => n - (intOf i).toNat)
  case atStart => exact ⟨0, cs, _, Nat.zero_le _, rfl, hst, hlt1, hb1⟩
  case round =>
    clear hst hb1 hlt1 cs
    obtain ⟨k, cells, G, hk, rfl, ho, hzr, hbw⟩ := hrel
    by_cases hlt : k < n
    · obtain ⟨b, off, rfl, _, hc⟩ := RPrepared.row (AtSl.below ha hbw) (by omega)
      obtain ⟨⟨zi0, zi1, x2⟩, hx⟩ : ∃ x, xs[k]? = some x := ⟨_, List.getElem?_eq_getElem (by omega)⟩
      obtain ⟨a2, n2, c2, e0, e1, e2, ⟨hv2, hu2, hw2, _⟩⟩ := hc k _ hx
      have hsm := smallPrepared hv2 (hs k _ hx)
      have hki : (k : Int) < (n : Int) := by omega
      have HO := Hid.mk ho
      have HX := Hid.mk hx
      have HC := Hid.mk (toPrepared_rep a2 n2 c2 zi0 zi1 x2 wr hv2 hsm hw2)
      clear hc ha ho hx hs hsm hv2 hw2
      go_wp2_with fail
      refine HC.out.mono ?_
      rintro e w2 ⟨g2, rfl, ho2, hb2⟩
      have hput := HO.out.put hlt (fun b hb => hb.2) hb2 HX.out ho2 (fun b hb => hb.1)
      have z2 := hb2.size
      have hput2 := hput.mono (F' := From w.heap.size w2.heap.size) (fun b hb => by rcases hb with hb | hb; exact ⟨hb.1, by have := hb.2; omega⟩; exact ⟨by have := hb.1; omega, hb.2⟩)
      have HP : Hid (Laid RPrepared (((w2.setCell ⟨w.heap.size, k * 3, none⟩ (.int .i64 zi0)).setCell ⟨w.heap.size, k * 3 + 1, none⟩ (.int .i64 zi1)).setCell ⟨w.heap.size, k * 3 + 2, none⟩ (.slice (some ⟨g2, 0, none⟩) n2 n2)) (From w.heap.size w2.heap.size) 64 (some ⟨w.heap.size, 0, none⟩) n n xs _ _ (k + 1)) := hput2
      have hout := (HO.out.below hb2).outer
      have hln := hout.1
      have hln : cells.length = n * 3 := hln
      obtain ⟨v0, hv0⟩ : ∃ u, cells[k * 3]? = some u := ⟨_, List.getElem?_eq_getElem (by omega)⟩
      have q0 : w2.cell? ⟨w.heap.size, k * 3, none⟩ = some v0 := (hout.cellAt _ (show k * 3 < n * 3 by omega)).trans hv0
      have f0 : w2.frozen? ⟨w.heap.size, k * 3, none⟩ = false := hout.frozenAt _
      clear hv0
      obtain ⟨v1, hv1⟩ : ∃ u, cells[k * 3 + 1]? = some u := ⟨_, List.getElem?_eq_getElem (by omega)⟩
      have q1 : w2.cell? ⟨w.heap.size, k * 3 + 1, none⟩ = some v1 := (hout.cellAt _ (show k * 3 + 1 < n * 3 by omega)).trans hv1
      have f1 : w2.frozen? ⟨w.heap.size, k * 3 + 1, none⟩ = false := hout.frozenAt _
      clear hv1
      obtain ⟨v2, hv2⟩ : ∃ u, cells[k * 3 + 2]? = some u := ⟨_, List.getElem?_eq_getElem (by omega)⟩
      have q2 : w2.cell? ⟨w.heap.size, k * 3 + 2, none⟩ = some v2 := (hout.cellAt _ (show k * 3 + 2 < n * 3 by omega)).trans hv2
      have f2 : w2.frozen? ⟨w.heap.size, k * 3 + 2, none⟩ = false := hout.frozenAt _
      clear hv2
      have HB : Hid (Below w.heap.size w (((w2.setCell ⟨w.heap.size, k * 3, none⟩ (.int .i64 zi0)).setCell ⟨w.heap.size, k * 3 + 1, none⟩ (.int .i64 zi1)).setCell ⟨w.heap.size, k * 3 + 2, none⟩ (.slice (some ⟨g2, 0, none⟩) n2 n2))) := ((((hbw.trans (hb2.mono hbw.size)).setCell (Nat.le_refl _) _).setCell (Nat.le_refl _) _).setCell (Nat.le_refl _) _)
      clear hput hput2 hout hln hb2 hbw ho2 HC e0 e1 e2
      go_wp2
      go_roundw
      case rel => exact ⟨k + 1, _, _, by omega, by go_num, by simpa only [World.setCell, Array.size_modify] using HP.out, by simp [World.setCell]; omega, HB.out⟩
      case measure => simp [intOf]; omega
    · obtain rfl : k = n := by omega
      go_wp2
      go_ret
      exact ⟨_, rfl, ⟨_, _, _, _, _, rfl, ho⟩, hbw⟩

end Go.Proofs.Ytmbjmmnodcebbaa

/- Contract of the program's prepare. -/
namespace Go.Proofs.Ytmbjmmnodcebbaa
open Go.RowKit

/-- Behind 'append(l, x)' of an old thing that the call owns besides. -/
theorem laid_pushAt {α : Type} {A : Rep α} {w w4 : World} {F H F' : Nat → Prop} {e : TypeId} {a a' : Option Addr} {n c c' : Nat} {xs : List α} {cells vs : List Value} {G : Nat → Nat → Prop} {x : α} (h : Laid A w F e a n c xs cells G n) (hF : ∀ b, F b → b < w.heap.size) (ho : A.Own w4 H vs x) (hH : ∀ b, H b → ¬ F b ∧ b < w.heap.size)
    (hg : ∀ b, b < w.heap.size → (Value.slice a n c).ownBlock ≠ some b → w4.heap[b]? = w.heap[b]?) (hown : w4.ownsRow 0 e A.k (.slice a' (n + 1) c') (n + 1) (cells ++ vs))
    (hat : (Value.slice a' (n + 1) c').ownBlock = (Value.slice a n c).ownBlock ∨ ∀ b, (Value.slice a' (n + 1) c').ownBlock = some b → w.heap.size ≤ b) (hbig : n + 1 ≤ 9223372036854775807)
    (hF1 : ∀ b, F b → F' b) (hF2 : ∀ b, H b → F' b) (hF3 : ∀ b, (Value.slice a' (n + 1) c').ownBlock = some b → F' b) :
    Laid A w4 F' e a' (n + 1) c' (xs ++ [x]) (cells ++ vs) (fun i => if i = n then H else G i) (n + 1) := by
  have hl := A.ownLen ho
  have hcl : cells.length = n * A.k := h.outer.1
  have hB : ∀ i b, i < n → G i b → b < w.heap.size ∧ (Value.slice a n c).ownBlock ≠ some b := fun i b hi hg' => ⟨hF b (h.rowF i b hi hg').1, (h.rowF i b hi hg').2⟩
  have hO : ∀ b, (Value.slice a n c).ownBlock = some b → F b := fun b hb' => h.outerF b hb'
  refine ⟨by simp [h.len], hbig, hown, hF3, fun i y hi hy => ?_, fun i b hi hb' => ?_, fun i j b hi hj hij hb' => ?_⟩
  · by_cases ei : i = n
    · subst ei
      simp only [if_true]
      obtain rfl : x = y := by
        rw [List.getElem?_append_right (by rw [h.len]; exact Nat.le_refl _)] at hy
        simpa [h.len] using hy
      have := sub_append_right (cells := cells) hl
      rw [hcl] at this
      rw [this]
      exact ho
    · simp only [if_neg ei]
      have hi' : i < n := by omega
      rw [List.getElem?_append_left (by rw [h.len]; exact hi')] at hy
      rw [sub_append_left (by rw [hcl]; exact at_mul hi')]
      exact A.frame (h.row i y hi' hy) (fun b hb' _ => hg b (hB i b hi' hb').1 (hB i b hi' hb').2)
  · by_cases ei : i = n
    · subst ei
      simp only [if_true] at hb'
      refine ⟨hF2 b hb', fun e' => ?_⟩
      have h1 := hH b hb'
      rcases hat with h2 | h2
      · rw [h2] at e'
        exact h1.1 (hO b e')
      · have := h2 b e'
        omega
    · simp only [if_neg ei] at hb'
      have h1 := hB i b (by omega) hb'
      refine ⟨hF1 b (h.rowF i b (by omega) hb').1, fun e' => ?_⟩
      rcases hat with h2 | h2
      · rw [h2] at e'; exact h1.2 e'
      · have := h2 b e'
        omega
  · by_cases ei : i = n
    · subst ei
      simp only [if_true] at hb'
      simp only [if_neg (Ne.symm hij)]
      intro e'
      exact (hH b hb').1 (h.rowF j b (by omega) e').1
    · simp only [if_neg ei] at hb'
      by_cases ej : j = n
      · simp only [if_pos ej]
        intro e'
        exact (hH b e').1 (h.rowF i b (by omega) hb').1
      · simp only [if_neg ej]
        exact h.apart i j b (by omega) (by omega) hij hb'

set_option maxRecDepth 100000 in
set_option maxHeartbeats 2000000 in
theorem prepare_no (F : Nat → Prop) (a0 : Option Addr) (n0 c0 : Nat) (a2 : Option Addr) (n2 c2 : Nat) (a3 : Option Addr) (n3 c3 : Nat) (a4 : Option Addr) (n4 c4 : Nat) (t la up : Int) (src pd : List Int) (ps : List TPrepared) (ou : List Int) (w : World) (hc : n2 = 0 ∨ n3 = 4 ∨ 1000 < la + (n3 : Int) + 1) (h34 : n3 ≤ 4) (hl0 : 0 ≤ la) (hl1 : la ≤ 1000) (ho : RSink.Own w F [.slice a0 n0 c0, .int .i64 t, .slice a2 n2 c2, .slice a3 n3 c3, .slice a4 n4 c4, .int .i64 la, .int .i64 up] (src, t, pd, ps, ou, la, up)) :
    Calls Try.prog 42 #[.agg #[.slice a0 n0 c0, .int .i64 t, .slice a2 n2 c2, .slice a3 n3 c3, .slice a4 n4 c4, .int .i64 la, .int .i64 up]] w fun e w' => KRet e w w' F false (src, t, pd, ps, ou, la, up) ∧ Below w.heap.size w w' := by
  obtain ⟨W, hW⟩ : ∃ W, W = (w.alloc (.cells #[.slice a0 n0 c0, .int .i64 t, .slice a2 n2 c2, .slice a3 n3 c3, .slice a4 n4 c4, .int .i64 la, .int .i64 up] 29)).alloc (.cells #[.slice none 0 0, .int .i64 0, .slice none 0 0, .slice none 0 0, .slice none 0 0, .int .i64 0, .int .i64 0] 29) := ⟨_, rfl⟩
  have B0 : Below w.heap.size w W := by rw [hW]; exact ((Below.refl _ _).alloc (Nat.le_refl _) _).alloc (by simp) _
  have b0 : W.heap[w.heap.size]? = some (.cells #[.slice a0 n0 c0, .int .i64 t, .slice a2 n2 c2, .slice a3 n3 c3, .slice a4 n4 c4, .int .i64 la, .int .i64 up] 29 (0, 0)) := by rw [hW]; exact blk_alloc (heap_alloc_new w _) _
  have b1 : W.heap[w.heap.size + 1]? = some (.cells #[.slice none 0 0, .int .i64 0, .slice none 0 0, .slice none 0 0, .slice none 0 0, .int .i64 0, .int .i64 0] 29 (0, 0)) := by
    rw [hW]
    have q := heap_alloc_new (w.alloc (.cells #[.slice a0 n0 c0, .int .i64 t, .slice a2 n2 c2, .slice a3 n3 c3, .slice a4 n4 c4, .int .i64 la, .int .i64 up] 29)) (.cells #[.slice none 0 0, .int .i64 0, .slice none 0 0, .slice none 0 0, .slice none 0 0, .int .i64 0, .int .i64 0] 29)
    simpa only [World.size_alloc] using q
  have zW : W.heap.size = w.heap.size + 2 := by rw [hW]; simp
  have p0 := blk_cell b0 0 (v := .slice a0 n0 c0) rfl
  have p1 := blk_cell b0 1 (v := .int .i64 t) rfl
  have p2 := blk_cell b0 2 (v := .slice a2 n2 c2) rfl
  have p3 := blk_cell b0 3 (v := .slice a3 n3 c3) rfl
  have p4 := blk_cell b0 4 (v := .slice a4 n4 c4) rfl
  have p5 := blk_cell b0 5 (v := .int .i64 la) rfl
  have p6 := blk_cell b0 6 (v := .int .i64 up) rfl
  have y0 := blk_cell b1 0 (v := .slice none 0 0) rfl
  have y1 := blk_cell b1 1 (v := .int .i64 0) rfl
  have y2 := blk_cell b1 2 (v := .slice none 0 0) rfl
  have y3 := blk_cell b1 3 (v := .slice none 0 0) rfl
  have y4 := blk_cell b1 4 (v := .slice none 0 0) rfl
  have y5 := blk_cell b1 5 (v := .int .i64 0) rfl
  have y6 := blk_cell b1 6 (v := .int .i64 0) rfl
  have fz0 := blk_frozen b1 0
  have fz1 := blk_frozen b1 1
  have fz2 := blk_frozen b1 2
  have fz3 := blk_frozen b1 3
  have fz4 := blk_frozen b1 4
  have fz5 := blk_frozen b1 5
  have fz6 := blk_frozen b1 6
  have hw1 : IntKind.i64.wrap (la + (n3 : Int)) = la + (n3 : Int) := IntWalk.i64_in _ (by omega)
  have hw2 : IntKind.i64.wrap (la + (n3 : Int) + 1) = la + (n3 : Int) + 1 := IntWalk.i64_in _ (by omega)
  by_cases h20 : n2 = 0
  · have hb2 : ((n2 : Int) == 0) = true := beq_iff_eq.2 (by omega)
    clear hc h34 hl0 hl1 h20
    go_enter Try.func42, Try.ntmps42
    go_upto_region 1 with fail
    rw [← hW]
    clear hW
    go_upto_region 3 with fail
    obtain ⟨Y, hY⟩ : ∃ u, u = stores W (w.heap.size + 1) 0 [.slice a0 n0 c0, .int .i64 t, .slice a2 n2 c2, .slice a3 n3 c3, .slice a4 n4 c4, .int .i64 la, .int .i64 up] := ⟨_, rfl⟩
    have S : Off (fun b => b = w.heap.size + 1) W Y := by rw [hY]; exact stores_off (F := fun b => b = w.heap.size + 1) _ _ _ _ rfl
    have zY : Y.heap.size = W.heap.size := by rw [hY]; exact stores_size _ _ _ _
    have D : Below w.heap.size w Y := by rw [hY]; exact stores_below _ _ _ _ B0 (by omega)
    have R : Hid (KRet (.returned (.tuple #[.agg #[.slice a0 n0 c0, .int .i64 t, .slice a2 n2 c2, .slice a3 n3 c3, .slice a4 n4 c4, .int .i64 la, .int .i64 up], .bool false])) w Y F false (src, t, pd, ps, ou, la, up) ∧ Below w.heap.size w Y) := Hid.mk
      ⟨⟨a0, n0, c0, a2, n2, c2, a3, n3, c3, a4, n4, c4, rfl, RSink.mono (RSink.ownBelow ho D) (fun b h => .inl h), Off.below D⟩, D⟩
    have HY := Hid.mk hY
    clear S hY zY D b0 b1 B0 zW
    go_wp2
    refine bodyPost_ret (v := .tuple #[.agg #[.slice a0 n0 c0, .int .i64 t, .slice a2 n2 c2, .slice a3 n3 c3, .slice a4 n4 c4, .int .i64 la, .int .i64 up], .bool false]) (by simp [results, Try.results42, go_sem, y0, y1, y2, y3, y4, y5, y6]) rfl ?_
    have h := R.out
    rw [HY.out] at h
    exact h
  by_cases h44 : n3 = 4
  · have hb2 : ((n2 : Int) == 0) = false := beq_eq_false_iff_ne.2 (by omega)
    have hb4 : ((n3 : Int) == 4) = true := beq_iff_eq.2 (by omega)
    clear hc h34 hl0 hl1 h20 h44
    go_enter Try.func42, Try.ntmps42
    go_upto_region 1 with fail
    rw [← hW]
    clear hW
    go_upto_region 3 with fail
    obtain ⟨Y, hY⟩ : ∃ u, u = stores W (w.heap.size + 1) 0 [.slice a0 n0 c0, .int .i64 t, .slice a2 n2 c2, .slice a3 n3 c3, .slice a4 n4 c4, .int .i64 la, .int .i64 up] := ⟨_, rfl⟩
    have S : Off (fun b => b = w.heap.size + 1) W Y := by rw [hY]; exact stores_off (F := fun b => b = w.heap.size + 1) _ _ _ _ rfl
    have zY : Y.heap.size = W.heap.size := by rw [hY]; exact stores_size _ _ _ _
    have D : Below w.heap.size w Y := by rw [hY]; exact stores_below _ _ _ _ B0 (by omega)
    have R : Hid (KRet (.returned (.tuple #[.agg #[.slice a0 n0 c0, .int .i64 t, .slice a2 n2 c2, .slice a3 n3 c3, .slice a4 n4 c4, .int .i64 la, .int .i64 up], .bool false])) w Y F false (src, t, pd, ps, ou, la, up) ∧ Below w.heap.size w Y) := Hid.mk
      ⟨⟨a0, n0, c0, a2, n2, c2, a3, n3, c3, a4, n4, c4, rfl, RSink.mono (RSink.ownBelow ho D) (fun b h => .inl h), Off.below D⟩, D⟩
    have HY := Hid.mk hY
    clear S hY zY D b0 b1 B0 zW
    go_wp2
    refine bodyPost_ret (v := .tuple #[.agg #[.slice a0 n0 c0, .int .i64 t, .slice a2 n2 c2, .slice a3 n3 c3, .slice a4 n4 c4, .int .i64 la, .int .i64 up], .bool false]) (by simp [results, Try.results42, go_sem, y0, y1, y2, y3, y4, y5, y6]) rfl ?_
    have h := R.out
    rw [HY.out] at h
    exact h
  have hb2 : ((n2 : Int) == 0) = false := beq_eq_false_iff_ne.2 (by omega)
  have hb4 : ((n3 : Int) == 4) = false := beq_eq_false_iff_ne.2 (by omega)
  have hb5 : (1000 : Int) < la + (n3 : Int) + 1 := by omega
  clear hc h34 hl0 hl1 h20 h44
  go_enter Try.func42, Try.ntmps42
  go_upto_region 1 with fail
  rw [← hW]
  clear hW
  go_upto_region 3 with fail
  obtain ⟨Y, hY⟩ : ∃ u, u = stores W (w.heap.size + 1) 0 [.slice a0 n0 c0, .int .i64 t, .slice a2 n2 c2, .slice a3 n3 c3, .slice a4 n4 c4, .int .i64 la, .int .i64 up] := ⟨_, rfl⟩
  have S : Off (fun b => b = w.heap.size + 1) W Y := by rw [hY]; exact stores_off (F := fun b => b = w.heap.size + 1) _ _ _ _ rfl
  have zY : Y.heap.size = W.heap.size := by rw [hY]; exact stores_size _ _ _ _
  have D : Below w.heap.size w Y := by rw [hY]; exact stores_below _ _ _ _ B0 (by omega)
  have R : Hid (KRet (.returned (.tuple #[.agg #[.slice a0 n0 c0, .int .i64 t, .slice a2 n2 c2, .slice a3 n3 c3, .slice a4 n4 c4, .int .i64 la, .int .i64 up], .bool false])) w Y F false (src, t, pd, ps, ou, la, up) ∧ Below w.heap.size w Y) := Hid.mk
    ⟨⟨a0, n0, c0, a2, n2, c2, a3, n3, c3, a4, n4, c4, rfl, RSink.mono (RSink.ownBelow ho D) (fun b h => .inl h), Off.below D⟩, D⟩
  have HY := Hid.mk hY
  clear S hY zY D b0 b1 B0 zW
  go_wp2
  refine bodyPost_ret (v := .tuple #[.agg #[.slice a0 n0 c0, .int .i64 t, .slice a2 n2 c2, .slice a3 n3 c3, .slice a4 n4 c4, .int .i64 la, .int .i64 up], .bool false]) (by simp [results, Try.results42, go_sem, y0, y1, y2, y3, y4, y5, y6]) rfl ?_
  have h := R.out
  rw [HY.out] at h
  exact h

set_option maxRecDepth 100000 in
set_option maxHeartbeats 2000000 in
theorem prepare_yes (F : Nat → Prop) (a0 : Option Addr) (n0 c0 : Nat) (a2 : Option Addr) (n2 c2 : Nat) (a3 : Option Addr) (n3 c3 : Nat) (a4 : Option Addr) (n4 c4 : Nat) (t la up : Int) (src pd : List Int) (ps : List TPrepared) (ou : List Int) (w : World) (hF : ∀ b, F b → b < w.heap.size) (h2p : 0 < n2) (h34 : n3 < 4) (hl0 : 0 ≤ la) (hl1 : la + (n3 : Int) + 1 ≤ 1000) (ho : RSink.Own w F [.slice a0 n0 c0, .int .i64 t, .slice a2 n2 c2, .slice a3 n3 c3, .slice a4 n4 c4, .int .i64 la, .int .i64 up] (src, t, pd, ps, ou, la, up)) :
    Calls Try.prog 42 #[.agg #[.slice a0 n0 c0, .int .i64 t, .slice a2 n2 c2, .slice a3 n3 c3, .slice a4 n4 c4, .int .i64 la, .int .i64 up]] w fun e w' => KRet e w w' F true (src, t, [], ps ++ [(la + (n3 : Int) + 1, t, pd)], ou, la, up) := by
  obtain ⟨W, hW⟩ : ∃ W, W = (w.alloc (.cells #[.slice a0 n0 c0, .int .i64 t, .slice a2 n2 c2, .slice a3 n3 c3, .slice a4 n4 c4, .int .i64 la, .int .i64 up] 29)).alloc (.cells #[.slice none 0 0, .int .i64 0, .slice none 0 0, .slice none 0 0, .slice none 0 0, .int .i64 0, .int .i64 0] 29) := ⟨_, rfl⟩
  have B0 : Below w.heap.size w W := by rw [hW]; exact ((Below.refl _ _).alloc (Nat.le_refl _) _).alloc (by simp) _
  have b0 : W.heap[w.heap.size]? = some (.cells #[.slice a0 n0 c0, .int .i64 t, .slice a2 n2 c2, .slice a3 n3 c3, .slice a4 n4 c4, .int .i64 la, .int .i64 up] 29 (0, 0)) := by rw [hW]; exact blk_alloc (heap_alloc_new w _) _
  have b1 : W.heap[w.heap.size + 1]? = some (.cells #[.slice none 0 0, .int .i64 0, .slice none 0 0, .slice none 0 0, .slice none 0 0, .int .i64 0, .int .i64 0] 29 (0, 0)) := by
    rw [hW]
    have q := heap_alloc_new (w.alloc (.cells #[.slice a0 n0 c0, .int .i64 t, .slice a2 n2 c2, .slice a3 n3 c3, .slice a4 n4 c4, .int .i64 la, .int .i64 up] 29)) (.cells #[.slice none 0 0, .int .i64 0, .slice none 0 0, .slice none 0 0, .slice none 0 0, .int .i64 0, .int .i64 0] 29)
    simpa only [World.size_alloc] using q
  have zW : W.heap.size = w.heap.size + 2 := by rw [hW]; simp
  obtain ⟨i0, hi0, hx0, hx1, hx2⟩ := info_parts Try.infoPrepared
  obtain ⟨F0, F2, F3, F4, h0, h2, h3, h4, f0, f2, f3, f4, d02, d03, d04, d23, d24, d34⟩ := RSink.own_iff ho
  have h3k := h3
  obtain ⟨a3', n3', c3', cs, G, hcs, hL⟩ := h3k
  simp only [List.cons.injEq, Value.slice.injEq, and_true] at hcs
  obtain ⟨rfl, rfl, rfl⟩ := hcs
  have hb2 : ((n2 : Int) == 0) = false := beq_eq_false_iff_ne.2 (by omega)
  have hb4 : ((n3 : Int) == 4) = false := beq_eq_false_iff_ne.2 (by omega)
  have hb5 : ¬ (1000 : Int) < la + (n3 : Int) + 1 := by omega
  have hw1 : IntKind.i64.wrap (la + (n3 : Int)) = la + (n3 : Int) := IntWalk.i64_in _ (by omega)
  have hw2 : IntKind.i64.wrap (la + (n3 : Int) + 1) = la + (n3 : Int) + 1 := IntWalk.i64_in _ (by omega)
  have HL := Hid.mk hL
  have HLB := Hid.mk (owns_below hL.outer B0)
  have H2 := Hid.mk h2
  have HN : Hid (∀ Z : World, Z = W.alloc (.cells #[.int .i64 (la + (n3 : Int) + 1), .int .i64 t, .slice a2 n2 c2] 64) → Z.cell? ⟨W.heap.size, 0, none⟩ = some (.int .i64 (la + (n3 : Int) + 1)) ∧ Z.cell? ⟨W.heap.size, 1, none⟩ = some (.int .i64 t) ∧ Z.cell? ⟨W.heap.size, 2, none⟩ = some (.slice a2 n2 c2)) := Hid.mk (fun Z hZ => by rw [hZ]; simp)
  have p0 := blk_cell b0 0 (v := .slice a0 n0 c0) rfl
  have p1 := blk_cell b0 1 (v := .int .i64 t) rfl
  have p2 := blk_cell b0 2 (v := .slice a2 n2 c2) rfl
  have p3 := blk_cell b0 3 (v := .slice a3 n3 c3) rfl
  have p4 := blk_cell b0 4 (v := .slice a4 n4 c4) rfl
  have p5 := blk_cell b0 5 (v := .int .i64 la) rfl
  have p6 := blk_cell b0 6 (v := .int .i64 up) rfl
  have HB0 := Hid.mk b0
  clear hL h2 h3
  have hzz : w.heap.size + 2 = W.heap.size := by omega
  have HZZ := Hid.mk hzz
  have zWa : w.heap.size + 2 ≤ W.heap.size := by omega
  have zWb : W.heap.size ≤ w.heap.size + 2 := by omega
  clear hzz zW
  go_enter Try.func42, Try.ntmps42
  go_upto_region 1 with fail
  rw [← hW]
  clear hW
  go_upto_region 4 with fail
  have hq := HN.out _ rfl
  have bA : Below W.heap.size W (W.alloc (.cells #[.int .i64 (la + (n3 : Int) + 1), .int .i64 t, .slice a2 n2 c2] 64)) := (Below.refl _ _).alloc (Nat.le_refl _) _
  go_wp2_with (at_builtin; refine wpList_app_vals rfl (.tmp 28) (.tmp 35) 27 rfl 0 64 i0 (.agg #[.int .i64 0, .int .i64 0, .slice none 0 0]) 3 40 Try.underlying27 hi0 hx0 hx1 hx2 rfl (by decide) (.slice a3 n3 c3) n3 cs rfl (owns_below HLB.out bA) (some ⟨W.heap.size, 0, none⟩) 1 1 [.int .i64 (la + (n3 : Int) + 1), .int .i64 t, .slice a2 n2 c2] rfl rfl (fun ad he => by cases he; intro j u hu; match j, hu with | 0, hu => (obtain rfl := Option.some.inj hu; exact hq.1) | 1, hu => (obtain rfl := Option.some.inj hu; exact hq.2.1) | 2, hu => (obtain rfl := Option.some.inj hu; exact hq.2.2)) (by intro u hu; simp at hu; rcases hu with rfl | rfl | rfl <;> rfl) (fun h => by cases h) (by unfold maxLen; omega) (by omega) (Nat.zero_le _) ?_)
  intro r d w2 ho2 hg2 ht2
  have zZ : (W.alloc (.cells #[.int .i64 (la + (n3 : Int) + 1), .int .i64 t, .slice a2 n2 c2] 64)).heap.size = W.heap.size + 1 := by simp
  obtain ⟨Z, hZ⟩ : ∃ Z, W.alloc (.cells #[.int .i64 (la + (n3 : Int) + 1), .int .i64 t, .slice a2 n2 c2] 64) = Z := ⟨_, rfl⟩
  rw [hZ] at hg2 bA zZ
  have hold : ∀ k, k < Z.heap.size → (Value.slice a3 n3 c3).ownBlock ≠ some k → w2.heap[k]? = Z.heap[k]? := fun k hk hn => hg2.block k hk (fun e => hn e.symm)
  have hnF : ∀ k, w.heap.size ≤ k → (Value.slice a3 n3 c3).ownBlock ≠ some k := fun k hk e => by have := hF k (f3 k (HL.out.outerF k e)); omega
  have z2 := hg2.size
  have k0 := (hold w.heap.size (by omega) (hnF _ (by omega))).trans (blk_below HB0.out bA)
  have k1 := (hold (w.heap.size + 1) (by omega) (hnF _ (by omega))).trans (blk_below b1 bA)
  have hout : ∀ b, (Value.slice r (n3 + 1) d).ownBlock = some b → F3 b ∨ (w.heap.size + 3 ≤ b ∧ b < w2.heap.size) := fun b hb => by
    have hlt := (ho2.lt b hb).2
    rcases ht2 with q | q
    · rw [q] at hb; exact .inl (HL.out.outerF b hb)
    · rw [q] at hb
      have h2 := Option.some.inj hb
      exact .inr ⟨by omega, hlt⟩
  have hwh : ∀ b, b < w.heap.size → (Value.slice a3 n3 c3).ownBlock ≠ some b → w2.heap[b]? = w.heap[b]? := fun b hb hn => (hold b (by omega) hn).trans ((bA.block b (by omega)).trans (B0.block b hb))
  have HLD : Hid (Laid RPrepared w2 (fun b => (F3 b ∨ F2 b) ∨ (w.heap.size + 3 ≤ b ∧ b < w2.heap.size)) 64 r (n3 + 1) d (ps ++ [(la + (n3 : Int) + 1, t, pd)]) (cs ++ [.int .i64 (la + (n3 : Int) + 1), .int .i64 t, .slice a2 n2 c2]) (fun i => if i = n3 then F2 else G i) (n3 + 1)) := Hid.mk
    (laid_pushAt HL.out (fun b h => hF b (f3 b h)) (RPrepared.own_mk (RInts.frame H2.out (fun b h hl => hwh b hl (fun e => d23 b h (HL.out.outerF b e)))) (fun _ h => h)) (fun b h => ⟨fun e => d23 b h e, hF b (f2 b h)⟩) hwh ho2
      (ht2.imp id (fun q b e => by rw [q] at e; have := Option.some.inj e; omega)) (by omega) (fun b h => .inl (.inl h)) (fun b h => .inl (.inr h)) (fun b e => (hout b e).imp .inl id))
  have HLN : Hid (∀ b, ((F3 b ∨ F2 b) ∨ (w.heap.size + 3 ≤ b ∧ b < w2.heap.size)) → ¬ (b = w.heap.size ∨ b = w.heap.size + 1)) := Hid.mk (fun b h e => by
    rcases h with (h | h) | h
    · have := hF b (f3 b h); rcases e with e | e <;> omega
    · have := hF b (f2 b h); rcases e with e | e <;> omega
    · rcases e with e | e <;> omega)
  have HO : Off (fun b => F3 b ∨ w.heap.size ≤ b) w w2 := (Off.below (B0.trans (bA.mono B0.size))).trans (Off.grown hg2 (fun k hk => .inl (HL.out.outerF k hk)))
  clear ho2 hg2 ht2 hold hnF hwh hout p0 p1 p2 p3 p4 p5 p6 bA zZ hq
  obtain ⟨X2, hX2⟩ : ∃ u, u = w2.setCell ⟨w.heap.size, 3, none⟩ (.slice r (n3 + 1) d) := ⟨_, rfl⟩
  have e0 : X2.heap[w.heap.size]? = some (.cells #[.slice a0 n0 c0, .int .i64 t, .slice a2 n2 c2, .slice r (n3 + 1) d, .slice a4 n4 c4, .int .i64 la, .int .i64 up] 29 (0, 0)) := by rw [hX2]; exact blk_set k0 3 _
  have e1 : X2.heap[w.heap.size + 1]? = some (.cells #[.slice none 0 0, .int .i64 0, .slice none 0 0, .slice none 0 0, .slice none 0 0, .int .i64 0, .int .i64 0] 29 (0, 0)) := by rw [hX2]; exact blk_other k1 (by simp) _
  have hS : Off (fun b => b = w.heap.size) w2 X2 := by rw [hX2]; exact Off.set (F := fun b => b = w.heap.size) (a := ⟨w.heap.size, 3, none⟩) rfl _
  have q3 := blk_cell k0 3 (v := .slice a3 n3 c3) rfl
  have g3 := blk_frozen k0 3
  go_upto_region 5 with fail
  rw [← hX2]
  clear hX2 q3 g3 k0 k1
  obtain ⟨X3, hX3⟩ : ∃ u, u = X2.setCell ⟨w.heap.size, 2, none⟩ (.slice none 0 0) := ⟨_, rfl⟩
  have k0 : X3.heap[w.heap.size]? = some (.cells #[.slice a0 n0 c0, .int .i64 t, .slice none 0 0, .slice r (n3 + 1) d, .slice a4 n4 c4, .int .i64 la, .int .i64 up] 29 (0, 0)) := by rw [hX3]; exact blk_set e0 2 _
  have k1 : X3.heap[w.heap.size + 1]? = some (.cells #[.slice none 0 0, .int .i64 0, .slice none 0 0, .slice none 0 0, .slice none 0 0, .int .i64 0, .int .i64 0] 29 (0, 0)) := by rw [hX3]; exact blk_other e1 (by simp) _
  have hS : Off (fun b => b = w.heap.size) w2 X3 := hS.trans (by rw [hX3]; exact Off.set (F := fun b => b = w.heap.size) (a := ⟨w.heap.size, 2, none⟩) rfl _)
  have q2 := blk_cell e0 2 (v := .slice a2 n2 c2) rfl
  have g2 := blk_frozen e0 2
  go_upto_region 6 with fail
  rw [← hX3]
  clear hX3 q2 g2 e0 e1
  have z4 := hS.size
  have HON := Hid.mk hS
  have HLD := Hid.mk (HLD.out.frame (fun b k hb => hS.block b hb (fun e => HLN.out b k (.inl e))))
  have HO := Hid.mk (HO.trans (hS.mono (F' := fun b => F3 b ∨ w.heap.size ≤ b) (fun b h => .inr (by have h2 : b = w.heap.size := h; omega))))
  have h2 := H2.out
  have h3 : True := trivial
  have p0 := blk_cell k0 0 (v := .slice a0 n0 c0) rfl
  have p1 := blk_cell k0 1 (v := .int .i64 t) rfl
  have p2 := blk_cell k0 2 (v := .slice none 0 0) rfl
  have p3 := blk_cell k0 3 (v := .slice r (n3 + 1) d) rfl
  have p4 := blk_cell k0 4 (v := .slice a4 n4 c4) rfl
  have p5 := blk_cell k0 5 (v := .int .i64 la) rfl
  have p6 := blk_cell k0 6 (v := .int .i64 up) rfl
  have y0 := blk_cell k1 0 (v := .slice none 0 0) rfl
  have y1 := blk_cell k1 1 (v := .int .i64 0) rfl
  have y2 := blk_cell k1 2 (v := .slice none 0 0) rfl
  have y3 := blk_cell k1 3 (v := .slice none 0 0) rfl
  have y4 := blk_cell k1 4 (v := .slice none 0 0) rfl
  have y5 := blk_cell k1 5 (v := .int .i64 0) rfl
  have y6 := blk_cell k1 6 (v := .int .i64 0) rfl
  have fz0 := blk_frozen k1 0
  have fz1 := blk_frozen k1 1
  have fz2 := blk_frozen k1 2
  have fz3 := blk_frozen k1 3
  have fz4 := blk_frozen k1 4
  have fz5 := blk_frozen k1 5
  have fz6 := blk_frozen k1 6
  clear hS HL HLB HN HB0 h2 h3
  obtain ⟨Y, hY⟩ : ∃ u, u = stores X3 (w.heap.size + 1) 0 [.slice a0 n0 c0, .int .i64 t, .slice none 0 0, .slice r (n3 + 1) d, .slice a4 n4 c4, .int .i64 la, .int .i64 up] := ⟨_, rfl⟩
  have S : Off (fun b => b = w.heap.size + 1) X3 Y := by rw [hY]; exact stores_off (F := fun b => b = w.heap.size + 1) _ _ _ _ rfl
  have zY : Y.heap.size = X3.heap.size := by rw [hY]; exact stores_size _ _ _ _
  have HY2 := Hid.mk (HO.out.trans (S.mono (F' := fun b => F3 b ∨ w.heap.size ≤ b) (fun b h => .inr (by have h2 : b = w.heap.size + 1 := h; omega))))
  have R : Hid (KRet (.returned (.tuple #[.agg #[.slice a0 n0 c0, .int .i64 t, .slice none 0 0, .slice r (n3 + 1) d, .slice a4 n4 c4, .int .i64 la, .int .i64 up], .bool true])) w Y F true (src, t, [], ps ++ [(la + (n3 : Int) + 1, t, pd)], ou, la, up)) := Hid.mk
    ⟨a0, n0, c0, none, 0, 0, r, n3 + 1, d, a4, n4, c4, rfl, RSink.own_mk (F0 := F0) (F2 := fun _ => False) (F3 := fun b => (F3 b ∨ F2 b) ∨ (w.heap.size ≤ b ∧ b < Y.heap.size)) (F4 := F4)
      (RInts.ownOff h0 HY2.out (fun b k q => q.elim (d03 b k) (fun q => by have := hF b (f0 b k); omega)))
      (RInts.void _ _)
      ⟨r, n3 + 1, d, _, _, rfl, (HLD.out.frame (fun b k hb => (S.block b hb (fun e => HLN.out b k (.inr e))))).mono (fun b h => h.elim .inl (fun q => .inr ⟨by omega, by omega⟩))⟩
      (RInts.ownOff h4 HY2.out (fun b k q => q.elim (fun q => d34 b q k) (fun q => by have := hF b (f4 b k); omega)))
      (fun b h => .inl (f0 b h)) (fun _ h => h.elim) (fun b h => h.elim (fun h => .inl (h.elim (f3 b) (f2 b))) .inr) (fun b h => .inl (f4 b h)) (fun _ _ h => h.elim) (fun b h k => k.elim (fun k => k.elim (d03 b h) (d02 b h)) (fun k => by have := hF b (f0 b h); omega)) d04 (fun _ h => h.elim) (fun _ h => h.elim) (fun b h k => h.elim (fun h => h.elim (fun h => d34 b h k) (fun h => d24 b h k)) (fun h => by have := hF b (f4 b k); omega)),
      Off.cut (HY2.out.mono (fun b h => h.elim (fun h => .inl (f3 b h)) .inr))⟩
  have HY := Hid.mk hY
  clear S hY zY HO HON k0 k1
  go_wp2
  refine bodyPost_ret (v := .tuple #[.agg #[.slice a0 n0 c0, .int .i64 t, .slice none 0 0, .slice r (n3 + 1) d, .slice a4 n4 c4, .int .i64 la, .int .i64 up], .bool true]) (by simp [results, Try.results42, go_sem, y0, y1, y2, y3, y4, y5, y6]) rfl ?_
  have h := R.out
  rw [HY.out] at h
  exact h

end Go.Proofs.Ytmbjmmnodcebbaa
