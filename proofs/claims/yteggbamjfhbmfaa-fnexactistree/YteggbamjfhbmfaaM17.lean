/- Several texts of one proof, in build order: QrT, IntE, QrE, IntM, QrM. -/
import Derived.Test.YteggbamjfhbmfaaM16
import Derived.Test.YteggbamjfhbmfaaM9
import Derived.Deep.CutBlock
import Derived.Test.YteggbamjfhbmfaaM3

/- Contracts of the laws' helpers over queries: toAtom, toAtomS, toQuery. -/
namespace Go.Proofs.Yteggbamjfhbmfaa
open Go.RowKit

theorem toAtom_any (p : Int) (a : Option Addr) (n c : Nat) (zss : List Int) (w : World) (hz : zss.length = n) (hn : n ≤ 1048576) (ha : At w a zss) :
    Calls Try.prog 71 #[.agg #[.int .i64 p, .slice a n c]] w fun e w' => ∃ g, e = .returned (.agg #[.int .i64 p, .slice (some ⟨g, 0, none⟩) n n]) ∧ RAtm.Own w' (From w.heap.size w'.heap.size) [.int .i64 p, .slice (some ⟨g, 0, none⟩) n n] (p, zss) ∧ Below w.heap.size w w' := by
  go_enter Try.func71, Try.ntmps71
  go_wp2_with fail
  refine (toInts_rep _ _ _ zss _ hz hn ?_).mono ?_
  · exact At.below ha ((((Below.refl _ _).alloc (Nat.le_refl _) _).alloc (by simp) _).alloc (by simp; omega) _)
  · rintro e w' ⟨g, rfl, hown, hb⟩
    obtain ⟨hc, hf⟩ := bcell hb
    have hz' : w.heap.size + 2 < w'.heap.size := by have := hb.size; simp at this; omega
    simp only [World.size_alloc] at hc hf hown
    go_wp2
    have dj : ∀ b, From (w.heap.size + 1 + 1 + 1) w'.heap.size b → ¬ From 0 (w.heap.size + 3) b := fun b h k => by have := h.1; have := k.2; omega
    have ho := RInts.ownOff (RInts.ownOff (RInts.ownOff hown (Off.set (F := From 0 (w.heap.size + 3)) (a := ⟨w.heap.size + 1 + 1, 1, none⟩) ⟨by simp, by simp⟩ (.slice (some ⟨g, 0, none⟩) n n)) dj) (Off.set (F := From 0 (w.heap.size + 3)) (a := ⟨w.heap.size + 1, 0, none⟩) ⟨by simp, by simp⟩ (.int .i64 p)) dj) (Off.set (F := From 0 (w.heap.size + 3)) (a := ⟨w.heap.size + 1, 1, none⟩) ⟨by simp, by simp⟩ (.slice (some ⟨g, 0, none⟩) n n)) dj
    refine bodyPost_ret (v := .agg #[.int .i64 p, .slice (some ⟨g, 0, none⟩) n n]) (by simp [results, Try.results71, go_sem, hc]) rfl ⟨_, rfl, RAtm.own_mk (RInts.mono ho fun b h => ⟨by have := h.1; omega, by have := h.2; simp only [World.setCell, Array.size_modify]; exact this⟩), ?_⟩
    exact (((((((Below.refl _ _).alloc (Nat.le_refl _) _).alloc (by simp) _).alloc (by simp; omega) _).trans (hb.mono (by simp; omega))).setCell (by simp; omega) _).setCell (by simp) _).setCell (by simp) _

theorem Try.infoAtom : (Try.prog.info? 76).map (fun i => (i.zero, i.size, i.bytes)) = some (some (.agg #[.int .i64 0, .slice none 0 0]), 2, 32) := by kernel_rfl

set_option maxRecDepth 100000 in
set_option maxHeartbeats 4000000 in
theorem toAtomS_any (a : Option Addr) (n c : Nat) (xs : List Atm) (w : World) (hz : xs.length = n) (hn : n ≤ 1048576) (hs : ∀ (i : Nat) (x : Atm), xs[i]? = some x → x.2.length ≤ 1048576) (ha : AtQ w a xs) :
    Calls Try.prog 40 #[.slice a n c] w fun e w' => ∃ g, e = .returned (.slice (some ⟨g, 0, none⟩) n n) ∧ RAtms.Own w' (From w.heap.size w'.heap.size) [.slice (some ⟨g, 0, none⟩) n n] xs ∧ Below w.heap.size w w' := by
  obtain ⟨i0, hi, hz0, hz1, hz2⟩ := info_parts Try.infoAtom
  go_enter Try.func40, Try.ntmps40
  go_wp2_with (at_make; refine wpList_make_full _ rfl _ _ 30 rfl w.heap.size 76 i0 (.agg #[.int .i64 0, .slice none 0 0]) 2 Try.underlying30 hi hz0 hz1 .i64 .i64 _ _ n rfl rfl rfl rfl (by rw [hz2]; omega) (by unfold maxLen; omega) (Nat.le_refl _) ?_; intro w1 hown hg)
  have hb1 : Below w.heap.size w w1 := (Below.refl _ _).grown hg (Nat.le_refl _) (by simp)
  have hlt1 := (hown.lt w.heap.size rfl).2
  obtain ⟨cs, hcs⟩ : ∃ cs, cs = (madeCells (Value.agg #[.int .i64 0, .slice none 0 0]).cells (n * 2)).toList := ⟨_, rfl⟩
  rw [← hcs] at hown
  have hst : Laid RAtm w1 (From w.heap.size w1.heap.size) 76 (some ⟨w.heap.size, 0, none⟩) n n xs cs (fun _ _ => False) 0 := Laid.start hz (by omega) (owns_mono hown (Nat.zero_le _)) (fun b hb => hown.lt b hb) _
  clear hcs hown hg
  go_loopw [4] (fun i wr => ∃ (k : Nat) (cells : List Value) (G : Nat → Nat → Prop), k ≤ n ∧ i = .int .i64 k ∧ Laid RAtm wr (From w.heap.size wr.heap.size) 76 (some ⟨w.heap.size, 0, none⟩) n n xs cells G k ∧ w.heap.size < wr.heap.size ∧ Below w.heap.size w wr) (fun i _ => n - (intOf i).toNat)
  case atStart => exact ⟨0, cs, _, Nat.zero_le _, rfl, hst, hlt1, hb1⟩
  case round =>
    clear hst hb1 hlt1 cs
    obtain ⟨k, cells, G, hk, rfl, ho, hzr, hbw⟩ := hrel
    by_cases hlt : k < n
    · obtain ⟨b, off, rfl, _, hc⟩ := AtQ.row (AtSl.below ha hbw) (by omega)
      obtain ⟨x, hx⟩ : ∃ x, xs[k]? = some x := ⟨_, List.getElem?_eq_getElem (by omega)⟩
      obtain ⟨ta, tn, tc, g0, g1, u1, u2, u3, _⟩ := hc k x hx
      have hsm := hs k x hx
      have hki : (k : Int) < (n : Int) := by omega
      have HO := Hid.mk ho
      have HX := Hid.mk hx
      have HC := Hid.mk (toAtom_any x.1 ta tn tc x.2 wr u1 (by omega) u3)
      clear hc ha ho hs hx u1 u3 hsm
      go_wp2_with fail
      refine HC.out.mono ?_
      rintro e w2 ⟨h2, rfl, ho2, hb2⟩
      obtain ⟨g, hgg⟩ : ∃ g, g = w.heap.size := ⟨_, rfl⟩
      have hput := HO.out.put hlt (fun b hb => hb.2) hb2 HX.out ho2 (fun b hb => hb.1)
      have z2 := hb2.size
      have hput2 := hput.mono (F' := From w.heap.size w2.heap.size) (fun b hb => by rcases hb with hb | hb; exact ⟨hb.1, by have := hb.2; omega⟩; exact ⟨by have := hb.1; omega, hb.2⟩)
      have HP : Hid (Laid RAtm ((w2.setCell ⟨w.heap.size, k * 2, none⟩ (.int .i64 x.1)).setCell ⟨w.heap.size, k * 2 + 1, none⟩ (.slice (some ⟨h2, 0, none⟩) tn tn)) (From w.heap.size w2.heap.size) 76 (some ⟨w.heap.size, 0, none⟩) n n xs _ _ (k + 1)) := hput2
      have hout := (HO.out.below hb2).outer
      have hln := hout.1
      have hln : cells.length = n * 2 := hln
      obtain ⟨u0, hu0⟩ : ∃ u, cells[k * 2]? = some u := ⟨_, List.getElem?_eq_getElem (by omega)⟩
      have q0 : w2.cell? ⟨w.heap.size, k * 2, none⟩ = some u0 := (hout.cellAt _ (show k * 2 < n * 2 by omega)).trans hu0
      have f0 : w2.frozen? ⟨w.heap.size, k * 2, none⟩ = false := hout.frozenAt _
      clear hu0
      obtain ⟨u1, hu1⟩ : ∃ u, cells[k * 2 + 1]? = some u := ⟨_, List.getElem?_eq_getElem (by omega)⟩
      have q1 : w2.cell? ⟨w.heap.size, k * 2 + 1, none⟩ = some u1 := (hout.cellAt _ (show k * 2 + 1 < n * 2 by omega)).trans hu1
      have f1 : w2.frozen? ⟨w.heap.size, k * 2 + 1, none⟩ = false := hout.frozenAt _
      clear hu1
      have HB : Hid (Below w.heap.size w ((w2.setCell ⟨w.heap.size, k * 2, none⟩ (.int .i64 x.1)).setCell ⟨w.heap.size, k * 2 + 1, none⟩ (.slice (some ⟨h2, 0, none⟩) tn tn))) := (((hbw.trans (hb2.mono hbw.size)).setCell (Nat.le_refl _) _).setCell (Nat.le_refl _) _)
      clear hput hput2 hout hln hb2 hbw ho2 g0 g1 hgg
      go_wp2
      go_roundw
      case rel => exact ⟨k + 1, _, _, by omega, by go_num, by simpa only [World.setCell, Array.size_modify] using HP.out, by simp [World.setCell]; omega, HB.out⟩
      case measure => simp [intOf]; omega
    · obtain rfl : k = n := by omega
      go_wp2
      go_ret
      exact ⟨_, rfl, ⟨_, _, _, _, _, rfl, ho⟩, hbw⟩

set_option maxRecDepth 100000 in
set_option maxHeartbeats 2000000 in
theorem toQuery_any (sa : Option Addr) (sn sc : Nat) (pa : Option Addr) (pn pc : Nat) (ss : List Int) (xs : List Atm) (w : World) (hsz : ss.length = sn) (hz : xs.length = pn) (hsn : sn ≤ 1048576) (hpn : pn ≤ 1048576) (hsm : ∀ (i : Nat) (x : Atm), xs[i]? = some x → x.2.length ≤ 1048576) (hsa : At w sa ss) (ha : AtQ w pa xs) :
    Calls Try.prog 11 #[.agg #[.slice sa sn sc, .slice pa pn pc]] w fun e w' => ∃ g1 g2, e = .returned (.agg #[.slice (some ⟨g1, 0, none⟩) sn sn, .slice (some ⟨g2, 0, none⟩) pn pn]) ∧
      RQry.Own w' (From w.heap.size w'.heap.size) [.slice (some ⟨g1, 0, none⟩) sn sn, .slice (some ⟨g2, 0, none⟩) pn pn] (ss, xs) ∧ Below w.heap.size w w' := by
  obtain ⟨W, hW⟩ : ∃ W, W = (((w.alloc (.cells #[.slice sa sn sc, .slice pa pn pc] 25)).alloc (.cells #[.slice none 0 0, .slice none 0 0] 32)).alloc (.cells #[.slice none 0 0, .slice none 0 0] 32)) := ⟨_, rfl⟩
  have B0 : Below w.heap.size w W := by rw [hW]; exact ((((Below.refl _ _).alloc (Nat.le_refl _) _).alloc (by simp) _).alloc (by simp; omega) _)
  have zW : w.heap.size + 2 < W.heap.size := by rw [hW]; simp
  have b2 : W.heap[w.heap.size + 1 + 1]? = some (.cells #[.slice none 0 0, .slice none 0 0] 32 (0, 0)) := by
    rw [hW]
    have q := heap_alloc_new ((w.alloc (.cells #[.slice sa sn sc, .slice pa pn pc] 25)).alloc (.cells #[.slice none 0 0, .slice none 0 0] 32)) (.cells #[.slice none 0 0, .slice none 0 0] 32)
    simpa only [World.size_alloc] using q
  have b1 : W.heap[w.heap.size + 1]? = some (.cells #[.slice none 0 0, .slice none 0 0] 32 (0, 0)) := by
    rw [hW]
    refine blk_alloc ?_ _
    have q := heap_alloc_new (w.alloc (.cells #[.slice sa sn sc, .slice pa pn pc] 25)) (.cells #[.slice none 0 0, .slice none 0 0] 32)
    simpa only [World.size_alloc] using q
  have b0 : W.heap[w.heap.size]? = some (.cells #[.slice sa sn sc, .slice pa pn pc] 25 (0, 0)) := by
    rw [hW]
    exact blk_alloc (blk_alloc (heap_alloc_new w _) _) _
  have U3 := Hid.mk hsa
  have V3 := Hid.mk ha
  have HSM := Hid.mk hsm
  have HU1 := Hid.mk hsz
  have HV1 := Hid.mk hz
  clear hsa ha hsz hz hsm
  go_enter Try.func11, Try.ntmps11
  go_wp2_with fail
  rw [← hW]
  clear hW
  refine (toInts_rep sa sn sc ss W HU1.out hsn (At.below U3.out B0)).mono ?_
  rintro e w1 ⟨g1, rfl, o1, hb1⟩
  have k2 := blk_below b2 hb1
  have k1 := blk_below b1 hb1
  have k0 := blk_below b0 hb1
  clear b2 b1 b0
  have z1 := hb1.size
  have B1 : Below w.heap.size w w1 := B0.trans (hb1.mono (by omega))
  have q := blk_cell k2 0 (v := .slice none 0 0) rfl
  have f := blk_frozen k2 0
  have r := blk_cell k0 1 (v := .slice pa pn pc) rfl
  obtain ⟨X1, hX1⟩ : ∃ u, u = w1.setCell ⟨w.heap.size + 1 + 1, 0, none⟩ (.slice (some ⟨g1, 0, none⟩) sn sn) := ⟨_, rfl⟩
  have y1 : w1.heap.size ≤ X1.heap.size := by rw [hX1]; simp [World.setCell]
  have b2 : X1.heap[w.heap.size + 1 + 1]? = some (.cells #[.slice (some ⟨g1, 0, none⟩) sn sn, .slice none 0 0] 32 (0, 0)) := by rw [hX1]; exact blk_set k2 0 _
  have b1 : X1.heap[w.heap.size + 1]? = some (.cells #[.slice none 0 0, .slice none 0 0] 32 (0, 0)) := by rw [hX1]; exact blk_other k1 (by simp) _
  have C1 : Below w.heap.size w X1 := by rw [hX1]; exact B1.setCell (by simp; omega) _
  have S1 : Hid (Off (From w.heap.size (w.heap.size + 3)) w1 X1) := by rw [hX1]; exact Off.set ⟨by simp; omega, by simp⟩ _
  have O1 : Hid (RInts.Own X1 (From W.heap.size w1.heap.size) [.slice (some ⟨g1, 0, none⟩) sn sn] ss) := RInts.ownOff o1 S1.out (fun b h k => by have := h.1; have := k.2; omega)
  clear o1 hb1 S1 k2 k1 k0
  go_wp2_with fail
  rw [← hX1]
  clear hX1 q f r
  refine (toAtomS_any pa pn pc xs X1 HV1.out hpn HSM.out (AtSl.below V3.out C1)).mono ?_
  rintro e w2 ⟨g2, rfl, o2, hb2⟩
  have k2 := blk_below b2 hb2
  have k1 := blk_below b1 hb2
  clear b2 b1
  have z2 := hb2.size
  have B2 : Below w.heap.size w w2 := C1.trans (hb2.mono (by omega))
  have q := blk_cell k2 1 (v := .slice none 0 0) rfl
  have f := blk_frozen k2 1
  obtain ⟨X2, hX2⟩ : ∃ u, u = w2.setCell ⟨w.heap.size + 1 + 1, 1, none⟩ (.slice (some ⟨g2, 0, none⟩) pn pn) := ⟨_, rfl⟩
  have y2 : w2.heap.size ≤ X2.heap.size := by rw [hX2]; simp [World.setCell]
  have b2 : X2.heap[w.heap.size + 1 + 1]? = some (.cells #[.slice (some ⟨g1, 0, none⟩) sn sn, .slice (some ⟨g2, 0, none⟩) pn pn] 32 (0, 0)) := by rw [hX2]; exact blk_set k2 1 _
  have b1 : X2.heap[w.heap.size + 1]? = some (.cells #[.slice none 0 0, .slice none 0 0] 32 (0, 0)) := by rw [hX2]; exact blk_other k1 (by simp) _
  have C2 : Below w.heap.size w X2 := by rw [hX2]; exact B2.setCell (by simp; omega) _
  have S2 : Hid (Off (From w.heap.size (w.heap.size + 3)) w2 X2) := by rw [hX2]; exact Off.set ⟨by simp; omega, by simp⟩ _
  have O2 : Hid (RInts.Own X2 (From W.heap.size w1.heap.size) [.slice (some ⟨g1, 0, none⟩) sn sn] ss) := RInts.ownOff (RInts.ownBelow O1.out hb2) S2.out (fun b h k => by have := h.1; have := k.2; omega)
  have Q2 : Hid (RAtms.Own X2 (From X1.heap.size w2.heap.size) [.slice (some ⟨g2, 0, none⟩) pn pn] xs) := RAtms.ownOff o2 S2.out (fun b h k => by have := h.1; have := k.2; omega)
  clear o2 hb2 S2 O1 k2 k1
  go_upto_region 4 with fail
  rw [← hX2]
  clear hX2 q f
  have u0 := blk_cell b2 0 (v := .slice (some ⟨g1, 0, none⟩) sn sn) rfl
  have u1 := blk_cell b2 1 (v := .slice (some ⟨g2, 0, none⟩) pn pn) rfl
  have p0 := blk_cell b1 0 (v := .slice none 0 0) rfl
  have p1 := blk_cell b1 1 (v := .slice none 0 0) rfl
  have f0 := blk_frozen b1 0
  have f1 := blk_frozen b1 1
  obtain ⟨Y, hY⟩ : ∃ u, u = stores X2 (w.heap.size + 1) 0 [.slice (some ⟨g1, 0, none⟩) sn sn, .slice (some ⟨g2, 0, none⟩) pn pn] := ⟨_, rfl⟩
  have D : Below w.heap.size w Y := by rw [hY]; exact stores_below _ _ _ _ C2 (by omega)
  have S : Off (From w.heap.size (w.heap.size + 3)) X2 Y := by rw [hY]; exact stores_off _ _ _ _ ⟨by omega, by omega⟩
  have zY : Y.heap.size = X2.heap.size := by rw [hY]; exact stores_size _ _ _ _
  have R : Hid (RQry.Own Y (From w.heap.size Y.heap.size) [.slice (some ⟨g1, 0, none⟩) sn sn, .slice (some ⟨g2, 0, none⟩) pn pn] (ss, xs)) :=
    ⟨[_], [_], _, _, rfl, RInts.ownOff O2.out S (fun b h k => by have := h.1; have := k.2; omega), RAtms.ownOff Q2.out S (fun b h k => by have := h.1; have := k.2; omega), fun b h => ⟨by have := h.1; omega, by have := h.2; omega⟩, fun b h => ⟨by have := h.1; omega, by have := h.2; omega⟩, fun b h k => by have := h.2; have := k.1; omega⟩
  have HY := Hid.mk hY
  have HD := Hid.mk D
  clear S D O2 Q2 hY zY b1 b2 C2
  go_wp2
  refine bodyPost_ret (v := .agg #[.slice (some ⟨g1, 0, none⟩) sn sn, .slice (some ⟨g2, 0, none⟩) pn pn]) (by simp [results, Try.results11, go_sem, p0, p1]) rfl ⟨g1, g2, rfl, ?_, ?_⟩
  · have h := R.out
    rw [HY.out] at h
    exact h
  · have h := HD.out
    rw [HY.out] at h
    exact h

end Go.Proofs.Yteggbamjfhbmfaa

/- Slices of numbers that are alike are held equal. -/
namespace Go.Proofs.Yteggbamjfhbmfaa
open Go.RowKit

theorem eqIntS_same (a a' : Option Addr) (n c c' : Nat) (zs : List Int) (w : World) (hz : zs.length = n) (hn : n ≤ 1048576) (ha : At w a zs) (ha' : At w a' zs) :
    Calls Try.prog 16 #[.slice a n c, .slice a' n c'] w fun e w' => e = .returned (.bool true) ∧ Below w.heap.size w w' :=
  (eqIntS_any a a' n n c c' zs zs w hz hz hn hn ha ha').mono fun _ _ ⟨h1, h2⟩ => ⟨by rw [h1, decide_eq_true rfl], h2⟩
end Go.Proofs.Yteggbamjfhbmfaa

/- Contracts of the laws' helpers over queries that are alike: eqAtom, eqAtomS, eqQuery. -/
namespace Go.Proofs.Yteggbamjfhbmfaa
open Go.RowKit

theorem eqAtom_same (p : Int) (a a' : Option Addr) (n c c' : Nat) (zss : List Int) (w : World) (hz : zss.length = n) (hn : n ≤ 1048576) (ha : At w a zss) (ha' : At w a' zss) :
    Calls Try.prog 79 #[.agg #[.int .i64 p, .slice a n c], .agg #[.int .i64 p, .slice a' n c']] w fun e w' => e = .returned (.bool true) ∧ Below w.heap.size w w' := by
  obtain ⟨W, hW⟩ : ∃ W, W = (w.alloc (.cells #[.int .i64 p, .slice a n c] 76)).alloc (.cells #[.int .i64 p, .slice a' n c'] 76) := ⟨_, rfl⟩
  have B : Below w.heap.size w W := by rw [hW]; exact ((Below.refl _ _).alloc (Nat.le_refl _) _).alloc (by simp) _
  have HA := Hid.mk (ha.below B)
  have HA' := Hid.mk (ha'.below B)
  clear ha ha'
  go_enter Try.func79, Try.ntmps79
  go_wp2_with fail
  rw [← hW]
  clear hW
  refine (eqIntS_same _ _ _ _ _ zss _ hz hn HA.out HA'.out).mono ?_
  rintro e w1 ⟨rfl, hb⟩
  go_wp2
  go_ret
  exact ⟨rfl, B.trans (hb.mono B.size)⟩

set_option maxRecDepth 100000 in
set_option maxHeartbeats 4000000 in
theorem eqAtomS_same (a a' : Option Addr) (n c c' : Nat) (xs : List Atm) (w : World) (hz : xs.length = n) (hn : n ≤ 1048576) (hs : ∀ (i : Nat) (x : Atm), xs[i]? = some x → x.2.length ≤ 1048576) (ha : AtQ w a xs) (ha' : AtQ w a' xs) :
    Calls Try.prog 44 #[.slice a n c, .slice a' n c'] w fun e w' => e = .returned (.bool true) ∧ Below w.heap.size w w' := by
  by_cases h0 : n = 0
  · subst h0
    go_enter Try.func44, Try.ntmps44
    go_wp2
    refine wp_loop_rounds 1 ?_
    rw [rounds_succ]
    go_wp2
    go_ret
    exact ⟨rfl, Below.refl _ _⟩
  · go_enter Try.func44, Try.ntmps44
    go_wp2
    go_loopw [5] (fun i wr => ∃ (k : Nat), k ≤ n ∧ i = .int .i64 k ∧ Below w.heap.size w wr) (fun i _ => n - (intOf i).toNat)
    case atStart => exact ⟨0, Nat.zero_le _, rfl, Below.refl _ _⟩
    case round =>
      obtain ⟨k, hk, rfl, hbw⟩ := hrel
      by_cases hlt : k < n
      · obtain ⟨b, off, rfl, _, hc⟩ := AtQ.row (AtSl.below ha hbw) (by omega)
        obtain ⟨b', off', rfl, _, hc'⟩ := AtQ.row (AtSl.below ha' hbw) (by omega)
        obtain ⟨x, hx⟩ : ∃ x, xs[k]? = some x := ⟨_, List.getElem?_eq_getElem (by omega)⟩
        obtain ⟨ta, tn, tc, g0, g1, u1, u2, u3, _⟩ := hc k x hx
        obtain ⟨ta', tn', tc', h0, h1, u1', _, u3', _⟩ := hc' k x hx
        obtain rfl : tn = tn' := u1.symm.trans u1'
        have hsm := hs k x hx
        have hki : (k : Int) < (n : Int) := by omega
        have HE : Hid (∀ w' : World, Below wr.heap.size wr w' → Calls Try.prog 79 #[.agg #[.int .i64 x.1, .slice ta tn tc], .agg #[.int .i64 x.1, .slice ta' tn tc']] w' fun e w'' => e = .returned (.bool true) ∧ Below w'.heap.size w' w'') :=
          fun w' hw' => eqAtom_same x.1 ta ta' tn tc tc' x.2 w' u1 (by omega) (At.below u3 hw') (At.below u3' hw')
        clear hc hc' ha ha' hs hsm hx u1 u3 u1' u3'
        go_wp2_with fail
        go_region_held3 (fun w' => w'.cell? ⟨b, off + k * 2, none⟩ = some (.int .i64 x.1) ∧ w'.cell? ⟨b, off + k * 2 + 1, none⟩ = some (.slice ta tn tc) ∧ w'.cell? ⟨b', off' + k * 2, none⟩ = some (.int .i64 x.1) ∧ w'.cell? ⟨b', off' + k * 2 + 1, none⟩ = some (.slice ta' tn tc')) (refine ⟨?_, ?_, ?_, ?_⟩ <;> assumption)
          (first | (go_at_call 79; refine (HE.out wr.drew (Below.refl _ _).drew).mono ?_; rintro e w2 ⟨rfl, hb2⟩; have e0 := cell_later hb2 g0; have e1 := cell_later hb2 g1; have d0 := cell_later hb2 h0; have d1 := cell_later hb2 h1) | fail)
        go_wp2
        go_roundw
        case rel => exact ⟨k + 1, by omega, by go_num, hbw.drew.trans (hb2.mono hbw.size)⟩
        case measure => simp [intOf]; omega
      · go_wp2
        go_ret
        exact ⟨rfl, hbw⟩

set_option maxRecDepth 100000 in
set_option maxHeartbeats 2000000 in
theorem eqQuery_same (sa sa' : Option Addr) (sn sc sc' : Nat) (pa pa' : Option Addr) (pn pc pc' : Nat) (ss : List Int) (xs : List Atm) (w : World) (hsz : ss.length = sn) (hz : xs.length = pn) (hsn : sn ≤ 1048576) (hpn : pn ≤ 1048576) (hsm : ∀ (i : Nat) (x : Atm), xs[i]? = some x → x.2.length ≤ 1048576) (hsa : At w sa ss) (ha : AtQ w pa xs) (hsa' : At w sa' ss) (ha' : AtQ w pa' xs) :
    Calls Try.prog 15 #[.agg #[.slice sa sn sc, .slice pa pn pc], .agg #[.slice sa' sn sc', .slice pa' pn pc']] w fun e w' => e = .returned (.bool true) ∧ Below w.heap.size w w' := by
  obtain ⟨W, hW⟩ : ∃ W, W = ((w.alloc (.cells #[.slice sa sn sc, .slice pa pn pc] 32)).alloc (.cells #[.slice sa' sn sc', .slice pa' pn pc'] 32)) := ⟨_, rfl⟩
  have B0 : Below w.heap.size w W := by rw [hW]; exact (((Below.refl _ _).alloc (Nat.le_refl _) _).alloc (by simp) _)
  have q0 : W.cell? ⟨w.heap.size, 1, none⟩ = some (.slice pa pn pc) := by rw [hW]; simp
  have q1 : W.cell? ⟨w.heap.size + 1, 1, none⟩ = some (.slice pa' pn pc') := by rw [hW]; simp
  have U3 := Hid.mk (And.intro hsa hsa')
  have V3 := Hid.mk (And.intro ha ha')
  have HU1 := Hid.mk hsz
  have HSM := Hid.mk hsm
  have HV1 := Hid.mk hz
  clear hsa ha hsa' ha' hsz hz hsm
  go_enter Try.func15, Try.ntmps15
  go_wp2_with fail
  rw [← hW]
  clear hW
  refine (eqIntS_same sa sa' sn sc sc' ss W HU1.out hsn (At.below U3.out.1 B0) (At.below U3.out.2 B0)).mono ?_
  rintro e w1 ⟨rfl, hb1⟩
  have B1 := B0.trans (hb1.mono B0.size)
  have q0 := cell_later hb1 q0
  have q1 := cell_later hb1 q1
  clear hb1 B0
  go_wp2_with fail
  refine (eqAtomS_same pa pa' pn pc pc' xs w1 HV1.out hpn HSM.out (AtSl.below V3.out.1 B1) (AtSl.below V3.out.2 B1)).mono ?_
  rintro e w2 ⟨rfl, hb2⟩
  go_wp2
  go_ret
  exact ⟨rfl, B1.trans (hb2.mono B1.size)⟩

end Go.Proofs.Yteggbamjfhbmfaa

/- Slices of numbers, marked, as things that are owned. -/
namespace Go.Proofs.Yteggbamjfhbmfaa
open Go.RowKit

theorem markInts_rep (F : Nat → Prop) (a : Option Addr) (n c : Nat) (zs : List Int) (m : Int) (w : World) (hn : n ≤ 1048576) (h0 : 0 ≤ m) (h1 : m ≤ 268435456) (ho : RInts.Own w F [.slice a n c] zs) :
    Calls Try.prog 18 #[.slice a n c, .int .i64 m] w fun e w' => e = .returned (.int .i64 (m + n)) ∧ RInts.Own w' F [.slice a n c] (mkInts m zs) ∧ Off F w w' := by
  obtain ⟨h2, h3, h4, h5⟩ := RInts.own_iff.1 ho
  refine (markIntS_any 0 a n c _ m w hn h0 (by omega) h4).mono fun e w' ⟨e1, e2, e3⟩ => ⟨e1, RInts.own_iff.2 ⟨by unfold mkInts; rw [marks_length, h2], h3, by unfold mkInts; rw [h2]; exact e2, h5⟩, Off.grown e3 h5⟩
end Go.Proofs.Yteggbamjfhbmfaa

/- Contracts of the laws' markAtomS, markQuery over things that are owned. -/
namespace Go.Proofs.Yteggbamjfhbmfaa
open Go.RowKit

def mkAtm (m : Int) (x : Atm) : Atm := (m, mkInts (m + 1) x.2)
def mkAtms (m : Int) (xs : List Atm) : List Atm := mkL mkAtm amk m xs
def qmk (x : Qry) : Nat := x.1.length + msum x.2 x.2.length
theorem qry_small {hs : List Int} {xs : List Atm} {hn n : Nat} (h1 : hs.length = hn) (h2 : xs.length = n) (h : qcost (hs, xs) ≤ 1048576) : hn ≤ 1048576 ∧ SmA xs n ∧ qmk (hs, xs) ≤ 1048576 := by
  have hm := msum_eq xs xs.length (Nat.le_refl _)
  unfold qcost at h
  unfold qmk
  simp only at h ⊢
  subst h1 h2
  refine ⟨by omega, ⟨rfl, by omega⟩, by rw [hm]; omega⟩
def mkQry (m : Int) (x : Qry) : Qry := (mkInts m x.1, mkAtms (m + x.1.length) x.2)

set_option maxRecDepth 100000 in
set_option maxHeartbeats 4000000 in
theorem markAtomS_rep (F : Nat → Prop) (a : Option Addr) (n c : Nat) (xs : List Atm) (m : Int) (w : World) (hn : n ≤ 1048576) (ht : msum xs n ≤ 1048576) (h0 : 0 ≤ m) (h1 : m ≤ 134217728) (ho : RAtms.Own w F [.slice a n c] xs) :
    Calls Try.prog 45 #[.slice a n c, .int .i64 m] w fun e w' => e = .returned (.int .i64 (m + msum xs n)) ∧ RAtms.Own w' F [.slice a n c] (mkAtms m xs) ∧ Off F w w' := by
  obtain ⟨a', n', c', cells, G, he, hl⟩ := ho
  simp only [List.cons.injEq, Value.slice.injEq, and_true] at he
  obtain ⟨rfl, rfl, rfl⟩ := he
  go_enter Try.func45, Try.ntmps45
  go_wp2
  go_loopw [1, 5] (fun q i wr => ∃ (k : Nat) (cells : List Value), k ≤ n ∧ i = .int .i64 k ∧ q = .int .i64 (m + msum xs k) ∧ Laid RAtm wr F 76 a n c (mkTo mkAtm amk m xs k) cells G n ∧ Off F w wr) (fun _ i _ => n - (intOf i).toNat)
  case atStart => exact ⟨0, cells, Nat.zero_le _, rfl, by simp [msum_zero], by rw [mkTo_zero]; exact hl, Off.refl _ _⟩
  case round =>
    have hzl := hl.len
    clear hl cells
    obtain ⟨k, cells, hk, rfl, rfl, hl, hof⟩ := hrel
    by_cases hlt : k < n
    · obtain ⟨x, hx⟩ : ∃ x, xs[k]? = some x := ⟨_, List.getElem?_eq_getElem (by omega)⟩
      have hrow := hl.row k x hlt (mkTo_next _ _ hx)
      obtain ⟨ta, tn, tc, hcs, r1⟩ := RAtm.own_open hrow
      rcases hl.outer.2 with ⟨_, h00⟩ | ⟨g, cap, cur, hv, _⟩
      · omega
      simp only [Value.slice.injEq, true_and] at hv
      obtain ⟨rfl, rfl⟩ := hv
      have hcl : cells.length = n * 2 := hl.outer.1
      have hcs2 : sub cells (k * 2) 2 = [.int .i64 x.1, .slice ta tn tc] := hcs
      have c1 : cells[k * 2 + 1]? = some (.slice ta tn tc) := by
        have h9 := sub_at (cells := cells) (o := k * 2) (k := 2) (j := 1) (by omega)
        rw [hcs2] at h9
        simpa using h9.symm
      have ht1 : x.2.length = tn := (RInts.own_iff.1 r1).1
      have hts := msum_succ hx
      have htm := msum_mono xs (k + 1) n (by omega)
      have hps : amk x = 1 + tn := by unfold amk; rw [ht1]
      have hgG : ¬ G k g := fun h => (hl.rowF k g hlt h).2 rfl
      have HL := Hid.mk hl
      have HO := Hid.mk hof
      have HX := Hid.mk hx
      obtain ⟨T, hT⟩ : ∃ T, msum xs k = T := ⟨_, rfl⟩
      have HT := Hid.mk hT
      rw [hps] at hts
      rw [hT] at hts ⊢
      have hs1 : tn ≤ 1048576 := by omega
      have HTS := Hid.mk hts
      have HC2 := Hid.mk hcs2
      have hki : (k : Int) < (n : Int) := by omega
      obtain ⟨M, hM⟩ : ∃ M : Int, M = m + T := ⟨_, rfl⟩
      have hM0 : 0 ≤ M := by omega
      have hM1 : M ≤ 140000000 := by omega
      have HM := Hid.mk hM
      rw [← hM]
      have q0 : wr.cell? ⟨g, k * 2, none⟩ = some (.int .i64 x.1) := by
        rw [hl.outer.cellAt _ (show k * 2 < n * 2 by omega)]
        have h9 := sub_at (cells := cells) (o := k * 2) (k := 2) (j := 0) (by omega)
        rw [hcs2] at h9
        simpa using h9.symm
      have f0 : wr.frozen? ⟨g, k * 2, none⟩ = false := HL.out.outer.frozenAt _
      have q1 : wr.cell? ⟨g, k * 2 + 1, none⟩ = some (.slice ta tn tc) := (HL.out.outer.cellAt _ (show k * 2 + 1 < n * 2 by omega)).trans c1
      obtain ⟨X, hX⟩ : ∃ u, u = wr.setCell ⟨g, k * 2, none⟩ (.int .i64 M) := ⟨_, rfl⟩
      have hXs : X = stores wr g (k * 2) [.int .i64 M] := hX
      have oX : X.ownsRow 0 76 2 (.slice (some ⟨g, 0, none⟩) n c) n (sets cells (k * 2) [.int .i64 M]) := by rw [hXs]; exact owns_stores HL.out.outer _ _
      have fX : Off (fun b => b = g) wr X := by rw [hXs]; exact stores_off (F := fun b => b = g) _ _ _ _ rfl
      have R1 : Hid (RInts.Own X (G k) [.slice ta tn tc] x.2) := RInts.ownOff r1 fX (fun b hb e => hgG (e ▸ hb))
      have cX : (sets cells (k * 2) [.int .i64 M])[k * 2 + 1]? = some (.slice ta tn tc) := (sets_far _ _ _ _ (by simp only [List.length_cons, List.length_nil]; omega)).trans c1
      have x1 : X.cell? ⟨g, k * 2 + 1, none⟩ = some (.slice ta tn tc) := (oX.cellAt _ (show k * 2 + 1 < n * 2 by omega)).trans cX
      have HSB : Hid (sub (sets cells (k * 2) [.int .i64 M]) (k * 2) 2 = [.int .i64 M, .slice ta tn tc]) := by
        apply List.ext_getElem?
        intro j
        match j with
        | 0 =>
          rw [sub_at (by omega)]
          have := sets_in cells (k * 2) [.int .i64 M] 0 (by simp) (by simp; omega)
          simpa using this
        | 1 => rw [sub_at (by omega), cX]; rfl
        | j + 2 => rw [List.getElem?_eq_none (by simp [sub]; omega)]; simp
      have HOX := Hid.mk oX
      have HFX := Hid.mk fX
      have HGG := Hid.mk hgG
      clear hl hrow hof hx hT hts hps hcs2 hcs hM ht1 hXs oX fX r1 hgG htm hcl c1 cX ht
      go_wp2_with fail
      rw [← hX]
      clear hX q0 q1 f0
      refine (markInts_rep (G k) ta tn tc x.2 (M + 1) X hs1 (by omega) (by omega) R1.out).mono ?_
      rintro e w3 ⟨rfl, o3, g3⟩
      have hturn := HL.out.turn (w' := w3) (cells' := sets cells (k * 2) [.int .i64 M]) (x' := mkAtm M x) hlt
        (fun b hb hn1 hn2 => (g3.block b (Nat.lt_of_lt_of_le hb HFX.out.size) hn1).trans (HFX.out.block b hb (fun e => hn2 (by simp [Value.ownBlock, e]))))
        (ownsRow_frame HOX.out (fun b hb hlb => g3.block b hlb (fun hG => (HL.out.rowF k b hlt hG).2 hb)))
        (fun j hj => sub_sets_far _ _ _ _ _ (by have := mul_far (k := 2) hj; simp only [List.length_cons, List.length_nil]; show j * 2 + 2 ≤ k * 2 ∨ k * 2 + 1 ≤ j * 2; omega))
        (by
          show RAtm.Own w3 (G k) (sub (sets cells (k * 2) [.int .i64 M]) (k * 2) 2) (mkAtm M x)
          rw [HSB.out]
          exact RAtm.own_mk o3)
      have HLN : Hid (Laid RAtm w3 F 76 (some ⟨g, 0, none⟩) n c (mkTo mkAtm amk m xs (k + 1)) (sets cells (k * 2) [.int .i64 M]) G n) := by
        have h9 := mkTo_set mkAtm amk (m := m) HX.out
        have h8 : szL amk xs k = T := HT.out
        rw [h8, ← HM.out] at h9
        show Laid _ _ _ _ _ _ _ _ _ _ _
        rw [← h9]
        exact hturn
      have HON : Hid (Off F w w3) := HO.out.trans ((HFX.out.mono (fun b hb => by rw [hb]; exact HL.out.outerF g rfl)).trans (g3.mono (fun b hb => (HL.out.rowF k b hlt hb).1)))
      clear hturn o3 g3 x1 R1
      go_wp2
      go_roundw
      case rel => exact ⟨k + 1, _, by omega, by go_num, by rw [HTS.out, HM.out]; congr 1; push_cast; omega, HLN.out, HON.out⟩
      case measure => simp [intOf]; omega
    · obtain rfl : k = n := by omega
      have HL := Hid.mk hl
      clear hl
      go_wp2
      go_ret
      refine ⟨rfl, ⟨_, _, _, cells, G, rfl, ?_⟩, hof⟩
      have h9 := HL.out
      rw [mkTo_all _ _ _ _ hzl] at h9
      exact h9

set_option maxRecDepth 100000 in
set_option maxHeartbeats 2000000 in
theorem markQuery_rep (F : Nat → Prop) (sa : Option Addr) (sn sc : Nat) (pa : Option Addr) (pn pc : Nat) (ss : List Int) (xs : List Atm) (m : Int) (w : World) (hsn : sn ≤ 1048576) (hpn : pn ≤ 1048576) (ht : msum xs pn ≤ 1048576) (h0 : 0 ≤ m) (h1 : m ≤ 16777216) (hF : ∀ b, F b → b < w.heap.size) (ho : RQry.Own w F [.slice sa sn sc, .slice pa pn pc] (ss, xs)) :
    Calls Try.prog 17 #[.agg #[.slice sa sn sc, .slice pa pn pc], .int .i64 m] w fun e w' => e = .returned (.int .i64 (m + qmk (ss, xs))) ∧ RQry.Own w' F [.slice sa sn sc, .slice pa pn pc] (mkQry m (ss, xs)) ∧ Off F w w' := by
  obtain ⟨c1, c2, F1, F2, hcc, h2, h3, d1, d2, d12⟩ := ho
  obtain ⟨a1, n1, k1, cells1, G1, rfl, l1⟩ := h2
  obtain ⟨a2, n2, k2, cells2, G2, rfl, l2⟩ := h3
  simp only [List.cons_append, List.nil_append, List.cons.injEq, Value.slice.injEq, and_true] at hcc
  obtain ⟨⟨rfl, rfl, rfl⟩, rfl, rfl, rfl⟩ := hcc
  have r1 : RInts.Own w F1 [.slice sa sn sc] ss := ⟨_, _, _, _, _, rfl, l1⟩
  have r2 : RAtms.Own w F2 [.slice pa pn pc] xs := ⟨_, _, _, _, _, rfl, l2⟩
  have hz1 : ss.length = sn := l1.len
  have hz2 : xs.length = pn := l2.len
  have hv : qmk (ss, xs) = sn + msum xs pn := by unfold qmk; simp only; rw [hz1, hz2]
  rw [hv]
  obtain ⟨W, hW⟩ : ∃ W, W = w.alloc (.cells #[.slice sa sn sc, .slice pa pn pc] 32) := ⟨_, rfl⟩
  have B0 : Below w.heap.size w W := by rw [hW]; exact (Below.refl _ _).alloc (Nat.le_refl _) _
  have q1 : W.cell? ⟨w.heap.size, 1, none⟩ = some (.slice pa pn pc) := by rw [hW]; simp
  have R1 := Hid.mk (RInts.ownBelow r1 B0)
  have R2 := Hid.mk (RAtms.ownBelow r2 B0)
  have HD := Hid.mk (And.intro d1 (And.intro d2 d12))
  have HZ1 := Hid.mk hz1
  have HF1 : Hid (¬ F1 w.heap.size) := fun h => by have := hF _ (d1 _ h); omega
  clear l1 l2 r1 r2 d1 d2 d12 hz1 hz2 hv
  go_enter Try.func17, Try.ntmps17
  go_wp2_with fail
  rw [← hW]
  clear hW
  refine (markInts_rep F1 sa sn sc ss m W hsn h0 (by omega) R1.out).mono ?_
  rintro e w1 ⟨rfl, o1, g1⟩
  have q1 := g1.cell q1 HF1.out
  have O1 := Hid.mk o1
  have R2' := Hid.mk (RAtms.ownOff R2.out g1 (fun b hb h => HD.out.2.2 b h hb))
  have G1 := Hid.mk g1
  clear o1 g1 R1 R2
  go_wp2_with fail
  refine (markAtomS_rep F2 pa pn pc xs (m + sn) w1 hpn ht (by omega) (by omega) R2'.out).mono ?_
  rintro e w2 ⟨rfl, o2, g2⟩
  have HR : Hid (RQry.Own w2 F [.slice sa sn sc, .slice pa pn pc] (mkQry m (ss, xs))) := by
    show RQry.Own _ _ _ _
    unfold mkQry
    simp only [HZ1.out]
    exact ⟨[_], [_], F1, F2, rfl, RInts.ownOff O1.out g2 (fun b hb h => HD.out.2.2 b hb h), o2, HD.out.1, HD.out.2.1, HD.out.2.2⟩
  have HO : Hid (Off F w w2) := (Off.below B0).trans ((G1.out.mono HD.out.1).trans (g2.mono HD.out.2.1))
  clear o2 g2 O1 R2' G1 q1
  go_wp2
  go_ret
  exact ⟨ret_int (by push_cast; omega), HR.out, HO.out⟩

end Go.Proofs.Yteggbamjfhbmfaa
