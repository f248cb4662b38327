/- Contract of the laws' toStats. -/
import Derived.Test.YteggbamjfhbmfaaSaH
import Derived.Test.YteggbamjfhbmfaaRepD
import Derived.Test.YteggbamjfhbmfaaBlk
import Derived.Deep.CutBlock
namespace Go.Proofs.Yteggbamjfhbmfaa
open Go.RowKit

set_option maxRecDepth 100000 in
set_option maxHeartbeats 2000000 in
theorem toStats_any (sa : Option Addr) (sn sc : Nat) (pa : Option Addr) (pn pc : Nat) (ss : List Int) (xs : List (List Int)) (w : World) (hsz : ss.length = sn) (hz : xs.length = pn) (hsn : sn ≤ 1048576) (hpn : pn ≤ 1048576) (hsm : ∀ i, i < xs.length → (xs.getD i []).length ≤ 1048576) (hsa : At w sa ss) (ha : AtS w pa xs) :
    Calls Try.prog 27 #[.agg #[.slice sa sn sc, .slice pa pn pc]] w fun e w' => ∃ g1 g2, e = .returned (.agg #[.slice (some ⟨g1, 0, none⟩) sn sn, .slice (some ⟨g2, 0, none⟩) pn pn]) ∧
      RSta.Own w' (From w.heap.size w'.heap.size) [.slice (some ⟨g1, 0, none⟩) sn sn, .slice (some ⟨g2, 0, none⟩) pn pn] (ss, xs) ∧ Below w.heap.size w w' := by
  obtain ⟨W, hW⟩ : ∃ W, W = (((w.alloc (.cells #[.slice sa sn sc, .slice pa pn pc] 50)).alloc (.cells #[.slice none 0 0, .slice none 0 0] 53)).alloc (.cells #[.slice none 0 0, .slice none 0 0] 53)) := ⟨_, rfl⟩
  have B0 : Below w.heap.size w W := by rw [hW]; exact ((((Below.refl _ _).alloc (Nat.le_refl _) _).alloc (by simp) _).alloc (by simp; omega) _)
  have zW : w.heap.size + 2 < W.heap.size := by rw [hW]; simp
  have b2 : W.heap[w.heap.size + 1 + 1]? = some (.cells #[.slice none 0 0, .slice none 0 0] 53 (0, 0)) := by
    rw [hW]
    have q := heap_alloc_new ((w.alloc (.cells #[.slice sa sn sc, .slice pa pn pc] 50)).alloc (.cells #[.slice none 0 0, .slice none 0 0] 53)) (.cells #[.slice none 0 0, .slice none 0 0] 53)
    simpa only [World.size_alloc] using q
  have b1 : W.heap[w.heap.size + 1]? = some (.cells #[.slice none 0 0, .slice none 0 0] 53 (0, 0)) := by
    rw [hW]
    refine blk_alloc ?_ _
    have q := heap_alloc_new (w.alloc (.cells #[.slice sa sn sc, .slice pa pn pc] 50)) (.cells #[.slice none 0 0, .slice none 0 0] 53)
    simpa only [World.size_alloc] using q
  have b0 : W.heap[w.heap.size]? = some (.cells #[.slice sa sn sc, .slice pa pn pc] 50 (0, 0)) := by
    rw [hW]
    exact blk_alloc (blk_alloc (heap_alloc_new w _) _) _
  have U3 := Hid.mk hsa
  have V3 := Hid.mk ha
  have HSM := Hid.mk hsm
  have HU1 := Hid.mk hsz
  have HV1 := Hid.mk hz
  clear hsa ha hsz hz hsm
  go_enter Try.func27, Try.ntmps27
  go_wp2_with fail
  rw [← hW]
  clear hW
  refine (toInts_rep sa sn sc ss W HU1.out hsn (At.below U3.out B0)).mono ?_
  rintro e w1 ⟨g1, rfl, o1, hb1⟩
  have k2 := blk_below b2 hb1
  have k1 := blk_below b1 hb1
  have k0 := blk_below b0 hb1
  clear b2 b1 b0
  have z1 := hb1.size
  have B1 : Below w.heap.size w w1 := B0.trans (hb1.mono (by omega))
  have q := blk_cell k2 0 (v := .slice none 0 0) rfl
  have f := blk_frozen k2 0
  have r := blk_cell k0 1 (v := .slice pa pn pc) rfl
  obtain ⟨X1, hX1⟩ : ∃ u, u = w1.setCell ⟨w.heap.size + 1 + 1, 0, none⟩ (.slice (some ⟨g1, 0, none⟩) sn sn) := ⟨_, rfl⟩
  have y1 : w1.heap.size ≤ X1.heap.size := by rw [hX1]; simp [World.setCell]
  have b2 : X1.heap[w.heap.size + 1 + 1]? = some (.cells #[.slice (some ⟨g1, 0, none⟩) sn sn, .slice none 0 0] 53 (0, 0)) := by rw [hX1]; exact blk_set k2 0 _
  have b1 : X1.heap[w.heap.size + 1]? = some (.cells #[.slice none 0 0, .slice none 0 0] 53 (0, 0)) := by rw [hX1]; exact blk_other k1 (by simp) _
  have C1 : Below w.heap.size w X1 := by rw [hX1]; exact B1.setCell (by simp; omega) _
  have S1 : Hid (Off (From w.heap.size (w.heap.size + 3)) w1 X1) := by rw [hX1]; exact Off.set ⟨by simp; omega, by simp⟩ _
  have O1 : Hid (RInts.Own X1 (From W.heap.size w1.heap.size) [.slice (some ⟨g1, 0, none⟩) sn sn] ss) := RInts.ownOff o1 S1.out (fun b h k => by have := h.1; have := k.2; omega)
  clear o1 hb1 S1 k2 k1 k0
  go_wp2_with fail
  rw [← hX1]
  clear hX1 q f r
  refine (toPairs_rep pa pn pc xs X1 HV1.out hpn HSM.out (AtS.below V3.out C1)).mono ?_
  rintro e w2 ⟨g2, rfl, o2, hb2⟩
  have k2 := blk_below b2 hb2
  have k1 := blk_below b1 hb2
  clear b2 b1
  have z2 := hb2.size
  have B2 : Below w.heap.size w w2 := C1.trans (hb2.mono (by omega))
  have q := blk_cell k2 1 (v := .slice none 0 0) rfl
  have f := blk_frozen k2 1
  obtain ⟨X2, hX2⟩ : ∃ u, u = w2.setCell ⟨w.heap.size + 1 + 1, 1, none⟩ (.slice (some ⟨g2, 0, none⟩) pn pn) := ⟨_, rfl⟩
  have y2 : w2.heap.size ≤ X2.heap.size := by rw [hX2]; simp [World.setCell]
  have b2 : X2.heap[w.heap.size + 1 + 1]? = some (.cells #[.slice (some ⟨g1, 0, none⟩) sn sn, .slice (some ⟨g2, 0, none⟩) pn pn] 53 (0, 0)) := by rw [hX2]; exact blk_set k2 1 _
  have b1 : X2.heap[w.heap.size + 1]? = some (.cells #[.slice none 0 0, .slice none 0 0] 53 (0, 0)) := by rw [hX2]; exact blk_other k1 (by simp) _
  have C2 : Below w.heap.size w X2 := by rw [hX2]; exact B2.setCell (by simp; omega) _
  have S2 : Hid (Off (From w.heap.size (w.heap.size + 3)) w2 X2) := by rw [hX2]; exact Off.set ⟨by simp; omega, by simp⟩ _
  have O2 : Hid (RInts.Own X2 (From W.heap.size w1.heap.size) [.slice (some ⟨g1, 0, none⟩) sn sn] ss) := RInts.ownOff (RInts.ownBelow O1.out hb2) S2.out (fun b h k => by have := h.1; have := k.2; omega)
  have Q2 : Hid (RPairs.Own X2 (From X1.heap.size w2.heap.size) [.slice (some ⟨g2, 0, none⟩) pn pn] xs) := RPairs.ownOff o2 S2.out (fun b h k => by have := h.1; have := k.2; omega)
  clear o2 hb2 S2 O1 k2 k1
  go_upto_region 4 with fail
  rw [← hX2]
  clear hX2 q f
  have u0 := blk_cell b2 0 (v := .slice (some ⟨g1, 0, none⟩) sn sn) rfl
  have u1 := blk_cell b2 1 (v := .slice (some ⟨g2, 0, none⟩) pn pn) rfl
  have p0 := blk_cell b1 0 (v := .slice none 0 0) rfl
  have p1 := blk_cell b1 1 (v := .slice none 0 0) rfl
  have f0 := blk_frozen b1 0
  have f1 := blk_frozen b1 1
  obtain ⟨Y, hY⟩ : ∃ u, u = stores X2 (w.heap.size + 1) 0 [.slice (some ⟨g1, 0, none⟩) sn sn, .slice (some ⟨g2, 0, none⟩) pn pn] := ⟨_, rfl⟩
  have D : Below w.heap.size w Y := by rw [hY]; exact stores_below _ _ _ _ C2 (by omega)
  have S : Off (From w.heap.size (w.heap.size + 3)) X2 Y := by rw [hY]; exact stores_off _ _ _ _ ⟨by omega, by omega⟩
  have zY : Y.heap.size = X2.heap.size := by rw [hY]; exact stores_size _ _ _ _
  have R : Hid (RSta.Own Y (From w.heap.size Y.heap.size) [.slice (some ⟨g1, 0, none⟩) sn sn, .slice (some ⟨g2, 0, none⟩) pn pn] (ss, xs)) :=
    ⟨[_], [_], _, _, rfl, RInts.ownOff O2.out S (fun b h k => by have := h.1; have := k.2; omega), RPairs.ownOff Q2.out S (fun b h k => by have := h.1; have := k.2; omega), fun b h => ⟨by have := h.1; omega, by have := h.2; omega⟩, fun b h => ⟨by have := h.1; omega, by have := h.2; omega⟩, fun b h k => by have := h.2; have := k.1; omega⟩
  have HY := Hid.mk hY
  have HD := Hid.mk D
  clear S D O2 Q2 hY zY b1 b2 C2
  go_wp2
  refine bodyPost_ret (v := .agg #[.slice (some ⟨g1, 0, none⟩) sn sn, .slice (some ⟨g2, 0, none⟩) pn pn]) (by simp [results, Try.results27, go_sem, p0, p1]) rfl ⟨g1, g2, rfl, ?_, ?_⟩
  · have h := R.out
    rw [HY.out] at h
    exact h
  · have h := HD.out
    rw [HY.out] at h
    exact h

end Go.Proofs.Yteggbamjfhbmfaa
