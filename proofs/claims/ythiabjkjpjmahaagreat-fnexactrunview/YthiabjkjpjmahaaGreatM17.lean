/- Several texts of one proof, in build order: ViewT, Nought. -/
import Derived.Test.YthiabjkjpjmahaaGreatM16
import Derived.Test.YthiabjkjpjmahaaGreatM13
import Derived.Test.YthiabjkjpjmahaaGreatM8

/- Contracts of the laws' helpers over parts and views: toPart, toPartS, toView. -/
namespace Go.Proofs.YthiabjkjpjmahaaGreat
open Go.RowKit

set_option maxRecDepth 100000 in
set_option maxHeartbeats 4000000 in
theorem toPart_any (cs : List Value) (x : PartD) (w : World) (hs : SmPart x) (h : RPart.At w cs x) :
   Calls Tryz.prog 92 #[.agg cs.toArray] w fun e w' => ∃ g1 g2 g3, e = .returned (.agg #[.int .i64 x.K, .int .i64 x.A, .int .i64 x.B, .slice (some ⟨g1, 0, none⟩) x.ts.length x.ts.length, .slice (some ⟨g2, 0, none⟩) x.cs.length x.cs.length, .slice (some ⟨g3, 0, none⟩) x.ps.length x.ps.length]) ∧
    RPart.Own w' (From w.heap.size w'.heap.size) (cellsP x.K x.A x.B (some ⟨g1, 0, none⟩) x.ts.length x.ts.length (some ⟨g2, 0, none⟩) x.cs.length x.cs.length (some ⟨g3, 0, none⟩) x.ps.length x.ps.length) x ∧ Below w.heap.size w w' := by
  obtain ⟨ta, tn, tc, ca, cn, cc, pa, pn, pc, rfl, ⟨t1, t2, t3⟩, ⟨u1, u2, u3⟩, ⟨v1, v2, v3⟩⟩ := RPart.at_open h
  have he := hs.each
  have hs1 := hs.1
  have hs2 := hs.2.1
  have hs3 := hs.2.2.1
  clear h hs
  obtain ⟨K, A, B, ts, zs, ps⟩ := x
  simp only [PartD.K, PartD.A, PartD.B, PartD.ts, PartD.cs, PartD.ps] at *
  rw [t1, u1, v1]
  rw [t1] at hs1
  rw [u1] at hs2
  rw [v1] at hs3
  obtain ⟨W, hW⟩ : ∃ W, W = (((w.alloc (.cells (cellsP K A B ta tn tc ca cn cc pa pn pc).toArray 139)).alloc (.cells #[.int .i64 0, .int .i64 0, .int .i64 0, .slice none 0 0, .slice none 0 0, .slice none 0 0] 74)).alloc (.cells #[.int .i64 K, .int .i64 A, .int .i64 B, .slice none 0 0, .slice none 0 0, .slice none 0 0] 74)) := ⟨_, rfl⟩
  have B0 : Below w.heap.size w W := by rw [hW]; exact ((((Below.refl _ _).alloc (Nat.le_refl _) _).alloc (by simp) _).alloc (by simp; omega) _)
  have zW : w.heap.size + 2 < W.heap.size := by rw [hW]; simp
  have b2 : W.heap[w.heap.size + 1 + 1]? = some (.cells #[.int .i64 K, .int .i64 A, .int .i64 B, .slice none 0 0, .slice none 0 0, .slice none 0 0] 74 (0, 0)) := by
   rw [hW]
   have q := heap_alloc_new ((w.alloc (.cells (cellsP K A B ta tn tc ca cn cc pa pn pc).toArray 139)).alloc (.cells #[.int .i64 0, .int .i64 0, .int .i64 0, .slice none 0 0, .slice none 0 0, .slice none 0 0] 74)) (.cells #[.int .i64 K, .int .i64 A, .int .i64 B, .slice none 0 0, .slice none 0 0, .slice none 0 0] 74)
   simpa only [World.size_alloc] using q
  have b1 : W.heap[w.heap.size + 1]? = some (.cells #[.int .i64 0, .int .i64 0, .int .i64 0, .slice none 0 0, .slice none 0 0, .slice none 0 0] 74 (0, 0)) := by
   rw [hW]
   refine blk_alloc ?_ _
   have q := heap_alloc_new (w.alloc (.cells (cellsP K A B ta tn tc ca cn cc pa pn pc).toArray 139)) (.cells #[.int .i64 0, .int .i64 0, .int .i64 0, .slice none 0 0, .slice none 0 0, .slice none 0 0] 74)
   simpa only [World.size_alloc] using q
  have b0 : W.heap[w.heap.size]? = some (.cells (cellsP K A B ta tn tc ca cn cc pa pn pc).toArray 139 (0, 0)) := by
   rw [hW]
   exact blk_alloc (blk_alloc (heap_alloc_new w _) _) _
  have T3 := Hid.mk t3
  have U3 := Hid.mk u3
  have V3 := Hid.mk v3
  have HE := Hid.mk he
  have HT1 := Hid.mk t1
  have HU1 := Hid.mk u1
  have HV1 := Hid.mk v1
  clear t3 u3 v3 he t1 u1 v1
  go_enter Tryz.func92, Tryz.ntmps92
  go_wp2_with fail
  rw [← hW]
  clear hW
  refine (toTests_rep ta tn tc ts W HT1.out hs1 (AtE.below T3.out B0)).mono ?_
  rintro e w1 ⟨g1, rfl, o1, hb1⟩
  have k2 := blk_below b2 hb1
  have k1 := blk_below b1 hb1
  have k0 := blk_below b0 hb1
  clear b2 b1 b0
  have z1 := hb1.size
  have B1 : Below w.heap.size w w1 := B0.trans (hb1.mono (by omega))
  have q := blk_cell k2 3 (v := .slice none 0 0) rfl
  have f := blk_frozen k2 3
  obtain ⟨X1, hX1⟩ : ∃ u, u = w1.setCell ⟨w.heap.size + 1 + 1, 3, none⟩ (.slice (some ⟨g1, 0, none⟩) tn tn) := ⟨_, rfl⟩
  have y1 : w1.heap.size ≤ X1.heap.size := by rw [hX1]; simp [World.setCell]
  have y1' : X1.heap.size ≤ w1.heap.size := by rw [hX1]; simp [World.setCell]
  have b2 : X1.heap[w.heap.size + 1 + 1]? = some (.cells #[.int .i64 K, .int .i64 A, .int .i64 B, .slice (some ⟨g1, 0, none⟩) tn tn, .slice none 0 0, .slice none 0 0] 74 (0, 0)) := by rw [hX1]; exact blk_set k2 3 _
  have b1 : X1.heap[w.heap.size + 1]? = some (.cells #[.int .i64 0, .int .i64 0, .int .i64 0, .slice none 0 0, .slice none 0 0, .slice none 0 0] 74 (0, 0)) := by rw [hX1]; exact blk_other k1 (by simp) _
  have b0 : X1.heap[w.heap.size]? = some (.cells (cellsP K A B ta tn tc ca cn cc pa pn pc).toArray 139 (0, 0)) := by rw [hX1]; exact blk_other k0 (by simp; omega) _
  have C1 : Below w.heap.size w X1 := by rw [hX1]; exact B1.setCell (by simp; omega) _
  have S1 : Hid (Off (From w.heap.size (w.heap.size + 3)) w1 X1) := by rw [hX1]; exact Off.set ⟨by simp; omega, by simp⟩ _
  have r := blk_cell k0 4 (v := .slice ca cn cc) rfl
  clear k2 k1 k0
  have O1 : Hid (RTests.Own X1 (From W.heap.size w1.heap.size) [.slice (some ⟨g1, 0, none⟩) tn tn] ts) := RTests.ownOff o1 S1.out (fun b h k => by have := h.1; have := k.2; omega)
  clear o1 hb1 S1
  go_wp2_with fail
  rw [← hX1]
  clear hX1 q f r
  have B1' := C1
  refine (toInts_rep ca cn cc zs X1 HU1.out hs2 (At.below U3.out C1)).mono ?_
  rintro e w2 ⟨g2, rfl, o2, hb2⟩
  have k2 := blk_below b2 hb2
  have k1 := blk_below b1 hb2
  have k0 := blk_below b0 hb2
  clear b2 b1 b0
  have z2 := hb2.size
  have B2 : Below w.heap.size w w2 := B1'.trans (hb2.mono (by omega))
  have q := blk_cell k2 4 (v := .slice none 0 0) rfl
  have f := blk_frozen k2 4
  obtain ⟨X2, hX2⟩ : ∃ u, u = w2.setCell ⟨w.heap.size + 1 + 1, 4, none⟩ (.slice (some ⟨g2, 0, none⟩) cn cn) := ⟨_, rfl⟩
  have y2 : w2.heap.size ≤ X2.heap.size := by rw [hX2]; simp [World.setCell]
  have y2' : X2.heap.size ≤ w2.heap.size := by rw [hX2]; simp [World.setCell]
  have b2 : X2.heap[w.heap.size + 1 + 1]? = some (.cells #[.int .i64 K, .int .i64 A, .int .i64 B, .slice (some ⟨g1, 0, none⟩) tn tn, .slice (some ⟨g2, 0, none⟩) cn cn, .slice none 0 0] 74 (0, 0)) := by rw [hX2]; exact blk_set k2 4 _
  have b1 : X2.heap[w.heap.size + 1]? = some (.cells #[.int .i64 0, .int .i64 0, .int .i64 0, .slice none 0 0, .slice none 0 0, .slice none 0 0] 74 (0, 0)) := by rw [hX2]; exact blk_other k1 (by simp) _
  have b0 : X2.heap[w.heap.size]? = some (.cells (cellsP K A B ta tn tc ca cn cc pa pn pc).toArray 139 (0, 0)) := by rw [hX2]; exact blk_other k0 (by simp; omega) _
  have C2 : Below w.heap.size w X2 := by rw [hX2]; exact B2.setCell (by simp; omega) _
  have S2 : Hid (Off (From w.heap.size (w.heap.size + 3)) w2 X2) := by rw [hX2]; exact Off.set ⟨by simp; omega, by simp⟩ _
  have r := blk_cell k0 5 (v := .slice pa pn pc) rfl
  clear k2 k1 k0
  have O2 : Hid (RTests.Own X2 (From W.heap.size w1.heap.size) [.slice (some ⟨g1, 0, none⟩) tn tn] ts) := RTests.ownOff (RTests.ownBelow O1.out hb2) S2.out (fun b h k => by have := h.1; have := k.2; omega)
  have Q2 : Hid (RInts.Own X2 (From X1.heap.size w2.heap.size) [.slice (some ⟨g2, 0, none⟩) cn cn] zs) := RInts.ownOff o2 S2.out (fun b h k => by have := h.1; have := k.2; omega)
  clear o2 hb2 S2 O1
  go_wp2_with fail
  rw [← hX2]
  clear hX2 q f r
  have B2' := C2
  refine (toPairs_rep pa pn pc ps X2 HV1.out hs3 HE.out (AtS.below V3.out C2)).mono ?_
  rintro e w3 ⟨g3, rfl, o3, hb3⟩
  have k2 := blk_below b2 hb3
  have k1 := blk_below b1 hb3
  have k0 := blk_below b0 hb3
  clear b2 b1 b0
  have z3 := hb3.size
  have B3 : Below w.heap.size w w3 := B2'.trans (hb3.mono (by omega))
  have q := blk_cell k2 5 (v := .slice none 0 0) rfl
  have f := blk_frozen k2 5
  obtain ⟨X3, hX3⟩ : ∃ u, u = w3.setCell ⟨w.heap.size + 1 + 1, 5, none⟩ (.slice (some ⟨g3, 0, none⟩) pn pn) := ⟨_, rfl⟩
  have y3 : w3.heap.size ≤ X3.heap.size := by rw [hX3]; simp [World.setCell]
  have y3' : X3.heap.size ≤ w3.heap.size := by rw [hX3]; simp [World.setCell]
  have b2 : X3.heap[w.heap.size + 1 + 1]? = some (.cells #[.int .i64 K, .int .i64 A, .int .i64 B, .slice (some ⟨g1, 0, none⟩) tn tn, .slice (some ⟨g2, 0, none⟩) cn cn, .slice (some ⟨g3, 0, none⟩) pn pn] 74 (0, 0)) := by rw [hX3]; exact blk_set k2 5 _
  have b1 : X3.heap[w.heap.size + 1]? = some (.cells #[.int .i64 0, .int .i64 0, .int .i64 0, .slice none 0 0, .slice none 0 0, .slice none 0 0] 74 (0, 0)) := by rw [hX3]; exact blk_other k1 (by simp) _
  have b0 : X3.heap[w.heap.size]? = some (.cells (cellsP K A B ta tn tc ca cn cc pa pn pc).toArray 139 (0, 0)) := by rw [hX3]; exact blk_other k0 (by simp; omega) _
  have C3 : Below w.heap.size w X3 := by rw [hX3]; exact B3.setCell (by simp; omega) _
  have S3 : Hid (Off (From w.heap.size (w.heap.size + 3)) w3 X3) := by rw [hX3]; exact Off.set ⟨by simp; omega, by simp⟩ _
  clear k2 k1 k0
  have O3 : Hid (RTests.Own X3 (From W.heap.size w1.heap.size) [.slice (some ⟨g1, 0, none⟩) tn tn] ts) := RTests.ownOff (RTests.ownBelow O2.out hb3) S3.out (fun b h k => by have := h.1; have := k.2; omega)
  have Q3 : Hid (RInts.Own X3 (From X1.heap.size w2.heap.size) [.slice (some ⟨g2, 0, none⟩) cn cn] zs) := RInts.ownOff (RInts.ownBelow Q2.out hb3) S3.out (fun b h k => by have := h.1; have := k.2; omega)
  have R3 : Hid (RPairs.Own X3 (From X2.heap.size w3.heap.size) [.slice (some ⟨g3, 0, none⟩) pn pn] ps) := RPairs.ownOff o3 S3.out (fun b h k => by have := h.1; have := k.2; omega)
  clear o3 hb3 S3 O2 Q2
  go_upto_region 8 with fail
  rw [← hX3]
  clear hX3 q f
  have u0 := blk_cell b2 0 (v := .int .i64 K) rfl
  have p0 := blk_cell b1 0 (v := .int .i64 0) rfl
  have f0 := blk_frozen b1 0
  have u1 := blk_cell b2 1 (v := .int .i64 A) rfl
  have p1 := blk_cell b1 1 (v := .int .i64 0) rfl
  have f1 := blk_frozen b1 1
  have u2 := blk_cell b2 2 (v := .int .i64 B) rfl
  have p2 := blk_cell b1 2 (v := .int .i64 0) rfl
  have f2 := blk_frozen b1 2
  have u3 := blk_cell b2 3 (v := .slice (some ⟨g1, 0, none⟩) tn tn) rfl
  have p3 := blk_cell b1 3 (v := .slice none 0 0) rfl
  have f3 := blk_frozen b1 3
  have u4 := blk_cell b2 4 (v := .slice (some ⟨g2, 0, none⟩) cn cn) rfl
  have p4 := blk_cell b1 4 (v := .slice none 0 0) rfl
  have f4 := blk_frozen b1 4
  have u5 := blk_cell b2 5 (v := .slice (some ⟨g3, 0, none⟩) pn pn) rfl
  have p5 := blk_cell b1 5 (v := .slice none 0 0) rfl
  have f5 := blk_frozen b1 5
  obtain ⟨Y, hY⟩ : ∃ u, u = stores X3 (w.heap.size + 1) 0 [.int .i64 K, .int .i64 A, .int .i64 B, .slice (some ⟨g1, 0, none⟩) tn tn, .slice (some ⟨g2, 0, none⟩) cn cn, .slice (some ⟨g3, 0, none⟩) pn pn] := ⟨_, rfl⟩
  have D : Below w.heap.size w Y := by rw [hY]; exact stores_below _ _ _ _ C3 (by omega)
  have S : Off (From w.heap.size (w.heap.size + 3)) X3 Y := by rw [hY]; exact stores_off _ _ _ _ ⟨by omega, by omega⟩
  have zY : Y.heap.size = X3.heap.size := by rw [hY]; exact stores_size _ _ _ _
  have R : Hid (RPart.Own Y (From w.heap.size Y.heap.size) (cellsP K A B (some ⟨g1, 0, none⟩) tn tn (some ⟨g2, 0, none⟩) cn cn (some ⟨g3, 0, none⟩) pn pn) (K, A, B, ts, zs, ps)) :=
   RPart.own_mk (RTests.ownOff O3.out S (fun b h k => by have := h.1; have := k.2; omega)) (RInts.ownOff Q3.out S (fun b h k => by have := h.1; have := k.2; omega)) (RPairs.ownOff R3.out S (fun b h k => by have := h.1; have := k.2; omega)) (fun b h => ⟨by have := h.1; omega, by have := h.2; omega⟩) (fun b h => ⟨by have := h.1; omega, by have := h.2; omega⟩) (fun b h => ⟨by have := h.1; omega, by have := h.2; omega⟩)
    (fun b h k => by have := h.2; have := k.1; omega) (fun b h k => by have := h.2; have := k.1; omega) (fun b h k => by have := h.2; have := k.1; omega)
  have HY := Hid.mk hY
  have HD := Hid.mk D
  clear S D O3 Q3 R3 hY zY
  have bb := b1
  clear b1 b2 b0 C3
  go_wp2
  refine bodyPost_ret (v := .agg #[.int .i64 K, .int .i64 A, .int .i64 B, .slice (some ⟨g1, 0, none⟩) tn tn, .slice (some ⟨g2, 0, none⟩) cn cn, .slice (some ⟨g3, 0, none⟩) pn pn]) (by simp [results, Tryz.results92, go_sem, p0, p1, p2, p3, p4, p5]) rfl ⟨g1, g2, g3, rfl, ?_, ?_⟩
  ·have h := R.out
   rw [HY.out] at h
   exact h
  ·have h := HD.out
   rw [HY.out] at h
   exact h

theorem Tryz.infoPart : (Tryz.prog.info? 74).map (fun i => (i.zero, i.size, i.bytes)) = some (some (.agg #[.int .i64 0, .int .i64 0, .int .i64 0, .slice none 0 0, .slice none 0 0, .slice none 0 0]), 6, 96) := by kernel_rfl

set_option maxRecDepth 100000 in
set_option maxHeartbeats 4000000 in
theorem toPartS_any (a : Option Addr) (n c : Nat) (xs : List PartD) (w : World) (hz : xs.length = n) (hn : n ≤ 1048576) (hs : ∀ (i : Nat) (x : PartD), xs[i]? = some x → SmPart x) (ha : AtSl RPart w a xs) :
   Calls Tryz.prog 52 #[.slice a n c] w fun e w' => ∃ g, e = .returned (.slice (some ⟨g, 0, none⟩) n n) ∧ RParts.Own w' (From w.heap.size w'.heap.size) [.slice (some ⟨g, 0, none⟩) n n] xs ∧ Below w.heap.size w w' := by
  obtain ⟨i0, hi, hz0, hz1, hz2⟩ := info_parts Tryz.infoPart
  go_enter Tryz.func52, Tryz.ntmps52
  go_wp2_with (at_make; refine wpList_make_full _ rfl _ _ 24 rfl w.heap.size 74 i0 (.agg #[.int .i64 0, .int .i64 0, .int .i64 0, .slice none 0 0, .slice none 0 0, .slice none 0 0]) 6 Tryz.underlying24 hi hz0 hz1 .i64 .i64 _ _ n rfl rfl rfl rfl (by rw [hz2]; omega) (by unfold maxLen; omega) (Nat.le_refl _) ?_; intro w1 hown hg)
  have hb1 : Below w.heap.size w w1 := (Below.refl _ _).grown hg (Nat.le_refl _) (by simp)
  have hlt1 := (hown.lt w.heap.size rfl).2
  obtain ⟨cs, hcs⟩ : ∃ cs, cs = (madeCells (Value.agg #[.int .i64 0, .int .i64 0, .int .i64 0, .slice none 0 0, .slice none 0 0, .slice none 0 0]).cells (n * 6)).toList := ⟨_, rfl⟩
  rw [← hcs] at hown
  have hst : Laid RPart w1 (From w.heap.size w1.heap.size) 74 (some ⟨w.heap.size, 0, none⟩) n n xs cs (fun _ _ => False) 0 := Laid.start hz (by omega) (owns_mono hown (Nat.zero_le _)) (fun b hb => hown.lt b hb) _
  clear hcs hown hg
  go_loopw [4] (fun i wr => ∃ (k : Nat) (cells : List Value) (G : Nat → Nat → Prop), k ≤ n ∧ i = .int .i64 k ∧ Laid RPart wr (From w.heap.size wr.heap.size) 74 (some ⟨w.heap.size, 0, none⟩) n n xs cells G k ∧ w.heap.size < wr.heap.size ∧ Below w.heap.size w wr) (fun i _ => n - (intOf i).toNat)
  case atStart => exact ⟨0, cs, _, Nat.zero_le _, rfl, hst, hlt1, hb1⟩
  case round =>
   clear hst hb1 hlt1 cs
   obtain ⟨k, cells, G, hk, rfl, ho, hzr, hbw⟩ := hrel
   by_cases hlt : k < n
   ·obtain ⟨b, off, rfl, hc⟩ := (ha.below hbw).each (by omega)
    obtain ⟨x, hx⟩ : ∃ x, xs[k]? = some x := ⟨_, List.getElem?_eq_getElem (by omega)⟩
    obtain ⟨cx, hcx, hat⟩ := hc k x hx
    have hsm := hs k x hx
    obtain ⟨ta, tn', tc, ca, cn', cc, pa, pn', pc, rfl, _⟩ := RPart.at_open hat
    have g0 := hcx 0 _ rfl
    have g1 := hcx 1 _ rfl
    have g2 := hcx 2 _ rfl
    have g3 := hcx 3 _ rfl
    have g4 := hcx 4 _ rfl
    have g5 := hcx 5 _ rfl
    rw [RPart_k] at g0 g1 g2 g3 g4 g5
    rw [Nat.add_zero] at g0
    have hki : (k : Int) < (n : Int) := by omega
    have HAT := Hid.mk hat
    have HO := Hid.mk ho
    have HX := Hid.mk hx
    clear hc ha ho hs hat hx hcx
    obtain ⟨K, hK⟩ : ∃ K, x.K = K := ⟨_, rfl⟩
    obtain ⟨A, hA⟩ : ∃ K, x.A = K := ⟨_, rfl⟩
    obtain ⟨B, hB⟩ : ∃ K, x.B = K := ⟨_, rfl⟩
    obtain ⟨tn, htn⟩ : ∃ K, x.ts.length = K := ⟨_, rfl⟩
    obtain ⟨cn, hcn⟩ : ∃ K, x.cs.length = K := ⟨_, rfl⟩
    obtain ⟨pn, hpn⟩ : ∃ K, x.ps.length = K := ⟨_, rfl⟩
    have hcall := toPart_any _ x wr hsm HAT.out
    simp only [hK, hA, hB, htn, hcn, hpn] at hcall g0 g1 g2
    have HC := Hid.mk hcall
    clear hcall hK hA hB htn hcn hpn HAT
    go_wp2_with fail
    refine HC.out.mono ?_
    rintro e w2 ⟨h1, h2, h3, rfl, ho2, hb2⟩
    obtain ⟨g, hgg⟩ : ∃ g, g = w.heap.size := ⟨_, rfl⟩
    have hput := HO.out.put hlt (fun b hb => hb.2) hb2 HX.out ho2 (fun b hb => hb.1)
    have z2 := hb2.size
    have hput2 := hput.mono (F' := From w.heap.size w2.heap.size) (fun b hb => by rcases hb with hb | hb; exact ⟨hb.1, by have := hb.2; omega⟩; exact ⟨by have := hb.1; omega, hb.2⟩)
    have HP : Hid (Laid RPart ((((((w2.setCell ⟨w.heap.size, k * 6, none⟩ (.int .i64 K)).setCell ⟨w.heap.size, k * 6 + 1, none⟩ (.int .i64 A)).setCell ⟨w.heap.size, k * 6 + 2, none⟩ (.int .i64 B)).setCell ⟨w.heap.size, k * 6 + 3, none⟩ (.slice (some ⟨h1, 0, none⟩) tn tn)).setCell ⟨w.heap.size, k * 6 + 4, none⟩ (.slice (some ⟨h2, 0, none⟩) cn cn)).setCell ⟨w.heap.size, k * 6 + 5, none⟩ (.slice (some ⟨h3, 0, none⟩) pn pn)) (From w.heap.size w2.heap.size) 74 (some ⟨w.heap.size, 0, none⟩) n n xs _ _ (k + 1)) := hput2
    have hout := (HO.out.below hb2).outer
    have hln := hout.1
    have hln : cells.length = n * 6 := hln
    obtain ⟨u0, hu0⟩ : ∃ u, cells[k * 6]? = some u := ⟨_, List.getElem?_eq_getElem (by omega)⟩
    have q0 : w2.cell? ⟨w.heap.size, k * 6, none⟩ = some u0 := (hout.cellAt _ (show k * 6 < n * 6 by omega)).trans hu0
    have f0 : w2.frozen? ⟨w.heap.size, k * 6, none⟩ = false := hout.frozenAt _
    clear hu0
    obtain ⟨u1, hu1⟩ : ∃ u, cells[k * 6 + 1]? = some u := ⟨_, List.getElem?_eq_getElem (by omega)⟩
    have q1 : w2.cell? ⟨w.heap.size, k * 6 + 1, none⟩ = some u1 := (hout.cellAt _ (show k * 6 + 1 < n * 6 by omega)).trans hu1
    have f1 : w2.frozen? ⟨w.heap.size, k * 6 + 1, none⟩ = false := hout.frozenAt _
    clear hu1
    obtain ⟨u2, hu2⟩ : ∃ u, cells[k * 6 + 2]? = some u := ⟨_, List.getElem?_eq_getElem (by omega)⟩
    have q2 : w2.cell? ⟨w.heap.size, k * 6 + 2, none⟩ = some u2 := (hout.cellAt _ (show k * 6 + 2 < n * 6 by omega)).trans hu2
    have f2 : w2.frozen? ⟨w.heap.size, k * 6 + 2, none⟩ = false := hout.frozenAt _
    clear hu2
    obtain ⟨u3, hu3⟩ : ∃ u, cells[k * 6 + 3]? = some u := ⟨_, List.getElem?_eq_getElem (by omega)⟩
    have q3 : w2.cell? ⟨w.heap.size, k * 6 + 3, none⟩ = some u3 := (hout.cellAt _ (show k * 6 + 3 < n * 6 by omega)).trans hu3
    have f3 : w2.frozen? ⟨w.heap.size, k * 6 + 3, none⟩ = false := hout.frozenAt _
    clear hu3
    obtain ⟨u4, hu4⟩ : ∃ u, cells[k * 6 + 4]? = some u := ⟨_, List.getElem?_eq_getElem (by omega)⟩
    have q4 : w2.cell? ⟨w.heap.size, k * 6 + 4, none⟩ = some u4 := (hout.cellAt _ (show k * 6 + 4 < n * 6 by omega)).trans hu4
    have f4 : w2.frozen? ⟨w.heap.size, k * 6 + 4, none⟩ = false := hout.frozenAt _
    clear hu4
    obtain ⟨u5, hu5⟩ : ∃ u, cells[k * 6 + 5]? = some u := ⟨_, List.getElem?_eq_getElem (by omega)⟩
    have q5 : w2.cell? ⟨w.heap.size, k * 6 + 5, none⟩ = some u5 := (hout.cellAt _ (show k * 6 + 5 < n * 6 by omega)).trans hu5
    have f5 : w2.frozen? ⟨w.heap.size, k * 6 + 5, none⟩ = false := hout.frozenAt _
    clear hu5
    have HB : Hid (Below w.heap.size w ((((((w2.setCell ⟨w.heap.size, k * 6, none⟩ (.int .i64 K)).setCell ⟨w.heap.size, k * 6 + 1, none⟩ (.int .i64 A)).setCell ⟨w.heap.size, k * 6 + 2, none⟩ (.int .i64 B)).setCell ⟨w.heap.size, k * 6 + 3, none⟩ (.slice (some ⟨h1, 0, none⟩) tn tn)).setCell ⟨w.heap.size, k * 6 + 4, none⟩ (.slice (some ⟨h2, 0, none⟩) cn cn)).setCell ⟨w.heap.size, k * 6 + 5, none⟩ (.slice (some ⟨h3, 0, none⟩) pn pn))) := (((((((hbw.trans (hb2.mono hbw.size)).setCell (Nat.le_refl _) _).setCell (Nat.le_refl _) _).setCell (Nat.le_refl _) _).setCell (Nat.le_refl _) _).setCell (Nat.le_refl _) _).setCell (Nat.le_refl _) _)
    clear hput hput2 hout hln hb2 hbw ho2 g0 g1 g2 g3 g4 g5 hgg
    go_wp2
    go_roundw
    case rel => exact ⟨k + 1, _, _, by omega, by go_num, by simpa only [World.setCell, Array.size_modify] using HP.out, by simp [World.setCell]; omega, HB.out⟩
    case measure => simp [intOf]; omega
   ·obtain rfl : k = n := by omega
    go_wp2
    go_ret
    exact ⟨_, rfl, ⟨_, _, _, _, _, rfl, ho⟩, hbw⟩

set_option maxRecDepth 100000 in
set_option maxHeartbeats 2000000 in
theorem toView_any (sa : Option Addr) (sn sc : Nat) (pa : Option Addr) (pn pc : Nat) (ss : List Int) (xs : List PartD) (w : World) (hsz : ss.length = sn) (hz : xs.length = pn) (hs : SmView (ss, xs)) (hsa : At w sa ss) (ha : AtSl RPart w pa xs) :
   Calls Tryz.prog 16 #[.agg #[.slice sa sn sc, .slice pa pn pc]] w fun e w' => ∃ g1 g2, e = .returned (.agg #[.slice (some ⟨g1, 0, none⟩) sn sn, .slice (some ⟨g2, 0, none⟩) pn pn]) ∧
    RView.Own w' (From w.heap.size w'.heap.size) [.slice (some ⟨g1, 0, none⟩) sn sn, .slice (some ⟨g2, 0, none⟩) pn pn] (ss, xs) ∧ Below w.heap.size w w' := by
  have hsn : sn ≤ 1048576 := by have := hs.src; simp only at this; omega
  have hpn : pn ≤ 1048576 := by have := hs.len; simp only at this; omega
  have HS : Hid (∀ (i : Nat) (x : PartD), xs[i]? = some x → SmPart x) := fun i x hx => hs.part hx
  clear hs
  obtain ⟨W, hW⟩ : ∃ W, W = (((w.alloc (.cells #[.slice sa sn sc, .slice pa pn pc] 41)).alloc (.cells #[.slice none 0 0, .slice none 0 0] 26)).alloc (.cells #[.slice none 0 0, .slice none 0 0] 26)) := ⟨_, rfl⟩
  have B0 : Below w.heap.size w W := by rw [hW]; exact ((((Below.refl _ _).alloc (Nat.le_refl _) _).alloc (by simp) _).alloc (by simp; omega) _)
  have zW : w.heap.size + 2 < W.heap.size := by rw [hW]; simp
  have b2 : W.heap[w.heap.size + 1 + 1]? = some (.cells #[.slice none 0 0, .slice none 0 0] 26 (0, 0)) := by
   rw [hW]
   have q := heap_alloc_new ((w.alloc (.cells #[.slice sa sn sc, .slice pa pn pc] 41)).alloc (.cells #[.slice none 0 0, .slice none 0 0] 26)) (.cells #[.slice none 0 0, .slice none 0 0] 26)
   simpa only [World.size_alloc] using q
  have b1 : W.heap[w.heap.size + 1]? = some (.cells #[.slice none 0 0, .slice none 0 0] 26 (0, 0)) := by
   rw [hW]
   refine blk_alloc ?_ _
   have q := heap_alloc_new (w.alloc (.cells #[.slice sa sn sc, .slice pa pn pc] 41)) (.cells #[.slice none 0 0, .slice none 0 0] 26)
   simpa only [World.size_alloc] using q
  have b0 : W.heap[w.heap.size]? = some (.cells #[.slice sa sn sc, .slice pa pn pc] 41 (0, 0)) := by
   rw [hW]
   exact blk_alloc (blk_alloc (heap_alloc_new w _) _) _
  have U3 := Hid.mk hsa
  have V3 := Hid.mk ha
  have HU1 := Hid.mk hsz
  have HV1 := Hid.mk hz
  clear hsa ha hsz hz
  go_enter Tryz.func16, Tryz.ntmps16
  go_wp2_with fail
  rw [← hW]
  clear hW
  refine (toInts_rep sa sn sc ss W HU1.out hsn (At.below U3.out B0)).mono ?_
  rintro e w1 ⟨g1, rfl, o1, hb1⟩
  have k2 := blk_below b2 hb1
  have k1 := blk_below b1 hb1
  have k0 := blk_below b0 hb1
  clear b2 b1 b0
  have z1 := hb1.size
  have B1 : Below w.heap.size w w1 := B0.trans (hb1.mono (by omega))
  have q := blk_cell k2 0 (v := .slice none 0 0) rfl
  have f := blk_frozen k2 0
  have r := blk_cell k0 1 (v := .slice pa pn pc) rfl
  obtain ⟨X1, hX1⟩ : ∃ u, u = w1.setCell ⟨w.heap.size + 1 + 1, 0, none⟩ (.slice (some ⟨g1, 0, none⟩) sn sn) := ⟨_, rfl⟩
  have y1 : w1.heap.size ≤ X1.heap.size := by rw [hX1]; simp [World.setCell]
  have b2 : X1.heap[w.heap.size + 1 + 1]? = some (.cells #[.slice (some ⟨g1, 0, none⟩) sn sn, .slice none 0 0] 26 (0, 0)) := by rw [hX1]; exact blk_set k2 0 _
  have b1 : X1.heap[w.heap.size + 1]? = some (.cells #[.slice none 0 0, .slice none 0 0] 26 (0, 0)) := by rw [hX1]; exact blk_other k1 (by simp) _
  have C1 : Below w.heap.size w X1 := by rw [hX1]; exact B1.setCell (by simp; omega) _
  have S1 : Hid (Off (From w.heap.size (w.heap.size + 3)) w1 X1) := by rw [hX1]; exact Off.set ⟨by simp; omega, by simp⟩ _
  have O1 : Hid (RInts.Own X1 (From W.heap.size w1.heap.size) [.slice (some ⟨g1, 0, none⟩) sn sn] ss) := RInts.ownOff o1 S1.out (fun b h k => by have := h.1; have := k.2; omega)
  clear o1 hb1 S1 k2 k1 k0
  go_wp2_with fail
  rw [← hX1]
  clear hX1 q f r
  refine (toPartS_any pa pn pc xs X1 HV1.out hpn HS.out (V3.out.below C1)).mono ?_
  rintro e w2 ⟨g2, rfl, o2, hb2⟩
  have k2 := blk_below b2 hb2
  have k1 := blk_below b1 hb2
  clear b2 b1
  have z2 := hb2.size
  have B2 : Below w.heap.size w w2 := C1.trans (hb2.mono (by omega))
  have q := blk_cell k2 1 (v := .slice none 0 0) rfl
  have f := blk_frozen k2 1
  obtain ⟨X2, hX2⟩ : ∃ u, u = w2.setCell ⟨w.heap.size + 1 + 1, 1, none⟩ (.slice (some ⟨g2, 0, none⟩) pn pn) := ⟨_, rfl⟩
  have y2 : w2.heap.size ≤ X2.heap.size := by rw [hX2]; simp [World.setCell]
  have b2 : X2.heap[w.heap.size + 1 + 1]? = some (.cells #[.slice (some ⟨g1, 0, none⟩) sn sn, .slice (some ⟨g2, 0, none⟩) pn pn] 26 (0, 0)) := by rw [hX2]; exact blk_set k2 1 _
  have b1 : X2.heap[w.heap.size + 1]? = some (.cells #[.slice none 0 0, .slice none 0 0] 26 (0, 0)) := by rw [hX2]; exact blk_other k1 (by simp) _
  have C2 : Below w.heap.size w X2 := by rw [hX2]; exact B2.setCell (by simp; omega) _
  have S2 : Hid (Off (From w.heap.size (w.heap.size + 3)) w2 X2) := by rw [hX2]; exact Off.set ⟨by simp; omega, by simp⟩ _
  have O2 : Hid (RInts.Own X2 (From W.heap.size w1.heap.size) [.slice (some ⟨g1, 0, none⟩) sn sn] ss) := RInts.ownOff (RInts.ownBelow O1.out hb2) S2.out (fun b h k => by have := h.1; have := k.2; omega)
  have Q2 : Hid (RParts.Own X2 (From X1.heap.size w2.heap.size) [.slice (some ⟨g2, 0, none⟩) pn pn] xs) := RParts.ownOff o2 S2.out (fun b h k => by have := h.1; have := k.2; omega)
  clear o2 hb2 S2 O1 k2 k1
  go_upto_region 4 with fail
  rw [← hX2]
  clear hX2 q f
  have u0 := blk_cell b2 0 (v := .slice (some ⟨g1, 0, none⟩) sn sn) rfl
  have u1 := blk_cell b2 1 (v := .slice (some ⟨g2, 0, none⟩) pn pn) rfl
  have p0 := blk_cell b1 0 (v := .slice none 0 0) rfl
  have p1 := blk_cell b1 1 (v := .slice none 0 0) rfl
  have f0 := blk_frozen b1 0
  have f1 := blk_frozen b1 1
  obtain ⟨Y, hY⟩ : ∃ u, u = stores X2 (w.heap.size + 1) 0 [.slice (some ⟨g1, 0, none⟩) sn sn, .slice (some ⟨g2, 0, none⟩) pn pn] := ⟨_, rfl⟩
  have D : Below w.heap.size w Y := by rw [hY]; exact stores_below _ _ _ _ C2 (by omega)
  have S : Off (From w.heap.size (w.heap.size + 3)) X2 Y := by rw [hY]; exact stores_off _ _ _ _ ⟨by omega, by omega⟩
  have zY : Y.heap.size = X2.heap.size := by rw [hY]; exact stores_size _ _ _ _
  have R : Hid (RView.Own Y (From w.heap.size Y.heap.size) [.slice (some ⟨g1, 0, none⟩) sn sn, .slice (some ⟨g2, 0, none⟩) pn pn] (ss, xs)) :=
   ⟨[_], [_], _, _, rfl, RInts.ownOff O2.out S (fun b h k => by have := h.1; have := k.2; omega), RParts.ownOff Q2.out S (fun b h k => by have := h.1; have := k.2; omega), fun b h => ⟨by have := h.1; omega, by have := h.2; omega⟩, fun b h => ⟨by have := h.1; omega, by have := h.2; omega⟩, fun b h k => by have := h.2; have := k.1; omega⟩
  have HY := Hid.mk hY
  have HD := Hid.mk D
  clear S D O2 Q2 hY zY b1 b2 C2
  go_wp2
  refine bodyPost_ret (v := .agg #[.slice (some ⟨g1, 0, none⟩) sn sn, .slice (some ⟨g2, 0, none⟩) pn pn]) (by simp [results, Tryz.results16, go_sem, p0, p1]) rfl ⟨g1, g2, rfl, ?_, ?_⟩
  ·have h := R.out
   rw [HY.out] at h
   exact h
  ·have h := HD.out
   rw [HY.out] at h
   exact h

end Go.Proofs.YthiabjkjpjmahaaGreat

/- Contract of impl.noughts. -/
namespace Go.Proofs.YthiabjkjpjmahaaGreat
open Go.RowKit

set_option maxRecDepth 100000 in
set_option maxHeartbeats 1000000 in
theorem noughts_any (q : Nat) (w : World) (h6 : q ≤ 6) :
    Calls Tryz.prog 146 #[.int .i64 q] w fun e w' => ∃ r d, e = .returned (.agg #[.slice r q d]) ∧ (r = none → d = 0) ∧ At w' r (List.replicate q 0) ∧ Below w.heap.size w w' := by
  obtain ⟨i0, hi, hz0, hz1, hz2⟩ := info_parts Tryz.infoInt
  have hbL : Below w.heap.size w (w.alloc (.cells #[.slice none 0 0] 80)) := (Below.refl _ _).alloc (Nat.le_refl _) _
  have c0 : (w.alloc (.cells #[.slice none 0 0] 80)).cell? ⟨w.heap.size, 0, none⟩ = some (.slice none 0 0) := by simp
  have f0 : (w.alloc (.cells #[.slice none 0 0] 80)).frozen? ⟨w.heap.size, 0, none⟩ = false := by simp
  obtain ⟨w2, hr, ho, hg⟩ := run_makeSlice_full (P := Tryz.prog) (w.alloc (.cells #[.slice none 0 0] 80)) (w.heap.size + 1) 23 3 i0 (.int .i64 0) 1 Tryz.underlying23 hi hz0 hz1 .i64 .i64 q (by omega) (by rw [hz2]; omega) (by unfold maxLen; omega) (by simp)
  have hmc : (madeCells (Value.int .i64 0).cells (q * 1)).toList = (List.replicate q 0).map (.int .i64) := by
    have : q = 0 ∨ q = 1 ∨ q = 2 ∨ q = 3 ∨ q = 4 ∨ q = 5 ∨ q = 6 := by omega
    rcases this with rfl | rfl | rfl | rfl | rfl | rfl | rfl <;> simp [madeCells, Value.cells, Array.toList_map, Array.toList_range, List.range, List.range.loop, List.replicate]
  rw [hmc] at ho
  have e2 := hg.cell c0 (by simp)
  have k2 : w2.frozen? ⟨w.heap.size, 0, none⟩ = false := (World.frozen?_of_block (hg.block w.heap.size (by simp) (by simp))).trans f0
  have hb2 : Below w.heap.size w w2 := hbL.grown hg hbL.size (fun j hj => by cases hj)
  have HA2 := Hid.mk (At.owned ho)
  have HO := Hid.mk ho
  clear hmc ho hg hbL c0 f0
  simp only [World.size_alloc] at hr
  go_enter Tryz.func146, Tryz.ntmps146
  go_wp2
  refine bodyPost_ret (v := .agg #[.slice (some ⟨w.heap.size + 1, 0, none⟩) q q]) (by simp [results, Tryz.results146, go_sem, e2]) rfl ⟨_, _, rfl, fun h => (by cases h), ?_, ?_⟩
  · have h2 := HO.out
    rw [World.size_alloc] at h2
    exact At.owned (ownsRow_setCell_below h2 (by show w.heap.size < _; omega) _)
  · exact hb2.setCell (by show w.heap.size ≤ w.heap.size; omega) _
end Go.Proofs.YthiabjkjpjmahaaGreat
