/- Contract of impl.way.withAll. -/
import Derived.Test.YtociphdhkjoofaaM5
import Derived.Test.YtociphdhkjoofaaM4
import Derived.Test.YtociphdhkjoofaaM1
import Derived.Deep.CutBlock
import Derived.Deep.CutRange
namespace Go.Proofs.Ytociphdhkjoofaa
open Go.RowKit

theorem blk_stores12 {w : World} {g : Nat} {a0 a1 a2 a3 a4 a5 a6 a7 a8 a9 a10 a11 : Value} {t : TypeId} (h : w.heap[g]? = some (.cells #[a0, a1, a2, a3, a4, a5, a6, a7, a8, a9, a10, a11] t (0, 0))) (b0 b1 b2 b3 b4 b5 b6 b7 b8 b9 b10 b11 : Value) :
    (stores w g 0 [b0, b1, b2, b3, b4, b5, b6, b7, b8, b9, b10, b11]).heap[g]? = some (.cells #[b0, b1, b2, b3, b4, b5, b6, b7, b8, b9, b10, b11] t (0, 0)) := by
  have h0 : (w.setCell ⟨g, 0, none⟩ b0).heap[g]? = some (.cells #[b0, a1, a2, a3, a4, a5, a6, a7, a8, a9, a10, a11] t (0, 0)) := blk_set h 0 b0
  have h1 : ((w.setCell ⟨g, 0, none⟩ b0).setCell ⟨g, 1, none⟩ b1).heap[g]? = some (.cells #[b0, b1, a2, a3, a4, a5, a6, a7, a8, a9, a10, a11] t (0, 0)) := blk_set h0 1 b1
  have h2 : (((w.setCell ⟨g, 0, none⟩ b0).setCell ⟨g, 1, none⟩ b1).setCell ⟨g, 2, none⟩ b2).heap[g]? = some (.cells #[b0, b1, b2, a3, a4, a5, a6, a7, a8, a9, a10, a11] t (0, 0)) := blk_set h1 2 b2
  have h3 : ((((w.setCell ⟨g, 0, none⟩ b0).setCell ⟨g, 1, none⟩ b1).setCell ⟨g, 2, none⟩ b2).setCell ⟨g, 3, none⟩ b3).heap[g]? = some (.cells #[b0, b1, b2, b3, a4, a5, a6, a7, a8, a9, a10, a11] t (0, 0)) := blk_set h2 3 b3
  have h4 : (((((w.setCell ⟨g, 0, none⟩ b0).setCell ⟨g, 1, none⟩ b1).setCell ⟨g, 2, none⟩ b2).setCell ⟨g, 3, none⟩ b3).setCell ⟨g, 4, none⟩ b4).heap[g]? = some (.cells #[b0, b1, b2, b3, b4, a5, a6, a7, a8, a9, a10, a11] t (0, 0)) := blk_set h3 4 b4
  have h5 : ((((((w.setCell ⟨g, 0, none⟩ b0).setCell ⟨g, 1, none⟩ b1).setCell ⟨g, 2, none⟩ b2).setCell ⟨g, 3, none⟩ b3).setCell ⟨g, 4, none⟩ b4).setCell ⟨g, 5, none⟩ b5).heap[g]? = some (.cells #[b0, b1, b2, b3, b4, b5, a6, a7, a8, a9, a10, a11] t (0, 0)) := blk_set h4 5 b5
  have h6 : (((((((w.setCell ⟨g, 0, none⟩ b0).setCell ⟨g, 1, none⟩ b1).setCell ⟨g, 2, none⟩ b2).setCell ⟨g, 3, none⟩ b3).setCell ⟨g, 4, none⟩ b4).setCell ⟨g, 5, none⟩ b5).setCell ⟨g, 6, none⟩ b6).heap[g]? = some (.cells #[b0, b1, b2, b3, b4, b5, b6, a7, a8, a9, a10, a11] t (0, 0)) := blk_set h5 6 b6
  have h7 : ((((((((w.setCell ⟨g, 0, none⟩ b0).setCell ⟨g, 1, none⟩ b1).setCell ⟨g, 2, none⟩ b2).setCell ⟨g, 3, none⟩ b3).setCell ⟨g, 4, none⟩ b4).setCell ⟨g, 5, none⟩ b5).setCell ⟨g, 6, none⟩ b6).setCell ⟨g, 7, none⟩ b7).heap[g]? = some (.cells #[b0, b1, b2, b3, b4, b5, b6, b7, a8, a9, a10, a11] t (0, 0)) := blk_set h6 7 b7
  have h8 : (((((((((w.setCell ⟨g, 0, none⟩ b0).setCell ⟨g, 1, none⟩ b1).setCell ⟨g, 2, none⟩ b2).setCell ⟨g, 3, none⟩ b3).setCell ⟨g, 4, none⟩ b4).setCell ⟨g, 5, none⟩ b5).setCell ⟨g, 6, none⟩ b6).setCell ⟨g, 7, none⟩ b7).setCell ⟨g, 8, none⟩ b8).heap[g]? = some (.cells #[b0, b1, b2, b3, b4, b5, b6, b7, b8, a9, a10, a11] t (0, 0)) := blk_set h7 8 b8
  have h9 : ((((((((((w.setCell ⟨g, 0, none⟩ b0).setCell ⟨g, 1, none⟩ b1).setCell ⟨g, 2, none⟩ b2).setCell ⟨g, 3, none⟩ b3).setCell ⟨g, 4, none⟩ b4).setCell ⟨g, 5, none⟩ b5).setCell ⟨g, 6, none⟩ b6).setCell ⟨g, 7, none⟩ b7).setCell ⟨g, 8, none⟩ b8).setCell ⟨g, 9, none⟩ b9).heap[g]? = some (.cells #[b0, b1, b2, b3, b4, b5, b6, b7, b8, b9, a10, a11] t (0, 0)) := blk_set h8 9 b9
  have h10 : (((((((((((w.setCell ⟨g, 0, none⟩ b0).setCell ⟨g, 1, none⟩ b1).setCell ⟨g, 2, none⟩ b2).setCell ⟨g, 3, none⟩ b3).setCell ⟨g, 4, none⟩ b4).setCell ⟨g, 5, none⟩ b5).setCell ⟨g, 6, none⟩ b6).setCell ⟨g, 7, none⟩ b7).setCell ⟨g, 8, none⟩ b8).setCell ⟨g, 9, none⟩ b9).setCell ⟨g, 10, none⟩ b10).heap[g]? = some (.cells #[b0, b1, b2, b3, b4, b5, b6, b7, b8, b9, b10, a11] t (0, 0)) := blk_set h9 10 b10
  have h11 : ((((((((((((w.setCell ⟨g, 0, none⟩ b0).setCell ⟨g, 1, none⟩ b1).setCell ⟨g, 2, none⟩ b2).setCell ⟨g, 3, none⟩ b3).setCell ⟨g, 4, none⟩ b4).setCell ⟨g, 5, none⟩ b5).setCell ⟨g, 6, none⟩ b6).setCell ⟨g, 7, none⟩ b7).setCell ⟨g, 8, none⟩ b8).setCell ⟨g, 9, none⟩ b9).setCell ⟨g, 10, none⟩ b10).setCell ⟨g, 11, none⟩ b11).heap[g]? = some (.cells #[b0, b1, b2, b3, b4, b5, b6, b7, b8, b9, b10, b11] t (0, 0)) := blk_set h10 11 b11
  exact h11

set_option maxRecDepth 100000 in
set_option maxHeartbeats 16000000 in
theorem withAll_any (m : Wy) (va : Option Addr) (vn vc : Nat) (vs : List Int) (xa : Option Addr) (xn xc : Nat) (xs : List Int) (w : World) (hm : m.length = 6) (hvz : vs.length = vn) (hvb : vn ≤ 9223372036854775807) (hin : ∀ v ∈ vs, 0 ≤ v ∧ v < 6) (hva : At w va vs) (hxz : xs.length = xn) (hxb : xn ≤ 9223372036854775807) (hle : vn ≤ xn) (hxa : At w xa xs) :
    Calls Try.prog 88 #[.agg (wcells m).toArray, .slice va vn vc, .slice xa xn xc] w fun e w' => e = .returned (.tuple #[.agg (wcells (wAll m vs xs).1).toArray, .bool (wAll m vs xs).2]) ∧ Below w.heap.size w w' := by
  obtain ⟨ki0, ki1, ki2, ki3, ki4, ki5, ni0, ni1, ni2, ni3, ni4, ni5, hw0⟩ := wcells_open hm
  obtain ⟨W, hW⟩ : ∃ W, W = (w.alloc (.cells #[.bool ki0, .bool ki1, .bool ki2, .bool ki3, .bool ki4, .bool ki5, .int .i64 ni0, .int .i64 ni1, .int .i64 ni2, .int .i64 ni3, .int .i64 ni4, .int .i64 ni5] 101)).alloc (.cells #[.bool false, .bool false, .bool false, .bool false, .bool false, .bool false, .int .i64 0, .int .i64 0, .int .i64 0, .int .i64 0, .int .i64 0, .int .i64 0] 101) := ⟨_, rfl⟩
  have B0 : Below w.heap.size w W := by rw [hW]; exact ((Below.refl _ _).alloc (Nat.le_refl _) _).alloc (by simp) _
  have b1 : W.heap[w.heap.size + 1]? = some (.cells #[.bool false, .bool false, .bool false, .bool false, .bool false, .bool false, .int .i64 0, .int .i64 0, .int .i64 0, .int .i64 0, .int .i64 0, .int .i64 0] 101 (0, 0)) := by
    rw [hW]
    have h := heap_alloc_new (w.alloc (.cells #[.bool ki0, .bool ki1, .bool ki2, .bool ki3, .bool ki4, .bool ki5, .int .i64 ni0, .int .i64 ni1, .int .i64 ni2, .int .i64 ni3, .int .i64 ni4, .int .i64 ni5] 101)) (.cells #[.bool false, .bool false, .bool false, .bool false, .bool false, .bool false, .int .i64 0, .int .i64 0, .int .i64 0, .int .i64 0, .int .i64 0, .int .i64 0] 101)
    simpa only [World.size_alloc] using h
  have b0 : W.heap[w.heap.size]? = some (.cells (wcells m).toArray 101 (0, 0)) := by rw [hW, hw0]; exact blk_alloc (heap_alloc_new w _) _
  have HB1 := Hid.mk b1
  have HB0 := Hid.mk b0
  have HM := Hid.mk hm
  have HVZ := Hid.mk hvz
  have HXZ := Hid.mk hxz
  have HVA := Hid.mk hva
  have HXA := Hid.mk hxa
  have HIN := Hid.mk hin
  have HBB := Hid.mk B0
  have HW0 : Hid ((wcells m).toArray = #[.bool ki0, .bool ki1, .bool ki2, .bool ki3, .bool ki4, .bool ki5, .int .i64 ni0, .int .i64 ni1, .int .i64 ni2, .int .i64 ni3, .int .i64 ni4, .int .i64 ni5]) := by show _ = _; rw [hw0]
  rw [HW0.out]
  clear hvz hxz hva hxa hin hm b0 b1 hw0 B0 HW0
  go_enter Try.func88, Try.ntmps88
  go_upto_region 1 with fail
  rw [← hW]
  clear hW
  go_wp2_with fail
  go_loopw [14] (fun i wr => ∃ (k : Nat) (mk : Wy), k ≤ vn ∧ i = .int .i64 k ∧ mk.length = 6 ∧ wAll m vs xs = wAll mk (vs.drop k) (xs.drop k) ∧ wr.heap[w.heap.size]? = some (.cells (wcells mk).toArray 101 (0, 0)) ∧ wr.heap[w.heap.size + 1]? = some (.cells #[.bool false, .bool false, .bool false, .bool false, .bool false, .bool false, .int .i64 0, .int .i64 0, .int .i64 0, .int .i64 0, .int .i64 0, .int .i64 0] 101 (0, 0)) ∧ Below w.heap.size w wr) (fun i _ => vn - (intOf i).toNat)
  case atStart => exact ⟨0, m, Nat.zero_le _, rfl, HM.out, rfl, HB0.out, HB1.out, HBB.out⟩
  case round =>
    clear HB0 HB1 HBB
    obtain ⟨k, mk, hk, rfl, hmk, hwa, hb0, hb1, hbw⟩ := hrel
    obtain ⟨k0, k1, k2, k3, k4, k5, n0, n1, n2, n3, n4, n5, hwk⟩ := wcells_open hmk
    have hb0' : wr.heap[w.heap.size]? = some (.cells #[.bool k0, .bool k1, .bool k2, .bool k3, .bool k4, .bool k5, .int .i64 n0, .int .i64 n1, .int .i64 n2, .int .i64 n3, .int .i64 n4, .int .i64 n5] 101 (0, 0)) := by rw [hb0, hwk]
    have zr : w.heap.size + 1 < wr.heap.size := (Array.getElem?_eq_some_iff.1 hb1).1
    have c0 := blk_cell hb0' 0 (v := .bool k0) rfl
    have c1 := blk_cell hb0' 1 (v := .bool k1) rfl
    have c2 := blk_cell hb0' 2 (v := .bool k2) rfl
    have c3 := blk_cell hb0' 3 (v := .bool k3) rfl
    have c4 := blk_cell hb0' 4 (v := .bool k4) rfl
    have c5 := blk_cell hb0' 5 (v := .bool k5) rfl
    have c6 := blk_cell hb0' 6 (v := .int .i64 n0) rfl
    have c7 := blk_cell hb0' 7 (v := .int .i64 n1) rfl
    have c8 := blk_cell hb0' 8 (v := .int .i64 n2) rfl
    have c9 := blk_cell hb0' 9 (v := .int .i64 n3) rfl
    have c10 := blk_cell hb0' 10 (v := .int .i64 n4) rfl
    have c11 := blk_cell hb0' 11 (v := .int .i64 n5) rfl
    by_cases hlt : k < vn
    · obtain ⟨vb, voff, rfl, _, hvc⟩ := (At.below HVA.out hbw).some (by have := HVZ.out; omega)
      obtain ⟨xb, xoff, rfl, _, hxc'⟩ := (At.below HXA.out hbw).some (by have := HXZ.out; omega)
      have hvc := hvc k (by have := HVZ.out; omega)
      have hxc := hxc' k (by have := HXZ.out; omega)
      have hki : (k : Int) < (vn : Int) := by omega
      have hkx : (k : Int) < (xn : Int) := by omega
      have hyin := HIN.out (vs.getD k 0) (by simp [List.getD, show k < vs.length by have := HVZ.out; omega])
      have hdv : vs.drop k = vs.getD k 0 :: vs.drop (k + 1) := by rw [List.drop_eq_getElem_cons (by have := HVZ.out; omega)]; simp [List.getD, show k < vs.length by have := HVZ.out; omega]
      have hdx : xs.drop k = xs.getD k 0 :: xs.drop (k + 1) := by rw [List.drop_eq_getElem_cons (by have := HXZ.out; omega)]; simp [List.getD, show k < xs.length by have := HXZ.out; omega]
      rw [hdv, hdx, wAll_cons, List.headD_cons, List.tail_cons] at hwa
      obtain ⟨y, hy⟩ : ∃ y, y = vs.getD k 0 := ⟨_, rfl⟩
      obtain ⟨x, hx⟩ : ∃ x, x = xs.getD k 0 := ⟨_, rfl⟩
      rw [← hy] at hvc hyin hwa
      rw [← hx] at hxc hwa
      have hml := wWith_len mk y x
      rw [hmk] at hml
      have KW0 := fun w' => with_any mk y x w' hmk hyin.1 hyin.2
      obtain ⟨m2, hm2⟩ : ∃ m2, m2 = (wWith mk y x).1 := ⟨_, rfl⟩
      obtain ⟨ok, hok⟩ : ∃ ok, ok = (wWith mk y x).2 := ⟨_, rfl⟩
      rw [← hm2, ← hok] at KW0 hwa
      rw [← hm2] at hml
      have KW : Hid (∀ w' : World, Calls Try.prog 85 #[.agg #[.bool k0, .bool k1, .bool k2, .bool k3, .bool k4, .bool k5, .int .i64 n0, .int .i64 n1, .int .i64 n2, .int .i64 n3, .int .i64 n4, .int .i64 n5], .int .i64 y, .int .i64 x] w' fun e w'' => ∃ (k'0 k'1 k'2 k'3 k'4 k'5 : Bool) (n'0 n'1 n'2 n'3 n'4 n'5 : Int), e = .returned (.tuple #[.agg #[.bool k'0, .bool k'1, .bool k'2, .bool k'3, .bool k'4, .bool k'5, .int .i64 n'0, .int .i64 n'1, .int .i64 n'2, .int .i64 n'3, .int .i64 n'4, .int .i64 n'5], .bool ok]) ∧ wcells m2 = [.bool k'0, .bool k'1, .bool k'2, .bool k'3, .bool k'4, .bool k'5, .int .i64 n'0, .int .i64 n'1, .int .i64 n'2, .int .i64 n'3, .int .i64 n'4, .int .i64 n'5] ∧ Below w'.heap.size w' w'') := fun w' => by
        have h := KW0 w'
        rw [hwk] at h
        refine h.mono ?_
        rintro e w'' ⟨rfl, h2⟩
        obtain ⟨k'0, k'1, k'2, k'3, k'4, k'5, n'0, n'1, n'2, n'3, n'4, n'5, h3⟩ := wcells_open hml
        exact ⟨k'0, k'1, k'2, k'3, k'4, k'5, n'0, n'1, n'2, n'3, n'4, n'5, by rw [h3], h3, h2⟩
      have HWA := Hid.mk hwa
      have HML := Hid.mk hml
      have HBW := Hid.mk hbw
      have HB0 := Hid.mk hb0'
      have HB1 := Hid.mk hb1
      have zx : xb < wr.heap.size := World.block_lt_of_cell? _ _ hxc
      clear hxc' hdv hdx hy hx KW0 hm2 hok hwa hml hbw hb0 hb0' hb1 hwk hyin hmk
      go_upto_region 4 with fail
      clear hvc
      go_cut [10, 11] from 16 to 33 (fun ta tb wx => ∃ (B : Nat) (k'0 k'1 k'2 k'3 k'4 k'5 : Bool) (n'0 n'1 n'2 n'3 n'4 n'5 : Int), ta = .pointer (some ⟨B, 0, none⟩) ∧ tb = .bool ok ∧ wx.heap[B]? = some (.cells #[.bool k'0, .bool k'1, .bool k'2, .bool k'3, .bool k'4, .bool k'5, .int .i64 n'0, .int .i64 n'1, .int .i64 n'2, .int .i64 n'3, .int .i64 n'4, .int .i64 n'5] 101 (0, 0)) ∧ wcells m2 = [.bool k'0, .bool k'1, .bool k'2, .bool k'3, .bool k'4, .bool k'5, .int .i64 n'0, .int .i64 n'1, .int .i64 n'2, .int .i64 n'3, .int .i64 n'4, .int .i64 n'5] ∧ wr.heap.size ≤ B ∧ Below wr.heap.size wr wx)
      case first =>
        refine wp_region_held_drew (S := fun w' => w'.cell? ⟨w.heap.size, 0, none⟩ = some (.bool k0) ∧ w'.cell? ⟨w.heap.size, 1, none⟩ = some (.bool k1) ∧ w'.cell? ⟨w.heap.size, 2, none⟩ = some (.bool k2) ∧ w'.cell? ⟨w.heap.size, 3, none⟩ = some (.bool k3) ∧ w'.cell? ⟨w.heap.size, 4, none⟩ = some (.bool k4) ∧ w'.cell? ⟨w.heap.size, 5, none⟩ = some (.bool k5) ∧ w'.cell? ⟨w.heap.size, 6, none⟩ = some (.int .i64 n0) ∧ w'.cell? ⟨w.heap.size, 7, none⟩ = some (.int .i64 n1) ∧ w'.cell? ⟨w.heap.size, 8, none⟩ = some (.int .i64 n2) ∧ w'.cell? ⟨w.heap.size, 9, none⟩ = some (.int .i64 n3) ∧ w'.cell? ⟨w.heap.size, 10, none⟩ = some (.int .i64 n4) ∧ w'.cell? ⟨w.heap.size, 11, none⟩ = some (.int .i64 n5) ∧ w'.cell? ⟨xb, xoff + k, none⟩ = some (.int .i64 x)) (by kernel_rfl) ?_ (fun hHeld => ?_)
        · (try dsimp only)
          exact ⟨c0, c1, c2, c3, c4, c5, c6, c7, c8, c9, c10, c11, hxc⟩
        refine tk 0 ?_
        refine tk 1 ?_
        refine tk 2 ?_
        refine tk 3 ?_
        refine tk 4 ?_
        refine tk 5 ?_
        obtain ⟨u0, hu0⟩ : ∃ u, u = wr.drew := ⟨_, rfl⟩
        have Y0 : Below wr.heap.size wr u0 := by rw [hu0]; exact (Below.refl _ _).drew
        have zu : u0.heap.size = wr.heap.size := by rw [hu0]; rfl
        rw [← hu0]
        clear hu0
        have c0 := cell_later Y0 c0
        have c1 := cell_later Y0 c1
        have c2 := cell_later Y0 c2
        have c3 := cell_later Y0 c3
        have c4 := cell_later Y0 c4
        have c5 := cell_later Y0 c5
        have c6 := cell_later Y0 c6
        have c7 := cell_later Y0 c7
        have c8 := cell_later Y0 c8
        have c9 := cell_later Y0 c9
        have c10 := cell_later Y0 c10
        have c11 := cell_later Y0 c11
        have hxc := cell_later Y0 hxc
        have HU := Hid.mk Y0
        have zu1 : w.heap.size < u0.heap.size := by omega
        have zu2 : xb < u0.heap.size := by omega
        have zu3 : wr.heap.size ≤ u0.heap.size := by omega
        clear Y0 zu
        refine wpAnyH_ready (rs := [6, 10]) (by kernel_rfl) (by simp) ?_
        refine AllReadyH.cons (o := ?_) ?_ (fun K hK => ?_) ?_
        rotate_left
        · (simp only [List.getElem?_toArray, List.getElem?_cons_zero, List.getElem?_cons_succ]; rfl)
        · go_simp
          go_at_call 85
          refine (KW.out _).mono ?_
          rintro e w5 ⟨k'0, k'1, k'2, k'3, k'4, k'5, n'0, n'1, n'2, n'3, n'4, n'5, rfl, hw5, hb5⟩
          have c0 := cell_later hb5 c0
          have c1 := cell_later hb5 c1
          have c2 := cell_later hb5 c2
          have c3 := cell_later hb5 c3
          have c4 := cell_later hb5 c4
          have c5 := cell_later hb5 c5
          have c6 := cell_later hb5 c6
          have c7 := cell_later hb5 c7
          have c8 := cell_later hb5 c8
          have c9 := cell_later hb5 c9
          have c10 := cell_later hb5 c10
          have c11 := cell_later hb5 c11
          have hxc := cell_later hb5 hxc
          have HW5 := Hid.mk hw5
          have HB5 := Hid.mk (HU.out.trans (hb5.mono HU.out.size))
          have z5 := hb5.size
          clear hw5 hb5
          (try go_wp2_with fail)
          refine hK.out _ _ ?_ (fun hHeld' => ?_)
          · (try dsimp only)
            exact ⟨c0, c1, c2, c3, c4, c5, c6, c7, c8, c9, c10, c11, hxc⟩
          clear hK K hHeld
          have hHeld := hHeld'
          clear hHeld'
          (try simp only [Act.put, List.setIfInBounds_toArray, List.set_cons_zero, List.set_cons_succ])
          refine tk 7 ?_
          refine tk 8 ?_
          refine tk 9 ?_
          refine wpAnyH_ready (rs := [10]) (by kernel_rfl) (by simp) ?_
          refine AllReadyH.cons (o := ?_) ?_ (fun K hK => ?_) AllReadyH.nil
          rotate_left
          · (simp only [List.getElem?_toArray, List.getElem?_cons_zero, List.getElem?_cons_succ]; rfl)
          go_simp
          skip
          (try go_wp2_with fail)
          refine hK.out _ _ ?_ (fun hHeld' => ?_)
          · (try dsimp only)
            exact ⟨cell_later ((Below.refl _ _).alloc (Nat.le_refl _) _) c0, cell_later ((Below.refl _ _).alloc (Nat.le_refl _) _) c1, cell_later ((Below.refl _ _).alloc (Nat.le_refl _) _) c2, cell_later ((Below.refl _ _).alloc (Nat.le_refl _) _) c3, cell_later ((Below.refl _ _).alloc (Nat.le_refl _) _) c4, cell_later ((Below.refl _ _).alloc (Nat.le_refl _) _) c5, cell_later ((Below.refl _ _).alloc (Nat.le_refl _) _) c6, cell_later ((Below.refl _ _).alloc (Nat.le_refl _) _) c7, cell_later ((Below.refl _ _).alloc (Nat.le_refl _) _) c8, cell_later ((Below.refl _ _).alloc (Nat.le_refl _) _) c9, cell_later ((Below.refl _ _).alloc (Nat.le_refl _) _) c10, cell_later ((Below.refl _ _).alloc (Nat.le_refl _) _) c11, cell_later ((Below.refl _ _).alloc (Nat.le_refl _) _) hxc⟩
          clear hK K hHeld
          have hHeld := hHeld'
          clear hHeld'
          (try simp only [Act.put, List.setIfInBounds_toArray, List.set_cons_zero, List.set_cons_succ])
          refine wpAnyH_ready (rs := [11]) (by kernel_rfl) (by simp) ?_
          refine AllReadyH.cons (o := ?_) ?_ (fun K hK => ?_) AllReadyH.nil
          rotate_left
          · (simp only [List.getElem?_toArray, List.getElem?_cons_zero, List.getElem?_cons_succ]; rfl)
          go_simp
          skip
          (try go_wp2_with fail)
          refine hK.out _ _ ?_ (fun hHeld' => ?_)
          · (try dsimp only)
            exact ⟨cell_later ((Below.refl _ _).alloc (Nat.le_refl _) _) c0, cell_later ((Below.refl _ _).alloc (Nat.le_refl _) _) c1, cell_later ((Below.refl _ _).alloc (Nat.le_refl _) _) c2, cell_later ((Below.refl _ _).alloc (Nat.le_refl _) _) c3, cell_later ((Below.refl _ _).alloc (Nat.le_refl _) _) c4, cell_later ((Below.refl _ _).alloc (Nat.le_refl _) _) c5, cell_later ((Below.refl _ _).alloc (Nat.le_refl _) _) c6, cell_later ((Below.refl _ _).alloc (Nat.le_refl _) _) c7, cell_later ((Below.refl _ _).alloc (Nat.le_refl _) _) c8, cell_later ((Below.refl _ _).alloc (Nat.le_refl _) _) c9, cell_later ((Below.refl _ _).alloc (Nat.le_refl _) _) c10, cell_later ((Below.refl _ _).alloc (Nat.le_refl _) _) c11, cell_later ((Below.refl _ _).alloc (Nat.le_refl _) _) hxc⟩
          clear hK K hHeld
          have hHeld := hHeld'
          clear hHeld'
          (try simp only [Act.put, List.setIfInBounds_toArray, List.set_cons_zero, List.set_cons_succ])
          refine tk 12 ?_
          refine wpAnyH_done (by kernel_rfl) ?_ _
          (try go_wp2_with fail)
          go_meet
          case rel => exact ⟨w5.heap.size, k'0, k'1, k'2, k'3, k'4, k'5, n'0, n'1, n'2, n'3, n'4, n'5, rfl, rfl, heap_alloc_new _ _, HW5.out, by omega, HB5.out.alloc (by omega) _⟩
        refine AllReadyH.cons (o := ?_) ?_ (fun K hK => ?_) AllReadyH.nil
        rotate_left
        · (simp only [List.getElem?_toArray, List.getElem?_cons_zero, List.getElem?_cons_succ]; rfl)
        · go_simp
          (try go_wp2_with fail)
          refine hK.out _ _ ?_ (fun hHeld' => ?_)
          · (try dsimp only)
            exact ⟨cell_later ((Below.refl _ _).alloc (Nat.le_refl _) _) c0, cell_later ((Below.refl _ _).alloc (Nat.le_refl _) _) c1, cell_later ((Below.refl _ _).alloc (Nat.le_refl _) _) c2, cell_later ((Below.refl _ _).alloc (Nat.le_refl _) _) c3, cell_later ((Below.refl _ _).alloc (Nat.le_refl _) _) c4, cell_later ((Below.refl _ _).alloc (Nat.le_refl _) _) c5, cell_later ((Below.refl _ _).alloc (Nat.le_refl _) _) c6, cell_later ((Below.refl _ _).alloc (Nat.le_refl _) _) c7, cell_later ((Below.refl _ _).alloc (Nat.le_refl _) _) c8, cell_later ((Below.refl _ _).alloc (Nat.le_refl _) _) c9, cell_later ((Below.refl _ _).alloc (Nat.le_refl _) _) c10, cell_later ((Below.refl _ _).alloc (Nat.le_refl _) _) c11, cell_later ((Below.refl _ _).alloc (Nat.le_refl _) _) hxc⟩
          clear hK K hHeld
          have hHeld := hHeld'
          clear hHeld'
          (try simp only [Act.put, List.setIfInBounds_toArray, List.set_cons_zero, List.set_cons_succ])
          obtain ⟨v1, hv1⟩ : ∃ u, u = u0.alloc (.cells #[.bool false, .bool false, .bool false, .bool false, .bool false, .bool false, .int .i64 0, .int .i64 0, .int .i64 0, .int .i64 0, .int .i64 0, .int .i64 0] 101) := ⟨_, rfl⟩
          have hb1 : Below u0.heap.size u0 v1 := by rw [hv1]; exact (Below.refl _ _).alloc (Nat.le_refl _) _
          have hp1 : v1.heap[u0.heap.size]? = some (.cells #[.bool false, .bool false, .bool false, .bool false, .bool false, .bool false, .int .i64 0, .int .i64 0, .int .i64 0, .int .i64 0, .int .i64 0, .int .i64 0] 101 (0, 0)) := by rw [hv1]; exact heap_alloc_new _ _
          have zv : u0.heap.size < v1.heap.size := by rw [hv1]; simp
          rw [← hv1]
          clear hv1
          have c0 := cell_later hb1 c0
          have c1 := cell_later hb1 c1
          have c2 := cell_later hb1 c2
          have c3 := cell_later hb1 c3
          have c4 := cell_later hb1 c4
          have c5 := cell_later hb1 c5
          have c6 := cell_later hb1 c6
          have c7 := cell_later hb1 c7
          have c8 := cell_later hb1 c8
          have c9 := cell_later hb1 c9
          have c10 := cell_later hb1 c10
          have c11 := cell_later hb1 c11
          have hxc := cell_later hb1 hxc
          have HU1 := Hid.mk (HU.out.trans (hb1.mono HU.out.size))
          have HP1 := Hid.mk hp1
          clear hb1 hp1
          refine wpAnyH_ready (rs := [6]) (by kernel_rfl) (by simp) ?_
          refine AllReadyH.cons (o := ?_) ?_ (fun K hK => ?_) AllReadyH.nil
          rotate_left
          · (simp only [List.getElem?_toArray, List.getElem?_cons_zero, List.getElem?_cons_succ]; rfl)
          go_simp
          go_at_call 85
          refine (KW.out _).mono ?_
          rintro e w5 ⟨k'0, k'1, k'2, k'3, k'4, k'5, n'0, n'1, n'2, n'3, n'4, n'5, rfl, hw5, hb5⟩
          have c0 := cell_later hb5 c0
          have c1 := cell_later hb5 c1
          have c2 := cell_later hb5 c2
          have c3 := cell_later hb5 c3
          have c4 := cell_later hb5 c4
          have c5 := cell_later hb5 c5
          have c6 := cell_later hb5 c6
          have c7 := cell_later hb5 c7
          have c8 := cell_later hb5 c8
          have c9 := cell_later hb5 c9
          have c10 := cell_later hb5 c10
          have c11 := cell_later hb5 c11
          have hxc := cell_later hb5 hxc
          have HW5 := Hid.mk hw5
          have HB5 := Hid.mk (HU1.out.trans (hb5.mono HU1.out.size))
          have z5 := hb5.size
          have hp5 := (hb5.block _ zv).trans HP1.out
          have g0 := blk_cell hp5 0 (v := .bool false) rfl
          have g1 := blk_cell hp5 1 (v := .bool false) rfl
          have g2 := blk_cell hp5 2 (v := .bool false) rfl
          have g3 := blk_cell hp5 3 (v := .bool false) rfl
          have g4 := blk_cell hp5 4 (v := .bool false) rfl
          have g5 := blk_cell hp5 5 (v := .bool false) rfl
          have g6 := blk_cell hp5 6 (v := .int .i64 0) rfl
          have g7 := blk_cell hp5 7 (v := .int .i64 0) rfl
          have g8 := blk_cell hp5 8 (v := .int .i64 0) rfl
          have g9 := blk_cell hp5 9 (v := .int .i64 0) rfl
          have g10 := blk_cell hp5 10 (v := .int .i64 0) rfl
          have g11 := blk_cell hp5 11 (v := .int .i64 0) rfl
          have gz0 := blk_frozen hp5 0
          have gz1 := blk_frozen hp5 1
          have gz2 := blk_frozen hp5 2
          have gz3 := blk_frozen hp5 3
          have gz4 := blk_frozen hp5 4
          have gz5 := blk_frozen hp5 5
          have gz6 := blk_frozen hp5 6
          have gz7 := blk_frozen hp5 7
          have gz8 := blk_frozen hp5 8
          have gz9 := blk_frozen hp5 9
          have gz10 := blk_frozen hp5 10
          have gz11 := blk_frozen hp5 11
          have HP5 := Hid.mk hp5
          clear hw5 hb5 hp5
          (try go_wp2_with fail)
          refine hK.out _ _ ?_ (fun hHeld' => ?_)
          · (try dsimp only)
            exact ⟨c0, c1, c2, c3, c4, c5, c6, c7, c8, c9, c10, c11, hxc⟩
          clear hK K hHeld
          have hHeld := hHeld'
          clear hHeld'
          (try simp only [Act.put, List.setIfInBounds_toArray, List.set_cons_zero, List.set_cons_succ])
          refine tk 7 ?_
          refine tk 8 ?_
          refine tk 9 ?_
          refine wpAnyH_ready (rs := [11]) (by kernel_rfl) (by simp) ?_
          refine AllReadyH.cons (o := ?_) ?_ (fun K hK => ?_) AllReadyH.nil
          rotate_left
          · (simp only [List.getElem?_toArray, List.getElem?_cons_zero, List.getElem?_cons_succ]; rfl)
          go_simp
          skip
          (try go_wp2_with fail)
          refine hK.out _ _ ?_ (fun hHeld' => ?_)
          · (try dsimp only)
            have hst : Off (fun b => b = u0.heap.size) w5 (stores w5 u0.heap.size 0 [.bool k'0, .bool k'1, .bool k'2, .bool k'3, .bool k'4, .bool k'5, .int .i64 n'0, .int .i64 n'1, .int .i64 n'2, .int .i64 n'3, .int .i64 n'4, .int .i64 n'5]) := stores_off _ _ _ _ rfl
            exact ⟨hst.cell c0 (show ¬ w.heap.size = u0.heap.size by omega), hst.cell c1 (show ¬ w.heap.size = u0.heap.size by omega), hst.cell c2 (show ¬ w.heap.size = u0.heap.size by omega), hst.cell c3 (show ¬ w.heap.size = u0.heap.size by omega), hst.cell c4 (show ¬ w.heap.size = u0.heap.size by omega), hst.cell c5 (show ¬ w.heap.size = u0.heap.size by omega), hst.cell c6 (show ¬ w.heap.size = u0.heap.size by omega), hst.cell c7 (show ¬ w.heap.size = u0.heap.size by omega), hst.cell c8 (show ¬ w.heap.size = u0.heap.size by omega), hst.cell c9 (show ¬ w.heap.size = u0.heap.size by omega), hst.cell c10 (show ¬ w.heap.size = u0.heap.size by omega), hst.cell c11 (show ¬ w.heap.size = u0.heap.size by omega), hst.cell hxc (show ¬ xb = u0.heap.size by omega)⟩
          clear hK K hHeld
          have hHeld := hHeld'
          clear hHeld'
          (try simp only [Act.put, List.setIfInBounds_toArray, List.set_cons_zero, List.set_cons_succ])
          refine tk 12 ?_
          refine wpAnyH_done (by kernel_rfl) ?_ _
          (try go_wp2_with fail)
          go_meet
          case rel => exact ⟨u0.heap.size, k'0, k'1, k'2, k'3, k'4, k'5, n'0, n'1, n'2, n'3, n'4, n'5, rfl, rfl, blk_stores12 HP5.out _ _ _ _ _ _ _ _ _ _ _ _, HW5.out, by omega, stores_below _ _ _ [.bool k'0, .bool k'1, .bool k'2, .bool k'3, .bool k'4, .bool k'5, .int .i64 n'0, .int .i64 n'1, .int .i64 n'2, .int .i64 n'3, .int .i64 n'4, .int .i64 n'5] HB5.out (by omega)⟩
      case rest =>
        obtain ⟨B, k'0, k'1, k'2, k'3, k'4, k'5, n'0, n'1, n'2, n'3, n'4, n'5, rfl, rfl, hbB, hw2, hBz, hb3⟩ := hcut
        obtain ⟨w3, rfl⟩ : ∃ x, x = wc := ⟨_, rfl⟩
        have d0 := blk_below HB0.out hb3
        have d1 := blk_below HB1.out hb3
        have B3 := HBW.out.trans (hb3.mono HBW.out.size)
        clear c0 c1 c2 c3 c4 c5 c6 c7 c8 c9 c10 c11 hxc KW hb3
        cases ok with
        | false =>
          have HF : Hid (wAll m vs xs = (wy0, false)) := HWA.out
          have r0 := blk_cell d1 0 (v := .bool false) rfl
          have r1 := blk_cell d1 1 (v := .bool false) rfl
          have r2 := blk_cell d1 2 (v := .bool false) rfl
          have r3 := blk_cell d1 3 (v := .bool false) rfl
          have r4 := blk_cell d1 4 (v := .bool false) rfl
          have r5 := blk_cell d1 5 (v := .bool false) rfl
          have r6 := blk_cell d1 6 (v := .int .i64 0) rfl
          have r7 := blk_cell d1 7 (v := .int .i64 0) rfl
          have r8 := blk_cell d1 8 (v := .int .i64 0) rfl
          have r9 := blk_cell d1 9 (v := .int .i64 0) rfl
          have r10 := blk_cell d1 10 (v := .int .i64 0) rfl
          have r11 := blk_cell d1 11 (v := .int .i64 0) rfl
          have rz0 := blk_frozen d1 0
          have rz1 := blk_frozen d1 1
          have rz2 := blk_frozen d1 2
          have rz3 := blk_frozen d1 3
          have rz4 := blk_frozen d1 4
          have rz5 := blk_frozen d1 5
          have rz6 := blk_frozen d1 6
          have rz7 := blk_frozen d1 7
          have rz8 := blk_frozen d1 8
          have rz9 := blk_frozen d1 9
          have rz10 := blk_frozen d1 10
          have rz11 := blk_frozen d1 11
          clear hbB d0 d1 HWA HB0 HB1
          go_wp2
          refine bodyPost_ret (v := .tuple #[.agg #[.bool false, .bool false, .bool false, .bool false, .bool false, .bool false, .int .i64 0, .int .i64 0, .int .i64 0, .int .i64 0, .int .i64 0, .int .i64 0], .bool false]) (by simp [results, Try.results88, go_sem, r0, r1, r2, r3, r4, r5, r6, r7, r8, r9, r10, r11]) rfl ⟨?_, ?_⟩
          · rw [HF.out]; rfl
          · exact stores_below _ _ _ [.bool false, .bool false, .bool false, .bool false, .bool false, .bool false, .int .i64 0, .int .i64 0, .int .i64 0, .int .i64 0, .int .i64 0, .int .i64 0] B3 (by omega)
        | true =>
          have HN : Hid (wAll m vs xs = wAll m2 (vs.drop (k + 1)) (xs.drop (k + 1))) := HWA.out
          have e0 := blk_cell hbB 0 (v := .bool k'0) rfl
          have e1 := blk_cell hbB 1 (v := .bool k'1) rfl
          have e2 := blk_cell hbB 2 (v := .bool k'2) rfl
          have e3 := blk_cell hbB 3 (v := .bool k'3) rfl
          have e4 := blk_cell hbB 4 (v := .bool k'4) rfl
          have e5 := blk_cell hbB 5 (v := .bool k'5) rfl
          have e6 := blk_cell hbB 6 (v := .int .i64 n'0) rfl
          have e7 := blk_cell hbB 7 (v := .int .i64 n'1) rfl
          have e8 := blk_cell hbB 8 (v := .int .i64 n'2) rfl
          have e9 := blk_cell hbB 9 (v := .int .i64 n'3) rfl
          have e10 := blk_cell hbB 10 (v := .int .i64 n'4) rfl
          have e11 := blk_cell hbB 11 (v := .int .i64 n'5) rfl
          have s0 := blk_cell d0 0 (v := .bool k0) rfl
          have s1 := blk_cell d0 1 (v := .bool k1) rfl
          have s2 := blk_cell d0 2 (v := .bool k2) rfl
          have s3 := blk_cell d0 3 (v := .bool k3) rfl
          have s4 := blk_cell d0 4 (v := .bool k4) rfl
          have s5 := blk_cell d0 5 (v := .bool k5) rfl
          have s6 := blk_cell d0 6 (v := .int .i64 n0) rfl
          have s7 := blk_cell d0 7 (v := .int .i64 n1) rfl
          have s8 := blk_cell d0 8 (v := .int .i64 n2) rfl
          have s9 := blk_cell d0 9 (v := .int .i64 n3) rfl
          have s10 := blk_cell d0 10 (v := .int .i64 n4) rfl
          have s11 := blk_cell d0 11 (v := .int .i64 n5) rfl
          have sz0 := blk_frozen d0 0
          have sz1 := blk_frozen d0 1
          have sz2 := blk_frozen d0 2
          have sz3 := blk_frozen d0 3
          have sz4 := blk_frozen d0 4
          have sz5 := blk_frozen d0 5
          have sz6 := blk_frozen d0 6
          have sz7 := blk_frozen d0 7
          have sz8 := blk_frozen d0 8
          have sz9 := blk_frozen d0 9
          have sz10 := blk_frozen d0 10
          have sz11 := blk_frozen d0 11
          have HD0 := Hid.mk d0
          have HD1 := Hid.mk d1
          have HW2 := Hid.mk hw2
          clear hbB d0 d1 HWA HB0 HB1 hw2
          go_wp2
          go_roundw
          case rel =>
            refine ⟨k + 1, m2, by omega, by go_num, HML.out, HN.out, ?_, ?_, ?_⟩
            · rw [HW2.out]; exact blk_stores12 HD0.out _ _ _ _ _ _ _ _ _ _ _ _
            · exact (stores_block w3 w.heap.size 0 [.bool k'0, .bool k'1, .bool k'2, .bool k'3, .bool k'4, .bool k'5, .int .i64 n'0, .int .i64 n'1, .int .i64 n'2, .int .i64 n'3, .int .i64 n'4, .int .i64 n'5] _ (by omega)).trans HD1.out
            · exact stores_below _ _ _ [.bool k'0, .bool k'1, .bool k'2, .bool k'3, .bool k'4, .bool k'5, .int .i64 n'0, .int .i64 n'1, .int .i64 n'2, .int .i64 n'3, .int .i64 n'4, .int .i64 n'5] B3 (Nat.le_refl _)
          case measure => simp [intOf]; omega
    · have hd : wAll m vs xs = (mk, true) := by rw [hwa, List.drop_of_length_le (by have := HVZ.out; omega)]; rfl
      have HD : Hid (wAll m vs xs = (mk, true)) := hd
      have HWK : Hid ((wcells mk).toArray = #[.bool k0, .bool k1, .bool k2, .bool k3, .bool k4, .bool k5, .int .i64 n0, .int .i64 n1, .int .i64 n2, .int .i64 n3, .int .i64 n4, .int .i64 n5]) := by show _ = _; rw [hwk]
      have r0 := blk_cell hb1 0 (v := .bool false) rfl
      have r1 := blk_cell hb1 1 (v := .bool false) rfl
      have r2 := blk_cell hb1 2 (v := .bool false) rfl
      have r3 := blk_cell hb1 3 (v := .bool false) rfl
      have r4 := blk_cell hb1 4 (v := .bool false) rfl
      have r5 := blk_cell hb1 5 (v := .bool false) rfl
      have r6 := blk_cell hb1 6 (v := .int .i64 0) rfl
      have r7 := blk_cell hb1 7 (v := .int .i64 0) rfl
      have r8 := blk_cell hb1 8 (v := .int .i64 0) rfl
      have r9 := blk_cell hb1 9 (v := .int .i64 0) rfl
      have r10 := blk_cell hb1 10 (v := .int .i64 0) rfl
      have r11 := blk_cell hb1 11 (v := .int .i64 0) rfl
      have rz0 := blk_frozen hb1 0
      have rz1 := blk_frozen hb1 1
      have rz2 := blk_frozen hb1 2
      have rz3 := blk_frozen hb1 3
      have rz4 := blk_frozen hb1 4
      have rz5 := blk_frozen hb1 5
      have rz6 := blk_frozen hb1 6
      have rz7 := blk_frozen hb1 7
      have rz8 := blk_frozen hb1 8
      have rz9 := blk_frozen hb1 9
      have rz10 := blk_frozen hb1 10
      have rz11 := blk_frozen hb1 11
      clear hd hb0 hb0' hb1 hwk hwa
      go_wp2
      refine bodyPost_ret (v := .tuple #[.agg #[.bool k0, .bool k1, .bool k2, .bool k3, .bool k4, .bool k5, .int .i64 n0, .int .i64 n1, .int .i64 n2, .int .i64 n3, .int .i64 n4, .int .i64 n5], .bool true]) (by simp [results, Try.results88, go_sem, r0, r1, r2, r3, r4, r5, r6, r7, r8, r9, r10, r11]) rfl ⟨?_, ?_⟩
      · rw [HD.out, HWK.out]
      · exact stores_below _ _ _ [.bool k0, .bool k1, .bool k2, .bool k3, .bool k4, .bool k5, .int .i64 n0, .int .i64 n1, .int .i64 n2, .int .i64 n3, .int .i64 n4, .int .i64 n5] hbw (by omega)

end Go.Proofs.Ytociphdhkjoofaa
