/- Contract of the program's OutOf. -/
import Derived.Test.YtecaaekilbdgdaaSkP
import Derived.Test.YtecaaekilbdgdaaBoD
import Derived.Test.YtecaaekilbdgdaaGkG
import Derived.Test.YtecaaekilbdgdaaClnI
namespace Go.Proofs.Ytecaaekilbdgdaa
open Go.RowKit

set_option maxRecDepth 100000 in
set_option maxHeartbeats 4000000 in
theorem implOutOf (a0 : Option Addr) (n0 c0 : Nat) (a2 : Option Addr) (n2 c2 : Nat) (a3 : Option Addr) (n3 c3 : Nat) (a4 : Option Addr) (n4 c4 : Nat) (t la up : Int) (src pd : List Int) (ps : List TPrepared) (ou : List Int) (w : World) (hnc : n0 ≤ c0) (h0 : src.length = n0) (h2 : pd.length = n2) (h3 : ps.length = n3) (h4 : ou.length = n4) (hb0 : n0 ≤ 1048576) (hb2 : n2 ≤ 1048576) (hb3 : n3 ≤ 1048576) (hb4 : n4 ≤ 1048576) (hsm : ∀ (i : Nat) (x : TPrepared), ps[i]? = some x → costPrepared x ≤ 1048576)
    (ha0 : At w a0 src) (ha2 : At w a2 pd) (ha3 : AtSl RPrepared w a3 ps) (ha4 : At w a4 ou) (hF4 : a4 = none → c4 = 0) :
    Calls Try.prog 25 #[.agg #[.slice a0 n0 c0, .int .i64 t, .slice a2 n2 c2, .slice a3 n3 c3, .slice a4 n4 c4, .int .i64 la, .int .i64 up]] w fun e w' => BoRet e w' w.heap.size (gkB (src, t, pd, ps, ou, la, up)) (outN (src, t, pd, ps, ou, la, up)) (outL (src, t, pd, ps, ou, la, up)) ∧ Below w.heap.size w w' := by
  obtain ⟨i0, hi, hz0, hz1, hz2⟩ := info_parts Try.infoInt
  obtain ⟨W, hW⟩ : ∃ W, W = w.alloc (.cells #[.slice a0 n0 c0, .int .i64 t, .slice a2 n2 c2, .slice a3 n3 c3, .slice a4 n4 c4, .int .i64 la, .int .i64 up] 25) := ⟨_, rfl⟩
  have B0 : Below w.heap.size w W := by rw [hW]; exact (Below.refl _ _).alloc (Nat.le_refl _) _
  have zW : w.heap.size < W.heap.size := by rw [hW]; simp
  have p0 : W.cell? ⟨w.heap.size, 0, none⟩ = some (.slice a0 n0 c0) := by rw [hW]; simp
  have p1 : W.cell? ⟨w.heap.size, 1, none⟩ = some (.int .i64 t) := by rw [hW]; simp
  have p2 : W.cell? ⟨w.heap.size, 2, none⟩ = some (.slice a2 n2 c2) := by rw [hW]; simp
  have p3 : W.cell? ⟨w.heap.size, 3, none⟩ = some (.slice a3 n3 c3) := by rw [hW]; simp
  have p4 : W.cell? ⟨w.heap.size, 4, none⟩ = some (.slice a4 n4 c4) := by rw [hW]; simp
  have p5 : W.cell? ⟨w.heap.size, 5, none⟩ = some (.int .i64 la) := by rw [hW]; simp
  have p6 : W.cell? ⟨w.heap.size, 6, none⟩ = some (.int .i64 up) := by rw [hW]; simp
  have KG := Hid.mk (implGoodSink a0 n0 c0 a2 n2 c2 a3 n3 c3 a4 n4 c4 t la up src pd ps ou W hnc h0 h2 h3 h4 hb0 hb2 hb3 hb4 hsm (At.below ha0 B0) (At.below ha2 B0) (AtSl.below ha3 B0) (At.below ha4 B0))
  have HG : Hid (gkB (src, t, pd, ps, ou, la, up) = true → (ou.length : Int) = up ∧ ou.length ≤ 30 ∧ outN (src, t, pd, ps, ou, la, up) = (n0 : Int) - up ∧ outL (src, t, pd, ps, ou, la, up) = ou ∧ 0 ≤ up ∧ up ≤ n0) := Hid.mk (fun h => by
    have q := gk_out h
    have q2 := gk_parts h
    refine ⟨q.1, q.2, ?_, ?_, q2.2.2.2.1, ?_⟩
    · unfold outN; rw [h, if_pos rfl]; simp only [h0]
    · unfold outL; rw [h]; rfl
    · omega)
  have HN : Hid (gkB (src, t, pd, ps, ou, la, up) = false → outN (src, t, pd, ps, ou, la, up) = 0 ∧ outL (src, t, pd, ps, ou, la, up) = []) := Hid.mk (fun h => by
    unfold outN outL; rw [h]; exact ⟨rfl, rfl⟩)
  obtain ⟨PB, hPB⟩ : ∃ b, gkB (src, t, pd, ps, ou, la, up) = b := ⟨_, rfl⟩
  obtain ⟨XN, hXN⟩ : ∃ b, outN (src, t, pd, ps, ou, la, up) = b := ⟨_, rfl⟩
  obtain ⟨XL, hXL⟩ : ∃ b, outL (src, t, pd, ps, ou, la, up) = b := ⟨_, rfl⟩
  rw [hPB, hXN, hXL]
  rw [hPB, hXN, hXL] at HG HN
  rw [hPB] at KG
  clear hPB hXN hXL
  have HA4 := Hid.mk (At.below ha4 B0)
  have H4 := Hid.mk h4
  clear ha0 ha2 ha3 ha4 h0 h2 h3 h4 hsm
  go_enter Try.func25, Try.ntmps25
  go_upto_region 1 with fail
  rw [← hW]
  clear hW
  go_wp2_with fail
  refine KG.out.mono ?_
  rintro e w1 ⟨rfl, hb1⟩
  have B1 := Hid.mk (B0.trans (hb1.mono B0.size))
  have p0 := cell_later hb1 p0
  have p4 := cell_later hb1 p4
  have p6 := cell_later hb1 p6
  have HA4 := Hid.mk (At.below HA4.out hb1)
  have zlt : w.heap.size < w1.heap.size := Nat.lt_of_lt_of_le zW hb1.size
  clear KG hb1 p1 p2 p3 p5
  cases PB with
  | false =>
    obtain ⟨rfl, rfl⟩ := HN.out rfl
    clear HG HN
    go_wp2
    refine bodyPost_ret (v := .tuple #[.slice none 0 0, .int .i64 0, .bool false]) (by simp [results, Try.results25, go_sem]) rfl ⟨⟨none, 0, 0, rfl, rfl, World.ownsRow_nil _ _ _ _⟩, B1.out⟩
  | true =>
    obtain ⟨e0, e5, e1, e2, e3, e4⟩ := HG.out rfl
    obtain rfl := e1
    obtain rfl := e2.symm
    have hws : IntKind.i64.wrap ((n0 : Int) - up) = (n0 : Int) - up := IntWalk.i64_in _ (by omega)
    have E0 := Hid.mk e0
    clear HG HN
    go_upto_region 3 with fail
    refine wp_region_held_drew (S := fun w' => w'.cell? ⟨w.heap.size, 0, none⟩ = some (.slice a0 n0 c0) ∧ w'.cell? ⟨w.heap.size, 4, none⟩ = some (.slice a4 n4 c4) ∧ w'.cell? ⟨w.heap.size, 6, none⟩ = some (.int .i64 up)) (by kernel_rfl) ?_ (fun hHeld => ?_)
    · (try dsimp only)
      exact ⟨p0, p4, p6⟩
    refine tk 0 ?_
    refine tk 1 ?_
    refine tk 3 ?_
    refine tk 4 ?_
    refine tk 5 ?_
    refine tk 6 ?_
    refine tk 7 ?_
    refine tk 8 ?_
    refine tr 2 (fun K hK => ?_)
    go_simp
    go_at_call 27
    refine (cloneI_any a4 n4 c4 ou _ H4.out hb4 hF4 (At.below HA4.out (Below.refl _ _).drew)).mono ?_
    rintro e w2 ⟨r, d, rfl, ho, hb⟩
    have h2 : Below w1.heap.size w1 w2 := (Below.refl _ _).drew.trans hb
    have p0 := cell_later h2 p0
    have p4 := cell_later h2 p4
    have p6 := cell_later h2 p6
    have B2 := Hid.mk (B1.out.trans (h2.mono B1.out.size))
    have HO := Hid.mk (owns_mono ho (show w.heap.size ≤ _ from B1.out.size))
    clear hb h2 ho
    (try go_wp2_with fail)
    refine hK.out _ _ ?_ (fun hHeld' => ?_)
    · (try dsimp only)
      exact ⟨p0, p4, p6⟩
    clear hK K hHeld
    have hHeld := hHeld'
    clear hHeld'
    (try simp only [Act.put, List.setIfInBounds_toArray, List.set_cons_zero, List.set_cons_succ])
    refine tk 9 ?_
    refine tk 10 ?_
    refine tk 11 ?_
    refine wpAnyH_done (by kernel_rfl) ?_ _
    go_wp2
    refine bodyPost_ret (v := .tuple #[.slice r n4 d, .int .i64 ((n0 : Int) - up), .bool true]) (by simp [results, Try.results25, go_sem]) rfl ⟨⟨r, n4, d, rfl, H4.out, HO.out⟩, B2.out⟩

end Go.Proofs.Ytecaaekilbdgdaa
