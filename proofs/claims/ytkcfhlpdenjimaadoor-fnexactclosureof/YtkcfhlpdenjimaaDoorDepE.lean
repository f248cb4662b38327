/- Contracts of the laws' helpers eqDepend, eqDependS over dependencies that are alike. -/
import Derived.Test.YtkcfhlpdenjimaaDoorDepT
import Derived.Test.YtkcfhlpdenjimaaDoorIntE
namespace Go.Proofs.YtkcfhlpdenjimaaDoor
open Go.RowKit

set_option maxRecDepth 100000 in
set_option maxHeartbeats 2000000 in
theorem eqDepend_same (sa sa' : Option Addr) (sn sc sc' : Nat) (pa pa' : Option Addr) (pn pc pc' : Nat) (ss : List Int) (xs : List Int) (w : World) (hsz : ss.length = sn) (hz : xs.length = pn) (hsn : sn ≤ 1048576) (hpn : pn ≤ 1048576) (hsa : At w sa ss) (ha : At w pa xs) (hsa' : At w sa' ss) (ha' : At w pa' xs) :
    Calls Tryd.prog 22 #[.agg #[.slice sa sn sc, .slice pa pn pc], .agg #[.slice sa' sn sc', .slice pa' pn pc']] w fun e w' => e = .returned (.bool true) ∧ Below w.heap.size w w' := by
  obtain ⟨W, hW⟩ : ∃ W, W = ((w.alloc (.cells #[.slice sa sn sc, .slice pa pn pc] 43)).alloc (.cells #[.slice sa' sn sc', .slice pa' pn pc'] 43)) := ⟨_, rfl⟩
  have B0 : Below w.heap.size w W := by rw [hW]; exact (((Below.refl _ _).alloc (Nat.le_refl _) _).alloc (by simp) _)
  have q0 : W.cell? ⟨w.heap.size, 1, none⟩ = some (.slice pa pn pc) := by rw [hW]; simp
  have q1 : W.cell? ⟨w.heap.size + 1, 1, none⟩ = some (.slice pa' pn pc') := by rw [hW]; simp
  have U3 := Hid.mk (And.intro hsa hsa')
  have V3 := Hid.mk (And.intro ha ha')
  have HU1 := Hid.mk hsz
  have HV1 := Hid.mk hz
  clear hsa ha hsa' ha' hsz hz
  go_enter Tryd.func22, Tryd.ntmps22
  go_wp2_with fail
  rw [← hW]
  clear hW
  refine (eqIntS_same sa sa' sn sc sc' ss W HU1.out hsn (At.below U3.out.1 B0) (At.below U3.out.2 B0)).mono ?_
  rintro e w1 ⟨rfl, hb1⟩
  have B1 := B0.trans (hb1.mono B0.size)
  have q0 := cell_later hb1 q0
  have q1 := cell_later hb1 q1
  clear hb1 B0
  go_wp2_with fail
  refine (eqIntS_same pa pa' pn pc pc' xs w1 HV1.out hpn (At.below V3.out.1 B1) (At.below V3.out.2 B1)).mono ?_
  rintro e w2 ⟨rfl, hb2⟩
  go_wp2
  go_ret
  exact ⟨rfl, B1.trans (hb2.mono B1.size)⟩

set_option maxRecDepth 100000 in
set_option maxHeartbeats 4000000 in
theorem eqDependS_same (a a' : Option Addr) (n c c' : Nat) (xs : List Dep) (w : World) (hz : xs.length = n) (hn : n ≤ 1048576) (hs : ∀ (i : Nat) (x : Dep), xs[i]? = some x → SmDep x) (ha : AtD w a xs) (ha' : AtD w a' xs) :
    Calls Tryd.prog 13 #[.slice a n c, .slice a' n c'] w fun e w' => e = .returned (.bool true) ∧ Below w.heap.size w w' := by
  by_cases h0 : n = 0
  · subst h0
    go_enter Tryd.func13, Tryd.ntmps13
    go_wp2
    refine wp_loop_rounds 1 ?_
    rw [rounds_succ]
    go_wp2
    go_ret
    exact ⟨rfl, Below.refl _ _⟩
  · go_enter Tryd.func13, Tryd.ntmps13
    go_wp2
    go_loopw [5] (fun i wr => ∃ (k : Nat), k ≤ n ∧ i = .int .i64 k ∧ Below w.heap.size w wr) (fun i _ => n - (intOf i).toNat)
    case atStart => exact ⟨0, Nat.zero_le _, rfl, Below.refl _ _⟩
    case round =>
      obtain ⟨k, hk, rfl, hbw⟩ := hrel
      by_cases hlt : k < n
      · obtain ⟨b, off, rfl, _, hc⟩ := AtD.row (AtSl.below ha hbw) (by omega)
        obtain ⟨b', off', rfl, _, hc'⟩ := AtD.row (AtSl.below ha' hbw) (by omega)
        obtain ⟨x, hx⟩ : ∃ x, xs[k]? = some x := ⟨_, List.getElem?_eq_getElem (by omega)⟩
        obtain ⟨fa, fn, fc, ta, tn, tc, g0, g1, ⟨t1, t2, t3⟩, ⟨u1, u2, u3⟩⟩ := hc k x hx
        obtain ⟨fa', fn', fc', ta', tn', tc', h0, h1, ⟨t1', _, t3'⟩, ⟨u1', _, u3'⟩⟩ := hc' k x hx
        obtain rfl : fn = fn' := t1.symm.trans t1'
        obtain rfl : tn = tn' := u1.symm.trans u1'
        have hsm := hs k x hx
        have hki : (k : Int) < (n : Int) := by omega
        have HE : Hid (∀ w' : World, Below wr.heap.size wr w' → Calls Tryd.prog 22 #[.agg #[.slice fa fn fc, .slice ta tn tc], .agg #[.slice fa' fn fc', .slice ta' tn tc']] w' fun e w'' => e = .returned (.bool true) ∧ Below w'.heap.size w' w'') :=
          fun w' hw' => eqDepend_same fa fa' fn fc fc' ta ta' tn tc tc' x.1 x.2 w' t1 u1 (by have := hsm.1; omega) (by have := hsm.2; omega) (At.below t3 hw') (At.below u3 hw') (At.below t3' hw') (At.below u3' hw')
        clear hc hc' ha ha' hs hsm hx t1 t3 u1 u3 t1' t3' u1' u3'
        go_wp2_with fail
        go_region_held3 (fun w' => w'.cell? ⟨b, off + k * 2, none⟩ = some (.slice fa fn fc) ∧ w'.cell? ⟨b, off + k * 2 + 1, none⟩ = some (.slice ta tn tc) ∧ w'.cell? ⟨b', off' + k * 2, none⟩ = some (.slice fa' fn fc') ∧ w'.cell? ⟨b', off' + k * 2 + 1, none⟩ = some (.slice ta' tn tc')) (refine ⟨?_, ?_, ?_, ?_⟩ <;> assumption)
          (first | (go_at_call 22; refine (HE.out wr.drew (Below.refl _ _).drew).mono ?_; rintro e w2 ⟨rfl, hb2⟩; have e0 := cell_later hb2 g0; have e1 := cell_later hb2 g1; have d0 := cell_later hb2 h0; have d1 := cell_later hb2 h1) | fail)
        go_wp2
        go_roundw
        case rel => exact ⟨k + 1, by omega, by go_num, hbw.drew.trans (hb2.mono hbw.size)⟩
        case measure => simp [intOf]; omega
      · go_wp2
        go_ret
        exact ⟨rfl, hbw⟩

end Go.Proofs.YtkcfhlpdenjimaaDoor
