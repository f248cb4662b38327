/- Several texts of one proof, in build order: BsK, IntM, PairM, SaG, SaH. -/
import Derived.Test.YtkcmlphpilggpaaDoorM12
import Derived.Test.YtkcmlphpilggpaaDoorM14
import Derived.Test.YtkcmlphpilggpaaDoorM13
import Derived.Test.YtkcmlphpilggpaaDoorM3
import Derived.Test.YtkcmlphpilggpaaDoorM6

/- Contracts of BestOf and BestOrder, the program's and the model's. -/
namespace Go.Proofs.YtkcmlphpilggpaaDoor
open Go.RowKit

def boL (zs : List Int) (fs : List (List Int)) (l : List Int) : List Int := if smT zs fs l then bestL zs fs l else []
def boC (zs : List Int) (fs : List (List Int)) (l : List Int) : Int := if smT zs fs l then costL zs fs (bestL zs fs l) else 0
def BoRet (e : Ending) (w' : World) (lo : Nat) (ok : Bool) (C : Int) (l : List Int) : Prop := ∃ r m d, e = .returned (.tuple #[.slice r m d, .int .i64 C, .bool ok]) ∧ l.length = m ∧ w'.ownsRow lo 3 1 (.slice r m d) m (l.map (.int .i64))
theorem BoRet.zero {w' : World} {lo : Nat} {zs : List Int} {fs : List (List Int)} {l : List Int} (h : smT zs fs l = false) : BoRet (.returned (.tuple #[.slice none 0 0, .int .i64 0, .bool false])) w' lo (smT zs fs l) (boC zs fs l) (boL zs fs l) := by
  unfold boC boL
  rw [h]
  exact ⟨none, 0, 0, rfl, rfl, World.ownsRow_nil _ _ _ _⟩
theorem BoRet.yes {w' : World} {lo : Nat} {zs : List Int} {fs : List (List Int)} {l : List Int} {r : Option Addr} {m d : Nat} {C : Int} (h : smT zs fs l = true) (hC : costL zs fs (bestL zs fs l) = C) (hm : (bestL zs fs l).length = m) (ho : w'.ownsRow lo 3 1 (.slice r m d) m ((bestL zs fs l).map (.int .i64))) : BoRet (.returned (.tuple #[.slice r m d, .int .i64 C, .bool true])) w' lo (smT zs fs l) (boC zs fs l) (boL zs fs l) := by
  unfold boC boL
  rw [h]
  exact ⟨r, m, d, by rw [if_pos rfl, hC], by rw [if_pos rfl]; exact hm, by rw [if_pos rfl]; exact ho⟩
theorem smT_open {zs : List Int} {fs : List (List Int)} {l : List Int} (h : smT zs fs l = true) : GsF zs fs ∧ ris (zs.length : Int) l = true ∧ 0 < l.length := by
  simp only [smT, Bool.and_eq_true, decide_eq_true_eq] at h
  exact ⟨gsF h.1, h.2.2, h.2.1⟩
theorem bo_small (zs : List Int) (fs : List (List Int)) (l : List Int) : (boL zs fs l).length ≤ 6 := by
  unfold boL
  cases h : smT zs fs l with
  | false => simp
  | true =>
    obtain ⟨hg, hr, _⟩ := smT_open h
    have ht := ris_tbl hr
    have h1 := (bestL_perm zs fs _ l ht.nd rfl).length_eq
    have h2 := ht.len
    have h3 := hg.n6
    rw [if_pos rfl]
    omega
theorem ris_up : ∀ n : Nat, n < 7 → ris (n : Int) (upN n) = true := by decide +kernel
theorem smT_up (zs : List Int) (fs : List (List Int)) : smT zs fs (upN zs.length) = gsB zs fs := by
  unfold smT
  cases h : gsB zs fs with
  | false => rfl
  | true =>
    have hg := gsF h
    rw [upN_len, ris_up _ (by have := hg.n6; omega), decide_eq_true (by have := hg.n1; omega)]; rfl

set_option maxRecDepth 100000 in
set_option maxHeartbeats 4000000 in
theorem implBestOf (sa : Option Addr) (sn sc : Nat) (zs : List Int) (pa : Option Addr) (pn pc : Nat) (fs : List (List Int)) (a : Option Addr) (n c : Nat) (l : List Int) (w : World) (hs : zs.length = sn) (hsn : sn ≤ 9223372036854775807) (hsa : At w sa zs) (hz : fs.length = pn) (hpn : pn ≤ 9223372036854775807) (ha : AtS w pa fs) (hl : l.length = n) (hn : n ≤ 9223372036854775807) (hla : At w a l) (ht : TabB w) :
    Calls Tryd.prog 16 #[.agg #[.slice sa sn sc, .slice pa pn pc], .slice a n c] w fun e w' => BoRet e w' w.heap.size (smT zs fs l) (boC zs fs l) (boL zs fs l) ∧ Below w.heap.size w w' := by
  obtain ⟨W, hW⟩ : ∃ W, W = w.alloc (.cells #[.slice sa sn sc, .slice pa pn pc] 29) := ⟨_, rfl⟩
  have B0 : Below w.heap.size w W := by rw [hW]; exact (Below.refl _ _).alloc (Nat.le_refl _) _
  have q0 : W.cell? ⟨w.heap.size, 0, none⟩ = some (.slice sa sn sc) := by rw [hW]; simp
  have q1 : W.cell? ⟨w.heap.size, 1, none⟩ = some (.slice pa pn pc) := by rw [hW]; simp
  have HS := Hid.mk hs
  have HZ := Hid.mk hz
  have HL := Hid.mk hl
  have HSA := Hid.mk (At.below hsa B0)
  have HA := Hid.mk (AtS.below ha B0)
  have HLA := Hid.mk (At.below hla B0)
  have HT := Hid.mk ht
  have K := Hid.mk (areSome_any sa sn sc zs pa pn pc fs a n c l W hs hsn (At.below hsa B0) hz hpn (AtS.below ha B0) hl hn (At.below hla B0))
  clear hs hz hl hsa ha hla ht
  go_enter Tryd.func16, Tryd.ntmps16
  go_wp2_with fail
  rw [← hW]
  clear hW
  refine K.out.mono ?_
  rintro e w1 ⟨rfl, hb1⟩
  have q0 := cell_later hb1 q0
  have q1 := cell_later hb1 q1
  have B1 := Hid.mk (B0.trans (hb1.mono B0.size))
  have HLA1 := Hid.mk (At.below HLA.out hb1)
  have HSA1 := Hid.mk (At.below HSA.out hb1)
  have HA1 := Hid.mk (AtS.below HA.out hb1)
  clear hb1 K HLA HSA HA
  cases hg : smT zs fs l with
  | false =>
    have HG := Hid.mk hg
    clear hg
    go_wp2
    have h9 := BoRet.zero (w' := w1) (lo := w.heap.size) HG.out
    exact bodyPost_ret (v := .tuple #[.slice none 0 0, .int .i64 0, .bool false]) (by simp [results, Tryd.results16, go_sem]) rfl ⟨h9, B1.out⟩
  | true =>
    obtain ⟨hgf, hri, hpos⟩ := smT_open hg
    have htb := ris_tbl hri
    have hc6 : (zs.length : Int) ≤ 6 := by have := hgf.n6; omega
    have hbm : bl (mk l) = l := bl_mk hc6 hri
    have hmk := mk_lt hc6 hri
    have hin := ris_in hc6 hri
    obtain ⟨P, hP⟩ : ∃ P, mk l = P := ⟨_, rfl⟩
    have K1 := Hid.mk (costsBy_any sa sn sc zs pa pn pc fs w1 HS.out HSA1.out HZ.out HA1.out)
    have KS : Hid (∀ w' : World, Below w1.heap.size w1 w' → Calls Tryd.prog 30 #[.slice a n c] w' fun e w'' => e = .returned (.int .u64 (P : Nat)) ∧ w'' = w') := fun w' hw' => by
      rw [← hP]; exact setOf_any a n c l w' HL.out hn hin (At.below HLA1.out hw')
    rw [hP] at hbm hmk
    have HG := Hid.mk hg
    have HGF := Hid.mk hgf
    have HTB := Hid.mk htb
    have HBM := Hid.mk hbm
    clear hg hgf hri htb hbm hin hP hpos
    go_wp2_with fail
    refine K1.out.mono ?_
    rintro e w2 ⟨b, rfl, hbx, hb2⟩
    have B2 := Hid.mk (B1.out.trans (hb2.mono B1.out.size))
    have K2 := Hid.mk (KS.out w2 hb2)
    have K3 := Hid.mk (bestPlan_any b P zs fs w2 hbx HGF.out hmk (by rw [HBM.out]; exact HTB.out) (TabIs.below HT.out B2.out))
    clear hbx hb2 K1 KS
    go_wp2_with fail
    refine K2.out.mono ?_
    rintro e w3 ⟨rfl, hw3⟩
    obtain rfl := hw3.symm
    clear hw3 K2
    go_wp2_with fail
    refine K3.out.mono ?_
    rintro e w4 ⟨r, d, rfl, ho, hb4⟩
    have hbl : bestL zs fs l = pO zs fs P := by unfold pO; rw [HBM.out]
    have hlen : (bl P).length = (bestL zs fs l).length := by rw [HBM.out]; exact (bestL_perm zs fs _ l HTB.out.nd rfl).length_eq.symm
    obtain ⟨m, hm⟩ : ∃ m, (bl P).length = m := ⟨_, rfl⟩
    obtain ⟨C, hC⟩ : ∃ C, pC zs fs P = C := ⟨_, rfl⟩
    have HOW := Hid.mk (owns_mono ho B2.out.size)
    have HM : Hid ((bestL zs fs l).length = m) := by show _ = _; rw [← hlen, hm]
    have HC : Hid (costL zs fs (bestL zs fs l) = C) := by show _ = _; rw [← hC, hbl]; rfl
    have HBL := Hid.mk hbl
    rw [hm] at HOW
    rw [hm, hC]
    obtain ⟨U, hU⟩ : ∃ U, U = w4.alloc (.cells #[.slice r m d, .int .i64 C] 49) := ⟨_, rfl⟩
    have hbU : Below w4.heap.size w4 U := by rw [hU]; exact (Below.refl _ _).alloc (Nat.le_refl _) _
    have u0 : U.cell? ⟨w4.heap.size, 0, none⟩ = some (.slice r m d) := by rw [hU]; simp
    have u1 : U.cell? ⟨w4.heap.size, 1, none⟩ = some (.int .i64 C) := by rw [hU]; simp
    have HOU := Hid.mk (owns_below HOW.out hbU)
    have B4 := Hid.mk (B2.out.trans ((hb4.trans (hbU.mono hb4.size)).mono B2.out.size))
    clear ho hb4 hbl hlen hm hC hbU K3 HOW
    go_upto_region 4 with fail
    rw [← hU]
    clear hU
    go_wp2
    go_quiet (fail)
    go_wp2
    have h9 := BoRet.yes (w' := U) (lo := w.heap.size) HG.out HC.out HM.out (by rw [HBL.out]; exact HOU.out)
    refine bodyPost_ret (v := .tuple #[.slice r m d, .int .i64 C, .bool true]) (by simp [results, Tryd.results16, go_sem]) rfl ⟨?_, below_drewN B4.out _⟩
    obtain ⟨r9, m9, d9, x1, x2, x3⟩ := h9
    exact ⟨r9, m9, d9, x1, x2, owns_below x3 (below_drewN (Below.refl _ _) _)⟩

set_option maxRecDepth 100000 in
set_option maxHeartbeats 4000000 in
theorem specBestOf (sa : Option Addr) (sn sc : Nat) (zs : List Int) (pa : Option Addr) (pn pc : Nat) (fs : List (List Int)) (a : Option Addr) (n c : Nat) (l : List Int) (w : World) (hs : zs.length = sn) (hsn : sn ≤ 9223372036854775807) (hsa : At w sa zs) (hz : fs.length = pn) (hpn : pn ≤ 9223372036854775807) (ha : AtS w pa fs) (hl : l.length = n) (hn : n ≤ 9223372036854775807) (hla : At w a l) :
    Calls Tryd.prog 14 #[.agg #[.slice sa sn sc, .slice pa pn pc], .slice a n c] w fun e w' => BoRet e w' w.heap.size (smT zs fs l) (boC zs fs l) (boL zs fs l) ∧ Below w.heap.size w w' := by
  obtain ⟨W, hW⟩ : ∃ W, W = w.alloc (.cells #[.slice sa sn sc, .slice pa pn pc] 29) := ⟨_, rfl⟩
  have B0 : Below w.heap.size w W := by rw [hW]; exact (Below.refl _ _).alloc (Nat.le_refl _) _
  have q0 : W.cell? ⟨w.heap.size, 0, none⟩ = some (.slice sa sn sc) := by rw [hW]; simp
  have q1 : W.cell? ⟨w.heap.size, 1, none⟩ = some (.slice pa pn pc) := by rw [hW]; simp
  have HS := Hid.mk hs
  have HZ := Hid.mk hz
  have HL := Hid.mk hl
  have HSA := Hid.mk (At.below hsa B0)
  have HA := Hid.mk (AtS.below ha B0)
  have HLA := Hid.mk (At.below hla B0)
  have K := Hid.mk (specGoodStats sa sn sc zs pa pn pc fs W hs hsn (At.below hsa B0) hz hpn (AtS.below ha B0))
  clear hs hz hl hsa ha hla
  go_enter Tryd.func14, Tryd.ntmps14
  go_wp2_with fail
  rw [← hW]
  clear hW
  refine K.out.mono ?_
  rintro e w1 ⟨rfl, hb1⟩
  have q0 := cell_later hb1 q0
  have q1 := cell_later hb1 q1
  have B1 := Hid.mk (B0.trans (hb1.mono B0.size))
  have HLA1 := Hid.mk (At.below HLA.out hb1)
  have HSA1 := Hid.mk (At.below HSA.out hb1)
  have HA1 := Hid.mk (AtS.below HA.out hb1)
  clear hb1 K HLA HSA HA
  cases hg : gsB zs fs with
  | false =>
    have HV : Hid (smT zs fs l = false) := by show _ = _; unfold smT; rw [hg]; rfl
    go_wp2
    exact bodyPost_ret (v := .tuple #[.slice none 0 0, .int .i64 0, .bool false]) (by simp [results, Tryd.results14, go_sem]) rfl ⟨BoRet.zero HV.out, B1.out⟩
  | true =>
  have K2 := Hid.mk (l1Some_any a n c l (sn : Int) w1 HL.out hn HLA1.out)
  go_wp2_with fail
  refine K2.out.mono ?_
  rintro e w2 ⟨rfl, hb2⟩
  have q0 := cell_later hb2 q0
  have q1 := cell_later hb2 q1
  have B2 := Hid.mk (B1.out.trans (hb2.mono B1.out.size))
  have HLA2 := Hid.mk (At.below HLA1.out hb2)
  have HSA2 := Hid.mk (At.below HSA1.out hb2)
  have HA2 := Hid.mk (AtS.below HA1.out hb2)
  clear hb2 K2 HLA1 HSA1 HA1 B1
  cases hr : ris (sn : Int) l with
  | false =>
    have HV : Hid (smT zs fs l = false) := by show _ = _; unfold smT; rw [HS.out, hr]; simp
    go_wp2
    exact bodyPost_ret (v := .tuple #[.slice none 0 0, .int .i64 0, .bool false]) (by simp [results, Tryd.results14, go_sem]) rfl ⟨BoRet.zero HV.out, B2.out⟩
  | true =>
  by_cases h0 : n = 0
  · have h0' : ((n : Int) == 0) = true := by rw [h0]; rfl
    have HV : Hid (smT zs fs l = false) := by show _ = _; unfold smT; rw [HL.out, decide_eq_false (by omega : ¬ 0 < n)]; simp
    clear h0
    go_wp2
    exact bodyPost_ret (v := .tuple #[.slice none 0 0, .int .i64 0, .bool false]) (by simp [results, Tryd.results14, go_sem]) rfl ⟨BoRet.zero HV.out, B2.out⟩
  · have h0' : ((n : Int) == 0) = false := beq_eq_false_iff_ne.2 (by omega)
    have HW : Hid (smT zs fs l = true) := by show _ = _; unfold smT; rw [hg, HL.out, HS.out, hr, decide_eq_true (by omega : 0 < n)]; rfl
    have hgf := gsF hg
    rw [← HS.out] at hr
    have htb := ris_tbl hr
    obtain ⟨n', hn'⟩ : ∃ n', n = n' + 1 := ⟨n - 1, by omega⟩
    subst hn'
    have K2 := Hid.mk (l12Best_any sa sn sc zs pa pn pc fs HS.out HZ.out hgf n' a c l w2 HSA2.out HA2.out HL.out HLA2.out htb)
    have HGF := Hid.mk hgf
    have HTB := Hid.mk htb
    have hlen := (bestL_perm zs fs _ l htb.nd rfl).length_eq
    rw [HL.out] at hlen
    have HLN := Hid.mk hlen
    clear hgf hr hg h0 htb hlen
    obtain ⟨N, hN⟩ : ∃ N, n' + 1 = N := ⟨_, rfl⟩
    rw [hN] at K2 HLN h0' ⊢
    clear hN
    go_wp2_with fail
    refine K2.out.mono ?_
    rintro e w3 ⟨r, d, rfl, ho, hb3⟩
    have q0 := cell_later hb3 q0
    have q1 := cell_later hb3 q1
    have B3 := Hid.mk (B2.out.trans (hb3.mono B2.out.size))
    have HO := Hid.mk (owns_mono ho B2.out.size)
    have K3 := Hid.mk (l12Cost_any sa sn sc zs pa pn pc fs r N d (bestL zs fs l) w3 HS.out (At.below HSA2.out hb3) HZ.out (AtS.below HA2.out hb3) HLN.out (At.owned ho) HGF.out (HTB.out.best zs fs))
    obtain ⟨C, hC⟩ : ∃ C, costL zs fs (bestL zs fs l) = C := ⟨_, rfl⟩
    rw [hC] at K3
    have HC := Hid.mk hC
    clear hb3 K2 ho hC
    go_wp2_with fail
    refine K3.out.mono ?_
    rintro e w4 ⟨rfl, hb4⟩
    have B4 := Hid.mk (B3.out.trans (hb4.mono B3.out.size))
    have HO4 := Hid.mk (owns_below HO.out hb4)
    clear hb4 K3
    go_wp2
    exact bodyPost_ret (v := .tuple #[.slice r N d, .int .i64 C, .bool true]) (by simp [results, Tryd.results14, go_sem]) rfl ⟨BoRet.yes HW.out HC.out HLN.out HO4.out, B4.out⟩


set_option maxRecDepth 100000 in
set_option maxHeartbeats 4000000 in
theorem implBestOrder (sa : Option Addr) (sn sc : Nat) (zs : List Int) (pa : Option Addr) (pn pc : Nat) (fs : List (List Int)) (w : World) (hs : zs.length = sn) (hsn : sn ≤ 1048576) (hsa : At w sa zs) (hz : fs.length = pn) (hpn : pn ≤ 9223372036854775807) (ha : AtS w pa fs) (ht : TabB w) :
    Calls Tryd.prog 8 #[.agg #[.slice sa sn sc, .slice pa pn pc]] w fun e w' => BoRet e w' w.heap.size (smT zs fs (upN zs.length)) (boC zs fs (upN zs.length)) (boL zs fs (upN zs.length)) ∧ Below w.heap.size w w' := by
  obtain ⟨W, hW⟩ : ∃ W, W = w.alloc (.cells #[.slice sa sn sc, .slice pa pn pc] 29) := ⟨_, rfl⟩
  have B0 : Below w.heap.size w W := by rw [hW]; exact (Below.refl _ _).alloc (Nat.le_refl _) _
  have q0 : W.cell? ⟨w.heap.size, 0, none⟩ = some (.slice sa sn sc) := by rw [hW]; simp
  have q1 : W.cell? ⟨w.heap.size, 1, none⟩ = some (.slice pa pn pc) := by rw [hW]; simp
  have KF : Hid (∀ w' : World, Below W.heap.size W w' → Calls Tryd.prog 21 #[.int .i64 (sn : Nat)] w' fun e w'' => ∃ r d, e = .returned (.slice r sn d) ∧ w''.ownsRow w'.heap.size 3 1 (.slice r sn d) sn ((upN sn).map (.int .i64)) ∧ Below w'.heap.size w' w'') := fun w' _ => firstNumbers_any sn w' hsn
  rw [hs]
  have KB : Hid (∀ w' : World, Below W.heap.size W w' → ∀ (r : Option Addr) (d : Nat), At w' r (upN sn) → Calls Tryd.prog 16 #[.agg #[.slice sa sn sc, .slice pa pn pc], .slice r sn d] w' fun e w'' => BoRet e w'' w'.heap.size (smT zs fs (upN sn)) (boC zs fs (upN sn)) (boL zs fs (upN sn)) ∧ Below w'.heap.size w' w'') := fun w' hw' r d hr =>
    have hb := B0.trans (hw'.mono B0.size)
    implBestOf sa sn sc zs pa pn pc fs r sn d (upN sn) w' hs (by omega) (At.below hsa hb) hz hpn (AtS.below ha hb) (upN_len sn) (by omega) hr (TabIs.below ht hb)
  have zW : w.heap.size ≤ W.heap.size := B0.size
  obtain ⟨ok, hok⟩ : ∃ b, smT zs fs (upN sn) = b := ⟨_, rfl⟩
  obtain ⟨C, hC⟩ : ∃ b, boC zs fs (upN sn) = b := ⟨_, rfl⟩
  obtain ⟨L, hL⟩ : ∃ b, boL zs fs (upN sn) = b := ⟨_, rfl⟩
  rw [hok, hC, hL] at KB ⊢
  clear hs hsa hz ha ht hok hC hL
  go_enter Tryd.func8, Tryd.ntmps8
  go_upto_region 1 with fail
  rw [← hW]
  clear hW
  refine wp_region_held_drew (S := fun w' => w'.cell? ⟨w.heap.size, 0, none⟩ = some (.slice sa sn sc) ∧ w'.cell? ⟨w.heap.size, 1, none⟩ = some (.slice pa pn pc)) (by kernel_rfl) ?_ (fun hHeld => ?_)
  · (try dsimp only)
    exact ⟨q0, q1⟩
  refine tk 0 ?_
  refine tk 1 ?_
  refine tk 2 ?_
  refine tk 3 ?_
  refine tr 4 (fun K hK => ?_)
  go_simp
  go_at_call 21
  refine (KF.out W.drew (Below.refl _ _).drew).mono ?_
  rintro e w2 ⟨r2, d2, rfl, ho2, hb2⟩
  have q0 := cell_later hb2 q0
  have q1 := cell_later hb2 q1
  have HB2 := Hid.mk ((Below.refl _ W).drew.trans hb2)
  have KB2 := Hid.mk (KB.out w2 HB2.out r2 d2 (At.owned ho2))
  clear ho2 hb2
  (try go_wp2_with fail)
  refine hK.out _ _ ?_ (fun hHeld' => ?_)
  · (try dsimp only)
    exact ⟨q0, q1⟩
  clear hK K hHeld
  have hHeld := hHeld'
  clear hHeld'
  (try simp only [Act.put, List.setIfInBounds_toArray, List.set_cons_zero, List.set_cons_succ])
  refine tr 5 (fun K hK => ?_)
  go_simp
  go_at_call 16
  refine KB2.out.mono ?_
  rintro e w3 ⟨⟨r3, m3, d3, rfl, hm3, ho3⟩, hb3⟩
  have q0 := cell_later hb3 q0
  have q1 := cell_later hb3 q1
  have HM3 := Hid.mk hm3
  have HO3 := Hid.mk (owns_mono ho3 HB2.out.size)
  have HB3 := Hid.mk (HB2.out.trans (hb3.mono HB2.out.size))
  clear hm3 ho3 hb3
  (try go_wp2_with fail)
  refine hK.out _ _ ?_ (fun hHeld' => ?_)
  · (try dsimp only)
    exact ⟨q0, q1⟩
  clear hK K hHeld
  have hHeld := hHeld'
  clear hHeld'
  (try simp only [Act.put, List.setIfInBounds_toArray, List.set_cons_zero, List.set_cons_succ])
  refine tk 6 ?_
  refine tk 7 ?_
  refine tk 8 ?_
  refine tk 9 ?_
  refine tk 10 ?_
  refine tk 11 ?_
  refine wpAnyH_done (by kernel_rfl) ?_ _
  go_wp2
  exact bodyPost_ret (v := .tuple #[.slice r3 m3 d3, .int .i64 C, .bool ok]) (by simp [results, Tryd.results8, go_sem]) rfl ⟨⟨r3, m3, d3, rfl, HM3.out, owns_mono HO3.out zW⟩, B0.trans (HB3.out.mono zW)⟩

set_option maxRecDepth 100000 in
set_option maxHeartbeats 4000000 in
theorem specBestOrder (sa : Option Addr) (sn sc : Nat) (zs : List Int) (pa : Option Addr) (pn pc : Nat) (fs : List (List Int)) (w : World) (hs : zs.length = sn) (hsn : sn ≤ 1048576) (hsa : At w sa zs) (hz : fs.length = pn) (hpn : pn ≤ 9223372036854775807) (ha : AtS w pa fs) :
    Calls Tryd.prog 6 #[.agg #[.slice sa sn sc, .slice pa pn pc]] w fun e w' => BoRet e w' w.heap.size (smT zs fs (upN zs.length)) (boC zs fs (upN zs.length)) (boL zs fs (upN zs.length)) ∧ Below w.heap.size w w' := by
  obtain ⟨j0, hj0, hy0, hy1, hy2⟩ := info_parts Tryd.infoInt
  obtain ⟨W, hW⟩ : ∃ W, W = w.alloc (.cells #[.slice sa sn sc, .slice pa pn pc] 29) := ⟨_, rfl⟩
  have B0 : Below w.heap.size w W := by rw [hW]; exact (Below.refl _ _).alloc (Nat.le_refl _) _
  have q0 : W.cell? ⟨w.heap.size, 0, none⟩ = some (.slice sa sn sc) := by rw [hW]; simp
  have q1 : W.cell? ⟨w.heap.size, 1, none⟩ = some (.slice pa pn pc) := by rw [hW]; simp
  have HQ := Hid.mk (And.intro q0 q1)
  have hup := smT_up zs fs
  rw [hs] at hup ⊢
  have K := Hid.mk (specGoodStats sa sn sc zs pa pn pc fs W hs (by omega) (At.below hsa B0) hz hpn (AtS.below ha B0))
  have KB : Hid (∀ w' : World, Below W.heap.size W w' → ∀ (r : Option Addr) (d : Nat), At w' r (upN sn) → Calls Tryd.prog 14 #[.agg #[.slice sa sn sc, .slice pa pn pc], .slice r sn d] w' fun e w'' => BoRet e w'' w'.heap.size (smT zs fs (upN sn)) (boC zs fs (upN sn)) (boL zs fs (upN sn)) ∧ Below w'.heap.size w' w'') := fun w' hw' r d hr =>
    have hb := B0.trans (hw'.mono B0.size)
    specBestOf sa sn sc zs pa pn pc fs r sn d (upN sn) w' hs (by omega) (At.below hsa hb) hz hpn (AtS.below ha hb) (upN_len sn) (by omega) hr
  have HZ0 : Hid (gsB zs fs = false → ∀ w', BoRet (.returned (.tuple #[.slice none 0 0, .int .i64 0, .bool false])) w' w.heap.size (smT zs fs (upN sn)) (boC zs fs (upN sn)) (boL zs fs (upN sn))) := fun h w' => BoRet.zero (by rw [hup]; exact h)
  have zW : w.heap.size ≤ W.heap.size := B0.size
  obtain ⟨ok, hok⟩ : ∃ b, smT zs fs (upN sn) = b := ⟨_, rfl⟩
  obtain ⟨C, hC⟩ : ∃ b, boC zs fs (upN sn) = b := ⟨_, rfl⟩
  obtain ⟨L, hL⟩ : ∃ b, boL zs fs (upN sn) = b := ⟨_, rfl⟩
  rw [hok, hC, hL] at KB HZ0 ⊢
  clear hs hsa hz ha hok hC hL hup
  go_enter Tryd.func6, Tryd.ntmps6
  go_wp2_with fail
  rw [← hW]
  clear hW
  refine K.out.mono ?_
  rintro e w1 ⟨rfl, hb1⟩
  have q0 := cell_later hb1 q0
  have q1 := cell_later hb1 q1
  have HB1 := Hid.mk hb1
  clear hb1 K
  cases hg : gsB zs fs with
  | false =>
    have h9 := HZ0.out hg w1
    have H9 := Hid.mk h9
    clear h9 HZ0 hg
    go_wp2
    exact bodyPost_ret (v := .tuple #[.slice none 0 0, .int .i64 0, .bool false]) (by simp [results, Tryd.results6, go_sem]) rfl ⟨H9.out, B0.trans (HB1.out.mono zW)⟩
  | true =>
    clear HZ0 hg
    go_wp2
    go_loopw [5, 13] (fun p i wr => ∃ (k : Nat) (r : Option Addr) (d : Nat), k ≤ sn ∧ i = .int .i64 k ∧ p = .slice r k d ∧ wr.ownsRow W.heap.size 3 1 (.slice r k d) k ((upN k).map (.int .i64)) ∧ Below W.heap.size W wr) (fun _ i _ => sn - (intOf i).toNat)
    case atStart => exact ⟨0, none, 0, Nat.zero_le _, rfl, rfl, World.ownsRow_nil _ _ _ _, HB1.out⟩
    case round =>
      obtain ⟨k, r, d, hk, rfl, rfl, ho, hbw⟩ := hrel
      by_cases hlt : k < sn
      · have hki : (k : Int) < (sn : Int) := by omega
        have HO := Hid.mk ho
        have HB := Hid.mk hbw
        have zw := hbw.size
        clear ho hbw
        go_wp2_with (at_builtin; refine wpList_app_vals rfl (.tmp 16) (.tmp 18) 22 rfl W.heap.size 3 j0 (.int .i64 0) 1 8 Tryd.underlying22 hj0 hy0 hy1 hy2 rfl (by decide) (.slice r k d) k ((upN k).map (.int .i64)) rfl (HO.out.alloc _) (some ⟨wr.heap.size, 0, none⟩) 1 1 [.int .i64 (k : Nat)] rfl rfl (fun ad he => by cases he; simpa using news_at wr #[.int .i64 (k : Nat)] 3) (by simp; rfl) (fun h => by cases h) (by unfold maxLen; omega) (by omega) (by simp; omega) ?_)
        intro r5 d5 w5 ho5 hg5 ht5
        have HB5 : Hid (Below W.heap.size W w5) := (HB.out.alloc zw _).grown hg5 (by simp; omega) (fun j hj => (HO.out.lt j hj).1)
        have HO5 : Hid (w5.ownsRow W.heap.size 3 1 (.slice r5 (k + 1) d5) (k + 1) ((upN (k + 1)).map (.int .i64))) := by
          show World.ownsRow _ _ _ _ _ _ _
          rw [upN_succ, List.map_append]; exact ho5
        clear ho5 hg5 ht5 HO HB
        go_wp2
        go_roundw
        case rel => exact ⟨k + 1, r5, d5, by omega, by go_num, rfl, HO5.out, HB5.out⟩
        case measure => simp [intOf]; omega
      · obtain rfl : sn = k := by omega
        have hki : ¬ (sn : Int) < (sn : Int) := by omega
        have KB2 := Hid.mk (KB.out wr hbw r d (At.owned ho))
        have p0 := cell_later hbw HQ.out.1
        have p1 := cell_later hbw HQ.out.2
        have HB := Hid.mk hbw
        clear hbw ho KB HQ q0 q1
        go_wp2_with fail
        refine KB2.out.mono ?_
        rintro e w3 ⟨⟨r3, m3, d3, rfl, hm3, ho3⟩, hb3⟩
        have HM3 := Hid.mk hm3
        have HO3 := Hid.mk (owns_mono ho3 (Nat.le_trans zW HB.out.size))
        have HB3 := Hid.mk (B0.trans ((HB.out.trans (hb3.mono HB.out.size)).mono zW))
        clear hm3 ho3 hb3 KB2
        go_wp2
        exact bodyPost_ret (v := .tuple #[.slice r3 m3 d3, .int .i64 C, .bool ok]) (by simp [results, Tryd.results6, go_sem]) rfl ⟨⟨r3, m3, d3, rfl, HM3.out, HO3.out⟩, HB3.out⟩

end Go.Proofs.YtkcmlphpilggpaaDoor

/- Slices of numbers, marked, as things that are owned. -/
namespace Go.Proofs.YtkcmlphpilggpaaDoor
open Go.RowKit

theorem markInts_rep (F : Nat → Prop) (a : Option Addr) (n c : Nat) (zs : List Int) (m : Int) (w : World) (hn : n ≤ 1048576) (h0 : 0 ≤ m) (h1 : m ≤ 268435456) (ho : RInts.Own w F [.slice a n c] zs) :
    Calls Tryd.prog 12 #[.slice a n c, .int .i64 m] w fun e w' => e = .returned (.int .i64 (m + n)) ∧ RInts.Own w' F [.slice a n c] (mkInts m zs) ∧ Off F w w' := by
  obtain ⟨h2, h3, h4, h5⟩ := RInts.own_iff.1 ho
  refine (markIntS_any 0 a n c _ m w hn h0 (by omega) h4).mono fun e w' ⟨e1, e2, e3⟩ => ⟨e1, RInts.own_iff.2 ⟨by unfold mkInts; rw [marks_length, h2], h3, by unfold mkInts; rw [h2]; exact e2, h5⟩, Off.grown e3 h5⟩
end Go.Proofs.YtkcmlphpilggpaaDoor

/- Contracts of the laws' eqIntSS, markIntSS, heldIntSS over things in memory (without views). -/
namespace Go.Proofs.YtkcmlphpilggpaaDoor
open Go.RowKit

theorem eqIntSS_same (a a' : Option Addr) (n c c' : Nat) (zs : List (List Int)) (w : World) (hz : zs.length = n) (hn : n ≤ 1048576) (hs : ∀ i, i < zs.length → (zs.getD i []).length ≤ 1048576) (ha : AtS w a zs) (ha' : AtS w a' zs) :
    Calls Tryd.prog 22 #[.slice a n c, .slice a' n c'] w fun e w' => e = .returned (.bool true) ∧ Below w.heap.size w w' :=
  (eqIntSS_any a a' n n c c' zs zs w hz hz hn hn hs hs ha ha').mono fun _ _ ⟨h1, h2⟩ => ⟨by rw [h1, decide_eq_true rfl], h2⟩

set_option maxRecDepth 100000 in
set_option maxHeartbeats 4000000 in
theorem markPairs_rep (F : Nat → Prop) (a : Option Addr) (n c : Nat) (zss : List (List Int)) (m : Int) (w : World) (hn : n ≤ 1048576) (ht : tot zss n ≤ 1048576) (h0 : 0 ≤ m) (h1 : m ≤ 134217728) (ho : RPairs.Own w F [.slice a n c] zss) :
    Calls Tryd.prog 23 #[.slice a n c, .int .i64 m] w fun e w' => e = .returned (.int .i64 (m + tot zss n)) ∧ RPairs.Own w' F [.slice a n c] (mkPairs m zss) ∧ Off F w w' := by
  obtain ⟨a', n', c', cells, G, he, hl⟩ := ho
  simp only [List.cons.injEq, Value.slice.injEq, and_true] at he
  obtain ⟨rfl, rfl, rfl⟩ := he
  go_enter Tryd.func23, Tryd.ntmps23
  go_wp2
  go_loopw [1, 5] (fun q i wr => ∃ k : Nat, k ≤ n ∧ i = .int .i64 k ∧ q = .int .i64 (m + tot zss k) ∧ Laid RInts wr F 22 a n c (mkTo (fun m zs => mkInts m zs) List.length m zss k) cells G n ∧ Off F w wr) (fun _ i _ => n - (intOf i).toNat)
  case atStart => exact ⟨0, Nat.zero_le _, rfl, by simp [tot_zero], by rw [mkTo_zero]; exact hl, Off.refl _ _⟩
  case round =>
    have hzl := hl.len
    clear hl
    obtain ⟨k, hk, rfl, rfl, hl, hof⟩ := hrel
    by_cases hlt : k < n
    · obtain ⟨ys, hy⟩ : ∃ ys, zss[k]? = some ys := ⟨_, List.getElem?_eq_getElem (by omega)⟩
      have hrow := hl.row k ys hlt (mkTo_next _ _ hy)
      obtain ⟨a2, n2, c2, _, _, he2, _⟩ := hrow
      have hrow := hl.row k ys hlt (mkTo_next _ _ hy)
      rw [he2] at hrow
      rcases hl.outer.2 with ⟨_, h00⟩ | ⟨g, cap, cur, hv, _⟩
      · omega
      simp only [Value.slice.injEq, true_and] at hv
      obtain ⟨rfl, rfl⟩ := hv
      have hcl : cells.length = n * 1 := hl.outer.1
      have hcx : wr.cell? ⟨g, k, none⟩ = some (.slice a2 n2 c2) := by
        rw [hl.outer.cellAt k (show k < n * 1 by omega)]
        have h9 := sub_at (cells := cells) (o := k * 1) (k := 1) (j := 0) (by omega)
        have he3 : sub cells (k * 1) 1 = [.slice a2 n2 c2] := he2
        rw [he3] at h9
        simpa using h9.symm
      have hly : ys.length = n2 := (RInts.own_iff.1 hrow).1
      have hts := tot_succ zss k (by omega)
      have hgk : zss.getD k [] = ys := by simp [List.getD, hy]
      rw [hgk, hly] at hts
      have htm := tot_mono zss (k + 1) n (by omega)
      have HL := Hid.mk hl
      have HR := Hid.mk hrow
      have HO := Hid.mk hof
      have HY := Hid.mk hy
      have HLY := Hid.mk hly
      obtain ⟨T, hT⟩ : ∃ T, tot zss k = T := ⟨_, rfl⟩
      have HT := Hid.mk hT
      rw [hT] at hts ⊢
      have hn2 : n2 ≤ 1048576 := by omega
      have hmT : m + (T : Int) ≤ 268435456 := by omega
      have hki : (k : Int) < (n : Int) := by omega
      have HTS := Hid.mk hts
      have HE2 := Hid.mk he2
      clear hl hrow hof hy hly hT hts hgk he2 hcl htm
      go_wp2_with fail
      refine (markInts_rep (G k) a2 n2 c2 ys (m + T) wr hn2 (by omega) hmT HR.out).mono ?_
      rintro e w2 ⟨rfl, o2, f2⟩
      have hturn := HL.out.turn (w' := w2) (cells' := cells) (x' := mkInts (m + T) ys) hlt (fun b hb hn1 _ => f2.block b hb hn1) (ownsRow_frame HL.out.outer (fun b hb hlb => f2.block b hlb (fun hG => (HL.out.rowF k b hlt hG).2 hb))) (fun _ _ => rfl) (by rw [HE2.out]; exact o2)
      have HLN : Hid (Laid RInts w2 F 22 (some ⟨g, 0, none⟩) n c (mkTo (fun m zs => mkInts m zs) List.length m zss (k + 1)) cells G n) := by
        have h9 := mkTo_set (fun m zs => mkInts m zs) List.length (m := m) HY.out
        rw [szL_pairs, HT.out] at h9
        show Laid _ _ _ _ _ _ _ _ _ _ _
        rw [← h9]
        exact hturn
      have HON : Hid (Off F w w2) := HO.out.trans (f2.mono (fun b hb => (HL.out.rowF k b hlt hb).1))
      clear hturn o2 f2
      go_wp2
      go_roundw
      case rel => exact ⟨k + 1, by omega, by go_num, by rw [HTS.out]; congr 1; push_cast; omega, HLN.out, HON.out⟩
      case measure => simp [intOf]; omega
    · obtain rfl : k = n := by omega
      have HL := Hid.mk hl
      clear hl
      go_wp2
      go_ret
      refine ⟨rfl, ⟨_, _, _, cells, G, rfl, ?_⟩, hof⟩
      have h9 := HL.out
      rw [mkTo_all _ _ _ _ hzl] at h9
      exact h9

end Go.Proofs.YtkcmlphpilggpaaDoor

/- Statistics (Sizes, Factors) as things in memory. -/
namespace Go.Proofs.YtkcmlphpilggpaaDoor
open Go.RowKit

/-- Statistics: Sizes, Factors. -/
abbrev Sta := List Int × List (List Int)
abbrev RSta : Rep Sta := Rep.pair RInts RPairs
theorem szPairs_nat (a : Option Addr) (n c : Nat) (zss : List (List Int)) (l : Int) (w : World) (hz : zss.length = n) (hn : n ≤ 9223372036854775807) (h0 : 0 ≤ l) (h1 : l ≤ 1048576) (ha : AtS w a zss) :
    Calls Tryd.prog 18 #[.slice a n c, .int .i64 l] w fun e w' => e = .returned (.int .i64 (leftOf l (n + tot zss n : Nat))) ∧ Below w.heap.size w w' :=
  (szIntSS_at a n c zss l w hz hn h0 h1 ha).mono fun _ _ ⟨h1, h2⟩ => ⟨by rw [h1]; push_cast; rfl, h2⟩
/-- Factors within the laws' bound. -/
def SmF (zss : List (List Int)) (n : Nat) : Prop := zss.length = n ∧ n + tot zss n ≤ 1048576
theorem SmF.n {zss : List (List Int)} {n : Nat} (h : SmF zss n) : n ≤ 1048576 := by have := h.2; omega
theorem SmF.sum {zss : List (List Int)} {n : Nat} (h : SmF zss n) : tot zss n ≤ 1048576 := by have := h.2; omega
theorem SmF.each {zss : List (List Int)} {n : Nat} (h : SmF zss n) : ∀ i, i < zss.length → (zss.getD i []).length ≤ 1048576 := fun i hi => by
  have h1 := tot_succ zss i hi
  have h2 := tot_mono zss (i + 1) n (by have := h.1; omega)
  have := h.sum
  omega
/-- What a statistics by value is. -/
theorem RSta.at_iff {w : World} {ha : Option Addr} {hn hc : Nat} {a : Option Addr} {n c : Nat} {x : Sta} (h : RSta.At w [.slice ha hn hc, .slice a n c] x) :
    (x.1.length = hn ∧ hn ≤ 9223372036854775807 ∧ At w ha x.1 ∧ (ha = none → hc = 0)) ∧ (x.2.length = n ∧ n ≤ 9223372036854775807 ∧ AtS w a x.2 ∧ (a = none → c = 0)) := by
  obtain ⟨c1, c2, e, ⟨fa', fn', fc', rfl, t1, t2, t3, t4⟩, ⟨ta', tn', tc', rfl, u1, u2, u3, u4⟩⟩ := h
  simp only [List.cons_append, List.nil_append, List.cons.injEq, Value.slice.injEq, and_true] at e
  obtain ⟨⟨rfl, rfl, rfl⟩, rfl, rfl, rfl⟩ := e
  exact ⟨⟨t1, t2, atSl_int.1 t3, t4⟩, ⟨u1, u2, atSl_ints u3, u4⟩⟩
theorem RSta.at_open {w : World} {cs : List Value} {x : Sta} (h : RSta.At w cs x) : ∃ ha hn hc a n c, cs = [.slice ha hn hc, .slice a n c] := by
  obtain ⟨c1, c2, rfl, ⟨fa', fn', fc', rfl, _⟩, ⟨ta', tn', tc', rfl, _⟩⟩ := h
  exact ⟨_, _, _, _, _, _, rfl⟩
theorem RSta.own_mk {w : World} {F F1 F2 : Nat → Prop} {hs : List Int} {fcs : List (List Int)} {fa : Option Addr} {fn fc : Nat} {ta : Option Addr} {tn tc : Nat}
    (h1 : RInts.Own w F1 [.slice fa fn fc] hs) (h2 : RPairs.Own w F2 [.slice ta tn tc] fcs) (f1 : ∀ b, F1 b → F b) (f2 : ∀ b, F2 b → F b) (d12 : ∀ b, F1 b → ¬ F2 b) : RSta.Own w F [.slice fa fn fc, .slice ta tn tc] (hs, fcs) :=
  ⟨[_], [_], F1, F2, rfl, h1, h2, f1, f2, d12⟩
theorem RSta.own_open {w : World} {F : Nat → Prop} {fa : Option Addr} {fn fc : Nat} {ta : Option Addr} {tn tc : Nat} {x : Sta} (h : RSta.Own w F [.slice fa fn fc, .slice ta tn tc] x) : ∃ F1 F2,
    RInts.Own w F1 [.slice fa fn fc] x.1 ∧ RPairs.Own w F2 [.slice ta tn tc] x.2 ∧ (∀ b, F1 b → F b) ∧ (∀ b, F2 b → F b) ∧ (∀ b, F1 b → ¬ F2 b) := by
  obtain ⟨c1, d1, F1, F2, e, h1, h2, a1, a2, a3⟩ := h
  obtain ⟨ta', tn', tc', tcells, tG, rfl, tl⟩ := h1
  obtain ⟨ca, cn, cc, ccells, cG, rfl, cl⟩ := h2
  simp only [List.cons_append, List.nil_append, List.cons.injEq, Value.slice.injEq, and_true] at e
  obtain ⟨⟨rfl, rfl, rfl⟩, rfl, rfl, rfl⟩ := e
  exact ⟨F1, F2, ⟨_, _, _, tcells, tG, rfl, tl⟩, ⟨_, _, _, ccells, cG, rfl, cl⟩, a1, a2, a3⟩
theorem sta_at {w : World} {F : Nat → Prop} {fa : Option Addr} {fn fc : Nat} {ta : Option Addr} {tn tc : Nat} {x : Sta} (h : RSta.Own w F [.slice fa fn fc, .slice ta tn tc] x) : At w fa x.1 ∧ AtS w ta x.2 :=
  ⟨(RSta.at_iff (RSta.toAt h)).1.2.2.1, (RSta.at_iff (RSta.toAt h)).2.2.2.1⟩

end Go.Proofs.YtkcmlphpilggpaaDoor

/- Contract of the laws' szStats. -/
namespace Go.Proofs.YtkcmlphpilggpaaDoor
open Go.RowKit

/-- What the laws count for statistics. -/
def scost (x : Sta) : Nat := x.1.length + (x.2.length + tot x.2 x.2.length)

set_option maxRecDepth 100000 in
set_option maxHeartbeats 1000000 in
theorem szStats_any (sa : Option Addr) (sn sc : Nat) (pa : Option Addr) (pn pc : Nat) (ss : List Int) (xs : List (List Int)) (l : Int) (w : World) (hs : ss.length = sn) (hsn : sn ≤ 9223372036854775807) (hz : xs.length = pn) (hn : pn ≤ 9223372036854775807) (h0 : 0 ≤ l) (h1 : l ≤ 1048576) (ha : AtS w pa xs) :
    Calls Tryd.prog 5 #[.agg #[.slice sa sn sc, .slice pa pn pc], .int .i64 l] w fun e w' => e = .returned (.int .i64 (leftOf l (scost (ss, xs)))) ∧ Below w.heap.size w w' := by
  obtain ⟨C, hC⟩ : ∃ C, pn + tot xs pn = C := ⟨_, rfl⟩
  have hv : scost (ss, xs) = sn + C := by unfold scost; simp only; rw [hs, hz, hC]
  rw [hv]
  clear hv
  have HC := Hid.mk hC
  clear hC
  obtain ⟨W, hW⟩ : ∃ W, W = w.alloc (.cells #[.slice sa sn sc, .slice pa pn pc] 25) := ⟨_, rfl⟩
  have B0 : Below w.heap.size w W := by rw [hW]; exact (Below.refl _ _).alloc (Nat.le_refl _) _
  have q1 : W.cell? ⟨w.heap.size, 1, none⟩ = some (.slice pa pn pc) := by rw [hW]; simp
  have HZ := Hid.mk hz
  have HA := Hid.mk (AtS.below ha B0)
  clear hz hs ha
  by_cases c1 : l < sn
  · go_enter Tryd.func5, Tryd.ntmps5
    go_wp2_with fail
    rw [← hW]
    clear hW
    refine (szIntS_any sa sn sc l W hsn h0 h1).mono ?_
    rintro e w2 ⟨rfl, rfl⟩
    rw [if_pos c1]
    go_wp2
    go_ret
    exact ⟨ret_int (leftOf_no (by omega)).symm, B0⟩
  by_cases c2 : l - sn < (C : Int)
  · go_enter Tryd.func5, Tryd.ntmps5
    have d1 : ¬ l - (sn : Int) < 0 := by omega
    go_wp2_with fail
    rw [← hW]
    clear hW
    refine (szIntS_any sa sn sc l W hsn h0 h1).mono ?_
    rintro e w2 ⟨rfl, h9⟩
    obtain rfl := h9.symm
    rw [if_neg (by omega)]
    go_wp2_with fail
    refine (szPairs_nat pa pn pc xs (l - sn) _ HZ.out hn (by omega) (by omega) HA.out).mono ?_
    rintro e w3 ⟨rfl, hb⟩
    rw [HC.out, leftOf_no c2]
    go_wp2
    go_ret
    exact ⟨ret_int (leftOf_no (by omega)).symm, B0.trans (hb.mono B0.size)⟩
  · go_enter Tryd.func5, Tryd.ntmps5
    have d1 : ¬ l - (sn : Int) < 0 := by omega
    have d2 : ¬ l - (sn : Int) - (C : Int) < 0 := by omega
    go_wp2_with fail
    rw [← hW]
    clear hW
    refine (szIntS_any sa sn sc l W hsn h0 h1).mono ?_
    rintro e w2 ⟨rfl, h9⟩
    obtain rfl := h9.symm
    rw [if_neg (by omega)]
    go_wp2_with fail
    refine (szPairs_nat pa pn pc xs (l - sn) _ HZ.out hn (by omega) (by omega) HA.out).mono ?_
    rintro e w3 ⟨rfl, hb⟩
    rw [HC.out, leftOf_yes (by omega)]
    go_wp2
    go_ret
    exact ⟨ret_int (by rw [leftOf_yes (by omega)]; omega), B0.trans (hb.mono B0.size)⟩

end Go.Proofs.YtkcmlphpilggpaaDoor
