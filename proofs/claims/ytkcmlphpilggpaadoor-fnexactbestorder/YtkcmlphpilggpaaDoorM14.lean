/- Contracts of the model's l12Before and l12Best. -/
import Derived.Test.YtkcmlphpilggpaaDoorM6
import Derived.Test.YtkcmlphpilggpaaDoorM13
import Derived.Test.YtkcmlphpilggpaaDoorM5
import Derived.Deep.CutRange
import Derived.Deep.CutBlock
namespace Go.Proofs.YtkcmlphpilggpaaDoor
open Go.RowKit

theorem befB_at {zs ys : List Int} {k : Nat} (h1 : k < zs.length) (h2 : k < ys.length) : befB (zs.drop k) (ys.drop k) = if zs.getD k 0 = ys.getD k 0 then befB (zs.drop (k + 1)) (ys.drop (k + 1)) else decide (zs.getD k 0 < ys.getD k 0) := by
  rw [List.drop_eq_getElem_cons h1, List.drop_eq_getElem_cons h2]
  have e1 : zs.getD k 0 = zs[k] := by simp [List.getD, h1]
  have e2 : ys.getD k 0 = ys[k] := by simp [List.getD, h2]
  rw [e1, e2]; rfl

set_option maxHeartbeats 1000000 in
theorem l12Before_any (a a' : Option Addr) (n c c' : Nat) (zs ys : List Int) (w : World) (hz : zs.length = n) (hz' : ys.length = n) (hn : n ≤ 1048576) (ha : At w a zs) (ha' : At w a' ys) :
    Calls Tryd.prog 33 #[.slice a n c, .slice a' n c'] w fun e w' => e = .returned (.bool (befB zs ys)) ∧ Below w.heap.size w w' := by
  by_cases h0 : n = 0
  · subst h0
    obtain rfl := List.eq_nil_of_length_eq_zero hz
    go_enter Tryd.func33, Tryd.ntmps33
    go_wp2
    refine wp_loop_rounds 1 ?_
    rw [rounds_succ]
    go_wp2
    go_ret
    exact ⟨rfl, Below.refl _ _⟩
  · obtain ⟨b, off, rfl, hb, hc⟩ := ha.some (by omega)
    obtain ⟨b', off', rfl, hb', hc'⟩ := ha'.some (by omega)
    clear ha ha'
    go_enter Tryd.func33, Tryd.ntmps33
    go_wp2
    go_loopw [8] (fun i wr => ∃ (k : Nat), k ≤ n ∧ i = .int .i64 k ∧ befB zs ys = befB (zs.drop k) (ys.drop k) ∧ Below w.heap.size w wr) (fun i _ => n - (intOf i).toNat)
    case atStart => exact ⟨0, Nat.zero_le _, rfl, rfl, Below.refl _ _⟩
    case round =>
      obtain ⟨k, hk, rfl, ht, hbw⟩ := hrel
      by_cases hlt : k < n
      · have hcx : wr.cell? ⟨b, off + k, none⟩ = some (.int .i64 (zs.getD k 0)) := (hbw.cell hb).trans (hc k (by omega))
        have hcy : wr.cell? ⟨b', off' + k, none⟩ = some (.int .i64 (ys.getD k 0)) := (hbw.cell hb').trans (hc' k (by omega))
        rw [befB_at (by omega) (by omega)] at ht
        obtain ⟨x, hx⟩ : ∃ x, x = zs.getD k 0 := ⟨_, rfl⟩
        obtain ⟨y, hy⟩ : ∃ y, y = ys.getD k 0 := ⟨_, rfl⟩
        rw [← hx] at hcx ht
        rw [← hy] at hcy ht
        have HT := Hid.mk ht
        have hki : (k : Int) < (n : Int) := by omega
        clear hx hy ht hc hc'
        by_cases e : x = y
        · subst e
          have e' : (x != x) = false := by simp
          go_wp2
          go_quiet (fail)
          go_wp2
          go_roundw
          case rel => exact ⟨k + 1, by omega, by go_num, by rw [HT.out]; simp, below_drewN hbw _⟩
          case measure => simp [intOf]; omega
        · have e' : (x != y) = true := by simp [e]
          have HT2 : Hid (befB zs ys = decide (x < y)) := by show _ = _; rw [HT.out, if_neg e]
          clear HT
          go_wp2
          go_quiet (fail)
          go_wp2
          go_quiet (fail)
          go_wp2
          go_ret
          exact ⟨by rw [HT2.out]; rfl, below_drewN (below_drewN hbw _) _⟩
      · obtain rfl : k = n := by omega
        have hki : ¬ (k : Int) < (k : Int) := by omega
        have HF : Hid (befB zs ys = false) := by show _ = _; rw [ht, List.drop_of_length_le (by omega), List.drop_of_length_le (by omega)]; rfl
        clear ht
        go_wp2
        go_ret
        exact ⟨by rw [HF.out]; rfl, hbw⟩


theorem owns_voidB (w : World) (e : TypeId) (size : Nat) : (w.alloc (.cells #[] e)).ownsRow w.heap.size e size (.slice (some ⟨w.heap.size, 0, none⟩) 0 0) 0 [] := ⟨by simp, .inr ⟨w.heap.size, 0, #[], rfl, Nat.le_refl _, heap_alloc_new w _, by simp, by simp, by simp, by simp⟩⟩

set_option maxRecDepth 100000 in
set_option maxHeartbeats 16000000 in
theorem l12Best_any (sa : Option Addr) (sn sc : Nat) (zs : List Int) (pa : Option Addr) (pn pc : Nat) (fs : List (List Int)) (hs : zs.length = sn) (hz : fs.length = pn) (hg : GsF zs fs) : ∀ (n : Nat) (a : Option Addr) (c : Nat) (l : List Int) (w : World), At w sa zs → AtS w pa fs → l.length = n + 1 → At w a l → TbL zs.length l →
    Calls Tryd.prog 25 #[.agg #[.slice sa sn sc, .slice pa pn pc], .slice a (n + 1) c] w fun e w' => ∃ r d, e = .returned (.slice r (n + 1) d) ∧ w'.ownsRow w.heap.size 3 1 (.slice r (n + 1) d) (n + 1) ((bestL zs fs l).map (.int .i64)) ∧ Below w.heap.size w w' := by
  obtain ⟨j0, hj0, hy0, hy1, hy2⟩ := info_parts Tryd.infoInt
  intro n
  induction n with
  | zero =>
    intro a c l w hsa ha hl hla ht
    obtain ⟨x, rfl⟩ : ∃ x, l = [x] := by
      match l, hl with
      | [x], _ => exact ⟨x, rfl⟩
    obtain ⟨b, off, rfl, hb, hc⟩ := hla.some (by simp)
    have hc0 : w.cell? ⟨b, off, none⟩ = some (.int .i64 x) := hc 0 (by simp)
    rw [bestL_one]
    obtain ⟨W, hW⟩ : ∃ W, W = w.alloc (.cells #[.slice sa sn sc, .slice pa pn pc] 29) := ⟨_, rfl⟩
    have B0 : Below w.heap.size w W := by rw [hW]; exact (Below.refl _ _).alloc (Nat.le_refl _) _
    have zW : w.heap.size ≤ W.heap.size := B0.size
    have B1 : Below w.heap.size w (W.alloc (.cells #[] 3)) := B0.alloc zW _
    have hc1 : (W.alloc (.cells #[] 3)).cell? ⟨b, off, none⟩ = some (.int .i64 x) := (B1.cell hb).trans hc0
    have HB1 := Hid.mk B1
    clear hsa ha hl hla ht hc hc0 B1
    go_enter Tryd.func25, Tryd.ntmps25
    go_upto_region 1 with fail
    rw [← hW]
    clear hW
    go_wp2_with (at_builtin; refine wpList_app_vals rfl (.tmp 12) (.tmp 13) 22 rfl W.heap.size 3 j0 (.int .i64 0) 1 8 Tryd.underlying22 hj0 hy0 hy1 hy2 rfl (by decide) (.slice (some ⟨W.heap.size, 0, none⟩) 0 0) 0 [] rfl (owns_voidB W 3 1) (some ⟨b, off, none⟩) 1 c [.int .i64 x] rfl rfl (fun ad he => by cases he; intro j u hu; match j, hu with | 0, hu => obtain rfl := Option.some.inj hu; exact hc1) (by simp; rfl) (fun h => by cases h) (by unfold maxLen; omega) (by omega) (by simp) ?_)
    intro r5 d5 w5 ho5 hg5 ht5
    have HO5 := Hid.mk (owns_mono ho5 zW)
    have HB5 : Hid (Below w.heap.size w w5) := HB1.out.grown hg5 (by simp; omega) (fun j hj => by have : W.heap.size = j := (by simpa [Value.ownBlock] using hj); omega)
    clear ho5 hg5 ht5
    go_wp2
    go_ret
    exact ⟨r5, d5, rfl, HO5.out, HB5.out⟩
  | succ n ih =>
    intro a c l w hsa ha hl hla ht
    obtain ⟨N, hN⟩ : ∃ N, n + 1 + 1 = N := ⟨_, rfl⟩
    rw [hN] at hl ⊢
    have HNN := Hid.mk hN
    have hN2 : 2 ≤ N := by omega
    have hn6 : N ≤ 6 := by have := ht.len; have := hg.n6; omega
    obtain ⟨W, hW⟩ : ∃ W, W = w.alloc (.cells #[.slice sa sn sc, .slice pa pn pc] 29) := ⟨_, rfl⟩
    have B0 : Below w.heap.size w W := by rw [hW]; exact (Below.refl _ _).alloc (Nat.le_refl _) _
    have q0 : W.cell? ⟨w.heap.size, 0, none⟩ = some (.slice sa sn sc) := by rw [hW]; simp
    have q1 : W.cell? ⟨w.heap.size, 1, none⟩ = some (.slice pa pn pc) := by rw [hW]; simp
    have zW : w.heap.size < W.heap.size := by rw [hW]; simp
    have HL := Hid.mk hl
    have HSA := Hid.mk (At.below hsa B0)
    have HA := Hid.mk (AtS.below ha B0)
    have HLA := Hid.mk (At.below hla B0)
    have HT := Hid.mk ht
    have IH := Hid.mk ih
    have hn1 : ((N : Int) == 1) = false := beq_eq_false_iff_ne.2 (by omega)
    clear hl hsa ha hla ht ih hN
    go_enter Tryd.func25, Tryd.ntmps25
    go_upto_region 1 with fail
    rw [← hW]
    clear hW
    go_wp2
    go_loopw [5, 17] (fun p i wr => ∃ (k m : Nat) (r : Option Addr) (d : Nat), k ≤ N ∧ i = .int .i64 k ∧ p = .slice r m d ∧ (m = 0 ∧ k = 0 ∨ m = N ∧ 0 < k) ∧ (bstT zs fs l k).length = m ∧ wr.ownsRow W.heap.size 3 1 (.slice r m d) m ((bstT zs fs l k).map (.int .i64)) ∧ Below W.heap.size W wr) (fun _ i _ => N - (intOf i).toNat)
    case atStart => exact ⟨0, 0, none, 0, Nat.zero_le _, rfl, rfl, .inl ⟨rfl, rfl⟩, rfl, World.ownsRow_nil _ _ _ _, Below.refl _ _⟩
    case round =>
      obtain ⟨k, m, r, d, hk, rfl, rfl, hmk, hlb, ho, hbw⟩ := hrel
      obtain ⟨wY, rfl⟩ : ∃ x, x = wr := ⟨_, rfl⟩
      by_cases hlt : k < N
      · obtain ⟨x, hx⟩ : ∃ x, l[k]? = some x := ⟨_, List.getElem?_eq_getElem (by have := HL.out; omega)⟩
        have hxm := List.mem_of_getElem? hx
        have hla' := At.below HLA.out hbw
        obtain ⟨b, off, rfl, hb, hcl⟩ := hla'.some (by have := HL.out; omega)
        have hcx : wY.cell? ⟨b, off + k, none⟩ = some (.int .i64 x) := by
          rw [hcl k (by have := HL.out; omega)]
          have : l.getD k 0 = x := by simp [List.getD, hx]
          rw [this]
        have hwl := woI_len1 HT.out.nd hxm
        have KW : Hid (∀ w' : World, Below wY.heap.size wY w' → Calls Tryd.prog 32 #[.slice (some ⟨b, off, none⟩) N c, .int .i64 x] w' fun e w'' => ∃ r m d, e = .returned (.slice r m d) ∧ (woI l x).length = m ∧ w''.ownsRow w'.heap.size 3 1 (.slice r m d) m ((woI l x).map (.int .i64)) ∧ Below w'.heap.size w' w'') := fun w' hw' => l11Without_any _ _ c l x w' HL.out (by omega) (hla'.below hw')
        have hsa' := At.below HSA.out hbw
        have has' := AtS.below HA.out hbw
        have KB : Hid (∀ w' : World, Below wY.heap.size wY w' → ∀ (r : Option Addr) (m d : Nat), (woI l x).length = m → At w' r (woI l x) → Calls Tryd.prog 25 #[.agg #[.slice sa sn sc, .slice pa pn pc], .slice r m d] w' fun e w'' => ∃ r2 d2, e = .returned (.slice r2 m d2) ∧ w''.ownsRow w'.heap.size 3 1 (.slice r2 m d2) m ((bestL zs fs (woI l x)).map (.int .i64)) ∧ Below w'.heap.size w' w'') := fun w' hw' r m d hm ha => by
          obtain rfl : m = n + 1 := by have := HL.out; have := HNN.out; omega
          exact IH.out r d (woI l x) w' (hsa'.below hw') (has'.below hw') hm ha (HT.out.wo x)
        have HWL : Hid ((woI l x).length + 1 = N) := by show _ = _; have := HL.out; omega
        have HST := Hid.mk (bstT_succ zs fs hx)
        have hcp := cand_perm zs fs HT.out.nd hxm
        have HLO : Hid ((cand zs fs l x).length = N) := by show _ = _; rw [hcp.length_eq]; exact HL.out
        have HTO := Hid.mk (HT.out.cand zs fs hxm)
        have s0 := cell_later hbw q0
        have s1 := cell_later hbw q1
        have zlt : w.heap.size < wY.heap.size := Nat.lt_of_lt_of_le zW hbw.size
        have hki : (k : Int) < (N : Int) := by omega
        have HOY := Hid.mk ho
        have HBY := Hid.mk hbw
        have HLB := Hid.mk hlb
        clear hx hxm hwl hcp ho hbw hlb hcl hb hla'
        go_upto_region 7 with fail
        go_cut [8] from 19 to 56 (fun p wx => ∃ (r2 : Option Addr) (d2 : Nat), p = .slice r2 N d2 ∧ wx.ownsRow wY.heap.size 3 1 (.slice r2 N d2) N ((cand zs fs l x).map (.int .i64)) ∧ Below wY.heap.size wY wx)
        case first =>
          refine wp_region_held_drew (S := fun w' => w'.cell? ⟨w.heap.size, 0, none⟩ = some (.slice sa sn sc) ∧ w'.cell? ⟨w.heap.size, 1, none⟩ = some (.slice pa pn pc)) (by kernel_rfl) ?_ (fun hHeld => ?_)
          · (try dsimp only)
            exact ⟨s0, s1⟩
          refine tk 0 ?_
          refine tk 1 ?_
          refine tk 2 ?_
          refine tk 5 ?_
          obtain ⟨u0, hu0⟩ : ∃ u, u = wY.drew := ⟨_, rfl⟩
          have Y0 : Below wY.heap.size wY u0 := by rw [hu0]; exact (Below.refl _ _).drew
          rw [← hu0]
          clear hu0
          refine wpAnyH_ready (rs := [3, 6]) (by kernel_rfl) (by simp) ?_
          refine AllReadyH.cons (o := ?_) ?_ (fun K hK => ?_) ?_
          rotate_left
          · (simp only [List.getElem?_toArray, List.getElem?_cons_zero, List.getElem?_cons_succ]; rfl)
          · go_simp
            go_at_call 32
            refine (KW.out u0 Y0).mono ?_
            rintro e wk1 ⟨r1, m1, d1, rfl, hm1, ho1, hbk1⟩
            have HBk1 : Below wY.heap.size wY wk1 := Y0.trans (hbk1.mono Y0.size)
            have HM1 := Hid.mk hm1
            have hm16 : m1 ≤ 6 := by have h8 := HWL.out; omega
            have HA1 := Hid.mk (At.owned ho1)
            clear hm1 ho1
            (try go_wp2_with fail)
            refine hK.out _ _ ?_ (fun hHeld' => ?_)
            · (try dsimp only)
              exact ⟨(HBk1.cell zlt).trans s0, (HBk1.cell zlt).trans s1⟩
            clear hK K hHeld
            have hHeld := hHeld'
            clear hHeld'
            (try simp only [Act.put, List.setIfInBounds_toArray, List.set_cons_zero, List.set_cons_succ])
            refine wpAnyH_ready (rs := [4, 6]) (by kernel_rfl) (by simp) ?_
            refine AllReadyH.cons (o := ?_) ?_ (fun K hK => ?_) ?_
            rotate_left
            · (simp only [List.getElem?_toArray, List.getElem?_cons_zero, List.getElem?_cons_succ]; rfl)
            · go_simp
              go_at_call 25
              refine (KB.out wk1 HBk1 r1 m1 d1 HM1.out HA1.out).mono ?_
              rintro e wk2 ⟨r2, d2, rfl, ho2, hbk2⟩
              have HBk2 : Below wY.heap.size wY wk2 := HBk1.trans (hbk2.mono HBk1.size)
              have HA1 := Hid.mk (At.below HA1.out hbk2)
              have HO2 := Hid.mk (owns_mono ho2 HBk1.size)
              clear ho2
              (try go_wp2_with fail)
              refine hK.out _ _ ?_ (fun hHeld' => ?_)
              · (try dsimp only)
                exact ⟨(HBk2.cell zlt).trans s0, (HBk2.cell zlt).trans s1⟩
              clear hK K hHeld
              have hHeld := hHeld'
              clear hHeld'
              (try simp only [Act.put, List.setIfInBounds_toArray, List.set_cons_zero, List.set_cons_succ])
              refine wpAnyH_ready (rs := [6]) (by kernel_rfl) (by simp) ?_
              refine AllReadyH.cons (o := ?_) ?_ (fun K hK => ?_) AllReadyH.nil
              rotate_left
              · (simp only [List.getElem?_toArray, List.getElem?_cons_zero, List.getElem?_cons_succ]; rfl)
              go_simp
              (try go_wp2_with fail)
              refine hK.out _ _ ?_ (fun hHeld' => ?_)
              · (try dsimp only)
                exact ⟨((HBk2.alloc HBk2.size _).cell zlt).trans s0, ((HBk2.alloc HBk2.size _).cell zlt).trans s1⟩
              clear hK K hHeld
              have hHeld := hHeld'
              clear hHeld'
              (try simp only [Act.put, List.setIfInBounds_toArray, List.set_cons_zero, List.set_cons_succ])
              obtain ⟨vk3, hv3⟩ : ∃ u, u = wk2.alloc (.cells #[.int .i64 x] 3) := ⟨_, rfl⟩
              have hbk3 : Below wk2.heap.size wk2 vk3 := by rw [hv3]; exact (Below.refl _ _).alloc (Nat.le_refl _) _
              have HBk3 : Below wY.heap.size wY vk3 := HBk2.trans (hbk3.mono HBk2.size)
              have HA1 := Hid.mk (At.below HA1.out hbk3)
              have HO2 := Hid.mk (owns_below HO2.out hbk3)
              have nw : vk3.cell? ⟨wk2.heap.size, 0, none⟩ = some (.int .i64 x) := by rw [hv3]; simp
              rw [← hv3]
              clear hv3
              refine wpAnyH_ready (rs := [7]) (by kernel_rfl) (by simp) ?_
              refine AllReadyH.cons (o := ?_) ?_ (fun K hK => ?_) AllReadyH.nil
              rotate_left
              · (simp only [List.getElem?_toArray, List.getElem?_cons_zero, List.getElem?_cons_succ]; rfl)
              refine step_append_vals rfl (.tmp 25) (.tmp 27) 22 rfl wY.heap.size 3 j0 (.int .i64 0) 1 8 Tryd.underlying22 hj0 hy0 hy1 hy2 rfl (by decide) (.slice r2 m1 d2) m1 ((bestL zs fs (woI l x)).map (.int .i64)) (by simp [Act.eval]) (HO2.out) (some ⟨wk2.heap.size, 0, none⟩) 1 1 [.int .i64 x] (by simp [Act.eval]) rfl (fun ad he => by cases he; intro j u hu; match j, hu with | 0, hu => obtain rfl := Option.some.inj hu; exact nw) (by intro u hu; simp at hu; rw [hu]; rfl) (fun h => by cases h) (by unfold maxLen; omega) (by omega) (HBk3.size) (fun r5 d5 wk4 ho5 hg5 ht5 => ?_)
              have HBk4 : Below wY.heap.size wY wk4 := HBk3.grown hg5 HBk3.size (fun j hj => (HO2.out.lt j hj).1)
              have HO5 := Hid.mk ho5
              clear ho5 hg5 ht5
              refine hK.out _ _ ?_ (fun hHeld' => ?_)
              · (try dsimp only)
                exact ⟨(HBk4.cell zlt).trans s0, (HBk4.cell zlt).trans s1⟩
              clear hK K hHeld
              have hHeld := hHeld'
              clear hHeld'
              (try simp only [Act.put, List.setIfInBounds_toArray, List.set_cons_zero, List.set_cons_succ])
              refine tk 8 ?_
              refine wpAnyH_done (by kernel_rfl) ?_ _
              (try go_wp2_with fail)
              go_meet
              case rel =>
                refine ⟨r5, d5, ?_, ?_, HBk4⟩
                · have e9 : m1 + 1 = N := by have h1 := HM1.out; have h2 := HWL.out; omega
                  rw [e9]
                · have e9 : m1 + 1 = N := by have h1 := HM1.out; have h2 := HWL.out; omega
                  rw [← e9]
                  have h9 := HO5.out
                  unfold cand
                  rw [List.map_append]
                  exact h9
            refine AllReadyH.cons (o := ?_) ?_ (fun K hK => ?_) AllReadyH.nil
            rotate_left
            · (simp only [List.getElem?_toArray, List.getElem?_cons_zero, List.getElem?_cons_succ]; rfl)
            · go_simp
              (try go_wp2_with fail)
              refine hK.out _ _ ?_ (fun hHeld' => ?_)
              · (try dsimp only)
                exact ⟨((HBk1.alloc HBk1.size _).cell zlt).trans s0, ((HBk1.alloc HBk1.size _).cell zlt).trans s1⟩
              clear hK K hHeld
              have hHeld := hHeld'
              clear hHeld'
              (try simp only [Act.put, List.setIfInBounds_toArray, List.set_cons_zero, List.set_cons_succ])
              obtain ⟨vk5, hv5⟩ : ∃ u, u = wk1.alloc (.cells #[.int .i64 x] 3) := ⟨_, rfl⟩
              have hbk5 : Below wk1.heap.size wk1 vk5 := by rw [hv5]; exact (Below.refl _ _).alloc (Nat.le_refl _) _
              have HBk5 : Below wY.heap.size wY vk5 := HBk1.trans (hbk5.mono HBk1.size)
              have HA1 := Hid.mk (At.below HA1.out hbk5)
              have nw : vk5.cell? ⟨wk1.heap.size, 0, none⟩ = some (.int .i64 x) := by rw [hv5]; simp
              rw [← hv5]
              clear hv5
              refine wpAnyH_ready (rs := [4]) (by kernel_rfl) (by simp) ?_
              refine AllReadyH.cons (o := ?_) ?_ (fun K hK => ?_) AllReadyH.nil
              rotate_left
              · (simp only [List.getElem?_toArray, List.getElem?_cons_zero, List.getElem?_cons_succ]; rfl)
              go_simp
              go_at_call 25
              refine (KB.out vk5 HBk5 r1 m1 d1 HM1.out HA1.out).mono ?_
              rintro e wk6 ⟨r2, d2, rfl, ho2, hbk6⟩
              have HBk6 : Below wY.heap.size wY wk6 := HBk5.trans (hbk6.mono HBk5.size)
              have HA1 := Hid.mk (At.below HA1.out hbk6)
              have nw := cell_later hbk6 nw
              have HO2 := Hid.mk (owns_mono ho2 HBk5.size)
              clear ho2
              (try go_wp2_with fail)
              refine hK.out _ _ ?_ (fun hHeld' => ?_)
              · (try dsimp only)
                exact ⟨(HBk6.cell zlt).trans s0, (HBk6.cell zlt).trans s1⟩
              clear hK K hHeld
              have hHeld := hHeld'
              clear hHeld'
              (try simp only [Act.put, List.setIfInBounds_toArray, List.set_cons_zero, List.set_cons_succ])
              refine wpAnyH_ready (rs := [7]) (by kernel_rfl) (by simp) ?_
              refine AllReadyH.cons (o := ?_) ?_ (fun K hK => ?_) AllReadyH.nil
              rotate_left
              · (simp only [List.getElem?_toArray, List.getElem?_cons_zero, List.getElem?_cons_succ]; rfl)
              refine step_append_vals rfl (.tmp 25) (.tmp 27) 22 rfl wY.heap.size 3 j0 (.int .i64 0) 1 8 Tryd.underlying22 hj0 hy0 hy1 hy2 rfl (by decide) (.slice r2 m1 d2) m1 ((bestL zs fs (woI l x)).map (.int .i64)) (by simp [Act.eval]) (HO2.out) (some ⟨wk1.heap.size, 0, none⟩) 1 1 [.int .i64 x] (by simp [Act.eval]) rfl (fun ad he => by cases he; intro j u hu; match j, hu with | 0, hu => obtain rfl := Option.some.inj hu; exact nw) (by intro u hu; simp at hu; rw [hu]; rfl) (fun h => by cases h) (by unfold maxLen; omega) (by omega) (HBk6.size) (fun r5 d5 wk7 ho5 hg5 ht5 => ?_)
              have HBk7 : Below wY.heap.size wY wk7 := HBk6.grown hg5 HBk6.size (fun j hj => (HO2.out.lt j hj).1)
              have HO5 := Hid.mk ho5
              clear ho5 hg5 ht5
              refine hK.out _ _ ?_ (fun hHeld' => ?_)
              · (try dsimp only)
                exact ⟨(HBk7.cell zlt).trans s0, (HBk7.cell zlt).trans s1⟩
              clear hK K hHeld
              have hHeld := hHeld'
              clear hHeld'
              (try simp only [Act.put, List.setIfInBounds_toArray, List.set_cons_zero, List.set_cons_succ])
              refine tk 8 ?_
              refine wpAnyH_done (by kernel_rfl) ?_ _
              (try go_wp2_with fail)
              go_meet
              case rel =>
                refine ⟨r5, d5, ?_, ?_, HBk7⟩
                · have e9 : m1 + 1 = N := by have h1 := HM1.out; have h2 := HWL.out; omega
                  rw [e9]
                · have e9 : m1 + 1 = N := by have h1 := HM1.out; have h2 := HWL.out; omega
                  rw [← e9]
                  have h9 := HO5.out
                  unfold cand
                  rw [List.map_append]
                  exact h9
          refine AllReadyH.cons (o := ?_) ?_ (fun K hK => ?_) AllReadyH.nil
          rotate_left
          · (simp only [List.getElem?_toArray, List.getElem?_cons_zero, List.getElem?_cons_succ]; rfl)
          · go_simp
            (try go_wp2_with fail)
            refine hK.out _ _ ?_ (fun hHeld' => ?_)
            · (try dsimp only)
              exact ⟨((Y0.alloc Y0.size _).cell zlt).trans s0, ((Y0.alloc Y0.size _).cell zlt).trans s1⟩
            clear hK K hHeld
            have hHeld := hHeld'
            clear hHeld'
            (try simp only [Act.put, List.setIfInBounds_toArray, List.set_cons_zero, List.set_cons_succ])
            obtain ⟨vk8, hv8⟩ : ∃ u, u = u0.alloc (.cells #[.int .i64 x] 3) := ⟨_, rfl⟩
            have hbk8 : Below u0.heap.size u0 vk8 := by rw [hv8]; exact (Below.refl _ _).alloc (Nat.le_refl _) _
            have HBk8 : Below wY.heap.size wY vk8 := Y0.trans (hbk8.mono Y0.size)
            have nw : vk8.cell? ⟨u0.heap.size, 0, none⟩ = some (.int .i64 x) := by rw [hv8]; simp
            rw [← hv8]
            clear hv8
            refine wpAnyH_ready (rs := [3]) (by kernel_rfl) (by simp) ?_
            refine AllReadyH.cons (o := ?_) ?_ (fun K hK => ?_) AllReadyH.nil
            rotate_left
            · (simp only [List.getElem?_toArray, List.getElem?_cons_zero, List.getElem?_cons_succ]; rfl)
            go_simp
            go_at_call 32
            refine (KW.out vk8 HBk8).mono ?_
            rintro e wk9 ⟨r1, m1, d1, rfl, hm1, ho1, hbk9⟩
            have HBk9 : Below wY.heap.size wY wk9 := HBk8.trans (hbk9.mono HBk8.size)
            have nw := cell_later hbk9 nw
            have HM1 := Hid.mk hm1
            have hm16 : m1 ≤ 6 := by have h8 := HWL.out; omega
            have HA1 := Hid.mk (At.owned ho1)
            clear hm1 ho1
            (try go_wp2_with fail)
            refine hK.out _ _ ?_ (fun hHeld' => ?_)
            · (try dsimp only)
              exact ⟨(HBk9.cell zlt).trans s0, (HBk9.cell zlt).trans s1⟩
            clear hK K hHeld
            have hHeld := hHeld'
            clear hHeld'
            (try simp only [Act.put, List.setIfInBounds_toArray, List.set_cons_zero, List.set_cons_succ])
            refine wpAnyH_ready (rs := [4]) (by kernel_rfl) (by simp) ?_
            refine AllReadyH.cons (o := ?_) ?_ (fun K hK => ?_) AllReadyH.nil
            rotate_left
            · (simp only [List.getElem?_toArray, List.getElem?_cons_zero, List.getElem?_cons_succ]; rfl)
            go_simp
            go_at_call 25
            refine (KB.out wk9 HBk9 r1 m1 d1 HM1.out HA1.out).mono ?_
            rintro e wk10 ⟨r2, d2, rfl, ho2, hbk10⟩
            have HBk10 : Below wY.heap.size wY wk10 := HBk9.trans (hbk10.mono HBk9.size)
            have nw := cell_later hbk10 nw
            have HA1 := Hid.mk (At.below HA1.out hbk10)
            have HO2 := Hid.mk (owns_mono ho2 HBk9.size)
            clear ho2
            (try go_wp2_with fail)
            refine hK.out _ _ ?_ (fun hHeld' => ?_)
            · (try dsimp only)
              exact ⟨(HBk10.cell zlt).trans s0, (HBk10.cell zlt).trans s1⟩
            clear hK K hHeld
            have hHeld := hHeld'
            clear hHeld'
            (try simp only [Act.put, List.setIfInBounds_toArray, List.set_cons_zero, List.set_cons_succ])
            refine wpAnyH_ready (rs := [7]) (by kernel_rfl) (by simp) ?_
            refine AllReadyH.cons (o := ?_) ?_ (fun K hK => ?_) AllReadyH.nil
            rotate_left
            · (simp only [List.getElem?_toArray, List.getElem?_cons_zero, List.getElem?_cons_succ]; rfl)
            refine step_append_vals rfl (.tmp 25) (.tmp 27) 22 rfl wY.heap.size 3 j0 (.int .i64 0) 1 8 Tryd.underlying22 hj0 hy0 hy1 hy2 rfl (by decide) (.slice r2 m1 d2) m1 ((bestL zs fs (woI l x)).map (.int .i64)) (by simp [Act.eval]) (HO2.out) (some ⟨u0.heap.size, 0, none⟩) 1 1 [.int .i64 x] (by simp [Act.eval]) rfl (fun ad he => by cases he; intro j u hu; match j, hu with | 0, hu => obtain rfl := Option.some.inj hu; exact nw) (by intro u hu; simp at hu; rw [hu]; rfl) (fun h => by cases h) (by unfold maxLen; omega) (by omega) (HBk10.size) (fun r5 d5 wk11 ho5 hg5 ht5 => ?_)
            have HBk11 : Below wY.heap.size wY wk11 := HBk10.grown hg5 HBk10.size (fun j hj => (HO2.out.lt j hj).1)
            have HO5 := Hid.mk ho5
            clear ho5 hg5 ht5
            refine hK.out _ _ ?_ (fun hHeld' => ?_)
            · (try dsimp only)
              exact ⟨(HBk11.cell zlt).trans s0, (HBk11.cell zlt).trans s1⟩
            clear hK K hHeld
            have hHeld := hHeld'
            clear hHeld'
            (try simp only [Act.put, List.setIfInBounds_toArray, List.set_cons_zero, List.set_cons_succ])
            refine tk 8 ?_
            refine wpAnyH_done (by kernel_rfl) ?_ _
            (try go_wp2_with fail)
            go_meet
            case rel =>
              refine ⟨r5, d5, ?_, ?_, HBk11⟩
              · have e9 : m1 + 1 = N := by have h1 := HM1.out; have h2 := HWL.out; omega
                rw [e9]
              · have e9 : m1 + 1 = N := by have h1 := HM1.out; have h2 := HWL.out; omega
                rw [← e9]
                have h9 := HO5.out
                unfold cand
                rw [List.map_append]
                exact h9
        case rest =>
          obtain ⟨r2, d2, rfl, ho2, hb2⟩ := hcut
          obtain ⟨wZ, rfl⟩ : ∃ x, x = wc := ⟨_, rfl⟩
          have z0 := (hb2.cell zlt).trans s0
          have z1 := (hb2.cell zlt).trans s1
          have zlt2 : w.heap.size < wZ.heap.size := Nat.lt_of_lt_of_le zlt hb2.size
          have HO := Hid.mk ho2
          have HOB := Hid.mk (owns_below HOY.out hb2)
          have HBZ := Hid.mk (HBY.out.trans (hb2.mono HBY.out.size))
          have zWY : W.heap.size ≤ wY.heap.size := HBY.out.size
          have KCO : Hid (∀ w' : World, Below wZ.heap.size wZ w' → Calls Tryd.prog 26 #[.agg #[.slice sa sn sc, .slice pa pn pc], .slice r2 N d2] w' fun e w'' => e = .returned (.int .i64 (costL zs fs (cand zs fs l x))) ∧ Below w'.heap.size w' w'') := fun w' hw' => l12Cost_any sa sn sc zs pa pn pc fs r2 N d2 _ w' hs ((hsa'.below hb2).below hw') hz ((has'.below hb2).below hw') HLO.out (At.below (At.owned HO.out) hw') hg HTO.out
          have KBF0 : Hid (∀ w' : World, Below wZ.heap.size wZ w' → 0 < k → Calls Tryd.prog 33 #[.slice r2 N d2, .slice r N d] w' fun e w'' => e = .returned (.bool (befB (cand zs fs l x) (bstT zs fs l k))) ∧ Below w'.heap.size w' w'') := fun w' hw' hk0 => l12Before_any r2 r N d2 d _ _ w' HLO.out (by have := HLB.out; omega) (by omega) (At.below (At.owned HO.out) hw') (At.below (At.owned HOB.out) hw')
          have KCB0 : Hid (∀ w' : World, Below wZ.heap.size wZ w' → 0 < k → Calls Tryd.prog 26 #[.agg #[.slice sa sn sc, .slice pa pn pc], .slice r N d] w' fun e w'' => e = .returned (.int .i64 (costL zs fs (bstT zs fs l k))) ∧ Below w'.heap.size w' w'') := fun w' hw' hk0 => l12Cost_any sa sn sc zs pa pn pc fs r N d _ w' hs ((hsa'.below hb2).below hw') hz ((has'.below hb2).below hw') (by have := HLB.out; omega) (At.below (At.owned HOB.out) hw') hg (HT.out.perm (bstT_perm zs fs (fun y hy => cand_perm zs fs HT.out.nd hy) k (by have := HL.out; omega) hk0).symm)
          clear ho2 hb2 KW KB s0 s1 hcx hsa' has'
          obtain ⟨CO, hCO⟩ : ∃ C, costL zs fs (cand zs fs l x) = C := ⟨_, rfl⟩
          obtain ⟨CB, hCB⟩ : ∃ C, costL zs fs (bstT zs fs l k) = C := ⟨_, rfl⟩
          have HLS : Hid (lesB zs fs (cand zs fs l x) (bstT zs fs l k) = (decide (CO < CB) || (decide (CO = CB) && befB (cand zs fs l x) (bstT zs fs l k)))) := by show _ = _; unfold lesB; rw [hCO, hCB]
          rw [hCO] at KCO
          rw [hCB] at KCB0
          clear hCO hCB
          obtain ⟨bf, hbf⟩ : ∃ b, befB (cand zs fs l x) (bstT zs fs l k) = b := ⟨_, rfl⟩
          rw [hbf] at KBF0 HLS
          clear hbf
          rcases hmk with ⟨rfl, hkz⟩ | ⟨hmN, hk0⟩
          · have HK0 := Hid.mk hkz
            clear hkz
            have HD0 : Below wZ.heap.size wZ wZ.drew := (Below.refl _ _).drew
            go_wp2_with fail
            refine wp_region_held_drew (S := fun w' => w'.cell? ⟨w.heap.size, 0, none⟩ = some (.slice sa sn sc) ∧ w'.cell? ⟨w.heap.size, 1, none⟩ = some (.slice pa pn pc)) (by kernel_rfl) ?_ (fun hHeld => ?_)
            · (try dsimp only)
              exact ⟨z0, z1⟩
            refine tk 0 ?_
            refine tk 1 ?_
            refine tk 2 ?_
            refine tk 3 ?_
            refine tu 4 ?_
            refine tu 5 ?_
            refine tu 6 ?_
            refine tu 7 ?_
            refine tu 8 ?_
            refine tu 9 ?_
            refine tu 10 ?_
            refine tk 11 ?_
            refine tk 12 ?_
            refine tu 13 ?_
            refine tu 14 ?_
            refine tu 15 ?_
            refine tu 16 ?_
            refine tu 17 ?_
            refine tu 18 ?_
            refine tu 19 ?_
            refine tu 20 ?_
            refine tu 21 ?_
            refine tu 22 ?_
            refine tu 23 ?_
            refine tu 24 ?_
            refine tk 25 ?_
            refine wpAnyH_done (by kernel_rfl) ?_ _
            have HOE := Hid.mk (owns_below HO.out HD0)
            have HBE := Hid.mk (HBZ.out.trans (HD0.mono HBZ.out.size))
            have HCH : Hid (bstT zs fs l (k + 1) = cand zs fs l x) := by show _ = _; rw [HST.out]; unfold chs; rw [if_pos (by rw [HK0.out, bstT_zero]; rfl)]
            go_wp2
            go_roundw
            case rel => exact ⟨k + 1, N, r2, d2, by omega, by go_num, rfl, .inr ⟨rfl, by omega⟩, by rw [HCH.out]; exact HLO.out, by rw [HCH.out]; exact owns_mono HOE.out (by omega), HBE.out⟩
            case measure => simp [intOf]; omega
          · obtain rfl : N = m := hmN.symm
            have hm0 : ((N : Int) == 0) = false := beq_eq_false_iff_ne.2 (by omega)
            have KCB : Hid (∀ w' : World, Below wZ.heap.size wZ w' → Calls Tryd.prog 26 #[.agg #[.slice sa sn sc, .slice pa pn pc], .slice r N d] w' fun e w'' => e = .returned (.int .i64 CB) ∧ Below w'.heap.size w' w'') := fun w' hw' => KCB0.out w' hw' hk0
            have KBF : Hid (∀ w' : World, Below wZ.heap.size wZ w' → Calls Tryd.prog 33 #[.slice r2 N d2, .slice r N d] w' fun e w'' => e = .returned (.bool bf) ∧ Below w'.heap.size w' w'') := fun w' hw' => KBF0.out w' hw' hk0
            have HLN : Hid (decide ((bstT zs fs l k).length = 0) = false) := by show _ = _; exact decide_eq_false (by have := HLB.out; omega)
            clear KCB0 KBF0 hmN
            by_cases c1 : CO < CB
            · have HY : Hid ((decide ((bstT zs fs l k).length = 0) || lesB zs fs (cand zs fs l x) (bstT zs fs l k)) = true) := by show _ = _; rw [HLN.out, HLS.out, decide_eq_true c1]; rfl
              go_wp2_with fail
              refine wp_region_held_drew (S := fun w' => w'.cell? ⟨w.heap.size, 0, none⟩ = some (.slice sa sn sc) ∧ w'.cell? ⟨w.heap.size, 1, none⟩ = some (.slice pa pn pc)) (by kernel_rfl) ?_ (fun hHeld => ?_)
              · (try dsimp only)
                exact ⟨z0, z1⟩
              have HD0 : Below wZ.heap.size wZ wZ.drew := (Below.refl _ _).drew
              refine tk 0 ?_
              refine tk 1 ?_
              refine tk 2 ?_
              refine tk 3 ?_
              refine tk 4 ?_
              refine tk 5 ?_
              refine tk 7 ?_
              refine tk 8 ?_
              refine tr 6 (fun K hK => ?_)
              go_simp
              go_at_call 26
              refine (KCO.out wZ.drew HD0).mono ?_
              rintro e wd1 ⟨rfl, hd1⟩
              have HD1 : Below wZ.heap.size wZ wd1 := HD0.trans (hd1.mono HD0.size)
              clear hd1
              (try go_wp2_with fail)
              refine hK.out _ _ ?_ (fun hHeld' => ?_)
              · (try dsimp only)
                exact ⟨(HD1.cell zlt2).trans z0, (HD1.cell zlt2).trans z1⟩
              clear hK K hHeld
              have hHeld := hHeld'
              clear hHeld'
              (try simp only [Act.put, List.setIfInBounds_toArray, List.set_cons_zero, List.set_cons_succ])
              refine tr 9 (fun K hK => ?_)
              go_simp
              go_at_call 26
              refine (KCB.out wd1 HD1).mono ?_
              rintro e wd2 ⟨rfl, hd2⟩
              have HD2 : Below wZ.heap.size wZ wd2 := HD1.trans (hd2.mono HD1.size)
              clear hd2
              (try go_wp2_with fail)
              refine hK.out _ _ ?_ (fun hHeld' => ?_)
              · (try dsimp only)
                exact ⟨(HD2.cell zlt2).trans z0, (HD2.cell zlt2).trans z1⟩
              clear hK K hHeld
              have hHeld := hHeld'
              clear hHeld'
              (try simp only [Act.put, List.setIfInBounds_toArray, List.set_cons_zero, List.set_cons_succ])
              refine tk 10 ?_
              refine tk 11 ?_
              refine tk 12 ?_
              refine tu 13 ?_
              refine tu 14 ?_
              refine tu 15 ?_
              refine tu 16 ?_
              refine tu 17 ?_
              refine tu 18 ?_
              refine tu 19 ?_
              refine tu 20 ?_
              refine tu 21 ?_
              refine tu 22 ?_
              refine tu 23 ?_
              refine tu 24 ?_
              refine tk 25 ?_
              refine wpAnyH_done (by kernel_rfl) ?_ _
              have HOE := Hid.mk (owns_below HO.out HD2)
              have HBE := Hid.mk (HBZ.out.trans (HD2.mono HBZ.out.size))
              have HCH : Hid (bstT zs fs l (k + 1) = cand zs fs l x) := by show _ = _; rw [HST.out]; unfold chs; rw [if_pos (by exact HY.out)]
              go_wp2
              go_roundw
              case rel => exact ⟨k + 1, N, r2, d2, by omega, by go_num, rfl, .inr ⟨rfl, by omega⟩, by rw [HCH.out]; exact HLO.out, by rw [HCH.out]; exact owns_mono HOE.out (by omega), HBE.out⟩
              case measure => simp [intOf]; omega
            have c1d : decide (CO < CB) = false := decide_eq_false c1
            by_cases c2 : CO = CB
            · have c2' : (CO == CB) = true := by rw [c2]; simp
              cases bf with
              | true =>
                have HY : Hid ((decide ((bstT zs fs l k).length = 0) || lesB zs fs (cand zs fs l x) (bstT zs fs l k)) = true) := by show _ = _; rw [HLN.out, HLS.out, decide_eq_true c2]; simp
                clear c2
                go_wp2_with fail
                refine wp_region_held_drew (S := fun w' => w'.cell? ⟨w.heap.size, 0, none⟩ = some (.slice sa sn sc) ∧ w'.cell? ⟨w.heap.size, 1, none⟩ = some (.slice pa pn pc)) (by kernel_rfl) ?_ (fun hHeld => ?_)
                · (try dsimp only)
                  exact ⟨z0, z1⟩
                have HD0 : Below wZ.heap.size wZ wZ.drew := (Below.refl _ _).drew
                refine tk 0 ?_
                refine tk 1 ?_
                refine tk 2 ?_
                refine tk 3 ?_
                refine tk 4 ?_
                refine tk 5 ?_
                refine tk 7 ?_
                refine tk 8 ?_
                refine tr 6 (fun K hK => ?_)
                go_simp
                go_at_call 26
                refine (KCO.out wZ.drew HD0).mono ?_
                rintro e wd1 ⟨rfl, hd1⟩
                have HD1 : Below wZ.heap.size wZ wd1 := HD0.trans (hd1.mono HD0.size)
                clear hd1
                (try go_wp2_with fail)
                refine hK.out _ _ ?_ (fun hHeld' => ?_)
                · (try dsimp only)
                  exact ⟨(HD1.cell zlt2).trans z0, (HD1.cell zlt2).trans z1⟩
                clear hK K hHeld
                have hHeld := hHeld'
                clear hHeld'
                (try simp only [Act.put, List.setIfInBounds_toArray, List.set_cons_zero, List.set_cons_succ])
                refine tr 9 (fun K hK => ?_)
                go_simp
                go_at_call 26
                refine (KCB.out wd1 HD1).mono ?_
                rintro e wd2 ⟨rfl, hd2⟩
                have HD2 : Below wZ.heap.size wZ wd2 := HD1.trans (hd2.mono HD1.size)
                clear hd2
                (try go_wp2_with fail)
                refine hK.out _ _ ?_ (fun hHeld' => ?_)
                · (try dsimp only)
                  exact ⟨(HD2.cell zlt2).trans z0, (HD2.cell zlt2).trans z1⟩
                clear hK K hHeld
                have hHeld := hHeld'
                clear hHeld'
                (try simp only [Act.put, List.setIfInBounds_toArray, List.set_cons_zero, List.set_cons_succ])
                refine tk 10 ?_
                refine tk 11 ?_
                refine tk 12 ?_
                refine tk 13 ?_
                refine tk 14 ?_
                refine tk 16 ?_
                refine tk 17 ?_
                refine tr 15 (fun K hK => ?_)
                go_simp
                go_at_call 26
                refine (KCO.out wd2 HD2).mono ?_
                rintro e wd3 ⟨rfl, hd3⟩
                have HD3 : Below wZ.heap.size wZ wd3 := HD2.trans (hd3.mono HD2.size)
                clear hd3
                (try go_wp2_with fail)
                refine hK.out _ _ ?_ (fun hHeld' => ?_)
                · (try dsimp only)
                  exact ⟨(HD3.cell zlt2).trans z0, (HD3.cell zlt2).trans z1⟩
                clear hK K hHeld
                have hHeld := hHeld'
                clear hHeld'
                (try simp only [Act.put, List.setIfInBounds_toArray, List.set_cons_zero, List.set_cons_succ])
                refine tr 18 (fun K hK => ?_)
                go_simp
                go_at_call 26
                refine (KCB.out wd3 HD3).mono ?_
                rintro e wd4 ⟨rfl, hd4⟩
                have HD4 : Below wZ.heap.size wZ wd4 := HD3.trans (hd4.mono HD3.size)
                clear hd4
                (try go_wp2_with fail)
                refine hK.out _ _ ?_ (fun hHeld' => ?_)
                · (try dsimp only)
                  exact ⟨(HD4.cell zlt2).trans z0, (HD4.cell zlt2).trans z1⟩
                clear hK K hHeld
                have hHeld := hHeld'
                clear hHeld'
                (try simp only [Act.put, List.setIfInBounds_toArray, List.set_cons_zero, List.set_cons_succ])
                refine tk 19 ?_
                refine tk 20 ?_
                refine tk 21 ?_
                refine tk 22 ?_
                refine tr 23 (fun K hK => ?_)
                go_simp
                go_at_call 33
                refine (KBF.out wd4 HD4).mono ?_
                rintro e wd5 ⟨rfl, hd5⟩
                have HD5 : Below wZ.heap.size wZ wd5 := HD4.trans (hd5.mono HD4.size)
                clear hd5
                (try go_wp2_with fail)
                refine hK.out _ _ ?_ (fun hHeld' => ?_)
                · (try dsimp only)
                  exact ⟨(HD5.cell zlt2).trans z0, (HD5.cell zlt2).trans z1⟩
                clear hK K hHeld
                have hHeld := hHeld'
                clear hHeld'
                (try simp only [Act.put, List.setIfInBounds_toArray, List.set_cons_zero, List.set_cons_succ])
                refine tk 24 ?_
                refine tk 25 ?_
                refine wpAnyH_done (by kernel_rfl) ?_ _
                have HOE := Hid.mk (owns_below HO.out HD5)
                have HBE := Hid.mk (HBZ.out.trans (HD5.mono HBZ.out.size))
                have HCH : Hid (bstT zs fs l (k + 1) = cand zs fs l x) := by show _ = _; rw [HST.out]; unfold chs; rw [if_pos (by exact HY.out)]
                go_wp2
                go_roundw
                case rel => exact ⟨k + 1, N, r2, d2, by omega, by go_num, rfl, .inr ⟨rfl, by omega⟩, by rw [HCH.out]; exact HLO.out, by rw [HCH.out]; exact owns_mono HOE.out (by omega), HBE.out⟩
                case measure => simp [intOf]; omega
              | false =>
                have HY : Hid ((decide ((bstT zs fs l k).length = 0) || lesB zs fs (cand zs fs l x) (bstT zs fs l k)) = false) := by show _ = _; rw [HLN.out, HLS.out, decide_eq_false c1]; simp
                clear c2
                go_wp2_with fail
                refine wp_region_held_drew (S := fun w' => w'.cell? ⟨w.heap.size, 0, none⟩ = some (.slice sa sn sc) ∧ w'.cell? ⟨w.heap.size, 1, none⟩ = some (.slice pa pn pc)) (by kernel_rfl) ?_ (fun hHeld => ?_)
                · (try dsimp only)
                  exact ⟨z0, z1⟩
                have HD0 : Below wZ.heap.size wZ wZ.drew := (Below.refl _ _).drew
                refine tk 0 ?_
                refine tk 1 ?_
                refine tk 2 ?_
                refine tk 3 ?_
                refine tk 4 ?_
                refine tk 5 ?_
                refine tk 7 ?_
                refine tk 8 ?_
                refine tr 6 (fun K hK => ?_)
                go_simp
                go_at_call 26
                refine (KCO.out wZ.drew HD0).mono ?_
                rintro e wd1 ⟨rfl, hd1⟩
                have HD1 : Below wZ.heap.size wZ wd1 := HD0.trans (hd1.mono HD0.size)
                clear hd1
                (try go_wp2_with fail)
                refine hK.out _ _ ?_ (fun hHeld' => ?_)
                · (try dsimp only)
                  exact ⟨(HD1.cell zlt2).trans z0, (HD1.cell zlt2).trans z1⟩
                clear hK K hHeld
                have hHeld := hHeld'
                clear hHeld'
                (try simp only [Act.put, List.setIfInBounds_toArray, List.set_cons_zero, List.set_cons_succ])
                refine tr 9 (fun K hK => ?_)
                go_simp
                go_at_call 26
                refine (KCB.out wd1 HD1).mono ?_
                rintro e wd2 ⟨rfl, hd2⟩
                have HD2 : Below wZ.heap.size wZ wd2 := HD1.trans (hd2.mono HD1.size)
                clear hd2
                (try go_wp2_with fail)
                refine hK.out _ _ ?_ (fun hHeld' => ?_)
                · (try dsimp only)
                  exact ⟨(HD2.cell zlt2).trans z0, (HD2.cell zlt2).trans z1⟩
                clear hK K hHeld
                have hHeld := hHeld'
                clear hHeld'
                (try simp only [Act.put, List.setIfInBounds_toArray, List.set_cons_zero, List.set_cons_succ])
                refine tk 10 ?_
                refine tk 11 ?_
                refine tk 12 ?_
                refine tk 13 ?_
                refine tk 14 ?_
                refine tk 16 ?_
                refine tk 17 ?_
                refine tr 15 (fun K hK => ?_)
                go_simp
                go_at_call 26
                refine (KCO.out wd2 HD2).mono ?_
                rintro e wd3 ⟨rfl, hd3⟩
                have HD3 : Below wZ.heap.size wZ wd3 := HD2.trans (hd3.mono HD2.size)
                clear hd3
                (try go_wp2_with fail)
                refine hK.out _ _ ?_ (fun hHeld' => ?_)
                · (try dsimp only)
                  exact ⟨(HD3.cell zlt2).trans z0, (HD3.cell zlt2).trans z1⟩
                clear hK K hHeld
                have hHeld := hHeld'
                clear hHeld'
                (try simp only [Act.put, List.setIfInBounds_toArray, List.set_cons_zero, List.set_cons_succ])
                refine tr 18 (fun K hK => ?_)
                go_simp
                go_at_call 26
                refine (KCB.out wd3 HD3).mono ?_
                rintro e wd4 ⟨rfl, hd4⟩
                have HD4 : Below wZ.heap.size wZ wd4 := HD3.trans (hd4.mono HD3.size)
                clear hd4
                (try go_wp2_with fail)
                refine hK.out _ _ ?_ (fun hHeld' => ?_)
                · (try dsimp only)
                  exact ⟨(HD4.cell zlt2).trans z0, (HD4.cell zlt2).trans z1⟩
                clear hK K hHeld
                have hHeld := hHeld'
                clear hHeld'
                (try simp only [Act.put, List.setIfInBounds_toArray, List.set_cons_zero, List.set_cons_succ])
                refine tk 19 ?_
                refine tk 20 ?_
                refine tk 21 ?_
                refine tk 22 ?_
                refine tr 23 (fun K hK => ?_)
                go_simp
                go_at_call 33
                refine (KBF.out wd4 HD4).mono ?_
                rintro e wd5 ⟨rfl, hd5⟩
                have HD5 : Below wZ.heap.size wZ wd5 := HD4.trans (hd5.mono HD4.size)
                clear hd5
                (try go_wp2_with fail)
                refine hK.out _ _ ?_ (fun hHeld' => ?_)
                · (try dsimp only)
                  exact ⟨(HD5.cell zlt2).trans z0, (HD5.cell zlt2).trans z1⟩
                clear hK K hHeld
                have hHeld := hHeld'
                clear hHeld'
                (try simp only [Act.put, List.setIfInBounds_toArray, List.set_cons_zero, List.set_cons_succ])
                refine tk 24 ?_
                refine tk 25 ?_
                refine wpAnyH_done (by kernel_rfl) ?_ _
                have HOE := Hid.mk (owns_below HOB.out HD5)
                have HBE := Hid.mk (HBZ.out.trans (HD5.mono HBZ.out.size))
                have HCH : Hid (bstT zs fs l (k + 1) = bstT zs fs l k) := by show _ = _; rw [HST.out]; unfold chs; rw [if_neg (by rw [HY.out]; simp)]
                go_wp2
                go_roundw
                case rel => exact ⟨k + 1, N, r, d, by omega, by go_num, rfl, .inr ⟨by omega, by omega⟩, by rw [HCH.out]; exact HLB.out, by rw [HCH.out]; exact HOE.out, HBE.out⟩
                case measure => simp [intOf]; omega
            · have c2' : (CO == CB) = false := beq_eq_false_iff_ne.2 c2
              have HY : Hid ((decide ((bstT zs fs l k).length = 0) || lesB zs fs (cand zs fs l x) (bstT zs fs l k)) = false) := by show _ = _; rw [HLN.out, HLS.out, decide_eq_false c1, decide_eq_false c2]; rfl
              clear c2
              go_wp2_with fail
              refine wp_region_held_drew (S := fun w' => w'.cell? ⟨w.heap.size, 0, none⟩ = some (.slice sa sn sc) ∧ w'.cell? ⟨w.heap.size, 1, none⟩ = some (.slice pa pn pc)) (by kernel_rfl) ?_ (fun hHeld => ?_)
              · (try dsimp only)
                exact ⟨z0, z1⟩
              have HD0 : Below wZ.heap.size wZ wZ.drew := (Below.refl _ _).drew
              refine tk 0 ?_
              refine tk 1 ?_
              refine tk 2 ?_
              refine tk 3 ?_
              refine tk 4 ?_
              refine tk 5 ?_
              refine tk 7 ?_
              refine tk 8 ?_
              refine tr 6 (fun K hK => ?_)
              go_simp
              go_at_call 26
              refine (KCO.out wZ.drew HD0).mono ?_
              rintro e wd1 ⟨rfl, hd1⟩
              have HD1 : Below wZ.heap.size wZ wd1 := HD0.trans (hd1.mono HD0.size)
              clear hd1
              (try go_wp2_with fail)
              refine hK.out _ _ ?_ (fun hHeld' => ?_)
              · (try dsimp only)
                exact ⟨(HD1.cell zlt2).trans z0, (HD1.cell zlt2).trans z1⟩
              clear hK K hHeld
              have hHeld := hHeld'
              clear hHeld'
              (try simp only [Act.put, List.setIfInBounds_toArray, List.set_cons_zero, List.set_cons_succ])
              refine tr 9 (fun K hK => ?_)
              go_simp
              go_at_call 26
              refine (KCB.out wd1 HD1).mono ?_
              rintro e wd2 ⟨rfl, hd2⟩
              have HD2 : Below wZ.heap.size wZ wd2 := HD1.trans (hd2.mono HD1.size)
              clear hd2
              (try go_wp2_with fail)
              refine hK.out _ _ ?_ (fun hHeld' => ?_)
              · (try dsimp only)
                exact ⟨(HD2.cell zlt2).trans z0, (HD2.cell zlt2).trans z1⟩
              clear hK K hHeld
              have hHeld := hHeld'
              clear hHeld'
              (try simp only [Act.put, List.setIfInBounds_toArray, List.set_cons_zero, List.set_cons_succ])
              refine tk 10 ?_
              refine tk 11 ?_
              refine tk 12 ?_
              refine tk 13 ?_
              refine tk 14 ?_
              refine tk 16 ?_
              refine tk 17 ?_
              refine tr 15 (fun K hK => ?_)
              go_simp
              go_at_call 26
              refine (KCO.out wd2 HD2).mono ?_
              rintro e wd3 ⟨rfl, hd3⟩
              have HD3 : Below wZ.heap.size wZ wd3 := HD2.trans (hd3.mono HD2.size)
              clear hd3
              (try go_wp2_with fail)
              refine hK.out _ _ ?_ (fun hHeld' => ?_)
              · (try dsimp only)
                exact ⟨(HD3.cell zlt2).trans z0, (HD3.cell zlt2).trans z1⟩
              clear hK K hHeld
              have hHeld := hHeld'
              clear hHeld'
              (try simp only [Act.put, List.setIfInBounds_toArray, List.set_cons_zero, List.set_cons_succ])
              refine tr 18 (fun K hK => ?_)
              go_simp
              go_at_call 26
              refine (KCB.out wd3 HD3).mono ?_
              rintro e wd4 ⟨rfl, hd4⟩
              have HD4 : Below wZ.heap.size wZ wd4 := HD3.trans (hd4.mono HD3.size)
              clear hd4
              (try go_wp2_with fail)
              refine hK.out _ _ ?_ (fun hHeld' => ?_)
              · (try dsimp only)
                exact ⟨(HD4.cell zlt2).trans z0, (HD4.cell zlt2).trans z1⟩
              clear hK K hHeld
              have hHeld := hHeld'
              clear hHeld'
              (try simp only [Act.put, List.setIfInBounds_toArray, List.set_cons_zero, List.set_cons_succ])
              refine tk 19 ?_
              refine tk 20 ?_
              refine tu 21 ?_
              refine tu 22 ?_
              refine tu 23 ?_
              refine tk 24 ?_
              refine tk 25 ?_
              refine wpAnyH_done (by kernel_rfl) ?_ _
              have HOE := Hid.mk (owns_below HOB.out HD4)
              have HBE := Hid.mk (HBZ.out.trans (HD4.mono HBZ.out.size))
              have HCH : Hid (bstT zs fs l (k + 1) = bstT zs fs l k) := by show _ = _; rw [HST.out]; unfold chs; rw [if_neg (by rw [HY.out]; simp)]
              go_wp2
              go_roundw
              case rel => exact ⟨k + 1, N, r, d, by omega, by go_num, rfl, .inr ⟨by omega, by omega⟩, by rw [HCH.out]; exact HLB.out, by rw [HCH.out]; exact HOE.out, HBE.out⟩
              case measure => simp [intOf]; omega
      · obtain rfl : N = k := by omega
        have hki : ¬ (N : Int) < (N : Int) := by omega
        obtain rfl : N = m := by omega
        have HE : Hid (bestL zs fs l = bstT zs fs l N) := by show _ = _; rw [bestL_is zs fs HT.out.nd, HL.out]
        have HO := Hid.mk (owns_mono ho (Nat.le_of_lt zW))
        have HB := Hid.mk (B0.trans (hbw.mono (Nat.le_of_lt zW)))
        clear ho hbw
        go_wp2
        go_ret
        exact ⟨r, d, rfl, by rw [HE.out]; exact HO.out, HB.out⟩

end Go.Proofs.YtkcmlphpilggpaaDoor
