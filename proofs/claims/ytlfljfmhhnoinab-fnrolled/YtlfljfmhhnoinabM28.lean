/- Several texts of one proof, in build order: RollY, TotX. -/
import Derived.Test.YtlfljfmhhnoinabM27
import Derived.Test.YtlfljfmhhnoinabM24
import Derived.Test.YtlfljfmhhnoinabM23

/- Contract of spec.RollUp. -/
namespace Go.Proofs.Ytlfljfmhhnoinab
open Go.RowKit

theorem colsUp_bad {cols : List Int} {ts : List GRow} (k : Nat) (hk : k < cols.length) (h : cols.getD k 0 < 0 ∨ (ts ≠ [] ∧ (keyN ts : Int) ≤ cols.getD k 0)) : colsUp cols ts = false := by
  cases hg : colsUp cols ts with
  | false => rfl
  | true =>
    simp only [colsUp, Bool.and_eq_true, decide_eq_true_eq, List.all_eq_true, Bool.or_eq_true] at hg
    have := hg.2 (cols[k]) (List.getElem_mem hk)
    simp only [List.getD, List.getElem?_eq_getElem hk, Option.getD_some] at h
    rcases h with h | ⟨h1, h2⟩
    · omega
    · rcases this.2 with h3 | h3
      · exact absurd h3 h1
      · omega
theorem colsUp_long {cols : List Int} {ts : List GRow} (h : 6 < cols.length) : colsUp cols ts = false := by
  have : decide (cols.length ≤ 6) = false := by simp; omega
  simp [colsUp, this]
theorem colsUp_all {cols : List Int} {ts : List GRow} (hl : cols.length ≤ 6) (h : ∀ k, k < cols.length → 0 ≤ cols.getD k 0 ∧ (ts ≠ [] → cols.getD k 0 < (keyN ts : Int))) : colsUp cols ts = true := by
  simp only [colsUp, Bool.and_eq_true, decide_eq_true_eq, List.all_eq_true, Bool.or_eq_true]
  refine ⟨hl, fun x hx => ?_⟩
  obtain ⟨k, hk, rfl⟩ := List.getElem_of_mem hx
  have := h k hk
  simp only [List.getD, List.getElem?_eq_getElem hk, Option.getD_some] at this
  refine ⟨this.1, ?_⟩
  by_cases e : ts = []
  · exact .inl e
  · exact .inr (this.2 e)

set_option maxRecDepth 100000 in
set_option maxHeartbeats 8000000 in
theorem specRollUp (a a' : Option Addr) (n n' c c' : Nat) (ts : List GRow) (cols : List Int) (w : World) (hz : ts.length = n) (hn : n ≤ 1048576) (hz' : cols.length = n') (hn' : n' ≤ 1048576) (ha : AtV w a ts) (ha' : At w a' cols) :
    Calls Try.prog 20 #[.slice a n c, .slice a' n' c'] w fun e w' => GrpRet e w' w.heap.size (rollB ts cols) (ansG (rollB ts cols) (rollL ts cols)) ∧ Below w.heap.size w w' := by
  by_cases h0 : n = 0
  · subst h0
    obtain rfl := List.eq_nil_of_length_eq_zero hz
    go_enter Try.func20, Try.ntmps20
    go_wp2
    go_loopw [23] (fun i wr => ∃ k : Nat, k ≤ n' ∧ i = .int .i64 k ∧ (∀ j, j < k → 0 ≤ cols.getD j 0) ∧ w = wr) (fun i _ => n' - (intOf i).toNat)
    case atStart => exact ⟨0, Nat.zero_le _, rfl, fun j hj => by omega, rfl⟩
    case round =>
      obtain ⟨k, hk, rfl, hall, rfl⟩ := hrel
      by_cases hlt : k < n'
      · obtain ⟨bc, oc, rfl, hbc, hcc⟩ := ha'.some (by omega)
        have hcx := hcc k (by omega)
        have hki : (k : Int) < (n' : Int) := by omega
        have HB : Hid (cols.getD k 0 < 0 → colsUp cols ([] : List GRow) = false) := fun h => colsUp_bad k (by omega) (.inl h)
        have HS : Hid (0 ≤ cols.getD k 0 → ∀ j, j < k + 1 → 0 ≤ cols.getD j 0) := fun h1 j hj => by
          by_cases e : j = k
          · subst e; exact h1
          · exact hall j (by omega)
        clear hall hcc
        obtain ⟨x, hx⟩ : ∃ x, x = cols.getD k 0 := ⟨_, rfl⟩
        rw [← hx] at hcx HB HS
        clear hx
        by_cases hlo : x < 0
        · go_wp2
          refine bodyPost_ret (v := .tuple #[.slice none 0 0, .bool false]) (by simp [results, Try.results20, go_sem]) rfl ⟨GrpRet.zero (rollB_cols (HB.out hlo)) rfl, Below.refl _ _⟩
        · go_wp2
          go_roundw
          case rel => exact ⟨k + 1, by omega, by go_num, HS.out (by omega), trivial⟩
          case measure => simp [intOf]; omega
      · obtain rfl : k = n' := by omega
        have HALL := Hid.mk hall
        clear hall
        cases hg : goodV ([] : List GRow) with
        | false =>
          have HG := Hid.mk hg
          clear hg
          go_wp2_with (go_at_call 59; refine (specGoodGroups_any _ _ _ ([] : List GRow) _ hz hn ha).mono ?_; rintro e w1 ⟨rfl, hb1⟩; rw [HG.out])
          refine bodyPost_ret (v := .tuple #[.slice none 0 0, .bool false]) (by simp [results, Try.results20, go_sem]) rfl ⟨GrpRet.zero (rollB_good HG.out) rfl, hb1⟩
        | true =>
          have HG := Hid.mk hg
          clear hg
          by_cases h6 : 6 < k
          · have h6' : (6 : Int) < (k : Int) := by omega
            go_wp2_with (go_at_call 59; refine (specGoodGroups_any _ _ _ ([] : List GRow) _ hz hn ha).mono ?_; rintro e w1 ⟨rfl, hb1⟩; rw [HG.out])
            refine bodyPost_ret (v := .tuple #[.slice none 0 0, .bool false]) (by simp [results, Try.results20, go_sem]) rfl ⟨GrpRet.zero (rollB_cols (colsUp_long (by omega))) rfl, hb1⟩
          · have h6' : decide ((6 : Int) < (k : Int)) = false := decide_eq_false (by omega)
            have HCU : Hid (colsUp cols ([] : List GRow) = true) := colsUp_all (by omega) (fun j hj => ⟨HALL.out j (by omega), fun h => absurd rfl h⟩)
            have HRB := Hid.mk (rollB_yes HG.out HCU.out)
            clear HALL
            go_wp2_with (go_at_call 59; refine (specGoodGroups_any _ _ _ ([] : List GRow) _ hz hn ha).mono ?_; rintro e w1 ⟨rfl, hb1⟩; rw [HG.out])
            refine wp_loop_rounds 1 ?_
            rw [rounds_succ]
            have B3 := hb1
            go_wp2_with fail
            refine (l5Tell_any _ _ _ (rollL ([] : List GRow) cols) _ rfl (Nat.zero_le _) (atN_nil _ _)).mono ?_
            rintro e w6 ⟨⟨r6, m6, d6, rfl, ho6⟩, hb6⟩
            obtain ⟨ok, hok6⟩ : ∃ ok, goodV (rollL ([] : List GRow) cols) = ok := ⟨_, rfl⟩
            have HO6 := Hid.mk hok6
            rw [hok6] at ho6 ⊢
            clear hok6
            have z3 := B3.size
            go_wp2
            refine bodyPost_ret (v := .tuple #[.slice r6 m6 d6, .bool ok]) (by simp [results, Try.results20, go_sem]) rfl ⟨?_, B3.trans (hb6.mono B3.size)⟩
            rw [HRB.out, HO6.out]
            exact ⟨r6, m6, d6, rfl, ho6.widen z3 (Nat.le_refl _) (Nat.le_refl _)⟩
  · have hnp : (0 : Int) < (n : Int) := by omega
    have hnp' : 0 < n := by omega
    have HNE : Hid (ts ≠ []) := fun e => h0 (by rw [← hz, e]; rfl)
    obtain ⟨b, off, rfl, hc⟩ := ha.some (by omega)
    obtain ⟨q0, d0, h0x, _, _, hm0, _⟩ := hc 0 (by omega)
    have h0x' : w.cell? ⟨b, off, none⟩ = some (.slice q0 (keyN ts) d0) := by simpa [keyN] using h0x
    obtain ⟨K, hK⟩ : ∃ K, keyN ts = K := ⟨_, rfl⟩
    rw [hK] at h0x'
    have HK := Hid.mk hK
    clear h0x hK hc hm0
    go_enter Try.func20, Try.ntmps20
    go_wp2
    go_loopw [23] (fun i wr => ∃ k : Nat, k ≤ n' ∧ i = .int .i64 k ∧ (∀ j, j < k → 0 ≤ cols.getD j 0 ∧ cols.getD j 0 < (K : Int)) ∧ w = wr) (fun i _ => n' - (intOf i).toNat)
    case atStart => exact ⟨0, Nat.zero_le _, rfl, fun j hj => by omega, rfl⟩
    case round =>
      obtain ⟨k, hk, rfl, hall, rfl⟩ := hrel
      by_cases hlt : k < n'
      · obtain ⟨bc, oc, rfl, hbc, hcc⟩ := ha'.some (by omega)
        have hcx := hcc k (by omega)
        have hki : (k : Int) < (n' : Int) := by omega
        have HB : Hid (cols.getD k 0 < 0 ∨ (K : Int) ≤ cols.getD k 0 → colsUp cols ts = false) := fun h => colsUp_bad k (by omega) (h.imp id (fun h => ⟨HNE.out, by rw [HK.out]; exact h⟩))
        have HS : Hid (0 ≤ cols.getD k 0 → cols.getD k 0 < (K : Int) → ∀ j, j < k + 1 → 0 ≤ cols.getD j 0 ∧ cols.getD j 0 < (K : Int)) := fun h1 h2 j hj => by
          by_cases e : j = k
          · subst e; exact ⟨h1, h2⟩
          · exact hall j (by omega)
        clear hall hcc
        obtain ⟨x, hx⟩ : ∃ x, x = cols.getD k 0 := ⟨_, rfl⟩
        rw [← hx] at hcx HB HS
        clear hx
        by_cases hlo : x < 0
        · go_wp2
          refine bodyPost_ret (v := .tuple #[.slice none 0 0, .bool false]) (by simp [results, Try.results20, go_sem]) rfl ⟨GrpRet.zero (rollB_cols (HB.out (.inl hlo))) rfl, Below.refl _ _⟩
        · by_cases hhi : (K : Int) ≤ x
          · go_wp2
            refine bodyPost_ret (v := .tuple #[.slice none 0 0, .bool false]) (by simp [results, Try.results20, go_sem]) rfl ⟨GrpRet.zero (rollB_cols (HB.out (.inr hhi))) rfl, Below.refl _ _⟩
          · go_wp2
            go_roundw
            case rel => exact ⟨k + 1, by omega, by go_num, HS.out (by omega) (by omega), trivial⟩
            case measure => simp [intOf]; omega
      · obtain rfl : k = n' := by omega
        have HALL := Hid.mk hall
        clear hall
        cases hg : goodV ts with
        | false =>
          have HG := Hid.mk hg
          clear hg
          go_wp2_with (go_at_call 59; refine (specGoodGroups_any _ _ _ ts _ hz hn ha).mono ?_; rintro e w1 ⟨rfl, hb1⟩; rw [HG.out])
          refine bodyPost_ret (v := .tuple #[.slice none 0 0, .bool false]) (by simp [results, Try.results20, go_sem]) rfl ⟨GrpRet.zero (rollB_good HG.out) rfl, hb1⟩
        | true =>
          have HG := Hid.mk hg
          clear hg
          by_cases h6 : 6 < k
          · have h6' : (6 : Int) < (k : Int) := by omega
            go_wp2_with (go_at_call 59; refine (specGoodGroups_any _ _ _ ts _ hz hn ha).mono ?_; rintro e w1 ⟨rfl, hb1⟩; rw [HG.out])
            refine bodyPost_ret (v := .tuple #[.slice none 0 0, .bool false]) (by simp [results, Try.results20, go_sem]) rfl ⟨GrpRet.zero (rollB_cols (colsUp_long (by omega))) rfl, hb1⟩
          · have h6' : decide ((6 : Int) < (k : Int)) = false := decide_eq_false (by omega)
            have HCU : Hid (colsUp cols ts = true) := colsUp_all (by omega) (fun j hj => ⟨(HALL.out j (by omega)).1, fun _ => by rw [HK.out]; exact (HALL.out j (by omega)).2⟩)
            have HRB := Hid.mk (rollB_yes HG.out HCU.out)
            clear HALL
            go_wp2_with (go_at_call 59; refine (specGoodGroups_any _ _ _ ts _ hz hn ha).mono ?_; rintro e w1 ⟨rfl, hb1⟩; rw [HG.out])
            have hn60 : n ≤ 60 := by have := (goodV_parts HG.out).1; omega
            have HCO : Hid (colsOk cols (keyN ts) = true) := colsUp_ok HCU.out HNE.out
            have HRM : Hid (∀ t ∈ rolled ts cols, good t.1 = true ∧ t.1.length = cols.length ∧ InA 100000000000000 t.2) := rolled_mem HG.out (fun _ => HCO.out)
            have B1 := hb1
            clear hb1 h0x'
            go_loopw [9, 50] (fun l i wr => ∃ (j : Nat) (r : Option Addr) (m d : Nat), j ≤ n ∧ i = .int .i64 j ∧ l = .slice r m d ∧ (putAllV [] ((rolled ts cols).take j)).length = m ∧ Formed r m d ∧ AtN wr r (putAllV [] ((rolled ts cols).take j)) ∧ Below w1.heap.size w1 wr) (fun _ i _ => n - (intOf i).toNat)
            case atStart => exact ⟨0, none, 0, 0, Nat.zero_le _, rfl, rfl, rfl, Formed.nil, atN_nil _ _, Below.refl _ _⟩
            case round =>
              obtain ⟨j, r, m, d, hj, rfl, rfl, hm, hF, har, hbw⟩ := hrel
              have B3 : Below w.heap.size w wr := B1.trans (hbw.mono B1.size)
              by_cases hjt : j < n
              · obtain ⟨b', off', he, hc⟩ := (ha.below B3).some (by omega)
                cases he
                obtain ⟨q, dd, hcx, hwx, hvx, hm1, hat⟩ := hc j (by omega)
                have hji : (j : Int) < (n : Int) := by omega
                obtain ⟨g1, g2, g3, _⟩ := goodV_at HG.out j (by omega)
                have HRA := Hid.mk (rolled_at ts cols j (by omega))
                have HPT := Hid.mk (putAllV_take [] (rolled ts cols) j (by rw [rolled_length]; omega))
                have hml : m ≤ j := by have := putAllV_len ((rolled ts cols).take j) []; rw [List.length_take] at this; simp at this; omega
                have HGO : Hid (∀ i, i < m → (gat (putAllV [] ((rolled ts cols).take j)) i).1.length ≤ 6 ∧ InA 2000000000000000000 (gat (putAllV [] ((rolled ts cols).take j)) i).2) := fun i hi => by
                  have hme := gat_mem (show i < (putAllV [] ((rolled ts cols).take j)).length by omega)
                  exact ⟨putAllV_six (fun t ht => (HRM.out t (List.mem_of_mem_take ht)).1) _ hme, (take_in (by omega) (fun t ht => (HRM.out t ht).2.2) j 60 (by omega) _ hme).mono (by omega)⟩
                generalize gat ts j = Y at *
                obtain ⟨ys, x, y⟩ := Y
                simp only at hcx hwx hvx hat hm1 g1 g2 g3
                rw [HRA.out] at HPT
                have HPG := Hid.mk (pick_good g1 g2 HCO.out)
                have HG2 : Hid (colsOk cols ys.length = true) := by show _ = _; rw [g2]; exact HCO.out
                have HG3 := Hid.mk g3
                obtain ⟨m2, hmm⟩ : ∃ m, ys.length = m := ⟨_, rfl⟩
                rw [hmm] at hcx hm1
                have HM := Hid.mk hmm
                clear hc g1 g2 g3 hmm
                obtain ⟨V, hV⟩ : ∃ V, V = wr.alloc (.cells #[.slice q m2 dd, .int .i64 x, .int .i64 y] 73) := ⟨_, rfl⟩
                have hbV : Below wr.heap.size wr V := by rw [hV]; exact (Below.refl _ _).alloc (Nat.le_refl _) _
                have v0 : V.cell? ⟨wr.heap.size, 0, none⟩ = some (.slice q m2 dd) := by rw [hV]; exact trip0 wr _ _ _ _
                have v1 : V.cell? ⟨wr.heap.size, 1, none⟩ = some (.int .i64 x) := by rw [hV]; exact trip1 wr _ _ _ _
                have v2 : V.cell? ⟨wr.heap.size, 2, none⟩ = some (.int .i64 y) := by rw [hV]; exact trip2 wr _ _ _ _
                have B4 : Below w.heap.size w V := B3.trans (hbV.mono B3.size)
                have Y4 : Below w1.heap.size w1 V := hbw.trans (hbV.mono hbw.size)
                have HATV := Hid.mk (hat.below hbV).drew
                have HARV := Hid.mk (har.below hbV).drew
                have HCV := Hid.mk (ha'.below B4).drew
                have HML := Hid.mk hm
                have HF := Hid.mk hF
                go_wp2_with fail
                rw [← hV]
                clear hV hcx hwx hvx hat hbV har hm hF hbw B3 B4
                refine wp_region_held_drew (S := fun w' => w'.cell? ⟨wr.heap.size, 0, none⟩ = some (.slice q m2 dd) ∧ w'.cell? ⟨wr.heap.size, 1, none⟩ = some (.int .i64 x) ∧ w'.cell? ⟨wr.heap.size, 2, none⟩ = some (.int .i64 y)) (by kernel_rfl) ?_ (fun hHeld => ?_)
                · (try dsimp only)
                  exact ⟨v0, v1, v2⟩
                refine wpAnyH_take (i := 0) (oi := ?_) (v := ?_) ?_ (by kernel_rfl) (by kernel_rfl) (by kernel_rfl) ?_ (Or.inl ⟨?_, ?_⟩) (by assumption) ?_
                rotate_left 2
                · (simp only [List.getElem?_toArray, List.getElem?_cons_zero]; rfl)
                · exact fun _ _ _ h => h
                · rfl
                · (intro wS hSw; (try dsimp only at hSw); go_simp; (try with_reducible rfl))
                (try simp only [Act.put, List.setIfInBounds_toArray, List.set_cons_zero, List.set_cons_succ])
                refine wpAnyH_take (i := 1) (oi := ?_) (v := ?_) ?_ (by kernel_rfl) (by kernel_rfl) (by kernel_rfl) ?_ (Or.inl ⟨?_, ?_⟩) (by assumption) ?_
                rotate_left 2
                · (simp only [List.getElem?_toArray, List.getElem?_cons_zero, List.getElem?_cons_succ]; rfl)
                · exact fun _ _ _ h => h
                · rfl
                · (intro wS hSw; (try dsimp only at hSw); go_simp; (try with_reducible rfl))
                (try simp only [Act.put, List.setIfInBounds_toArray, List.set_cons_zero, List.set_cons_succ])
                refine wpAnyH_take (i := 2) (oi := ?_) (v := ?_) ?_ (by kernel_rfl) (by kernel_rfl) (by kernel_rfl) ?_ (Or.inl ⟨?_, ?_⟩) (by assumption) ?_
                rotate_left 2
                · (simp only [List.getElem?_toArray, List.getElem?_cons_zero, List.getElem?_cons_succ]; rfl)
                · exact fun _ _ _ h => h
                · rfl
                · (intro wS hSw; (try dsimp only at hSw); go_simp; (try with_reducible rfl))
                (try simp only [Act.put, List.setIfInBounds_toArray, List.set_cons_zero, List.set_cons_succ])
                refine wpAnyH_take (i := 3) (oi := ?_) (v := ?_) ?_ (by kernel_rfl) (by kernel_rfl) (by kernel_rfl) ?_ (Or.inl ⟨?_, ?_⟩) (by assumption) ?_
                rotate_left 2
                · (simp only [List.getElem?_toArray, List.getElem?_cons_zero, List.getElem?_cons_succ]; rfl)
                · exact fun _ _ _ h => h
                · rfl
                · (intro wS hSw; (try dsimp only at hSw); go_simp; (try with_reducible rfl))
                (try simp only [Act.put, List.setIfInBounds_toArray, List.set_cons_zero, List.set_cons_succ])
                refine wpAnyH_take (i := 5) (oi := ?_) (v := ?_) ?_ (by kernel_rfl) (by kernel_rfl) (by kernel_rfl) ?_ (Or.inl ⟨?_, ?_⟩) (by assumption) ?_
                rotate_left 2
                · (simp only [List.getElem?_toArray, List.getElem?_cons_zero, List.getElem?_cons_succ]; rfl)
                · exact fun _ _ _ h => h
                · rfl
                · (intro wS hSw; (try dsimp only at hSw); go_simp; (try with_reducible rfl))
                (try simp only [Act.put, List.setIfInBounds_toArray, List.set_cons_zero, List.set_cons_succ])
                refine wpAnyH_take (i := 6) (oi := ?_) (v := ?_) ?_ (by kernel_rfl) (by kernel_rfl) (by kernel_rfl) ?_ (Or.inl ⟨?_, ?_⟩) (by assumption) ?_
                rotate_left 2
                · (simp only [List.getElem?_toArray, List.getElem?_cons_zero, List.getElem?_cons_succ]; rfl)
                · exact fun _ _ _ h => h
                · rfl
                · (intro wS hSw; (try dsimp only at hSw); go_simp; (try with_reducible rfl))
                (try simp only [Act.put, List.setIfInBounds_toArray, List.set_cons_zero, List.set_cons_succ])
                refine wpAnyH_take (i := 7) (oi := ?_) (v := ?_) ?_ (by kernel_rfl) (by kernel_rfl) (by kernel_rfl) ?_ (Or.inl ⟨?_, ?_⟩) (by assumption) ?_
                rotate_left 2
                · (simp only [List.getElem?_toArray, List.getElem?_cons_zero, List.getElem?_cons_succ]; rfl)
                · exact fun _ _ _ h => h
                · rfl
                · (intro wS hSw; (try dsimp only at hSw); go_simp; (try with_reducible rfl))
                (try simp only [Act.put, List.setIfInBounds_toArray, List.set_cons_zero, List.set_cons_succ])
                refine wpAnyH_take (i := 8) (oi := ?_) (v := ?_) ?_ (by kernel_rfl) (by kernel_rfl) (by kernel_rfl) ?_ (Or.inl ⟨?_, ?_⟩) (by assumption) ?_
                rotate_left 2
                · (simp only [List.getElem?_toArray, List.getElem?_cons_zero, List.getElem?_cons_succ]; rfl)
                · exact fun _ _ _ h => h
                · rfl
                · (intro wS hSw; (try dsimp only at hSw); go_simp; (try with_reducible rfl))
                (try simp only [Act.put, List.setIfInBounds_toArray, List.set_cons_zero, List.set_cons_succ])
                refine wpAnyH_ready (rs := [4]) (by kernel_rfl) (by simp) ?_
                refine AllReadyH.cons (o := ?_) ?_ (fun K hK => ?_) AllReadyH.nil
                rotate_left
                · (simp only [List.getElem?_toArray, List.getElem?_cons_zero, List.getElem?_cons_succ]; rfl)
                go_simp
                go_at_call 41; refine (l1Pick_any _ _ _ _ _ _ ys cols _ HM.out hz' hm1 HATV.out HCV.out HG2.out).mono ?_; rintro e w4 ⟨r4, d4, rfl, ho4, hb4⟩; have i0 := cell_later (w := V.drew) hb4 v0; have i1 := cell_later (w := V.drew) hb4 v1; have i2 := cell_later (w := V.drew) hb4 v2; have HAR4 := Hid.mk (HARV.out.below hb4); have HO4 := Hid.mk ho4; have Y5 := Y4.drew.trans (hb4.mono Y4.size); clear ho4
                (try go_wp2_with fail)
                refine hK.out _ _ ?_ (fun hHeld' => ?_)
                · (try dsimp only)
                  exact ⟨i0, i1, i2⟩
                clear hK K hHeld
                have hHeld := hHeld'
                clear hHeld'
                (try simp only [Act.put, List.setIfInBounds_toArray, List.set_cons_zero, List.set_cons_succ])
                refine wpAnyH_take (i := 9) (oi := ?_) (v := ?_) ?_ (by kernel_rfl) (by kernel_rfl) (by kernel_rfl) ?_ (Or.inl ⟨?_, ?_⟩) (by assumption) ?_
                rotate_left 2
                · (simp only [List.getElem?_toArray, List.getElem?_cons_zero, List.getElem?_cons_succ]; rfl)
                · exact fun _ _ _ h => h
                · rfl
                · (intro wS hSw; (try dsimp only at hSw); go_simp; (try with_reducible rfl))
                (try simp only [Act.put, List.setIfInBounds_toArray, List.set_cons_zero, List.set_cons_succ])
                refine wpAnyH_ready (rs := [10]) (by kernel_rfl) (by simp) ?_
                refine AllReadyH.cons (o := ?_) ?_ (fun K hK => ?_) AllReadyH.nil
                rotate_left
                · (simp only [List.getElem?_toArray, List.getElem?_cons_zero, List.getElem?_cons_succ]; rfl)
                go_simp
                go_at_call 40; refine (l5Put_any _ _ _ _ _ _ (putAllV [] ((rolled ts cols).take j)) (pick ys cols) x y _ HML.out (by rw [HPG.out.2]; exact hz') (by omega) HF.out (by omega) (owns_nil HO4.out) HGO.out (HG3.out.mono (by omega)) HAR4.out (At.owned HO4.out)).mono ?_; rintro e w5 ⟨r5, m5, d5, rfl, hm5, hF5, ha5, hb5⟩; have j0 := cell_later hb5 i0; have j1 := cell_later hb5 i1; have j2 := cell_later hb5 i2
                (try go_wp2_with fail)
                refine hK.out _ _ ?_ (fun hHeld' => ?_)
                · (try dsimp only)
                  exact ⟨j0, j1, j2⟩
                clear hK K hHeld
                have hHeld := hHeld'
                clear hHeld'
                (try simp only [Act.put, List.setIfInBounds_toArray, List.set_cons_zero, List.set_cons_succ])
                refine wpAnyH_take (i := 11) (oi := ?_) (v := ?_) ?_ (by kernel_rfl) (by kernel_rfl) (by kernel_rfl) ?_ (Or.inl ⟨?_, ?_⟩) (by assumption) ?_
                rotate_left 2
                · (simp only [List.getElem?_toArray, List.getElem?_cons_zero, List.getElem?_cons_succ]; rfl)
                · exact fun _ _ _ h => h
                · rfl
                · (intro wS hSw; (try dsimp only at hSw); go_simp; (try with_reducible rfl))
                (try simp only [Act.put, List.setIfInBounds_toArray, List.set_cons_zero, List.set_cons_succ])
                refine wpAnyH_done (by kernel_rfl) ?_ _
                have HM5 : Hid ((putAllV [] ((rolled ts cols).take (j + 1))).length = m5) := by show _ = _; rw [HPT.out]; exact hm5
                have HF5 := Hid.mk hF5
                have HA5 : Hid (AtN w5 r5 (putAllV [] ((rolled ts cols).take (j + 1)))) := by show AtN _ _ _; rw [HPT.out]; exact ha5
                have HY5 := Hid.mk (Y5.trans (hb5.mono Y5.size))
                clear hm5 hF5 ha5 hb5 j0 j1 j2 i0 i1 i2 v0 v1 v2 hHeld HAR4 HARV HATV HCV HO4 Y4 Y5 hb4 HML HF HGO
                go_wp2
                go_roundw
                case rel => exact ⟨j + 1, _, _, _, by omega, by go_num, rfl, HM5.out, HF5.out, HA5.out, HY5.out⟩
                case measure => simp [intOf]; omega
              · obtain rfl : j = n := by omega
                have hall : (rolled ts cols).take j = rolled ts cols := List.take_of_length_le (by rw [rolled_length]; omega)
                rw [hall] at hm har
                have HM := Hid.mk (show (rollL ts cols).length = m from hm)
                have HAR := Hid.mk (show AtN wr r (rollL ts cols) from har)
                have hml : m ≤ 60 := by have := putAllV_len (rolled ts cols) []; rw [rolled_length] at this; simp at this; omega
                clear hall hm har
                go_wp2_with fail
                refine (l5Tell_any _ _ _ (rollL ts cols) _ HM.out (by omega) HAR.out).mono ?_
                rintro e w6 ⟨⟨r6, m6, d6, rfl, ho6⟩, hb6⟩
                obtain ⟨ok, hok6⟩ : ∃ ok, goodV (rollL ts cols) = ok := ⟨_, rfl⟩
                have HO6 := Hid.mk hok6
                rw [hok6] at ho6 ⊢
                clear hok6
                have z3 := B3.size
                go_wp2
                refine bodyPost_ret (v := .tuple #[.slice r6 m6 d6, .bool ok]) (by simp [results, Try.results20, go_sem]) rfl ⟨?_, B3.trans (hb6.mono B3.size)⟩
                rw [HRB.out, HO6.out]
                exact ⟨r6, m6, d6, rfl, ho6.widen z3 (Nat.le_refl _) (Nat.le_refl _)⟩

end Go.Proofs.Ytlfljfmhhnoinab

/- Contracts of impl.TotalsOf, spec.TotalsOf. -/
namespace Go.Proofs.Ytlfljfmhhnoinab
open Go.RowKit

/-- The totals that are told. -/
def totZ (ts : List GRow) : Amt := if totB ts then totalV ts else (0, 0)
theorem totZ_no {ts : List GRow} (h : totB ts = false) : totZ ts = (0, 0) := by simp [totZ, h]
theorem totZ_yes {ts : List GRow} (h : totB ts = true) : totZ ts = totalV ts := by simp [totZ, h]
set_option maxRecDepth 100000 in
set_option maxHeartbeats 4000000 in
theorem implTotalsOf (a : Option Addr) (n c : Nat) (ts : List GRow) (w : World) (hz : ts.length = n) (hn : n ≤ 1048576) (ha : AtV w a ts) :
    Calls Try.prog 22 #[.slice a n c] w fun e w' => e = .returned (.tuple #[.int .i64 (totZ ts).1, .int .i64 (totZ ts).2, .bool (totB ts)]) ∧ Below w.heap.size w w' := by
  have HR := Hid.mk (totB_roll ts)
  have HL := Hid.mk (rollL_nil ts)
  go_enter Try.func22, Try.ntmps22
  go_wp2_with fail
  refine (implRollUp _ _ _ _ _ _ ts [] _ hz hn rfl (by decide) ha (At.nil _ _)).mono ?_
  rintro e w1 ⟨⟨r, m, d, rfl, ho⟩, hb1⟩
  rw [HR.out] at ho ⊢
  rw [HL.out] at ho
  cases hB : totB ts with
  | false =>
    have HB := Hid.mk hB
    rw [hB] at ho
    obtain rfl : m = 0 := by have := ho.len; simpa [ansG] using this.symm
    clear hB ho
    go_wp2
    refine bodyPost_ret (v := .tuple #[.int .i64 0, .int .i64 0, .bool false]) (by simp [results, Try.results22, go_sem]) rfl ⟨?_, hb1⟩
    rw [totZ_no HB.out, HB.out]
  | true =>
    have HB := Hid.mk hB
    rw [hB] at ho
    clear hB
    by_cases h0 : totalV ts = (0, 0)
    · have H0 := Hid.mk h0
      obtain rfl : m = 0 := by have := ho.len; simpa [ansG, oneV, h0] using this.symm
      clear ho h0
      go_wp2
      refine bodyPost_ret (v := .tuple #[.int .i64 0, .int .i64 0, .bool true]) (by simp [results, Try.results22, go_sem]) rfl ⟨?_, hb1⟩
      rw [totZ_yes HB.out, H0.out, HB.out]
    · have hone : ansG true (oneV [] (totalV ts)) = [([], totalV ts)] := by simp [ansG, oneV, h0]
      rw [hone] at ho
      obtain rfl : m = 1 := by have := ho.len; simpa using this.symm
      have hat := ho.atV ⟨rfl, by simp [vtot]⟩
      obtain ⟨b, off, rfl, hc⟩ := hat.some (by simp)
      obtain ⟨q, d', _, hwx, hvx, _, _⟩ := hc 0 (by simp)
      obtain ⟨⟨t1, t2⟩, ht⟩ : ∃ t : Amt, t = totalV ts := ⟨_, rfl⟩
      have HT := Hid.mk ht
      rw [← ht] at hwx hvx
      have g1 : w1.cell? ⟨b, off + 1, none⟩ = some (.int .i64 t1) := by simpa using hwx
      have g2 : w1.cell? ⟨b, off + 2, none⟩ = some (.int .i64 t2) := by simpa using hvx
      clear hone ho hat hc hwx hvx ht h0
      go_wp2
      go_quiet (fail)
      go_wp2
      refine bodyPost_ret (v := .tuple #[.int .i64 t1, .int .i64 t2, .bool true]) (by simp [results, Try.results22, go_sem]) rfl ⟨?_, below_drewN hb1 _⟩
      rw [totZ_yes HB.out, ← HT.out, HB.out]

end Go.Proofs.Ytlfljfmhhnoinab
