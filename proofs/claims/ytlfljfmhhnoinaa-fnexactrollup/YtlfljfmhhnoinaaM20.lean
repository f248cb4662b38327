/- Several texts of one proof, in build order: RollY, LawRollUp. -/
import Derived.Test.YtlfljfmhhnoinaaM15
import Derived.Test.YtlfljfmhhnoinaaM19
import Derived.Test.YtlfljfmhhnoinaaM4
import Derived.Test.YtlfljfmhhnoinaaM8

/- Contract of spec.RollUp. -/
namespace Go.Proofs.Ytlfljfmhhnoinaa
open Go.RowKit

theorem colsUp_bad {cols : List Int} {ts : List GRow} (k : Nat) (hk : k < cols.length) (h : cols.getD k 0 < 0 ∨ (ts ≠ [] ∧ (keyN ts : Int) ≤ cols.getD k 0)) : colsUp cols ts = false := by
  cases hg : colsUp cols ts with
  | false => rfl
  | true =>
    simp only [colsUp, Bool.and_eq_true, decide_eq_true_eq, List.all_eq_true, Bool.or_eq_true] at hg
    have := hg.2 (cols[k]) (List.getElem_mem hk)
    simp only [List.getD, List.getElem?_eq_getElem hk, Option.getD_some] at h
    rcases h with h | ⟨h1, h2⟩
    · omega
    · rcases this.2 with h3 | h3
      · exact absurd h3 h1
      · omega
theorem colsUp_long {cols : List Int} {ts : List GRow} (h : 6 < cols.length) : colsUp cols ts = false := by
  have : decide (cols.length ≤ 6) = false := by simp; omega
  simp [colsUp, this]
theorem colsUp_all {cols : List Int} {ts : List GRow} (hl : cols.length ≤ 6) (h : ∀ k, k < cols.length → 0 ≤ cols.getD k 0 ∧ (ts ≠ [] → cols.getD k 0 < (keyN ts : Int))) : colsUp cols ts = true := by
  simp only [colsUp, Bool.and_eq_true, decide_eq_true_eq, List.all_eq_true, Bool.or_eq_true]
  refine ⟨hl, fun x hx => ?_⟩
  obtain ⟨k, hk, rfl⟩ := List.getElem_of_mem hx
  have := h k hk
  simp only [List.getD, List.getElem?_eq_getElem hk, Option.getD_some] at this
  refine ⟨this.1, ?_⟩
  by_cases e : ts = []
  · exact .inl e
  · exact .inr (this.2 e)

set_option maxRecDepth 100000 in
set_option maxHeartbeats 8000000 in
theorem specRollUp (a a' : Option Addr) (n n' c c' : Nat) (ts : List GRow) (cols : List Int) (w : World) (hz : ts.length = n) (hn : n ≤ 1048576) (hz' : cols.length = n') (hn' : n' ≤ 1048576) (ha : AtV w a ts) (ha' : At w a' cols) :
    Calls Try.prog 31 #[.slice a n c, .slice a' n' c'] w fun e w' => GrpRet e w' w.heap.size (rollB ts cols) (ansG (rollB ts cols) (rollL ts cols)) ∧ Below w.heap.size w w' := by
  by_cases h0 : n = 0
  · subst h0
    obtain rfl := List.eq_nil_of_length_eq_zero hz
    go_enter Try.func31, Try.ntmps31
    go_wp2
    go_loopw [23] (fun i wr => ∃ k : Nat, k ≤ n' ∧ i = .int .i64 k ∧ (∀ j, j < k → 0 ≤ cols.getD j 0) ∧ w = wr) (fun i _ => n' - (intOf i).toNat)
    case atStart => exact ⟨0, Nat.zero_le _, rfl, fun j hj => by omega, rfl⟩
    case round =>
      obtain ⟨k, hk, rfl, hall, rfl⟩ := hrel
      by_cases hlt : k < n'
      · obtain ⟨bc, oc, rfl, hbc, hcc⟩ := ha'.some (by omega)
        have hcx := hcc k (by omega)
        have hki : (k : Int) < (n' : Int) := by omega
        have HB : Hid (cols.getD k 0 < 0 → colsUp cols ([] : List GRow) = false) := fun h => colsUp_bad k (by omega) (.inl h)
        have HS : Hid (0 ≤ cols.getD k 0 → ∀ j, j < k + 1 → 0 ≤ cols.getD j 0) := fun h1 j hj => by
          by_cases e : j = k
          · subst e; exact h1
          · exact hall j (by omega)
        clear hall hcc
        obtain ⟨x, hx⟩ : ∃ x, x = cols.getD k 0 := ⟨_, rfl⟩
        rw [← hx] at hcx HB HS
        clear hx
        by_cases hlo : x < 0
        · go_wp2
          refine bodyPost_ret (v := .tuple #[.slice none 0 0, .bool false]) (by simp [results, Try.results31, go_sem]) rfl ⟨GrpRet.zero (rollB_cols (HB.out hlo)) rfl, Below.refl _ _⟩
        · go_wp2
          go_roundw
          case rel => exact ⟨k + 1, by omega, by go_num, HS.out (by omega), trivial⟩
          case measure => simp [intOf]; omega
      · obtain rfl : k = n' := by omega
        have HALL := Hid.mk hall
        clear hall
        cases hg : goodV ([] : List GRow) with
        | false =>
          have HG := Hid.mk hg
          clear hg
          go_wp2_with (go_at_call 10; refine (specGoodGroups_any _ _ _ ([] : List GRow) _ hz hn ha).mono ?_; rintro e w1 ⟨rfl, hb1⟩; rw [HG.out])
          refine bodyPost_ret (v := .tuple #[.slice none 0 0, .bool false]) (by simp [results, Try.results31, go_sem]) rfl ⟨GrpRet.zero (rollB_good HG.out) rfl, hb1⟩
        | true =>
          have HG := Hid.mk hg
          clear hg
          by_cases h6 : 6 < k
          · have h6' : (6 : Int) < (k : Int) := by omega
            go_wp2_with (go_at_call 10; refine (specGoodGroups_any _ _ _ ([] : List GRow) _ hz hn ha).mono ?_; rintro e w1 ⟨rfl, hb1⟩; rw [HG.out])
            refine bodyPost_ret (v := .tuple #[.slice none 0 0, .bool false]) (by simp [results, Try.results31, go_sem]) rfl ⟨GrpRet.zero (rollB_cols (colsUp_long (by omega))) rfl, hb1⟩
          · have h6' : decide ((6 : Int) < (k : Int)) = false := decide_eq_false (by omega)
            have HCU : Hid (colsUp cols ([] : List GRow) = true) := colsUp_all (by omega) (fun j hj => ⟨HALL.out j (by omega), fun h => absurd rfl h⟩)
            have HRB := Hid.mk (rollB_yes HG.out HCU.out)
            clear HALL
            go_wp2_with (go_at_call 10; refine (specGoodGroups_any _ _ _ ([] : List GRow) _ hz hn ha).mono ?_; rintro e w1 ⟨rfl, hb1⟩; rw [HG.out])
            refine wp_loop_rounds 1 ?_
            rw [rounds_succ]
            have B3 := hb1
            go_wp2_with fail
            refine (l5Tell_any _ _ _ (rollL ([] : List GRow) cols) _ rfl (Nat.zero_le _) (atN_nil _ _)).mono ?_
            rintro e w6 ⟨⟨r6, m6, d6, rfl, ho6⟩, hb6⟩
            obtain ⟨ok, hok6⟩ : ∃ ok, goodV (rollL ([] : List GRow) cols) = ok := ⟨_, rfl⟩
            have HO6 := Hid.mk hok6
            rw [hok6] at ho6 ⊢
            clear hok6
            have z3 := B3.size
            go_wp2
            refine bodyPost_ret (v := .tuple #[.slice r6 m6 d6, .bool ok]) (by simp [results, Try.results31, go_sem]) rfl ⟨?_, B3.trans (hb6.mono B3.size)⟩
            rw [HRB.out, HO6.out]
            exact ⟨r6, m6, d6, rfl, ho6.widen z3 (Nat.le_refl _) (Nat.le_refl _)⟩
  · have hnp : (0 : Int) < (n : Int) := by omega
    have hnp' : 0 < n := by omega
    have HNE : Hid (ts ≠ []) := fun e => h0 (by rw [← hz, e]; rfl)
    obtain ⟨b, off, rfl, hc⟩ := ha.some (by omega)
    obtain ⟨q0, d0, h0x, _, _, hm0, _⟩ := hc 0 (by omega)
    have h0x' : w.cell? ⟨b, off, none⟩ = some (.slice q0 (keyN ts) d0) := by simpa [keyN] using h0x
    obtain ⟨K, hK⟩ : ∃ K, keyN ts = K := ⟨_, rfl⟩
    rw [hK] at h0x'
    have HK := Hid.mk hK
    clear h0x hK hc hm0
    go_enter Try.func31, Try.ntmps31
    go_wp2
    go_loopw [23] (fun i wr => ∃ k : Nat, k ≤ n' ∧ i = .int .i64 k ∧ (∀ j, j < k → 0 ≤ cols.getD j 0 ∧ cols.getD j 0 < (K : Int)) ∧ w = wr) (fun i _ => n' - (intOf i).toNat)
    case atStart => exact ⟨0, Nat.zero_le _, rfl, fun j hj => by omega, rfl⟩
    case round =>
      obtain ⟨k, hk, rfl, hall, rfl⟩ := hrel
      by_cases hlt : k < n'
      · obtain ⟨bc, oc, rfl, hbc, hcc⟩ := ha'.some (by omega)
        have hcx := hcc k (by omega)
        have hki : (k : Int) < (n' : Int) := by omega
        have HB : Hid (cols.getD k 0 < 0 ∨ (K : Int) ≤ cols.getD k 0 → colsUp cols ts = false) := fun h => colsUp_bad k (by omega) (h.imp id (fun h => ⟨HNE.out, by rw [HK.out]; exact h⟩))
        have HS : Hid (0 ≤ cols.getD k 0 → cols.getD k 0 < (K : Int) → ∀ j, j < k + 1 → 0 ≤ cols.getD j 0 ∧ cols.getD j 0 < (K : Int)) := fun h1 h2 j hj => by
          by_cases e : j = k
          · subst e; exact ⟨h1, h2⟩
          · exact hall j (by omega)
        clear hall hcc
        obtain ⟨x, hx⟩ : ∃ x, x = cols.getD k 0 := ⟨_, rfl⟩
        rw [← hx] at hcx HB HS
        clear hx
        by_cases hlo : x < 0
        · go_wp2
          refine bodyPost_ret (v := .tuple #[.slice none 0 0, .bool false]) (by simp [results, Try.results31, go_sem]) rfl ⟨GrpRet.zero (rollB_cols (HB.out (.inl hlo))) rfl, Below.refl _ _⟩
        · by_cases hhi : (K : Int) ≤ x
          · go_wp2
            refine bodyPost_ret (v := .tuple #[.slice none 0 0, .bool false]) (by simp [results, Try.results31, go_sem]) rfl ⟨GrpRet.zero (rollB_cols (HB.out (.inr hhi))) rfl, Below.refl _ _⟩
          · go_wp2
            go_roundw
            case rel => exact ⟨k + 1, by omega, by go_num, HS.out (by omega) (by omega), trivial⟩
            case measure => simp [intOf]; omega
      · obtain rfl : k = n' := by omega
        have HALL := Hid.mk hall
        clear hall
        cases hg : goodV ts with
        | false =>
          have HG := Hid.mk hg
          clear hg
          go_wp2_with (go_at_call 10; refine (specGoodGroups_any _ _ _ ts _ hz hn ha).mono ?_; rintro e w1 ⟨rfl, hb1⟩; rw [HG.out])
          refine bodyPost_ret (v := .tuple #[.slice none 0 0, .bool false]) (by simp [results, Try.results31, go_sem]) rfl ⟨GrpRet.zero (rollB_good HG.out) rfl, hb1⟩
        | true =>
          have HG := Hid.mk hg
          clear hg
          by_cases h6 : 6 < k
          · have h6' : (6 : Int) < (k : Int) := by omega
            go_wp2_with (go_at_call 10; refine (specGoodGroups_any _ _ _ ts _ hz hn ha).mono ?_; rintro e w1 ⟨rfl, hb1⟩; rw [HG.out])
            refine bodyPost_ret (v := .tuple #[.slice none 0 0, .bool false]) (by simp [results, Try.results31, go_sem]) rfl ⟨GrpRet.zero (rollB_cols (colsUp_long (by omega))) rfl, hb1⟩
          · have h6' : decide ((6 : Int) < (k : Int)) = false := decide_eq_false (by omega)
            have HCU : Hid (colsUp cols ts = true) := colsUp_all (by omega) (fun j hj => ⟨(HALL.out j (by omega)).1, fun _ => by rw [HK.out]; exact (HALL.out j (by omega)).2⟩)
            have HRB := Hid.mk (rollB_yes HG.out HCU.out)
            clear HALL
            go_wp2_with (go_at_call 10; refine (specGoodGroups_any _ _ _ ts _ hz hn ha).mono ?_; rintro e w1 ⟨rfl, hb1⟩; rw [HG.out])
            have hn60 : n ≤ 60 := by have := (goodV_parts HG.out).1; omega
            have HCO : Hid (colsOk cols (keyN ts) = true) := colsUp_ok HCU.out HNE.out
            have HRM : Hid (∀ t ∈ rolled ts cols, good t.1 = true ∧ t.1.length = cols.length ∧ InA 100000000000000 t.2) := rolled_mem HG.out (fun _ => HCO.out)
            have B1 := hb1
            clear hb1 h0x'
            go_loopw [9, 50] (fun l i wr => ∃ (j : Nat) (r : Option Addr) (m d : Nat), j ≤ n ∧ i = .int .i64 j ∧ l = .slice r m d ∧ (putAllV [] ((rolled ts cols).take j)).length = m ∧ Formed r m d ∧ AtN wr r (putAllV [] ((rolled ts cols).take j)) ∧ Below w1.heap.size w1 wr) (fun _ i _ => n - (intOf i).toNat)
            case atStart => exact ⟨0, none, 0, 0, Nat.zero_le _, rfl, rfl, rfl, Formed.nil, atN_nil _ _, Below.refl _ _⟩
            case round =>
              obtain ⟨j, r, m, d, hj, rfl, rfl, hm, hF, har, hbw⟩ := hrel
              have B3 : Below w.heap.size w wr := B1.trans (hbw.mono B1.size)
              by_cases hjt : j < n
              · obtain ⟨b', off', he, hc⟩ := (ha.below B3).some (by omega)
                cases he
                obtain ⟨q, dd, hcx, hwx, hvx, hm1, hat⟩ := hc j (by omega)
                have hji : (j : Int) < (n : Int) := by omega
                obtain ⟨g1, g2, g3, _⟩ := goodV_at HG.out j (by omega)
                have HRA := Hid.mk (rolled_at ts cols j (by omega))
                have HPT := Hid.mk (putAllV_take [] (rolled ts cols) j (by rw [rolled_length]; omega))
                have hml : m ≤ j := by have := putAllV_len ((rolled ts cols).take j) []; rw [List.length_take] at this; simp at this; omega
                have HGO : Hid (∀ i, i < m → (gat (putAllV [] ((rolled ts cols).take j)) i).1.length ≤ 6 ∧ InA 2000000000000000000 (gat (putAllV [] ((rolled ts cols).take j)) i).2) := fun i hi => by
                  have hme := gat_mem (show i < (putAllV [] ((rolled ts cols).take j)).length by omega)
                  exact ⟨putAllV_six (fun t ht => (HRM.out t (List.mem_of_mem_take ht)).1) _ hme, (take_in (by omega) (fun t ht => (HRM.out t ht).2.2) j 60 (by omega) _ hme).mono (by omega)⟩
                generalize gat ts j = Y at *
                obtain ⟨ys, x, y⟩ := Y
                simp only at hcx hwx hvx hat hm1 g1 g2 g3
                rw [HRA.out] at HPT
                have HPG := Hid.mk (pick_good g1 g2 HCO.out)
                have HG2 : Hid (colsOk cols ys.length = true) := by show _ = _; rw [g2]; exact HCO.out
                have HG3 := Hid.mk g3
                obtain ⟨m2, hmm⟩ : ∃ m, ys.length = m := ⟨_, rfl⟩
                rw [hmm] at hcx hm1
                have HM := Hid.mk hmm
                clear hc g1 g2 g3 hmm
                obtain ⟨V, hV⟩ : ∃ V, V = wr.alloc (.cells #[.slice q m2 dd, .int .i64 x, .int .i64 y] 35) := ⟨_, rfl⟩
                have hbV : Below wr.heap.size wr V := by rw [hV]; exact (Below.refl _ _).alloc (Nat.le_refl _) _
                have v0 : V.cell? ⟨wr.heap.size, 0, none⟩ = some (.slice q m2 dd) := by rw [hV]; exact trip0 wr _ _ _ _
                have v1 : V.cell? ⟨wr.heap.size, 1, none⟩ = some (.int .i64 x) := by rw [hV]; exact trip1 wr _ _ _ _
                have v2 : V.cell? ⟨wr.heap.size, 2, none⟩ = some (.int .i64 y) := by rw [hV]; exact trip2 wr _ _ _ _
                have B4 : Below w.heap.size w V := B3.trans (hbV.mono B3.size)
                have Y4 : Below w1.heap.size w1 V := hbw.trans (hbV.mono hbw.size)
                have HATV := Hid.mk (hat.below hbV).drew
                have HARV := Hid.mk (har.below hbV).drew
                have HCV := Hid.mk (ha'.below B4).drew
                have HML := Hid.mk hm
                have HF := Hid.mk hF
                go_wp2_with fail
                rw [← hV]
                clear hV hcx hwx hvx hat hbV har hm hF hbw B3 B4
                refine wp_region_held_drew (S := fun w' => w'.cell? ⟨wr.heap.size, 0, none⟩ = some (.slice q m2 dd) ∧ w'.cell? ⟨wr.heap.size, 1, none⟩ = some (.int .i64 x) ∧ w'.cell? ⟨wr.heap.size, 2, none⟩ = some (.int .i64 y)) (by kernel_rfl) ?_ (fun hHeld => ?_)
                · (try dsimp only)
                  exact ⟨v0, v1, v2⟩
                refine wpAnyH_take (i := 0) (oi := ?_) (v := ?_) ?_ (by kernel_rfl) (by kernel_rfl) (by kernel_rfl) ?_ (Or.inl ⟨?_, ?_⟩) (by assumption) ?_
                rotate_left 2
                · (simp only [List.getElem?_toArray, List.getElem?_cons_zero]; rfl)
                · exact fun _ _ _ h => h
                · rfl
                · (intro wS hSw; (try dsimp only at hSw); go_simp; (try with_reducible rfl))
                (try simp only [Act.put, List.setIfInBounds_toArray, List.set_cons_zero, List.set_cons_succ])
                refine wpAnyH_take (i := 1) (oi := ?_) (v := ?_) ?_ (by kernel_rfl) (by kernel_rfl) (by kernel_rfl) ?_ (Or.inl ⟨?_, ?_⟩) (by assumption) ?_
                rotate_left 2
                · (simp only [List.getElem?_toArray, List.getElem?_cons_zero, List.getElem?_cons_succ]; rfl)
                · exact fun _ _ _ h => h
                · rfl
                · (intro wS hSw; (try dsimp only at hSw); go_simp; (try with_reducible rfl))
                (try simp only [Act.put, List.setIfInBounds_toArray, List.set_cons_zero, List.set_cons_succ])
                refine wpAnyH_take (i := 2) (oi := ?_) (v := ?_) ?_ (by kernel_rfl) (by kernel_rfl) (by kernel_rfl) ?_ (Or.inl ⟨?_, ?_⟩) (by assumption) ?_
                rotate_left 2
                · (simp only [List.getElem?_toArray, List.getElem?_cons_zero, List.getElem?_cons_succ]; rfl)
                · exact fun _ _ _ h => h
                · rfl
                · (intro wS hSw; (try dsimp only at hSw); go_simp; (try with_reducible rfl))
                (try simp only [Act.put, List.setIfInBounds_toArray, List.set_cons_zero, List.set_cons_succ])
                refine wpAnyH_take (i := 3) (oi := ?_) (v := ?_) ?_ (by kernel_rfl) (by kernel_rfl) (by kernel_rfl) ?_ (Or.inl ⟨?_, ?_⟩) (by assumption) ?_
                rotate_left 2
                · (simp only [List.getElem?_toArray, List.getElem?_cons_zero, List.getElem?_cons_succ]; rfl)
                · exact fun _ _ _ h => h
                · rfl
                · (intro wS hSw; (try dsimp only at hSw); go_simp; (try with_reducible rfl))
                (try simp only [Act.put, List.setIfInBounds_toArray, List.set_cons_zero, List.set_cons_succ])
                refine wpAnyH_take (i := 5) (oi := ?_) (v := ?_) ?_ (by kernel_rfl) (by kernel_rfl) (by kernel_rfl) ?_ (Or.inl ⟨?_, ?_⟩) (by assumption) ?_
                rotate_left 2
                · (simp only [List.getElem?_toArray, List.getElem?_cons_zero, List.getElem?_cons_succ]; rfl)
                · exact fun _ _ _ h => h
                · rfl
                · (intro wS hSw; (try dsimp only at hSw); go_simp; (try with_reducible rfl))
                (try simp only [Act.put, List.setIfInBounds_toArray, List.set_cons_zero, List.set_cons_succ])
                refine wpAnyH_take (i := 6) (oi := ?_) (v := ?_) ?_ (by kernel_rfl) (by kernel_rfl) (by kernel_rfl) ?_ (Or.inl ⟨?_, ?_⟩) (by assumption) ?_
                rotate_left 2
                · (simp only [List.getElem?_toArray, List.getElem?_cons_zero, List.getElem?_cons_succ]; rfl)
                · exact fun _ _ _ h => h
                · rfl
                · (intro wS hSw; (try dsimp only at hSw); go_simp; (try with_reducible rfl))
                (try simp only [Act.put, List.setIfInBounds_toArray, List.set_cons_zero, List.set_cons_succ])
                refine wpAnyH_take (i := 7) (oi := ?_) (v := ?_) ?_ (by kernel_rfl) (by kernel_rfl) (by kernel_rfl) ?_ (Or.inl ⟨?_, ?_⟩) (by assumption) ?_
                rotate_left 2
                · (simp only [List.getElem?_toArray, List.getElem?_cons_zero, List.getElem?_cons_succ]; rfl)
                · exact fun _ _ _ h => h
                · rfl
                · (intro wS hSw; (try dsimp only at hSw); go_simp; (try with_reducible rfl))
                (try simp only [Act.put, List.setIfInBounds_toArray, List.set_cons_zero, List.set_cons_succ])
                refine wpAnyH_take (i := 8) (oi := ?_) (v := ?_) ?_ (by kernel_rfl) (by kernel_rfl) (by kernel_rfl) ?_ (Or.inl ⟨?_, ?_⟩) (by assumption) ?_
                rotate_left 2
                · (simp only [List.getElem?_toArray, List.getElem?_cons_zero, List.getElem?_cons_succ]; rfl)
                · exact fun _ _ _ h => h
                · rfl
                · (intro wS hSw; (try dsimp only at hSw); go_simp; (try with_reducible rfl))
                (try simp only [Act.put, List.setIfInBounds_toArray, List.set_cons_zero, List.set_cons_succ])
                refine wpAnyH_ready (rs := [4]) (by kernel_rfl) (by simp) ?_
                refine AllReadyH.cons (o := ?_) ?_ (fun K hK => ?_) AllReadyH.nil
                rotate_left
                · (simp only [List.getElem?_toArray, List.getElem?_cons_zero, List.getElem?_cons_succ]; rfl)
                go_simp
                go_at_call 60; refine (l1Pick_any _ _ _ _ _ _ ys cols _ HM.out hz' hm1 HATV.out HCV.out HG2.out).mono ?_; rintro e w4 ⟨r4, d4, rfl, ho4, hb4⟩; have i0 := cell_later (w := V.drew) hb4 v0; have i1 := cell_later (w := V.drew) hb4 v1; have i2 := cell_later (w := V.drew) hb4 v2; have HAR4 := Hid.mk (HARV.out.below hb4); have HO4 := Hid.mk ho4; have Y5 := Y4.drew.trans (hb4.mono Y4.size); clear ho4
                (try go_wp2_with fail)
                refine hK.out _ _ ?_ (fun hHeld' => ?_)
                · (try dsimp only)
                  exact ⟨i0, i1, i2⟩
                clear hK K hHeld
                have hHeld := hHeld'
                clear hHeld'
                (try simp only [Act.put, List.setIfInBounds_toArray, List.set_cons_zero, List.set_cons_succ])
                refine wpAnyH_take (i := 9) (oi := ?_) (v := ?_) ?_ (by kernel_rfl) (by kernel_rfl) (by kernel_rfl) ?_ (Or.inl ⟨?_, ?_⟩) (by assumption) ?_
                rotate_left 2
                · (simp only [List.getElem?_toArray, List.getElem?_cons_zero, List.getElem?_cons_succ]; rfl)
                · exact fun _ _ _ h => h
                · rfl
                · (intro wS hSw; (try dsimp only at hSw); go_simp; (try with_reducible rfl))
                (try simp only [Act.put, List.setIfInBounds_toArray, List.set_cons_zero, List.set_cons_succ])
                refine wpAnyH_ready (rs := [10]) (by kernel_rfl) (by simp) ?_
                refine AllReadyH.cons (o := ?_) ?_ (fun K hK => ?_) AllReadyH.nil
                rotate_left
                · (simp only [List.getElem?_toArray, List.getElem?_cons_zero, List.getElem?_cons_succ]; rfl)
                go_simp
                go_at_call 59; refine (l5Put_any _ _ _ _ _ _ (putAllV [] ((rolled ts cols).take j)) (pick ys cols) x y _ HML.out (by rw [HPG.out.2]; exact hz') (by omega) HF.out (by omega) (owns_nil HO4.out) HGO.out (HG3.out.mono (by omega)) HAR4.out (At.owned HO4.out)).mono ?_; rintro e w5 ⟨r5, m5, d5, rfl, hm5, hF5, ha5, hb5⟩; have j0 := cell_later hb5 i0; have j1 := cell_later hb5 i1; have j2 := cell_later hb5 i2
                (try go_wp2_with fail)
                refine hK.out _ _ ?_ (fun hHeld' => ?_)
                · (try dsimp only)
                  exact ⟨j0, j1, j2⟩
                clear hK K hHeld
                have hHeld := hHeld'
                clear hHeld'
                (try simp only [Act.put, List.setIfInBounds_toArray, List.set_cons_zero, List.set_cons_succ])
                refine wpAnyH_take (i := 11) (oi := ?_) (v := ?_) ?_ (by kernel_rfl) (by kernel_rfl) (by kernel_rfl) ?_ (Or.inl ⟨?_, ?_⟩) (by assumption) ?_
                rotate_left 2
                · (simp only [List.getElem?_toArray, List.getElem?_cons_zero, List.getElem?_cons_succ]; rfl)
                · exact fun _ _ _ h => h
                · rfl
                · (intro wS hSw; (try dsimp only at hSw); go_simp; (try with_reducible rfl))
                (try simp only [Act.put, List.setIfInBounds_toArray, List.set_cons_zero, List.set_cons_succ])
                refine wpAnyH_done (by kernel_rfl) ?_ _
                have HM5 : Hid ((putAllV [] ((rolled ts cols).take (j + 1))).length = m5) := by show _ = _; rw [HPT.out]; exact hm5
                have HF5 := Hid.mk hF5
                have HA5 : Hid (AtN w5 r5 (putAllV [] ((rolled ts cols).take (j + 1)))) := by show AtN _ _ _; rw [HPT.out]; exact ha5
                have HY5 := Hid.mk (Y5.trans (hb5.mono Y5.size))
                clear hm5 hF5 ha5 hb5 j0 j1 j2 i0 i1 i2 v0 v1 v2 hHeld HAR4 HARV HATV HCV HO4 Y4 Y5 hb4 HML HF HGO
                go_wp2
                go_roundw
                case rel => exact ⟨j + 1, _, _, _, by omega, by go_num, rfl, HM5.out, HF5.out, HA5.out, HY5.out⟩
                case measure => simp [intOf]; omega
              · obtain rfl : j = n := by omega
                have hall : (rolled ts cols).take j = rolled ts cols := List.take_of_length_le (by rw [rolled_length]; omega)
                rw [hall] at hm har
                have HM := Hid.mk (show (rollL ts cols).length = m from hm)
                have HAR := Hid.mk (show AtN wr r (rollL ts cols) from har)
                have hml : m ≤ 60 := by have := putAllV_len (rolled ts cols) []; rw [rolled_length] at this; simp at this; omega
                clear hall hm har
                go_wp2_with fail
                refine (l5Tell_any _ _ _ (rollL ts cols) _ HM.out (by omega) HAR.out).mono ?_
                rintro e w6 ⟨⟨r6, m6, d6, rfl, ho6⟩, hb6⟩
                obtain ⟨ok, hok6⟩ : ∃ ok, goodV (rollL ts cols) = ok := ⟨_, rfl⟩
                have HO6 := Hid.mk hok6
                rw [hok6] at ho6 ⊢
                clear hok6
                have z3 := B3.size
                go_wp2
                refine bodyPost_ret (v := .tuple #[.slice r6 m6 d6, .bool ok]) (by simp [results, Try.results31, go_sem]) rfl ⟨?_, B3.trans (hb6.mono B3.size)⟩
                rw [HRB.out, HO6.out]
                exact ⟨r6, m6, d6, rfl, ho6.widen z3 (Nat.le_refl _) (Nat.le_refl _)⟩

end Go.Proofs.Ytlfljfmhhnoinaa

/- The law FnExactRollUp returns true at every input, and writes nothing that was there. -/
namespace Go.Proofs.Ytlfljfmhhnoinaa
open Go.RowKit

set_option maxRecDepth 100000 in
set_option maxHeartbeats 16000000 in
theorem lawRollUp (a0 : Option Addr) (n0 c0 : Nat) (z0 : List GRow) (a1 : Option Addr) (n1 c1 : Nat) (z1 : List Int) (w : World) (hz0 : z0.length = n0) (hn0 : n0 ≤ 9223372036854775807) (ha0 : AtV w a0 z0) (hz1 : z1.length = n1) (hn1 : n1 ≤ 9223372036854775807) (ha1 : At w a1 z1) :
    Calls Try.prog 7 #[.slice a0 n0 c0, .slice a1 n1 c1] w fun e w' => e = .returned (.bool true) ∧ Below w.heap.size w w' := by
  have B0 : Below w.heap.size w w := Below.refl _ _
  by_cases big1 : 1048576 < n1
  · have big1' : (1048576 : Int) < (n1 : Int) := by omega
    go_enter Try.func7, Try.ntmps7
    go_wp2
    go_ret
    exact ⟨rfl, B0⟩
  have hb1' : ¬ (1048576 : Int) < (n1 : Int) := by omega
  have hs1 : SmI z1 n1 := ⟨hz1, by omega⟩
  by_cases big0 : (1048576 : Int) < (vtot z0 n0 : Nat)
  · go_enter Try.func7, Try.ntmps7
    go_wp2_with fail
    refine (szGroupS_any _ _ _ z0 _ _ hz0 hn0 (by omega) (by omega) (ha0.below B0)).mono ?_
    rintro e v0 ⟨rfl, hv0⟩
    rw [leftOf_no big0]
    have y0 := B0.trans (hv0.mono B0.size)
    go_wp2
    go_ret
    exact ⟨rfl, y0⟩
  have hl0 : ¬ (1048576 : Int) - (vtot z0 n0 : Nat) < 0 := by omega
  have hs0 : SmV z0 n0 := ⟨hz0, by omega⟩
  have hx0 := hs0.n
  have hx1 := hs1.n
  have hk0 := hs0.mk'
  obtain ⟨ok, ta, hsA, HS, HI⟩ : ∃ (ok : Bool) (ta : List GRow), SmV ta ta.length ∧ Hid (∀ (x0 : Option Addr) (y0 lo0 hi0 : Nat) (x1 : Option Addr) (y1 lo1 hi1 : Nat) (w : World), OwnGr w lo0 hi0 x0 n0 y0 z0 → OwnI w lo1 hi1 x1 n1 y1 z1 → Calls Try.prog 31 #[.slice x0 n0 y0, .slice x1 n1 y1] w fun e w' => GrpRet e w' w.heap.size ok ta ∧ Below w.heap.size w w') ∧ Hid (∀ (x0 : Option Addr) (y0 lo0 hi0 : Nat) (x1 : Option Addr) (y1 lo1 hi1 : Nat) (w : World), OwnGr w lo0 hi0 x0 n0 y0 z0 → OwnI w lo1 hi1 x1 n1 y1 z1 → Calls Try.prog 33 #[.slice x0 n0 y0, .slice x1 n1 y1] w fun e w' => GrpRet e w' w.heap.size ok ta ∧ Below w.heap.size w w') := ⟨rollB z0 z1, ansG (rollB z0 z1) (rollL z0 z1), goodV_of_ok rollB_goodV, fun x0 y0 lo0 hi0 x1 y1 lo1 hi1 w o0 o1 => specRollUp x0 x1 n0 n1 y0 y1 z0 z1 w hs0.1 hs0.n hs1.1 hs1.n (o0.atV hs0) (o1.at hs1), fun x0 y0 lo0 hi0 x1 y1 lo1 hi1 w o0 o1 => implRollUp x0 x1 n0 n1 y0 y1 z0 z1 w hs0.1 hs0.n hs1.1 (by have := hs1.n; omega) (o0.atV hs0) (o1.at hs1)⟩
  obtain ⟨na, hna⟩ : ∃ na, ta.length = na := ⟨_, rfl⟩
  rw [hna] at hsA
  have hxA := hsA.n
  have HNA := Hid.mk hna
  clear hna
  have hwA := hsA.2
  have hkA := hsA.mk'
  go_enter Try.func7, Try.ntmps7
  go_wp2_with fail
  refine (szGroupS_any _ _ _ z0 _ _ hz0 hn0 (by omega) (by omega) (ha0.below B0)).mono ?_
  rintro e w1 ⟨rfl, hb1⟩
  rw [leftOf_yes (by omega)]
  have B_1 := B0.trans (hb1.mono B0.size)
  have zz1 : w.heap.size ≤ w1.heap.size := by have q := hb1.size; first | exact q | simpa using q
  clear hb1
  go_wp2_with fail
  refine (toGroupSG _ _ _ z0 _ hs0 (ha0.below B_1)).mono ?_
  rintro e w2 ⟨g2, rfl, ho2, hb2⟩
  have B_2 := B_1.trans (hb2.mono B_1.size)
  have zz2 : w1.heap.size ≤ w2.heap.size := by have q := hb2.size; first | exact q | simpa using q
  clear B_1
  clear hb2
  go_wp2_with fail
  refine (toIntSG _ _ _ z1 _ hs1 (ha1.below B_2)).mono ?_
  rintro e w3 ⟨g3, rfl, ho3, hb3⟩
  have t0_3 := ho2.below hb3
  have B_3 := B_2.trans (hb3.mono B_2.size)
  have zz3 : w2.heap.size ≤ w3.heap.size := by have q := hb3.size; first | exact q | simpa using q
  clear ho2 B_2
  clear hb3
  go_wp2_with fail
  refine (HS.out _ _ _ _ _ _ _ _ _ t0_3 ho3).mono ?_
  rintro e w4 ⟨⟨r4, m4, d4, rfl, ho4⟩, hb4⟩
  have t0_4 := t0_3.below hb4
  have t1_4 := ho3.below hb4
  have B_4 := B_3.trans (hb4.mono B_3.size)
  have zz4 : w3.heap.size ≤ w4.heap.size := by have q := hb4.size; first | exact q | simpa using q
  clear t0_3 ho3 B_3
  clear hb4
  clear t0_4
  clear t1_4
  have ow4 : OwnGr w4 (w3.heap.size) w4.heap.size r4 m4 d4 ta := by first | exact ho4 | simpa using ho4
  obtain rfl : na = m4 := HNA.out.symm.trans ow4.len
  clear ho4
  go_wp2_with fail
  refine (toGroupSG _ _ _ z0 _ hs0 (ha0.below B_4)).mono ?_
  rintro e w5 ⟨g5, rfl, ho5, hb5⟩
  have o_5 := ow4.below hb5
  have B_5 := B_4.trans (hb5.mono B_4.size)
  have zz5 : w4.heap.size ≤ w5.heap.size := by have q := hb5.size; first | exact q | simpa using q
  clear ow4 B_4
  clear hb5
  have ox5 : OwnGr w5 (w4.heap.size) w5.heap.size (some ⟨g5, 0, none⟩) n0 n0 z0 := by first | exact ho5 | simpa using ho5
  clear ho5
  go_wp2_with fail
  refine (toIntSG _ _ _ z1 _ hs1 (ha1.below B_5)).mono ?_
  rintro e w6 ⟨g6, rfl, ho6, hb6⟩
  have o_6 := o_5.below hb6
  have x0_6 := ox5.below hb6
  have B_6 := B_5.trans (hb6.mono B_5.size)
  have zz6 : w5.heap.size ≤ w6.heap.size := by have q := hb6.size; first | exact q | simpa using q
  clear o_5 ox5 B_5
  clear hb6
  have ox6 : OwnI w6 (w5.heap.size) w6.heap.size (some ⟨g6, 0, none⟩) n1 n1 z1 := by first | exact ho6 | simpa using ho6
  clear ho6
  go_wp2_with fail
  refine (HI.out _ _ _ _ _ _ _ _ _ x0_6 ox6).mono ?_
  rintro e w7 ⟨⟨r7, m7, d7, rfl, ho7⟩, hb7⟩
  have o_7 := o_6.below hb7
  have x0_7 := x0_6.below hb7
  have x1_7 := ox6.below hb7
  have B_7 := B_6.trans (hb7.mono B_6.size)
  have zz7 : w6.heap.size ≤ w7.heap.size := by have q := hb7.size; first | exact q | simpa using q
  clear o_6 x0_6 ox6 B_6
  clear hb7
  have ow7 : OwnGr w7 (w6.heap.size) w7.heap.size r7 m7 d7 ta := by first | exact ho7 | simpa using ho7
  obtain rfl : na = m7 := HNA.out.symm.trans ow7.len
  clear ho7
  go_wp2_with fail
  refine (eqGroupSG _ _ _ _ _ ta _ hsA (ow7.atV hsA) (o_7.atV hsA)).mono ?_
  rintro e w8 ⟨rfl, hb8⟩
  have o_8 := o_7.below hb8
  have x0_8 := x0_7.below hb8
  have x1_8 := x1_7.below hb8
  have g_8 := ow7.below hb8
  have B_8 := B_7.trans (hb8.mono B_7.size)
  have zz8 : w7.heap.size ≤ w8.heap.size := by have q := hb8.size; first | exact q | simpa using q
  clear o_7 x0_7 x1_7 ow7 B_7
  clear hb8
  go_wp2_with fail
  refine (toGroupSG _ _ _ z0 _ hs0 (ha0.below B_8)).mono ?_
  rintro e w9 ⟨g9, rfl, ho9, hb9⟩
  have o_9 := o_8.below hb9
  have x0_9 := x0_8.below hb9
  have x1_9 := x1_8.below hb9
  have g_9 := g_8.below hb9
  have B_9 := B_8.trans (hb9.mono B_8.size)
  have zz9 : w8.heap.size ≤ w9.heap.size := by have q := hb9.size; first | exact q | simpa using q
  clear o_8 x0_8 x1_8 g_8 B_8
  clear hb9
  go_wp2_with fail
  refine (eqGroupSG _ _ _ _ _ z0 _ hs0 (x0_9.atV hs0) (ho9.atV hs0)).mono ?_
  rintro e w10 ⟨rfl, hb10⟩
  have o_10 := o_9.below hb10
  have x0_10 := x0_9.below hb10
  have x1_10 := x1_9.below hb10
  have g_10 := g_9.below hb10
  have y_10 := ho9.below hb10
  have B_10 := B_9.trans (hb10.mono B_9.size)
  have zz10 : w9.heap.size ≤ w10.heap.size := by have q := hb10.size; first | exact q | simpa using q
  clear o_9 x0_9 x1_9 g_9 ho9 B_9
  clear hb10
  clear y_10
  go_wp2_with fail
  refine (toIntSG _ _ _ z1 _ hs1 (ha1.below B_10)).mono ?_
  rintro e w11 ⟨g11, rfl, ho11, hb11⟩
  have o_11 := o_10.below hb11
  have x0_11 := x0_10.below hb11
  have x1_11 := x1_10.below hb11
  have g_11 := g_10.below hb11
  have B_11 := B_10.trans (hb11.mono B_10.size)
  have zz11 : w10.heap.size ≤ w11.heap.size := by have q := hb11.size; first | exact q | simpa using q
  clear o_10 x0_10 x1_10 g_10 B_10
  clear hb11
  go_wp2_with fail
  refine (eqIntSG _ _ _ _ _ z1 _ hs1 (x1_11.at hs1) (ho11.at hs1)).mono ?_
  rintro e w12 ⟨rfl, hb12⟩
  have o_12 := o_11.below hb12
  have x0_12 := x0_11.below hb12
  have x1_12 := x1_11.below hb12
  have g_12 := g_11.below hb12
  have y_12 := ho11.below hb12
  have B_12 := B_11.trans (hb12.mono B_11.size)
  have zz12 : w11.heap.size ≤ w12.heap.size := by have q := hb12.size; first | exact q | simpa using q
  clear o_11 x0_11 x1_11 g_11 ho11 B_11
  clear hb12
  clear y_12
  go_wp2_with fail
  refine (markGroupSG _ _ _ _ _ z0 _ _ hs0 (by omega) (by omega) x0_12).mono ?_
  rintro e w13 ⟨rfl, ho13, ha13⟩
  have o_13 := o_12.apartW ha13 (by omega)
  have x1_13 := x1_12.apartW ha13 (by omega)
  have g_13 := g_12.apartW ha13 (by omega)
  have B_13 := B_12.trans (ha13.below B_12.size (by omega))
  have zz13 : w12.heap.size ≤ w13.heap.size := by have q := ha13.size; first | exact q | simpa using q
  clear ha13 o_12 x0_12 x1_12 g_12 B_12
  go_wp2_with fail
  refine (markIntSG _ _ _ _ _ z1 _ _ hs1 (by omega) (by omega) x1_13).mono ?_
  rintro e w14 ⟨rfl, ho14, ha14⟩
  have o_14 := o_13.apartW ha14 (by omega)
  have x0_14 := ho13.apartW ha14 (by omega)
  have g_14 := g_13.apartW ha14 (by omega)
  have B_14 := B_13.trans (ha14.below B_13.size (by omega))
  have zz14 : w13.heap.size ≤ w14.heap.size := by have q := ha14.size; first | exact q | simpa using q
  clear ha14 o_13 ho13 x1_13 g_13 B_13
  have kpos : ¬ (1 : Int) + (vmk z0 n0 : Nat) + n1 < 0 := by omega
  go_wp2_with fail
  refine (eqGroupSG _ _ _ _ _ ta _ hsA (g_14.atV hsA) (o_14.atV hsA)).mono ?_
  rintro e w15 ⟨rfl, hb15⟩
  have o_15 := o_14.below hb15
  have x0_15 := x0_14.below hb15
  have x1_15 := ho14.below hb15
  have g_15 := g_14.below hb15
  have B_15 := B_14.trans (hb15.mono B_14.size)
  have zz15 : w14.heap.size ≤ w15.heap.size := by have q := hb15.size; first | exact q | simpa using q
  clear o_14 x0_14 ho14 g_14 B_14
  clear hb15
  clear x0_15
  clear x1_15
  go_wp2_with fail
  refine (markGroupSG _ _ _ _ _ ta _ _ hsA (by omega) (by omega) g_15).mono ?_
  rintro e w16 ⟨rfl, ho16, ha16⟩
  have o_16 := o_15.apartW ha16 (by omega)
  have B_16 := B_15.trans (ha16.below B_15.size (by omega))
  have zz16 : w15.heap.size ≤ w16.heap.size := by have q := ha16.size; first | exact q | simpa using q
  clear ha16 o_15 g_15 B_15
  have gpos : ¬ (1 : Int) + (vmk ta na : Nat) < 0 := by omega
  go_wp2_with fail
  refine (heldGroupSG _ _ _ ta _ _ hsA (by omega) (by omega) (ho16.atMark hsA)).mono ?_
  rintro e w17 ⟨rfl, hb17⟩
  have o_17 := o_16.below hb17
  have g_17 := ho16.below hb17
  have B_17 := B_16.trans (hb17.mono B_16.size)
  have zz17 : w16.heap.size ≤ w17.heap.size := by have q := hb17.size; first | exact q | simpa using q
  clear o_16 ho16 B_16
  clear hb17
  go_wp2_with fail
  refine (toGroupSG _ _ _ z0 _ hs0 (ha0.below B_17)).mono ?_
  rintro e w18 ⟨g18, rfl, ho18, hb18⟩
  have o_18 := o_17.below hb18
  have g_18 := g_17.below hb18
  have B_18 := B_17.trans (hb18.mono B_17.size)
  have zz18 : w17.heap.size ≤ w18.heap.size := by have q := hb18.size; first | exact q | simpa using q
  clear o_17 g_17 B_17
  clear hb18
  go_wp2_with fail
  refine (toIntSG _ _ _ z1 _ hs1 (ha1.below B_18)).mono ?_
  rintro e w19 ⟨g19, rfl, ho19, hb19⟩
  have o_19 := o_18.below hb19
  have g_19 := g_18.below hb19
  have h0_19 := ho18.below hb19
  have B_19 := B_18.trans (hb19.mono B_18.size)
  have zz19 : w18.heap.size ≤ w19.heap.size := by have q := hb19.size; first | exact q | simpa using q
  clear o_18 g_18 ho18 B_18
  clear hb19
  go_wp2_with fail
  refine (HI.out _ _ _ _ _ _ _ _ _ h0_19 ho19).mono ?_
  rintro e w20 ⟨⟨r20, m20, d20, rfl, ho20⟩, hb20⟩
  have o_20 := o_19.below hb20
  have g_20 := g_19.below hb20
  have h0_20 := h0_19.below hb20
  have h1_20 := ho19.below hb20
  have B_20 := B_19.trans (hb20.mono B_19.size)
  have zz20 : w19.heap.size ≤ w20.heap.size := by have q := hb20.size; first | exact q | simpa using q
  clear o_19 g_19 h0_19 ho19 B_19
  clear hb20
  clear h0_20
  clear h1_20
  have ow20 : OwnGr w20 (w19.heap.size) w20.heap.size r20 m20 d20 ta := by first | exact ho20 | simpa using ho20
  obtain rfl : na = m20 := HNA.out.symm.trans ow20.len
  clear ho20
  go_wp2_with fail
  refine (eqGroupSG _ _ _ _ _ ta _ hsA (ow20.atV hsA) (o_20.atV hsA)).mono ?_
  rintro e w21 ⟨rfl, hb21⟩
  have o_21 := o_20.below hb21
  have g_21 := g_20.below hb21
  have hg_21 := ow20.below hb21
  have B_21 := B_20.trans (hb21.mono B_20.size)
  have zz21 : w20.heap.size ≤ w21.heap.size := by have q := hb21.size; first | exact q | simpa using q
  clear o_20 g_20 ow20 B_20
  clear hb21
  go_wp2_with fail
  refine (heldGroupSG _ _ _ ta _ _ hsA (by omega) (by omega) (g_21.atMark hsA)).mono ?_
  rintro e w22 ⟨rfl, hb22⟩
  have o_22 := o_21.below hb22
  have g_22 := g_21.below hb22
  have hg_22 := hg_21.below hb22
  have B_22 := B_21.trans (hb22.mono B_21.size)
  have zz22 : w21.heap.size ≤ w22.heap.size := by have q := hb22.size; first | exact q | simpa using q
  clear o_21 g_21 hg_21 B_21
  clear hb22
  go_wp2
  go_ret
  exact ⟨rfl, B_22⟩

end Go.Proofs.Ytlfljfmhhnoinaa
