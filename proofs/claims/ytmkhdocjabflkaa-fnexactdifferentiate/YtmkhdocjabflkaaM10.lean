/- Contract of impl.GoodTable. -/
import Derived.Test.YtmkhdocjabflkaaM8
namespace Go.Proofs.Ytmkhdocjabflkaa
open Go.RowKit

set_option maxHeartbeats 4000000 in
theorem implGoodTable_any (a : Option Addr) (n c : Nat) (ts : List WRow) (p : Int) (w : World) (hz : ts.length = n) (hn : n ≤ 1048576) (ha : AtW w a ts) :
    Calls Try.prog 58 #[.agg #[.int .i64 p, .slice a n c]] w fun e w' => e = .returned (.bool (goodT p ts)) ∧ Below w.heap.size w w' := by
  have B0 : Below w.heap.size w (w.alloc (.cells #[.int .i64 p, .slice a n c] 25)) := (Below.refl _ _).alloc (Nat.le_refl _) _
  have HA := ha.below B0
  clear ha
  cases hi : inc p with
  | false =>
    have HI := Hid.mk hi
    clear hi
    go_enter Try.func58, Try.ntmps58
    go_wp2_with (go_at_call 72; refine (goodColumns_any _ _).mono ?_; rintro e w2 ⟨rfl, rfl⟩; rw [HI.out])
    go_ret
    exact ⟨ret_bool (goodT_col HI.out).symm, B0⟩
  | true =>
    have HI := Hid.mk hi
    clear hi
    by_cases h60 : n ≤ 60
    · cases hg : goodL p ts with
      | false =>
        have HG := Hid.mk hg
        clear hg
        go_enter Try.func58, Try.ntmps58
        go_wp2_with (first | (go_at_call 72; refine (goodColumns_any _ _).mono ?_; rintro e w2 ⟨rfl, rfl⟩; rw [HI.out]) | (go_at_call 114; refine (goodWeighted_any _ _ _ ts _ _ hz hn HA).mono ?_; rintro e w1 ⟨rfl, hb1⟩; rw [HG.out]))
        go_ret
        exact ⟨ret_bool (goodT_goodL HG.out).symm, B0.trans (hb1.mono B0.size)⟩
      | true =>
        have HG := Hid.mk hg
        clear hg
        have hL : ∀ k, k < n → goodW p (wat ts k) = true := fun k hk => goodL_at HG.out k (by omega)
        go_enter Try.func58, Try.ntmps58
        go_wp2_with (go_at_call 72; refine (goodColumns_any _ _).mono ?_; rintro e w2 ⟨rfl, rfl⟩; rw [HI.out])
        refine (goodWeighted_any _ _ _ ts _ _ hz hn HA).mono ?_
        rintro e w1 ⟨rfl, hb1⟩
        rw [HG.out]
        have B1 := B0.trans (hb1.mono B0.size)
        have ct := cell_later hb1 (pair1 w (.int .i64 p) (.slice a n c) 25)
        have HA1 := HA.below hb1
        clear hb1 HA B0
        go_wp2
        go_loopw [26] (fun i wr => ∃ (k : Nat), k ≤ n ∧ i = .int .i64 k ∧ (∀ j, j < k → stepB p ts j = true) ∧ Below w1.heap.size w1 wr) (fun i _ => n - (intOf i).toNat)
        case atStart => exact ⟨0, Nat.zero_le _, rfl, fun j hj => by omega, Below.refl _ _⟩
        case round =>
          obtain ⟨k, hk, rfl, hall, hbw⟩ := hrel
          have B2 := B1.trans (hbw.mono B1.size)
          by_cases hlt : k < n
          · obtain ⟨b, off, rfl, hc⟩ := (HA1.below hbw).some (by omega)
            obtain ⟨q, d, hcx, hwx, hm, hat⟩ := hc k (by omega)
            have hgk := goodW_cells (hL k hlt)
            have HN : Hid ((wat ts k).2 = 0 → goodT p ts = false) := fun h => goodT_not k (by omega) (stepB_zero h)
            have HC : Hid (k ≠ 0 → ¬ cmp (wat ts (k - 1)).1 (wat ts k).1 < 0 → goodT p ts = false) := fun h0 h => goodT_not k (by omega) (stepB_cmp h0 h)
            have HS : Hid ((wat ts k).2 ≠ 0 → (k = 0 ∨ cmp (wat ts (k - 1)).1 (wat ts k).1 < 0) → ∀ j, j < k + 1 → stepB p ts j = true) := fun h1 h2 j hj => by
              by_cases e : j = k
              · subst e; exact stepB_mk (hL j hlt) h1 h2
              · exact hall j (by omega)
            have ct2 := cell_later hbw ct
            have hki : (k : Int) < (n : Int) := by omega
            by_cases hk0 : k = 0
            · have HK := Hid.mk hk0
              have hnp : decide (0 < k) = false := decide_eq_false (by omega)
              generalize wat ts k = Y at *
              obtain ⟨ys, x⟩ := Y
              simp only at hcx hwx hat hm
              clear hc hall hat hgk hk0
              obtain ⟨m, hmm⟩ : ∃ m, ys.length = m := ⟨_, rfl⟩
              rw [hmm] at hcx hm
              clear hmm
              by_cases hx : x = 0
              · have hxx : (x == 0) = true := by simp [hx]
                have HX := Hid.mk hx
                clear hx
                go_wp2
                go_ret
                exact ⟨ret_bool (HN.out HX.out).symm, B2.alloc B2.size _⟩
              · have hxx : (x == 0) = false := by simp [hx]
                have HX := Hid.mk hx
                clear hx
                go_wp2
                go_quiet (fail)
                go_wp2
                go_roundw
                case rel => exact ⟨k + 1, by omega, by go_num, HS.out HX.out (.inl HK.out), below_drewN (hbw.alloc hbw.size _) _⟩
                case measure => simp [intOf]; omega
            · obtain ⟨q', d', hcx', _, _, hat'⟩ := hc (k - 1) (by omega)
              have hgk' := goodW_cells (hL (k - 1) (by omega))
              have hnp : 0 < k := by omega
              have hsub : IntKind.i64.wrap ((k : Int) - 1) = ((k - 1 : Nat) : Int) := (IntWalk.i64_in _ (by omega)).trans (by omega)
              have hlt1 : ((k - 1 : Nat) : Int) < (n : Int) := by omega
              obtain ⟨k', hk'⟩ : ∃ k', k' = k - 1 := ⟨_, rfl⟩
              have HK' := Hid.mk hk'
              rw [← hk'] at hcx' hat' hgk' hsub hlt1 HC HS
              generalize wat ts k = Y at *
              generalize wat ts k' = Y' at *
              obtain ⟨ys, x⟩ := Y
              obtain ⟨ys', x'⟩ := Y'
              simp only at hcx hwx hat hm hcx' hat' hgk hgk'
              have l1 := good_len hgk.1
              have l1' := good_len hgk'.1
              have HG1 := Hid.mk hgk.1
              have HG1' := Hid.mk hgk'.1
              clear hc hall hgk hgk' hk'
              obtain ⟨m, hmm⟩ : ∃ m, ys.length = m := ⟨_, rfl⟩
              obtain ⟨m', hmm'⟩ : ∃ m, ys'.length = m := ⟨_, rfl⟩
              rw [hmm] at hcx hm l1
              rw [hmm'] at hcx' l1'
              have HM := Hid.mk hmm
              have HM' := Hid.mk hmm'
              clear hmm hmm'
              by_cases hx : x = 0
              · have hxx : (x == 0) = true := by simp [hx]
                have HX := Hid.mk hx
                clear hx
                go_wp2
                go_ret
                exact ⟨ret_bool (HN.out HX.out).symm, B2.alloc B2.size _⟩
              · have hxx : (x == 0) = false := by simp [hx]
                have HX := Hid.mk hx
                clear hx
                have c1 := cell_later ((Below.refl wr.heap.size wr).alloc (Nat.le_refl _) (.cells #[.slice q m d, .int .i64 x] 90)) hcx'
                have c2 := cell_later ((Below.refl wr.heap.size wr).alloc (Nat.le_refl _) (.cells #[.slice q m d, .int .i64 x] 90)) ct2
                have c3 := pair0 wr (.slice q m d) (.int .i64 x) 90
                have HAx := hat.alloc (.cells #[.slice q m d, .int .i64 x] 90)
                have HAy := hat'.alloc (.cells #[.slice q m d, .int .i64 x] 90)
                have BW := B2.alloc B2.size (.cells #[.slice q m d, .int .i64 x] 90)
                have BV := hbw.alloc hbw.size (.cells #[.slice q m d, .int .i64 x] 90)
                obtain ⟨W, hW⟩ : ∃ W, W = wr.alloc (.cells #[.slice q m d, .int .i64 x] 90) := ⟨_, rfl⟩
                go_wp2
                rw [← hW] at c1 c2 c3 HAx HAy BW BV ⊢
                clear hW hcx hcx' hwx ct2 ct hat hat' HA1 hm
                go_region_held3 (fun w' => w'.cell? ⟨w.heap.size, 1, none⟩ = some (.slice (some ⟨b, off, none⟩) n c) ∧ w'.cell? ⟨b, off + k' * 2, none⟩ = some (.slice q' m' d') ∧ w'.cell? ⟨wr.heap.size, 0, none⟩ = some (.slice q m d)) (refine ⟨?_, ?_, ?_⟩ <;> assumption)
                  (first
                    | (go_at_call_of 101 (Value.slice q' m' d'); refine (arrayOf_any _ _ _ ys' _ HM'.out l1' (fun j hj => good_cell HG1'.out j (by have := HM'.out; omega)) HAy.drew).mono ?_; rintro e w2 ⟨y0, y1, y2, y3, y4, y5, rfl, hy, hb2⟩; have r1 := cell_later hb2 c1; have r2 := cell_later hb2 c2; have r3 := cell_later hb2 c3; have HAz := HAx.drew.below hb2)
                    | (go_at_call_of 101 (Value.slice q m d); refine (arrayOf_any _ _ _ ys _ HM.out l1 (fun j hj => good_cell HG1.out j (by have := HM.out; omega)) HAz).mono ?_; rintro e w3 ⟨x0, x1, x2, x3, x4, x5, rfl, hx, hb3⟩; have s1 := cell_later hb3 r1; have s2 := cell_later hb3 r2; have s3 := cell_later hb3 r3)
                    | (go_at_call 115; refine (compareArrays_any _ _ _ _ _ _ _ _ _ _ _ _ _ _ hy hx _).mono ?_; rintro e w4 ⟨rfl, hb4⟩; have v1 := cell_later hb4 s1; have v2 := cell_later hb4 s2; have v3 := cell_later hb4 s3))
                have B5 : Below w.heap.size w w4 := ((BW.drew.trans (hb2.mono BW.size)).trans (hb3.mono (by have := hb2.size; have := BW.size; simp only [drew_size] at *; omega))).trans (hb4.mono (by have := hb2.size; have := hb3.size; have := BW.size; simp only [drew_size] at *; omega))
                have V5 : Below w1.heap.size w1 w4 := ((BV.drew.trans (hb2.mono BV.size)).trans (hb3.mono (by have := hb2.size; have := BV.size; simp only [drew_size] at *; omega))).trans (hb4.mono (by have := hb2.size; have := hb3.size; have := BV.size; simp only [drew_size] at *; omega))
                have hcr := cmp_raised HG1'.out HG1.out
                rw [hy, hx] at hcr
                have hcm := cmp_range ys' ys
                clear hy hx hb2 hb3 hb4 r1 r2 r3 s1 s2 s3 v1 v2 v3 c1 c2 c3 HAz HAx HAy BW BV
                by_cases hlss : cmp ys' ys < 0
                · have hcc : (cmp [y0, y1, y2, y3, y4, y5] [x0, x1, x2, x3, x4, x5] != -1) = false := by rw [hcr, show cmp ys' ys = -1 by omega]; rfl
                  have HL := Hid.mk hlss
                  clear hcr hcm hlss
                  go_wp2
                  go_roundw
                  case rel => exact ⟨k + 1, by omega, by go_num, HS.out HX.out (.inr HL.out), V5⟩
                  case measure => simp [intOf]; omega
                · have hcc : (cmp [y0, y1, y2, y3, y4, y5] [x0, x1, x2, x3, x4, x5] != -1) = true := by
                    rw [hcr]
                    rcases hcm with h | h | h
                    · omega
                    · rw [h]; rfl
                    · rw [h]; rfl
                  have HL := Hid.mk hlss
                  clear hcr hcm hlss
                  go_wp2
                  go_ret
                  exact ⟨ret_bool (HC.out hk0 (by have := HL.out; omega)).symm, B5⟩
          · go_wp2
            go_ret
            exact ⟨ret_bool (goodT_of HI.out (by omega) (fun j hj => hall j (by omega))).symm, B2⟩
    · go_enter Try.func58, Try.ntmps58
      go_wp2_with (go_at_call 72; refine (goodColumns_any _ _).mono ?_; rintro e w2 ⟨rfl, rfl⟩; rw [HI.out])
      go_ret
      exact ⟨ret_bool (goodT_len (by omega)).symm, B0⟩

end Go.Proofs.Ytmkhdocjabflkaa
