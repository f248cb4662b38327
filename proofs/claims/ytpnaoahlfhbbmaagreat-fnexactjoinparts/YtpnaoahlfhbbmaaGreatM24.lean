/- Several texts of one proof, in build order: GoodTI, ProjS, JpQ, JpI. -/
import Derived.Test.YtpnaoahlfhbbmaaGreatM8
import Derived.Test.YtpnaoahlfhbbmaaGreatM19
import Derived.Test.YtpnaoahlfhbbmaaGreatM15
import Derived.Test.YtpnaoahlfhbbmaaGreatM23
import Derived.Test.YtpnaoahlfhbbmaaGreatM13
import Derived.Test.YtpnaoahlfhbbmaaGreatM18
import Derived.Test.YtpnaoahlfhbbmaaGreatM12

/- Contract of impl.GoodTable. -/
namespace Go.Proofs.YtpnaoahlfhbbmaaGreat
open Go.RowKit

set_option maxHeartbeats 4000000 in
theorem implGoodTable_any (a : Option Addr) (n c : Nat) (ts : List WRow) (p : Int) (w : World) (hz : ts.length = n) (hn : n ≤ 1048576) (ha : AtW w a ts) :
    Calls Tryz.prog 50 #[.agg #[.int .i64 p, .slice a n c]] w fun e w' => e = .returned (.bool (goodT p ts)) ∧ Below w.heap.size w w' := by
  have B0 : Below w.heap.size w (w.alloc (.cells #[.int .i64 p, .slice a n c] 28)) := (Below.refl _ _).alloc (Nat.le_refl _) _
  have HA := ha.below B0
  clear ha
  cases hi : inc p with
  | false =>
    have HI := Hid.mk hi
    clear hi
    go_enter Tryz.func50, Tryz.ntmps50
    go_wp2_with (go_at_call 60; refine (goodColumns_any _ _).mono ?_; rintro e w2 ⟨rfl, rfl⟩; rw [HI.out])
    go_ret
    exact ⟨ret_bool (goodT_col HI.out).symm, B0⟩
  | true =>
    have HI := Hid.mk hi
    clear hi
    by_cases h60 : n ≤ 60
    · cases hg : goodL p ts with
      | false =>
        have HG := Hid.mk hg
        clear hg
        go_enter Tryz.func50, Tryz.ntmps50
        go_wp2_with (first | (go_at_call 60; refine (goodColumns_any _ _).mono ?_; rintro e w2 ⟨rfl, rfl⟩; rw [HI.out]) | (go_at_call 61; refine (goodWeighted_any _ _ _ ts _ _ hz hn HA).mono ?_; rintro e w1 ⟨rfl, hb1⟩; rw [HG.out]))
        go_ret
        exact ⟨ret_bool (goodT_goodL HG.out).symm, B0.trans (hb1.mono B0.size)⟩
      | true =>
        have HG := Hid.mk hg
        clear hg
        have hL : ∀ k, k < n → goodW p (wat ts k) = true := fun k hk => goodL_at HG.out k (by omega)
        go_enter Tryz.func50, Tryz.ntmps50
        go_wp2_with (go_at_call 60; refine (goodColumns_any _ _).mono ?_; rintro e w2 ⟨rfl, rfl⟩; rw [HI.out])
        refine (goodWeighted_any _ _ _ ts _ _ hz hn HA).mono ?_
        rintro e w1 ⟨rfl, hb1⟩
        rw [HG.out]
        have B1 := B0.trans (hb1.mono B0.size)
        have ct := cell_later hb1 (pair1 w (.int .i64 p) (.slice a n c) 28)
        have HA1 := HA.below hb1
        clear hb1 HA B0
        go_wp2
        go_loopw [26] (fun i wr => ∃ (k : Nat), k ≤ n ∧ i = .int .i64 k ∧ (∀ j, j < k → stepB p ts j = true) ∧ Below w1.heap.size w1 wr) (fun i _ => n - (intOf i).toNat)
        case atStart => exact ⟨0, Nat.zero_le _, rfl, fun j hj => by omega, Below.refl _ _⟩
        case round =>
          obtain ⟨k, hk, rfl, hall, hbw⟩ := hrel
          have B2 := B1.trans (hbw.mono B1.size)
          by_cases hlt : k < n
          · obtain ⟨b, off, rfl, hc⟩ := (HA1.below hbw).some (by omega)
            obtain ⟨q, d, hcx, hwx, hm, hat⟩ := hc k (by omega)
            have hgk := goodW_cells (hL k hlt)
            have HN : Hid ((wat ts k).2 = 0 → goodT p ts = false) := fun h => goodT_not k (by omega) (stepB_zero h)
            have HC : Hid (k ≠ 0 → ¬ cmp (wat ts (k - 1)).1 (wat ts k).1 < 0 → goodT p ts = false) := fun h0 h => goodT_not k (by omega) (stepB_cmp h0 h)
            have HS : Hid ((wat ts k).2 ≠ 0 → (k = 0 ∨ cmp (wat ts (k - 1)).1 (wat ts k).1 < 0) → ∀ j, j < k + 1 → stepB p ts j = true) := fun h1 h2 j hj => by
              by_cases e : j = k
              · subst e; exact stepB_mk (hL j hlt) h1 h2
              · exact hall j (by omega)
            have ct2 := cell_later hbw ct
            have hki : (k : Int) < (n : Int) := by omega
            by_cases hk0 : k = 0
            · have HK := Hid.mk hk0
              have hnp : decide (0 < k) = false := decide_eq_false (by omega)
              generalize wat ts k = Y at *
              obtain ⟨ys, x⟩ := Y
              simp only at hcx hwx hat hm
              clear hc hall hat hgk hk0
              obtain ⟨m, hmm⟩ : ∃ m, ys.length = m := ⟨_, rfl⟩
              rw [hmm] at hcx hm
              clear hmm
              by_cases hx : x = 0
              · have hxx : (x == 0) = true := by simp [hx]
                have HX := Hid.mk hx
                clear hx
                go_wp2
                go_ret
                exact ⟨ret_bool (HN.out HX.out).symm, B2.alloc B2.size _⟩
              · have hxx : (x == 0) = false := by simp [hx]
                have HX := Hid.mk hx
                clear hx
                go_wp2
                go_quiet (fail)
                go_wp2
                go_roundw
                case rel => exact ⟨k + 1, by omega, by go_num, HS.out HX.out (.inl HK.out), below_drewN (hbw.alloc hbw.size _) _⟩
                case measure => simp [intOf]; omega
            · obtain ⟨q', d', hcx', _, _, hat'⟩ := hc (k - 1) (by omega)
              have hgk' := goodW_cells (hL (k - 1) (by omega))
              have hnp : 0 < k := by omega
              have hsub : IntKind.i64.wrap ((k : Int) - 1) = ((k - 1 : Nat) : Int) := (IntWalk.i64_in _ (by omega)).trans (by omega)
              have hlt1 : ((k - 1 : Nat) : Int) < (n : Int) := by omega
              obtain ⟨k', hk'⟩ : ∃ k', k' = k - 1 := ⟨_, rfl⟩
              have HK' := Hid.mk hk'
              rw [← hk'] at hcx' hat' hgk' hsub hlt1 HC HS
              generalize wat ts k = Y at *
              generalize wat ts k' = Y' at *
              obtain ⟨ys, x⟩ := Y
              obtain ⟨ys', x'⟩ := Y'
              simp only at hcx hwx hat hm hcx' hat' hgk hgk'
              have l1 := good_len hgk.1
              have l1' := good_len hgk'.1
              have HG1 := Hid.mk hgk.1
              have HG1' := Hid.mk hgk'.1
              clear hc hall hgk hgk' hk'
              obtain ⟨m, hmm⟩ : ∃ m, ys.length = m := ⟨_, rfl⟩
              obtain ⟨m', hmm'⟩ : ∃ m, ys'.length = m := ⟨_, rfl⟩
              rw [hmm] at hcx hm l1
              rw [hmm'] at hcx' l1'
              have HM := Hid.mk hmm
              have HM' := Hid.mk hmm'
              clear hmm hmm'
              by_cases hx : x = 0
              · have hxx : (x == 0) = true := by simp [hx]
                have HX := Hid.mk hx
                clear hx
                go_wp2
                go_ret
                exact ⟨ret_bool (HN.out HX.out).symm, B2.alloc B2.size _⟩
              · have hxx : (x == 0) = false := by simp [hx]
                have HX := Hid.mk hx
                clear hx
                have c1 := cell_later ((Below.refl wr.heap.size wr).alloc (Nat.le_refl _) (.cells #[.slice q m d, .int .i64 x] 50)) hcx'
                have c2 := cell_later ((Below.refl wr.heap.size wr).alloc (Nat.le_refl _) (.cells #[.slice q m d, .int .i64 x] 50)) ct2
                have c3 := pair0 wr (.slice q m d) (.int .i64 x) 50
                have HAx := hat.alloc (.cells #[.slice q m d, .int .i64 x] 50)
                have HAy := hat'.alloc (.cells #[.slice q m d, .int .i64 x] 50)
                have BW := B2.alloc B2.size (.cells #[.slice q m d, .int .i64 x] 50)
                have BV := hbw.alloc hbw.size (.cells #[.slice q m d, .int .i64 x] 50)
                obtain ⟨W, hW⟩ : ∃ W, W = wr.alloc (.cells #[.slice q m d, .int .i64 x] 50) := ⟨_, rfl⟩
                go_wp2
                rw [← hW] at c1 c2 c3 HAx HAy BW BV ⊢
                clear hW hcx hcx' hwx ct2 ct hat hat' HA1 hm
                go_region_held3 (fun w' => w'.cell? ⟨w.heap.size, 1, none⟩ = some (.slice (some ⟨b, off, none⟩) n c) ∧ w'.cell? ⟨b, off + k' * 2, none⟩ = some (.slice q' m' d') ∧ w'.cell? ⟨wr.heap.size, 0, none⟩ = some (.slice q m d)) (refine ⟨?_, ?_, ?_⟩ <;> assumption)
                  (first
                    | (go_at_call_of 63 (Value.slice q' m' d'); refine (arrayOf_any _ _ _ ys' _ HM'.out l1' (fun j hj => good_cell HG1'.out j (by have := HM'.out; omega)) HAy.drew).mono ?_; rintro e w2 ⟨y0, y1, y2, y3, y4, y5, rfl, hy, hb2⟩; have r1 := cell_later hb2 c1; have r2 := cell_later hb2 c2; have r3 := cell_later hb2 c3; have HAz := HAx.drew.below hb2)
                    | (go_at_call_of 63 (Value.slice q m d); refine (arrayOf_any _ _ _ ys _ HM.out l1 (fun j hj => good_cell HG1.out j (by have := HM.out; omega)) HAz).mono ?_; rintro e w3 ⟨x0, x1, x2, x3, x4, x5, rfl, hx, hb3⟩; have s1 := cell_later hb3 r1; have s2 := cell_later hb3 r2; have s3 := cell_later hb3 r3)
                    | (go_at_call 62; refine (compareArrays_any _ _ _ _ _ _ _ _ _ _ _ _ _ _ hy hx _).mono ?_; rintro e w4 ⟨rfl, hb4⟩; have v1 := cell_later hb4 s1; have v2 := cell_later hb4 s2; have v3 := cell_later hb4 s3))
                have B5 : Below w.heap.size w w4 := ((BW.drew.trans (hb2.mono BW.size)).trans (hb3.mono (by have := hb2.size; have := BW.size; simp only [drew_size] at *; omega))).trans (hb4.mono (by have := hb2.size; have := hb3.size; have := BW.size; simp only [drew_size] at *; omega))
                have V5 : Below w1.heap.size w1 w4 := ((BV.drew.trans (hb2.mono BV.size)).trans (hb3.mono (by have := hb2.size; have := BV.size; simp only [drew_size] at *; omega))).trans (hb4.mono (by have := hb2.size; have := hb3.size; have := BV.size; simp only [drew_size] at *; omega))
                have hcr := cmp_raised HG1'.out HG1.out
                rw [hy, hx] at hcr
                have hcm := cmp_range ys' ys
                clear hy hx hb2 hb3 hb4 r1 r2 r3 s1 s2 s3 v1 v2 v3 c1 c2 c3 HAz HAx HAy BW BV
                by_cases hlss : cmp ys' ys < 0
                · have hcc : (cmp [y0, y1, y2, y3, y4, y5] [x0, x1, x2, x3, x4, x5] != -1) = false := by rw [hcr, show cmp ys' ys = -1 by omega]; rfl
                  have HL := Hid.mk hlss
                  clear hcr hcm hlss
                  go_wp2
                  go_roundw
                  case rel => exact ⟨k + 1, by omega, by go_num, HS.out HX.out (.inr HL.out), V5⟩
                  case measure => simp [intOf]; omega
                · have hcc : (cmp [y0, y1, y2, y3, y4, y5] [x0, x1, x2, x3, x4, x5] != -1) = true := by
                    rw [hcr]
                    rcases hcm with h | h | h
                    · omega
                    · rw [h]; rfl
                    · rw [h]; rfl
                  have HL := Hid.mk hlss
                  clear hcr hcm hlss
                  go_wp2
                  go_ret
                  exact ⟨ret_bool (HC.out hk0 (by have := HL.out; omega)).symm, B5⟩
          · go_wp2
            go_ret
            exact ⟨ret_bool (goodT_of HI.out (by omega) (fun j hj => hall j (by omega))).symm, B2⟩
    · go_enter Tryz.func50, Tryz.ntmps50
      go_wp2_with (go_at_call 60; refine (goodColumns_any _ _).mono ?_; rintro e w2 ⟨rfl, rfl⟩; rw [HI.out])
      go_ret
      exact ⟨ret_bool (goodT_len (by omega)).symm, B0⟩

end Go.Proofs.YtpnaoahlfhbbmaaGreat

/- Contracts of impl.ProjectTable, spec.l3Project, spec.ProjectTable. -/
namespace Go.Proofs.YtpnaoahlfhbbmaaGreat
open Go.RowKit Go.Shelf

/-- The rows' picked cells, and those rows put together. -/
def projL (ts : List WRow) (cols : List Int) : List WRow := ts.filterMap (pickG cols)
def projW (ts : List WRow) (cols : List Int) : List WRow := putAll [] (projL ts cols)
def projB (p : Int) (ts : List WRow) (cols : List Int) : Bool := goodT p ts && (colsOk cols p.toNat && goodT cols.length (projW ts cols))
theorem projB_no {p : Int} {ts : List WRow} {cols : List Int} (h : goodT p ts = false) : projB p ts cols = false := by simp [projB, h]
theorem projB_not {p : Int} {ts : List WRow} {cols : List Int} (h : colsOk cols p.toNat = false) : projB p ts cols = false := by simp [projB, h]
theorem projB_yes {p : Int} {ts : List WRow} {cols : List Int} (h : goodT p ts = true) (h2 : colsOk cols p.toNat = true) : projB p ts cols = goodT cols.length (projW ts cols) := by simp [projB, h, h2]
theorem projB_goodT {p : Int} {ts : List WRow} {cols : List Int} (h : projB p ts cols = true) : goodT cols.length (projW ts cols) = true := by
  simp only [projB, Bool.and_eq_true] at h
  exact h.2.2
theorem projL_eq (ts : List WRow) (cols : List Int) : projL ts cols = ts.map fun t => (pick t.1 cols, t.2) := by
  unfold projL
  induction ts with
  | nil => rfl
  | cons t ts ih => rw [List.filterMap_cons, List.map_cons, ← ih]; rfl
theorem projL_len (ts : List WRow) (cols : List Int) : (projL ts cols).length = ts.length := by rw [projL_eq]; simp
theorem projL_at (ts : List WRow) (cols : List Int) (k : Nat) (h : k < ts.length) : wat (projL ts cols) k = (pick (wat ts k).1 cols, (wat ts k).2) := by
  rw [projL_eq]; simp [wat, List.getD, h]
theorem good_pick {zs cols : List Int} (h : good zs = true) (hc : colsOk cols zs.length = true) : good (pick zs cols) = true := by
  refine good_of (by have := colsOk_len hc; simpa [pick] using this) fun k hk => ?_
  have hk' : k < cols.length := by simpa [pick] using hk
  have h1 := colsOk_at hc k hk'
  have h2 := good_cell h (cols.getD k 0).toNat (by omega)
  have e : (pick zs cols).getD k 0 = zs.getD (cols.getD k 0).toNat 0 := by simp [pick, List.getD, hk']
  rw [e]; exact h2
theorem good_noughts {q : Nat} (h : q ≤ 6) : good (List.replicate q 0) = true := by
  refine good_of (by simpa using h) fun k hk => ?_
  have : (List.replicate q (0 : Int)).getD k 0 = 0 := by
    rw [List.getD_eq_getElem?_getD, List.getElem?_replicate]; split <;> rfl
  rw [this]; omega
theorem projL_rows {q : Nat} {ts : List WRow} {cols : List Int} (h : goodT q ts = true) (hc : colsOk cols q = true) : ∀ t ∈ projL ts cols, good t.1 = true ∧ t.1.length = cols.length ∧ -1000000 ≤ t.2 ∧ t.2 ≤ 1000000 := fun t ht => by
  rw [projL_eq] at ht
  obtain ⟨s, hs, rfl⟩ := List.mem_map.1 ht
  have h1 := goodT_mem h s hs
  have h2 := (goodL_mem (goodL_of_goodT h) s hs).2.2
  exact ⟨good_pick h1.1 (by rw [h1.2]; exact hc), by simp [pick], h2⟩
theorem projL_goodL {q : Nat} {ts : List WRow} {cols : List Int} (h : goodT q ts = true) (hc : colsOk cols q = true) : goodL (cols.length : Nat) (projL ts cols) = true := by
  refine List.all_eq_true.2 fun t ht => ?_
  have := projL_rows h hc t ht
  exact goodW_mk this.1 (by rw [this.2.1]) (by simp [inw]; omega)
theorem putAll_in {l : List WRow} {M : Int} (hM : 0 ≤ M) (hl : ∀ t ∈ l, t.1.length ≤ 6 ∧ -M ≤ t.2 ∧ t.2 ≤ M) : ∀ t ∈ putAll [] l, t.1.length ≤ 6 ∧ -(M * l.length) ≤ t.2 ∧ t.2 ≤ M * l.length := fun t h => by
  have hr : Rises [] := List.Pairwise.nil
  have h6 : t.1.length ≤ 6 := by
    rcases putAll_rows h with ⟨s, hs, e⟩ | ⟨s, hs, e⟩
    · cases hs
    · rw [← e]; exact (hl s hs).1
  have hw := wOf_mem (putAll_rises (l := l) hr) h
  rw [putAll_wOf t.1 hr] at hw
  have b2 := sumW_bound (zs := t.1) hM (fun s hs => (hl s hs).2)
  have b0 : wOf [] t.1 = 0 := rfl
  omega

end Go.Proofs.YtpnaoahlfhbbmaaGreat

/- Plain: joining parts, step by step: the program's rows and the model's. -/
namespace Go.Proofs.YtpnaoahlfhbbmaaGreat
open Go.RowKit

theorem putW_perm {zs : List Int} {x : Int} (hx : x ≠ 0) : ∀ {ts : List WRow}, (∀ t ∈ ts, t.1 ≠ zs) → (putW ts zs x).Perm ((zs, x) :: ts)
  | [], _ => by unfold putW restW oneW; rw [if_neg hx]
  | t :: ts, h => by
    have h1 := h t (by simp)
    unfold putW
    by_cases hc : cmp t.1 zs < 0
    · rw [if_pos hc]
      exact ((putW_perm hx (fun s hs => h s (by simp [hs]))).cons t).trans (List.Perm.swap _ _ _)
    · rw [if_neg hc]
      have e : restW zs x (t :: ts) = (zs, x) :: t :: ts := by
        show (if cmp t.1 zs = 0 then oneW zs (x + t.2) ++ ts else oneW zs x ++ t :: ts) = _
        rw [if_neg (fun e => h1 (cmp_eq e))]
        unfold oneW
        rw [if_neg hx]; rfl
      rw [e]
def Apt (l : List WRow) : Prop := l.Pairwise fun a b => a.1 ≠ b.1
theorem putAll_permG : ∀ {l ts : List WRow}, NoZero l → Apt l → (∀ t ∈ l, ∀ s ∈ ts, s.1 ≠ t.1) → (putAll ts l).Perm (l ++ ts)
  | [], ts, _, _, _ => List.Perm.refl _
  | t :: l, ts, hz, ha, hd => by
    obtain ⟨a1, a2⟩ := List.pairwise_cons.1 ha
    have hp := putW_perm (zs := t.1) (x := t.2) (hz t (by simp)) (ts := ts) (fun s hs => hd t (by simp) s hs)
    show (putAll (putW ts t.1 t.2) l).Perm _
    refine (putAll_permG (fun s hs => hz s (by simp [hs])) a2 (fun s hs r hr => ?_)).trans ?_
    · have hr' := hp.subset hr
      simp only [List.mem_cons] at hr'
      rcases hr' with rfl | hr'
      · exact a1 s hs
      · exact hd s (by simp [hs]) r hr'
    · exact (hp.append_left l).trans List.perm_middle
theorem putAll_perm {l : List WRow} (hz : NoZero l) (ha : Apt l) : (putAll [] l).Perm l := by
  have := putAll_permG (ts := []) hz ha (fun _ _ _ h => by cases h)
  simpa using this
theorem rises_apt {l : List WRow} (h : Rises l) : Apt l := h.imp fun h => cmp_ne h
theorem rises_eq {l m : List WRow} (h : Rises l) (k : Rises m) (hp : l.Perm m) : l = m :=
  hp.eq_of_pairwise (le := fun a b : WRow => cmp a.1 b.1 < 0) (fun _ _ _ _ h1 h2 => absurd (cmp_trans h1 h2) (cmp_irrefl _)) h k
theorem goodT_mk {p : Nat} {ts : List WRow} (hp : p ≤ 6) (hl : ts.length ≤ 60) (hr : Rises ts) (h : ∀ t ∈ ts, good t.1 = true ∧ t.1.length = p ∧ t.2 = 1) : goodT p ts = true := by
  refine goodT_of (by unfold inc; simp; omega) hl fun k hk => ?_
  obtain ⟨m1, m2, m3⟩ := h _ (wat_mem hk)
  unfold stepB
  rw [goodW_mk m1 (by rw [m2]) (by rw [m3]; rfl), m3]
  cases k with
  | zero => rfl
  | succ k =>
    have h1 := List.pairwise_iff_getElem.1 hr k (k + 1) (by omega) hk (by omega)
    have e1 : wat ts k = ts[k] := by simp [wat, List.getD, show k < ts.length by omega]
    have e2 : wat ts (k + 1) = ts[k + 1] := by simp [wat, List.getD, hk]
    rw [show k + 1 - 1 = k by omega, e1, e2, decide_eq_true h1]; simp
theorem goodT_row {p : Nat} {ts : List WRow} (h : goodT p ts = true) {t : WRow} (ht : t ∈ ts) : good t.1 = true ∧ t.1.length = p := by
  have hg := List.all_eq_true.1 (goodL_of_goodT h) t ht
  exact ⟨(goodW_cells hg).1, by have := (goodW_cells hg).2.1; omega⟩
def ones (ts : List WRow) : Prop := ∀ t ∈ ts, t.2 = 1

/-- How far joining has come: T the program's rows over cols, M the model's. -/
structure JSt (C : Nat) (cols : List Int) (T M : List WRow) : Prop where
  cls : Cls C cols
  isGood : goodT cols.length T = true
  one : ones T
  perm : M.Perm (T.map fun t => (phi C cols t.1, 1))
  rises : Rises M
/-- The model's step. -/
def fitG (part : List Int) (m u : WRow) : Option WRow := if fitOk m.1 part u.1 then some (fit m.1 part u.1, 1) else none
def fitL (part : List Int) (M us : List WRow) : List WRow := M.flatMap fun m => us.filterMap (fitG part m)
def fitW (part : List Int) (M us : List WRow) : List WRow := putAll [] (fitL part M us)

section
variable {C : Nat} {cols part : List Int} {T M us : List WRow}
theorem new_le (hc : Cls C cols) (hp : Cls C part) (h6 : C ≤ 6) : cols.length + (newC cols part).length ≤ 6 := by
  have h := cls_new hc hp
  have h1 := h.1.length_le_of_subset (l₂ := (List.range C).map fun (c : Nat) => (c : Int)) (fun k hk => by
    obtain ⟨k1, k2⟩ := h.2 k hk
    exact List.mem_map.2 ⟨k.toNat, List.mem_range.2 (by omega), by omega⟩)
  rw [List.length_append] at h1
  simp at h1
  omega
theorem cls_le (hp : Cls C part) (h6 : C ≤ 6) : part.length ≤ 6 := by
  have h1 := hp.1.length_le_of_subset (l₂ := (List.range C).map fun (c : Nat) => (c : Int)) (fun k hk => by
    obtain ⟨k1, k2⟩ := hp.2 k hk
    exact List.mem_map.2 ⟨k.toNat, List.mem_range.2 (by omega), by omega⟩)
  simp at h1
  omega
theorem joinL_apt (hs : JSt C cols T M) (hp : Cls C part) (h6 : C ≤ 6) (hu : goodT part.length us = true) : Apt (joinL T us (prs cols part)) := by
  have hl6 := new_le hs.cls hp h6
  have hp6 := cls_le hp h6
  have key : ∀ t ∈ T, ∀ u ∈ us, ∀ y, joinG (prs cols part) t u = some y → agree cols part t.1 u.1 ∧ y.1 = t.1 ++ rest cols part u.1 := fun t ht u hu' y hy => by
    obtain ⟨g1, g2⟩ := goodT_row hs.isGood ht
    obtain ⟨k1, k2⟩ := goodT_row hu hu'
    have hj := joinG_is (cols := cols) (part := part) g1 k1 g2 k2 hp6 hl6
    by_cases ha : agree cols part t.1 u.1
    · rw [hj.1 ha] at hy
      obtain rfl := Option.some.inj hy
      exact ⟨ha, rfl⟩
    · rw [hj.2 ha] at hy; cases hy
  unfold Apt joinL
  rw [List.pairwise_flatMap]
  refine ⟨fun t ht => ?_, ?_⟩
  · rw [List.pairwise_filterMap]
    refine List.Pairwise.imp_of_mem ?_ (rises_apt (goodT_rises hu))
    intro u v hu1 hv1 hne y hy z hz e
    obtain ⟨a1, e1⟩ := key t ht u hu1 y hy
    obtain ⟨a2, e2⟩ := key t ht v hv1 z hz
    rw [e1, e2] at e
    have er := List.append_cancel_left e
    obtain ⟨_, l1⟩ := goodT_row hu hu1
    obtain ⟨_, l2⟩ := goodT_row hu hv1
    refine hne (list_ext (by omega) fun j hj => ?_)
    by_cases hm : part.getD j 0 ∈ cols
    · rw [← a1 j (by omega) hm, ← a2 j (by omega) hm]
    · unfold rest at er
      rw [List.map_inj_left] at er
      exact er j (mem_newJ.2 ⟨by omega, hm⟩)
  · refine List.Pairwise.imp_of_mem ?_ (rises_apt (goodT_rises hs.isGood))
    intro t s ht hs' hne y hy z hz e
    obtain ⟨u, hu1, hy⟩ := List.mem_filterMap.1 hy
    obtain ⟨v, hv1, hz⟩ := List.mem_filterMap.1 hz
    obtain ⟨_, e1⟩ := key t ht u hu1 y hy
    obtain ⟨_, e2⟩ := key s hs' v hv1 z hz
    rw [e1, e2] at e
    exact hne (List.append_inj_left e (by rw [(goodT_row hs.isGood ht).2, (goodT_row hs.isGood hs').2]))
theorem joinL_one (hs : JSt C cols T M) (hu1 : ones us) : ones (joinL T us (prs cols part)) := fun t ht => by
  obtain ⟨a, ha, b, hb, hg⟩ := joinL_mem ht
  unfold joinG at hg
  split at hg
  · obtain rfl := Option.some.inj hg
    show a.2 * b.2 = 1
    rw [hs.one a ha, hu1 b hb]; rfl
  · cases hg
theorem joinC_is : joinC cols.length part.length (prs cols part) = (cols ++ newC cols part).length := by
  unfold joinC
  rw [Int.toNat_natCast, Int.toNat_natCast, leftN_prs, List.length_append]
theorem fitL_perm (hs : JSt C cols T M) (hp : Cls C part) (h6 : C ≤ 6) (hu : goodT part.length us = true) : (fitL part M us).Perm ((joinL T us (prs cols part)).map fun t => (phi C (cols ++ newC cols part) t.1, 1)) := by
  have hl6 := new_le hs.cls hp h6
  have hp6 := cls_le hp h6
  refine (List.Perm.flatMap_right _ hs.perm).trans (List.Perm.of_eq ?_)
  rw [List.flatMap_map]
  unfold joinL
  rw [List.map_flatMap]
  have : ∀ (l : List WRow), (∀ t ∈ l, t ∈ T) → (l.flatMap fun t => us.filterMap (fitG part (phi C cols t.1, 1))) = l.flatMap fun t => (us.filterMap (joinG (prs cols part) t)).map fun t => (phi C (cols ++ newC cols part) t.1, 1) := by
    intro l hl
    induction l with
    | nil => rfl
    | cons t l ih =>
      rw [List.flatMap_cons, List.flatMap_cons, ih (fun s hs => hl s (by simp [hs]))]
      congr 1
      rw [List.map_filterMap]
      obtain ⟨g1, g2⟩ := goodT_row hs.isGood (hl t (by simp))
      have : ∀ (k : List WRow), (∀ u ∈ k, u ∈ us) → k.filterMap (fitG part (phi C cols t.1, 1)) = k.filterMap fun u => (joinG (prs cols part) t u).map fun t => (phi C (cols ++ newC cols part) t.1, 1) := by
        intro k hk
        induction k with
        | nil => rfl
        | cons u k ih =>
          obtain ⟨k1, k2⟩ := goodT_row hu (hk u (by simp))
          have hj := joinG_is (cols := cols) (part := part) g1 k1 g2 k2 hp6 hl6
          have hf := fitOk_phi (C := C) (cols := cols) (part := part) (r := t.1) (x := u.1) hp g1 g2
          have e : fitG part (phi C cols t.1, 1) u = (joinG (prs cols part) t u).map fun t => (phi C (cols ++ newC cols part) t.1, 1) := by
            by_cases ha : agree cols part t.1 u.1
            · rw [hj.1 ha]
              unfold fitG
              rw [if_pos (hf.2 ha), fit_phi hp g2 ha]; rfl
            · rw [hj.2 ha]
              unfold fitG
              rw [if_neg (fun h => ha (hf.1 h))]; rfl
          rw [List.filterMap_cons, List.filterMap_cons, e, ih (fun v hv => hk v (by simp [hv]))]
      exact this us (fun u hu => hu)
  exact this T (fun t ht => ht)
theorem phi_apt {l : List WRow} {cols : List Int} (hc : Cls C cols) (ha : Apt l) (hl : ∀ t ∈ l, t.1.length = cols.length) : Apt (l.map fun t => ((phi C cols t.1, 1) : WRow)) := by
  unfold Apt
  rw [List.pairwise_map]
  refine List.Pairwise.imp_of_mem ?_ ha
  intro a b h1 h2 hne e
  exact hne (phi_inj hc (hl a h1) (hl b h2) e)
theorem joinL_len' (hs : JSt C cols T M) (hu : goodT part.length us = true) : ∀ t ∈ joinL T us (prs cols part), good t.1 = true ∧ t.1.length = (cols ++ newC cols part).length := fun t ht => by
  obtain ⟨h1, h2, _⟩ := joinL_rows hs.isGood hu t ht
  rw [joinC_is] at h2
  exact ⟨h1, h2⟩
/-- A step of both. -/
theorem JSt.step (hs : JSt C cols T M) (hp : Cls C part) (h6 : C ≤ 6) (hu : goodT part.length us = true) (hu1 : ones us) :
    (joinW T us (prs cols part)).length = (fitW part M us).length ∧ joinB cols.length part.length T us (prs cols part) = decide ((fitW part M us).length ≤ 60) ∧
      ((fitW part M us).length ≤ 60 → JSt C (cols ++ newC cols part) (joinW T us (prs cols part)) (fitW part M us)) := by
  have hl6 := new_le hs.cls hp h6
  have hp6 := cls_le hp h6
  have hcl := cls_new hs.cls hp
  have hA := joinL_apt hs hp h6 hu
  have h1 := joinL_one (part := part) hs hu1
  have hrow := joinL_len' hs hu
  have hpT := putAll_perm (l := joinL T us (prs cols part)) (fun t ht => by rw [h1 t ht]; decide) hA
  have hP := fitL_perm hs hp h6 hu
  have hAM : Apt (fitL part M us) := hP.symm.pairwise (phi_apt hcl hA (fun t ht => (hrow t ht).2)) (fun h => h.symm)
  have h1M : NoZero (fitL part M us) := fun t ht => by
    have := hP.subset ht
    obtain ⟨s, _, rfl⟩ := List.mem_map.1 this
    exact Int.one_ne_zero
  have hpM := putAll_perm h1M hAM
  have hMT : (fitW part M us).Perm ((joinW T us (prs cols part)).map fun t => (phi C (cols ++ newC cols part) t.1, 1)) := (hpM.trans hP).trans (hpT.symm.map _)
  have hlen : (joinW T us (prs cols part)).length = (fitW part M us).length := by have := hMT.length_eq; rw [List.length_map] at this; exact this.symm
  have hRT : Rises (joinW T us (prs cols part)) := putAll_rises List.Pairwise.nil
  have hRM : Rises (fitW part M us) := putAll_rises List.Pairwise.nil
  have hmem : ∀ t ∈ joinW T us (prs cols part), good t.1 = true ∧ t.1.length = (cols ++ newC cols part).length ∧ t.2 = 1 := fun t ht => by
    have := hpT.subset ht
    exact ⟨(hrow t this).1, (hrow t this).2, h1 t this⟩
  have hcl6 : (cols ++ newC cols part).length ≤ 6 := by rw [List.length_append]; exact hl6
  refine ⟨hlen, ?_, fun h60 => ⟨hcl, goodT_mk hcl6 (by omega) hRT hmem, fun t ht => (hmem t ht).2.2, hMT, hRM⟩⟩
  rw [joinB_yes hs.isGood hu (by rw [Int.toNat_natCast, Int.toNat_natCast]; exact prs_ok hp6) (by rw [joinC_is]; exact hcl6), joinC_is, ← hlen]
  by_cases h60 : (joinW T us (prs cols part)).length ≤ 60
  · rw [decide_eq_true h60]; exact goodT_mk hcl6 h60 hRT hmem
  · rw [decide_eq_false h60]
    unfold goodT
    rw [decide_eq_false h60]; simp
/-- Where all columns are told, both tell the same table. -/
def plc (C : Nat) (cols : List Int) : List Int := (List.range C).map fun (c : Nat) => (ix (c : Int) cols : Int)
theorem cls_full (hc : Cls C cols) (hall : ∀ c, c < C → (c : Int) ∈ cols) : cols.length = C := by
  have h1 := hc.1.length_le_of_subset (l₂ := (List.range C).map fun (c : Nat) => (c : Int)) (fun k hk => by
    obtain ⟨k1, k2⟩ := hc.2 k hk
    exact List.mem_map.2 ⟨k.toNat, List.mem_range.2 (by omega), by omega⟩)
  have hn : ((List.range C).map fun (c : Nat) => (c : Int)).Nodup := by
    unfold List.Nodup
    rw [List.pairwise_map]
    exact (List.nodup_range (n := C)).imp fun h e => h (by omega)
  have h2 := hn.length_le_of_subset (l₂ := cols) (fun k hk => by
    obtain ⟨c, hc', rfl⟩ := List.mem_map.1 hk
    exact hall c (List.mem_range.1 hc'))
  simp at h1 h2
  omega
theorem JSt.end (hs : JSt C cols T M) (h6 : C ≤ 6) (hall : ∀ c, c < C → (c : Int) ∈ cols) : projB cols.length T (plc C cols) = true ∧ projW T (plc C cols) = M ∧ goodT C M = true ∧ (plc C cols).length = C := by
  have hlc := cls_full hs.cls hall
  have hpl : (plc C cols).length = C := by simp [plc]
  have hpick : ∀ t ∈ T, pick t.1 (plc C cols) = phi C cols t.1 := fun t ht => by
    unfold pick plc phi
    rw [List.map_map]
    apply List.map_congr_left
    intro c hc
    rw [if_pos (hall c (List.mem_range.1 hc))]
    simp
  have hL : projL T (plc C cols) = T.map fun t => (phi C cols t.1, 1) := by
    rw [projL_eq]
    apply List.map_congr_left
    intro t ht
    rw [hpick t ht, hs.one t ht]
  have hrowT : ∀ t ∈ T, good t.1 = true ∧ t.1.length = cols.length := fun t ht => goodT_row hs.isGood ht
  have hA := phi_apt hs.cls (rises_apt (goodT_rises hs.isGood)) (fun t ht => (hrowT t ht).2)
  have hW : projW T (plc C cols) = M := by
    unfold projW
    rw [hL]
    refine rises_eq (putAll_rises List.Pairwise.nil) hs.rises ?_
    exact (putAll_perm (fun t ht => by obtain ⟨s, _, rfl⟩ := List.mem_map.1 ht; exact Int.one_ne_zero) hA).trans hs.perm.symm
  have hlenM : M.length ≤ 60 := by
    have := hs.perm.length_eq
    rw [List.length_map] at this
    have := (goodT_parts hs.isGood).2.1
    omega
  have hgM : goodT C M = true := by
    refine goodT_mk h6 hlenM hs.rises fun t ht => ?_
    obtain ⟨s, hs', rfl⟩ := List.mem_map.1 (hs.perm.subset ht)
    obtain ⟨g1, g2⟩ := hrowT s hs'
    refine ⟨good_of (by rw [phi_len]; exact h6) fun k hk => ?_, phi_len _ _ _, rfl⟩
    rw [phi_len] at hk
    rw [phi_at _ _ hk, if_pos (hall k hk)]
    have := ix_lt (hall k hk)
    exact good_cell g1 _ (by omega)
  refine ⟨?_, hW, hgM, hpl⟩
  rw [projB_yes hs.isGood (colsOk_of (by omega) fun j hj => ?_), hW, hpl]
  · exact hgM
  · rw [hpl] at hj
    have e : (plc C cols).getD j 0 = (ix (j : Int) cols : Int) := by simp [plc, List.getD, hj]
    rw [e, Int.toNat_natCast]
    have := ix_lt (hall j hj)
    omega
theorem JSt.start (C : Nat) : JSt C [] [([], 1)] [(List.replicate C miss, 1)] := by
  refine ⟨⟨List.nodup_nil, fun k h => by cases h⟩, by decide +kernel, fun t ht => by simp at ht; rw [ht], ?_, by unfold Rises; simp⟩
  have : phi C [] [] = List.replicate C miss := by
    unfold phi
    apply List.ext_getElem (by simp)
    intro i h1 h2
    simp
  simp [this]
end

end Go.Proofs.YtpnaoahlfhbbmaaGreat

/- Contracts of tellsColumns and the model's l8Plain. -/
namespace Go.Proofs.YtpnaoahlfhbbmaaGreat
open Go.RowKit

def oneB (ts : List WRow) : Bool := ts.all fun t => decide (t.2 = 1)
theorem oneB_drop {ts : List WRow} {k : Nat} (h : k < ts.length) : oneB (ts.drop k) = (decide ((wat ts k).2 = 1) && oneB (ts.drop (k + 1))) := by
  unfold oneB
  rw [List.drop_eq_getElem_cons h, List.all_cons]
  simp [wat, List.getD, h]
theorem oneB_ones {ts : List WRow} (h : oneB ts = true) : ones ts := fun t ht => by
  unfold oneB at h
  rw [List.all_eq_true] at h
  simpa using h t ht

set_option maxRecDepth 100000 in
set_option maxHeartbeats 4000000 in
theorem tellsColumns_any (a : Option Addr) (n c : Nat) (ts : List WRow) (p : Int) (a' : Option Addr) (n' c' : Nat) (w : World) (hz : ts.length = n) (hn : n ≤ 1048576) (ha : AtW w a ts) :
    Calls Tryz.prog 28 #[.agg #[.int .i64 p, .slice a n c], .slice a' n' c'] w fun e w' => e = .returned (.bool (goodT p ts && (decide (p = n') && oneB ts))) ∧ Below w.heap.size w w' := by
  obtain ⟨W, hW⟩ : ∃ W, W = w.alloc (.cells #[.int .i64 p, .slice a n c] 28) := ⟨_, rfl⟩
  have B0 : Below w.heap.size w W := by rw [hW]; exact (Below.refl _ _).alloc (Nat.le_refl _) _
  have c0 : W.cell? ⟨w.heap.size, 0, none⟩ = some (.int .i64 p) := by rw [hW]; exact pair0 _ _ _ _
  have c1 : W.cell? ⟨w.heap.size, 1, none⟩ = some (.slice a n c) := by rw [hW]; exact pair1 _ _ _ _
  have HA := Hid.mk (ha.below B0)
  have HZ := Hid.mk hz
  have HB0 := Hid.mk B0
  have K := Hid.mk (implGoodTable_any a n c ts p W hz hn HA.out)
  clear ha hz B0
  go_enter Tryz.func28, Tryz.ntmps28
  go_wp2_with fail
  rw [← hW]
  clear hW
  refine K.out.mono ?_
  rintro e w1 ⟨rfl, hb1⟩
  have c0 := cell_later hb1 c0
  have c1 := cell_later hb1 c1
  have HA1 := Hid.mk (HA.out.below hb1)
  have HB1 := Hid.mk (HB0.out.trans (hb1.mono HB0.out.size))
  clear hb1 K HA HB0
  cases hg : goodT p ts with
  | false =>
    go_wp2
    go_ret
    exact ⟨by rw [hg]; rfl, HB1.out⟩
  | true =>
    by_cases hp : p = (n' : Int)
    · have hp' : (p != (n' : Int)) = false := by rw [hp]; simp
      have HP := Hid.mk hp
      clear hp
      go_wp2_with fail
      go_loopw [20] (fun i wx => ∃ (k : Nat), k ≤ n ∧ i = .int .i64 k ∧ oneB ts = oneB (ts.drop k) ∧ Below w1.heap.size w1 wx) (fun i _ => n - (intOf i).toNat)
      case atStart => exact ⟨0, Nat.zero_le _, rfl, rfl, Below.refl _ _⟩
      case round =>
        obtain ⟨k, hk, rfl, ho, hbw⟩ := hrel
        by_cases hlt : k < n
        · obtain ⟨b, off, hab, hc⟩ := (HA1.out.below hbw).some (by have := HZ.out; omega)
          obtain ⟨a2, c2, g0, g1, _, _⟩ := hc k (by have := HZ.out; omega)
          rw [oneB_drop (by have := HZ.out; omega)] at ho
          obtain ⟨x, hx⟩ : ∃ x, (wat ts k).2 = x := ⟨_, rfl⟩
          obtain ⟨m, hm⟩ : ∃ m, (wat ts k).1.length = m := ⟨_, rfl⟩
          rw [hx] at g1 ho
          rw [hm] at g0
          have HO := Hid.mk ho
          have HB := Hid.mk hbw
          have hki : (k : Int) < (n : Int) := by omega
          subst hab
          clear hc ho hbw hx hm
          by_cases h1 : x = 1
          · have h1' : (x != 1) = false := by rw [h1]; rfl
            have HO2 : Hid (oneB ts = oneB (ts.drop (k + 1))) := by show _ = _; rw [HO.out, decide_eq_true h1]; rfl
            clear h1
            go_wp2
            go_roundw
            case rel => exact ⟨k + 1, by omega, by go_num, HO2.out, HB.out.alloc HB.out.size _⟩
            case measure => simp [intOf]; omega
          · have h1' : (x != 1) = true := bne_iff_ne.2 h1
            have HO2 : Hid (oneB ts = false) := by show _ = _; rw [HO.out, decide_eq_false h1]; rfl
            have HBB := Hid.mk (HB1.out.trans ((HB.out.alloc HB.out.size (.cells #[.slice a2 m c2, .int .i64 x] 50)).mono HB1.out.size))
            clear h1
            go_wp2
            go_ret
            exact ⟨by rw [HO2.out]; simp, HBB.out⟩
        · obtain rfl : k = n := by omega
          have hki : ¬ (k : Int) < (k : Int) := by omega
          rw [List.drop_of_length_le (by have := HZ.out; omega)] at ho
          have HO : Hid (oneB ts = true) := ho
          have HBB := Hid.mk (HB1.out.trans (hbw.mono HB1.out.size))
          clear ho hbw
          go_wp2
          go_ret
          exact ⟨by rw [HO.out, decide_eq_true HP.out]; rfl, HBB.out⟩
    · have hp' : (p != (n' : Int)) = true := bne_iff_ne.2 hp
      have HP := Hid.mk hp
      clear hp
      go_wp2
      go_ret
      exact ⟨by rw [decide_eq_false HP.out, hg]; rfl, HB1.out⟩

set_option maxRecDepth 100000 in
set_option maxHeartbeats 4000000 in
theorem l8Plain_any (a : Option Addr) (n c : Nat) (ts : List WRow) (p : Int) (w : World) (hz : ts.length = n) (hn : n ≤ 1048576) (ha : AtW w a ts) :
    Calls Tryz.prog 21 #[.agg #[.int .i64 p, .slice a n c]] w fun e w' => e = .returned (.bool (oneB ts)) ∧ Below w.heap.size w w' := by
  obtain ⟨W, hW⟩ : ∃ W, W = w.alloc (.cells #[.int .i64 p, .slice a n c] 28) := ⟨_, rfl⟩
  have B0 : Below w.heap.size w W := by rw [hW]; exact (Below.refl _ _).alloc (Nat.le_refl _) _
  have c1 : W.cell? ⟨w.heap.size, 1, none⟩ = some (.slice a n c) := by rw [hW]; exact pair1 _ _ _ _
  have HA := Hid.mk (ha.below B0)
  have HZ := Hid.mk hz
  have HB0 := Hid.mk B0
  clear ha hz B0
  go_enter Tryz.func21, Tryz.ntmps21
  go_upto_region 1 with fail
  rw [← hW]
  clear hW
  go_wp2_with fail
  go_loopw [8] (fun i wx => ∃ (k : Nat), k ≤ n ∧ i = .int .i64 k ∧ oneB ts = oneB (ts.drop k) ∧ Below W.heap.size W wx) (fun i _ => n - (intOf i).toNat)
  case atStart => exact ⟨0, Nat.zero_le _, rfl, rfl, Below.refl _ _⟩
  case round =>
    obtain ⟨k, hk, rfl, ho, hbw⟩ := hrel
    by_cases hlt : k < n
    · obtain ⟨b, off, hab, hc⟩ := (HA.out.below hbw).some (by have := HZ.out; omega)
      obtain ⟨a2, c2, g0, g1, _, _⟩ := hc k (by have := HZ.out; omega)
      rw [oneB_drop (by have := HZ.out; omega)] at ho
      obtain ⟨x, hx⟩ : ∃ x, (wat ts k).2 = x := ⟨_, rfl⟩
      obtain ⟨m, hm⟩ : ∃ m, (wat ts k).1.length = m := ⟨_, rfl⟩
      rw [hx] at g1 ho
      rw [hm] at g0
      have HO := Hid.mk ho
      have HB := Hid.mk hbw
      have hki : (k : Int) < (n : Int) := by omega
      subst hab
      clear hc ho hbw hx hm
      by_cases h1 : x = 1
      · have h1' : (x != 1) = false := by rw [h1]; rfl
        have HO2 : Hid (oneB ts = oneB (ts.drop (k + 1))) := by show _ = _; rw [HO.out, decide_eq_true h1]; rfl
        clear h1
        go_wp2
        go_roundw
        case rel => exact ⟨k + 1, by omega, by go_num, HO2.out, HB.out.alloc HB.out.size _⟩
        case measure => simp [intOf]; omega
      · have h1' : (x != 1) = true := bne_iff_ne.2 h1
        have HO2 : Hid (oneB ts = false) := by show _ = _; rw [HO.out, decide_eq_false h1]; rfl
        have HBB := Hid.mk (HB0.out.trans ((HB.out.alloc HB.out.size (.cells #[.slice a2 m c2, .int .i64 x] 50)).mono HB0.out.size))
        clear h1
        go_wp2
        go_ret
        exact ⟨by rw [HO2.out]; rfl, HBB.out⟩
    · obtain rfl : k = n := by omega
      have hki : ¬ (k : Int) < (k : Int) := by omega
      rw [List.drop_of_length_le (by have := HZ.out; omega)] at ho
      have HO : Hid (oneB ts = true) := ho
      have HBB := Hid.mk (HB0.out.trans (hbw.mono HB0.out.size))
      clear ho hbw
      go_wp2
      go_ret
      exact ⟨by rw [HO.out]; rfl, HBB.out⟩

end Go.Proofs.YtpnaoahlfhbbmaaGreat
