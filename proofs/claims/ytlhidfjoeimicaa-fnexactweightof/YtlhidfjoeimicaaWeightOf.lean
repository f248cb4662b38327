/- Contracts of impl.WeightOf, spec.l2Of, spec.WeightOf. -/
import Derived.Test.YtlhidfjoeimicaaMapA
import Derived.Test.YtlhidfjoeimicaaPlainC
import Derived.Test.YtlhidfjoeimicaaGoodTI
import Derived.Test.YtlhidfjoeimicaaGoodTS
namespace Go.Proofs.Ytlhidfjoeimicaa
open Go.RowKit Go.Maps

/-- A row of the table's columns. -/
def okW (p : Int) (ts : List WRow) (zs : List Int) : Bool := goodT p ts && (good zs && decide ((zs.length : Int) = p))
def weightAns (p : Int) (ts : List WRow) (zs : List Int) : Int := if okW p ts zs then wOf ts zs else 0

theorem sumAt_wOf {ts : List WRow} {zs : List Int} (hg : ∀ t ∈ ts, good t.1 = true) (hz : good zs = true) (hr : Rises ts) : sumAt ts ts.length 1 (raised zs) = wOf ts zs := by
  unfold sumAt
  rw [List.take_length]
  induction ts with
  | nil => rfl
  | cons t ts ih =>
    obtain ⟨h1, h2⟩ := List.pairwise_cons.1 hr
    rw [List.map_cons, List.sum_cons, ih (fun s hs => hg s (by simp [hs])) h2, wOf_cons]
    by_cases e : t.1 = zs
    · rw [if_pos (by rw [e]), if_pos e, wOf_absent (fun s hs => by rw [← e]; exact (cmp_ne (h1 s hs)).symm)]; omega
    · rw [if_neg (fun h => e (raised_inj (hg t (by simp)) hz h)), if_neg e]; omega
theorem goodT_rows {p : Int} {ts : List WRow} (h : goodT p ts = true) : ∀ t ∈ ts, good t.1 = true := fun t ht => by
  obtain ⟨k, hk, rfl⟩ := List.getElem_of_mem ht
  have := (goodW_cells (stepB_good ((goodT_parts h).2.2 k hk))).1
  simpa [wat, List.getD, hk] using this

set_option maxHeartbeats 2000000 in
theorem implWeightOf_any (a a' : Option Addr) (n n' c c' : Nat) (ts : List WRow) (p : Int) (zs : List Int) (w : World) (hz : ts.length = n) (hz' : zs.length = n') (hn : n ≤ 1048576) (hn' : n' ≤ 1048576) (ha : AtW w a ts) (ha' : At w a' zs) :
    Calls Try.prog 29 #[.agg #[.int .i64 p, .slice a n c], .agg #[.slice a' n' c']] w fun e w' => e = .returned (.tuple #[.int .i64 (weightAns p ts zs), .bool (okW p ts zs)]) ∧ Below w.heap.size w w' := by
  obtain ⟨W, hW⟩ : ∃ W, W = (w.alloc (.cells #[.int .i64 p, .slice a n c] 26)).alloc (.cells #[.slice a' n' c'] 50) := ⟨_, rfl⟩
  have B0 : Below w.heap.size w W := by rw [hW]; exact ((Below.refl _ _).alloc (Nat.le_refl _) _).alloc (by simp) _
  have t0 : W.cell? ⟨w.heap.size, 1, none⟩ = some (.slice a n c) := by rw [hW]; simp
  have p0 : W.cell? ⟨w.heap.size, 0, none⟩ = some (.int .i64 p) := by rw [hW]; simp
  have r0 : W.cell? ⟨w.heap.size + 1, 0, none⟩ = some (.slice a' n' c') := by rw [hW]; simp
  have HA := ha.below B0
  have HR := ha'.below B0
  clear ha ha'
  have hn6 : n' ≤ 9223372036854775807 := by omega
  cases hg : goodT p ts with
  | false =>
    have HG := Hid.mk hg
    have HO : Hid (okW p ts zs = false) := by show _ = _; simp [okW, hg]
    clear hg
    go_enter Try.func29, Try.ntmps29
    go_wp2_with fail
    rw [← hW]
    clear hW
    refine (implGoodTable_any _ _ _ ts _ _ hz hn HA).mono ?_
    rintro e w1 ⟨rfl, hb1⟩
    rw [HG.out]
    have B1 := B0.trans (hb1.mono B0.size)
    go_wp2
    go_ret2
    exact ⟨ret_ib (by simp [weightAns, HO.out]) HO.out.symm, B1⟩
  | true =>
    have HG := Hid.mk hg
    clear hg
    cases hgr : good zs with
    | false =>
      have HGR := Hid.mk hgr
      have HO : Hid (okW p ts zs = false) := by show _ = _; simp [okW, hgr]
      clear hgr
      go_enter Try.func29, Try.ntmps29
      go_wp2_with fail
      rw [← hW]
      clear hW
      refine (implGoodTable_any _ _ _ ts _ _ hz hn HA).mono ?_
      rintro e w1 ⟨rfl, hb1⟩
      rw [HG.out]
      have B1 := B0.trans (hb1.mono B0.size)
      have t1 := cell_later hb1 t0
      have p1 := cell_later hb1 p0
      have r1 := cell_later hb1 r0
      have HA1 := HA.below hb1
      have HR1 := HR.below hb1
      clear hb1 t0 p0 r0 HA HR B0
      go_wp2_with fail
      refine (implGoodRow_any _ _ _ zs _ hz' hn6 HR1).mono ?_
      rintro e w2 ⟨rfl, hb2⟩
      rw [HGR.out]
      have B2 := B1.trans (hb2.mono B1.size)
      go_wp2
      go_ret2
      exact ⟨ret_ib (by simp [weightAns, HO.out]) HO.out.symm, B2⟩
    | true =>
      have HGR := Hid.mk hgr
      clear hgr
      by_cases hl : (n' : Int) = p
      · have hne : ((n' : Int) != p) = false := by simp [hl]
        have HO : Hid (okW p ts zs = true) := by show _ = _; simp [okW, HG.out, HGR.out, hz', hl]
        clear hl
        have l6 : n' ≤ 6 := by have := good_len HGR.out; omega
        have h60 := (goodT_parts HG.out).2.1
        have h200 : n ≤ 200 := by omega
        have hgr : ∀ k, k < n → good (wat ts k).1 = true ∧ -1000000 ≤ (wat ts k).2 ∧ (wat ts k).2 ≤ 1000000 := fun k hk => by have := goodW_cells (stepB_good ((goodT_parts HG.out).2.2 k (by omega))); exact ⟨this.1, this.2.2.1, this.2.2.2⟩
        have HW : Hid (sumAt ts n 1 (raised zs) = weightAns p ts zs) := by show _ = _; rw [← hz, sumAt_wOf (goodT_rows HG.out) HGR.out (goodT_rises HG.out)]; simp [weightAns, HO.out]
        go_enter Try.func29, Try.ntmps29
        go_wp2_with fail
        rw [← hW]
        clear hW
        refine (implGoodTable_any _ _ _ ts _ _ hz hn HA).mono ?_
        rintro e w1 ⟨rfl, hb1⟩
        rw [HG.out]
        have B1 := B0.trans (hb1.mono B0.size)
        have t1 := cell_later hb1 t0
        have p1 := cell_later hb1 p0
        have r1 := cell_later hb1 r0
        have HA1 := HA.below hb1
        have HR1 := HR.below hb1
        clear hb1 t0 p0 r0 HA HR B0
        go_wp2_with fail
        refine (implGoodRow_any _ _ _ zs _ hz' hn6 HR1).mono ?_
        rintro e w2 ⟨rfl, hb2⟩
        rw [HGR.out]
        have B2 := B1.trans (hb2.mono B1.size)
        have t2 := cell_later hb2 t1
        have p2 := cell_later hb2 p1
        have r2 := cell_later hb2 r1
        have HA2 := HA1.below hb2
        have HR2 := HR1.below hb2
        clear hb2 t1 p1 r1 HA1 HR1 B1
        go_wp2
        refine wp_region_held_drew (S := fun w' => w'.cell? ⟨w.heap.size, 1, none⟩ = some (.slice a n c) ∧ w'.cell? ⟨w.heap.size + 1, 0, none⟩ = some (.slice a' n' c')) (by kernel_rfl) ?_ (fun hHeld => ?_)
        · (try dsimp only)
          exact ⟨t2, r2⟩
        refine wpAnyH_take (i := 0) (oi := ?_) (v := ?_) ?_ (by kernel_rfl) (by kernel_rfl) (by kernel_rfl) ?_ (Or.inl ⟨?_, ?_⟩) (by assumption) ?_
        rotate_left 2
        · (simp only [List.getElem?_toArray, List.getElem?_cons_zero]; rfl)
        · exact fun _ _ _ h => h
        · rfl
        · (intro wS hSw; (try dsimp only at hSw); go_simp; (try with_reducible rfl))
        (try simp only [Act.put, List.setIfInBounds_toArray, List.set_cons_zero, List.set_cons_succ])
        refine wpAnyH_take (i := 1) (oi := ?_) (v := ?_) ?_ (by kernel_rfl) (by kernel_rfl) (by kernel_rfl) ?_ (Or.inl ⟨?_, ?_⟩) (by assumption) ?_
        rotate_left 2
        · (simp only [List.getElem?_toArray, List.getElem?_cons_zero, List.getElem?_cons_succ]; rfl)
        · exact fun _ _ _ h => h
        · rfl
        · (intro wS hSw; (try dsimp only at hSw); go_simp; (try with_reducible rfl))
        (try simp only [Act.put, List.setIfInBounds_toArray, List.set_cons_zero, List.set_cons_succ])
        refine wpAnyH_take (i := 3) (oi := ?_) (v := ?_) ?_ (by kernel_rfl) (by kernel_rfl) (by kernel_rfl) ?_ (Or.inl ⟨?_, ?_⟩) (by assumption) ?_
        rotate_left 2
        · (simp only [List.getElem?_toArray, List.getElem?_cons_zero, List.getElem?_cons_succ]; rfl)
        · exact fun _ _ _ h => h
        · rfl
        · (intro wS hSw; (try dsimp only at hSw); go_simp; (try with_reducible rfl))
        (try simp only [Act.put, List.setIfInBounds_toArray, List.set_cons_zero, List.set_cons_succ])
        refine wpAnyH_ready (rs := [2]) (by kernel_rfl) (by simp) ?_
        refine AllReadyH.cons (o := ?_) ?_ (fun K hK => ?_) AllReadyH.nil
        rotate_left
        · (simp only [List.getElem?_toArray, List.getElem?_cons_zero, List.getElem?_cons_succ]; rfl)
        go_simp
        go_at_call 42
        refine (sumsOf_any _ _ _ ts _ _ hz h200 (by omega) (by omega) hgr HA2.drew).mono ?_
        rintro e w3 ⟨b, D, rfl, hbb, ho3, hmi, hb3⟩
        have t3 := cell_later hb3 t2
        have r3 := cell_later hb3 r2
        have HR3 := HR2.drew.below hb3
        (try go_wp2_with fail)
        refine hK.out _ _ ?_ (fun hHeld' => ?_)
        · (try dsimp only)
          exact ⟨t3, r3⟩
        clear hK K hHeld
        have hHeld := hHeld'
        clear hHeld'
        (try simp only [Act.put, List.setIfInBounds_toArray, List.set_cons_zero, List.set_cons_succ])
        refine wpAnyH_ready (rs := [4]) (by kernel_rfl) (by simp) ?_
        refine AllReadyH.cons (o := ?_) ?_ (fun K hK => ?_) AllReadyH.nil
        rotate_left
        · (simp only [List.getElem?_toArray, List.getElem?_cons_zero, List.getElem?_cons_succ]; rfl)
        go_simp
        go_at_call 49
        refine (arrayOf_any _ _ _ zs _ hz' l6 (fun j hj => good_cell HGR.out j (by omega)) HR3).mono ?_
        rintro e w4 ⟨x0, x1, x2, x3, x4, x5, rfl, hr, hb4⟩
        have t4 := cell_later hb4 t3
        have r4 := cell_later hb4 r3
        have ho4 := ho3.kept (Below.toGrown hb4 none) (by simp)
        have hkey : keyOf Try.prog 76 (.agg #[.int .i64 x0, .int .i64 x1, .int .i64 x2, .int .i64 x3, .int .i64 x4, .int .i64 x5]) = some (klit (raised zs)) := by
          have := keyOf_arr (raised zs) (fits_raised HGR.out)
          rw [hr] at this ⊢
          exact this
        obtain ⟨cc, hlk, hat, _⟩ := ho4.lookup_int Try.keyedA Try.underlying68 Try.underlying3 (Try.zeroInt _) hkey
        have HCC := Hid.mk (hmi.at (fits_raised HGR.out) hat)
        clear hat hr
        (try go_wp2_with fail)
        refine hK.out _ _ ?_ (fun hHeld' => ?_)
        · (try dsimp only)
          exact ⟨t4, r4⟩
        clear hK K hHeld
        have hHeld := hHeld'
        clear hHeld'
        (try simp only [Act.put, List.setIfInBounds_toArray, List.set_cons_zero, List.set_cons_succ])
        refine wpAnyH_ready (rs := [5]) (by kernel_rfl) (by simp) ?_
        refine AllReadyH.cons (o := ?_) ?_ (fun K hK => ?_) AllReadyH.nil
        rotate_left
        · (simp only [List.getElem?_toArray, List.getElem?_cons_zero, List.getElem?_cons_succ]; rfl)
        go_simp
        skip
        (try go_wp2_with fail)
        refine hK.out _ _ ?_ (fun hHeld' => ?_)
        · (try dsimp only)
          exact ⟨t4, r4⟩
        clear hK K hHeld
        have hHeld := hHeld'
        clear hHeld'
        (try simp only [Act.put, List.setIfInBounds_toArray, List.set_cons_zero, List.set_cons_succ])
        refine wpAnyH_take (i := 6) (oi := ?_) (v := ?_) ?_ (by kernel_rfl) (by kernel_rfl) (by kernel_rfl) ?_ (Or.inl ⟨?_, ?_⟩) (by assumption) ?_
        rotate_left 2
        · (simp only [List.getElem?_toArray, List.getElem?_cons_zero, List.getElem?_cons_succ]; rfl)
        · exact fun _ _ _ h => h
        · rfl
        · (intro wS hSw; (try dsimp only at hSw); go_simp; (try with_reducible rfl))
        (try simp only [Act.put, List.setIfInBounds_toArray, List.set_cons_zero, List.set_cons_succ])
        refine wpAnyH_take (i := 7) (oi := ?_) (v := ?_) ?_ (by kernel_rfl) (by kernel_rfl) (by kernel_rfl) ?_ (Or.inl ⟨?_, ?_⟩) (by assumption) ?_
        rotate_left 2
        · (simp only [List.getElem?_toArray, List.getElem?_cons_zero, List.getElem?_cons_succ]; rfl)
        · exact fun _ _ _ h => h
        · rfl
        · (intro wS hSw; (try dsimp only at hSw); go_simp; (try with_reducible rfl))
        (try simp only [Act.put, List.setIfInBounds_toArray, List.set_cons_zero, List.set_cons_succ])
        refine wpAnyH_done (by kernel_rfl) ?_ _
        go_wp2
        go_ret2
        exact ⟨ret_ib (HCC.out.trans HW.out) HO.out.symm, (B2.drew.trans (hb3.mono B2.size)).trans (hb4.mono (by have := hb3.size; have := B2.size; simp only [drew_size] at *; omega))⟩
      · have hne : ((n' : Int) != p) = true := by simp [hl]
        have HO : Hid (okW p ts zs = false) := by show _ = _; simp [okW, hz', hl]
        clear hl
        go_enter Try.func29, Try.ntmps29
        go_wp2_with fail
        rw [← hW]
        clear hW
        refine (implGoodTable_any _ _ _ ts _ _ hz hn HA).mono ?_
        rintro e w1 ⟨rfl, hb1⟩
        rw [HG.out]
        have B1 := B0.trans (hb1.mono B0.size)
        have t1 := cell_later hb1 t0
        have p1 := cell_later hb1 p0
        have r1 := cell_later hb1 r0
        have HA1 := HA.below hb1
        have HR1 := HR.below hb1
        clear hb1 t0 p0 r0 HA HR B0
        go_wp2_with fail
        refine (implGoodRow_any _ _ _ zs _ hz' hn6 HR1).mono ?_
        rintro e w2 ⟨rfl, hb2⟩
        rw [HGR.out]
        have B2 := B1.trans (hb2.mono B1.size)
        have t2 := cell_later hb2 t1
        have p2 := cell_later hb2 p1
        have r2 := cell_later hb2 r1
        have HA2 := HA1.below hb2
        have HR2 := HR1.below hb2
        clear hb2 t1 p1 r1 HA1 HR1 B1
        go_wp2
        go_ret2
        exact ⟨ret_ib (by simp [weightAns, HO.out]) HO.out.symm, B2⟩

set_option maxHeartbeats 2000000 in
theorem l2Of_any (a a' : Option Addr) (n n' c c' : Nat) (ts : List WRow) (p : Int) (zs : List Int) (w : World) (hz : ts.length = n) (hz' : zs.length = n') (hn : n ≤ 1048576) (l6 : n' ≤ 6) (hgr : ∀ k, k < n → (wat ts k).1.length ≤ 6) (ha : AtW w a ts) (ha' : At w a' zs) :
    Calls Try.prog 54 #[.agg #[.int .i64 p, .slice a n c], .agg #[.slice a' n' c']] w fun e w' => e = .returned (.int .i64 (wOf ts zs)) ∧ Below w.heap.size w w' := by
  obtain ⟨W, hW⟩ : ∃ W, W = (w.alloc (.cells #[.int .i64 p, .slice a n c] 26)).alloc (.cells #[.slice a' n' c'] 50) := ⟨_, rfl⟩
  have B0 : Below w.heap.size w W := by rw [hW]; exact ((Below.refl _ _).alloc (Nat.le_refl _) _).alloc (by simp) _
  have t0 : W.cell? ⟨w.heap.size, 1, none⟩ = some (.slice a n c) := by rw [hW]; simp
  have p0 : W.cell? ⟨w.heap.size, 0, none⟩ = some (.int .i64 p) := by rw [hW]; simp
  have r0 : W.cell? ⟨w.heap.size + 1, 0, none⟩ = some (.slice a' n' c') := by rw [hW]; simp
  have HA := ha.below B0
  have HR := ha'.below B0
  clear ha ha'
  go_enter Try.func54, Try.ntmps54
  go_wp2
  rw [← hW]
  clear hW
  go_loopw [10] (fun i wr => ∃ (k : Nat), k ≤ n ∧ i = .int .i64 k ∧ wOf ts zs = wOf (ts.drop k) zs ∧ Below W.heap.size W wr) (fun i _ => n - (intOf i).toNat)
  case atStart => exact ⟨0, Nat.zero_le _, rfl, rfl, Below.refl _ _⟩
  case round =>
    obtain ⟨k, hk, rfl, hw0, hbw⟩ := hrel
    have B2 := B0.trans (hbw.mono B0.size)
    by_cases hlt : k < n
    · obtain ⟨b, off, rfl, hc⟩ := (HA.below hbw).some (by omega)
      obtain ⟨q, d, hcx, hwx, hm, hat⟩ := hc k (by omega)
      have h6 := hgr k hlt
      have HD := Hid.mk (hw0.trans (wOf_drop ts k zs (by omega)))
      have HR1 := HR.below hbw
      have r1 := cell_later hbw r0
      have hki : (k : Int) < (n : Int) := by omega
      generalize wat ts k = Y at *
      obtain ⟨ys, x⟩ := Y
      simp only at hcx hwx hat hm h6 HD
      obtain ⟨m, hmm⟩ : ∃ m, ys.length = m := ⟨_, rfl⟩
      rw [hmm] at hcx hm h6
      have HM := Hid.mk hmm
      clear hmm hc hw0 t0 p0 r0 HA HR
      obtain ⟨V, hV⟩ : ∃ V, V = wr.alloc (.cells #[.slice q m d, .int .i64 x] 61) := ⟨_, rfl⟩
      have hbV : Below wr.heap.size wr V := by rw [hV]; exact (Below.refl _ _).alloc (Nat.le_refl _) _
      have r2 := cell_later hbV r1
      have c3 : V.cell? ⟨wr.heap.size, 0, none⟩ = some (.slice q m d) := by rw [hV]; exact pair0 wr _ _ _
      have c4 : V.cell? ⟨wr.heap.size, 1, none⟩ = some (.int .i64 x) := by rw [hV]; exact pair1 wr _ _ _
      have HAx := hat.below hbV
      have HRx := HR1.below hbV
      have B3 := B2.trans (hbV.mono B2.size)
      have V3 := hbw.trans (hbV.mono hbw.size)
      have r2' := r2
      rw [hV] at r2'
      go_wp2_with fail
      rw [← hV]
      clear hV hcx hwx r1 r2' hat HR1 hbV
      refine (l1Compare_any _ _ _ _ _ _ ys zs _ HM.out hz' h6 l6 HAx HRx).mono ?_
      rintro e w2 ⟨rfl, hb2⟩
      have c5 := cell_later hb2 c4
      clear c3 c4 r2 HAx HRx
      by_cases e : ys = zs
      · have hcm : (cmp ys zs == 0) = true := by rw [e, cmp_self]; rfl
        have HX : Hid (wOf ts zs = x) := HD.out.trans (if_pos e)
        clear e HD
        go_wp2
        go_ret
        exact ⟨ret_int HX.out.symm, B3.trans (hb2.mono B3.size)⟩
      · have hcm : (cmp ys zs == 0) = false := by
          simp only [beq_eq_false_iff_ne]
          exact fun h => e (cmp_eq h)
        have HX : Hid (wOf ts zs = wOf (ts.drop (k + 1)) zs) := HD.out.trans (if_neg e)
        clear e HD
        go_wp2
        go_roundw
        case rel => exact ⟨k + 1, by omega, by go_num, HX.out, V3.trans (hb2.mono V3.size)⟩
        case measure => simp [intOf]; omega
    · have HX : Hid (wOf ts zs = 0) := by show _ = _; rw [hw0, List.drop_of_length_le (by omega)]; rfl
      clear hw0
      go_wp2
      go_ret
      exact ⟨ret_int HX.out.symm, B2⟩

set_option maxHeartbeats 2000000 in
theorem specWeightOf_any (a a' : Option Addr) (n n' c c' : Nat) (ts : List WRow) (p : Int) (zs : List Int) (w : World) (hz : ts.length = n) (hz' : zs.length = n') (hn : n ≤ 1048576) (hn' : n' ≤ 1048576) (ha : AtW w a ts) (ha' : At w a' zs) :
    Calls Try.prog 27 #[.agg #[.int .i64 p, .slice a n c], .agg #[.slice a' n' c']] w fun e w' => e = .returned (.tuple #[.int .i64 (weightAns p ts zs), .bool (okW p ts zs)]) ∧ Below w.heap.size w w' := by
  obtain ⟨W, hW⟩ : ∃ W, W = (w.alloc (.cells #[.int .i64 p, .slice a n c] 26)).alloc (.cells #[.slice a' n' c'] 50) := ⟨_, rfl⟩
  have B0 : Below w.heap.size w W := by rw [hW]; exact ((Below.refl _ _).alloc (Nat.le_refl _) _).alloc (by simp) _
  have t0 : W.cell? ⟨w.heap.size, 1, none⟩ = some (.slice a n c) := by rw [hW]; simp
  have p0 : W.cell? ⟨w.heap.size, 0, none⟩ = some (.int .i64 p) := by rw [hW]; simp
  have r0 : W.cell? ⟨w.heap.size + 1, 0, none⟩ = some (.slice a' n' c') := by rw [hW]; simp
  have HA := ha.below B0
  have HR := ha'.below B0
  clear ha ha'
  have hn6 : n' ≤ 9223372036854775807 := by omega
  cases hg : goodT p ts with
  | false =>
    have HG := Hid.mk hg
    have HO : Hid (okW p ts zs = false) := by show _ = _; simp [okW, hg]
    clear hg
    go_enter Try.func27, Try.ntmps27
    go_wp2_with fail
    rw [← hW]
    clear hW
    refine (specGoodTable_any _ _ _ ts _ _ hz hn HA).mono ?_
    rintro e w1 ⟨rfl, hb1⟩
    rw [HG.out]
    have B1 := B0.trans (hb1.mono B0.size)
    go_wp2
    go_ret2
    exact ⟨ret_ib (by simp [weightAns, HO.out]) HO.out.symm, B1⟩
  | true =>
    have HG := Hid.mk hg
    clear hg
    cases hgr : good zs with
    | false =>
      have HGR := Hid.mk hgr
      have HO : Hid (okW p ts zs = false) := by show _ = _; simp [okW, hgr]
      clear hgr
      go_enter Try.func27, Try.ntmps27
      go_wp2_with fail
      rw [← hW]
      clear hW
      refine (specGoodTable_any _ _ _ ts _ _ hz hn HA).mono ?_
      rintro e w1 ⟨rfl, hb1⟩
      rw [HG.out]
      have B1 := B0.trans (hb1.mono B0.size)
      have t1 := cell_later hb1 t0
      have p1 := cell_later hb1 p0
      have r1 := cell_later hb1 r0
      have HA1 := HA.below hb1
      have HR1 := HR.below hb1
      clear hb1 t0 p0 r0 HA HR B0
      go_wp2_with fail
      refine (specGoodRow_any _ _ _ zs _ hz' hn6 HR1).mono ?_
      rintro e w2 ⟨rfl, hb2⟩
      rw [HGR.out]
      have B2 := B1.trans (hb2.mono B1.size)
      go_wp2
      go_ret2
      exact ⟨ret_ib (by simp [weightAns, HO.out]) HO.out.symm, B2⟩
    | true =>
      have HGR := Hid.mk hgr
      clear hgr
      by_cases hl : (n' : Int) = p
      · have hne : ((n' : Int) != p) = false := by simp [hl]
        have HO : Hid (okW p ts zs = true) := by show _ = _; simp [okW, HG.out, HGR.out, hz', hl]
        clear hl
        have l6 : n' ≤ 6 := by have := good_len HGR.out; omega
        have h60 := (goodT_parts HG.out).2.1
        have h200 : n ≤ 200 := by omega
        have HW : Hid (wOf ts zs = weightAns p ts zs) := by show _ = _; simp [weightAns, HO.out]
        have hgr : ∀ k, k < n → (wat ts k).1.length ≤ 6 := fun k hk => good_len (goodW_cells (stepB_good ((goodT_parts HG.out).2.2 k (by omega)))).1
        go_enter Try.func27, Try.ntmps27
        go_wp2_with fail
        rw [← hW]
        clear hW
        refine (specGoodTable_any _ _ _ ts _ _ hz hn HA).mono ?_
        rintro e w1 ⟨rfl, hb1⟩
        rw [HG.out]
        have B1 := B0.trans (hb1.mono B0.size)
        have t1 := cell_later hb1 t0
        have p1 := cell_later hb1 p0
        have r1 := cell_later hb1 r0
        have HA1 := HA.below hb1
        have HR1 := HR.below hb1
        clear hb1 t0 p0 r0 HA HR B0
        go_wp2_with fail
        refine (specGoodRow_any _ _ _ zs _ hz' hn6 HR1).mono ?_
        rintro e w2 ⟨rfl, hb2⟩
        rw [HGR.out]
        have B2 := B1.trans (hb2.mono B1.size)
        have t2 := cell_later hb2 t1
        have p2 := cell_later hb2 p1
        have r2 := cell_later hb2 r1
        have HA2 := HA1.below hb2
        have HR2 := HR1.below hb2
        clear hb2 t1 p1 r1 HA1 HR1 B1
        go_wp2_with fail
        refine (l2Of_any _ _ _ _ _ _ ts _ zs _ hz hz' hn l6 hgr HA2 HR2).mono ?_
        rintro e w3 ⟨rfl, hb3⟩
        rw [HW.out]
        go_wp2
        go_ret2
        exact ⟨ret_ib rfl HO.out.symm, B2.trans (hb3.mono B2.size)⟩
      · have hne : ((n' : Int) != p) = true := by simp [hl]
        have HO : Hid (okW p ts zs = false) := by show _ = _; simp [okW, hz', hl]
        clear hl
        go_enter Try.func27, Try.ntmps27
        go_wp2_with fail
        rw [← hW]
        clear hW
        refine (specGoodTable_any _ _ _ ts _ _ hz hn HA).mono ?_
        rintro e w1 ⟨rfl, hb1⟩
        rw [HG.out]
        have B1 := B0.trans (hb1.mono B0.size)
        have t1 := cell_later hb1 t0
        have p1 := cell_later hb1 p0
        have r1 := cell_later hb1 r0
        have HA1 := HA.below hb1
        have HR1 := HR.below hb1
        clear hb1 t0 p0 r0 HA HR B0
        go_wp2_with fail
        refine (specGoodRow_any _ _ _ zs _ hz' hn6 HR1).mono ?_
        rintro e w2 ⟨rfl, hb2⟩
        rw [HGR.out]
        have B2 := B1.trans (hb2.mono B1.size)
        have t2 := cell_later hb2 t1
        have p2 := cell_later hb2 p1
        have r2 := cell_later hb2 r1
        have HA2 := HA1.below hb2
        have HR2 := HR1.below hb2
        clear hb2 t1 p1 r1 HA1 HR1 B1
        go_wp2
        go_ret2
        exact ⟨ret_ib (by simp [weightAns, HO.out]) HO.out.symm, B2⟩

end Go.Proofs.Ytlhidfjoeimicaa
