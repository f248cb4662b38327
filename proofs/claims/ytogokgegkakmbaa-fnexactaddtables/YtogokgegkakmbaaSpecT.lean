/- Contracts of spec.NewTable, spec.l2Add, spec.AddTables, spec.l2Scale, spec.ScaleTable, spec.NegateTable, spec.EmptyTable. -/
import Derived.Test.YtogokgegkakmbaaL2Tell
import Derived.Test.YtogokgegkakmbaaScaleT
namespace Go.Proofs.Ytogokgegkakmbaa
open Go.RowKit

theorem newB_nil (p : Int) : newB p [] = goodT p [] := by simp [newB, goodL, goodT, putAll]

theorem wrap64_in {v : Int} (h1 : -9223372036854775808 ≤ v) (h2 : v ≤ 9223372036854775807) : wrap64 v = v := by unfold wrap64; omega

/-- Weights that were put stay within their sum. -/
theorem putAll_ok {ts l : List WRow} {M0 M : Int} (h0 : 0 ≤ M0) (hM : 0 ≤ M) (hr : Rises ts) (ht : ∀ t ∈ ts, t.1.length ≤ 6 ∧ -M0 ≤ t.2 ∧ t.2 ≤ M0) (hl : ∀ t ∈ l, t.1.length ≤ 6 ∧ -M ≤ t.2 ∧ t.2 ≤ M) :
    ∀ t ∈ putAll ts l, t.1.length ≤ 6 ∧ -(M0 + M * l.length) ≤ t.2 ∧ t.2 ≤ M0 + M * l.length := fun t h => by
  have h6 : t.1.length ≤ 6 := by
    rcases putAll_rows h with ⟨s, hs, e⟩ | ⟨s, hs, e⟩
    · rw [← e]; exact (ht s hs).1
    · rw [← e]; exact (hl s hs).1
  have hw := wOf_mem (putAll_rises (l := l) hr) h
  rw [putAll_wOf t.1 hr] at hw
  have b1 := wOf_bound (zs := t.1) h0 (fun s hs => (ht s hs).2)
  have b2 := sumW_bound (zs := t.1) hM (fun s hs => (hl s hs).2)
  omega

theorem at_of_mem {ts : List WRow} {Q : WRow → Prop} (h : ∀ t ∈ ts, Q t) (k : Nat) (hk : k < ts.length) : Q (wat ts k) := h _ (wat_mem hk)
theorem mem_of_at {ts : List WRow} {Q : WRow → Prop} (h : ∀ k, k < ts.length → Q (wat ts k)) : ∀ t ∈ ts, Q t := fun t ht => by
  obtain ⟨k, hk, rfl⟩ := List.getElem_of_mem ht
  have := h k hk
  rwa [show wat ts k = ts[k] by simp [wat, List.getD, hk]] at this

set_option maxRecDepth 100000 in
set_option maxHeartbeats 4000000 in
theorem l2Add_any (a a' : Option Addr) (n n' c c' : Nat) (ts ts' : List WRow) (w : World) (hz : ts.length = n) (hz' : ts'.length = n') (hn : n ≤ 2048) (hn' : n' ≤ 2048) (hF : Formed a n c) (hr : Rises ts)
    (hg : ∀ t ∈ ts, t.1.length ≤ 6 ∧ -1000000 ≤ t.2 ∧ t.2 ≤ 1000000) (hg' : ∀ t ∈ ts', t.1.length ≤ 6 ∧ -1000000 ≤ t.2 ∧ t.2 ≤ 1000000) (ha : AtM w a ts) (ha' : AtM w a' ts') :
    Calls Try.prog 42 #[.slice a n c, .slice a' n' c'] w fun e w' => ∃ r k d, e = .returned (.slice r k d) ∧ (putAll ts ts').length = k ∧ Formed r k d ∧ AtM w' r (putAll ts ts') ∧ Below w.heap.size w w' := by
  go_enter Try.func42, Try.ntmps42
  go_wp2
  go_loopw [5, 11] (fun o i wr => ∃ (k : Nat) (r : Option Addr) (m d : Nat), k ≤ n' ∧ i = .int .i64 k ∧ o = .slice r m d ∧ (putAll ts (ts'.take k)).length = m ∧ Formed r m d ∧ AtM wr r (putAll ts (ts'.take k)) ∧ Below w.heap.size w wr) (fun _ i _ => n' - (intOf i).toNat)
  case atStart => exact ⟨0, a, n, c, Nat.zero_le _, rfl, rfl, hz, hF, ha, Below.refl _ _⟩
  case round =>
    obtain ⟨k, r, m, d, hk, rfl, rfl, hm, hFr, har, hbw⟩ := hrel
    by_cases hlt : k < n'
    · obtain ⟨b, off, rfl, hc⟩ := (ha'.below hbw).some (by omega)
      obtain ⟨q, dd, hcx, hwx, hm1, hnil, hat⟩ := hc k (by omega)
      have hgk := at_of_mem hg' k (by omega)
      have HS := Hid.mk (putAll_take ts ts' k (by omega))
      have hki : (k : Int) < (n' : Int) := by omega
      have hml : m ≤ n + k := by have := putAll_len (ts'.take k) ts; rw [List.length_take] at this; omega
      have hok : ∀ j, j < m → (wat (putAll ts (ts'.take k)) j).1.length ≤ 6 ∧ -4000000000000000000 ≤ (wat (putAll ts (ts'.take k)) j).2 ∧ (wat (putAll ts (ts'.take k)) j).2 ≤ 4000000000000000000 := fun j hj => by
        have := at_of_mem (putAll_ok (M0 := 1000000) (M := 1000000) (by omega) (by omega) hr hg (fun t ht => hg' t (List.mem_of_mem_take ht))) j (show j < (putAll ts (ts'.take k)).length by omega)
        rw [List.length_take] at this
        refine ⟨this.1, ?_, ?_⟩ <;> omega
      generalize wat ts' k = Y at *
      obtain ⟨ys, x⟩ := Y
      simp only at hcx hwx hat hm1 hgk HS
      obtain ⟨m2, hmm⟩ : ∃ m2, ys.length = m2 := ⟨_, rfl⟩
      rw [hmm] at hcx hm1 hgk
      have HM := Hid.mk hmm
      obtain ⟨h6, hx1, hx2⟩ := hgk
      obtain ⟨V, hV⟩ : ∃ V, V = wr.alloc (.cells #[.slice q m2 dd, .int .i64 x] 56) := ⟨_, rfl⟩
      have hbV : Below wr.heap.size wr V := by rw [hV]; exact (Below.refl _ _).alloc (Nat.le_refl _) _
      have B1 := hbw.trans (hbV.mono hbw.size)
      clear hmm hc
      go_wp2_with fail
      rw [← hV]
      clear hV hcx hwx
      refine (l2Put_any _ _ _ _ _ _ (putAll ts (ts'.take k)) ys x _ hm HM.out (by omega) hFr h6 hnil hok (by omega) (by omega) (har.below hbV) (hat.below hbV)).mono ?_
      rintro e w2 ⟨r2, m3, d2, rfl, hm3, hF2, ha2, hb2⟩
      rw [← HS.out] at hm3 ha2
      have HM3 := Hid.mk hm3
      have HF2 := Hid.mk hF2
      have HA2 := Hid.mk ha2
      have HB := Hid.mk (B1.trans (hb2.mono B1.size))
      clear hm3 hF2 ha2 hb2 B1 hbw har hm hFr hok hat hbV
      go_wp2
      go_roundw
      case rel => exact ⟨k + 1, _, _, _, by omega, by go_num, rfl, HM3.out, HF2.out, HA2.out, HB.out⟩
      case measure => simp [intOf]; omega
    · obtain rfl : k = n' := by omega
      rw [wtake_all' ts' hz'] at hm har
      go_wp2
      go_ret
      exact ⟨_, _, _, rfl, hm, hFr, har, hbw⟩


theorem goodT_six {p : Int} {ts : List WRow} (h : goodT p ts = true) : ∀ t ∈ ts, t.1.length ≤ 6 ∧ -1000000 ≤ t.2 ∧ t.2 ≤ 1000000 := fun t ht => by
  have := goodL_mem (goodL_of_goodT h) t ht
  exact ⟨good_len this.1, this.2.2⟩
theorem alike_fst {p : Int} {ts : List WRow} {p' : Int} {ts' : List WRow} (h : goodT p ts = false) : alike p ts p' ts' = false := by simp [alike, h]
theorem alike_snd {p : Int} {ts : List WRow} {p' : Int} {ts' : List WRow} (h : goodT p' ts' = false) : alike p ts p' ts' = false := by simp [alike, h]
theorem alike_col {p : Int} {ts : List WRow} {p' : Int} {ts' : List WRow} (h : p ≠ p') : alike p ts p' ts' = false := by simp [alike, h]
theorem alike_yes {p : Int} {ts : List WRow} {p' : Int} {ts' : List WRow} (h : goodT p ts = true) (h' : goodT p' ts' = true) (e : p = p') : alike p ts p' ts' = true := by subst e; simp [alike, h, h']

set_option maxRecDepth 100000 in
set_option maxHeartbeats 4000000 in
theorem specAddTables (a a' : Option Addr) (n n' c c' : Nat) (ts ts' : List WRow) (p p' : Int) (w : World) (hz : ts.length = n) (hz' : ts'.length = n') (hn : n ≤ 1048576) (hn' : n' ≤ 1048576) (hF : Formed a n c) (ha : AtM w a ts) (ha' : AtM w a' ts') :
    Calls Try.prog 18 #[.agg #[.int .i64 p, .slice a n c], .agg #[.int .i64 p', .slice a' n' c']] w fun e w' => TabAns e w' w.heap.size (addB p ts p' ts') p (putAll ts ts') ∧ Below w.heap.size w w' := by
  obtain ⟨W, hW⟩ : ∃ W, W = ((w.alloc (.cells #[.int .i64 p, .slice a n c] 26)).alloc (.cells #[.int .i64 p', .slice a' n' c'] 26)).alloc (.cells #[.int .i64 0, .slice none 0 0] 26) := ⟨_, rfl⟩
  have zW : W.heap.size = w.heap.size + 1 + 1 + 1 := by rw [hW]; simp
  have B0 : Below w.heap.size w W := by rw [hW]; exact (((Below.refl _ _).alloc (Nat.le_refl _) _).alloc (by simp) _).alloc (by simp; omega) _
  have c0 : W.cell? ⟨w.heap.size, 0, none⟩ = some (.int .i64 p) := by rw [hW]; exact alloc_keeps (alloc_keeps (pair0 w _ _ _) _) _
  have c1 : W.cell? ⟨w.heap.size, 1, none⟩ = some (.slice a n c) := by rw [hW]; exact alloc_keeps (alloc_keeps (pair1 w _ _ _) _) _
  have b1 : W.cell? ⟨w.heap.size + 1, 1, none⟩ = some (.slice a' n' c') := by rw [hW]; refine alloc_keeps ?_ _; have := pair1 (w.alloc (.cells #[.int .i64 p, .slice a n c] 26)) (.int .i64 p') (.slice a' n' c') 26; rwa [World.size_alloc] at this
  have b0 : W.cell? ⟨w.heap.size + 1, 0, none⟩ = some (.int .i64 p') := by rw [hW]; refine alloc_keeps ?_ _; have := pair0 (w.alloc (.cells #[.int .i64 p, .slice a n c] 26)) (.int .i64 p') (.slice a' n' c') 26; rwa [World.size_alloc] at this
  have q0 : W.heap[w.heap.size + 1 + 1]? = some (.cells #[.int .i64 0, .slice none 0 0] 26 (0, 0)) := by
    rw [hW]
    have := heap_alloc_new ((w.alloc (.cells #[.int .i64 p, .slice a n c] 26)).alloc (.cells #[.int .i64 p', .slice a' n' c'] 26)) (.cells #[.int .i64 0, .slice none 0 0] 26)
    rwa [World.size_alloc, World.size_alloc] at this
  have e0 : W.cell? ⟨w.heap.size + 1 + 1, 0, none⟩ = some (.int .i64 0) := by rw [cell_of_row _ _ 0 _ _ (0, 0) q0]; rfl
  have e1 : W.cell? ⟨w.heap.size + 1 + 1, 1, none⟩ = some (.slice none 0 0) := by rw [cell_of_row _ _ 1 _ _ (0, 0) q0]; rfl
  have f0 : W.frozen? ⟨w.heap.size + 1 + 1, 0, none⟩ = false := frozen_of_row _ _ 0 _ _ q0
  have f1 : W.frozen? ⟨w.heap.size + 1 + 1, 1, none⟩ = false := frozen_of_row _ _ 1 _ _ q0
  have HA := ha.below B0
  have HA' := ha'.below B0
  clear ha ha' q0
  cases hg : goodT p ts with
  | false =>
    have HG := Hid.mk hg
    clear hg
    go_enter Try.func18, Try.ntmps18
    go_wp2_with fail
    rw [← hW]
    clear hW
    refine (specGoodTable_any _ _ _ ts _ _ hz hn HA.atW).mono ?_
    rintro e w1 ⟨rfl, hb1⟩
    rw [HG.out]
    have B1 := B0.trans (hb1.mono B0.size)
    have f0 := frozen_later hb1 e0 f0
    have f1 := frozen_later hb1 e1 f1
    have e0 := cell_later hb1 e0
    have e1 := cell_later hb1 e1
    have c0 := cell_later hb1 c0
    have c1 := cell_later hb1 c1
    have b0 := cell_later hb1 b0
    have b1 := cell_later hb1 b1
    go_wp2
    refine bodyPost_ret (v := .tuple #[.agg #[.int .i64 0, .slice none 0 0], .bool false]) (by simp [results, Try.results18, go_sem, e0, e1]) rfl ⟨TabAns.zero (addB_no (alike_fst HG.out)) rfl, ?_⟩
    exact (B1.setCell (by show w.heap.size ≤ w.heap.size + 1 + 1; omega) _).setCell (by show w.heap.size ≤ w.heap.size + 1 + 1; omega) _
  | true =>
    have HG := Hid.mk hg
    clear hg
    cases hg' : goodT p' ts' with
    | false =>
      have HG' := Hid.mk hg'
      clear hg'
      go_enter Try.func18, Try.ntmps18
      go_wp2_with fail
      rw [← hW]
      clear hW
      refine (specGoodTable_any _ _ _ ts _ _ hz hn HA.atW).mono ?_
      rintro e w1 ⟨rfl, hb1⟩
      rw [HG.out]
      have B1 := B0.trans (hb1.mono B0.size)
      have f0 := frozen_later hb1 e0 f0
      have f1 := frozen_later hb1 e1 f1
      have e0 := cell_later hb1 e0
      have e1 := cell_later hb1 e1
      have c0 := cell_later hb1 c0
      have c1 := cell_later hb1 c1
      have b0 := cell_later hb1 b0
      have b1 := cell_later hb1 b1
      go_wp2_with fail
      refine (specGoodTable_any _ _ _ ts' _ _ hz' hn' (HA'.below hb1).atW).mono ?_
      rintro e w2 ⟨rfl, hb2⟩
      rw [HG'.out]
      have B2 := B1.trans (hb2.mono B1.size)
      have f0 := frozen_later hb2 e0 f0
      have f1 := frozen_later hb2 e1 f1
      have e0 := cell_later hb2 e0
      have e1 := cell_later hb2 e1
      have c0 := cell_later hb2 c0
      have c1 := cell_later hb2 c1
      have b0 := cell_later hb2 b0
      have b1 := cell_later hb2 b1
      go_wp2
      refine bodyPost_ret (v := .tuple #[.agg #[.int .i64 0, .slice none 0 0], .bool false]) (by simp [results, Try.results18, go_sem, e0, e1]) rfl ⟨TabAns.zero (addB_no (alike_snd HG'.out)) rfl, ?_⟩
      exact (B2.setCell (by show w.heap.size ≤ w.heap.size + 1 + 1; omega) _).setCell (by show w.heap.size ≤ w.heap.size + 1 + 1; omega) _
    | true =>
      have HG' := Hid.mk hg'
      clear hg'
      by_cases hp : p = p'
      · have hpb : (p != p') = false := by simp [hp]
        have HL := Hid.mk (alike_yes HG.out HG'.out hp)
        have HNB : Hid (addB p ts p' ts' = goodT p (putAll ts ts')) := addB_yes HL.out
        clear hp
        go_enter Try.func18, Try.ntmps18
        go_wp2_with fail
        rw [← hW]
        clear hW
        refine (specGoodTable_any _ _ _ ts _ _ hz hn HA.atW).mono ?_
        rintro e w1 ⟨rfl, hb1⟩
        rw [HG.out]
        have B1 := B0.trans (hb1.mono B0.size)
        have f0 := frozen_later hb1 e0 f0
        have f1 := frozen_later hb1 e1 f1
        have e0 := cell_later hb1 e0
        have e1 := cell_later hb1 e1
        have c0 := cell_later hb1 c0
        have c1 := cell_later hb1 c1
        have b0 := cell_later hb1 b0
        have b1 := cell_later hb1 b1
        go_wp2_with fail
        refine (specGoodTable_any _ _ _ ts' _ _ hz' hn' (HA'.below hb1).atW).mono ?_
        rintro e w2 ⟨rfl, hb2⟩
        rw [HG'.out]
        have B2 := B1.trans (hb2.mono B1.size)
        have f0 := frozen_later hb2 e0 f0
        have f1 := frozen_later hb2 e1 f1
        have e0 := cell_later hb2 e0
        have e1 := cell_later hb2 e1
        have c0 := cell_later hb2 c0
        have c1 := cell_later hb2 c1
        have b0 := cell_later hb2 b0
        have b1 := cell_later hb2 b1
        have n60 := goodT_len60 HG.out
        have n60' := goodT_len60 HG'.out
        have HA2 := (HA.below hb1).below hb2
        have HA2' := (HA'.below hb1).below hb2
        go_wp2_with fail
        refine wp_region_held_drew (S := fun w' => w'.cell? ⟨w.heap.size, 0, none⟩ = some (.int .i64 p) ∧ w'.cell? ⟨w.heap.size, 1, none⟩ = some (.slice a n c) ∧ w'.cell? ⟨w.heap.size + 1, 1, none⟩ = some (.slice a' n' c')) (by kernel_rfl) ?_ (fun hHeld => ?_)
        · (try dsimp only)
          exact ⟨c0, c1, b1⟩
        refine wpAnyH_take (i := 0) (oi := ?_) (v := ?_) ?_ (by kernel_rfl) (by kernel_rfl) (by kernel_rfl) ?_ (Or.inl ⟨?_, ?_⟩) (by assumption) ?_
        rotate_left 2
        · (simp only [List.getElem?_toArray, List.getElem?_cons_zero]; rfl)
        · exact fun _ _ _ h => h
        · rfl
        · (intro wS hSw; (try dsimp only at hSw); go_simp; (try with_reducible rfl))
        (try simp only [Act.put, List.setIfInBounds_toArray, List.set_cons_zero, List.set_cons_succ])
        refine wpAnyH_take (i := 1) (oi := ?_) (v := ?_) ?_ (by kernel_rfl) (by kernel_rfl) (by kernel_rfl) ?_ (Or.inl ⟨?_, ?_⟩) (by assumption) ?_
        rotate_left 2
        · (simp only [List.getElem?_toArray, List.getElem?_cons_zero, List.getElem?_cons_succ]; rfl)
        · exact fun _ _ _ h => h
        · rfl
        · (intro wS hSw; (try dsimp only at hSw); go_simp; (try with_reducible rfl))
        (try simp only [Act.put, List.setIfInBounds_toArray, List.set_cons_zero, List.set_cons_succ])
        refine wpAnyH_take (i := 2) (oi := ?_) (v := ?_) ?_ (by kernel_rfl) (by kernel_rfl) (by kernel_rfl) ?_ (Or.inl ⟨?_, ?_⟩) (by assumption) ?_
        rotate_left 2
        · (simp only [List.getElem?_toArray, List.getElem?_cons_zero, List.getElem?_cons_succ]; rfl)
        · exact fun _ _ _ h => h
        · rfl
        · (intro wS hSw; (try dsimp only at hSw); go_simp; (try with_reducible rfl))
        (try simp only [Act.put, List.setIfInBounds_toArray, List.set_cons_zero, List.set_cons_succ])
        refine wpAnyH_take (i := 3) (oi := ?_) (v := ?_) ?_ (by kernel_rfl) (by kernel_rfl) (by kernel_rfl) ?_ (Or.inl ⟨?_, ?_⟩) (by assumption) ?_
        rotate_left 2
        · (simp only [List.getElem?_toArray, List.getElem?_cons_zero, List.getElem?_cons_succ]; rfl)
        · exact fun _ _ _ h => h
        · rfl
        · (intro wS hSw; (try dsimp only at hSw); go_simp; (try with_reducible rfl))
        (try simp only [Act.put, List.setIfInBounds_toArray, List.set_cons_zero, List.set_cons_succ])
        refine wpAnyH_take (i := 4) (oi := ?_) (v := ?_) ?_ (by kernel_rfl) (by kernel_rfl) (by kernel_rfl) ?_ (Or.inl ⟨?_, ?_⟩) (by assumption) ?_
        rotate_left 2
        · (simp only [List.getElem?_toArray, List.getElem?_cons_zero, List.getElem?_cons_succ]; rfl)
        · exact fun _ _ _ h => h
        · rfl
        · (intro wS hSw; (try dsimp only at hSw); go_simp; (try with_reducible rfl))
        (try simp only [Act.put, List.setIfInBounds_toArray, List.set_cons_zero, List.set_cons_succ])
        refine wpAnyH_take (i := 5) (oi := ?_) (v := ?_) ?_ (by kernel_rfl) (by kernel_rfl) (by kernel_rfl) ?_ (Or.inl ⟨?_, ?_⟩) (by assumption) ?_
        rotate_left 2
        · (simp only [List.getElem?_toArray, List.getElem?_cons_zero, List.getElem?_cons_succ]; rfl)
        · exact fun _ _ _ h => h
        · rfl
        · (intro wS hSw; (try dsimp only at hSw); go_simp; (try with_reducible rfl))
        (try simp only [Act.put, List.setIfInBounds_toArray, List.set_cons_zero, List.set_cons_succ])
        refine wpAnyH_ready (rs := [6]) (by kernel_rfl) (by simp) ?_
        refine AllReadyH.cons (o := ?_) ?_ (fun K hK => ?_) AllReadyH.nil
        rotate_left
        · (simp only [List.getElem?_toArray, List.getElem?_cons_zero, List.getElem?_cons_succ]; rfl)
        go_simp
        go_at_call 42; refine (l2Add_any _ _ _ _ _ _ ts ts' _ hz hz' (by omega) (by omega) hF (goodT_rises HG.out) (goodT_six HG.out) (goodT_six HG'.out) HA2.drew HA2'.drew).mono ?_; rintro e w3 ⟨r3, m3, d3, rfl, hm3, hF3, ha3, hb3⟩; have c0 := cell_later hb3 c0; have c1 := cell_later hb3 c1; have b1 := cell_later hb3 b1; have f0 := frozen_later (w := w2.drew) hb3 e0 f0; have f1 := frozen_later (w := w2.drew) hb3 e1 f1; have e0 := cell_later hb3 e0; have e1 := cell_later hb3 e1
        (try go_wp2_with fail)
        refine hK.out _ _ ?_ (fun hHeld' => ?_)
        · (try dsimp only)
          exact ⟨c0, c1, b1⟩
        clear hK K hHeld
        have hHeld := hHeld'
        clear hHeld'
        (try simp only [Act.put, List.setIfInBounds_toArray, List.set_cons_zero, List.set_cons_succ])
        refine wpAnyH_ready (rs := [7]) (by kernel_rfl) (by simp) ?_
        refine AllReadyH.cons (o := ?_) ?_ (fun K hK => ?_) AllReadyH.nil
        rotate_left
        · (simp only [List.getElem?_toArray, List.getElem?_cons_zero, List.getElem?_cons_succ]; rfl)
        go_simp
        go_at_call 32; have HPL : Hid (m3 ≤ 8192) := (by show _ ≤ _; have := putAll_len ts' ts; omega); have HPR : Hid (∀ k, k < m3 → (wat (putAll ts ts') k).1.length ≤ 1048576) := (fun k hk => by have := (at_of_mem (putAll_ok (M0 := 1000000) (M := 1000000) (by omega) (by omega) (goodT_rises HG.out) (goodT_six HG.out) (goodT_six HG'.out)) k (by omega)).1; omega); refine (l2Tell_any _ _ _ (putAll ts ts') _ _ hm3 HPL.out HPR.out ha3).mono ?_; rintro e w4 ⟨⟨r4, m4, d4, cells4, rfl, ho4⟩, hb4⟩; have i0 := cell_later hb4 c0; have i1 := cell_later hb4 c1; have i2 := cell_later hb4 b1; have t0 := frozen_later hb4 e0 f0; have t1 := frozen_later hb4 e1 f1; have s0 := cell_later hb4 e0; have s1 := cell_later hb4 e1
        (try go_wp2_with fail)
        refine hK.out _ _ ?_ (fun hHeld' => ?_)
        · (try dsimp only)
          exact ⟨i0, i1, i2⟩
        clear hK K hHeld
        have hHeld := hHeld'
        clear hHeld'
        (try simp only [Act.put, List.setIfInBounds_toArray, List.set_cons_zero, List.set_cons_succ])
        refine wpAnyH_take (i := 8) (oi := ?_) (v := ?_) ?_ (by kernel_rfl) (by kernel_rfl) (by kernel_rfl) ?_ (Or.inl ⟨?_, ?_⟩) (by assumption) ?_
        rotate_left 2
        · (simp only [List.getElem?_toArray, List.getElem?_cons_zero, List.getElem?_cons_succ]; rfl)
        · exact fun _ _ _ h => h
        · rfl
        · (intro wS hSw; (try dsimp only at hSw); go_simp; (try with_reducible rfl))
        (try simp only [Act.put, List.setIfInBounds_toArray, List.set_cons_zero, List.set_cons_succ])
        refine wpAnyH_take (i := 9) (oi := ?_) (v := ?_) ?_ (by kernel_rfl) (by kernel_rfl) (by kernel_rfl) ?_ (Or.inl ⟨?_, ?_⟩) (by assumption) ?_
        rotate_left 2
        · (simp only [List.getElem?_toArray, List.getElem?_cons_zero, List.getElem?_cons_succ]; rfl)
        · exact fun _ _ _ h => h
        · rfl
        · (intro wS hSw; (try dsimp only at hSw); go_simp; (try with_reducible rfl))
        (try simp only [Act.put, List.setIfInBounds_toArray, List.set_cons_zero, List.set_cons_succ])
        refine wpAnyH_ready (rs := [10]) (by kernel_rfl) (by simp) ?_
        refine AllReadyH.cons (o := ?_) ?_ (fun K hK => ?_) AllReadyH.nil
        rotate_left
        · (simp only [List.getElem?_toArray, List.getElem?_cons_zero, List.getElem?_cons_succ]; rfl)
        go_simp
        skip
        (try go_wp2_with fail)
        refine hK.out _ _ ?_ (fun hHeld' => ?_)
        · (try dsimp only)
          exact ⟨keep_far (keep_far i0 (by omega)) (by omega), keep_far (keep_far i1 (by omega)) (by omega), keep_far (keep_far i2 (by omega)) (by omega)⟩
        clear hK K hHeld
        have hHeld := hHeld'
        clear hHeld'
        (try simp only [Act.put, List.setIfInBounds_toArray, List.set_cons_zero, List.set_cons_succ])
        refine wpAnyH_take (i := 11) (oi := ?_) (v := ?_) ?_ (by kernel_rfl) (by kernel_rfl) (by kernel_rfl) ?_ (Or.inl ⟨?_, ?_⟩) (by assumption) ?_
        rotate_left 2
        · (simp only [List.getElem?_toArray, List.getElem?_cons_zero, List.getElem?_cons_succ]; rfl)
        · exact fun _ _ _ h => h
        · rfl
        · (intro wS hSw; (try dsimp only at hSw); go_simp; (try with_reducible rfl))
        (try simp only [Act.put, List.setIfInBounds_toArray, List.set_cons_zero, List.set_cons_succ])
        refine wpAnyH_done (by kernel_rfl) ?_ _
        have B3 := B2.drew.trans (hb3.mono B2.size)
        have B4 := B3.trans (hb4.mono B3.size)
        have e0 := s0
        have e1 := s1
        have zR : w.heap.size + 1 + 1 < w3.heap.size := World.block_lt_of_cell? _ _ (by assumption : w3.cell? ⟨w.heap.size + 1 + 1, 0, none⟩ = _)
        clear HA HA' HA2 HA2' hb1 hb2 hb3 hb4 hHeld ha3 hF3 hm3
        go_wp2
        refine bodyPost_ret (v := .tuple #[.agg #[.int .i64 _, .slice r4 m4 d4], .bool _]) (by simp [results, Try.results18, go_sem, e0, e1]) rfl ⟨TabAns.tell HNB.out ⟨r4, m4, d4, cells4, rfl, ho4.stored zR (by omega) _ _⟩, ?_⟩
        exact (B4.setCell (by show w.heap.size ≤ w.heap.size + 1 + 1; omega) _).setCell (by show w.heap.size ≤ w.heap.size + 1 + 1; omega) _
      · have hpb : (p != p') = true := by simp [hp]
        have HL := Hid.mk hp
        clear hp
        go_enter Try.func18, Try.ntmps18
        go_wp2_with fail
        rw [← hW]
        clear hW
        refine (specGoodTable_any _ _ _ ts _ _ hz hn HA.atW).mono ?_
        rintro e w1 ⟨rfl, hb1⟩
        rw [HG.out]
        have B1 := B0.trans (hb1.mono B0.size)
        have f0 := frozen_later hb1 e0 f0
        have f1 := frozen_later hb1 e1 f1
        have e0 := cell_later hb1 e0
        have e1 := cell_later hb1 e1
        have c0 := cell_later hb1 c0
        have c1 := cell_later hb1 c1
        have b0 := cell_later hb1 b0
        have b1 := cell_later hb1 b1
        go_wp2_with fail
        refine (specGoodTable_any _ _ _ ts' _ _ hz' hn' (HA'.below hb1).atW).mono ?_
        rintro e w2 ⟨rfl, hb2⟩
        rw [HG'.out]
        have B2 := B1.trans (hb2.mono B1.size)
        have f0 := frozen_later hb2 e0 f0
        have f1 := frozen_later hb2 e1 f1
        have e0 := cell_later hb2 e0
        have e1 := cell_later hb2 e1
        have c0 := cell_later hb2 c0
        have c1 := cell_later hb2 c1
        have b0 := cell_later hb2 b0
        have b1 := cell_later hb2 b1
        go_wp2
        refine bodyPost_ret (v := .tuple #[.agg #[.int .i64 0, .slice none 0 0], .bool false]) (by simp [results, Try.results18, go_sem, e0, e1]) rfl ⟨TabAns.zero (addB_no (alike_col HL.out)) rfl, ?_⟩
        exact (B2.setCell (by show w.heap.size ≤ w.heap.size + 1 + 1; omega) _).setCell (by show w.heap.size ≤ w.heap.size + 1 + 1; omega) _

theorem scaleW_take (ts : List WRow) (t : Int) (k : Nat) (h : k < ts.length) (ht : t ≠ 0) : scaleW (ts.take (k + 1)) t = scaleW (ts.take k) t ++ [((wat ts k).1, t * (wat ts k).2)] := by
  unfold scaleW
  rw [if_neg ht, if_neg ht, wtake_succ ts k h, List.map_append]
  rfl
theorem scaleW_len (ts : List WRow) (t : Int) (ht : t ≠ 0) : (scaleW ts t).length = ts.length := by unfold scaleW; rw [if_neg ht, List.length_map]

set_option maxRecDepth 100000 in
set_option maxHeartbeats 4000000 in
theorem l2Scale_any (a : Option Addr) (n c : Nat) (ts : List WRow) (t : Int) (w : World) (hz : ts.length = n) (hn : n ≤ 2048) (h1 : -1000 ≤ t) (h2 : t ≤ 1000)
    (hg : ∀ s ∈ ts, s.1.length ≤ 6 ∧ -1000000 ≤ s.2 ∧ s.2 ≤ 1000000) (ha : AtM w a ts) :
    Calls Try.prog 45 #[.slice a n c, .int .i64 t] w fun e w' => ∃ r k d, e = .returned (.slice r k d) ∧ (scaleW ts t).length = k ∧ AtM w' r (scaleW ts t) ∧ Below w.heap.size w w' := by
  obtain ⟨i0, hi, hz0, hz1, hz2⟩ := info_parts Try.infoW
  by_cases ht : t = 0
  · have hne : (t != 0) = false := by simp [ht]
    have HT := Hid.mk ht
    clear ht
    go_enter Try.func45, Try.ntmps45
    go_wp2
    go_loopw [5, 10] (fun o i wr => ∃ (k : Nat), k ≤ n ∧ i = .int .i64 k ∧ o = .slice none 0 0 ∧ Below w.heap.size w wr) (fun _ i _ => n - (intOf i).toNat)
    case atStart => exact ⟨0, Nat.zero_le _, rfl, rfl, Below.refl _ _⟩
    case round =>
      obtain ⟨k, hk, rfl, rfl, hbw⟩ := hrel
      by_cases hlt : k < n
      · obtain ⟨b, off, rfl, hc⟩ := (ha.below hbw).some (by omega)
        obtain ⟨q, dd, hcx, hwx, hm1, hnil, hat⟩ := hc k (by omega)
        have hki : (k : Int) < (n : Int) := by omega
        clear hc
        go_wp2
        go_roundw
        case rel => exact ⟨k + 1, by omega, by go_num, rfl, hbw.alloc hbw.size _⟩
        case measure => simp [intOf]; omega
      · go_wp2
        go_ret
        have hs : scaleW ts t = [] := if_pos HT.out
        rw [hs]
        exact ⟨_, _, _, rfl, rfl, atM_nil _ _, hbw⟩
  · have hne : (t != 0) = true := by simp [ht]
    have HT := Hid.mk ht
    clear ht
    go_enter Try.func45, Try.ntmps45
    go_wp2
    go_loopw [5, 10] (fun o i wr => ∃ (k : Nat) (r : Option Addr) (d : Nat) (cs : List Value), k ≤ n ∧ i = .int .i64 k ∧ o = .slice r k d ∧ wr.ownsRow w.heap.size 56 2 (.slice r k d) k cs ∧ Means w cs (scaleW (ts.take k) t) ∧ Below w.heap.size w wr) (fun _ i _ => n - (intOf i).toNat)
    case atStart => exact ⟨0, none, 0, [], Nat.zero_le _, rfl, rfl, World.ownsRow_nil _ _ _ _, by rw [show scaleW (ts.take 0) t = [] by unfold scaleW; rw [if_neg HT.out]; rfl]; trivial, Below.refl _ _⟩
    case round =>
      obtain ⟨k, r, d, cs, hk, rfl, rfl, ho, hme, hbw⟩ := hrel
      by_cases hlt : k < n
      · obtain ⟨b, off, rfl, hc⟩ := ha.some (by omega)
        obtain ⟨q, dd, hcx, hwx, hm1, hnil, hat⟩ := hc k (by omega)
        have hgk := at_of_mem hg k (by omega)
        have HS := Hid.mk (scaleW_take ts t k (by omega) HT.out)
        have hki : (k : Int) < (n : Int) := by omega
        generalize wat ts k = Y at *
        obtain ⟨ys, x⟩ := Y
        simp only at hcx hwx hat hm1 hgk HS
        obtain ⟨m2, hmm⟩ : ∃ m2, ys.length = m2 := ⟨_, rfl⟩
        rw [hmm] at hcx hm1 hgk
        have HM := Hid.mk hmm
        obtain ⟨h6, hx1, hx2⟩ := hgk
        have hmul := mul_bound hx1 hx2 h1 h2
        have hmw : IntKind.i64.wrap (t * x) = t * x := IntWalk.i64_in _ (by rw [Int.mul_comm]; omega)
        have HATW := Hid.mk hat
        have hcx := cell_later hbw hcx
        have hwx := cell_later hbw hwx
        obtain ⟨V, hV⟩ : ∃ V, V = wr.alloc (.cells #[.slice q m2 dd, .int .i64 x] 56) := ⟨_, rfl⟩
        have hbV : Below wr.heap.size wr V := by rw [hV]; exact (Below.refl _ _).alloc (Nat.le_refl _) _
        have c3 : V.cell? ⟨wr.heap.size, 0, none⟩ = some (.slice q m2 dd) := by rw [hV]; exact pair0 wr _ _ _
        have c4 : V.cell? ⟨wr.heap.size, 1, none⟩ = some (.int .i64 x) := by rw [hV]; exact pair1 wr _ _ _
        have zV : V.heap.size = wr.heap.size + 1 := by rw [hV]; simp
        have oV := owns_below ho hbV
        have zz := hbw.size
        clear hmm hc hat
        obtain ⟨y, hy⟩ : ∃ y, y = t * x := ⟨_, rfl⟩
        have hmw2 : wrap64 (t * x) = y := by rw [hy]; exact wrap64_in (by rw [Int.mul_comm]; omega) (by rw [Int.mul_comm]; omega)
        rw [← hy] at HS
        clear hy hmw
        subst hV
        go_wp2_with (at_builtin; refine wpList_append_lies _ rfl (.tmp 16) (.tmp 24) 24 rfl w.heap.size 56 i0 (.agg #[.slice none 0 0, .int .i64 0]) 2 32 Try.underlying24 hi hz0 hz1 hz2 rfl (by decide) (.slice r k d) k cs rfl (oV.alloc _) ⟨wr.heap.size + 1, 0, none⟩ 1 1 [.slice q m2 dd, .int .i64 y] (by simp [Act.eval]) rfl (by simpa using news_at (wr.alloc (.cells #[.slice q m2 dd, .int .i64 x] 56)) #[.slice q m2 dd, .int .i64 y] 56) (by intro u hu; simp at hu; rcases hu with rfl | rfl <;> rfl) (by decide) (by unfold maxLen; omega) (by omega) (by simp; omega) (wr.heap.size + 1 + 1) (by simp) ?_; intro g2 cap2 w4 hown4 hgrow4 hat4 hlt4)
        have hgr : wr.grownBy w4 (Value.slice r k d).ownBlock := grown_alloc (grown_alloc hgrow4)
        have B4 : Below w.heap.size w w4 := hbw.grown hgr hbw.size (fun j hj => (ho.lt j hj).1)
        have HB := Hid.mk B4
        have HO := Hid.mk hown4
        have HME : Hid (Means w (cs ++ [.slice q m2 dd, .int .i64 y]) (scaleW (ts.take (k + 1)) t)) := by
          show Means _ _ _
          rw [HS.out]
          exact hme.append (Means.one HM.out (by omega) hnil HATW.out)
        clear hown4 hgrow4 hat4 hlt4 hgr B4 ho hme hbw hcx hwx c3 c4 oV hbV
        go_wp2
        go_roundw
        case rel => exact ⟨k + 1, _, _, _, by omega, by go_num, rfl, HO.out, HME.out, HB.out⟩
        case measure => simp [intOf]; omega
      · obtain rfl : k = n := by omega
        rw [wtake_all' ts hz] at hme
        have hl : (scaleW ts t).length = k := by rw [scaleW_len ts t HT.out]; exact hz
        go_wp2
        go_ret
        exact ⟨_, _, _, rfl, hl, (hme.below hbw).ownedM hl ho, hbw⟩

end Go.Proofs.Ytogokgegkakmbaa
