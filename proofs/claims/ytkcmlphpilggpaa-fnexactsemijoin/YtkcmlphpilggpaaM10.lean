/- Contract of impl.weights.table. -/
import Derived.Test.YtkcmlphpilggpaaM9
import Derived.Test.YtkcmlphpilggpaaM6
import Derived.Test.YtkcmlphpilggpaaM5
namespace Go.Proofs.Ytkcmlphpilggpaa
open Go.RowKit Go.Maps

def rowsOf (q : Nat) (f : List Int → Int) (ks : List Six) : List WRow := ks.map fun x => (unr q (Six.list x), f (Six.list x))
theorem rowsOf_length (q : Nat) (f : List Int → Int) (ks : List Six) : (rowsOf q f ks).length = ks.length := by simp [rowsOf]
abbrev kat (ks : List Six) (k : Nat) : Six := ks.getD k (0, 0, 0, 0, 0, 0)
theorem kat_mem {ks : List Six} {k : Nat} (h : k < ks.length) : kat ks k ∈ ks := by
  rw [show kat ks k = ks[k] by simp [kat, List.getD, h]]; exact List.getElem_mem h
theorem rowsOf_at (q : Nat) (f : List Int → Int) (ks : List Six) (k : Nat) (h : k < ks.length) : wat (rowsOf q f ks) k = (unr q (Six.list (kat ks k)), f (Six.list (kat ks k))) := by
  simp [rowsOf, wat, kat, List.getD, h]
theorem rowsOf_take (q : Nat) (f : List Int → Int) (ks : List Six) (k : Nat) (h : k < ks.length) : (rowsOf q f ks).take (k + 1) = (rowsOf q f ks).take k ++ [(unr q (Six.list (kat ks k)), f (Six.list (kat ks k)))] := by
  rw [wtake_succ _ k (by rw [rowsOf_length]; exact h), rowsOf_at q f ks k h]

theorem six_cells {w : World} {base g n c : Nat} {e : TypeId} {ks : List Six} (hn : ks.length = n) (h : w.ownsRow base e 6 (.slice (some ⟨g, 0, none⟩) n c) n (ks.flatMap Six.enc)) (k : Nat) (hk : k < n) (j : Nat) (hj : j < 6) :
    w.cell? ⟨g, k * 6 + j, none⟩ = some ((Six.enc (kat ks k))[j]!) := by
  rw [h.cellAt _ (by omega), flat_get ks _ (by omega), show (k * 6 + j) / 6 = k by omega, show (k * 6 + j) % 6 = j by omega]
  congr 2
  have : k < ks.length := by omega
  simp [kat, List.getD, this]

theorem Tells.of {D : DataW Unit} {q : Nat} {f : List Int → Int} {S : List (List Int)} {ks : List Six} (hm : MapIs D f S) (hS : Keys q S) (hrise : ks.Pairwise fun x y => cmp (Six.list x) (Six.list y) < 0) (hfit : ∀ x ∈ ks, Fits (Six.list x))
    (hjust : ∀ x : Six, Fits (Six.list x) → (x ∈ ks ↔ (Maps.has D (klit (Six.list x)) = true ∧ f (Six.list x) ≠ 0))) (hnot : ∀ a, Fits a → Maps.has D (klit a) = false → f a = 0) :
    Tells q f (rowsOf q f ks) ∧ ∀ x ∈ ks, ∃ zs, good zs = true ∧ zs.length = q ∧ Six.list x = raised zs := by
  have hrow : ∀ x ∈ ks, ∃ zs, good zs = true ∧ zs.length = q ∧ Six.list x = raised zs := fun x hx => by
    have h1 := ((hjust x (hfit x hx)).1 hx).1
    rw [(hm _ (hfit x hx)).2] at h1
    exact hS _ (of_decide_eq_true h1)
  have hun : ∀ x ∈ ks, good (unr q (Six.list x)) = true ∧ (unr q (Six.list x)).length = q ∧ raised (unr q (Six.list x)) = Six.list x := fun x hx => by
    obtain ⟨zs, h1, h2, h3⟩ := hrow x hx
    have h4 : unr q (Six.list x) = zs := by rw [h3, ← h2, unr_raised]
    rw [h4, h3]; exact ⟨h1, h2, rfl⟩
  refine ⟨⟨?_, ?_, ?_, ?_⟩, hrow⟩
  · unfold Rises rowsOf
    rw [List.pairwise_map]
    refine hrise.imp_of_mem fun {x y} hx hy h => ?_
    show cmp (unr q (Six.list x)) (unr q (Six.list y)) < 0
    rw [← cmp_raised (hun x hx).1 (hun y hy).1, (hun x hx).2.2, (hun y hy).2.2]
    exact h
  · intro t ht
    obtain ⟨x, hx, rfl⟩ := List.mem_map.1 ht
    exact ((hjust x (hfit x hx)).1 hx).2
  · intro t ht
    obtain ⟨x, hx, rfl⟩ := List.mem_map.1 ht
    exact ⟨(hun x hx).1, (hun x hx).2.1⟩
  · intro zs hg hl
    have hF := fits_raised hg
    obtain ⟨x, hx⟩ := six_of hF.1
    have hrs : Rises (rowsOf q f ks) := by
      unfold Rises rowsOf
      rw [List.pairwise_map]
      refine hrise.imp_of_mem fun {x y} hx hy h => ?_
      show cmp (unr q (Six.list x)) (unr q (Six.list y)) < 0
      rw [← cmp_raised (hun x hx).1 (hun y hy).1, (hun x hx).2.2, (hun y hy).2.2]
      exact h
    by_cases h : x ∈ ks
    · have hmem : ((unr q (Six.list x), f (Six.list x)) : WRow) ∈ rowsOf q f ks := List.mem_map.2 ⟨x, h, rfl⟩
      have := wOf_mem hrs hmem
      simp only at this
      rw [hx] at this
      have h6 : unr q (raised zs) = zs := by rw [← hl, unr_raised]
      rwa [h6] at this
    · have h0 : f (raised zs) = 0 := by
        rw [← hx] at hF ⊢
        cases hh : Maps.has D (klit (Six.list x)) with
        | false => exact hnot _ hF hh
        | true =>
          by_cases e : f (Six.list x) = 0
          · exact e
          · exact absurd ((hjust x hF).2 ⟨hh, e⟩) h
      rw [h0]
      refine wOf_absent fun t ht e => h ?_
      obtain ⟨y, hy, rfl⟩ := List.mem_map.1 ht
      have h5 := (hun y hy).2.2
      simp only at e
      rw [e] at h5
      have : Six.list x = Six.list y := hx.trans h5
      rw [Six.list_inj this]; exact hy

theorem map_absent {D : DataW Unit} {f : List Int → Int} {S : List (List Int)} (hm : MapIs D f S) (a : List Int) (ha : Fits a) (h : Maps.has D (klit a) = false) : f a = 0 := by
  have h1 := (hm a ha).1
  rw [atKey_of_not_has h] at h1
  simpa using h1.symm

set_option maxRecDepth 100000 in
set_option maxHeartbeats 8000000 in
theorem table_any (b cnt : Nat) (D : DataW Unit) (f : List Int → Int) (S : List (List Int)) (q : Nat) (w : World) (hcnt : cnt ≤ 1048576) (h6 : q ≤ 6) (hown : w.ownsMap Try.prog 107 (plainElem Try.prog 3) b cnt D) (hm : MapIs D f S) (hS : Keys q S) :
    Calls Try.prog 102 #[.map (some b), .int .i64 q] w fun e w' => ∃ ts, TabRet e w' w.heap.size (goodT q ts) (tellP q ts) (tellT q ts) ∧ Tells q f ts ∧ Below w.heap.size w w' := by
  obtain ⟨i0, hi, hz0, hz1, hz2⟩ := info_parts Try.infoW
  have B1 : Below w.heap.size w (w.alloc (.cells #[.int .i64 0, .slice none 0 0] 47)) := (Below.refl _ _).alloc (Nat.le_refl _) _
  have hown1 := hown.alloc (.cells #[.int .i64 0, .slice none 0 0] 47)
  have hbl : b < w.heap.size := hown.lt
  have q0 : (w.alloc (.cells #[.int .i64 0, .slice none 0 0] 47)).heap[w.heap.size]? = some (.cells #[.int .i64 0, .slice none 0 0] 47 (0, 0)) := heap_alloc_new w _
  go_enter Try.func102, Try.ntmps102
  go_wp2_with fail
  refine (inOrder_any b cnt D f S _ hcnt hown1 hm).mono ?_
  rintro e w1 ⟨ks, r, d, n, rfl, hn, hnc, ho, hrise, hfit, hjust, hb⟩
  obtain ⟨hT, hrow⟩ := Tells.of hm hS hrise hfit hjust (map_absent hm)
  have HT := Hid.mk hT
  have HROW := Hid.mk hrow
  have HM := Hid.mk hm
  have z1 : w.heap.size + 1 ≤ w1.heap.size := by have := hb.size; simpa using this
  have B2 : Below w.heap.size w w1 := B1.trans (hb.mono B1.size)
  have Q0 := (hb.block w.heap.size (by simp)).trans q0
  have hown2 : w1.ownsMap Try.prog 107 (plainElem Try.prog 3) b cnt D := hown1.kept (Below.toGrown hb none) (by simp)
  have HLEN : Hid ((rowsOf q f ks).length = n) := by show _ = _; rw [rowsOf_length]; exact hn
  clear hrise hjust hT hrow hm q0 hown1 hb B1 hown
  have e0 : w1.cell? ⟨w.heap.size, 0, none⟩ = some (.int .i64 0) := by rw [cell_of_row w1 _ 0 _ _ (0, 0) Q0]; rfl
  have e1 : w1.cell? ⟨w.heap.size, 1, none⟩ = some (.slice none 0 0) := by rw [cell_of_row w1 _ 1 _ _ (0, 0) Q0]; rfl
  have f0 : w1.frozen? ⟨w.heap.size, 0, none⟩ = false := frozen_of_row w1 _ 0 _ _ Q0
  have f1 : w1.frozen? ⟨w.heap.size, 1, none⟩ = false := frozen_of_row w1 _ 1 _ _ Q0
  by_cases h60 : n ≤ 60
  · obtain ⟨W, hW⟩ : ∃ W, W = w1.alloc (.cells #[.int .i64 q, .slice none 0 0] 47) := ⟨_, rfl⟩
    have zW : W.heap.size = w1.heap.size + 1 := by rw [hW]; simp
    have BW : Below w1.heap.size w1 W := by rw [hW]; exact (Below.refl _ _).alloc (Nat.le_refl _) _
    have T0 : TabVar W w1.heap.size q none 0 0 [] [] := by rw [hW]; exact TabVar.new w1 q
    have hn60 : ¬ (60 : Int) < (n : Int) := by omega
    have hq : inc q = true := by simp [inc]; omega
    have HQ := Hid.mk hq
    clear hq Q0
    go_wp2
    rw [← hW]
    clear hW
    go_loopw [20] (fun i wr => ∃ (k : Nat) (r' : Option Addr) (d' : Nat) (cells : List Value), k ≤ n ∧ i = .int .i64 k ∧ TabVar wr w1.heap.size q r' k d' ((rowsOf q f ks).take k) cells ∧ (∀ j, j < k → inw (f (Six.list (kat ks j))) = true) ∧ Below w1.heap.size w1 wr) (fun i _ => n - (intOf i).toNat)
    case atStart => exact ⟨0, none, 0, [], Nat.zero_le _, rfl, T0, fun j hj => by omega, BW⟩
    case round =>
      clear T0 BW
      obtain ⟨k, r', d', cells, hk, rfl, hv, hinw, hbw⟩ := hrel
      have zR := hv.lt
      have B3 : Below w.heap.size w wr := B2.trans (hbw.mono (by omega))
      have g0 := cell_later hbw e0
      have g1 := cell_later hbw e1
      have k0 := frozen_later hbw e0 f0
      have k1 := frozen_later hbw e1 f1
      have hownR : wr.ownsMap Try.prog 107 (plainElem Try.prog 3) b cnt D := hown2.kept (Below.toGrown hbw none) (by simp)
      have HINW := Hid.mk hinw
      clear hinw
      by_cases hlt : k < n
      · obtain ⟨g, rfl⟩ : ∃ g, r = some ⟨g, 0, none⟩ := by
          rcases ho.2 with ⟨_, h⟩ | ⟨g, cap, cur, hv', _⟩
          · omega
          · simp only [Value.slice.injEq, true_and] at hv'
            exact ⟨g, hv'.1⟩
        have hoR := owns_below ho hbw
        have hki : (k : Int) < (n : Int) := by omega
        have hc6 := six_cells hn hoR k hlt
        have hfx := hfit _ (kat_mem (by omega : k < ks.length))
        obtain ⟨zs, hzg, hzl, hzr⟩ := HROW.out _ (kat_mem (by omega : k < ks.length))
        have HS := Hid.mk (rowsOf_take q f ks k (by omega))
        have hun : unr q (Six.list (kat ks k)) = zs := by rw [hzr, ← hzl, unr_raised]
        rw [hun] at HS
        have HNI : Hid (∀ j, j < k + 1 → j ≠ k → inw (f (Six.list (kat ks j))) = true) := fun j hj hne => HINW.out j (by omega)
        have HAT : Hid (wat (rowsOf q f ks) k = (zs, f (Six.list (kat ks k)))) := by show _ = _; rw [rowsOf_at q f ks k (by omega), hun]
        obtain ⟨X, hX⟩ : ∃ X, X = kat ks k := ⟨_, rfl⟩
        have HX := Hid.mk hX
        rw [← hX] at hc6 hfx hzr HS HAT
        obtain ⟨x0, x1, x2, x3, x4, x5⟩ := X
        obtain ⟨y, hy⟩ : ∃ y, y = f (Six.list (x0, x1, x2, x3, x4, x5)) := ⟨_, rfl⟩
        have HY := Hid.mk hy
        rw [← hy] at HS HAT
        have HR : Hid (raised zs = [x0, x1, x2, x3, x4, x5]) := hzr.symm
        have HZG := Hid.mk hzg
        have HZL := Hid.mk hzl
        have HFX : Hid (Fits [x0, x1, x2, x3, x4, x5]) := hfx
        have d0 : wr.cell? ⟨g, k * 6, none⟩ = some (.int .i64 x0) := hc6 0 (by omega)
        have d1 : wr.cell? ⟨g, k * 6 + 1, none⟩ = some (.int .i64 x1) := hc6 1 (by omega)
        have d2 : wr.cell? ⟨g, k * 6 + 2, none⟩ = some (.int .i64 x2) := hc6 2 (by omega)
        have d3 : wr.cell? ⟨g, k * 6 + 3, none⟩ = some (.int .i64 x3) := hc6 3 (by omega)
        have d4 : wr.cell? ⟨g, k * 6 + 4, none⟩ = some (.int .i64 x4) := hc6 4 (by omega)
        have d5 : wr.cell? ⟨g, k * 6 + 5, none⟩ = some (.int .i64 x5) := hc6 5 (by omega)
        clear hX hy hun hc6 hfx hzg hzl hzr hoR
        obtain ⟨V, hV⟩ : ∃ V, V = wr.alloc (.cells #[.int .i64 x0, .int .i64 x1, .int .i64 x2, .int .i64 x3, .int .i64 x4, .int .i64 x5] 107) := ⟨_, rfl⟩
        have hbV : Below wr.heap.size wr V := by rw [hV]; exact (Below.refl _ _).alloc (Nat.le_refl _) _
        have zV : V.heap.size = wr.heap.size + 1 := by rw [hV]; simp
        have qV : V.heap[wr.heap.size]? = some (.cells #[.int .i64 x0, .int .i64 x1, .int .i64 x2, .int .i64 x3, .int .i64 x4, .int .i64 x5] 107 (0, 0)) := by rw [hV]; exact heap_alloc_new wr _
        have cV : V.cell? ⟨wr.heap.size, 0, none⟩ = some (.int .i64 x0) ∧ V.cell? ⟨wr.heap.size, 1, none⟩ = some (.int .i64 x1) ∧ V.cell? ⟨wr.heap.size, 2, none⟩ = some (.int .i64 x2) ∧ V.cell? ⟨wr.heap.size, 3, none⟩ = some (.int .i64 x3) ∧ V.cell? ⟨wr.heap.size, 4, none⟩ = some (.int .i64 x4) ∧ V.cell? ⟨wr.heap.size, 5, none⟩ = some (.int .i64 x5) := ⟨by rw [cell_of_row V _ 0 _ _ (0, 0) qV]; rfl, by rw [cell_of_row V _ 1 _ _ (0, 0) qV]; rfl, by rw [cell_of_row V _ 2 _ _ (0, 0) qV]; rfl, by rw [cell_of_row V _ 3 _ _ (0, 0) qV]; rfl, by rw [cell_of_row V _ 4 _ _ (0, 0) qV]; rfl, by rw [cell_of_row V _ 5 _ _ (0, 0) qV]; rfl⟩
        have hownV : V.ownsMap Try.prog 107 (plainElem Try.prog 3) b cnt D := hownR.kept (Below.toGrown hbV none) (by simp)
        have LKF : Hid (∀ w0 : World, w0.ownsMap Try.prog 107 (plainElem Try.prog 3) b cnt D → (Instr.lookup 136 (.map (some b)) (.agg #[.int .i64 x0, .int .i64 x1, .int .i64 x2, .int .i64 x3, .int .i64 x4, .int .i64 x5]) false).run Try.prog w0 = .ok (.int .i64 y) w0) := fun w0 h0 => by rw [HY.out]; exact look_any h0 HM.out x0 x1 x2 x3 x4 x5 HFX.out
        have hlk := LKF.out V hownV
        have hlk' := hlk
        rw [hV] at hlk'
        have hvV := hv.below hbV
        have g0V := cell_later hbV g0
        have g1V := cell_later hbV g1
        have k0V := frozen_later hbV g0 k0
        have k1V := frozen_later hbV g1 k1
        have BV : Below w1.heap.size w1 V := hbw.trans (hbV.mono (by omega))
        have B4 : Below w.heap.size w V := B3.trans (hbV.mono (by have := B3.size; omega))
        cases hgw : inw y with
        | false =>
          have HGW := Hid.mk hgw
          have HG : Hid (goodT q (rowsOf q f ks) = false) := goodT_not k (by have := HLEN.out; omega) (stepB_row (by rw [HAT.out]; exact goodW_wt HGW.out))
          clear hgw hownR g0 g1 k0 k1 B3
          go_wp2_with fail
          refine (goodWeight_any _ _).mono ?_
          rintro e w2 ⟨rfl, rfl⟩
          rw [HGW.out]
          rw [← hV]
          clear hV hlk' d0 d1 d2 d3 d4 d5
          go_wp2
          refine bodyPost_ret (v := .tuple #[.agg #[.int .i64 0, .slice none 0 0], .bool false]) (by simp [results, Try.results102, go_sem, g0V, g1V]) rfl ⟨rowsOf q f ks, ⟨none, 0, 0, [], ?_, ?_⟩, HT.out, ?_⟩
          · simp [tellP, HG.out]
          · simp only [tellT, HG.out]
            exact OwnWk.start rfl (Nat.le_refl _) (World.ownsRow_nil _ _ _ _) (fun b hb => by cases hb)
          · exact (B4.setCell (by simp) _).setCell (by simp) _
        | true =>
          have HGW := Hid.mk hgw
          clear hgw hownR g0 g1 k0 k1 B3
          have t1 := hvV.cell1
          have f1' := hvV.frozen1
          go_wp2_with fail
          refine (goodWeight_any _ _).mono ?_
          rintro e w2 ⟨rfl, rfl⟩
          rw [HGW.out]
          rw [← hV]
          clear hV hlk' d0 d1 d2 d3 d4 d5
          go_wp2_with fail
          have HTB : Hid (some wr.heap.size ≠ (Value.slice r' k d').ownBlock) := fun e => by have := (hv.own.lt _ e.symm).2; omega
          clear hv hbV
          refine wp_region_held_drew (S := fun w' => w'.cell? ⟨wr.heap.size, 0, none⟩ = some (.int .i64 x0) ∧ w'.cell? ⟨wr.heap.size, 1, none⟩ = some (.int .i64 x1) ∧ w'.cell? ⟨wr.heap.size, 2, none⟩ = some (.int .i64 x2) ∧ w'.cell? ⟨wr.heap.size, 3, none⟩ = some (.int .i64 x3) ∧ w'.cell? ⟨wr.heap.size, 4, none⟩ = some (.int .i64 x4) ∧ w'.cell? ⟨wr.heap.size, 5, none⟩ = some (.int .i64 x5) ∧ (Instr.lookup 136 (.map (some b)) (.agg #[.int .i64 x0, .int .i64 x1, .int .i64 x2, .int .i64 x3, .int .i64 x4, .int .i64 x5]) false).run Try.prog w' = .ok (.int .i64 y) w') (by kernel_rfl) ?_ (fun hHeld => ?_)
          · (try dsimp only)
            exact ⟨cV.1, cV.2.1, cV.2.2.1, cV.2.2.2.1, cV.2.2.2.2.1, cV.2.2.2.2.2, LKF.out _ hownV.drew⟩
          refine tk 0 ?_
          refine tk 2 ?_
          refine tk 3 ?_
          refine tk 5 ?_
          refine tk 6 ?_
          refine tk 7 ?_
          refine wpAnyH_ready (rs := [1, 4]) (by kernel_rfl) (by simp) ?_
          refine AllReadyH.cons (o := ?_) ?_ (fun K hK => ?_) ?_
          rotate_left
          · (simp only [List.getElem?_toArray, List.getElem?_cons_zero, List.getElem?_cons_succ]; rfl)
          · go_simp
            (try go_wp2_with fail)
            refine hK.out _ _ ?_ (fun hHeld' => ?_)
            · (try dsimp only)
              exact ⟨cV.1, cV.2.1, cV.2.2.1, cV.2.2.2.1, cV.2.2.2.2.1, cV.2.2.2.2.2, LKF.out _ hownV.drew⟩
            clear hK K hHeld
            have hHeld := hHeld'
            clear hHeld'
            (try simp only [Act.put, List.setIfInBounds_toArray, List.set_cons_zero, List.set_cons_succ])
            refine tr 4 (fun K hK => ?_)
            go_simp
            go_at_call 120; refine (rowOf_any x0 x1 x2 x3 x4 x5 zs q _ HZL.out HZG.out HR.out).mono ?_; rintro e w2 ⟨r2, d2, rfl, ho2, hb2⟩; have e6 := six_later hb2 cV; have u1 := cell_later hb2 t1; have om2 : w2.ownsMap Try.prog 107 (plainElem Try.prog 3) b cnt D := (hownV.drew).kept (Below.toGrown hb2 none) (by simp)
            (try go_wp2_with fail)
            refine hK.out _ _ ?_ (fun hHeld' => ?_)
            · (try dsimp only)
              exact ⟨e6.1, e6.2.1, e6.2.2.1, e6.2.2.2.1, e6.2.2.2.2.1, e6.2.2.2.2.2, LKF.out _ om2⟩
            clear hK K hHeld
            have hHeld := hHeld'
            clear hHeld'
            (try simp only [Act.put, List.setIfInBounds_toArray, List.set_cons_zero, List.set_cons_succ])
            have hv2 := hvV.drew.below hb2
            have z2 : V.heap.size ≤ w2.heap.size := hb2.size
            have hTb : some wr.heap.size ≠ (Value.slice r' k d').ownBlock := HTB.out
            refine tk 8 ?_
            refine tr 9 (fun K hK => ?_)
            go_simp
            skip
            (try go_wp2_with fail)
            refine hK.out _ _ ?_ (fun hHeld' => ?_)
            · (try dsimp only)
              exact ⟨(six_later ((Below.refl _ _).alloc (Nat.le_refl _) _) e6).1, (six_later ((Below.refl _ _).alloc (Nat.le_refl _) _) e6).2.1, (six_later ((Below.refl _ _).alloc (Nat.le_refl _) _) e6).2.2.1, (six_later ((Below.refl _ _).alloc (Nat.le_refl _) _) e6).2.2.2.1, (six_later ((Below.refl _ _).alloc (Nat.le_refl _) _) e6).2.2.2.2.1, (six_later ((Below.refl _ _).alloc (Nat.le_refl _) _) e6).2.2.2.2.2, LKF.out _ (om2.alloc _)⟩
            clear hK K hHeld
            have hHeld := hHeld'
            clear hHeld'
            (try simp only [Act.put, List.setIfInBounds_toArray, List.set_cons_zero, List.set_cons_succ])
            refine tr 10 (fun K hK => ?_)
            refine step_append_lies _ rfl (.tmp 31) (.tmp 39) 45 rfl (w1.heap.size + 1) 99 i0 (.agg #[.slice none 0 0, .int .i64 0]) 2 32 Try.underlying45 hi hz0 hz1 hz2 rfl (by decide) (.slice r' k d') k cells (by simp [Act.eval]) (hv2.own.alloc _) ⟨w2.heap.size, 0, none⟩ 1 1 [.slice r2 q d2, .int .i64 y] (by simp [Act.eval]) rfl (by simpa using news_at w2 #[.slice r2 q d2, .int .i64 y] 99) (by intro u hu; simp at hu; rcases hu with rfl | rfl <;> rfl) (by decide) (by unfold maxLen; omega) (by omega) (by simp; omega) (w2.heap.size + 1) (by simp) ?_; intro g4 cap4 w4 hown4 hgrow4 hat4 hlt4; have s6 := six_grown hgrow4 hTb (six_later ((Below.refl _ _).alloc (Nat.le_refl _) _) e6); have om4 : w4.ownsMap Try.prog 107 (plainElem Try.prog 3) b cnt D := (om2.alloc _).kept hgrow4 (fun e' => by have := (hv2.own.lt b e'.symm).1; omega); obtain ⟨s1, s2, hv4⟩ := hvV.drew.pushed hb2 HZL.out ho2 hown4 hgrow4 hat4 hlt4
            refine hK.out _ _ ?_ (fun hHeld' => ?_)
            · (try dsimp only)
              exact ⟨s6.1, s6.2.1, s6.2.2.1, s6.2.2.2.1, s6.2.2.2.2.1, s6.2.2.2.2.2, LKF.out _ om4⟩
            clear hK K hHeld
            have hHeld := hHeld'
            clear hHeld'
            (try simp only [Act.put, List.setIfInBounds_toArray, List.set_cons_zero, List.set_cons_succ])
            refine tk 11 ?_
            refine tr 12 (fun K hK => ?_)
            go_simp
            skip
            (try go_wp2_with fail)
            refine hK.out _ _ ?_ (fun hHeld' => ?_)
            · (try dsimp only)
              exact ⟨(six_grown (setCell_grown _ ⟨w1.heap.size, 1, none⟩ _) (by simp; omega) s6).1, (six_grown (setCell_grown _ ⟨w1.heap.size, 1, none⟩ _) (by simp; omega) s6).2.1, (six_grown (setCell_grown _ ⟨w1.heap.size, 1, none⟩ _) (by simp; omega) s6).2.2.1, (six_grown (setCell_grown _ ⟨w1.heap.size, 1, none⟩ _) (by simp; omega) s6).2.2.2.1, (six_grown (setCell_grown _ ⟨w1.heap.size, 1, none⟩ _) (by simp; omega) s6).2.2.2.2.1, (six_grown (setCell_grown _ ⟨w1.heap.size, 1, none⟩ _) (by simp; omega) s6).2.2.2.2.2, LKF.out _ (om4.kept (setCell_grown _ ⟨w1.heap.size, 1, none⟩ _) (by simp; omega))⟩
            clear hK K hHeld
            have hHeld := hHeld'
            clear hHeld'
            (try simp only [Act.put, List.setIfInBounds_toArray, List.set_cons_zero, List.set_cons_succ])
            refine wpAnyH_done (by kernel_rfl) ?_ _
            have HB := Hid.mk (hvV.drew.pushed_below (v := .slice (some ⟨g4, 0, none⟩) (k + 1) cap4) hb2 hgrow4 BV.drew (Nat.le_refl _))
            rw [← HS.out] at hv4
            have HV := Hid.mk hv4
            clear hv4 hown4 hgrow4 hvV BV s1 s2 s6 om4 om2 e6 u1 hv2 ho2 hb2 t1 f1' cV qV hHeld hlk hownV g0V g1V k0V k1V B4
            go_wp2
            go_roundw
            case rel => exact ⟨k + 1, _, _, _, by omega, by go_num, HV.out, fun j hj => by
              by_cases e : j = k
              · subst e; rw [← HX.out, ← HY.out]; exact HGW.out
              · exact HNI.out j hj e, HB.out⟩
            case measure => simp [intOf]; omega
          refine AllReadyH.cons (o := ?_) ?_ (fun K hK => ?_) AllReadyH.nil
          rotate_left
          · (simp only [List.getElem?_toArray, List.getElem?_cons_zero, List.getElem?_cons_succ]; rfl)
          · go_simp
            go_at_call 120; refine (rowOf_any x0 x1 x2 x3 x4 x5 zs q _ HZL.out HZG.out HR.out).mono ?_; rintro e w2 ⟨r2, d2, rfl, ho2, hb2⟩; have e6 := six_later hb2 cV; have u1 := cell_later hb2 t1; have om2 : w2.ownsMap Try.prog 107 (plainElem Try.prog 3) b cnt D := (hownV.drew).kept (Below.toGrown hb2 none) (by simp)
            (try go_wp2_with fail)
            refine hK.out _ _ ?_ (fun hHeld' => ?_)
            · (try dsimp only)
              exact ⟨e6.1, e6.2.1, e6.2.2.1, e6.2.2.2.1, e6.2.2.2.2.1, e6.2.2.2.2.2, LKF.out _ om2⟩
            clear hK K hHeld
            have hHeld := hHeld'
            clear hHeld'
            (try simp only [Act.put, List.setIfInBounds_toArray, List.set_cons_zero, List.set_cons_succ])
            have hv2 := hvV.drew.below hb2
            have z2 : V.heap.size ≤ w2.heap.size := hb2.size
            have hTb : some wr.heap.size ≠ (Value.slice r' k d').ownBlock := HTB.out
            refine tk 8 ?_
            refine wpAnyH_ready (rs := [1, 9]) (by kernel_rfl) (by simp) ?_
            refine AllReadyH.cons (o := ?_) ?_ (fun K hK => ?_) ?_
            rotate_left
            · (simp only [List.getElem?_toArray, List.getElem?_cons_zero, List.getElem?_cons_succ]; rfl)
            · go_simp
              (try go_wp2_with fail)
              refine hK.out _ _ ?_ (fun hHeld' => ?_)
              · (try dsimp only)
                exact ⟨e6.1, e6.2.1, e6.2.2.1, e6.2.2.2.1, e6.2.2.2.2.1, e6.2.2.2.2.2, LKF.out _ om2⟩
              clear hK K hHeld
              have hHeld := hHeld'
              clear hHeld'
              (try simp only [Act.put, List.setIfInBounds_toArray, List.set_cons_zero, List.set_cons_succ])
              refine tr 9 (fun K hK => ?_)
              go_simp
              skip
              (try go_wp2_with fail)
              refine hK.out _ _ ?_ (fun hHeld' => ?_)
              · (try dsimp only)
                exact ⟨(six_later ((Below.refl _ _).alloc (Nat.le_refl _) _) e6).1, (six_later ((Below.refl _ _).alloc (Nat.le_refl _) _) e6).2.1, (six_later ((Below.refl _ _).alloc (Nat.le_refl _) _) e6).2.2.1, (six_later ((Below.refl _ _).alloc (Nat.le_refl _) _) e6).2.2.2.1, (six_later ((Below.refl _ _).alloc (Nat.le_refl _) _) e6).2.2.2.2.1, (six_later ((Below.refl _ _).alloc (Nat.le_refl _) _) e6).2.2.2.2.2, LKF.out _ (om2.alloc _)⟩
              clear hK K hHeld
              have hHeld := hHeld'
              clear hHeld'
              (try simp only [Act.put, List.setIfInBounds_toArray, List.set_cons_zero, List.set_cons_succ])
              refine tr 10 (fun K hK => ?_)
              refine step_append_lies _ rfl (.tmp 31) (.tmp 39) 45 rfl (w1.heap.size + 1) 99 i0 (.agg #[.slice none 0 0, .int .i64 0]) 2 32 Try.underlying45 hi hz0 hz1 hz2 rfl (by decide) (.slice r' k d') k cells (by simp [Act.eval]) (hv2.own.alloc _) ⟨w2.heap.size, 0, none⟩ 1 1 [.slice r2 q d2, .int .i64 y] (by simp [Act.eval]) rfl (by simpa using news_at w2 #[.slice r2 q d2, .int .i64 y] 99) (by intro u hu; simp at hu; rcases hu with rfl | rfl <;> rfl) (by decide) (by unfold maxLen; omega) (by omega) (by simp; omega) (w2.heap.size + 1) (by simp) ?_; intro g4 cap4 w4 hown4 hgrow4 hat4 hlt4; have s6 := six_grown hgrow4 hTb (six_later ((Below.refl _ _).alloc (Nat.le_refl _) _) e6); have om4 : w4.ownsMap Try.prog 107 (plainElem Try.prog 3) b cnt D := (om2.alloc _).kept hgrow4 (fun e' => by have := (hv2.own.lt b e'.symm).1; omega); obtain ⟨s1, s2, hv4⟩ := hvV.drew.pushed hb2 HZL.out ho2 hown4 hgrow4 hat4 hlt4
              refine hK.out _ _ ?_ (fun hHeld' => ?_)
              · (try dsimp only)
                exact ⟨s6.1, s6.2.1, s6.2.2.1, s6.2.2.2.1, s6.2.2.2.2.1, s6.2.2.2.2.2, LKF.out _ om4⟩
              clear hK K hHeld
              have hHeld := hHeld'
              clear hHeld'
              (try simp only [Act.put, List.setIfInBounds_toArray, List.set_cons_zero, List.set_cons_succ])
              refine tk 11 ?_
              refine tr 12 (fun K hK => ?_)
              go_simp
              skip
              (try go_wp2_with fail)
              refine hK.out _ _ ?_ (fun hHeld' => ?_)
              · (try dsimp only)
                exact ⟨(six_grown (setCell_grown _ ⟨w1.heap.size, 1, none⟩ _) (by simp; omega) s6).1, (six_grown (setCell_grown _ ⟨w1.heap.size, 1, none⟩ _) (by simp; omega) s6).2.1, (six_grown (setCell_grown _ ⟨w1.heap.size, 1, none⟩ _) (by simp; omega) s6).2.2.1, (six_grown (setCell_grown _ ⟨w1.heap.size, 1, none⟩ _) (by simp; omega) s6).2.2.2.1, (six_grown (setCell_grown _ ⟨w1.heap.size, 1, none⟩ _) (by simp; omega) s6).2.2.2.2.1, (six_grown (setCell_grown _ ⟨w1.heap.size, 1, none⟩ _) (by simp; omega) s6).2.2.2.2.2, LKF.out _ (om4.kept (setCell_grown _ ⟨w1.heap.size, 1, none⟩ _) (by simp; omega))⟩
              clear hK K hHeld
              have hHeld := hHeld'
              clear hHeld'
              (try simp only [Act.put, List.setIfInBounds_toArray, List.set_cons_zero, List.set_cons_succ])
              refine wpAnyH_done (by kernel_rfl) ?_ _
              have HB := Hid.mk (hvV.drew.pushed_below (v := .slice (some ⟨g4, 0, none⟩) (k + 1) cap4) hb2 hgrow4 BV.drew (Nat.le_refl _))
              rw [← HS.out] at hv4
              have HV := Hid.mk hv4
              clear hv4 hown4 hgrow4 hvV BV s1 s2 s6 om4 om2 e6 u1 hv2 ho2 hb2 t1 f1' cV qV hHeld hlk hownV g0V g1V k0V k1V B4
              go_wp2
              go_roundw
              case rel => exact ⟨k + 1, _, _, _, by omega, by go_num, HV.out, fun j hj => by
                by_cases e : j = k
                · subst e; rw [← HX.out, ← HY.out]; exact HGW.out
                · exact HNI.out j hj e, HB.out⟩
              case measure => simp [intOf]; omega
            refine AllReadyH.cons (o := ?_) ?_ (fun K hK => ?_) AllReadyH.nil
            rotate_left
            · (simp only [List.getElem?_toArray, List.getElem?_cons_zero, List.getElem?_cons_succ]; rfl)
            · go_simp
              (try go_wp2_with fail)
              refine hK.out _ _ ?_ (fun hHeld' => ?_)
              · (try dsimp only)
                exact ⟨(six_later ((Below.refl _ _).alloc (Nat.le_refl _) _) e6).1, (six_later ((Below.refl _ _).alloc (Nat.le_refl _) _) e6).2.1, (six_later ((Below.refl _ _).alloc (Nat.le_refl _) _) e6).2.2.1, (six_later ((Below.refl _ _).alloc (Nat.le_refl _) _) e6).2.2.2.1, (six_later ((Below.refl _ _).alloc (Nat.le_refl _) _) e6).2.2.2.2.1, (six_later ((Below.refl _ _).alloc (Nat.le_refl _) _) e6).2.2.2.2.2, LKF.out _ (om2.alloc _)⟩
              clear hK K hHeld
              have hHeld := hHeld'
              clear hHeld'
              (try simp only [Act.put, List.setIfInBounds_toArray, List.set_cons_zero, List.set_cons_succ])
              have u2 := cell_later ((Below.refl _ _).alloc (Nat.le_refl _) (.cells #[.slice r2 q d2, .int .i64 y] 99)) u1
              refine tr 1 (fun K hK => ?_)
              go_simp
              skip
              (try go_wp2_with fail)
              refine hK.out _ _ ?_ (fun hHeld' => ?_)
              · (try dsimp only)
                exact ⟨(six_later ((Below.refl _ _).alloc (Nat.le_refl _) _) e6).1, (six_later ((Below.refl _ _).alloc (Nat.le_refl _) _) e6).2.1, (six_later ((Below.refl _ _).alloc (Nat.le_refl _) _) e6).2.2.1, (six_later ((Below.refl _ _).alloc (Nat.le_refl _) _) e6).2.2.2.1, (six_later ((Below.refl _ _).alloc (Nat.le_refl _) _) e6).2.2.2.2.1, (six_later ((Below.refl _ _).alloc (Nat.le_refl _) _) e6).2.2.2.2.2, LKF.out _ (om2.alloc _)⟩
              clear hK K hHeld
              have hHeld := hHeld'
              clear hHeld'
              (try simp only [Act.put, List.setIfInBounds_toArray, List.set_cons_zero, List.set_cons_succ])
              refine tr 10 (fun K hK => ?_)
              refine step_append_lies _ rfl (.tmp 31) (.tmp 39) 45 rfl (w1.heap.size + 1) 99 i0 (.agg #[.slice none 0 0, .int .i64 0]) 2 32 Try.underlying45 hi hz0 hz1 hz2 rfl (by decide) (.slice r' k d') k cells (by simp [Act.eval]) (hv2.own.alloc _) ⟨w2.heap.size, 0, none⟩ 1 1 [.slice r2 q d2, .int .i64 y] (by simp [Act.eval]) rfl (by simpa using news_at w2 #[.slice r2 q d2, .int .i64 y] 99) (by intro u hu; simp at hu; rcases hu with rfl | rfl <;> rfl) (by decide) (by unfold maxLen; omega) (by omega) (by simp; omega) (w2.heap.size + 1) (by simp) ?_; intro g4 cap4 w4 hown4 hgrow4 hat4 hlt4; have s6 := six_grown hgrow4 hTb (six_later ((Below.refl _ _).alloc (Nat.le_refl _) _) e6); have om4 : w4.ownsMap Try.prog 107 (plainElem Try.prog 3) b cnt D := (om2.alloc _).kept hgrow4 (fun e' => by have := (hv2.own.lt b e'.symm).1; omega); obtain ⟨s1, s2, hv4⟩ := hvV.drew.pushed hb2 HZL.out ho2 hown4 hgrow4 hat4 hlt4
              refine hK.out _ _ ?_ (fun hHeld' => ?_)
              · (try dsimp only)
                exact ⟨s6.1, s6.2.1, s6.2.2.1, s6.2.2.2.1, s6.2.2.2.2.1, s6.2.2.2.2.2, LKF.out _ om4⟩
              clear hK K hHeld
              have hHeld := hHeld'
              clear hHeld'
              (try simp only [Act.put, List.setIfInBounds_toArray, List.set_cons_zero, List.set_cons_succ])
              refine tk 11 ?_
              refine tr 12 (fun K hK => ?_)
              go_simp
              skip
              (try go_wp2_with fail)
              refine hK.out _ _ ?_ (fun hHeld' => ?_)
              · (try dsimp only)
                exact ⟨(six_grown (setCell_grown _ ⟨w1.heap.size, 1, none⟩ _) (by simp; omega) s6).1, (six_grown (setCell_grown _ ⟨w1.heap.size, 1, none⟩ _) (by simp; omega) s6).2.1, (six_grown (setCell_grown _ ⟨w1.heap.size, 1, none⟩ _) (by simp; omega) s6).2.2.1, (six_grown (setCell_grown _ ⟨w1.heap.size, 1, none⟩ _) (by simp; omega) s6).2.2.2.1, (six_grown (setCell_grown _ ⟨w1.heap.size, 1, none⟩ _) (by simp; omega) s6).2.2.2.2.1, (six_grown (setCell_grown _ ⟨w1.heap.size, 1, none⟩ _) (by simp; omega) s6).2.2.2.2.2, LKF.out _ (om4.kept (setCell_grown _ ⟨w1.heap.size, 1, none⟩ _) (by simp; omega))⟩
              clear hK K hHeld
              have hHeld := hHeld'
              clear hHeld'
              (try simp only [Act.put, List.setIfInBounds_toArray, List.set_cons_zero, List.set_cons_succ])
              refine wpAnyH_done (by kernel_rfl) ?_ _
              have HB := Hid.mk (hvV.drew.pushed_below (v := .slice (some ⟨g4, 0, none⟩) (k + 1) cap4) hb2 hgrow4 BV.drew (Nat.le_refl _))
              rw [← HS.out] at hv4
              have HV := Hid.mk hv4
              clear hv4 hown4 hgrow4 hvV BV s1 s2 s6 om4 om2 e6 u1 hv2 ho2 hb2 t1 f1' cV qV hHeld hlk hownV g0V g1V k0V k1V B4
              go_wp2
              go_roundw
              case rel => exact ⟨k + 1, _, _, _, by omega, by go_num, HV.out, fun j hj => by
                by_cases e : j = k
                · subst e; rw [← HX.out, ← HY.out]; exact HGW.out
                · exact HNI.out j hj e, HB.out⟩
              case measure => simp [intOf]; omega
      · obtain rfl : k = n := by omega
        have hlen : (rowsOf q f ks).take k = rowsOf q f ks := List.take_of_length_le (by have := HLEN.out; omega)
        rw [hlen] at hv
        have HG : Hid (goodT q (rowsOf q f ks) = true) := goodT_of HQ.out (by have := HLEN.out; omega) (fun j hj => by
          have hj' : j < ks.length := by have := HLEN.out; omega
          have hmem := wat_mem hj
          refine stepB_mk (goodW_mk (HT.out.rows _ hmem).1 (by have := (HT.out.rows _ hmem).2; omega) ?_) (HT.out.noZero _ hmem) ?_
          · rw [rowsOf_at q f ks j hj']; exact HINW.out j (by omega)
          · by_cases e : j = 0
            · exact .inl e
            · right
              have := List.pairwise_iff_getElem.1 HT.out.rises (j - 1) j (by omega) hj (by omega)
              have e1 : wat (rowsOf q f ks) (j - 1) = (rowsOf q f ks)[j - 1] := by simp [wat, List.getD, show j - 1 < (rowsOf q f ks).length by omega]
              have e2 : wat (rowsOf q f ks) j = (rowsOf q f ks)[j] := by simp [wat, List.getD, hj]
              rw [e1, e2]; exact this)
        have t0 := hv.cell0
        have t1 := hv.cell1
        clear hownR hlen
        go_wp2
        refine bodyPost_ret (v := .tuple #[.agg #[.int .i64 q, .slice r' k d'], .bool true]) (by simp [results, Try.results102, go_sem, g0, g1]) rfl ⟨rowsOf q f ks, ⟨r', k, d', cells, ?_, ?_⟩, HT.out, ?_⟩
        · simp [tellP, HG.out]
        · simp only [tellT, HG.out, if_true]
          exact ((hv.2.setCell (a0 := ⟨w.heap.size, 0, none⟩) (.inl (by simp; omega)) _).setCell (a0 := ⟨w.heap.size, 1, none⟩) (.inl (by simp; omega)) _).widen (by omega) (by simp [World.setCell]) (Nat.le_refl _)
        · exact (B3.setCell (by simp) _).setCell (by simp) _
  · have hgt : (60 : Int) < (n : Int) := by omega
    have HG : Hid (goodT q (rowsOf q f ks) = false) := goodT_len (by have := HLEN.out; omega)
    go_wp2
    refine bodyPost_ret (v := .tuple #[.agg #[.int .i64 0, .slice none 0 0], .bool false]) (by simp [results, Try.results102, go_sem, e0, e1]) rfl ⟨rowsOf q f ks, ⟨none, 0, 0, [], ?_, ?_⟩, HT.out, ?_⟩
    · simp [tellP, HG.out]
    · simp only [tellT, HG.out]
      exact OwnWk.start rfl (Nat.le_refl _) (World.ownsRow_nil _ _ _ _) (fun b hb => by cases hb)
    · exact (B2.setCell (by simp) _).setCell (by simp) _

end Go.Proofs.Ytkcmlphpilggpaa
