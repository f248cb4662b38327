/- Several texts of one proof, in build order: AddV, GrpO. -/
import Derived.Laws.StructEq
import Derived.Test.YtlfljfmhhnoinabM17
import Derived.Test.YtlfljfmhhnoinabM14

/- Contract of impl.groupSums.add. -/
namespace Go.Proofs.Ytlfljfmhhnoinab
open Go.RowKit Go.Maps

theorem Try.zeroAmt (w : World) : (zeroValue 83).run Try.prog w = .ok (amtVal (0, 0)) w := by kernel_rfl
theorem Try.fieldA0 (a b : Int) (w : World) : (Instr.field 83 (.agg #[.int .i64 a, .int .i64 b]) 0).run Try.prog w = .ok (.int .i64 a) w := by kernel_rfl
theorem Try.fieldA1 (a b : Int) (w : World) : (Instr.field 83 (.agg #[.int .i64 a, .int .i64 b]) 1).run Try.prog w = .ok (.int .i64 b) w := by kernel_rfl
theorem lookV {w : World} {b cnt : Nat} {D : DataW Unit} {f : List Int → Amt} (ho : w.ownsMap Try.prog 111 amtElem b cnt D) (hm : MapV D f) (x0 x1 x2 x3 x4 x5 : Int) (hf : Fits [x0, x1, x2, x3, x4, x5]) :
    (Instr.lookup 80 (.map (some b)) (.agg #[.int .i64 x0, .int .i64 x1, .int .i64 x2, .int .i64 x3, .int .i64 x4, .int .i64 x5]) false).run Try.prog w = .ok (amtVal (f [x0, x1, x2, x3, x4, x5])) w := by
  obtain ⟨v, ps, h1, h2⟩ := ho.lookup Try.keyedA Try.underlying80 (Try.zeroAmt w) (amtElem_mk (0, 0)) (keyOf_arr _ hf)
  obtain ⟨c, rfl, hc⟩ := amtElem_inv h2
  have : D.atKey (klit [x0, x1, x2, x3, x4, x5]) (amtD (0, 0)) = amtD c := congrArg Prod.fst hc
  rw [← hm.at hf this]
  exact h1

set_option maxRecDepth 100000 in
set_option maxHeartbeats 4000000 in
theorem addV_any (a : Option Addr) (n c b q M : Nat) (ts : List GRow) (zs : List Int) (x y B C : Int) (w : World) (hz : zs.length = n) (hg : good zs = true) (hl : zs.length = q) (hM : M ≤ 1000000) (hB0 : 0 ≤ B) (hts : ∀ t ∈ ts, InA B t.2) (hxy : InA C (x, y)) (hBC : B + C ≤ 4000000000000000000) (ha : At w a zs) (hm : CntV w b q M ts) :
    Calls Try.prog 47 #[.map (some b), .agg #[.slice a n c], .agg #[.int .i64 x, .int .i64 y]] w fun e w' => e = .returned (.tuple #[]) ∧ CntV w' b q (M + 1) (putV ts zs (x, y)) ∧ w.grownBy w' (some b) := by
  have hbl := hm.lt
  have h6 : n ≤ 6 := by have := good_len hg; omega
  have HVB := Hid.mk (vOf_bound (zs := zs) hB0 hts)
  obtain ⟨cnt, D, f, hown, hmv, hT, hcM⟩ := hm
  have HMV := Hid.mk hmv
  have HT := Hid.mk hT
  have HW := Hid.mk (hT.weight zs hg hl)
  obtain ⟨W, hW⟩ : ∃ W, W = (w.alloc (.cells #[.slice a n c] 67)).alloc (.cells #[.int .i64 x, .int .i64 y] 83) := ⟨_, rfl⟩
  have zW : W.heap.size = w.heap.size + 1 + 1 := by rw [hW]; simp
  have B0 : Below w.heap.size w W := by rw [hW]; exact ((Below.refl _ _).alloc (Nat.le_refl _) _).alloc (by simp) _
  have m0 : W.cell? ⟨w.heap.size + 1, 0, none⟩ = some (.int .i64 x) := by rw [hW]; have := pair0 (w.alloc (.cells #[.slice a n c] 67)) (.int .i64 x) (.int .i64 y) 83; rwa [World.size_alloc] at this
  have m1 : W.cell? ⟨w.heap.size + 1, 1, none⟩ = some (.int .i64 y) := by rw [hW]; have := pair1 (w.alloc (.cells #[.slice a n c] 67)) (.int .i64 x) (.int .i64 y) 83; rwa [World.size_alloc] at this
  have HA := ha.below B0
  have hownW := hown.kept (Below.toGrown B0 none) (by simp)
  clear ha hown hmv hT
  have fA0 := Try.fieldA0
  have fA1 := Try.fieldA1
  go_enter Try.func47, Try.ntmps47
  go_wp2_with fail
  rw [← hW]
  clear hW
  refine (arrayOf_any _ _ _ zs _ hz h6 (fun k hk => good_cell hg k (by omega)) HA).mono ?_
  rintro e w1 ⟨x0, x1, x2, x3, x4, x5, rfl, hr, hb1⟩
  have B1 := B0.trans (hb1.mono B0.size)
  have hown1 := hownW.kept (Below.toGrown hb1 none) (by simp)
  replace m0 := cell_later hb1 m0
  replace m1 := cell_later hb1 m1
  clear hb1 HA B0 hownW
  have hfit := fits_raised hg
  rw [hr] at hfit
  have HFX := Hid.mk hfit
  have HR := Hid.mk hr
  rw [hr] at HW
  obtain ⟨⟨c1, c2⟩, hc⟩ : ∃ c : Amt, c = f [x0, x1, x2, x3, x4, x5] := ⟨_, rfl⟩
  have HC := Hid.mk hc
  have HVB2 : Hid (InA B (c1, c2)) := by have := HVB.out; rw [HW.out, ← hc] at this; exact this
  obtain ⟨P, hP⟩ : ∃ P, P = c1 + x := ⟨_, rfl⟩
  obtain ⟨Q, hQ⟩ : ∃ Q, Q = c2 + y := ⟨_, rfl⟩
  have hwP : IntKind.i64.wrap (c1 + x) = P := by
    obtain ⟨g1, g2, g3, g4⟩ := HVB2.out.add hxy
    simp only [addA] at g1 g2
    rw [IntWalk.i64_in _ (by omega)]; exact hP.symm
  have hwQ : IntKind.i64.wrap (c2 + y) = Q := by
    obtain ⟨g1, g2, g3, g4⟩ := HVB2.out.add hxy
    simp only [addA] at g3 g4
    rw [IntWalk.i64_in _ (by omega)]; exact hQ.symm
  have HPQ : Hid ((P, Q) = addA (f [x0, x1, x2, x3, x4, x5]) (x, y)) := by show _ = _; rw [hP, hQ, ← hc]; rfl
  clear hc hP hQ hfit hr
  obtain ⟨V, hV⟩ : ∃ V, V = w1.alloc (.cells #[.int .i64 x0, .int .i64 x1, .int .i64 x2, .int .i64 x3, .int .i64 x4, .int .i64 x5] 111) := ⟨_, rfl⟩
  have hbV : Below w1.heap.size w1 V := by rw [hV]; exact (Below.refl _ _).alloc (Nat.le_refl _) _
  have zV : V.heap.size = w1.heap.size + 1 := by rw [hV]; simp
  have qV : V.heap[w1.heap.size]? = some (.cells #[.int .i64 x0, .int .i64 x1, .int .i64 x2, .int .i64 x3, .int .i64 x4, .int .i64 x5] 111 (0, 0)) := by rw [hV]; exact heap_alloc_new w1 _
  have cV : V.cell? ⟨w1.heap.size, 0, none⟩ = some (.int .i64 x0) ∧ V.cell? ⟨w1.heap.size, 1, none⟩ = some (.int .i64 x1) ∧ V.cell? ⟨w1.heap.size, 2, none⟩ = some (.int .i64 x2) ∧ V.cell? ⟨w1.heap.size, 3, none⟩ = some (.int .i64 x3) ∧ V.cell? ⟨w1.heap.size, 4, none⟩ = some (.int .i64 x4) ∧ V.cell? ⟨w1.heap.size, 5, none⟩ = some (.int .i64 x5) := ⟨by rw [cell_of_row V _ 0 _ _ (0, 0) qV]; rfl, by rw [cell_of_row V _ 1 _ _ (0, 0) qV]; rfl, by rw [cell_of_row V _ 2 _ _ (0, 0) qV]; rfl, by rw [cell_of_row V _ 3 _ _ (0, 0) qV]; rfl, by rw [cell_of_row V _ 4 _ _ (0, 0) qV]; rfl, by rw [cell_of_row V _ 5 _ _ (0, 0) qV]; rfl⟩
  have hownV := hown1.kept (Below.toGrown hbV none) (by simp)
  have LKF : Hid (∀ w0 : World, w0.ownsMap Try.prog 111 amtElem b cnt D → (Instr.lookup 80 (.map (some b)) (.agg #[.int .i64 x0, .int .i64 x1, .int .i64 x2, .int .i64 x3, .int .i64 x4, .int .i64 x5]) false).run Try.prog w0 = .ok (.agg #[.int .i64 c1, .int .i64 c2]) w0) := fun w0 h0 => by have := lookV h0 HMV.out x0 x1 x2 x3 x4 x5 HFX.out; rw [← HC.out] at this; exact this
  have B2 := B1.trans (hbV.mono B1.size)
  replace m0 := cell_later hbV m0
  replace m1 := cell_later hbV m1
  have z1 := B1.size
  go_wp2_with fail
  rw [← hV]
  clear hV hbV B1 hown1 qV
  refine wp_region_held_drew (S := fun w' => w'.cell? ⟨w1.heap.size, 0, none⟩ = some (.int .i64 x0) ∧ w'.cell? ⟨w1.heap.size, 1, none⟩ = some (.int .i64 x1) ∧ w'.cell? ⟨w1.heap.size, 2, none⟩ = some (.int .i64 x2) ∧ w'.cell? ⟨w1.heap.size, 3, none⟩ = some (.int .i64 x3) ∧ w'.cell? ⟨w1.heap.size, 4, none⟩ = some (.int .i64 x4) ∧ w'.cell? ⟨w1.heap.size, 5, none⟩ = some (.int .i64 x5) ∧ w'.cell? ⟨w.heap.size + 1, 0, none⟩ = some (.int .i64 x) ∧ w'.cell? ⟨w.heap.size + 1, 1, none⟩ = some (.int .i64 y) ∧ (Instr.lookup 80 (.map (some b)) (.agg #[.int .i64 x0, .int .i64 x1, .int .i64 x2, .int .i64 x3, .int .i64 x4, .int .i64 x5]) false).run Try.prog w' = .ok (.agg #[.int .i64 c1, .int .i64 c2]) w') (by kernel_rfl) ?_ (fun hHeld => ?_)
  · (try dsimp only)
    exact ⟨cV.1, cV.2.1, cV.2.2.1, cV.2.2.2.1, cV.2.2.2.2.1, cV.2.2.2.2.2, m0, m1, LKF.out _ hownV.drew⟩
  refine wpAnyH_take (i := 0) (oi := ?_) (v := ?_) ?_ (by kernel_rfl) (by kernel_rfl) (by kernel_rfl) ?_ (Or.inl ⟨?_, ?_⟩) (by assumption) ?_
  rotate_left 2
  · (simp only [List.getElem?_toArray, List.getElem?_cons_zero]; rfl)
  · exact fun _ _ _ h => h
  · rfl
  · (intro wS hSw; (try dsimp only at hSw); go_simp; (try with_reducible rfl))
  (try simp only [Act.put, List.setIfInBounds_toArray, List.set_cons_zero, List.set_cons_succ])
  refine wpAnyH_take (i := 1) (oi := ?_) (v := ?_) ?_ (by kernel_rfl) (by kernel_rfl) (by kernel_rfl) ?_ (Or.inl ⟨?_, ?_⟩) (by assumption) ?_
  rotate_left 2
  · (simp only [List.getElem?_toArray, List.getElem?_cons_zero, List.getElem?_cons_succ]; rfl)
  · exact fun _ _ _ h => h
  · rfl
  · (intro wS hSw; (try dsimp only at hSw); go_simp; (try with_reducible rfl))
  (try simp only [Act.put, List.setIfInBounds_toArray, List.set_cons_zero, List.set_cons_succ])
  refine wpAnyH_take (i := 2) (oi := ?_) (v := ?_) ?_ (by kernel_rfl) (by kernel_rfl) (by kernel_rfl) ?_ (Or.inl ⟨?_, ?_⟩) (by assumption) ?_
  rotate_left 2
  · (simp only [List.getElem?_toArray, List.getElem?_cons_zero, List.getElem?_cons_succ]; rfl)
  · exact fun _ _ _ h => h
  · rfl
  · (intro wS hSw; (try dsimp only at hSw); go_simp; (try with_reducible rfl))
  (try simp only [Act.put, List.setIfInBounds_toArray, List.set_cons_zero, List.set_cons_succ])
  refine wpAnyH_take (i := 3) (oi := ?_) (v := ?_) ?_ (by kernel_rfl) (by kernel_rfl) (by kernel_rfl) ?_ (Or.inl ⟨?_, ?_⟩) (by assumption) ?_
  rotate_left 2
  · (simp only [List.getElem?_toArray, List.getElem?_cons_zero, List.getElem?_cons_succ]; rfl)
  · exact fun _ _ _ h => h
  · rfl
  · (intro wS hSw; (try dsimp only at hSw); go_simp; (try with_reducible rfl))
  (try simp only [Act.put, List.setIfInBounds_toArray, List.set_cons_zero, List.set_cons_succ])
  refine wpAnyH_take (i := 4) (oi := ?_) (v := ?_) ?_ (by kernel_rfl) (by kernel_rfl) (by kernel_rfl) ?_ (Or.inl ⟨?_, ?_⟩) (by assumption) ?_
  rotate_left 2
  · (simp only [List.getElem?_toArray, List.getElem?_cons_zero, List.getElem?_cons_succ]; rfl)
  · exact fun _ _ _ h => h
  · rfl
  · (intro wS hSw; (try dsimp only at hSw); go_simp; (try with_reducible rfl))
  (try simp only [Act.put, List.setIfInBounds_toArray, List.set_cons_zero, List.set_cons_succ])
  refine wpAnyH_take (i := 5) (oi := ?_) (v := ?_) ?_ (by kernel_rfl) (by kernel_rfl) (by kernel_rfl) ?_ (Or.inl ⟨?_, ?_⟩) (by assumption) ?_
  rotate_left 2
  · (simp only [List.getElem?_toArray, List.getElem?_cons_zero, List.getElem?_cons_succ]; rfl)
  · exact fun _ _ _ h => h
  · rfl
  · (intro wS hSw; (try dsimp only at hSw); go_simp; (try with_reducible rfl))
  (try simp only [Act.put, List.setIfInBounds_toArray, List.set_cons_zero, List.set_cons_succ])
  refine wpAnyH_take (i := 6) (oi := ?_) (v := ?_) ?_ (by kernel_rfl) (by kernel_rfl) (by kernel_rfl) ?_ (Or.inl ⟨?_, ?_⟩) (by assumption) ?_
  rotate_left 2
  · (simp only [List.getElem?_toArray, List.getElem?_cons_zero, List.getElem?_cons_succ]; rfl)
  · exact fun _ _ _ h => h
  · rfl
  · (intro wS hSw; (try dsimp only at hSw); go_simp; (try with_reducible rfl))
  (try simp only [Act.put, List.setIfInBounds_toArray, List.set_cons_zero, List.set_cons_succ])
  refine wpAnyH_take (i := 7) (oi := ?_) (v := ?_) ?_ (by kernel_rfl) (by kernel_rfl) (by kernel_rfl) ?_ (Or.inl ⟨?_, ?_⟩) (by assumption) ?_
  rotate_left 2
  · (simp only [List.getElem?_toArray, List.getElem?_cons_zero, List.getElem?_cons_succ]; rfl)
  · exact fun _ _ _ h => h
  · rfl
  · (intro wS hSw; (try dsimp only at hSw); go_simp; (try with_reducible rfl))
  (try simp only [Act.put, List.setIfInBounds_toArray, List.set_cons_zero, List.set_cons_succ])
  refine wpAnyH_take (i := 8) (oi := ?_) (v := ?_) ?_ (by kernel_rfl) (by kernel_rfl) (by kernel_rfl) ?_ (Or.inl ⟨?_, ?_⟩) (by assumption) ?_
  rotate_left 2
  · (simp only [List.getElem?_toArray, List.getElem?_cons_zero, List.getElem?_cons_succ]; rfl)
  · exact fun _ _ _ h => h
  · rfl
  · (intro wS hSw; (try dsimp only at hSw); go_simp; (try with_reducible rfl))
  (try simp only [Act.put, List.setIfInBounds_toArray, List.set_cons_zero, List.set_cons_succ])
  refine wpAnyH_take (i := 9) (oi := ?_) (v := ?_) ?_ (by kernel_rfl) (by kernel_rfl) (by kernel_rfl) ?_ (Or.inl ⟨?_, ?_⟩) (by assumption) ?_
  rotate_left 2
  · (simp only [List.getElem?_toArray, List.getElem?_cons_zero, List.getElem?_cons_succ]; rfl)
  · exact fun _ _ _ h => h
  · rfl
  · (intro wS hSw; (try dsimp only at hSw); go_simp; (try with_reducible rfl))
  (try simp only [Act.put, List.setIfInBounds_toArray, List.set_cons_zero, List.set_cons_succ])
  refine wpAnyH_take (i := 10) (oi := ?_) (v := ?_) ?_ (by kernel_rfl) (by kernel_rfl) (by kernel_rfl) ?_ (Or.inl ⟨?_, ?_⟩) (by assumption) ?_
  rotate_left 2
  · (simp only [List.getElem?_toArray, List.getElem?_cons_zero, List.getElem?_cons_succ]; rfl)
  · exact fun _ _ _ h => h
  · rfl
  · (intro wS hSw; (try dsimp only at hSw); go_simp; (try with_reducible rfl))
  (try simp only [Act.put, List.setIfInBounds_toArray, List.set_cons_zero, List.set_cons_succ])
  refine wpAnyH_take (i := 11) (oi := ?_) (v := ?_) ?_ (by kernel_rfl) (by kernel_rfl) (by kernel_rfl) ?_ (Or.inl ⟨?_, ?_⟩) (by assumption) ?_
  rotate_left 2
  · (simp only [List.getElem?_toArray, List.getElem?_cons_zero, List.getElem?_cons_succ]; rfl)
  · exact fun _ _ _ h => h
  · rfl
  · (intro wS hSw; (try dsimp only at hSw); go_simp; (try with_reducible rfl))
  (try simp only [Act.put, List.setIfInBounds_toArray, List.set_cons_zero, List.set_cons_succ])
  refine wpAnyH_take (i := 12) (oi := ?_) (v := ?_) ?_ (by kernel_rfl) (by kernel_rfl) (by kernel_rfl) ?_ (Or.inl ⟨?_, ?_⟩) (by assumption) ?_
  rotate_left 2
  · (simp only [List.getElem?_toArray, List.getElem?_cons_zero, List.getElem?_cons_succ]; rfl)
  · exact fun _ _ _ h => h
  · rfl
  · (intro wS hSw; (try dsimp only at hSw); go_simp; (try with_reducible rfl))
  (try simp only [Act.put, List.setIfInBounds_toArray, List.set_cons_zero, List.set_cons_succ])
  refine wpAnyH_take (i := 13) (oi := ?_) (v := ?_) ?_ (by kernel_rfl) (by kernel_rfl) (by kernel_rfl) ?_ (Or.inl ⟨?_, ?_⟩) (by assumption) ?_
  rotate_left 2
  · (simp only [List.getElem?_toArray, List.getElem?_cons_zero, List.getElem?_cons_succ]; rfl)
  · exact fun _ _ _ h => h
  · rfl
  · (intro wS hSw; (try dsimp only at hSw); go_simp; (try with_reducible rfl))
  (try simp only [Act.put, List.setIfInBounds_toArray, List.set_cons_zero, List.set_cons_succ])
  refine wpAnyH_take (i := 14) (oi := ?_) (v := ?_) ?_ (by kernel_rfl) (by kernel_rfl) (by kernel_rfl) ?_ (Or.inl ⟨?_, ?_⟩) (by assumption) ?_
  rotate_left 2
  · (simp only [List.getElem?_toArray, List.getElem?_cons_zero, List.getElem?_cons_succ]; rfl)
  · exact fun _ _ _ h => h
  · rfl
  · (intro wS hSw; (try dsimp only at hSw); go_simp; (try with_reducible rfl))
  (try simp only [Act.put, List.setIfInBounds_toArray, List.set_cons_zero, List.set_cons_succ])
  have cD : V.drew.cell? ⟨w1.heap.size, 0, none⟩ = some (.int .i64 x0) ∧ V.drew.cell? ⟨w1.heap.size, 1, none⟩ = some (.int .i64 x1) ∧ V.drew.cell? ⟨w1.heap.size, 2, none⟩ = some (.int .i64 x2) ∧ V.drew.cell? ⟨w1.heap.size, 3, none⟩ = some (.int .i64 x3) ∧ V.drew.cell? ⟨w1.heap.size, 4, none⟩ = some (.int .i64 x4) ∧ V.drew.cell? ⟨w1.heap.size, 5, none⟩ = some (.int .i64 x5) := six_later (w := V) (Below.refl _ _).drew cV
  have n0 : V.drew.cell? ⟨w.heap.size + 1, 0, none⟩ = some (.int .i64 x) := m0
  have n1 : V.drew.cell? ⟨w.heap.size + 1, 1, none⟩ = some (.int .i64 y) := m1
  refine wpAnyH_ready (rs := [15]) (by kernel_rfl) (by simp) ?_
  refine AllReadyH.cons (o := ?_) ?_ (fun K hK => ?_) AllReadyH.nil
  rotate_left
  · (simp only [List.getElem?_toArray, List.getElem?_cons_zero, List.getElem?_cons_succ]; rfl)
  go_simp
  skip
  (try go_wp2_with fail)
  refine hK.out _ _ ?_ (fun hHeld' => ?_)
  · (try dsimp only)
    exact ⟨(six_later ((Below.refl _ _).alloc (Nat.le_refl _) _) cD).1, (six_later ((Below.refl _ _).alloc (Nat.le_refl _) _) cD).2.1, (six_later ((Below.refl _ _).alloc (Nat.le_refl _) _) cD).2.2.1, (six_later ((Below.refl _ _).alloc (Nat.le_refl _) _) cD).2.2.2.1, (six_later ((Below.refl _ _).alloc (Nat.le_refl _) _) cD).2.2.2.2.1, (six_later ((Below.refl _ _).alloc (Nat.le_refl _) _) cD).2.2.2.2.2, cell_later ((Below.refl _ _).alloc (Nat.le_refl _) _) n0, cell_later ((Below.refl _ _).alloc (Nat.le_refl _) _) n1, LKF.out _ (hownV.drew.alloc _)⟩
  clear hK K hHeld
  have hHeld := hHeld'
  clear hHeld'
  (try simp only [Act.put, List.setIfInBounds_toArray, List.set_cons_zero, List.set_cons_succ])
  refine wpAnyH_ready (rs := [16]) (by kernel_rfl) (by simp) ?_
  refine AllReadyH.cons (o := ?_) ?_ (fun K hK => ?_) AllReadyH.nil
  rotate_left
  · (simp only [List.getElem?_toArray, List.getElem?_cons_zero, List.getElem?_cons_succ]; rfl)
  go_simp
  skip
  (try go_wp2_with fail)
  refine hK.out _ _ ?_ (fun hHeld' => ?_)
  · (try dsimp only)
    exact ⟨(six_later ((Below.refl _ _).alloc (Nat.le_refl _) _) cD).1, (six_later ((Below.refl _ _).alloc (Nat.le_refl _) _) cD).2.1, (six_later ((Below.refl _ _).alloc (Nat.le_refl _) _) cD).2.2.1, (six_later ((Below.refl _ _).alloc (Nat.le_refl _) _) cD).2.2.2.1, (six_later ((Below.refl _ _).alloc (Nat.le_refl _) _) cD).2.2.2.2.1, (six_later ((Below.refl _ _).alloc (Nat.le_refl _) _) cD).2.2.2.2.2, cell_later ((Below.refl _ _).alloc (Nat.le_refl _) _) n0, cell_later ((Below.refl _ _).alloc (Nat.le_refl _) _) n1, LKF.out _ (hownV.drew.alloc _)⟩
  clear hK K hHeld
  have hHeld := hHeld'
  clear hHeld'
  (try simp only [Act.put, List.setIfInBounds_toArray, List.set_cons_zero, List.set_cons_succ])
  refine wpAnyH_done (by kernel_rfl) ?_ _
  obtain ⟨U, hU⟩ : ∃ U, U = (V.alloc (.cells #[.int .i64 P, .int .i64 Q] 83)).drew := ⟨_, rfl⟩
  have zU : U.heap.size = V.heap.size + 1 := by rw [hU, drew_size]; simp
  have B3 : Below w.heap.size w U := by rw [hU]; exact (B2.alloc B2.size _).drew
  have hownU : U.ownsMap Try.prog 111 amtElem b cnt D := by rw [hU]; exact (hownV.alloc _).drew
  have cU : U.cell? ⟨w1.heap.size, 0, none⟩ = some (.int .i64 x0) ∧ U.cell? ⟨w1.heap.size, 1, none⟩ = some (.int .i64 x1) ∧ U.cell? ⟨w1.heap.size, 2, none⟩ = some (.int .i64 x2) ∧ U.cell? ⟨w1.heap.size, 3, none⟩ = some (.int .i64 x3) ∧ U.cell? ⟨w1.heap.size, 4, none⟩ = some (.int .i64 x4) ∧ U.cell? ⟨w1.heap.size, 5, none⟩ = some (.int .i64 x5) := by rw [hU]; exact six_later (w := V.alloc _) (Below.refl _ _).drew (six_later (w := V) ((Below.refl _ _).alloc (Nat.le_refl _) _) cV)
  have u0 : U.cell? ⟨w1.heap.size + 1, 0, none⟩ = some (.int .i64 P) := by rw [← zV, hU]; exact cell_later (w := V.alloc _) (Below.refl _ _).drew (pair0 V _ _ _)
  have u1 : U.cell? ⟨w1.heap.size + 1, 1, none⟩ = some (.int .i64 Q) := by rw [← zV, hU]; exact cell_later (w := V.alloc _) (Below.refl _ _).drew (pair1 V _ _ _)
  obtain ⟨d0, d1, d2, d3, d4, d5⟩ := cU
  rw [← hU]
  clear hU hHeld cV cD n0 n1 B2 hownV m0 m1
  have hmax : cnt < maxLen := by unfold maxLen; omega
  have HKEY := Hid.mk (keyOf_arr [x0, x1, x2, x3, x4, x5] HFX.out)
  by_cases hp : P = 0
  · have hpp : (P == 0) = true := by simp [hp]
    by_cases hq : Q = 0
    · have hqq : (Q == 0) = true := by simp [hq]
      have HZ : Hid (addA (f [x0, x1, x2, x3, x4, x5]) (x, y) = (0, 0)) := by show _ = _; rw [← HPQ.out, hp, hq]
      clear hp hq
      go_wp2_with (first | (at_delete; refine wpList_delete_own _ rfl _ _ 80 111 rfl 83 Try.keyedA Try.underlying80 _ b cnt D rfl hownU _ _ rfl HKEY.out ?_; intro w5 hown5 hturn5) | go_in)
      refine bodyPost_ret (v := .tuple #[]) (by simp [results, Try.results47, go_sem]) rfl ⟨rfl, ⟨cnt, _, _, hown5, (HMV.out.del HFX.out).congr (fun z => ?_), HT.out.put hg hl (x, y), by omega⟩, grown_trans (Below.toGrown B3 _) hturn5.grown⟩
      rw [HR.out]
      by_cases e : z = [x0, x1, x2, x3, x4, x5]
      · subst e; rw [if_pos rfl, if_pos rfl, HZ.out]
      · rw [if_neg e, if_neg e]
    · have hqq : (Q == 0) = false := by simp [hq]
      have HZ : Hid (addA (f [x0, x1, x2, x3, x4, x5]) (x, y) ≠ (0, 0)) := by show _ ≠ _; rw [← HPQ.out]; simp [hq]
      clear hp hq
      go_wp2_with (first | (at_mapUpdate; refine wpList_mapUpdate_own _ rfl _ _ _ 80 rfl 111 83 Try.keyedA Try.underlying80 _ b cnt D rfl hownU hmax _ _ _ rfl rfl HKEY.out _ [] (amtElem_mk (P, Q)) ?_; intro w5 hown5 hgr5) | go_in)
      refine bodyPost_end (v := .tuple #[]) (by simp [results, Try.results47, go_sem]) rfl ⟨rfl, ⟨cnt + 1, _, _, hown5, (by rw [HPQ.out]; exact HMV.out.put hownU.isMap HFX.out HZ.out : MapV _ _).congr (fun z => ?_), HT.out.put hg hl (x, y), by omega⟩, grown_trans (Below.toGrown B3 _) hgr5⟩
      rw [HR.out]
      by_cases e : z = [x0, x1, x2, x3, x4, x5]
      · subst e; simp
      · rw [if_neg e, if_neg e]
  · have hpp : (P == 0) = false := by simp [hp]
    have HZ : Hid (addA (f [x0, x1, x2, x3, x4, x5]) (x, y) ≠ (0, 0)) := by show _ ≠ _; rw [← HPQ.out]; simp [hp]
    clear hp
    go_wp2_with (first | (at_mapUpdate; refine wpList_mapUpdate_own _ rfl _ _ _ 80 rfl 111 83 Try.keyedA Try.underlying80 _ b cnt D rfl hownU hmax _ _ _ rfl rfl HKEY.out _ [] (amtElem_mk (P, Q)) ?_; intro w5 hown5 hgr5) | go_in)
    refine bodyPost_end (v := .tuple #[]) (by simp [results, Try.results47, go_sem]) rfl ⟨rfl, ⟨cnt + 1, _, _, hown5, (by rw [HPQ.out]; exact HMV.out.put hownU.isMap HFX.out HZ.out : MapV _ _).congr (fun z => ?_), HT.out.put hg hl (x, y), by omega⟩, grown_trans (Below.toGrown B3 _) hgr5⟩
    rw [HR.out]
    by_cases e : z = [x0, x1, x2, x3, x4, x5]
    · subst e; simp
    · rw [if_neg e, if_neg e]

end Go.Proofs.Ytlfljfmhhnoinab

/- Contract of impl.groupOf. -/
namespace Go.Proofs.Ytlfljfmhhnoinab
open Go.RowKit Go.Maps

theorem set3_heap {w : World} {g : Nat} {x y z : Value} {t : TypeId} (h : w.heap[g]? = some (.cells #[x, y, z] t (0, 0))) (u v k : Value) : (((w.setCell ⟨g, 0, none⟩ u).setCell ⟨g, 1, none⟩ v).setCell ⟨g, 2, none⟩ k).heap[g]? = some (.cells #[u, v, k] t (0, 0)) := by
  have h1 := heap_setCell_same w g 0 _ t u h
  have h2 := heap_setCell_same _ g 1 _ t v h1
  have h3 := heap_setCell_same _ g 2 _ t k h2
  rw [h3]; rfl
theorem set3_other {w : World} {g : Nat} {a : Addr} {u v k s : Value} (h : w.cell? a = some s) (hne : a.block ≠ g) : (((w.setCell ⟨g, 0, none⟩ u).setCell ⟨g, 1, none⟩ v).setCell ⟨g, 2, none⟩ k).cell? a = some s := by
  have e : ∀ (w : World) (j : Nat) (u : Value), w.cell? a = some s → (w.setCell ⟨g, j, none⟩ u).cell? a = some s := fun w j u h => (World.cell?_of_block (Below.heap_setCell w ⟨g, j, none⟩ u a.block hne)).trans h
  exact e _ 2 _ (e _ 1 _ (e _ 0 _ h))
theorem six_set3 {w : World} {g Z : Nat} {x0 x1 x2 x3 x4 x5 : Int} {u v k : Value} (hne : Z ≠ g) (h : w.cell? ⟨Z, 0, none⟩ = some (.int .i64 x0) ∧ w.cell? ⟨Z, 1, none⟩ = some (.int .i64 x1) ∧ w.cell? ⟨Z, 2, none⟩ = some (.int .i64 x2) ∧ w.cell? ⟨Z, 3, none⟩ = some (.int .i64 x3) ∧ w.cell? ⟨Z, 4, none⟩ = some (.int .i64 x4) ∧ w.cell? ⟨Z, 5, none⟩ = some (.int .i64 x5)) : (((w.setCell ⟨g, 0, none⟩ u).setCell ⟨g, 1, none⟩ v).setCell ⟨g, 2, none⟩ k).cell? ⟨Z, 0, none⟩ = some (.int .i64 x0) ∧ (((w.setCell ⟨g, 0, none⟩ u).setCell ⟨g, 1, none⟩ v).setCell ⟨g, 2, none⟩ k).cell? ⟨Z, 1, none⟩ = some (.int .i64 x1) ∧ (((w.setCell ⟨g, 0, none⟩ u).setCell ⟨g, 1, none⟩ v).setCell ⟨g, 2, none⟩ k).cell? ⟨Z, 2, none⟩ = some (.int .i64 x2) ∧ (((w.setCell ⟨g, 0, none⟩ u).setCell ⟨g, 1, none⟩ v).setCell ⟨g, 2, none⟩ k).cell? ⟨Z, 3, none⟩ = some (.int .i64 x3) ∧ (((w.setCell ⟨g, 0, none⟩ u).setCell ⟨g, 1, none⟩ v).setCell ⟨g, 2, none⟩ k).cell? ⟨Z, 4, none⟩ = some (.int .i64 x4) ∧ (((w.setCell ⟨g, 0, none⟩ u).setCell ⟨g, 1, none⟩ v).setCell ⟨g, 2, none⟩ k).cell? ⟨Z, 5, none⟩ = some (.int .i64 x5) :=
  ⟨set3_other h.1 hne, set3_other h.2.1 hne, set3_other h.2.2.1 hne, set3_other h.2.2.2.1 hne, set3_other h.2.2.2.2.1 hne, set3_other h.2.2.2.2.2 hne⟩

set_option maxRecDepth 100000 in
set_option maxHeartbeats 4000000 in
theorem groupOf_any (x0 x1 x2 x3 x4 x5 : Int) (zs : List Int) (n : Nat) (x y : Int) (w : World) (hz : zs.length = n) (hg : good zs = true) (hr : raised zs = [x0, x1, x2, x3, x4, x5]) :
    Calls Try.prog 99 #[.agg #[.int .i64 x0, .int .i64 x1, .int .i64 x2, .int .i64 x3, .int .i64 x4, .int .i64 x5], .int .i64 n, .agg #[.int .i64 x, .int .i64 y]] w fun e w' => ∃ r d, e = .returned (.agg #[.slice r n d, .int .i64 x, .int .i64 y]) ∧
      w'.ownsRow w.heap.size 3 1 (.slice r n d) n (zs.map (.int .i64)) ∧ Below w.heap.size w w' := by
  have HR := Hid.mk hr
  clear hr
  obtain ⟨W, hW⟩ : ∃ W, W = ((w.alloc (.cells #[.int .i64 x0, .int .i64 x1, .int .i64 x2, .int .i64 x3, .int .i64 x4, .int .i64 x5] 111)).alloc (.cells #[.int .i64 x, .int .i64 y] 83)).alloc (.cells #[.slice none 0 0, .int .i64 0, .int .i64 0] 73) := ⟨_, rfl⟩
  have zW : W.heap.size = w.heap.size + 1 + 1 + 1 := by rw [hW]; simp
  have B0 : Below w.heap.size w W := by rw [hW]; exact (((Below.refl _ _).alloc (Nat.le_refl _) _).alloc (by simp) _).alloc (by simp; omega) _
  have q6 : W.heap[w.heap.size]? = some (.cells #[.int .i64 x0, .int .i64 x1, .int .i64 x2, .int .i64 x3, .int .i64 x4, .int .i64 x5] 111 (0, 0)) := by
    rw [hW]
    exact (Below.heap_alloc _ _ _ (by simp; omega)).trans ((Below.heap_alloc _ _ _ (by simp)).trans (heap_alloc_new w _))
  have q2 : W.heap[w.heap.size + 1]? = some (.cells #[.int .i64 x, .int .i64 y] 83 (0, 0)) := by
    rw [hW]
    have := heap_alloc_new (w.alloc (.cells #[.int .i64 x0, .int .i64 x1, .int .i64 x2, .int .i64 x3, .int .i64 x4, .int .i64 x5] 111)) (.cells #[.int .i64 x, .int .i64 y] 83)
    rw [World.size_alloc] at this
    exact (Below.heap_alloc _ _ _ (by simp)).trans this
  have q3 : W.heap[w.heap.size + 1 + 1]? = some (.cells #[.slice none 0 0, .int .i64 0, .int .i64 0] 73 (0, 0)) := by
    rw [hW]
    have := heap_alloc_new ((w.alloc (.cells #[.int .i64 x0, .int .i64 x1, .int .i64 x2, .int .i64 x3, .int .i64 x4, .int .i64 x5] 111)).alloc (.cells #[.int .i64 x, .int .i64 y] 83)) (.cells #[.slice none 0 0, .int .i64 0, .int .i64 0] 73)
    rwa [World.size_alloc, World.size_alloc] at this
  have c6 : W.cell? ⟨w.heap.size, 0, none⟩ = some (.int .i64 x0) ∧ W.cell? ⟨w.heap.size, 1, none⟩ = some (.int .i64 x1) ∧ W.cell? ⟨w.heap.size, 2, none⟩ = some (.int .i64 x2) ∧ W.cell? ⟨w.heap.size, 3, none⟩ = some (.int .i64 x3) ∧ W.cell? ⟨w.heap.size, 4, none⟩ = some (.int .i64 x4) ∧ W.cell? ⟨w.heap.size, 5, none⟩ = some (.int .i64 x5) := ⟨by rw [cell_of_row W _ 0 _ _ (0, 0) q6]; rfl, by rw [cell_of_row W _ 1 _ _ (0, 0) q6]; rfl, by rw [cell_of_row W _ 2 _ _ (0, 0) q6]; rfl, by rw [cell_of_row W _ 3 _ _ (0, 0) q6]; rfl, by rw [cell_of_row W _ 4 _ _ (0, 0) q6]; rfl, by rw [cell_of_row W _ 5 _ _ (0, 0) q6]; rfl⟩
  have m0 : W.cell? ⟨w.heap.size + 1, 0, none⟩ = some (.int .i64 x) := by rw [cell_of_row W _ 0 _ _ (0, 0) q2]; rfl
  have m1 : W.cell? ⟨w.heap.size + 1, 1, none⟩ = some (.int .i64 y) := by rw [cell_of_row W _ 1 _ _ (0, 0) q2]; rfl
  clear q6 q2
  go_enter Try.func99, Try.ntmps99
  go_wp2_with fail
  rw [← hW]
  clear hW
  refine wp_region_held_drew (S := fun w' => w'.cell? ⟨w.heap.size, 0, none⟩ = some (.int .i64 x0) ∧ w'.cell? ⟨w.heap.size, 1, none⟩ = some (.int .i64 x1) ∧ w'.cell? ⟨w.heap.size, 2, none⟩ = some (.int .i64 x2) ∧ w'.cell? ⟨w.heap.size, 3, none⟩ = some (.int .i64 x3) ∧ w'.cell? ⟨w.heap.size, 4, none⟩ = some (.int .i64 x4) ∧ w'.cell? ⟨w.heap.size, 5, none⟩ = some (.int .i64 x5) ∧ w'.cell? ⟨w.heap.size + 1, 0, none⟩ = some (.int .i64 x) ∧ w'.cell? ⟨w.heap.size + 1, 1, none⟩ = some (.int .i64 y)) (by kernel_rfl) ?_ (fun hHeld => ?_)
  · (try dsimp only)
    exact ⟨c6.1, c6.2.1, c6.2.2.1, c6.2.2.2.1, c6.2.2.2.2.1, c6.2.2.2.2.2, m0, m1⟩
  refine wpAnyH_take (i := 0) (oi := ?_) (v := ?_) ?_ (by kernel_rfl) (by kernel_rfl) (by kernel_rfl) ?_ (Or.inl ⟨?_, ?_⟩) (by assumption) ?_
  rotate_left 2
  · (simp only [List.getElem?_toArray, List.getElem?_cons_zero]; rfl)
  · exact fun _ _ _ h => h
  · rfl
  · (intro wS hSw; (try dsimp only at hSw); go_simp; (try with_reducible rfl))
  (try simp only [Act.put, List.setIfInBounds_toArray, List.set_cons_zero, List.set_cons_succ])
  refine wpAnyH_take (i := 1) (oi := ?_) (v := ?_) ?_ (by kernel_rfl) (by kernel_rfl) (by kernel_rfl) ?_ (Or.inl ⟨?_, ?_⟩) (by assumption) ?_
  rotate_left 2
  · (simp only [List.getElem?_toArray, List.getElem?_cons_zero, List.getElem?_cons_succ]; rfl)
  · exact fun _ _ _ h => h
  · rfl
  · (intro wS hSw; (try dsimp only at hSw); go_simp; (try with_reducible rfl))
  (try simp only [Act.put, List.setIfInBounds_toArray, List.set_cons_zero, List.set_cons_succ])
  refine wpAnyH_take (i := 3) (oi := ?_) (v := ?_) ?_ (by kernel_rfl) (by kernel_rfl) (by kernel_rfl) ?_ (Or.inl ⟨?_, ?_⟩) (by assumption) ?_
  rotate_left 2
  · (simp only [List.getElem?_toArray, List.getElem?_cons_zero, List.getElem?_cons_succ]; rfl)
  · exact fun _ _ _ h => h
  · rfl
  · (intro wS hSw; (try dsimp only at hSw); go_simp; (try with_reducible rfl))
  (try simp only [Act.put, List.setIfInBounds_toArray, List.set_cons_zero, List.set_cons_succ])
  refine wpAnyH_take (i := 4) (oi := ?_) (v := ?_) ?_ (by kernel_rfl) (by kernel_rfl) (by kernel_rfl) ?_ (Or.inl ⟨?_, ?_⟩) (by assumption) ?_
  rotate_left 2
  · (simp only [List.getElem?_toArray, List.getElem?_cons_zero, List.getElem?_cons_succ]; rfl)
  · exact fun _ _ _ h => h
  · rfl
  · (intro wS hSw; (try dsimp only at hSw); go_simp; (try with_reducible rfl))
  (try simp only [Act.put, List.setIfInBounds_toArray, List.set_cons_zero, List.set_cons_succ])
  refine wpAnyH_take (i := 5) (oi := ?_) (v := ?_) ?_ (by kernel_rfl) (by kernel_rfl) (by kernel_rfl) ?_ (Or.inl ⟨?_, ?_⟩) (by assumption) ?_
  rotate_left 2
  · (simp only [List.getElem?_toArray, List.getElem?_cons_zero, List.getElem?_cons_succ]; rfl)
  · exact fun _ _ _ h => h
  · rfl
  · (intro wS hSw; (try dsimp only at hSw); go_simp; (try with_reducible rfl))
  (try simp only [Act.put, List.setIfInBounds_toArray, List.set_cons_zero, List.set_cons_succ])
  refine wpAnyH_take (i := 6) (oi := ?_) (v := ?_) ?_ (by kernel_rfl) (by kernel_rfl) (by kernel_rfl) ?_ (Or.inl ⟨?_, ?_⟩) (by assumption) ?_
  rotate_left 2
  · (simp only [List.getElem?_toArray, List.getElem?_cons_zero, List.getElem?_cons_succ]; rfl)
  · exact fun _ _ _ h => h
  · rfl
  · (intro wS hSw; (try dsimp only at hSw); go_simp; (try with_reducible rfl))
  (try simp only [Act.put, List.setIfInBounds_toArray, List.set_cons_zero, List.set_cons_succ])
  refine wpAnyH_ready (rs := [2]) (by kernel_rfl) (by simp) ?_
  refine AllReadyH.cons (o := ?_) ?_ (fun K hK => ?_) AllReadyH.nil
  rotate_left
  · (simp only [List.getElem?_toArray, List.getElem?_cons_zero, List.getElem?_cons_succ]; rfl)
  go_simp
  go_at_call 117; refine (rowOf_any x0 x1 x2 x3 x4 x5 zs n _ hz hg HR.out).mono ?_; rintro e w2 ⟨r2, d2, rfl, ho2, hb2⟩; have e6 := six_later (w := W.drew) hb2 c6; have p0 := cell_later (w := W.drew) hb2 m0; have p1 := cell_later (w := W.drew) hb2 m1; have Q3 := (hb2.block (w.heap.size + 1 + 1) (by rw [drew_size]; omega)).trans q3; have k0 : w2.cell? ⟨w.heap.size + 1 + 1, 0, none⟩ = some (.slice none 0 0) := (by rw [cell_of_row w2 _ 0 _ _ (0, 0) Q3]; rfl); have k1 : w2.cell? ⟨w.heap.size + 1 + 1, 1, none⟩ = some (.int .i64 0) := (by rw [cell_of_row w2 _ 1 _ _ (0, 0) Q3]; rfl); have k2 : w2.cell? ⟨w.heap.size + 1 + 1, 2, none⟩ = some (.int .i64 0) := (by rw [cell_of_row w2 _ 2 _ _ (0, 0) Q3]; rfl); have l0 := frozen_of_row w2 _ 0 _ _ Q3; have l1 := frozen_of_row w2 _ 1 _ _ Q3; have l2 := frozen_of_row w2 _ 2 _ _ Q3
  (try go_wp2_with fail)
  refine hK.out _ _ ?_ (fun hHeld' => ?_)
  · (try dsimp only)
    exact ⟨e6.1, e6.2.1, e6.2.2.1, e6.2.2.2.1, e6.2.2.2.2.1, e6.2.2.2.2.2, p0, p1⟩
  clear hK K hHeld
  have hHeld := hHeld'
  clear hHeld'
  (try simp only [Act.put, List.setIfInBounds_toArray, List.set_cons_zero, List.set_cons_succ])
  refine wpAnyH_take (i := 7) (oi := ?_) (v := ?_) ?_ (by kernel_rfl) (by kernel_rfl) (by kernel_rfl) ?_ (Or.inl ⟨?_, ?_⟩) (by assumption) ?_
  rotate_left 2
  · (simp only [List.getElem?_toArray, List.getElem?_cons_zero, List.getElem?_cons_succ]; rfl)
  · exact fun _ _ _ h => h
  · rfl
  · (intro wS hSw; (try dsimp only at hSw); go_simp; (try with_reducible rfl))
  (try simp only [Act.put, List.setIfInBounds_toArray, List.set_cons_zero, List.set_cons_succ])
  refine wpAnyH_ready (rs := [8]) (by kernel_rfl) (by simp) ?_
  refine AllReadyH.cons (o := ?_) ?_ (fun K hK => ?_) AllReadyH.nil
  rotate_left
  · (simp only [List.getElem?_toArray, List.getElem?_cons_zero, List.getElem?_cons_succ]; rfl)
  go_simp
  skip
  (try go_wp2_with fail)
  refine hK.out _ _ ?_ (fun hHeld' => ?_)
  · (try dsimp only)
    exact ⟨(six_set3 (by omega) e6).1, (six_set3 (by omega) e6).2.1, (six_set3 (by omega) e6).2.2.1, (six_set3 (by omega) e6).2.2.2.1, (six_set3 (by omega) e6).2.2.2.2.1, (six_set3 (by omega) e6).2.2.2.2.2, set3_other p0 (by simp), set3_other p1 (by simp)⟩
  clear hK K hHeld
  have hHeld := hHeld'
  clear hHeld'
  (try simp only [Act.put, List.setIfInBounds_toArray, List.set_cons_zero, List.set_cons_succ])
  refine wpAnyH_done (by kernel_rfl) ?_ _
  have z2 : W.heap.size ≤ w2.heap.size := hb2.size
  have B2 : Below w.heap.size w w2 := B0.drew.trans (hb2.mono B0.size)
  have S3 := set3_heap Q3 (.slice r2 n d2) (.int .i64 x) (.int .i64 y)
  have s0 : (((w2.setCell ⟨w.heap.size + 1 + 1, 0, none⟩ (.slice r2 n d2)).setCell ⟨w.heap.size + 1 + 1, 1, none⟩ (.int .i64 x)).setCell ⟨w.heap.size + 1 + 1, 2, none⟩ (.int .i64 y)).cell? ⟨w.heap.size + 1 + 1, 0, none⟩ = some (.slice r2 n d2) := by rw [cell_of_row _ _ 0 _ _ (0, 0) S3]; rfl
  have s1 : (((w2.setCell ⟨w.heap.size + 1 + 1, 0, none⟩ (.slice r2 n d2)).setCell ⟨w.heap.size + 1 + 1, 1, none⟩ (.int .i64 x)).setCell ⟨w.heap.size + 1 + 1, 2, none⟩ (.int .i64 y)).cell? ⟨w.heap.size + 1 + 1, 1, none⟩ = some (.int .i64 x) := by rw [cell_of_row _ _ 1 _ _ (0, 0) S3]; rfl
  have s2 : (((w2.setCell ⟨w.heap.size + 1 + 1, 0, none⟩ (.slice r2 n d2)).setCell ⟨w.heap.size + 1 + 1, 1, none⟩ (.int .i64 x)).setCell ⟨w.heap.size + 1 + 1, 2, none⟩ (.int .i64 y)).cell? ⟨w.heap.size + 1 + 1, 2, none⟩ = some (.int .i64 y) := by rw [cell_of_row _ _ 2 _ _ (0, 0) S3]; rfl
  clear hHeld c6 m0 m1 e6 p0 p1 k0 k1 k2 l0 l1 l2 Q3 q3
  go_wp2
  refine bodyPost_ret (v := .agg #[.slice r2 n d2, .int .i64 x, .int .i64 y]) (by simp [results, Try.results99, go_sem, s0, s1, s2]) rfl ⟨r2, d2, rfl, ?_, ?_⟩
  · have lo : w.heap.size + 1 + 1 < W.drew.heap.size := by rw [drew_size]; omega
    exact owns_mono (ownsRow_setCell_below (ownsRow_setCell_below (ownsRow_setCell_below ho2 lo _) lo _) lo _) (by rw [drew_size]; omega)
  · exact ((B2.setCell (by show w.heap.size ≤ w.heap.size + 1 + 1; omega) _).setCell (by show w.heap.size ≤ w.heap.size + 1 + 1; omega) _).setCell (by show w.heap.size ≤ w.heap.size + 1 + 1; omega) _

end Go.Proofs.Ytlfljfmhhnoinab
