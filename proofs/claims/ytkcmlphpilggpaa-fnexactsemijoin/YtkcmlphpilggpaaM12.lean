/- Contract of impl.tableOf: whatever function hands out the rows. -/
import Derived.Test.YtkcmlphpilggpaaM3
import Derived.Test.YtkcmlphpilggpaaM6
import Derived.Test.YtkcmlphpilggpaaM10
import Derived.Test.YtkcmlphpilggpaaM11
namespace Go.Proofs.Ytkcmlphpilggpaa
open Go.RowKit Go.Shelf Go.Maps

attribute [local go_sem] Oper.semAt_some

theorem ownsMap_block {w w' : World} {b n : Nat} {D : DataW Unit} {k : TypeId} {R : Value → Option (DataW Unit × List MemPlace)} (h : w.ownsMap Try.prog k R b n D) (hb : w'.heap[b]? = w.heap[b]?) : w'.ownsMap Try.prog k R b n D := by
  obtain ⟨es, clock, h0, F, hs, hD⟩ := h
  exact ⟨es, clock, hb.trans h0, F, hs, hD⟩

/-- What the loop of tableOf holds when k rows have come. -/
structure Summed (w : World) (N : Nat) (xs : List WRow) (k : Nat) (W : World) : Prop where
  box : W.heap[w.heap.size + 1 + 1]? = some (.cells #[.map (some (w.heap.size + 1))] 136 (0, 0))
  res : W.heap[w.heap.size]? = some (.cells #[.int .i64 0, .slice none 0 0] 47 (0, 0))
  sums : ∃ D, W.ownsMap Try.prog 107 (plainElem Try.prog 3) (w.heap.size + 1) k D ∧ MapIs D (sumAt xs k 1) (keysTo xs k)
  low : Below w.heap.size w W
  size : N ≤ W.heap.size

theorem Summed.keep {w : World} {N : Nat} {xs : List WRow} {k : Nat} {A B : World} (hN : w.heap.size + 1 + 1 < N) (h : Summed w N xs k A) (hb : Below N A B) : Summed w N xs k B := by
  have hs := h.size
  obtain ⟨D, hD, hm⟩ := h.sums
  exact ⟨(hb.block _ (by omega)).trans h.box, (hb.block _ (by omega)).trans h.res, ⟨D, ownsMap_block hD (hb.block _ (by omega)), hm⟩, h.low.trans (hb.mono (by omega)), Nat.le_trans h.size hb.size⟩

theorem at_mem {xs : List WRow} {Q : WRow → Prop} (h : ∀ k, k < xs.length → Q (wat xs k)) : ∀ t ∈ xs, Q t := fun t ht => by
  obtain ⟨k, hk, rfl⟩ := List.getElem_of_mem ht
  have := h k hk
  rwa [show wat xs k = xs[k] by simp [wat, List.getD, hk]] at this
theorem sumAt_big {xs : List WRow} (hg : ∀ k, k < xs.length → good (wat xs k).1 = true ∧ -1000000000000 ≤ (wat xs k).2 ∧ (wat xs k).2 ≤ 1000000000000) (hn : xs.length ≤ 3600) : ∀ k, k ≤ xs.length → ∀ z, -3600000000000000 ≤ sumAt xs k 1 z ∧ sumAt xs k 1 z ≤ 3600000000000000 := by
  have key : ∀ k, k ≤ xs.length → ∀ z, -1000000000000 * (k : Int) ≤ sumAt xs k 1 z ∧ sumAt xs k 1 z ≤ 1000000000000 * (k : Int) := by
    intro k hk z
    induction k with
    | zero => simp [sumAt_zero]
    | succ k ih =>
      have hi := ih (by omega)
      have h2 := (hg k (by omega)).2
      rw [sumAt_succ xs k 1 z (by omega)]
      by_cases e : raised (wat xs k).1 = z
      · rw [if_pos e]; push_cast; omega
      · rw [if_neg e]; push_cast; omega
  intro k hk z
  have := key k hk z
  omega

set_option maxRecDepth 100000 in
set_option maxHeartbeats 8000000 in
theorem tableOf_any (gf : Nat) (lb : Array Value) (xs : List WRow) (q : Nat) (w : World) (eg : ∀ args w, (callFunc gf args).run Try.prog w = .ok (.enter gf args) w) (hH : Hands Try.prog gf lb xs w) (h6 : q ≤ 6) (hn : xs.length ≤ 3600)
    (hg : ∀ k, k < xs.length → good (wat xs k).1 = true ∧ -1000000000000 ≤ (wat xs k).2 ∧ (wat xs k).2 ≤ 1000000000000) (hk : ∀ t ∈ xs, t.1.length = q) :
    Calls Try.prog 83 #[.func (.func gf) #[] lb, .int .i64 q] w fun e w' => ∃ ts, TabRet e w' w.heap.size (goodT q ts) (tellP q ts) (tellT q ts) ∧ Tells q (sumAt xs xs.length 1) ts ∧ Below w.heap.size w w' := by
  refine (callsIn_wide (n := 0)).1 ?_
  refine callsIn_of_wp_marks Try.func83 rfl trivial ?_
  simp only [Try.ntmps83, List.size_toArray, List.length_cons, List.length_nil, Nat.reduceAdd, Nat.reduceSub, Array.replicate_succ, Array.replicate_zero, List.push_toArray, List.append_toArray, List.nil_append, List.cons_append]
  have hmm := @run_makeMap Try.prog
  gi_wp2
  obtain ⟨W0, hW0⟩ : ∃ W0, W0 = ((w.alloc (.cells #[.int .i64 0, .slice none 0 0] 47)).alloc (.map #[] 0)).alloc (.cells #[.map (some (w.heap.size + 1))] 136) := ⟨_, rfl⟩
  have z0 : W0.heap.size = w.heap.size + 1 + 1 + 1 := by rw [hW0]; simp
  have B0 : Below w.heap.size w W0 := by rw [hW0]; exact (((Below.refl _ _).alloc (Nat.le_refl _) _).alloc (by simp) _).alloc (by simp; omega) _
  have I0 : Summed w W0.heap.size xs 0 W0 := by
    refine ⟨?_, ?_, ⟨.map [], ?_, MapIs.empty⟩, B0, Nat.le_refl _⟩
    · rw [hW0]; have := heap_alloc_new ((w.alloc (.cells #[.int .i64 0, .slice none 0 0] 47)).alloc (.map #[] 0)) (.cells #[.map (some (w.heap.size + 1))] 136); rwa [World.size_alloc, World.size_alloc] at this
    · rw [hW0]; exact (Below.heap_alloc _ _ _ (by simp; omega)).trans ((Below.heap_alloc _ _ _ (by simp)).trans (heap_alloc_new w _))
    · rw [hW0]; have := (World.ownsMap_made (P := Try.prog) (k := 107) (R := plainElem (H := Unit) Try.prog 3) (w.alloc (.cells #[.int .i64 0, .slice none 0 0] 47))).alloc (.cells #[.map (some (w.heap.size + 1))] 136); rwa [World.size_alloc] at this
  rw [← hW0]
  clear hW0
  refine range_hands (gf := gf) (lb := lb) rfl eg hH B0 w.heap.size (Nat.le_refl _) (by omega) (Summed w W0.heap.size xs) (fun k A B hb h => h.keep (by omega) hb) I0 ?round ?done
  case round =>
    intro l k W1 b n c hl hkx hI hsz hrec hln hnil hat _
    have hgk := hg k hkx
    have hbnd := sumAt_big hg hn k (by omega)
    have HSS : Hid (∀ z, sumAt xs (k + 1) 1 z = sumAt xs k 1 z + (if raised (wat xs k).1 = z then (wat xs k).2 * 1 else 0)) := fun z => sumAt_succ xs k 1 z hkx
    have HKS := Hid.mk (keysTo_succ xs k hkx)
    generalize wat xs k = Y at *
    obtain ⟨ys, x⟩ := Y
    simp only at hln hat hgk HSS HKS
    gi_wp2
    refine ⟨(Below.refl _ _).alloc (Nat.le_refl _) _, fun W3 hT r3 hr3 => ?_⟩
    obtain ⟨W2, hW2⟩ : ∃ W2, W2 = W1.alloc (.cells #[.slice b n c] 97) := ⟨_, rfl⟩
    have hb2 : Below W1.heap.size W1 W2 := by rw [hW2]; exact (Below.refl _ _).alloc (Nat.le_refl _) _
    have cr : W2.cell? ⟨W1.heap.size, 0, none⟩ = some (.slice b n c) := by rw [hW2]; simp
    have z2 : W2.heap.size = W1.heap.size + 1 := by rw [hW2]; simp
    rw [← hW2] at hT
    clear hW2
    have hI3 : Summed w W0.heap.size xs k W3 := (hI.keep (by omega) (hb2.mono hsz)).keep (by omega) (hT.below hl)
    have cr3 := hT.cell cr
    have cm3 : W3.cell? ⟨w.heap.size + 1 + 1, 0, none⟩ = some (.map (some (w.heap.size + 1))) := by rw [cell_of_row W3 _ 0 _ _ (0, 0) hI3.box]; rfl
    obtain ⟨D, ho, hm⟩ := hI3.sums
    have hat3 := hT.at (hat.below hb2)
    have HI3 := Hid.mk hI3
    have zI := hI3.size
    obtain ⟨hg1, hx1, hx2⟩ := hgk
    have HG := Hid.mk hg1
    have l6 : n ≤ 6 := by have := good_len hg1; omega
    have HLN := Hid.mk hln
    clear hI hI3 hat cr hT hg1 hln
    gi_wp2_with fail
    refine region_round (by kernel_rfl) (by kernel_rfl) ?_
    refine wpAnyIn_take (i := 4) (oi := ?_) (v := ?_) rfl ?_ (by kernel_rfl) (by kernel_rfl) (by kernel_rfl) ?_ ⟨Or.inl ⟨?_, ?_⟩, ?_⟩ ?_
    rotate_left 2
    · (simp only [List.getElem?_toArray, List.getElem?_cons_zero, List.getElem?_cons_succ]; rfl)
    · exact fun _ _ _ h => h
    · rfl
    · (intro wS; go_simp; (try with_reducible rfl))
    · exact fun _ => rfl
    (try simp only [Act.put, List.setIfInBounds_toArray, List.set_cons_zero, List.set_cons_succ])
    refine wpAnyIn_ready (rs := [0, 1]) (by kernel_rfl) (by simp) ?_
    refine AllReadyIn.cons (o := ?_) ?_ (fun K hK => ?_) ?_
    rotate_left
    · (simp only [List.getElem?_toArray, List.getElem?_cons_zero]; rfl)
    · have HK := Hid.mk hK
      clear hK
      go_simp
      refine HK.out _ _ ?_
      clear HK K
      (try simp only [Act.put, List.setIfInBounds_toArray, List.set_cons_zero, List.set_cons_succ])
      refine wpAnyIn_ready (rs := [1]) (by kernel_rfl) (by simp) ?_
      refine AllReadyIn.cons (o := ?_) ?_ (fun K hK => ?_) AllReadyIn.nil
      rotate_left
      · (simp only [List.getElem?_toArray, List.getElem?_cons_zero, List.getElem?_cons_succ]; rfl)
      have HK := Hid.mk hK
      clear hK
      go_simp
      skip
      refine HK.out _ _ ?_
      clear HK K
      (try simp only [Act.put, List.setIfInBounds_toArray, List.set_cons_zero, List.set_cons_succ])
      refine wpAnyIn_ready (rs := [2]) (by kernel_rfl) (by simp) ?_
      refine AllReadyIn.cons (o := ?_) ?_ (fun K hK => ?_) AllReadyIn.nil
      rotate_left
      · (simp only [List.getElem?_toArray, List.getElem?_cons_zero, List.getElem?_cons_succ]; rfl)
      have HK := Hid.mk hK
      clear hK
      go_simp
      refine ⟨trivial, rfl, ?_⟩
      refine (callsIn_wide.2 (arrayOf_any _ _ _ ys _ HLN.out l6 (fun j hj => good_cell HG.out j (by have := HLN.out; omega)) hat3.drew)).mono ?_
      rintro e w2 ⟨x0, x1, x2, x3, x4, x5, rfl, hr, hb3⟩
      have r3 := cell_later hb3 cm3
      have ho2 : w2.ownsMap Try.prog 107 (plainElem Try.prog 3) (w.heap.size + 1) k D := ho.drew.kept (Below.toGrown hb3 none) (by simp)
      have hkey : keyOf Try.prog 107 (.agg #[.int .i64 x0, .int .i64 x1, .int .i64 x2, .int .i64 x3, .int .i64 x4, .int .i64 x5]) = some (klit (raised ys)) := by
        have := keyOf_arr (raised ys) (fits_raised HG.out)
        rw [hr] at this ⊢
        exact this
      obtain ⟨cc, hlk, hatk, hent⟩ := bump Try.arrKey.law Try.underlying136 Try.underlying3 Try.zeroInt ho2 (by unfold maxLen; omega) hkey
      have hcc := hm.at (fits_raised HG.out) hatk
      have hfb := hbnd (raised ys)
      rw [← hcc] at hfb
      have hadd : IntKind.i64.wrap (cc + x) = cc + x := IntWalk.i64_in _ (by omega)
      obtain ⟨v0, st, W1', W2', hme, hlk1, hst, hoW2, hgW1, hgW2⟩ := hent (cc + x) (wf_i64 (by omega) (by omega))
      have HCC := Hid.mk hcc
      have HR := Hid.mk hr
      clear hcc hr hfb hatk hent
      refine HK.out _ _ ?_
      clear HK K
      (try simp only [Act.put, List.setIfInBounds_toArray, List.set_cons_zero, List.set_cons_succ])
      refine wpAnyIn_ready (rs := [3, 6]) (by kernel_rfl) (by simp) ?_
      refine AllReadyIn.cons (o := ?_) ?_ (fun K hK => ?_) ?_
      rotate_left
      · (simp only [List.getElem?_toArray, List.getElem?_cons_zero, List.getElem?_cons_succ]; rfl)
      · have HK := Hid.mk hK
        clear hK
        go_simp
        skip
        refine HK.out _ _ ?_
        clear HK K
        (try simp only [Act.put, List.setIfInBounds_toArray, List.set_cons_zero, List.set_cons_succ])
        refine wpAnyIn_take (i := 5) (oi := ?_) (v := ?_) rfl ?_ (by kernel_rfl) (by kernel_rfl) (by kernel_rfl) ?_ ⟨Or.inl ⟨?_, ?_⟩, ?_⟩ ?_
        rotate_left 2
        · (simp only [List.getElem?_toArray, List.getElem?_cons_zero, List.getElem?_cons_succ]; rfl)
        · exact fun _ _ _ h => h
        · rfl
        · (intro wS; go_simp; (try with_reducible rfl))
        · exact fun _ => rfl
        (try simp only [Act.put, List.setIfInBounds_toArray, List.set_cons_zero, List.set_cons_succ])
        refine wpAnyIn_ready (rs := [6]) (by kernel_rfl) (by simp) ?_
        refine AllReadyIn.cons (o := ?_) ?_ (fun K hK => ?_) AllReadyIn.nil
        rotate_left
        · (simp only [List.getElem?_toArray, List.getElem?_cons_zero, List.getElem?_cons_succ]; rfl)
        have HK := Hid.mk hK
        clear hK
        go_simp
        skip
        refine HK.out _ _ ?_
        clear HK K
        (try simp only [Act.put, List.setIfInBounds_toArray, List.set_cons_zero, List.set_cons_succ])
        refine wpAnyIn_take (i := 7) (oi := ?_) (v := ?_) rfl ?_ (by kernel_rfl) (by kernel_rfl) (by kernel_rfl) ?_ ⟨Or.inl ⟨?_, ?_⟩, ?_⟩ ?_
        rotate_left 2
        · (simp only [List.getElem?_toArray, List.getElem?_cons_zero, List.getElem?_cons_succ]; rfl)
        · exact fun _ _ _ h => h
        · rfl
        · (intro wS; go_simp; (try with_reducible rfl))
        · exact fun _ => rfl
        (try simp only [Act.put, List.setIfInBounds_toArray, List.set_cons_zero, List.set_cons_succ])
        refine wpAnyIn_ready (rs := [8]) (by kernel_rfl) (by simp) ?_
        refine AllReadyIn.cons (o := ?_) ?_ (fun K hK => ?_) AllReadyIn.nil
        rotate_left
        · (simp only [List.getElem?_toArray, List.getElem?_cons_zero, List.getElem?_cons_succ]; rfl)
        have HK := Hid.mk hK
        clear hK
        go_simp
        skip
        refine HK.out _ _ ?_
        clear HK K
        (try simp only [Act.put, List.setIfInBounds_toArray, List.set_cons_zero, List.set_cons_succ])
        refine wpAnyIn_done (by kernel_rfl) ?_ _
        have HMI : MapIs (D.put (klit (raised ys)) (.lit (.int .i64 (cc + x)))) (sumAt xs (k + 1) 1) (keysTo xs (k + 1)) := by
          refine (hm.put ho2.isMap (fits_raised HG.out) (cc + x)).congr (fun z => ?_) (by rw [HKS.out])
          rw [HSS.out z]
          show (if z = raised ys then cc + x else sumAt xs k 1 z) = sumAt xs k 1 z + if raised ys = z then x * 1 else 0
          by_cases e : z = raised ys
          · rw [if_pos e, if_pos e.symm, HCC.out, e]; omega
          · rw [if_neg e, if_neg (fun h => e h.symm)]; omega
        have hgr : W3.grownBy W2' (some (w.heap.size + 1)) := grown_trans (grown_undrew (Below.toGrown hb3 (some (w.heap.size + 1)))) hgW2
        have hI3 := HI3.out
        have hfin : Summed w W0.heap.size xs (k + 1) W2' := ⟨(hgr.block _ (by omega) (by simp)).trans hI3.box, (hgr.block _ (by omega) (by simp)).trans hI3.res, ⟨_, hoW2, HMI⟩, hI3.low.grown hgr hI3.low.size (fun j hj => by cases hj; omega), Nat.le_trans zI hgr.size⟩
        have hapf : Apart w.heap.size W0.heap.size W3 W2' := Apart.grown hgr (fun j hj => by cases hj; omega)
        rw [z0] at hfin hapf
        gi_wp2
      refine AllReadyIn.cons (o := ?_) ?_ (fun K hK => ?_) AllReadyIn.nil
      rotate_left
      · (simp only [List.getElem?_toArray, List.getElem?_cons_zero, List.getElem?_cons_succ]; rfl)
      · have HK := Hid.mk hK
        clear hK
        go_simp
        skip
        refine HK.out _ _ ?_
        clear HK K
        (try simp only [Act.put, List.setIfInBounds_toArray, List.set_cons_zero, List.set_cons_succ])
        refine wpAnyIn_take (i := 7) (oi := ?_) (v := ?_) rfl ?_ (by kernel_rfl) (by kernel_rfl) (by kernel_rfl) ?_ ⟨Or.inl ⟨?_, ?_⟩, ?_⟩ ?_
        rotate_left 2
        · (simp only [List.getElem?_toArray, List.getElem?_cons_zero, List.getElem?_cons_succ]; rfl)
        · exact fun _ _ _ h => h
        · rfl
        · (intro wS; go_simp; (try with_reducible rfl))
        · exact fun _ => rfl
        (try simp only [Act.put, List.setIfInBounds_toArray, List.set_cons_zero, List.set_cons_succ])
        refine wpAnyIn_ready (rs := [3]) (by kernel_rfl) (by simp) ?_
        refine AllReadyIn.cons (o := ?_) ?_ (fun K hK => ?_) AllReadyIn.nil
        rotate_left
        · (simp only [List.getElem?_toArray, List.getElem?_cons_zero, List.getElem?_cons_succ]; rfl)
        have HK := Hid.mk hK
        clear hK
        go_simp
        skip
        refine HK.out _ _ ?_
        clear HK K
        (try simp only [Act.put, List.setIfInBounds_toArray, List.set_cons_zero, List.set_cons_succ])
        refine wpAnyIn_take (i := 5) (oi := ?_) (v := ?_) rfl ?_ (by kernel_rfl) (by kernel_rfl) (by kernel_rfl) ?_ ⟨Or.inl ⟨?_, ?_⟩, ?_⟩ ?_
        rotate_left 2
        · (simp only [List.getElem?_toArray, List.getElem?_cons_zero, List.getElem?_cons_succ]; rfl)
        · exact fun _ _ _ h => h
        · rfl
        · (intro wS; go_simp; (try with_reducible rfl))
        · exact fun _ => rfl
        (try simp only [Act.put, List.setIfInBounds_toArray, List.set_cons_zero, List.set_cons_succ])
        refine wpAnyIn_ready (rs := [8]) (by kernel_rfl) (by simp) ?_
        refine AllReadyIn.cons (o := ?_) ?_ (fun K hK => ?_) AllReadyIn.nil
        rotate_left
        · (simp only [List.getElem?_toArray, List.getElem?_cons_zero, List.getElem?_cons_succ]; rfl)
        have HK := Hid.mk hK
        clear hK
        go_simp
        skip
        refine HK.out _ _ ?_
        clear HK K
        (try simp only [Act.put, List.setIfInBounds_toArray, List.set_cons_zero, List.set_cons_succ])
        refine wpAnyIn_done (by kernel_rfl) ?_ _
        have HMI : MapIs (D.put (klit (raised ys)) (.lit (.int .i64 (cc + x)))) (sumAt xs (k + 1) 1) (keysTo xs (k + 1)) := by
          refine (hm.put ho2.isMap (fits_raised HG.out) (cc + x)).congr (fun z => ?_) (by rw [HKS.out])
          rw [HSS.out z]
          show (if z = raised ys then cc + x else sumAt xs k 1 z) = sumAt xs k 1 z + if raised ys = z then x * 1 else 0
          by_cases e : z = raised ys
          · rw [if_pos e, if_pos e.symm, HCC.out, e]; omega
          · rw [if_neg e, if_neg (fun h => e h.symm)]; omega
        have hgr : W3.grownBy W2' (some (w.heap.size + 1)) := grown_trans (grown_undrew (Below.toGrown hb3 (some (w.heap.size + 1)))) hgW2
        have hI3 := HI3.out
        have hfin : Summed w W0.heap.size xs (k + 1) W2' := ⟨(hgr.block _ (by omega) (by simp)).trans hI3.box, (hgr.block _ (by omega) (by simp)).trans hI3.res, ⟨_, hoW2, HMI⟩, hI3.low.grown hgr hI3.low.size (fun j hj => by cases hj; omega), Nat.le_trans zI hgr.size⟩
        have hapf : Apart w.heap.size W0.heap.size W3 W2' := Apart.grown hgr (fun j hj => by cases hj; omega)
        rw [z0] at hfin hapf
        gi_wp2
    refine AllReadyIn.cons (o := ?_) ?_ (fun K hK => ?_) AllReadyIn.nil
    rotate_left
    · (simp only [List.getElem?_toArray, List.getElem?_cons_zero, List.getElem?_cons_succ]; rfl)
    · have HK := Hid.mk hK
      clear hK
      go_simp
      refine HK.out _ _ ?_
      clear HK K
      (try simp only [Act.put, List.setIfInBounds_toArray, List.set_cons_zero, List.set_cons_succ])
      refine wpAnyIn_ready (rs := [0, 2]) (by kernel_rfl) (by simp) ?_
      refine AllReadyIn.cons (o := ?_) ?_ (fun K hK => ?_) ?_
      rotate_left
      · (simp only [List.getElem?_toArray, List.getElem?_cons_zero]; rfl)
      · have HK := Hid.mk hK
        clear hK
        go_simp
        refine HK.out _ _ ?_
        clear HK K
        (try simp only [Act.put, List.setIfInBounds_toArray, List.set_cons_zero, List.set_cons_succ])
        refine wpAnyIn_ready (rs := [2]) (by kernel_rfl) (by simp) ?_
        refine AllReadyIn.cons (o := ?_) ?_ (fun K hK => ?_) AllReadyIn.nil
        rotate_left
        · (simp only [List.getElem?_toArray, List.getElem?_cons_zero, List.getElem?_cons_succ]; rfl)
        have HK := Hid.mk hK
        clear hK
        go_simp
        refine ⟨trivial, rfl, ?_⟩
        refine (callsIn_wide.2 (arrayOf_any _ _ _ ys _ HLN.out l6 (fun j hj => good_cell HG.out j (by have := HLN.out; omega)) hat3.drew)).mono ?_
        rintro e w2 ⟨x0, x1, x2, x3, x4, x5, rfl, hr, hb3⟩
        have r3 := cell_later hb3 cm3
        have ho2 : w2.ownsMap Try.prog 107 (plainElem Try.prog 3) (w.heap.size + 1) k D := ho.drew.kept (Below.toGrown hb3 none) (by simp)
        have hkey : keyOf Try.prog 107 (.agg #[.int .i64 x0, .int .i64 x1, .int .i64 x2, .int .i64 x3, .int .i64 x4, .int .i64 x5]) = some (klit (raised ys)) := by
          have := keyOf_arr (raised ys) (fits_raised HG.out)
          rw [hr] at this ⊢
          exact this
        obtain ⟨cc, hlk, hatk, hent⟩ := bump Try.arrKey.law Try.underlying136 Try.underlying3 Try.zeroInt ho2 (by unfold maxLen; omega) hkey
        have hcc := hm.at (fits_raised HG.out) hatk
        have hfb := hbnd (raised ys)
        rw [← hcc] at hfb
        have hadd : IntKind.i64.wrap (cc + x) = cc + x := IntWalk.i64_in _ (by omega)
        obtain ⟨v0, st, W1', W2', hme, hlk1, hst, hoW2, hgW1, hgW2⟩ := hent (cc + x) (wf_i64 (by omega) (by omega))
        have HCC := Hid.mk hcc
        have HR := Hid.mk hr
        clear hcc hr hfb hatk hent
        refine HK.out _ _ ?_
        clear HK K
        (try simp only [Act.put, List.setIfInBounds_toArray, List.set_cons_zero, List.set_cons_succ])
        refine wpAnyIn_ready (rs := [3, 6]) (by kernel_rfl) (by simp) ?_
        refine AllReadyIn.cons (o := ?_) ?_ (fun K hK => ?_) ?_
        rotate_left
        · (simp only [List.getElem?_toArray, List.getElem?_cons_zero, List.getElem?_cons_succ]; rfl)
        · have HK := Hid.mk hK
          clear hK
          go_simp
          skip
          refine HK.out _ _ ?_
          clear HK K
          (try simp only [Act.put, List.setIfInBounds_toArray, List.set_cons_zero, List.set_cons_succ])
          refine wpAnyIn_take (i := 5) (oi := ?_) (v := ?_) rfl ?_ (by kernel_rfl) (by kernel_rfl) (by kernel_rfl) ?_ ⟨Or.inl ⟨?_, ?_⟩, ?_⟩ ?_
          rotate_left 2
          · (simp only [List.getElem?_toArray, List.getElem?_cons_zero, List.getElem?_cons_succ]; rfl)
          · exact fun _ _ _ h => h
          · rfl
          · (intro wS; go_simp; (try with_reducible rfl))
          · exact fun _ => rfl
          (try simp only [Act.put, List.setIfInBounds_toArray, List.set_cons_zero, List.set_cons_succ])
          refine wpAnyIn_ready (rs := [6]) (by kernel_rfl) (by simp) ?_
          refine AllReadyIn.cons (o := ?_) ?_ (fun K hK => ?_) AllReadyIn.nil
          rotate_left
          · (simp only [List.getElem?_toArray, List.getElem?_cons_zero, List.getElem?_cons_succ]; rfl)
          have HK := Hid.mk hK
          clear hK
          go_simp
          skip
          refine HK.out _ _ ?_
          clear HK K
          (try simp only [Act.put, List.setIfInBounds_toArray, List.set_cons_zero, List.set_cons_succ])
          refine wpAnyIn_take (i := 7) (oi := ?_) (v := ?_) rfl ?_ (by kernel_rfl) (by kernel_rfl) (by kernel_rfl) ?_ ⟨Or.inl ⟨?_, ?_⟩, ?_⟩ ?_
          rotate_left 2
          · (simp only [List.getElem?_toArray, List.getElem?_cons_zero, List.getElem?_cons_succ]; rfl)
          · exact fun _ _ _ h => h
          · rfl
          · (intro wS; go_simp; (try with_reducible rfl))
          · exact fun _ => rfl
          (try simp only [Act.put, List.setIfInBounds_toArray, List.set_cons_zero, List.set_cons_succ])
          refine wpAnyIn_ready (rs := [8]) (by kernel_rfl) (by simp) ?_
          refine AllReadyIn.cons (o := ?_) ?_ (fun K hK => ?_) AllReadyIn.nil
          rotate_left
          · (simp only [List.getElem?_toArray, List.getElem?_cons_zero, List.getElem?_cons_succ]; rfl)
          have HK := Hid.mk hK
          clear hK
          go_simp
          skip
          refine HK.out _ _ ?_
          clear HK K
          (try simp only [Act.put, List.setIfInBounds_toArray, List.set_cons_zero, List.set_cons_succ])
          refine wpAnyIn_done (by kernel_rfl) ?_ _
          have HMI : MapIs (D.put (klit (raised ys)) (.lit (.int .i64 (cc + x)))) (sumAt xs (k + 1) 1) (keysTo xs (k + 1)) := by
            refine (hm.put ho2.isMap (fits_raised HG.out) (cc + x)).congr (fun z => ?_) (by rw [HKS.out])
            rw [HSS.out z]
            show (if z = raised ys then cc + x else sumAt xs k 1 z) = sumAt xs k 1 z + if raised ys = z then x * 1 else 0
            by_cases e : z = raised ys
            · rw [if_pos e, if_pos e.symm, HCC.out, e]; omega
            · rw [if_neg e, if_neg (fun h => e h.symm)]; omega
          have hgr : W3.grownBy W2' (some (w.heap.size + 1)) := grown_trans (grown_undrew (Below.toGrown hb3 (some (w.heap.size + 1)))) hgW2
          have hI3 := HI3.out
          have hfin : Summed w W0.heap.size xs (k + 1) W2' := ⟨(hgr.block _ (by omega) (by simp)).trans hI3.box, (hgr.block _ (by omega) (by simp)).trans hI3.res, ⟨_, hoW2, HMI⟩, hI3.low.grown hgr hI3.low.size (fun j hj => by cases hj; omega), Nat.le_trans zI hgr.size⟩
          have hapf : Apart w.heap.size W0.heap.size W3 W2' := Apart.grown hgr (fun j hj => by cases hj; omega)
          rw [z0] at hfin hapf
          gi_wp2
        refine AllReadyIn.cons (o := ?_) ?_ (fun K hK => ?_) AllReadyIn.nil
        rotate_left
        · (simp only [List.getElem?_toArray, List.getElem?_cons_zero, List.getElem?_cons_succ]; rfl)
        · have HK := Hid.mk hK
          clear hK
          go_simp
          skip
          refine HK.out _ _ ?_
          clear HK K
          (try simp only [Act.put, List.setIfInBounds_toArray, List.set_cons_zero, List.set_cons_succ])
          refine wpAnyIn_take (i := 7) (oi := ?_) (v := ?_) rfl ?_ (by kernel_rfl) (by kernel_rfl) (by kernel_rfl) ?_ ⟨Or.inl ⟨?_, ?_⟩, ?_⟩ ?_
          rotate_left 2
          · (simp only [List.getElem?_toArray, List.getElem?_cons_zero, List.getElem?_cons_succ]; rfl)
          · exact fun _ _ _ h => h
          · rfl
          · (intro wS; go_simp; (try with_reducible rfl))
          · exact fun _ => rfl
          (try simp only [Act.put, List.setIfInBounds_toArray, List.set_cons_zero, List.set_cons_succ])
          refine wpAnyIn_ready (rs := [3]) (by kernel_rfl) (by simp) ?_
          refine AllReadyIn.cons (o := ?_) ?_ (fun K hK => ?_) AllReadyIn.nil
          rotate_left
          · (simp only [List.getElem?_toArray, List.getElem?_cons_zero, List.getElem?_cons_succ]; rfl)
          have HK := Hid.mk hK
          clear hK
          go_simp
          skip
          refine HK.out _ _ ?_
          clear HK K
          (try simp only [Act.put, List.setIfInBounds_toArray, List.set_cons_zero, List.set_cons_succ])
          refine wpAnyIn_take (i := 5) (oi := ?_) (v := ?_) rfl ?_ (by kernel_rfl) (by kernel_rfl) (by kernel_rfl) ?_ ⟨Or.inl ⟨?_, ?_⟩, ?_⟩ ?_
          rotate_left 2
          · (simp only [List.getElem?_toArray, List.getElem?_cons_zero, List.getElem?_cons_succ]; rfl)
          · exact fun _ _ _ h => h
          · rfl
          · (intro wS; go_simp; (try with_reducible rfl))
          · exact fun _ => rfl
          (try simp only [Act.put, List.setIfInBounds_toArray, List.set_cons_zero, List.set_cons_succ])
          refine wpAnyIn_ready (rs := [8]) (by kernel_rfl) (by simp) ?_
          refine AllReadyIn.cons (o := ?_) ?_ (fun K hK => ?_) AllReadyIn.nil
          rotate_left
          · (simp only [List.getElem?_toArray, List.getElem?_cons_zero, List.getElem?_cons_succ]; rfl)
          have HK := Hid.mk hK
          clear hK
          go_simp
          skip
          refine HK.out _ _ ?_
          clear HK K
          (try simp only [Act.put, List.setIfInBounds_toArray, List.set_cons_zero, List.set_cons_succ])
          refine wpAnyIn_done (by kernel_rfl) ?_ _
          have HMI : MapIs (D.put (klit (raised ys)) (.lit (.int .i64 (cc + x)))) (sumAt xs (k + 1) 1) (keysTo xs (k + 1)) := by
            refine (hm.put ho2.isMap (fits_raised HG.out) (cc + x)).congr (fun z => ?_) (by rw [HKS.out])
            rw [HSS.out z]
            show (if z = raised ys then cc + x else sumAt xs k 1 z) = sumAt xs k 1 z + if raised ys = z then x * 1 else 0
            by_cases e : z = raised ys
            · rw [if_pos e, if_pos e.symm, HCC.out, e]; omega
            · rw [if_neg e, if_neg (fun h => e h.symm)]; omega
          have hgr : W3.grownBy W2' (some (w.heap.size + 1)) := grown_trans (grown_undrew (Below.toGrown hb3 (some (w.heap.size + 1)))) hgW2
          have hI3 := HI3.out
          have hfin : Summed w W0.heap.size xs (k + 1) W2' := ⟨(hgr.block _ (by omega) (by simp)).trans hI3.box, (hgr.block _ (by omega) (by simp)).trans hI3.res, ⟨_, hoW2, HMI⟩, hI3.low.grown hgr hI3.low.size (fun j hj => by cases hj; omega), Nat.le_trans zI hgr.size⟩
          have hapf : Apart w.heap.size W0.heap.size W3 W2' := Apart.grown hgr (fun j hj => by cases hj; omega)
          rw [z0] at hfin hapf
          gi_wp2
      refine AllReadyIn.cons (o := ?_) ?_ (fun K hK => ?_) AllReadyIn.nil
      rotate_left
      · (simp only [List.getElem?_toArray, List.getElem?_cons_zero, List.getElem?_cons_succ]; rfl)
      · have HK := Hid.mk hK
        clear hK
        go_simp
        refine ⟨trivial, rfl, ?_⟩
        refine (callsIn_wide.2 (arrayOf_any _ _ _ ys _ HLN.out l6 (fun j hj => good_cell HG.out j (by have := HLN.out; omega)) hat3.drew)).mono ?_
        rintro e w2 ⟨x0, x1, x2, x3, x4, x5, rfl, hr, hb3⟩
        have r3 := cell_later hb3 cm3
        have ho2 : w2.ownsMap Try.prog 107 (plainElem Try.prog 3) (w.heap.size + 1) k D := ho.drew.kept (Below.toGrown hb3 none) (by simp)
        have hkey : keyOf Try.prog 107 (.agg #[.int .i64 x0, .int .i64 x1, .int .i64 x2, .int .i64 x3, .int .i64 x4, .int .i64 x5]) = some (klit (raised ys)) := by
          have := keyOf_arr (raised ys) (fits_raised HG.out)
          rw [hr] at this ⊢
          exact this
        obtain ⟨cc, hlk, hatk, hent⟩ := bump Try.arrKey.law Try.underlying136 Try.underlying3 Try.zeroInt ho2 (by unfold maxLen; omega) hkey
        have hcc := hm.at (fits_raised HG.out) hatk
        have hfb := hbnd (raised ys)
        rw [← hcc] at hfb
        have hadd : IntKind.i64.wrap (cc + x) = cc + x := IntWalk.i64_in _ (by omega)
        obtain ⟨v0, st, W1', W2', hme, hlk1, hst, hoW2, hgW1, hgW2⟩ := hent (cc + x) (wf_i64 (by omega) (by omega))
        have HCC := Hid.mk hcc
        have HR := Hid.mk hr
        clear hcc hr hfb hatk hent
        refine HK.out _ _ ?_
        clear HK K
        (try simp only [Act.put, List.setIfInBounds_toArray, List.set_cons_zero, List.set_cons_succ])
        refine wpAnyIn_ready (rs := [0]) (by kernel_rfl) (by simp) ?_
        refine AllReadyIn.cons (o := ?_) ?_ (fun K hK => ?_) AllReadyIn.nil
        rotate_left
        · (simp only [List.getElem?_toArray, List.getElem?_cons_zero]; rfl)
        have HK := Hid.mk hK
        clear hK
        go_simp
        skip
        refine HK.out _ _ ?_
        clear HK K
        (try simp only [Act.put, List.setIfInBounds_toArray, List.set_cons_zero, List.set_cons_succ])
        refine wpAnyIn_ready (rs := [3, 6]) (by kernel_rfl) (by simp) ?_
        refine AllReadyIn.cons (o := ?_) ?_ (fun K hK => ?_) ?_
        rotate_left
        · (simp only [List.getElem?_toArray, List.getElem?_cons_zero, List.getElem?_cons_succ]; rfl)
        · have HK := Hid.mk hK
          clear hK
          go_simp
          skip
          refine HK.out _ _ ?_
          clear HK K
          (try simp only [Act.put, List.setIfInBounds_toArray, List.set_cons_zero, List.set_cons_succ])
          refine wpAnyIn_take (i := 5) (oi := ?_) (v := ?_) rfl ?_ (by kernel_rfl) (by kernel_rfl) (by kernel_rfl) ?_ ⟨Or.inl ⟨?_, ?_⟩, ?_⟩ ?_
          rotate_left 2
          · (simp only [List.getElem?_toArray, List.getElem?_cons_zero, List.getElem?_cons_succ]; rfl)
          · exact fun _ _ _ h => h
          · rfl
          · (intro wS; go_simp; (try with_reducible rfl))
          · exact fun _ => rfl
          (try simp only [Act.put, List.setIfInBounds_toArray, List.set_cons_zero, List.set_cons_succ])
          refine wpAnyIn_ready (rs := [6]) (by kernel_rfl) (by simp) ?_
          refine AllReadyIn.cons (o := ?_) ?_ (fun K hK => ?_) AllReadyIn.nil
          rotate_left
          · (simp only [List.getElem?_toArray, List.getElem?_cons_zero, List.getElem?_cons_succ]; rfl)
          have HK := Hid.mk hK
          clear hK
          go_simp
          skip
          refine HK.out _ _ ?_
          clear HK K
          (try simp only [Act.put, List.setIfInBounds_toArray, List.set_cons_zero, List.set_cons_succ])
          refine wpAnyIn_take (i := 7) (oi := ?_) (v := ?_) rfl ?_ (by kernel_rfl) (by kernel_rfl) (by kernel_rfl) ?_ ⟨Or.inl ⟨?_, ?_⟩, ?_⟩ ?_
          rotate_left 2
          · (simp only [List.getElem?_toArray, List.getElem?_cons_zero, List.getElem?_cons_succ]; rfl)
          · exact fun _ _ _ h => h
          · rfl
          · (intro wS; go_simp; (try with_reducible rfl))
          · exact fun _ => rfl
          (try simp only [Act.put, List.setIfInBounds_toArray, List.set_cons_zero, List.set_cons_succ])
          refine wpAnyIn_ready (rs := [8]) (by kernel_rfl) (by simp) ?_
          refine AllReadyIn.cons (o := ?_) ?_ (fun K hK => ?_) AllReadyIn.nil
          rotate_left
          · (simp only [List.getElem?_toArray, List.getElem?_cons_zero, List.getElem?_cons_succ]; rfl)
          have HK := Hid.mk hK
          clear hK
          go_simp
          skip
          refine HK.out _ _ ?_
          clear HK K
          (try simp only [Act.put, List.setIfInBounds_toArray, List.set_cons_zero, List.set_cons_succ])
          refine wpAnyIn_done (by kernel_rfl) ?_ _
          have HMI : MapIs (D.put (klit (raised ys)) (.lit (.int .i64 (cc + x)))) (sumAt xs (k + 1) 1) (keysTo xs (k + 1)) := by
            refine (hm.put ho2.isMap (fits_raised HG.out) (cc + x)).congr (fun z => ?_) (by rw [HKS.out])
            rw [HSS.out z]
            show (if z = raised ys then cc + x else sumAt xs k 1 z) = sumAt xs k 1 z + if raised ys = z then x * 1 else 0
            by_cases e : z = raised ys
            · rw [if_pos e, if_pos e.symm, HCC.out, e]; omega
            · rw [if_neg e, if_neg (fun h => e h.symm)]; omega
          have hgr : W3.grownBy W2' (some (w.heap.size + 1)) := grown_trans (grown_undrew (Below.toGrown hb3 (some (w.heap.size + 1)))) hgW2
          have hI3 := HI3.out
          have hfin : Summed w W0.heap.size xs (k + 1) W2' := ⟨(hgr.block _ (by omega) (by simp)).trans hI3.box, (hgr.block _ (by omega) (by simp)).trans hI3.res, ⟨_, hoW2, HMI⟩, hI3.low.grown hgr hI3.low.size (fun j hj => by cases hj; omega), Nat.le_trans zI hgr.size⟩
          have hapf : Apart w.heap.size W0.heap.size W3 W2' := Apart.grown hgr (fun j hj => by cases hj; omega)
          rw [z0] at hfin hapf
          gi_wp2
        refine AllReadyIn.cons (o := ?_) ?_ (fun K hK => ?_) AllReadyIn.nil
        rotate_left
        · (simp only [List.getElem?_toArray, List.getElem?_cons_zero, List.getElem?_cons_succ]; rfl)
        · have HK := Hid.mk hK
          clear hK
          go_simp
          skip
          refine HK.out _ _ ?_
          clear HK K
          (try simp only [Act.put, List.setIfInBounds_toArray, List.set_cons_zero, List.set_cons_succ])
          refine wpAnyIn_take (i := 7) (oi := ?_) (v := ?_) rfl ?_ (by kernel_rfl) (by kernel_rfl) (by kernel_rfl) ?_ ⟨Or.inl ⟨?_, ?_⟩, ?_⟩ ?_
          rotate_left 2
          · (simp only [List.getElem?_toArray, List.getElem?_cons_zero, List.getElem?_cons_succ]; rfl)
          · exact fun _ _ _ h => h
          · rfl
          · (intro wS; go_simp; (try with_reducible rfl))
          · exact fun _ => rfl
          (try simp only [Act.put, List.setIfInBounds_toArray, List.set_cons_zero, List.set_cons_succ])
          refine wpAnyIn_ready (rs := [3]) (by kernel_rfl) (by simp) ?_
          refine AllReadyIn.cons (o := ?_) ?_ (fun K hK => ?_) AllReadyIn.nil
          rotate_left
          · (simp only [List.getElem?_toArray, List.getElem?_cons_zero, List.getElem?_cons_succ]; rfl)
          have HK := Hid.mk hK
          clear hK
          go_simp
          skip
          refine HK.out _ _ ?_
          clear HK K
          (try simp only [Act.put, List.setIfInBounds_toArray, List.set_cons_zero, List.set_cons_succ])
          refine wpAnyIn_take (i := 5) (oi := ?_) (v := ?_) rfl ?_ (by kernel_rfl) (by kernel_rfl) (by kernel_rfl) ?_ ⟨Or.inl ⟨?_, ?_⟩, ?_⟩ ?_
          rotate_left 2
          · (simp only [List.getElem?_toArray, List.getElem?_cons_zero, List.getElem?_cons_succ]; rfl)
          · exact fun _ _ _ h => h
          · rfl
          · (intro wS; go_simp; (try with_reducible rfl))
          · exact fun _ => rfl
          (try simp only [Act.put, List.setIfInBounds_toArray, List.set_cons_zero, List.set_cons_succ])
          refine wpAnyIn_ready (rs := [8]) (by kernel_rfl) (by simp) ?_
          refine AllReadyIn.cons (o := ?_) ?_ (fun K hK => ?_) AllReadyIn.nil
          rotate_left
          · (simp only [List.getElem?_toArray, List.getElem?_cons_zero, List.getElem?_cons_succ]; rfl)
          have HK := Hid.mk hK
          clear hK
          go_simp
          skip
          refine HK.out _ _ ?_
          clear HK K
          (try simp only [Act.put, List.setIfInBounds_toArray, List.set_cons_zero, List.set_cons_succ])
          refine wpAnyIn_done (by kernel_rfl) ?_ _
          have HMI : MapIs (D.put (klit (raised ys)) (.lit (.int .i64 (cc + x)))) (sumAt xs (k + 1) 1) (keysTo xs (k + 1)) := by
            refine (hm.put ho2.isMap (fits_raised HG.out) (cc + x)).congr (fun z => ?_) (by rw [HKS.out])
            rw [HSS.out z]
            show (if z = raised ys then cc + x else sumAt xs k 1 z) = sumAt xs k 1 z + if raised ys = z then x * 1 else 0
            by_cases e : z = raised ys
            · rw [if_pos e, if_pos e.symm, HCC.out, e]; omega
            · rw [if_neg e, if_neg (fun h => e h.symm)]; omega
          have hgr : W3.grownBy W2' (some (w.heap.size + 1)) := grown_trans (grown_undrew (Below.toGrown hb3 (some (w.heap.size + 1)))) hgW2
          have hI3 := HI3.out
          have hfin : Summed w W0.heap.size xs (k + 1) W2' := ⟨(hgr.block _ (by omega) (by simp)).trans hI3.box, (hgr.block _ (by omega) (by simp)).trans hI3.res, ⟨_, hoW2, HMI⟩, hI3.low.grown hgr hI3.low.size (fun j hj => by cases hj; omega), Nat.le_trans zI hgr.size⟩
          have hapf : Apart w.heap.size W0.heap.size W3 W2' := Apart.grown hgr (fun j hj => by cases hj; omega)
          rw [z0] at hfin hapf
          gi_wp2
  case done =>
    intro D W hD hI hap hdef
    obtain ⟨D', ho, hm⟩ := hI.sums
    have e0 : W.cell? ⟨w.heap.size, 0, none⟩ = some (.int .i64 0) := by rw [cell_of_row W _ 0 _ _ (0, 0) hI.res]; rfl
    have e1 : W.cell? ⟨w.heap.size, 1, none⟩ = some (.slice none 0 0) := by rw [cell_of_row W _ 1 _ _ (0, 0) hI.res]; rfl
    have f0 : W.frozen? ⟨w.heap.size, 0, none⟩ = false := frozen_of_row W _ 0 _ _ hI.res
    have f1 : W.frozen? ⟨w.heap.size, 1, none⟩ = false := frozen_of_row W _ 1 _ _ hI.res
    have cm : W.cell? ⟨w.heap.size + 1 + 1, 0, none⟩ = some (.map (some (w.heap.size + 1))) := by rw [cell_of_row W _ 0 _ _ (0, 0) hI.box]; rfl
    have zW := hI.size
    have BW := hI.low
    have KS : Keys q (keysTo xs xs.length) := fun a ha => by
      obtain ⟨t, ht, rfl⟩ := keysTo_mem ha
      exact ⟨t.1, (at_mem (Q := fun t => good t.1 = true) (fun k hk => (hg k hk).1) t ht), hk t ht, rfl⟩
    gi_wp2_with fail
    refine ⟨trivial, rfl, ?_⟩
    refine (callsIn_wide.2 (table_any (w.heap.size + 1) xs.length D' _ _ q W (by omega) h6 ho hm KS)).mono ?_
    rintro e w3 ⟨us, ⟨r3, m3, d3, cells3, rfl, ho3⟩, hTl, hb3⟩
    have s0 := cell_later hb3 e0
    have s1 := cell_later hb3 e1
    have t0 := frozen_later hb3 e0 f0
    have t1 := frozen_later hb3 e1 f1
    have hDl : D < W.heap.size := (Array.getElem?_eq_some_iff.1 hdef).1
    have hd3 : w3.heap[D]? = some (.deferred (some [])) := (hb3.block D hDl).trans hdef
    have hq3 : w3.heap[w.heap.size]? = some (.cells #[.int .i64 0, .slice none 0 0] 47 (0, 0)) := (hb3.block _ (by omega)).trans hI.res
    have B3 := BW.trans (hb3.mono BW.size)
    have hRD : w.heap.size ≠ D := by omega
    gi_wp2
    obtain ⟨WF, hWF⟩ : ∃ WF, WF = (w3.setCell ⟨w.heap.size, 0, none⟩ (.int .i64 (tellP q us))).setCell ⟨w.heap.size, 1, none⟩ (.slice r3 m3 d3) := ⟨_, rfl⟩
    have hdF : WF.heap[D]? = some (.deferred (some [])) := by
      rw [hWF]
      exact ((Below.heap_setCell _ _ _ D (by simpa using hRD.symm)).trans (Below.heap_setCell _ _ _ D (by simpa using hRD.symm))).trans hd3
    have g0 : (WF.putObj D (.deferred none)).cell? ⟨w.heap.size, 0, none⟩ = some (.int .i64 (tellP q us)) := (World.cell?_of_block (World.putObj_heap_other hRD)).trans (by rw [hWF]; exact set2_0 hq3 _ _)
    have g1 : (WF.putObj D (.deferred none)).cell? ⟨w.heap.size, 1, none⟩ = some (.slice r3 m3 d3) := (World.cell?_of_block (World.putObj_heap_other hRD)).trans (by rw [hWF]; exact set2_1 hq3 _ _)
    have oF : OwnW (WF.putObj D (.deferred none)) W.heap.size w3.heap.size 99 3 r3 m3 d3 (tellT q us) cells3 := by
      rw [hWF]
      exact ((OwnWk.setCell ho3 (a0 := ⟨w.heap.size, 0, none⟩) (.inl (by show w.heap.size < _; omega)) _).setCell (a0 := ⟨w.heap.size, 1, none⟩) (.inl (by show w.heap.size < _; omega)) _).kept (grownBy_putObj' _ D _) (fun j hj => by cases hj; exact .inl hDl)
    have BF : Below w.heap.size w (WF.putObj D (.deferred none)) := by
      rw [hWF]
      exact ((B3.setCell (by show w.heap.size ≤ w.heap.size; omega) _).setCell (by show w.heap.size ≤ w.heap.size; omega) _).grown (grownBy_putObj' _ D _) (by simp only [World.setCell, Array.size_modify]; exact B3.size) (fun j hj => by cases hj; omega)
    have zF : w3.heap.size ≤ (WF.putObj D (.deferred none)).heap.size := by rw [hWF]; simp [World.setCell]
    rw [← hWF]
    refine ⟨by simp, .inl ⟨_, _, rfl, run_takeDeferred hdF, ?_⟩⟩
    refine ⟨.tuple #[.agg #[.int .i64 (tellP q us), .slice r3 m3 d3], .bool (goodT q us)], by simp [results, Try.results83, go_sem, g0, g1], us, ⟨r3, m3, d3, cells3, rfl, oF.widen (by omega) zF (Nat.le_refl _)⟩, hTl, BF⟩

end Go.Proofs.Ytkcmlphpilggpaa
