/- Contracts of impl.plus, impl.negated, impl.countsOf, impl.onceAbove. -/
import Derived.Test.YtlfljfmhhnoinabGreatM11
import Derived.Test.YtlfljfmhhnoinabGreatM15
namespace Go.Proofs.YtlfljfmhhnoinabGreat
open Go.RowKit Go.Maps

theorem grown_drew {w w' : World} {row : Option Nat} (h : w.drew.grownBy w' row) : w.grownBy w' row := grown_trans (Below.toGrown (Below.refl _ _).drew row) h
/-- A map to which one more key was added. -/
theorem mapIs_in {D : DataW Unit} {f g : List Int → Int} {ks S : List (List Int)} (hm : MapIs D (fun z => g z + if z ∈ ks then f z else 0) S) (hD : IsMap D) {x : List Int} (hx : Fits x) (hn : x ∉ ks) {cc : Int} (hcc : D.atKey (klit x) (.lit (.int .i64 0)) = .lit (.int .i64 cc)) :
    cc = g x ∧ MapIs (D.put (klit x) (.lit (.int .i64 (cc + f x)))) (fun z => g z + if z ∈ x :: ks then f z else 0) (x :: S) := by
  have h1 : cc = g x := by have := hm.at hx hcc; simpa [hn] using this
  refine ⟨h1, (hm.put hD hx _).congr (fun z => ?_) rfl⟩
  by_cases e : z = x
  · subst e; simp [h1]
  · simp [e]

/-- What two maps tell, added. -/
theorem tells_plus {q : Nat} {f f' : List Int → Int} {xs ys : List WRow} (h : Tells q f xs) (h' : Tells q f' ys) : Tells q (fun z => f z + f' z) (putAll xs ys) :=
  tells_put h.rises h.noZero h.rows h'.rows fun zs h1 h2 => by rw [sumW_rises h'.rises, h.weight zs h1 h2, h'.weight zs h1 h2]
theorem Tells.congr {q : Nat} {f f' : List Int → Int} {xs : List WRow} (h : Tells q f xs) (he : ∀ zs, good zs = true → zs.length = q → f (raised zs) = f' (raised zs)) : Tells q f' xs :=
  ⟨h.rises, h.noZero, h.rows, fun zs h1 h2 => by rw [h.weight zs h1 h2, he zs h1 h2]⟩
theorem MapIs.agree {D : DataW Unit} {f f' : List Int → Int} {S S' : List (List Int)} (h : MapIs D f S) (hf : ∀ x, Fits x → f x = f' x) (hS : ∀ x, Fits x → (x ∈ S ↔ x ∈ S')) : MapIs D f' S' := fun a ha => by
  obtain ⟨h1, h2⟩ := h a ha
  rw [h1, h2, hf a ha]
  exact ⟨rfl, by simp [hS a ha]⟩

theorem countsOf_any (a : Option Addr) (n c q : Nat) (ts : List WRow) (p : Int) (w : World) (hz : ts.length = n) (hg : goodT q ts = true) (ha : AtW w a ts) :
    Calls Tryz.prog 56 #[.agg #[.int .i64 p, .slice a n c]] w fun e w' => ∃ b, e = .returned (.map (some b)) ∧ w.heap.size ≤ b ∧ Cnt w' b q 60 ts ∧ Below w.heap.size w w' := by
  have hl := goodT_len60 hg
  have B0 : Below w.heap.size w (w.alloc (.cells #[.int .i64 p, .slice a n c] 48)) := (Below.refl _ _).alloc (Nat.le_refl _) _
  have HA := ha.below B0
  go_enter Tryz.func56, Tryz.ntmps56
  go_wp2_with fail
  refine (sumsOf_any _ _ _ ts _ _ hz (by omega) (by omega) (by omega) (fun k hk => goodT_cells hg k (by omega)) HA).mono ?_
  rintro e w1 ⟨b, D, rfl, hb, ho, hm, hb1⟩
  go_wp2
  go_ret
  refine ⟨b, rfl, by simp at hb; omega, ⟨n, D, _, _, ho, hm, keys_list (goodL_of_goodT hg) n, ?_, by omega⟩, B0.trans (hb1.mono B0.size)⟩
  exact (goodT_lst hg).tells fun zs h1 h2 => by rw [sumAt_sumW hz 1 (fun t ht => (goodT_mem hg t ht).1) h1, sumW_rises (goodT_rises hg)]; omega

set_option maxRecDepth 100000 in
set_option maxHeartbeats 4000000 in
theorem plus_any (b b' q M M' : Nat) (xs ys : List WRow) (B B' : Int) (w : World) (hx : Cnt w b q M xs) (hy : Cnt w b' q M' ys) (hM : M + M' ≤ 1000000) (hB0 : 0 ≤ B) (hB0' : 0 ≤ B') (hBB : B + B' ≤ 4000000000000000000) (bx : ∀ t ∈ xs, -B ≤ t.2 ∧ t.2 ≤ B) (cx : ∀ t ∈ ys, -B' ≤ t.2 ∧ t.2 ≤ B') :
    Calls Tryz.prog 74 #[.map (some b), .map (some b')] w fun e w' => ∃ b3, e = .returned (.map (some b3)) ∧ w.heap.size ≤ b3 ∧ Cnt w' b3 q (M + M') (putAll xs ys) ∧ Below w.heap.size w w' := by
  have lb := hx.lt
  have lb' := hy.lt
  obtain ⟨cnt, D, f, S, hown, hm, hS, hT, hcM⟩ := hx
  obtain ⟨cnt', D', f', S', hown', hm', hS', hT', hcM'⟩ := hy
  have hsz := hown.size_le
  have hsz' := hown'.size_le
  have hmm := @run_makeMap Tryz.prog
  go_enter Tryz.func74, Tryz.ntmps74
  go_wp2_with (first | (at_range; refine wpList_range_own _ rfl _ 92 rfl 62 3 Tryz.keyedA Tryz.underlying92 _ b cnt D rfl (hown.alloc _) ?_; intro w0 hrg0 hg0 hs0) | go_in)
  go_frame
  have B0 : Below w.heap.size w w0 := ((Below.refl _ _).alloc (Nat.le_refl _) _).grown hg0 (by simp) (by simp)
  have ho0 : w0.ownsMap Tryz.prog 62 (plainElem Tryz.prog 3) w.heap.size 0 (.map [] : DataW Unit) := (World.ownsMap_made _ _ _ _).kept hg0 (by simp)
  simp only [World.size_alloc] at hrg0 hs0 ⊢
  go_loopw [7] (fun _ wr => ∃ (left : Lit → Bool) (c0 : Nat) (ks : List (List Int)) (E : DataW Unit), wr.ranges Tryz.prog 62 (plainElem Tryz.prog 3) b (w.heap.size + 1) cnt D left c0 ∧ Ran D left ks ∧ ks.length + c0 ≤ cnt ∧ wr.ownsMap Tryz.prog 62 (plainElem Tryz.prog 3) w.heap.size ks.length E ∧ MapIs E (fun z => 0 + if z ∈ ks then f z else 0) ks ∧ Below w.heap.size w wr) (fun _ wr => wr.rangeLeft b (w.heap.size + 1))
  case atStart => exact ⟨_, _, [], _, hrg0, Ran.start D, by simpa using hsz, ho0, MapIs.empty.congr (fun _ => by simp) rfl, B0⟩
  case round =>
    clear hrg0 hg0 hs0 B0 ho0 w0
    obtain ⟨left, c0, ks, E, hrg, hR, hlen, ho, hme, hbw⟩ := hrel
    go_wp2_with (first | (at_next; refine wpList_next_ranges _ rfl _ rfl 62 Tryz.keyedA (plainElem Tryz.prog 3) Six.val (Value.int .i64) (fun _ _ h => six_key h) (fun v y hv => by obtain ⟨c, rfl, _⟩ := plainElem_int_inv Tryz.underlying3 hv; exact ⟨c, rfl⟩) b (w.heap.size + 1) cnt D left c0 rfl hrg ?_ ?_) | go_in)
    · intro h00 hl0
      have hall : ∀ x, Fits x → (x ∈ ks ↔ x ∈ S) := fun x hx => hR.all hm hl0 hx
      have hme1 : MapIs E f ks := hme.agree (fun x hx => by
        by_cases e : x ∈ ks
        · simp [e]
        · simp [e, map_zero hm hx (fun h => e ((hall x hx).2 h))]) (fun _ _ => Iff.rfl)
      have hK1 : Keys q ks := hS.of_sub fun x hx => (hall x (hR.fits x hx)).1 hx
      have hown2 := hown'.kept (Below.toGrown hbw none) (by simp)
      obtain ⟨R2, hR2⟩ : ∃ R2, R2 = wr.heap.size := ⟨_, rfl⟩
      have zr := hbw.size
      have zo : w.heap.size < wr.heap.size := by obtain ⟨es, clock, hb9, _⟩ := ho; exact (Array.getElem?_eq_some_iff.1 hb9).1
      have hlen' : ks.length ≤ cnt := by omega
      clear hrg hR hme hl0 h00 hlen
      go_wp2_with (first | (at_range; refine wpList_range_own _ rfl _ 92 rfl 62 3 Tryz.keyedA Tryz.underlying92 _ b' cnt' D' rfl (hown2) ?_; intro w0 hrg0 hg0 hs0) | go_in)
      go_frame
      rw [← hR2] at hrg0 hs0 ⊢
      have B0 : Below w.heap.size w w0 := hbw.grown hg0 zr (by simp)
      have ho0 := ho.kept hg0 (by simp)
      go_loopw [9] (fun _ wr => ∃ (left : Lit → Bool) (c0 : Nat) (ks2 : List (List Int)) (E : DataW Unit), wr.ranges Tryz.prog 62 (plainElem Tryz.prog 3) b' R2 cnt' D' left c0 ∧ Ran D' left ks2 ∧ ks2.length + c0 ≤ cnt' ∧ wr.ownsMap Tryz.prog 62 (plainElem Tryz.prog 3) w.heap.size (ks.length + ks2.length) E ∧ MapIs E (fun z => f z + if z ∈ ks2 then f' z else 0) (ks2 ++ ks) ∧ Below w.heap.size w wr) (fun _ wr => wr.rangeLeft b' R2)
      case atStart => exact ⟨_, _, [], E, hrg0, Ran.start D', by simpa using hsz', by simpa using ho0, hme1.congr (fun _ => by simp) (by simp), B0⟩
      case round =>
        clear hrg0 hg0 hs0 B0 ho0 w0 hme1 ho hbw hown2 E
        obtain ⟨left, c0, ks2, E, hrg, hR, hlen, ho, hme, hbw⟩ := hrel
        have zo2 : w.heap.size < R2 := by omega
        clear hR2 zr zo
        go_wp2_with (first | (at_next; refine wpList_next_ranges _ rfl _ rfl 62 Tryz.keyedA (plainElem Tryz.prog 3) Six.val (Value.int .i64) (fun _ _ h => six_key h) (fun v y hv => by obtain ⟨c, rfl, _⟩ := plainElem_int_inv Tryz.underlying3 hv; exact ⟨c, rfl⟩) b' R2 cnt' D' left c0 rfl hrg ?_ ?_) | go_in)
        · intro h00 hl0
          have hall2 : ∀ x, Fits x → (x ∈ ks2 ↔ x ∈ S') := fun x hx => hR.all hm' hl0 hx
          have hK2 : Keys q ks2 := hS'.of_sub fun x hx => (hall2 x (hR.fits x hx)).1 hx
          have HM : Hid (MapIs E (fun z => f z + f' z) (ks2 ++ ks)) := hme.agree (fun x hx => by
            by_cases e : x ∈ ks2
            · simp [e]
            · simp [e, map_zero hm' hx (fun h => e ((hall2 x hx).2 h))]) (fun _ _ => Iff.rfl)
          have HO := Hid.mk ho
          have HB := Hid.mk hbw
          clear hrg hme ho hbw hl0 hR
          go_wp2
          go_ret
          exact ⟨w.heap.size, rfl, Nat.le_refl _, ⟨_, E, _, _, HO.out, HM.out, keys_append hK2 hK1, tells_plus hT hT', by omega⟩, HB.out⟩
        · intro x0 x1 x2 x3 x4 x5 c kl yd yp w1 cnt1 hkey hlk hv hat hrg1 hlt hg1 hs1 hen
          obtain ⟨zs, hfz, hvz, rfl⟩ := keyOf_arr_inv hkey
          obtain rfl : zs = [x0, x1, x2, x3, x4, x5] := (arrV_inj (by rw [← hvz]; rfl)).symm
          obtain ⟨c', hc', hy', hwc⟩ := plainElem_int_inv Tryz.underlying3 hv
          obtain rfl : c' = c := by simpa using hc'.symm
          have hyd : yd = .lit (.int .i64 c') := by simpa using congrArg Prod.fst hy'
          have hfx : c' = f' [x0, x1, x2, x3, x4, x5] := hm'.at hfz (by rw [hat, hyd])
          have hhas : Maps.has D' (klit [x0, x1, x2, x3, x4, x5]) = true := has_true_of_atKey hat
          obtain ⟨hst, hnot⟩ := hR.step hfz hlk hhas
          have hin : [x0, x1, x2, x3, x4, x5] ∈ S' := of_decide_eq_true (((hm' _ hfz).2).symm.trans hhas)
          have hlf := hrg.left_eq
          simp only [Six.val] at hen
          clear hat hv hlk hvz hc' hy' hyd hhas hwc hkey
          have hbc := hT'.key hS' hB0' cx hin
          rw [← hfx] at hbc
          have zr : R2 < w1.heap.size := by rw [hs1]; exact hrg.lt
          have hbw1 : Below w.heap.size w w1 := hbw.grown hg1 hbw.size (fun j hj => by cases hj; omega)
          clear hs1
          have ho1 : w1.ownsMap Tryz.prog 62 (plainElem Tryz.prog 3) w.heap.size (ks.length + ks2.length) E := ho.kept hg1 (by simp <;> omega)
          have HRG := Hid.mk hrg1
          have HLF := Hid.mk hlf
          have HST := Hid.mk hst
          have HFX := Hid.mk hfx
          obtain ⟨V, hV⟩ : ∃ V, V = w1.alloc (.cells #[.int .i64 x0, .int .i64 x1, .int .i64 x2, .int .i64 x3, .int .i64 x4, .int .i64 x5] 62) := ⟨_, rfl⟩
          have cV : V.cell? ⟨w1.heap.size, 0, none⟩ = some (.int .i64 x0) ∧ V.cell? ⟨w1.heap.size, 1, none⟩ = some (.int .i64 x1) ∧ V.cell? ⟨w1.heap.size, 2, none⟩ = some (.int .i64 x2) ∧ V.cell? ⟨w1.heap.size, 3, none⟩ = some (.int .i64 x3) ∧ V.cell? ⟨w1.heap.size, 4, none⟩ = some (.int .i64 x4) ∧ V.cell? ⟨w1.heap.size, 5, none⟩ = some (.int .i64 x5) := by rw [hV]; simp
          have hbV : Below w1.heap.size w1 V := by rw [hV]; exact (Below.refl _ _).alloc (Nat.le_refl _) _
          have BV := hbw1.trans (hbV.mono hbw1.size)
          have HRV := Hid.mk (HRG.out.kept (Below.toGrown hbV none) (by simp) (by simp))
          have hoV := (ho1.kept (Below.toGrown hbV none) (by simp)).drew
          have cD := six_later (Below.refl V.heap.size V).drew cV
          have hkey : keyOf Tryz.prog 62 (.agg #[.int .i64 x0, .int .i64 x1, .int .i64 x2, .int .i64 x3, .int .i64 x4, .int .i64 x5]) = some (klit [x0, x1, x2, x3, x4, x5]) := keyOf_arr _ hfz
          obtain ⟨cc, hlk, hat, hent⟩ := bump Tryz.arrKey.law Tryz.underlying92 Tryz.underlying3 Tryz.zeroInt hoV (by unfold maxLen; omega) hkey
          obtain ⟨hcc, hmp⟩ := mapIs_in (f := f') (g := f) hme hoV.isMap hfz hnot hat
          rw [← hfx] at hmp
          have hbk : -B ≤ f [x0, x1, x2, x3, x4, x5] ∧ f [x0, x1, x2, x3, x4, x5] ≤ B := by
            obtain ⟨zs, e1, e2, e3⟩ := hS' _ hin
            rw [e3]; exact hT.bound hB0 bx e1 e2
          rw [← hcc] at hbk
          have hadd : IntKind.i64.wrap (cc + c') = cc + c' := IntWalk.i64_in _ (by omega)
          obtain ⟨v0, st, W1, W2, hmn, hlk1, hst1, hoW2, hgW1, hgW2⟩ := hent (cc + c') (wf_i64 (by omega) (by omega))
          have c1 := six_grown hgW1 (by simp <;> omega) cD
          have c2 := six_grown hgW2 (by simp <;> omega) cD
          have HMP := Hid.mk hmp
          have HO2 := Hid.mk hoW2
          have hgV : w1.grownBy W2 (some w.heap.size) := grown_trans (Below.toGrown hbV _) (grown_drew hgW2)
          have HR2 := Hid.mk (HRG.out.kept hgV (by simp <;> omega) (by simp <;> omega))
          have HB2 := Hid.mk (hbw1.grown hgV hbw1.size (fun j hj => by cases hj; exact Nat.le_refl _))
          clear hcc hmp hat hbc hoV ho ho1 hme hrg hrg1 hst hlf hfx hbw hbw1 hbV BV hg1 hgV hent hoW2 hgW1 hgW2 hR HRG HRV hbk
          go_wp2_with fail
          rw [← hV]
          clear hV hen
          refine wp_region_held_drew (S := fun w' => w'.cell? ⟨w1.heap.size, 0, none⟩ = some (.int .i64 x0) ∧ w'.cell? ⟨w1.heap.size, 1, none⟩ = some (.int .i64 x1) ∧ w'.cell? ⟨w1.heap.size, 2, none⟩ = some (.int .i64 x2) ∧ w'.cell? ⟨w1.heap.size, 3, none⟩ = some (.int .i64 x3) ∧ w'.cell? ⟨w1.heap.size, 4, none⟩ = some (.int .i64 x4) ∧ w'.cell? ⟨w1.heap.size, 5, none⟩ = some (.int .i64 x5)) (by kernel_rfl) ?_ (fun hHeld => ?_)
          · (try dsimp only)
            exact ⟨cV.1, cV.2.1, cV.2.2.1, cV.2.2.2.1, cV.2.2.2.2.1, cV.2.2.2.2.2⟩
          refine wpAnyH_take (i := 0) (oi := ?_) (v := ?_) ?_ (by kernel_rfl) (by kernel_rfl) (by kernel_rfl) ?_ (Or.inl ⟨?_, ?_⟩) (by assumption) ?_
          rotate_left 2
          · (simp only [List.getElem?_toArray, List.getElem?_cons_zero]; rfl)
          · exact fun _ _ _ h => h
          · rfl
          · (intro wS hSw; (try dsimp only at hSw); go_simp; (try with_reducible rfl))
          (try simp only [Act.put, List.setIfInBounds_toArray, List.set_cons_zero, List.set_cons_succ])
          refine wpAnyH_take (i := 1) (oi := ?_) (v := ?_) ?_ (by kernel_rfl) (by kernel_rfl) (by kernel_rfl) ?_ (Or.inl ⟨?_, ?_⟩) (by assumption) ?_
          rotate_left 2
          · (simp only [List.getElem?_toArray, List.getElem?_cons_zero, List.getElem?_cons_succ]; rfl)
          · exact fun _ _ _ h => h
          · rfl
          · (intro wS hSw; (try dsimp only at hSw); go_simp; (try with_reducible rfl))
          (try simp only [Act.put, List.setIfInBounds_toArray, List.set_cons_zero, List.set_cons_succ])
          refine wpAnyH_take (i := 3) (oi := ?_) (v := ?_) ?_ (by kernel_rfl) (by kernel_rfl) (by kernel_rfl) ?_ (Or.inl ⟨?_, ?_⟩) (by assumption) ?_
          rotate_left 2
          · (simp only [List.getElem?_toArray, List.getElem?_cons_zero, List.getElem?_cons_succ]; rfl)
          · exact fun _ _ _ h => h
          · rfl
          · (intro wS hSw; (try dsimp only at hSw); go_simp; (try with_reducible rfl))
          (try simp only [Act.put, List.setIfInBounds_toArray, List.set_cons_zero, List.set_cons_succ])
          refine wpAnyH_ready (rs := [2, 5]) (by kernel_rfl) (by simp) ?_
          refine AllReadyH.cons (o := ?_) ?_ (fun K hK => ?_) ?_
          rotate_left
          · (simp only [List.getElem?_toArray, List.getElem?_cons_zero, List.getElem?_cons_succ]; rfl)
          · go_simp
            (try go_wp2_with fail)
            refine hK.out _ _ ?_ (fun hHeld' => ?_)
            · (try dsimp only)
              exact ⟨cD.1, cD.2.1, cD.2.2.1, cD.2.2.2.1, cD.2.2.2.2.1, cD.2.2.2.2.2⟩
            clear hK K hHeld
            have hHeld := hHeld'
            clear hHeld'
            (try simp only [Act.put, List.setIfInBounds_toArray, List.set_cons_zero, List.set_cons_succ])
            refine wpAnyH_take (i := 4) (oi := ?_) (v := ?_) ?_ (by kernel_rfl) (by kernel_rfl) (by kernel_rfl) ?_ (Or.inl ⟨?_, ?_⟩) (by assumption) ?_
            rotate_left 2
            · (simp only [List.getElem?_toArray, List.getElem?_cons_zero, List.getElem?_cons_succ]; rfl)
            · exact fun _ _ _ h => h
            · rfl
            · (intro wS hSw; (try dsimp only at hSw); go_simp; (try with_reducible rfl))
            (try simp only [Act.put, List.setIfInBounds_toArray, List.set_cons_zero, List.set_cons_succ])
            refine wpAnyH_ready (rs := [5]) (by kernel_rfl) (by simp) ?_
            refine AllReadyH.cons (o := ?_) ?_ (fun K hK => ?_) AllReadyH.nil
            rotate_left
            · (simp only [List.getElem?_toArray, List.getElem?_cons_zero, List.getElem?_cons_succ]; rfl)
            go_simp
            skip
            (try go_wp2_with fail)
            refine hK.out _ _ ?_ (fun hHeld' => ?_)
            · (try dsimp only)
              exact ⟨c1.1, c1.2.1, c1.2.2.1, c1.2.2.2.1, c1.2.2.2.2.1, c1.2.2.2.2.2⟩
            clear hK K hHeld
            have hHeld := hHeld'
            clear hHeld'
            (try simp only [Act.put, List.setIfInBounds_toArray, List.set_cons_zero, List.set_cons_succ])
            refine wpAnyH_take (i := 6) (oi := ?_) (v := ?_) ?_ (by kernel_rfl) (by kernel_rfl) (by kernel_rfl) ?_ (Or.inl ⟨?_, ?_⟩) (by assumption) ?_
            rotate_left 2
            · (simp only [List.getElem?_toArray, List.getElem?_cons_zero, List.getElem?_cons_succ]; rfl)
            · exact fun _ _ _ h => h
            · rfl
            · (intro wS hSw; (try dsimp only at hSw); go_simp; (try with_reducible rfl))
            (try simp only [Act.put, List.setIfInBounds_toArray, List.set_cons_zero, List.set_cons_succ])
            refine wpAnyH_ready (rs := [7]) (by kernel_rfl) (by simp) ?_
            refine AllReadyH.cons (o := ?_) ?_ (fun K hK => ?_) AllReadyH.nil
            rotate_left
            · (simp only [List.getElem?_toArray, List.getElem?_cons_zero, List.getElem?_cons_succ]; rfl)
            go_simp
            skip
            (try go_wp2_with fail)
            refine hK.out _ _ ?_ (fun hHeld' => ?_)
            · (try dsimp only)
              exact ⟨c2.1, c2.2.1, c2.2.2.1, c2.2.2.2.1, c2.2.2.2.2.1, c2.2.2.2.2.2⟩
            clear hK K hHeld
            have hHeld := hHeld'
            clear hHeld'
            (try simp only [Act.put, List.setIfInBounds_toArray, List.set_cons_zero, List.set_cons_succ])
            refine wpAnyH_done (by kernel_rfl) ?_ _
            clear c1 c2 cD cV hkey hlk hmn hlk1 hst1 hHeld
            go_wp2
            go_roundw
            case rel => exact ⟨_, cnt1, [x0, x1, x2, x3, x4, x5] :: ks2, _, HR2.out, HST.out, by simp; omega, by simpa [Nat.add_assoc] using HO2.out, HMP.out, HB2.out⟩
            case measure => rw [HR2.out.left_eq, HLF.out]; exact hlt
          refine AllReadyH.cons (o := ?_) ?_ (fun K hK => ?_) AllReadyH.nil
          rotate_left
          · (simp only [List.getElem?_toArray, List.getElem?_cons_zero, List.getElem?_cons_succ]; rfl)
          · go_simp
            (try go_wp2_with fail)
            refine hK.out _ _ ?_ (fun hHeld' => ?_)
            · (try dsimp only)
              exact ⟨c1.1, c1.2.1, c1.2.2.1, c1.2.2.2.1, c1.2.2.2.2.1, c1.2.2.2.2.2⟩
            clear hK K hHeld
            have hHeld := hHeld'
            clear hHeld'
            (try simp only [Act.put, List.setIfInBounds_toArray, List.set_cons_zero, List.set_cons_succ])
            refine wpAnyH_take (i := 6) (oi := ?_) (v := ?_) ?_ (by kernel_rfl) (by kernel_rfl) (by kernel_rfl) ?_ (Or.inl ⟨?_, ?_⟩) (by assumption) ?_
            rotate_left 2
            · (simp only [List.getElem?_toArray, List.getElem?_cons_zero, List.getElem?_cons_succ]; rfl)
            · exact fun _ _ _ h => h
            · rfl
            · (intro wS hSw; (try dsimp only at hSw); go_simp; (try with_reducible rfl))
            (try simp only [Act.put, List.setIfInBounds_toArray, List.set_cons_zero, List.set_cons_succ])
            refine wpAnyH_ready (rs := [2]) (by kernel_rfl) (by simp) ?_
            refine AllReadyH.cons (o := ?_) ?_ (fun K hK => ?_) AllReadyH.nil
            rotate_left
            · (simp only [List.getElem?_toArray, List.getElem?_cons_zero, List.getElem?_cons_succ]; rfl)
            go_simp
            skip
            (try go_wp2_with fail)
            refine hK.out _ _ ?_ (fun hHeld' => ?_)
            · (try dsimp only)
              exact ⟨c1.1, c1.2.1, c1.2.2.1, c1.2.2.2.1, c1.2.2.2.2.1, c1.2.2.2.2.2⟩
            clear hK K hHeld
            have hHeld := hHeld'
            clear hHeld'
            (try simp only [Act.put, List.setIfInBounds_toArray, List.set_cons_zero, List.set_cons_succ])
            refine wpAnyH_take (i := 4) (oi := ?_) (v := ?_) ?_ (by kernel_rfl) (by kernel_rfl) (by kernel_rfl) ?_ (Or.inl ⟨?_, ?_⟩) (by assumption) ?_
            rotate_left 2
            · (simp only [List.getElem?_toArray, List.getElem?_cons_zero, List.getElem?_cons_succ]; rfl)
            · exact fun _ _ _ h => h
            · rfl
            · (intro wS hSw; (try dsimp only at hSw); go_simp; (try with_reducible rfl))
            (try simp only [Act.put, List.setIfInBounds_toArray, List.set_cons_zero, List.set_cons_succ])
            refine wpAnyH_ready (rs := [7]) (by kernel_rfl) (by simp) ?_
            refine AllReadyH.cons (o := ?_) ?_ (fun K hK => ?_) AllReadyH.nil
            rotate_left
            · (simp only [List.getElem?_toArray, List.getElem?_cons_zero, List.getElem?_cons_succ]; rfl)
            go_simp
            skip
            (try go_wp2_with fail)
            refine hK.out _ _ ?_ (fun hHeld' => ?_)
            · (try dsimp only)
              exact ⟨c2.1, c2.2.1, c2.2.2.1, c2.2.2.2.1, c2.2.2.2.2.1, c2.2.2.2.2.2⟩
            clear hK K hHeld
            have hHeld := hHeld'
            clear hHeld'
            (try simp only [Act.put, List.setIfInBounds_toArray, List.set_cons_zero, List.set_cons_succ])
            refine wpAnyH_done (by kernel_rfl) ?_ _
            clear c1 c2 cD cV hkey hlk hmn hlk1 hst1 hHeld
            go_wp2
            go_roundw
            case rel => exact ⟨_, cnt1, [x0, x1, x2, x3, x4, x5] :: ks2, _, HR2.out, HST.out, by simp; omega, by simpa [Nat.add_assoc] using HO2.out, HMP.out, HB2.out⟩
            case measure => rw [HR2.out.left_eq, HLF.out]; exact hlt
    · intro x0 x1 x2 x3 x4 x5 c kl yd yp w1 cnt1 hkey hlk hv hat hrg1 hlt hg1 hs1 hen
      obtain ⟨zs, hfz, hvz, rfl⟩ := keyOf_arr_inv hkey
      obtain rfl : zs = [x0, x1, x2, x3, x4, x5] := (arrV_inj (by rw [← hvz]; rfl)).symm
      obtain ⟨c', hc', hy', hwc⟩ := plainElem_int_inv Tryz.underlying3 hv
      obtain rfl : c' = c := by simpa using hc'.symm
      have hyd : yd = .lit (.int .i64 c') := by simpa using congrArg Prod.fst hy'
      have hfx : c' = f [x0, x1, x2, x3, x4, x5] := hm.at hfz (by rw [hat, hyd])
      have hhas : Maps.has D (klit [x0, x1, x2, x3, x4, x5]) = true := has_true_of_atKey hat
      obtain ⟨hst, hnot⟩ := hR.step hfz hlk hhas
      have hin : [x0, x1, x2, x3, x4, x5] ∈ S := of_decide_eq_true (((hm _ hfz).2).symm.trans hhas)
      have hlf := hrg.left_eq
      simp only [Six.val] at hen
      clear hat hv hlk hvz hc' hy' hyd hhas hwc hkey
      have hbc := hT.key hS hB0 bx hin
      rw [← hfx] at hbc
      have zr : (w.heap.size + 1) < w1.heap.size := by rw [hs1]; exact hrg.lt
      have hbw1 : Below w.heap.size w w1 := hbw.grown hg1 hbw.size (fun j hj => by cases hj; omega)
      clear hs1
      have ho1 : w1.ownsMap Tryz.prog 62 (plainElem Tryz.prog 3) w.heap.size ks.length E := ho.kept hg1 (by simp <;> omega)
      have HRG := Hid.mk hrg1
      have HLF := Hid.mk hlf
      have HST := Hid.mk hst
      have HFX := Hid.mk hfx
      obtain ⟨V, hV⟩ : ∃ V, V = w1.alloc (.cells #[.int .i64 x0, .int .i64 x1, .int .i64 x2, .int .i64 x3, .int .i64 x4, .int .i64 x5] 62) := ⟨_, rfl⟩
      have cV : V.cell? ⟨w1.heap.size, 0, none⟩ = some (.int .i64 x0) ∧ V.cell? ⟨w1.heap.size, 1, none⟩ = some (.int .i64 x1) ∧ V.cell? ⟨w1.heap.size, 2, none⟩ = some (.int .i64 x2) ∧ V.cell? ⟨w1.heap.size, 3, none⟩ = some (.int .i64 x3) ∧ V.cell? ⟨w1.heap.size, 4, none⟩ = some (.int .i64 x4) ∧ V.cell? ⟨w1.heap.size, 5, none⟩ = some (.int .i64 x5) := by rw [hV]; simp
      have hbV : Below w1.heap.size w1 V := by rw [hV]; exact (Below.refl _ _).alloc (Nat.le_refl _) _
      have BV := hbw1.trans (hbV.mono hbw1.size)
      have HRV := Hid.mk (HRG.out.kept (Below.toGrown hbV none) (by simp) (by simp))
      have hoV := (ho1.kept (Below.toGrown hbV none) (by simp)).drew
      have cD := six_later (Below.refl V.heap.size V).drew cV
      have hkey : keyOf Tryz.prog 62 (.agg #[.int .i64 x0, .int .i64 x1, .int .i64 x2, .int .i64 x3, .int .i64 x4, .int .i64 x5]) = some (klit [x0, x1, x2, x3, x4, x5]) := keyOf_arr _ hfz
      obtain ⟨cc, hlk, hat, hent⟩ := bump Tryz.arrKey.law Tryz.underlying92 Tryz.underlying3 Tryz.zeroInt hoV (by unfold maxLen; omega) hkey
      obtain ⟨hcc, hmp⟩ := mapIs_in (f := f) (g := (fun _ => 0)) hme hoV.isMap hfz hnot hat
      rw [← hfx] at hmp
      have hadd : IntKind.i64.wrap (cc + c') = cc + c' := IntWalk.i64_in _ (by have h0 : cc = 0 := hcc; omega)
      obtain ⟨v0, st, W1, W2, hmn, hlk1, hst1, hoW2, hgW1, hgW2⟩ := hent (cc + c') (wf_i64 (by have h0 : cc = 0 := hcc; omega) (by have h0 : cc = 0 := hcc; omega))
      have c1 := six_grown hgW1 (by simp <;> omega) cD
      have c2 := six_grown hgW2 (by simp <;> omega) cD
      have HMP := Hid.mk hmp
      have HO2 := Hid.mk hoW2
      have hgV : w1.grownBy W2 (some w.heap.size) := grown_trans (Below.toGrown hbV _) (grown_drew hgW2)
      have HR2 := Hid.mk (HRG.out.kept hgV (by simp <;> omega) (by simp <;> omega))
      have HB2 := Hid.mk (hbw1.grown hgV hbw1.size (fun j hj => by cases hj; exact Nat.le_refl _))
      clear hcc hmp hat hbc hoV ho ho1 hme hrg hrg1 hst hlf hfx hbw hbw1 hbV BV hg1 hgV hent hoW2 hgW1 hgW2 hR HRG HRV
      go_wp2_with fail
      rw [← hV]
      clear hV hen
      refine wp_region_held_drew (S := fun w' => w'.cell? ⟨w1.heap.size, 0, none⟩ = some (.int .i64 x0) ∧ w'.cell? ⟨w1.heap.size, 1, none⟩ = some (.int .i64 x1) ∧ w'.cell? ⟨w1.heap.size, 2, none⟩ = some (.int .i64 x2) ∧ w'.cell? ⟨w1.heap.size, 3, none⟩ = some (.int .i64 x3) ∧ w'.cell? ⟨w1.heap.size, 4, none⟩ = some (.int .i64 x4) ∧ w'.cell? ⟨w1.heap.size, 5, none⟩ = some (.int .i64 x5)) (by kernel_rfl) ?_ (fun hHeld => ?_)
      · (try dsimp only)
        exact ⟨cV.1, cV.2.1, cV.2.2.1, cV.2.2.2.1, cV.2.2.2.2.1, cV.2.2.2.2.2⟩
      refine wpAnyH_take (i := 0) (oi := ?_) (v := ?_) ?_ (by kernel_rfl) (by kernel_rfl) (by kernel_rfl) ?_ (Or.inl ⟨?_, ?_⟩) (by assumption) ?_
      rotate_left 2
      · (simp only [List.getElem?_toArray, List.getElem?_cons_zero]; rfl)
      · exact fun _ _ _ h => h
      · rfl
      · (intro wS hSw; (try dsimp only at hSw); go_simp; (try with_reducible rfl))
      (try simp only [Act.put, List.setIfInBounds_toArray, List.set_cons_zero, List.set_cons_succ])
      refine wpAnyH_take (i := 1) (oi := ?_) (v := ?_) ?_ (by kernel_rfl) (by kernel_rfl) (by kernel_rfl) ?_ (Or.inl ⟨?_, ?_⟩) (by assumption) ?_
      rotate_left 2
      · (simp only [List.getElem?_toArray, List.getElem?_cons_zero, List.getElem?_cons_succ]; rfl)
      · exact fun _ _ _ h => h
      · rfl
      · (intro wS hSw; (try dsimp only at hSw); go_simp; (try with_reducible rfl))
      (try simp only [Act.put, List.setIfInBounds_toArray, List.set_cons_zero, List.set_cons_succ])
      refine wpAnyH_take (i := 3) (oi := ?_) (v := ?_) ?_ (by kernel_rfl) (by kernel_rfl) (by kernel_rfl) ?_ (Or.inl ⟨?_, ?_⟩) (by assumption) ?_
      rotate_left 2
      · (simp only [List.getElem?_toArray, List.getElem?_cons_zero, List.getElem?_cons_succ]; rfl)
      · exact fun _ _ _ h => h
      · rfl
      · (intro wS hSw; (try dsimp only at hSw); go_simp; (try with_reducible rfl))
      (try simp only [Act.put, List.setIfInBounds_toArray, List.set_cons_zero, List.set_cons_succ])
      refine wpAnyH_ready (rs := [2, 5]) (by kernel_rfl) (by simp) ?_
      refine AllReadyH.cons (o := ?_) ?_ (fun K hK => ?_) ?_
      rotate_left
      · (simp only [List.getElem?_toArray, List.getElem?_cons_zero, List.getElem?_cons_succ]; rfl)
      · go_simp
        (try go_wp2_with fail)
        refine hK.out _ _ ?_ (fun hHeld' => ?_)
        · (try dsimp only)
          exact ⟨cD.1, cD.2.1, cD.2.2.1, cD.2.2.2.1, cD.2.2.2.2.1, cD.2.2.2.2.2⟩
        clear hK K hHeld
        have hHeld := hHeld'
        clear hHeld'
        (try simp only [Act.put, List.setIfInBounds_toArray, List.set_cons_zero, List.set_cons_succ])
        refine wpAnyH_take (i := 4) (oi := ?_) (v := ?_) ?_ (by kernel_rfl) (by kernel_rfl) (by kernel_rfl) ?_ (Or.inl ⟨?_, ?_⟩) (by assumption) ?_
        rotate_left 2
        · (simp only [List.getElem?_toArray, List.getElem?_cons_zero, List.getElem?_cons_succ]; rfl)
        · exact fun _ _ _ h => h
        · rfl
        · (intro wS hSw; (try dsimp only at hSw); go_simp; (try with_reducible rfl))
        (try simp only [Act.put, List.setIfInBounds_toArray, List.set_cons_zero, List.set_cons_succ])
        refine wpAnyH_ready (rs := [5]) (by kernel_rfl) (by simp) ?_
        refine AllReadyH.cons (o := ?_) ?_ (fun K hK => ?_) AllReadyH.nil
        rotate_left
        · (simp only [List.getElem?_toArray, List.getElem?_cons_zero, List.getElem?_cons_succ]; rfl)
        go_simp
        skip
        (try go_wp2_with fail)
        refine hK.out _ _ ?_ (fun hHeld' => ?_)
        · (try dsimp only)
          exact ⟨c1.1, c1.2.1, c1.2.2.1, c1.2.2.2.1, c1.2.2.2.2.1, c1.2.2.2.2.2⟩
        clear hK K hHeld
        have hHeld := hHeld'
        clear hHeld'
        (try simp only [Act.put, List.setIfInBounds_toArray, List.set_cons_zero, List.set_cons_succ])
        refine wpAnyH_take (i := 6) (oi := ?_) (v := ?_) ?_ (by kernel_rfl) (by kernel_rfl) (by kernel_rfl) ?_ (Or.inl ⟨?_, ?_⟩) (by assumption) ?_
        rotate_left 2
        · (simp only [List.getElem?_toArray, List.getElem?_cons_zero, List.getElem?_cons_succ]; rfl)
        · exact fun _ _ _ h => h
        · rfl
        · (intro wS hSw; (try dsimp only at hSw); go_simp; (try with_reducible rfl))
        (try simp only [Act.put, List.setIfInBounds_toArray, List.set_cons_zero, List.set_cons_succ])
        refine wpAnyH_ready (rs := [7]) (by kernel_rfl) (by simp) ?_
        refine AllReadyH.cons (o := ?_) ?_ (fun K hK => ?_) AllReadyH.nil
        rotate_left
        · (simp only [List.getElem?_toArray, List.getElem?_cons_zero, List.getElem?_cons_succ]; rfl)
        go_simp
        skip
        (try go_wp2_with fail)
        refine hK.out _ _ ?_ (fun hHeld' => ?_)
        · (try dsimp only)
          exact ⟨c2.1, c2.2.1, c2.2.2.1, c2.2.2.2.1, c2.2.2.2.2.1, c2.2.2.2.2.2⟩
        clear hK K hHeld
        have hHeld := hHeld'
        clear hHeld'
        (try simp only [Act.put, List.setIfInBounds_toArray, List.set_cons_zero, List.set_cons_succ])
        refine wpAnyH_done (by kernel_rfl) ?_ _
        clear c1 c2 cD cV hkey hlk hmn hlk1 hst1 hHeld
        go_wp2
        go_roundw
        case rel => exact ⟨_, cnt1, [x0, x1, x2, x3, x4, x5] :: ks, _, HR2.out, HST.out, by simp; omega, by simpa using HO2.out, HMP.out, HB2.out⟩
        case measure => rw [HR2.out.left_eq, HLF.out]; exact hlt
      refine AllReadyH.cons (o := ?_) ?_ (fun K hK => ?_) AllReadyH.nil
      rotate_left
      · (simp only [List.getElem?_toArray, List.getElem?_cons_zero, List.getElem?_cons_succ]; rfl)
      · go_simp
        (try go_wp2_with fail)
        refine hK.out _ _ ?_ (fun hHeld' => ?_)
        · (try dsimp only)
          exact ⟨c1.1, c1.2.1, c1.2.2.1, c1.2.2.2.1, c1.2.2.2.2.1, c1.2.2.2.2.2⟩
        clear hK K hHeld
        have hHeld := hHeld'
        clear hHeld'
        (try simp only [Act.put, List.setIfInBounds_toArray, List.set_cons_zero, List.set_cons_succ])
        refine wpAnyH_take (i := 6) (oi := ?_) (v := ?_) ?_ (by kernel_rfl) (by kernel_rfl) (by kernel_rfl) ?_ (Or.inl ⟨?_, ?_⟩) (by assumption) ?_
        rotate_left 2
        · (simp only [List.getElem?_toArray, List.getElem?_cons_zero, List.getElem?_cons_succ]; rfl)
        · exact fun _ _ _ h => h
        · rfl
        · (intro wS hSw; (try dsimp only at hSw); go_simp; (try with_reducible rfl))
        (try simp only [Act.put, List.setIfInBounds_toArray, List.set_cons_zero, List.set_cons_succ])
        refine wpAnyH_ready (rs := [2]) (by kernel_rfl) (by simp) ?_
        refine AllReadyH.cons (o := ?_) ?_ (fun K hK => ?_) AllReadyH.nil
        rotate_left
        · (simp only [List.getElem?_toArray, List.getElem?_cons_zero, List.getElem?_cons_succ]; rfl)
        go_simp
        skip
        (try go_wp2_with fail)
        refine hK.out _ _ ?_ (fun hHeld' => ?_)
        · (try dsimp only)
          exact ⟨c1.1, c1.2.1, c1.2.2.1, c1.2.2.2.1, c1.2.2.2.2.1, c1.2.2.2.2.2⟩
        clear hK K hHeld
        have hHeld := hHeld'
        clear hHeld'
        (try simp only [Act.put, List.setIfInBounds_toArray, List.set_cons_zero, List.set_cons_succ])
        refine wpAnyH_take (i := 4) (oi := ?_) (v := ?_) ?_ (by kernel_rfl) (by kernel_rfl) (by kernel_rfl) ?_ (Or.inl ⟨?_, ?_⟩) (by assumption) ?_
        rotate_left 2
        · (simp only [List.getElem?_toArray, List.getElem?_cons_zero, List.getElem?_cons_succ]; rfl)
        · exact fun _ _ _ h => h
        · rfl
        · (intro wS hSw; (try dsimp only at hSw); go_simp; (try with_reducible rfl))
        (try simp only [Act.put, List.setIfInBounds_toArray, List.set_cons_zero, List.set_cons_succ])
        refine wpAnyH_ready (rs := [7]) (by kernel_rfl) (by simp) ?_
        refine AllReadyH.cons (o := ?_) ?_ (fun K hK => ?_) AllReadyH.nil
        rotate_left
        · (simp only [List.getElem?_toArray, List.getElem?_cons_zero, List.getElem?_cons_succ]; rfl)
        go_simp
        skip
        (try go_wp2_with fail)
        refine hK.out _ _ ?_ (fun hHeld' => ?_)
        · (try dsimp only)
          exact ⟨c2.1, c2.2.1, c2.2.2.1, c2.2.2.2.1, c2.2.2.2.2.1, c2.2.2.2.2.2⟩
        clear hK K hHeld
        have hHeld := hHeld'
        clear hHeld'
        (try simp only [Act.put, List.setIfInBounds_toArray, List.set_cons_zero, List.set_cons_succ])
        refine wpAnyH_done (by kernel_rfl) ?_ _
        clear c1 c2 cD cV hkey hlk hmn hlk1 hst1 hHeld
        go_wp2
        go_roundw
        case rel => exact ⟨_, cnt1, [x0, x1, x2, x3, x4, x5] :: ks, _, HR2.out, HST.out, by simp; omega, by simpa using HO2.out, HMP.out, HB2.out⟩
        case measure => rw [HR2.out.left_eq, HLF.out]; exact hlt

end Go.Proofs.YtlfljfmhhnoinabGreat
