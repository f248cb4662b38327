/- Contracts of impl.negated and impl.distinctDelta. -/
import Derived.Test.YtmkhdocjabflkaaM20
namespace Go.Proofs.Ytmkhdocjabflkaa
open Go.RowKit Go.Maps

theorem look_cnt {w : World} {b cnt : Nat} {D : DataW Unit} {f : List Int → Int} {S : List (List Int)} (ho : w.ownsMap Try.prog 77 (plainElem Try.prog 3) b cnt D) (hm : MapIs D f S) (x0 x1 x2 x3 x4 x5 : Int) (hf : Fits [x0, x1, x2, x3, x4, x5]) :
    (Instr.lookup 74 (.map (some b)) (.agg #[.int .i64 x0, .int .i64 x1, .int .i64 x2, .int .i64 x3, .int .i64 x4, .int .i64 x5]) false).run Try.prog w = .ok (.int .i64 (f [x0, x1, x2, x3, x4, x5])) w := by
  obtain ⟨c, h1, h2, _⟩ := ho.lookup_int Try.keyedA Try.underlying74 Try.underlying3 (Try.zeroInt _) (keyOf_arr _ hf)
  rw [← hm.at hf h2]
  exact h1
/-- A map to which one more key is laid. -/
theorem mapIs_set {D : DataW Unit} {h : List Int → Int} {ks : List (List Int)} (hm : MapIs D (fun z => if z ∈ ks then h z else 0) ks) (hD : IsMap D) {x : List Int} (hx : Fits x) {v : Int} (hv : v = h x) :
    MapIs (D.put (klit x) (.lit (.int .i64 v))) (fun z => if z ∈ x :: ks then h z else 0) (x :: ks) :=
  (hm.put hD hx v).congr (fun z => by
    by_cases e : z = x
    · subst e; simp [hv]
    · simp [e]) rfl
theorem wOf_neg (xs : List WRow) (zs : List Int) : wOf (xs.map fun t => (t.1, -1 * t.2)) zs = - wOf xs zs := by
  induction xs with
  | nil => rfl
  | cons t xs ih =>
    rw [List.map_cons, wOf_cons, wOf_cons]
    by_cases e : t.1 = zs
    · simp only [if_pos e]; omega
    · simp only [if_neg e]; exact ih
theorem tells_neg {q : Nat} {f : List Int → Int} {xs : List WRow} (h : Tells q f xs) : Tells q (fun z => - f z) (scaleW xs (-1)) := by
  have e : scaleW xs (-1) = xs.map fun t => (t.1, -1 * t.2) := by unfold scaleW; rw [if_neg (by decide)]
  have hw := wOf_neg xs
  rw [e]
  refine ⟨?_, fun t ht => ?_, fun t ht => ?_, fun zs h1 h2 => by rw [hw, h.weight zs h1 h2]⟩
  · unfold Rises; rw [List.pairwise_map]; exact h.rises
  · obtain ⟨s, hs, rfl⟩ := List.mem_map.1 ht
    have := h.noZero s hs
    show -1 * s.2 ≠ 0
    omega
  · obtain ⟨s, hs, rfl⟩ := List.mem_map.1 ht
    exact h.rows s hs

set_option maxRecDepth 100000 in
set_option maxHeartbeats 4000000 in
theorem negated_any (b q M : Nat) (xs : List WRow) (B : Int) (w : World) (hx : Cnt w b q M xs) (hM : M ≤ 1000000) (hB0 : 0 ≤ B) (hBB : B ≤ 4000000000000000000) (bx : ∀ t ∈ xs, -B ≤ t.2 ∧ t.2 ≤ B) :
    Calls Try.prog 125 #[.map (some b)] w fun e w' => ∃ b3, e = .returned (.map (some b3)) ∧ w.heap.size ≤ b3 ∧ Cnt w' b3 q M (scaleW xs (-1)) ∧ Below w.heap.size w w' := by
  have lb := hx.lt
  obtain ⟨cnt, D, f, S, hown, hm, hS, hT, hcM⟩ := hx
  have hsz := hown.size_le
  have hmm := @run_makeMap Try.prog
  go_enter Try.func125, Try.ntmps125
  go_wp2_with (first | (at_range; refine wpList_range_own _ rfl _ 74 rfl 77 3 Try.keyedA Try.underlying74 _ b cnt D rfl (hown.alloc _) ?_; intro w0 hrg0 hg0 hs0) | go_in)
  go_frame
  have B0 : Below w.heap.size w w0 := ((Below.refl _ _).alloc (Nat.le_refl _) _).grown hg0 (by simp) (by simp)
  have ho0 : w0.ownsMap Try.prog 77 (plainElem Try.prog 3) w.heap.size 0 (.map [] : DataW Unit) := (World.ownsMap_made _ _ _ _).kept hg0 (by simp)
  simp only [World.size_alloc] at hrg0 hs0 ⊢
  go_loopw [5] (fun _ wr => ∃ (left : Lit → Bool) (c0 : Nat) (ks : List (List Int)) (E : DataW Unit), wr.ranges Try.prog 77 (plainElem Try.prog 3) b (w.heap.size + 1) cnt D left c0 ∧ Ran D left ks ∧ ks.length + c0 ≤ cnt ∧ wr.ownsMap Try.prog 77 (plainElem Try.prog 3) w.heap.size ks.length E ∧ MapIs E (fun z => if z ∈ ks then - f z else 0) ks ∧ Below w.heap.size w wr) (fun _ wr => wr.rangeLeft b (w.heap.size + 1))
  case atStart => exact ⟨_, _, [], _, hrg0, Ran.start D, by simpa using hsz, ho0, MapIs.empty.congr (fun _ => by simp) rfl, B0⟩
  case round =>
    clear hrg0 hg0 hs0 B0 ho0 w0
    obtain ⟨left, c0, ks, E, hrg, hR, hlen, ho, hme, hbw⟩ := hrel
    go_wp2_with (first | (at_next; refine wpList_next_ranges _ rfl _ rfl 77 Try.keyedA (plainElem Try.prog 3) Six.val (Value.int .i64) (fun _ _ h => six_key h) (fun v y hv => by obtain ⟨c, rfl, _⟩ := plainElem_int_inv Try.underlying3 hv; exact ⟨c, rfl⟩) b (w.heap.size + 1) cnt D left c0 rfl hrg ?_ ?_) | go_in)
    · intro h00 hl0
      have hall : ∀ x, Fits x → (x ∈ ks ↔ x ∈ S) := fun x hx => hR.all hm hl0 hx
      have HM : Hid (MapIs E (fun z => - f z) ks) := hme.agree (fun x hx => by
        by_cases e : x ∈ ks
        · simp [e]
        · simp [e, map_zero hm hx (fun h => e ((hall x hx).2 h))]) (fun _ _ => Iff.rfl)
      have hK1 : Keys q ks := hS.of_sub fun x hx => (hall x (hR.fits x hx)).1 hx
      have HO := Hid.mk ho
      have HB := Hid.mk hbw
      clear hrg hme ho hbw hl0 hR
      go_wp2
      go_ret
      exact ⟨w.heap.size, rfl, Nat.le_refl _, ⟨_, E, _, _, HO.out, HM.out, hK1, tells_neg hT, by omega⟩, HB.out⟩
    · intro x0 x1 x2 x3 x4 x5 c kl yd yp w1 cnt1 hkey hlk hv hat hrg1 hlt hg1 hs1 hen
      obtain ⟨zs, hfz, hvz, rfl⟩ := keyOf_arr_inv hkey
      obtain rfl : zs = [x0, x1, x2, x3, x4, x5] := (arrV_inj (by rw [← hvz]; rfl)).symm
      obtain ⟨c', hc', hy', hwc⟩ := plainElem_int_inv Try.underlying3 hv
      obtain rfl : c' = c := by simpa using hc'.symm
      have hyd : yd = .lit (.int .i64 c') := by simpa using congrArg Prod.fst hy'
      have hfx : c' = f [x0, x1, x2, x3, x4, x5] := hm.at hfz (by rw [hat, hyd])
      have hhas : Maps.has D (klit [x0, x1, x2, x3, x4, x5]) = true := has_true_of_atKey hat
      obtain ⟨hst, hnot⟩ := hR.step hfz hlk hhas
      have hin : [x0, x1, x2, x3, x4, x5] ∈ S := of_decide_eq_true (((hm _ hfz).2).symm.trans hhas)
      have hlf := hrg.left_eq
      simp only [Six.val] at hen
      clear hat hv hlk hvz hc' hy' hyd hhas hwc hkey
      have zr : w.heap.size + 1 < w1.heap.size := by rw [hs1]; exact hrg.lt
      have hbw1 : Below w.heap.size w w1 := hbw.grown hg1 hbw.size (fun j hj => by cases hj; omega)
      clear hs1
      have ho1 : w1.ownsMap Try.prog 77 (plainElem Try.prog 3) w.heap.size ks.length E := ho.kept hg1 (by simp <;> omega)
      have HRG := Hid.mk hrg1
      have HLF := Hid.mk hlf
      have HST := Hid.mk hst
      have HFX := Hid.mk hfx
      obtain ⟨V, hV⟩ : ∃ V, V = w1.alloc (.cells #[.int .i64 x0, .int .i64 x1, .int .i64 x2, .int .i64 x3, .int .i64 x4, .int .i64 x5] 77) := ⟨_, rfl⟩
      have cV : V.cell? ⟨w1.heap.size, 0, none⟩ = some (.int .i64 x0) ∧ V.cell? ⟨w1.heap.size, 1, none⟩ = some (.int .i64 x1) ∧ V.cell? ⟨w1.heap.size, 2, none⟩ = some (.int .i64 x2) ∧ V.cell? ⟨w1.heap.size, 3, none⟩ = some (.int .i64 x3) ∧ V.cell? ⟨w1.heap.size, 4, none⟩ = some (.int .i64 x4) ∧ V.cell? ⟨w1.heap.size, 5, none⟩ = some (.int .i64 x5) := by rw [hV]; simp
      have hbV : Below w1.heap.size w1 V := by rw [hV]; exact (Below.refl _ _).alloc (Nat.le_refl _) _
      have hoV := ho1.kept (Below.toGrown hbV none) (by simp)
      have hkey : keyOf Try.prog 77 (.agg #[.int .i64 x0, .int .i64 x1, .int .i64 x2, .int .i64 x3, .int .i64 x4, .int .i64 x5]) = some (klit [x0, x1, x2, x3, x4, x5]) := keyOf_arr _ hfz
      have hbc := hT.key hS hB0 bx hin
      rw [← hfx] at hbc
      have hneg : IntKind.i64.wrap (-c') = -c' := IntWalk.i64_in _ (by omega)
      obtain ⟨W2, hup, hoW2, hgW2⟩ := hoV.update Try.keyedA Try.underlying74 (by unfold maxLen; omega) hkey (plainElem_int Try.underlying3 (show (Lit.int .i64 (-c')).wf = true from wf_i64 (by omega) (by omega)))
      have HMP := Hid.mk (mapIs_set (h := fun z => - f z) hme hoV.isMap hfz (v := -c') (by rw [hfx]))
      have HO2 := Hid.mk hoW2
      have hgV : w1.grownBy W2 (some w.heap.size) := grown_trans (Below.toGrown hbV _) hgW2
      have HR2 := Hid.mk (HRG.out.kept hgV (by simp <;> omega) (by simp <;> omega))
      have HB2 := Hid.mk (hbw1.grown hgV hbw1.size (fun j hj => by cases hj; exact Nat.le_refl _))
      rw [hV] at hup
      clear hbc hoV ho ho1 hme hrg hrg1 hst hlf hfx hbw hbw1 hbV hg1 hgV hoW2 hgW2 hR HRG
      go_wp2
      go_roundw
      case rel => exact ⟨_, cnt1, [x0, x1, x2, x3, x4, x5] :: ks, _, HR2.out, HST.out, by simp; omega, by simpa using HO2.out, HMP.out, HB2.out⟩
      case measure => rw [HR2.out.left_eq, HLF.out]; exact hlt
set_option maxRecDepth 100000 in
set_option maxHeartbeats 4000000 in
theorem distinctDelta_any (b b' q M M' : Nat) (xs ys : List WRow) (B B' : Int) (w : World) (hx : Cnt w b q M xs) (hy : Cnt w b' q M' ys) (hM : M' ≤ 1000000) (hB0 : 0 ≤ B) (hB0' : 0 ≤ B') (hBB : B + B' ≤ 4000000000000000000) (bx : ∀ t ∈ xs, -B ≤ t.2 ∧ t.2 ≤ B) (cx : ∀ t ∈ ys, -B' ≤ t.2 ∧ t.2 ≤ B') :
    Calls Try.prog 65 #[.map (some b), .map (some b')] w fun e w' => ∃ b3, e = .returned (.map (some b3)) ∧ w.heap.size ≤ b3 ∧ Cnt w' b3 q M' (ddW xs ys) ∧ Below w.heap.size w w' := by
  have lb := hx.lt
  have lb' := hy.lt
  obtain ⟨cnt, D, f, S, hown, hm, hS, hT, hcM⟩ := hx
  obtain ⟨cnt', D', f', S', hown', hm', hS', hT', hcM'⟩ := hy
  have hsz := hown'.size_le
  have hmm := @run_makeMap Try.prog
  go_enter Try.func65, Try.ntmps65
  go_wp2_with (first | (at_range; refine wpList_range_own _ rfl _ 74 rfl 77 3 Try.keyedA Try.underlying74 _ b' cnt' D' rfl (hown'.alloc _) ?_; intro w0 hrg0 hg0 hs0) | go_in)
  go_frame
  have B0 : Below w.heap.size w w0 := ((Below.refl _ _).alloc (Nat.le_refl _) _).grown hg0 (by simp) (by simp)
  have ho0 : w0.ownsMap Try.prog 77 (plainElem Try.prog 3) w.heap.size 0 (.map [] : DataW Unit) := (World.ownsMap_made _ _ _ _).kept hg0 (by simp)
  simp only [World.size_alloc] at hrg0 hs0 ⊢
  go_loopw [7] (fun _ wr => ∃ (left : Lit → Bool) (c0 : Nat) (ks : List (List Int)) (E : DataW Unit), wr.ranges Try.prog 77 (plainElem Try.prog 3) b' (w.heap.size + 1) cnt' D' left c0 ∧ Ran D' left ks ∧ ks.length + c0 ≤ cnt' ∧ wr.ownsMap Try.prog 77 (plainElem Try.prog 3) w.heap.size ks.length E ∧ MapIs E (fun z => if z ∈ ks then onceF (f z + f' z) - onceF (f z) else 0) ks ∧ Below w.heap.size w wr) (fun _ wr => wr.rangeLeft b' (w.heap.size + 1))
  case atStart => exact ⟨_, _, [], _, hrg0, Ran.start D', by simpa using hsz, ho0, MapIs.empty.congr (fun _ => by simp) rfl, B0⟩
  case round =>
    clear hrg0 hg0 hs0 B0 ho0 w0
    obtain ⟨left, c0, ks, E, hrg, hR, hlen, ho, hme, hbw⟩ := hrel
    go_wp2_with (first | (at_next; refine wpList_next_ranges _ rfl _ rfl 77 Try.keyedA (plainElem Try.prog 3) Six.val (Value.int .i64) (fun _ _ h => six_key h) (fun v y hv => by obtain ⟨c, rfl, _⟩ := plainElem_int_inv Try.underlying3 hv; exact ⟨c, rfl⟩) b' (w.heap.size + 1) cnt' D' left c0 rfl hrg ?_ ?_) | go_in)
    · intro h00 hl0
      have hall : ∀ x, Fits x → (x ∈ ks ↔ x ∈ S') := fun x hx => hR.all hm' hl0 hx
      have hK1 : Keys q ks := hS'.of_sub fun x hx => (hall x (hR.fits x hx)).1 hx
      have HM := Hid.mk hme
      have HTT := Hid.mk (tells_dd (ks := ks) hT hT' fun zs h1 _ h3 => map_zero hm' (fits_raised h1) (fun h => h3 ((hall _ (fits_raised h1)).2 h)))
      have HO := Hid.mk ho
      have HB := Hid.mk hbw
      clear hrg hme ho hbw hl0 hR
      go_wp2
      go_ret
      exact ⟨w.heap.size, rfl, Nat.le_refl _, ⟨_, E, _, _, HO.out, HM.out, hK1, HTT.out, by omega⟩, HB.out⟩
    · intro x0 x1 x2 x3 x4 x5 c kl yd yp w1 cnt1 hkey hlk hv hat hrg1 hlt hg1 hs1 hen
      obtain ⟨zs, hfz, hvz, rfl⟩ := keyOf_arr_inv hkey
      obtain rfl : zs = [x0, x1, x2, x3, x4, x5] := (arrV_inj (by rw [← hvz]; rfl)).symm
      obtain ⟨c', hc', hy', hwc⟩ := plainElem_int_inv Try.underlying3 hv
      obtain rfl : c' = c := by simpa using hc'.symm
      have hyd : yd = .lit (.int .i64 c') := by simpa using congrArg Prod.fst hy'
      have hfx : c' = f' [x0, x1, x2, x3, x4, x5] := hm'.at hfz (by rw [hat, hyd])
      have hhas : Maps.has D' (klit [x0, x1, x2, x3, x4, x5]) = true := has_true_of_atKey hat
      obtain ⟨hst, hnot⟩ := hR.step hfz hlk hhas
      have hin : [x0, x1, x2, x3, x4, x5] ∈ S' := of_decide_eq_true (((hm' _ hfz).2).symm.trans hhas)
      have hlf := hrg.left_eq
      simp only [Six.val] at hen
      clear hat hv hlk hvz hc' hy' hyd hhas hwc hkey
      have zr : w.heap.size + 1 < w1.heap.size := by rw [hs1]; exact hrg.lt
      have hbw1 : Below w.heap.size w w1 := hbw.grown hg1 hbw.size (fun j hj => by cases hj; omega)
      clear hs1
      have ho1 : w1.ownsMap Try.prog 77 (plainElem Try.prog 3) w.heap.size ks.length E := ho.kept hg1 (by simp <;> omega)
      have HRG := Hid.mk hrg1
      have HLF := Hid.mk hlf
      have HST := Hid.mk hst
      have HFX := Hid.mk hfx
      obtain ⟨V, hV⟩ : ∃ V, V = w1.alloc (.cells #[.int .i64 x0, .int .i64 x1, .int .i64 x2, .int .i64 x3, .int .i64 x4, .int .i64 x5] 77) := ⟨_, rfl⟩
      have cV : V.cell? ⟨w1.heap.size, 0, none⟩ = some (.int .i64 x0) ∧ V.cell? ⟨w1.heap.size, 1, none⟩ = some (.int .i64 x1) ∧ V.cell? ⟨w1.heap.size, 2, none⟩ = some (.int .i64 x2) ∧ V.cell? ⟨w1.heap.size, 3, none⟩ = some (.int .i64 x3) ∧ V.cell? ⟨w1.heap.size, 4, none⟩ = some (.int .i64 x4) ∧ V.cell? ⟨w1.heap.size, 5, none⟩ = some (.int .i64 x5) := by rw [hV]; simp
      have hbV : Below w1.heap.size w1 V := by rw [hV]; exact (Below.refl _ _).alloc (Nat.le_refl _) _
      have hoV := ho1.kept (Below.toGrown hbV none) (by simp)
      have hkey : keyOf Try.prog 77 (.agg #[.int .i64 x0, .int .i64 x1, .int .i64 x2, .int .i64 x3, .int .i64 x4, .int .i64 x5]) = some (klit [x0, x1, x2, x3, x4, x5]) := keyOf_arr _ hfz
      have hbc := hT'.key hS' hB0' cx hin
      rw [← hfx] at hbc
      obtain ⟨y, hy⟩ : ∃ y, f [x0, x1, x2, x3, x4, x5] = y := ⟨_, rfl⟩
      have hby : -B ≤ y ∧ y ≤ B := by
        obtain ⟨zs, e1, e2, e3⟩ := hS' _ hin
        rw [← hy, e3]; exact hT.bound hB0 bx e1 e2
      have hadd : IntKind.i64.wrap (y + c') = y + c' := IntWalk.i64_in _ (by omega)
      have o1 : 0 ≤ onceF (y + c') ∧ onceF (y + c') ≤ 1 := by unfold onceF; split <;> omega
      have o2 : 0 ≤ onceF y ∧ onceF y ≤ 1 := by unfold onceF; split <;> omega
      have hsub : IntKind.i64.wrap (onceF (y + c') - onceF y) = onceF (y + c') - onceF y := IntWalk.i64_in _ (by omega)
      have hoD := hoV.drew
      obtain ⟨W2, hup, hoW2, hgW2⟩ := hoD.update Try.keyedA Try.underlying74 (by unfold maxLen; omega) hkey (plainElem_int Try.underlying3 (show (Lit.int .i64 (onceF (y + c') - onceF y)).wf = true from wf_i64 (by omega) (by omega)))
      have HMP := Hid.mk (mapIs_set (h := fun z => onceF (f z + f' z) - onceF (f z)) hme hoD.isMap hfz (v := onceF (y + c') - onceF y) (by rw [hfx, ← hy]))
      have HO2 := Hid.mk hoW2
      have hgV : w1.grownBy W2 (some w.heap.size) := grown_trans (Below.toGrown hbV _) (grown_drew hgW2)
      have BV := hbw1.trans (hbV.mono hbw1.size)
      have B2 := hbw1.grown hgV hbw1.size (fun j hj => by cases hj; exact Nat.le_refl _)
      have lkV : (Instr.lookup 74 (.map (some b)) (.agg #[.int .i64 x0, .int .i64 x1, .int .i64 x2, .int .i64 x3, .int .i64 x4, .int .i64 x5]) false).run Try.prog V = .ok (.int .i64 y) V := by rw [← hy]; exact look_cnt (hown.kept (Below.toGrown BV none) (by simp)) hm _ _ _ _ _ _ hfz
      have lkD : (Instr.lookup 74 (.map (some b)) (.agg #[.int .i64 x0, .int .i64 x1, .int .i64 x2, .int .i64 x3, .int .i64 x4, .int .i64 x5]) false).run Try.prog V.drew = .ok (.int .i64 y) V.drew := by rw [← hy]; exact look_cnt (hown.kept (Below.toGrown BV.drew none) (by simp)) hm _ _ _ _ _ _ hfz
      have lk2 : (Instr.lookup 74 (.map (some b)) (.agg #[.int .i64 x0, .int .i64 x1, .int .i64 x2, .int .i64 x3, .int .i64 x4, .int .i64 x5]) false).run Try.prog W2 = .ok (.int .i64 y) W2 := by rw [← hy]; exact look_cnt (hown.kept (Below.toGrown B2 none) (by simp)) hm _ _ _ _ _ _ hfz
      have cD := six_later (Below.refl V.heap.size V).drew cV
      have c2 := six_grown hgW2 (by simp <;> omega) cD
      have HR2 := Hid.mk (HRG.out.kept hgV (by simp <;> omega) (by simp <;> omega))
      have HB2 := Hid.mk B2
      clear hbc hby hy o1 o2 hoV hoD ho ho1 hme hrg hrg1 hst hlf hfx hbw hbw1 hbV BV B2 hg1 hgV hoW2 hgW2 hR HRG
      go_wp2_with fail
      rw [← hV]
      clear hV hen
      refine wp_region_held_drew (S := fun w' => w'.cell? ⟨w1.heap.size, 0, none⟩ = some (.int .i64 x0) ∧ w'.cell? ⟨w1.heap.size, 1, none⟩ = some (.int .i64 x1) ∧ w'.cell? ⟨w1.heap.size, 2, none⟩ = some (.int .i64 x2) ∧ w'.cell? ⟨w1.heap.size, 3, none⟩ = some (.int .i64 x3) ∧ w'.cell? ⟨w1.heap.size, 4, none⟩ = some (.int .i64 x4) ∧ w'.cell? ⟨w1.heap.size, 5, none⟩ = some (.int .i64 x5) ∧ (Instr.lookup 74 (.map (some b)) (.agg #[.int .i64 x0, .int .i64 x1, .int .i64 x2, .int .i64 x3, .int .i64 x4, .int .i64 x5]) false).run Try.prog w' = .ok (.int .i64 y) w') (by kernel_rfl) ?_ (fun hHeld => ?_)
      · (try dsimp only)
        exact ⟨cV.1, cV.2.1, cV.2.2.1, cV.2.2.2.1, cV.2.2.2.2.1, cV.2.2.2.2.2, lkD⟩
      refine wpAnyH_take (i := 0) (oi := ?_) (v := ?_) ?_ (by kernel_rfl) (by kernel_rfl) (by kernel_rfl) ?_ (Or.inl ⟨?_, ?_⟩) (by assumption) ?_
      rotate_left 2
      · (simp only [List.getElem?_toArray, List.getElem?_cons_zero]; rfl)
      · exact fun _ _ _ h => h
      · rfl
      · (intro wS hSw; (try dsimp only at hSw); go_simp; (try with_reducible rfl))
      (try simp only [Act.put, List.setIfInBounds_toArray, List.set_cons_zero, List.set_cons_succ])
      refine wpAnyH_take (i := 1) (oi := ?_) (v := ?_) ?_ (by kernel_rfl) (by kernel_rfl) (by kernel_rfl) ?_ (Or.inl ⟨?_, ?_⟩) (by assumption) ?_
      rotate_left 2
      · (simp only [List.getElem?_toArray, List.getElem?_cons_zero, List.getElem?_cons_succ]; rfl)
      · exact fun _ _ _ h => h
      · rfl
      · (intro wS hSw; (try dsimp only at hSw); go_simp; (try with_reducible rfl))
      (try simp only [Act.put, List.setIfInBounds_toArray, List.set_cons_zero, List.set_cons_succ])
      refine wpAnyH_take (i := 2) (oi := ?_) (v := ?_) ?_ (by kernel_rfl) (by kernel_rfl) (by kernel_rfl) ?_ (Or.inl ⟨?_, ?_⟩) (by assumption) ?_
      rotate_left 2
      · (simp only [List.getElem?_toArray, List.getElem?_cons_zero, List.getElem?_cons_succ]; rfl)
      · exact fun _ _ _ h => h
      · rfl
      · (intro wS hSw; (try dsimp only at hSw); go_simp; (try with_reducible rfl))
      (try simp only [Act.put, List.setIfInBounds_toArray, List.set_cons_zero, List.set_cons_succ])
      refine wpAnyH_take (i := 3) (oi := ?_) (v := ?_) ?_ (by kernel_rfl) (by kernel_rfl) (by kernel_rfl) ?_ (Or.inl ⟨?_, ?_⟩) (by assumption) ?_
      rotate_left 2
      · (simp only [List.getElem?_toArray, List.getElem?_cons_zero, List.getElem?_cons_succ]; rfl)
      · exact fun _ _ _ h => h
      · rfl
      · (intro wS hSw; (try dsimp only at hSw); go_simp; (try with_reducible rfl))
      (try simp only [Act.put, List.setIfInBounds_toArray, List.set_cons_zero, List.set_cons_succ])
      refine wpAnyH_take (i := 4) (oi := ?_) (v := ?_) ?_ (by kernel_rfl) (by kernel_rfl) (by kernel_rfl) ?_ (Or.inl ⟨?_, ?_⟩) (by assumption) ?_
      rotate_left 2
      · (simp only [List.getElem?_toArray, List.getElem?_cons_zero, List.getElem?_cons_succ]; rfl)
      · exact fun _ _ _ h => h
      · rfl
      · (intro wS hSw; (try dsimp only at hSw); go_simp; (try with_reducible rfl))
      (try simp only [Act.put, List.setIfInBounds_toArray, List.set_cons_zero, List.set_cons_succ])
      refine wpAnyH_take (i := 5) (oi := ?_) (v := ?_) ?_ (by kernel_rfl) (by kernel_rfl) (by kernel_rfl) ?_ (Or.inl ⟨?_, ?_⟩) (by assumption) ?_
      rotate_left 2
      · (simp only [List.getElem?_toArray, List.getElem?_cons_zero, List.getElem?_cons_succ]; rfl)
      · exact fun _ _ _ h => h
      · rfl
      · (intro wS hSw; (try dsimp only at hSw); go_simp; (try with_reducible rfl))
      (try simp only [Act.put, List.setIfInBounds_toArray, List.set_cons_zero, List.set_cons_succ])
      refine wpAnyH_take (i := 6) (oi := ?_) (v := ?_) ?_ (by kernel_rfl) (by kernel_rfl) (by kernel_rfl) ?_ (Or.inl ⟨?_, ?_⟩) (by assumption) ?_
      rotate_left 2
      · (simp only [List.getElem?_toArray, List.getElem?_cons_zero, List.getElem?_cons_succ]; rfl)
      · exact fun _ _ _ h => h
      · rfl
      · (intro wS hSw; (try dsimp only at hSw); go_simp; (try with_reducible rfl))
      (try simp only [Act.put, List.setIfInBounds_toArray, List.set_cons_zero, List.set_cons_succ])
      refine wpAnyH_take (i := 8) (oi := ?_) (v := ?_) ?_ (by kernel_rfl) (by kernel_rfl) (by kernel_rfl) ?_ (Or.inl ⟨?_, ?_⟩) (by assumption) ?_
      rotate_left 2
      · (simp only [List.getElem?_toArray, List.getElem?_cons_zero, List.getElem?_cons_succ]; rfl)
      · exact fun _ _ _ h => h
      · rfl
      · (intro wS hSw; (try dsimp only at hSw); go_simp; (try with_reducible rfl))
      (try simp only [Act.put, List.setIfInBounds_toArray, List.set_cons_zero, List.set_cons_succ])
      refine wpAnyH_take (i := 9) (oi := ?_) (v := ?_) ?_ (by kernel_rfl) (by kernel_rfl) (by kernel_rfl) ?_ (Or.inl ⟨?_, ?_⟩) (by assumption) ?_
      rotate_left 2
      · (simp only [List.getElem?_toArray, List.getElem?_cons_zero, List.getElem?_cons_succ]; rfl)
      · exact fun _ _ _ h => h
      · rfl
      · (intro wS hSw; (try dsimp only at hSw); go_simp; (try with_reducible rfl))
      (try simp only [Act.put, List.setIfInBounds_toArray, List.set_cons_zero, List.set_cons_succ])
      refine wpAnyH_take (i := 10) (oi := ?_) (v := ?_) ?_ (by kernel_rfl) (by kernel_rfl) (by kernel_rfl) ?_ (Or.inl ⟨?_, ?_⟩) (by assumption) ?_
      rotate_left 2
      · (simp only [List.getElem?_toArray, List.getElem?_cons_zero, List.getElem?_cons_succ]; rfl)
      · exact fun _ _ _ h => h
      · rfl
      · (intro wS hSw; (try dsimp only at hSw); go_simp; (try with_reducible rfl))
      (try simp only [Act.put, List.setIfInBounds_toArray, List.set_cons_zero, List.set_cons_succ])
      refine wpAnyH_ready (rs := [7]) (by kernel_rfl) (by simp) ?_
      refine AllReadyH.cons (o := ?_) ?_ (fun K hK => ?_) AllReadyH.nil
      rotate_left
      · (simp only [List.getElem?_toArray, List.getElem?_cons_zero, List.getElem?_cons_succ]; rfl)
      go_simp
      go_at_call 121; refine (onceAbove_any _ _).mono ?_; rintro e wq ⟨rfl, rfl⟩
      (try go_wp2_with fail)
      refine hK.out _ _ ?_ (fun hHeld' => ?_)
      · (try dsimp only)
        exact ⟨cD.1, cD.2.1, cD.2.2.1, cD.2.2.2.1, cD.2.2.2.2.1, cD.2.2.2.2.2, lkD⟩
      clear hK K hHeld
      have hHeld := hHeld'
      clear hHeld'
      (try simp only [Act.put, List.setIfInBounds_toArray, List.set_cons_zero, List.set_cons_succ])
      refine wpAnyH_ready (rs := [11]) (by kernel_rfl) (by simp) ?_
      refine AllReadyH.cons (o := ?_) ?_ (fun K hK => ?_) AllReadyH.nil
      rotate_left
      · (simp only [List.getElem?_toArray, List.getElem?_cons_zero, List.getElem?_cons_succ]; rfl)
      go_simp
      go_at_call 121; refine (onceAbove_any _ _).mono ?_; rintro e wq ⟨rfl, rfl⟩
      (try go_wp2_with fail)
      refine hK.out _ _ ?_ (fun hHeld' => ?_)
      · (try dsimp only)
        exact ⟨cD.1, cD.2.1, cD.2.2.1, cD.2.2.2.1, cD.2.2.2.2.1, cD.2.2.2.2.2, lkD⟩
      clear hK K hHeld
      have hHeld := hHeld'
      clear hHeld'
      (try simp only [Act.put, List.setIfInBounds_toArray, List.set_cons_zero, List.set_cons_succ])
      refine wpAnyH_take (i := 12) (oi := ?_) (v := ?_) ?_ (by kernel_rfl) (by kernel_rfl) (by kernel_rfl) ?_ (Or.inl ⟨?_, ?_⟩) (by assumption) ?_
      rotate_left 2
      · (simp only [List.getElem?_toArray, List.getElem?_cons_zero, List.getElem?_cons_succ]; rfl)
      · exact fun _ _ _ h => h
      · rfl
      · (intro wS hSw; (try dsimp only at hSw); go_simp; (try with_reducible rfl))
      (try simp only [Act.put, List.setIfInBounds_toArray, List.set_cons_zero, List.set_cons_succ])
      refine wpAnyH_ready (rs := [13]) (by kernel_rfl) (by simp) ?_
      refine AllReadyH.cons (o := ?_) ?_ (fun K hK => ?_) AllReadyH.nil
      rotate_left
      · (simp only [List.getElem?_toArray, List.getElem?_cons_zero, List.getElem?_cons_succ]; rfl)
      go_simp
      skip
      (try go_wp2_with fail)
      refine hK.out _ _ ?_ (fun hHeld' => ?_)
      · (try dsimp only)
        exact ⟨c2.1, c2.2.1, c2.2.2.1, c2.2.2.2.1, c2.2.2.2.2.1, c2.2.2.2.2.2, lk2⟩
      clear hK K hHeld
      have hHeld := hHeld'
      clear hHeld'
      (try simp only [Act.put, List.setIfInBounds_toArray, List.set_cons_zero, List.set_cons_succ])
      refine wpAnyH_done (by kernel_rfl) ?_ _
      clear c2 cD cV hkey hup lkD lk2 lkV hHeld
      go_wp2
      go_roundw
      case rel => exact ⟨_, cnt1, [x0, x1, x2, x3, x4, x5] :: ks, _, HR2.out, HST.out, by simp; omega, by simpa using HO2.out, HMP.out, HB2.out⟩
      case measure => rw [HR2.out.left_eq, HLF.out]; exact hlt

end Go.Proofs.Ytmkhdocjabflkaa
