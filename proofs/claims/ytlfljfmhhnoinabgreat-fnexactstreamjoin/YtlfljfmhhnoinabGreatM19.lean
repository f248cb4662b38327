/- Several texts of one proof, in build order: Prod, ProdD. -/
import Derived.Test.YtlfljfmhhnoinabGreatM17
import Derived.Test.YtlfljfmhhnoinabGreatM16
import Derived.Test.YtlfljfmhhnoinabGreatM18

/- Contract of impl.product. -/
namespace Go.Proofs.YtlfljfmhhnoinabGreat
open Go.RowKit Go.Maps

/-- What a map that is being made holds. -/
def PI (J : Nat) (BB : Int) (E : DataW Unit) (G : List Int → Int) (ce N : Nat) : Prop := ∃ S, MapIs E G S ∧ Keys J S ∧ (∀ z, -(BB * ce) ≤ G z ∧ G z ≤ BB * ce) ∧ ce ≤ N
theorem PI.empty (J : Nat) (BB : Int) : PI J BB (.map []) (fun _ => 0) 0 0 := by
  refine ⟨[], MapIs.empty, ?_, ?_, Nat.le_refl _⟩
  · intro a ha; cases ha
  · intro z; constructor <;> simp
theorem PI.congr {J : Nat} {BB : Int} {E : DataW Unit} {G G' : List Int → Int} {ce N N' : Nat} (h : PI J BB E G ce N) (hG : ∀ z, G z = G' z) (hN : N ≤ N') : PI J BB E G' ce N' := by
  obtain rfl : G = G' := funext hG
  obtain ⟨S, h1, h2, h3, h4⟩ := h
  exact ⟨S, h1, h2, h3, by omega⟩
theorem PI.bump {J : Nat} {BB : Int} {E : DataW Unit} {G : List Int → Int} {ce N : Nat} (h : PI J BB E G ce N) (hE : IsMap E) {zs : List Int} (hg : good zs = true) (hl : zs.length = J) {k : List Int} (hk : raised zs = k) {cc v : Int} (hv : -BB ≤ v) (hv' : v ≤ BB) (hcc : E.atKey (klit k) (.lit (.int .i64 0)) = .lit (.int .i64 cc)) :
    (-(BB * (ce + 1 : Nat)) ≤ cc + v ∧ cc + v ≤ BB * (ce + 1 : Nat)) ∧ PI J BB (E.put (klit k) (.lit (.int .i64 (cc + v)))) (fun z => G z + if z = k then v else 0) (ce + 1) (N + 1) := by
  obtain ⟨S, h1, h2, h3, h4⟩ := h
  obtain ⟨hcc, hm⟩ := mapIs_bump (v := v) h1 hE (by rw [← hk]; exact fits_raised hg) hcc
  have e : BB * ((ce + 1 : Nat) : Int) = BB * ce + BB := by rw [show ((ce + 1 : Nat) : Int) = (ce : Int) + 1 from rfl, Int.mul_add, Int.mul_one]
  have hb := h3 k
  refine ⟨by rw [e, hcc]; constructor <;> omega, ⟨_, hm, ?_, fun z => ?_, by omega⟩⟩
  · intro a ha
    rcases List.mem_cons.1 ha with rfl | ha
    · exact ⟨zs, hg, hl, hk.symm⟩
    · exact h2 a ha
  · have hz := h3 z
    rw [e]
    dsimp only
    by_cases ez : z = k
    · rw [if_pos ez]; constructor <;> omega
    · rw [if_neg ez]; constructor <;> omega
theorem bb_le {BB : Int} {k MM : Nat} (h0 : 0 ≤ BB) (h : BB * MM ≤ 4000000000000000000) (hk : k ≤ MM) : BB * k ≤ 4000000000000000000 := by
  have := Int.mul_le_mul_of_nonneg_left (c := BB) (show (k : Int) ≤ MM by exact_mod_cast hk) h0
  omega

set_option maxRecDepth 100000 in
set_option maxHeartbeats 4000000 in
theorem product_any (b b' q q' M M' : Nat) (xs ys : List WRow) (B B' : Int) (f5 f3 f4 f6 : Nat) (ps : List (List Int)) (w : World) (hx : Cnt w b q M xs) (hy : Cnt w b' q' M' ys) (hmt : MatchAt w f5 f3 f4 f6 q q' ps) (hok : pairsOk ps q q' = true) (hjc : joinC q q' ps ≤ 6)
    (hMM : M * M' ≤ 1000000) (hB0 : 0 ≤ B) (hB0' : 0 ≤ B') (hBB : B * B' * (M * M' : Nat) ≤ 4000000000000000000) (hBs : B * B' ≤ 4000000000000000000) (bx : ∀ t ∈ xs, -B ≤ t.2 ∧ t.2 ≤ B) (cx : ∀ t ∈ ys, -B' ≤ t.2 ∧ t.2 ≤ B') :
    Calls Tryz.prog 75 #[.map (some b), .map (some b'), .func (.func 47) #[] #[.pointer (some ⟨f5, 0, none⟩), .pointer (some ⟨f3, 0, none⟩), .pointer (some ⟨f4, 0, none⟩), .pointer (some ⟨f6, 0, none⟩)]] w fun e w' => ∃ b3, e = .returned (.map (some b3)) ∧ w.heap.size ≤ b3 ∧ Cnt w' b3 (joinC q q' ps) (M * M') (joinW xs ys ps) ∧ Below w.heap.size w w' := by
  have lb := hx.lt
  have lb' := hy.lt
  obtain ⟨cnt, D, f, S, hown, hm, hS, hT, hcM⟩ := hx
  obtain ⟨cnt', D', f', S', hown', hm', hS', hT', hcM'⟩ := hy
  have hsz := hown.size_le
  have hsz' := hown'.size_le
  have hmm := @run_makeMap Tryz.prog
  obtain ⟨MM, hMe⟩ : ∃ MM, MM = M * M' := ⟨_, rfl⟩
  rw [← hMe] at hMM hBB ⊢
  have HMC : Hid (∀ k, k < cnt → k * cnt' + cnt' ≤ MM) := fun k hk => by
    rw [hMe]
    have h1 : (k + 1) * cnt' ≤ M * M' := Nat.mul_le_mul (by omega) hcM'
    rw [Nat.succ_mul] at h1
    exact h1
  have HMA : Hid (cnt * cnt' ≤ MM) := by show _ ≤ _; rw [hMe]; exact Nat.mul_le_mul hcM hcM'
  obtain ⟨BB, hBe⟩ : ∃ BB, BB = B * B' := ⟨_, rfl⟩
  have HBP : Hid (∀ x y : Int, -B ≤ x → x ≤ B → -B' ≤ y → y ≤ B' → -BB ≤ x * y ∧ x * y ≤ BB) := fun x y h1 h2 h3 h4 => by rw [hBe]; exact mul_in h1 h2 h3 h4
  have HB0 : Hid (0 ≤ BB) := by show _ ≤ _; rw [hBe]; exact Int.mul_nonneg hB0 hB0'
  rw [← hBe] at hBB hBs
  have HBB := Hid.mk hBB
  clear hMe hBe hBB
  obtain ⟨mj, hmj⟩ : ∃ mj, mj = mJ q q' ps := ⟨_, rfl⟩
  have HMJ := Hid.mk hmj
  clear hmj
  obtain ⟨J, hJ⟩ : ∃ J, J = joinC q q' ps := ⟨_, rfl⟩
  rw [← hJ]
  have HJ := Hid.mk hJ
  have HJC := Hid.mk hjc
  clear hJ hjc
  go_enter Tryz.func75, Tryz.ntmps75
  go_wp2_with (first | (at_range; refine wpList_range_own _ rfl _ 92 rfl 62 3 Tryz.keyedA Tryz.underlying92 _ b cnt D rfl (hown.alloc _) ?_; intro w0 hrg0 hg0 hs0) | go_in)
  go_frame
  have B0 : Below w.heap.size w w0 := ((Below.refl _ _).alloc (Nat.le_refl _) _).grown hg0 (by simp) (by simp)
  have ho0 : w0.ownsMap Tryz.prog 62 (plainElem Tryz.prog 3) w.heap.size 0 (.map [] : DataW Unit) := (World.ownsMap_made _ _ _ _).kept hg0 (by simp)
  simp only [World.size_alloc] at hrg0 hs0 ⊢
  go_loopw [9] (fun _ wr => ∃ (left : Lit → Bool) (c0 : Nat) (ks : List (List Int)) (E : DataW Unit) (ce : Nat), wr.ranges Tryz.prog 62 (plainElem Tryz.prog 3) b (w.heap.size + 1) cnt D left c0 ∧ Ran D left ks ∧ ks.length + c0 ≤ cnt ∧ wr.ownsMap Tryz.prog 62 (plainElem Tryz.prog 3) w.heap.size ce E ∧ PI J BB E (outK mj f ys ks) ce (ks.length * cnt') ∧ Below w.heap.size w wr) (fun _ wr => wr.rangeLeft b (w.heap.size + 1))
  case atStart => exact ⟨_, _, [], _, 0, hrg0, Ran.start D, by simpa using hsz, ho0, (PI.empty J BB).congr (fun _ => rfl) (by simp), B0⟩
  case round =>
    clear hrg0 hg0 hs0 B0 ho0 w0
    obtain ⟨left, c0, ks, E, ce, hrg, hR, hlen, ho, hpi, hbw⟩ := hrel
    go_wp2_with (first | (at_next; refine wpList_next_ranges _ rfl _ rfl 62 Tryz.keyedA (plainElem Tryz.prog 3) Six.val (Value.int .i64) (fun _ _ h => six_key h) (fun v y hv => by obtain ⟨c, rfl, _⟩ := plainElem_int_inv Tryz.underlying3 hv; exact ⟨c, rfl⟩) b (w.heap.size + 1) cnt D left c0 rfl hrg ?_ ?_) | go_in)
    · intro h00 hl0
      have hall : ∀ x, Fits x → (x ∈ ks ↔ x ∈ S) := fun x hx => hR.all hm hl0 hx
      have hK1 : Keys q ks := hS.of_sub fun x hx => (hall x (hR.fits x hx)).1 hx
      have HP2 : Hid (PI J BB E (outX mj xs ys) ce MM) := hpi.congr (fun z => outK_all hT hK1 hR.once (fun zs g1 g2 g3 => map_zero hm (fits_raised g1) (fun h => g3 ((hall _ (fits_raised g1)).2 h)))) (Nat.le_trans (Nat.mul_le_mul_right _ (by omega)) HMA.out)
      have HO := Hid.mk ho
      have HB := Hid.mk hbw
      clear hrg hpi ho hbw hl0 hR hall hK1
      go_wp2
      go_ret
      obtain ⟨S3, h1, h2, h3, h4⟩ := HP2.out
      rw [HMJ.out] at h1
      rw [HJ.out] at h2 ⊢
      exact ⟨w.heap.size, rfl, Nat.le_refl _, ⟨_, E, _, S3, HO.out, h1, h2, tells_prod hT hT', h4⟩, HB.out⟩
    · intro x0 x1 x2 x3 x4 x5 c kl yd yp wa cnt1 hkey hlk hv hat hrg1 hlt hg1 hs1 hen
      obtain ⟨zs, hfz, hvz, rfl⟩ := keyOf_arr_inv hkey
      obtain rfl : zs = [x0, x1, x2, x3, x4, x5] := (arrV_inj (by rw [← hvz]; rfl)).symm
      obtain ⟨ca, hca, hy', hwc⟩ := plainElem_int_inv Tryz.underlying3 hv
      obtain rfl : ca = c := by simpa using hca.symm
      have hyd : yd = .lit (.int .i64 ca) := by simpa using congrArg Prod.fst hy'
      have hfx : ca = f [x0, x1, x2, x3, x4, x5] := hm.at hfz (by rw [hat, hyd])
      have hhas : Maps.has D (klit [x0, x1, x2, x3, x4, x5]) = true := has_true_of_atKey hat
      obtain ⟨hst, hnot⟩ := hR.step hfz hlk hhas
      have hin : [x0, x1, x2, x3, x4, x5] ∈ S := of_decide_eq_true (((hm _ hfz).2).symm.trans hhas)
      have hlf := hrg.left_eq
      simp only [Six.val] at hen
      clear hat hv hlk hvz hca hy' hyd hhas hwc hkey
      have hbc := hT.key hS hB0 bx hin
      rw [← hfx] at hbc
      obtain ⟨zx, gx, lx, ex⟩ := hS _ hin
      have zr : w.heap.size + 1 < wa.heap.size := by rw [hs1]; exact hrg.lt
      have hbw1 : Below w.heap.size w wa := hbw.grown hg1 hbw.size (fun j hj => by cases hj; omega)
      have ho1 : wa.ownsMap Tryz.prog 62 (plainElem Tryz.prog 3) w.heap.size ce E := ho.kept hg1 (by simp <;> omega)
      have hkl : ks.length < cnt := by omega
      obtain ⟨P, hPe⟩ : ∃ P, P = ks.length * cnt' := ⟨_, rfl⟩
      have hPM : P + cnt' ≤ MM := by rw [hPe]; exact HMC.out _ hkl
      rw [← hPe] at hpi
      have HPE : Hid ((ks.length + 1) * cnt' = P + cnt') := by show _ = _; rw [hPe, Nat.succ_mul]
      have HKL : Hid (ks.length + 1 + cnt1 ≤ cnt) := by show _ ≤ _; omega
      have HST := Hid.mk hst
      have HFX := Hid.mk hfx
      have HLF := Hid.mk hlf
      have HLT := Hid.mk hlt
      have HEX := Hid.mk ex
      obtain ⟨V, hV⟩ : ∃ V, V = (wa.alloc (.cells #[.int .i64 x0, .int .i64 x1, .int .i64 x2, .int .i64 x3, .int .i64 x4, .int .i64 x5] 62)) := ⟨_, rfl⟩
      have cV : V.cell? ⟨wa.heap.size, 0, none⟩ = some (.int .i64 x0) ∧ V.cell? ⟨wa.heap.size, 1, none⟩ = some (.int .i64 x1) ∧ V.cell? ⟨wa.heap.size, 2, none⟩ = some (.int .i64 x2) ∧ V.cell? ⟨wa.heap.size, 3, none⟩ = some (.int .i64 x3) ∧ V.cell? ⟨wa.heap.size, 4, none⟩ = some (.int .i64 x4) ∧ V.cell? ⟨wa.heap.size, 5, none⟩ = some (.int .i64 x5) := by rw [hV]; simp
      have hbV : Below wa.heap.size wa V := by rw [hV]; exact (Below.refl _ _).alloc (Nat.le_refl _) _
      have BV := hbw1.trans (hbV.mono hbw1.size)
      have hrV := hrg1.kept (Below.toGrown hbV none) (by simp) (by simp)
      have hoV := ho1.kept (Below.toGrown hbV none) (by simp)
      have zV : V.heap.size = wa.heap.size + 1 := by rw [hV]; simp
      have hown2 : (wa.alloc (.cells #[.int .i64 x0, .int .i64 x1, .int .i64 x2, .int .i64 x3, .int .i64 x4, .int .i64 x5] 62)).ownsMap Tryz.prog 62 (plainElem Tryz.prog 3) b' cnt' D' := by rw [← hV]; exact hown'.kept (Below.toGrown BV none) (by simp)
      obtain ⟨R2, hR2⟩ : ∃ R2, R2 = V.heap.size := ⟨_, rfl⟩
      clear hst hfx hlf ex hrg hrg1 ho ho1 hbw hbw1 hg1 hs1 hbV hlen hR hPe hlt hin hnot hkl
      go_wp2_with (first | (at_range; refine wpList_range_own _ rfl _ 92 rfl 62 3 Tryz.keyedA Tryz.underlying92 _ b' cnt' D' rfl (hown2) ?_; intro w0 hrg0 hg0 hs0) | go_in)
      go_frame
      rw [← hV] at hrg0 hg0 hs0 ⊢
      rw [← hR2] at hrg0 hs0 ⊢
      clear hV hown2 hen
      have B0 : Below w.heap.size w w0 := BV.grown hg0 BV.size (by simp)
      have ho0 := hoV.kept hg0 (by simp)
      have hr0 := hrV.kept hg0 (by simp) (by simp)
      have cx0 := six_grown hg0 (by simp) cV
      have zR2 : wa.heap.size < R2 := by omega
      clear hR2 zV BV hoV hrV cV hg0 V
      obtain ⟨leftA, hlA⟩ : ∃ l, l = (fun z => left z && !z.sameKey (klit [x0, x1, x2, x3, x4, x5])) := ⟨_, rfl⟩
      have HLA := Hid.mk hlA
      have cntA := cnt1
      go_loopw [11] (fun _ wr => ∃ (left : Lit → Bool) (c0 : Nat) (ks2 : List (List Int)) (E : DataW Unit) (ce : Nat), wr.ranges Tryz.prog 62 (plainElem Tryz.prog 3) b' R2 cnt' D' left c0 ∧ Ran D' left ks2 ∧ ks2.length + c0 ≤ cnt' ∧ wr.ranges Tryz.prog 62 (plainElem Tryz.prog 3) b (w.heap.size + 1) cnt D leftA cnt1 ∧ wr.ownsMap Tryz.prog 62 (plainElem Tryz.prog 3) w.heap.size ce E ∧ PI J BB E (fun z => outK mj f ys ks z + ca * inK mj f' [x0, x1, x2, x3, x4, x5] ks2 z) ce (P + ks2.length) ∧ (wr.cell? ⟨wa.heap.size, 0, none⟩ = some (.int .i64 x0) ∧ wr.cell? ⟨wa.heap.size, 1, none⟩ = some (.int .i64 x1) ∧ wr.cell? ⟨wa.heap.size, 2, none⟩ = some (.int .i64 x2) ∧ wr.cell? ⟨wa.heap.size, 3, none⟩ = some (.int .i64 x3) ∧ wr.cell? ⟨wa.heap.size, 4, none⟩ = some (.int .i64 x4) ∧ wr.cell? ⟨wa.heap.size, 5, none⟩ = some (.int .i64 x5)) ∧ Below w.heap.size w wr) (fun _ wr => wr.rangeLeft b' R2)
      case atStart => exact ⟨_, _, [], E, ce, hrg0, Ran.start D', by simpa using hsz', by rw [HLA.out]; exact hr0, ho0, hpi.congr (fun z => by rw [inK_nil, Int.mul_zero, Int.add_zero]) (Nat.le_add_right _ _), cx0, B0⟩

      case round =>
        clear hrg0 hs0 B0 ho0 hr0 hpi cx0 w0 E
        obtain ⟨left2, c0, ks2, E, ce2, hrg, hR, hlen, hrA, ho, hpi, cx1, hbw⟩ := hrel
        go_wp2_with (first | (at_next; refine wpList_next_ranges _ rfl _ rfl 62 Tryz.keyedA (plainElem Tryz.prog 3) Six.val (Value.int .i64) (fun _ _ h => six_key h) (fun v y hv => by obtain ⟨c, rfl, _⟩ := plainElem_int_inv Tryz.underlying3 hv; exact ⟨c, rfl⟩) b' R2 cnt' D' left2 c0 rfl hrg ?_ ?_) | go_in)
        · intro h00 hl0
          have hall2 : ∀ x, Fits x → (x ∈ ks2 ↔ x ∈ S') := fun x hx => hR.all hm' hl0 hx
          have hK2 : Keys q' ks2 := hS'.of_sub fun x hx => (hall2 x (hR.fits x hx)).1 hx
          have HP2 : Hid (PI J BB E (outK mj f ys ([x0, x1, x2, x3, x4, x5] :: ks)) ce2 ((ks.length + 1) * cnt')) := hpi.congr (fun z => by rw [outK_cons, inK_all hT' hK2 hR.once (fun zs g1 g2 g3 => map_zero hm' (fits_raised g1) (fun h => g3 ((hall2 _ (fits_raised g1)).2 h))), HFX.out]; omega) (by rw [HPE.out]; omega)
          have HO := Hid.mk ho
          have HB := Hid.mk hbw
          have HRA := Hid.mk hrA
          clear hrg hpi ho hbw hl0 hR hall2 hK2 hrA cx1
          go_wp2
          go_roundw
          case rel => exact ⟨_, cnt1, [x0, x1, x2, x3, x4, x5] :: ks, E, ce2, HRA.out, by rw [HLA.out]; exact HST.out, by simp; have := HKL.out; omega, HO.out, by simpa using HP2.out, HB.out⟩
          case measure => rw [HRA.out.left_eq, HLF.out]; exact HLT.out
        · intro y0 y1 y2 y3 y4 y5 c kl yd yp w1 cnt2 hkey hlk hv hat hrg1 hlt hg1 hs1 hen
          obtain ⟨zs, hfz, hvz, rfl⟩ := keyOf_arr_inv hkey
          obtain rfl : zs = [y0, y1, y2, y3, y4, y5] := (arrV_inj (by rw [← hvz]; rfl)).symm
          obtain ⟨c', hc', hy', hwc⟩ := plainElem_int_inv Tryz.underlying3 hv
          obtain rfl : c' = c := by simpa using hc'.symm
          have hyd : yd = .lit (.int .i64 c') := by simpa using congrArg Prod.fst hy'
          have hfx : c' = f' [y0, y1, y2, y3, y4, y5] := hm'.at hfz (by rw [hat, hyd])
          have hhas : Maps.has D' (klit [y0, y1, y2, y3, y4, y5]) = true := has_true_of_atKey hat
          obtain ⟨hst, hnot⟩ := hR.step hfz hlk hhas
          have hin : [y0, y1, y2, y3, y4, y5] ∈ S' := of_decide_eq_true (((hm' _ hfz).2).symm.trans hhas)
          have hlf := hrg.left_eq
          simp only [Six.val] at hen
          clear hat hv hlk hvz hc' hy' hyd hhas hwc hkey
          have hbd := hT'.key hS' hB0' cx hin
          rw [← hfx] at hbd
          obtain ⟨zy, gy, ly, ey⟩ := hS' _ hin
          have zr2 : R2 < w1.heap.size := by rw [hs1]; exact hrg.lt
          have hbw1 : Below w.heap.size w w1 := hbw.grown hg1 hbw.size (fun j hj => by cases hj; omega)
          have ho1 : w1.ownsMap Tryz.prog 62 (plainElem Tryz.prog 3) w.heap.size ce2 E := ho.kept hg1 (by simp <;> omega)
          have hrA1 := hrA.kept hg1 (by simp <;> omega) (by simp <;> omega)
          have cx2 := six_grown hg1 (by simp <;> omega) cx1
          have HST2 := Hid.mk hst
          have HFY := Hid.mk hfx
          have HLF2 := Hid.mk hlf
          have HLT2 := Hid.mk hlt
          have HEY := Hid.mk ey
          have HLN : Hid (ks2.length + 1 + cnt2 ≤ cnt') := by show _ ≤ _; omega
          have HCE : Hid (ce2 + 1 ≤ MM) := by
            obtain ⟨_, _, _, _, h4⟩ := hpi
            show _ ≤ _
            omega
          obtain ⟨V, hV⟩ : ∃ V, V = (w1.alloc (.cells #[.int .i64 y0, .int .i64 y1, .int .i64 y2, .int .i64 y3, .int .i64 y4, .int .i64 y5] 62)) := ⟨_, rfl⟩
          have hbV : Below w1.heap.size w1 V := by rw [hV]; exact (Below.refl _ _).alloc (Nat.le_refl _) _
          have BV := hbw1.trans (hbV.mono hbw1.size)
          obtain ⟨k0, k1, k2, k3, k4, k5⟩ := six_later (w' := (w1.alloc (.cells #[.int .i64 y0, .int .i64 y1, .int .i64 y2, .int .i64 y3, .int .i64 y4, .int .i64 y5] 62))) ((Below.refl _ _).alloc (Nat.le_refl _) _) cx2
          have cxV := six_later hbV cx2
          have hrV := hrg1.kept (Below.toGrown hbV none) (by simp) (by simp)
          have hrAV := hrA1.kept (Below.toGrown hbV none) (by simp) (by simp)
          have hoV := ho1.kept (Below.toGrown hbV none) (by simp)
          have HMV := Hid.mk (hmt.below BV)
          have HMJ2 : Hid (mj [x0, x1, x2, x3, x4, x5] [y0, y1, y2, y3, y4, y5] = if joinOk zx zy ps = true then some (raised (joinZ zx zy (side ps 1))) else none) := by
            show _ = _
            rw [HMJ.out, HEX.out, HEY.out, mJ_raised lx ly]
          clear hst hfx hlf ey hrg hrg1 ho ho1 hbw hbw1 hg1 hs1 hbV hlen hR hlt hin hnot hrA hrA1 cx1 cx2
          cases hjo : joinOk zx zy ps with
          | false =>
            have HJO := Hid.mk hjo
            clear hjo
            go_wp2_with (go_at_call 47; rw [← hV]; refine (joinK_any f5 f3 f4 f6 q q' ps zx zy x0 x1 x2 x3 x4 x5 y0 y1 y2 y3 y4 y5 _ HMV.out gx gy lx ly hok HJC.out HEX.out.symm HEY.out.symm).mono ?_; rintro e w3 ⟨z0, z1, z2, z3, z4, z5, rfl, hz3, hb3⟩; rw [HJO.out])
            clear hz3
            have hbL : Below w3.heap.size w3 (w3.alloc (.cells #[.int .i64 z0, .int .i64 z1, .int .i64 z2, .int .i64 z3, .int .i64 z4, .int .i64 z5] 62)) := (Below.refl _ _).alloc (Nat.le_refl _) _
            have hb4 := hb3.trans (hbL.mono hb3.size)
            have HN2 : Hid (mj [x0, x1, x2, x3, x4, x5] [y0, y1, y2, y3, y4, y5] = none) := by show _ = _; rw [HMJ2.out, HJO.out]; rfl
            have HRV := Hid.mk (hrV.kept (Below.toGrown hb4 none) (by simp) (by simp))
            have HRA := Hid.mk (hrAV.kept (Below.toGrown hb4 none) (by simp) (by simp))
            have HOV := Hid.mk (hoV.kept (Below.toGrown hb4 none) (by simp))
            have HCX := Hid.mk (six_later hb4 cxV)
            have HB4 := Hid.mk (BV.trans (hb4.mono BV.size))
            clear hb3 hbL hb4 hrV hrAV hoV cxV BV k0 k1 k2 k3 k4 k5 hV hen
            go_wp2
            go_roundw
            case rel => exact ⟨_, cnt2, [y0, y1, y2, y3, y4, y5] :: ks2, E, ce2, HRV.out, HST2.out, by simp; have := HLN.out; omega, HRA.out, HOV.out, hpi.congr (fun z => by rw [inK_none HN2.out]) (by simp), HCX.out, HB4.out⟩
            case measure => rw [HRV.out.left_eq, HLF2.out]; exact HLT2.out
          | true =>
            have HJO := Hid.mk hjo
            clear hjo
            have HJZ : Hid ((joinZ zx zy (side ps 1)).length ≤ 6) := by
              have := HJO.out
              simp only [joinOk, Bool.and_eq_true, decide_eq_true_eq] at this
              exact this.2
            have HGZ : Hid (good (joinZ zx zy (side ps 1)) = true) := by show _ = _; rw [good_joinZ gx gy, decide_eq_true HJZ.out]
            have HLZ : Hid ((joinZ zx zy (side ps 1)).length = J) := by show _ = _; rw [joinZ_len, lx, ly, HJ.out]; simp [joinC]
            obtain ⟨v, hv⟩ : ∃ v, v = ca * c' := ⟨_, rfl⟩
            have HVE := Hid.mk hv
            have hv2 := HBP.out ca c' hbc.1 hbc.2 hbd.1 hbd.2
            rw [← hv] at hv2
            have hmul : IntKind.i64.wrap (ca * c') = v := by rw [← hv]; exact IntWalk.i64_in _ (by omega)
            have hbl := bb_le HB0.out HBB.out HCE.out
            clear hv
            go_wp2_with (go_at_call 47; rw [← hV]; refine (joinK_any f5 f3 f4 f6 q q' ps zx zy x0 x1 x2 x3 x4 x5 y0 y1 y2 y3 y4 y5 _ HMV.out gx gy lx ly hok HJC.out HEX.out.symm HEY.out.symm).mono ?_; rintro e w3 ⟨z0, z1, z2, z3, z4, z5, rfl, hz3, hb3⟩; rw [HJO.out])
            have hz4 := hz3 HJO.out
            clear hz3
            obtain ⟨U, hU⟩ : ∃ U, U = w3.alloc (.cells #[.int .i64 z0, .int .i64 z1, .int .i64 z2, .int .i64 z3, .int .i64 z4, .int .i64 z5] 62) := ⟨_, rfl⟩
            rw [← hU]
            have cU : U.cell? ⟨w3.heap.size, 0, none⟩ = some (.int .i64 z0) ∧ U.cell? ⟨w3.heap.size, 1, none⟩ = some (.int .i64 z1) ∧ U.cell? ⟨w3.heap.size, 2, none⟩ = some (.int .i64 z2) ∧ U.cell? ⟨w3.heap.size, 3, none⟩ = some (.int .i64 z3) ∧ U.cell? ⟨w3.heap.size, 4, none⟩ = some (.int .i64 z4) ∧ U.cell? ⟨w3.heap.size, 5, none⟩ = some (.int .i64 z5) := by rw [hU]; simp
            have hbU : Below w3.heap.size w3 U := by rw [hU]; exact (Below.refl _ _).alloc (Nat.le_refl _) _
            have hb4 := hb3.trans (hbU.mono hb3.size)
            clear hU
            have hoU := (hoV.kept (Below.toGrown hb4 none) (by simp)).drew
            have cD := six_later (Below.refl U.heap.size U).drew cU
            have hfz2 : Fits [z0, z1, z2, z3, z4, z5] := by rw [← hz4]; exact fits_raised HGZ.out
            have hkey : keyOf Tryz.prog 62 (.agg #[.int .i64 z0, .int .i64 z1, .int .i64 z2, .int .i64 z3, .int .i64 z4, .int .i64 z5]) = some (klit [z0, z1, z2, z3, z4, z5]) := keyOf_arr _ hfz2
            have HS2 : Hid (mj [x0, x1, x2, x3, x4, x5] [y0, y1, y2, y3, y4, y5] = some [z0, z1, z2, z3, z4, z5]) := by show _ = _; rw [HMJ2.out, if_pos HJO.out, hz4]
            have zz3 : w.heap.size < w3.heap.size := by have h1 := hb3.size; have h2 := World.block_lt_of_cell? _ _ cxV.1; simp only at h2; omega
            obtain ⟨cc, hlk, hat, hent⟩ := bump Tryz.arrKey.law Tryz.underlying92 Tryz.underlying3 Tryz.zeroInt hoU (by unfold maxLen; have := HCE.out; omega) hkey
            obtain ⟨hin2, hpi2⟩ := hpi.bump (v := v) hoU.isMap HGZ.out HLZ.out hz4 hv2.1 hv2.2 hat
            have hadd : IntKind.i64.wrap (cc + v) = cc + v := IntWalk.i64_in _ (by omega)
            obtain ⟨v0, st, W1, W2, hmn, hlk1, hst1, hoW2, hgW1, hgW2⟩ := hent (cc + v) (wf_i64 (by omega) (by omega))
            have c1 := six_grown hgW1 (by simp <;> omega) cD
            have c2 := six_grown hgW2 (by simp <;> omega) cD
            have HP2 : Hid (PI J BB (E.put (klit [z0, z1, z2, z3, z4, z5]) (.lit (.int .i64 (cc + v)))) (fun z => outK mj f ys ks z + ca * inK mj f' [x0, x1, x2, x3, x4, x5] ([y0, y1, y2, y3, y4, y5] :: ks2) z) (ce2 + 1) (P + ks2.length + 1)) := hpi2.congr (fun z => by
              rw [inK_some HS2.out, ← HFY.out, Int.mul_add]
              by_cases e : z = [z0, z1, z2, z3, z4, z5]
              · rw [if_pos e, if_pos e, HVE.out]; omega
              · rw [if_neg e, if_neg e]; omega) (Nat.le_refl _)
            have hgV : V.grownBy W2 (some w.heap.size) := grown_trans (Below.toGrown hb4 _) (grown_drew hgW2)
            have HR2 := Hid.mk (hrV.kept hgV (by simp <;> omega) (by simp <;> omega))
            have HRA2 := Hid.mk (hrAV.kept hgV (by simp <;> omega) (by simp <;> omega))
            have HCX2 := Hid.mk (six_grown hgV (by simp <;> omega) cxV)
            have HO2 := Hid.mk hoW2
            have HB2 := Hid.mk (BV.grown hgV BV.size (fun j hj => by cases hj; exact Nat.le_refl _))
            clear hb3 hbU hb4 hoU hrV hrAV hoV cxV BV k0 k1 k2 k3 k4 k5 hV hen hgV hgW1 hgW2 hoW2 hpi hpi2 hat hent hbl hv2 hin2 hz4 hfz2

            refine wp_region_held_drew (S := fun w' => w'.cell? ⟨w3.heap.size, 0, none⟩ = some (.int .i64 z0) ∧ w'.cell? ⟨w3.heap.size, 1, none⟩ = some (.int .i64 z1) ∧ w'.cell? ⟨w3.heap.size, 2, none⟩ = some (.int .i64 z2) ∧ w'.cell? ⟨w3.heap.size, 3, none⟩ = some (.int .i64 z3) ∧ w'.cell? ⟨w3.heap.size, 4, none⟩ = some (.int .i64 z4) ∧ w'.cell? ⟨w3.heap.size, 5, none⟩ = some (.int .i64 z5)) (by kernel_rfl) ?_ (fun hHeld => ?_)
            · (try dsimp only)
              exact ⟨cU.1, cU.2.1, cU.2.2.1, cU.2.2.2.1, cU.2.2.2.2.1, cU.2.2.2.2.2⟩
            refine wpAnyH_take (i := 0) (oi := ?_) (v := ?_) ?_ (by kernel_rfl) (by kernel_rfl) (by kernel_rfl) ?_ (Or.inl ⟨?_, ?_⟩) (by assumption) ?_
            rotate_left 2
            · (simp only [List.getElem?_toArray, List.getElem?_cons_zero]; rfl)
            · exact fun _ _ _ h => h
            · rfl
            · (intro wS hSw; (try dsimp only at hSw); go_simp; (try with_reducible rfl))
            (try simp only [Act.put, List.setIfInBounds_toArray, List.set_cons_zero, List.set_cons_succ])
            refine wpAnyH_take (i := 1) (oi := ?_) (v := ?_) ?_ (by kernel_rfl) (by kernel_rfl) (by kernel_rfl) ?_ (Or.inl ⟨?_, ?_⟩) (by assumption) ?_
            rotate_left 2
            · (simp only [List.getElem?_toArray, List.getElem?_cons_zero, List.getElem?_cons_succ]; rfl)
            · exact fun _ _ _ h => h
            · rfl
            · (intro wS hSw; (try dsimp only at hSw); go_simp; (try with_reducible rfl))
            (try simp only [Act.put, List.setIfInBounds_toArray, List.set_cons_zero, List.set_cons_succ])
            refine wpAnyH_take (i := 3) (oi := ?_) (v := ?_) ?_ (by kernel_rfl) (by kernel_rfl) (by kernel_rfl) ?_ (Or.inl ⟨?_, ?_⟩) (by assumption) ?_
            rotate_left 2
            · (simp only [List.getElem?_toArray, List.getElem?_cons_zero, List.getElem?_cons_succ]; rfl)
            · exact fun _ _ _ h => h
            · rfl
            · (intro wS hSw; (try dsimp only at hSw); go_simp; (try with_reducible rfl))
            (try simp only [Act.put, List.setIfInBounds_toArray, List.set_cons_zero, List.set_cons_succ])
            refine wpAnyH_take (i := 4) (oi := ?_) (v := ?_) ?_ (by kernel_rfl) (by kernel_rfl) (by kernel_rfl) ?_ (Or.inl ⟨?_, ?_⟩) (by assumption) ?_
            rotate_left 2
            · (simp only [List.getElem?_toArray, List.getElem?_cons_zero, List.getElem?_cons_succ]; rfl)
            · exact fun _ _ _ h => h
            · rfl
            · (intro wS hSw; (try dsimp only at hSw); go_simp; (try with_reducible rfl))
            (try simp only [Act.put, List.setIfInBounds_toArray, List.set_cons_zero, List.set_cons_succ])
            refine wpAnyH_take (i := 5) (oi := ?_) (v := ?_) ?_ (by kernel_rfl) (by kernel_rfl) (by kernel_rfl) ?_ (Or.inl ⟨?_, ?_⟩) (by assumption) ?_
            rotate_left 2
            · (simp only [List.getElem?_toArray, List.getElem?_cons_zero, List.getElem?_cons_succ]; rfl)
            · exact fun _ _ _ h => h
            · rfl
            · (intro wS hSw; (try dsimp only at hSw); go_simp; (try with_reducible rfl))
            (try simp only [Act.put, List.setIfInBounds_toArray, List.set_cons_zero, List.set_cons_succ])
            refine wpAnyH_ready (rs := [2, 7]) (by kernel_rfl) (by simp) ?_
            refine AllReadyH.cons (o := ?_) ?_ (fun K hK => ?_) ?_
            rotate_left
            · (simp only [List.getElem?_toArray, List.getElem?_cons_zero, List.getElem?_cons_succ]; rfl)
            · go_simp
              (try go_wp2_with fail)
              refine hK.out _ _ ?_ (fun hHeld' => ?_)
              · (try dsimp only)
                exact ⟨cD.1, cD.2.1, cD.2.2.1, cD.2.2.2.1, cD.2.2.2.2.1, cD.2.2.2.2.2⟩
              clear hK K hHeld
              have hHeld := hHeld'
              clear hHeld'
              (try simp only [Act.put, List.setIfInBounds_toArray, List.set_cons_zero, List.set_cons_succ])
              refine wpAnyH_take (i := 6) (oi := ?_) (v := ?_) ?_ (by kernel_rfl) (by kernel_rfl) (by kernel_rfl) ?_ (Or.inl ⟨?_, ?_⟩) (by assumption) ?_
              rotate_left 2
              · (simp only [List.getElem?_toArray, List.getElem?_cons_zero, List.getElem?_cons_succ]; rfl)
              · exact fun _ _ _ h => h
              · rfl
              · (intro wS hSw; (try dsimp only at hSw); go_simp; (try with_reducible rfl))
              (try simp only [Act.put, List.setIfInBounds_toArray, List.set_cons_zero, List.set_cons_succ])
              refine wpAnyH_ready (rs := [7]) (by kernel_rfl) (by simp) ?_
              refine AllReadyH.cons (o := ?_) ?_ (fun K hK => ?_) AllReadyH.nil
              rotate_left
              · (simp only [List.getElem?_toArray, List.getElem?_cons_zero, List.getElem?_cons_succ]; rfl)
              go_simp
              skip
              (try go_wp2_with fail)
              refine hK.out _ _ ?_ (fun hHeld' => ?_)
              · (try dsimp only)
                exact ⟨c1.1, c1.2.1, c1.2.2.1, c1.2.2.2.1, c1.2.2.2.2.1, c1.2.2.2.2.2⟩
              clear hK K hHeld
              have hHeld := hHeld'
              clear hHeld'
              (try simp only [Act.put, List.setIfInBounds_toArray, List.set_cons_zero, List.set_cons_succ])
              refine wpAnyH_take (i := 8) (oi := ?_) (v := ?_) ?_ (by kernel_rfl) (by kernel_rfl) (by kernel_rfl) ?_ (Or.inl ⟨?_, ?_⟩) (by assumption) ?_
              rotate_left 2
              · (simp only [List.getElem?_toArray, List.getElem?_cons_zero, List.getElem?_cons_succ]; rfl)
              · exact fun _ _ _ h => h
              · rfl
              · (intro wS hSw; (try dsimp only at hSw); go_simp; (try with_reducible rfl))
              (try simp only [Act.put, List.setIfInBounds_toArray, List.set_cons_zero, List.set_cons_succ])
              refine wpAnyH_ready (rs := [9]) (by kernel_rfl) (by simp) ?_
              refine AllReadyH.cons (o := ?_) ?_ (fun K hK => ?_) AllReadyH.nil
              rotate_left
              · (simp only [List.getElem?_toArray, List.getElem?_cons_zero, List.getElem?_cons_succ]; rfl)
              go_simp
              skip
              (try go_wp2_with fail)
              refine hK.out _ _ ?_ (fun hHeld' => ?_)
              · (try dsimp only)
                exact ⟨c2.1, c2.2.1, c2.2.2.1, c2.2.2.2.1, c2.2.2.2.2.1, c2.2.2.2.2.2⟩
              clear hK K hHeld
              have hHeld := hHeld'
              clear hHeld'
              (try simp only [Act.put, List.setIfInBounds_toArray, List.set_cons_zero, List.set_cons_succ])
              refine wpAnyH_done (by kernel_rfl) ?_ _
              clear c1 c2 cD cU hkey hlk hmn hlk1 hst1 hHeld hmul hadd
              go_wp2
              go_roundw
              case rel => exact ⟨_, cnt2, [y0, y1, y2, y3, y4, y5] :: ks2, _, ce2 + 1, HR2.out, HST2.out, by simp; have := HLN.out; omega, HRA2.out, HO2.out, by simpa [Nat.add_assoc] using HP2.out, HCX2.out, HB2.out⟩
              case measure => rw [HR2.out.left_eq, HLF2.out]; exact HLT2.out
            refine AllReadyH.cons (o := ?_) ?_ (fun K hK => ?_) AllReadyH.nil
            rotate_left
            · (simp only [List.getElem?_toArray, List.getElem?_cons_zero, List.getElem?_cons_succ]; rfl)
            · go_simp
              (try go_wp2_with fail)
              refine hK.out _ _ ?_ (fun hHeld' => ?_)
              · (try dsimp only)
                exact ⟨c1.1, c1.2.1, c1.2.2.1, c1.2.2.2.1, c1.2.2.2.2.1, c1.2.2.2.2.2⟩
              clear hK K hHeld
              have hHeld := hHeld'
              clear hHeld'
              (try simp only [Act.put, List.setIfInBounds_toArray, List.set_cons_zero, List.set_cons_succ])
              refine wpAnyH_take (i := 8) (oi := ?_) (v := ?_) ?_ (by kernel_rfl) (by kernel_rfl) (by kernel_rfl) ?_ (Or.inl ⟨?_, ?_⟩) (by assumption) ?_
              rotate_left 2
              · (simp only [List.getElem?_toArray, List.getElem?_cons_zero, List.getElem?_cons_succ]; rfl)
              · exact fun _ _ _ h => h
              · rfl
              · (intro wS hSw; (try dsimp only at hSw); go_simp; (try with_reducible rfl))
              (try simp only [Act.put, List.setIfInBounds_toArray, List.set_cons_zero, List.set_cons_succ])
              refine wpAnyH_ready (rs := [2]) (by kernel_rfl) (by simp) ?_
              refine AllReadyH.cons (o := ?_) ?_ (fun K hK => ?_) AllReadyH.nil
              rotate_left
              · (simp only [List.getElem?_toArray, List.getElem?_cons_zero, List.getElem?_cons_succ]; rfl)
              go_simp
              skip
              (try go_wp2_with fail)
              refine hK.out _ _ ?_ (fun hHeld' => ?_)
              · (try dsimp only)
                exact ⟨c1.1, c1.2.1, c1.2.2.1, c1.2.2.2.1, c1.2.2.2.2.1, c1.2.2.2.2.2⟩
              clear hK K hHeld
              have hHeld := hHeld'
              clear hHeld'
              (try simp only [Act.put, List.setIfInBounds_toArray, List.set_cons_zero, List.set_cons_succ])
              refine wpAnyH_take (i := 6) (oi := ?_) (v := ?_) ?_ (by kernel_rfl) (by kernel_rfl) (by kernel_rfl) ?_ (Or.inl ⟨?_, ?_⟩) (by assumption) ?_
              rotate_left 2
              · (simp only [List.getElem?_toArray, List.getElem?_cons_zero, List.getElem?_cons_succ]; rfl)
              · exact fun _ _ _ h => h
              · rfl
              · (intro wS hSw; (try dsimp only at hSw); go_simp; (try with_reducible rfl))
              (try simp only [Act.put, List.setIfInBounds_toArray, List.set_cons_zero, List.set_cons_succ])
              refine wpAnyH_ready (rs := [9]) (by kernel_rfl) (by simp) ?_
              refine AllReadyH.cons (o := ?_) ?_ (fun K hK => ?_) AllReadyH.nil
              rotate_left
              · (simp only [List.getElem?_toArray, List.getElem?_cons_zero, List.getElem?_cons_succ]; rfl)
              go_simp
              skip
              (try go_wp2_with fail)
              refine hK.out _ _ ?_ (fun hHeld' => ?_)
              · (try dsimp only)
                exact ⟨c2.1, c2.2.1, c2.2.2.1, c2.2.2.2.1, c2.2.2.2.2.1, c2.2.2.2.2.2⟩
              clear hK K hHeld
              have hHeld := hHeld'
              clear hHeld'
              (try simp only [Act.put, List.setIfInBounds_toArray, List.set_cons_zero, List.set_cons_succ])
              refine wpAnyH_done (by kernel_rfl) ?_ _
              clear c1 c2 cD cU hkey hlk hmn hlk1 hst1 hHeld hmul hadd
              go_wp2
              go_roundw
              case rel => exact ⟨_, cnt2, [y0, y1, y2, y3, y4, y5] :: ks2, _, ce2 + 1, HR2.out, HST2.out, by simp; have := HLN.out; omega, HRA2.out, HO2.out, by simpa [Nat.add_assoc] using HP2.out, HCX2.out, HB2.out⟩
              case measure => rw [HR2.out.left_eq, HLF2.out]; exact HLT2.out

end Go.Proofs.YtlfljfmhhnoinabGreat

/- Contract of impl.productDelta. -/
namespace Go.Proofs.YtlfljfmhhnoinabGreat
open Go.RowKit Go.Maps

/-- The change of a join. -/
def jdW (xs ys dxs dys : List WRow) (ps : List (List Int)) : List WRow := putAll (putAll (joinW dxs ys ps) (joinW xs dys ps)) (joinW dxs dys ps)

set_option maxRecDepth 100000 in
set_option maxHeartbeats 4000000 in
theorem productDelta_any (b1 b2 b3 b4 q q' M D : Nat) (xs ys dxs dys : List WRow) (B C : Int) (f5 f3 f4 f6 : Nat) (ps : List (List Int)) (w : World) (hx : Cnt w b1 q M xs) (hy : Cnt w b2 q' M ys) (hdx : Cnt w b3 q D dxs) (hdy : Cnt w b4 q' D dys)
    (lx : Lst q M B xs) (ly : Lst q' M B ys) (ldx : Lst q D C dxs) (ldy : Lst q' D C dys) (hmt : MatchAt w f5 f3 f4 f6 q q' ps) (hok : pairsOk ps q q' = true) (hjc : joinC q q' ps ≤ 6)
    (hN : D * M + M * D + D * D ≤ 1000000) (hB0 : 0 ≤ B) (hC0 : 0 ≤ C) (h1 : C * B * (D * M : Nat) ≤ 1000000000000000000) (h2 : B * C * (M * D : Nat) ≤ 1000000000000000000) (h3 : C * C * (D * D : Nat) ≤ 1000000000000000000) (h4 : C * B ≤ 4000000000000000000) (h5 : B * C ≤ 4000000000000000000) (h6 : C * C ≤ 4000000000000000000) :
    Calls Tryz.prog 55 #[.map (some b1), .map (some b2), .map (some b3), .map (some b4), .func (.func 47) #[] #[.pointer (some ⟨f5, 0, none⟩), .pointer (some ⟨f3, 0, none⟩), .pointer (some ⟨f4, 0, none⟩), .pointer (some ⟨f6, 0, none⟩)]] w fun e w' => ∃ b, e = .returned (.map (some b)) ∧ w.heap.size ≤ b ∧ Cnt w' b (joinC q q' ps) (D * M + M * D + D * D) (jdW xs ys dxs dys ps) ∧ Below w.heap.size w w' := by
  have L1 := Hid.mk (lst_join (ps := ps) ldx ly hC0 hB0)
  have L2 := Hid.mk (lst_join (ps := ps) lx ldy hB0 hC0)
  have L3 := Hid.mk (lst_join (ps := ps) ldx ldy hC0 hC0)
  have n1 := Int.mul_nonneg (Int.mul_nonneg hC0 hB0) (show (0 : Int) ≤ (D * M : Nat) from Int.natCast_nonneg _)
  have n2 := Int.mul_nonneg (Int.mul_nonneg hB0 hC0) (show (0 : Int) ≤ (M * D : Nat) from Int.natCast_nonneg _)
  have n3 := Int.mul_nonneg (Int.mul_nonneg hC0 hC0) (show (0 : Int) ≤ (D * D : Nat) from Int.natCast_nonneg _)
  go_enter Tryz.func55, Tryz.ntmps55
  go_wp2_with fail
  refine (product_any b3 b2 q q' D M dxs ys C B f5 f3 f4 f6 ps _ hdx hy hmt hok hjc (by omega) hC0 hB0 (by omega) h4 ldx.within ly.within).mono ?_
  rintro e w1 ⟨k1, rfl, hk1, hc1, hb1⟩
  replace hx := hx.below hb1
  replace hdx := hdx.below hb1
  replace hdy := hdy.below hb1
  replace hmt := hmt.below hb1
  have B1 := hb1
  clear hy hb1
  go_wp2_with fail
  refine (product_any b1 b4 q q' M D xs dys B C f5 f3 f4 f6 ps _ hx hdy hmt hok hjc (by omega) hB0 hC0 (by omega) h5 lx.within ldy.within).mono ?_
  rintro e w2 ⟨k2, rfl, hk2, hc2, hb2⟩
  replace hdx := hdx.below hb2
  replace hdy := hdy.below hb2
  replace hmt := hmt.below hb2
  replace hc1 := hc1.below hb2
  have B2 := B1.trans (hb2.mono B1.size)
  clear hx hb2
  go_wp2_with fail
  refine (plus_any k1 k2 (joinC q q' ps) _ _ _ _ _ _ _ hc1 hc2 (by omega) n1 n2 (by omega) L1.out.within L2.out.within).mono ?_
  rintro e w3 ⟨k3, rfl, hk3, hc3, hb3⟩
  replace hdx := hdx.below hb3
  replace hdy := hdy.below hb3
  replace hmt := hmt.below hb3
  have B3 := B2.trans (hb3.mono B2.size)
  clear hc1 hc2 hb3
  go_wp2_with fail
  refine (product_any b3 b4 q q' D D dxs dys C C f5 f3 f4 f6 ps _ hdx hdy hmt hok hjc (by omega) hC0 hC0 (by omega) h6 ldx.within ldy.within).mono ?_
  rintro e w4 ⟨k4, rfl, hk4, hc4, hb4⟩
  replace hc3 := hc3.below hb4
  have B4 := B3.trans (hb4.mono B3.size)
  clear hb4
  go_wp2_with fail
  refine (plus_any k3 k4 (joinC q q' ps) _ _ _ _ _ _ _ hc3 hc4 (by omega) (show 0 ≤ C * B * (D * M : Nat) + B * C * (M * D : Nat) by omega) n3 (by omega) (L1.out.put L2.out n1 n2).within L3.out.within).mono ?_
  rintro e w5 ⟨k5, rfl, hk5, hc5, hb5⟩
  have z4 := B4.size
  have B5 := B4.trans (hb5.mono B4.size)
  have HC := Hid.mk hc5
  clear hc5 hc4 hc3 hdx hdy hmt
  go_wp2
  go_ret
  exact ⟨k5, rfl, by omega, HC.out, B5⟩

theorem jdW_lst {q q' M D : Nat} {xs ys dxs dys : List WRow} {B C : Int} {ps : List (List Int)} (lx : Lst q M B xs) (ly : Lst q' M B ys) (ldx : Lst q D C dxs) (ldy : Lst q' D C dys) (hB0 : 0 ≤ B) (hC0 : 0 ≤ C) :
    Lst (joinC q q' ps) (D * M + M * D + D * D) (C * B * (D * M : Nat) + B * C * (M * D : Nat) + C * C * (D * D : Nat)) (jdW xs ys dxs dys ps) := by
  have n1 := Int.mul_nonneg (Int.mul_nonneg hC0 hB0) (show (0 : Int) ≤ (D * M : Nat) from Int.natCast_nonneg _)
  have n2 := Int.mul_nonneg (Int.mul_nonneg hB0 hC0) (show (0 : Int) ≤ (M * D : Nat) from Int.natCast_nonneg _)
  have n3 := Int.mul_nonneg (Int.mul_nonneg hC0 hC0) (show (0 : Int) ≤ (D * D : Nat) from Int.natCast_nonneg _)
  exact ((lst_join ldx ly hC0 hB0).put (lst_join lx ldy hB0 hC0) n1 n2).put (lst_join ldx ldy hC0 hC0) (by omega) n3

end Go.Proofs.YtlfljfmhhnoinabGreat
