/- Several texts of one proof, in build order: ChF, RepP, IntM, IntsR, TbM, StepV, StepW. -/
import Derived.Test.YthliamoeplgblaaDoorM6
import Derived.Test.YthliamoeplgblaaDoorM0
import Derived.Test.YthliamoeplgblaaDoorM7
import Derived.Test.YthliamoeplgblaaDoorM1
import Derived.Test.YthliamoeplgblaaDoorM3
import Derived.Test.YthliamoeplgblaaDoorM5

/- Contract of impl.firstMerging. -/
namespace Go.Proofs.YthliamoeplgblaaDoor
open Go.RowKit

theorem or_or {α : Type} (a b c : Option α) : (a.or b).or c = a.or (b.or c) := by cases a <;> rfl

set_option maxRecDepth 100000 in
set_option maxHeartbeats 8000000 in
theorem firstMerging_any (p : Int) (a : Option Addr) (n c : Nat) (zss : List (List Int)) (la : Option Addr) (ln lc : Nat) (xs : List Dep) (w : World) (hz : zss.length = n) (hcap : n ≤ c) (hlz : xs.length = ln) (ht : tbB p zss = true) (hd : goodDeps xs p = true) (ha : AtS w a zss) (hla : AtD w la xs) :
    Calls Tryd.prog 64 #[.agg #[.int .i64 p, .slice a n c], .slice la ln lc] w fun e w' => e = .returned (.tuple #[mrgV (mrgAll zss xs), .bool (mrgAll zss xs).isSome]) ∧ Below w.heap.size w w' := by
  obtain ⟨q, hq⟩ : ∃ q : Nat, p = (q : Int) := ⟨p.toNat, by have := tbB_C ht; omega⟩
  have hq6 : q ≤ 6 := by have := tbB_C ht; omega
  have hn8 : n ≤ 8 := by have := tbB_n ht; omega
  have hln : ln ≤ 10 := by have := goodDeps_C hd; omega
  have HROW : Hid (∀ (k : Nat) (z : List Int), zss[k]? = some z → z.length = q) := fun k z h => by have := rowOk_len (tbB_row ht h); omega
  have HDEP : Hid (∀ (k : Nat) (d : Dep), xs[k]? = some d → colsOk d.1 q = true ∧ colsOk d.2 q = true) := fun k d h => by
    have h1 := goodDeps_dep hd (List.mem_of_getElem? h)
    rw [hq] at h1
    exact ⟨ris_cols hq6 h1.1, ris_cols hq6 h1.2⟩
  obtain ⟨M, hM⟩ : ∃ M, mrgAll zss xs = M := ⟨_, rfl⟩
  have HM : Hid (M = mrgAll zss (xs.drop 0)) := by show _ = _; rw [List.drop_zero]; exact hM.symm
  rw [hM]
  clear hM hq ht hd
  obtain ⟨W, hW⟩ : ∃ W, W = (w.alloc (.cells #[.int .i64 p, .slice a n c] 26)).alloc (.cells #[.int .i64 0, .int .i64 0, .int .i64 0, .int .i64 0] 90) := ⟨_, rfl⟩
  have B0 : Below w.heap.size w W := by rw [hW]; exact ((Below.refl _ _).alloc (Nat.le_refl _) _).alloc (by simp) _
  have zW : w.heap.size + 1 < W.heap.size := by rw [hW]; simp
  have c1 : W.cell? ⟨w.heap.size, 1, none⟩ = some (.slice a n c) := by rw [hW]; simp [go_sem]
  have q4 : W.heap[w.heap.size + 1]? = some (.cells #[.int .i64 0, .int .i64 0, .int .i64 0, .int .i64 0] 90 (0, 0)) := by
    rw [hW]
    have h := heap_alloc_new (w.alloc (.cells #[.int .i64 p, .slice a n c] 26)) (.cells #[.int .i64 0, .int .i64 0, .int .i64 0, .int .i64 0] 90)
    simpa only [World.size_alloc] using h
  have HA := Hid.mk (ha.below B0)
  have HL := Hid.mk (AtSl.below hla B0)
  have HZ := Hid.mk hz
  have HLZ := Hid.mk hlz
  clear ha hla hz hlz
  go_enter Tryd.func64, Tryd.ntmps64
  go_wp2_with fail
  rw [← hW]
  clear hW
  go_loopw [16] (fun i wr => ∃ k : Nat, k ≤ ln ∧ i = .int .i64 k ∧ M = mrgAll zss (xs.drop k) ∧ Below W.heap.size W wr) (fun i _ => ln - (intOf i).toNat)
  case atStart => exact ⟨0, Nat.zero_le _, rfl, HM.out, Below.refl _ _⟩
  case round =>
    clear HM
    obtain ⟨k, hk, rfl, hM, hbw⟩ := hrel
    obtain ⟨wA, rfl⟩ : ∃ x, x = wr := ⟨_, rfl⟩
    have q5 := blk_below q4 hbw
    have zA : w.heap.size + 1 < wA.heap.size := by have := hbw.size; omega
    have BA : Below w.heap.size w wA := B0.trans (hbw.mono B0.size)
    by_cases hlt : k < ln
    · obtain ⟨b, off, rfl, _, hc⟩ := AtD.row (AtSl.below HL.out hbw) (by have := HLZ.out; omega)
      obtain ⟨⟨fs, ts⟩, hx⟩ : ∃ x, xs[k]? = some x := ⟨_, List.getElem?_eq_getElem (by have := HLZ.out; omega)⟩
      obtain ⟨fa, fn, fc, ta, tn, tc, g0, g1, ⟨t1, t2, t3⟩, ⟨u1, u2, u3⟩⟩ := hc k _ hx
      have hcol := HDEP.out k _ hx
      rw [mrgAll_step hx] at hM
      obtain ⟨Z, hZ⟩ : ∃ Z, mrgAll zss (xs.drop (k + 1)) = Z := ⟨_, rfl⟩
      rw [hZ] at hM
      have HZ' := Hid.mk hZ
      obtain ⟨V, hV⟩ : ∃ V, V = wA.alloc (.cells #[.slice fa fn fc, .slice ta tn tc] 61) := ⟨_, rfl⟩
      have hbV : Below wA.heap.size wA V := by rw [hV]; exact (Below.refl _ _).alloc (Nat.le_refl _) _
      have zV : wA.heap.size < V.heap.size := by rw [hV]; simp
      have d0 : V.cell? ⟨wA.heap.size, 0, none⟩ = some (.slice fa fn fc) := by rw [hV]; exact pair0 _ _ _ _
      have d1 : V.cell? ⟨wA.heap.size, 1, none⟩ = some (.slice ta tn tc) := by rw [hV]; exact pair1 _ _ _ _
      have e1 := cell_later hbV (cell_later hbw c1)
      have BV : Below w.heap.size w V := BA.trans (hbV.mono BA.size)
      have HAV := Hid.mk hbV
      have HWV := Hid.mk (hbw.trans (hbV.mono hbw.size))
      have HM1 : Hid (M = (mrgRows (fs, ts) (zss.drop 0)).or Z) := by show _ = _; rw [List.drop_zero]; exact hM
      have HMB : Hid (∀ (xa : Option Addr) (xc : Nat) (x : List Int) (ya : Option Addr) (yc : Nat) (y : List Int) (w' : World), x.length = q → y.length = q → Below V.heap.size V w' → At w' xa x → At w' ya y →
          Calls Tryd.prog 71 #[.agg #[.slice fa fn fc, .slice ta tn tc], .agg #[.slice xa q xc], .agg #[.slice ya q yc]] w' fun e w'' => e = .returned (.tuple #[mrgV (mrgBy (fs, ts) x y), .bool (mrgBy (fs, ts) x y).isSome]) ∧ Below w'.heap.size w' w'') :=
        fun xa xc x ya yc y w' h1 h2 h3 h4 h5 => mergingBy_any fa fn fc ta tn tc fs ts xa q xc x ya yc y w' t1 u1 h1 h2 hq6 hcol.1 hcol.2 ((t3.below hbV).below h3) ((u3.below hbV).below h3) h4 h5
      have hki : (k : Int) < (ln : Int) := by omega
      clear hc hx t1 t3 u1 u3 hcol hM hZ hbw BA
      go_upto_region 4 with fail
      rw [← hV]
      clear hV g0 g1 hbV c1
      go_wp2_with fail
      go_loopw [23] (fun i wx => ∃ j : Nat, j ≤ n ∧ i = .int .i64 j ∧ M = (mrgRows (fs, ts) (zss.drop j)).or Z ∧ Below V.heap.size V wx) (fun i _ => n - (intOf i).toNat)
      case atStart => exact ⟨0, Nat.zero_le _, rfl, HM1.out, Below.refl _ _⟩
      case round =>
        clear HM1
        obtain ⟨j, hj, rfl, hM, hbw⟩ := hrel
        obtain ⟨wB, rfl⟩ : ∃ x, x = wr := ⟨_, rfl⟩
        have BB : Below w.heap.size w wB := BV.trans (hbw.mono BV.size)
        by_cases hjl : j < n
        · obtain ⟨b1, off1, rfl, hc⟩ := ((HA.out.below HWV.out).below hbw).some (by have := HZ.out; omega)
          obtain ⟨x, hx⟩ : ∃ x, zss[j]? = some x := ⟨_, List.getElem?_eq_getElem (by have := HZ.out; omega)⟩
          obtain ⟨xa, xc, hcx, _, hatx⟩ := hc j (by have := HZ.out; omega)
          have hgk : zss.getD j [] = x := by simp [List.getD, hx]
          have hxl := HROW.out j x hx
          rw [hgk, hxl] at hcx
          rw [hgk] at hatx
          rw [mrgRows_step hx, or_or] at hM
          obtain ⟨Y, hY⟩ : ∃ Y, (mrgRows (fs, ts) (zss.drop (j + 1))).or Z = Y := ⟨_, rfl⟩
          rw [hY] at hM
          have HY := Hid.mk hY
          obtain ⟨U, hU⟩ : ∃ U, U = wB.alloc (.cells #[.slice xa q xc] 47) := ⟨_, rfl⟩
          have hbU : Below wB.heap.size wB U := by rw [hU]; exact (Below.refl _ _).alloc (Nat.le_refl _) _
          have zU : wB.heap.size < U.heap.size := by rw [hU]; simp
          have r0 : U.cell? ⟨wB.heap.size, 0, none⟩ = some (.slice xa q xc) := by rw [hU]; exact row0 _ _ _
          have hbVU := hbw.trans (hbU.mono hbw.size)
          have e2 := cell_later hbVU e1
          have d2 := cell_later hbVU d0
          have d3 := cell_later hbVU d1
          have BU : Below w.heap.size w U := BB.trans (hbU.mono BB.size)
          have HVU := Hid.mk hbVU
          have HWA := Hid.mk (HAV.out.trans (hbVU.mono HAV.out.size))
          have HX := Hid.mk (hatx.below hbU)
          have HXL := Hid.mk hxl
          have HM2 : Hid (M = (mrgRow (fs, ts) x (zss.drop (j + 1 + 0))).or Y) := Hid.mk hM
          have HCE : Hid (∀ (w' : World), Below U.heap.size U w' → ∀ t z, zss[t]? = some z → ∃ a' c', w'.cell? ⟨b1, off1 + t, none⟩ = some (.slice a' q c') ∧ At w' a' z ∧ z.length = q) := fun w' h t z hzt => by
            have hts := (List.getElem?_eq_some_iff.1 hzt).1
            obtain ⟨a', c', h1, _, h3⟩ := hc t hts
            have hgk : zss.getD t [] = z := by simp [List.getD, hzt]
            have hzl := HROW.out t z hzt
            rw [hgk, hzl] at h1
            rw [hgk] at h3
            exact ⟨a', c', cell_later h (cell_later hbU h1), (h3.below hbU).below h, hzl⟩
          have hji : (j : Int) < (n : Int) := by omega
          clear hc hx hgk hxl hatx hM hY hbVU hbw BB
          go_upto_region 7 with fail
          rw [← hU]
          clear hU hcx hbU e1 d0 d1
          by_cases hcj : c = j + 1
          · have HE : Hid (M = Y) := by show _ = _; rw [HM2.out, mrgRow_done (by have := HZ.out; omega)]; rfl
            have hm0 : n - (j + 1) = 0 := by omega
            subst hcj
            go_wp2_with fail
            (try rw [hm0])
            refine wp_loop_rounds 1 ?_
            rw [rounds_succ]
            go_wp2
            go_roundw
            case rel => exact ⟨j + 1, by omega, by go_num, by rw [HE.out, ← HY.out], HVU.out⟩
            case measure => simp [intOf]; omega
          · have hcj1 : j + 1 < c := by omega
            obtain ⟨m, hm⟩ : ∃ m, n - (j + 1) = m := ⟨_, rfl⟩
            have hmn : j + 1 + m = n := by omega
            have HMN := Hid.mk hmn
            have hm8 : m ≤ 8 := by omega
            clear hcj hmn
            go_wp2_with fail
            (try rw [hm])
            clear hm
            go_loopw [34] (fun i wx => ∃ t : Nat, t ≤ m ∧ i = .int .i64 t ∧ M = (mrgRow (fs, ts) x (zss.drop (j + 1 + t))).or Y ∧ Below U.heap.size U wx) (fun i _ => m - (intOf i).toNat)
            case atStart => exact ⟨0, Nat.zero_le _, rfl, HM2.out, Below.refl _ _⟩
            case round =>
              clear HM2
              obtain ⟨t, htm, rfl, hM, hbw⟩ := hrel
              obtain ⟨wC, rfl⟩ : ∃ x, x = wr := ⟨_, rfl⟩
              have BC : Below w.heap.size w wC := BU.trans (hbw.mono BU.size)
              by_cases htl : t < m
              · obtain ⟨y, hy⟩ : ∃ y, zss[j + 1 + t]? = some y := ⟨_, List.getElem?_eq_getElem (by have := HZ.out; have := HMN.out; omega)⟩
                obtain ⟨ya, yc, hcy, haty, hyl⟩ := HCE.out wC hbw (j + 1 + t) y hy
                rw [← Nat.add_assoc] at hcy
                rw [mrgRow_step hy, or_or] at hM
                have hbR : Below wC.heap.size wC (wC.alloc (.cells #[.slice ya q yc] 47)) := (Below.refl _ _).alloc (Nat.le_refl _) _
                have y0 := row0 wC (.slice ya q yc) 47
                have hbUR := hbw.trans (hbR.mono hbw.size)
                have r1 := cell_later hbUR r0
                have d4 := cell_later hbUR d2
                have d5 := cell_later hbUR d3
                have q6 := blk_below q5 (HWA.out.trans (hbUR.mono HWA.out.size))
                have BR : Below w.heap.size w (wC.alloc (.cells #[.slice ya q yc] 47)) := BC.trans (hbR.mono BC.size)
                have HK := Hid.mk (HMB.out xa xc x ya yc y _ HXL.out hyl (HVU.out.trans (hbUR.mono HVU.out.size)) (HX.out.below hbUR) (haty.below hbR))
                have HUR := Hid.mk hbUR
                have hti : (t : Int) < (m : Int) := by omega
                cases hr : mrgBy (fs, ts) x y with
                | none =>
                  have HN : Hid (M = (mrgRow (fs, ts) x (zss.drop (j + 1 + (t + 1)))).or Y) := by show _ = _; rw [hM, hr]; rfl
                  rw [hr] at HK
                  simp only [mrgV, Option.isSome_none] at HK
                  clear hM hr hy haty hbw hbR hbUR q6 hyl
                  go_wp2_with fail
                  refine HK.out.mono ?_
                  rintro e w5 ⟨rfl, hb5⟩
                  have HB5 := Hid.mk (HUR.out.trans (hb5.mono HUR.out.size))
                  have HB6 : Hid (Below U.heap.size U (w5.alloc (.cells #[.int .i64 0, .int .i64 0, .int .i64 0, .int .i64 0] 90))) := HB5.out.alloc HB5.out.size _
                  clear HK hb5 HB5
                  go_wp2
                  go_roundw
                  case rel => exact ⟨t + 1, by omega, by go_num, HN.out, HB6.out⟩
                  case measure => simp [intOf]; omega
                | some mg =>
                  obtain ⟨mk, mgr, mls⟩ := mg
                  have HN : Hid (M = some (mk, mgr, mls)) := by show _ = _; rw [hM, hr]; rfl
                  rw [hr] at HK
                  simp only [mrgV, Option.isSome_some] at HK
                  clear hM hr hy haty hbw hbR hbUR hyl
                  go_wp2_with fail
                  refine HK.out.mono ?_
                  rintro e w5 ⟨rfl, hb5⟩
                  have B5 := BR.trans (hb5.mono BR.size)
                  have q7 := blk_alloc (blk_below q6 hb5) (.cells #[.int .i64 mk, .int .i64 mgr, .int .i64 mk, .int .i64 mls] 90)
                  have q8 := heap_alloc_new w5 (.cells #[.int .i64 mk, .int .i64 mgr, .int .i64 mk, .int .i64 mls] 90)
                  have B6 : Below w.heap.size w (w5.alloc (.cells #[.int .i64 mk, .int .i64 mgr, .int .i64 mk, .int .i64 mls] 90)) := B5.alloc B5.size _
                  obtain ⟨X, hX⟩ : ∃ X, X = w5.alloc (.cells #[.int .i64 mk, .int .i64 mgr, .int .i64 mk, .int .i64 mls] 90) := ⟨_, rfl⟩
                  rw [← hX] at q7 q8 B6
                  have k0 := blk_cell q8 0 (v := .int .i64 mk) rfl
                  have k1 := blk_cell q8 1 (v := .int .i64 mgr) rfl
                  have k2 := blk_cell q8 2 (v := .int .i64 mk) rfl
                  have k3 := blk_cell q8 3 (v := .int .i64 mls) rfl
                  have e0 := blk_cell q7 0 (v := .int .i64 0) rfl
                  have e1 := blk_cell q7 1 (v := .int .i64 0) rfl
                  have e3 := blk_cell q7 2 (v := .int .i64 0) rfl
                  have e4 := blk_cell q7 3 (v := .int .i64 0) rfl
                  have f0 := blk_frozen q7 0
                  have f1 := blk_frozen q7 1
                  have f2 := blk_frozen q7 2
                  have f3 := blk_frozen q7 3
                  clear HK hb5 q7 q8 q6 B5
                  go_upto_region 11 with fail
                  rw [← hX]
                  clear hX
                  go_wp2
                  refine bodyPost_ret (v := .tuple #[.agg #[.int .i64 mk, .int .i64 mgr, .int .i64 mk, .int .i64 mls], .bool true]) (by simp [results, Tryd.results64, go_sem, e0, e1, e3, e4]) rfl ⟨by rw [HN.out]; rfl, ?_⟩
                  exact four_below B6 (by omega) _ _ _ _
              · obtain rfl : t = m := by omega
                have HN : Hid (M = Y) := by show _ = _; rw [hM, mrgRow_done (by have := HZ.out; have := HMN.out; omega)]; rfl
                have HB9 := Hid.mk (HVU.out.trans (hbw.mono HVU.out.size))
                clear hM hbw
                go_wp2
                go_roundw
                case rel => exact ⟨j + 1, by omega, by go_num, by rw [HN.out, ← HY.out], HB9.out⟩
                case measure => simp [intOf]; omega
        · obtain rfl : j = n := by omega
          have HN : Hid (M = Z) := by show _ = _; rw [hM, mrgRows_done (by have := HZ.out; omega)]; rfl
          have HB9 := Hid.mk (HWV.out.trans (hbw.mono HWV.out.size))
          clear hM hbw
          go_wp2
          go_roundw
          case rel => exact ⟨k + 1, by omega, by go_num, by rw [HN.out, ← HZ'.out], HB9.out⟩
          case measure => simp [intOf]; omega
    · obtain rfl : k = ln := by omega
      have HN : Hid (M = none) := by show _ = _; rw [hM]; exact mrgAll_done (by have := HLZ.out; omega)
      have e0 := blk_cell q5 0 (v := .int .i64 0) rfl
      have e1 := blk_cell q5 1 (v := .int .i64 0) rfl
      have e2 := blk_cell q5 2 (v := .int .i64 0) rfl
      have e3 := blk_cell q5 3 (v := .int .i64 0) rfl
      have f0 := blk_frozen q5 0
      have f1 := blk_frozen q5 1
      have f2 := blk_frozen q5 2
      have f3 := blk_frozen q5 3
      clear hM q4 q5
      go_wp2
      refine bodyPost_ret (v := .tuple #[.agg #[.int .i64 0, .int .i64 0, .int .i64 0, .int .i64 0], .bool false]) (by simp [results, Tryd.results64, go_sem, e0, e1, e2, e3]) rfl ⟨by rw [HN.out]; rfl, ?_⟩
      exact four_below BA (by omega) _ _ _ _

end Go.Proofs.YthliamoeplgblaaDoor

/- One more thing at a slice's end. -/
namespace Go.Proofs.YthliamoeplgblaaDoor
open Go.RowKit

section
variable {α : Type} {A : Rep α} {w w2 w4 : World} {F H F' : Nat → Prop} {e : TypeId} {a a' : Option Addr} {n c c' : Nat} {xs : List α} {cells vs : List Value} {G : Nat → Nat → Prop} {x : α}

theorem sub_append_left {cells vs : List Value} {o k : Nat} (h : o + k ≤ cells.length) : sub (cells ++ vs) o k = sub cells o k := by
  unfold sub
  rw [List.drop_append_of_le_length (by omega), List.take_append_of_le_length (by simp; omega)]
theorem sub_append_right {cells vs : List Value} {k : Nat} (h : vs.length = k) : sub (cells ++ vs) cells.length k = vs := by
  unfold sub
  rw [List.drop_left, ← h, List.take_length]

/-- Behind 'append(l, x)': the slice lies in its old block, or in a new one. -/
theorem Laid.push (h : Laid A w F e a n c xs cells G n) (hF : ∀ b, F b → b < w.heap.size) (hb : Below w.heap.size w w2) (ho : A.Own w2 H vs x) (hH : ∀ b, H b → w.heap.size ≤ b ∧ b < w2.heap.size)
    (hg : ∀ b, b < w2.heap.size → (Value.slice a n c).ownBlock ≠ some b → w4.heap[b]? = w2.heap[b]?) (hown : w4.ownsRow 0 e A.k (.slice a' (n + 1) c') (n + 1) (cells ++ vs))
    (hat : (Value.slice a' (n + 1) c').ownBlock = (Value.slice a n c).ownBlock ∨ ∀ b, (Value.slice a' (n + 1) c').ownBlock = some b → w2.heap.size ≤ b) (hbig : n + 1 ≤ 9223372036854775807)
    (hF1 : ∀ b, F b → F' b) (hF2 : ∀ b, H b → F' b) (hF3 : ∀ b, (Value.slice a' (n + 1) c').ownBlock = some b → F' b) :
    Laid A w4 F' e a' (n + 1) c' (xs ++ [x]) (cells ++ vs) (fun i => if i = n then H else G i) (n + 1) := by
  have hl := A.ownLen ho
  have hcl : cells.length = n * A.k := h.outer.1
  have hz := hb.size
  have hB : ∀ i b, i < n → G i b → b < w.heap.size ∧ (Value.slice a n c).ownBlock ≠ some b := fun i b hi hg' => ⟨hF b (h.rowF i b hi hg').1, (h.rowF i b hi hg').2⟩
  have hO : ∀ b, (Value.slice a n c).ownBlock = some b → b < w.heap.size := fun b hb' => hF b (h.outerF b hb')
  refine ⟨by simp [h.len], hbig, hown, hF3, fun i y hi hy => ?_, fun i b hi hb' => ?_, fun i j b hi hj hij hb' => ?_⟩
  · by_cases ei : i = n
    · subst ei
      simp only [if_true]
      obtain rfl : x = y := by
        rw [List.getElem?_append_right (by rw [h.len]; exact Nat.le_refl _)] at hy
        simpa [h.len] using hy
      have := sub_append_right (cells := cells) hl
      rw [hcl] at this
      rw [this]
      exact A.frame ho (fun b hb' _ => hg b (hH b hb').2 (fun e' => by have := hO b e'; have := (hH b hb').1; omega))
    · simp only [if_neg ei]
      have hi' : i < n := by omega
      rw [List.getElem?_append_left (by rw [h.len]; exact hi')] at hy
      rw [sub_append_left (by rw [hcl]; exact at_mul hi')]
      exact A.frame (A.ownBelow (h.row i y hi' hy) hb) (fun b hb' _ => hg b (by have := (hB i b hi' hb').1; omega) (hB i b hi' hb').2)
  · by_cases ei : i = n
    · subst ei
      simp only [if_true] at hb'
      refine ⟨hF2 b hb', fun e' => ?_⟩
      have h1 := hH b hb'
      rcases hat with h2 | h2
      · rw [h2] at e'
        have := hO b e'
        omega
      · have := h2 b e'
        omega
    · simp only [if_neg ei] at hb'
      have h1 := hB i b (by omega) hb'
      refine ⟨hF1 b (h.rowF i b (by omega) hb').1, fun e' => ?_⟩
      rcases hat with h2 | h2
      · rw [h2] at e'; exact h1.2 e'
      · have := h2 b e'
        omega
  · by_cases ei : i = n
    · subst ei
      simp only [if_true] at hb'
      simp only [if_neg (Ne.symm hij)]
      intro e'
      have := (hB j b (by omega) e').1
      have := (hH b hb').1
      omega
    · simp only [if_neg ei] at hb'
      by_cases ej : j = n
      · simp only [if_pos ej]
        intro e'
        have := (hB i b (by omega) hb').1
        have := (hH b e').1
        omega
      · simp only [if_neg ej]
        exact h.apart i j b (by omega) (by omega) hij hb'

/-- A slice of nothing. -/
theorem Laid.none (A : Rep α) (w : World) (F : Nat → Prop) (e : TypeId) : Laid A w F e none 0 0 [] [] (fun _ _ => False) 0 :=
  ⟨rfl, by omega, World.ownsRow_nil _ _ _ _, fun b hb => (by cases hb), fun i x h => by omega, fun i b h => by omega, fun i j b h => by omega⟩
end

end Go.Proofs.YthliamoeplgblaaDoor

/- Slices of numbers, marked, as things that are owned. -/
namespace Go.Proofs.YthliamoeplgblaaDoor
open Go.RowKit

theorem markInts_rep (F : Nat → Prop) (a : Option Addr) (n c : Nat) (zs : List Int) (m : Int) (w : World) (hn : n ≤ 1048576) (h0 : 0 ≤ m) (h1 : m ≤ 268435456) (ho : RInts.Own w F [.slice a n c] zs) :
    Calls Tryd.prog 28 #[.slice a n c, .int .i64 m] w fun e w' => e = .returned (.int .i64 (m + n)) ∧ RInts.Own w' F [.slice a n c] (mkInts m zs) ∧ Off F w w' := by
  obtain ⟨h2, h3, h4, h5⟩ := RInts.own_iff.1 ho
  refine (markIntS_any 0 a n c _ m w hn h0 (by omega) h4).mono fun e w' ⟨e1, e2, e3⟩ => ⟨e1, RInts.own_iff.2 ⟨by unfold mkInts; rw [marks_length, h2], h3, by unfold mkInts; rw [h2]; exact e2, h5⟩, Off.grown e3 h5⟩
end Go.Proofs.YthliamoeplgblaaDoor

/- Lists of numbers that are answered, held as the laws marked them. -/
namespace Go.Proofs.YthliamoeplgblaaDoor
open Go.RowKit

def IntsRet (e : Ending) (w' : World) (lo : Nat) (ok : Bool) (zs : List Int) : Prop := ∃ r m d, e = .returned (.tuple #[.slice r m d, .bool ok]) ∧ zs.length = m ∧ w'.ownsRow lo 3 1 (.slice r m d) m (zs.map (.int .i64))
theorem ints_at {w : World} {F : Nat → Prop} {a : Option Addr} {n c : Nat} {zs : List Int} (h : RInts.Own w F [.slice a n c] zs) : At w a zs := (RInts.at_iff.1 (RInts.toAt h)).2.2.1
theorem heldInts_rep (a : Option Addr) (n c : Nat) (zs : List Int) (m : Int) (w : World) (hz : zs.length = n) (hn : n ≤ 1048576) (h0 : 0 ≤ m) (h1 : m ≤ 268435456) (ha : At w a (mkInts m zs)) :
    Calls Tryd.prog 49 #[.slice a n c, .int .i64 m] w fun e w' => e = .returned (.int .i64 (m + n)) ∧ Below w.heap.size w w' := by
  unfold mkInts at ha
  rw [hz] at ha
  exact (heldIntS_any a n c m w hn h0 (by omega) ha).mono fun _ _ ⟨h1, h2⟩ => ⟨h1, by first | exact h2 | (rw [h2]; exact Below.refl _ _)⟩

theorem Off.toBelow {lo hi B : Nat} {a b : World} (h : Off (From lo hi) a b) (hlo : B ≤ lo) (hB : B ≤ a.heap.size) : Below B a b := ⟨h.os, h.tape, h.output, h.size, fun k hk => h.block k (by omega) (fun e => by have := e.1; omega)⟩

end Go.Proofs.YthliamoeplgblaaDoor

/- Contracts of the laws' helpers over tableaus: toRowS, toTableau, markRowS, markTableau, heldRowS, heldTableau. -/
namespace Go.Proofs.YthliamoeplgblaaDoor
open Go.RowKit

theorem Tryd.infoRow : (Tryd.prog.info? 47).map (fun i => (i.zero, i.size, i.bytes)) = some (some (.agg #[.slice none 0 0]), 1, 24) := by kernel_rfl

set_option maxRecDepth 100000 in
set_option maxHeartbeats 4000000 in
theorem markRowS_rep (F : Nat → Prop) (a : Option Addr) (n c : Nat) (zss : List (List Int)) (m : Int) (w : World) (hn : n ≤ 1048576) (ht : tot zss n ≤ 1048576) (h0 : 0 ≤ m) (h1 : m ≤ 134217728) (ho : RRows.Own w F [.slice a n c] zss) :
    Calls Tryd.prog 29 #[.slice a n c, .int .i64 m] w fun e w' => e = .returned (.int .i64 (m + tot zss n)) ∧ RRows.Own w' F [.slice a n c] (mkPairs m zss) ∧ Off F w w' := by
  obtain ⟨a', n', c', cells, G, he, hl⟩ := ho
  simp only [List.cons.injEq, Value.slice.injEq, and_true] at he
  obtain ⟨rfl, rfl, rfl⟩ := he
  go_enter Tryd.func29, Tryd.ntmps29
  go_wp2
  go_loopw [1, 5] (fun q i wr => ∃ k : Nat, k ≤ n ∧ i = .int .i64 k ∧ q = .int .i64 (m + tot zss k) ∧ Laid RInts wr F 47 a n c (mkTo (fun m zs => mkInts m zs) List.length m zss k) cells G n ∧ Off F w wr) (fun _ i _ => n - (intOf i).toNat)
  case atStart => exact ⟨0, Nat.zero_le _, rfl, by simp [tot_zero], by rw [mkTo_zero]; exact hl, Off.refl _ _⟩
  case round =>
    have hzl := hl.len
    clear hl
    obtain ⟨k, hk, rfl, rfl, hl, hof⟩ := hrel
    by_cases hlt : k < n
    · obtain ⟨ys, hy⟩ : ∃ ys, zss[k]? = some ys := ⟨_, List.getElem?_eq_getElem (by omega)⟩
      have hrow := hl.row k ys hlt (mkTo_next _ _ hy)
      obtain ⟨a2, n2, c2, _, _, he2, _⟩ := hrow
      have hrow := hl.row k ys hlt (mkTo_next _ _ hy)
      rw [he2] at hrow
      rcases hl.outer.2 with ⟨_, h00⟩ | ⟨g, cap, cur, hv, _⟩
      · omega
      simp only [Value.slice.injEq, true_and] at hv
      obtain ⟨rfl, rfl⟩ := hv
      have hcl : cells.length = n * 1 := hl.outer.1
      have hcx : wr.cell? ⟨g, k, none⟩ = some (.slice a2 n2 c2) := by
        rw [hl.outer.cellAt k (show k < n * 1 by omega)]
        have h9 := sub_at (cells := cells) (o := k * 1) (k := 1) (j := 0) (by omega)
        have he3 : sub cells (k * 1) 1 = [.slice a2 n2 c2] := he2
        rw [he3] at h9
        simpa using h9.symm
      have hly : ys.length = n2 := (RInts.own_iff.1 hrow).1
      have hts := tot_succ zss k (by omega)
      have hgk : zss.getD k [] = ys := by simp [List.getD, hy]
      rw [hgk, hly] at hts
      have htm := tot_mono zss (k + 1) n (by omega)
      have HL := Hid.mk hl
      have HR := Hid.mk hrow
      have HO := Hid.mk hof
      have HY := Hid.mk hy
      have HLY := Hid.mk hly
      obtain ⟨T, hT⟩ : ∃ T, tot zss k = T := ⟨_, rfl⟩
      have HT := Hid.mk hT
      rw [hT] at hts ⊢
      have hn2 : n2 ≤ 1048576 := by omega
      have hmT : m + (T : Int) ≤ 268435456 := by omega
      have hki : (k : Int) < (n : Int) := by omega
      have HTS := Hid.mk hts
      have HE2 := Hid.mk he2
      clear hl hrow hof hy hly hT hts hgk he2 hcl htm
      go_wp2_with fail
      refine (markInts_rep (G k) a2 n2 c2 ys (m + T) wr hn2 (by omega) hmT HR.out).mono ?_
      rintro e w2 ⟨rfl, o2, f2⟩
      have hturn := HL.out.turn (w' := w2) (cells' := cells) (x' := mkInts (m + T) ys) hlt (fun b hb hn1 _ => f2.block b hb hn1) (ownsRow_frame HL.out.outer (fun b hb hlb => f2.block b hlb (fun hG => (HL.out.rowF k b hlt hG).2 hb))) (fun _ _ => rfl) (by rw [HE2.out]; exact o2)
      have HLN : Hid (Laid RInts w2 F 47 (some ⟨g, 0, none⟩) n c (mkTo (fun m zs => mkInts m zs) List.length m zss (k + 1)) cells G n) := by
        have h9 := mkTo_set (fun m zs => mkInts m zs) List.length (m := m) HY.out
        rw [szL_pairs, HT.out] at h9
        show Laid _ _ _ _ _ _ _ _ _ _ _
        rw [← h9]
        exact hturn
      have HON : Hid (Off F w w2) := HO.out.trans (f2.mono (fun b hb => (HL.out.rowF k b hlt hb).1))
      clear hturn o2 f2
      go_wp2
      go_roundw
      case rel => exact ⟨k + 1, by omega, by go_num, by rw [HTS.out]; congr 1; push_cast; omega, HLN.out, HON.out⟩
      case measure => simp [intOf]; omega
    · obtain rfl : k = n := by omega
      have HL := Hid.mk hl
      clear hl
      go_wp2
      go_ret
      refine ⟨rfl, ⟨_, _, _, cells, G, rfl, ?_⟩, hof⟩
      have h9 := HL.out
      rw [mkTo_all _ _ _ _ hzl] at h9
      exact h9

theorem markTableau_rep (F : Nat → Prop) (p : Int) (a : Option Addr) (n c : Nat) (zss : List (List Int)) (m : Int) (w : World) (hn : n ≤ 1048576) (ht : tot zss n ≤ 1048576) (h0 : 0 ≤ m) (h1 : m ≤ 134217728) (ho : RTbl.Own w F [.int .i64 p, .slice a n c] (p, zss)) :
    Calls Tryd.prog 12 #[.agg #[.int .i64 p, .slice a n c], .int .i64 m] w fun e w' => e = .returned (.int .i64 (m + tot zss n)) ∧ RTbl.Own w' F [.int .i64 p, .slice a n c] (p, mkPairs m zss) ∧ Off F w w' := by
  have B0 : Below w.heap.size w (w.alloc (.cells #[.int .i64 p, .slice a n c] 26)) := (Below.refl _ _).alloc (Nat.le_refl _) _
  have HR := Hid.mk (RRows.ownBelow (RTbl.own_open ho).2 B0)
  clear ho
  go_enter Tryd.func12, Tryd.ntmps12
  go_wp2_with fail
  refine (markRowS_rep F a n c zss m _ hn ht h0 h1 HR.out).mono ?_
  rintro e w2 ⟨rfl, o2, f2⟩
  go_wp2
  go_ret
  exact ⟨rfl, RTbl.own_mk o2, (Off.below B0).trans f2⟩

set_option maxRecDepth 100000 in
set_option maxHeartbeats 2000000 in
theorem heldRowS_rep (a : Option Addr) (n c : Nat) (zss : List (List Int)) (m : Int) (w : World) (hz : zss.length = n) (hn : n ≤ 1048576) (ht : tot zss n ≤ 1048576) (h0 : 0 ≤ m) (h1 : m ≤ 134217728) (ha : AtSl RInts w a (mkPairs m zss)) :
    Calls Tryd.prog 30 #[.slice a n c, .int .i64 m] w fun e w' => e = .returned (.int .i64 (m + tot zss n)) ∧ Below w.heap.size w w' := by
  have hl : (mkPairs m zss).length = n := by unfold mkPairs; rw [mkL_length, hz]
  by_cases hn0 : n = 0
  · subst hn0
    go_enter Tryd.func30, Tryd.ntmps30
    go_wp2
    refine wp_loop_rounds 1 ?_
    rw [rounds_succ]
    go_wp2
    go_ret
    exact ⟨by simp [tot], Below.refl _ _⟩
  go_enter Tryd.func30, Tryd.ntmps30
  go_wp2
  go_loopw [1, 5] (fun q i wr => ∃ k : Nat, k ≤ n ∧ i = .int .i64 k ∧ q = .int .i64 (m + tot zss k) ∧ Below w.heap.size w wr) (fun _ i _ => n - (intOf i).toNat)
  case atStart => exact ⟨0, Nat.zero_le _, rfl, by simp [tot_zero], Below.refl _ _⟩
  case round =>
    obtain ⟨k, hk, rfl, rfl, hbw⟩ := hrel
    by_cases hlt : k < n
    · obtain ⟨b, off, rfl, hc⟩ := (ha.below hbw).each (by omega)
      obtain ⟨ys, hy⟩ : ∃ ys, zss[k]? = some ys := ⟨_, List.getElem?_eq_getElem (by omega)⟩
      have hmk := mkL_at (fun m zs => mkInts m zs) List.length m zss k ys hy
      obtain ⟨cs, hcs, a2, n2, c2, rfl, e1, e2, e3, _⟩ := hc k _ hmk
      have hcx : wr.cell? ⟨b, off + k, none⟩ = some (.slice a2 n2 c2) := by simpa [RInts, Rep.slice] using hcs 0 _ rfl
      rw [szL_pairs] at e1 e3
      have hly : ys.length = n2 := by rw [← e1]; unfold mkInts; rw [marks_length]
      have hts := tot_succ zss k (by omega)
      have hgk : zss.getD k [] = ys := by simp [List.getD, hy]
      rw [hgk, hly] at hts
      have htm := tot_mono zss (k + 1) n (by omega)
      obtain ⟨T, hT⟩ : ∃ T, tot zss k = T := ⟨_, rfl⟩
      rw [hT] at hts e3 ⊢
      have hn2 : n2 ≤ 1048576 := by omega
      have hmT : m + (T : Int) ≤ 268435456 := by omega
      have hT0 : ¬ m + (T : Int) + (n2 : Int) < 0 := by omega
      have hki : (k : Int) < (n : Int) := by omega
      have HTS := Hid.mk hts
      have HA := Hid.mk (atSl_int.1 e3)
      have HLY := Hid.mk hly
      clear e1 e3 hly hts hgk hT htm hmk hcs hc hy ha
      go_wp2_with fail
      refine (heldInts_rep a2 n2 c2 ys (m + T) wr HLY.out hn2 (by omega) hmT HA.out).mono ?_
      rintro e w2 ⟨rfl, hb2⟩
      go_wp2
      go_roundw
      case rel => exact ⟨k + 1, by omega, by go_num, by rw [HTS.out]; congr 1; push_cast; omega, hbw.trans (hb2.mono hbw.size)⟩
      case measure => simp [intOf]; omega
    · obtain rfl : k = n := by omega
      go_wp2
      go_ret
      exact ⟨rfl, hbw⟩

theorem heldTableau_rep (p : Int) (a : Option Addr) (n c : Nat) (zss : List (List Int)) (m : Int) (w : World) (hz : zss.length = n) (hn : n ≤ 1048576) (ht : tot zss n ≤ 1048576) (h0 : 0 ≤ m) (h1 : m ≤ 134217728) (ha : AtSl RInts w a (mkPairs m zss)) :
    Calls Tryd.prog 13 #[.agg #[.int .i64 p, .slice a n c], .int .i64 m] w fun e w' => e = .returned (.int .i64 (m + tot zss n)) ∧ Below w.heap.size w w' := by
  have B0 : Below w.heap.size w (w.alloc (.cells #[.int .i64 p, .slice a n c] 26)) := (Below.refl _ _).alloc (Nat.le_refl _) _
  have HA := Hid.mk (AtSl.below ha B0)
  have h2 : ¬ m + (tot zss n : Int) < 0 := by omega
  clear ha
  go_enter Tryd.func13, Tryd.ntmps13
  go_wp2_with fail
  refine (heldRowS_rep a n c zss m _ hz hn ht h0 h1 HA.out).mono ?_
  rintro e w2 ⟨rfl, hb⟩
  go_wp2
  go_ret
  exact ⟨rfl, B0.trans (hb.mono B0.size)⟩

theorem markTableau_rows (F : Nat → Prop) (p : Int) (a : Option Addr) (n c : Nat) (zss : List (List Int)) (m : Int) (w : World) (hn : n ≤ 1048576) (ht : tot zss n ≤ 1048576) (h0 : 0 ≤ m) (h1 : m ≤ 134217728) (ho : RRows.Own w F [.slice a n c] zss) :
    Calls Tryd.prog 12 #[.agg #[.int .i64 p, .slice a n c], .int .i64 m] w fun e w' => e = .returned (.int .i64 (m + tot zss n)) ∧ RRows.Own w' F [.slice a n c] (mkPairs m zss) ∧ Off F w w' :=
  (markTableau_rep F p a n c zss m w hn ht h0 h1 (RTbl.own_mk ho)).mono fun _ _ ⟨h1, h2, h3⟩ => ⟨h1, (RTbl.own_open h2).2, h3⟩

/-- What is answered: a tableau and a bool. -/
def TblRet (e : Ending) (w' : World) (lo : Nat) (ok : Bool) (p : Int) (zss : List (List Int)) : Prop := ∃ r m d, e = .returned (.tuple #[.agg #[.int .i64 p, .slice r m d], .bool ok]) ∧ RRows.Own w' (From lo w'.heap.size) [.slice r m d] zss
def TblRet3 (e : Ending) (w' : World) (lo : Nat) (ok : Bool) (p cnt : Int) (zss : List (List Int)) : Prop := ∃ r m d, e = .returned (.tuple #[.agg #[.int .i64 p, .slice r m d], .int .i64 cnt, .bool ok]) ∧ RRows.Own w' (From lo w'.heap.size) [.slice r m d] zss
theorem tbl_at {w : World} {F : Nat → Prop} {p : Int} {a : Option Addr} {n c : Nat} {zss : List (List Int)} (h : RTbl.Own w F [.int .i64 p, .slice a n c] (p, zss)) : AtS w a zss := (RRows.atS (RTbl.own_open h).2).2
theorem RRows.nil (w : World) (F : Nat → Prop) : RRows.Own w F [.slice none 0 0] [] := ⟨none, 0, 0, [], fun _ _ => False, rfl, Laid.none _ _ _ _⟩

end Go.Proofs.YthliamoeplgblaaDoor

/- An append of whatever cells, at a step of a region that draws. -/
namespace Go.Proofs.YthliamoeplgblaaDoor
open Go.RowKit

theorem step_append_vals {P : Program} {w : World} {ops : Array Oper} {o : Oper} {a : Act} {K : Act → World → Prop} {Q : Exit → Act → World → Prop} {E : Prop} (hgd : o.guard = none) (s x : Operand) (t : TypeId)
    (ho : o.op = .call { callee := .builtin .append, args := #[s, x], argTypes := #[t, t] })
    (base : Nat) (e : TypeId) (i : TypeInfo) (z : Value) (size bytes : Nat) (ht : P.underlying t = some (.slice e)) (hi : P.info? e = some i) (hz : i.zero = some z)
    (hsize : i.size = size) (hby : i.bytes = bytes) (hzs : z.cells.size = size) (hsz : 0 < size)
    (v : Value) (n : Nat) (xs : List Value) (hs : a.eval s = v) (hown : w.ownsRow base e size v n xs)
    (ao : Option Addr) (m c : Nat) (news : List Value) (hx : a.eval x = .slice ao m c) (hl : news.length = m * size) (hat : ∀ ad, ao = some ad → ∀ (j : Nat) (u : Value), news[j]? = some u → w.cell? (ad.add j) = some u) (h1 : ∀ u ∈ news, u.oneCell' = true) (hnil : ao = none → c = 0 ∧ m = 0)
    (h63 : n + m ≤ maxLen) (hbytes : (n + m) * bytes ≤ 140737488355328) (hbase : base ≤ w.heap.size)
    (h : ∀ r cap w', w'.ownsRow base e size (.slice r (n + m) cap) (n + m) (xs ++ news) → w.grownBy w' v.ownBlock → ((Value.slice r (n + m) cap).ownBlock = v.ownBlock ∨ (Value.slice r (n + m) cap).ownBlock = some w.heap.size) → K (a.put o.dst (.slice r (n + m) cap)) w') :
    if Region.wanted o (yielded ops a.tmps) = true then Oper.wp P o a w K Q else E := by
  have hw : Region.wanted o (yielded ops a.tmps) = true := by simp [Region.wanted, hgd]
  rw [if_pos hw]
  cases ao with
  | none =>
    obtain ⟨hc, hm⟩ := hnil rfl
    subst hc hm
    obtain rfl : news = [] := List.eq_nil_of_length_eq_zero (by simpa using hl)
    obtain ⟨r, cap, rfl⟩ := owns_slice hown
    have hrun := run_append_owned_none (P := P) (w := w) base t o.type e i size ht hi (.slice r n cap) n xs hown
    have := h r cap w (by simpa using hown) (World.grownBy.refl _ _) (.inl rfl)
    unfold Oper.wp
    simp [execOp, ho, resolve, invoke, builtin, hs, hx, hrun, Result.andThen]
    rw [Nat.add_zero] at this
    exact this
  | some ad =>
    obtain ⟨v', w', hr, h2, h3, _, h5⟩ := run_append_own_at (P := P) w base t o.type e i z size bytes ht hi hz hsize hby hzs hsz v n xs hown ad m c news hl (fun j u hj => hat ad rfl j u hj) h1 h63 hbytes hbase
    obtain ⟨r, cap, rfl⟩ := owns_slice h2
    unfold Oper.wp execOp
    simp only [ho, resolve, invoke, builtin, Sem.run_bind, Sem.run_pure, Result.andThen_ok, List.map_toArray, List.map_cons, List.map_nil, hs, hx, hr]
    exact h r cap w' h2 h3 h5

end Go.Proofs.YthliamoeplgblaaDoor

/- An append of whatever cells, in a plain region. -/
namespace Go.Proofs.YthliamoeplgblaaDoor
open Go.RowKit

theorem wpList_app_vals {P : Program} {w : World} {ops : Array Oper} {rest : List Oper} {o : Oper} {a : Act} {Q : Exit → Act → World → Prop} (hgd : o.guard = none) (s x : Operand) (t : TypeId)
    (ho : o.op = .call { callee := .builtin .append, args := #[s, x], argTypes := #[t, t] })
    (base : Nat) (e : TypeId) (i : TypeInfo) (z : Value) (size bytes : Nat) (ht : P.underlying t = some (.slice e)) (hi : P.info? e = some i) (hz : i.zero = some z)
    (hsize : i.size = size) (hby : i.bytes = bytes) (hzs : z.cells.size = size) (hsz : 0 < size)
    (v : Value) (n : Nat) (xs : List Value) (hs : a.eval s = v) (hown : w.ownsRow base e size v n xs)
    (ao : Option Addr) (m c : Nat) (news : List Value) (hx : a.eval x = .slice ao m c) (hl : news.length = m * size) (hat : ∀ ad, ao = some ad → ∀ (j : Nat) (u : Value), news[j]? = some u → w.cell? (ad.add j) = some u) (h1 : ∀ u ∈ news, u.oneCell' = true) (hnil : ao = none → c = 0 ∧ m = 0)
    (h63 : n + m ≤ maxLen) (hbytes : (n + m) * bytes ≤ 140737488355328) (hbase : base ≤ w.heap.size)
    (h : ∀ r cap w', w'.ownsRow base e size (.slice r (n + m) cap) (n + m) (xs ++ news) → w.grownBy w' v.ownBlock → ((Value.slice r (n + m) cap).ownBlock = v.ownBlock ∨ (Value.slice r (n + m) cap).ownBlock = some w.heap.size) → wpList P ops Q rest (a.put o.dst (.slice r (n + m) cap)) w') :
    wpList P ops Q (o :: rest) a w :=
  wpList_plain hgd fun K hK => by
    have hw : Region.wanted o (yielded ops a.tmps) = true := by simp [Region.wanted, hgd]
    have h9 := step_append_vals (P := P) (w := w) (ops := ops) (o := o) (a := a) (K := K) (Q := Q) (E := True) hgd s x t ho base e i z size bytes ht hi hz hsize hby hzs hsz v n xs hs hown ao m c news hx hl hat h1 hnil h63 hbytes hbase (fun r cap w' k1 k2 k3 => hK _ _ (h r cap w' k1 k2 k3))
    rw [if_pos hw] at h9
    exact h9

end Go.Proofs.YthliamoeplgblaaDoor
