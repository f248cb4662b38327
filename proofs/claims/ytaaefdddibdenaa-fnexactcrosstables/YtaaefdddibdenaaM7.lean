/- Several texts of one proof, in build order: InOrder, RowOf, TableP, AppendAll. -/
import Derived.Test.YtaaefdddibdenaaM6
import Derived.Deep.AppendLies
import Derived.Test.YtaaefdddibdenaaM3
import Derived.Deep.RegionLaw
import Derived.Test.YtaaefdddibdenaaM2
import Derived.Test.YtaaefdddibdenaaM1
import Derived.Laws.AppendOwnNone

/- Contract of impl.weights.inOrder. -/
namespace Go.Proofs.Ytaaefdddibdenaa
open Go.RowKit Go.Maps

/-- Six numbers as an array's value. -/
def Six.val (x : Six) : Value := .agg #[.int .i64 x.1, .int .i64 x.2.1, .int .i64 x.2.2.1, .int .i64 x.2.2.2.1, .int .i64 x.2.2.2.2.1, .int .i64 x.2.2.2.2.2]
theorem Six.val_arr (x : Six) : Six.val x = arrV (Six.list x) := rfl
theorem six_of {zs : List Int} (h : zs.length = 6) : ∃ x : Six, Six.list x = zs := by
  obtain ⟨x0, x1, x2, x3, x4, x5, rfl⟩ := list6 h
  exact ⟨(x0, x1, x2, x3, x4, x5), rfl⟩
theorem six_key {key : Value} {kl : Lit} (h : keyOf Try.prog 98 key = some kl) : ∃ x : Six, key = Six.val x := by
  obtain ⟨zs, hf, rfl, _⟩ := keyOf_arr_inv h
  obtain ⟨x, rfl⟩ := six_of hf.1
  exact ⟨x, rfl⟩
theorem Try.infoA : (Try.prog.info? 98).map (fun i => (i.zero, i.size, i.bytes)) = some (some (.agg #[.int .i64 0, .int .i64 0, .int .i64 0, .int .i64 0, .int .i64 0, .int .i64 0]), 6, 48) := by kernel_rfl

/-- The arrays that the range has passed, those with a weight. -/
structure Passed (D : DataW Unit) (f : List Int → Int) (left : Lit → Bool) (ks : List Six) : Prop where
  fits : ∀ x ∈ ks, Fits (Six.list x)
  once : ks.Nodup
  just : ∀ x : Six, Fits (Six.list x) → (x ∈ ks ↔ (Maps.has D (klit (Six.list x)) = true ∧ left (klit (Six.list x)) = false ∧ f (Six.list x) ≠ 0))

theorem Passed.start (D : DataW Unit) (f : List Int → Int) : Passed D f (Maps.has D) [] := ⟨by simp, by simp, fun x _ => by
  constructor
  · intro h; cases h
  · rintro ⟨h1, h2, _⟩; rw [h1] at h2; cases h2⟩

theorem Passed.step {D : DataW Unit} {f : List Int → Int} {left : Lit → Bool} {ks : List Six} (h : Passed D f left ks) {x : Six} (hx : Fits (Six.list x)) (hl : left (klit (Six.list x)) = true) (hh : Maps.has D (klit (Six.list x)) = true) :
    (f (Six.list x) ≠ 0 → Passed D f (fun z => left z && !z.sameKey (klit (Six.list x))) (ks ++ [x])) ∧ (f (Six.list x) = 0 → Passed D f (fun z => left z && !z.sameKey (klit (Six.list x))) ks) := by
  have hself : (klit (Six.list x)).sameKey (klit (Six.list x)) = true := WideAt.sameKey_self (klit_key hx)
  have hoth : ∀ y : Six, Fits (Six.list y) → y ≠ x → (klit (Six.list y)).sameKey (klit (Six.list x)) = false := fun y hy hne =>
    sameKey_ne (fun e => hne (Six.list_inj (klit_inj hy hx e)))
  have hnot : x ∉ ks := fun hm => by have := ((h.just x hx).1 hm).2.1; rw [hl] at this; cases this
  refine ⟨fun hf => ⟨fun y hy => ?_, ?_, fun y hy => ?_⟩, fun hf => ⟨h.fits, h.once, fun y hy => ?_⟩⟩
  · rcases List.mem_append.1 hy with h1 | h1
    · exact h.fits y h1
    · obtain rfl : y = x := by simpa using h1
      exact hx
  · rw [List.nodup_append]
    exact ⟨h.once, by simp, fun a ha b hb e => by obtain rfl : b = x := by simpa using hb
                                                  exact hnot (e ▸ ha)⟩
  · by_cases e : y = x
    · subst e
      simp [hself, hh, hf]
    · have := h.just y hy
      simp only [List.mem_append, List.mem_singleton, e, or_false, hoth y hy e, Bool.not_false, Bool.and_true]
      exact this
  · by_cases e : y = x
    · subst e
      simp [hself, hf, hnot]
    · have := h.just y hy
      simp only [hoth y hy e, Bool.not_false, Bool.and_true]
      exact this

set_option maxRecDepth 100000 in
set_option maxHeartbeats 2000000 in
theorem inOrder_any (b cnt : Nat) (D : DataW Unit) (f : List Int → Int) (S : List (List Int)) (w : World) (hcnt : cnt ≤ 4096) (hown : w.ownsMap Try.prog 98 (plainElem Try.prog 3) b cnt D) (hm : MapIs D f S) :
    Calls Try.prog 84 #[.map (some b)] w fun e w' => ∃ (ks : List Six) (r : Option Addr) (d n : Nat), e = .returned (.slice r n d) ∧ ks.length = n ∧ n ≤ cnt ∧ w'.ownsRow (w.heap.size + 1) 98 6 (.slice r n d) n (ks.flatMap Six.enc) ∧
      (ks.Pairwise fun x y => cmp (Six.list x) (Six.list y) < 0) ∧ (∀ x ∈ ks, Fits (Six.list x)) ∧ (∀ x : Six, Fits (Six.list x) → (x ∈ ks ↔ (Maps.has D (klit (Six.list x)) = true ∧ f (Six.list x) ≠ 0))) ∧ Below w.heap.size w w' := by
  obtain ⟨i0, hi, hz0, hz1, hz2⟩ := info_parts Try.infoA
  have hsz := hown.size_le
  go_enter Try.func84, Try.ntmps84
  go_wp2_with (first | (at_range; refine wpList_range_own _ rfl _ 103 rfl 98 3 Try.keyedA Try.underlying103 _ b cnt D rfl hown ?_; intro w0 hrg0 hg0 hs0) | go_in)
  go_frame
  have B0 : Below w.heap.size w w0 := (Below.refl _ _).grown hg0 (Nat.le_refl _) (by simp)
  go_loopw [3] (fun o wr => ∃ (left : Lit → Bool) (c0 : Nat) (ks : List Six) (r : Option Addr) (d : Nat), o = .slice r ks.length d ∧ wr.ranges Try.prog 98 (plainElem Try.prog 3) b w.heap.size cnt D left c0 ∧ Passed D f left ks ∧ ks.length + c0 ≤ cnt ∧
      wr.ownsRow (w.heap.size + 1) 98 6 (.slice r ks.length d) ks.length (ks.flatMap Six.enc) ∧ Below w.heap.size w wr) (fun _ wr => wr.rangeLeft b w.heap.size)
  case atStart => exact ⟨_, _, [], none, 0, rfl, hrg0, Passed.start D f, by simpa using hsz, World.ownsRow_nil _ _ _ _, B0⟩
  case round =>
    clear hrg0 hg0 hs0 B0 w0
    obtain ⟨left, c0, ks, r, d, rfl, hrg, hP, hlen, ho, hbw⟩ := hrel
    go_wp2_with (first | (at_next; refine wpList_next_ranges _ rfl _ rfl 98 Try.keyedA (plainElem Try.prog 3) Six.val (Value.int .i64) (fun _ _ h => six_key h) (fun v y hv => by obtain ⟨c, rfl, _⟩ := plainElem_int_inv Try.underlying3 hv; exact ⟨c, rfl⟩) b w.heap.size cnt D left c0 rfl hrg ?_ ?_) | go_in)
    · intro h00 hl0
      have hs : ∀ ks' : List Six, ks'.Perm ks → (∀ x ∈ ks', Fits (Six.list x)) ∧ (∀ x : Six, Fits (Six.list x) → (x ∈ ks' ↔ (Maps.has D (klit (Six.list x)) = true ∧ f (Six.list x) ≠ 0))) := fun ks' hp =>
        ⟨fun x hx => hP.fits x (hp.mem_iff.1 hx), fun x hx => by rw [hp.mem_iff, hP.just x hx, hl0]; simp⟩
      have HSS := Hid.mk hs
      have HON := Hid.mk hP.once
      obtain ⟨n, hn⟩ : ∃ n, ks.length = n := ⟨_, rfl⟩
      rw [hn] at ho hlen
      have HN := Hid.mk hn
      rw [hn]
      clear hl0 hs hP hrg hn
      by_cases hn0 : n = 0
      · subst hn0
        obtain rfl : ks = [] := List.eq_nil_of_length_eq_zero HN.out
        go_wp2_with fail
        refine (sortNone_any _ _ _ _).mono ?_
        rintro e w2 ⟨rfl, rfl⟩
        go_wp2
        go_ret
        exact ⟨[], r, d, 0, rfl, rfl, by omega, ho, List.Pairwise.nil, (HSS.out [] (List.Perm.refl _)).1, (HSS.out [] (List.Perm.refl _)).2, hbw⟩
      · obtain ⟨g, hgv⟩ : ∃ g, r = some ⟨g, 0, none⟩ := by
          rcases ho.2 with ⟨_, h⟩ | ⟨g, cap, cur, hv, _⟩
          · omega
          · simp only [Value.slice.injEq, true_and] at hv
            exact ⟨g, hv.1⟩
        subst hgv
        have hgl := (ho.lt g rfl).1
        go_wp2_with fail
        refine (sortFunc_any g n d _ _ ks _ HN.out (by omega) ho).mono ?_
        rintro e w2 ⟨rfl, ho2, hg2⟩
        have HB := Hid.mk (hbw.grown hg2 hbw.size (fun j hj => by cases hj; omega))
        clear hg2 hbw ho
        go_wp2
        go_ret
        exact ⟨sorted ks, some ⟨g, 0, none⟩, d, n, rfl, (sorted_perm ks).length_eq.trans HN.out, by omega, ho2, sorted_rises HON.out, (HSS.out _ (sorted_perm ks)).1, (HSS.out _ (sorted_perm ks)).2, HB.out⟩
    · intro x0 x1 x2 x3 x4 x5 c kl yd yp w1 cnt1 hkey hlk hv hat hrg1 hlt hg1 hs1 hen
      have hbw1 : Below w.heap.size w w1 := hbw.grown hg1 hbw.size (fun j hj => by cases hj; exact Nat.le_refl _)
      have ho1 : w1.ownsRow (w.heap.size + 1) 98 6 (.slice r ks.length d) ks.length (ks.flatMap Six.enc) := ho.kept hg1 (by
        cases hv' : (Value.slice r ks.length d).ownBlock with
        | none => exact .inl rfl
        | some k => exact .inr (fun e => by have := (ho.lt k hv').1; simp at e; omega))
      obtain ⟨zs, hfz, hvz, rfl⟩ := keyOf_arr_inv hkey
      obtain rfl : zs = Six.list (x0, x1, x2, x3, x4, x5) := (arrV_inj (by rw [← hvz]; rfl)).symm
      obtain ⟨c', hc', hy', hwc⟩ := plainElem_int_inv Try.underlying3 hv
      obtain rfl : c' = c := by simpa using hc'.symm
      have hyd : yd = .lit (.int .i64 c') := by simpa using congrArg Prod.fst hy'
      have hfx : c' = f (Six.list (x0, x1, x2, x3, x4, x5)) := hm.at hfz (by rw [hat, hyd])
      have hhas : Maps.has D (klit (Six.list (x0, x1, x2, x3, x4, x5))) = true := has_true_of_atKey hat
      have hst := hP.step hfz hlk hhas
      rw [← hfx] at hst
      have HST := Hid.mk hst
      have HRG := Hid.mk hrg1
      have HBW := Hid.mk hbw1
      have hlf := hrg.left_eq
      have HLF := Hid.mk hlf
      have z1 : w.heap.size + 1 ≤ w1.heap.size := by rw [hs1]; have := hrg.lt; omega
      clear hst hrg1 hbw1 hlf hat hkey hv hlk hvz hc' hy' hyd hfx hhas hwc hg1 ho hbw hrg hP hs1
      simp only [Six.val] at hen
      by_cases hc0 : c' = 0
      · have hne : (c' != 0) = false := by simp [hc0]
        have HC := Hid.mk hc0
        clear hc0
        go_wp2
        go_roundw
        case rel => exact ⟨_, cnt1, ks, r, d, rfl, HRG.out.alloc _, HST.out.2 HC.out, by omega, ho1.alloc _, HBW.out.alloc HBW.out.size _⟩
        case measure => rw [(HRG.out.alloc _).left_eq, HLF.out]; exact hlt
      · have hne : (c' != 0) = true := by simp [hc0]
        have HC := Hid.mk hc0
        clear hc0
        have hbl := hown.lt
        have hks : ks.length ≤ 4096 := by omega
        obtain ⟨n, hn⟩ : ∃ n, ks.length = n := ⟨_, rfl⟩
        rw [hn] at ho1 hks
        have HN := Hid.mk hn
        have HO1 := ho1
        rw [hn]
        clear hn
        go_wp2_with (at_builtin; refine wpList_append_lies _ rfl (.tmp 15) (.tmp 17) 113 rfl (w.heap.size + 1) 98 i0 (.agg #[.int .i64 0, .int .i64 0, .int .i64 0, .int .i64 0, .int .i64 0, .int .i64 0]) 6 48 Try.underlying113 hi hz0 hz1 hz2 rfl (by decide) _ _ _ rfl ((HO1.alloc _).alloc _) ⟨w1.heap.size + 1, 0, none⟩ 1 1 [.int .i64 x0, .int .i64 x1, .int .i64 x2, .int .i64 x3, .int .i64 x4, .int .i64 x5] rfl rfl (by simpa using news_at (w1.alloc (.cells #[.int .i64 x0, .int .i64 x1, .int .i64 x2, .int .i64 x3, .int .i64 x4, .int .i64 x5] 98)) #[.int .i64 x0, .int .i64 x1, .int .i64 x2, .int .i64 x3, .int .i64 x4, .int .i64 x5] 98) (by intro u hu; simp at hu; rcases hu with rfl | rfl | rfl | rfl | rfl | rfl <;> rfl) (by decide) (by unfold maxLen; omega) (by omega) (by simp; omega) (w1.heap.size + 1 + 1) (by simp) ?_; intro g2 cap2 w4 hown4 hgrow4 hat4 hlt4)
        have hgr : w1.grownBy w4 (Value.slice r n d).ownBlock := grown_alloc (grown_alloc hgrow4)
        have hrb : ∀ k, (Value.slice r n d).ownBlock = some k → w.heap.size + 1 ≤ k := fun k hk => (ho1.lt k hk).1
        have HR4 := Hid.mk (HRG.out.kept hgr (fun e => by have := hrb b e.symm; omega) (fun e => by have := hrb _ e.symm; omega))
        have HB4 : Hid (Below w.heap.size w w4) := HBW.out.grown hgr HBW.out.size (fun j hj => by have := hrb j hj; omega)
        have HO4 : Hid (w4.ownsRow (w.heap.size + 1) 98 6 (.slice (some ⟨g2, 0, none⟩) (ks ++ [(x0, x1, x2, x3, x4, x5)]).length cap2) (ks ++ [(x0, x1, x2, x3, x4, x5)]).length ((ks ++ [(x0, x1, x2, x3, x4, x5)]).flatMap Six.enc)) := by
          have hl : (ks ++ [(x0, x1, x2, x3, x4, x5)]).length = n + 1 := by rw [List.length_append, HN.out]; rfl
          rw [hl, List.flatMap_append]
          exact hown4
        have HLN : Hid ((ks ++ [(x0, x1, x2, x3, x4, x5)]).length = n + 1) := by show _ = _; rw [List.length_append, HN.out]; rfl
        clear hown4 hgrow4 hat4 hlt4 hgr hrb ho1 HO1
        go_wp2
        go_roundw
        case rel => exact ⟨_, cnt1, ks ++ [(x0, x1, x2, x3, x4, x5)], some ⟨g2, 0, none⟩, cap2, by rw [HLN.out], HR4.out, HST.out.1 HC.out, by rw [HLN.out]; have := HN.out; omega, HO4.out, HB4.out⟩
        case measure => rw [HR4.out.left_eq, HLF.out]; exact hlt

end Go.Proofs.Ytaaefdddibdenaa

/- Contract of impl.rowOf. -/
namespace Go.Proofs.Ytaaefdddibdenaa
open Go.RowKit

set_option maxHeartbeats 2000000 in
theorem rowOf_any (x0 x1 x2 x3 x4 x5 : Int) (zs : List Int) (n : Nat) (w : World) (hz : zs.length = n) (hg : good zs = true) (hr : raised zs = [x0, x1, x2, x3, x4, x5]) :
    Calls Try.prog 85 #[.agg #[.int .i64 x0, .int .i64 x1, .int .i64 x2, .int .i64 x3, .int .i64 x4, .int .i64 x5], .int .i64 n] w fun e w' => ∃ r d, e = .returned (.agg #[.slice r n d]) ∧
      w'.ownsRow w.heap.size 3 1 (.slice r n d) n (zs.map (.int .i64)) ∧ Below w.heap.size w w' := by
  have h6 : n ≤ 6 := by have := good_len hg; omega
  have HR := Hid.mk hr
  have HG := Hid.mk hg
  have HZ := Hid.mk hz
  clear hr hg hz
  have hn0 : (0 : Int) ≤ n := by omega
  have hn6 : (n : Int) ≤ 6 := by omega
  obtain ⟨i0, hi, hz0, hz1, hz2⟩ := info_parts Try.infoInt
  obtain ⟨W, hW⟩ : ∃ W, W = ((w.alloc (.cells #[.int .i64 x0, .int .i64 x1, .int .i64 x2, .int .i64 x3, .int .i64 x4, .int .i64 x5] 98)).alloc (.cells #[.slice none 0 0] 69)).alloc (.cells #[.slice none 0 0] 69) := ⟨_, rfl⟩
  have B : Below w.heap.size w W := by rw [hW]; exact (((Below.refl _ _).alloc (Nat.le_refl _) _).alloc (by simp) _).alloc (by simp; omega) _
  have A1 : Arr W w.heap.size 98 (raised zs) := by rw [hW, HR.out]; exact ((Arr.new rfl (by simp)).alloc _).alloc _
  have q1 : W.heap[w.heap.size + 1]? = some (.cells #[.slice none 0 0] 69 (0, 0)) := by
    rw [hW]
    refine (Below.heap_alloc _ _ _ (by simp)).trans ?_
    have := heap_alloc_new (w.alloc (.cells #[.int .i64 x0, .int .i64 x1, .int .i64 x2, .int .i64 x3, .int .i64 x4, .int .i64 x5] 98)) (.cells #[.slice none 0 0] 69)
    rwa [World.size_alloc] at this
  have c1 : W.cell? ⟨w.heap.size + 1, 0, none⟩ = some (.slice none 0 0) := by rw [cell_of_row W _ 0 _ _ (0, 0) q1]; rfl
  have f1 : W.frozen? ⟨w.heap.size + 1, 0, none⟩ = false := frozen_of_row W _ 0 _ _ q1
  clear q1
  have V0 : RowVar W (w.heap.size + 1 + 1) 69 (w.heap.size + 1 + 1 + 1) 3 none 0 0 (zs.take 0) := by rw [hW]; exact RowVar.new (by simp) (by omega)
  have zW : W.heap.size = w.heap.size + 1 + 1 + 1 := by rw [hW]; simp
  have hl6 := raised_length (good_len HG.out)
  go_enter Try.func85, Try.ntmps85
  go_wp2
  rw [← hW]
  clear hW
  go_loopw [11] (fun i wr => ∃ (k : Nat) (r : Option Addr) (d : Nat), k ≤ n ∧ i = .int .i64 k ∧ RowVar wr (w.heap.size + 1 + 1) 69 (w.heap.size + 1 + 1 + 1) 3 r k d (zs.take k) ∧ Below (w.heap.size + 1 + 1) W wr) (fun i _ => n - (intOf i).toNat)
  case atStart => exact ⟨0, none, 0, Nat.zero_le _, rfl, V0, Below.refl _ _⟩
  case round =>
    clear V0
    obtain ⟨k, r, d, hk, rfl, hv, hbw⟩ := hrel
    have zR : w.heap.size + 1 + 1 < wr.heap.size := by have := hbw.size; omega
    by_cases hlt : k < n
    · have hcx := (A1.below hbw (by omega)).cell k (by omega)
      have hgk := good_cell HG.out k (by have := HZ.out; omega)
      have hx : (raised zs).getD k 0 = zs.getD k 0 + 100001 := by
        have : k < zs.length := by have := HZ.out; omega
        simp [raised, List.getD, List.getElem?_append, this]
      rw [hx] at hcx
      have HS := Hid.mk (take_succ_getD zs k (by have := HZ.out; omega))
      obtain ⟨y, hy⟩ : ∃ y, y = zs.getD k 0 := ⟨_, rfl⟩
      rw [← hy] at hcx HS hgk
      obtain ⟨hy1, hy2⟩ := hgk
      have hki : (k : Int) < (n : Int) := by omega
      have hcr := hv.cell
      have hfr := hv.frozen
      clear hy hx A1 c1 f1
      go_wp2_with (at_builtin; refine wpList_append_lies _ rfl (.tmp 16) (.tmp 20) 67 rfl (w.heap.size + 1 + 1 + 1) 3 i0 (.int .i64 0) 1 8 Try.underlying67 hi hz0 hz1 hz2 rfl (by decide) _ _ _ rfl (hv.own.alloc _) ⟨wr.heap.size, 0, none⟩ 1 1 [.int .i64 y] (by simp [Act.eval]) rfl (by have q : y + 100001 - 100000 - 1 = y := (by omega); simpa [q] using news_at wr #[.int .i64 y] 3) (by simp; rfl) (by decide) (by unfold maxLen; omega) (by omega) (by simp; omega) (wr.heap.size + 1) (by simp) ?_; intro g2 cap2 w4 hown4 hgrow4 _ _; obtain ⟨t1, t2, hv4⟩ := hv.pushed hown4 hgrow4)
      have HB := Hid.mk (hv.pushed_below (v := .slice (some ⟨g2, 0, none⟩) (k + 1) cap2) hgrow4 hbw (Nat.le_refl _))
      rw [← HS.out] at hv4
      have HV := Hid.mk hv4
      clear hv4 hown4 hgrow4 hv hbw t1 t2
      go_roundw
      case rel => exact ⟨k + 1, _, _, by omega, by go_num, HV.out, HB.out⟩
      case measure => simp [intOf]; omega
    · obtain rfl : k = n := by omega
      have htk : zs.take k = zs := List.take_of_length_le (by have := HZ.out; omega)
      rw [htk] at hv
      clear htk
      have hcr := hv.cell
      have e1 := (hbw.cell (p := ⟨w.heap.size + 1, 0, none⟩) (by simp)).trans c1
      have e2 := (hbw.frozen (p := ⟨w.heap.size + 1, 0, none⟩) (by simp)).trans f1
      clear c1 f1 A1
      go_wp2
      refine bodyPost_ret (v := .agg #[.slice r k d]) (by simp [results, Try.results85, go_sem, e1]) rfl ⟨r, d, rfl, ?_, ?_⟩
      · exact owns_mono (ownsRow_setCell_below (base := w.heap.size + 1 + 1 + 1) hv.own (show w.heap.size + 1 < w.heap.size + 1 + 1 + 1 by omega) _) (by omega)
      · exact (B.trans (hbw.mono (by omega))).setCell (by simp) _

end Go.Proofs.Ytaaefdddibdenaa

/- One more weighted row at a slice's end: what is owned behind 'append(rows, row)'. -/
namespace Go.Proofs.Ytaaefdddibdenaa
open Go.RowKit

theorem wat_left {ts ts' : List WRow} {i : Nat} (h : i < ts.length) : wat (ts ++ ts') i = wat ts i := by simp [wat, List.getD, List.getElem?_append_left h]
theorem wat_last (ts : List WRow) (t : WRow) : wat (ts ++ [t]) ts.length = t := by simp [wat, List.getD]

theorem OwnWk.pushed {w w2 w4 : World} {lo hi : Nat} {te ti : TypeId} {a a' : Option Addr} {n c m c' g cap : Nat} {ts : List WRow} {cells : List Value} {zs : List Int} {x : Int} {o : Obj} (h : OwnW w lo hi te ti a n c ts cells) (hlo : lo ≤ w.heap.size) (hb : Below w.heap.size w w2)
    (hm : zs.length = m) (hrow : w2.ownsRow w.heap.size ti 1 (.slice a' m c') m (zs.map (.int .i64)))
    (hown : w4.ownsRow lo te 2 (.slice (some ⟨g, 0, none⟩) (n + 1) cap) (n + 1) (cells ++ [.slice a' m c', .int .i64 x])) (hgr : (w2.alloc o).grownBy w4 (Value.slice a n c).ownBlock)
    (hat : (Value.slice a n c).ownBlock = some g ∨ g = w2.heap.size + 1) (hlt : g < w4.heap.size) :
    OwnW w4 lo w4.heap.size te ti (some ⟨g, 0, none⟩) (n + 1) cap (ts ++ [(zs, x)]) (cells ++ [.slice a' m c', .int .i64 x]) := by
  have hz := h.len
  have hl := h.outer.1
  have hz2 := hb.size
  have htop := h.top
  have hsz4 : w2.heap.size + 1 ≤ w4.heap.size := by have := hgr.size; simpa using this
  have hout : ∀ b, (Value.slice a n c).ownBlock = some b → b < w.heap.size := fun b hb' => Nat.lt_of_lt_of_le (h.outerLt b hb') htop
  have hL : ∀ i, i < n → (cells ++ [.slice a' m c', .int .i64 x])[i * 2]? = cells[i * 2]? ∧ (cells ++ [.slice a' m c', .int .i64 x])[i * 2 + 1]? = cells[i * 2 + 1]? := fun i hi =>
    ⟨List.getElem?_append_left (by omega), List.getElem?_append_left (by omega)⟩
  have hN0 : (cells ++ [.slice a' m c', .int .i64 x])[n * 2]? = some (.slice a' m c') := by
    rw [List.getElem?_append_right (by omega), show n * 2 - cells.length = 0 by omega]; rfl
  have hN1 : (cells ++ [.slice a' m c', .int .i64 x])[n * 2 + 1]? = some (.int .i64 x) := by
    rw [List.getElem?_append_right (by omega), show n * 2 + 1 - cells.length = 1 by omega]; rfl
  have hblk : ∀ i, i < n → blkW (cells ++ [.slice a' m c', .int .i64 x]) i = blkW cells i := fun i hi => by simp only [blkW, List.getD, (hL i hi).1]
  have hblkN : blkW (cells ++ [.slice a' m c', .int .i64 x]) n = (Value.slice a' m c').ownBlock := blkW_of hN0
  have hnew : ∀ b, (Value.slice a' m c').ownBlock = some b → w.heap.size ≤ b ∧ b < w2.heap.size := fun b hb' => hrow.lt b hb'
  have hold : ∀ i, i < n → ∀ b, blkW cells i = some b → b < w.heap.size := fun i hi b hb' => Nat.lt_of_lt_of_le (h.rowLt i hi b hb').1 htop
  refine ⟨by simp [hz], Nat.le_refl _, hown, fun b hb' => by simp [Value.ownBlock] at hb'; omega, fun i hi => ?_, fun i hi b hb' => ?_, fun i j hi hj hij b hb' => ?_⟩
  · by_cases e : i = n
    · subst e
      rw [show wat (ts ++ [(zs, x)]) i = (zs, x) by rw [← hz]; exact wat_last ts _]
      refine ⟨a', c', by rw [hN0, hm], hN1, ?_⟩
      simp only [hm]
      refine owns_mono ((hrow.alloc o).kept hgr ?_) hlo
      cases hv : (Value.slice a' m c').ownBlock with
      | none => exact .inl rfl
      | some k => exact .inr (fun e' => by have := hnew k hv; have := hout k e'.symm; omega)
    · have hi' : i < n := by omega
      obtain ⟨a1, c1, k1, k2, k3⟩ := h.row i hi'
      rw [wat_left (by omega)]
      refine ⟨a1, c1, by rw [(hL i hi').1]; exact k1, by rw [(hL i hi').2]; exact k2, ((owns_below k3 hb).alloc o).kept hgr ?_⟩
      cases hv : (Value.slice a1 (wat ts i).1.length c1).ownBlock with
      | none => exact .inl rfl
      | some k => exact .inr (fun e' => (h.rowLt i hi' k (by rw [blkW_of k1]; exact hv)).2 e'.symm)
  · by_cases e : i = n
    · subst e
      rw [hblkN] at hb'
      have := hnew b hb'
      refine ⟨by omega, fun e' => ?_⟩
      have hgb : g = b := by simpa [Value.ownBlock] using e'
      rcases hat with h' | h'
      · have := hout g h'; omega
      · omega
    · have hi' : i < n := by omega
      rw [hblk i hi'] at hb'
      have := hold i hi' b hb'
      refine ⟨by omega, fun e' => ?_⟩
      have hgb : g = b := by simpa [Value.ownBlock] using e'
      rcases hat with h' | h'
      · exact (h.rowLt i hi' b hb').2 (by rw [h', hgb])
      · omega
  · by_cases ei : i = n
    · subst ei
      rw [hblkN] at hb'
      have h1 := hnew b hb'
      rw [hblk j (by omega)]
      intro e'
      have := hold j (by omega) b e'
      omega
    · rw [hblk i (by omega)] at hb'
      by_cases ej : j = n
      · subst ej
        rw [hblkN]
        intro e'
        have := hnew b e'
        have := hold i (by omega) b hb'
        omega
      · rw [hblk j (by omega)]
        exact h.apart i j (by omega) (by omega) hij b hb'

end Go.Proofs.Ytaaefdddibdenaa

/- 'append(out, xs...)': out the call's own, xs whatever slice of ints: nil, empty or not; and a variable of a row behind the store. -/
namespace Go.Proofs.Ytaaefdddibdenaa
open Go.RowKit

theorem newcell (w : World) (v : Value) (t : TypeId) : (w.alloc (.cells #[v] t)).cell? ⟨w.heap.size, 0, none⟩ = some v := by simp
theorem newfrozen (w : World) (v : Value) (t : TypeId) : (w.alloc (.cells #[v] t)).frozen? ⟨w.heap.size, 0, none⟩ = false := by simp

theorem cell_set {w : World} {a : Addr} {u : Value} (h : w.cell? a = some u) (v : Value) : (w.setCell a v).cell? a = some v := World.cell?_setCell_same' w a v (by simp [h])
theorem size_lt (w : World) (o : Obj) : w.heap.size < (w.alloc o).heap.size := by simp
theorem lt_set {w : World} {a : Addr} {u : Value} (h : w.cell? a = some u) (v : Value) : a.block < (w.setCell a v).heap.size := by
  have := World.block_lt_of_cell? _ _ h
  simpa [World.setCell] using this
theorem keep_far {w : World} {b b' o o' : Nat} {v u : Value} (h : w.cell? ⟨b, o, none⟩ = some v) (hne : b ≠ b') : (w.setCell ⟨b', o', none⟩ u).cell? ⟨b, o, none⟩ = some v :=
  (World.cell?_of_block (Below.heap_setCell w ⟨b', o', none⟩ u b hne)).trans h

theorem owns_slice {w : World} {base : Nat} {e : TypeId} {size : Nat} {v : Value} {n : Nat} {xs : List Value} (h : w.ownsRow base e size v n xs) : ∃ r cap, v = .slice r n cap := by
  rcases h.2 with ⟨rfl, rfl⟩ | ⟨g, cap, cur, rfl, _⟩
  · exact ⟨none, 0, rfl⟩
  · exact ⟨_, cap, rfl⟩

theorem wpList_append_all {P : Program} {w : World} {ops : Array Oper} {rest : List Oper} {o : Oper} {a : Act} {Q : Exit → Act → World → Prop} (hgd : o.guard = none) (s x : Operand) (t : TypeId)
    (ho : o.op = .call { callee := .builtin .append, args := #[s, x], argTypes := #[t, t] })
    (base : Nat) (e : TypeId) (i : TypeInfo) (z : Value) (bytes : Nat) (ht : P.underlying t = some (.slice e)) (hi : P.info? e = some i) (hz : i.zero = some z)
    (hsize : i.size = 1) (hby : i.bytes = bytes) (hzs : z.cells.size = 1)
    (v : Value) (n : Nat) (xs : List Value) (hs : a.eval s = v) (hown : w.ownsRow base e 1 v n xs)
    (ao : Option Addr) (m c : Nat) (zs : List Int) (hx : a.eval x = .slice ao m c) (hl : zs.length = m) (hat : At w ao zs) (hnil : ao = none → c = 0)
    (h63 : n + m ≤ maxLen) (hbytes : (n + m) * bytes ≤ 140737488355328) (hbase : base ≤ w.heap.size)
    (h : ∀ r cap w', w'.ownsRow base e 1 (.slice r (n + m) cap) (n + m) (xs ++ zs.map (.int .i64)) → w.grownBy w' v.ownBlock → wpList P ops Q rest (a.put o.dst (.slice r (n + m) cap)) w') : wpList P ops Q (o :: rest) a w := by
  cases ao with
  | none =>
    have hc := hnil rfl
    have hzs' : zs = [] := by
      rcases hat with h | ⟨b, off, h, _⟩
      · exact h
      · cases h
    subst hzs' hc
    simp at hl
    subst hl
    refine wpList_append_own_none hgd s x t ho base e i 1 ht hi v n xs hs hown hx ?_
    obtain ⟨r, cap, rfl⟩ := owns_slice hown
    have := h r cap w (by simpa using hown) (World.grownBy.refl _ _)
    simpa using this
  | some ad =>
    refine wpList_append_own w hgd s x t ho base e i z 1 bytes ht hi hz hsize hby hzs (by decide) v n xs hs hown ad m c (zs.map (.int .i64)) hx (by simpa using hl) ?_ ?_ h63 hbytes hbase ?_
    · intro j u hj
      have hjl : j < zs.length := by
        have := (List.getElem?_eq_some_iff.1 hj).1
        simpa using this
      obtain ⟨b, off, he, _, hc⟩ := hat.some (by omega)
      simp only [Option.some.injEq] at he
      subst he
      rw [Addr.add_lit, hc j hjl]
      simpa [List.getD, hjl] using hj
    · intro u hu
      obtain ⟨y, _, rfl⟩ := List.mem_map.1 hu
      rfl
    · intro v' w' h2 h3 _
      obtain ⟨r, cap, rfl⟩ := owns_slice h2
      exact h r cap w' h2 h3

/-- Behind 'x.f = <a slice that the call owns>'. -/
theorem RowVar.put {w w1 : World} {R : Nat} {t : TypeId} {base : Nat} {e : TypeId} {a r : Option Addr} {n c k cap : Nat} {zs ys : List Int} (h : RowVar w R t base e a n c zs) (hl : ys.length = k)
    (hown : w1.ownsRow base e 1 (.slice r k cap) k (ys.map (.int .i64))) (hg : w.grownBy w1 (Value.slice a n c).ownBlock) :
    w1.cell? ⟨R, 0, none⟩ = some (.slice a n c) ∧ w1.frozen? ⟨R, 0, none⟩ = false ∧ RowVar (w1.setCell ⟨R, 0, none⟩ (.slice r k cap)) R t base e r k cap ys := by
  have hlt := (Array.getElem?_eq_some_iff.1 h.2.2.1).1
  have hR : w1.heap[R]? = some (.cells #[.slice a n c] t (0, 0)) := by
    rw [hg.block R hlt (fun e' => by have := (h.2.2.2.lt R e'.symm).1; have := h.2.1; omega)]
    exact h.2.2.1
  refine ⟨by rw [cell_of_row w1 R 0 _ t (0, 0) hR]; simp, frozen_of_row w1 R 0 _ t hR, hl, h.2.1, ?_, ?_⟩
  · rw [heap_setCell_same w1 R 0 _ t _ hR]; simp
  · exact ownsRow_setCell_below hown h.2.1 _
theorem RowVar.put_below {w w1 : World} {R : Nat} {t : TypeId} {base : Nat} {e : TypeId} {a : Option Addr} {n c : Nat} {zs : List Int} {B : Nat} {W : World} {v : Value} (h : RowVar w R t base e a n c zs)
    (hg : w.grownBy w1 (Value.slice a n c).ownBlock) (hB : Below B W w) (hBR : B ≤ R) : Below B W (w1.setCell ⟨R, 0, none⟩ v) := by
  have hlt := (Array.getElem?_eq_some_iff.1 h.2.2.1).1
  have hb := h.2.1
  exact (hB.grown hg (by omega) (fun j hj => by have := (h.2.2.2.lt j hj).1; omega)).setCell hBR _

/-- As RowVar, the slice's cells in any block of the call's own but the variable's. -/
def RowVar2 (w : World) (R : Nat) (t : TypeId) (base : Nat) (e : TypeId) (a : Option Addr) (n c : Nat) (zs : List Int) : Prop :=
  zs.length = n ∧ w.heap[R]? = some (.cells #[.slice a n c] t (0, 0)) ∧ w.ownsRow base e 1 (.slice a n c) n (zs.map (.int .i64)) ∧ ∀ k, (Value.slice a n c).ownBlock = some k → k ≠ R

theorem RowVar2.cell {w : World} {R : Nat} {t : TypeId} {base : Nat} {e : TypeId} {a : Option Addr} {n c : Nat} {zs : List Int} (h : RowVar2 w R t base e a n c zs) : w.cell? ⟨R, 0, none⟩ = some (.slice a n c) := by
  rw [cell_of_row w R 0 _ t (0, 0) h.2.1]; simp
theorem RowVar2.frozen {w : World} {R : Nat} {t : TypeId} {base : Nat} {e : TypeId} {a : Option Addr} {n c : Nat} {zs : List Int} (h : RowVar2 w R t base e a n c zs) : w.frozen? ⟨R, 0, none⟩ = false := frozen_of_row w R 0 _ t h.2.1
theorem RowVar2.own {w : World} {R : Nat} {t : TypeId} {base : Nat} {e : TypeId} {a : Option Addr} {n c : Nat} {zs : List Int} (h : RowVar2 w R t base e a n c zs) : w.ownsRow base e 1 (.slice a n c) n (zs.map (.int .i64)) := h.2.2.1
theorem RowVar2.lt {w : World} {R : Nat} {t : TypeId} {base : Nat} {e : TypeId} {a : Option Addr} {n c : Nat} {zs : List Int} (h : RowVar2 w R t base e a n c zs) : R < w.heap.size := (Array.getElem?_eq_some_iff.1 h.2.1).1
theorem RowVar2.below {w w' : World} {R : Nat} {t : TypeId} {base : Nat} {e : TypeId} {a : Option Addr} {n c : Nat} {zs : List Int} (h : RowVar2 w R t base e a n c zs) (hb : Below w.heap.size w w') : RowVar2 w' R t base e a n c zs :=
  ⟨h.1, (hb.block R h.lt).trans h.2.1, owns_below h.2.2.1 hb, h.2.2.2⟩
theorem RowVar2.new {w : World} {t : TypeId} {base : Nat} {e : TypeId} {a : Option Addr} {n c : Nat} {zs : List Int} (hl : zs.length = n) (h : w.ownsRow base e 1 (.slice a n c) n (zs.map (.int .i64))) : RowVar2 (w.alloc (.cells #[.slice a n c] t)) w.heap.size t base e a n c zs :=
  ⟨hl, heap_alloc_new w _, h.alloc _, fun k hk => by have := (h.lt k hk).2; omega⟩

theorem setCell_grown (w : World) (a : Addr) (v : Value) : w.grownBy (w.setCell a v) (some a.block) :=
  ⟨rfl, rfl, rfl, by simp [World.setCell], fun k _ hn => Below.heap_setCell w a v k (fun e => hn (by rw [e]))⟩

theorem RowVar2.pushed {w w1 : World} {R : Nat} {t : TypeId} {base : Nat} {e : TypeId} {a : Option Addr} {n c g cap : Nat} {zs : List Int} {x : Int} {o : Obj} (h : RowVar2 w R t base e a n c zs)
    (hown : w1.ownsRow base e 1 (.slice (some ⟨g, 0, none⟩) (n + 1) cap) (n + 1) (zs.map (.int .i64) ++ [.int .i64 x])) (hg : (w.alloc o).grownBy w1 (Value.slice a n c).ownBlock)
    (hat : (Value.slice a n c).ownBlock = some g ∨ g = w.heap.size + 1) :
    w1.cell? ⟨R, 0, none⟩ = some (.slice a n c) ∧ w1.frozen? ⟨R, 0, none⟩ = false ∧
      RowVar2 (w1.setCell ⟨R, 0, none⟩ (.slice (some ⟨g, 0, none⟩) (n + 1) cap)) R t base e (some ⟨g, 0, none⟩) (n + 1) cap (zs ++ [x]) := by
  have hlt := h.lt
  have hgR : g ≠ R := by
    rcases hat with h' | h'
    · exact h.2.2.2 g h'
    · omega
  have hR : w1.heap[R]? = some (.cells #[.slice a n c] t (0, 0)) := by
    rw [hg.block R (by simp; omega) (fun e' => h.2.2.2 R e'.symm rfl), Below.heap_alloc w o R hlt]
    exact h.2.1
  refine ⟨by rw [cell_of_row w1 R 0 _ t (0, 0) hR]; simp, frozen_of_row w1 R 0 _ t hR, by simp [h.1], ?_, ?_, ?_⟩
  · rw [heap_setCell_same w1 R 0 _ t _ hR]; simp
  · rw [List.map_append]
    exact hown.kept (setCell_grown w1 ⟨R, 0, none⟩ _) (.inr (by simp [Value.ownBlock, hgR]))
  · intro k hk
    simp [Value.ownBlock] at hk
    omega

theorem RowVar2.pushed_below {w w1 : World} {R : Nat} {t : TypeId} {base : Nat} {e : TypeId} {a : Option Addr} {n c : Nat} {zs : List Int} {o : Obj} {B : Nat} {W : World} {v : Value} (h : RowVar2 w R t base e a n c zs)
    (hg : (w.alloc o).grownBy w1 (Value.slice a n c).ownBlock) (hB : Below B W w) (hBR : B ≤ R) (hBb : B ≤ base) : Below B W (w1.setCell ⟨R, 0, none⟩ v) := by
  have hlt := h.lt
  exact ((hB.alloc (by omega) o).grown hg (by simp; omega) (fun j hj => by have := (h.2.2.1.lt j hj).1; omega)).setCell hBR _

end Go.Proofs.Ytaaefdddibdenaa
