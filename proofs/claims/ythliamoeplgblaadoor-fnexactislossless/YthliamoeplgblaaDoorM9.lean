/- Several texts of one proof, in build order: ChV, ChC, ChD. -/
import Derived.Test.YthliamoeplgblaaDoorM8
import Derived.Test.YthliamoeplgblaaDoorM6
import Derived.Laws.CopyOwn
import Derived.Test.YthliamoeplgblaaDoorM7
import Derived.Deep.CutBlock

/- A tableau that is made row by row: its variable, and its rows. -/
namespace Go.Proofs.YthliamoeplgblaaDoor
open Go.RowKit

structure TbVar (w : World) (P lo : Nat) (p : Int) (r : Option Addr) (k d : Nat) (zss : List (List Int)) (cells : List Value) (G : Nat → Nat → Prop) : Prop where
  blk : w.heap[P]? = some (.cells #[.int .i64 p, .slice r k d] 26 (0, 0))
  laid : Laid RInts w (From lo w.heap.size) 47 r k d zss cells G k
  lt : P < lo

section
variable {w w4 w6 : World} {P lo : Nat} {p : Int} {r r3 r4 : Option Addr} {k d m3 d3 d4 : Nat} {zss : List (List Int)} {cells : List Value} {G : Nat → Nat → Prop} {z : List Int}

theorem TbVar.owns (h : TbVar w P lo p r k d zss cells G) : w.ownsRow lo 47 1 (.slice r k d) k cells := owns_base h.laid.outer (fun b hb => (h.laid.outerF b hb).1)
theorem TbVar.size (h : TbVar w P lo p r k d zss cells G) : P < w.heap.size := (Array.getElem?_eq_some_iff.1 h.blk).1
theorem TbVar.below (h : TbVar w P lo p r k d zss cells G) (hb : Below w.heap.size w w4) : TbVar w4 P lo p r k d zss cells G :=
  ⟨(hb.block P h.size).trans h.blk, (h.laid.below hb).mono (fun _ hb' => ⟨hb'.1, Nat.lt_of_lt_of_le hb'.2 hb.size⟩), h.lt⟩
theorem TbVar.cell0 (h : TbVar w P lo p r k d zss cells G) : w.cell? ⟨P, 0, none⟩ = some (.int .i64 p) := by rw [cell_of_row _ _ 0 _ _ (0, 0) h.blk]; rfl
theorem TbVar.cell1 (h : TbVar w P lo p r k d zss cells G) : w.cell? ⟨P, 1, none⟩ = some (.slice r k d) := by rw [cell_of_row _ _ 1 _ _ (0, 0) h.blk]; rfl
theorem TbVar.frozen1 (h : TbVar w P lo p r k d zss cells G) : w.frozen? ⟨P, 1, none⟩ = false := frozen_of_row _ _ 1 _ _ h.blk

theorem TbVar.new (w : World) (p : Int) : TbVar (w.alloc (.cells #[.int .i64 p, .slice none 0 0] 26)) w.heap.size (w.heap.size + 1) p none 0 0 [] [] (fun _ _ => False) :=
  ⟨heap_alloc_new _ _, Laid.none _ _ _ _, Nat.lt_succ_self _⟩

/-- One row more: made behind w, appended, and the variable written. -/
theorem TbVar.pushed (h : TbVar w P lo p r k d zss cells G) (hlo : lo ≤ w.heap.size) (hb : Below w.heap.size w w4) (ho : RInts.Own w4 (From w.heap.size w4.heap.size) [.slice r3 m3 d3] z)
    (ho4 : w6.ownsRow lo 47 1 (.slice r4 (k + 1) d4) (k + 1) (cells ++ [.slice r3 m3 d3])) (hg4 : (w4.alloc (.cells #[.slice r3 m3 d3] 47)).grownBy w6 (Value.slice r k d).ownBlock)
    (ht4 : (Value.slice r4 (k + 1) d4).ownBlock = (Value.slice r k d).ownBlock ∨ (Value.slice r4 (k + 1) d4).ownBlock = some (w4.alloc (.cells #[.slice r3 m3 d3] 47)).heap.size) (hk : k ≤ 1048576) :
    ∃ G', TbVar (w6.setCell ⟨P, 1, none⟩ (.slice r4 (k + 1) d4)) P lo p r4 (k + 1) d4 (zss ++ [z]) (cells ++ [.slice r3 m3 d3]) G' := by
  have zb := hb.size
  have z5 : w4.heap.size < w6.heap.size := by have h9 := hg4.size; simp at h9; omega
  have BG : ∀ b, b < w4.heap.size → (Value.slice r k d).ownBlock ≠ some b → w6.heap[b]? = w4.heap[b]? := fun b hb hn => (hg4.block b (by simp; omega) (fun e => hn e.symm)).trans (Below.heap_alloc w4 _ b hb)
  have hpush := h.laid.push (F' := From lo w6.heap.size) (fun b h => h.2) hb ho (fun b h => h) BG (owns_mono ho4 (Nat.zero_le _)) (by
    rcases ht4 with h9 | h9
    · exact .inl h9
    · refine .inr (fun b e => ?_)
      rw [h9] at e
      simp at e
      omega) (by omega) (fun b h => ⟨h.1, by have := h.2; omega⟩) (fun b h => ⟨by have := h.1; omega, by have := h.2; omega⟩) (fun b h => ho4.lt b h)
  have hP : (Value.slice r k d).ownBlock ≠ some P := fun e => by have := (h.laid.outerF P e).1; have := h.lt; omega
  have hPs := h.size
  have hf := hpush.frame (w' := w6.setCell ⟨P, 1, none⟩ (.slice r4 (k + 1) d4)) (fun b hb' _ => Below.heap_setCell _ _ _ _ (by have h1 := hb'.1; have h2 := h.lt; show b ≠ P; omega))
  exact ⟨_, blk_set ((BG P (by omega) hP).trans ((hb.block P hPs).trans h.blk)) 1 _, hf.mono (fun b hb' => ⟨hb'.1, by have := hb'.2; simpa [World.setCell] using this⟩), h.lt⟩

theorem TbVar.at6 (h : TbVar w P lo p r k d zss cells G) (hb : Below w.heap.size w w4) (hg4 : (w4.alloc (.cells #[.slice r3 m3 d3] 47)).grownBy w6 (Value.slice r k d).ownBlock) :
    w6.cell? ⟨P, 1, none⟩ = some (.slice r k d) ∧ w6.frozen? ⟨P, 1, none⟩ = false := by
  have hP : (Value.slice r k d).ownBlock ≠ some P := fun e => by have := (h.laid.outerF P e).1; have := h.lt; omega
  have hPs := h.size
  have zb := hb.size
  have hblk : w6.heap[P]? = some (.cells #[.int .i64 p, .slice r k d] 26 (0, 0)) := (hg4.block P (by simp; omega) (fun e => hP e.symm)).trans ((Below.heap_alloc w4 _ P (by omega)).trans ((hb.block P hPs).trans h.blk))
  exact ⟨by rw [cell_of_row _ _ 1 _ _ (0, 0) hblk]; rfl, frozen_of_row _ _ 1 _ _ hblk⟩

/-- The same, told of the world. -/
theorem TbVar.pushed_below {B : Nat} {W : World} (h : TbVar w P lo p r k d zss cells G) (hB : B ≤ P) (hlo : lo ≤ w.heap.size) (hW : Below B W w) (hb : Below w.heap.size w w4)
    (hg4 : (w4.alloc (.cells #[.slice r3 m3 d3] 47)).grownBy w6 (Value.slice r k d).ownBlock) (v : Value) : Below B W (w6.setCell ⟨P, 1, none⟩ v) := by
  have hP := h.lt
  have hs := h.size
  have zb := hb.size
  refine Below.setCell (((hW.trans (hb.mono (by omega))).alloc (by omega) _).grown hg4 (by simp; omega) (fun j hj => ?_)) hB _
  have := (h.laid.outerF j hj).1
  omega

/-- What is read off at last. -/
theorem TbVar.own (h : TbVar w P lo p r k d zss cells G) : RRows.Own w (From lo w.heap.size) [.slice r k d] zss := ⟨_, _, _, cells, G, rfl, h.laid⟩
end

end Go.Proofs.YthliamoeplgblaaDoor

/- Contracts of impl.merge, impl.copyTableau. -/
namespace Go.Proofs.YthliamoeplgblaaDoor
open Go.RowKit

set_option maxRecDepth 100000 in
set_option maxHeartbeats 4000000 in
theorem merge_any (F : Nat → Prop) (g n c : Nat) (zs : List Int) (mk mg ml : Int) (w : World) (hn : n ≤ 1048576) (h0 : 0 ≤ mk) (h1 : mk < n) (hF : ∀ b, F b → b < w.heap.size) (ho : RInts.Own w F [.slice (some ⟨g, 0, none⟩) n c] zs) :
    Calls Tryd.prog 65 #[.agg #[.slice (some ⟨g, 0, none⟩) n c], .agg #[.int .i64 mk, .int .i64 mg, .int .i64 mk, .int .i64 ml]] w fun e w' => e = .returned (.tuple #[]) ∧ RInts.Own w' F [.slice (some ⟨g, 0, none⟩) n c] (mrgIn (mk, mg, ml) zs) ∧ Off F w w' := by
  obtain ⟨W, hW⟩ : ∃ W, W = (w.alloc (.cells #[.slice (some ⟨g, 0, none⟩) n c] 47)).alloc (.cells #[.int .i64 mk, .int .i64 mg, .int .i64 mk, .int .i64 ml] 90) := ⟨_, rfl⟩
  have B0 : Below w.heap.size w W := by rw [hW]; exact ((Below.refl _ _).alloc (Nat.le_refl _) _).alloc (by simp) _
  have c0 : W.cell? ⟨w.heap.size, 0, none⟩ = some (.slice (some ⟨g, 0, none⟩) n c) := by rw [hW]; simp [go_sem]
  have m0 : W.cell? ⟨w.heap.size + 1, 0, none⟩ = some (.int .i64 mk) := by rw [hW]; simp [go_sem]
  have m1 : W.cell? ⟨w.heap.size + 1, 1, none⟩ = some (.int .i64 mg) := by rw [hW]; simp [go_sem]
  have m3 : W.cell? ⟨w.heap.size + 1, 3, none⟩ = some (.int .i64 ml) := by rw [hW]; simp [go_sem]
  have HO : Hid (RInts.Own W F [.slice (some ⟨g, 0, none⟩) n c] (if mk.toNat < 0 then mrgIn (mk, mg, ml) zs else zs)) := RInts.ownBelow ho B0
  have HZ := Hid.mk (RInts.own_iff.1 ho).1
  have nF0 : ¬ F w.heap.size := fun h => by have := hF _ h; omega
  have nF1 : ¬ F (w.heap.size + 1) := fun h => by have := hF _ h; omega
  have HF := Hid.mk hF
  clear ho hF
  go_enter Tryd.func65, Tryd.ntmps65
  go_wp2_with fail
  rw [← hW]
  clear hW
  go_loopw [8] (fun i wr => ∃ k : Nat, k ≤ n ∧ i = .int .i64 k ∧ RInts.Own wr F [.slice (some ⟨g, 0, none⟩) n c] (if mk.toNat < k then mrgIn (mk, mg, ml) zs else zs) ∧ Off F W wr) (fun i _ => n - (intOf i).toNat)
  case atStart => exact ⟨0, Nat.zero_le _, rfl, HO.out, Off.refl _ _⟩
  case round =>
    clear HO
    obtain ⟨k, hk, rfl, hO, hof⟩ := hrel
    have d0 := hof.cell c0 nF0
    have p0 := hof.cell m0 nF1
    have p1 := hof.cell m1 nF1
    have p3 := hof.cell m3 nF1
    by_cases hlt : k < n
    · obtain ⟨ys, hys⟩ : ∃ ys, (if mk.toNat < k then mrgIn (mk, mg, ml) zs else zs) = ys := ⟨_, rfl⟩
      rw [hys] at hO
      obtain ⟨hyl, _, hown, hog⟩ := RInts.own_iff.1 hO
      have hat := ints_at hO
      obtain ⟨x, hx⟩ : ∃ x, x = ys.getD k 0 := ⟨_, rfl⟩
      have KS : Hid (∀ w', Below wr.heap.size wr w' → Calls Tryd.prog 72 #[.agg #[.slice (some ⟨g, 0, none⟩) n c], .int .i64 (k : Int)] w' fun e w'' => e = .returned (.agg #[.int .i64 (k : Int), .int .i64 x]) ∧ Below w'.heap.size w' w'') := fun w' h => by
        have h9 := symbolAt_any (some ⟨g, 0, none⟩) n c ys (k : Int) w' hyl hn (by omega) (by omega) (hat.below h)
        rw [show ((k : Int)).toNat = k by omega, ← hx] at h9
        exact h9
      have hki : (k : Int) < (n : Int) := by omega
      have HO := Hid.mk hO
      have HX := Hid.mk hx
      have HYL := Hid.mk hyl
      have HYS := Hid.mk hys
      have HOW := Hid.mk hown
      have HOF := Hid.mk hof
      have hgl : g < wr.heap.size := (hown.lt g rfl).2
      have hgF := hog g rfl
      have hg0 : g ≠ w.heap.size := fun e => nF0 (e ▸ hgF)
      have hg1 : g ≠ w.heap.size + 1 := fun e => nF1 (e ▸ hgF)
      clear hO hx hyl hys hown hog hat hof
      by_cases e1 : mk = (k : Int)
      · have HYZ : Hid (ys = zs) := by show _ = _; rw [← HYS.out, if_neg (by omega)]
        have HT : Hid (mk.toNat = k) := by show _ = _; omega
        by_cases e2 : mg = x
        · have HE : Hid (ys.set k ml = (if mk.toNat < k + 1 then mrgIn (mk, mg, ml) zs else zs)) := by
            show _ = _
            rw [if_pos (by have := HT.out; omega)]
            unfold mrgIn
            simp only
            rw [HT.out, if_pos (by rw [← HYZ.out, ← HX.out, e2]), HYZ.out]
          subst e1
          subst e2
          go_wp2_with fail
          go_region_held3 (fun w' => w'.cell? ⟨w.heap.size, 0, none⟩ = some (.slice (some ⟨g, 0, none⟩) n c) ∧ w'.cell? ⟨w.heap.size + 1, 0, none⟩ = some (.int .i64 (k : Int)) ∧ w'.cell? ⟨w.heap.size + 1, 1, none⟩ = some (.int .i64 mg)) (refine ⟨?_, ?_, ?_⟩ <;> assumption)
            (first | (go_at_call 72; refine (KS.out wr.drew (Below.refl _ _).drew).mono ?_; rintro e w2 ⟨rfl, hb2⟩; have s0 := cell_later hb2 d0; have s1 := cell_later hb2 p0; have s2 := cell_later hb2 p1) | fail)
          have hb3 : Below wr.heap.size wr w2 := (Below.refl _ _).drew.trans hb2
          have s3 := cell_later hb3 p3
          have hown2 := owns_below HOW.out hb3
          obtain ⟨u, hu⟩ : ∃ u, (ys.map (Value.int .i64))[k]? = some u := ⟨_, List.getElem?_eq_getElem (by have := HYL.out; simp; omega)⟩
          have s4 : w2.cell? ⟨g, k, none⟩ = some u := (hown2.cellAt k (by omega)).trans hu
          have s5 : w2.frozen? ⟨g, k, none⟩ = false := hown2.frozenAt _
          have hst := (hown2.stored k (.int .i64 ml)).1
          rw [← List.map_set, HE.out] at hst
          have HST : Hid (RInts.Own (w2.setCell ⟨g, k, none⟩ (.int .i64 ml)) F [.slice (some ⟨g, 0, none⟩) n c] (if (k : Int).toNat < k + 1 then mrgIn ((k : Int), mg, ml) zs else zs)) :=
            RInts.own_iff.2 ⟨by rw [← HE.out]; simp [HYL.out], by omega, hst, (RInts.own_iff.1 HO.out).2.2.2⟩
          have HOFF : Hid (Off F W (w2.setCell ⟨g, k, none⟩ (.int .i64 ml))) := (HOF.out.trans (Off.below hb3)).trans (Off.set (a := ⟨g, k, none⟩) hgF _)
          clear hst hown2 hu hb2 hb3 HO HOW HOF
          go_wp2
          go_roundw
          case rel => exact ⟨k + 1, by omega, by go_num, HST.out, HOFF.out⟩
          case measure => simp [intOf]; omega
        · have HE : Hid (ys = (if mk.toNat < k + 1 then mrgIn (mk, mg, ml) zs else zs)) := by
            show _ = _
            rw [if_pos (by have := HT.out; omega)]
            unfold mrgIn
            simp only
            rw [HT.out, if_neg (by rw [← HYZ.out, ← HX.out]; exact fun h => e2 h.symm), HYZ.out]
          have e2' : ¬ x = mg := fun h => e2 h.symm
          subst e1
          go_wp2_with fail
          go_region_held3 (fun w' => w'.cell? ⟨w.heap.size, 0, none⟩ = some (.slice (some ⟨g, 0, none⟩) n c) ∧ w'.cell? ⟨w.heap.size + 1, 0, none⟩ = some (.int .i64 (k : Int)) ∧ w'.cell? ⟨w.heap.size + 1, 1, none⟩ = some (.int .i64 mg)) (refine ⟨?_, ?_, ?_⟩ <;> assumption)
            (first | (go_at_call 72; refine (KS.out wr.drew (Below.refl _ _).drew).mono ?_; rintro e w2 ⟨rfl, hb2⟩; have s0 := cell_later hb2 d0; have s1 := cell_later hb2 p0; have s2 := cell_later hb2 p1) | fail)
          have hb3 : Below wr.heap.size wr w2 := (Below.refl _ _).drew.trans hb2
          have HO2 : Hid (RInts.Own w2 F [.slice (some ⟨g, 0, none⟩) n c] (if (k : Int).toNat < k + 1 then mrgIn ((k : Int), mg, ml) zs else zs)) := by
            have h9 := RInts.ownBelow HO.out hb3
            rw [HE.out] at h9
            exact h9
          have HOFF : Hid (Off F W w2) := HOF.out.trans (Off.below hb3)
          clear hb2 hb3 HO HOW HOF
          go_wp2
          go_roundw
          case rel => exact ⟨k + 1, by omega, by go_num, HO2.out, HOFF.out⟩
          case measure => simp [intOf]; omega
      · have HE : Hid (ys = (if mk.toNat < k + 1 then mrgIn (mk, mg, ml) zs else zs)) := by
          show _ = _
          rw [← HYS.out]
          by_cases h9 : mk.toNat < k
          · rw [if_pos h9, if_pos (by omega)]
          · rw [if_neg h9, if_neg (by omega)]
        have e1' : ¬ (k : Int) = mk := fun h => e1 h.symm
        go_wp2_with fail
        go_region_held3 (fun w' => w'.cell? ⟨w.heap.size, 0, none⟩ = some (.slice (some ⟨g, 0, none⟩) n c) ∧ w'.cell? ⟨w.heap.size + 1, 0, none⟩ = some (.int .i64 mk) ∧ w'.cell? ⟨w.heap.size + 1, 1, none⟩ = some (.int .i64 mg)) (refine ⟨?_, ?_, ?_⟩ <;> assumption)
          (first | (go_at_call 72; refine (KS.out wr.drew (Below.refl _ _).drew).mono ?_; rintro e w2 ⟨rfl, hb2⟩; have s0 := cell_later hb2 d0; have s1 := cell_later hb2 p0; have s2 := cell_later hb2 p1) | fail)
        have hb3 : Below wr.heap.size wr w2 := (Below.refl _ _).drew.trans hb2
        have HO2 : Hid (RInts.Own w2 F [.slice (some ⟨g, 0, none⟩) n c] (if mk.toNat < k + 1 then mrgIn (mk, mg, ml) zs else zs)) := by
          have h9 := RInts.ownBelow HO.out hb3
          rw [HE.out] at h9
          exact h9
        have HOFF : Hid (Off F W w2) := HOF.out.trans (Off.below hb3)
        clear hb2 hb3 HO HOW HOF
        go_wp2
        go_roundw
        case rel => exact ⟨k + 1, by omega, by go_num, HO2.out, HOFF.out⟩
        case measure => simp [intOf]; omega
    · obtain rfl : k = n := by omega
      rw [if_pos (by omega)] at hO
      have HO := Hid.mk hO
      have HOFF : Hid (Off F w wr) := (Off.below B0).trans hof
      clear hO hof
      go_wp2
      refine bodyPost_end (v := .tuple #[]) (by simp [results, Tryd.results65, go_sem]) rfl ⟨rfl, HO.out, HOFF.out⟩

end Go.Proofs.YthliamoeplgblaaDoor

/- Contract of impl.copyTableau. -/
namespace Go.Proofs.YthliamoeplgblaaDoor
open Go.RowKit

theorem take_snocS {zss : List (List Int)} {k : Nat} {z : List Int} (h : zss[k]? = some z) : zss.take (k + 1) = zss.take k ++ [z] := by
  obtain ⟨hk, rfl⟩ := List.getElem?_eq_some_iff.1 h
  rw [List.take_succ_eq_append_getElem hk]

/-- copy(dst, src): dst a row that was made of the same length, src whatever it is. -/
theorem run_copy_all {P : Program} (w : World) (dT sT ty elem : TypeId) (g m dCap : Nat) (sp : Option Addr) (sCap : Nat) (cur cs : List Value) (t : TypeId)
    (hu : P.underlying dT = some (.slice elem)) (hs : (P.info? elem).map (·.size) = some 1) (hg : w.heap[g]? = some (.cells cur.toArray t (0, 0))) (hc : cur.length = m) (hn : cs.length = m)
    (hpos : 0 < cs.length → ∃ ad, sp = some ad ∧ ∀ (j : Nat) (v : Value), cs[j]? = some v → w.cell? (ad.add j) = some v) (h1 : ∀ v ∈ cs, v.oneCell' = true) :
    ∃ w', (Builtin.copy_ #[dT, sT] ty #[.slice (some ⟨g, 0, none⟩) m dCap, .slice sp m sCap]).run P w = .ok (goInt m) w' ∧ w'.heap[g]? = some (.cells cs.toArray t (0, 0)) ∧ Below g w w' := by
  by_cases h0 : m = 0
  · subst h0
    obtain rfl := List.eq_nil_of_length_eq_zero hn
    obtain rfl := List.eq_nil_of_length_eq_zero hc
    exact ⟨w, run_copy_none (P := P) w dT sT ty elem _ sp 0 dCap 0 sCap hu hs rfl, hg, Below.refl _ _⟩
  · obtain ⟨ad, rfl, hsrc⟩ := hpos (by omega)
    have hrun := run_copy_row P w dT sT ty elem g 0 m dCap ad m sCap cur.toArray t cs hu hs hg (by rw [hn]; simp) hsrc (by simp; omega) h1
    refine ⟨_, by rw [hrun, hn], ?_, below_setRow (Below.refl _ _) (Nat.le_refl _) _⟩
    have h9 := setRow_heap w g cur.toArray (cur.toArray.toList.take 0 ++ cs ++ cur.toArray.toList.drop (0 + m)).toArray t (0, 0) hg
    rw [h9]
    simp only [List.take_zero, List.nil_append, Nat.zero_add]
    rw [List.drop_of_length_le (by omega), List.append_nil]

set_option maxRecDepth 100000 in
set_option maxHeartbeats 4000000 in
theorem copyTableau_any (p : Int) (a : Option Addr) (n c : Nat) (zss : List (List Int)) (w : World) (hz : zss.length = n) (hn : n ≤ 1048576) (hs : ∀ (k : Nat) (z : List Int), zss[k]? = some z → z.length ≤ 1048576) (ha : AtS w a zss) :
    Calls Tryd.prog 53 #[.agg #[.int .i64 p, .slice a n c]] w fun e w' => ∃ r d, e = .returned (.agg #[.int .i64 p, .slice r n d]) ∧ RRows.Own w' (From w.heap.size w'.heap.size) [.slice r n d] zss ∧ Below w.heap.size w w' := by
  obtain ⟨i0, hi, hz0, hz1, hz2⟩ := info_parts Tryd.infoInt
  obtain ⟨k0, hk0, hx0, hx1, hx2⟩ := info_parts Tryd.infoRow
  obtain ⟨V, hV⟩ : ∃ V, V = (w.alloc (.cells #[.int .i64 p, .slice a n c] 26)).alloc (.cells #[.int .i64 0, .slice none 0 0] 26) := ⟨_, rfl⟩
  obtain ⟨W, hW⟩ : ∃ W, W = V.alloc (.cells #[.int .i64 p, .slice none 0 0] 26) := ⟨_, rfl⟩
  have zV : V.heap.size = w.heap.size + 1 + 1 := by rw [hV]; simp
  have B0 : Below w.heap.size w V := by rw [hV]; exact ((Below.refl _ _).alloc (Nat.le_refl _) _).alloc (by simp) _
  have hbV : Below V.heap.size V W := by rw [hW]; exact (Below.refl _ _).alloc (Nat.le_refl _) _
  have BW := B0.trans (hbV.mono B0.size)
  have TV : Hid (TbVar W (w.heap.size + 1 + 1) (w.heap.size + 1 + 1 + 1) p none 0 0 (zss.take 0) [] (fun _ _ => False)) := by
    have h := TbVar.new V p
    rw [← hW, zV] at h
    exact h
  have b1 : V.heap[w.heap.size + 1]? = some (.cells #[.int .i64 0, .slice none 0 0] 26 (0, 0)) := by
    rw [hV]
    have h := heap_alloc_new (w.alloc (.cells #[.int .i64 p, .slice a n c] 26)) (.cells #[.int .i64 0, .slice none 0 0] 26)
    simpa only [World.size_alloc] using h
  have c1 : W.cell? ⟨w.heap.size, 1, none⟩ = some (.slice a n c) := by rw [hW, hV]; simp [go_sem]
  have q1 := blk_below b1 hbV
  have zW : W.heap.size = w.heap.size + 1 + 1 + 1 := by rw [hW]; simp [zV]
  have HZW := Hid.mk zW
  have HA := Hid.mk ha
  have HZ := Hid.mk hz
  have HS := Hid.mk hs
  have hWV : W = ((w.alloc (.cells #[.int .i64 p, .slice a n c] 26)).alloc (.cells #[.int .i64 0, .slice none 0 0] 26)).alloc (.cells #[.int .i64 p, .slice none 0 0] 26) := by rw [hW, hV]
  clear ha hz hs zV b1 hbV hW hV B0 zW
  go_enter Tryd.func53, Tryd.ntmps53
  go_upto_region 2 with fail
  rw [← hWV]
  clear hWV
  go_wp2_with fail
  go_loopw [13] (fun i wr => ∃ (k : Nat) (r : Option Addr) (d : Nat) (cells : List Value) (G : Nat → Nat → Prop), k ≤ n ∧ i = .int .i64 k ∧ TbVar wr (w.heap.size + 1 + 1) (w.heap.size + 1 + 1 + 1) p r k d (zss.take k) cells G ∧ Below (w.heap.size + 1 + 1) W wr) (fun i _ => n - (intOf i).toNat)
  case atStart => exact ⟨0, none, 0, [], _, Nat.zero_le _, rfl, TV.out, Below.refl _ _⟩
  case round =>
    clear TV
    obtain ⟨k, r, d, cells, G, hk, rfl, hT, hbw⟩ := hrel
    have zr : w.heap.size + 1 + 1 + 1 ≤ wr.heap.size := by have := hT.size; omega
    have Bw : Below w.heap.size w wr := BW.trans (hbw.mono (by omega))
    have q2 : wr.heap[w.heap.size + 1]? = some (.cells #[.int .i64 0, .slice none 0 0] 26 (0, 0)) := (hbw.block _ (by omega)).trans q1
    by_cases hlt : k < n
    · obtain ⟨b, off, rfl, hc⟩ := (HA.out.below Bw).some (by have := HZ.out; omega)
      obtain ⟨ys, hy⟩ : ∃ ys, zss[k]? = some ys := ⟨_, List.getElem?_eq_getElem (by have := HZ.out; omega)⟩
      obtain ⟨a', c', hcx, _, hat⟩ := hc k (by have := HZ.out; omega)
      have hgk : zss.getD k [] = ys := by simp [List.getD, hy]
      have hsm := HS.out k ys hy
      rw [hgk] at hcx hat
      obtain ⟨m, hm⟩ : ∃ m, ys.length = m := ⟨_, rfl⟩
      rw [hm] at hcx hsm
      have hki : (k : Int) < (n : Int) := by omega
      obtain ⟨U, hU⟩ : ∃ U, U = wr.alloc (.cells #[.slice a' m c'] 47) := ⟨_, rfl⟩
      have hbU : Below wr.heap.size wr U := by rw [hU]; exact (Below.refl _ _).alloc (Nat.le_refl _) _
      have zU : wr.heap.size < U.heap.size := by rw [hU]; simp
      have r0 : U.cell? ⟨wr.heap.size, 0, none⟩ = some (.slice a' m c') := by rw [hU]; exact row0 _ _ _
      have HTK : Hid (zss.take (k + 1) = zss.take k ++ [ys]) := take_snocS hy
      have HM := Hid.mk hm
      have HT := Hid.mk hT
      have HB := Hid.mk hbw
      have HAT := Hid.mk (hat.below hbU)
      have HBU := Hid.mk hbU
      clear hc hy hgk hm hat hT hbw hbU q2 Bw
      go_upto_region 5 with fail
      rw [← hU]
      clear hU hcx
      go_upto_region 6 with (at_make; refine wpList_make_full _ rfl _ _ 43 rfl U.heap.size 3 i0 (.int .i64 0) 1 Tryd.underlying43 hi hz0 hz1 .i64 .i64 _ _ m rfl rfl rfl rfl (by rw [hz2]; omega) (by unfold maxLen; omega) (Nat.le_refl _) ?_; intro w1 hown hg; have hb1 : Below U.heap.size U w1 := (Below.refl _ _).grown hg (Nat.le_refl _) (by simp); have r1 := cell_later hb1 r0)
      obtain ⟨cur, hcl, hcb⟩ : ∃ cur : List Value, cur.length = m ∧ w1.heap[U.heap.size]? = some (.cells cur.toArray 3 (0, 0)) := by
        rcases hown.2 with ⟨h', _⟩ | ⟨g', cap', cur, h', _, hg', _, _, hcs, _⟩
        · simp at h'
        · simp only [Value.slice.injEq, Option.some.injEq, Addr.mk.injEq, and_true, true_and] at h'
          obtain ⟨rfl, rfl⟩ := h'
          exact ⟨cur.toList, by simpa using hcs, by simpa using hg'⟩
      have HAT1 := Hid.mk (HAT.out.below hb1)
      have HBU1 := Hid.mk (HBU.out.trans (hb1.mono HBU.out.size))
      obtain ⟨cs, hcs⟩ : ∃ cs, cs = ys.map (Value.int .i64) := ⟨_, rfl⟩
      have hcsl : cs.length = m := by rw [hcs, List.length_map]; exact HM.out
      have HCS := Hid.mk hcs
      have HPOS : Hid (0 < cs.length → ∃ ad, a' = some ad ∧ ∀ (j : Nat) (v : Value), cs[j]? = some v → w1.cell? (ad.add j) = some v) := fun hp => by
        obtain ⟨b2, off2, rfl, _, hc2⟩ := HAT1.out.some (by have := HM.out; omega)
        refine ⟨_, rfl, fun j v hv => ?_⟩
        rw [HCS.out] at hv
        have hj : j < ys.length := by have := (List.getElem?_eq_some_iff.1 hv).1; simpa using this
        rw [Addr.add_lit, hc2 j hj]
        simp only [List.getElem?_map, List.getElem?_eq_getElem hj, Option.map_some, Option.some.injEq] at hv
        rw [← hv]; simp [List.getD, hj]
      have hones : ∀ v ∈ cs, v.oneCell' = true := fun v hv => by
        rw [HCS.out] at hv
        obtain ⟨z, _, rfl⟩ := List.mem_map.1 hv
        rfl
      clear hown hg hb1 hcs r0
      obtain ⟨w2, hrun, hg2, hb2'⟩ := run_copy_all (P := Tryd.prog) w1 43 43 3 3 U.heap.size m m a' c' cur cs 3 Tryd.underlying43 (by kernel_rfl) hcb hcl hcsl HPOS.out hones
      have hb2 : Below wr.heap.size wr w2 := HBU1.out.trans (hb2'.mono (by omega))
      go_upto_region 7 with fail
      clear hrun hb2'
      have hown2 : w2.ownsRow U.heap.size 3 1 (.slice (some ⟨U.heap.size, 0, none⟩) m m) m (ys.map (.int .i64)) := by
        rw [← HCS.out]
        exact ⟨by rw [hcsl]; omega, .inr ⟨U.heap.size, m, cs.toArray, rfl, Nat.le_refl _, hg2, Nat.le_refl _, by unfold maxLen; omega, by simp [hcsl], by simp [hcsl, List.take_of_length_le]⟩⟩
      have HOI : Hid (RInts.Own w2 (From wr.heap.size w2.heap.size) [.slice (some ⟨U.heap.size, 0, none⟩) m m] ys) := RInts.mono (RInts.of_owns HM.out (by omega) hown2) (fun b h => ⟨by have := h.1; omega, h.2⟩)
      have T2 := HT.out.below hb2
      have g1 := T2.cell1
      have HW2 := Hid.mk T2.owns
      have HB2 := Hid.mk hb2
      have z2 : w.heap.size + 1 + 1 + 1 ≤ w2.heap.size := by have := hb2.size; omega
      clear hg2 hown2 T2 hb2 hcb HPOS HAT HAT1 r1 hones hcsl HBU1
      go_wp2_with (at_builtin; refine wpList_app_vals rfl (.tmp 26) (.tmp 29) 24 rfl (w.heap.size + 1 + 1 + 1) 47 k0 (.agg #[.slice none 0 0]) 1 24 Tryd.underlying24 hk0 hx0 hx1 hx2 rfl (by decide) (.slice r k d) k cells rfl (HW2.out.alloc _) (some ⟨w2.heap.size, 0, none⟩) 1 1 [.slice (some ⟨U.heap.size, 0, none⟩) m m] rfl rfl (fun ad he => by cases he; simpa using news_at w2 #[.slice (some ⟨U.heap.size, 0, none⟩) m m] 47) (by simp; rfl) (fun h => by cases h) (by unfold maxLen; omega) (by omega) (by simp; omega) ?_; intro r4 d4 w6 ho4 hg4 ht4; have x1 := (HT.out.at6 HB2.out hg4).1; have x2 := (HT.out.at6 HB2.out hg4).2)
      obtain ⟨G', hT'⟩ := HT.out.pushed zr HB2.out HOI.out ho4 hg4 ht4 (by omega)
      have hB' := HT.out.pushed_below (B := w.heap.size + 1 + 1) (Nat.le_refl _) zr HB.out HB2.out hg4 (.slice r4 (k + 1) d4)
      rw [← HTK.out] at hT'
      have HT' := Hid.mk hT'
      have HB' := Hid.mk hB'
      clear hT' hB' ho4 hg4 ht4 x1 x2 HT HB2 HOI HW2 HB
      go_wp2
      go_roundw
      case rel => exact ⟨k + 1, r4, d4, _, G', by omega, by go_num, HT'.out, HB'.out⟩
      case measure => simp [intOf]; omega
    · obtain rfl : k = n := by omega
      have HTA : Hid (zss.take k = zss) := List.take_of_length_le (by have := HZ.out; omega)
      rw [HTA.out] at hT
      have g0 := hT.cell0
      have g1 := hT.cell1
      have e0 := blk_cell q2 0 (v := .int .i64 0) rfl
      have e1 := blk_cell q2 1 (v := .slice none 0 0) rfl
      have f0 := blk_frozen q2 0
      have f1 := blk_frozen q2 1
      have HO := Hid.mk (hT.own)
      clear hT hbw q2 q1
      go_wp2
      refine bodyPost_ret (v := .agg #[.int .i64 p, .slice r k d]) (by simp [results, Tryd.results53, go_sem, e0, e1]) rfl ⟨r, d, rfl, ?_, ?_⟩
      · refine RRows.mono (RRows.ownOff (RRows.ownOff HO.out (Off.set (F := From 0 (w.heap.size + 1 + 1)) (a := ⟨w.heap.size + 1, 0, none⟩) ⟨by simp, by simp⟩ _) (fun b h h' => by have := h.1; have := h'.2; omega)) (Off.set (F := From 0 (w.heap.size + 1 + 1)) (a := ⟨w.heap.size + 1, 1, none⟩) ⟨by simp, by simp⟩ _) (fun b h h' => by have := h.1; have := h'.2; omega)) (fun b h => ⟨by have := h.1; omega, by have := h.2; simp only [World.setCell, Array.size_modify]; exact this⟩)
      · exact (Bw.setCell (by simp) _).setCell (by simp) _

end Go.Proofs.YthliamoeplgblaaDoor
