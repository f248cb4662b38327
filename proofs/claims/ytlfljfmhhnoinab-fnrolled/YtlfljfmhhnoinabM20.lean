/- Several texts of one proof, in build order: GrpsV, Pick, Nought, GtX. -/
import Derived.Test.YtlfljfmhhnoinabM17
import Derived.Test.YtlfljfmhhnoinabM18
import Derived.Test.YtlfljfmhhnoinabM19
import Derived.Test.YtlfljfmhhnoinabM6
import Derived.Test.YtlfljfmhhnoinabM16
import Derived.Deep.AppendLies
import Derived.Deep.RegionLaw
import Derived.Test.YtlfljfmhhnoinabM8
import Derived.Test.YtlfljfmhhnoinabM14

/- Contract of impl.groupSums.groups. -/
namespace Go.Proofs.Ytlfljfmhhnoinab
open Go.RowKit Go.Maps

/-- What a function that tells groups or nothing hands back. -/
def GrpRet (e : Ending) (w' : World) (lo : Nat) (ok : Bool) (ts : List GRow) : Prop :=
  ∃ r m d, e = .returned (.tuple #[.slice r m d, .bool ok]) ∧ OwnGr w' lo w'.heap.size r m d ts
def ansG (ok : Bool) (ts : List GRow) : List GRow := if ok then ts else []
theorem GrpRet.zero {e : Ending} {w' : World} {lo : Nat} {ok : Bool} {ts : List GRow} (h : ok = false) (he : e = .returned (.tuple #[.slice none 0 0, .bool false])) : GrpRet e w' lo ok (ansG ok ts) := by
  subst h
  exact ⟨none, 0, 0, he, OwnGr.nil w' lo⟩
theorem goodV_of_ok {ok : Bool} {ts : List GRow} (h : ok = true → goodV ts = true) : SmV (ansG ok ts) (ansG ok ts).length := by
  refine ⟨rfl, ?_⟩
  cases ok with
  | false => simp [ansG, vtot]
  | true =>
    have hg := h rfl
    have h60 := (goodV_parts hg).1
    have : ∀ k, k ≤ ts.length → vtot ts k ≤ k * 7 := by
      intro k hk
      induction k with
      | zero => simp [vtot_zero]
      | succ k ih =>
        rw [vtot_succ ts k (by omega)]
        have := ih (by omega)
        have := good_len (goodG_cells (stepV_good ((goodV_parts hg).2 k (by omega)))).1
        omega
    have := this ts.length (Nat.le_refl _)
    show vtot ts ts.length ≤ 1048576
    omega

def grpsOf (q : Nat) (f : List Int → Amt) (ks : List Six) : List GRow := ks.map fun x => (unr q (Six.list x), f (Six.list x))
theorem grpsOf_length (q : Nat) (f : List Int → Amt) (ks : List Six) : (grpsOf q f ks).length = ks.length := by simp [grpsOf]
abbrev katV (ks : List Six) (k : Nat) : Six := ks.getD k (0, 0, 0, 0, 0, 0)
theorem katV_mem {ks : List Six} {k : Nat} (h : k < ks.length) : katV ks k ∈ ks := by
  rw [show katV ks k = ks[k] by simp [katV, List.getD, h]]; exact List.getElem_mem h
theorem grpsOf_at (q : Nat) (f : List Int → Amt) (ks : List Six) (k : Nat) (h : k < ks.length) : gat (grpsOf q f ks) k = (unr q (Six.list (katV ks k)), f (Six.list (katV ks k))) := by
  simp [grpsOf, gat, katV, List.getD, h]
theorem grpsOf_take (q : Nat) (f : List Int → Amt) (ks : List Six) (k : Nat) (h : k < ks.length) : (grpsOf q f ks).take (k + 1) = (grpsOf q f ks).take k ++ [(unr q (Six.list (katV ks k)), f (Six.list (katV ks k)))] := by
  rw [vtake_succ _ k (by rw [grpsOf_length]; exact h), grpsOf_at q f ks k h]
theorem six_cellsV {w : World} {base g n c : Nat} {e : TypeId} {ks : List Six} (hn : ks.length = n) (h : w.ownsRow base e 6 (.slice (some ⟨g, 0, none⟩) n c) n (ks.flatMap Six.enc)) (k : Nat) (hk : k < n) (j : Nat) (hj : j < 6) :
    w.cell? ⟨g, k * 6 + j, none⟩ = some ((Six.enc (katV ks k))[j]!) := by
  rw [h.cellAt _ (by omega), flat_get ks _ (by omega), show (k * 6 + j) / 6 = k by omega, show (k * 6 + j) % 6 = j by omega]
  congr 2
  have : k < ks.length := by omega
  simp [katV, List.getD, this]

/-- The keys of a map that tells groups, in order, tell them. -/
theorem TellsV.of {D : DataW Unit} {q : Nat} {f : List Int → Amt} {ts : List GRow} {ks : List Six} (hm : MapV D f) (hT : TellsV q f ts) (hrise : ks.Pairwise fun x y => cmp (Six.list x) (Six.list y) < 0) (hfit : ∀ x ∈ ks, Fits (Six.list x))
    (hjust : ∀ x : Six, Fits (Six.list x) → (x ∈ ks ↔ Maps.has D (klit (Six.list x)) = true)) :
    grpsOf q f ks = ts ∧ ∀ x ∈ ks, ∃ zs, good zs = true ∧ zs.length = q ∧ Six.list x = raised zs := by
  have hnz : ∀ x ∈ ks, f (Six.list x) ≠ (0, 0) := fun x hx => by
    have h1 := (hjust x (hfit x hx)).1 hx
    rw [(hm _ (hfit x hx)).2] at h1
    exact of_decide_eq_true h1
  have hrow : ∀ x ∈ ks, ∃ zs, good zs = true ∧ zs.length = q ∧ Six.list x = raised zs := fun x hx => hT.keys _ (hnz x hx)
  have hun : ∀ x ∈ ks, good (unr q (Six.list x)) = true ∧ (unr q (Six.list x)).length = q ∧ raised (unr q (Six.list x)) = Six.list x := fun x hx => by
    obtain ⟨zs, h1, h2, h3⟩ := hrow x hx
    have h4 : unr q (Six.list x) = zs := by rw [h3, ← h2, unr_raised]
    rw [h4, h3]; exact ⟨h1, h2, rfl⟩
  have hrs : RisesV (grpsOf q f ks) := by
    unfold RisesV grpsOf
    rw [List.pairwise_map]
    refine hrise.imp_of_mem fun {x y} hx hy h => ?_
    show cmp (unr q (Six.list x)) (unr q (Six.list y)) < 0
    rw [← cmp_raised (hun x hx).1 (hun y hy).1, (hun x hx).2.2, (hun y hy).2.2]
    exact h
  refine ⟨TellsV.unique (q := q) (f := f) ⟨hrs, ?_, ?_, ?_, hT.keys⟩ hT, hrow⟩
  · intro t ht
    obtain ⟨x, hx, rfl⟩ := List.mem_map.1 ht
    exact hnz x hx
  · intro t ht
    obtain ⟨x, hx, rfl⟩ := List.mem_map.1 ht
    exact ⟨(hun x hx).1, (hun x hx).2.1⟩
  · intro zs hg hl
    have hF := fits_raised hg
    obtain ⟨x, hx⟩ := six_of hF.1
    by_cases h : x ∈ ks
    · have hmem : ((unr q (Six.list x), f (Six.list x)) : GRow) ∈ grpsOf q f ks := List.mem_map.2 ⟨x, h, rfl⟩
      have := vOf_mem hrs hmem
      simp only at this
      rw [hx] at this
      have h6 : unr q (raised zs) = zs := by rw [← hl, unr_raised]
      rwa [h6] at this
    · have h0 : f (raised zs) = (0, 0) := by
        rw [← hx] at hF ⊢
        by_cases e : f (Six.list x) = (0, 0)
        · exact e
        · exact absurd ((hjust x hF).2 (by rw [(hm _ hF).2]; exact decide_eq_true e)) h
      rw [h0]
      refine vOf_absent fun t ht e => h ?_
      obtain ⟨y, hy, rfl⟩ := List.mem_map.1 ht
      have h5 := (hun y hy).2.2
      simp only at e
      rw [e] at h5
      have : Six.list x = Six.list y := hx.trans h5
      rw [Six.list_inj this]; exact hy

set_option maxRecDepth 100000 in
set_option maxHeartbeats 8000000 in
theorem groupsV_any (b q M : Nat) (ts : List GRow) (w : World) (hM : M ≤ 1000000) (h6 : q ≤ 6) (hcv : CntV w b q M ts) :
    Calls Try.prog 48 #[.map (some b), .int .i64 q] w fun e w' => GrpRet e w' w.heap.size (goodV ts) (ansG (goodV ts) ts) ∧ Below w.heap.size w w' := by
  obtain ⟨i0, hi, hz0, hz1, hz2⟩ := info_parts Try.infoV
  have hbl := hcv.lt
  obtain ⟨cnt, D, f, hown, hm, hT, hcM⟩ := hcv
  go_enter Try.func48, Try.ntmps48
  go_wp2_with fail
  refine (inOrderV b cnt D _ (by omega) hown).mono ?_
  rintro e w1 ⟨ks, r, d, n, rfl, hn, hnc, ho, hrise, hfit, hjust, hb⟩
  obtain ⟨hE, hrow⟩ := TellsV.of hm hT hrise hfit hjust
  have HE := Hid.mk hE
  have HROW := Hid.mk hrow
  have HM := Hid.mk hm
  have HFIT := Hid.mk hfit
  have B1 : Below w.heap.size w w1 := hb
  have hown1 : w1.ownsMap Try.prog 111 amtElem b cnt D := hown.kept (Below.toGrown hb none) (by simp)
  have HLEN : Hid ((grpsOf q f ks).length = n) := by show _ = _; rw [grpsOf_length]; exact hn
  have HKN := Hid.mk hn
  have hnM : n ≤ 1000000 := by omega
  clear hrise hjust hE hrow hm hT hb hown hfit hn
  go_wp2
  go_loopw [6, 12] (fun l i wr => ∃ (k : Nat) (r' : Option Addr) (d' : Nat) (cells : List Value), k ≤ n ∧ i = .int .i64 k ∧ l = .slice r' k d' ∧ OwnV wr w1.heap.size wr.heap.size 73 3 r' k d' ((grpsOf q f ks).take k) cells ∧ Below w1.heap.size w1 wr) (fun _ i _ => n - (intOf i).toNat)
  case atStart => exact ⟨0, none, 0, [], Nat.zero_le _, rfl, rfl, ⟨rfl, Nat.le_refl _, World.ownsRow_nil _ _ _ _, fun b hb => by simp [Value.ownBlock] at hb, fun i hi => by omega, fun i hi => by omega, fun i j hi => by omega⟩, Below.refl _ _⟩
  case round =>
    obtain ⟨k, r', d', cells, hk, rfl, rfl, hv, hbw⟩ := hrel
    have zR := hbw.size
    have B3 : Below w.heap.size w wr := B1.trans (hbw.mono B1.size)
    have hownR : wr.ownsMap Try.prog 111 amtElem b cnt D := hown1.kept (Below.toGrown hbw none) (by simp)
    by_cases hlt : k < n
    · obtain ⟨g, rfl⟩ : ∃ g, r = some ⟨g, 0, none⟩ := by
        rcases ho.2 with ⟨_, h⟩ | ⟨g, cap, cur, hv', _⟩
        · omega
        · simp only [Value.slice.injEq, true_and] at hv'
          exact ⟨g, hv'.1⟩
      have hoR := owns_below ho hbw
      have hki : (k : Int) < (n : Int) := by omega
      have hkl : k < ks.length := by have := HKN.out; omega
      have hc6 := six_cellsV HKN.out hoR k hlt
      have hfx := HFIT.out _ (katV_mem hkl)
      obtain ⟨zs, hzg, hzl, hzr⟩ := HROW.out _ (katV_mem hkl)
      have HS := Hid.mk (grpsOf_take q f ks k hkl)
      have hun : unr q (Six.list (katV ks k)) = zs := by rw [hzr, ← hzl, unr_raised]
      rw [hun] at HS
      generalize katV ks k = X at *
      obtain ⟨x0, x1, x2, x3, x4, x5⟩ := X
      obtain ⟨⟨y1, y2⟩, hy⟩ : ∃ y : Amt, y = f (Six.list (x0, x1, x2, x3, x4, x5)) := ⟨_, rfl⟩
      have HY := Hid.mk hy
      rw [← hy] at HS
      have HR : Hid (raised zs = [x0, x1, x2, x3, x4, x5]) := hzr.symm
      have HZG := Hid.mk hzg
      have HZL := Hid.mk hzl
      have HFX : Hid (Fits [x0, x1, x2, x3, x4, x5]) := hfx
      have d0 : wr.cell? ⟨g, k * 6, none⟩ = some (.int .i64 x0) := hc6 0 (by omega)
      have d1 : wr.cell? ⟨g, k * 6 + 1, none⟩ = some (.int .i64 x1) := hc6 1 (by omega)
      have d2' : wr.cell? ⟨g, k * 6 + 2, none⟩ = some (.int .i64 x2) := hc6 2 (by omega)
      have d3 : wr.cell? ⟨g, k * 6 + 3, none⟩ = some (.int .i64 x3) := hc6 3 (by omega)
      have d4 : wr.cell? ⟨g, k * 6 + 4, none⟩ = some (.int .i64 x4) := hc6 4 (by omega)
      have d5 : wr.cell? ⟨g, k * 6 + 5, none⟩ = some (.int .i64 x5) := hc6 5 (by omega)
      clear hy hun hc6 hfx hzg hzl hzr hoR
      obtain ⟨V, hV⟩ : ∃ V, V = wr.alloc (.cells #[.int .i64 x0, .int .i64 x1, .int .i64 x2, .int .i64 x3, .int .i64 x4, .int .i64 x5] 111) := ⟨_, rfl⟩
      have hbV : Below wr.heap.size wr V := by rw [hV]; exact (Below.refl _ _).alloc (Nat.le_refl _) _
      have zV : V.heap.size = wr.heap.size + 1 := by rw [hV]; simp
      have qV : V.heap[wr.heap.size]? = some (.cells #[.int .i64 x0, .int .i64 x1, .int .i64 x2, .int .i64 x3, .int .i64 x4, .int .i64 x5] 111 (0, 0)) := by rw [hV]; exact heap_alloc_new wr _
      have cV : V.cell? ⟨wr.heap.size, 0, none⟩ = some (.int .i64 x0) ∧ V.cell? ⟨wr.heap.size, 1, none⟩ = some (.int .i64 x1) ∧ V.cell? ⟨wr.heap.size, 2, none⟩ = some (.int .i64 x2) ∧ V.cell? ⟨wr.heap.size, 3, none⟩ = some (.int .i64 x3) ∧ V.cell? ⟨wr.heap.size, 4, none⟩ = some (.int .i64 x4) ∧ V.cell? ⟨wr.heap.size, 5, none⟩ = some (.int .i64 x5) := ⟨by rw [cell_of_row V _ 0 _ _ (0, 0) qV]; rfl, by rw [cell_of_row V _ 1 _ _ (0, 0) qV]; rfl, by rw [cell_of_row V _ 2 _ _ (0, 0) qV]; rfl, by rw [cell_of_row V _ 3 _ _ (0, 0) qV]; rfl, by rw [cell_of_row V _ 4 _ _ (0, 0) qV]; rfl, by rw [cell_of_row V _ 5 _ _ (0, 0) qV]; rfl⟩
      have hownV : V.ownsMap Try.prog 111 amtElem b cnt D := hownR.kept (Below.toGrown hbV none) (by simp)
      have LKF : Hid (∀ w0 : World, w0.ownsMap Try.prog 111 amtElem b cnt D → (Instr.lookup 80 (.map (some b)) (.agg #[.int .i64 x0, .int .i64 x1, .int .i64 x2, .int .i64 x3, .int .i64 x4, .int .i64 x5]) false).run Try.prog w0 = .ok (.agg #[.int .i64 y1, .int .i64 y2]) w0) := fun w0 h0 => by have := lookV h0 HM.out x0 x1 x2 x3 x4 x5 HFX.out; rw [show f [x0, x1, x2, x3, x4, x5] = (y1, y2) from HY.out.symm] at this; exact this
      have hvV := (hv.below hbV).widen (Nat.le_refl _) hbV.size (Nat.le_refl _)
      have BV : Below w1.heap.size w1 V := hbw.trans (hbV.mono (by omega))
      have HTB : Hid (some wr.heap.size ≠ (Value.slice r' k d').ownBlock) := fun e => by have := (hv.outer.lt _ e.symm).2; omega
      have HBB : Hid (some b ≠ (Value.slice r' k d').ownBlock) := fun e => by have := (hv.outer.lt _ e.symm).1; have := hown1.lt; omega
      go_wp2_with fail
      rw [← hV]
      clear hV d0 d1 d2' d3 d4 d5 qV hv hownR B3 hbw hbV
      refine wp_region_held_drew (S := fun w' => w'.cell? ⟨wr.heap.size, 0, none⟩ = some (.int .i64 x0) ∧ w'.cell? ⟨wr.heap.size, 1, none⟩ = some (.int .i64 x1) ∧ w'.cell? ⟨wr.heap.size, 2, none⟩ = some (.int .i64 x2) ∧ w'.cell? ⟨wr.heap.size, 3, none⟩ = some (.int .i64 x3) ∧ w'.cell? ⟨wr.heap.size, 4, none⟩ = some (.int .i64 x4) ∧ w'.cell? ⟨wr.heap.size, 5, none⟩ = some (.int .i64 x5) ∧ (Instr.lookup 80 (.map (some b)) (.agg #[.int .i64 x0, .int .i64 x1, .int .i64 x2, .int .i64 x3, .int .i64 x4, .int .i64 x5]) false).run Try.prog w' = .ok (.agg #[.int .i64 y1, .int .i64 y2]) w') (by kernel_rfl) ?_ (fun hHeld => ?_)
      · (try dsimp only)
        exact ⟨cV.1, cV.2.1, cV.2.2.1, cV.2.2.2.1, cV.2.2.2.2.1, cV.2.2.2.2.2, LKF.out _ hownV.drew⟩
      refine wpAnyH_take (i := 0) (oi := ?_) (v := ?_) ?_ (by kernel_rfl) (by kernel_rfl) (by kernel_rfl) ?_ (Or.inl ⟨?_, ?_⟩) (by assumption) ?_
      rotate_left 2
      · (simp only [List.getElem?_toArray, List.getElem?_cons_zero]; rfl)
      · exact fun _ _ _ h => h
      · rfl
      · (intro wS hSw; (try dsimp only at hSw); go_simp; (try with_reducible rfl))
      (try simp only [Act.put, List.setIfInBounds_toArray, List.set_cons_zero, List.set_cons_succ])
      refine wpAnyH_take (i := 1) (oi := ?_) (v := ?_) ?_ (by kernel_rfl) (by kernel_rfl) (by kernel_rfl) ?_ (Or.inl ⟨?_, ?_⟩) (by assumption) ?_
      rotate_left 2
      · (simp only [List.getElem?_toArray, List.getElem?_cons_zero, List.getElem?_cons_succ]; rfl)
      · exact fun _ _ _ h => h
      · rfl
      · (intro wS hSw; (try dsimp only at hSw); go_simp; (try with_reducible rfl))
      (try simp only [Act.put, List.setIfInBounds_toArray, List.set_cons_zero, List.set_cons_succ])
      refine wpAnyH_take (i := 2) (oi := ?_) (v := ?_) ?_ (by kernel_rfl) (by kernel_rfl) (by kernel_rfl) ?_ (Or.inl ⟨?_, ?_⟩) (by assumption) ?_
      rotate_left 2
      · (simp only [List.getElem?_toArray, List.getElem?_cons_zero, List.getElem?_cons_succ]; rfl)
      · exact fun _ _ _ h => h
      · rfl
      · (intro wS hSw; (try dsimp only at hSw); go_simp; (try with_reducible rfl))
      (try simp only [Act.put, List.setIfInBounds_toArray, List.set_cons_zero, List.set_cons_succ])
      refine wpAnyH_take (i := 3) (oi := ?_) (v := ?_) ?_ (by kernel_rfl) (by kernel_rfl) (by kernel_rfl) ?_ (Or.inl ⟨?_, ?_⟩) (by assumption) ?_
      rotate_left 2
      · (simp only [List.getElem?_toArray, List.getElem?_cons_zero, List.getElem?_cons_succ]; rfl)
      · exact fun _ _ _ h => h
      · rfl
      · (intro wS hSw; (try dsimp only at hSw); go_simp; (try with_reducible rfl))
      (try simp only [Act.put, List.setIfInBounds_toArray, List.set_cons_zero, List.set_cons_succ])
      refine wpAnyH_take (i := 4) (oi := ?_) (v := ?_) ?_ (by kernel_rfl) (by kernel_rfl) (by kernel_rfl) ?_ (Or.inl ⟨?_, ?_⟩) (by assumption) ?_
      rotate_left 2
      · (simp only [List.getElem?_toArray, List.getElem?_cons_zero, List.getElem?_cons_succ]; rfl)
      · exact fun _ _ _ h => h
      · rfl
      · (intro wS hSw; (try dsimp only at hSw); go_simp; (try with_reducible rfl))
      (try simp only [Act.put, List.setIfInBounds_toArray, List.set_cons_zero, List.set_cons_succ])
      refine wpAnyH_take (i := 5) (oi := ?_) (v := ?_) ?_ (by kernel_rfl) (by kernel_rfl) (by kernel_rfl) ?_ (Or.inl ⟨?_, ?_⟩) (by assumption) ?_
      rotate_left 2
      · (simp only [List.getElem?_toArray, List.getElem?_cons_zero, List.getElem?_cons_succ]; rfl)
      · exact fun _ _ _ h => h
      · rfl
      · (intro wS hSw; (try dsimp only at hSw); go_simp; (try with_reducible rfl))
      (try simp only [Act.put, List.setIfInBounds_toArray, List.set_cons_zero, List.set_cons_succ])
      refine wpAnyH_ready (rs := [6]) (by kernel_rfl) (by simp) ?_
      refine AllReadyH.cons (o := ?_) ?_ (fun K hK => ?_) AllReadyH.nil
      rotate_left
      · (simp only [List.getElem?_toArray, List.getElem?_cons_zero, List.getElem?_cons_succ]; rfl)
      go_simp
      go_at_call 99; refine (groupOf_any x0 x1 x2 x3 x4 x5 zs q y1 y2 _ HZL.out HZG.out HR.out).mono ?_; rintro e w2 ⟨r2, d2, rfl, ho2, hb2⟩; have e6 := six_later (w := V.drew) hb2 cV; have om2 : w2.ownsMap Try.prog 111 amtElem b cnt D := (hownV.drew).kept (Below.toGrown hb2 none) (by simp); have hv2 := hvV.drew.below hb2; have z2 : V.heap.size ≤ w2.heap.size := hb2.size; have hTb : some wr.heap.size ≠ (Value.slice r' k d').ownBlock := HTB.out
      (try go_wp2_with fail)
      refine hK.out _ _ ?_ (fun hHeld' => ?_)
      · (try dsimp only)
        exact ⟨e6.1, e6.2.1, e6.2.2.1, e6.2.2.2.1, e6.2.2.2.2.1, e6.2.2.2.2.2, LKF.out _ om2⟩
      clear hK K hHeld
      have hHeld := hHeld'
      clear hHeld'
      (try simp only [Act.put, List.setIfInBounds_toArray, List.set_cons_zero, List.set_cons_succ])
      refine wpAnyH_ready (rs := [7]) (by kernel_rfl) (by simp) ?_
      refine AllReadyH.cons (o := ?_) ?_ (fun K hK => ?_) AllReadyH.nil
      rotate_left
      · (simp only [List.getElem?_toArray, List.getElem?_cons_zero, List.getElem?_cons_succ]; rfl)
      go_simp
      skip
      (try go_wp2_with fail)
      refine hK.out _ _ ?_ (fun hHeld' => ?_)
      · (try dsimp only)
        exact ⟨(six_later ((Below.refl _ _).alloc (Nat.le_refl _) _) e6).1, (six_later ((Below.refl _ _).alloc (Nat.le_refl _) _) e6).2.1, (six_later ((Below.refl _ _).alloc (Nat.le_refl _) _) e6).2.2.1, (six_later ((Below.refl _ _).alloc (Nat.le_refl _) _) e6).2.2.2.1, (six_later ((Below.refl _ _).alloc (Nat.le_refl _) _) e6).2.2.2.2.1, (six_later ((Below.refl _ _).alloc (Nat.le_refl _) _) e6).2.2.2.2.2, LKF.out _ (om2.alloc _)⟩
      clear hK K hHeld
      have hHeld := hHeld'
      clear hHeld'
      (try simp only [Act.put, List.setIfInBounds_toArray, List.set_cons_zero, List.set_cons_succ])
      refine wpAnyH_ready (rs := [8]) (by kernel_rfl) (by simp) ?_
      refine AllReadyH.cons (o := ?_) ?_ (fun K hK => ?_) AllReadyH.nil
      rotate_left
      · (simp only [List.getElem?_toArray, List.getElem?_cons_zero, List.getElem?_cons_succ]; rfl)
      refine step_append_lies _ rfl (.tmp 16) (.tmp 23) 27 rfl w1.heap.size 73 i0 (.agg #[.slice none 0 0, .int .i64 0, .int .i64 0]) 3 40 Try.underlying27 hi hz0 hz1 hz2 rfl (by decide) (.slice r' k d') k cells (by simp [Act.eval]) (hv2.outer.alloc _) ⟨w2.heap.size, 0, none⟩ 1 1 [.slice r2 q d2, .int .i64 y1, .int .i64 y2] (by simp [Act.eval]) rfl (by simpa using news_at w2 #[.slice r2 q d2, .int .i64 y1, .int .i64 y2] 73) (by intro u hu; simp at hu; rcases hu with rfl | rfl | rfl <;> rfl) (by decide) (by unfold maxLen; omega) (by omega) (by simp; omega) (w2.heap.size + 1) (by simp) ?_; intro g4 cap4 w4 hown4 hgrow4 hat4 hlt4; have s6 := six_grown hgrow4 hTb (six_later ((Below.refl _ _).alloc (Nat.le_refl _) _) e6); have om4 : w4.ownsMap Try.prog 111 amtElem b cnt D := (om2.alloc _).kept hgrow4 HBB.out; have hv4 := OwnVk.pushed hvV.drew (by rw [drew_size]; omega) hb2 HZL.out ho2 hown4 hgrow4 hat4 hlt4
      refine hK.out _ _ ?_ (fun hHeld' => ?_)
      · (try dsimp only)
        exact ⟨s6.1, s6.2.1, s6.2.2.1, s6.2.2.2.1, s6.2.2.2.2.1, s6.2.2.2.2.2, LKF.out _ om4⟩
      clear hK K hHeld
      have hHeld := hHeld'
      clear hHeld'
      (try simp only [Act.put, List.setIfInBounds_toArray, List.set_cons_zero, List.set_cons_succ])
      refine wpAnyH_take (i := 9) (oi := ?_) (v := ?_) ?_ (by kernel_rfl) (by kernel_rfl) (by kernel_rfl) ?_ (Or.inl ⟨?_, ?_⟩) (by assumption) ?_
      rotate_left 2
      · (simp only [List.getElem?_toArray, List.getElem?_cons_zero, List.getElem?_cons_succ]; rfl)
      · exact fun _ _ _ h => h
      · rfl
      · (intro wS hSw; (try dsimp only at hSw); go_simp; (try with_reducible rfl))
      (try simp only [Act.put, List.setIfInBounds_toArray, List.set_cons_zero, List.set_cons_succ])
      refine wpAnyH_done (by kernel_rfl) ?_ _
      have hrb : ∀ j, (Value.slice r' k d').ownBlock = some j → w1.heap.size ≤ j := fun j hj => (hv2.outer.lt j hj).1
      have B4 : Below w1.heap.size w1 w2 := BV.drew.trans (hb2.mono BV.size)
      have HB := Hid.mk ((B4.alloc B4.size _).grown hgrow4 (by have := B4.size; simp; omega) (fun j hj => hrb j hj))
      rw [← HS.out] at hv4
      have HV := Hid.mk hv4
      clear hv4 hown4 hgrow4 hvV BV B4 s6 om4 om2 e6 hv2 ho2 hb2 cV hHeld hownV hrb
      go_wp2
      go_roundw
      case rel => exact ⟨k + 1, _, _, _, by omega, by go_num, rfl, HV.out, HB.out⟩
      case measure => simp [intOf]; omega
    · obtain rfl : k = n := by omega
      have hlen : (grpsOf q f ks).take k = ts := by rw [List.take_of_length_le (by have := HLEN.out; omega), HE.out]
      rw [hlen] at hv
      have HV := Hid.mk hv
      have HTL : Hid (ts.length = k) := hv.len
      have hsz : ∀ i, i < k → (gat ts i).1.length ≤ 9223372036854775807 := fun i hi => by
        have hi2 : i < ks.length := by have := HKN.out; omega
        have hti : gat ts i = (unr q (Six.list (katV ks i)), f (Six.list (katV ks i))) := by rw [← HE.out]; exact grpsOf_at q f ks i hi2
        rw [hti]
        simp only [unr, List.length_map, List.length_take]
        omega
      have HAT := Hid.mk (OwnVk.atV hv hsz)
      clear hv hlen hsz hownR
      obtain ⟨ok, hok⟩ : ∃ ok, goodV ts = ok := ⟨_, rfl⟩
      have HOK := Hid.mk hok
      clear hok
      cases ok with
      | false =>
        go_wp2_with fail
        refine (implGoodGroups_any _ _ _ ts _ HTL.out (by omega) HAT.out).mono ?_
        rintro e w5 ⟨rfl, hb5⟩
        rw [HOK.out]
        go_wp2
        refine bodyPost_ret (v := .tuple #[.slice none 0 0, .bool false]) (by simp [results, Try.results48, go_sem]) rfl ⟨by rw [HOK.out]; exact GrpRet.zero rfl rfl, B3.trans (hb5.mono B3.size)⟩
      | true =>
        go_wp2_with fail
        refine (implGoodGroups_any _ _ _ ts _ HTL.out (by omega) HAT.out).mono ?_
        rintro e w5 ⟨rfl, hb5⟩
        rw [HOK.out]
        go_wp2
        have z1 := B1.size
        refine bodyPost_ret (v := .tuple #[.slice r' k d', .bool true]) (by simp [results, Try.results48, go_sem]) rfl ⟨by rw [HOK.out]; exact ⟨r', k, d', rfl, ⟨cells, (HV.out.below hb5).widen z1 hb5.size (Nat.le_refl _)⟩⟩, B3.trans (hb5.mono B3.size)⟩

end Go.Proofs.Ytlfljfmhhnoinab

/- Contracts of impl.PickCells, spec.l1Columns, spec.l1Pick, spec.PickCells. -/
namespace Go.Proofs.Ytlfljfmhhnoinab
open Go.RowKit

set_option maxRecDepth 100000 in
set_option maxHeartbeats 4000000 in
theorem implPickCells (a a' : Option Addr) (n n' c c' : Nat) (zs cols : List Int) (w : World) (hz : zs.length = n) (hz' : cols.length = n') (hn : n ≤ 9223372036854775807) (hn' : n' ≤ 9223372036854775807) (ha : At w a zs) (ha' : At w a' cols) :
    Calls Try.prog 45 #[.agg #[.slice a n c], .slice a' n' c'] w fun e w' => ∃ r m d, e = .returned (.tuple #[.agg #[.slice r m d], .bool (pickOk zs cols)]) ∧
      (pickZ zs cols).length = m ∧ w'.ownsRow w.heap.size 3 1 (.slice r m d) m ((pickZ zs cols).map (.int .i64)) ∧ Below w.heap.size w w' := by
  obtain ⟨W, hW⟩ : ∃ W, W = (w.alloc (.cells #[.slice a n c] 67)).alloc (.cells #[.slice none 0 0] 67) := ⟨_, rfl⟩
  have B : Below w.heap.size w W := by rw [hW]; exact ((Below.refl _ _).alloc (Nat.le_refl _) _).alloc (by simp) _
  have HA : At W a zs := ha.below B
  have c1 : W.cell? ⟨w.heap.size, 0, none⟩ = some (.slice a n c) := by rw [hW]; simp
  have c2 : W.cell? ⟨w.heap.size + 1, 0, none⟩ = some (.slice none 0 0) := by rw [hW]; simp
  have f2 : W.frozen? ⟨w.heap.size + 1, 0, none⟩ = false := by rw [hW]; simp
  have no : pickOk zs cols = false → ∀ w2, Below w.heap.size w w2 → ∃ r m d, Ending.returned (.tuple #[.agg #[.slice none 0 0], .bool false]) = .returned (.tuple #[.agg #[.slice r m d], .bool (pickOk zs cols)]) ∧
      (pickZ zs cols).length = m ∧ w2.ownsRow w.heap.size 3 1 (.slice r m d) m ((pickZ zs cols).map (.int .i64)) ∧ Below w.heap.size w w2 := fun h w2 hb =>
    ⟨none, 0, 0, by rw [h], by simp [pickZ, h], by simp only [pickZ, h]; exact World.ownsRow_nil _ _ _ _, hb⟩
  have NO := Hid.mk no
  clear no
  cases hg : good zs with
  | false =>
    have HG := Hid.mk hg
    have HP : Hid (pickOk zs cols = false) := by simp [Hid, pickOk, hg]
    clear hg ha ha'
    go_enter Try.func45, Try.ntmps45
    go_wp2_with fail
    rw [← hW]
    refine (implGoodRow_any _ _ _ zs _ hz hn HA).mono ?_
    rintro e w1 ⟨rfl, hb1⟩
    rw [HG.out]
    have d2 := cell_later hb1 c2
    have e2 := frozen_later hb1 c2 f2
    clear hW
    go_wp2
    refine bodyPost_ret (v := .tuple #[.agg #[.slice none 0 0], .bool false]) (by simp [results, Try.results45, go_sem, d2]) rfl (NO.out HP.out _ ?_)
    exact (B.trans (hb1.mono B.size)).setCell (by simp) _
  | true =>
    have HG := Hid.mk hg
    by_cases h6 : n' ≤ 6
    · have HA' : At W a' cols := ha'.below B
      obtain ⟨i0, hi, hz0, hz1, hz2⟩ := info_parts Try.infoInt
      clear ha ha'
      go_enter Try.func45, Try.ntmps45
      go_wp2_with fail
      rw [← hW]
      refine (implGoodRow_any _ _ _ zs _ hz hn HA).mono ?_
      rintro e w1 ⟨rfl, hb1⟩
      rw [HG.out]
      have d1 := cell_later hb1 c1
      have d2 := cell_later hb1 c2
      have e2 := frozen_later hb1 c2 f2
      have A1 := HA.below hb1
      have A2 := HA'.below hb1
      have B1 := B.trans (hb1.mono B.size)
      have z1 : w.heap.size + 1 < w1.heap.size := World.block_lt_of_cell? _ _ d2
      clear hW hb1 c1 c2 f2 HA HA' B
      have V0 : RowVar (w1.alloc (.cells #[.slice none 0 0] 67)) w1.heap.size 67 (w1.heap.size + 1) 3 none 0 0 (pick zs (cols.take 0)) := RowVar.new rfl (by omega)
      go_wp2
      go_loopw [20] (fun i wr => ∃ (k : Nat) (r : Option Addr) (d : Nat), k ≤ n' ∧ i = .int .i64 k ∧ (∀ j, j < k → 0 ≤ cols.getD j 0 ∧ cols.getD j 0 < zs.length) ∧ RowVar wr w1.heap.size 67 (w1.heap.size + 1) 3 r k d (pick zs (cols.take k)) ∧ Below w1.heap.size w1 wr) (fun i _ => n' - (intOf i).toNat)
      case atStart => exact ⟨0, none, 0, Nat.zero_le _, rfl, fun j hj => by omega, V0, (Below.refl _ _).alloc (Nat.le_refl _) _⟩
      case round =>
        clear V0
        obtain ⟨k, r, d, hk, rfl, hall, hv, hbw⟩ := hrel
        have g1 := cell_later hbw d1
        have g2 := cell_later hbw d2
        have g3 := frozen_later hbw d2 e2
        have BW := B1.trans (hbw.mono B1.size)
        have z2 := hbw.size
        by_cases hlt : k < n'
        · obtain ⟨b', off', rfl, hb', hc'⟩ := (A2.below hbw).some (by omega)
          have hcx := hc' k (by omega)
          have HNo := Hid.mk (not_colsOk (cols := cols) (n := zs.length) k (by omega))
          have HS := Hid.mk (pick_succ zs cols k (by omega))
          have HAll := Hid.mk hall
          clear hc' hall
          by_cases hin : 0 ≤ cols.getD k 0 ∧ cols.getD k 0 < n
          · obtain ⟨hx0, hx1⟩ := hin
            have HX : Hid (0 ≤ cols.getD k 0 ∧ cols.getD k 0 < zs.length) := ⟨hx0, by omega⟩
            obtain ⟨j, hj⟩ := Int.eq_ofNat_of_zero_le hx0
            rw [hj] at hcx hx1 HS
            have HJ := Hid.mk hj
            have hjn : j < n := by omega
            obtain ⟨b, off, rfl, hb, hc⟩ := (A1.below hbw).some (by omega)
            have hcj := hc j (by omega)
            clear hc hj
            obtain ⟨y, hy⟩ : ∃ y, y = zs.getD ((j : Int)).toNat 0 := ⟨_, rfl⟩
            rw [← hy] at HS
            rw [show zs.getD j 0 = y by rw [hy]; rfl] at hcj
            clear hy
            have hcr := hv.cell
            have hfr := hv.frozen
            have zR : w1.heap.size < wr.heap.size := World.block_lt_of_cell? _ _ hcr
            have zb : b < wr.heap.size := World.block_lt_of_cell? _ _ hcj
            have HO := Hid.mk (hv.own.alloc (.cells #[.int .i64 y] 3)).drew
            have HN := Hid.mk (news_at wr #[.int .i64 y] 3)
            go_wp2
            go_region_law (refine step_append_lies _ rfl (.tmp 35) (.tmp 41) 25 rfl (w1.heap.size + 1) 3 i0 (.int .i64 0) 1 8 Try.underlying25 hi hz0 hz1 hz2 rfl (by decide) (.slice r k d) k _ (by simp [Act.eval]) HO.out ⟨wr.heap.size, 0, none⟩ 1 1 [.int .i64 y] (by simp [Act.eval]) rfl HN.out (by simp; rfl) (by decide) (by unfold maxLen; omega) (by omega) (by simp; omega) (wr.heap.size + 1) (by simp) ?_; intro g cap w2 hown1 hgrow' _ _; have hgrow := grown_undrew hgrow'; obtain ⟨t1, t2, hv1⟩ := hv.pushed hown1 hgrow)
            all_goals
              have HB := Hid.mk (hv.pushed_below (v := .slice (some ⟨g, 0, none⟩) (k + 1) cap) hgrow hbw (Nat.le_refl _))
              rw [← HS.out] at hv1
              have HV := Hid.mk hv1
              clear hv1 hown1 hgrow hgrow' hv hbw HO HN t1 t2 hcr hfr hcj hcx
              go_wp2
              go_roundw
              case rel =>
                refine ⟨k + 1, _, _, by omega, by go_num, fun j' hj' => ?_, HV.out, HB.out⟩
                by_cases e : j' = k
                · subst e; exact HX.out
                · exact HAll.out j' (by omega)
              case measure => simp [intOf]; omega
          · obtain ⟨x, hx⟩ : ∃ x, x = cols.getD k 0 := ⟨_, rfl⟩
            have HP : Hid (pickOk zs cols = false) := by
              have hno : colsOk cols zs.length = false := HNo.out (by omega)
              simp [Hid, pickOk, hno]
            rw [← hx] at hcx hin
            clear hx HS HNo HAll
            by_cases hneg : x < 0
            · go_wp2
              refine bodyPost_ret (v := .tuple #[.agg #[.slice none 0 0], .bool false]) (by simp [results, Try.results45, go_sem, g2]) rfl (NO.out HP.out _ ?_)
              exact BW.setCell (by simp) _
            · have hge : (n : Int) ≤ x := by omega
              go_wp2
              refine bodyPost_ret (v := .tuple #[.agg #[.slice none 0 0], .bool false]) (by simp [results, Try.results45, go_sem, g2]) rfl (NO.out HP.out _ ?_)
              exact BW.setCell (by simp) _
        · obtain rfl : k = n' := by omega
          have hok : pickOk zs cols = true := by
            have := colsOk_of (cols := cols) (n := zs.length) (by omega) (fun j hj => hall j (by omega))
            simp [pickOk, hg, this]
          have hpz : pick zs (cols.take k) = pickZ zs cols := by rw [← hz', List.take_length]; simp [pickZ, hok]
          rw [hpz] at hv
          have HP := Hid.mk hok
          have hcr := hv.cell
          clear hall hpz hok hg
          go_wp2
          refine bodyPost_ret (v := .tuple #[.agg #[.slice r k d], .bool true]) (by simp [results, Try.results45, go_sem, g2]) rfl ⟨r, k, d, by rw [HP.out], hv.1, ?_, ?_⟩
          · exact owns_mono (ownsRow_setCell_below hv.own (by simp; omega) _) (by omega)
          · exact BW.setCell (by simp) _
    · have HP : Hid (pickOk zs cols = false) := by simp [Hid, pickOk, colsOk_long (n := zs.length) (show 6 < cols.length by omega)]
      clear hg ha ha'
      go_enter Try.func45, Try.ntmps45
      go_wp2_with fail
      rw [← hW]
      refine (implGoodRow_any _ _ _ zs _ hz hn HA).mono ?_
      rintro e w1 ⟨rfl, hb1⟩
      rw [HG.out]
      have d2 := cell_later hb1 c2
      have e2 := frozen_later hb1 c2 f2
      clear hW
      go_wp2
      refine bodyPost_ret (v := .tuple #[.agg #[.slice none 0 0], .bool false]) (by simp [results, Try.results45, go_sem, d2]) rfl (NO.out HP.out _ ?_)
      exact (B.trans (hb1.mono B.size)).setCell (by simp) _

end Go.Proofs.Ytlfljfmhhnoinab

/- Contract of impl.noughts. -/
namespace Go.Proofs.Ytlfljfmhhnoinab
open Go.RowKit

end Go.Proofs.Ytlfljfmhhnoinab

/- Contract of impl.GroupTable. -/
namespace Go.Proofs.Ytlfljfmhhnoinab
open Go.RowKit Go.Maps

end Go.Proofs.Ytlfljfmhhnoinab
