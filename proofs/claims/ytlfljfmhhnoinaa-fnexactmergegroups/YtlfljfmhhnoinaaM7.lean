/- Several texts of one proof, in build order: SixK, TellP, MapV, RollP, AppendAll. -/
import Derived.Test.YtlfljfmhhnoinaaM6
import Derived.Test.YtlfljfmhhnoinaaM5
import Derived.Test.YtlfljfmhhnoinaaM1
import Derived.Deep.AppendLies
import Derived.Laws.AppendOwnNone

/- Arrays of six numbers as keys. -/
namespace Go.Proofs.Ytlfljfmhhnoinaa
open Go.RowKit Go.Maps

/-- Six numbers as an array's value. -/
def Six.val (x : Six) : Value := .agg #[.int .i64 x.1, .int .i64 x.2.1, .int .i64 x.2.2.1, .int .i64 x.2.2.2.1, .int .i64 x.2.2.2.2.1, .int .i64 x.2.2.2.2.2]
theorem Six.val_arr (x : Six) : Six.val x = arrV (Six.list x) := rfl
theorem six_of {zs : List Int} (h : zs.length = 6) : ∃ x : Six, Six.list x = zs := by
  obtain ⟨x0, x1, x2, x3, x4, x5, rfl⟩ := list6 h
  exact ⟨(x0, x1, x2, x3, x4, x5), rfl⟩
theorem six_key {key : Value} {kl : Lit} (h : keyOf Try.prog 72 key = some kl) : ∃ x : Six, key = Six.val x := by
  obtain ⟨zs, hf, rfl, _⟩ := keyOf_arr_inv h
  obtain ⟨x, rfl⟩ := six_of hf.1
  exact ⟨x, rfl⟩
theorem Try.infoA : (Try.prog.info? 72).map (fun i => (i.zero, i.size, i.bytes)) = some (some (.agg #[.int .i64 0, .int .i64 0, .int .i64 0, .int .i64 0, .int .i64 0, .int .i64 0]), 6, 48) := by kernel_rfl

theorem six_later {w w' : World} {Z : Nat} {x0 x1 x2 x3 x4 x5 : Int} (hb : Below w.heap.size w w') (h : w.cell? ⟨Z, 0, none⟩ = some (.int .i64 x0) ∧ w.cell? ⟨Z, 1, none⟩ = some (.int .i64 x1) ∧ w.cell? ⟨Z, 2, none⟩ = some (.int .i64 x2) ∧ w.cell? ⟨Z, 3, none⟩ = some (.int .i64 x3) ∧ w.cell? ⟨Z, 4, none⟩ = some (.int .i64 x4) ∧ w.cell? ⟨Z, 5, none⟩ = some (.int .i64 x5)) : w'.cell? ⟨Z, 0, none⟩ = some (.int .i64 x0) ∧ w'.cell? ⟨Z, 1, none⟩ = some (.int .i64 x1) ∧ w'.cell? ⟨Z, 2, none⟩ = some (.int .i64 x2) ∧ w'.cell? ⟨Z, 3, none⟩ = some (.int .i64 x3) ∧ w'.cell? ⟨Z, 4, none⟩ = some (.int .i64 x4) ∧ w'.cell? ⟨Z, 5, none⟩ = some (.int .i64 x5) :=
  ⟨cell_later hb h.1, cell_later hb h.2.1, cell_later hb h.2.2.1, cell_later hb h.2.2.2.1, cell_later hb h.2.2.2.2.1, cell_later hb h.2.2.2.2.2⟩
theorem six_grown {w w' : World} {Z : Nat} {x0 x1 x2 x3 x4 x5 : Int} {row : Option Nat} (hg : w.grownBy w' row) (hne : some Z ≠ row) (h : w.cell? ⟨Z, 0, none⟩ = some (.int .i64 x0) ∧ w.cell? ⟨Z, 1, none⟩ = some (.int .i64 x1) ∧ w.cell? ⟨Z, 2, none⟩ = some (.int .i64 x2) ∧ w.cell? ⟨Z, 3, none⟩ = some (.int .i64 x3) ∧ w.cell? ⟨Z, 4, none⟩ = some (.int .i64 x4) ∧ w.cell? ⟨Z, 5, none⟩ = some (.int .i64 x5)) : w'.cell? ⟨Z, 0, none⟩ = some (.int .i64 x0) ∧ w'.cell? ⟨Z, 1, none⟩ = some (.int .i64 x1) ∧ w'.cell? ⟨Z, 2, none⟩ = some (.int .i64 x2) ∧ w'.cell? ⟨Z, 3, none⟩ = some (.int .i64 x3) ∧ w'.cell? ⟨Z, 4, none⟩ = some (.int .i64 x4) ∧ w'.cell? ⟨Z, 5, none⟩ = some (.int .i64 x5) :=
  ⟨hg.cell h.1 hne, hg.cell h.2.1 hne, hg.cell h.2.2.1 hne, hg.cell h.2.2.2.1 hne, hg.cell h.2.2.2.2.1 hne, hg.cell h.2.2.2.2.2 hne⟩


/-- The row that an array was made of. -/
def unr (q : Nat) (l : List Int) : List Int := (l.take q).map (· - 100001)
theorem unr_raised (zs : List Int) : unr zs.length (raised zs) = zs := by
  unfold unr raised
  rw [List.take_append_of_le_length (by simp), List.take_of_length_le (by simp), List.map_map]
  conv => rhs; rw [← List.map_id zs]
  exact List.map_congr_left fun x _ => by simp only [Function.comp, id]; omega

end Go.Proofs.Ytlfljfmhhnoinaa

/- Plain: what a list of rows tells of weights. -/
namespace Go.Proofs.Ytlfljfmhhnoinaa

/-- What the arrays of a map of weights have in common: each is a good row's with so many cells. -/
def Keys (q : Nat) (S : List (List Int)) : Prop := ∀ a ∈ S, ∃ zs, good zs = true ∧ zs.length = q ∧ a = raised zs

/-- A list of rows that has just the weights of f. -/
structure Tells (q : Nat) (f : List Int → Int) (ts : List WRow) : Prop where
  rises : Rises ts
  noZero : NoZero ts
  rows : ∀ t ∈ ts, good t.1 = true ∧ t.1.length = q
  weight : ∀ zs, good zs = true → zs.length = q → wOf ts zs = f (raised zs)

end Go.Proofs.Ytlfljfmhhnoinaa

/- Maps of amounts keyed by arrays: what they hold; which groups they tell. -/
namespace Go.Proofs.Ytlfljfmhhnoinaa
open Go.RowKit Go.Maps

/-- What an amount reads as. -/
def amtD (x : Amt) : DataW Unit := .agg [.lit (.int .i64 x.1), .lit (.int .i64 x.2)]
theorem amtD_inj {x y : Amt} (h : amtD x = amtD y) : x = y := by
  simp only [amtD, DataW.agg.injEq, List.cons.injEq, DataW.lit.injEq, Lit.int.injEq, true_and, and_true] at h
  exact Prod.ext h.1 h.2
/-- How an element of type amount reads. -/
def amtElem (v : Value) : Option (DataW Unit × List MemPlace) :=
  match v with
  | .agg cs => match cs.toList with
    | [.int .i64 a, .int .i64 b] => some (amtD (a, b), [])
    | _ => none
  | _ => none
def amtVal (x : Amt) : Value := .agg #[.int .i64 x.1, .int .i64 x.2]
theorem amtElem_mk (x : Amt) : amtElem (amtVal x) = some (amtD x, []) := rfl
theorem amtElem_inv {v : Value} {z : DataW Unit × List MemPlace} (h : amtElem v = some z) : ∃ x : Amt, v = amtVal x ∧ z = (amtD x, []) := by
  unfold amtElem at h
  split at h
  · rename_i cs
    split at h
    · rename_i a b hcs
      refine ⟨(a, b), ?_, by simpa using h.symm⟩
      obtain ⟨l⟩ := cs
      simp only at hcs
      subst hcs
      rfl
    · cases h
  · cases h

/-- A map of amounts: at each array f's, an entry just where that is not nothing. -/
def MapV (D : DataW Unit) (f : List Int → Amt) : Prop :=
  ∀ a, Fits a → D.atKey (klit a) (amtD (0, 0)) = amtD (f a) ∧ Maps.has D (klit a) = decide (f a ≠ (0, 0))
theorem MapV.empty : MapV (.map []) (fun _ => (0, 0)) := fun a _ => ⟨rfl, by simp [Maps.has_eq]⟩
theorem MapV.put {D : DataW Unit} {f : List Int → Amt} (h : MapV D f) (hD : IsMap D) {a : List Int} (ha : Fits a) {v : Amt} (hv : v ≠ (0, 0)) :
    MapV (D.put (klit a) (amtD v)) (fun x => if x = a then v else f x) := fun x hx => by
  by_cases e : x = a
  · subst e
    exact ⟨by rw [atKey_put_same hD (klit_key hx)]; simp, by rw [has_put_same hD (klit_key hx)]; simp [hv]⟩
  · have hne : klit x ≠ klit a := fun e' => e (klit_inj hx ha e')
    obtain ⟨h1, h2⟩ := h x hx
    exact ⟨by rw [atKey_put_other hne, h1]; simp [e], by rw [has_put_other hne, h2]; simp [e]⟩
theorem MapV.del {D : DataW Unit} {f : List Int → Amt} (h : MapV D f) {a : List Int} (ha : Fits a) :
    MapV (D.del (klit a)) (fun x => if x = a then (0, 0) else f x) := fun x hx => by
  by_cases e : x = a
  · subst e
    exact ⟨by rw [atKey_del_same]; simp, by rw [has_del_same]; simp⟩
  · have hne : klit x ≠ klit a := fun e' => e (klit_inj hx ha e')
    obtain ⟨h1, h2⟩ := h x hx
    exact ⟨by rw [atKey_del_other hne, h1]; simp [e], by rw [has_del_other hne, h2]; simp [e]⟩
theorem MapV.at {D : DataW Unit} {f : List Int → Amt} (h : MapV D f) {a : List Int} (ha : Fits a) {c : Amt} (hc : D.atKey (klit a) (amtD (0, 0)) = amtD c) : c = f a := by
  rw [(h a ha).1] at hc
  exact (amtD_inj hc).symm
theorem MapV.congr {D : DataW Unit} {f f' : List Int → Amt} (h : MapV D f) (hf : ∀ x, f x = f' x) : MapV D f' := by
  obtain rfl : f = f' := funext hf
  exact h

/-- Groups by keys of q cells that have just the amounts of f. -/
structure TellsV (q : Nat) (f : List Int → Amt) (ts : List GRow) : Prop where
  rises : RisesV ts
  noZero : NoZeroV ts
  rows : ∀ t ∈ ts, good t.1 = true ∧ t.1.length = q
  weight : ∀ zs, good zs = true → zs.length = q → vOf ts zs = f (raised zs)
  keys : ∀ a, f a ≠ (0, 0) → ∃ zs, good zs = true ∧ zs.length = q ∧ a = raised zs
theorem TellsV.nil (q : Nat) : TellsV q (fun _ => (0, 0)) [] :=
  ⟨List.Pairwise.nil, fun t h => (by cases h), fun t h => (by cases h), fun zs _ _ => rfl, fun a h => absurd rfl h⟩
theorem TellsV.unique {q : Nat} {f : List Int → Amt} {ts us : List GRow} (h : TellsV q f ts) (k : TellsV q f us) : ts = us := by
  refine risesV_ext h.rises k.rises h.noZero k.noZero fun zs => ?_
  by_cases e : good zs = true ∧ zs.length = q
  · rw [h.weight zs e.1 e.2, k.weight zs e.1 e.2]
  · rw [vOf_absent fun t ht e' => e (by rw [← e']; exact h.rows t ht), vOf_absent fun t ht e' => e (by rw [← e']; exact k.rows t ht)]
theorem TellsV.put {q : Nat} {f : List Int → Amt} {ts : List GRow} (h : TellsV q f ts) {zs : List Int} (hg : good zs = true) (hl : zs.length = q) (x : Amt) :
    TellsV q (fun a => if a = raised zs then addA (f a) x else f a) (putV ts zs x) where
  rises := putV_rises h.rises
  noZero := putV_nozero h.noZero
  rows := fun t ht => by
    rcases putV_mem ht with h' | h'
    · exact h.rows t h'
    · rw [h']; exact ⟨hg, hl⟩
  weight := fun ys h1 h2 => by
    rw [putV_vOf ys h.rises, h.weight ys h1 h2]
    by_cases e : zs = ys
    · subst e; simp
    · have : raised ys ≠ raised zs := fun e' => e (raised_inj h1 hg e').symm
      simp [e, this, addA_zero]
  keys := fun a ha => by
    by_cases e : a = raised zs
    · exact ⟨zs, hg, hl, e⟩
    · simp only [if_neg e] at ha
      exact h.keys a ha

/-- The map in the block b tells the groups ts. -/
def CntV (w : World) (b q M : Nat) (ts : List GRow) : Prop :=
  ∃ cnt D f, w.ownsMap Try.prog 72 amtElem b cnt D ∧ MapV D f ∧ TellsV q f ts ∧ cnt ≤ M
section
variable {w w' : World} {b q M : Nat} {ts : List GRow}
theorem CntV.grown {row : Option Nat} (h : CntV w b q M ts) (hg : w.grownBy w' row) (hne : some b ≠ row) : CntV w' b q M ts := by
  obtain ⟨cnt, D, f, h1, h2⟩ := h
  exact ⟨cnt, D, f, h1.kept hg hne, h2⟩
theorem CntV.below (h : CntV w b q M ts) (hb : Below w.heap.size w w') : CntV w' b q M ts := h.grown (Below.toGrown hb none) (by simp)
theorem CntV.alloc (h : CntV w b q M ts) (o : Obj) : CntV (w.alloc o) b q M ts := h.below ((Below.refl _ _).alloc (Nat.le_refl _) o)
theorem CntV.drew (h : CntV w b q M ts) : CntV w.drew b q M ts := h.below (Below.refl _ _).drew
theorem CntV.mono {M' : Nat} (h : CntV w b q M ts) (hM : M ≤ M') : CntV w b q M' ts := by
  obtain ⟨cnt, D, f, h1, h2, h3, h4⟩ := h
  exact ⟨cnt, D, f, h1, h2, h3, by omega⟩
theorem CntV.lt (h : CntV w b q M ts) : b < w.heap.size := by
  obtain ⟨cnt, D, f, ⟨es, clock, hb, _⟩, _⟩ := h
  exact (Array.getElem?_eq_some_iff.1 hb).1
theorem CntV.rises (h : CntV w b q M ts) : RisesV ts := by obtain ⟨_, _, _, _, _, h, _⟩ := h; exact h.rises
theorem CntV.nocell (h : CntV w b q M ts) (a : Addr) {v : Value} (hc : w.cell? a = some v) : a.block ≠ b := by
  obtain ⟨cnt, D, f, ⟨es, clock, hb, _⟩, _⟩ := h
  rintro rfl
  simp [World.cell?, hb] at hc
end
theorem CntV.made (w : World) (q : Nat) : CntV (w.alloc (.map #[] 0)) w.heap.size q 0 [] :=
  ⟨0, _, _, World.ownsMap_made w Try.prog 72 amtElem, MapV.empty, TellsV.nil q, Nat.le_refl _⟩

end Go.Proofs.Ytlfljfmhhnoinaa

/- Plain: groups rolled up, their totals. -/
namespace Go.Proofs.Ytlfljfmhhnoinaa

/-- Numbers that may be the keys' cells'. -/
def colsUp (cols : List Int) (ts : List GRow) : Bool := decide (cols.length ≤ 6) && cols.all fun k => decide (0 ≤ k) && (decide (ts = []) || decide (k < keyN ts))
/-- Numbers from 0 on, at most six. -/
def mayPick (cols : List Int) : Bool := decide (cols.length ≤ 6) && cols.all fun k => decide (0 ≤ k)
def rolled (ts : List GRow) (cols : List Int) : List GRow := ts.map fun g => (pick g.1 cols, g.2)
def rollL (ts : List GRow) (cols : List Int) : List GRow := putAllV [] (rolled ts cols)
def rollB (ts : List GRow) (cols : List Int) : Bool := goodV ts && (colsUp cols ts && goodV (rollL ts cols))

theorem rolled_length (ts : List GRow) (cols : List Int) : (rolled ts cols).length = ts.length := by simp [rolled]
theorem rolled_at (ts : List GRow) (cols : List Int) (k : Nat) (h : k < ts.length) : gat (rolled ts cols) k = (pick (gat ts k).1 cols, (gat ts k).2) := by
  simp [rolled, gat, List.getD, h]
theorem rollB_good {ts : List GRow} {cols : List Int} (h : goodV ts = false) : rollB ts cols = false := by simp [rollB, h]
theorem rollB_cols {ts : List GRow} {cols : List Int} (h : colsUp cols ts = false) : rollB ts cols = false := by simp [rollB, h]
theorem rollB_yes {ts : List GRow} {cols : List Int} (h1 : goodV ts = true) (h2 : colsUp cols ts = true) : rollB ts cols = goodV (rollL ts cols) := by simp [rollB, h1, h2]
theorem rollB_goodV {ts : List GRow} {cols : List Int} (h : rollB ts cols = true) : goodV (rollL ts cols) = true := by
  simp only [rollB, Bool.and_eq_true] at h; exact h.2.2
theorem colsUp_may {ts : List GRow} {cols : List Int} (h : mayPick cols = false) : colsUp cols ts = false := by
  cases hg : colsUp cols ts with
  | false => rfl
  | true =>
    simp only [colsUp, Bool.and_eq_true, decide_eq_true_eq, List.all_eq_true] at hg
    have : mayPick cols = true := by
      simp only [mayPick, Bool.and_eq_true, decide_eq_true_eq, List.all_eq_true]
      exact ⟨hg.1, fun k hk => (hg.2 k hk).1⟩
    rw [this] at h; cases h
theorem colsUp_ok {ts : List GRow} {cols : List Int} (h : colsUp cols ts = true) (hne : ts ≠ []) : colsOk cols (keyN ts) = true := by
  simp only [colsUp, Bool.and_eq_true, decide_eq_true_eq, List.all_eq_true, Bool.or_eq_true] at h
  simp only [colsOk, colIn, Bool.and_eq_true, decide_eq_true_eq, List.all_eq_true]
  refine ⟨h.1, fun k hk => ?_⟩
  obtain ⟨h1, h2⟩ := h.2 k hk
  rcases h2 with h2 | h2
  · exact absurd h2 hne
  · exact ⟨h1, h2⟩
theorem colsUp_of {ts : List GRow} {cols : List Int} (h : mayPick cols = true) (h2 : ts ≠ [] → colsOk cols (keyN ts) = true) : colsUp cols ts = true := by
  simp only [mayPick, Bool.and_eq_true, decide_eq_true_eq, List.all_eq_true] at h
  simp only [colsUp, Bool.and_eq_true, decide_eq_true_eq, List.all_eq_true, Bool.or_eq_true]
  refine ⟨h.1, fun k hk => ⟨h.2 k hk, ?_⟩⟩
  by_cases e : ts = []
  · exact .inl e
  · right
    have := h2 e
    simp only [colsOk, colIn, Bool.and_eq_true, decide_eq_true_eq, List.all_eq_true] at this
    exact (this.2 k hk).2
theorem colsUp_not {ts : List GRow} {cols : List Int} (hne : ts ≠ []) (h : colsOk cols (keyN ts) = false) : colsUp cols ts = false := by
  cases hg : colsUp cols ts with
  | false => rfl
  | true => rw [colsUp_ok hg hne] at h; cases h
theorem colsUp_len {ts : List GRow} {cols : List Int} (h : colsUp cols ts = true) : cols.length ≤ 6 := by
  simp only [colsUp, Bool.and_eq_true, decide_eq_true_eq] at h; exact h.1

/-- A good group's parts. -/
theorem goodV_at {ts : List GRow} (h : goodV ts = true) (k : Nat) (hk : k < ts.length) : good (gat ts k).1 = true ∧ (gat ts k).1.length = keyN ts ∧ InA 100000000000000 (gat ts k).2 ∧ (gat ts k).2 ≠ (0, 0) := by
  obtain ⟨h1, h2, h3, h4, h5⟩ := goodG_cells (stepV_good ((goodV_parts h).2 k hk))
  have i1 := ins_range h3
  have i2 := ins_range h4
  refine ⟨h1, h2, ⟨i1.1, i1.2, i2.1, i2.2⟩, fun e => ?_⟩
  rw [e] at h5
  simp [nought] at h5
theorem goodV_mem {ts : List GRow} (h : goodV ts = true) : ∀ t ∈ ts, good t.1 = true ∧ t.1.length = keyN ts ∧ InA 100000000000000 t.2 ∧ t.2 ≠ (0, 0) := fun t ht => by
  obtain ⟨k, hk, rfl⟩ := List.getElem_of_mem ht
  have := goodV_at h k hk
  rwa [show gat ts k = ts[k] by simp [gat, List.getD, hk]] at this
theorem goodV_noZero {ts : List GRow} (h : goodV ts = true) : NoZeroV ts := fun t ht => (goodV_mem h t ht).2.2.2
theorem pick_good {zs cols : List Int} {n : Nat} (hg : good zs = true) (hl : zs.length = n) (hc : colsOk cols n = true) : good (pick zs cols) = true ∧ (pick zs cols).length = cols.length := by
  have hl' : (pick zs cols).length = cols.length := by simp [pick]
  refine ⟨good_of (by rw [hl']; exact colsOk_len hc) fun k hk => ?_, hl'⟩
  rw [hl'] at hk
  have h1 := colsOk_at hc k hk
  have e : (pick zs cols).getD k 0 = zs.getD (cols.getD k 0).toNat 0 := by simp [pick, List.getD, hk]
  rw [e]
  exact good_cell hg _ (by omega)
theorem rolled_mem {ts : List GRow} {cols : List Int} (h : goodV ts = true) (hc : ts ≠ [] → colsOk cols (keyN ts) = true) : ∀ t ∈ rolled ts cols, good t.1 = true ∧ t.1.length = cols.length ∧ InA 100000000000000 t.2 := fun t ht => by
  obtain ⟨s, hs, rfl⟩ := List.mem_map.1 ht
  obtain ⟨h1, h2, h3, _⟩ := goodV_mem h s hs
  have hne : ts ≠ [] := fun e => by rw [e] at hs; cases hs
  have := pick_good h1 h2 (hc hne)
  exact ⟨this.1, this.2, h3⟩
/-- What putting some of them makes lies within a bound. -/
theorem putAllV_in {l : List GRow} {M : Int} (hM : 0 ≤ M) (h : ∀ t ∈ l, InA M t.2) : ∀ t ∈ putAllV [] l, InA (M * l.length) t.2 := fun t ht => by
  have hr := putAllV_rises (l := l) (ts := []) List.Pairwise.nil
  have := vOf_mem hr ht
  rw [← this, putAllV_vOf _ List.Pairwise.nil, vOf_nil, zero_addA]
  exact sumV_bound hM h
theorem take_in {l : List GRow} {M : Int} (hM : 0 ≤ M) (h : ∀ t ∈ l, InA M t.2) (k n : Nat) (hk : k ≤ n) : ∀ t ∈ putAllV [] (l.take k), InA (M * n) t.2 := fun t ht => by
  refine (putAllV_in hM (fun t ht => h t (List.mem_of_mem_take ht)) t ht).mono (Int.mul_le_mul_of_nonneg_left ?_ hM)
  rw [List.length_take]
  omega
theorem putAllV_six {l : List GRow} (h : ∀ t ∈ l, good t.1 = true) : ∀ t ∈ putAllV [] l, t.1.length ≤ 6 := fun t ht => by
  rcases putAllV_rows ht with ⟨s, hs, _⟩ | ⟨s, hs, e⟩
  · cases hs
  · rw [← e]; exact good_len (h s hs)

/-- All numbers together. -/
def totalV (ts : List GRow) : Amt := ts.foldl (fun acc t => addA acc t.2) (0, 0)
def totB (ts : List GRow) : Bool := goodV ts && (ins (totalV ts).1 && ins (totalV ts).2)
theorem totalV_snoc (ts : List GRow) (t : GRow) : totalV (ts ++ [t]) = addA (totalV ts) t.2 := by unfold totalV; rw [List.foldl_append]; rfl
theorem totalV_take (ts : List GRow) (k : Nat) (h : k < ts.length) : totalV (ts.take (k + 1)) = addA (totalV (ts.take k)) (gat ts k).2 := by rw [vtake_succ ts k h, totalV_snoc]
theorem totalV_in {ts : List GRow} {M : Int} (h : ∀ t ∈ ts, InA M t.2) : InA (M * ts.length) (totalV ts) := by
  have : ∀ k, k ≤ ts.length → InA (M * k) (totalV (ts.take k)) := by
    intro k hk
    induction k with
    | zero => simpa [totalV] using inA_zero (Int.le_refl 0)
    | succ k ih =>
      rw [totalV_take ts k (by omega)]
      have := (ih (by omega)).add (h _ (gat_mem (show k < ts.length by omega)))
      rw [show M * ((k + 1 : Nat) : Int) = M * (k : Int) + M by push_cast; rw [Int.mul_add]; omega]
      exact this
  have h1 := this ts.length (Nat.le_refl _)
  rwa [List.take_of_length_le (Nat.le_refl _)] at h1
theorem oneV_put (x y : Amt) : putV (oneV [] x) [] y = oneV [] (addA x y) := by
  by_cases hx : x = (0, 0)
  · subst hx
    show restV [] y [] = _
    rw [zero_addA]; rfl
  · unfold oneV
    rw [if_neg hx]
    show (if cmp ([] : List Int) [] < 0 then _ else restV [] y [(([] : List Int), x)]) = _
    rw [if_neg (by decide)]
    simp only [restV, cmp, if_true]
    rw [List.append_nil, addA_comm]; rfl
theorem rollL_nil (ts : List GRow) : rollL ts [] = oneV [] (totalV ts) := by
  have : ∀ k, k ≤ ts.length → putAllV [] ((rolled ts []).take k) = oneV [] (totalV (ts.take k)) := by
    intro k hk
    induction k with
    | zero => rfl
    | succ k ih =>
      rw [putAllV_take _ _ k (by rw [rolled_length]; omega), ih (by omega), rolled_at ts [] k (by omega), totalV_take ts k (by omega)]
      exact oneV_put _ _
  have h1 := this ts.length (Nat.le_refl _)
  rw [List.take_of_length_le (by rw [rolled_length]; omega), List.take_of_length_le (Nat.le_refl _)] at h1
  exact h1
theorem goodV_one (x : Amt) : goodV (oneV [] x) = (ins x.1 && ins x.2) := by
  by_cases hx : x = (0, 0)
  · subst hx; rfl
  · unfold oneV
    rw [if_neg hx]
    obtain ⟨a, b⟩ := x
    have hn : nought a b = false := by
      simp only [nought, Bool.and_eq_false_iff, decide_eq_false_iff_not]
      by_cases ha : a = 0
      · right; intro hb; exact hx (by rw [ha, hb])
      · left; exact ha
    have hg : good ([] : List Int) = true := rfl
    simp [goodV, stepV, goodG, keyN, gat, hn, hg]
theorem totB_roll (ts : List GRow) : rollB ts [] = totB ts := by
  have : colsUp [] ts = true := by simp [colsUp]
  simp only [rollB, totB, this, Bool.true_and, rollL_nil, goodV_one]

end Go.Proofs.Ytlfljfmhhnoinaa

/- 'append(out, xs...)': out the call's own, xs whatever slice of ints: nil, empty or not; and a variable of a row behind the store. -/
namespace Go.Proofs.Ytlfljfmhhnoinaa
open Go.RowKit

theorem newcell (w : World) (v : Value) (t : TypeId) : (w.alloc (.cells #[v] t)).cell? ⟨w.heap.size, 0, none⟩ = some v := by simp
theorem newfrozen (w : World) (v : Value) (t : TypeId) : (w.alloc (.cells #[v] t)).frozen? ⟨w.heap.size, 0, none⟩ = false := by simp

theorem cell_set {w : World} {a : Addr} {u : Value} (h : w.cell? a = some u) (v : Value) : (w.setCell a v).cell? a = some v := World.cell?_setCell_same' w a v (by simp [h])
theorem size_lt (w : World) (o : Obj) : w.heap.size < (w.alloc o).heap.size := by simp
theorem lt_set {w : World} {a : Addr} {u : Value} (h : w.cell? a = some u) (v : Value) : a.block < (w.setCell a v).heap.size := by
  have := World.block_lt_of_cell? _ _ h
  simpa [World.setCell] using this
theorem keep_far {w : World} {b b' o o' : Nat} {v u : Value} (h : w.cell? ⟨b, o, none⟩ = some v) (hne : b ≠ b') : (w.setCell ⟨b', o', none⟩ u).cell? ⟨b, o, none⟩ = some v :=
  (World.cell?_of_block (Below.heap_setCell w ⟨b', o', none⟩ u b hne)).trans h

theorem owns_slice {w : World} {base : Nat} {e : TypeId} {size : Nat} {v : Value} {n : Nat} {xs : List Value} (h : w.ownsRow base e size v n xs) : ∃ r cap, v = .slice r n cap := by
  rcases h.2 with ⟨rfl, rfl⟩ | ⟨g, cap, cur, rfl, _⟩
  · exact ⟨none, 0, rfl⟩
  · exact ⟨_, cap, rfl⟩

theorem wpList_append_all {P : Program} {w : World} {ops : Array Oper} {rest : List Oper} {o : Oper} {a : Act} {Q : Exit → Act → World → Prop} (hgd : o.guard = none) (s x : Operand) (t : TypeId)
    (ho : o.op = .call { callee := .builtin .append, args := #[s, x], argTypes := #[t, t] })
    (base : Nat) (e : TypeId) (i : TypeInfo) (z : Value) (bytes : Nat) (ht : P.underlying t = some (.slice e)) (hi : P.info? e = some i) (hz : i.zero = some z)
    (hsize : i.size = 1) (hby : i.bytes = bytes) (hzs : z.cells.size = 1)
    (v : Value) (n : Nat) (xs : List Value) (hs : a.eval s = v) (hown : w.ownsRow base e 1 v n xs)
    (ao : Option Addr) (m c : Nat) (zs : List Int) (hx : a.eval x = .slice ao m c) (hl : zs.length = m) (hat : At w ao zs) (hnil : ao = none → c = 0)
    (h63 : n + m ≤ maxLen) (hbytes : (n + m) * bytes ≤ 140737488355328) (hbase : base ≤ w.heap.size)
    (h : ∀ r cap w', w'.ownsRow base e 1 (.slice r (n + m) cap) (n + m) (xs ++ zs.map (.int .i64)) → w.grownBy w' v.ownBlock → wpList P ops Q rest (a.put o.dst (.slice r (n + m) cap)) w') : wpList P ops Q (o :: rest) a w := by
  cases ao with
  | none =>
    have hc := hnil rfl
    have hzs' : zs = [] := by
      rcases hat with h | ⟨b, off, h, _⟩
      · exact h
      · cases h
    subst hzs' hc
    simp at hl
    subst hl
    refine wpList_append_own_none hgd s x t ho base e i 1 ht hi v n xs hs hown hx ?_
    obtain ⟨r, cap, rfl⟩ := owns_slice hown
    have := h r cap w (by simpa using hown) (World.grownBy.refl _ _)
    simpa using this
  | some ad =>
    refine wpList_append_own w hgd s x t ho base e i z 1 bytes ht hi hz hsize hby hzs (by decide) v n xs hs hown ad m c (zs.map (.int .i64)) hx (by simpa using hl) ?_ ?_ h63 hbytes hbase ?_
    · intro j u hj
      have hjl : j < zs.length := by
        have := (List.getElem?_eq_some_iff.1 hj).1
        simpa using this
      obtain ⟨b, off, he, _, hc⟩ := hat.some (by omega)
      simp only [Option.some.injEq] at he
      subst he
      rw [Addr.add_lit, hc j hjl]
      simpa [List.getD, hjl] using hj
    · intro u hu
      obtain ⟨y, _, rfl⟩ := List.mem_map.1 hu
      rfl
    · intro v' w' h2 h3 _
      obtain ⟨r, cap, rfl⟩ := owns_slice h2
      exact h r cap w' h2 h3

/-- Behind 'x.f = <a slice that the call owns>'. -/
theorem RowVar.put {w w1 : World} {R : Nat} {t : TypeId} {base : Nat} {e : TypeId} {a r : Option Addr} {n c k cap : Nat} {zs ys : List Int} (h : RowVar w R t base e a n c zs) (hl : ys.length = k)
    (hown : w1.ownsRow base e 1 (.slice r k cap) k (ys.map (.int .i64))) (hg : w.grownBy w1 (Value.slice a n c).ownBlock) :
    w1.cell? ⟨R, 0, none⟩ = some (.slice a n c) ∧ w1.frozen? ⟨R, 0, none⟩ = false ∧ RowVar (w1.setCell ⟨R, 0, none⟩ (.slice r k cap)) R t base e r k cap ys := by
  have hlt := (Array.getElem?_eq_some_iff.1 h.2.2.1).1
  have hR : w1.heap[R]? = some (.cells #[.slice a n c] t (0, 0)) := by
    rw [hg.block R hlt (fun e' => by have := (h.2.2.2.lt R e'.symm).1; have := h.2.1; omega)]
    exact h.2.2.1
  refine ⟨by rw [cell_of_row w1 R 0 _ t (0, 0) hR]; simp, frozen_of_row w1 R 0 _ t hR, hl, h.2.1, ?_, ?_⟩
  · rw [heap_setCell_same w1 R 0 _ t _ hR]; simp
  · exact ownsRow_setCell_below hown h.2.1 _
theorem RowVar.put_below {w w1 : World} {R : Nat} {t : TypeId} {base : Nat} {e : TypeId} {a : Option Addr} {n c : Nat} {zs : List Int} {B : Nat} {W : World} {v : Value} (h : RowVar w R t base e a n c zs)
    (hg : w.grownBy w1 (Value.slice a n c).ownBlock) (hB : Below B W w) (hBR : B ≤ R) : Below B W (w1.setCell ⟨R, 0, none⟩ v) := by
  have hlt := (Array.getElem?_eq_some_iff.1 h.2.2.1).1
  have hb := h.2.1
  exact (hB.grown hg (by omega) (fun j hj => by have := (h.2.2.2.lt j hj).1; omega)).setCell hBR _

/-- As RowVar, the slice's cells in any block of the call's own but the variable's. -/
def RowVar2 (w : World) (R : Nat) (t : TypeId) (base : Nat) (e : TypeId) (a : Option Addr) (n c : Nat) (zs : List Int) : Prop :=
  zs.length = n ∧ w.heap[R]? = some (.cells #[.slice a n c] t (0, 0)) ∧ w.ownsRow base e 1 (.slice a n c) n (zs.map (.int .i64)) ∧ ∀ k, (Value.slice a n c).ownBlock = some k → k ≠ R

theorem RowVar2.cell {w : World} {R : Nat} {t : TypeId} {base : Nat} {e : TypeId} {a : Option Addr} {n c : Nat} {zs : List Int} (h : RowVar2 w R t base e a n c zs) : w.cell? ⟨R, 0, none⟩ = some (.slice a n c) := by
  rw [cell_of_row w R 0 _ t (0, 0) h.2.1]; simp
theorem RowVar2.frozen {w : World} {R : Nat} {t : TypeId} {base : Nat} {e : TypeId} {a : Option Addr} {n c : Nat} {zs : List Int} (h : RowVar2 w R t base e a n c zs) : w.frozen? ⟨R, 0, none⟩ = false := frozen_of_row w R 0 _ t h.2.1
theorem RowVar2.own {w : World} {R : Nat} {t : TypeId} {base : Nat} {e : TypeId} {a : Option Addr} {n c : Nat} {zs : List Int} (h : RowVar2 w R t base e a n c zs) : w.ownsRow base e 1 (.slice a n c) n (zs.map (.int .i64)) := h.2.2.1
theorem RowVar2.lt {w : World} {R : Nat} {t : TypeId} {base : Nat} {e : TypeId} {a : Option Addr} {n c : Nat} {zs : List Int} (h : RowVar2 w R t base e a n c zs) : R < w.heap.size := (Array.getElem?_eq_some_iff.1 h.2.1).1
theorem RowVar2.below {w w' : World} {R : Nat} {t : TypeId} {base : Nat} {e : TypeId} {a : Option Addr} {n c : Nat} {zs : List Int} (h : RowVar2 w R t base e a n c zs) (hb : Below w.heap.size w w') : RowVar2 w' R t base e a n c zs :=
  ⟨h.1, (hb.block R h.lt).trans h.2.1, owns_below h.2.2.1 hb, h.2.2.2⟩
theorem RowVar2.new {w : World} {t : TypeId} {base : Nat} {e : TypeId} {a : Option Addr} {n c : Nat} {zs : List Int} (hl : zs.length = n) (h : w.ownsRow base e 1 (.slice a n c) n (zs.map (.int .i64))) : RowVar2 (w.alloc (.cells #[.slice a n c] t)) w.heap.size t base e a n c zs :=
  ⟨hl, heap_alloc_new w _, h.alloc _, fun k hk => by have := (h.lt k hk).2; omega⟩

theorem setCell_grown (w : World) (a : Addr) (v : Value) : w.grownBy (w.setCell a v) (some a.block) :=
  ⟨rfl, rfl, rfl, by simp [World.setCell], fun k _ hn => Below.heap_setCell w a v k (fun e => hn (by rw [e]))⟩

theorem RowVar2.pushed {w w1 : World} {R : Nat} {t : TypeId} {base : Nat} {e : TypeId} {a : Option Addr} {n c g cap : Nat} {zs : List Int} {x : Int} {o : Obj} (h : RowVar2 w R t base e a n c zs)
    (hown : w1.ownsRow base e 1 (.slice (some ⟨g, 0, none⟩) (n + 1) cap) (n + 1) (zs.map (.int .i64) ++ [.int .i64 x])) (hg : (w.alloc o).grownBy w1 (Value.slice a n c).ownBlock)
    (hat : (Value.slice a n c).ownBlock = some g ∨ g = w.heap.size + 1) :
    w1.cell? ⟨R, 0, none⟩ = some (.slice a n c) ∧ w1.frozen? ⟨R, 0, none⟩ = false ∧
      RowVar2 (w1.setCell ⟨R, 0, none⟩ (.slice (some ⟨g, 0, none⟩) (n + 1) cap)) R t base e (some ⟨g, 0, none⟩) (n + 1) cap (zs ++ [x]) := by
  have hlt := h.lt
  have hgR : g ≠ R := by
    rcases hat with h' | h'
    · exact h.2.2.2 g h'
    · omega
  have hR : w1.heap[R]? = some (.cells #[.slice a n c] t (0, 0)) := by
    rw [hg.block R (by simp; omega) (fun e' => h.2.2.2 R e'.symm rfl), Below.heap_alloc w o R hlt]
    exact h.2.1
  refine ⟨by rw [cell_of_row w1 R 0 _ t (0, 0) hR]; simp, frozen_of_row w1 R 0 _ t hR, by simp [h.1], ?_, ?_, ?_⟩
  · rw [heap_setCell_same w1 R 0 _ t _ hR]; simp
  · rw [List.map_append]
    exact hown.kept (setCell_grown w1 ⟨R, 0, none⟩ _) (.inr (by simp [Value.ownBlock, hgR]))
  · intro k hk
    simp [Value.ownBlock] at hk
    omega

theorem RowVar2.pushed_below {w w1 : World} {R : Nat} {t : TypeId} {base : Nat} {e : TypeId} {a : Option Addr} {n c : Nat} {zs : List Int} {o : Obj} {B : Nat} {W : World} {v : Value} (h : RowVar2 w R t base e a n c zs)
    (hg : (w.alloc o).grownBy w1 (Value.slice a n c).ownBlock) (hB : Below B W w) (hBR : B ≤ R) (hBb : B ≤ base) : Below B W (w1.setCell ⟨R, 0, none⟩ v) := by
  have hlt := h.lt
  exact ((hB.alloc (by omega) o).grown hg (by simp; omega) (fun j hj => by have := (h.2.2.1.lt j hj).1; omega)).setCell hBR _

end Go.Proofs.Ytlfljfmhhnoinaa
