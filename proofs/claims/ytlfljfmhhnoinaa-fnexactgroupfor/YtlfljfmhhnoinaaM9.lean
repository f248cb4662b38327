/- Several texts of one proof, in build order: SixK, MapV, RollP, GfP, GroundN. -/
import Derived.Test.YtlfljfmhhnoinaaM8
import Derived.Test.YtlfljfmhhnoinaaM7
import Derived.Test.YtlfljfmhhnoinaaM5
import Derived.Test.YtlfljfmhhnoinaaM6
import Derived.Test.YtlfljfmhhnoinaaM2

/- Arrays of six numbers as keys. -/
namespace Go.Proofs.Ytlfljfmhhnoinaa
open Go.RowKit Go.Maps

/-- Six numbers as an array's value. -/
def Six.val (x : Six) : Value := .agg #[.int .i64 x.1, .int .i64 x.2.1, .int .i64 x.2.2.1, .int .i64 x.2.2.2.1, .int .i64 x.2.2.2.2.1, .int .i64 x.2.2.2.2.2]
theorem Six.val_arr (x : Six) : Six.val x = arrV (Six.list x) := rfl
theorem six_of {zs : List Int} (h : zs.length = 6) : ∃ x : Six, Six.list x = zs := by
  obtain ⟨x0, x1, x2, x3, x4, x5, rfl⟩ := list6 h
  exact ⟨(x0, x1, x2, x3, x4, x5), rfl⟩
theorem six_key {key : Value} {kl : Lit} (h : keyOf Try.prog 72 key = some kl) : ∃ x : Six, key = Six.val x := by
  obtain ⟨zs, hf, rfl, _⟩ := keyOf_arr_inv h
  obtain ⟨x, rfl⟩ := six_of hf.1
  exact ⟨x, rfl⟩
theorem Try.infoA : (Try.prog.info? 72).map (fun i => (i.zero, i.size, i.bytes)) = some (some (.agg #[.int .i64 0, .int .i64 0, .int .i64 0, .int .i64 0, .int .i64 0, .int .i64 0]), 6, 48) := by kernel_rfl

theorem six_later {w w' : World} {Z : Nat} {x0 x1 x2 x3 x4 x5 : Int} (hb : Below w.heap.size w w') (h : w.cell? ⟨Z, 0, none⟩ = some (.int .i64 x0) ∧ w.cell? ⟨Z, 1, none⟩ = some (.int .i64 x1) ∧ w.cell? ⟨Z, 2, none⟩ = some (.int .i64 x2) ∧ w.cell? ⟨Z, 3, none⟩ = some (.int .i64 x3) ∧ w.cell? ⟨Z, 4, none⟩ = some (.int .i64 x4) ∧ w.cell? ⟨Z, 5, none⟩ = some (.int .i64 x5)) : w'.cell? ⟨Z, 0, none⟩ = some (.int .i64 x0) ∧ w'.cell? ⟨Z, 1, none⟩ = some (.int .i64 x1) ∧ w'.cell? ⟨Z, 2, none⟩ = some (.int .i64 x2) ∧ w'.cell? ⟨Z, 3, none⟩ = some (.int .i64 x3) ∧ w'.cell? ⟨Z, 4, none⟩ = some (.int .i64 x4) ∧ w'.cell? ⟨Z, 5, none⟩ = some (.int .i64 x5) :=
  ⟨cell_later hb h.1, cell_later hb h.2.1, cell_later hb h.2.2.1, cell_later hb h.2.2.2.1, cell_later hb h.2.2.2.2.1, cell_later hb h.2.2.2.2.2⟩
theorem six_grown {w w' : World} {Z : Nat} {x0 x1 x2 x3 x4 x5 : Int} {row : Option Nat} (hg : w.grownBy w' row) (hne : some Z ≠ row) (h : w.cell? ⟨Z, 0, none⟩ = some (.int .i64 x0) ∧ w.cell? ⟨Z, 1, none⟩ = some (.int .i64 x1) ∧ w.cell? ⟨Z, 2, none⟩ = some (.int .i64 x2) ∧ w.cell? ⟨Z, 3, none⟩ = some (.int .i64 x3) ∧ w.cell? ⟨Z, 4, none⟩ = some (.int .i64 x4) ∧ w.cell? ⟨Z, 5, none⟩ = some (.int .i64 x5)) : w'.cell? ⟨Z, 0, none⟩ = some (.int .i64 x0) ∧ w'.cell? ⟨Z, 1, none⟩ = some (.int .i64 x1) ∧ w'.cell? ⟨Z, 2, none⟩ = some (.int .i64 x2) ∧ w'.cell? ⟨Z, 3, none⟩ = some (.int .i64 x3) ∧ w'.cell? ⟨Z, 4, none⟩ = some (.int .i64 x4) ∧ w'.cell? ⟨Z, 5, none⟩ = some (.int .i64 x5) :=
  ⟨hg.cell h.1 hne, hg.cell h.2.1 hne, hg.cell h.2.2.1 hne, hg.cell h.2.2.2.1 hne, hg.cell h.2.2.2.2.1 hne, hg.cell h.2.2.2.2.2 hne⟩


/-- The row that an array was made of. -/
def unr (q : Nat) (l : List Int) : List Int := (l.take q).map (· - 100001)
theorem unr_raised (zs : List Int) : unr zs.length (raised zs) = zs := by
  unfold unr raised
  rw [List.take_append_of_le_length (by simp), List.take_of_length_le (by simp), List.map_map]
  conv => rhs; rw [← List.map_id zs]
  exact List.map_congr_left fun x _ => by simp only [Function.comp, id]; omega

end Go.Proofs.Ytlfljfmhhnoinaa

/- Maps of amounts keyed by arrays: what they hold; which groups they tell. -/
namespace Go.Proofs.Ytlfljfmhhnoinaa
open Go.RowKit Go.Maps

/-- What an amount reads as. -/
def amtD (x : Amt) : DataW Unit := .agg [.lit (.int .i64 x.1), .lit (.int .i64 x.2)]
theorem amtD_inj {x y : Amt} (h : amtD x = amtD y) : x = y := by
  simp only [amtD, DataW.agg.injEq, List.cons.injEq, DataW.lit.injEq, Lit.int.injEq, true_and, and_true] at h
  exact Prod.ext h.1 h.2
/-- How an element of type amount reads. -/
def amtElem (v : Value) : Option (DataW Unit × List MemPlace) :=
  match v with
  | .agg cs => match cs.toList with
    | [.int .i64 a, .int .i64 b] => some (amtD (a, b), [])
    | _ => none
  | _ => none
def amtVal (x : Amt) : Value := .agg #[.int .i64 x.1, .int .i64 x.2]
theorem amtElem_mk (x : Amt) : amtElem (amtVal x) = some (amtD x, []) := rfl
theorem amtElem_inv {v : Value} {z : DataW Unit × List MemPlace} (h : amtElem v = some z) : ∃ x : Amt, v = amtVal x ∧ z = (amtD x, []) := by
  unfold amtElem at h
  split at h
  · rename_i cs
    split at h
    · rename_i a b hcs
      refine ⟨(a, b), ?_, by simpa using h.symm⟩
      obtain ⟨l⟩ := cs
      simp only at hcs
      subst hcs
      rfl
    · cases h
  · cases h

/-- A map of amounts: at each array f's, an entry just where that is not nothing. -/
def MapV (D : DataW Unit) (f : List Int → Amt) : Prop :=
  ∀ a, Fits a → D.atKey (klit a) (amtD (0, 0)) = amtD (f a) ∧ Maps.has D (klit a) = decide (f a ≠ (0, 0))
theorem MapV.empty : MapV (.map []) (fun _ => (0, 0)) := fun a _ => ⟨rfl, by simp [Maps.has_eq]⟩
theorem MapV.put {D : DataW Unit} {f : List Int → Amt} (h : MapV D f) (hD : IsMap D) {a : List Int} (ha : Fits a) {v : Amt} (hv : v ≠ (0, 0)) :
    MapV (D.put (klit a) (amtD v)) (fun x => if x = a then v else f x) := fun x hx => by
  by_cases e : x = a
  · subst e
    exact ⟨by rw [atKey_put_same hD (klit_key hx)]; simp, by rw [has_put_same hD (klit_key hx)]; simp [hv]⟩
  · have hne : klit x ≠ klit a := fun e' => e (klit_inj hx ha e')
    obtain ⟨h1, h2⟩ := h x hx
    exact ⟨by rw [atKey_put_other hne, h1]; simp [e], by rw [has_put_other hne, h2]; simp [e]⟩
theorem MapV.del {D : DataW Unit} {f : List Int → Amt} (h : MapV D f) {a : List Int} (ha : Fits a) :
    MapV (D.del (klit a)) (fun x => if x = a then (0, 0) else f x) := fun x hx => by
  by_cases e : x = a
  · subst e
    exact ⟨by rw [atKey_del_same]; simp, by rw [has_del_same]; simp⟩
  · have hne : klit x ≠ klit a := fun e' => e (klit_inj hx ha e')
    obtain ⟨h1, h2⟩ := h x hx
    exact ⟨by rw [atKey_del_other hne, h1]; simp [e], by rw [has_del_other hne, h2]; simp [e]⟩
theorem MapV.at {D : DataW Unit} {f : List Int → Amt} (h : MapV D f) {a : List Int} (ha : Fits a) {c : Amt} (hc : D.atKey (klit a) (amtD (0, 0)) = amtD c) : c = f a := by
  rw [(h a ha).1] at hc
  exact (amtD_inj hc).symm
theorem MapV.congr {D : DataW Unit} {f f' : List Int → Amt} (h : MapV D f) (hf : ∀ x, f x = f' x) : MapV D f' := by
  obtain rfl : f = f' := funext hf
  exact h

/-- Groups by keys of q cells that have just the amounts of f. -/
structure TellsV (q : Nat) (f : List Int → Amt) (ts : List GRow) : Prop where
  rises : RisesV ts
  noZero : NoZeroV ts
  rows : ∀ t ∈ ts, good t.1 = true ∧ t.1.length = q
  weight : ∀ zs, good zs = true → zs.length = q → vOf ts zs = f (raised zs)
  keys : ∀ a, f a ≠ (0, 0) → ∃ zs, good zs = true ∧ zs.length = q ∧ a = raised zs
theorem TellsV.nil (q : Nat) : TellsV q (fun _ => (0, 0)) [] :=
  ⟨List.Pairwise.nil, fun t h => (by cases h), fun t h => (by cases h), fun zs _ _ => rfl, fun a h => absurd rfl h⟩
theorem TellsV.unique {q : Nat} {f : List Int → Amt} {ts us : List GRow} (h : TellsV q f ts) (k : TellsV q f us) : ts = us := by
  refine risesV_ext h.rises k.rises h.noZero k.noZero fun zs => ?_
  by_cases e : good zs = true ∧ zs.length = q
  · rw [h.weight zs e.1 e.2, k.weight zs e.1 e.2]
  · rw [vOf_absent fun t ht e' => e (by rw [← e']; exact h.rows t ht), vOf_absent fun t ht e' => e (by rw [← e']; exact k.rows t ht)]
theorem TellsV.put {q : Nat} {f : List Int → Amt} {ts : List GRow} (h : TellsV q f ts) {zs : List Int} (hg : good zs = true) (hl : zs.length = q) (x : Amt) :
    TellsV q (fun a => if a = raised zs then addA (f a) x else f a) (putV ts zs x) where
  rises := putV_rises h.rises
  noZero := putV_nozero h.noZero
  rows := fun t ht => by
    rcases putV_mem ht with h' | h'
    · exact h.rows t h'
    · rw [h']; exact ⟨hg, hl⟩
  weight := fun ys h1 h2 => by
    rw [putV_vOf ys h.rises, h.weight ys h1 h2]
    by_cases e : zs = ys
    · subst e; simp
    · have : raised ys ≠ raised zs := fun e' => e (raised_inj h1 hg e').symm
      simp [e, this, addA_zero]
  keys := fun a ha => by
    by_cases e : a = raised zs
    · exact ⟨zs, hg, hl, e⟩
    · simp only [if_neg e] at ha
      exact h.keys a ha

/-- The map in the block b tells the groups ts. -/
def CntV (w : World) (b q M : Nat) (ts : List GRow) : Prop :=
  ∃ cnt D f, w.ownsMap Try.prog 72 amtElem b cnt D ∧ MapV D f ∧ TellsV q f ts ∧ cnt ≤ M
section
variable {w w' : World} {b q M : Nat} {ts : List GRow}
theorem CntV.grown {row : Option Nat} (h : CntV w b q M ts) (hg : w.grownBy w' row) (hne : some b ≠ row) : CntV w' b q M ts := by
  obtain ⟨cnt, D, f, h1, h2⟩ := h
  exact ⟨cnt, D, f, h1.kept hg hne, h2⟩
theorem CntV.below (h : CntV w b q M ts) (hb : Below w.heap.size w w') : CntV w' b q M ts := h.grown (Below.toGrown hb none) (by simp)
theorem CntV.alloc (h : CntV w b q M ts) (o : Obj) : CntV (w.alloc o) b q M ts := h.below ((Below.refl _ _).alloc (Nat.le_refl _) o)
theorem CntV.drew (h : CntV w b q M ts) : CntV w.drew b q M ts := h.below (Below.refl _ _).drew
theorem CntV.mono {M' : Nat} (h : CntV w b q M ts) (hM : M ≤ M') : CntV w b q M' ts := by
  obtain ⟨cnt, D, f, h1, h2, h3, h4⟩ := h
  exact ⟨cnt, D, f, h1, h2, h3, by omega⟩
theorem CntV.lt (h : CntV w b q M ts) : b < w.heap.size := by
  obtain ⟨cnt, D, f, ⟨es, clock, hb, _⟩, _⟩ := h
  exact (Array.getElem?_eq_some_iff.1 hb).1
theorem CntV.rises (h : CntV w b q M ts) : RisesV ts := by obtain ⟨_, _, _, _, _, h, _⟩ := h; exact h.rises
theorem CntV.nocell (h : CntV w b q M ts) (a : Addr) {v : Value} (hc : w.cell? a = some v) : a.block ≠ b := by
  obtain ⟨cnt, D, f, ⟨es, clock, hb, _⟩, _⟩ := h
  rintro rfl
  simp [World.cell?, hb] at hc
end
theorem CntV.made (w : World) (q : Nat) : CntV (w.alloc (.map #[] 0)) w.heap.size q 0 [] :=
  ⟨0, _, _, World.ownsMap_made w Try.prog 72 amtElem, MapV.empty, TellsV.nil q, Nat.le_refl _⟩

end Go.Proofs.Ytlfljfmhhnoinaa

/- Plain: groups rolled up, their totals. -/
namespace Go.Proofs.Ytlfljfmhhnoinaa

/-- Numbers that may be the keys' cells'. -/
def colsUp (cols : List Int) (ts : List GRow) : Bool := decide (cols.length ≤ 6) && cols.all fun k => decide (0 ≤ k) && (decide (ts = []) || decide (k < keyN ts))
/-- Numbers from 0 on, at most six. -/
def mayPick (cols : List Int) : Bool := decide (cols.length ≤ 6) && cols.all fun k => decide (0 ≤ k)
def rolled (ts : List GRow) (cols : List Int) : List GRow := ts.map fun g => (pick g.1 cols, g.2)
def rollL (ts : List GRow) (cols : List Int) : List GRow := putAllV [] (rolled ts cols)
def rollB (ts : List GRow) (cols : List Int) : Bool := goodV ts && (colsUp cols ts && goodV (rollL ts cols))

theorem rolled_length (ts : List GRow) (cols : List Int) : (rolled ts cols).length = ts.length := by simp [rolled]
theorem rolled_at (ts : List GRow) (cols : List Int) (k : Nat) (h : k < ts.length) : gat (rolled ts cols) k = (pick (gat ts k).1 cols, (gat ts k).2) := by
  simp [rolled, gat, List.getD, h]
theorem rollB_good {ts : List GRow} {cols : List Int} (h : goodV ts = false) : rollB ts cols = false := by simp [rollB, h]
theorem rollB_cols {ts : List GRow} {cols : List Int} (h : colsUp cols ts = false) : rollB ts cols = false := by simp [rollB, h]
theorem rollB_yes {ts : List GRow} {cols : List Int} (h1 : goodV ts = true) (h2 : colsUp cols ts = true) : rollB ts cols = goodV (rollL ts cols) := by simp [rollB, h1, h2]
theorem rollB_goodV {ts : List GRow} {cols : List Int} (h : rollB ts cols = true) : goodV (rollL ts cols) = true := by
  simp only [rollB, Bool.and_eq_true] at h; exact h.2.2
theorem colsUp_may {ts : List GRow} {cols : List Int} (h : mayPick cols = false) : colsUp cols ts = false := by
  cases hg : colsUp cols ts with
  | false => rfl
  | true =>
    simp only [colsUp, Bool.and_eq_true, decide_eq_true_eq, List.all_eq_true] at hg
    have : mayPick cols = true := by
      simp only [mayPick, Bool.and_eq_true, decide_eq_true_eq, List.all_eq_true]
      exact ⟨hg.1, fun k hk => (hg.2 k hk).1⟩
    rw [this] at h; cases h
theorem colsUp_ok {ts : List GRow} {cols : List Int} (h : colsUp cols ts = true) (hne : ts ≠ []) : colsOk cols (keyN ts) = true := by
  simp only [colsUp, Bool.and_eq_true, decide_eq_true_eq, List.all_eq_true, Bool.or_eq_true] at h
  simp only [colsOk, colIn, Bool.and_eq_true, decide_eq_true_eq, List.all_eq_true]
  refine ⟨h.1, fun k hk => ?_⟩
  obtain ⟨h1, h2⟩ := h.2 k hk
  rcases h2 with h2 | h2
  · exact absurd h2 hne
  · exact ⟨h1, h2⟩
theorem colsUp_of {ts : List GRow} {cols : List Int} (h : mayPick cols = true) (h2 : ts ≠ [] → colsOk cols (keyN ts) = true) : colsUp cols ts = true := by
  simp only [mayPick, Bool.and_eq_true, decide_eq_true_eq, List.all_eq_true] at h
  simp only [colsUp, Bool.and_eq_true, decide_eq_true_eq, List.all_eq_true, Bool.or_eq_true]
  refine ⟨h.1, fun k hk => ⟨h.2 k hk, ?_⟩⟩
  by_cases e : ts = []
  · exact .inl e
  · right
    have := h2 e
    simp only [colsOk, colIn, Bool.and_eq_true, decide_eq_true_eq, List.all_eq_true] at this
    exact (this.2 k hk).2
theorem colsUp_not {ts : List GRow} {cols : List Int} (hne : ts ≠ []) (h : colsOk cols (keyN ts) = false) : colsUp cols ts = false := by
  cases hg : colsUp cols ts with
  | false => rfl
  | true => rw [colsUp_ok hg hne] at h; cases h
theorem colsUp_len {ts : List GRow} {cols : List Int} (h : colsUp cols ts = true) : cols.length ≤ 6 := by
  simp only [colsUp, Bool.and_eq_true, decide_eq_true_eq] at h; exact h.1

/-- A good group's parts. -/
theorem goodV_at {ts : List GRow} (h : goodV ts = true) (k : Nat) (hk : k < ts.length) : good (gat ts k).1 = true ∧ (gat ts k).1.length = keyN ts ∧ InA 100000000000000 (gat ts k).2 ∧ (gat ts k).2 ≠ (0, 0) := by
  obtain ⟨h1, h2, h3, h4, h5⟩ := goodG_cells (stepV_good ((goodV_parts h).2 k hk))
  have i1 := ins_range h3
  have i2 := ins_range h4
  refine ⟨h1, h2, ⟨i1.1, i1.2, i2.1, i2.2⟩, fun e => ?_⟩
  rw [e] at h5
  simp [nought] at h5
theorem goodV_mem {ts : List GRow} (h : goodV ts = true) : ∀ t ∈ ts, good t.1 = true ∧ t.1.length = keyN ts ∧ InA 100000000000000 t.2 ∧ t.2 ≠ (0, 0) := fun t ht => by
  obtain ⟨k, hk, rfl⟩ := List.getElem_of_mem ht
  have := goodV_at h k hk
  rwa [show gat ts k = ts[k] by simp [gat, List.getD, hk]] at this
theorem goodV_noZero {ts : List GRow} (h : goodV ts = true) : NoZeroV ts := fun t ht => (goodV_mem h t ht).2.2.2
theorem pick_good {zs cols : List Int} {n : Nat} (hg : good zs = true) (hl : zs.length = n) (hc : colsOk cols n = true) : good (pick zs cols) = true ∧ (pick zs cols).length = cols.length := by
  have hl' : (pick zs cols).length = cols.length := by simp [pick]
  refine ⟨good_of (by rw [hl']; exact colsOk_len hc) fun k hk => ?_, hl'⟩
  rw [hl'] at hk
  have h1 := colsOk_at hc k hk
  have e : (pick zs cols).getD k 0 = zs.getD (cols.getD k 0).toNat 0 := by simp [pick, List.getD, hk]
  rw [e]
  exact good_cell hg _ (by omega)
theorem rolled_mem {ts : List GRow} {cols : List Int} (h : goodV ts = true) (hc : ts ≠ [] → colsOk cols (keyN ts) = true) : ∀ t ∈ rolled ts cols, good t.1 = true ∧ t.1.length = cols.length ∧ InA 100000000000000 t.2 := fun t ht => by
  obtain ⟨s, hs, rfl⟩ := List.mem_map.1 ht
  obtain ⟨h1, h2, h3, _⟩ := goodV_mem h s hs
  have hne : ts ≠ [] := fun e => by rw [e] at hs; cases hs
  have := pick_good h1 h2 (hc hne)
  exact ⟨this.1, this.2, h3⟩
/-- What putting some of them makes lies within a bound. -/
theorem putAllV_in {l : List GRow} {M : Int} (hM : 0 ≤ M) (h : ∀ t ∈ l, InA M t.2) : ∀ t ∈ putAllV [] l, InA (M * l.length) t.2 := fun t ht => by
  have hr := putAllV_rises (l := l) (ts := []) List.Pairwise.nil
  have := vOf_mem hr ht
  rw [← this, putAllV_vOf _ List.Pairwise.nil, vOf_nil, zero_addA]
  exact sumV_bound hM h
theorem take_in {l : List GRow} {M : Int} (hM : 0 ≤ M) (h : ∀ t ∈ l, InA M t.2) (k n : Nat) (hk : k ≤ n) : ∀ t ∈ putAllV [] (l.take k), InA (M * n) t.2 := fun t ht => by
  refine (putAllV_in hM (fun t ht => h t (List.mem_of_mem_take ht)) t ht).mono (Int.mul_le_mul_of_nonneg_left ?_ hM)
  rw [List.length_take]
  omega
theorem putAllV_six {l : List GRow} (h : ∀ t ∈ l, good t.1 = true) : ∀ t ∈ putAllV [] l, t.1.length ≤ 6 := fun t ht => by
  rcases putAllV_rows ht with ⟨s, hs, _⟩ | ⟨s, hs, e⟩
  · cases hs
  · rw [← e]; exact good_len (h s hs)

/-- All numbers together. -/
def totalV (ts : List GRow) : Amt := ts.foldl (fun acc t => addA acc t.2) (0, 0)
def totB (ts : List GRow) : Bool := goodV ts && (ins (totalV ts).1 && ins (totalV ts).2)
theorem totalV_snoc (ts : List GRow) (t : GRow) : totalV (ts ++ [t]) = addA (totalV ts) t.2 := by unfold totalV; rw [List.foldl_append]; rfl
theorem totalV_take (ts : List GRow) (k : Nat) (h : k < ts.length) : totalV (ts.take (k + 1)) = addA (totalV (ts.take k)) (gat ts k).2 := by rw [vtake_succ ts k h, totalV_snoc]
theorem totalV_in {ts : List GRow} {M : Int} (h : ∀ t ∈ ts, InA M t.2) : InA (M * ts.length) (totalV ts) := by
  have : ∀ k, k ≤ ts.length → InA (M * k) (totalV (ts.take k)) := by
    intro k hk
    induction k with
    | zero => simpa [totalV] using inA_zero (Int.le_refl 0)
    | succ k ih =>
      rw [totalV_take ts k (by omega)]
      have := (ih (by omega)).add (h _ (gat_mem (show k < ts.length by omega)))
      rw [show M * ((k + 1 : Nat) : Int) = M * (k : Int) + M by push_cast; rw [Int.mul_add]; omega]
      exact this
  have h1 := this ts.length (Nat.le_refl _)
  rwa [List.take_of_length_le (Nat.le_refl _)] at h1
theorem oneV_put (x y : Amt) : putV (oneV [] x) [] y = oneV [] (addA x y) := by
  by_cases hx : x = (0, 0)
  · subst hx
    show restV [] y [] = _
    rw [zero_addA]; rfl
  · unfold oneV
    rw [if_neg hx]
    show (if cmp ([] : List Int) [] < 0 then _ else restV [] y [(([] : List Int), x)]) = _
    rw [if_neg (by decide)]
    simp only [restV, cmp, if_true]
    rw [List.append_nil, addA_comm]; rfl
theorem rollL_nil (ts : List GRow) : rollL ts [] = oneV [] (totalV ts) := by
  have : ∀ k, k ≤ ts.length → putAllV [] ((rolled ts []).take k) = oneV [] (totalV (ts.take k)) := by
    intro k hk
    induction k with
    | zero => rfl
    | succ k ih =>
      rw [putAllV_take _ _ k (by rw [rolled_length]; omega), ih (by omega), rolled_at ts [] k (by omega), totalV_take ts k (by omega)]
      exact oneV_put _ _
  have h1 := this ts.length (Nat.le_refl _)
  rw [List.take_of_length_le (by rw [rolled_length]; omega), List.take_of_length_le (Nat.le_refl _)] at h1
  exact h1
theorem goodV_one (x : Amt) : goodV (oneV [] x) = (ins x.1 && ins x.2) := by
  by_cases hx : x = (0, 0)
  · subst hx; rfl
  · unfold oneV
    rw [if_neg hx]
    obtain ⟨a, b⟩ := x
    have hn : nought a b = false := by
      simp only [nought, Bool.and_eq_false_iff, decide_eq_false_iff_not]
      by_cases ha : a = 0
      · right; intro hb; exact hx (by rw [ha, hb])
      · left; exact ha
    have hg : good ([] : List Int) = true := rfl
    simp [goodV, stepV, goodG, keyN, gat, hn, hg]
theorem totB_roll (ts : List GRow) : rollB ts [] = totB ts := by
  have : colsUp [] ts = true := by simp [colsUp]
  simp only [rollB, totB, this, Bool.true_and, rollL_nil, goodV_one]

end Go.Proofs.Ytlfljfmhhnoinaa

/- Plain: the group of a key. A key's arrays held equal. -/
namespace Go.Proofs.Ytlfljfmhhnoinaa
open Go.RowKit

def gfHit (ts : List GRow) (zs : List Int) : Bool := ts.any fun t => decide (t.1 = zs)
def gfB (ts : List GRow) (zs : List Int) : Bool := goodV ts && (good zs && gfHit ts zs)
def gfKey (ok : Bool) (zs : List Int) : List Int := if ok then zs else []
def gfNum (ok : Bool) (x : Int) : Int := if ok then x else 0
section
variable {ts : List GRow} {zs : List Int}
theorem gfB_good (h : goodV ts = false) : gfB ts zs = false := by simp [gfB, h]
theorem gfB_row (h : good zs = false) : gfB ts zs = false := by simp [gfB, h]
theorem gfB_none (h : ∀ j, j < ts.length → (gat ts j).1 ≠ zs) : gfB ts zs = false := by
  have : gfHit ts zs = false := by
    cases hh : gfHit ts zs with
    | false => rfl
    | true =>
      obtain ⟨t, ht, e⟩ := List.any_eq_true.1 hh
      obtain ⟨k, hk, rfl⟩ := List.getElem_of_mem ht
      exact absurd (of_decide_eq_true e) (by have := h k hk; rwa [show gat ts k = ts[k] by simp [gat, List.getD, hk]] at this)
  simp [gfB, this]
theorem gfB_hit (hg : goodV ts = true) (k : Nat) (hk : k < ts.length) (e : (gat ts k).1 = zs) : gfB ts zs = true ∧ vOf ts zs = (gat ts k).2 := by
  refine ⟨?_, ?_⟩
  · have h1 : good zs = true := by rw [← e]; exact (goodV_at hg k hk).1
    have h2 : gfHit ts zs = true := List.any_eq_true.2 ⟨gat ts k, gat_mem hk, decide_eq_true e⟩
    simp [gfB, hg, h1, h2]
  · rw [← e]; exact vOf_mem (goodV_rises hg) (gat_mem hk)
end
/-- What a function that tells a group or nothing hands back. -/
def OneRet (e : Ending) (w' : World) (lo : Nat) (ok : Bool) (zs : List Int) (x y : Int) : Prop :=
  ∃ r m d, e = .returned (.tuple #[.agg #[.slice r m d, .int .i64 x, .int .i64 y], .bool ok]) ∧ OwnI w' lo w'.heap.size r m d zs
def OneAns (e : Ending) (w' : World) (lo : Nat) (ok : Bool) (zs : List Int) (x y : Int) : Prop := OneRet e w' lo ok (gfKey ok zs) (gfNum ok x) (gfNum ok y)
theorem OneAns.zero {e : Ending} {w' : World} {lo : Nat} {ok : Bool} {zs : List Int} {x y : Int} (h : ok = false) (he : e = .returned (.tuple #[.agg #[.slice none 0 0, .int .i64 0, .int .i64 0], .bool false])) : OneAns e w' lo ok zs x y := by
  subst h
  exact ⟨none, 0, 0, he, World.ownsRow_nil _ _ _ _, fun k hk => by cases hk⟩
theorem ownI_of {w : World} {lo : Nat} {r : Option Addr} {m d : Nat} {zs : List Int} (h : w.ownsRow lo 3 1 (.slice r m d) m (zs.map (.int .i64))) : OwnI w lo w.heap.size r m d zs := ⟨h, fun k hk => h.lt k hk⟩
/-- Behind the store of a group into a variable below. -/
theorem owns_set3 {w : World} {lo : Nat} {v : Value} {n : Nat} {xs : List Value} {R : Nat} {p q s : Value} (h : w.ownsRow lo 3 1 v n xs) (hR : R < lo) : (((w.setCell ⟨R, 0, none⟩ p).setCell ⟨R, 1, none⟩ q).setCell ⟨R, 2, none⟩ s).ownsRow lo 3 1 v n xs := by
  have hne : v.ownBlock ≠ some R := fun e => by have h9 := (h.lt R e).1; omega
  exact ((h.kept (setCell_grown w ⟨R, 0, none⟩ p) (.inr hne)).kept (setCell_grown _ ⟨R, 1, none⟩ q) (.inr hne)).kept (setCell_grown _ ⟨R, 2, none⟩ s) (.inr hne)

theorem eq_good {X Y : List Int} {x0 x1 x2 x3 x4 x5 y0 y1 y2 y3 y4 y5 : Int} {bl : Bool} (hx : raised X = [x0, x1, x2, x3, x4, x5]) (hy : raised Y = [y0, y1, y2, y3, y4, y5]) (gX : good X = true) (gY : good Y = true) (hb : decide (X = Y) = bl) :
    ∀ w, (Op.equalIn 10000 72 (.agg #[.int .i64 x0, .int .i64 x1, .int .i64 x2, .int .i64 x3, .int .i64 x4, .int .i64 x5]) (.agg #[.int .i64 y0, .int .i64 y1, .int .i64 y2, .int .i64 y3, .int .i64 y4, .int .i64 y5])).run Try.prog w = .ok bl w := fun w => by
  obtain ⟨i0, hi, hz0, hz1, hz2⟩ := info_parts Try.infoInt
  have h := run_equal_ints w 9998 72 3 i0 Try.underlying72 Try.underlying3 hi hz1 [x0, x1, x2, x3, x4, x5] [y0, y1, y2, y3, y4, y5] rfl rfl
  have hd : decide (raised X = raised Y) = decide (X = Y) := by
    by_cases e : X = Y
    · simp [e]
    · rw [decide_eq_false e, decide_eq_false fun h' => e (raised_inj gX gY h')]
  rw [← hx, ← hy, hd, hb, hx, hy] at h
  simpa using h

end Go.Proofs.Ytlfljfmhhnoinaa

/- Cells that mean groups, whoever owns them. -/
namespace Go.Proofs.Ytlfljfmhhnoinaa
open Go.RowKit

/-- Cells that mean weighted rows. -/
def MeansN (w : World) : List Value → List GRow → Prop
  | [], [] => True
  | u :: v :: k :: cs, t :: ts => (∃ a c, u = .slice a t.1.length c ∧ (a = none → c = 0) ∧ At w a t.1) ∧ t.1.length ≤ 9223372036854775807 ∧ v = .int .i64 t.2.1 ∧ k = .int .i64 t.2.2 ∧ MeansN w cs ts
  | _, _ => False

theorem MeansN.nil (w : World) : MeansN w [] [] := trivial
theorem MeansN.one {w : World} {a : Option Addr} {zs : List Int} {n c : Nat} {x y : Int} (hn : zs.length = n) (h6 : n ≤ 9223372036854775807) (hnil : a = none → c = 0) (h : At w a zs) : MeansN w [.slice a n c, .int .i64 x, .int .i64 y] [(zs, x, y)] :=
  ⟨⟨a, c, by rw [hn], hnil, h⟩, by simp only [hn]; exact h6, rfl, rfl, trivial⟩

set_option linter.unusedVariables false in
theorem MeansN.length {w : World} : ∀ {cs : List Value} {ts : List GRow}, MeansN w cs ts → cs.length = ts.length * 3
  | [], [], _ => rfl
  | [], _ :: _, h => h.elim
  | [_], [], h => h.elim
  | [_, _], [], h => h.elim
  | [_], _ :: _, h => h.elim
  | [_, _], _ :: _, h => h.elim
  | _ :: _ :: _ :: _, [], h => h.elim
  | u :: v :: k' :: cs, t :: ts, ⟨_, _, _, _, h⟩ => by have := MeansN.length h; simp [this]; omega

set_option linter.unusedVariables false in
theorem MeansN.below {w w' : World} (hb : Below w.heap.size w w') : ∀ {cs : List Value} {ts : List GRow}, MeansN w cs ts → MeansN w' cs ts
  | [], [], _ => trivial
  | [], _ :: _, h => h.elim
  | [_], [], h => h.elim
  | [_, _], [], h => h.elim
  | [_], _ :: _, h => h.elim
  | [_, _], _ :: _, h => h.elim
  | _ :: _ :: _ :: _, [], h => h.elim
  | u :: v :: k' :: cs, t :: ts, ⟨⟨a, c, h1, h0, h2⟩, h3, h4, h4', h5⟩ => ⟨⟨a, c, h1, h0, h2.below hb⟩, h3, h4, h4', MeansN.below hb h5⟩

set_option linter.unusedVariables false in
theorem MeansN.append {w : World} : ∀ {cs cs' : List Value} {ts ts' : List GRow}, MeansN w cs ts → MeansN w cs' ts' → MeansN w (cs ++ cs') (ts ++ ts')
  | [], _, [], _, _, h => h
  | [], _, _ :: _, _, h, _ => h.elim
  | [_], _, [], _, h, _ => h.elim
  | [_, _], _, [], _, h, _ => h.elim
  | [_], _, _ :: _, _, h, _ => h.elim
  | [_, _], _, _ :: _, _, h, _ => h.elim
  | _ :: _ :: _ :: _, _, [], _, h, _ => h.elim
  | u :: v :: k' :: cs, cs', t :: ts, ts', ⟨h1, h2, h3, h3', h4⟩, h => ⟨h1, h2, h3, h3', MeansN.append h4 h⟩

set_option linter.unusedVariables false in
theorem MeansN.take {w : World} : ∀ {cs : List Value} {ts : List GRow} (k : Nat), MeansN w cs ts → MeansN w (cs.take (k * 3)) (ts.take k)
  | [], [], _, _ => by simp [MeansN]
  | [], _ :: _, _, h => h.elim
  | [_], [], _, h => h.elim
  | [_, _], [], _, h => h.elim
  | [_], _ :: _, _, h => h.elim
  | [_, _], _ :: _, _, h => h.elim
  | _ :: _ :: _ :: _, [], _, h => h.elim
  | u :: v :: k' :: cs, t :: ts, 0, _ => by simp [MeansN]
  | u :: v :: k' :: cs, t :: ts, k + 1, ⟨h1, h2, h3, h3', h4⟩ => by
    rw [show (k + 1) * 3 = k * 3 + 1 + 1 + 1 by omega]
    exact ⟨h1, h2, h3, h3', MeansN.take k h4⟩
set_option linter.unusedVariables false in
theorem MeansN.drop {w : World} : ∀ {cs : List Value} {ts : List GRow} (k : Nat), MeansN w cs ts → MeansN w (cs.drop (k * 3)) (ts.drop k)
  | [], [], _, _ => by simp [MeansN]
  | [], _ :: _, _, h => h.elim
  | [_], [], _, h => h.elim
  | [_, _], [], _, h => h.elim
  | [_], _ :: _, _, h => h.elim
  | [_, _], _ :: _, _, h => h.elim
  | _ :: _ :: _ :: _, [], _, h => h.elim
  | u :: v :: k' :: cs, t :: ts, 0, h => by simpa using h
  | u :: v :: k' :: cs, t :: ts, k + 1, ⟨h1, h2, h3, h3', h4⟩ => by
    rw [show (k + 1) * 3 = k * 3 + 1 + 1 + 1 by omega]
    exact MeansN.drop k h4

set_option linter.unusedVariables false in
theorem MeansN.at {w : World} : ∀ {cs : List Value} {ts : List GRow} (i : Nat), MeansN w cs ts → i < ts.length → ∃ a c, cs[i * 3]? = some (.slice a (gat ts i).1.length c) ∧ cs[i * 3 + 1]? = some (.int .i64 (gat ts i).2.1) ∧ cs[i * 3 + 2]? = some (.int .i64 (gat ts i).2.2) ∧ (gat ts i).1.length ≤ 9223372036854775807 ∧ (a = none → c = 0) ∧ At w a (gat ts i).1
  | [], [], _, _, h => by simp at h
  | [], _ :: _, _, h, _ => h.elim
  | [_], [], _, h, _ => h.elim
  | [_, _], [], _, h, _ => h.elim
  | [_], _ :: _, _, h, _ => h.elim
  | [_, _], _ :: _, _, h, _ => h.elim
  | _ :: _ :: _ :: _, [], _, h, _ => h.elim
  | u :: v :: k' :: cs, t :: ts, 0, ⟨⟨a, c, h1, h0, h2⟩, h3, h4, h4', _⟩, _ => ⟨a, c, by simp [gat, h1], by simp [gat, h4], by simp [gat, h4'], by simpa [gat] using h3, h0, by simpa [gat] using h2⟩
  | u :: v :: k' :: cs, t :: ts, i + 1, ⟨_, _, _, _, h5⟩, hi => by
    obtain ⟨a, c, k1, k2, k2', k3, k0, k4⟩ := MeansN.at i h5 (by simpa using hi)
    have e : gat (t :: ts) (i + 1) = gat ts i := by simp [gat]
    rw [e]
    refine ⟨a, c, ?_, ?_, ?_, k3, k0, k4⟩
    · rw [show (i + 1) * 3 = i * 3 + 1 + 1 + 1 by omega]; simpa using k1
    · rw [show (i + 1) * 3 + 1 = (i * 3 + 1) + 1 + 1 + 1 by omega]; simpa using k2
    · rw [show (i + 1) * 3 + 2 = (i * 3 + 2) + 1 + 1 + 1 by omega]; simpa using k2'

set_option linter.unusedVariables false in
theorem MeansN.oneCell {w : World} : ∀ {cs : List Value} {ts : List GRow}, MeansN w cs ts → ∀ u ∈ cs, u.oneCell' = true
  | [], [], _, _, h => by cases h
  | [], _ :: _, h, _, _ => h.elim
  | [_], [], h, _, _ => h.elim
  | [_, _], [], h, _, _ => h.elim
  | [_], _ :: _, h, _, _ => h.elim
  | [_, _], _ :: _, h, _, _ => h.elim
  | _ :: _ :: _ :: _, [], h, _, _ => h.elim
  | u :: v :: k' :: cs, t :: ts, ⟨⟨a, c, h1, _, _⟩, _, h4, h4', h5⟩, x, hx => by
    rcases List.mem_cons.1 hx with rfl | hx
    · subst h1; rfl
    · rcases List.mem_cons.1 hx with rfl | hx
      · subst h4; rfl
      · rcases List.mem_cons.1 hx with rfl | hx
        · subst h4'; rfl
        · exact MeansN.oneCell h5 x hx

theorem meansN_of {w : World} : ∀ {ts : List GRow} {cs : List Value}, cs.length = ts.length * 3 → (∀ i, i < ts.length → ∃ a c, cs[i * 3]? = some (.slice a (gat ts i).1.length c) ∧ cs[i * 3 + 1]? = some (.int .i64 (gat ts i).2.1) ∧ cs[i * 3 + 2]? = some (.int .i64 (gat ts i).2.2) ∧ (gat ts i).1.length ≤ 9223372036854775807 ∧ (a = none → c = 0) ∧ At w a (gat ts i).1) → MeansN w cs ts
  | [], [], _, _ => trivial
  | [], _ :: _, h, _ => by simp at h
  | _ :: _, [], h, _ => by simp at h
  | _ :: _, [_], h, _ => by simp at h; omega
  | _ :: _, [_, _], h, _ => by simp at h; omega
  | t :: ts, u :: v :: k' :: cs, hl, h => by
    obtain ⟨a, c, k1, k2, k2', k3, k0, k4⟩ := h 0 (by simp)
    have e : gat (t :: ts) 0 = t := by simp [gat]
    rw [e] at k1 k2 k2' k3 k4
    refine ⟨⟨a, c, by simpa using k1, k0, k4⟩, k3, by simpa using k2, by simpa using k2', meansN_of (by simp at hl; omega) fun i hi => ?_⟩
    obtain ⟨a, c, k1, k2, k2', k3, k0, k4⟩ := h (i + 1) (by simpa using hi)
    have e : gat (t :: ts) (i + 1) = gat ts i := by simp [gat]
    rw [e] at k1 k2 k2' k3 k4
    rw [show (i + 1) * 3 = i * 3 + 1 + 1 + 1 by omega] at k1 k2 k2'
    exact ⟨a, c, by simpa using k1, by simpa using k2, by simpa using k2', k3, k0, k4⟩

theorem MeansN.atV {w : World} {cs : List Value} {ts : List GRow} {b off : Nat} (h : MeansN w cs ts) (hc : ∀ j u, cs[j]? = some u → w.cell? ⟨b, off + j, none⟩ = some u) : AtV w (some ⟨b, off, none⟩) ts :=
  .inr ⟨b, off, rfl, fun i hi => by
    obtain ⟨a, c, k1, k2, k2', k3, _, k4⟩ := h.at i hi
    exact ⟨a, c, by rw [hc _ _ k1], by rw [show off + i * 3 + 1 = off + (i * 3 + 1) by omega, hc _ _ k2], by rw [show off + i * 3 + 2 = off + (i * 3 + 2) by omega, hc _ _ k2'], k3, k4⟩⟩

theorem MeansN.owned {w : World} {cs : List Value} {ts : List GRow} {base : Nat} {e : TypeId} {a : Option Addr} {n c : Nat} (h : MeansN w cs ts) (hn : ts.length = n) (ho : w.ownsRow base e 3 (.slice a n c) n cs) : AtV w a ts := by
  have hl := h.length
  rcases ho.2 with ⟨h', rfl⟩ | ⟨g, cap, cur, h', _⟩
  · left; exact List.eq_nil_of_length_eq_zero hn
  · simp only [Value.slice.injEq, true_and] at h'
    obtain ⟨rfl, rfl⟩ := h'
    refine h.atV fun j u hj => ?_
    have hj' := (List.getElem?_eq_some_iff.1 hj).1
    rw [Nat.zero_add, ho.cellAt j (by omega)]
    exact hj

/-- A slice of weighted rows as a model's function reads it: where a row's slice is nil it has no room. -/
def AtN (w : World) (a : Option Addr) (ts : List GRow) : Prop :=
  ts = [] ∨ ∃ b off cs, a = some ⟨b, off, none⟩ ∧ MeansN w cs ts ∧ ∀ j u, cs[j]? = some u → w.cell? ⟨b, off + j, none⟩ = some u

theorem AtN.atV {w : World} {a : Option Addr} {ts : List GRow} (h : AtN w a ts) : AtV w a ts := by
  rcases h with rfl | ⟨b, off, cs, rfl, hm, hc⟩
  · exact .inl rfl
  · exact hm.atV hc
theorem AtN.below {w w' : World} {a : Option Addr} {ts : List GRow} (h : AtN w a ts) (hb : Below w.heap.size w w') : AtN w' a ts := by
  rcases h with rfl | ⟨b, off, cs, rfl, hm, hc⟩
  · exact .inl rfl
  · exact .inr ⟨b, off, cs, rfl, hm.below hb, fun j u hj => cell_later hb (hc j u hj)⟩
theorem AtN.alloc {w : World} {a : Option Addr} {ts : List GRow} (h : AtN w a ts) (o : Obj) : AtN (w.alloc o) a ts := h.below ((Below.refl _ _).alloc (Nat.le_refl _) o)
theorem AtN.drew {w : World} {a : Option Addr} {ts : List GRow} (h : AtN w a ts) : AtN w.drew a ts := h.below (Below.refl _ _).drew
theorem atN_nil (w : World) (a : Option Addr) : AtN w a [] := .inl rfl
theorem MeansN.ownedN {w : World} {cs : List Value} {ts : List GRow} {base : Nat} {e : TypeId} {a : Option Addr} {n c : Nat} (h : MeansN w cs ts) (hn : ts.length = n) (ho : w.ownsRow base e 3 (.slice a n c) n cs) : AtN w a ts := by
  have hl := h.length
  rcases ho.2 with ⟨h', rfl⟩ | ⟨g, cap, cur, h', _⟩
  · left; exact List.eq_nil_of_length_eq_zero hn
  · simp only [Value.slice.injEq, true_and] at h'
    obtain ⟨rfl, rfl⟩ := h'
    refine .inr ⟨g, 0, cs, rfl, h, fun j u hj => ?_⟩
    have hj' := (List.getElem?_eq_some_iff.1 hj).1
    rw [Nat.zero_add, ho.cellAt j (by omega)]
    exact hj
theorem OwnVk.meansN {w : World} {lo hi : Nat} {te ti : TypeId} {a : Option Addr} {n c : Nat} {ts : List GRow} {cells : List Value} (h : OwnV w lo hi te ti a n c ts cells) (hs : ∀ i, i < n → (gat ts i).1.length ≤ 9223372036854775807) : MeansN w cells ts :=
  meansN_of (by rw [h.len]; exact h.outer.1) fun i hi => by
    rw [h.len] at hi
    obtain ⟨a', c', k1, k2, k2', k3⟩ := h.row i hi
    exact ⟨a', c', k1, k2, k2', hs i hi, owns_nil k3, At.owned k3⟩
theorem OwnVk.atN {w : World} {lo hi : Nat} {te ti : TypeId} {a : Option Addr} {n c : Nat} {ts : List GRow} {cells : List Value} (h : OwnV w lo hi te ti a n c ts cells) (hs : ∀ i, i < n → (gat ts i).1.length ≤ 9223372036854775807) : AtN w a ts :=
  (h.meansN hs).ownedN h.len h.outer
/-- One row of it. -/
theorem AtN.some {w : World} {a : Option Addr} {ts : List GRow} (h : AtN w a ts) (hp : 0 < ts.length) :
    ∃ b off, a = Option.some ⟨b, off, none⟩ ∧ ∀ i, i < ts.length → ∃ a' c', w.cell? ⟨b, off + i * 3, none⟩ = Option.some (.slice a' (gat ts i).1.length c') ∧ w.cell? ⟨b, off + i * 3 + 1, none⟩ = Option.some (.int .i64 (gat ts i).2.1) ∧ w.cell? ⟨b, off + i * 3 + 2, none⟩ = Option.some (.int .i64 (gat ts i).2.2) ∧
      (gat ts i).1.length ≤ 9223372036854775807 ∧ (a' = none → c' = 0) ∧ At w a' (gat ts i).1 := by
  rcases h with rfl | ⟨b, off, cs, rfl, hm, hc⟩
  · simp at hp
  · refine ⟨b, off, rfl, fun i hi => ?_⟩
    obtain ⟨a', c', k1, k2, k2', k3, k0, k4⟩ := hm.at i hi
    exact ⟨a', c', hc _ _ k1, by rw [show off + i * 3 + 1 = off + (i * 3 + 1) by omega]; exact hc _ _ k2, by rw [show off + i * 3 + 2 = off + (i * 3 + 2) by omega]; exact hc _ _ k2', k3, k0, k4⟩

end Go.Proofs.Ytlfljfmhhnoinaa
