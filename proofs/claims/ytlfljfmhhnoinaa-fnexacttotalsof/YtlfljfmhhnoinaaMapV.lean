/- Maps of amounts keyed by arrays: what they hold; which groups they tell. -/
import Derived.Test.YtlfljfmhhnoinaaSixK
import Derived.Test.YtlfljfmhhnoinaaPutV
import Derived.Test.YtlfljfmhhnoinaaTellP
namespace Go.Proofs.Ytlfljfmhhnoinaa
open Go.RowKit Go.Maps

/-- What an amount reads as. -/
def amtD (x : Amt) : DataW Unit := .agg [.lit (.int .i64 x.1), .lit (.int .i64 x.2)]
theorem amtD_inj {x y : Amt} (h : amtD x = amtD y) : x = y := by
  simp only [amtD, DataW.agg.injEq, List.cons.injEq, DataW.lit.injEq, Lit.int.injEq, true_and, and_true] at h
  exact Prod.ext h.1 h.2
/-- How an element of type amount reads. -/
def amtElem (v : Value) : Option (DataW Unit × List MemPlace) :=
  match v with
  | .agg cs => match cs.toList with
    | [.int .i64 a, .int .i64 b] => some (amtD (a, b), [])
    | _ => none
  | _ => none
def amtVal (x : Amt) : Value := .agg #[.int .i64 x.1, .int .i64 x.2]
theorem amtElem_mk (x : Amt) : amtElem (amtVal x) = some (amtD x, []) := rfl
theorem amtElem_inv {v : Value} {z : DataW Unit × List MemPlace} (h : amtElem v = some z) : ∃ x : Amt, v = amtVal x ∧ z = (amtD x, []) := by
  unfold amtElem at h
  split at h
  · rename_i cs
    split at h
    · rename_i a b hcs
      refine ⟨(a, b), ?_, by simpa using h.symm⟩
      obtain ⟨l⟩ := cs
      simp only at hcs
      subst hcs
      rfl
    · cases h
  · cases h

/-- A map of amounts: at each array f's, an entry just where that is not nothing. -/
def MapV (D : DataW Unit) (f : List Int → Amt) : Prop :=
  ∀ a, Fits a → D.atKey (klit a) (amtD (0, 0)) = amtD (f a) ∧ Maps.has D (klit a) = decide (f a ≠ (0, 0))
theorem MapV.empty : MapV (.map []) (fun _ => (0, 0)) := fun a _ => ⟨rfl, by simp [Maps.has_eq]⟩
theorem MapV.put {D : DataW Unit} {f : List Int → Amt} (h : MapV D f) (hD : IsMap D) {a : List Int} (ha : Fits a) {v : Amt} (hv : v ≠ (0, 0)) :
    MapV (D.put (klit a) (amtD v)) (fun x => if x = a then v else f x) := fun x hx => by
  by_cases e : x = a
  · subst e
    exact ⟨by rw [atKey_put_same hD (klit_key hx)]; simp, by rw [has_put_same hD (klit_key hx)]; simp [hv]⟩
  · have hne : klit x ≠ klit a := fun e' => e (klit_inj hx ha e')
    obtain ⟨h1, h2⟩ := h x hx
    exact ⟨by rw [atKey_put_other hne, h1]; simp [e], by rw [has_put_other hne, h2]; simp [e]⟩
theorem MapV.del {D : DataW Unit} {f : List Int → Amt} (h : MapV D f) {a : List Int} (ha : Fits a) :
    MapV (D.del (klit a)) (fun x => if x = a then (0, 0) else f x) := fun x hx => by
  by_cases e : x = a
  · subst e
    exact ⟨by rw [atKey_del_same]; simp, by rw [has_del_same]; simp⟩
  · have hne : klit x ≠ klit a := fun e' => e (klit_inj hx ha e')
    obtain ⟨h1, h2⟩ := h x hx
    exact ⟨by rw [atKey_del_other hne, h1]; simp [e], by rw [has_del_other hne, h2]; simp [e]⟩
theorem MapV.at {D : DataW Unit} {f : List Int → Amt} (h : MapV D f) {a : List Int} (ha : Fits a) {c : Amt} (hc : D.atKey (klit a) (amtD (0, 0)) = amtD c) : c = f a := by
  rw [(h a ha).1] at hc
  exact (amtD_inj hc).symm
theorem MapV.congr {D : DataW Unit} {f f' : List Int → Amt} (h : MapV D f) (hf : ∀ x, f x = f' x) : MapV D f' := by
  obtain rfl : f = f' := funext hf
  exact h

/-- Groups by keys of q cells that have just the amounts of f. -/
structure TellsV (q : Nat) (f : List Int → Amt) (ts : List GRow) : Prop where
  rises : RisesV ts
  noZero : NoZeroV ts
  rows : ∀ t ∈ ts, good t.1 = true ∧ t.1.length = q
  weight : ∀ zs, good zs = true → zs.length = q → vOf ts zs = f (raised zs)
  keys : ∀ a, f a ≠ (0, 0) → ∃ zs, good zs = true ∧ zs.length = q ∧ a = raised zs
theorem TellsV.nil (q : Nat) : TellsV q (fun _ => (0, 0)) [] :=
  ⟨List.Pairwise.nil, fun t h => (by cases h), fun t h => (by cases h), fun zs _ _ => rfl, fun a h => absurd rfl h⟩
theorem TellsV.unique {q : Nat} {f : List Int → Amt} {ts us : List GRow} (h : TellsV q f ts) (k : TellsV q f us) : ts = us := by
  refine risesV_ext h.rises k.rises h.noZero k.noZero fun zs => ?_
  by_cases e : good zs = true ∧ zs.length = q
  · rw [h.weight zs e.1 e.2, k.weight zs e.1 e.2]
  · rw [vOf_absent fun t ht e' => e (by rw [← e']; exact h.rows t ht), vOf_absent fun t ht e' => e (by rw [← e']; exact k.rows t ht)]
theorem TellsV.put {q : Nat} {f : List Int → Amt} {ts : List GRow} (h : TellsV q f ts) {zs : List Int} (hg : good zs = true) (hl : zs.length = q) (x : Amt) :
    TellsV q (fun a => if a = raised zs then addA (f a) x else f a) (putV ts zs x) where
  rises := putV_rises h.rises
  noZero := putV_nozero h.noZero
  rows := fun t ht => by
    rcases putV_mem ht with h' | h'
    · exact h.rows t h'
    · rw [h']; exact ⟨hg, hl⟩
  weight := fun ys h1 h2 => by
    rw [putV_vOf ys h.rises, h.weight ys h1 h2]
    by_cases e : zs = ys
    · subst e; simp
    · have : raised ys ≠ raised zs := fun e' => e (raised_inj h1 hg e').symm
      simp [e, this, addA_zero]
  keys := fun a ha => by
    by_cases e : a = raised zs
    · exact ⟨zs, hg, hl, e⟩
    · simp only [if_neg e] at ha
      exact h.keys a ha

/-- The map in the block b tells the groups ts. -/
def CntV (w : World) (b q M : Nat) (ts : List GRow) : Prop :=
  ∃ cnt D f, w.ownsMap Try.prog 72 amtElem b cnt D ∧ MapV D f ∧ TellsV q f ts ∧ cnt ≤ M
section
variable {w w' : World} {b q M : Nat} {ts : List GRow}
theorem CntV.grown {row : Option Nat} (h : CntV w b q M ts) (hg : w.grownBy w' row) (hne : some b ≠ row) : CntV w' b q M ts := by
  obtain ⟨cnt, D, f, h1, h2⟩ := h
  exact ⟨cnt, D, f, h1.kept hg hne, h2⟩
theorem CntV.below (h : CntV w b q M ts) (hb : Below w.heap.size w w') : CntV w' b q M ts := h.grown (Below.toGrown hb none) (by simp)
theorem CntV.alloc (h : CntV w b q M ts) (o : Obj) : CntV (w.alloc o) b q M ts := h.below ((Below.refl _ _).alloc (Nat.le_refl _) o)
theorem CntV.drew (h : CntV w b q M ts) : CntV w.drew b q M ts := h.below (Below.refl _ _).drew
theorem CntV.mono {M' : Nat} (h : CntV w b q M ts) (hM : M ≤ M') : CntV w b q M' ts := by
  obtain ⟨cnt, D, f, h1, h2, h3, h4⟩ := h
  exact ⟨cnt, D, f, h1, h2, h3, by omega⟩
theorem CntV.lt (h : CntV w b q M ts) : b < w.heap.size := by
  obtain ⟨cnt, D, f, ⟨es, clock, hb, _⟩, _⟩ := h
  exact (Array.getElem?_eq_some_iff.1 hb).1
theorem CntV.rises (h : CntV w b q M ts) : RisesV ts := by obtain ⟨_, _, _, _, _, h, _⟩ := h; exact h.rises
theorem CntV.nocell (h : CntV w b q M ts) (a : Addr) {v : Value} (hc : w.cell? a = some v) : a.block ≠ b := by
  obtain ⟨cnt, D, f, ⟨es, clock, hb, _⟩, _⟩ := h
  rintro rfl
  simp [World.cell?, hb] at hc
end
theorem CntV.made (w : World) (q : Nat) : CntV (w.alloc (.map #[] 0)) w.heap.size q 0 [] :=
  ⟨0, _, _, World.ownsMap_made w Try.prog 72 amtElem, MapV.empty, TellsV.nil q, Nat.le_refl _⟩

end Go.Proofs.Ytlfljfmhhnoinaa
