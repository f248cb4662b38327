/- Contracts of impl.plainRows and of the function that it hands back. -/
import Derived.Test.YtogokgegkakmbabRows1
import Derived.Test.YtogokgegkakmbabRngS
import Derived.Test.YtogokgegkakmbabIterP
namespace Go.Proofs.Ytogokgegkakmbab
open Go.RowKit Go.Shelf

attribute [local go_sem] Oper.semAt_some

/-- A row that is there, once. -/
def plainG (t : WRow) : Option WRow := if 0 < t.2 then some (t.1, 1) else none

/-- What a function that passes rows on holds while it does. -/
structure Passing (n₀ : Nat) (J : Nat → World → Prop) (W : World) (bx : Nat → Nat → Prop) (N : Nat) (g : WRow → Option WRow) (xs : List WRow) (v : Value) (t : TypeId) (k : Nat) (A : World) : Prop where
  told : J (outW g xs k) A
  box : A.heap[W.heap.size]? = some (.cells #[v] t (0, 0))
  low : Apart n₀ W.heap.size W A
  size : N ≤ A.heap.size

theorem Passing.keep {n₀ : Nat} {J : Nat → World → Prop} {W : World} {bx : Nat → Nat → Prop} {N : Nat} {g : WRow → Option WRow} {xs : List WRow} {v : Value} {t : TypeId} {k : Nat} {A B : World} (hJ : ∀ k A B, Below W.heap.size A B → J k A → J k B) (hN : W.heap.size < N)
    (h : Passing n₀ J W bx N g xs v t k A) (hb : Below N A B) : Passing n₀ J W bx N g xs v t k B := by
  have hs := h.size
  refine ⟨hJ _ _ _ (hb.mono (by omega)) h.told, (hb.block _ hN).trans h.box, ?_, Nat.le_trans h.size hb.size⟩
  exact ⟨hb.os.trans h.low.os, hb.tape.trans h.low.tape, hb.output.trans h.low.output, Nat.le_trans h.low.size hb.size, fun j hj hc => (hb.block j (by omega)).trans (h.low.block j hj hc)⟩

set_option maxRecDepth 100000 in
set_option maxHeartbeats 4000000 in
theorem plainRows1_hands (T gf : Nat) (lb : Array Value) (xs : List WRow) (w : World) (hT : w.cell? ⟨T, 0, none⟩ = some (.func (.func gf) #[] lb)) (eg : ∀ args w, (callFunc gf args).run Try.prog w = .ok (.enter gf args) w) (hH : Hands Try.prog gf lb xs w) :
    Hands Try.prog 100 #[.pointer (some ⟨T, 0, none⟩)] (xs.filterMap plainG) w := by
  intro n₀ l J W h1 h2 hb hJ hY h0
  refine callsIn_of_wp_marks Try.func100 rfl trivial ?_
  simp only [Try.ntmps100, List.size_toArray, List.length_cons, List.length_nil, Nat.reduceAdd, Nat.reduceSub, Array.replicate_succ, Array.replicate_zero, List.push_toArray, List.append_toArray, List.nil_append, List.cons_append]
  obtain ⟨W0, hW0⟩ : ∃ W0, W0 = W.alloc (.cells #[.func (.yield l) #[] #[]] 113) := ⟨_, rfl⟩
  have hbW : Below W.heap.size W W0 := by rw [hW0]; exact (Below.refl _ _).alloc (Nat.le_refl _) _
  have z0 : W0.heap.size = W.heap.size + 1 := by rw [hW0]; simp
  have hTW := cell_later hb hT
  have hTL : (W.alloc (.cells #[.func (.yield l) #[] #[]] 113)).cell? ⟨T, 0, none⟩ = some (.func (.func gf) #[] lb) := cell_later ((Below.refl _ _).alloc (Nat.le_refl _) _) hTW
  have I0 : Passing n₀ J W (fun _ _ => True) W0.heap.size plainG xs (.func (.yield l) #[] #[]) 113 0 W0 := by
    refine ⟨hJ 0 W W0 hbW h0, ?_, ⟨hbW.os, hbW.tape, hbW.output, hbW.size, fun j hj _ => hbW.block j hj⟩, Nat.le_refl _⟩
    rw [hW0]; exact heap_alloc_new W _
  gi_wp2
  rw [← hW0]
  clear hW0 hTL
  refine range_hands (gf := gf) (lb := lb) rfl eg hH (hb.trans (hbW.mono hb.size)) n₀ h1 (by omega) _ (fun k A B hB h => h.keep hJ (by omega) hB) I0 ?round ?done
  case round =>
    intro r k W1 b n c hr hkx hI hsz hrec hln hnil hat
    obtain ⟨Y, hYk⟩ : ∃ Y, Y = wat xs k := ⟨_, rfl⟩
    rw [← hYk] at hln hat ⊢
    obtain ⟨ys, x⟩ := Y
    simp only at hln hat
    gi_wp2
    refine ⟨(Below.refl _ _).alloc (Nat.le_refl _) _, fun W3 hT3 _ => ?_⟩
    obtain ⟨W2, hW2⟩ : ∃ W2, W2 = W1.alloc (.cells #[.slice b n c] 72) := ⟨_, rfl⟩
    have hb2 : Below W1.heap.size W1 W2 := by rw [hW2]; exact (Below.refl _ _).alloc (Nat.le_refl _) _
    have cr : W2.cell? ⟨W1.heap.size, 0, none⟩ = some (.slice b n c) := by rw [hW2]; simp
    rw [← hW2] at hT3
    clear hW2
    have hI3 := (hI.keep hJ (by omega) (hb2.mono hsz)).keep hJ (by omega) (hT3.below hr)
    have cr3 := hT3.cell cr
    have cy3 : W3.cell? ⟨W.heap.size, 0, none⟩ = some (.func (.yield l) #[] #[]) := by rw [cell_of_row W3 _ 0 _ _ (0, 0) hI3.box]; rfl
    have hat3 := hT3.at (hat.below hb2)
    clear hI hat cr hT3
    by_cases hx : 0 < x
    · have hgx : plainG (wat xs k) = some (ys, 1) := by rw [← hYk]; exact if_pos hx
      obtain ⟨o1, o2, o3⟩ := outW_some hkx hgx
      obtain ⟨fn, tmps, assign, body, hy, hR⟩ := hY (outW plainG xs k) W3 b n c o2 hI3.told (by have := hI3.size; omega) (by rw [o3]; exact hln) hnil (by rw [o3]; exact hat3)
      rw [o3] at hy
      simp only at hy
      have HI3 := Hid.mk hI3
      have HO1 := Hid.mk o1
      clear hI3 o1 o3 hgx hYk
      gi_wp2
      refine ⟨rfl, hR.mono ?_⟩
      rintro e W4 ⟨rfl, hJ4, hap4⟩
      have hI3 := HI3.out
      have hfin : Passing n₀ J W (fun _ _ => True) W0.heap.size plainG xs (.func (.yield l) #[] #[]) 113 (k + 1) W4 := by
        refine ⟨by rw [HO1.out]; exact hJ4, (hap4.block _ (by have := hI3.size; omega) (.inr (Nat.le_refl _))).trans hI3.box, hI3.low.trans hap4, Nat.le_trans hI3.size hap4.size⟩
      have hapf : Apart n₀ W0.heap.size W3 W4 := ⟨hap4.os, hap4.tape, hap4.output, hap4.size, fun j hj hc => hap4.block j hj (by omega)⟩
      rw [z0] at hfin hapf
      clear hI3 HI3 hJ4 hap4 hR hy
      gi_wp2
      done
    · have hgx : plainG (wat xs k) = none := by rw [← hYk]; exact if_neg hx
      have o1 := outW_none hkx hgx
      have hxx : x ≤ 0 := by omega
      have hfin : Passing n₀ J W (fun _ _ => True) W0.heap.size plainG xs (.func (.yield l) #[] #[]) 113 (k + 1) W3 := ⟨by rw [o1]; exact hI3.told, hI3.box, hI3.low, hI3.size⟩
      have hapf : Apart n₀ W0.heap.size W3 W3 := Apart.refl _ _ _
      rw [z0] at hfin hapf
      clear hI3 hgx hYk o1
      gi_wp2
      refine ⟨fun _ h => (by cases h), ?_⟩
      gi_wp2
      done
  case done =>
    intro D A hD hI hap hdef
    have hto := hI.told
    rw [outW_all] at hto
    have hDl : D < A.heap.size := (Array.getElem?_eq_some_iff.1 hdef).1
    have hJf := hJ _ A (A.putObj D (.deferred none)) ((Below.refl _ _).grown (grownBy_putObj' A D _) (by omega) (fun j hj => by cases hj; omega)) hto
    have hapf : Apart n₀ W.heap.size W (A.putObj D (.deferred none)) := ⟨hI.low.os, hI.low.tape, hI.low.output, by have := hI.low.size; simp; omega, fun j hj hc => (World.putObj_heap_other (by omega)).trans (hI.low.block j hj hc)⟩
    gi_wp2
    refine ⟨by simp, .inl ⟨_, _, rfl, run_takeDeferred hdef, ?_⟩⟩
    exact ⟨_, results_none rfl _ _ _, ⟨_, rfl⟩, hJf, hapf⟩

end Go.Proofs.Ytogokgegkakmbab
