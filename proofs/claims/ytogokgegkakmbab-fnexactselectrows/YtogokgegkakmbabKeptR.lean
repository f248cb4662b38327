/- Contracts of impl.keptRows and of the function that it hands back, whatever function says which rows are kept. -/
import Derived.Test.YtogokgegkakmbabPlainR
namespace Go.Proofs.Ytogokgegkakmbab
open Go.RowKit Go.Shelf

attribute [local go_sem] Oper.semAt_some

/-- The function value (kf, kb) says of each row of Q whether it is kept, in whatever world keeps what lay below w's end. -/
def Sieve (P : Program) (kf : Nat) (kb : Array Value) (keep : List Int → Bool) (Q : List Int → Prop) (w : World) : Prop :=
  ∀ (W : World) (a : Option Addr) (n c : Nat) (zs : List Int), Below w.heap.size w W → Q zs → zs.length = n → At W a zs →
    Calls P kf (#[.agg #[.slice a n c]] ++ kb) W fun e W' => e = .returned (.bool (keep zs)) ∧ Below W.heap.size W W'
theorem Sieve.later {P : Program} {kf : Nat} {kb : Array Value} {keep : List Int → Bool} {Q : List Int → Prop} {w w' : World} (h : Sieve P kf kb keep Q w) (hb : Below w.heap.size w w') : Sieve P kf kb keep Q w' :=
  fun W a n c zs h1 => h W a n c zs (hb.trans (h1.mono hb.size))
def keptG (keep : List Int → Bool) (t : WRow) : Option WRow := if keep t.1 = true then some t else none

theorem keptRows_any (gf kf : Nat) (lb kb : Array Value) (w : World) :
    Calls Try.prog 46 #[.func (.func gf) #[] lb, .func (.func kf) #[] kb] w fun e w' => e = .returned (.func (.func 85) #[] #[.pointer (some ⟨w.heap.size, 0, none⟩), .pointer (some ⟨w.heap.size + 1, 0, none⟩)]) ∧ w' = (w.alloc (.cells #[.func (.func gf) #[] lb] 68)).alloc (.cells #[.func (.func kf) #[] kb] 74) := by
  go_enter Try.func46, Try.ntmps46
  go_wp2
  go_ret
  exact ⟨rfl, rfl⟩

set_option maxRecDepth 100000 in
set_option maxHeartbeats 4000000 in
theorem keptRows1_hands (T K gf kf : Nat) (lb kb : Array Value) (xs : List WRow) (keep : List Int → Bool) (Q : List Int → Prop) (w : World) (hT : w.cell? ⟨T, 0, none⟩ = some (.func (.func gf) #[] lb)) (hK : w.cell? ⟨K, 0, none⟩ = some (.func (.func kf) #[] kb))
    (eg : ∀ args w, (callFunc gf args).run Try.prog w = .ok (.enter gf args) w) (ek : ∀ args w, (callFunc kf args).run Try.prog w = .ok (.enter kf args) w) (hH : Hands Try.prog gf lb xs w) (hS : Sieve Try.prog kf kb keep Q w) (hQ : ∀ k, k < xs.length → Q (wat xs k).1) :
    Hands Try.prog 85 #[.pointer (some ⟨T, 0, none⟩), .pointer (some ⟨K, 0, none⟩)] (xs.filterMap (keptG keep)) w := by
  intro n₀ l J W h1 h2 hb hJ hY h0
  refine callsIn_of_wp_marks Try.func85 rfl trivial ?_
  simp only [Try.ntmps85, List.size_toArray, List.length_cons, List.length_nil, Nat.reduceAdd, Nat.reduceSub, Array.replicate_succ, Array.replicate_zero, List.push_toArray, List.append_toArray, List.nil_append, List.cons_append]
  obtain ⟨W0, hW0⟩ : ∃ W0, W0 = W.alloc (.cells #[.func (.yield l) #[] #[]] 113) := ⟨_, rfl⟩
  have hbW : Below W.heap.size W W0 := by rw [hW0]; exact (Below.refl _ _).alloc (Nat.le_refl _) _
  have z0 : W0.heap.size = W.heap.size + 1 := by rw [hW0]; simp
  have hTW := cell_later hb hT
  have hTL : (W.alloc (.cells #[.func (.yield l) #[] #[]] 113)).cell? ⟨T, 0, none⟩ = some (.func (.func gf) #[] lb) := cell_later ((Below.refl _ _).alloc (Nat.le_refl _) _) hTW
  have I0 : Passing n₀ J W (fun _ _ => True) W0.heap.size (keptG keep) xs (.func (.yield l) #[] #[]) 113 0 W0 := by
    refine ⟨hJ 0 W W0 hbW h0, ?_, ⟨hbW.os, hbW.tape, hbW.output, hbW.size, fun j hj _ => hbW.block j hj⟩, Nat.le_refl _⟩
    rw [hW0]; exact heap_alloc_new W _
  gi_wp2
  rw [← hW0]
  clear hW0 hTL
  refine range_hands (gf := gf) (lb := lb) rfl eg hH (hb.trans (hbW.mono hb.size)) n₀ h1 (by omega) _ (fun k A B hB h => h.keep hJ (by omega) hB) I0 ?round ?done
  case round =>
    intro r k W1 b n c hr hkx hI hsz hrec hln hnil hat
    have hq := hQ k hkx
    obtain ⟨Y, hYk⟩ : ∃ Y, Y = wat xs k := ⟨_, rfl⟩
    rw [← hYk] at hln hat hq ⊢
    obtain ⟨ys, x⟩ := Y
    simp only at hln hat hq
    gi_wp2
    refine ⟨(Below.refl _ _).alloc (Nat.le_refl _) _, fun W3 hT3 _ => ?_⟩
    obtain ⟨W2, hW2⟩ : ∃ W2, W2 = W1.alloc (.cells #[.slice b n c] 72) := ⟨_, rfl⟩
    have hb2 : Below W1.heap.size W1 W2 := by rw [hW2]; exact (Below.refl _ _).alloc (Nat.le_refl _) _
    have cr : W2.cell? ⟨W1.heap.size, 0, none⟩ = some (.slice b n c) := by rw [hW2]; simp
    rw [← hW2] at hT3
    clear hW2
    have hI3 := (hI.keep hJ (by omega) (hb2.mono hsz)).keep hJ (by omega) (hT3.below hr)
    have cr3 := hT3.cell cr
    have cy3 : W3.cell? ⟨W.heap.size, 0, none⟩ = some (.func (.yield l) #[] #[]) := by rw [cell_of_row W3 _ 0 _ _ (0, 0) hI3.box]; rfl
    have hat3 := hT3.at (hat.below hb2)
    have hb3 : Below w.heap.size w W3 := hb.trans (hI3.low.below hb.size h1)
    have ck3 := cell_later hb3 hK
    clear hI hat cr hT3
    have hC := hS W3 b n c ys hb3 hq hln hat3
    cases hx : keep ys with
    | true =>
      have hgx : keptG keep (wat xs k) = some (ys, x) := by rw [← hYk]; exact if_pos hx
      obtain ⟨o1, o2, o3⟩ := outW_some hkx hgx
      have HI3 := Hid.mk hI3
      have HO1 := Hid.mk o1
      have HO3 := Hid.mk o3
      have HX := Hid.mk hx
      have HY := Hid.mk hY
      clear hI3 o1 o3 hgx hYk hx hY
      gi_wp2_with fail
      refine ⟨trivial, rfl, ?_⟩
      refine (callsIn_wide.2 hC).mono ?_
      rintro e W4 ⟨rfl, hb4⟩
      rw [HX.out]
      have cr4 := cell_later hb4 cr3
      have cy4 := cell_later hb4 cy3
      have hI4 := HI3.out.keep hJ (by omega) (hb4.mono HI3.out.size)
      obtain ⟨fn, tmps, assign, body, hy, hR⟩ := HY.out (outW (keptG keep) xs k) W4 b n c o2 hI4.told (by have := hI4.size; omega) (by rw [HO3.out]; exact hln) hnil (by rw [HO3.out]; exact hat3.below hb4)
      rw [HO3.out] at hy
      simp only at hy
      have HI4 := Hid.mk hI4
      clear hI4 HI3 HY
      gi_wp2
      refine ⟨rfl, hR.mono ?_⟩
      rintro e W5 ⟨rfl, hJ5, hap5⟩
      have hI4 := HI4.out
      have hfin : Passing n₀ J W (fun _ _ => True) W0.heap.size (keptG keep) xs (.func (.yield l) #[] #[]) 113 (k + 1) W5 := by
        refine ⟨by rw [HO1.out]; exact hJ5, (hap5.block _ (by have := hI4.size; omega) (.inr (Nat.le_refl _))).trans hI4.box, hI4.low.trans hap5, Nat.le_trans hI4.size hap5.size⟩
      have hapf : Apart n₀ W0.heap.size W3 W5 := ⟨hap5.os.trans hb4.os, hap5.tape.trans hb4.tape, hap5.output.trans hb4.output, Nat.le_trans hb4.size hap5.size, fun j hj hc => (hap5.block j (by have := hb4.size; omega) (by omega)).trans (hb4.block j hj)⟩
      rw [z0] at hfin hapf
      clear hI4 HI4 hJ5 hap5 hR hy
      gi_wp2
      done
    | false =>
      have hgx : keptG keep (wat xs k) = none := by rw [← hYk]; exact if_neg (by rw [hx]; simp)
      have HO1 := Hid.mk (outW_none hkx hgx)
      have HI3 := Hid.mk hI3
      have HX := Hid.mk hx
      clear hI3 hgx hYk hx hY
      gi_wp2_with fail
      refine ⟨trivial, rfl, ?_⟩
      refine (callsIn_wide.2 hC).mono ?_
      rintro e W4 ⟨rfl, hb4⟩
      rw [HX.out]
      have hI4 := HI3.out.keep hJ (by omega) (hb4.mono HI3.out.size)
      have hfin : Passing n₀ J W (fun _ _ => True) W0.heap.size (keptG keep) xs (.func (.yield l) #[] #[]) 113 (k + 1) W4 := ⟨by rw [HO1.out]; exact hI4.told, hI4.box, hI4.low, hI4.size⟩
      have hapf : Apart n₀ W0.heap.size W3 W4 := ⟨hb4.os, hb4.tape, hb4.output, hb4.size, fun j hj _ => hb4.block j hj⟩
      rw [z0] at hfin hapf
      clear hI4 HI3
      gi_wp2
      refine ⟨fun _ h => (by cases h), ?_⟩
      gi_wp2
      done
  case done =>
    intro D A hD hI hap hdef
    have hto := hI.told
    rw [outW_all] at hto
    have hDl : D < A.heap.size := (Array.getElem?_eq_some_iff.1 hdef).1
    have hJf := hJ _ A (A.putObj D (.deferred none)) ((Below.refl _ _).grown (grownBy_putObj' A D _) (by omega) (fun j hj => by cases hj; omega)) hto
    have hapf : Apart n₀ W.heap.size W (A.putObj D (.deferred none)) := ⟨hI.low.os, hI.low.tape, hI.low.output, by have := hI.low.size; simp; omega, fun j hj hc => (World.putObj_heap_other (by omega)).trans (hI.low.block j hj hc)⟩
    gi_wp2
    refine ⟨by simp, .inl ⟨_, _, rfl, run_takeDeferred hdef, ?_⟩⟩
    exact ⟨_, results_none rfl _ _ _, ⟨_, rfl⟩, hJf, hapf⟩
end Go.Proofs.Ytogokgegkakmbab
