/- Contracts of impl.pickedRows, of the function that it hands back, (impl.noughts: Nought). -/
import Derived.Test.YtmkhdocjabflkabPlainR
import Derived.Test.YtmkhdocjabflkabPick
import Derived.Test.YtmkhdocjabflkabL2Put
namespace Go.Proofs.Ytmkhdocjabflkab
open Go.RowKit Go.Shelf

attribute [local go_sem] Oper.semAt_some

def pickG (cols : List Int) (t : WRow) : Option WRow := some (pick t.1 cols, t.2)

theorem pickedRows_any (gf : Nat) (lb : Array Value) (a : Option Addr) (n c : Nat) (w : World) :
    Calls Try.prog 55 #[.func (.func gf) #[] lb, .slice a n c] w fun e w' => e = .returned (.func (.func 67) #[] #[.pointer (some ⟨w.heap.size, 0, none⟩), .pointer (some ⟨w.heap.size + 1, 0, none⟩)]) ∧ w' = (w.alloc (.cells #[.func (.func gf) #[] lb] 86)).alloc (.cells #[.slice a n c] 35) := by
  go_enter Try.func55, Try.ntmps55
  go_wp2
  go_ret
  exact ⟨rfl, rfl⟩

set_option maxRecDepth 100000 in
set_option maxHeartbeats 4000000 in
theorem pickedRows1_hands (T C gf : Nat) (lb : Array Value) (xs : List WRow) (a' : Option Addr) (n' c' : Nat) (cols : List Int) (w : World) (hT : w.cell? ⟨T, 0, none⟩ = some (.func (.func gf) #[] lb)) (hC : w.cell? ⟨C, 0, none⟩ = some (.slice a' n' c'))
    (eg : ∀ args w, (callFunc gf args).run Try.prog w = .ok (.enter gf args) w) (hH : Hands Try.prog gf lb xs w) (hz' : cols.length = n') (h6' : n' ≤ 6) (ha' : At w a' cols) (hQ : ∀ k, k < xs.length → pickOk (wat xs k).1 cols = true ∧ (wat xs k).1.length ≤ 6) :
    Hands Try.prog 67 #[.pointer (some ⟨T, 0, none⟩), .pointer (some ⟨C, 0, none⟩)] (xs.filterMap (pickG cols)) w := by
  intro n₀ l J W h1 h2 hb hJ hY h0
  refine callsIn_of_wp_marks Try.func67 rfl trivial ?_
  simp only [Try.ntmps67, List.size_toArray, List.length_cons, List.length_nil, Nat.reduceAdd, Nat.reduceSub, Array.replicate_succ, Array.replicate_zero, List.push_toArray, List.append_toArray, List.nil_append, List.cons_append]
  obtain ⟨W0, hW0⟩ : ∃ W0, W0 = W.alloc (.cells #[.func (.yield l) #[] #[]] 97) := ⟨_, rfl⟩
  have hbW : Below W.heap.size W W0 := by rw [hW0]; exact (Below.refl _ _).alloc (Nat.le_refl _) _
  have z0 : W0.heap.size = W.heap.size + 1 := by rw [hW0]; simp
  have hTW := cell_later hb hT
  have hTL : (W.alloc (.cells #[.func (.yield l) #[] #[]] 97)).cell? ⟨T, 0, none⟩ = some (.func (.func gf) #[] lb) := cell_later ((Below.refl _ _).alloc (Nat.le_refl _) _) hTW
  have I0 : Passing n₀ J W (fun _ _ => True) W0.heap.size (pickG cols) xs (.func (.yield l) #[] #[]) 97 0 W0 := by
    refine ⟨hJ 0 W W0 hbW h0, ?_, ⟨hbW.os, hbW.tape, hbW.output, hbW.size, fun j hj _ => hbW.block j hj⟩, Nat.le_refl _⟩
    rw [hW0]; exact heap_alloc_new W _
  gi_wp2
  rw [← hW0]
  clear hW0 hTL
  refine range_hands (gf := gf) (lb := lb) rfl eg hH (hb.trans (hbW.mono hb.size)) n₀ h1 (by omega) _ (fun k A B hB h => h.keep hJ (by omega) hB) I0 ?round ?done
  case round =>
    intro r k W1 b n c hr hkx hI hsz hrec hln hnil hat _
    have hq := hQ k hkx
    obtain ⟨Y, hYk⟩ : ∃ Y, Y = wat xs k := ⟨_, rfl⟩
    rw [← hYk] at hln hat hq ⊢
    obtain ⟨ys, x⟩ := Y
    simp only at hln hat hq
    have hgx : pickG cols (wat xs k) = some (pick ys cols, x) := by rw [← hYk]; rfl
    gi_wp2
    refine ⟨(Below.refl _ _).alloc (Nat.le_refl _) _, fun W3 hT3 _ => ?_⟩
    obtain ⟨W2, hW2⟩ : ∃ W2, W2 = W1.alloc (.cells #[.slice b n c] 46) := ⟨_, rfl⟩
    have hb2 : Below W1.heap.size W1 W2 := by rw [hW2]; exact (Below.refl _ _).alloc (Nat.le_refl _) _
    have cr : W2.cell? ⟨W1.heap.size, 0, none⟩ = some (.slice b n c) := by rw [hW2]; simp
    rw [← hW2] at hT3
    clear hW2
    have hI3 := (hI.keep hJ (by omega) (hb2.mono hsz)).keep hJ (by omega) (hT3.below hr)
    have cr3 := hT3.cell cr
    have cy3 : W3.cell? ⟨W.heap.size, 0, none⟩ = some (.func (.yield l) #[] #[]) := by rw [cell_of_row W3 _ 0 _ _ (0, 0) hI3.box]; rfl
    have hat3 := hT3.at (hat.below hb2)
    have hb3 : Below w.heap.size w W3 := hb.trans (hI3.low.below hb.size h1)
    have cc3 := cell_later hb3 hC
    have ha3 := ha'.below hb3
    obtain ⟨o1, o2, o3⟩ := outW_some hkx hgx
    have HI3 := Hid.mk hI3
    have HO1 := Hid.mk o1
    have HO3 := Hid.mk o3
    have HY := Hid.mk hY
    have HQ := Hid.mk hq.1
    have HLN := Hid.mk hln
    have l6 : n ≤ 6 := by have := hq.2; omega
    clear hI hat cr hT3 hI3 o1 o3 hgx hYk hY hq hln
    gi_wp2_with fail
    refine ⟨trivial, rfl, ?_⟩
    refine (callsIn_wide.2 (implPickCells _ _ _ _ _ _ ys cols _ HLN.out hz' (by omega) (by omega) hat3 ha3)).mono ?_
    rintro e W4 ⟨r4, m4, d4, rfl, hm4, ho4, hb4⟩
    rw [HQ.out]
    have hpz : pickZ ys cols = pick ys cols := by unfold pickZ; rw [if_pos HQ.out]
    rw [hpz] at hm4 ho4
    have hat4 := At.owned ho4
    have HFR : Hid (Far n₀ W.heap.size r4 (pick ys cols)) := Hid.mk (far_owned ho4 (by have := HI3.out.size; omega))
    have hF4 := owns_formed ho4
    obtain ⟨W5, hW5⟩ : ∃ W5, W5 = W4.alloc (.cells #[.slice r4 m4 d4] 46) := ⟨_, rfl⟩
    have hbL : Below W4.heap.size W4 (W4.alloc (.cells #[.slice r4 m4 d4] 46)) := (Below.refl _ _).alloc (Nat.le_refl _) _
    have hb5 : Below W4.heap.size W4 W5 := by rw [hW5]; exact hbL
    have hB5 : Below W3.heap.size W3 W5 := hb4.trans (hb5.mono hb4.size)
    have cy5 := cell_later hbL (cell_later hb4 cy3)
    have hI5 := HI3.out.keep hJ (by omega) (hB5.mono HI3.out.size)
    obtain ⟨fn, tmps, assign, body, hy, hR⟩ := HY.out (outW (pickG cols) xs k) W5 r4 m4 d4 o2 hI5.told (by have := hI5.size; omega) (by rw [HO3.out]; exact hm4) hF4.2.1 (by rw [HO3.out]; exact hat4.below hb5) (by rw [HO3.out]; exact HFR.out)
    rw [HO3.out] at hy
    simp only at hy
    rw [hW5] at hy
    have HI5 := Hid.mk hI5
    have HB5 := Hid.mk hB5
    have HR := Hid.mk hR
    clear hI5 HI3 HY hB5 hb5 ho4 hR
    gi_wp2
    refine ⟨rfl, ?_⟩
    rw [← hW5]
    refine HR.out.mono ?_
    rintro e W6 ⟨rfl, hJ6, hap6⟩
    have hI5 := HI5.out
    have hB5 := HB5.out
    have hfin : Passing n₀ J W (fun _ _ => True) W0.heap.size (pickG cols) xs (.func (.yield l) #[] #[]) 97 (k + 1) W6 := by
      refine ⟨by rw [HO1.out]; exact hJ6, (hap6.block _ (by have := hI5.size; omega) (.inr (Nat.le_refl _))).trans hI5.box, hI5.low.trans hap6, Nat.le_trans hI5.size hap6.size⟩
    have hapf : Apart n₀ W0.heap.size W3 W6 := ⟨hap6.os.trans hB5.os, hap6.tape.trans hB5.tape, hap6.output.trans hB5.output, Nat.le_trans hB5.size hap6.size, fun j hj hc => (hap6.block j (by have := hB5.size; omega) (by omega)).trans (hB5.block j hj)⟩
    rw [z0] at hfin hapf
    clear hI5 HI5 hB5 HB5 hJ6 hap6 HR hy
    gi_wp2
    done
  case done =>
    intro D A hD hI hap hdef
    have hto := hI.told
    rw [outW_all] at hto
    have hDl : D < A.heap.size := (Array.getElem?_eq_some_iff.1 hdef).1
    have hJf := hJ _ A (A.putObj D (.deferred none)) ((Below.refl _ _).grown (grownBy_putObj' A D _) (by omega) (fun j hj => by cases hj; omega)) hto
    have hapf : Apart n₀ W.heap.size W (A.putObj D (.deferred none)) := ⟨hI.low.os, hI.low.tape, hI.low.output, by have := hI.low.size; simp; omega, fun j hj hc => (World.putObj_heap_other (by omega)).trans (hI.low.block j hj hc)⟩
    gi_wp2
    refine ⟨by simp, .inl ⟨_, _, rfl, run_takeDeferred hdef, ?_⟩⟩
    exact ⟨_, results_none rfl _ _ _, ⟨_, rfl⟩, hJf, hapf⟩

end Go.Proofs.Ytmkhdocjabflkab
