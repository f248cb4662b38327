/- Contracts of impl.joinedRows and of the function that it hands back: a range over a function within another one. -/
import Derived.Test.YthiabjkjpjmahaaGreatM24
import Derived.Test.YthiabjkjpjmahaaGreatM32
import Derived.Test.YthiabjkjpjmahaaGreatM15
namespace Go.Proofs.YthiabjkjpjmahaaGreat
open Go.RowKit Go.Shelf

attribute [local go_sem] Oper.semAt_some

theorem joinedRows_any (gf hf : Nat) (lb mb : Array Value) (a : Option Addr) (n c : Nat) (w : World) :
    Calls Tryz.prog 149 #[.func (.func gf) #[] lb, .func (.func hf) #[] mb, .slice a n c] w fun e w' => e = .returned (.func (.func 170) #[] #[.pointer (some ⟨w.heap.size, 0, none⟩), .pointer (some ⟨w.heap.size + 1, 0, none⟩), .pointer (some ⟨w.heap.size + 1 + 1, 0, none⟩)]) ∧ w' = ((w.alloc (.cells #[.func (.func gf) #[] lb] 195)).alloc (.cells #[.func (.func hf) #[] mb] 195)).alloc (.cells #[.slice a n c] 72) := by
  go_enter Tryz.func149, Tryz.ntmps149
  go_wp2
  go_ret
  exact ⟨rfl, rfl⟩

/-- What it holds while it hands on: v is the yield's box. -/
structure Joining (n₀ : Nat) (J : Nat → World → Prop) (W : World) (N : Nat) (v : Value) (t : TypeId) (m : Nat) (A : World) : Prop where
  told : J m A
  box : A.heap[W.heap.size]? = some (.cells #[v] t (0, 0))
  low : Apart n₀ W.heap.size W A
  size : N ≤ A.heap.size
theorem Joining.keep {n₀ : Nat} {J : Nat → World → Prop} {W : World} {N : Nat} {v : Value} {t : TypeId} {m : Nat} {A B : World} (hJ : ∀ k A B, Below W.heap.size A B → J k A → J k B) (hN : W.heap.size < N)
    (h : Joining n₀ J W N v t m A) (hb : Below N A B) : Joining n₀ J W N v t m B := by
  have hs := h.size
  refine ⟨hJ _ _ _ (hb.mono (by omega)) h.told, (hb.block _ hN).trans h.box, ?_, Nat.le_trans h.size hb.size⟩
  exact ⟨hb.os.trans h.low.os, hb.tape.trans h.low.tape, hb.output.trans h.low.output, Nat.le_trans h.low.size hb.size, fun j hj hc => (hb.block j (by omega)).trans (h.low.block j hj hc)⟩
/-- .. and within a round of the outer range: all that the outer row hangs on is as it was. -/
structure Inner (n₀ : Nat) (J : Nat → World → Prop) (W W3 : World) (v : Value) (t : TypeId) (m : Nat) (A : World) : Prop where
  main : Joining n₀ J W W3.heap.size v t m A
  low3 : Apart n₀ W.heap.size W3 A
theorem Inner.keep {n₀ : Nat} {J : Nat → World → Prop} {W W3 : World} {v : Value} {t : TypeId} {m : Nat} {A B : World} (hJ : ∀ k A B, Below W.heap.size A B → J k A → J k B) (hN : W.heap.size < W3.heap.size)
    (h : Inner n₀ J W W3 v t m A) (hb : Below W3.heap.size A B) : Inner n₀ J W W3 v t m B :=
  ⟨h.main.keep hJ hN hb, hb.os.trans h.low3.os, hb.tape.trans h.low3.tape, hb.output.trans h.low3.output, Nat.le_trans h.low3.size hb.size, fun j hj hc => (hb.block j hj).trans (h.low3.block j hj hc)⟩

set_option maxRecDepth 100000 in
set_option maxHeartbeats 8000000 in
theorem joinedRows1_hands (T S C gf hf : Nat) (lb mb : Array Value) (xs ys : List WRow) (p : Option Addr) (lp dp : Nat) (ps : List (List Int)) (w : World) (hT : w.cell? ⟨T, 0, none⟩ = some (.func (.func gf) #[] lb)) (hS : w.cell? ⟨S, 0, none⟩ = some (.func (.func hf) #[] mb)) (hC : w.cell? ⟨C, 0, none⟩ = some (.slice p lp dp))
    (eg : ∀ args w, (callFunc gf args).run Tryz.prog w = .ok (.enter gf args) w) (eh : ∀ args w, (callFunc hf args).run Tryz.prog w = .ok (.enter hf args) w) (hH : Hands Tryz.prog gf lb xs w) (hK : Hands Tryz.prog hf mb ys w)
    (hlp : ps.length = lp) (hlp6 : lp ≤ 1048576) (hp : AtS w p ps) (hX : ∀ k, k < xs.length → (wat xs k).1.length ≤ 6 ∧ -1000000 ≤ (wat xs k).2 ∧ (wat xs k).2 ≤ 1000000) (hYY : ∀ k, k < ys.length → (wat ys k).1.length ≤ 6 ∧ -1000000 ≤ (wat ys k).2 ∧ (wat ys k).2 ≤ 1000000) :
    Hands Tryz.prog 170 #[.pointer (some ⟨T, 0, none⟩), .pointer (some ⟨S, 0, none⟩), .pointer (some ⟨C, 0, none⟩)] (joinL xs ys ps) w := by
  intro n₀ l J W h1 h2 hb hJ hY h0
  refine callsIn_of_wp_marks Tryz.func170 rfl trivial ?_
  simp only [Tryz.ntmps170, List.size_toArray, List.length_cons, List.length_nil, Nat.reduceAdd, Nat.reduceSub, Array.replicate_succ, Array.replicate_zero, List.push_toArray, List.append_toArray, List.nil_append, List.cons_append]
  obtain ⟨W0, hW0⟩ : ∃ W0, W0 = W.alloc (.cells #[(.func (.yield l) #[] #[])] 221) := ⟨_, rfl⟩
  have hbW : Below W.heap.size W W0 := by rw [hW0]; exact (Below.refl _ _).alloc (Nat.le_refl _) _
  have z0 : W0.heap.size = W.heap.size + 1 := by rw [hW0]; simp
  have hTW := cell_later hb hT
  have hTL : (W.alloc (.cells #[(.func (.yield l) #[] #[])] 221)).cell? ⟨T, 0, none⟩ = some (.func (.func gf) #[] lb) := cell_later ((Below.refl _ _).alloc (Nat.le_refl _) _) hTW
  have I0 : Joining n₀ J W W0.heap.size (.func (.yield l) #[] #[]) 221 (outJ xs ys ps 0) W0 := by
    refine ⟨hJ 0 W W0 hbW h0, ?_, ⟨hbW.os, hbW.tape, hbW.output, hbW.size, fun j hj _ => hbW.block j hj⟩, Nat.le_refl _⟩
    rw [hW0]; exact heap_alloc_new W _
  gi_wp2
  rw [← hW0]
  clear hW0 hTL
  refine range_hands (gf := gf) (lb := lb) rfl eg hH (hb.trans (hbW.mono hb.size)) n₀ h1 (by omega) (fun k A => Joining n₀ J W W0.heap.size (.func (.yield l) #[] #[]) 221 (outJ xs ys ps k) A) (fun k A B hB h => h.keep hJ (by omega) hB) I0 ?round ?done
  case round =>
    intro r k W1 b n c hr hkx hI hsz hrec hln hnil hat hfar
    have hq := hX k hkx
    have HOS := Hid.mk (outJ_succ (ys := ys) (ps := ps) hkx)
    have HJA : Hid (∀ j, j < (ys.filterMap (joinG ps (wat xs k))).length → outJ xs ys ps k + j < (joinL xs ys ps).length ∧ wat (joinL xs ys ps) (outJ xs ys ps k + j) = wat (ys.filterMap (joinG ps (wat xs k))) j) := fun j hj => joinL_at hkx hj
    obtain ⟨M, hM⟩ : ∃ M, M = outJ xs ys ps k := ⟨_, rfl⟩
    rw [← hM] at HOS HJA hI
    obtain ⟨Y, hYk⟩ : ∃ Y, Y = wat xs k := ⟨_, rfl⟩
    rw [← hYk] at hln hat hfar hq HOS HJA ⊢
    obtain ⟨xz, x⟩ := Y
    simp only at hln hat hfar hq
    clear hM hYk
    gi_wp2
    refine ⟨((Below.refl _ _).alloc (Nat.le_refl _) _).alloc (by simp) _, fun W3 hT3 hr3 => ?_⟩
    obtain ⟨W2, hW2⟩ : ∃ W2, W2 = (W1.alloc (.cells #[.slice b n c] 80)).alloc (.cells #[.int .i64 x] 3) := ⟨_, rfl⟩
    have hb2 : Below W1.heap.size W1 W2 := by rw [hW2]; exact ((Below.refl _ _).alloc (Nat.le_refl _) _).alloc (by simp) _
    have cr : W2.cell? ⟨W1.heap.size, 0, none⟩ = some (.slice b n c) := by rw [hW2]; exact cell_later ((Below.refl _ _).alloc (Nat.le_refl _) _) (by simp)
    have cx : W2.cell? ⟨W1.heap.size + 1, 0, none⟩ = some (.int .i64 x) := by rw [hW2]; simp
    rw [← hW2] at hT3
    clear hW2
    have hI3 := (hI.keep hJ (by omega) (hb2.mono hsz)).keep hJ (by omega) (hT3.below hr)
    have cr3 := hT3.cell cr
    have cx3 := hT3.cell cx
    have hat3 := hT3.at (hat.below hb2)
    have hb3 : Below w.heap.size w W3 := hb.trans (hI3.low.below hb.size h1)
    have cs3 := cell_later hb3 hS
    clear hI hat cr cx hT3 hb2
    have zI3 := hI3.size
    have zr3 := World.block_lt_of_cell? _ _ cr3
    have zx3 := World.block_lt_of_cell? _ _ cx3
    simp only at zr3 zx3
    gi_wp2
    have hfar3 : Far n₀ W.heap.size b xz := hfar.mono (by omega)
    have hW1 : W.heap.size ≤ W1.heap.size := by omega
    refine range_hands_in (gf := hf) (lb := mb) rfl eh hK hb3 n₀ h1 (by omega) hr3 (fun j A => Inner n₀ J W W3 (.func (.yield l) #[] #[]) 221 (M + outW (joinG ps (xz, x)) ys j) A) (fun j A B hB i => i.keep hJ (by omega) hB) ⟨⟨hI3.told, hI3.box, hI3.low, Nat.le_refl _⟩, Apart.refl _ _ _⟩ ?inround ?indone
    case inround =>
      intro r2 j W4 b2 n2 c2 hr2 hjy hIn hsz2 hrec2 hln2 hnil2 hat2 _
      have hq2 := hYY j hjy
      have HOW : Hid (∀ v, joinG ps (xz, x) (wat ys j) = some v → outW (joinG ps (xz, x)) ys (j + 1) = outW (joinG ps (xz, x)) ys j + 1 ∧ outW (joinG ps (xz, x)) ys j < (ys.filterMap (joinG ps (xz, x))).length ∧ wat (ys.filterMap (joinG ps (xz, x))) (outW (joinG ps (xz, x)) ys j) = v) := fun v hv => outW_some hjy hv
      have HON : Hid (joinG ps (xz, x) (wat ys j) = none → outW (joinG ps (xz, x)) ys (j + 1) = outW (joinG ps (xz, x)) ys j) := fun hv => outW_none hjy hv
      obtain ⟨Y2, hYj⟩ : ∃ Y, Y = wat ys j := ⟨_, rfl⟩
      rw [← hYj] at hln2 hat2 hq2 HOW HON ⊢
      obtain ⟨yz, y⟩ := Y2
      simp only at hln2 hat2 hq2
      clear hYj
      gi_wp2
      refine ⟨(Below.refl _ _).alloc (Nat.le_refl _) _, fun W6 hT6 _ => ?_⟩
      obtain ⟨W5, hW5⟩ : ∃ W5, W5 = W4.alloc (.cells #[.slice b2 n2 c2] 80) := ⟨_, rfl⟩
      have hb5 : Below W4.heap.size W4 W5 := by rw [hW5]; exact (Below.refl _ _).alloc (Nat.le_refl _) _
      have cb5 : W5.cell? ⟨W4.heap.size, 0, none⟩ = some (.slice b2 n2 c2) := by rw [hW5]; simp
      rw [← hW5] at hT6
      clear hW5
      have hI6 := (hIn.keep hJ (by omega) (hb5.mono hsz2)).keep hJ (by omega) (hT6.below hr2)
      have cb6 := hT6.cell cb5
      have hat26 := hT6.at (hat2.below hb5)
      have cr6 := hI6.low3.cell cr3 (.inr (by show _ ≤ W1.heap.size; omega))
      have cx6 := hI6.low3.cell cx3 (.inr (by show _ ≤ W1.heap.size + 1; omega))
      have hat6 := hat3.far hfar3 hI6.low3
      have hb6 : Below w.heap.size w W6 := hb.trans (hI6.main.low.below hb.size h1)
      have cp6 := cell_later hb6 hC
      have hp6 := hp.below hb6
      have cy6 : W6.cell? ⟨W.heap.size, 0, none⟩ = some (.func (.yield l) #[] #[]) := by rw [cell_of_row W6 _ 0 _ _ (0, 0) hI6.main.box]; rfl
      have HI6 := Hid.mk hI6
      have HY := Hid.mk hY
      have HQ := Hid.mk (And.intro hq hq2)
      clear hIn hT6 hI6 hat2 cb5 hI3 hat3 cr3 cx3 hY hq2
      gi_wp2_with fail
      refine ⟨trivial, rfl, ?_⟩
      refine (callsIn_wide.2 (implJoinRows _ _ _ _ _ _ xz yz _ _ _ ps _ hln hln2 hlp (by omega) (by have := HQ.out.2; omega) (by omega) hnil hat6 hat26 hp6)).mono ?_
      rintro e W7 ⟨r7, m7, d7, rfl, hm7, ho7, hb7⟩
      have hF7 := owns_formed ho7
      have hat7 := At.owned ho7
      obtain ⟨W8, hW8⟩ : ∃ W8, W8 = W7.alloc (.cells #[.slice r7 m7 d7] 80) := ⟨_, rfl⟩
      have hbL : Below W7.heap.size W7 (W7.alloc (.cells #[.slice r7 m7 d7] 80)) := (Below.refl _ _).alloc (Nat.le_refl _) _
      have hb8 : Below W7.heap.size W7 W8 := by rw [hW8]; exact hbL
      have hB8 : Below W6.heap.size W6 W8 := hb7.trans (hb8.mono hb7.size)
      have cy8 := cell_later hbL (cell_later hb7 cy6)
      have cx8 := cell_later hbL (cell_later hb7 cx6)
      have hI8 := HI6.out.keep hJ (by omega) (hB8.mono HI6.out.main.size)
      have hwr := prod_wrap HQ.out.1.2.1 HQ.out.1.2.2 HQ.out.2.2.1 HQ.out.2.2.2
      cases hok : joinOk xz yz ps with
      | true =>
        have hg : joinG ps (xz, x) (yz, y) = some (joinAns xz yz ps, x * y) := if_pos hok
        obtain ⟨o1, o2, o3⟩ := HOW.out _ hg
        obtain ⟨j1, j2⟩ := HJA.out _ o2
        rw [o3] at j2
        have hf8 : Far n₀ W.heap.size r7 (joinAns xz yz ps) := far_owned ho7 (by have := HI6.out.main.size; omega)
        obtain ⟨fn, tmps, assign, body, hy, hR⟩ := HY.out (M + outW (joinG ps (xz, x)) ys j) W8 r7 m7 d7 j1 hI8.main.told (by have := hI8.main.size; omega) (by rw [j2]; exact hm7) hF7.2.1 (by rw [j2]; exact hat7.below hb8) (by rw [j2]; exact hf8)
        rw [j2] at hy
        simp only at hy
        rw [hW8] at hy
        have HI8 := Hid.mk hI8
        have HB8 := Hid.mk hB8
        have HR := Hid.mk hR
        have HO1 := Hid.mk o1
        clear hI8 HI6 HY hB8 hb8 ho7 hR o1 o3 j1 j2 hg hok HOW HON HJA HOS hm7 hat7 hf8
        gi_wp2

        refine ⟨rfl, ?_⟩
        rw [← hW8]
        refine HR.out.mono ?_
        rintro e W9 ⟨rfl, hJ9, hap9⟩
        have hI8 := HI8.out
        have hB8 := HB8.out
        have z8 := hI8.main.size
        have hfin : Inner n₀ J W W3 (.func (.yield l) #[] #[]) 221 (M + outW (joinG ps (xz, x)) ys (j + 1)) W9 := by
          refine ⟨⟨by rw [HO1.out, ← Nat.add_assoc]; exact hJ9, (hap9.block _ (by omega) (.inr (Nat.le_refl _))).trans hI8.main.box, hI8.main.low.trans hap9, Nat.le_trans z8 hap9.size⟩, hI8.low3.trans hap9⟩
        have hapf : Apart n₀ W3.heap.size W6 W9 := ⟨hap9.os.trans hB8.os, hap9.tape.trans hB8.tape, hap9.output.trans hB8.output, Nat.le_trans hB8.size hap9.size, fun i hi hc => (hap9.block i (by have := hB8.size; omega) (by omega)).trans (hB8.block i hi)⟩
        clear hI8 HI8 hB8 HB8 hJ9 hap9 HR hy
        gi_wp2
        done
      | false =>
        have hg : joinG ps (xz, x) (yz, y) = none := if_neg (by rw [hok]; simp)
        have HO1 := Hid.mk (HON.out hg)
        have hfin : Inner n₀ J W W3 (.func (.yield l) #[] #[]) 221 (M + outW (joinG ps (xz, x)) ys (j + 1)) W8 := by rw [HO1.out]; exact hI8
        have hapf : Apart n₀ W3.heap.size W6 W8 := ⟨hB8.os, hB8.tape, hB8.output, hB8.size, fun i hi _ => hB8.block i hi⟩
        clear hI8 HI6 HY hB8 hb8 ho7 hg hok HOW HON HJA HOS hm7 hat7
        gi_wp2
        refine ⟨fun _ h => (by cases h), ?_⟩
        gi_wp2
        rw [← hW8]
        exact ⟨hfin, hapf⟩
    case indone =>
      intro A hIn hap
      have hto := hIn.main.told
      rw [outW_all, ← HOS.out] at hto
      have hfin : Joining n₀ J W W0.heap.size (.func (.yield l) #[] #[]) 221 (outJ xs ys ps (k + 1)) A := ⟨hto, hIn.main.box, hIn.main.low, by have := hIn.main.size; omega⟩
      have hapf : Apart n₀ W0.heap.size W3 A := ⟨hIn.low3.os, hIn.low3.tape, hIn.low3.output, hIn.low3.size, fun i hi hc => hIn.low3.block i hi (by omega)⟩
      first | exact ⟨rfl, hfin, hapf⟩ | (gi_wp2; trace_state; done)
  case done =>
    intro D A hD hI hap hdef
    have hto := hI.told
    have e : outJ xs ys ps xs.length = (joinL xs ys ps).length := by unfold outJ; rw [List.take_length]
    rw [e] at hto
    have hDl : D < A.heap.size := (Array.getElem?_eq_some_iff.1 hdef).1
    have hJf := hJ _ A (A.putObj D (.deferred none)) ((Below.refl _ _).grown (grownBy_putObj' A D _) (by omega) (fun j hj => by cases hj; omega)) hto
    have hapf : Apart n₀ W.heap.size W (A.putObj D (.deferred none)) := ⟨hI.low.os, hI.low.tape, hI.low.output, by have := hI.low.size; simp; omega, fun j hj hc => (World.putObj_heap_other (by omega)).trans (hI.low.block j hj hc)⟩
    gi_wp2
    refine ⟨by simp, .inl ⟨_, _, rfl, run_takeDeferred hdef, ?_⟩⟩
    exact ⟨_, results_none rfl _ _ _, ⟨_, rfl⟩, hJf, hapf⟩
end Go.Proofs.YthiabjkjpjmahaaGreat
