/- Several texts of one proof, in build order: Rows1, RngS, IterP, PlainR, Plain, PlainT, PlainC. -/
import Derived.Test.YthiabjkjpjmahaaRows
import Derived.Test.YthiabjkjpjmahaaM5
import Derived.WalkKit
import Derived.OwnWalkIn
import Derived.TacticsInMore
import Derived.LoopNIn
import Derived.LoopIn
import Derived.OrdersIn
import Derived.Test.YthiabjkjpjmahaaM2
import Derived.Test.YthiabjkjpjmahaaM1

/- Contracts of impl.rowsOf and of the function that it hands back. -/
namespace Go.Proofs.Ythiabjkjpjmahaa
open Go.RowKit Go.Shelf

attribute [local go_sem] Oper.semAt_some

set_option maxRecDepth 100000 in
set_option maxHeartbeats 2000000 in
theorem rowsOf1_hands (T : Nat) (a : Option Addr) (n c : Nat) (ts : List WRow) (w : World) (hz : ts.length = n) (hn : n ≤ 1048576) (hT : w.cell? ⟨T, 1, none⟩ = some (.slice a n c)) (ha : AtM w a ts) :
    Hands Try.prog 93 #[.pointer (some ⟨T, 0, none⟩)] ts w := by
  intro n₀ l J W h1 h2 hb hJ hY h0
  refine callsIn_of_wp Try.func93 rfl trivial ?_
  simp only [Try.ntmps93, List.size_toArray, List.length_cons, List.length_nil, Nat.reduceAdd, Nat.reduceSub, Array.replicate_succ, Array.replicate_zero, List.push_toArray, List.append_toArray, List.nil_append, List.cons_append]
  have hTW := cell_later hb hT
  gi_wp2
  gi_loopw [8] (fun i wr => ∃ (k : Nat), k ≤ n ∧ i = .int .i64 k ∧ J k wr ∧ Apart n₀ W.heap.size W wr) (fun i _ => n - (intOf i).toNat)
  case atStart => exact ⟨0, Nat.zero_le _, rfl, h0, Apart.refl _ _ _⟩
  case round =>
    obtain ⟨k, hk, rfl, hj, hap⟩ := hrel
    by_cases hlt : k < n
    · have hbr : Below w.heap.size w wr := hb.trans (hap.below hb.size h1)
      obtain ⟨b, off, rfl, hc⟩ := ha.some (by omega)
      obtain ⟨q, dd, hcx0, hwx0, hm, hnil, hat0⟩ := hc k (by omega)
      have hfar : Far n₀ W.heap.size q (wat ts k).1 := hat0.far_low h1
      have hcx := cell_later hbr hcx0
      have hwx := cell_later hbr hwx0
      have hat := hat0.below hbr
      clear hcx0 hwx0 hat0
      have hki : (k : Int) < (n : Int) := by omega
      obtain ⟨V, hV⟩ : ∃ V, V = wr.alloc (.cells #[.slice q (wat ts k).1.length dd, .int .i64 (wat ts k).2] 80) := ⟨_, rfl⟩
      have hbV : Below wr.heap.size wr V := by rw [hV]; exact (Below.refl _ _).alloc (Nat.le_refl _) _
      have c3 : V.cell? ⟨wr.heap.size, 0, none⟩ = some (.slice q (wat ts k).1.length dd) := by rw [hV]; exact pair0 wr _ _ _
      have c4 : V.cell? ⟨wr.heap.size, 1, none⟩ = some (.int .i64 (wat ts k).2) := by rw [hV]; exact pair1 wr _ _ _
      have zV : W.heap.size ≤ V.heap.size := Nat.le_trans hap.size hbV.size
      obtain ⟨fn, tmps, assign, body, hy, hR⟩ := hY k V q _ dd (by omega) (hJ k wr V (hbV.mono hap.size) hj) zV rfl hnil (hat.below hbV) hfar
      have hapV : Apart n₀ W.heap.size W V := hap.trans ⟨hbV.os, hbV.tape, hbV.output, hbV.size, fun i hi _ => hbV.block i hi⟩
      generalize wat ts k = Y at *
      obtain ⟨ys, x⟩ := Y
      simp only at hcx hwx hm hat c3 c4 hy hV
      generalize ys.length = m at *
      subst hV
      gi_wp2
      refine ⟨rfl, hR.mono ?_⟩
      rintro e W3 ⟨rfl, hJ3, hap3⟩
      have HA3 := Hid.mk (hapV.trans hap3)
      have HJ3 := Hid.mk hJ3
      clear hJ3 hap3 hapV hR hy hcx hwx c3 c4 hat hap hj hc
      gi_wp2
      go_roundw
      case rel => exact ⟨k + 1, by omega, by go_num, HJ3.out, HA3.out⟩
      case measure => simp [intOf]; omega
    · obtain rfl : k = n := by omega
      gi_wp2
      go_end0
      rw [hz]
      exact ⟨⟨_, rfl⟩, hj, hap⟩

theorem rowsOf_any (a : Option Addr) (n c : Nat) (p : Int) (w : World) :
    Calls Try.prog 46 #[.agg #[.int .i64 p, .slice a n c]] w fun e w' => e = .returned (.func (.func 93) #[] #[.pointer (some ⟨w.heap.size, 0, none⟩)]) ∧ w' = w.alloc (.cells #[.int .i64 p, .slice a n c] 25) := by
  go_enter Try.func46, Try.ntmps46
  go_wp2
  go_ret
  exact ⟨rfl, rfl⟩

end Go.Proofs.Ythiabjkjpjmahaa

/- A region that draws its order, within a round: as everywhere, where no operation of it is a 'defer'. -/
namespace Go.Proofs.Ythiabjkjpjmahaa
open Go.RowKit Go.Shelf

section
variable {P : Program} {ops : Array Oper} {Q : Exit → Act → World → Prop} {md : Region.Mode}

theorem opIn_round {F : Fence} {n l i : Nat} {K : Act → World → Prop} {a : Act} {w : World} (hro : F.round = none) (hnd : ∀ (i : Nat) (o : Oper), ops[i]? = some o → ∀ c, o.op ≠ .defer c)
    (h : wpOpIn F n P ops Q i K a w) : wpOpIn (F.inRound l) n P ops Q i K a w := by
  unfold wpOpIn at *
  cases ho : ops[i]? with
  | none => simpa [ho] using h
  | some o =>
    simp only [ho] at h ⊢
    split
    · rename_i hw
      simp only [hw, if_true] at h
      obtain ⟨h1, h2⟩ := h
      refine ⟨h1, ?_⟩
      have e1 : Oper.semAt (F.inRound l).round a.eval o = execOp a.eval o := Oper.semAt_some l a.eval o (hnd i o ho)
      have e2 : Oper.semAt F.round a.eval o = execOp a.eval o := by rw [hro]; rfl
      rw [e1]
      rw [e2] at h2
      exact h2
    · rename_i hw
      simp only [hw] at h
      exact h

theorem anyIn_round {F : Fence} {n l : Nat} (hro : F.round = none) (hnd : ∀ (i : Nat) (o : Oper), ops[i]? = some o → ∀ c, o.op ≠ .defer c) : ∀ (fuel : Nat) (listed : Array Bool) (a : Act) (w : World),
    wpAnyIn F n P md ops Q fuel listed a w → wpAnyIn (F.inRound l) n P md ops Q fuel listed a w
  | 0, _, _, _, h => h
  | fuel + 1, _, _, _, h => ⟨h.1, fun i hi => opIn_round hro hnd (wpOpIn_mono (fun a' w' h' => anyIn_round hro hnd fuel _ a' w' h') (h.2 i hi))⟩

/-- No operation is a 'defer'. -/
def noDefer (ops : Array Oper) : Bool := ops.toList.all fun o => match o.op with | .defer _ => false | _ => true
theorem noDefer_spec (h : noDefer ops = true) : ∀ (i : Nat) (o : Oper), ops[i]? = some o → ∀ c, o.op ≠ .defer c := fun i o ho c e => by
  have := List.all_eq_true.1 h o (by rw [Array.mem_toList_iff]; exact Array.mem_of_getElem? ho)
  rw [e] at this
  cases this

theorem region_round {id l : Nat} {a : Act} {w : World} (hm : P.follows .mixedOrders = true) (hnd : noDefer ops = true)
    (h : wpAnyIn Fence.wide 0 P .any ops Q ops.size (Array.replicate ops.size false) a w.drew) : (Code.region id ops true).wpIn (Fence.wide.inRound l) 0 P Q a w :=
  wpIn_region_any hm (anyIn_round rfl (noDefer_spec hnd) _ _ _ _ h)
end
end Go.Proofs.Ythiabjkjpjmahaa

/- Plain: what a function hands out that passes on some of another one's rows. -/
namespace Go.Proofs.Ythiabjkjpjmahaa

/-- How many have been handed out when k rows have come. -/
def outW (g : WRow → Option WRow) (xs : List WRow) (k : Nat) : Nat := ((xs.take k).filterMap g).length
theorem outW_zero (g : WRow → Option WRow) (xs : List WRow) : outW g xs 0 = 0 := rfl
theorem outW_all (g : WRow → Option WRow) (xs : List WRow) : outW g xs xs.length = (xs.filterMap g).length := by simp [outW]
theorem outW_none {g : WRow → Option WRow} {xs : List WRow} {k : Nat} (h : k < xs.length) (hg : g (wat xs k) = none) : outW g xs (k + 1) = outW g xs k := by
  unfold outW
  rw [wtake_succ xs k h, List.filterMap_append, List.filterMap_cons, hg]
  simp
theorem outW_some {g : WRow → Option WRow} {xs : List WRow} {k : Nat} {v : WRow} (h : k < xs.length) (hg : g (wat xs k) = some v) :
    outW g xs (k + 1) = outW g xs k + 1 ∧ outW g xs k < (xs.filterMap g).length ∧ wat (xs.filterMap g) (outW g xs k) = v := by
  have e : xs.filterMap g = (xs.take k).filterMap g ++ v :: (xs.drop (k + 1)).filterMap g := by
    have h2 : xs = xs.take k ++ wat xs k :: xs.drop (k + 1) := by
      have h3 := (List.take_append_drop k xs).symm
      rw [List.drop_eq_getElem_cons h] at h3
      rw [show wat xs k = xs[k] by simp [wat, List.getD, h]]
      exact h3
    have h4 := congrArg (List.filterMap g) h2
    rw [List.filterMap_append, List.filterMap_cons, hg] at h4
    exact h4
  refine ⟨?_, ?_, ?_⟩
  · unfold outW
    rw [wtake_succ xs k h, List.filterMap_append, List.filterMap_cons, hg]
    simp
  · rw [e]; unfold outW; simp
  · rw [e]; unfold outW
    simp [wat, List.getD]

end Go.Proofs.Ythiabjkjpjmahaa

/- Contracts of impl.plainRows and of the function that it hands back. -/
namespace Go.Proofs.Ythiabjkjpjmahaa
open Go.RowKit Go.Shelf

attribute [local go_sem] Oper.semAt_some

/-- A row that is there, once. -/
def plainG (t : WRow) : Option WRow := if 0 < t.2 then some (t.1, 1) else none

/-- What a function that passes rows on holds while it does. -/
structure Passing (n₀ : Nat) (J : Nat → World → Prop) (W : World) (bx : Nat → Nat → Prop) (N : Nat) (g : WRow → Option WRow) (xs : List WRow) (v : Value) (t : TypeId) (k : Nat) (A : World) : Prop where
  told : J (outW g xs k) A
  box : A.heap[W.heap.size]? = some (.cells #[v] t (0, 0))
  low : Apart n₀ W.heap.size W A
  size : N ≤ A.heap.size

theorem Passing.keep {n₀ : Nat} {J : Nat → World → Prop} {W : World} {bx : Nat → Nat → Prop} {N : Nat} {g : WRow → Option WRow} {xs : List WRow} {v : Value} {t : TypeId} {k : Nat} {A B : World} (hJ : ∀ k A B, Below W.heap.size A B → J k A → J k B) (hN : W.heap.size < N)
    (h : Passing n₀ J W bx N g xs v t k A) (hb : Below N A B) : Passing n₀ J W bx N g xs v t k B := by
  have hs := h.size
  refine ⟨hJ _ _ _ (hb.mono (by omega)) h.told, (hb.block _ hN).trans h.box, ?_, Nat.le_trans h.size hb.size⟩
  exact ⟨hb.os.trans h.low.os, hb.tape.trans h.low.tape, hb.output.trans h.low.output, Nat.le_trans h.low.size hb.size, fun j hj hc => (hb.block j (by omega)).trans (h.low.block j hj hc)⟩

set_option maxRecDepth 100000 in
set_option maxHeartbeats 4000000 in
theorem plainRows1_hands (T gf : Nat) (lb : Array Value) (xs : List WRow) (w : World) (hT : w.cell? ⟨T, 0, none⟩ = some (.func (.func gf) #[] lb)) (eg : ∀ args w, (callFunc gf args).run Try.prog w = .ok (.enter gf args) w) (hH : Hands Try.prog gf lb xs w) :
    Hands Try.prog 95 #[.pointer (some ⟨T, 0, none⟩)] (xs.filterMap plainG) w := by
  intro n₀ l J W h1 h2 hb hJ hY h0
  refine callsIn_of_wp_marks Try.func95 rfl trivial ?_
  simp only [Try.ntmps95, List.size_toArray, List.length_cons, List.length_nil, Nat.reduceAdd, Nat.reduceSub, Array.replicate_succ, Array.replicate_zero, List.push_toArray, List.append_toArray, List.nil_append, List.cons_append]
  obtain ⟨W0, hW0⟩ : ∃ W0, W0 = W.alloc (.cells #[.func (.yield l) #[] #[]] 125) := ⟨_, rfl⟩
  have hbW : Below W.heap.size W W0 := by rw [hW0]; exact (Below.refl _ _).alloc (Nat.le_refl _) _
  have z0 : W0.heap.size = W.heap.size + 1 := by rw [hW0]; simp
  have hTW := cell_later hb hT
  have hTL : (W.alloc (.cells #[.func (.yield l) #[] #[]] 125)).cell? ⟨T, 0, none⟩ = some (.func (.func gf) #[] lb) := cell_later ((Below.refl _ _).alloc (Nat.le_refl _) _) hTW
  have I0 : Passing n₀ J W (fun _ _ => True) W0.heap.size plainG xs (.func (.yield l) #[] #[]) 125 0 W0 := by
    refine ⟨hJ 0 W W0 hbW h0, ?_, ⟨hbW.os, hbW.tape, hbW.output, hbW.size, fun j hj _ => hbW.block j hj⟩, Nat.le_refl _⟩
    rw [hW0]; exact heap_alloc_new W _
  gi_wp2
  rw [← hW0]
  clear hW0 hTL
  refine range_hands (gf := gf) (lb := lb) rfl eg hH (hb.trans (hbW.mono hb.size)) n₀ h1 (by omega) _ (fun k A B hB h => h.keep hJ (by omega) hB) I0 ?round ?done
  case round =>
    intro r k W1 b n c hr hkx hI hsz hrec hln hnil hat hfar
    obtain ⟨Y, hYk⟩ : ∃ Y, Y = wat xs k := ⟨_, rfl⟩
    rw [← hYk] at hln hat hfar ⊢
    obtain ⟨ys, x⟩ := Y
    simp only at hln hat hfar
    gi_wp2
    refine ⟨(Below.refl _ _).alloc (Nat.le_refl _) _, fun W3 hT3 _ => ?_⟩
    obtain ⟨W2, hW2⟩ : ∃ W2, W2 = W1.alloc (.cells #[.slice b n c] 78) := ⟨_, rfl⟩
    have hb2 : Below W1.heap.size W1 W2 := by rw [hW2]; exact (Below.refl _ _).alloc (Nat.le_refl _) _
    have cr : W2.cell? ⟨W1.heap.size, 0, none⟩ = some (.slice b n c) := by rw [hW2]; simp
    rw [← hW2] at hT3
    clear hW2
    have hI3 := (hI.keep hJ (by omega) (hb2.mono hsz)).keep hJ (by omega) (hT3.below hr)
    have cr3 := hT3.cell cr
    have cy3 : W3.cell? ⟨W.heap.size, 0, none⟩ = some (.func (.yield l) #[] #[]) := by rw [cell_of_row W3 _ 0 _ _ (0, 0) hI3.box]; rfl
    have hat3 := hT3.at (hat.below hb2)
    clear hI hat cr hT3
    by_cases hx : 0 < x
    · have hgx : plainG (wat xs k) = some (ys, 1) := by rw [← hYk]; exact if_pos hx
      obtain ⟨o1, o2, o3⟩ := outW_some hkx hgx
      obtain ⟨fn, tmps, assign, body, hy, hR⟩ := hY (outW plainG xs k) W3 b n c o2 hI3.told (by have := hI3.size; omega) (by rw [o3]; exact hln) hnil (by rw [o3]; exact hat3) (by rw [o3]; exact hfar.mono (by omega))
      rw [o3] at hy
      simp only at hy
      have HI3 := Hid.mk hI3
      have HO1 := Hid.mk o1
      clear hI3 o1 o3 hgx hYk
      gi_wp2
      refine ⟨rfl, hR.mono ?_⟩
      rintro e W4 ⟨rfl, hJ4, hap4⟩
      have hI3 := HI3.out
      have hfin : Passing n₀ J W (fun _ _ => True) W0.heap.size plainG xs (.func (.yield l) #[] #[]) 125 (k + 1) W4 := by
        refine ⟨by rw [HO1.out]; exact hJ4, (hap4.block _ (by have := hI3.size; omega) (.inr (Nat.le_refl _))).trans hI3.box, hI3.low.trans hap4, Nat.le_trans hI3.size hap4.size⟩
      have hapf : Apart n₀ W0.heap.size W3 W4 := ⟨hap4.os, hap4.tape, hap4.output, hap4.size, fun j hj hc => hap4.block j hj (by omega)⟩
      rw [z0] at hfin hapf
      clear hI3 HI3 hJ4 hap4 hR hy
      gi_wp2
      done
    · have hgx : plainG (wat xs k) = none := by rw [← hYk]; exact if_neg hx
      have o1 := outW_none hkx hgx
      have hxx : x ≤ 0 := by omega
      have hfin : Passing n₀ J W (fun _ _ => True) W0.heap.size plainG xs (.func (.yield l) #[] #[]) 125 (k + 1) W3 := ⟨by rw [o1]; exact hI3.told, hI3.box, hI3.low, hI3.size⟩
      have hapf : Apart n₀ W0.heap.size W3 W3 := Apart.refl _ _ _
      rw [z0] at hfin hapf
      clear hI3 hgx hYk o1
      gi_wp2
      refine ⟨fun _ h => (by cases h), ?_⟩
      gi_wp2
      done
  case done =>
    intro D A hD hI hap hdef
    have hto := hI.told
    rw [outW_all] at hto
    have hDl : D < A.heap.size := (Array.getElem?_eq_some_iff.1 hdef).1
    have hJf := hJ _ A (A.putObj D (.deferred none)) ((Below.refl _ _).grown (grownBy_putObj' A D _) (by omega) (fun j hj => by cases hj; omega)) hto
    have hapf : Apart n₀ W.heap.size W (A.putObj D (.deferred none)) := ⟨hI.low.os, hI.low.tape, hI.low.output, by have := hI.low.size; simp; omega, fun j hj hc => (World.putObj_heap_other (by omega)).trans (hI.low.block j hj hc)⟩
    gi_wp2
    refine ⟨by simp, .inl ⟨_, _, rfl, run_takeDeferred hdef, ?_⟩⟩
    exact ⟨_, results_none rfl _ _ _, ⟨_, rfl⟩, hJf, hapf⟩

end Go.Proofs.Ythiabjkjpjmahaa

/- Plain functions on lists of numbers: what the program's row functions answer. -/
namespace Go.Proofs.Ythiabjkjpjmahaa

def inb (z : Int) : Bool := decide (-100000 ≤ z) && decide (z ≤ 100000)
/-- A good row's cells. -/
def good (zs : List Int) : Bool := decide (zs.length ≤ 6) && zs.all inb

theorem good_len {zs : List Int} (h : good zs = true) : zs.length ≤ 6 := by simp [good] at h; exact h.1
theorem good_cell {zs : List Int} (h : good zs = true) (k : Nat) (hk : k < zs.length) : -100000 ≤ zs.getD k 0 ∧ zs.getD k 0 ≤ 100000 := by
  simp [good, inb] at h
  have := h.2 (zs[k]) (List.getElem_mem hk)
  simpa [List.getD, hk] using this
theorem good_long {zs : List Int} (h : 6 < zs.length) : good zs = false := by simp [good]; omega
theorem not_good_cell {zs : List Int} (k : Nat) (hk : k < zs.length) (h : zs.getD k 0 < -100000 ∨ 100000 < zs.getD k 0) : good zs = false := by
  cases hg : good zs with
  | false => rfl
  | true => have := good_cell hg k hk; omega
theorem good_of {zs : List Int} (hl : zs.length ≤ 6) (h : ∀ k, k < zs.length → -100000 ≤ zs.getD k 0 ∧ zs.getD k 0 ≤ 100000) : good zs = true := by
  simp only [good, Bool.and_eq_true, decide_eq_true_eq, List.all_eq_true, inb]
  refine ⟨hl, fun x hx => ?_⟩
  obtain ⟨k, hk, rfl⟩ := List.getElem_of_mem hx
  simpa [List.getD, hk] using h k hk

/-- Cell by cell; the first unlike one decides; a row that ends there is less. -/
def cmp : List Int → List Int → Int
  | [], [] => 0
  | [], _ :: _ => -1
  | _ :: _, [] => 1
  | x :: xs, y :: ys => if x < y then -1 else if y < x then 1 else cmp xs ys

theorem cmp_drop (xs ys : List Int) (k : Nat) (h1 : k < xs.length) (h2 : k < ys.length) :
    cmp (xs.drop k) (ys.drop k) = if xs.getD k 0 < ys.getD k 0 then -1 else if ys.getD k 0 < xs.getD k 0 then 1 else cmp (xs.drop (k + 1)) (ys.drop (k + 1)) := by
  rw [List.drop_eq_getElem_cons h1, List.drop_eq_getElem_cons h2, cmp]
  simp [List.getD, h1, h2]

theorem cmp_end (xs ys : List Int) (k : Nat) (h : k = xs.length ∨ k = ys.length) (h1 : k ≤ xs.length) (h2 : k ≤ ys.length) :
    cmp (xs.drop k) (ys.drop k) = if xs.length < ys.length then -1 else if ys.length < xs.length then 1 else 0 := by
  rcases h with rfl | rfl
  · rw [List.drop_length]
    by_cases e : xs.length = ys.length
    · rw [List.drop_eq_nil_of_le (by omega), if_neg (by omega), if_neg (by omega)]; rfl
    · rw [List.drop_eq_getElem_cons (by omega), if_pos (by omega)]; rfl
  · rw [List.drop_length]
    by_cases e : xs.length = ys.length
    · rw [List.drop_eq_nil_of_le (by omega), if_neg (by omega), if_neg (by omega)]; rfl
    · rw [List.drop_eq_getElem_cons (by omega), if_neg (by omega), if_pos (by omega)]; rfl

theorem cmp_self (xs : List Int) : cmp xs xs = 0 := by
  induction xs with
  | nil => rfl
  | cons x xs ih => simp [cmp, ih]

def good2 (xs ys : List Int) : Bool := good xs && good ys
def cmpAns (xs ys : List Int) : Int := if good xs && good ys then cmp xs ys else 0

/-- A cell's three bytes. -/
def cellNums (z : Int) : List Int := [(z + 100000) / 65536, (z + 100000) / 256 % 256, (z + 100000) % 256]
def rowNumsTo (zs : List Int) (k : Nat) : List Int := (zs.length : Int) :: (zs.take k).flatMap cellNums
def rowNums (zs : List Int) : List Int := (zs.length : Int) :: zs.flatMap cellNums

theorem take_snocD (zs : List Int) (k : Nat) (h : k < zs.length) : zs.take (k + 1) = zs.take k ++ [zs.getD k 0] := by
  rw [List.take_succ_eq_append_getElem h]; simp [List.getD, h]
theorem rowNumsTo_succ (zs : List Int) (k : Nat) (h : k < zs.length) : rowNumsTo zs (k + 1) = rowNumsTo zs k ++ cellNums (zs.getD k 0) := by
  unfold rowNumsTo
  rw [take_snocD zs k h, List.flatMap_append]
  simp only [List.flatMap_cons, List.flatMap_nil, List.append_nil, List.cons_append]
theorem rowNumsTo_all (zs : List Int) : rowNumsTo zs zs.length = rowNums zs := by simp [rowNumsTo, rowNums]
theorem rowNumsTo_length (zs : List Int) (k : Nat) (h : k ≤ zs.length) : (rowNumsTo zs k).length = 1 + 3 * k := by
  induction k with
  | zero => simp [rowNumsTo]
  | succ k ih => rw [rowNumsTo_succ zs k (by omega), List.length_append, ih (by omega)]; simp [cellNums]; omega

/-- The row itself where it is good, else the empty one. -/
def goodOr (zs : List Int) : List Int := if good zs then zs else []

def byt (s : ByteArray) (k : Nat) : Nat := (s.data.toList.getD k 0).toNat
/-- The j-th cell that a row's bytes tell. -/
def cellAt (s : ByteArray) (j : Nat) : Int := (byt s (1 + 3 * j) : Int) * 65536 + (byt s (1 + 3 * j + 1) : Int) * 256 + (byt s (1 + 3 * j + 2) : Int) - 100000
def cellsTo (s : ByteArray) (k : Nat) : List Int := (List.range k).map (cellAt s)
theorem byt_lt (s : ByteArray) (k : Nat) : byt s k < 256 := (s.data.toList.getD k 0).toNat_lt
theorem byt_at (s : ByteArray) (k : Nat) (h : k < s.size) : (s[k]'h).toNat = byt s k := by
  have h' : k < s.data.size := h
  unfold byt
  rw [show s.data.toList.getD k 0 = s[k] from by simp only [List.getD, Array.getElem?_toList, Array.getElem?_eq_getElem h', Option.getD_some]; rfl]
theorem cellsTo_succ (s : ByteArray) (k : Nat) : cellsTo s (k + 1) = cellsTo s k ++ [cellAt s k] := by simp [cellsTo, List.range_succ]
theorem cellsTo_length (s : ByteArray) (k : Nat) : (cellsTo s k).length = k := by simp [cellsTo]

/-- A good row's cells raised above 0, and 0 behind the last one. -/
def raised (zs : List Int) : List Int := zs.map (· + 100001) ++ List.replicate (6 - zs.length) 0

theorem cmp_raised' (xs : List Int) : ∀ (ys : List Int) (a b : Nat), (∀ x ∈ xs, -100000 ≤ x) → (∀ y ∈ ys, -100000 ≤ y) → xs.length + a = ys.length + b →
    cmp (xs.map (· + 100001) ++ List.replicate a 0) (ys.map (· + 100001) ++ List.replicate b 0) = cmp xs ys := by
  induction xs with
  | nil =>
    intro ys a b _ hy hl
    cases ys with
    | nil => simp at hl; subst hl; simp [cmp_self, cmp]
    | cons y ys =>
      obtain ⟨a', rfl⟩ : ∃ a', a = a' + 1 := ⟨a - 1, by simp at hl; omega⟩
      have := hy y (by simp)
      simp [List.replicate_succ, cmp]
      omega
  | cons x xs ih =>
    intro ys a b hx hy hl
    have h0 := hx x (by simp)
    cases ys with
    | nil =>
      obtain ⟨b', rfl⟩ : ∃ b', b = b' + 1 := ⟨b - 1, by simp at hl; omega⟩
      simp only [List.map_cons, List.cons_append, List.map_nil, List.nil_append, List.replicate_succ, cmp]
      rw [if_neg (by omega), if_pos (by omega)]
    | cons y ys =>
      have h1 := hy y (by simp)
      simp only [List.map_cons, List.cons_append, cmp]
      rw [ih ys a b (fun z hz => hx z (by simp [hz])) (fun z hz => hy z (by simp [hz])) (by simp at hl; omega)]
      by_cases e1 : x < y
      · rw [if_pos (by omega), if_pos e1]
      · rw [if_neg (by omega), if_neg e1]
        by_cases e2 : y < x
        · rw [if_pos (by omega), if_pos e2]
        · rw [if_neg (by omega), if_neg e2]

theorem good_mem {zs : List Int} (h : good zs = true) : ∀ z ∈ zs, -100000 ≤ z ∧ z ≤ 100000 := by
  simp only [good, Bool.and_eq_true, List.all_eq_true, inb, decide_eq_true_eq] at h
  exact h.2

theorem cmp_raised {xs ys : List Int} (hx : good xs = true) (hy : good ys = true) : cmp (raised xs) (raised ys) = cmp xs ys := by
  have h1 := good_len hx
  have h2 := good_len hy
  exact cmp_raised' xs ys _ _ (fun z hz => (good_mem hx z hz).1) (fun z hz => (good_mem hy z hz).1) (by omega)

/-- The array while it is filled. -/
def rowTo (zs : List Int) (k : Nat) : List Int := (zs.take k).map (· + 100001) ++ List.replicate (6 - k) 0

theorem rowTo_length (zs : List Int) (k : Nat) (h : k ≤ zs.length) (h6 : k ≤ 6) : (rowTo zs k).length = 6 := by simp [rowTo]; omega

theorem rowTo_set (zs : List Int) (k : Nat) (h : k < zs.length) (h6 : k < 6) : (rowTo zs k).set k (zs.getD k 0 + 100001) = rowTo zs (k + 1) := by
  unfold rowTo
  rw [List.set_append_right _ _ (by simp; omega)]
  rw [show k - (List.map (· + 100001) (List.take k zs)).length = 0 by simp; omega]
  rw [show 6 - k = (6 - (k + 1)) + 1 by omega, List.replicate_succ, List.set_cons_zero]
  rw [List.take_succ_eq_append_getElem h, List.map_append, List.append_assoc]
  simp [List.getD, h]

theorem rowTo_all (zs : List Int) : rowTo zs zs.length = raised zs := by simp [rowTo, raised]

theorem raised_length {zs : List Int} (h : zs.length ≤ 6) : (raised zs).length = 6 := by simp [raised]; omega

end Go.Proofs.Ythiabjkjpjmahaa

/- Plain functions on lists of weighted rows: what a good table is. -/
namespace Go.Proofs.Ythiabjkjpjmahaa

def inw (x : Int) : Bool := decide (-1000000 ≤ x) && decide (x ≤ 1000000)
def inc (p : Int) : Bool := decide (0 ≤ p) && decide (p ≤ 6)
/-- A row that may be handed in. -/
def goodW (p : Int) (t : WRow) : Bool := good t.1 && (decide ((t.1.length : Int) = p) && inw t.2)
/-- The k-th row may stand in a table. -/
def stepB (p : Int) (ts : List WRow) (k : Nat) : Bool := goodW p (wat ts k) && (!decide ((wat ts k).2 = 0) && (decide (k = 0) || decide (cmp (wat ts (k - 1)).1 (wat ts k).1 < 0)))
/-- A good table. -/
def goodT (p : Int) (ts : List WRow) : Bool := inc p && (decide (ts.length ≤ 60) && (List.range ts.length).all (stepB p ts))
def goodL (p : Int) (ts : List WRow) : Bool := ts.all (goodW p)

theorem goodW_cells {p : Int} {t : WRow} (h : goodW p t = true) : good t.1 = true ∧ (t.1.length : Int) = p ∧ -1000000 ≤ t.2 ∧ t.2 ≤ 1000000 := by
  simpa [goodW, inw] using h
theorem goodW_mk {p : Int} {t : WRow} (h1 : good t.1 = true) (h2 : (t.1.length : Int) = p) (h3 : inw t.2 = true) : goodW p t = true := by
  simp [goodW, h1, h2, h3]
theorem goodW_row {p : Int} {t : WRow} (h : good t.1 = false) : goodW p t = false := by simp [goodW, h]
theorem goodW_len {p : Int} {t : WRow} (h : (t.1.length : Int) ≠ p) : goodW p t = false := by simp [goodW, h]
theorem goodW_wt {p : Int} {t : WRow} (h : inw t.2 = false) : goodW p t = false := by simp [goodW, h]

theorem wat_mem {ts : List WRow} {k : Nat} (h : k < ts.length) : wat ts k ∈ ts := by
  rw [show wat ts k = ts[k] by simp [wat, List.getD, h]]; exact List.getElem_mem h

theorem goodL_of {p : Int} {ts : List WRow} (h : ∀ k, k < ts.length → goodW p (wat ts k) = true) : goodL p ts = true := by
  unfold goodL
  rw [List.all_eq_true]
  intro t ht
  obtain ⟨k, hk, rfl⟩ := List.getElem_of_mem ht
  simpa [wat, List.getD, hk] using h k hk
theorem goodL_at {p : Int} {ts : List WRow} (h : goodL p ts = true) (k : Nat) (hk : k < ts.length) : goodW p (wat ts k) = true := List.all_eq_true.1 h _ (wat_mem hk)
theorem goodL_not {p : Int} {ts : List WRow} (k : Nat) (hk : k < ts.length) (h : goodW p (wat ts k) = false) : goodL p ts = false := by
  cases hg : goodL p ts with
  | false => rfl
  | true => rw [goodL_at hg k hk] at h; cases h

theorem goodT_of {p : Int} {ts : List WRow} (h1 : inc p = true) (h2 : ts.length ≤ 60) (h : ∀ k, k < ts.length → stepB p ts k = true) : goodT p ts = true := by
  simp only [goodT, h1, decide_eq_true h2, Bool.true_and, List.all_eq_true, List.mem_range]; exact h
theorem goodT_parts {p : Int} {ts : List WRow} (h : goodT p ts = true) : inc p = true ∧ ts.length ≤ 60 ∧ ∀ k, k < ts.length → stepB p ts k = true := by
  simpa only [goodT, Bool.and_eq_true, decide_eq_true_eq, List.all_eq_true, List.mem_range] using h
theorem goodT_col {p : Int} {ts : List WRow} (h : inc p = false) : goodT p ts = false := by simp [goodT, h]
theorem goodT_len {p : Int} {ts : List WRow} (h : 60 < ts.length) : goodT p ts = false := by
  have : decide (ts.length ≤ 60) = false := by simp; omega
  simp [goodT, this]
theorem goodT_not {p : Int} {ts : List WRow} (k : Nat) (hk : k < ts.length) (h : stepB p ts k = false) : goodT p ts = false := by
  cases hg : goodT p ts with
  | false => rfl
  | true => rw [(goodT_parts hg).2.2 k hk] at h; cases h
theorem stepB_good {p : Int} {ts : List WRow} {k : Nat} (h : stepB p ts k = true) : goodW p (wat ts k) = true := by
  simp only [stepB, Bool.and_eq_true] at h; exact h.1
theorem stepB_row {p : Int} {ts : List WRow} {k : Nat} (h : goodW p (wat ts k) = false) : stepB p ts k = false := by simp only [stepB, h, Bool.false_and]
theorem stepB_zero {p : Int} {ts : List WRow} {k : Nat} (h : (wat ts k).2 = 0) : stepB p ts k = false := by simp only [stepB, h, decide_true, Bool.not_true, Bool.false_and, Bool.and_false]
theorem stepB_cmp {p : Int} {ts : List WRow} {k : Nat} (h0 : k ≠ 0) (h : ¬ cmp (wat ts (k - 1)).1 (wat ts k).1 < 0) : stepB p ts k = false := by
  simp only [stepB, decide_eq_false h0, decide_eq_false h, Bool.or_false, Bool.and_false]
theorem stepB_mk {p : Int} {ts : List WRow} {k : Nat} (h1 : goodW p (wat ts k) = true) (h2 : (wat ts k).2 ≠ 0) (h3 : k = 0 ∨ cmp (wat ts (k - 1)).1 (wat ts k).1 < 0) : stepB p ts k = true := by
  rcases h3 with h3 | h3 <;> simp only [stepB, h1, decide_eq_false h2, decide_eq_true h3, Bool.not_false, Bool.true_and, Bool.or_true, Bool.true_or]
theorem goodL_of_goodT {p : Int} {ts : List WRow} (h : goodT p ts = true) : goodL p ts = true := goodL_of fun k hk => stepB_good ((goodT_parts h).2.2 k hk)
theorem goodT_goodL {p : Int} {ts : List WRow} (h : goodL p ts = false) : goodT p ts = false := by
  cases hg : goodT p ts with
  | false => rfl
  | true => rw [goodL_of_goodT hg] at h; cases h
theorem inc_range {p : Int} (h : inc p = true) : 0 ≤ p ∧ p ≤ 6 := by simpa [inc] using h

/-- cmp tells -1, 0 or 1. -/
theorem cmp_range (xs : List Int) : ∀ ys, cmp xs ys = -1 ∨ cmp xs ys = 0 ∨ cmp xs ys = 1 := by
  induction xs with
  | nil => intro ys; cases ys <;> simp [cmp]
  | cons x xs ih =>
    intro ys
    cases ys with
    | nil => simp [cmp]
    | cons y ys =>
      simp only [cmp]
      by_cases h1 : x < y
      · simp [h1]
      · by_cases h2 : y < x
        · simp [h1, h2]
        · simp [h1, h2, ih ys]

end Go.Proofs.Ythiabjkjpjmahaa

/- Plain facts: cmp is an order of the rows; the rows of a good table rise; the weight of a row. -/
namespace Go.Proofs.Ythiabjkjpjmahaa

theorem cmp_eq {xs : List Int} : ∀ {ys : List Int}, cmp xs ys = 0 → xs = ys := by
  induction xs with
  | nil => intro ys h; cases ys with
    | nil => rfl
    | cons y ys => simp [cmp] at h
  | cons x xs ih =>
    intro ys h
    cases ys with
    | nil => simp [cmp] at h
    | cons y ys =>
      simp only [cmp] at h
      by_cases h1 : x < y
      · simp [h1] at h
      · by_cases h2 : y < x
        · simp [h1, h2] at h
        · simp only [if_neg h1, if_neg h2] at h
          obtain rfl : x = y := by omega
          rw [ih h]

theorem cmp_swap (xs : List Int) : ∀ ys, cmp ys xs = - cmp xs ys := by
  induction xs with
  | nil => intro ys; cases ys <;> simp [cmp]
  | cons x xs ih =>
    intro ys
    cases ys with
    | nil => simp [cmp]
    | cons y ys =>
      simp only [cmp]
      by_cases h1 : x < y
      · rw [if_neg (by omega), if_pos h1, if_pos h1]; rfl
      · by_cases h2 : y < x
        · rw [if_pos h2, if_neg h1, if_pos h2]
        · rw [if_neg h2, if_neg h1, if_neg h1, if_neg h2, ih ys]

theorem cmp_trans {xs : List Int} : ∀ {ys zs : List Int}, cmp xs ys < 0 → cmp ys zs < 0 → cmp xs zs < 0 := by
  induction xs with
  | nil =>
    intro ys zs h1 h2
    cases ys with
    | nil => simp [cmp] at h1
    | cons y ys => cases zs with
      | nil => simp [cmp] at h2
      | cons z zs => simp [cmp]
  | cons x xs ih =>
    intro ys zs h1 h2
    cases ys with
    | nil => simp [cmp] at h1
    | cons y ys => cases zs with
      | nil => simp [cmp] at h2
      | cons z zs =>
        simp only [cmp] at *
        by_cases a1 : x < y
        · by_cases a2 : y < z
          · rw [if_pos (by omega)]; omega
          · rw [if_neg a2] at h2
            by_cases a3 : z < y
            · rw [if_pos a3] at h2; omega
            · rw [if_pos (by omega)]; omega
        · rw [if_neg a1] at h1
          by_cases a1' : y < x
          · rw [if_pos a1'] at h1; omega
          · rw [if_neg a1'] at h1
            by_cases a2 : y < z
            · rw [if_pos (by omega)]; omega
            · rw [if_neg a2] at h2
              by_cases a3 : z < y
              · rw [if_pos a3] at h2; omega
              · rw [if_neg a3] at h2
                rw [if_neg (by omega), if_neg (by omega)]
                exact ih h1 h2

theorem cmp_irrefl (xs : List Int) : ¬ cmp xs xs < 0 := by rw [cmp_self]; omega
theorem cmp_ne {xs ys : List Int} (h : cmp xs ys < 0) : xs ≠ ys := fun e => by rw [e] at h; exact cmp_irrefl ys h

/-- Rows that rise. -/
def Rises (ts : List WRow) : Prop := ts.Pairwise fun s t => cmp s.1 t.1 < 0

theorem rises_of {ts : List WRow} (h : ∀ k, k + 1 < ts.length → cmp (wat ts k).1 (wat ts (k + 1)).1 < 0) : Rises ts := by
  induction ts with
  | nil => exact List.Pairwise.nil
  | cons t ts ih =>
    have ih' : Rises ts := ih fun k hk => by simpa [wat, List.getD] using h (k + 1) (by simpa using hk)
    refine List.pairwise_cons.2 ⟨fun s hs => ?_, ih'⟩
    cases ts with
    | nil => simp at hs
    | cons u us =>
      have h0 : cmp t.1 u.1 < 0 := by simpa [wat, List.getD] using h 0 (by simp)
      rcases List.mem_cons.1 hs with rfl | hs
      · exact h0
      · exact cmp_trans h0 ((List.pairwise_cons.1 ih').1 s hs)

theorem goodT_rises {p : Int} {ts : List WRow} (h : goodT p ts = true) : Rises ts := rises_of fun k hk => by
  have := (goodT_parts h).2.2 (k + 1) hk
  simp only [stepB, Bool.and_eq_true, Bool.or_eq_true, decide_eq_true_eq] at this
  rcases this.2.2 with h0 | h0
  · omega
  · simpa using h0

theorem raised_inj {xs ys : List Int} (hx : good xs = true) (hy : good ys = true) (h : raised xs = raised ys) : xs = ys := by
  apply cmp_eq
  rw [← cmp_raised hx hy, h, cmp_self]

/-- The weight of a row, 0 where it is not there. -/
def wOf (ts : List WRow) (zs : List Int) : Int := ((ts.find? fun t => decide (t.1 = zs)).map fun t => t.2).getD 0

theorem wOf_nil (zs : List Int) : wOf [] zs = 0 := rfl
theorem wOf_cons (t : WRow) (ts : List WRow) (zs : List Int) : wOf (t :: ts) zs = if t.1 = zs then t.2 else wOf ts zs := by
  unfold wOf
  by_cases e : t.1 = zs <;> simp [e]
theorem wOf_absent {ts : List WRow} {zs : List Int} (h : ∀ t ∈ ts, t.1 ≠ zs) : wOf ts zs = 0 := by
  induction ts with
  | nil => rfl
  | cons t ts ih => rw [wOf_cons, if_neg (h t (by simp))]; exact ih fun s hs => h s (by simp [hs])
theorem wOf_drop (ts : List WRow) (k : Nat) (zs : List Int) (h : k < ts.length) : wOf (ts.drop k) zs = if (wat ts k).1 = zs then (wat ts k).2 else wOf (ts.drop (k + 1)) zs := by
  rw [List.drop_eq_getElem_cons h, wOf_cons]
  simp [wat, List.getD, h]

end Go.Proofs.Ythiabjkjpjmahaa
