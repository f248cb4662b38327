/- Several texts of one proof, in build order: RngM, StrV, StrB, StreamH, StreamM, StrL. -/
import Derived.Test.YtlfljfmhhnoinabGreatM10
import Derived.Test.YtlfljfmhhnoinabGreatM11
import Derived.Test.YtlfljfmhhnoinabGreatM8
import Derived.Deep.DeepCutAuto

/- A function that hands out maps of weights, and a range over it whose body may leave by a return. No Go function is spoken of here. -/
namespace Go.Proofs.YtlfljfmhhnoinabGreat
open Go.RowKit Go.Shelf

abbrev lat (xss : List (List WRow)) (k : Nat) : List WRow := xss.getD k []

/-- The function value (g, lb) calls yield with maps that tell the lists xss, one by one, as long as yield says yes: all that it reads lies below n₀, which no round turns. -/
def HandsM (P : Program) (g : Nat) (lb : Array Value) (q M : Nat) (xss : List (List WRow)) (w : World) : Prop :=
  ∀ (n₀ l : Nat) (J Jx : Nat → World → Prop) (W : World), w.heap.size ≤ n₀ → n₀ ≤ W.heap.size → Below w.heap.size w W →
    (∀ k A B, Below A.heap.size A B → J k A → J k B) → (∀ k A B, Below A.heap.size A B → Jx k A → Jx k B) →
    (∀ k W1 b, k < xss.length → J k W1 → Below n₀ W W1 → Cnt W1 b q M (lat xss k) →
      YieldAt Fence.wide 0 P l #[.map (some b)] W1 fun e W' => ((e = .returned (.bool true) ∧ J (k + 1) W') ∨ (e = .returned (.bool false) ∧ Jx k W')) ∧ Below n₀ W1 W') →
    J 0 W →
    CallsIn Fence.wide 0 P g (#[.func (.yield l) #[] #[]] ++ lb) W fun e W' => (∃ v, e = .returned v) ∧ (J xss.length W' ∨ ∃ k, k < xss.length ∧ Jx k W') ∧ Below n₀ W W'

theorem Cnt.turned {w w' : World} {b q M l : Nat} {xs : List WRow} (h : Cnt w b q M xs) (hT : Turned l w w') : Cnt w' b q M xs := by
  refine h.grown hT.grown (fun e => ?_)
  obtain ⟨cnt, D, f, S, ⟨es, clock, hb, _⟩, _⟩ := h
  obtain ⟨r, hr⟩ := hT.loop
  simp only [Option.some.injEq] at e
  rw [e, hr] at hb
  cases hb

section
variable {P : Program} {Q : Exit → Act → World → Prop}

/-- How a round is walked: the assignment, then the body, which goes on or leaves by a return. N: where the loop's own two blocks lie. -/
def RoundWalkM (P : Program) (q M : Nat) (xss : List (List WRow)) (p0 : Tmp) (assign body : Code) (tmps : Array Value) (I Ix : Nat → World → Prop) (n₀ N : Nat) : Prop :=
  ∀ (k : Nat) (W1 : World) (b : Nat), k < xss.length → I k W1 → N + 1 < W1.heap.size → (∃ r, W1.heap[N + 1]? = some (.loop r)) → Cnt W1 b q M (lat xss k) →
    assign.wpIn (Fence.wide.inRound (N + 1)) 0 P (Exit.then (fun a' W2 => Below W1.heap.size W1 W2 ∧ ∀ W3, Turned (N + 1) W2 W3 → (∃ r, W3.heap[N + 1]? = some (.loop r)) →
      body.wpIn (Fence.wide.inRound (N + 1)) 0 P (fun e _ W4 => ((e = .normal ∧ I (k + 1) W4) ∨ (e = .ret ∧ Ix k W4)) ∧ Below n₀ W3 W4 ∧ W4.heap[N]? = W3.heap[N]? ∧ W4.heap[N + 1]? = W3.heap[N + 1]?) a' W3) (fun _ _ _ => False))
      { tmps := tmps.setIfInBounds p0 (.map (some b)), defers := [] } W1

theorem zip_one (t : Array Value) (p0 : Tmp) (u : Value) : (#[p0].zip #[u]).foldl (fun tmps x => match x with | (t, a) => tmps.setIfInBounds t a) t = t.setIfInBounds p0 u := by simp

/-- **A range over such a function**, in a function's own body. -/
theorem range_handsM {g : Operand} {p0 : Tmp} {assign body : Code} {a : Act} {w w0 : World} {gf : Nat} {lb : Array Value} {q M : Nat} {xss : List (List WRow)} (hg : a.eval g = .func (.func gf) #[] lb) (eg : ∀ args w, (callFunc gf args).run P w = .ok (.enter gf args) w)
    (hH : HandsM P gf lb q M xss w0) (hw : Below w0.heap.size w0 w) (n₀ : Nat) (hn0 : w0.heap.size ≤ n₀) (hn1 : n₀ ≤ w.heap.size) (I Ix : Nat → World → Prop)
    (hI : ∀ k A B, Below A.heap.size A B → I k A → I k B) (hIx : ∀ k A B, Below A.heap.size A B → Ix k A → Ix k B) (hIt : ∀ k A B, Turned (w.heap.size + 1) A B → I k A → I k B) (hIxt : ∀ k A B, Turned (w.heap.size + 1) A B → Ix k A → Ix k B) (h0 : I 0 w)
    (hround : RoundWalkM P q M xss p0 assign body a.tmps I Ix n₀ w.heap.size)
    (hdone : ∀ W, I xss.length W → Below n₀ w W → W.heap[w.heap.size]? = some (.deferred (some [])) → Q .normal { a with defers := { target := .collected w.heap.size, args := #[] } :: a.defers } W)
    (hstop : ∀ k W, k < xss.length → Ix k W → Below n₀ w W → W.heap[w.heap.size]? = some (.deferred (some [])) → Code.ret.wpIn Fence.wide 0 P Q { a with defers := { target := .collected w.heap.size, args := #[] } :: a.defers } W) :
    (Code.rangeFunc g #[p0] assign body).wpIn Fence.wide 0 P Q a w := by
  refine wpIn_rangeFunc ?_
  intro fn _
  obtain ⟨rec, hrec⟩ : ∃ rec : LoopState → Option Code → Loop, rec = fun st pe => { state := st, pending := pe, fn, tmps := a.tmps, params := #[p0], assign, body, defers := w.heap.size } := ⟨_, rfl⟩
  obtain ⟨W1, hW1⟩ : ∃ W1, W1 = (w.alloc (.deferred (some []))).alloc (.loop (rec .ready none)) := ⟨_, rfl⟩
  have z1 : W1.heap.size = w.heap.size + 1 + 1 := by rw [hW1]; simp
  have hL : W1.heap[w.heap.size + 1]? = some (.loop (rec .ready none)) := by
    rw [hW1]; have := heap_alloc_new (w.alloc (.deferred (some []))) (.loop (rec .ready none)); rwa [World.size_alloc] at this
  have hD : W1.heap[w.heap.size]? = some (.deferred (some [])) := by
    rw [hW1]; exact (Below.heap_alloc _ _ _ (by simp)).trans (heap_alloc_new w _)
  have hb1 : Below w.heap.size w W1 := by rw [hW1]; exact ((Below.refl _ w).alloc (Nat.le_refl _) _).alloc (by simp) _
  refine ⟨w.heap.size + 1, [{ target := .collected w.heap.size, args := #[] }], W1, { target := .fn (.func gf) lb, args := #[.func (.yield (w.heap.size + 1)) #[] #[]] }, W1, gf, #[.func (.yield (w.heap.size + 1)) #[] #[]] ++ lb, W1, ?_, ?_, fun _ _ => trivial, ?_, fun h => by simp [Fence.wide] at h, ?_⟩
  · rw [hW1, hrec]; exact run_enterLoop_outer _ _ _ _ _
  · simp only [resolve, hg]
    simp [go_sem]
  · simp [invoke, go_sem, eg]
  · refine (hH n₀ (w.heap.size + 1) (fun k W => I k W ∧ W.heap[w.heap.size + 1]? = some (.loop (rec .ready none)) ∧ W.heap[w.heap.size]? = some (.deferred (some [])))
      (fun k W => Ix k W ∧ W.heap[w.heap.size + 1]? = some (.loop (rec .done (some .ret))) ∧ W.heap[w.heap.size]? = some (.deferred (some []))) W1 hn0 (by omega) (hw.trans (hb1.mono hw.size))
      (fun k A B hb ⟨j1, j2, j3⟩ => ⟨hI k A B hb j1, (hb.block _ (Array.getElem?_eq_some_iff.1 j2).1).trans j2, (hb.block _ (Array.getElem?_eq_some_iff.1 j3).1).trans j3⟩)
      (fun k A B hb ⟨j1, j2, j3⟩ => ⟨hIx k A B hb j1, (hb.block _ (Array.getElem?_eq_some_iff.1 j2).1).trans j2, (hb.block _ (Array.getElem?_eq_some_iff.1 j3).1).trans j3⟩)
      ?_ ⟨hI 0 w W1 hb1 h0, hL, hD⟩).mono ?_
    · rintro k W b hk ⟨hi, hl, hd⟩ hbW hcnt
      have hlt : w.heap.size + 1 < W.heap.size := (Array.getElem?_eq_some_iff.1 hl).1
      have hy := run_yield (P := P) (args := #[.map (some b)]) hl (by rw [hrec]; rfl)
      rw [hrec] at hy
      refine ⟨fn, _, assign, body, hy, roundIn_of_wpIn trivial ?_⟩
      clear hy
      simp only
      rw [zip_one]
      refine wpIn_mono (hround k W b hk hi hlt ⟨_, hl⟩ hcnt) ?_
      intro e a' W2 hq
      cases e with
      | normal =>
        obtain ⟨hb2, hbody⟩ := hq
        have z2 := hb2.size
        have hl2 : W2.heap[w.heap.size + 1]? = some (.loop (rec .ready none)) := (hb2.block _ (by omega)).trans hl
        have hd2 : W2.heap[w.heap.size]? = some (.deferred (some [])) := (hb2.block _ (by omega)).trans hd
        have hbr := run_beginRound (P := P) hl2 (by rw [hrec])
        have hbr' : { rec .ready none with state := .busy } = rec .busy none := by rw [hrec]
        rw [hbr'] at hbr
        refine ⟨_, hbr, ?_⟩
        have hlt2 : w.heap.size + 1 < W2.heap.size := by omega
        have hT := turned_put hl2 (.loop (rec .busy none))
        have hl3 : (W2.putObj (w.heap.size + 1) (.loop (rec .busy none))).heap[w.heap.size + 1]? = some (.loop (rec .busy none)) := World.putObj_heap_same hlt2
        have hd3 : (W2.putObj (w.heap.size + 1) (.loop (rec .busy none))).heap[w.heap.size]? = some (.deferred (some [])) := (World.putObj_heap_other (by omega)).trans hd2
        have hs3 : (W2.putObj (w.heap.size + 1) (.loop (rec .busy none))).heap.size = W2.heap.size := hT.size
        have bW3 : Below n₀ W (W2.putObj (w.heap.size + 1) (.loop (rec .busy none))) := (hb2.mono (by have := hbW.size; omega)).trans (hT.below (by omega))
        refine wpIn_mono (hbody _ hT ⟨_, hl3⟩) ?_
        intro e' a'' W4 hq'
        obtain ⟨hcase, hb4, hn4, hl4'⟩ := hq'
        have hl4 := hl4'.trans hl3
        have hd4 := hn4.trans hd3
        have hlt4 : w.heap.size + 1 < W4.heap.size := (Array.getElem?_eq_some_iff.1 hl4).1
        rcases hcase with ⟨rfl, hi4⟩ | ⟨rfl, hi4⟩
        · have her := run_endRound (P := P) none hl4
          simp only [Option.isNone_none, if_true] at her
          have e9 : { rec .busy none with state := .ready, pending := none } = rec .ready none := by rw [hrec]
          rw [e9] at her
          have hT4 := turned_put hl4 (.loop (rec .ready none))
          exact ⟨_, _, her, .inl ⟨rfl, hIt _ _ _ hT4 hi4, World.putObj_heap_same hlt4, (World.putObj_heap_other (by omega)).trans hd4⟩, (bW3.trans hb4).trans (hT4.below (by omega))⟩
        · have her := run_endRound (P := P) (some .ret) hl4
          simp only [Option.isNone_some, Bool.false_eq_true, if_false] at her
          have e9 : { rec .busy none with state := .done, pending := some .ret } = rec .done (some .ret) := by rw [hrec]
          rw [e9] at her
          have hT4 := turned_put hl4 (.loop (rec .done (some .ret)))
          exact ⟨_, _, her, .inr ⟨rfl, hIxt _ _ _ hT4 hi4, World.putObj_heap_same hlt4, (World.putObj_heap_other (by omega)).trans hd4⟩, (bW3.trans hb4).trans (hT4.below (by omega))⟩
      | _ => exact hq.elim
    · rintro e W2 ⟨⟨v, rfl⟩, hcase, hb2⟩
      have hbb : Below n₀ w W2 := (hb1.mono hn1).trans hb2
      rcases hcase with ⟨hi, hl, hd⟩ | ⟨k, hk, hi, hl, hd⟩
      · have hst : (rec .ready none).state ≠ .busy := by rw [hrec]; simp
        have hel : (Instr.endLoop (w.heap.size + 1)).run P W2 = .ok none (W2.putObj (w.heap.size + 1) (.loop { rec .ready none with state := .exhausted })) := by
          have h := run_endLoop (P := P) hl hst
          rw [h, hrec]
        have hT := turned_put hl (.loop { rec .ready none with state := .exhausted })
        exact ⟨none, _, hel, hdone _ (hIt _ _ _ hT hi) (hbb.trans (hT.below (by omega))) ((World.putObj_heap_other (by omega)).trans hd)⟩
      · have hst : (rec .done (some .ret)).state ≠ .busy := by rw [hrec]; simp
        have hel : (Instr.endLoop (w.heap.size + 1)).run P W2 = .ok (some .ret) (W2.putObj (w.heap.size + 1) (.loop { rec .done (some .ret) with state := .exhausted })) := by
          have h := run_endLoop (P := P) hl hst
          rw [h, hrec]
        have hT := turned_put hl (.loop { rec .done (some .ret) with state := .exhausted })
        exact ⟨some .ret, _, hel, hstop k _ hk (hIxt _ _ _ hT hi) (hbb.trans (hT.below (by omega))) ((World.putObj_heap_other (by omega)).trans hd)⟩

end
end Go.Proofs.YtlfljfmhhnoinabGreat

/- What a function that tells a stream hands back. -/
namespace Go.Proofs.YtlfljfmhhnoinabGreat
open Go.RowKit

def StrRet (e : Ending) (w' : World) (lo : Nat) (ok : Bool) (p : Int) (ss : List Tab) : Prop :=
  ∃ r m d, e = .returned (.tuple #[.agg #[.int .i64 p, .slice r m d], .bool ok]) ∧ OwnU w' lo w'.heap.size r m d ss
def ansU (ok : Bool) (ss : List Tab) : List Tab := if ok then ss else []
def StrAns (e : Ending) (w' : World) (lo : Nat) (ok : Bool) (p : Int) (ss : List Tab) : Prop := StrRet e w' lo ok (ansP ok p) (ansU ok ss)
theorem StrAns.zero {e : Ending} {w' : World} {lo : Nat} {ok : Bool} {p : Int} {ss : List Tab} (h : ok = false) (he : e = .returned (.tuple #[.agg #[.int .i64 0, .slice none 0 0], .bool false])) : StrAns e w' lo ok p ss := by
  subst h
  exact ⟨none, 0, 0, he, OwnU.nil _ _⟩
/-- The first k lists as tables of q columns. -/
def tabsOf (q : Nat) (xss : List (List WRow)) (k : Nat) : List Tab := (xss.take k).map fun xs => ((q : Int), xs)
theorem tabsOf_succ (q : Nat) (xss : List (List WRow)) (k : Nat) (h : k < xss.length) : tabsOf q xss (k + 1) = tabsOf q xss k ++ [((q : Int), lat xss k)] := by
  unfold tabsOf
  rw [List.take_succ_eq_append_getElem h, List.map_append]
  simp [lat, List.getD, h]
/-- All are good. -/
def allG (q : Nat) (xss : List (List WRow)) : Bool := xss.all fun xs => goodT q xs
theorem allG_no {q : Nat} {xss : List (List WRow)} {k : Nat} (hk : k < xss.length) (h : goodT q (lat xss k) = false) : allG q xss = false := by
  unfold allG
  rw [List.all_eq_false]
  refine ⟨xss[k], List.getElem_mem hk, fun hh => ?_⟩
  rw [show lat xss k = xss[k] by simp [lat, List.getD, hk]] at h
  rw [h] at hh; cases hh
theorem allG_yes {q : Nat} {xss : List (List WRow)} (h : ∀ j, j < xss.length → goodT q (lat xss j) = true) : allG q xss = true := by
  unfold allG
  rw [List.all_eq_true]
  intro xs hx
  obtain ⟨j, hj, rfl⟩ := List.getElem_of_mem hx
  have := h j hj
  rwa [show lat xss j = xss[j] by simp [lat, List.getD, hj]] at this

end Go.Proofs.YtlfljfmhhnoinabGreat

/- Plain: what functions of streams tell. -/
namespace Go.Proofs.YtlfljfmhhnoinabGreat
open Go.RowKit

end Go.Proofs.YtlfljfmhhnoinabGreat

/- Contracts of the laws' helpers over tables in a slice and streams: szTableS, szStream, toTableS, toStream, eqTableS, eqStream. -/
namespace Go.Proofs.YtlfljfmhhnoinabGreat
open Go.RowKit

set_option maxHeartbeats 1000000 in
theorem szTableS_any (a : Option Addr) (n c : Nat) (ss : List Tab) (l : Int) (w : World) (hz : ss.length = n) (hn : n ≤ 9223372036854775807) (h0 : 0 ≤ l) (h1 : l ≤ 1048576) (ha : AtSW w a ss) :
    Calls Tryz.prog 15 #[.slice a n c, .int .i64 l] w fun e w' => e = .returned (.int .i64 (leftOf l (stot ss n))) ∧ Below w.heap.size w w' := by
  have hle := stot_len ss n (by omega)
  by_cases hb : l < n
  · have h' : l - (n : Int) < 0 := by omega
    go_enter Tryz.func15, Tryz.ntmps15
    go_wp2
    go_ret
    exact ⟨ret_int (leftOf_no (by omega)).symm, Below.refl _ _⟩
  · have h' : ¬ l - (n : Int) < 0 := by omega
    by_cases hn0 : n = 0
    · subst hn0
      have ht : stot ss 0 = 0 := rfl
      go_enter Tryz.func15, Tryz.ntmps15
      go_wp2
      refine wp_loop_rounds 1 ?_
      rw [rounds_succ]
      go_wp2
      go_ret
      exact ⟨ret_int (by rw [ht, leftOf_yes (by omega)]; omega), Below.refl _ _⟩
    · go_enter Tryz.func15, Tryz.ntmps15
      go_wp2
      go_loopw [1, 5] (fun q i wr => ∃ (k : Nat) (r : Int), k ≤ n ∧ i = .int .i64 k ∧ q = .int .i64 r ∧ 0 ≤ r ∧ r ≤ 1048576 ∧ r + stot ss k - k = l - n ∧ Below w.heap.size w wr) (fun _ i _ => n - (intOf i).toNat)
      case atStart => exact ⟨0, l - n, Nat.zero_le _, rfl, rfl, by omega, by omega, by rw [stot_zero]; omega, Below.refl _ _⟩
      case round =>
        obtain ⟨k, r, hk, rfl, rfl, hr0, hr1, hr, hbw⟩ := hrel
        by_cases hlt : k < n
        · obtain ⟨b, off, rfl, hc⟩ := (ha.below hbw).some (by omega)
          obtain ⟨a', c', hcw, hcx, hm, hat⟩ := hc k (by omega)
          have hts := stot_succ ss k (by omega)
          have htl := stot_mono ss (k + 1) n (by omega) (by omega)
          generalize tat ss k = Y at *
          obtain ⟨x, us⟩ := Y
          simp only at hcw hcx hm hat hts
          obtain ⟨m, hmm⟩ : ∃ m, us.length = m := ⟨_, rfl⟩
          rw [hmm] at hcx hm hts
          obtain ⟨T, hT⟩ : ∃ T : Nat, wtot us m = T := ⟨_, rfl⟩
          rw [hT] at hts
          have HM := Hid.mk hmm
          have HTT := Hid.mk hT
          have HR := Hid.mk hr
          have HT := Hid.mk hts
          have HL := Hid.mk htl
          have hki : (k : Int) < (n : Int) := by omega
          clear hmm hc hr hts ha htl hT
          by_cases hfit : r < T
          · go_wp2_with fail
            refine (szTable_any _ _ _ us _ _ _ HM.out hm hr0 hr1 hat).mono ?_
            rintro e w' ⟨rfl, hb'⟩
            rw [HTT.out, leftOf_no (by omega)]
            go_wp2
            go_ret
            exact ⟨ret_int (leftOf_no (by have := HR.out; have := HT.out; have := HL.out; omega)).symm, hbw.trans (hb'.mono hbw.size)⟩
          · have hd : ¬ r - (T : Int) < 0 := by omega
            go_wp2_with fail
            refine (szTable_any _ _ _ us _ _ _ HM.out hm hr0 hr1 hat).mono ?_
            rintro e w' ⟨rfl, hb'⟩
            rw [HTT.out, leftOf_yes (by omega)]
            go_wp2
            go_roundw
            case rel => exact ⟨k + 1, r - T, by omega, by go_num, rfl, by omega, by omega, by have := HR.out; have := HT.out; omega, hbw.trans (hb'.mono hbw.size)⟩
            case measure => simp [intOf]; omega
        · obtain rfl : k = n := by omega
          have HR := Hid.mk hr
          clear hr
          go_wp2
          go_ret
          exact ⟨ret_int (by have := HR.out; rw [leftOf_yes (by omega)]; omega), hbw⟩

theorem szStream_any (a : Option Addr) (n c : Nat) (ts : List Tab) (p l : Int) (w : World) (hz : ts.length = n) (hn : n ≤ 9223372036854775807) (h0 : 0 ≤ l) (h1 : l ≤ 1048576) (ha : AtSW w a ts) :
    Calls Tryz.prog 4 #[.agg #[.int .i64 p, .slice a n c], .int .i64 l] w fun e w' => e = .returned (.int .i64 (leftOf l (stot ts n))) ∧ Below w.heap.size w w' := by
  have HA := ha.alloc (.cells #[.int .i64 p, .slice a n c] 24)
  clear ha
  by_cases h : l < stot ts n
  · go_enter Tryz.func4, Tryz.ntmps4
    go_wp2_with fail
    refine (szTableS_any _ _ _ ts _ _ hz hn h0 h1 HA).mono ?_
    rintro e w' ⟨rfl, hb⟩
    rw [leftOf_no h]
    go_wp2
    go_ret
    exact ⟨ret_int (leftOf_no h).symm, ((Below.refl _ _).alloc (Nat.le_refl _) _).trans (hb.mono (by simp))⟩
  · have h' : ¬ l - (stot ts n : Int) < 0 := by omega
    go_enter Tryz.func4, Tryz.ntmps4
    go_wp2_with fail
    refine (szTableS_any _ _ _ ts _ _ hz hn h0 h1 HA).mono ?_
    rintro e w' ⟨rfl, hb⟩
    rw [leftOf_yes (by omega)]
    go_wp2
    go_ret
    exact ⟨ret_int (leftOf_yes (by omega)).symm, ((Below.refl _ _).alloc (Nat.le_refl _) _).trans (hb.mono (by simp))⟩

theorem Tryz.infoT : (Tryz.prog.info? 48).map (fun i => (i.zero, i.size, i.bytes)) = some (some (.agg #[.int .i64 0, .slice none 0 0]), 2, 32) := by kernel_rfl

set_option maxHeartbeats 2000000 in
theorem toTableS_any (a : Option Addr) (n c : Nat) (ss : List Tab) (w : World) (hs : SmU ss n) (ha : AtSW w a ss) :
    Calls Tryz.prog 23 #[.slice a n c] w fun e w' => ∃ g, e = .returned (.slice (some ⟨g, 0, none⟩) n n) ∧ OwnU w' w.heap.size w'.heap.size (some ⟨g, 0, none⟩) n n ss ∧ Below w.heap.size w w' := by
  obtain ⟨i0, hi, hz0, hz1, hz2⟩ := info_parts Tryz.infoT
  have hz := hs.1
  have hn := hs.n
  go_enter Tryz.func23, Tryz.ntmps23
  go_wp2_with (at_make; refine wpList_make_full _ rfl _ _ 28 rfl w.heap.size 48 i0 (.agg #[.int .i64 0, .slice none 0 0]) 2 Tryz.underlying28 hi hz0 hz1 .i64 .i64 _ _ n rfl rfl rfl rfl (by rw [hz2]; omega) (by unfold maxLen; omega) (Nat.le_refl _) ?_; intro w1 hown hg)
  have hb1 : Below w.heap.size w w1 := (Below.refl _ _).grown hg (Nat.le_refl _) (by simp)
  have hlt1 := (hown.lt w.heap.size rfl).2
  have hst : OwnUk w1 w.heap.size w1.heap.size (some ⟨w.heap.size, 0, none⟩) n n ss _ (fun _ => 0) (fun _ => 0) 0 := OwnUk.start hz (Nat.le_refl _) hown (fun b hb => (hown.lt b hb).2)
  obtain ⟨cs, hcs⟩ : ∃ cs, cs = (madeCells (Value.agg #[.int .i64 0, .slice none 0 0]).cells (n * 2)).toList := ⟨_, rfl⟩
  rw [← hcs] at hst
  clear hcs hown hg
  go_loopw [4] (fun i wr => ∃ (k : Nat) (cells : List Value) (L H : Nat → Nat), k ≤ n ∧ i = .int .i64 k ∧ OwnUk wr w.heap.size wr.heap.size (some ⟨w.heap.size, 0, none⟩) n n ss cells L H k ∧ w.heap.size < wr.heap.size ∧ Below w.heap.size w wr) (fun i _ => n - (intOf i).toNat)
  case atStart => exact ⟨0, cs, _, _, Nat.zero_le _, rfl, hst, hlt1, hb1⟩
  case round =>
    clear hst hb1 hlt1 cs
    obtain ⟨k, cells, L, H, hk, rfl, ho, hzr, hbw⟩ := hrel
    by_cases hlt : k < n
    · obtain ⟨b, off, rfl, hc⟩ := (ha.below hbw).some (by omega)
      obtain ⟨a', c', hcy, hcx, _, hat⟩ := hc k (by omega)
      have hsm := hs.tab k hlt
      have hki : (k : Int) < (n : Int) := by omega
      have HO := Hid.mk ho
      obtain ⟨ys, hys⟩ : ∃ ys, ys = (tat ss k).2 := ⟨_, rfl⟩
      obtain ⟨x, hx⟩ : ∃ x, x = (tat ss k).1 := ⟨_, rfl⟩
      obtain ⟨m, hm⟩ : ∃ m, ys.length = m := ⟨_, rfl⟩
      rw [← hys, hm] at hcx hsm
      rw [← hys] at hat
      rw [← hx] at hcy
      have HYS := Hid.mk hys
      have HX := Hid.mk hx
      have HM := Hid.mk hm
      clear hys hm hx hc ha ho hs
      go_wp2_with fail
      refine (toTableG a' _ c' ys _ _ hsm hat).mono ?_
      rintro e w2 ⟨g2, rfl, ho2, hb2⟩
      have hput := HO.out.put (m := m) (c' := m) (a' := some ⟨g2, 0, none⟩) hb2 hlt (by rw [← HYS.out]; exact HM.out) HX.out.symm (Nat.le_of_lt hzr) (by rw [← HYS.out]; exact ho2)
      have hout := (HO.out.below hb2).outer
      have hln := hout.1
      obtain ⟨u, hu⟩ : ∃ u, cells[k * 2]? = some u := ⟨_, List.getElem?_eq_getElem (by omega)⟩
      obtain ⟨u', hu'⟩ : ∃ u, cells[k * 2 + 1]? = some u := ⟨_, List.getElem?_eq_getElem (by omega)⟩
      have hco : w2.cell? ⟨w.heap.size, k * 2, none⟩ = some u := (hout.cellAt _ (by omega)).trans hu
      have hco' : w2.cell? ⟨w.heap.size, k * 2 + 1, none⟩ = some u' := (hout.cellAt _ (by omega)).trans hu'
      have hfo : w2.frozen? ⟨w.heap.size, k * 2, none⟩ = false := hout.frozenAt _
      have hfo' : w2.frozen? ⟨w.heap.size, k * 2 + 1, none⟩ = false := hout.frozenAt _
      have HP := Hid.mk hput
      have z2 := hb2.size
      have HB : Hid (Below w.heap.size w ((w2.setCell ⟨w.heap.size, k * 2, none⟩ (.int .i64 x)).setCell ⟨w.heap.size, k * 2 + 1, none⟩ (.slice (some ⟨g2, 0, none⟩) m m))) := ((hbw.trans (hb2.mono hbw.size)).setCell (Nat.le_refl _) _).setCell (Nat.le_refl _) _
      clear hput hout hln hu hu' hb2 hbw ho2 hcx hcy hat
      go_wp2
      go_roundw
      case rel => exact ⟨k + 1, _, _, _, by omega, by go_num, by simpa [World.setCell] using HP.out, by simp [World.setCell]; omega, HB.out⟩
      case measure => simp [intOf]; omega
    · obtain rfl : k = n := by omega
      go_wp2
      go_ret
      exact ⟨_, rfl, ⟨_, _, _, ho⟩, hbw⟩

theorem toStreamG (a : Option Addr) (n c : Nat) (ss : List Tab) (p : Int) (w : World) (hs : SmU ss n) (ha : AtSW w a ss) :
    Calls Tryz.prog 7 #[.agg #[.int .i64 p, .slice a n c]] w fun e w' => ∃ g, e = .returned (.agg #[.int .i64 p, .slice (some ⟨g, 0, none⟩) n n]) ∧ OwnU w' w.heap.size w'.heap.size (some ⟨g, 0, none⟩) n n ss ∧ Below w.heap.size w w' := by
  go_enter Tryz.func7, Tryz.ntmps7
  go_wp2_with fail
  refine (toTableS_any _ _ _ ss _ hs ?_).mono ?_
  · exact ((ha.alloc _).alloc _).alloc _
  · rintro e w' ⟨g, rfl, hown, hb⟩
    obtain ⟨hc, hf⟩ := bcell hb
    have hz' : w.heap.size + 2 < w'.heap.size := by have := hb.size; simp at this; omega
    simp only [World.size_alloc] at hc hf
    go_wp2
    have ho := ((hown.setCell (a0 := ⟨w.heap.size + 1 + 1, 1, none⟩) (.inl (by simp)) (.slice (some ⟨g, 0, none⟩) n n)).setCell (a0 := ⟨w.heap.size + 1, 0, none⟩) (.inl (by simp)) (.int .i64 p)).setCell (a0 := ⟨w.heap.size + 1, 1, none⟩) (.inl (by simp)) (.slice (some ⟨g, 0, none⟩) n n)
    refine bodyPost_ret (v := .agg #[.int .i64 p, .slice (some ⟨g, 0, none⟩) n n]) (by simp [results, Tryz.results7, go_sem, hc]) rfl ⟨_, rfl, ho.widen (by simp; omega) (by simp [World.setCell]) (Nat.le_refl _), ?_⟩
    exact (((((((Below.refl _ _).alloc (Nat.le_refl _) _).alloc (by simp) _).alloc (by simp; omega) _).trans (hb.mono (by simp; omega))).setCell (by simp; omega) _).setCell (by simp) _).setCell (by simp) _

set_option maxHeartbeats 2000000 in
theorem eqTableS_any (a a' : Option Addr) (n c c' : Nat) (ss : List Tab) (w : World) (hs : SmU ss n) (ha : AtSW w a ss) (ha' : AtSW w a' ss) :
    Calls Tryz.prog 30 #[.slice a n c, .slice a' n c'] w fun e w' => e = .returned (.bool true) ∧ Below w.heap.size w w' := by
  have hz := hs.1
  have hn := hs.n
  by_cases h0 : n = 0
  · subst h0
    go_enter Tryz.func30, Tryz.ntmps30
    go_wp2
    refine wp_loop_rounds 1 ?_
    rw [rounds_succ]
    go_wp2
    go_ret
    exact ⟨rfl, Below.refl _ _⟩
  · go_enter Tryz.func30, Tryz.ntmps30
    go_wp2
    go_loopw [5] (fun i wr => ∃ (k : Nat), k ≤ n ∧ i = .int .i64 k ∧ Below w.heap.size w wr) (fun i _ => n - (intOf i).toNat)
    case atStart => exact ⟨0, Nat.zero_le _, rfl, Below.refl _ _⟩
    case round =>
      obtain ⟨k, hk, rfl, hbw⟩ := hrel
      by_cases hlt : k < n
      · obtain ⟨b, off, rfl, hc⟩ := (ha.below hbw).some (by omega)
        obtain ⟨b', off', rfl, hc'⟩ := (ha'.below hbw).some (by omega)
        obtain ⟨q, d, hwx, hcx, _, hat⟩ := hc k (by omega)
        obtain ⟨q', d', hwy, hcy, _, hat'⟩ := hc' k (by omega)
        have hsm := hs.tab k hlt
        generalize tat ss k = Y at *
        obtain ⟨x, us⟩ := Y
        simp only at hcx hcy hwx hwy hat hat' hsm
        obtain ⟨m, hmm⟩ : ∃ m, us.length = m := ⟨_, rfl⟩
        rw [hmm] at hcx hcy hsm
        have HM := Hid.mk hmm
        have hki : (k : Int) < (n : Int) := by omega
        clear hc hc' hmm ha ha' hs
        go_wp2_with fail
        go_region_held3 (fun w' => w'.cell? ⟨b, off + k * 2, none⟩ = some (.int .i64 x) ∧ w'.cell? ⟨b, off + k * 2 + 1, none⟩ = some (.slice q m d) ∧ w'.cell? ⟨b', off' + k * 2, none⟩ = some (.int .i64 x) ∧ w'.cell? ⟨b', off' + k * 2 + 1, none⟩ = some (.slice q' m d')) (refine ⟨?_, ?_, ?_, ?_⟩ <;> assumption)
          (first | (go_at_call 57; refine (eqTableG _ _ _ _ _ us _ _ hsm hat.drew hat'.drew).mono ?_; rintro e w2 ⟨rfl, hb2⟩; have e1 := cell_later hb2 hcx; have e2 := cell_later hb2 hcy; have e3 := cell_later hb2 hwx; have e4 := cell_later hb2 hwy))
        go_wp2
        go_roundw
        case rel => exact ⟨k + 1, by omega, by go_num, hbw.drew.trans (hb2.mono hbw.size)⟩
        case measure => simp [intOf]; omega
      · go_wp2
        go_ret
        exact ⟨rfl, hbw⟩

set_option maxHeartbeats 1000000 in
theorem eqStreamG (a a' : Option Addr) (n c c' : Nat) (ss : List Tab) (p : Int) (w : World) (hs : SmU ss n) (ha : AtSW w a ss) (ha' : AtSW w a' ss) :
    Calls Tryz.prog 10 #[.agg #[.int .i64 p, .slice a n c], .agg #[.int .i64 p, .slice a' n c']] w fun e w' => e = .returned (.bool true) ∧ Below w.heap.size w w' := by
  obtain ⟨W, hW⟩ : ∃ W, W = (w.alloc (.cells #[.int .i64 p, .slice a n c] 30)).alloc (.cells #[.int .i64 p, .slice a' n c'] 30) := ⟨_, rfl⟩
  have B : Below w.heap.size w W := by rw [hW]; exact ((Below.refl _ _).alloc (Nat.le_refl _) _).alloc (by simp) _
  have HA : AtSW W a ss := ha.below B
  have HA' : AtSW W a' ss := ha'.below B
  clear ha ha'
  go_enter Tryz.func10, Tryz.ntmps10
  go_wp2_with fail
  rw [← hW]
  clear hW
  refine (eqTableS_any _ _ _ _ _ ss _ hs HA HA').mono ?_
  rintro e w1 ⟨rfl, hb⟩
  clear HA HA'
  go_wp2
  go_ret
  exact ⟨rfl, B.trans (hb.mono B.size)⟩

end Go.Proofs.YtlfljfmhhnoinabGreat

/- Contracts of the laws' helpers that mark streams: markTableS, markStream, heldTableS, heldStream. -/
namespace Go.Proofs.YtlfljfmhhnoinabGreat
open Go.RowKit

set_option maxHeartbeats 2000000 in
theorem markTableS_any (lo hi : Nat) (a : Option Addr) (n c : Nat) (ss : List Tab) (m : Int) (w : World) (hs : SmU ss n) (h0 : 0 ≤ m) (h1 : m ≤ 134217728) (ho : OwnU w lo hi a n c ss) :
    Calls Tryz.prog 32 #[.slice a n c, .int .i64 m] w fun e w' => e = .returned (.int .i64 (m + stot ss n)) ∧ OwnU w' lo hi a n c (markU m ss) ∧ Apart lo hi w w' := by
  obtain ⟨cells, L, H, ho⟩ := ho
  have hz := hs.1
  have hn := hs.n
  have ht := hs.2
  by_cases hn0 : n = 0
  · subst hn0
    obtain rfl := List.eq_nil_of_length_eq_zero hz
    go_enter Tryz.func32, Tryz.ntmps32
    go_wp2
    refine wp_loop_rounds 1 ?_
    rw [rounds_succ]
    go_wp2
    go_ret
    exact ⟨ret_int (by simp [stot]), ⟨cells, L, H, ho⟩, Apart.refl _ _ _⟩
  · obtain ⟨g, hgv⟩ : ∃ g, a = some ⟨g, 0, none⟩ := by
      rcases ho.outer.2 with ⟨_, h⟩ | ⟨g, cap, cur, hv, _⟩
      · omega
      · simp only [Value.slice.injEq, true_and] at hv
        exact ⟨g, hv.1⟩
    subst hgv
    have ho0 : OwnUk w lo hi (some ⟨g, 0, none⟩) n c (mixU m ss 0) cells L H n := by rw [mixU_zero]; exact ho
    clear ho
    go_enter Tryz.func32, Tryz.ntmps32
    go_wp2
    go_loopw [1, 5] (fun q i wr => ∃ (k : Nat) (cells : List Value), k ≤ n ∧ i = .int .i64 k ∧ q = .int .i64 (m + stot ss k) ∧ OwnUk wr lo hi (some ⟨g, 0, none⟩) n c (mixU m ss k) cells L H n ∧ Apart lo hi w wr) (fun _ i _ => n - (intOf i).toNat)
    case atStart => exact ⟨0, cells, Nat.zero_le _, rfl, by simp [stot_zero], ho0, Apart.refl _ _ _⟩
    case round =>
      clear ho0 cells
      obtain ⟨k, cells, hk, rfl, rfl, ho, hap⟩ := hrel
      by_cases hlt : k < n
      · obtain ⟨a', c', k1, k2, k3⟩ := ho.row k hlt
        rw [mixU_at m ss k k (by omega), if_neg (by omega)] at k1 k2 k3
        have hsm := hs.tab k hlt
        have hts := stot_succ ss k (by omega)
        have htm := stot_mono ss (k + 1) n (by omega) (by omega)
        have hout := ho.outer
        have hln := hout.1
        have hw := ho.within k hlt
        have hgo := ho.out k hlt g rfl
        have hgl := ho.blocks g rfl
        have HO := Hid.mk ho
        obtain ⟨us, hus⟩ : ∃ us, (tat ss k).2 = us := ⟨_, rfl⟩
        rw [hus] at k2 k3 hsm hts
        obtain ⟨l, hl⟩ : ∃ l, us.length = l := ⟨_, rfl⟩
        rw [hl] at k2 k3 hsm hts
        obtain ⟨T, hT⟩ : ∃ T : Nat, stot ss k = T := ⟨_, rfl⟩
        obtain ⟨v, hv⟩ : ∃ v : Int, m + (T : Int) = v := ⟨_, rfl⟩
        have hb1 : v + 1 ≤ 268435456 := by omega
        have hb0 : 0 ≤ v + 1 := by omega
        have hw0 : -9223372036854775808 ≤ v := by omega
        have hcx : wr.cell? ⟨g, k * 2 + 1, none⟩ = some (.slice a' l c') := (hout.cellAt _ (by omega)).trans k2
        have hco : wr.cell? ⟨g, k * 2, none⟩ = some (.int .i64 (tat ss k).1) := (hout.cellAt _ (by omega)).trans k1
        have hfo : wr.frozen? ⟨g, k * 2, none⟩ = false := hout.frozenAt _
        have HK := Hid.mk k2
        have HUS := Hid.mk hus
        have HL := Hid.mk hl
        have HT := Hid.mk hT
        have HV := Hid.mk hv
        have HTS := Hid.mk hts
        have HAP := Hid.mk hap
        rw [hT, hv]
        have hki : (k : Int) < (n : Int) := by omega
        have hO1 : OwnT (wr.setCell ⟨g, k * 2, none⟩ (.int .i64 v)) (L k) (H k) a' l c' us := k3.setCell (a0 := ⟨g, k * 2, none⟩) hgo _
        have hcx1 : (wr.setCell ⟨g, k * 2, none⟩ (.int .i64 v)).cell? ⟨g, k * 2 + 1, none⟩ = some (.slice a' l c') := by
          have := ((hout.stored (k * 2) (.int .i64 v)).1.cellAt (k * 2 + 1) (by omega))
          rw [this, List.getElem?_set_ne (by omega)]; exact k2
        clear k1 k2 hus hl hT hts htm hap ho hout hv
        go_wp2_with fail
        refine (markWeightedSG (L k) (H k) _ _ _ us _ _ hsm hb0 hb1 hO1).mono ?_
        rintro e w2 ⟨rfl, hr2, hg2⟩
        have hmk := HO.out.marked (m := m) (ss := ss) (v := v) (by have := HO.out.len; rwa [mixU_length] at this) hlt (by rw [HUS.out]; exact HL.out) (by rw [HT.out]; exact HV.out) HK.out (by rw [HUS.out]; exact hr2) hg2
        have HM := Hid.mk hmk
        have hA1 : Apart lo hi wr (wr.setCell ⟨g, k * 2, none⟩ (.int .i64 v)) := Apart.grown (row := some g) ⟨rfl, rfl, rfl, by simp [World.setCell], fun j _ hn => Below.heap_setCell _ _ _ j (fun e => hn (by rw [e]))⟩ (fun b hb => by simp at hb; omega)
        have HA : Hid (Apart lo hi w w2) := (HAP.out.trans hA1).trans (hg2.widen hw.1 hw.2)
        clear hmk hr2 hg2 k3 hcx HO HK hO1 hcx1 hco hA1
        go_wp2
        go_roundw
        case rel => exact ⟨k + 1, _, by omega, by go_num, by have := HTS.out; have := HT.out; have := HV.out; go_num, HM.out, HA.out⟩
        case measure => simp [intOf]; omega
      · obtain rfl : k = n := by omega
        have ho' : OwnUk wr lo hi (some ⟨g, 0, none⟩) k c (markU m ss) cells L H k := by
          rw [← mixU_all, hz]; exact ho
        go_wp2
        go_ret
        exact ⟨rfl, ⟨cells, L, H, ho'⟩, hap⟩

theorem markStreamG (lo hi : Nat) (a : Option Addr) (n c : Nat) (ss : List Tab) (p m : Int) (w : World) (hs : SmU ss n) (h0 : 0 ≤ m) (h1 : m ≤ 134217728) (ho : OwnU w lo hi a n c ss) :
    Calls Tryz.prog 12 #[.agg #[.int .i64 p, .slice a n c], .int .i64 m] w fun e w' => e = .returned (.int .i64 (m + stot ss n)) ∧ OwnU w' lo hi a n c (markU m ss) ∧ Apart lo hi w w' := by
  have HO := ho.below ((Below.refl w.heap.size w).alloc (Nat.le_refl _) (.cells #[.int .i64 p, .slice a n c] 30))
  have hAp : Apart lo hi w (w.alloc (.cells #[.int .i64 p, .slice a n c] 30)) := Apart.grown (World.grownBy_alloc w _ none) (fun k hk => by cases hk)
  clear ho
  go_enter Tryz.func12, Tryz.ntmps12
  go_wp2_with fail
  refine (markTableS_any lo hi _ _ _ ss _ _ hs h0 h1 HO).mono ?_
  rintro e w1 ⟨rfl, ho1, hap⟩
  go_wp2
  go_ret
  exact ⟨rfl, ho1, hAp.trans hap⟩

set_option maxHeartbeats 2000000 in
theorem heldTableS_any (a : Option Addr) (n c : Nat) (ss : List Tab) (m : Int) (w : World) (hs : SmU ss n) (h0 : 0 ≤ m) (h1 : m ≤ 134217728) (ha : AtSW w a (markU m ss)) :
    Calls Tryz.prog 34 #[.slice a n c, .int .i64 m] w fun e w' => e = .returned (.int .i64 (m + stot ss n)) ∧ Below w.heap.size w w' := by
  have hz := hs.1
  have hn := hs.n
  have ht := hs.2
  by_cases hn0 : n = 0
  · subst hn0
    obtain rfl := List.eq_nil_of_length_eq_zero hz
    go_enter Tryz.func34, Tryz.ntmps34
    go_wp2
    refine wp_loop_rounds 1 ?_
    rw [rounds_succ]
    go_wp2
    go_ret
    exact ⟨ret_int (by simp [stot]), Below.refl _ _⟩
  · go_enter Tryz.func34, Tryz.ntmps34
    go_wp2
    go_loopw [1, 5] (fun q i wr => ∃ (k : Nat), k ≤ n ∧ i = .int .i64 k ∧ q = .int .i64 (m + stot ss k) ∧ Below w.heap.size w wr) (fun _ i _ => n - (intOf i).toNat)
    case atStart => exact ⟨0, Nat.zero_le _, rfl, by simp [stot_zero], Below.refl _ _⟩
    case round =>
      obtain ⟨k, hk, rfl, rfl, hbw⟩ := hrel
      by_cases hlt : k < n
      · obtain ⟨b, off, rfl, hc⟩ := (ha.below hbw).some (by rw [markU_length]; omega)
        obtain ⟨q, d, hwx, hcx, _, hat⟩ := hc k (by rw [markU_length]; omega)
        rw [markU_at m ss k (by omega)] at hcx hwx hat
        simp only [markW_length] at hcx
        have hsm := hs.tab k hlt
        have hts := stot_succ ss k (by omega)
        have htm := stot_mono ss (k + 1) n (by omega) (by omega)
        obtain ⟨us, hus⟩ : ∃ us, (tat ss k).2 = us := ⟨_, rfl⟩
        simp only [hus] at hcx hat hsm hts
        obtain ⟨l, hl⟩ : ∃ l, us.length = l := ⟨_, rfl⟩
        rw [hl] at hcx hsm hts
        obtain ⟨T, hT⟩ : ∃ T : Nat, stot ss k = T := ⟨_, rfl⟩
        obtain ⟨v, hv⟩ : ∃ v : Int, m + (T : Int) = v := ⟨_, rfl⟩
        simp only [hT, hv] at hwx hat
        rw [hT, hv]
        have hb1 : v + 1 ≤ 268435456 := by omega
        have hb0 : 0 ≤ v + 1 := by omega
        have HT := Hid.mk hT
        have HV := Hid.mk hv
        have HTS := Hid.mk hts
        have hki : (k : Int) < (n : Int) := by omega
        have hnn : ¬ v + 1 + (wtot us l : Int) < 0 := by omega
        have hwt : wtot us l ≤ 1048576 := hsm.2
        clear hc hl hT hts htm ha hus hv
        go_wp2_with fail
        refine (heldWeightedS_any _ _ _ us _ _ hsm.1 hsm.row hsm.2 hb0 hb1 hat).mono ?_
        rintro e w2 ⟨rfl, hb2⟩
        have HB := Hid.mk (hbw.trans (hb2.mono hbw.size))
        clear hb2 hwx hcx hat hbw
        go_wp2
        go_roundw
        case rel => exact ⟨k + 1, by omega, by go_num, by have := HTS.out; have := HT.out; have := HV.out; go_num, HB.out⟩
        case measure => simp [intOf]; omega
      · obtain rfl : k = n := by omega
        go_wp2
        go_ret
        exact ⟨rfl, hbw⟩

theorem heldStreamG (a : Option Addr) (n c : Nat) (ss : List Tab) (p m : Int) (w : World) (hs : SmU ss n) (h0 : 0 ≤ m) (h1 : m ≤ 134217728) (ha : AtSW w a (markU m ss)) :
    Calls Tryz.prog 14 #[.agg #[.int .i64 p, .slice a n c], .int .i64 m] w fun e w' => e = .returned (.int .i64 (m + stot ss n)) ∧ Below w.heap.size w w' := by
  have HA := ha.alloc (.cells #[.int .i64 p, .slice a n c] 30)
  have h2 : ¬ m + (stot ss n : Int) < 0 := by omega
  have B0 : Below w.heap.size w (w.alloc (.cells #[.int .i64 p, .slice a n c] 30)) := (Below.refl _ _).alloc (Nat.le_refl _) _
  clear ha
  go_enter Tryz.func14, Tryz.ntmps14
  go_wp2_with fail
  refine (heldTableS_any _ _ _ ss _ _ hs h0 h1 HA).mono ?_
  rintro e w1 ⟨rfl, hb1⟩
  go_wp2
  go_ret
  exact ⟨rfl, B0.trans (hb1.mono B0.size)⟩

end Go.Proofs.YtlfljfmhhnoinabGreat

/- Plain: streams that are told are small. -/
namespace Go.Proofs.YtlfljfmhhnoinabGreat
open Go.RowKit

theorem stot_le {ss : List Tab} {M : Nat} (h : ∀ i, i < ss.length → wtot (tat ss i).2 (tat ss i).2.length ≤ M) : ∀ k, k ≤ ss.length → stot ss k ≤ k * (M + 1) := by
  intro k hk
  induction k with
  | zero => simp [stot_zero]
  | succ k ih =>
    have h1 := ih (by omega)
    have h2 := h k (by omega)
    rw [stot_succ ss k (by omega), Nat.add_mul]
    omega
theorem goodT_w420 {p : Int} {ts : List WRow} (h : goodT p ts = true) : wtot ts ts.length ≤ 420 := by
  have h1 := wtot_le (M := 6) (fun t ht => good_len (goodL_mem (goodL_of_goodT h) t ht).1) ts.length (Nat.le_refl _)
  have h2 := (goodT_parts h).2.1
  omega
theorem ans_smallU {ok : Bool} {ss : List Tab} (h : ok = true → ss.length ≤ 12 ∧ ∀ i, i < ss.length → ∃ p : Int, goodT p (tat ss i).2 = true) : SmU (ansU ok ss) (ansU ok ss).length := by
  refine ⟨rfl, ?_⟩
  cases ok with
  | false => simp [ansU, stot]
  | true =>
    obtain ⟨h1, h2⟩ := h rfl
    have := stot_le (M := 420) (fun i hi => by obtain ⟨p, hp⟩ := h2 i hi; exact goodT_w420 hp) ss.length (Nat.le_refl _)
    show stot ss ss.length ≤ 1048576
    omega
end Go.Proofs.YtlfljfmhhnoinabGreat
