/- Several texts of one proof, in build order: RngT, RowT, KeptR, PlainPick. -/
import Derived.Test.YtkcmlphpilggpaaM2
import Derived.Test.YtkcmlphpilggpaaM13
import Derived.Test.YtkcmlphpilggpaaM4

/- A function that hands out weighted rows until it is told no, and a range over it that returns at some row: what it promises, and the law for its caller. No Go function is spoken of here. -/
namespace Go.Proofs.Ytkcmlphpilggpaa
open Go.RowKit Go.Shelf

/-- As Hands, where yield says no at row s: then it is called no more. -/
def HandsT (P : Program) (g : Nat) (lb : Array Value) (xs : List WRow) (w : World) : Prop :=
  ∀ (n₀ l s : Nat) (J : Nat → World → Prop) (W : World), w.heap.size ≤ n₀ → n₀ ≤ W.heap.size → Below w.heap.size w W →
    (∀ k A B, Below W.heap.size A B → J k A → J k B) →
    (∀ k W1 a n c, k < xs.length → k ≤ s → J k W1 → W.heap.size ≤ W1.heap.size → (wat xs k).1.length = n → (a = none → c = 0) → At W1 a (wat xs k).1 → Far n₀ W.heap.size a (wat xs k).1 →
      YieldAt Fence.wide 0 P l #[.agg #[.slice a n c], .int .i64 (wat xs k).2] W1 fun e W' => e = .returned (.bool (decide (k < s))) ∧ J (k + 1) W' ∧ Apart n₀ W.heap.size W1 W') →
    J 0 W →
    CallsIn Fence.wide 0 P g (#[.func (.yield l) #[] #[]] ++ lb) W fun e W' => (∃ v, e = .returned v) ∧ J (min (s + 1) xs.length) W' ∧ Apart n₀ W.heap.size W W'

theorem HandsT.later {P : Program} {g : Nat} {lb : Array Value} {xs : List WRow} {w w' : World} (h : HandsT P g lb xs w) (hb : Below w.heap.size w w') : HandsT P g lb xs w' :=
  fun n₀ l s J W h1 h2 h3 hJ hY h0 => h n₀ l s J W (Nat.le_trans hb.size h1) h2 (hb.trans (h3.mono hb.size)) hJ hY h0

theorem HandsT.all {P : Program} {g : Nat} {lb : Array Value} {xs : List WRow} {w : World} (h : HandsT P g lb xs w) : Hands P g lb xs w := by
  intro n₀ l J W h1 h2 h3 hJ hY h0
  have := h n₀ l xs.length J W h1 h2 h3 hJ (fun k W1 a n c hk _ hj hs hn hnil hat hfar => by rw [decide_eq_true hk]; exact hY k W1 a n c hk hj hs hn hnil hat hfar) h0
  rw [Nat.min_eq_right (Nat.le_succ _)] at this
  exact this

theorem outW_step (g : WRow → Option WRow) (xs : List WRow) {k : Nat} (hk : k < xs.length) : (g (wat xs k) = none ∧ outW g xs (k + 1) = outW g xs k) ∨ ((∃ t, g (wat xs k) = some t) ∧ outW g xs (k + 1) = outW g xs k + 1) := by
  cases hg : g (wat xs k) with
  | none => exact .inl ⟨rfl, outW_none hk hg⟩
  | some v => exact .inr ⟨⟨v, rfl⟩, (outW_some hk hg).1⟩
theorem outW_up (g : WRow → Option WRow) (xs : List WRow) {k : Nat} : ∀ {j : Nat}, k ≤ j → j ≤ xs.length → outW g xs k ≤ outW g xs j
  | 0, h, _ => by obtain rfl : k = 0 := by omega
                  exact Nat.le_refl _
  | j + 1, h, hj => by
    rcases Nat.lt_or_ge j k with h1 | h1
    · obtain rfl : k = j + 1 := by omega
      exact Nat.le_refl _
    · have h2 := outW_up g xs h1 (by omega)
      rcases outW_step g xs (k := j) (by omega) with ⟨_, e⟩ | ⟨_, e⟩ <;> omega

/-- Where a no at the s-th row that is passed on says no to the row behind it. -/
theorem stop_at (g : WRow → Option WRow) (xs : List WRow) (s : Nat) : ∃ s', (∀ k, k < xs.length → k ≤ s' → (∀ t, g (wat xs k) = some t → outW g xs k ≤ s ∧ (decide (outW g xs k < s) = decide (k < s'))) ∧ (g (wat xs k) = none → k < s')) ∧ outW g xs (min (s' + 1) xs.length) = min (s + 1) (xs.filterMap g).length := by
  have hex : ∀ n, n ≤ xs.length → ∃ m, m ≤ n ∧ outW g xs m ≤ s ∧ (m < n → s < outW g xs (m + 1)) := by
    intro n
    induction n with
    | zero => exact fun _ => ⟨0, Nat.le_refl _, by rw [outW_zero]; omega, fun h => by omega⟩
    | succ n ih =>
      intro hn
      obtain ⟨m, hm, h1, h2⟩ := ih (by omega)
      by_cases hlt : m < n
      · exact ⟨m, by omega, h1, fun _ => h2 hlt⟩
      · obtain rfl : m = n := by omega
        by_cases hs : outW g xs (m + 1) ≤ s
        · exact ⟨m + 1, Nat.le_refl _, hs, fun h => by omega⟩
        · exact ⟨m, by omega, h1, fun _ => by omega⟩
  obtain ⟨m, hm, h1, h2⟩ := hex xs.length (Nat.le_refl _)
  refine ⟨m, fun k hk hkm => ⟨fun t ht => ?_, fun hno => ?_⟩, ?_⟩
  · have hu := outW_up g xs hkm hm
    refine ⟨by omega, ?_⟩
    have e1 := (outW_some hk ht).1
    by_cases hlt : k < m
    · have hv := outW_up g xs (show k + 1 ≤ m from hlt) hm
      rw [decide_eq_true hlt, decide_eq_true (by omega)]
    · obtain rfl : k = m := by omega
      have := h2 hk
      rw [decide_eq_false (by omega), decide_eq_false (by omega)]
  · refine Nat.lt_of_le_of_ne hkm fun e => ?_
    subst e
    have := h2 hk
    rw [outW_none hk hno] at this
    omega
  · by_cases hlt : m < xs.length
    · have h3 := h2 hlt
      have h4 := outW_up g xs (show m + 1 ≤ xs.length from hlt) (Nat.le_refl _)
      rw [outW_all] at h4
      rw [Nat.min_eq_left (show m + 1 ≤ xs.length from hlt), Nat.min_eq_left (show s + 1 ≤ (xs.filterMap g).length by omega)]
      rcases outW_step g xs hlt with ⟨_, e⟩ | ⟨_, e⟩ <;> omega
    · obtain rfl : m = xs.length := by omega
      rw [outW_all] at h1
      rw [Nat.min_eq_right (Nat.le_succ _), outW_all, Nat.min_eq_right (by omega)]

section
variable {P : Program} {Q : Exit → Act → World → Prop}

/-- How a round ends: it goes on, or, at row s, returns. -/
def exitT (s k : Nat) : Exit := if k < s then .normal else .ret
theorem exitT_on {s k : Nat} (h : k < s) : exitT s k = .normal := if_pos h
theorem exitT_off {s k : Nat} (h : ¬ k < s) : exitT s k = .ret := if_neg h

/-- How a round is walked: the assignments, then the body, which goes on, or returns at row s. -/
def RoundWalkT (P : Program) (s : Nat) (xs : List WRow) (p0 p1 : Tmp) (assign body : Code) (tmps : Array Value) (I : Nat → World → Prop) (n₀ N : Nat) : Prop :=
  ∀ (l k : Nat) (W1 : World) (b : Option Addr) (n c : Nat), N ≤ l → k < xs.length → k ≤ s → I k W1 → N ≤ W1.heap.size → (∃ r, W1.heap[l]? = some (.loop r)) → (wat xs k).1.length = n → (b = none → c = 0) → At W1 b (wat xs k).1 → Far n₀ N b (wat xs k).1 →
    assign.wpIn (Fence.wide.inRound l) 0 P (Exit.then (fun a' W2 => Below W1.heap.size W1 W2 ∧ ∀ W3, Turned l W2 W3 → (∃ r, W3.heap[l]? = some (.loop r)) →
      body.wpIn (Fence.wide.inRound l) 0 P (fun e _ W4 => e = exitT s k ∧ I (k + 1) W4 ∧ Apart n₀ N W3 W4) a' W3) (fun _ _ _ => False))
      { tmps := (tmps.setIfInBounds p0 (.agg #[.slice b n c])).setIfInBounds p1 (.int .i64 (wat xs k).2), defers := [] } W1

theorem round_coreT {s : Nat} {xs : List WRow} {p0 p1 : Tmp} {assign body : Code} {a : Act} {I : Nat → World → Prop} {n₀ N l N' : Nat} {fn : FuncId} {D : Nat} {o : Obj} (hNl : N ≤ l) (hlN : l < N') (hDl : D ≠ l) (hND : N ≤ D) (hDN : D < N') (_hn₀ : n₀ ≤ N)
    (rec : LoopState → Option Code → Loop) (hrec : ∀ s j, (rec s j).params = #[p0, p1] ∧ (rec s j).tmps = a.tmps ∧ (rec s j).fn = fn ∧ (rec s j).assign = assign ∧ (rec s j).body = body ∧ (rec s j).state = s ∧
      (∀ s', { rec s j with state := s' } = rec s' j) ∧ (∀ s' j', { rec s j with state := s', pending := j' } = rec s' j'))
    (hI : ∀ k A B, Below N A B → I k A → I k B) (hround : RoundWalkT P s xs p0 p1 assign body a.tmps I n₀ N)
    (k : Nat) (W : World) (b : Option Addr) (n c : Nat) (hk : k < xs.length) (hks : k ≤ s) (hJ : I k W ∧ W.heap[l]? = some (.loop (rec .ready none)) ∧ W.heap[D]? = some o) (hsz : N' ≤ W.heap.size) (hn : (wat xs k).1.length = n) (hnil : b = none → c = 0) (hat : At W b (wat xs k).1) (hfar : Far n₀ N' b (wat xs k).1) :
    YieldAt Fence.wide 0 P l #[.agg #[.slice b n c], .int .i64 (wat xs k).2] W fun e W' => e = .returned (.bool (decide (k < s))) ∧ (I (k + 1) W' ∧ W'.heap[l]? = some (.loop (if k < s then rec .ready none else rec .done (some .ret))) ∧ W'.heap[D]? = some o) ∧ Apart n₀ N' W W' := by
  obtain ⟨hi, hl, hd⟩ := hJ
  obtain ⟨h1, h2, h3, h4, h5, _, h7, h8⟩ := hrec .ready none
  have hy := run_yield (P := P) (args := #[.agg #[.slice b n c], .int .i64 (wat xs k).2]) hl (by rw [h1]; rfl)
  rw [h1, h2, h3, h4, h5] at hy
  refine ⟨fn, _, assign, body, hy, roundIn_of_wpIn trivial ?_⟩
  clear hy
  rw [zip_two]
  refine wpIn_mono (hround l k W b n c hNl hk hks hi (by omega) ⟨_, hl⟩ hn hnil hat (hfar.mono (by omega))) ?_
  intro e a' W2 hq
  cases e with
  | normal =>
    obtain ⟨hb2, hbody⟩ := hq
    have hl2 : W2.heap[l]? = some (.loop (rec .ready none)) := (hb2.block l (by omega)).trans hl
    have hd2 : W2.heap[D]? = some o := (hb2.block D (by omega)).trans hd
    have hbr := run_beginRound (P := P) hl2 (hrec .ready none).2.2.2.2.2.1
    rw [h7 .busy] at hbr
    refine ⟨_, hbr, ?_⟩
    have hlt2 : l < W2.heap.size := by have := hb2.size; omega
    have hT := turned_put hl2 (.loop (rec .busy none))
    have hl3 : (W2.putObj l (.loop (rec .busy none))).heap[l]? = some (.loop (rec .busy none)) := World.putObj_heap_same hlt2
    have hd3 : (W2.putObj l (.loop (rec .busy none))).heap[D]? = some o := (World.putObj_heap_other hDl).trans hd2
    refine wpIn_mono (hbody _ hT ⟨_, hl3⟩) ?_
    intro e' a'' W4 hq'
    obtain ⟨rfl, hi4, hap⟩ := hq'
    have hs3 : (W2.putObj l (.loop (rec .busy none))).heap.size = W2.heap.size := hT.size
    have hl4 : W4.heap[l]? = some (.loop (rec .busy none)) := (hap.block l (by omega) (.inr hNl)).trans hl3
    have hd4 : W4.heap[D]? = some o := (hap.block D (by have := hb2.size; omega) (.inr hND)).trans hd3
    by_cases hon : k < s
    · rw [exitT_on hon, decide_eq_true hon, if_pos hon]
      have her := run_endRound (P := P) none hl4
      have e9 := (hrec .busy none).2.2.2.2.2.2.2
      simp only [Option.isNone_none, if_true] at her
      rw [e9 .ready none] at her
      have hT4 := turned_put hl4 (.loop (rec .ready none))
      have hlt4 : l < W4.heap.size := (Array.getElem?_eq_some_iff.1 hl4).1
      refine ⟨_, _, her, rfl, ⟨hI _ _ _ (hT4.below hNl) hi4, World.putObj_heap_same hlt4, (World.putObj_heap_other hDl).trans hd4⟩, ?_⟩
      refine ⟨hT4.grown.os.trans (hap.os.trans (hT.grown.os.trans hb2.os)), hT4.grown.tape.trans (hap.tape.trans (hT.grown.tape.trans hb2.tape)), hT4.grown.output.trans (hap.output.trans (hT.grown.output.trans hb2.output)), ?_, fun j hj hc => ?_⟩
      · have := hb2.size; have := hap.size; have := hT4.grown.size; omega
      · have hjl : j ≠ l := by omega
        have z2 := hb2.size
        have z4 := hap.size
        rw [hT4.grown.block j (by omega) (fun e => hjl (by simpa using e)), hap.block j (by omega) (by omega), hT.grown.block j (by omega) (fun e => hjl (by simpa using e)), hb2.block j hj]
    · rw [exitT_off hon, decide_eq_false hon, if_neg hon]
      have her := run_endRound (P := P) (some .ret) hl4
      have e9 := (hrec .busy none).2.2.2.2.2.2.2
      simp only [Option.isNone_some, Bool.false_eq_true, if_false] at her
      rw [e9 .done (some .ret)] at her
      have hT4 := turned_put hl4 (.loop (rec .done (some .ret)))
      have hlt4 : l < W4.heap.size := (Array.getElem?_eq_some_iff.1 hl4).1
      refine ⟨_, _, her, rfl, ⟨hI _ _ _ (hT4.below hNl) hi4, World.putObj_heap_same hlt4, (World.putObj_heap_other hDl).trans hd4⟩, ?_⟩
      refine ⟨hT4.grown.os.trans (hap.os.trans (hT.grown.os.trans hb2.os)), hT4.grown.tape.trans (hap.tape.trans (hT.grown.tape.trans hb2.tape)), hT4.grown.output.trans (hap.output.trans (hT.grown.output.trans hb2.output)), ?_, fun j hj hc => ?_⟩
      · have := hb2.size; have := hap.size; have := hT4.grown.size; omega
      · have hjl : j ≠ l := by omega
        have z2 := hb2.size
        have z4 := hap.size
        rw [hT4.grown.block j (by omega) (fun e => hjl (by simpa using e)), hap.block j (by omega) (by omega), hT.grown.block j (by omega) (fun e => hjl (by simpa using e)), hb2.block j hj]
  | _ => exact hq.elim

/-- **A range over such a function**, in a function's own body, that may return at row s. -/
theorem range_handsT {s : Nat} {g : Operand} {p0 p1 : Tmp} {assign body : Code} {a : Act} {w w0 : World} {gf : Nat} {lb : Array Value} {xs : List WRow} (hg : a.eval g = .func (.func gf) #[] lb) (eg : ∀ args w, (callFunc gf args).run P w = .ok (.enter gf args) w)
    (hH : HandsT P gf lb xs w0) (hw : Below w0.heap.size w0 w) (n₀ : Nat) (hn0 : w0.heap.size ≤ n₀) (hn1 : n₀ ≤ w.heap.size) (I : Nat → World → Prop) (hI : ∀ k A B, Below w.heap.size A B → I k A → I k B) (h0 : I 0 w)
    (hround : RoundWalkT P s xs p0 p1 assign body a.tmps I n₀ w.heap.size)
    (hdone : ∀ D W, w.heap.size ≤ D → I (min (s + 1) xs.length) W → Apart n₀ w.heap.size w W → W.heap[D]? = some (.deferred (some [])) → Q (if s < xs.length then .ret else .normal) { a with defers := { target := .collected D, args := #[] } :: a.defers } W) :
    (Code.rangeFunc g #[p0, p1] assign body).wpIn Fence.wide 0 P Q a w := by
  refine wpIn_rangeFunc ?_
  intro fn _
  obtain ⟨rec, hrec⟩ : ∃ rec : LoopState → Option Code → Loop, rec = fun st pe => { state := st, pending := pe, fn, tmps := a.tmps, params := #[p0, p1], assign, body, defers := w.heap.size } := ⟨_, rfl⟩
  obtain ⟨W1, hW1⟩ : ∃ W1, W1 = (w.alloc (.deferred (some []))).alloc (.loop (rec .ready none)) := ⟨_, rfl⟩
  have z1 : W1.heap.size = w.heap.size + 1 + 1 := by rw [hW1]; simp
  have hL : W1.heap[w.heap.size + 1]? = some (.loop (rec .ready none)) := by
    rw [hW1]; have := heap_alloc_new (w.alloc (.deferred (some []))) (.loop (rec .ready none)); rwa [World.size_alloc] at this
  have hD : W1.heap[w.heap.size]? = some (.deferred (some [])) := by
    rw [hW1]; exact (Below.heap_alloc _ _ _ (by simp)).trans (heap_alloc_new w _)
  have hb1 : Below w.heap.size w W1 := by rw [hW1]; exact ((Below.refl _ w).alloc (Nat.le_refl _) _).alloc (by simp) _
  refine ⟨w.heap.size + 1, [{ target := .collected w.heap.size, args := #[] }], W1, { target := .fn (.func gf) lb, args := #[.func (.yield (w.heap.size + 1)) #[] #[]] }, W1, gf, #[.func (.yield (w.heap.size + 1)) #[] #[]] ++ lb, W1, ?_, ?_, fun _ _ => trivial, ?_, fun h => by simp [Fence.wide] at h, ?_⟩
  · rw [hW1, hrec]; exact run_enterLoop_outer _ _ _ _ _
  · simp only [resolve, hg]
    simp [go_sem]
  · simp [invoke, go_sem, eg]
  · refine (hH n₀ (w.heap.size + 1) s (fun k W => I k W ∧ W.heap[w.heap.size + 1]? = some (.loop (if k ≤ s then rec .ready none else rec .done (some .ret))) ∧ W.heap[w.heap.size]? = some (.deferred (some []))) W1 hn0 (by omega) (hw.trans (hb1.mono hw.size))
      (fun k A B hb ⟨j1, j2, j3⟩ => ⟨hI k A B (hb.mono (by omega)) j1, (hb.block _ (by omega)).trans j2, (hb.block _ (by omega)).trans j3⟩)
      (fun k W b n c hk hks hJ hsz hn hnil hat hfar => round_coreT (N' := W1.heap.size) (by omega) (by omega) (by omega) (Nat.le_refl _) (by omega) hn1 rec (fun s j => by rw [hrec]; exact ⟨rfl, rfl, rfl, rfl, rfl, rfl, fun _ => rfl, fun _ _ => rfl⟩) hI hround k W b n c hk hks (by rw [if_pos hks] at hJ; exact hJ) hsz hn hnil hat hfar)
      ⟨hI 0 w W1 hb1 h0, by rw [if_pos (Nat.zero_le _)]; exact hL, hD⟩).mono ?_
    rintro e W2 ⟨⟨v, rfl⟩, ⟨hi, hl, hd⟩, hap⟩
    by_cases hlt : s < xs.length
    · have hm : min (s + 1) xs.length = s + 1 := Nat.min_eq_left hlt
      rw [hm] at hi hl
      rw [if_neg (show ¬ s + 1 ≤ s by omega)] at hl
      have hst : (rec .done (some .ret)).state ≠ .busy := by rw [hrec]; simp
      have hel : (Instr.endLoop (w.heap.size + 1)).run P W2 = .ok (some .ret) (W2.putObj (w.heap.size + 1) (.loop { rec .done (some .ret) with state := .exhausted })) := by
        have h := run_endLoop (P := P) hl hst
        rw [h, hrec]
      have hT := turned_put hl (.loop { rec .done (some .ret) with state := .exhausted })
      have hapf : Apart n₀ w.heap.size w (W2.putObj (w.heap.size + 1) (.loop { rec .done (some .ret) with state := .exhausted })) := ⟨hT.grown.os.trans (hap.os.trans hb1.os), hT.grown.tape.trans (hap.tape.trans hb1.tape), hT.grown.output.trans (hap.output.trans hb1.output), by have := hap.size; have := hT.grown.size; omega, fun j hj hc => by
        have z2 := hap.size
        rw [hT.grown.block j (by omega) (fun e => by simp only [Option.some.injEq] at e; omega), hap.block j (by omega) (by omega), hb1.block j (by omega)]⟩
      have hdn := hdone w.heap.size _ (Nat.le_refl _) (by rw [hm]; exact hI _ _ _ (hT.below (B := w.heap.size) (Nat.le_succ _)) hi) hapf ((World.putObj_heap_other (show w.heap.size ≠ w.heap.size + 1 by omega)).trans hd)
      refine ⟨(some .ret), _, hel, ?_⟩
      rw [if_pos hlt] at hdn
      exact wpIn_ret hdn
    · have hm : min (s + 1) xs.length = xs.length := Nat.min_eq_right (by omega)
      rw [hm] at hi hl
      rw [if_pos (show xs.length ≤ s by omega)] at hl
      have hst : (rec .ready none).state ≠ .busy := by rw [hrec]; simp
      have hel : (Instr.endLoop (w.heap.size + 1)).run P W2 = .ok none (W2.putObj (w.heap.size + 1) (.loop { rec .ready none with state := .exhausted })) := by
        have h := run_endLoop (P := P) hl hst
        rw [h, hrec]
      have hT := turned_put hl (.loop { rec .ready none with state := .exhausted })
      have hapf : Apart n₀ w.heap.size w (W2.putObj (w.heap.size + 1) (.loop { rec .ready none with state := .exhausted })) := ⟨hT.grown.os.trans (hap.os.trans hb1.os), hT.grown.tape.trans (hap.tape.trans hb1.tape), hT.grown.output.trans (hap.output.trans hb1.output), by have := hap.size; have := hT.grown.size; omega, fun j hj hc => by
        have z2 := hap.size
        rw [hT.grown.block j (by omega) (fun e => by simp only [Option.some.injEq] at e; omega), hap.block j (by omega) (by omega), hb1.block j (by omega)]⟩
      have hdn := hdone w.heap.size _ (Nat.le_refl _) (by rw [hm]; exact hI _ _ _ (hT.below (B := w.heap.size) (Nat.le_succ _)) hi) hapf ((World.putObj_heap_other (show w.heap.size ≠ w.heap.size + 1 by omega)).trans hd)
      refine ⟨none, _, hel, ?_⟩
      rw [if_neg hlt] at hdn
      exact hdn

end
end Go.Proofs.Ytkcmlphpilggpaa

/- Contracts of the functions that impl.rowsOf and impl.plainRows hand back, where yield may say no. -/
namespace Go.Proofs.Ytkcmlphpilggpaa
open Go.RowKit Go.Shelf

attribute [local go_sem] Oper.semAt_some

set_option maxRecDepth 100000 in
set_option maxHeartbeats 2000000 in
theorem rowsOf1_handsT (T : Nat) (a : Option Addr) (n c : Nat) (ts : List WRow) (w : World) (hz : ts.length = n) (hn : n ≤ 1048576) (hT : w.cell? ⟨T, 1, none⟩ = some (.slice a n c)) (ha : AtM w a ts) :
    HandsT Try.prog 101 #[.pointer (some ⟨T, 0, none⟩)] ts w := by
  intro n₀ l s J W h1 h2 hb hJ hY h0
  refine callsIn_of_wp Try.func101 rfl trivial ?_
  simp only [Try.ntmps101, List.size_toArray, List.length_cons, List.length_nil, Nat.reduceAdd, Nat.reduceSub, Array.replicate_succ, Array.replicate_zero, List.push_toArray, List.append_toArray, List.nil_append, List.cons_append]
  have hTW := cell_later hb hT
  gi_wp2
  gi_loopw [8] (fun i wr => ∃ (k : Nat), k ≤ n ∧ k ≤ s ∧ i = .int .i64 k ∧ J k wr ∧ Apart n₀ W.heap.size W wr) (fun i _ => n - (intOf i).toNat)
  case atStart => exact ⟨0, Nat.zero_le _, Nat.zero_le _, rfl, h0, Apart.refl _ _ _⟩
  case round =>
    obtain ⟨k, hk, hks, rfl, hj, hap⟩ := hrel
    by_cases hlt : k < n
    · have hbr : Below w.heap.size w wr := hb.trans (hap.below hb.size h1)
      obtain ⟨b, off, rfl, hc⟩ := ha.some (by omega)
      obtain ⟨q, dd, hcx0, hwx0, hm, hnil, hat0⟩ := hc k (by omega)
      have hfar : Far n₀ W.heap.size q (wat ts k).1 := hat0.far_low h1
      have hcx := cell_later hbr hcx0
      have hwx := cell_later hbr hwx0
      have hat := hat0.below hbr
      clear hcx0 hwx0 hat0
      have hki : (k : Int) < (n : Int) := by omega
      obtain ⟨V, hV⟩ : ∃ V, V = wr.alloc (.cells #[.slice q (wat ts k).1.length dd, .int .i64 (wat ts k).2] 99) := ⟨_, rfl⟩
      have hbV : Below wr.heap.size wr V := by rw [hV]; exact (Below.refl _ _).alloc (Nat.le_refl _) _
      have c3 : V.cell? ⟨wr.heap.size, 0, none⟩ = some (.slice q (wat ts k).1.length dd) := by rw [hV]; exact pair0 wr _ _ _
      have c4 : V.cell? ⟨wr.heap.size, 1, none⟩ = some (.int .i64 (wat ts k).2) := by rw [hV]; exact pair1 wr _ _ _
      have zV : W.heap.size ≤ V.heap.size := Nat.le_trans hap.size hbV.size
      obtain ⟨fn, tmps, assign, body, hy, hR⟩ := hY k V q _ dd (by omega) hks (hJ k wr V (hbV.mono hap.size) hj) zV rfl hnil (hat.below hbV) hfar
      have hapV : Apart n₀ W.heap.size W V := hap.trans ⟨hbV.os, hbV.tape, hbV.output, hbV.size, fun i hi _ => hbV.block i hi⟩
      generalize wat ts k = Y at *
      obtain ⟨ys, x⟩ := Y
      simp only at hcx hwx hm hat c3 c4 hy hV
      generalize ys.length = m at *
      subst hV
      gi_wp2
      refine ⟨rfl, hR.mono ?_⟩
      rintro e W3 ⟨rfl, hJ3, hap3⟩
      have HA3 := Hid.mk (hapV.trans hap3)
      have HJ3 := Hid.mk hJ3
      clear hJ3 hap3 hapV hR hy hcx hwx c3 c4 hat hap hj hc
      by_cases hon : k < s
      · rw [decide_eq_true hon]
        gi_wp2
        go_roundw
        case rel => exact ⟨k + 1, by omega, by omega, by go_num, HJ3.out, HA3.out⟩
        case measure => simp [intOf]; omega
      · rw [decide_eq_false hon]
        gi_wp2
        (try simp only [Exit.inBlock, Exit.then])
        refine bodyPost_ret (results_none rfl _ _ _) rfl ?_
        obtain rfl : k = s := by omega
        rw [hz, Nat.min_eq_left (show k + 1 ≤ n by omega)]
        exact ⟨⟨_, rfl⟩, HJ3.out, HA3.out⟩
    · obtain rfl : k = n := by omega
      gi_wp2
      go_end0
      rw [hz, Nat.min_eq_right (show k ≤ s + 1 by omega)]
      exact ⟨⟨_, rfl⟩, hj, hap⟩

set_option maxRecDepth 100000 in
set_option maxHeartbeats 4000000 in
theorem plainRows1_handsT (T gf : Nat) (lb : Array Value) (xs : List WRow) (w : World) (hT : w.cell? ⟨T, 0, none⟩ = some (.func (.func gf) #[] lb)) (eg : ∀ args w, (callFunc gf args).run Try.prog w = .ok (.enter gf args) w) (hH : HandsT Try.prog gf lb xs w) :
    HandsT Try.prog 100 #[.pointer (some ⟨T, 0, none⟩)] (xs.filterMap plainG) w := by
  intro n₀ l s J W h1 h2 hb hJ hY h0
  obtain ⟨s', hst, hend⟩ := stop_at plainG xs s
  refine callsIn_of_wp_marks Try.func100 rfl trivial ?_
  simp only [Try.ntmps100, List.size_toArray, List.length_cons, List.length_nil, Nat.reduceAdd, Nat.reduceSub, Array.replicate_succ, Array.replicate_zero, List.push_toArray, List.append_toArray, List.nil_append, List.cons_append]
  obtain ⟨W0, hW0⟩ : ∃ W0, W0 = W.alloc (.cells #[.func (.yield l) #[] #[]] 134) := ⟨_, rfl⟩
  have hbW : Below W.heap.size W W0 := by rw [hW0]; exact (Below.refl _ _).alloc (Nat.le_refl _) _
  have z0 : W0.heap.size = W.heap.size + 1 := by rw [hW0]; simp
  have hTW := cell_later hb hT
  have hTL : (W.alloc (.cells #[.func (.yield l) #[] #[]] 134)).cell? ⟨T, 0, none⟩ = some (.func (.func gf) #[] lb) := cell_later ((Below.refl _ _).alloc (Nat.le_refl _) _) hTW
  have I0 : Passing n₀ J W (fun _ _ => True) W0.heap.size plainG xs (.func (.yield l) #[] #[]) 134 0 W0 := by
    refine ⟨hJ 0 W W0 hbW h0, ?_, ⟨hbW.os, hbW.tape, hbW.output, hbW.size, fun j hj _ => hbW.block j hj⟩, Nat.le_refl _⟩
    rw [hW0]; exact heap_alloc_new W _
  gi_wp2
  rw [← hW0]
  clear hW0 hTL
  refine range_handsT (s := s') (gf := gf) (lb := lb) rfl eg hH (hb.trans (hbW.mono hb.size)) n₀ h1 (by omega) _ (fun k A B hB h => h.keep hJ (by omega) hB) I0 ?round ?done
  case round =>
    intro r k W1 b n c hr hkx hks hI hsz hrec hln hnil hat hfar
    obtain ⟨hso, hno⟩ := hst k hkx hks
    clear hst
    obtain ⟨Y, hYk⟩ : ∃ Y, Y = wat xs k := ⟨_, rfl⟩
    rw [← hYk] at hln hat hfar ⊢
    obtain ⟨ys, x⟩ := Y
    simp only at hln hat hfar
    gi_wp2
    refine ⟨(Below.refl _ _).alloc (Nat.le_refl _) _, fun W3 hT3 _ => ?_⟩
    obtain ⟨W2, hW2⟩ : ∃ W2, W2 = W1.alloc (.cells #[.slice b n c] 97) := ⟨_, rfl⟩
    have hb2 : Below W1.heap.size W1 W2 := by rw [hW2]; exact (Below.refl _ _).alloc (Nat.le_refl _) _
    have cr : W2.cell? ⟨W1.heap.size, 0, none⟩ = some (.slice b n c) := by rw [hW2]; simp
    rw [← hW2] at hT3
    clear hW2
    have hI3 := (hI.keep hJ (by omega) (hb2.mono hsz)).keep hJ (by omega) (hT3.below hr)
    have cr3 := hT3.cell cr
    have cy3 : W3.cell? ⟨W.heap.size, 0, none⟩ = some (.func (.yield l) #[] #[]) := by rw [cell_of_row W3 _ 0 _ _ (0, 0) hI3.box]; rfl
    have hat3 := hT3.at (hat.below hb2)
    clear hI hat cr hT3
    by_cases hx : 0 < x
    · have hgx : plainG (wat xs k) = some (ys, 1) := by rw [← hYk]; exact if_pos hx
      obtain ⟨o1, o2, o3⟩ := outW_some hkx hgx
      obtain ⟨hle, hdec⟩ := hso _ hgx
      obtain ⟨fn, tmps, assign, body, hy, hR⟩ := hY (outW plainG xs k) W3 b n c o2 hle hI3.told (by have := hI3.size; omega) (by rw [o3]; exact hln) hnil (by rw [o3]; exact hat3) (by rw [o3]; exact hfar.mono (by omega))
      rw [o3] at hy
      simp only at hy
      have HI3 := Hid.mk hI3
      have HO1 := Hid.mk o1
      have HDE := Hid.mk hdec
      clear hI3 o1 o3 hgx hYk hso hno hle hdec
      by_cases hon : k < s'
      · rw [HDE.out, decide_eq_true hon] at hR
        rw [exitT_on hon]
        clear HDE
        gi_wp2
        refine ⟨rfl, hR.mono ?_⟩
        rintro e W4 ⟨rfl, hJ4, hap4⟩
        have hI3 := HI3.out
        have hfin : Passing n₀ J W (fun _ _ => True) W0.heap.size plainG xs (.func (.yield l) #[] #[]) 134 (k + 1) W4 := by
          refine ⟨by rw [HO1.out]; exact hJ4, (hap4.block _ (by have := hI3.size; omega) (.inr (Nat.le_refl _))).trans hI3.box, hI3.low.trans hap4, Nat.le_trans hI3.size hap4.size⟩
        have hapf : Apart n₀ W0.heap.size W3 W4 := ⟨hap4.os, hap4.tape, hap4.output, hap4.size, fun j hj hc => hap4.block j hj (by omega)⟩
        rw [z0] at hfin hapf
        clear hI3 HI3 hJ4 hap4 hR hy
        gi_wp2
        done
      · rw [HDE.out, decide_eq_false hon] at hR
        rw [exitT_off hon]
        clear HDE
        gi_wp2
        refine ⟨rfl, hR.mono ?_⟩
        rintro e W4 ⟨rfl, hJ4, hap4⟩
        have hI3 := HI3.out
        have hfin : Passing n₀ J W (fun _ _ => True) W0.heap.size plainG xs (.func (.yield l) #[] #[]) 134 (k + 1) W4 := by
          refine ⟨by rw [HO1.out]; exact hJ4, (hap4.block _ (by have := hI3.size; omega) (.inr (Nat.le_refl _))).trans hI3.box, hI3.low.trans hap4, Nat.le_trans hI3.size hap4.size⟩
        have hapf : Apart n₀ W0.heap.size W3 W4 := ⟨hap4.os, hap4.tape, hap4.output, hap4.size, fun j hj hc => hap4.block j hj (by omega)⟩
        rw [z0] at hfin hapf
        clear hI3 HI3 hJ4 hap4 hR hy
        gi_wp2
        done
    · have hgx : plainG (wat xs k) = none := by rw [← hYk]; exact if_neg hx
      have o1 := outW_none hkx hgx
      have hxx : x ≤ 0 := by omega
      rw [exitT_on (hno hgx)]
      have hfin : Passing n₀ J W (fun _ _ => True) W0.heap.size plainG xs (.func (.yield l) #[] #[]) 134 (k + 1) W3 := ⟨by rw [o1]; exact hI3.told, hI3.box, hI3.low, hI3.size⟩
      have hapf : Apart n₀ W0.heap.size W3 W3 := Apart.refl _ _ _
      rw [z0] at hfin hapf
      clear hI3 hgx hYk o1 hso hno
      gi_wp2
      refine ⟨fun _ h => (by cases h), ?_⟩
      gi_wp2
      done
  case done =>
    intro D A hD hI hap hdef
    have hto := hI.told
    rw [hend] at hto
    have hDl : D < A.heap.size := (Array.getElem?_eq_some_iff.1 hdef).1
    have hJf := hJ _ A (A.putObj D (.deferred none)) ((Below.refl _ _).grown (grownBy_putObj' A D _) (by omega) (fun j hj => by cases hj; omega)) hto
    have hapf : Apart n₀ W.heap.size W (A.putObj D (.deferred none)) := ⟨hI.low.os, hI.low.tape, hI.low.output, by have := hI.low.size; simp; omega, fun j hj hc => (World.putObj_heap_other (by omega)).trans (hI.low.block j hj hc)⟩
    by_cases hlt : s' < xs.length
    · rw [if_pos hlt]
      gi_wp2
      refine ⟨by simp, .inl ⟨_, _, rfl, run_takeDeferred hdef, ?_⟩⟩
      exact ⟨_, results_none rfl _ _ _, ⟨_, rfl⟩, hJf, hapf⟩
    · rw [if_neg hlt]
      gi_wp2
      refine ⟨by simp, .inl ⟨_, _, rfl, run_takeDeferred hdef, ?_⟩⟩
      exact ⟨_, results_none rfl _ _ _, ⟨_, rfl⟩, hJf, hapf⟩

end Go.Proofs.Ytkcmlphpilggpaa

/- Contracts of impl.keptRows and of the function that it hands back, whatever function says which rows are kept. -/
namespace Go.Proofs.Ytkcmlphpilggpaa
open Go.RowKit Go.Shelf

attribute [local go_sem] Oper.semAt_some

/-- The function value (kf, kb) says of each row of Q whether it is kept, in whatever world keeps what lay below w's end. -/
def Sieve (P : Program) (kf : Nat) (kb : Array Value) (keep : List Int → Bool) (Q : List Int → Prop) (w : World) : Prop :=
  ∀ (W : World) (a : Option Addr) (n c : Nat) (zs : List Int), Below w.heap.size w W → Q zs → zs.length = n → At W a zs →
    Calls P kf (#[.agg #[.slice a n c]] ++ kb) W fun e W' => e = .returned (.bool (keep zs)) ∧ Below W.heap.size W W'
theorem Sieve.later {P : Program} {kf : Nat} {kb : Array Value} {keep : List Int → Bool} {Q : List Int → Prop} {w w' : World} (h : Sieve P kf kb keep Q w) (hb : Below w.heap.size w w') : Sieve P kf kb keep Q w' :=
  fun W a n c zs h1 => h W a n c zs (hb.trans (h1.mono hb.size))
def keptG (keep : List Int → Bool) (t : WRow) : Option WRow := if keep t.1 = true then some t else none

theorem keptRows_any (gf kf : Nat) (lb kb : Array Value) (w : World) :
    Calls Try.prog 84 #[.func (.func gf) #[] lb, .func (.func kf) #[] kb] w fun e w' => e = .returned (.func (.func 103) #[] #[.pointer (some ⟨w.heap.size, 0, none⟩), .pointer (some ⟨w.heap.size + 1, 0, none⟩)]) ∧ w' = (w.alloc (.cells #[.func (.func gf) #[] lb] 115)).alloc (.cells #[.func (.func kf) #[] kb] 100) := by
  go_enter Try.func84, Try.ntmps84
  go_wp2
  go_ret
  exact ⟨rfl, rfl⟩

set_option maxRecDepth 100000 in
set_option maxHeartbeats 4000000 in
theorem keptRows1_hands (T K gf kf : Nat) (lb kb : Array Value) (xs : List WRow) (keep : List Int → Bool) (Q : List Int → Prop) (w : World) (hT : w.cell? ⟨T, 0, none⟩ = some (.func (.func gf) #[] lb)) (hK : w.cell? ⟨K, 0, none⟩ = some (.func (.func kf) #[] kb))
    (eg : ∀ args w, (callFunc gf args).run Try.prog w = .ok (.enter gf args) w) (ek : ∀ args w, (callFunc kf args).run Try.prog w = .ok (.enter kf args) w) (hH : Hands Try.prog gf lb xs w) (hS : Sieve Try.prog kf kb keep Q w) (hQ : ∀ k, k < xs.length → Q (wat xs k).1) :
    Hands Try.prog 103 #[.pointer (some ⟨T, 0, none⟩), .pointer (some ⟨K, 0, none⟩)] (xs.filterMap (keptG keep)) w := by
  intro n₀ l J W h1 h2 hb hJ hY h0
  refine callsIn_of_wp_marks Try.func103 rfl trivial ?_
  simp only [Try.ntmps103, List.size_toArray, List.length_cons, List.length_nil, Nat.reduceAdd, Nat.reduceSub, Array.replicate_succ, Array.replicate_zero, List.push_toArray, List.append_toArray, List.nil_append, List.cons_append]
  obtain ⟨W0, hW0⟩ : ∃ W0, W0 = W.alloc (.cells #[.func (.yield l) #[] #[]] 134) := ⟨_, rfl⟩
  have hbW : Below W.heap.size W W0 := by rw [hW0]; exact (Below.refl _ _).alloc (Nat.le_refl _) _
  have z0 : W0.heap.size = W.heap.size + 1 := by rw [hW0]; simp
  have hTW := cell_later hb hT
  have hTL : (W.alloc (.cells #[.func (.yield l) #[] #[]] 134)).cell? ⟨T, 0, none⟩ = some (.func (.func gf) #[] lb) := cell_later ((Below.refl _ _).alloc (Nat.le_refl _) _) hTW
  have I0 : Passing n₀ J W (fun _ _ => True) W0.heap.size (keptG keep) xs (.func (.yield l) #[] #[]) 134 0 W0 := by
    refine ⟨hJ 0 W W0 hbW h0, ?_, ⟨hbW.os, hbW.tape, hbW.output, hbW.size, fun j hj _ => hbW.block j hj⟩, Nat.le_refl _⟩
    rw [hW0]; exact heap_alloc_new W _
  gi_wp2
  rw [← hW0]
  clear hW0 hTL
  refine range_hands (gf := gf) (lb := lb) rfl eg hH (hb.trans (hbW.mono hb.size)) n₀ h1 (by omega) _ (fun k A B hB h => h.keep hJ (by omega) hB) I0 ?round ?done
  case round =>
    intro r k W1 b n c hr hkx hI hsz hrec hln hnil hat hfar
    have hq := hQ k hkx
    obtain ⟨Y, hYk⟩ : ∃ Y, Y = wat xs k := ⟨_, rfl⟩
    rw [← hYk] at hln hat hfar hq ⊢
    obtain ⟨ys, x⟩ := Y
    simp only at hln hat hfar hq
    gi_wp2
    refine ⟨(Below.refl _ _).alloc (Nat.le_refl _) _, fun W3 hT3 _ => ?_⟩
    obtain ⟨W2, hW2⟩ : ∃ W2, W2 = W1.alloc (.cells #[.slice b n c] 97) := ⟨_, rfl⟩
    have hb2 : Below W1.heap.size W1 W2 := by rw [hW2]; exact (Below.refl _ _).alloc (Nat.le_refl _) _
    have cr : W2.cell? ⟨W1.heap.size, 0, none⟩ = some (.slice b n c) := by rw [hW2]; simp
    rw [← hW2] at hT3
    clear hW2
    have hI3 := (hI.keep hJ (by omega) (hb2.mono hsz)).keep hJ (by omega) (hT3.below hr)
    have cr3 := hT3.cell cr
    have cy3 : W3.cell? ⟨W.heap.size, 0, none⟩ = some (.func (.yield l) #[] #[]) := by rw [cell_of_row W3 _ 0 _ _ (0, 0) hI3.box]; rfl
    have hat3 := hT3.at (hat.below hb2)
    have hb3 : Below w.heap.size w W3 := hb.trans (hI3.low.below hb.size h1)
    have ck3 := cell_later hb3 hK
    clear hI hat cr hT3
    have hC := hS W3 b n c ys hb3 hq hln hat3
    cases hx : keep ys with
    | true =>
      have hgx : keptG keep (wat xs k) = some (ys, x) := by rw [← hYk]; exact if_pos hx
      obtain ⟨o1, o2, o3⟩ := outW_some hkx hgx
      have HI3 := Hid.mk hI3
      have HO1 := Hid.mk o1
      have HO3 := Hid.mk o3
      have HX := Hid.mk hx
      have HY := Hid.mk hY
      clear hI3 o1 o3 hgx hYk hx hY
      gi_wp2_with fail
      refine ⟨trivial, rfl, ?_⟩
      refine (callsIn_wide.2 hC).mono ?_
      rintro e W4 ⟨rfl, hb4⟩
      rw [HX.out]
      have cr4 := cell_later hb4 cr3
      have cy4 := cell_later hb4 cy3
      have hI4 := HI3.out.keep hJ (by omega) (hb4.mono HI3.out.size)
      obtain ⟨fn, tmps, assign, body, hy, hR⟩ := HY.out (outW (keptG keep) xs k) W4 b n c o2 hI4.told (by have := hI4.size; omega) (by rw [HO3.out]; exact hln) hnil (by rw [HO3.out]; exact hat3.below hb4) (by rw [HO3.out]; exact hfar.mono (by omega))
      rw [HO3.out] at hy
      simp only at hy
      have HI4 := Hid.mk hI4
      clear hI4 HI3 HY
      gi_wp2
      refine ⟨rfl, hR.mono ?_⟩
      rintro e W5 ⟨rfl, hJ5, hap5⟩
      have hI4 := HI4.out
      have hfin : Passing n₀ J W (fun _ _ => True) W0.heap.size (keptG keep) xs (.func (.yield l) #[] #[]) 134 (k + 1) W5 := by
        refine ⟨by rw [HO1.out]; exact hJ5, (hap5.block _ (by have := hI4.size; omega) (.inr (Nat.le_refl _))).trans hI4.box, hI4.low.trans hap5, Nat.le_trans hI4.size hap5.size⟩
      have hapf : Apart n₀ W0.heap.size W3 W5 := ⟨hap5.os.trans hb4.os, hap5.tape.trans hb4.tape, hap5.output.trans hb4.output, Nat.le_trans hb4.size hap5.size, fun j hj hc => (hap5.block j (by have := hb4.size; omega) (by omega)).trans (hb4.block j hj)⟩
      rw [z0] at hfin hapf
      clear hI4 HI4 hJ5 hap5 hR hy
      gi_wp2
      done
    | false =>
      have hgx : keptG keep (wat xs k) = none := by rw [← hYk]; exact if_neg (by rw [hx]; simp)
      have HO1 := Hid.mk (outW_none hkx hgx)
      have HI3 := Hid.mk hI3
      have HX := Hid.mk hx
      clear hI3 hgx hYk hx hY
      gi_wp2_with fail
      refine ⟨trivial, rfl, ?_⟩
      refine (callsIn_wide.2 hC).mono ?_
      rintro e W4 ⟨rfl, hb4⟩
      rw [HX.out]
      have hI4 := HI3.out.keep hJ (by omega) (hb4.mono HI3.out.size)
      have hfin : Passing n₀ J W (fun _ _ => True) W0.heap.size (keptG keep) xs (.func (.yield l) #[] #[]) 134 (k + 1) W4 := ⟨by rw [HO1.out]; exact hI4.told, hI4.box, hI4.low, hI4.size⟩
      have hapf : Apart n₀ W0.heap.size W3 W4 := ⟨hb4.os, hb4.tape, hb4.output, hb4.size, fun j hj _ => hb4.block j hj⟩
      rw [z0] at hfin hapf
      clear hI4 HI3
      gi_wp2
      refine ⟨fun _ h => (by cases h), ?_⟩
      gi_wp2
      done
  case done =>
    intro D A hD hI hap hdef
    have hto := hI.told
    rw [outW_all] at hto
    have hDl : D < A.heap.size := (Array.getElem?_eq_some_iff.1 hdef).1
    have hJf := hJ _ A (A.putObj D (.deferred none)) ((Below.refl _ _).grown (grownBy_putObj' A D _) (by omega) (fun j hj => by cases hj; omega)) hto
    have hapf : Apart n₀ W.heap.size W (A.putObj D (.deferred none)) := ⟨hI.low.os, hI.low.tape, hI.low.output, by have := hI.low.size; simp; omega, fun j hj hc => (World.putObj_heap_other (by omega)).trans (hI.low.block j hj hc)⟩
    gi_wp2
    refine ⟨by simp, .inl ⟨_, _, rfl, run_takeDeferred hdef, ?_⟩⟩
    exact ⟨_, results_none rfl _ _ _, ⟨_, rfl⟩, hJf, hapf⟩
end Go.Proofs.Ytkcmlphpilggpaa

/- Plain functions: picking cells. -/
namespace Go.Proofs.Ytkcmlphpilggpaa

def colIn (n : Nat) (k : Int) : Bool := decide (0 ≤ k) && decide (k < n)
def colsOk (cols : List Int) (n : Nat) : Bool := decide (cols.length ≤ 6) && cols.all (colIn n)
def pick (zs cols : List Int) : List Int := cols.map fun k => zs.getD k.toNat 0
def pickOk (zs cols : List Int) : Bool := good zs && colsOk cols zs.length
def pickZ (zs cols : List Int) : List Int := if pickOk zs cols then pick zs cols else []

theorem colsOk_of {cols : List Int} {n : Nat} (hl : cols.length ≤ 6) (h : ∀ j, j < cols.length → 0 ≤ cols.getD j 0 ∧ cols.getD j 0 < n) : colsOk cols n = true := by
  simp only [colsOk, Bool.and_eq_true, decide_eq_true_eq, List.all_eq_true, colIn]
  refine ⟨hl, fun x hx => ?_⟩
  obtain ⟨k, hk, rfl⟩ := List.getElem_of_mem hx
  simpa [List.getD, hk] using h k hk
theorem colsOk_at {cols : List Int} {n : Nat} (h : colsOk cols n = true) (k : Nat) (hk : k < cols.length) : 0 ≤ cols.getD k 0 ∧ cols.getD k 0 < n := by
  simp only [colsOk, Bool.and_eq_true, decide_eq_true_eq, List.all_eq_true, colIn] at h
  have := h.2 (cols[k]) (List.getElem_mem hk)
  simpa [List.getD, hk] using this
theorem colsOk_long {cols : List Int} {n : Nat} (h : 6 < cols.length) : colsOk cols n = false := by simp [colsOk]; omega
theorem colsOk_len {cols : List Int} {n : Nat} (h : colsOk cols n = true) : cols.length ≤ 6 := by
  simp only [colsOk, Bool.and_eq_true, decide_eq_true_eq] at h; exact h.1
theorem not_colsOk {cols : List Int} {n : Nat} (k : Nat) (hk : k < cols.length) (h : cols.getD k 0 < 0 ∨ (n : Int) ≤ cols.getD k 0) : colsOk cols n = false := by
  cases hg : colsOk cols n with
  | false => rfl
  | true => have := colsOk_at hg k hk; omega
theorem pick_succ (zs cols : List Int) (k : Nat) (h : k < cols.length) : pick zs (cols.take (k + 1)) = pick zs (cols.take k) ++ [zs.getD (cols.getD k 0).toNat 0] := by
  unfold pick
  rw [take_snocD cols k h, List.map_append]; rfl
theorem pick_length (zs cols : List Int) (k : Nat) (h : k ≤ cols.length) : (pick zs (cols.take k)).length = k := by simp [pick]; omega
theorem pickZ_small (zs cols : List Int) : (pickZ zs cols).length ≤ 6 := by
  unfold pickZ
  split
  · rename_i h
    simp only [pickOk, Bool.and_eq_true] at h
    have := colsOk_len h.2
    simpa [pick] using this
  · simp

end Go.Proofs.Ytkcmlphpilggpaa
