/- Several texts of one proof, in build order: Rng, TableH, Rows1, RngS, IterP, PlainR, Plain, PlainT. -/
import Derived.Test.YthliamoeplgblaaM4
import Derived.RangeFuncNested
import Derived.RangeFuncCalls
import Derived.RangeFuncLeaves
import Derived.RangeFuncBound
import Derived.Shelf.Abstract
import Derived.Test.YthliamoeplgblaaM1
import Derived.Test.YthliamoeplgblaaM2
import Derived.Test.YthliamoeplgblaaRows
import Derived.WalkKit
import Derived.OwnWalkIn
import Derived.TacticsInMore
import Derived.LoopNIn
import Derived.LoopIn
import Derived.OrdersIn

/- A function that hands out weighted rows, and a range over it: what it promises, and the law for its caller. No Go function is spoken of here. -/
namespace Go.Proofs.Ythliamoeplgblaa
open Go.RowKit Go.Shelf

/-- The row a lies outside the blocks lo .. hi - 1, or is empty. -/
def Far (lo hi : Nat) (a : Option Addr) (zs : List Int) : Prop := zs = [] ∨ ∃ p, a = some p ∧ (p.block < lo ∨ hi ≤ p.block)
theorem Far.mono {lo hi hi' : Nat} {a : Option Addr} {zs : List Int} (h : Far lo hi a zs) (hh : hi' ≤ hi) : Far lo hi' a zs := h.imp id fun ⟨p, e, c⟩ => ⟨p, e, c.imp id (Nat.le_trans hh)⟩
theorem At.far_low {w : World} {a : Option Addr} {zs : List Int} (h : At w a zs) {lo hi : Nat} (hl : w.heap.size ≤ lo) : Far lo hi a zs := by
  rcases h with rfl | ⟨b, off, rfl, hc⟩
  · exact .inl rfl
  · by_cases hz : zs = []
    · exact .inl hz
    · have hlt := World.block_lt_of_cell? _ _ (hc 0 (List.length_pos_iff.2 hz))
      exact .inr ⟨_, rfl, .inl (Nat.lt_of_lt_of_le hlt hl)⟩
theorem far_owned {w : World} {base : Nat} {e : TypeId} {a : Option Addr} {n c : Nat} {zs : List Int} (h : w.ownsRow base e 1 (.slice a n c) n (zs.map (.int .i64))) {lo hi : Nat} (hh : hi ≤ base) : Far lo hi a zs := by
  rcases h.2 with ⟨_, hx⟩ | ⟨g, cap, cur, e, hb, _⟩
  · have h1 := h.1
    rw [hx] at h1
    simp only [List.length_map, Nat.zero_mul] at h1
    exact .inl (List.eq_nil_of_length_eq_zero h1)
  · cases e
    exact .inr ⟨_, rfl, .inr (Nat.le_trans hh hb)⟩
theorem At.far {lo hi : Nat} {w w' : World} {a : Option Addr} {zs : List Int} (h : At w a zs) (hf : Far lo hi a zs) (hap : Apart lo hi w w') : At w' a zs := by
  rcases h with rfl | ⟨b, off, rfl, hc⟩
  · exact .inl rfl
  · rcases hf with rfl | ⟨p, e, hp⟩
    · exact .inl rfl
    · cases e
      exact .inr ⟨b, off, rfl, fun i hi => hap.cell (hc i hi) hp⟩

/-- The function value (g, lb) calls yield with the rows xs, one by one, as long as yield says yes: all that it reads lies below w's end; a round may turn what lies from n₀ on and lay ahead of the call; behind it all is as each round leaves it. -/
def Hands (P : Program) (g : Nat) (lb : Array Value) (xs : List WRow) (w : World) : Prop :=
  ∀ (n₀ l : Nat) (J : Nat → World → Prop) (W : World), w.heap.size ≤ n₀ → n₀ ≤ W.heap.size → Below w.heap.size w W →
    (∀ k A B, Below W.heap.size A B → J k A → J k B) →
    (∀ k W1 a n c, k < xs.length → J k W1 → W.heap.size ≤ W1.heap.size → (wat xs k).1.length = n → (a = none → c = 0) → At W1 a (wat xs k).1 → Far n₀ W.heap.size a (wat xs k).1 →
      YieldAt Fence.wide 0 P l #[.agg #[.slice a n c], .int .i64 (wat xs k).2] W1 fun e W' => e = .returned (.bool true) ∧ J (k + 1) W' ∧ Apart n₀ W.heap.size W1 W') →
    J 0 W →
    CallsIn Fence.wide 0 P g (#[.func (.yield l) #[] #[]] ++ lb) W fun e W' => (∃ v, e = .returned v) ∧ J xs.length W' ∧ Apart n₀ W.heap.size W W'

theorem Hands.later {P : Program} {g : Nat} {lb : Array Value} {xs : List WRow} {w w' : World} (h : Hands P g lb xs w) (hb : Below w.heap.size w w') : Hands P g lb xs w' :=
  fun n₀ l J W h1 h2 h3 hJ hY h0 => h n₀ l J W (Nat.le_trans hb.size h1) h2 (hb.trans (h3.mono hb.size)) hJ hY h0

/-- One block that holds no cells has turned. -/
structure Turned (l : Nat) (W W' : World) : Prop where
  grown : W.grownBy W' (some l)
  loop : ∃ r, W.heap[l]? = some (.loop r)
  size : W'.heap.size = W.heap.size
theorem Turned.cell {l : Nat} {W W' : World} (h : Turned l W W') {p : Addr} {v : Value} (hc : W.cell? p = some v) : W'.cell? p = some v := by
  obtain ⟨r, hr⟩ := h.loop
  refine h.grown.cell hc (fun e => ?_)
  simp only [Option.some.injEq] at e
  rw [World.cell?, e, hr] at hc
  simp at hc
theorem Turned.frozen {l : Nat} {W W' : World} (h : Turned l W W') {p : Addr} {v : Value} (hc : W.cell? p = some v) : W'.frozen? p = W.frozen? p := by
  obtain ⟨r, hr⟩ := h.loop
  refine World.frozen?_of_block (h.grown.block _ (World.block_lt_of_cell? _ _ hc) (fun e => ?_))
  simp only [Option.some.injEq] at e
  rw [World.cell?, e, hr] at hc
  simp at hc
theorem Turned.at {l : Nat} {W W' : World} (h : Turned l W W') {a : Option Addr} {zs : List Int} (ha : At W a zs) : At W' a zs := by
  rcases ha with ha | ⟨b, off, rfl, hc⟩
  · exact .inl ha
  · exact .inr ⟨b, off, rfl, fun i hi => h.cell (hc i hi)⟩
theorem Turned.below {l B : Nat} {W W' : World} (h : Turned l W W') (hB : B ≤ l) : Below B W W' :=
  ⟨h.grown.os, h.grown.tape, h.grown.output, h.grown.size, fun k hk => by
    obtain ⟨r, hr⟩ := h.loop
    have hlt := (Array.getElem?_eq_some_iff.1 hr).1
    exact h.grown.block k (by omega) (fun e => by simp only [Option.some.injEq] at e; omega)⟩
theorem turned_put {l : Nat} {W : World} {r : Loop} (h : W.heap[l]? = some (.loop r)) (o : Obj) : Turned l W (W.putObj l o) := ⟨grownBy_putObj' W l o, ⟨r, h⟩, by simp⟩

section
variable {P : Program} {Q : Exit → Act → World → Prop}

/-- How a round is walked: the assignments, then the body, which always goes on. -/
def RoundWalk (P : Program) (xs : List WRow) (p0 p1 : Tmp) (assign body : Code) (tmps : Array Value) (I : Nat → World → Prop) (n₀ N : Nat) : Prop :=
  ∀ (l k : Nat) (W1 : World) (b : Option Addr) (n c : Nat), N ≤ l → k < xs.length → I k W1 → N ≤ W1.heap.size → (∃ r, W1.heap[l]? = some (.loop r)) → (wat xs k).1.length = n → (b = none → c = 0) → At W1 b (wat xs k).1 → Far n₀ N b (wat xs k).1 →
    assign.wpIn (Fence.wide.inRound l) 0 P (Exit.then (fun a' W2 => Below W1.heap.size W1 W2 ∧ ∀ W3, Turned l W2 W3 → (∃ r, W3.heap[l]? = some (.loop r)) →
      body.wpIn (Fence.wide.inRound l) 0 P (fun e _ W4 => e = .normal ∧ I (k + 1) W4 ∧ Apart n₀ N W3 W4) a' W3) (fun _ _ _ => False))
      { tmps := (tmps.setIfInBounds p0 (.agg #[.slice b n c])).setIfInBounds p1 (.int .i64 (wat xs k).2), defers := [] } W1

theorem zip_two (t : Array Value) (p0 p1 : Tmp) (u v : Value) : (#[p0, p1].zip #[u, v]).foldl (fun tmps x => match x with | (t, a) => tmps.setIfInBounds t a) t = (t.setIfInBounds p0 u).setIfInBounds p1 v := by simp

theorem round_core {xs : List WRow} {p0 p1 : Tmp} {assign body : Code} {a : Act} {I : Nat → World → Prop} {n₀ N l N' : Nat} {fn : FuncId} {D : Nat} {o : Obj} (hNl : N ≤ l) (hlN : l < N') (hDl : D ≠ l) (hND : N ≤ D) (hDN : D < N') (_hn₀ : n₀ ≤ N)
    (rec : LoopState → Option Code → Loop) (hrec : ∀ s j, (rec s j).params = #[p0, p1] ∧ (rec s j).tmps = a.tmps ∧ (rec s j).fn = fn ∧ (rec s j).assign = assign ∧ (rec s j).body = body ∧ (rec s j).state = s ∧
      (∀ s', { rec s j with state := s' } = rec s' j) ∧ (∀ s' j', { rec s j with state := s', pending := j' } = rec s' j'))
    (hI : ∀ k A B, Below N A B → I k A → I k B) (hround : RoundWalk P xs p0 p1 assign body a.tmps I n₀ N)
    (k : Nat) (W : World) (b : Option Addr) (n c : Nat) (hk : k < xs.length) (hJ : I k W ∧ W.heap[l]? = some (.loop (rec .ready none)) ∧ W.heap[D]? = some o) (hsz : N' ≤ W.heap.size) (hn : (wat xs k).1.length = n) (hnil : b = none → c = 0) (hat : At W b (wat xs k).1) (hfar : Far n₀ N' b (wat xs k).1) :
    YieldAt Fence.wide 0 P l #[.agg #[.slice b n c], .int .i64 (wat xs k).2] W fun e W' => e = .returned (.bool true) ∧ (I (k + 1) W' ∧ W'.heap[l]? = some (.loop (rec .ready none)) ∧ W'.heap[D]? = some o) ∧ Apart n₀ N' W W' := by
  obtain ⟨hi, hl, hd⟩ := hJ
  obtain ⟨h1, h2, h3, h4, h5, _, h7, h8⟩ := hrec .ready none
  have hy := run_yield (P := P) (args := #[.agg #[.slice b n c], .int .i64 (wat xs k).2]) hl (by rw [h1]; rfl)
  rw [h1, h2, h3, h4, h5] at hy
  refine ⟨fn, _, assign, body, hy, roundIn_of_wpIn trivial ?_⟩
  clear hy
  rw [zip_two]
  refine wpIn_mono (hround l k W b n c hNl hk hi (by omega) ⟨_, hl⟩ hn hnil hat (hfar.mono (by omega))) ?_
  intro e a' W2 hq
  cases e with
  | normal =>
    obtain ⟨hb2, hbody⟩ := hq
    have hl2 : W2.heap[l]? = some (.loop (rec .ready none)) := (hb2.block l (by omega)).trans hl
    have hd2 : W2.heap[D]? = some o := (hb2.block D (by omega)).trans hd
    have hbr := run_beginRound (P := P) hl2 (hrec .ready none).2.2.2.2.2.1
    rw [h7 .busy] at hbr
    refine ⟨_, hbr, ?_⟩
    have hlt2 : l < W2.heap.size := by have := hb2.size; omega
    have hT := turned_put hl2 (.loop (rec .busy none))
    have hl3 : (W2.putObj l (.loop (rec .busy none))).heap[l]? = some (.loop (rec .busy none)) := World.putObj_heap_same hlt2
    have hd3 : (W2.putObj l (.loop (rec .busy none))).heap[D]? = some o := (World.putObj_heap_other hDl).trans hd2
    refine wpIn_mono (hbody _ hT ⟨_, hl3⟩) ?_
    intro e' a'' W4 hq'
    obtain ⟨rfl, hi4, hap⟩ := hq'
    have hs3 : (W2.putObj l (.loop (rec .busy none))).heap.size = W2.heap.size := hT.size
    have hl4 : W4.heap[l]? = some (.loop (rec .busy none)) := (hap.block l (by omega) (.inr hNl)).trans hl3
    have hd4 : W4.heap[D]? = some o := (hap.block D (by have := hb2.size; omega) (.inr hND)).trans hd3
    have her := run_endRound (P := P) none hl4
    have e9 := (hrec .busy none).2.2.2.2.2.2.2
    simp only [Option.isNone_none, if_true] at her
    rw [e9 .ready none] at her
    have hT4 := turned_put hl4 (.loop (rec .ready none))
    have hlt4 : l < W4.heap.size := (Array.getElem?_eq_some_iff.1 hl4).1
    refine ⟨_, _, her, rfl, ⟨hI _ _ _ (hT4.below hNl) hi4, World.putObj_heap_same hlt4, (World.putObj_heap_other hDl).trans hd4⟩, ?_⟩
    refine ⟨hT4.grown.os.trans (hap.os.trans (hT.grown.os.trans hb2.os)), hT4.grown.tape.trans (hap.tape.trans (hT.grown.tape.trans hb2.tape)), hT4.grown.output.trans (hap.output.trans (hT.grown.output.trans hb2.output)), ?_, fun j hj hc => ?_⟩
    · have := hb2.size; have := hap.size; have := hT4.grown.size; omega
    · have hjl : j ≠ l := by omega
      have z2 := hb2.size
      have z4 := hap.size
      rw [hT4.grown.block j (by omega) (fun e => hjl (by simpa using e)), hap.block j (by omega) (by omega), hT.grown.block j (by omega) (fun e => hjl (by simpa using e)), hb2.block j hj]
  | _ => exact hq.elim

/-- **A range over such a function**, in a function's own body. -/
theorem range_hands {g : Operand} {p0 p1 : Tmp} {assign body : Code} {a : Act} {w w0 : World} {gf : Nat} {lb : Array Value} {xs : List WRow} (hg : a.eval g = .func (.func gf) #[] lb) (eg : ∀ args w, (callFunc gf args).run P w = .ok (.enter gf args) w)
    (hH : Hands P gf lb xs w0) (hw : Below w0.heap.size w0 w) (n₀ : Nat) (hn0 : w0.heap.size ≤ n₀) (hn1 : n₀ ≤ w.heap.size) (I : Nat → World → Prop) (hI : ∀ k A B, Below w.heap.size A B → I k A → I k B) (h0 : I 0 w)
    (hround : RoundWalk P xs p0 p1 assign body a.tmps I n₀ w.heap.size)
    (hdone : ∀ D W, w.heap.size ≤ D → I xs.length W → Apart n₀ w.heap.size w W → W.heap[D]? = some (.deferred (some [])) → Q .normal { a with defers := { target := .collected D, args := #[] } :: a.defers } W) :
    (Code.rangeFunc g #[p0, p1] assign body).wpIn Fence.wide 0 P Q a w := by
  refine wpIn_rangeFunc ?_
  intro fn _
  obtain ⟨rec, hrec⟩ : ∃ rec : LoopState → Option Code → Loop, rec = fun st pe => { state := st, pending := pe, fn, tmps := a.tmps, params := #[p0, p1], assign, body, defers := w.heap.size } := ⟨_, rfl⟩
  obtain ⟨W1, hW1⟩ : ∃ W1, W1 = (w.alloc (.deferred (some []))).alloc (.loop (rec .ready none)) := ⟨_, rfl⟩
  have z1 : W1.heap.size = w.heap.size + 1 + 1 := by rw [hW1]; simp
  have hL : W1.heap[w.heap.size + 1]? = some (.loop (rec .ready none)) := by
    rw [hW1]; have := heap_alloc_new (w.alloc (.deferred (some []))) (.loop (rec .ready none)); rwa [World.size_alloc] at this
  have hD : W1.heap[w.heap.size]? = some (.deferred (some [])) := by
    rw [hW1]; exact (Below.heap_alloc _ _ _ (by simp)).trans (heap_alloc_new w _)
  have hb1 : Below w.heap.size w W1 := by rw [hW1]; exact ((Below.refl _ w).alloc (Nat.le_refl _) _).alloc (by simp) _
  refine ⟨w.heap.size + 1, [{ target := .collected w.heap.size, args := #[] }], W1, { target := .fn (.func gf) lb, args := #[.func (.yield (w.heap.size + 1)) #[] #[]] }, W1, gf, #[.func (.yield (w.heap.size + 1)) #[] #[]] ++ lb, W1, ?_, ?_, fun _ _ => trivial, ?_, fun h => by simp [Fence.wide] at h, ?_⟩
  · rw [hW1, hrec]; exact run_enterLoop_outer _ _ _ _ _
  · simp only [resolve, hg]
    simp [go_sem]
  · simp [invoke, go_sem, eg]
  · refine (hH n₀ (w.heap.size + 1) (fun k W => I k W ∧ W.heap[w.heap.size + 1]? = some (.loop (rec .ready none)) ∧ W.heap[w.heap.size]? = some (.deferred (some []))) W1 hn0 (by omega) (hw.trans (hb1.mono hw.size))
      (fun k A B hb ⟨j1, j2, j3⟩ => ⟨hI k A B (hb.mono (by omega)) j1, (hb.block _ (by omega)).trans j2, (hb.block _ (by omega)).trans j3⟩)
      (fun k W b n c hk hJ hsz hn hnil hat hfar => round_core (N' := W1.heap.size) (by omega) (by omega) (by omega) (Nat.le_refl _) (by omega) hn1 rec (fun s j => by rw [hrec]; exact ⟨rfl, rfl, rfl, rfl, rfl, rfl, fun _ => rfl, fun _ _ => rfl⟩) hI hround k W b n c hk hJ hsz hn hnil hat hfar)
      ⟨hI 0 w W1 hb1 h0, hL, hD⟩).mono ?_
    rintro e W2 ⟨⟨v, rfl⟩, ⟨hi, hl, hd⟩, hap⟩
    have hst : (rec .ready none).state ≠ .busy := by rw [hrec]; simp
    have hel : (Instr.endLoop (w.heap.size + 1)).run P W2 = .ok none (W2.putObj (w.heap.size + 1) (.loop { rec .ready none with state := .exhausted })) := by
      have h := run_endLoop (P := P) hl hst
      rw [h, hrec]
    have hT := turned_put hl (.loop { rec .ready none with state := .exhausted })
    refine ⟨none, _, hel, hdone w.heap.size _ (Nat.le_refl _) (hI _ _ _ (hT.below (B := w.heap.size) (Nat.le_succ _)) hi) ?_ ((World.putObj_heap_other (show w.heap.size ≠ w.heap.size + 1 by omega)).trans hd)⟩
    refine ⟨hT.grown.os.trans (hap.os.trans hb1.os), hT.grown.tape.trans (hap.tape.trans hb1.tape), hT.grown.output.trans (hap.output.trans hb1.output), ?_, fun j hj hc => ?_⟩
    · have := hap.size; have := hT.grown.size; omega
    · have z2 := hap.size
      rw [hT.grown.block j (by omega) (fun e => by simp only [Option.some.injEq] at e; omega), hap.block j (by omega) (by omega), hb1.block j (by omega)]

end
end Go.Proofs.Ythliamoeplgblaa

/- Contracts of the laws' helpers over weighted rows: szWeighted, szWeightedS, szTable, toWeighted, toWeightedS, toTable. -/
namespace Go.Proofs.Ythliamoeplgblaa
open Go.RowKit

/-- What szWeightedS takes: a slot a row, and the rows' cells. -/
theorem wtot_cells (ts : List WRow) (k : Nat) (h : k ≤ ts.length) : ∃ s : Nat, wtot ts k = k + s := ⟨wtot ts k - k, by have := wtot_len ts k h; omega⟩

theorem Try.infoW : (Try.prog.info? 107).map (fun i => (i.zero, i.size, i.bytes)) = some (some (.agg #[.slice none 0 0, .int .i64 0]), 2, 32) := by kernel_rfl

end Go.Proofs.Ythliamoeplgblaa

/- Contracts of impl.rowsOf and of the function that it hands back. -/
namespace Go.Proofs.Ythliamoeplgblaa
open Go.RowKit Go.Shelf

attribute [local go_sem] Oper.semAt_some

end Go.Proofs.Ythliamoeplgblaa

/- A region that draws its order, within a round: as everywhere, where no operation of it is a 'defer'. -/
namespace Go.Proofs.Ythliamoeplgblaa
open Go.RowKit Go.Shelf

section
variable {P : Program} {ops : Array Oper} {Q : Exit → Act → World → Prop} {md : Region.Mode}

theorem opIn_round {F : Fence} {n l i : Nat} {K : Act → World → Prop} {a : Act} {w : World} (hro : F.round = none) (hnd : ∀ (i : Nat) (o : Oper), ops[i]? = some o → ∀ c, o.op ≠ .defer c)
    (h : wpOpIn F n P ops Q i K a w) : wpOpIn (F.inRound l) n P ops Q i K a w := by
  unfold wpOpIn at *
  cases ho : ops[i]? with
  | none => simpa [ho] using h
  | some o =>
    simp only [ho] at h ⊢
    split
    · rename_i hw
      simp only [hw, if_true] at h
      obtain ⟨h1, h2⟩ := h
      refine ⟨h1, ?_⟩
      have e1 : Oper.semAt (F.inRound l).round a.eval o = execOp a.eval o := Oper.semAt_some l a.eval o (hnd i o ho)
      have e2 : Oper.semAt F.round a.eval o = execOp a.eval o := by rw [hro]; rfl
      rw [e1]
      rw [e2] at h2
      exact h2
    · rename_i hw
      simp only [hw] at h
      exact h

theorem anyIn_round {F : Fence} {n l : Nat} (hro : F.round = none) (hnd : ∀ (i : Nat) (o : Oper), ops[i]? = some o → ∀ c, o.op ≠ .defer c) : ∀ (fuel : Nat) (listed : Array Bool) (a : Act) (w : World),
    wpAnyIn F n P md ops Q fuel listed a w → wpAnyIn (F.inRound l) n P md ops Q fuel listed a w
  | 0, _, _, _, h => h
  | fuel + 1, _, _, _, h => ⟨h.1, fun i hi => opIn_round hro hnd (wpOpIn_mono (fun a' w' h' => anyIn_round hro hnd fuel _ a' w' h') (h.2 i hi))⟩

/-- No operation is a 'defer'. -/
def noDefer (ops : Array Oper) : Bool := ops.toList.all fun o => match o.op with | .defer _ => false | _ => true
theorem noDefer_spec (h : noDefer ops = true) : ∀ (i : Nat) (o : Oper), ops[i]? = some o → ∀ c, o.op ≠ .defer c := fun i o ho c e => by
  have := List.all_eq_true.1 h o (by rw [Array.mem_toList_iff]; exact Array.mem_of_getElem? ho)
  rw [e] at this
  cases this

theorem region_round {id l : Nat} {a : Act} {w : World} (hm : P.follows .mixedOrders = true) (hnd : noDefer ops = true)
    (h : wpAnyIn Fence.wide 0 P .any ops Q ops.size (Array.replicate ops.size false) a w.drew) : (Code.region id ops true).wpIn (Fence.wide.inRound l) 0 P Q a w :=
  wpIn_region_any hm (anyIn_round rfl (noDefer_spec hnd) _ _ _ _ h)
end
end Go.Proofs.Ythliamoeplgblaa

/- Plain: what a function hands out that passes on some of another one's rows. -/
namespace Go.Proofs.Ythliamoeplgblaa

/-- How many have been handed out when k rows have come. -/
def outW (g : WRow → Option WRow) (xs : List WRow) (k : Nat) : Nat := ((xs.take k).filterMap g).length
theorem outW_zero (g : WRow → Option WRow) (xs : List WRow) : outW g xs 0 = 0 := rfl
theorem outW_all (g : WRow → Option WRow) (xs : List WRow) : outW g xs xs.length = (xs.filterMap g).length := by simp [outW]
theorem outW_none {g : WRow → Option WRow} {xs : List WRow} {k : Nat} (h : k < xs.length) (hg : g (wat xs k) = none) : outW g xs (k + 1) = outW g xs k := by
  unfold outW
  rw [wtake_succ xs k h, List.filterMap_append, List.filterMap_cons, hg]
  simp
theorem outW_some {g : WRow → Option WRow} {xs : List WRow} {k : Nat} {v : WRow} (h : k < xs.length) (hg : g (wat xs k) = some v) :
    outW g xs (k + 1) = outW g xs k + 1 ∧ outW g xs k < (xs.filterMap g).length ∧ wat (xs.filterMap g) (outW g xs k) = v := by
  have e : xs.filterMap g = (xs.take k).filterMap g ++ v :: (xs.drop (k + 1)).filterMap g := by
    have h2 : xs = xs.take k ++ wat xs k :: xs.drop (k + 1) := by
      have h3 := (List.take_append_drop k xs).symm
      rw [List.drop_eq_getElem_cons h] at h3
      rw [show wat xs k = xs[k] by simp [wat, List.getD, h]]
      exact h3
    have h4 := congrArg (List.filterMap g) h2
    rw [List.filterMap_append, List.filterMap_cons, hg] at h4
    exact h4
  refine ⟨?_, ?_, ?_⟩
  · unfold outW
    rw [wtake_succ xs k h, List.filterMap_append, List.filterMap_cons, hg]
    simp
  · rw [e]; unfold outW; simp
  · rw [e]; unfold outW
    simp [wat, List.getD]

end Go.Proofs.Ythliamoeplgblaa

/- Contracts of impl.plainRows and of the function that it hands back. -/
namespace Go.Proofs.Ythliamoeplgblaa
open Go.RowKit Go.Shelf

attribute [local go_sem] Oper.semAt_some

/-- A row that is there, once. -/
def plainG (t : WRow) : Option WRow := if 0 < t.2 then some (t.1, 1) else none

/-- What a function that passes rows on holds while it does. -/
structure Passing (n₀ : Nat) (J : Nat → World → Prop) (W : World) (bx : Nat → Nat → Prop) (N : Nat) (g : WRow → Option WRow) (xs : List WRow) (v : Value) (t : TypeId) (k : Nat) (A : World) : Prop where
  told : J (outW g xs k) A
  box : A.heap[W.heap.size]? = some (.cells #[v] t (0, 0))
  low : Apart n₀ W.heap.size W A
  size : N ≤ A.heap.size

theorem Passing.keep {n₀ : Nat} {J : Nat → World → Prop} {W : World} {bx : Nat → Nat → Prop} {N : Nat} {g : WRow → Option WRow} {xs : List WRow} {v : Value} {t : TypeId} {k : Nat} {A B : World} (hJ : ∀ k A B, Below W.heap.size A B → J k A → J k B) (hN : W.heap.size < N)
    (h : Passing n₀ J W bx N g xs v t k A) (hb : Below N A B) : Passing n₀ J W bx N g xs v t k B := by
  have hs := h.size
  refine ⟨hJ _ _ _ (hb.mono (by omega)) h.told, (hb.block _ hN).trans h.box, ?_, Nat.le_trans h.size hb.size⟩
  exact ⟨hb.os.trans h.low.os, hb.tape.trans h.low.tape, hb.output.trans h.low.output, Nat.le_trans h.low.size hb.size, fun j hj hc => (hb.block j (by omega)).trans (h.low.block j hj hc)⟩

end Go.Proofs.Ythliamoeplgblaa

/- Plain functions on lists of numbers: what the program's row functions answer. -/
namespace Go.Proofs.Ythliamoeplgblaa

def inb (z : Int) : Bool := decide (-100000 ≤ z) && decide (z ≤ 100000)
/-- A good row's cells. -/
def good (zs : List Int) : Bool := decide (zs.length ≤ 6) && zs.all inb

theorem good_len {zs : List Int} (h : good zs = true) : zs.length ≤ 6 := by simp [good] at h; exact h.1
theorem good_cell {zs : List Int} (h : good zs = true) (k : Nat) (hk : k < zs.length) : -100000 ≤ zs.getD k 0 ∧ zs.getD k 0 ≤ 100000 := by
  simp [good, inb] at h
  have := h.2 (zs[k]) (List.getElem_mem hk)
  simpa [List.getD, hk] using this
theorem good_long {zs : List Int} (h : 6 < zs.length) : good zs = false := by simp [good]; omega
theorem not_good_cell {zs : List Int} (k : Nat) (hk : k < zs.length) (h : zs.getD k 0 < -100000 ∨ 100000 < zs.getD k 0) : good zs = false := by
  cases hg : good zs with
  | false => rfl
  | true => have := good_cell hg k hk; omega
theorem good_of {zs : List Int} (hl : zs.length ≤ 6) (h : ∀ k, k < zs.length → -100000 ≤ zs.getD k 0 ∧ zs.getD k 0 ≤ 100000) : good zs = true := by
  simp only [good, Bool.and_eq_true, decide_eq_true_eq, List.all_eq_true, inb]
  refine ⟨hl, fun x hx => ?_⟩
  obtain ⟨k, hk, rfl⟩ := List.getElem_of_mem hx
  simpa [List.getD, hk] using h k hk

/-- Cell by cell; the first unlike one decides; a row that ends there is less. -/
def cmp : List Int → List Int → Int
  | [], [] => 0
  | [], _ :: _ => -1
  | _ :: _, [] => 1
  | x :: xs, y :: ys => if x < y then -1 else if y < x then 1 else cmp xs ys

theorem cmp_drop (xs ys : List Int) (k : Nat) (h1 : k < xs.length) (h2 : k < ys.length) :
    cmp (xs.drop k) (ys.drop k) = if xs.getD k 0 < ys.getD k 0 then -1 else if ys.getD k 0 < xs.getD k 0 then 1 else cmp (xs.drop (k + 1)) (ys.drop (k + 1)) := by
  rw [List.drop_eq_getElem_cons h1, List.drop_eq_getElem_cons h2, cmp]
  simp [List.getD, h1, h2]

theorem cmp_end (xs ys : List Int) (k : Nat) (h : k = xs.length ∨ k = ys.length) (h1 : k ≤ xs.length) (h2 : k ≤ ys.length) :
    cmp (xs.drop k) (ys.drop k) = if xs.length < ys.length then -1 else if ys.length < xs.length then 1 else 0 := by
  rcases h with rfl | rfl
  · rw [List.drop_length]
    by_cases e : xs.length = ys.length
    · rw [List.drop_eq_nil_of_le (by omega), if_neg (by omega), if_neg (by omega)]; rfl
    · rw [List.drop_eq_getElem_cons (by omega), if_pos (by omega)]; rfl
  · rw [List.drop_length]
    by_cases e : xs.length = ys.length
    · rw [List.drop_eq_nil_of_le (by omega), if_neg (by omega), if_neg (by omega)]; rfl
    · rw [List.drop_eq_getElem_cons (by omega), if_neg (by omega), if_pos (by omega)]; rfl

theorem cmp_self (xs : List Int) : cmp xs xs = 0 := by
  induction xs with
  | nil => rfl
  | cons x xs ih => simp [cmp, ih]

def good2 (xs ys : List Int) : Bool := good xs && good ys
def cmpAns (xs ys : List Int) : Int := if good xs && good ys then cmp xs ys else 0

/-- A cell's three bytes. -/
def cellNums (z : Int) : List Int := [(z + 100000) / 65536, (z + 100000) / 256 % 256, (z + 100000) % 256]
def rowNumsTo (zs : List Int) (k : Nat) : List Int := (zs.length : Int) :: (zs.take k).flatMap cellNums
def rowNums (zs : List Int) : List Int := (zs.length : Int) :: zs.flatMap cellNums

theorem take_snocD (zs : List Int) (k : Nat) (h : k < zs.length) : zs.take (k + 1) = zs.take k ++ [zs.getD k 0] := by
  rw [List.take_succ_eq_append_getElem h]; simp [List.getD, h]
theorem rowNumsTo_succ (zs : List Int) (k : Nat) (h : k < zs.length) : rowNumsTo zs (k + 1) = rowNumsTo zs k ++ cellNums (zs.getD k 0) := by
  unfold rowNumsTo
  rw [take_snocD zs k h, List.flatMap_append]
  simp only [List.flatMap_cons, List.flatMap_nil, List.append_nil, List.cons_append]
theorem rowNumsTo_all (zs : List Int) : rowNumsTo zs zs.length = rowNums zs := by simp [rowNumsTo, rowNums]
theorem rowNumsTo_length (zs : List Int) (k : Nat) (h : k ≤ zs.length) : (rowNumsTo zs k).length = 1 + 3 * k := by
  induction k with
  | zero => simp [rowNumsTo]
  | succ k ih => rw [rowNumsTo_succ zs k (by omega), List.length_append, ih (by omega)]; simp [cellNums]; omega

/-- The row itself where it is good, else the empty one. -/
def goodOr (zs : List Int) : List Int := if good zs then zs else []

def byt (s : ByteArray) (k : Nat) : Nat := (s.data.toList.getD k 0).toNat
/-- The j-th cell that a row's bytes tell. -/
def cellAt (s : ByteArray) (j : Nat) : Int := (byt s (1 + 3 * j) : Int) * 65536 + (byt s (1 + 3 * j + 1) : Int) * 256 + (byt s (1 + 3 * j + 2) : Int) - 100000
def cellsTo (s : ByteArray) (k : Nat) : List Int := (List.range k).map (cellAt s)
theorem byt_lt (s : ByteArray) (k : Nat) : byt s k < 256 := (s.data.toList.getD k 0).toNat_lt
theorem byt_at (s : ByteArray) (k : Nat) (h : k < s.size) : (s[k]'h).toNat = byt s k := by
  have h' : k < s.data.size := h
  unfold byt
  rw [show s.data.toList.getD k 0 = s[k] from by simp only [List.getD, Array.getElem?_toList, Array.getElem?_eq_getElem h', Option.getD_some]; rfl]
theorem cellsTo_succ (s : ByteArray) (k : Nat) : cellsTo s (k + 1) = cellsTo s k ++ [cellAt s k] := by simp [cellsTo, List.range_succ]
theorem cellsTo_length (s : ByteArray) (k : Nat) : (cellsTo s k).length = k := by simp [cellsTo]

/-- A good row's cells raised above 0, and 0 behind the last one. -/
def raised (zs : List Int) : List Int := zs.map (· + 100001) ++ List.replicate (6 - zs.length) 0

theorem cmp_raised' (xs : List Int) : ∀ (ys : List Int) (a b : Nat), (∀ x ∈ xs, -100000 ≤ x) → (∀ y ∈ ys, -100000 ≤ y) → xs.length + a = ys.length + b →
    cmp (xs.map (· + 100001) ++ List.replicate a 0) (ys.map (· + 100001) ++ List.replicate b 0) = cmp xs ys := by
  induction xs with
  | nil =>
    intro ys a b _ hy hl
    cases ys with
    | nil => simp at hl; subst hl; simp [cmp_self, cmp]
    | cons y ys =>
      obtain ⟨a', rfl⟩ : ∃ a', a = a' + 1 := ⟨a - 1, by simp at hl; omega⟩
      have := hy y (by simp)
      simp [List.replicate_succ, cmp]
      omega
  | cons x xs ih =>
    intro ys a b hx hy hl
    have h0 := hx x (by simp)
    cases ys with
    | nil =>
      obtain ⟨b', rfl⟩ : ∃ b', b = b' + 1 := ⟨b - 1, by simp at hl; omega⟩
      simp only [List.map_cons, List.cons_append, List.map_nil, List.nil_append, List.replicate_succ, cmp]
      rw [if_neg (by omega), if_pos (by omega)]
    | cons y ys =>
      have h1 := hy y (by simp)
      simp only [List.map_cons, List.cons_append, cmp]
      rw [ih ys a b (fun z hz => hx z (by simp [hz])) (fun z hz => hy z (by simp [hz])) (by simp at hl; omega)]
      by_cases e1 : x < y
      · rw [if_pos (by omega), if_pos e1]
      · rw [if_neg (by omega), if_neg e1]
        by_cases e2 : y < x
        · rw [if_pos (by omega), if_pos e2]
        · rw [if_neg (by omega), if_neg e2]

theorem good_mem {zs : List Int} (h : good zs = true) : ∀ z ∈ zs, -100000 ≤ z ∧ z ≤ 100000 := by
  simp only [good, Bool.and_eq_true, List.all_eq_true, inb, decide_eq_true_eq] at h
  exact h.2

theorem cmp_raised {xs ys : List Int} (hx : good xs = true) (hy : good ys = true) : cmp (raised xs) (raised ys) = cmp xs ys := by
  have h1 := good_len hx
  have h2 := good_len hy
  exact cmp_raised' xs ys _ _ (fun z hz => (good_mem hx z hz).1) (fun z hz => (good_mem hy z hz).1) (by omega)

/-- The array while it is filled. -/
def rowTo (zs : List Int) (k : Nat) : List Int := (zs.take k).map (· + 100001) ++ List.replicate (6 - k) 0

theorem rowTo_length (zs : List Int) (k : Nat) (h : k ≤ zs.length) (h6 : k ≤ 6) : (rowTo zs k).length = 6 := by simp [rowTo]; omega

theorem rowTo_set (zs : List Int) (k : Nat) (h : k < zs.length) (h6 : k < 6) : (rowTo zs k).set k (zs.getD k 0 + 100001) = rowTo zs (k + 1) := by
  unfold rowTo
  rw [List.set_append_right _ _ (by simp; omega)]
  rw [show k - (List.map (· + 100001) (List.take k zs)).length = 0 by simp; omega]
  rw [show 6 - k = (6 - (k + 1)) + 1 by omega, List.replicate_succ, List.set_cons_zero]
  rw [List.take_succ_eq_append_getElem h, List.map_append, List.append_assoc]
  simp [List.getD, h]

theorem rowTo_all (zs : List Int) : rowTo zs zs.length = raised zs := by simp [rowTo, raised]

theorem raised_length {zs : List Int} (h : zs.length ≤ 6) : (raised zs).length = 6 := by simp [raised]; omega

end Go.Proofs.Ythliamoeplgblaa

/- Plain functions on lists of weighted rows: what a good table is. -/
namespace Go.Proofs.Ythliamoeplgblaa

def inw (x : Int) : Bool := decide (-1000000 ≤ x) && decide (x ≤ 1000000)
def inc (p : Int) : Bool := decide (0 ≤ p) && decide (p ≤ 6)
/-- A row that may be handed in. -/
def goodW (p : Int) (t : WRow) : Bool := good t.1 && (decide ((t.1.length : Int) = p) && inw t.2)
/-- The k-th row may stand in a table. -/
def stepB (p : Int) (ts : List WRow) (k : Nat) : Bool := goodW p (wat ts k) && (!decide ((wat ts k).2 = 0) && (decide (k = 0) || decide (cmp (wat ts (k - 1)).1 (wat ts k).1 < 0)))
/-- A good table. -/
def goodT (p : Int) (ts : List WRow) : Bool := inc p && (decide (ts.length ≤ 60) && (List.range ts.length).all (stepB p ts))
def goodL (p : Int) (ts : List WRow) : Bool := ts.all (goodW p)

theorem goodW_cells {p : Int} {t : WRow} (h : goodW p t = true) : good t.1 = true ∧ (t.1.length : Int) = p ∧ -1000000 ≤ t.2 ∧ t.2 ≤ 1000000 := by
  simpa [goodW, inw] using h
theorem goodW_mk {p : Int} {t : WRow} (h1 : good t.1 = true) (h2 : (t.1.length : Int) = p) (h3 : inw t.2 = true) : goodW p t = true := by
  simp [goodW, h1, h2, h3]
theorem goodW_row {p : Int} {t : WRow} (h : good t.1 = false) : goodW p t = false := by simp [goodW, h]
theorem goodW_len {p : Int} {t : WRow} (h : (t.1.length : Int) ≠ p) : goodW p t = false := by simp [goodW, h]
theorem goodW_wt {p : Int} {t : WRow} (h : inw t.2 = false) : goodW p t = false := by simp [goodW, h]

theorem wat_mem {ts : List WRow} {k : Nat} (h : k < ts.length) : wat ts k ∈ ts := by
  rw [show wat ts k = ts[k] by simp [wat, List.getD, h]]; exact List.getElem_mem h

theorem goodL_of {p : Int} {ts : List WRow} (h : ∀ k, k < ts.length → goodW p (wat ts k) = true) : goodL p ts = true := by
  unfold goodL
  rw [List.all_eq_true]
  intro t ht
  obtain ⟨k, hk, rfl⟩ := List.getElem_of_mem ht
  simpa [wat, List.getD, hk] using h k hk
theorem goodL_at {p : Int} {ts : List WRow} (h : goodL p ts = true) (k : Nat) (hk : k < ts.length) : goodW p (wat ts k) = true := List.all_eq_true.1 h _ (wat_mem hk)
theorem goodL_not {p : Int} {ts : List WRow} (k : Nat) (hk : k < ts.length) (h : goodW p (wat ts k) = false) : goodL p ts = false := by
  cases hg : goodL p ts with
  | false => rfl
  | true => rw [goodL_at hg k hk] at h; cases h

theorem goodT_of {p : Int} {ts : List WRow} (h1 : inc p = true) (h2 : ts.length ≤ 60) (h : ∀ k, k < ts.length → stepB p ts k = true) : goodT p ts = true := by
  simp only [goodT, h1, decide_eq_true h2, Bool.true_and, List.all_eq_true, List.mem_range]; exact h
theorem goodT_parts {p : Int} {ts : List WRow} (h : goodT p ts = true) : inc p = true ∧ ts.length ≤ 60 ∧ ∀ k, k < ts.length → stepB p ts k = true := by
  simpa only [goodT, Bool.and_eq_true, decide_eq_true_eq, List.all_eq_true, List.mem_range] using h
theorem goodT_col {p : Int} {ts : List WRow} (h : inc p = false) : goodT p ts = false := by simp [goodT, h]
theorem goodT_len {p : Int} {ts : List WRow} (h : 60 < ts.length) : goodT p ts = false := by
  have : decide (ts.length ≤ 60) = false := by simp; omega
  simp [goodT, this]
theorem goodT_not {p : Int} {ts : List WRow} (k : Nat) (hk : k < ts.length) (h : stepB p ts k = false) : goodT p ts = false := by
  cases hg : goodT p ts with
  | false => rfl
  | true => rw [(goodT_parts hg).2.2 k hk] at h; cases h
theorem stepB_good {p : Int} {ts : List WRow} {k : Nat} (h : stepB p ts k = true) : goodW p (wat ts k) = true := by
  simp only [stepB, Bool.and_eq_true] at h; exact h.1
theorem stepB_row {p : Int} {ts : List WRow} {k : Nat} (h : goodW p (wat ts k) = false) : stepB p ts k = false := by simp only [stepB, h, Bool.false_and]
theorem stepB_zero {p : Int} {ts : List WRow} {k : Nat} (h : (wat ts k).2 = 0) : stepB p ts k = false := by simp only [stepB, h, decide_true, Bool.not_true, Bool.false_and, Bool.and_false]
theorem stepB_cmp {p : Int} {ts : List WRow} {k : Nat} (h0 : k ≠ 0) (h : ¬ cmp (wat ts (k - 1)).1 (wat ts k).1 < 0) : stepB p ts k = false := by
  simp only [stepB, decide_eq_false h0, decide_eq_false h, Bool.or_false, Bool.and_false]
theorem stepB_mk {p : Int} {ts : List WRow} {k : Nat} (h1 : goodW p (wat ts k) = true) (h2 : (wat ts k).2 ≠ 0) (h3 : k = 0 ∨ cmp (wat ts (k - 1)).1 (wat ts k).1 < 0) : stepB p ts k = true := by
  rcases h3 with h3 | h3 <;> simp only [stepB, h1, decide_eq_false h2, decide_eq_true h3, Bool.not_false, Bool.true_and, Bool.or_true, Bool.true_or]
theorem goodL_of_goodT {p : Int} {ts : List WRow} (h : goodT p ts = true) : goodL p ts = true := goodL_of fun k hk => stepB_good ((goodT_parts h).2.2 k hk)
theorem goodT_goodL {p : Int} {ts : List WRow} (h : goodL p ts = false) : goodT p ts = false := by
  cases hg : goodT p ts with
  | false => rfl
  | true => rw [goodL_of_goodT hg] at h; cases h
theorem inc_range {p : Int} (h : inc p = true) : 0 ≤ p ∧ p ≤ 6 := by simpa [inc] using h

/-- cmp tells -1, 0 or 1. -/
theorem cmp_range (xs : List Int) : ∀ ys, cmp xs ys = -1 ∨ cmp xs ys = 0 ∨ cmp xs ys = 1 := by
  induction xs with
  | nil => intro ys; cases ys <;> simp [cmp]
  | cons x xs ih =>
    intro ys
    cases ys with
    | nil => simp [cmp]
    | cons y ys =>
      simp only [cmp]
      by_cases h1 : x < y
      · simp [h1]
      · by_cases h2 : y < x
        · simp [h1, h2]
        · simp [h1, h2, ih ys]

end Go.Proofs.Ythliamoeplgblaa
