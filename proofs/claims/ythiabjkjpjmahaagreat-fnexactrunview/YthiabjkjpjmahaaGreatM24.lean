/- Several texts of one proof, in build order: TyA, Rng, Rows1, RngS, PlainR. -/
import Derived.Test.YthiabjkjpjmahaaGreatM21
import Derived.Test.YthiabjkjpjmahaaGreatM6
import Derived.RangeFuncNested
import Derived.RangeFuncCalls
import Derived.RangeFuncLeaves
import Derived.RangeFuncBound
import Derived.Shelf.Abstract
import Derived.Test.YthiabjkjpjmahaaGreatRows
import Derived.Test.YthiabjkjpjmahaaGreatM4
import Derived.WalkKit
import Derived.OwnWalkIn
import Derived.TacticsInMore
import Derived.LoopNIn
import Derived.LoopIn
import Derived.OrdersIn
import Derived.Test.YthiabjkjpjmahaaGreatM12

/- What a type assertion answers, for each kind of part. -/
namespace Go.Proofs.YthiabjkjpjmahaaGreat
open Go.RowKit

@[go_sem] theorem as1_2 (v : Value) (w : World) : (Instr.typeAssert (.iface 152 v) 110 154 true).run Tryz.prog w = .ok (.tuple #[.agg #[.int .i64 0, .slice none 0 0], .bool false]) w := by kernel_rfl
@[go_sem] theorem as2_2 (v : Value) (w : World) : (Instr.typeAssert (.iface 154 v) 110 154 true).run Tryz.prog w = .ok (.tuple #[v, .bool true]) w := by kernel_rfl
@[go_sem] theorem as3_2 (v : Value) (w : World) : (Instr.typeAssert (.iface 156 v) 110 154 true).run Tryz.prog w = .ok (.tuple #[.agg #[.int .i64 0, .slice none 0 0], .bool false]) w := by kernel_rfl
@[go_sem] theorem as4_2 (v : Value) (w : World) : (Instr.typeAssert (.iface 158 v) 110 154 true).run Tryz.prog w = .ok (.tuple #[.agg #[.int .i64 0, .slice none 0 0], .bool false]) w := by kernel_rfl
@[go_sem] theorem as5_2 (v : Value) (w : World) : (Instr.typeAssert (.iface 160 v) 110 154 true).run Tryz.prog w = .ok (.tuple #[.agg #[.int .i64 0, .slice none 0 0], .bool false]) w := by kernel_rfl
@[go_sem] theorem as6_2 (v : Value) (w : World) : (Instr.typeAssert (.iface 161 v) 110 154 true).run Tryz.prog w = .ok (.tuple #[.agg #[.int .i64 0, .slice none 0 0], .bool false]) w := by kernel_rfl
@[go_sem] theorem as7_2 (v : Value) (w : World) : (Instr.typeAssert (.iface 163 v) 110 154 true).run Tryz.prog w = .ok (.tuple #[.agg #[.int .i64 0, .slice none 0 0], .bool false]) w := by kernel_rfl
@[go_sem] theorem as1_4 (v : Value) (w : World) : (Instr.typeAssert (.iface 152 v) 110 158 true).run Tryz.prog w = .ok (.tuple #[.agg #[.int .i64 0, .int .i64 0, .slice none 0 0], .bool false]) w := by kernel_rfl
@[go_sem] theorem as2_4 (v : Value) (w : World) : (Instr.typeAssert (.iface 154 v) 110 158 true).run Tryz.prog w = .ok (.tuple #[.agg #[.int .i64 0, .int .i64 0, .slice none 0 0], .bool false]) w := by kernel_rfl
@[go_sem] theorem as3_4 (v : Value) (w : World) : (Instr.typeAssert (.iface 156 v) 110 158 true).run Tryz.prog w = .ok (.tuple #[.agg #[.int .i64 0, .int .i64 0, .slice none 0 0], .bool false]) w := by kernel_rfl
@[go_sem] theorem as4_4 (v : Value) (w : World) : (Instr.typeAssert (.iface 158 v) 110 158 true).run Tryz.prog w = .ok (.tuple #[v, .bool true]) w := by kernel_rfl
@[go_sem] theorem as5_4 (v : Value) (w : World) : (Instr.typeAssert (.iface 160 v) 110 158 true).run Tryz.prog w = .ok (.tuple #[.agg #[.int .i64 0, .int .i64 0, .slice none 0 0], .bool false]) w := by kernel_rfl
@[go_sem] theorem as6_4 (v : Value) (w : World) : (Instr.typeAssert (.iface 161 v) 110 158 true).run Tryz.prog w = .ok (.tuple #[.agg #[.int .i64 0, .int .i64 0, .slice none 0 0], .bool false]) w := by kernel_rfl
@[go_sem] theorem as7_4 (v : Value) (w : World) : (Instr.typeAssert (.iface 163 v) 110 158 true).run Tryz.prog w = .ok (.tuple #[.agg #[.int .i64 0, .int .i64 0, .slice none 0 0], .bool false]) w := by kernel_rfl
@[go_sem] theorem as1_5 (v : Value) (w : World) : (Instr.typeAssert (.iface 152 v) 110 160 true).run Tryz.prog w = .ok (.tuple #[.agg #[.int .i64 0, .int .i64 0], .bool false]) w := by kernel_rfl
@[go_sem] theorem as2_5 (v : Value) (w : World) : (Instr.typeAssert (.iface 154 v) 110 160 true).run Tryz.prog w = .ok (.tuple #[.agg #[.int .i64 0, .int .i64 0], .bool false]) w := by kernel_rfl
@[go_sem] theorem as3_5 (v : Value) (w : World) : (Instr.typeAssert (.iface 156 v) 110 160 true).run Tryz.prog w = .ok (.tuple #[.agg #[.int .i64 0, .int .i64 0], .bool false]) w := by kernel_rfl
@[go_sem] theorem as4_5 (v : Value) (w : World) : (Instr.typeAssert (.iface 158 v) 110 160 true).run Tryz.prog w = .ok (.tuple #[.agg #[.int .i64 0, .int .i64 0], .bool false]) w := by kernel_rfl
@[go_sem] theorem as5_5 (v : Value) (w : World) : (Instr.typeAssert (.iface 160 v) 110 160 true).run Tryz.prog w = .ok (.tuple #[v, .bool true]) w := by kernel_rfl
@[go_sem] theorem as6_5 (v : Value) (w : World) : (Instr.typeAssert (.iface 161 v) 110 160 true).run Tryz.prog w = .ok (.tuple #[.agg #[.int .i64 0, .int .i64 0], .bool false]) w := by kernel_rfl
@[go_sem] theorem as7_5 (v : Value) (w : World) : (Instr.typeAssert (.iface 163 v) 110 160 true).run Tryz.prog w = .ok (.tuple #[.agg #[.int .i64 0, .int .i64 0], .bool false]) w := by kernel_rfl
@[go_sem] theorem as1_7 (v : Value) (w : World) : (Instr.typeAssert (.iface 152 v) 110 163 true).run Tryz.prog w = .ok (.tuple #[.agg #[.int .i64 0], .bool false]) w := by kernel_rfl
@[go_sem] theorem as2_7 (v : Value) (w : World) : (Instr.typeAssert (.iface 154 v) 110 163 true).run Tryz.prog w = .ok (.tuple #[.agg #[.int .i64 0], .bool false]) w := by kernel_rfl
@[go_sem] theorem as3_7 (v : Value) (w : World) : (Instr.typeAssert (.iface 156 v) 110 163 true).run Tryz.prog w = .ok (.tuple #[.agg #[.int .i64 0], .bool false]) w := by kernel_rfl
@[go_sem] theorem as4_7 (v : Value) (w : World) : (Instr.typeAssert (.iface 158 v) 110 163 true).run Tryz.prog w = .ok (.tuple #[.agg #[.int .i64 0], .bool false]) w := by kernel_rfl
@[go_sem] theorem as5_7 (v : Value) (w : World) : (Instr.typeAssert (.iface 160 v) 110 163 true).run Tryz.prog w = .ok (.tuple #[.agg #[.int .i64 0], .bool false]) w := by kernel_rfl
@[go_sem] theorem as6_7 (v : Value) (w : World) : (Instr.typeAssert (.iface 161 v) 110 163 true).run Tryz.prog w = .ok (.tuple #[.agg #[.int .i64 0], .bool false]) w := by kernel_rfl
@[go_sem] theorem as7_7 (v : Value) (w : World) : (Instr.typeAssert (.iface 163 v) 110 163 true).run Tryz.prog w = .ok (.tuple #[v, .bool true]) w := by kernel_rfl

end Go.Proofs.YthiabjkjpjmahaaGreat

/- A function that hands out weighted rows, and a range over it: what it promises, and the law for its caller. No Go function is spoken of here. -/
namespace Go.Proofs.YthiabjkjpjmahaaGreat
open Go.RowKit Go.Shelf

/-- The row a lies outside the blocks lo .. hi - 1, or is empty. -/
def Far (lo hi : Nat) (a : Option Addr) (zs : List Int) : Prop := zs = [] ∨ ∃ p, a = some p ∧ (p.block < lo ∨ hi ≤ p.block)
theorem Far.mono {lo hi hi' : Nat} {a : Option Addr} {zs : List Int} (h : Far lo hi a zs) (hh : hi' ≤ hi) : Far lo hi' a zs := h.imp id fun ⟨p, e, c⟩ => ⟨p, e, c.imp id (Nat.le_trans hh)⟩
theorem At.far_low {w : World} {a : Option Addr} {zs : List Int} (h : At w a zs) {lo hi : Nat} (hl : w.heap.size ≤ lo) : Far lo hi a zs := by
  rcases h with rfl | ⟨b, off, rfl, hc⟩
  · exact .inl rfl
  · by_cases hz : zs = []
    · exact .inl hz
    · have hlt := World.block_lt_of_cell? _ _ (hc 0 (List.length_pos_iff.2 hz))
      exact .inr ⟨_, rfl, .inl (Nat.lt_of_lt_of_le hlt hl)⟩
theorem far_owned {w : World} {base : Nat} {e : TypeId} {a : Option Addr} {n c : Nat} {zs : List Int} (h : w.ownsRow base e 1 (.slice a n c) n (zs.map (.int .i64))) {lo hi : Nat} (hh : hi ≤ base) : Far lo hi a zs := by
  rcases h.2 with ⟨_, hx⟩ | ⟨g, cap, cur, e, hb, _⟩
  · have h1 := h.1
    rw [hx] at h1
    simp only [List.length_map, Nat.zero_mul] at h1
    exact .inl (List.eq_nil_of_length_eq_zero h1)
  · cases e
    exact .inr ⟨_, rfl, .inr (Nat.le_trans hh hb)⟩
theorem At.far {lo hi : Nat} {w w' : World} {a : Option Addr} {zs : List Int} (h : At w a zs) (hf : Far lo hi a zs) (hap : Apart lo hi w w') : At w' a zs := by
  rcases h with rfl | ⟨b, off, rfl, hc⟩
  · exact .inl rfl
  · rcases hf with rfl | ⟨p, e, hp⟩
    · exact .inl rfl
    · cases e
      exact .inr ⟨b, off, rfl, fun i hi => hap.cell (hc i hi) hp⟩

/-- The function value (g, lb) calls yield with the rows xs, one by one, as long as yield says yes: all that it reads lies below w's end; a round may turn what lies from n₀ on and lay ahead of the call; behind it all is as each round leaves it. -/
def Hands (P : Program) (g : Nat) (lb : Array Value) (xs : List WRow) (w : World) : Prop :=
  ∀ (n₀ l : Nat) (J : Nat → World → Prop) (W : World), w.heap.size ≤ n₀ → n₀ ≤ W.heap.size → Below w.heap.size w W →
    (∀ k A B, Below W.heap.size A B → J k A → J k B) →
    (∀ k W1 a n c, k < xs.length → J k W1 → W.heap.size ≤ W1.heap.size → (wat xs k).1.length = n → (a = none → c = 0) → At W1 a (wat xs k).1 → Far n₀ W.heap.size a (wat xs k).1 →
      YieldAt Fence.wide 0 P l #[.agg #[.slice a n c], .int .i64 (wat xs k).2] W1 fun e W' => e = .returned (.bool true) ∧ J (k + 1) W' ∧ Apart n₀ W.heap.size W1 W') →
    J 0 W →
    CallsIn Fence.wide 0 P g (#[.func (.yield l) #[] #[]] ++ lb) W fun e W' => (∃ v, e = .returned v) ∧ J xs.length W' ∧ Apart n₀ W.heap.size W W'

theorem Hands.later {P : Program} {g : Nat} {lb : Array Value} {xs : List WRow} {w w' : World} (h : Hands P g lb xs w) (hb : Below w.heap.size w w') : Hands P g lb xs w' :=
  fun n₀ l J W h1 h2 h3 hJ hY h0 => h n₀ l J W (Nat.le_trans hb.size h1) h2 (hb.trans (h3.mono hb.size)) hJ hY h0

/-- One block that holds no cells has turned. -/
structure Turned (l : Nat) (W W' : World) : Prop where
  grown : W.grownBy W' (some l)
  loop : ∃ r, W.heap[l]? = some (.loop r)
  size : W'.heap.size = W.heap.size
theorem Turned.cell {l : Nat} {W W' : World} (h : Turned l W W') {p : Addr} {v : Value} (hc : W.cell? p = some v) : W'.cell? p = some v := by
  obtain ⟨r, hr⟩ := h.loop
  refine h.grown.cell hc (fun e => ?_)
  simp only [Option.some.injEq] at e
  rw [World.cell?, e, hr] at hc
  simp at hc
theorem Turned.frozen {l : Nat} {W W' : World} (h : Turned l W W') {p : Addr} {v : Value} (hc : W.cell? p = some v) : W'.frozen? p = W.frozen? p := by
  obtain ⟨r, hr⟩ := h.loop
  refine World.frozen?_of_block (h.grown.block _ (World.block_lt_of_cell? _ _ hc) (fun e => ?_))
  simp only [Option.some.injEq] at e
  rw [World.cell?, e, hr] at hc
  simp at hc
theorem Turned.at {l : Nat} {W W' : World} (h : Turned l W W') {a : Option Addr} {zs : List Int} (ha : At W a zs) : At W' a zs := by
  rcases ha with ha | ⟨b, off, rfl, hc⟩
  · exact .inl ha
  · exact .inr ⟨b, off, rfl, fun i hi => h.cell (hc i hi)⟩
theorem Turned.below {l B : Nat} {W W' : World} (h : Turned l W W') (hB : B ≤ l) : Below B W W' :=
  ⟨h.grown.os, h.grown.tape, h.grown.output, h.grown.size, fun k hk => by
    obtain ⟨r, hr⟩ := h.loop
    have hlt := (Array.getElem?_eq_some_iff.1 hr).1
    exact h.grown.block k (by omega) (fun e => by simp only [Option.some.injEq] at e; omega)⟩
theorem turned_put {l : Nat} {W : World} {r : Loop} (h : W.heap[l]? = some (.loop r)) (o : Obj) : Turned l W (W.putObj l o) := ⟨grownBy_putObj' W l o, ⟨r, h⟩, by simp⟩

section
variable {P : Program} {Q : Exit → Act → World → Prop}

/-- How a round is walked: the assignments, then the body, which always goes on. -/
def RoundWalk (P : Program) (xs : List WRow) (p0 p1 : Tmp) (assign body : Code) (tmps : Array Value) (I : Nat → World → Prop) (n₀ N : Nat) : Prop :=
  ∀ (l k : Nat) (W1 : World) (b : Option Addr) (n c : Nat), N ≤ l → k < xs.length → I k W1 → N ≤ W1.heap.size → (∃ r, W1.heap[l]? = some (.loop r)) → (wat xs k).1.length = n → (b = none → c = 0) → At W1 b (wat xs k).1 → Far n₀ N b (wat xs k).1 →
    assign.wpIn (Fence.wide.inRound l) 0 P (Exit.then (fun a' W2 => Below W1.heap.size W1 W2 ∧ ∀ W3, Turned l W2 W3 → (∃ r, W3.heap[l]? = some (.loop r)) →
      body.wpIn (Fence.wide.inRound l) 0 P (fun e _ W4 => e = .normal ∧ I (k + 1) W4 ∧ Apart n₀ N W3 W4) a' W3) (fun _ _ _ => False))
      { tmps := (tmps.setIfInBounds p0 (.agg #[.slice b n c])).setIfInBounds p1 (.int .i64 (wat xs k).2), defers := [] } W1

theorem zip_two (t : Array Value) (p0 p1 : Tmp) (u v : Value) : (#[p0, p1].zip #[u, v]).foldl (fun tmps x => match x with | (t, a) => tmps.setIfInBounds t a) t = (t.setIfInBounds p0 u).setIfInBounds p1 v := by simp

theorem round_core {xs : List WRow} {p0 p1 : Tmp} {assign body : Code} {a : Act} {I : Nat → World → Prop} {n₀ N l N' : Nat} {fn : FuncId} {D : Nat} {o : Obj} (hNl : N ≤ l) (hlN : l < N') (hDl : D ≠ l) (hND : N ≤ D) (hDN : D < N') (_hn₀ : n₀ ≤ N)
    (rec : LoopState → Option Code → Loop) (hrec : ∀ s j, (rec s j).params = #[p0, p1] ∧ (rec s j).tmps = a.tmps ∧ (rec s j).fn = fn ∧ (rec s j).assign = assign ∧ (rec s j).body = body ∧ (rec s j).state = s ∧
      (∀ s', { rec s j with state := s' } = rec s' j) ∧ (∀ s' j', { rec s j with state := s', pending := j' } = rec s' j'))
    (hI : ∀ k A B, Below N A B → I k A → I k B) (hround : RoundWalk P xs p0 p1 assign body a.tmps I n₀ N)
    (k : Nat) (W : World) (b : Option Addr) (n c : Nat) (hk : k < xs.length) (hJ : I k W ∧ W.heap[l]? = some (.loop (rec .ready none)) ∧ W.heap[D]? = some o) (hsz : N' ≤ W.heap.size) (hn : (wat xs k).1.length = n) (hnil : b = none → c = 0) (hat : At W b (wat xs k).1) (hfar : Far n₀ N' b (wat xs k).1) :
    YieldAt Fence.wide 0 P l #[.agg #[.slice b n c], .int .i64 (wat xs k).2] W fun e W' => e = .returned (.bool true) ∧ (I (k + 1) W' ∧ W'.heap[l]? = some (.loop (rec .ready none)) ∧ W'.heap[D]? = some o) ∧ Apart n₀ N' W W' := by
  obtain ⟨hi, hl, hd⟩ := hJ
  obtain ⟨h1, h2, h3, h4, h5, _, h7, h8⟩ := hrec .ready none
  have hy := run_yield (P := P) (args := #[.agg #[.slice b n c], .int .i64 (wat xs k).2]) hl (by rw [h1]; rfl)
  rw [h1, h2, h3, h4, h5] at hy
  refine ⟨fn, _, assign, body, hy, roundIn_of_wpIn trivial ?_⟩
  clear hy
  rw [zip_two]
  refine wpIn_mono (hround l k W b n c hNl hk hi (by omega) ⟨_, hl⟩ hn hnil hat (hfar.mono (by omega))) ?_
  intro e a' W2 hq
  cases e with
  | normal =>
    obtain ⟨hb2, hbody⟩ := hq
    have hl2 : W2.heap[l]? = some (.loop (rec .ready none)) := (hb2.block l (by omega)).trans hl
    have hd2 : W2.heap[D]? = some o := (hb2.block D (by omega)).trans hd
    have hbr := run_beginRound (P := P) hl2 (hrec .ready none).2.2.2.2.2.1
    rw [h7 .busy] at hbr
    refine ⟨_, hbr, ?_⟩
    have hlt2 : l < W2.heap.size := by have := hb2.size; omega
    have hT := turned_put hl2 (.loop (rec .busy none))
    have hl3 : (W2.putObj l (.loop (rec .busy none))).heap[l]? = some (.loop (rec .busy none)) := World.putObj_heap_same hlt2
    have hd3 : (W2.putObj l (.loop (rec .busy none))).heap[D]? = some o := (World.putObj_heap_other hDl).trans hd2
    refine wpIn_mono (hbody _ hT ⟨_, hl3⟩) ?_
    intro e' a'' W4 hq'
    obtain ⟨rfl, hi4, hap⟩ := hq'
    have hs3 : (W2.putObj l (.loop (rec .busy none))).heap.size = W2.heap.size := hT.size
    have hl4 : W4.heap[l]? = some (.loop (rec .busy none)) := (hap.block l (by omega) (.inr hNl)).trans hl3
    have hd4 : W4.heap[D]? = some o := (hap.block D (by have := hb2.size; omega) (.inr hND)).trans hd3
    have her := run_endRound (P := P) none hl4
    have e9 := (hrec .busy none).2.2.2.2.2.2.2
    simp only [Option.isNone_none, if_true] at her
    rw [e9 .ready none] at her
    have hT4 := turned_put hl4 (.loop (rec .ready none))
    have hlt4 : l < W4.heap.size := (Array.getElem?_eq_some_iff.1 hl4).1
    refine ⟨_, _, her, rfl, ⟨hI _ _ _ (hT4.below hNl) hi4, World.putObj_heap_same hlt4, (World.putObj_heap_other hDl).trans hd4⟩, ?_⟩
    refine ⟨hT4.grown.os.trans (hap.os.trans (hT.grown.os.trans hb2.os)), hT4.grown.tape.trans (hap.tape.trans (hT.grown.tape.trans hb2.tape)), hT4.grown.output.trans (hap.output.trans (hT.grown.output.trans hb2.output)), ?_, fun j hj hc => ?_⟩
    · have := hb2.size; have := hap.size; have := hT4.grown.size; omega
    · have hjl : j ≠ l := by omega
      have z2 := hb2.size
      have z4 := hap.size
      rw [hT4.grown.block j (by omega) (fun e => hjl (by simpa using e)), hap.block j (by omega) (by omega), hT.grown.block j (by omega) (fun e => hjl (by simpa using e)), hb2.block j hj]
  | _ => exact hq.elim

/-- **A range over such a function**, in a function's own body. -/
theorem range_hands {g : Operand} {p0 p1 : Tmp} {assign body : Code} {a : Act} {w w0 : World} {gf : Nat} {lb : Array Value} {xs : List WRow} (hg : a.eval g = .func (.func gf) #[] lb) (eg : ∀ args w, (callFunc gf args).run P w = .ok (.enter gf args) w)
    (hH : Hands P gf lb xs w0) (hw : Below w0.heap.size w0 w) (n₀ : Nat) (hn0 : w0.heap.size ≤ n₀) (hn1 : n₀ ≤ w.heap.size) (I : Nat → World → Prop) (hI : ∀ k A B, Below w.heap.size A B → I k A → I k B) (h0 : I 0 w)
    (hround : RoundWalk P xs p0 p1 assign body a.tmps I n₀ w.heap.size)
    (hdone : ∀ D W, w.heap.size ≤ D → I xs.length W → Apart n₀ w.heap.size w W → W.heap[D]? = some (.deferred (some [])) → Q .normal { a with defers := { target := .collected D, args := #[] } :: a.defers } W) :
    (Code.rangeFunc g #[p0, p1] assign body).wpIn Fence.wide 0 P Q a w := by
  refine wpIn_rangeFunc ?_
  intro fn _
  obtain ⟨rec, hrec⟩ : ∃ rec : LoopState → Option Code → Loop, rec = fun st pe => { state := st, pending := pe, fn, tmps := a.tmps, params := #[p0, p1], assign, body, defers := w.heap.size } := ⟨_, rfl⟩
  obtain ⟨W1, hW1⟩ : ∃ W1, W1 = (w.alloc (.deferred (some []))).alloc (.loop (rec .ready none)) := ⟨_, rfl⟩
  have z1 : W1.heap.size = w.heap.size + 1 + 1 := by rw [hW1]; simp
  have hL : W1.heap[w.heap.size + 1]? = some (.loop (rec .ready none)) := by
    rw [hW1]; have := heap_alloc_new (w.alloc (.deferred (some []))) (.loop (rec .ready none)); rwa [World.size_alloc] at this
  have hD : W1.heap[w.heap.size]? = some (.deferred (some [])) := by
    rw [hW1]; exact (Below.heap_alloc _ _ _ (by simp)).trans (heap_alloc_new w _)
  have hb1 : Below w.heap.size w W1 := by rw [hW1]; exact ((Below.refl _ w).alloc (Nat.le_refl _) _).alloc (by simp) _
  refine ⟨w.heap.size + 1, [{ target := .collected w.heap.size, args := #[] }], W1, { target := .fn (.func gf) lb, args := #[.func (.yield (w.heap.size + 1)) #[] #[]] }, W1, gf, #[.func (.yield (w.heap.size + 1)) #[] #[]] ++ lb, W1, ?_, ?_, fun _ _ => trivial, ?_, fun h => by simp [Fence.wide] at h, ?_⟩
  · rw [hW1, hrec]; exact run_enterLoop_outer _ _ _ _ _
  · simp only [resolve, hg]
    simp [go_sem]
  · simp [invoke, go_sem, eg]
  · refine (hH n₀ (w.heap.size + 1) (fun k W => I k W ∧ W.heap[w.heap.size + 1]? = some (.loop (rec .ready none)) ∧ W.heap[w.heap.size]? = some (.deferred (some []))) W1 hn0 (by omega) (hw.trans (hb1.mono hw.size))
      (fun k A B hb ⟨j1, j2, j3⟩ => ⟨hI k A B (hb.mono (by omega)) j1, (hb.block _ (by omega)).trans j2, (hb.block _ (by omega)).trans j3⟩)
      (fun k W b n c hk hJ hsz hn hnil hat hfar => round_core (N' := W1.heap.size) (by omega) (by omega) (by omega) (Nat.le_refl _) (by omega) hn1 rec (fun s j => by rw [hrec]; exact ⟨rfl, rfl, rfl, rfl, rfl, rfl, fun _ => rfl, fun _ _ => rfl⟩) hI hround k W b n c hk hJ hsz hn hnil hat hfar)
      ⟨hI 0 w W1 hb1 h0, hL, hD⟩).mono ?_
    rintro e W2 ⟨⟨v, rfl⟩, ⟨hi, hl, hd⟩, hap⟩
    have hst : (rec .ready none).state ≠ .busy := by rw [hrec]; simp
    have hel : (Instr.endLoop (w.heap.size + 1)).run P W2 = .ok none (W2.putObj (w.heap.size + 1) (.loop { rec .ready none with state := .exhausted })) := by
      have h := run_endLoop (P := P) hl hst
      rw [h, hrec]
    have hT := turned_put hl (.loop { rec .ready none with state := .exhausted })
    refine ⟨none, _, hel, hdone w.heap.size _ (Nat.le_refl _) (hI _ _ _ (hT.below (B := w.heap.size) (Nat.le_succ _)) hi) ?_ ((World.putObj_heap_other (show w.heap.size ≠ w.heap.size + 1 by omega)).trans hd)⟩
    refine ⟨hT.grown.os.trans (hap.os.trans hb1.os), hT.grown.tape.trans (hap.tape.trans hb1.tape), hT.grown.output.trans (hap.output.trans hb1.output), ?_, fun j hj hc => ?_⟩
    · have := hap.size; have := hT.grown.size; omega
    · have z2 := hap.size
      rw [hT.grown.block j (by omega) (fun e => by simp only [Option.some.injEq] at e; omega), hap.block j (by omega) (by omega), hb1.block j (by omega)]

end
end Go.Proofs.YthiabjkjpjmahaaGreat

/- Contracts of impl.rowsOf and of the function that it hands back. -/
namespace Go.Proofs.YthiabjkjpjmahaaGreat
open Go.RowKit Go.Shelf

attribute [local go_sem] Oper.semAt_some

set_option maxRecDepth 100000 in
set_option maxHeartbeats 2000000 in
theorem rowsOf1_hands (T : Nat) (a : Option Addr) (n c : Nat) (ts : List WRow) (w : World) (hz : ts.length = n) (hn : n ≤ 1048576) (hT : w.cell? ⟨T, 1, none⟩ = some (.slice a n c)) (ha : AtM w a ts) :
    Hands Tryz.prog 164 #[.pointer (some ⟨T, 0, none⟩)] ts w := by
  intro n₀ l J W h1 h2 hb hJ hY h0
  refine callsIn_of_wp Tryz.func164 rfl trivial ?_
  simp only [Tryz.ntmps164, List.size_toArray, List.length_cons, List.length_nil, Nat.reduceAdd, Nat.reduceSub, Array.replicate_succ, Array.replicate_zero, List.push_toArray, List.append_toArray, List.nil_append, List.cons_append]
  have hTW := cell_later hb hT
  gi_wp2
  gi_loopw [8] (fun i wr => ∃ (k : Nat), k ≤ n ∧ i = .int .i64 k ∧ J k wr ∧ Apart n₀ W.heap.size W wr) (fun i _ => n - (intOf i).toNat)
  case atStart => exact ⟨0, Nat.zero_le _, rfl, h0, Apart.refl _ _ _⟩
  case round =>
    obtain ⟨k, hk, rfl, hj, hap⟩ := hrel
    by_cases hlt : k < n
    · have hbr : Below w.heap.size w wr := hb.trans (hap.below hb.size h1)
      obtain ⟨b, off, rfl, hc⟩ := ha.some (by omega)
      obtain ⟨q, dd, hcx0, hwx0, hm, hnil, hat0⟩ := hc k (by omega)
      have hfar : Far n₀ W.heap.size q (wat ts k).1 := hat0.far_low h1
      have hcx := cell_later hbr hcx0
      have hwx := cell_later hbr hwx0
      have hat := hat0.below hbr
      clear hcx0 hwx0 hat0
      have hki : (k : Int) < (n : Int) := by omega
      obtain ⟨V, hV⟩ : ∃ V, V = wr.alloc (.cells #[.slice q (wat ts k).1.length dd, .int .i64 (wat ts k).2] 82) := ⟨_, rfl⟩
      have hbV : Below wr.heap.size wr V := by rw [hV]; exact (Below.refl _ _).alloc (Nat.le_refl _) _
      have c3 : V.cell? ⟨wr.heap.size, 0, none⟩ = some (.slice q (wat ts k).1.length dd) := by rw [hV]; exact pair0 wr _ _ _
      have c4 : V.cell? ⟨wr.heap.size, 1, none⟩ = some (.int .i64 (wat ts k).2) := by rw [hV]; exact pair1 wr _ _ _
      have zV : W.heap.size ≤ V.heap.size := Nat.le_trans hap.size hbV.size
      obtain ⟨fn, tmps, assign, body, hy, hR⟩ := hY k V q _ dd (by omega) (hJ k wr V (hbV.mono hap.size) hj) zV rfl hnil (hat.below hbV) hfar
      have hapV : Apart n₀ W.heap.size W V := hap.trans ⟨hbV.os, hbV.tape, hbV.output, hbV.size, fun i hi _ => hbV.block i hi⟩
      generalize wat ts k = Y at *
      obtain ⟨ys, x⟩ := Y
      simp only at hcx hwx hm hat c3 c4 hy hV
      generalize ys.length = m at *
      subst hV
      gi_wp2
      refine ⟨rfl, hR.mono ?_⟩
      rintro e W3 ⟨rfl, hJ3, hap3⟩
      have HA3 := Hid.mk (hapV.trans hap3)
      have HJ3 := Hid.mk hJ3
      clear hJ3 hap3 hapV hR hy hcx hwx c3 c4 hat hap hj hc
      gi_wp2
      go_roundw
      case rel => exact ⟨k + 1, by omega, by go_num, HJ3.out, HA3.out⟩
      case measure => simp [intOf]; omega
    · obtain rfl : k = n := by omega
      gi_wp2
      go_end0
      rw [hz]
      exact ⟨⟨_, rfl⟩, hj, hap⟩

theorem rowsOf_any (a : Option Addr) (n c : Nat) (p : Int) (w : World) :
    Calls Tryz.prog 141 #[.agg #[.int .i64 p, .slice a n c]] w fun e w' => e = .returned (.func (.func 164) #[] #[.pointer (some ⟨w.heap.size, 0, none⟩)]) ∧ w' = w.alloc (.cells #[.int .i64 p, .slice a n c] 32) := by
  go_enter Tryz.func141, Tryz.ntmps141
  go_wp2
  go_ret
  exact ⟨rfl, rfl⟩

end Go.Proofs.YthiabjkjpjmahaaGreat

/- A region that draws its order, within a round: as everywhere, where no operation of it is a 'defer'. -/
namespace Go.Proofs.YthiabjkjpjmahaaGreat
open Go.RowKit Go.Shelf

section
variable {P : Program} {ops : Array Oper} {Q : Exit → Act → World → Prop} {md : Region.Mode}

theorem opIn_round {F : Fence} {n l i : Nat} {K : Act → World → Prop} {a : Act} {w : World} (hro : F.round = none) (hnd : ∀ (i : Nat) (o : Oper), ops[i]? = some o → ∀ c, o.op ≠ .defer c)
    (h : wpOpIn F n P ops Q i K a w) : wpOpIn (F.inRound l) n P ops Q i K a w := by
  unfold wpOpIn at *
  cases ho : ops[i]? with
  | none => simpa [ho] using h
  | some o =>
    simp only [ho] at h ⊢
    split
    · rename_i hw
      simp only [hw, if_true] at h
      obtain ⟨h1, h2⟩ := h
      refine ⟨h1, ?_⟩
      have e1 : Oper.semAt (F.inRound l).round a.eval o = execOp a.eval o := Oper.semAt_some l a.eval o (hnd i o ho)
      have e2 : Oper.semAt F.round a.eval o = execOp a.eval o := by rw [hro]; rfl
      rw [e1]
      rw [e2] at h2
      exact h2
    · rename_i hw
      simp only [hw] at h
      exact h

theorem anyIn_round {F : Fence} {n l : Nat} (hro : F.round = none) (hnd : ∀ (i : Nat) (o : Oper), ops[i]? = some o → ∀ c, o.op ≠ .defer c) : ∀ (fuel : Nat) (listed : Array Bool) (a : Act) (w : World),
    wpAnyIn F n P md ops Q fuel listed a w → wpAnyIn (F.inRound l) n P md ops Q fuel listed a w
  | 0, _, _, _, h => h
  | fuel + 1, _, _, _, h => ⟨h.1, fun i hi => opIn_round hro hnd (wpOpIn_mono (fun a' w' h' => anyIn_round hro hnd fuel _ a' w' h') (h.2 i hi))⟩

/-- No operation is a 'defer'. -/
def noDefer (ops : Array Oper) : Bool := ops.toList.all fun o => match o.op with | .defer _ => false | _ => true
theorem noDefer_spec (h : noDefer ops = true) : ∀ (i : Nat) (o : Oper), ops[i]? = some o → ∀ c, o.op ≠ .defer c := fun i o ho c e => by
  have := List.all_eq_true.1 h o (by rw [Array.mem_toList_iff]; exact Array.mem_of_getElem? ho)
  rw [e] at this
  cases this

theorem region_round {id l : Nat} {a : Act} {w : World} (hm : P.follows .mixedOrders = true) (hnd : noDefer ops = true)
    (h : wpAnyIn Fence.wide 0 P .any ops Q ops.size (Array.replicate ops.size false) a w.drew) : (Code.region id ops true).wpIn (Fence.wide.inRound l) 0 P Q a w :=
  wpIn_region_any hm (anyIn_round rfl (noDefer_spec hnd) _ _ _ _ h)
end
end Go.Proofs.YthiabjkjpjmahaaGreat

/- Contracts of impl.plainRows and of the function that it hands back. -/
namespace Go.Proofs.YthiabjkjpjmahaaGreat
open Go.RowKit Go.Shelf

attribute [local go_sem] Oper.semAt_some

/-- A row that is there, once. -/
def plainG (t : WRow) : Option WRow := if 0 < t.2 then some (t.1, 1) else none

/-- What a function that passes rows on holds while it does. -/
structure Passing (n₀ : Nat) (J : Nat → World → Prop) (W : World) (bx : Nat → Nat → Prop) (N : Nat) (g : WRow → Option WRow) (xs : List WRow) (v : Value) (t : TypeId) (k : Nat) (A : World) : Prop where
  told : J (outW g xs k) A
  box : A.heap[W.heap.size]? = some (.cells #[v] t (0, 0))
  low : Apart n₀ W.heap.size W A
  size : N ≤ A.heap.size

theorem Passing.keep {n₀ : Nat} {J : Nat → World → Prop} {W : World} {bx : Nat → Nat → Prop} {N : Nat} {g : WRow → Option WRow} {xs : List WRow} {v : Value} {t : TypeId} {k : Nat} {A B : World} (hJ : ∀ k A B, Below W.heap.size A B → J k A → J k B) (hN : W.heap.size < N)
    (h : Passing n₀ J W bx N g xs v t k A) (hb : Below N A B) : Passing n₀ J W bx N g xs v t k B := by
  have hs := h.size
  refine ⟨hJ _ _ _ (hb.mono (by omega)) h.told, (hb.block _ hN).trans h.box, ?_, Nat.le_trans h.size hb.size⟩
  exact ⟨hb.os.trans h.low.os, hb.tape.trans h.low.tape, hb.output.trans h.low.output, Nat.le_trans h.low.size hb.size, fun j hj hc => (hb.block j (by omega)).trans (h.low.block j hj hc)⟩

set_option maxRecDepth 100000 in
set_option maxHeartbeats 4000000 in
theorem plainRows1_hands (T gf : Nat) (lb : Array Value) (xs : List WRow) (w : World) (hT : w.cell? ⟨T, 0, none⟩ = some (.func (.func gf) #[] lb)) (eg : ∀ args w, (callFunc gf args).run Tryz.prog w = .ok (.enter gf args) w) (hH : Hands Tryz.prog gf lb xs w) :
    Hands Tryz.prog 171 #[.pointer (some ⟨T, 0, none⟩)] (xs.filterMap plainG) w := by
  intro n₀ l J W h1 h2 hb hJ hY h0
  refine callsIn_of_wp_marks Tryz.func171 rfl trivial ?_
  simp only [Tryz.ntmps171, List.size_toArray, List.length_cons, List.length_nil, Nat.reduceAdd, Nat.reduceSub, Array.replicate_succ, Array.replicate_zero, List.push_toArray, List.append_toArray, List.nil_append, List.cons_append]
  obtain ⟨W0, hW0⟩ : ∃ W0, W0 = W.alloc (.cells #[.func (.yield l) #[] #[]] 221) := ⟨_, rfl⟩
  have hbW : Below W.heap.size W W0 := by rw [hW0]; exact (Below.refl _ _).alloc (Nat.le_refl _) _
  have z0 : W0.heap.size = W.heap.size + 1 := by rw [hW0]; simp
  have hTW := cell_later hb hT
  have hTL : (W.alloc (.cells #[.func (.yield l) #[] #[]] 221)).cell? ⟨T, 0, none⟩ = some (.func (.func gf) #[] lb) := cell_later ((Below.refl _ _).alloc (Nat.le_refl _) _) hTW
  have I0 : Passing n₀ J W (fun _ _ => True) W0.heap.size plainG xs (.func (.yield l) #[] #[]) 221 0 W0 := by
    refine ⟨hJ 0 W W0 hbW h0, ?_, ⟨hbW.os, hbW.tape, hbW.output, hbW.size, fun j hj _ => hbW.block j hj⟩, Nat.le_refl _⟩
    rw [hW0]; exact heap_alloc_new W _
  gi_wp2
  rw [← hW0]
  clear hW0 hTL
  refine range_hands (gf := gf) (lb := lb) rfl eg hH (hb.trans (hbW.mono hb.size)) n₀ h1 (by omega) _ (fun k A B hB h => h.keep hJ (by omega) hB) I0 ?round ?done
  case round =>
    intro r k W1 b n c hr hkx hI hsz hrec hln hnil hat hfar
    obtain ⟨Y, hYk⟩ : ∃ Y, Y = wat xs k := ⟨_, rfl⟩
    rw [← hYk] at hln hat hfar ⊢
    obtain ⟨ys, x⟩ := Y
    simp only at hln hat hfar
    gi_wp2
    refine ⟨(Below.refl _ _).alloc (Nat.le_refl _) _, fun W3 hT3 _ => ?_⟩
    obtain ⟨W2, hW2⟩ : ∃ W2, W2 = W1.alloc (.cells #[.slice b n c] 80) := ⟨_, rfl⟩
    have hb2 : Below W1.heap.size W1 W2 := by rw [hW2]; exact (Below.refl _ _).alloc (Nat.le_refl _) _
    have cr : W2.cell? ⟨W1.heap.size, 0, none⟩ = some (.slice b n c) := by rw [hW2]; simp
    rw [← hW2] at hT3
    clear hW2
    have hI3 := (hI.keep hJ (by omega) (hb2.mono hsz)).keep hJ (by omega) (hT3.below hr)
    have cr3 := hT3.cell cr
    have cy3 : W3.cell? ⟨W.heap.size, 0, none⟩ = some (.func (.yield l) #[] #[]) := by rw [cell_of_row W3 _ 0 _ _ (0, 0) hI3.box]; rfl
    have hat3 := hT3.at (hat.below hb2)
    clear hI hat cr hT3
    by_cases hx : 0 < x
    · have hgx : plainG (wat xs k) = some (ys, 1) := by rw [← hYk]; exact if_pos hx
      obtain ⟨o1, o2, o3⟩ := outW_some hkx hgx
      obtain ⟨fn, tmps, assign, body, hy, hR⟩ := hY (outW plainG xs k) W3 b n c o2 hI3.told (by have := hI3.size; omega) (by rw [o3]; exact hln) hnil (by rw [o3]; exact hat3) (by rw [o3]; exact hfar.mono (by omega))
      rw [o3] at hy
      simp only at hy
      have HI3 := Hid.mk hI3
      have HO1 := Hid.mk o1
      clear hI3 o1 o3 hgx hYk
      gi_wp2
      refine ⟨rfl, hR.mono ?_⟩
      rintro e W4 ⟨rfl, hJ4, hap4⟩
      have hI3 := HI3.out
      have hfin : Passing n₀ J W (fun _ _ => True) W0.heap.size plainG xs (.func (.yield l) #[] #[]) 221 (k + 1) W4 := by
        refine ⟨by rw [HO1.out]; exact hJ4, (hap4.block _ (by have := hI3.size; omega) (.inr (Nat.le_refl _))).trans hI3.box, hI3.low.trans hap4, Nat.le_trans hI3.size hap4.size⟩
      have hapf : Apart n₀ W0.heap.size W3 W4 := ⟨hap4.os, hap4.tape, hap4.output, hap4.size, fun j hj hc => hap4.block j hj (by omega)⟩
      rw [z0] at hfin hapf
      clear hI3 HI3 hJ4 hap4 hR hy
      gi_wp2
      done
    · have hgx : plainG (wat xs k) = none := by rw [← hYk]; exact if_neg hx
      have o1 := outW_none hkx hgx
      have hxx : x ≤ 0 := by omega
      have hfin : Passing n₀ J W (fun _ _ => True) W0.heap.size plainG xs (.func (.yield l) #[] #[]) 221 (k + 1) W3 := ⟨by rw [o1]; exact hI3.told, hI3.box, hI3.low, hI3.size⟩
      have hapf : Apart n₀ W0.heap.size W3 W3 := Apart.refl _ _ _
      rw [z0] at hfin hapf
      clear hI3 hgx hYk o1
      gi_wp2
      refine ⟨fun _ h => (by cases h), ?_⟩
      gi_wp2
      done
  case done =>
    intro D A hD hI hap hdef
    have hto := hI.told
    rw [outW_all] at hto
    have hDl : D < A.heap.size := (Array.getElem?_eq_some_iff.1 hdef).1
    have hJf := hJ _ A (A.putObj D (.deferred none)) ((Below.refl _ _).grown (grownBy_putObj' A D _) (by omega) (fun j hj => by cases hj; omega)) hto
    have hapf : Apart n₀ W.heap.size W (A.putObj D (.deferred none)) := ⟨hI.low.os, hI.low.tape, hI.low.output, by have := hI.low.size; simp; omega, fun j hj hc => (World.putObj_heap_other (by omega)).trans (hI.low.block j hj hc)⟩
    gi_wp2
    refine ⟨by simp, .inl ⟨_, _, rfl, run_takeDeferred hdef, ?_⟩⟩
    exact ⟨_, results_none rfl _ _ _, ⟨_, rfl⟩, hJf, hapf⟩

end Go.Proofs.YthiabjkjpjmahaaGreat
