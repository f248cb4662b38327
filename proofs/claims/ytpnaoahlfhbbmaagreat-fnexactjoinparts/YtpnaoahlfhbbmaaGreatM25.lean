/- Several texts of one proof, in build order: JpR, JoinQ, RngN, JoinedR, Nought. -/
import Derived.Test.YtpnaoahlfhbbmaaGreatM24
import Derived.Test.YtpnaoahlfhbbmaaGreatM10
import Derived.Test.YtpnaoahlfhbbmaaGreatM15
import Derived.Test.YtpnaoahlfhbbmaaGreatM7
import Derived.Test.YtpnaoahlfhbbmaaGreatM19
import Derived.Test.YtpnaoahlfhbbmaaGreatM14

/- Plain: what JoinParts answers. -/
namespace Go.Proofs.YtpnaoahlfhbbmaaGreat
open Go.RowKit

def tl1 (l : List Tab) (zss : List (List Int)) (i : Nat) : Bool := goodT (tat l i).1 (tat l i).2 && (decide ((tat l i).1 = ((zss.getD i []).length : Int)) && oneB (tat l i).2)
def tkB (l : List Tab) (zss : List (List Int)) (k : Nat) : Bool := (List.range k).all (tl1 l zss)
def jm (C : Nat) (l : List Tab) (zss : List (List Int)) : Nat → List WRow
  | 0 => [(List.replicate C miss, 1)]
  | k + 1 => fitW (zss.getD k []) (jm C l zss k) (tat l k).2
def jok (C : Nat) (l : List Tab) (zss : List (List Int)) (k : Nat) : Bool := (List.range k).all fun i => decide ((jm C l zss (i + 1)).length ≤ 60)
def jpB (l : List Tab) (zss : List (List Int)) (C : Int) : Bool := gpB zss C && (decide (l.length = zss.length) && (tkB l zss l.length && jok C.toNat l zss l.length))
def jpW (l : List Tab) (zss : List (List Int)) (C : Int) : List WRow := jm C.toNat l zss l.length

theorem tkB_succ (l : List Tab) (zss : List (List Int)) (k : Nat) : tkB l zss (k + 1) = (tkB l zss k && tl1 l zss k) := by unfold tkB; rw [List.range_succ, List.all_append]; simp
theorem jok_succ (C : Nat) (l : List Tab) (zss : List (List Int)) (k : Nat) : jok C l zss (k + 1) = (jok C l zss k && decide ((jm C l zss (k + 1)).length ≤ 60)) := by unfold jok; rw [List.range_succ, List.all_append]; simp
theorem tkB_no {l : List Tab} {zss : List (List Int)} {k n : Nat} (hk : k < n) (h : tl1 l zss k = false) : tkB l zss n = false := by
  cases e : tkB l zss n with
  | false => rfl
  | true =>
    unfold tkB at e
    rw [List.all_eq_true] at e
    rw [e k (List.mem_range.2 hk)] at h; exact h
theorem jok_no {C : Nat} {l : List Tab} {zss : List (List Int)} {k n : Nat} (hk : k < n) (h : ¬ (jm C l zss (k + 1)).length ≤ 60) : jok C l zss n = false := by
  cases e : jok C l zss n with
  | false => rfl
  | true =>
    unfold jok at e
    rw [List.all_eq_true] at e
    exact absurd (of_decide_eq_true (e k (List.mem_range.2 hk))) h
theorem tkB_at {l : List Tab} {zss : List (List Int)} {k n : Nat} (h : tkB l zss n = true) (hk : k < n) : tl1 l zss k = true := by
  unfold tkB at h
  rw [List.all_eq_true] at h
  exact h k (List.mem_range.2 hk)
theorem tl1_parts {l : List Tab} {zss : List (List Int)} {k : Nat} (h : tl1 l zss k = true) : (tat l k).1 = ((zss.getD k []).length : Int) ∧ goodT ((zss.getD k []).length : Nat) (tat l k).2 = true ∧ ones (tat l k).2 := by
  unfold tl1 at h
  rw [Bool.and_eq_true, Bool.and_eq_true, decide_eq_true_eq] at h
  obtain ⟨h1, h2, h3⟩ := h
  rw [h2] at h1
  exact ⟨h2, h1, oneB_ones h3⟩
theorem uni_bit : ∀ (zss : List (List Int)) (s i : Nat), (zss.foldl (fun s p => s ||| mk p) s).testBit i = true → s.testBit i = true ∨ ∃ zs ∈ zss, (mk zs).testBit i = true
  | [], s, i, h => .inl h
  | z :: zss, s, i, h => by
    rcases uni_bit zss (s ||| mk z) i h with h1 | ⟨zs, h1, h2⟩
    · rw [Nat.testBit_or, Bool.or_eq_true] at h1
      rcases h1 with h1 | h1
      · exact .inl h1
      · exact .inr ⟨z, List.mem_cons_self, h1⟩
    · exact .inr ⟨zs, List.mem_cons_of_mem _ h1, h2⟩
theorem oth_bit_all : ∀ q : Nat, q < 7 → ∀ s : Nat, s < 64 → oth q s = 0 → ∀ c : Nat, c < q → s.testBit c = true := by decide +kernel
theorem uni_lt {q : Nat} (hq : q ≤ 6) : ∀ (zss : List (List Int)) (s : Nat), s < 64 → (∀ zs ∈ zss, ris (q : Int) zs = true) → zss.foldl (fun s p => s ||| mk p) s < 64
  | [], s, hs, _ => hs
  | z :: zss, s, hs, h => by
    refine uni_lt hq zss (s ||| mk z) ?_ fun zs hz => h zs (List.mem_cons_of_mem _ hz)
    have h1 := mk_limQ (h z List.mem_cons_self)
    have h2 : 2 ^ q ≤ 2 ^ 6 := Nat.pow_le_pow_right (by omega) hq
    exact Nat.or_lt_two_pow (n := 6) hs (by omega)
/-- What good parts are. -/
theorem gpB_parts {zss : List (List Int)} {C : Int} (h : gpB zss C = true) : ∃ q : Nat, C = (q : Int) ∧ 1 ≤ q ∧ q ≤ 6 ∧ 1 ≤ zss.length ∧ zss.length ≤ 8 ∧ (∀ zs ∈ zss, Cls q zs) ∧ ∀ c, c < q → ∃ zs ∈ zss, (c : Int) ∈ zs := by
  unfold gpB at h
  simp only [Bool.and_eq_true, decide_eq_true_eq] at h
  obtain ⟨⟨h1, h2⟩, ⟨h3, h4⟩, h5, h6⟩ := h
  obtain ⟨q, rfl⟩ : ∃ q : Nat, C = (q : Int) := ⟨C.toNat, by omega⟩
  have hr : ∀ zs ∈ zss, ris (q : Int) zs = true := fun zs hz => by
    have := List.all_eq_true.1 h5 zs hz
    unfold prtOk at this
    rw [Bool.and_eq_true] at this
    exact this.1
  refine ⟨q, rfl, by omega, by omega, h3, h4, fun zs hz => ?_, fun c hc => ?_⟩
  · obtain ⟨k1, k2⟩ := risB_mem (hr zs hz)
    exact ⟨k1.imp fun h => Int.ne_of_lt h, fun k hk => by have := k2 k hk; omega⟩
  · rw [Int.toNat_natCast] at h6
    have hb := oth_bit_all q (by omega) (uni zss) (uni_lt (by omega) zss 0 (by omega) hr) h6 c hc
    rcases uni_bit zss 0 c hb with h9 | ⟨zs, hz, h9⟩
    · simp at h9
    · exact ⟨zs, hz, (mk_bit zs (ris_nonneg (hr zs hz)) c).1 h9⟩

/-- What the program holds behind k tables. -/
def JH (C : Nat) (l : List Tab) (zss : List (List Int)) (k : Nat) (cols : List Int) (T : List WRow) : Prop :=
  JSt C cols T (jm C l zss k) ∧ ∀ i, i < k → ∀ c ∈ zss.getD i [], c ∈ cols
theorem JH.start (C : Nat) (l : List Tab) (zss : List (List Int)) : JH C l zss 0 [] [([], 1)] := ⟨JSt.start C, fun _ h => absurd h (Nat.not_lt_zero _)⟩
theorem mem_newC {cols part : List Int} {c : Int} (h : c ∈ part) : c ∈ cols ++ newC cols part := by
  rw [List.mem_append]
  by_cases e : c ∈ cols
  · exact .inl e
  · refine .inr ?_
    unfold newC
    rw [List.mem_filter]
    exact ⟨h, by simp [e]⟩
theorem JH.step {C : Nat} {l : List Tab} {zss : List (List Int)} {k : Nat} {cols : List Int} {T : List WRow} (h : JH C l zss k cols T) (h6 : C ≤ 6) (hp : Cls C (zss.getD k [])) (ht : tl1 l zss k = true) :
    joinB cols.length (tat l k).1 T (tat l k).2 (prs cols (zss.getD k [])) = decide ((jm C l zss (k + 1)).length ≤ 60) ∧ (joinC cols.length (tat l k).1 (prs cols (zss.getD k [])) = (cols ++ newC cols (zss.getD k [])).length) ∧
      ((jm C l zss (k + 1)).length ≤ 60 → JH C l zss (k + 1) (cols ++ newC cols (zss.getD k [])) (joinW T (tat l k).2 (prs cols (zss.getD k [])))) := by
  obtain ⟨t1, t2, t3⟩ := tl1_parts ht
  rw [t1]
  obtain ⟨_, s2, s3⟩ := h.1.step hp h6 t2 t3
  refine ⟨s2, joinC_is, fun h60 => ⟨s3 h60, fun i hi c hc => ?_⟩⟩
  by_cases e : i = k
  · subst e; exact mem_newC hc
  · exact List.mem_append_left _ (h.2 i (by omega) c hc)
theorem JH.all {C : Nat} {l : List Tab} {zss : List (List Int)} {k : Nat} {cols : List Int} {T : List WRow} (h : JH C l zss k cols T) (hk : zss.length ≤ k) (hall : ∀ c, c < C → ∃ zs ∈ zss, (c : Int) ∈ zs) : ∀ c, c < C → (c : Int) ∈ cols := fun c hc => by
  obtain ⟨zs, hz, hm⟩ := hall c hc
  obtain ⟨i, hi, rfl⟩ := List.mem_iff_getElem.1 hz
  exact h.2 i (by omega) c (by simpa [List.getD, hi] using hm)
theorem JH.len {C : Nat} {l : List Tab} {zss : List (List Int)} {k : Nat} {cols : List Int} {T : List WRow} (h : JH C l zss k cols T) (h6 : C ≤ 6) : cols.length ≤ 6 ∧ T.length ≤ 60 := ⟨cls_le h.1.cls h6, (goodT_parts h.1.isGood).2.1⟩

end Go.Proofs.YtpnaoahlfhbbmaaGreat

/- Contracts of spec.l3Left and spec.l3Join. -/
namespace Go.Proofs.YtpnaoahlfhbbmaaGreat
open Go.RowKit

end Go.Proofs.YtpnaoahlfhbbmaaGreat

/- A range over such a function within a round of another one. -/
namespace Go.Proofs.YtpnaoahlfhbbmaaGreat
open Go.RowKit Go.Shelf

section
variable {P : Program} {Q : Exit → Act → World → Prop}

theorem round_core1 {xs : List WRow} {p0 p1 : Tmp} {assign body : Code} {a : Act} {I : Nat → World → Prop} {n₀ N l N' : Nat} {fn : FuncId} (hNl : N ≤ l) (hlN : l < N') (_hn₀ : n₀ ≤ N)
    (rec : LoopState → Option Code → Loop) (hrec : ∀ s j, (rec s j).params = #[p0, p1] ∧ (rec s j).tmps = a.tmps ∧ (rec s j).fn = fn ∧ (rec s j).assign = assign ∧ (rec s j).body = body ∧ (rec s j).state = s ∧
      (∀ s', { rec s j with state := s' } = rec s' j) ∧ (∀ s' j', { rec s j with state := s', pending := j' } = rec s' j'))
    (hI : ∀ k A B, Below N A B → I k A → I k B) (hround : RoundWalk P xs p0 p1 assign body a.tmps I n₀ N)
    (k : Nat) (W : World) (b : Option Addr) (n c : Nat) (hk : k < xs.length) (hJ : I k W ∧ W.heap[l]? = some (.loop (rec .ready none))) (hsz : N' ≤ W.heap.size) (hn : (wat xs k).1.length = n) (hnil : b = none → c = 0) (hat : At W b (wat xs k).1) (hfar : Far n₀ N' b (wat xs k).1) :
    YieldAt Fence.wide 0 P l #[.agg #[.slice b n c], .int .i64 (wat xs k).2] W fun e W' => e = .returned (.bool true) ∧ (I (k + 1) W' ∧ W'.heap[l]? = some (.loop (rec .ready none))) ∧ Apart n₀ N' W W' := by
  obtain ⟨hi, hl⟩ := hJ
  obtain ⟨h1, h2, h3, h4, h5, _, h7, h8⟩ := hrec .ready none
  have hy := run_yield (P := P) (args := #[.agg #[.slice b n c], .int .i64 (wat xs k).2]) hl (by rw [h1]; rfl)
  rw [h1, h2, h3, h4, h5] at hy
  refine ⟨fn, _, assign, body, hy, roundIn_of_wpIn trivial ?_⟩
  clear hy
  rw [zip_two]
  refine wpIn_mono (hround l k W b n c hNl hk hi (by omega) ⟨_, hl⟩ hn hnil hat (hfar.mono (by omega))) ?_
  intro e a' W2 hq
  cases e with
  | normal =>
    obtain ⟨hb2, hbody⟩ := hq
    have hl2 : W2.heap[l]? = some (.loop (rec .ready none)) := (hb2.block l (by omega)).trans hl
    have hbr := run_beginRound (P := P) hl2 (hrec .ready none).2.2.2.2.2.1
    rw [h7 .busy] at hbr
    refine ⟨_, hbr, ?_⟩
    have hlt2 : l < W2.heap.size := by have := hb2.size; omega
    have hT := turned_put hl2 (.loop (rec .busy none))
    have hl3 : (W2.putObj l (.loop (rec .busy none))).heap[l]? = some (.loop (rec .busy none)) := World.putObj_heap_same hlt2
    refine wpIn_mono (hbody _ hT ⟨_, hl3⟩) ?_
    intro e' a'' W4 hq'
    obtain ⟨rfl, hi4, hap⟩ := hq'
    have hs3 : (W2.putObj l (.loop (rec .busy none))).heap.size = W2.heap.size := hT.size
    have hl4 : W4.heap[l]? = some (.loop (rec .busy none)) := (hap.block l (by omega) (.inr hNl)).trans hl3
    have her := run_endRound (P := P) none hl4
    have e9 := (hrec .busy none).2.2.2.2.2.2.2
    simp only [Option.isNone_none, if_true] at her
    rw [e9 .ready none] at her
    have hT4 := turned_put hl4 (.loop (rec .ready none))
    have hlt4 : l < W4.heap.size := (Array.getElem?_eq_some_iff.1 hl4).1
    refine ⟨_, _, her, rfl, ⟨hI _ _ _ (hT4.below hNl) hi4, World.putObj_heap_same hlt4⟩, ?_⟩
    refine ⟨hT4.grown.os.trans (hap.os.trans (hT.grown.os.trans hb2.os)), hT4.grown.tape.trans (hap.tape.trans (hT.grown.tape.trans hb2.tape)), hT4.grown.output.trans (hap.output.trans (hT.grown.output.trans hb2.output)), ?_, fun j hj hc => ?_⟩
    · have := hb2.size; have := hap.size; have := hT4.grown.size; omega
    · have hjl : j ≠ l := by omega
      have z2 := hb2.size
      have z4 := hap.size
      rw [hT4.grown.block j (by omega) (fun e => hjl (by simpa using e)), hap.block j (by omega) (by omega), hT.grown.block j (by omega) (fun e => hjl (by simpa using e)), hb2.block j hj]
  | _ => exact hq.elim

/-- **A range over such a function**, within a round of loop l₀. -/
theorem range_hands_in {l₀ : Nat} {g : Operand} {p0 p1 : Tmp} {assign body : Code} {a : Act} {w w0 : World} {gf : Nat} {lb : Array Value} {xs : List WRow} (hg : a.eval g = .func (.func gf) #[] lb) (eg : ∀ args w, (callFunc gf args).run P w = .ok (.enter gf args) w)
    (hH : Hands P gf lb xs w0) (hw : Below w0.heap.size w0 w) (n₀ : Nat) (hn0 : w0.heap.size ≤ n₀) (hn1 : n₀ ≤ w.heap.size) (hl₀ : ∃ r, w.heap[l₀]? = some (.loop r)) (I : Nat → World → Prop) (hI : ∀ k A B, Below w.heap.size A B → I k A → I k B) (h0 : I 0 w)
    (hround : RoundWalk P xs p0 p1 assign body a.tmps I n₀ w.heap.size)
    (hdone : ∀ W, I xs.length W → Apart n₀ w.heap.size w W → Q .normal a W) :
    (Code.rangeFunc g #[p0, p1] assign body).wpIn (Fence.wide.inRound l₀) 0 P Q a w := by
  obtain ⟨r₀, hr₀⟩ := hl₀
  refine wpIn_rangeFunc ?_
  intro fn _
  obtain ⟨rec, hrec⟩ : ∃ rec : LoopState → Option Code → Loop, rec = fun st pe => { state := st, pending := pe, fn, tmps := a.tmps, params := #[p0, p1], assign, body, defers := r₀.defers } := ⟨_, rfl⟩
  obtain ⟨W1, hW1⟩ : ∃ W1, W1 = w.alloc (.loop (rec .ready none)) := ⟨_, rfl⟩
  have z1 : W1.heap.size = w.heap.size + 1 := by rw [hW1]; simp
  have hL : W1.heap[w.heap.size]? = some (.loop (rec .ready none)) := by rw [hW1]; exact heap_alloc_new w _
  have hb1 : Below w.heap.size w W1 := by rw [hW1]; exact (Below.refl _ w).alloc (Nat.le_refl _) _
  refine ⟨w.heap.size, [], W1, { target := .fn (.func gf) lb, args := #[.func (.yield w.heap.size) #[] #[]] }, W1, gf, #[.func (.yield w.heap.size) #[] #[]] ++ lb, W1, ?_, ?_, fun _ _ => trivial, ?_, fun h => by simp [Fence.wide, Fence.inRound] at h, ?_⟩
  · rw [hW1, hrec]; exact run_enterLoop_inner hr₀ _ _ _ _ _
  · simp only [resolve, hg]
    simp [go_sem]
  · simp [invoke, go_sem, eg]
  · refine (hH n₀ w.heap.size (fun k W => I k W ∧ W.heap[w.heap.size]? = some (.loop (rec .ready none))) W1 hn0 (by omega) (hw.trans (hb1.mono hw.size))
      (fun k A B hb ⟨j1, j2⟩ => ⟨hI k A B (hb.mono (by omega)) j1, (hb.block _ (by omega)).trans j2⟩)
      (fun k W b n c hk hJ hsz hn hnil hat hfar => round_core1 (N' := W1.heap.size) (Nat.le_refl _) (by omega) hn1 rec (fun s j => by rw [hrec]; exact ⟨rfl, rfl, rfl, rfl, rfl, rfl, fun _ => rfl, fun _ _ => rfl⟩) hI hround k W b n c hk hJ hsz hn hnil hat hfar)
      ⟨hI 0 w W1 hb1 h0, hL⟩).mono ?_
    rintro e W2 ⟨⟨v, rfl⟩, ⟨hi, hl⟩, hap⟩
    have hst : (rec .ready none).state ≠ .busy := by rw [hrec]; simp
    have hel : (Instr.endLoop w.heap.size).run P W2 = .ok none (W2.putObj w.heap.size (.loop { rec .ready none with state := .exhausted })) := by
      have h := run_endLoop (P := P) hl hst
      rw [h, hrec]
    have hT := turned_put hl (.loop { rec .ready none with state := .exhausted })
    refine ⟨none, _, hel, hdone _ (hI _ _ _ (hT.below (B := w.heap.size) (Nat.le_refl _)) hi) ?_⟩
    refine ⟨hT.grown.os.trans (hap.os.trans hb1.os), hT.grown.tape.trans (hap.tape.trans hb1.tape), hT.grown.output.trans (hap.output.trans hb1.output), ?_, fun j hj hc => ?_⟩
    · have := hap.size; have := hT.grown.size; omega
    · have z2 := hap.size
      rw [hT.grown.block j (by omega) (fun e => by simp only [Option.some.injEq] at e; omega), hap.block j (by omega) (by omega), hb1.block j (by omega)]

end
end Go.Proofs.YtpnaoahlfhbbmaaGreat

/- Contracts of impl.joinedRows and of the function that it hands back: a range over a function within another one. -/
namespace Go.Proofs.YtpnaoahlfhbbmaaGreat
open Go.RowKit Go.Shelf

attribute [local go_sem] Oper.semAt_some

theorem joinedRows_any (gf hf : Nat) (lb mb : Array Value) (a : Option Addr) (n c : Nat) (w : World) :
    Calls Tryz.prog 67 #[.func (.func gf) #[] lb, .func (.func hf) #[] mb, .slice a n c] w fun e w' => e = .returned (.func (.func 80) #[] #[.pointer (some ⟨w.heap.size, 0, none⟩), .pointer (some ⟨w.heap.size + 1, 0, none⟩), .pointer (some ⟨w.heap.size + 1 + 1, 0, none⟩)]) ∧ w' = ((w.alloc (.cells #[.func (.func gf) #[] lb] 98)).alloc (.cells #[.func (.func hf) #[] mb] 98)).alloc (.cells #[.slice a n c] 23) := by
  go_enter Tryz.func67, Tryz.ntmps67
  go_wp2
  go_ret
  exact ⟨rfl, rfl⟩

/-- What it holds while it hands on: v is the yield's box. -/
structure Joining (n₀ : Nat) (J : Nat → World → Prop) (W : World) (N : Nat) (v : Value) (t : TypeId) (m : Nat) (A : World) : Prop where
  told : J m A
  box : A.heap[W.heap.size]? = some (.cells #[v] t (0, 0))
  low : Apart n₀ W.heap.size W A
  size : N ≤ A.heap.size
theorem Joining.keep {n₀ : Nat} {J : Nat → World → Prop} {W : World} {N : Nat} {v : Value} {t : TypeId} {m : Nat} {A B : World} (hJ : ∀ k A B, Below W.heap.size A B → J k A → J k B) (hN : W.heap.size < N)
    (h : Joining n₀ J W N v t m A) (hb : Below N A B) : Joining n₀ J W N v t m B := by
  have hs := h.size
  refine ⟨hJ _ _ _ (hb.mono (by omega)) h.told, (hb.block _ hN).trans h.box, ?_, Nat.le_trans h.size hb.size⟩
  exact ⟨hb.os.trans h.low.os, hb.tape.trans h.low.tape, hb.output.trans h.low.output, Nat.le_trans h.low.size hb.size, fun j hj hc => (hb.block j (by omega)).trans (h.low.block j hj hc)⟩
/-- .. and within a round of the outer range: all that the outer row hangs on is as it was. -/
structure Inner (n₀ : Nat) (J : Nat → World → Prop) (W W3 : World) (v : Value) (t : TypeId) (m : Nat) (A : World) : Prop where
  main : Joining n₀ J W W3.heap.size v t m A
  low3 : Apart n₀ W.heap.size W3 A
theorem Inner.keep {n₀ : Nat} {J : Nat → World → Prop} {W W3 : World} {v : Value} {t : TypeId} {m : Nat} {A B : World} (hJ : ∀ k A B, Below W.heap.size A B → J k A → J k B) (hN : W.heap.size < W3.heap.size)
    (h : Inner n₀ J W W3 v t m A) (hb : Below W3.heap.size A B) : Inner n₀ J W W3 v t m B :=
  ⟨h.main.keep hJ hN hb, hb.os.trans h.low3.os, hb.tape.trans h.low3.tape, hb.output.trans h.low3.output, Nat.le_trans h.low3.size hb.size, fun j hj hc => (hb.block j hj).trans (h.low3.block j hj hc)⟩

set_option maxRecDepth 100000 in
set_option maxHeartbeats 8000000 in
theorem joinedRows1_hands (T S C gf hf : Nat) (lb mb : Array Value) (xs ys : List WRow) (p : Option Addr) (lp dp : Nat) (ps : List (List Int)) (w : World) (hT : w.cell? ⟨T, 0, none⟩ = some (.func (.func gf) #[] lb)) (hS : w.cell? ⟨S, 0, none⟩ = some (.func (.func hf) #[] mb)) (hC : w.cell? ⟨C, 0, none⟩ = some (.slice p lp dp))
    (eg : ∀ args w, (callFunc gf args).run Tryz.prog w = .ok (.enter gf args) w) (eh : ∀ args w, (callFunc hf args).run Tryz.prog w = .ok (.enter hf args) w) (hH : Hands Tryz.prog gf lb xs w) (hK : Hands Tryz.prog hf mb ys w)
    (hlp : ps.length = lp) (hlp6 : lp ≤ 1048576) (hp : AtS w p ps) (hX : ∀ k, k < xs.length → (wat xs k).1.length ≤ 6 ∧ -1000000 ≤ (wat xs k).2 ∧ (wat xs k).2 ≤ 1000000) (hYY : ∀ k, k < ys.length → (wat ys k).1.length ≤ 6 ∧ -1000000 ≤ (wat ys k).2 ∧ (wat ys k).2 ≤ 1000000) :
    Hands Tryz.prog 80 #[.pointer (some ⟨T, 0, none⟩), .pointer (some ⟨S, 0, none⟩), .pointer (some ⟨C, 0, none⟩)] (joinL xs ys ps) w := by
  intro n₀ l J W h1 h2 hb hJ hY h0
  refine callsIn_of_wp_marks Tryz.func80 rfl trivial ?_
  simp only [Tryz.ntmps80, List.size_toArray, List.length_cons, List.length_nil, Nat.reduceAdd, Nat.reduceSub, Array.replicate_succ, Array.replicate_zero, List.push_toArray, List.append_toArray, List.nil_append, List.cons_append]
  obtain ⟨W0, hW0⟩ : ∃ W0, W0 = W.alloc (.cells #[(.func (.yield l) #[] #[])] 112) := ⟨_, rfl⟩
  have hbW : Below W.heap.size W W0 := by rw [hW0]; exact (Below.refl _ _).alloc (Nat.le_refl _) _
  have z0 : W0.heap.size = W.heap.size + 1 := by rw [hW0]; simp
  have hTW := cell_later hb hT
  have hTL : (W.alloc (.cells #[(.func (.yield l) #[] #[])] 112)).cell? ⟨T, 0, none⟩ = some (.func (.func gf) #[] lb) := cell_later ((Below.refl _ _).alloc (Nat.le_refl _) _) hTW
  have I0 : Joining n₀ J W W0.heap.size (.func (.yield l) #[] #[]) 112 (outJ xs ys ps 0) W0 := by
    refine ⟨hJ 0 W W0 hbW h0, ?_, ⟨hbW.os, hbW.tape, hbW.output, hbW.size, fun j hj _ => hbW.block j hj⟩, Nat.le_refl _⟩
    rw [hW0]; exact heap_alloc_new W _
  gi_wp2
  rw [← hW0]
  clear hW0 hTL
  refine range_hands (gf := gf) (lb := lb) rfl eg hH (hb.trans (hbW.mono hb.size)) n₀ h1 (by omega) (fun k A => Joining n₀ J W W0.heap.size (.func (.yield l) #[] #[]) 112 (outJ xs ys ps k) A) (fun k A B hB h => h.keep hJ (by omega) hB) I0 ?round ?done
  case round =>
    intro r k W1 b n c hr hkx hI hsz hrec hln hnil hat hfar
    have hq := hX k hkx
    have HOS := Hid.mk (outJ_succ (ys := ys) (ps := ps) hkx)
    have HJA : Hid (∀ j, j < (ys.filterMap (joinG ps (wat xs k))).length → outJ xs ys ps k + j < (joinL xs ys ps).length ∧ wat (joinL xs ys ps) (outJ xs ys ps k + j) = wat (ys.filterMap (joinG ps (wat xs k))) j) := fun j hj => joinL_at hkx hj
    obtain ⟨M, hM⟩ : ∃ M, M = outJ xs ys ps k := ⟨_, rfl⟩
    rw [← hM] at HOS HJA hI
    obtain ⟨Y, hYk⟩ : ∃ Y, Y = wat xs k := ⟨_, rfl⟩
    rw [← hYk] at hln hat hfar hq HOS HJA ⊢
    obtain ⟨xz, x⟩ := Y
    simp only at hln hat hfar hq
    clear hM hYk
    gi_wp2
    refine ⟨((Below.refl _ _).alloc (Nat.le_refl _) _).alloc (by simp) _, fun W3 hT3 hr3 => ?_⟩
    obtain ⟨W2, hW2⟩ : ∃ W2, W2 = (W1.alloc (.cells #[.slice b n c] 48)).alloc (.cells #[.int .i64 x] 3) := ⟨_, rfl⟩
    have hb2 : Below W1.heap.size W1 W2 := by rw [hW2]; exact ((Below.refl _ _).alloc (Nat.le_refl _) _).alloc (by simp) _
    have cr : W2.cell? ⟨W1.heap.size, 0, none⟩ = some (.slice b n c) := by rw [hW2]; exact cell_later ((Below.refl _ _).alloc (Nat.le_refl _) _) (by simp)
    have cx : W2.cell? ⟨W1.heap.size + 1, 0, none⟩ = some (.int .i64 x) := by rw [hW2]; simp
    rw [← hW2] at hT3
    clear hW2
    have hI3 := (hI.keep hJ (by omega) (hb2.mono hsz)).keep hJ (by omega) (hT3.below hr)
    have cr3 := hT3.cell cr
    have cx3 := hT3.cell cx
    have hat3 := hT3.at (hat.below hb2)
    have hb3 : Below w.heap.size w W3 := hb.trans (hI3.low.below hb.size h1)
    have cs3 := cell_later hb3 hS
    clear hI hat cr cx hT3 hb2
    have zI3 := hI3.size
    have zr3 := World.block_lt_of_cell? _ _ cr3
    have zx3 := World.block_lt_of_cell? _ _ cx3
    simp only at zr3 zx3
    gi_wp2
    have hfar3 : Far n₀ W.heap.size b xz := hfar.mono (by omega)
    have hW1 : W.heap.size ≤ W1.heap.size := by omega
    refine range_hands_in (gf := hf) (lb := mb) rfl eh hK hb3 n₀ h1 (by omega) hr3 (fun j A => Inner n₀ J W W3 (.func (.yield l) #[] #[]) 112 (M + outW (joinG ps (xz, x)) ys j) A) (fun j A B hB i => i.keep hJ (by omega) hB) ⟨⟨hI3.told, hI3.box, hI3.low, Nat.le_refl _⟩, Apart.refl _ _ _⟩ ?inround ?indone
    case inround =>
      intro r2 j W4 b2 n2 c2 hr2 hjy hIn hsz2 hrec2 hln2 hnil2 hat2 _
      have hq2 := hYY j hjy
      have HOW : Hid (∀ v, joinG ps (xz, x) (wat ys j) = some v → outW (joinG ps (xz, x)) ys (j + 1) = outW (joinG ps (xz, x)) ys j + 1 ∧ outW (joinG ps (xz, x)) ys j < (ys.filterMap (joinG ps (xz, x))).length ∧ wat (ys.filterMap (joinG ps (xz, x))) (outW (joinG ps (xz, x)) ys j) = v) := fun v hv => outW_some hjy hv
      have HON : Hid (joinG ps (xz, x) (wat ys j) = none → outW (joinG ps (xz, x)) ys (j + 1) = outW (joinG ps (xz, x)) ys j) := fun hv => outW_none hjy hv
      obtain ⟨Y2, hYj⟩ : ∃ Y, Y = wat ys j := ⟨_, rfl⟩
      rw [← hYj] at hln2 hat2 hq2 HOW HON ⊢
      obtain ⟨yz, y⟩ := Y2
      simp only at hln2 hat2 hq2
      clear hYj
      gi_wp2
      refine ⟨(Below.refl _ _).alloc (Nat.le_refl _) _, fun W6 hT6 _ => ?_⟩
      obtain ⟨W5, hW5⟩ : ∃ W5, W5 = W4.alloc (.cells #[.slice b2 n2 c2] 48) := ⟨_, rfl⟩
      have hb5 : Below W4.heap.size W4 W5 := by rw [hW5]; exact (Below.refl _ _).alloc (Nat.le_refl _) _
      have cb5 : W5.cell? ⟨W4.heap.size, 0, none⟩ = some (.slice b2 n2 c2) := by rw [hW5]; simp
      rw [← hW5] at hT6
      clear hW5
      have hI6 := (hIn.keep hJ (by omega) (hb5.mono hsz2)).keep hJ (by omega) (hT6.below hr2)
      have cb6 := hT6.cell cb5
      have hat26 := hT6.at (hat2.below hb5)
      have cr6 := hI6.low3.cell cr3 (.inr (by show _ ≤ W1.heap.size; omega))
      have cx6 := hI6.low3.cell cx3 (.inr (by show _ ≤ W1.heap.size + 1; omega))
      have hat6 := hat3.far hfar3 hI6.low3
      have hb6 : Below w.heap.size w W6 := hb.trans (hI6.main.low.below hb.size h1)
      have cp6 := cell_later hb6 hC
      have hp6 := hp.below hb6
      have cy6 : W6.cell? ⟨W.heap.size, 0, none⟩ = some (.func (.yield l) #[] #[]) := by rw [cell_of_row W6 _ 0 _ _ (0, 0) hI6.main.box]; rfl
      have HI6 := Hid.mk hI6
      have HY := Hid.mk hY
      have HQ := Hid.mk (And.intro hq hq2)
      clear hIn hT6 hI6 hat2 cb5 hI3 hat3 cr3 cx3 hY hq2
      gi_wp2_with fail
      refine ⟨trivial, rfl, ?_⟩
      refine (callsIn_wide.2 (implJoinRows _ _ _ _ _ _ xz yz _ _ _ ps _ hln hln2 hlp (by omega) (by have := HQ.out.2; omega) (by omega) hnil hat6 hat26 hp6)).mono ?_
      rintro e W7 ⟨r7, m7, d7, rfl, hm7, ho7, hb7⟩
      have hF7 := owns_formed ho7
      have hat7 := At.owned ho7
      obtain ⟨W8, hW8⟩ : ∃ W8, W8 = W7.alloc (.cells #[.slice r7 m7 d7] 48) := ⟨_, rfl⟩
      have hbL : Below W7.heap.size W7 (W7.alloc (.cells #[.slice r7 m7 d7] 48)) := (Below.refl _ _).alloc (Nat.le_refl _) _
      have hb8 : Below W7.heap.size W7 W8 := by rw [hW8]; exact hbL
      have hB8 : Below W6.heap.size W6 W8 := hb7.trans (hb8.mono hb7.size)
      have cy8 := cell_later hbL (cell_later hb7 cy6)
      have cx8 := cell_later hbL (cell_later hb7 cx6)
      have hI8 := HI6.out.keep hJ (by omega) (hB8.mono HI6.out.main.size)
      have hwr := prod_wrap HQ.out.1.2.1 HQ.out.1.2.2 HQ.out.2.2.1 HQ.out.2.2.2
      cases hok : joinOk xz yz ps with
      | true =>
        have hg : joinG ps (xz, x) (yz, y) = some (joinAns xz yz ps, x * y) := if_pos hok
        obtain ⟨o1, o2, o3⟩ := HOW.out _ hg
        obtain ⟨j1, j2⟩ := HJA.out _ o2
        rw [o3] at j2
        have hf8 : Far n₀ W.heap.size r7 (joinAns xz yz ps) := far_owned ho7 (by have := HI6.out.main.size; omega)
        obtain ⟨fn, tmps, assign, body, hy, hR⟩ := HY.out (M + outW (joinG ps (xz, x)) ys j) W8 r7 m7 d7 j1 hI8.main.told (by have := hI8.main.size; omega) (by rw [j2]; exact hm7) hF7.2.1 (by rw [j2]; exact hat7.below hb8) (by rw [j2]; exact hf8)
        rw [j2] at hy
        simp only at hy
        rw [hW8] at hy
        have HI8 := Hid.mk hI8
        have HB8 := Hid.mk hB8
        have HR := Hid.mk hR
        have HO1 := Hid.mk o1
        clear hI8 HI6 HY hB8 hb8 ho7 hR o1 o3 j1 j2 hg hok HOW HON HJA HOS hm7 hat7 hf8
        gi_wp2

        refine ⟨rfl, ?_⟩
        rw [← hW8]
        refine HR.out.mono ?_
        rintro e W9 ⟨rfl, hJ9, hap9⟩
        have hI8 := HI8.out
        have hB8 := HB8.out
        have z8 := hI8.main.size
        have hfin : Inner n₀ J W W3 (.func (.yield l) #[] #[]) 112 (M + outW (joinG ps (xz, x)) ys (j + 1)) W9 := by
          refine ⟨⟨by rw [HO1.out, ← Nat.add_assoc]; exact hJ9, (hap9.block _ (by omega) (.inr (Nat.le_refl _))).trans hI8.main.box, hI8.main.low.trans hap9, Nat.le_trans z8 hap9.size⟩, hI8.low3.trans hap9⟩
        have hapf : Apart n₀ W3.heap.size W6 W9 := ⟨hap9.os.trans hB8.os, hap9.tape.trans hB8.tape, hap9.output.trans hB8.output, Nat.le_trans hB8.size hap9.size, fun i hi hc => (hap9.block i (by have := hB8.size; omega) (by omega)).trans (hB8.block i hi)⟩
        clear hI8 HI8 hB8 HB8 hJ9 hap9 HR hy
        gi_wp2
        done
      | false =>
        have hg : joinG ps (xz, x) (yz, y) = none := if_neg (by rw [hok]; simp)
        have HO1 := Hid.mk (HON.out hg)
        have hfin : Inner n₀ J W W3 (.func (.yield l) #[] #[]) 112 (M + outW (joinG ps (xz, x)) ys (j + 1)) W8 := by rw [HO1.out]; exact hI8
        have hapf : Apart n₀ W3.heap.size W6 W8 := ⟨hB8.os, hB8.tape, hB8.output, hB8.size, fun i hi _ => hB8.block i hi⟩
        clear hI8 HI6 HY hB8 hb8 ho7 hg hok HOW HON HJA HOS hm7 hat7
        gi_wp2
        refine ⟨fun _ h => (by cases h), ?_⟩
        gi_wp2
        rw [← hW8]
        exact ⟨hfin, hapf⟩
    case indone =>
      intro A hIn hap
      have hto := hIn.main.told
      rw [outW_all, ← HOS.out] at hto
      have hfin : Joining n₀ J W W0.heap.size (.func (.yield l) #[] #[]) 112 (outJ xs ys ps (k + 1)) A := ⟨hto, hIn.main.box, hIn.main.low, by have := hIn.main.size; omega⟩
      have hapf : Apart n₀ W0.heap.size W3 A := ⟨hIn.low3.os, hIn.low3.tape, hIn.low3.output, hIn.low3.size, fun i hi hc => hIn.low3.block i hi (by omega)⟩
      first | exact ⟨rfl, hfin, hapf⟩ | (gi_wp2; trace_state; done)
  case done =>
    intro D A hD hI hap hdef
    have hto := hI.told
    have e : outJ xs ys ps xs.length = (joinL xs ys ps).length := by unfold outJ; rw [List.take_length]
    rw [e] at hto
    have hDl : D < A.heap.size := (Array.getElem?_eq_some_iff.1 hdef).1
    have hJf := hJ _ A (A.putObj D (.deferred none)) ((Below.refl _ _).grown (grownBy_putObj' A D _) (by omega) (fun j hj => by cases hj; omega)) hto
    have hapf : Apart n₀ W.heap.size W (A.putObj D (.deferred none)) := ⟨hI.low.os, hI.low.tape, hI.low.output, by have := hI.low.size; simp; omega, fun j hj hc => (World.putObj_heap_other (by omega)).trans (hI.low.block j hj hc)⟩
    gi_wp2
    refine ⟨by simp, .inl ⟨_, _, rfl, run_takeDeferred hdef, ?_⟩⟩
    exact ⟨_, results_none rfl _ _ _, ⟨_, rfl⟩, hJf, hapf⟩
end Go.Proofs.YtpnaoahlfhbbmaaGreat

/- Contract of impl.noughts. -/
namespace Go.Proofs.YtpnaoahlfhbbmaaGreat
open Go.RowKit

set_option maxRecDepth 100000 in
set_option maxHeartbeats 1000000 in
theorem noughts_any (q : Nat) (w : World) (h6 : q ≤ 6) :
    Calls Tryz.prog 65 #[.int .i64 q] w fun e w' => ∃ r d, e = .returned (.agg #[.slice r q d]) ∧ (r = none → d = 0) ∧ At w' r (List.replicate q 0) ∧ Below w.heap.size w w' := by
  obtain ⟨i0, hi, hz0, hz1, hz2⟩ := info_parts Tryz.infoInt
  have hbL : Below w.heap.size w (w.alloc (.cells #[.slice none 0 0] 48)) := (Below.refl _ _).alloc (Nat.le_refl _) _
  have c0 : (w.alloc (.cells #[.slice none 0 0] 48)).cell? ⟨w.heap.size, 0, none⟩ = some (.slice none 0 0) := by simp
  have f0 : (w.alloc (.cells #[.slice none 0 0] 48)).frozen? ⟨w.heap.size, 0, none⟩ = false := by simp
  obtain ⟨w2, hr, ho, hg⟩ := run_makeSlice_full (P := Tryz.prog) (w.alloc (.cells #[.slice none 0 0] 48)) (w.heap.size + 1) 45 3 i0 (.int .i64 0) 1 Tryz.underlying45 hi hz0 hz1 .i64 .i64 q (by omega) (by rw [hz2]; omega) (by unfold maxLen; omega) (by simp)
  have hmc : (madeCells (Value.int .i64 0).cells (q * 1)).toList = (List.replicate q 0).map (.int .i64) := by
    have : q = 0 ∨ q = 1 ∨ q = 2 ∨ q = 3 ∨ q = 4 ∨ q = 5 ∨ q = 6 := by omega
    rcases this with rfl | rfl | rfl | rfl | rfl | rfl | rfl <;> simp [madeCells, Value.cells, Array.toList_map, Array.toList_range, List.range, List.range.loop, List.replicate]
  rw [hmc] at ho
  have e2 := hg.cell c0 (by simp)
  have k2 : w2.frozen? ⟨w.heap.size, 0, none⟩ = false := (World.frozen?_of_block (hg.block w.heap.size (by simp) (by simp))).trans f0
  have hb2 : Below w.heap.size w w2 := hbL.grown hg hbL.size (fun j hj => by cases hj)
  have HA2 := Hid.mk (At.owned ho)
  have HO := Hid.mk ho
  clear hmc ho hg hbL c0 f0
  simp only [World.size_alloc] at hr
  go_enter Tryz.func65, Tryz.ntmps65
  go_wp2
  refine bodyPost_ret (v := .agg #[.slice (some ⟨w.heap.size + 1, 0, none⟩) q q]) (by simp [results, Tryz.results65, go_sem, e2]) rfl ⟨_, _, rfl, fun h => (by cases h), ?_, ?_⟩
  · have h2 := HO.out
    rw [World.size_alloc] at h2
    exact At.owned (ownsRow_setCell_below h2 (by show w.heap.size < _; omega) _)
  · exact hb2.setCell (by show w.heap.size ≤ w.heap.size; omega) _
end Go.Proofs.YtpnaoahlfhbbmaaGreat
