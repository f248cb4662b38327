/- Several texts of one proof, in build order: SvG, ChW, ChPp, ChWo, ChPu. -/
import Derived.Test.YtnfdncofobkjhaaM7
import Derived.Test.YtnfdncofobkjhaaM0
import Derived.Conc.LoneSelectN
import Derived.Conc.LoneCalls
import Derived.Test.YtnfdncofobkjhaaM3
import Derived.Deep.CutBlock
import Derived.Conc.SmallLaws
import Derived.Test.YtnfdncofobkjhaaM4
import Derived.Test.YtnfdncofobkjhaaM5
import Derived.Conc.EventLaws

/- Contracts of impl.isProc, impl.areTwoProcs, impl.wireOf. -/
namespace Go.Proofs.Ytnfdncofobkjhaa
open Go.RowKit

set_option maxHeartbeats 1000000 in
theorem isProc_any (a0 : Option Addr) (n0 c0 : Nat) (a1 : Option Addr) (n1 c1 : Nat) (i : Int) (w : World) :
    Calls Try.prog 71 #[.agg #[.slice a0 n0 c0, .slice a1 n1 c1], .int .i64 i] w fun e w' => e = .returned (.bool (decide (0 ≤ i) && decide (i < n0))) ∧ Below w.heap.size w w' := by
  have hb : Below w.heap.size w (w.alloc (.cells #[.slice a0 n0 c0, .slice a1 n1 c1] 32)) := (Below.refl _ _).alloc (Nat.le_refl _) _
  by_cases h : 0 ≤ i
  · go_enter Try.func71, Try.ntmps71
    go_wp2
    go_ret
    exact ⟨by simp [h], hb⟩
  · go_enter Try.func71, Try.ntmps71
    go_wp2
    go_ret
    exact ⟨by simp; omega, hb⟩

def twoB (n0 : Nat) (i j : Int) : Bool := decide (0 ≤ i) && decide (i < n0) && (decide (0 ≤ j) && decide (j < n0)) && decide (i ≠ j)
set_option maxHeartbeats 2000000 in
theorem areTwoProcs_any (a0 : Option Addr) (n0 c0 : Nat) (a1 : Option Addr) (n1 c1 : Nat) (i j : Int) (w : World) :
    Calls Try.prog 68 #[.agg #[.slice a0 n0 c0, .slice a1 n1 c1], .int .i64 i, .int .i64 j] w fun e w' => e = .returned (.bool (twoB n0 i j)) ∧ Below w.heap.size w w' := by
  obtain ⟨W, hW⟩ : ∃ W, W = w.alloc (.cells #[.slice a0 n0 c0, .slice a1 n1 c1] 32) := ⟨_, rfl⟩
  have hb : Below w.heap.size w W := by rw [hW]; exact (Below.refl _ _).alloc (Nat.le_refl _) _
  have zlt : w.heap.size < W.heap.size := by rw [hW]; simp
  have q0 : W.cell? ⟨w.heap.size, 0, none⟩ = some (.slice a0 n0 c0) := by rw [hW]; simp [go_sem]
  have q1 : W.cell? ⟨w.heap.size, 1, none⟩ = some (.slice a1 n1 c1) := by rw [hW]; simp [go_sem]
  have KI := Hid.mk (isProc_any a0 n0 c0 a1 n1 c1 i)
  have KJ := Hid.mk (isProc_any a0 n0 c0 a1 n1 c1 j)
  unfold twoB
  obtain ⟨pi, hpi⟩ : ∃ b, (decide (0 ≤ i) && decide (i < n0)) = b := ⟨_, rfl⟩
  obtain ⟨pj, hpj⟩ : ∃ b, (decide (0 ≤ j) && decide (j < n0)) = b := ⟨_, rfl⟩
  rw [hpi, hpj]
  rw [hpi] at KI
  rw [hpj] at KJ
  clear hpi hpj
  cases pi with
  | false =>
    go_enter Try.func68, Try.ntmps68
    go_upto_region 1 with fail
    rw [← hW]
    clear hW
    go_wp2_with fail
    refine (KI.out _).mono ?_
    rintro e w1 ⟨rfl, h1⟩
    have HB := Hid.mk (hb.trans (h1.mono hb.size))
    clear KI KJ h1
    go_wp2
    go_ret
    exact ⟨by simp, HB.out⟩
  | true =>
    by_cases e : i = j
    · subst e
      go_enter Try.func68, Try.ntmps68
      go_upto_region 1 with fail
      rw [← hW]
      clear hW
      go_wp2_with fail
      refine (KI.out _).mono ?_
      rintro e w1 ⟨rfl, h1⟩
      have HB := Hid.mk (hb.trans (h1.mono hb.size))
      have q0 := (h1.cell zlt).trans q0
      have q1 := (h1.cell zlt).trans q1
      clear KI h1
      go_wp2_with fail
      refine (KJ.out _).mono ?_
      rintro e w2 ⟨rfl, h2⟩
      have HB2 := Hid.mk (HB.out.trans (h2.mono HB.out.size))
      clear KJ h2 q0 q1
      cases pj <;> (go_wp2; go_ret; exact ⟨by simp, HB2.out⟩)
    · have hne : (i != j) = true := by simp [e]
      go_enter Try.func68, Try.ntmps68
      go_upto_region 1 with fail
      rw [← hW]
      clear hW
      go_wp2_with fail
      refine (KI.out _).mono ?_
      rintro e w1 ⟨rfl, h1⟩
      have HB := Hid.mk (hb.trans (h1.mono hb.size))
      have q0 := (h1.cell zlt).trans q0
      have q1 := (h1.cell zlt).trans q1
      clear KI h1
      go_wp2_with fail
      refine (KJ.out _).mono ?_
      rintro e w2 ⟨rfl, h2⟩
      have HB2 := Hid.mk (HB.out.trans (h2.mono HB.out.size))
      clear KJ h2 q0 q1
      cases pj <;> (go_wp2; go_ret; exact ⟨by simp [*], HB2.out⟩)

set_option maxHeartbeats 1000000 in
theorem wireOf_any (a0 : Option Addr) (n0 c0 : Nat) (g1 : Nat) (n1 c1 : Nat) (f t : Nat) (w : World) (hn : n0 ≤ 4) (h1 : n1 = n0 * n0) (hf : f < n0) (ht : t < n0) :
    Calls Try.prog 89 #[.agg #[.slice a0 n0 c0, .slice (some ⟨g1, 0, none⟩) n1 c1], .int .i64 f, .int .i64 t] w fun e w' => e = .returned (.pointer (some ⟨g1, (f * n0 + t) * 3, none⟩)) ∧ Below w.heap.size w w' := by
  have hb : Below w.heap.size w (w.alloc (.cells #[.slice a0 n0 c0, .slice (some ⟨g1, 0, none⟩) n1 c1] 32)) := (Below.refl _ _).alloc (Nat.le_refl _) _
  have hm : f * n0 ≤ 12 := Nat.le_trans (Nat.mul_le_mul (show f ≤ 3 by omega) hn) (by omega)
  have hk : f * n0 + t < n1 := by
    rw [h1]
    have : (f + 1) * n0 ≤ n0 * n0 := Nat.mul_le_mul_right _ hf
    rw [Nat.succ_mul] at this
    omega
  have w1 : IntKind.i64.wrap ((f : Int) * (n0 : Int)) = ((f * n0 : Nat) : Int) := by
    rw [← Int.natCast_mul]
    exact IntWalk.i64_in _ (by omega)
  have w2 : IntKind.i64.wrap (((f * n0 : Nat) : Int) + (t : Int)) = ((f * n0 + t : Nat) : Int) := (IntWalk.i64_in _ (by omega)).trans (by omega)
  obtain ⟨k, hkk⟩ : ∃ k, f * n0 = k := ⟨_, rfl⟩
  rw [hkk] at w1 w2 hk ⊢
  obtain ⟨j, hj⟩ : ∃ j, k + t = j := ⟨_, rfl⟩
  rw [hj] at w2 hk ⊢
  have hji : (j : Int) < (n1 : Int) := by omega
  clear hm h1
  go_enter Try.func89, Try.ntmps89
  go_wp2
  go_ret
  exact ⟨by simp, hb⟩

end Go.Proofs.Ytnfdncofobkjhaa

/- Communication within the walk by rules: a region that sends on, receives from or selects over a channel of the call's own, in one goroutine. -/
namespace Go.Proofs.Ytnfdncofobkjhaa
open Go.RowKit Go.Conc

/-- What is left of a region's operations ends as Q says. -/
def OpsTo (P : Program) (ops : Array Oper) (l : List Nat) (Q : Exit → Act → World → Prop) (a : Act) (w : World) : Prop :=
  ∀ (b : Frame) (k : List Item) (cs : List Frame), ∃ e a' w', Q e a' w' ∧ Arrives P (lone (b.at a (.inRegion ops l :: k)) cs w) b k cs e a' w'

section
variable {P : Program} {ops : Array Oper} {i : Nat} {rest : List Nat} {o : Oper} {Q : Exit → Act → World → Prop} {a : Act} {w w' w₁ : World} {v : Value} {cases : Array CommCase} {blocking : Bool} {shape : CommShape}

theorem region_to {id : Nat} (h : OpsTo P ops (List.range ops.size) Q a w) : (Code.region id ops false).wp P Q a w :=
  fun b k cs => let ⟨e, a', w', q, r⟩ := h b k cs; ⟨e, a', w', q, .of_steps (.one step_region) r⟩
theorem to_end (h : Q .normal a w) : OpsTo P ops [] Q a w := fun _ _ _ => ⟨.normal, a, w, h, Steps.one step_region_end⟩
theorem finish_next (ho : ops[i]? = some o) (b : Frame) (k : List Item) : (b.at a (.inRegion ops (i :: rest) :: k)).finish v = b.at (a.put o.dst v) (.inRegion ops rest :: k) := by
  rw [Frame.finish_at, ho]; rfl
theorem to_value (ho : ops[i]? = some o) (hw : Region.wanted o (yielded ops a.tmps) = true) (hr : (execOp a.eval o).run P w = .ok (.value v) w') (h : OpsTo P ops rest Q (a.put o.dst v) w') : OpsTo P ops (i :: rest) Q a w := by
  intro b k cs
  obtain ⟨e, a', w'', hq, harr⟩ := h b k cs
  refine ⟨e, a', w'', hq, .of_steps (.one (step_lone_go ?_)) harr⟩
  rw [stepG_op ho hw, ← finish_next ho]
  simp [stepG.apply, hr]
theorem comm_some (ho : ops[i]? = some o) (hw : Region.wanted o (yielded ops a.tmps) = true) (hr : (execOp a.eval o).run P w = .ok (.comm cases blocking shape) w₁) (b : Frame) (k : List Item) (cs : List Frame) :
    ∃ es, stepG P true (G (b.at a (.inRegion ops (i :: rest) :: k)) cs) w = .comm (G (b.at a (.inRegion ops (i :: rest) :: k)) cs) cases blocking shape w₁ es := by
  have h := stepG_op (P := P) (b := b) (k := k) (cs := cs) (w := w) (rest := rest) ho hw
  have hG : (G (b.at a (.inRegion ops (i :: rest) :: k)) cs) = { frame := b.at a (.inRegion ops (i :: rest) :: k), callers := cs, status := .running, dying := none } := rfl
  rw [hG, h]
  simp [stepG.apply, hr, GStep.after]
theorem to_comm (ho : ops[i]? = some o) (hw : Region.wanted o (yielded ops a.tmps) = true) (hr : (execOp a.eval o).run P w = .ok (.comm cases blocking shape) w₁)
    (hs : ∀ (fr : Frame) (cs : List Frame) (es : Array Event), stepG P true (G fr cs) w = .comm (G fr cs) cases blocking shape w₁ es → step P (solo (G fr cs) w) = .next (solo (G (fr.finish v) cs) w'))
    (h : OpsTo P ops rest Q (a.put o.dst v) w') : OpsTo P ops (i :: rest) Q a w := by
  intro b k cs
  obtain ⟨e, a', w'', hq, harr⟩ := h b k cs
  obtain ⟨es, hes⟩ := comm_some (rest := rest) ho hw hr b k cs
  refine ⟨e, a', w'', hq, .of_steps (.one ?_) harr⟩
  have q := hs _ _ _ hes
  rw [finish_next ho] at q
  exact q
end

end Go.Proofs.Ytnfdncofobkjhaa

/- Contract of impl.pipeOf. -/
namespace Go.Proofs.Ytnfdncofobkjhaa
open Go.RowKit Go.Conc

theorem Try.infoIntC : (Try.prog.info? 3).map (fun i => (i.zero, i.size, i.bytes)) = some (some (.int .i64 0), 1, 8) := by kernel_rfl
theorem makePipe (w : World) : (Instr.makeChan 109 (.int .i64 12)).run Try.prog w = .ok (.chan (some w.heap.size)) (w.alloc (.chan 12 #[] false 0 0 false)) := by
  obtain ⟨i, hi, _, _, hb⟩ := info_parts Try.infoIntC
  simpa using run_makeChan (P := Try.prog) (w := w) Try.underlying109 hi .i64 12 (by omega) (by rw [hb]; omega)

/-- A channel of the call's own that holds these numbers. -/
def PipeAt (w : World) (C : Nat) (shut : Bool) (zs : List Int) : Prop := ∃ s r, w.heap[C]? = some (.chan 12 (zs.map (Value.int .i64)).toArray shut s r false)

set_option maxRecDepth 100000 in
set_option maxHeartbeats 1000000 in
theorem pipeOf_any (a : Option Addr) (n c : Nat) (zs : List Int) (w : World) (hz : zs.length = n) (hn : n ≤ 12) (ha : At w a zs) :
    Calls Try.prog 93 #[.slice a n c] w fun e w' => (∃ C, e = .returned (.chan (some C)) ∧ PipeAt w' C false zs ∧ w.heap.size ≤ C ∧ C < w'.heap.size) ∧ Below w.heap.size w w' := by
  have hmk := makePipe
  have HZ := Hid.mk hz
  have HA := Hid.mk ha
  clear hz ha
  go_enter Try.func93, Try.ntmps93
  go_wp2_with fail
  go_loopw [9] (fun i wr => ∃ (k s : Nat), k ≤ n ∧ i = .int .i64 k ∧ wr.heap[w.heap.size]? = some (.chan 12 ((zs.take k).map (Value.int .i64)).toArray false s 0 false) ∧ w.heap.size < wr.heap.size ∧ Below w.heap.size w wr) (fun i _ => n - (intOf i).toNat)
  case atStart => exact ⟨0, 0, Nat.zero_le _, rfl, heap_alloc_new w _, by simp, (Below.refl _ _).alloc (Nat.le_refl _) _⟩
  case round =>
    obtain ⟨k, s, hk, rfl, hch, hlt0, hbw⟩ := hrel
    obtain ⟨wY, rfl⟩ : ∃ x, x = wr := ⟨_, rfl⟩
    by_cases hlt : k < n
    · obtain ⟨b, off, rfl, hb, hc⟩ := (At.below HA.out hbw).some (by have := HZ.out; omega)
      obtain ⟨y, hy⟩ : ∃ y, zs[k]? = some y := ⟨_, List.getElem?_eq_getElem (by have := HZ.out; omega)⟩
      have hcx : wY.cell? ⟨b, off + k, none⟩ = some (.int .i64 y) := by
        have h9 := hc k (by have := HZ.out; omega)
        simpa [List.getD, hy] using h9
      have htk : ((zs.take (k + 1)).map (Value.int .i64)).toArray = ((zs.take k).map (Value.int .i64)).toArray.push (.int .i64 y) := by
        obtain ⟨hk2, rfl⟩ := List.getElem?_eq_some_iff.1 hy
        rw [List.take_succ_eq_append_getElem hk2, List.map_append]
        simp
      have hki : (k : Int) < (n : Int) := by omega
      have hroom : ((zs.take k).map (Value.int .i64)).toArray.size < 12 := by simp; omega
      obtain ⟨B, hB⟩ : ∃ B, ((zs.take k).map (Value.int .i64)).toArray = B := ⟨_, rfl⟩
      rw [hB] at hch hroom htk
      have HTK := Hid.mk htk
      clear hB htk
      clear hc hy
      go_upto_region 5 with fail
      refine region_to ?_
      change OpsTo _ _ [0, 1, 2] _ _ _
      refine to_value rfl rfl rfl ?_
      refine to_value rfl rfl rfl ?_
      refine to_comm (cases := #[scase w.heap.size (.int .i64 y) (.tuple #[])]) (blocking := true) (shape := .send) (w₁ := wY) rfl rfl (by simp [go_sem, execOp, scase, Act.eval, Act.put]) (fun fr cs es h => step_lone_send_room h hch hroom) ?_
      refine to_end ?_
      simp only [Act.put, List.setIfInBounds_toArray]
      go_wp2
      go_roundw
      case rel => exact ⟨k + 1, s + 1, by omega, by go_num, by rw [HTK.out]; exact heap_setChan _ _ _ _ _ _ _ _ hlt0, by rw [size_setChan]; exact hlt0, below_setChan hbw (Nat.le_refl _) _ _ _ _ _ _⟩
      case measure => simp [intOf]; omega
    · obtain rfl : k = n := by omega
      rw [List.take_of_length_le (by have := HZ.out; omega)] at hch
      have HCH := Hid.mk hch
      clear hch
      go_wp2
      go_ret
      exact ⟨⟨_, rfl, ⟨s, 0, HCH.out⟩, Nat.le_refl _, hlt0⟩, hbw⟩

end Go.Proofs.Ytnfdncofobkjhaa

/- Contract of impl.wordsOn. -/
namespace Go.Proofs.Ytnfdncofobkjhaa
open Go.RowKit Go.Conc

def lenOf : Value → Nat
  | .slice _ n _ => n
  | _ => 0
theorem setChan_off {w : World} {C : Nat} (cap : Nat) (buf : Array Value) (cl : Bool) (s r : Nat) (tm : Bool) : Off (fun b => b = C) w (w.setChan C cap buf cl s r tm) :=
  ⟨rfl, rfl, rfl, by simp [World.setChan], fun b _ hn => by simp only [World.setChan]; rw [Array.getElem?_setIfInBounds_ne (fun e => hn e.symm)]⟩
theorem own_setChan {w : World} {base C n : Nat} {e : TypeId} {K : Nat} {v : Value} {xs : List Value} {cap s r s' r' : Nat} {buf buf' : Array Value} {cl cl' tm : Bool} (ho : w.ownsRow base e K v n xs) (hC : w.heap[C]? = some (.chan cap buf cl s r tm)) : (w.setChan C cap buf' cl' s' r' tm).ownsRow base e K v n xs :=
  ownsRow_frame ho (fun b hb _ => by
    rcases ho.2 with ⟨rfl, _⟩ | ⟨g, c, cur, rfl, _, hg, _⟩
    · simp [Value.ownBlock] at hb
    · have hgb : g = b := by simpa [Value.ownBlock] using hb
      subst hgb
      have hne : C ≠ g := fun e => by rw [e] at hC; rw [hC] at hg; cases hg
      simp only [World.setChan]
      rw [Array.getElem?_setIfInBounds_ne hne])

theorem blk_grownC {w w6 : World} {o o' : Obj} {v : Value} {P : Nat} (h : w.heap[P]? = some o') (hg : (w.alloc o).grownBy w6 v.ownBlock) (hn : v.ownBlock ≠ some P) : w6.heap[P]? = some o' := by
  have hP := (Array.getElem?_eq_some_iff.1 h).1
  exact (hg.block P (by simp; omega) (fun e => hn e.symm)).trans ((Below.heap_alloc w o P hP).trans h)
/-- What an append to a row of the call's own turns: that row, and what is new. -/
theorem off_grown {w w6 : World} {o : Obj} {v : Value} {C lo : Nat} (hg : (w.alloc o).grownBy w6 v.ownBlock) (hv : ∀ b, v.ownBlock = some b → lo ≤ b) : Off (fun b => b = C ∨ lo ≤ b) w w6 := by
  have h1 : Off (fun b => b = C ∨ lo ≤ b) w (w.alloc o) := Off.below ((Below.refl _ _).alloc (Nat.le_refl _) _)
  exact h1.trans (Off.grown hg (fun k hk => .inr (hv k hk)))

set_option maxRecDepth 100000 in
set_option maxHeartbeats 2000000 in
theorem wordsOn_any (C : Nat) (zs : List Int) (w : World) (hn : zs.length ≤ 12) (hp : PipeAt w C false zs) :
    Calls Try.prog 94 #[.chan (some C)] w fun e w' => (∃ r d, e = .returned (.slice r zs.length d) ∧ w'.ownsRow w.heap.size 3 1 (.slice r zs.length d) zs.length (zs.map (Value.int .i64))) ∧ Off (fun b => b = C ∨ w.heap.size ≤ b) w w' := by
  obtain ⟨j0, hj0, hy0, hy1, hy2⟩ := info_parts Try.infoIntC
  obtain ⟨s0, r0, hch⟩ := hp
  have hCs := (Array.getElem?_eq_some_iff.1 hch).1
  obtain ⟨n, hzn⟩ : ∃ n, zs.length = n := ⟨_, rfl⟩
  rw [hzn] at hn ⊢
  have HZN := Hid.mk hzn
  obtain ⟨B0, hB0⟩ : ∃ B, (zs.map (Value.int .i64)).toArray = B := ⟨_, rfl⟩
  rw [hB0] at hch
  have hcl := fun ats ty => run_close_open (P := Try.prog) (w := w) ats ty hch
  obtain ⟨W, hW⟩ : ∃ W, W = { w with heap := w.heap.setIfInBounds C (.chan 12 B0 true s0 r0 false) } := ⟨_, rfl⟩
  have hWs : W = w.setChan C 12 B0 true s0 r0 false := hW
  have hcW : W.heap[C]? = some (.chan 12 B0 true s0 r0 false) := by rw [hWs]; exact heap_setChan _ _ _ _ _ _ _ _ hCs
  have oW : Off (fun b => b = C) w W := by rw [hWs]; exact setChan_off _ _ _ _ _ _
  rw [← hB0] at hcW
  have zW := oW.size
  have HCW := Hid.mk hcW
  have HOW := Hid.mk (oW.mono (F' := fun b => b = C ∨ w.heap.size ≤ b) (fun b h => .inl h))
  clear hB0 hzn hWs hcW oW
  go_enter Try.func94, Try.ntmps94
  go_wp2_with fail
  rw [← hW]
  clear hW hcl hch
  go_loopw [3] (fun q wr => ∃ (k : Nat) (r : Option Addr) (d s rc : Nat), k ≤ n ∧ q = .slice r k d ∧ wr.heap[C]? = some (.chan 12 ((zs.drop k).map (Value.int .i64)).toArray true s rc false) ∧ wr.ownsRow w.heap.size 3 1 (.slice r k d) k ((zs.take k).map (Value.int .i64)) ∧ w.heap.size ≤ wr.heap.size ∧ Off (fun b => b = C ∨ w.heap.size ≤ b) w wr) (fun q _ => n - lenOf q)
  case atStart => exact ⟨0, none, 0, s0, r0, Nat.zero_le _, rfl, HCW.out, World.ownsRow_nil _ _ _ _, zW, HOW.out⟩
  case round =>
    obtain ⟨k, r, d, s, rc, hk, rfl, hch, ho, hz, hof⟩ := hrel
    obtain ⟨wY, rfl⟩ : ∃ x, x = wr := ⟨_, rfl⟩
    have hCs := (Array.getElem?_eq_some_iff.1 hch).1
    by_cases hlt : k < n
    · obtain ⟨y, hy⟩ : ∃ y, zs[k]? = some y := ⟨_, List.getElem?_eq_getElem (by have := HZN.out; omega)⟩
      have htk : (zs.take (k + 1)).map (Value.int .i64) = (zs.take k).map (Value.int .i64) ++ [.int .i64 y] := by
        obtain ⟨hk2, rfl⟩ := List.getElem?_eq_some_iff.1 hy
        rw [List.take_succ_eq_append_getElem hk2, List.map_append]
        rfl
      have hdk : (zs.drop k).map (Value.int .i64) = .int .i64 y :: (zs.drop (k + 1)).map (Value.int .i64) := by
        obtain ⟨hk2, rfl⟩ := List.getElem?_eq_some_iff.1 hy
        rw [List.drop_eq_getElem_cons hk2]
        rfl
      obtain ⟨B, hB⟩ : ∃ B, ((zs.drop k).map (Value.int .i64)).toArray = B := ⟨_, rfl⟩
      have hsz : 0 < B.size := by rw [← hB, hdk]; simp
      have hgd : B.getD 0 undef = .int .i64 y := by rw [← hB, hdk]; rfl
      have hex : B.extract 1 B.size = ((zs.drop (k + 1)).map (Value.int .i64)).toArray := by
        rw [← hB, hdk]
        simp
        exact List.take_of_length_le (by simp)
      rw [hB] at hch
      obtain ⟨B2, hB2⟩ : ∃ B, ((zs.drop (k + 1)).map (Value.int .i64)).toArray = B := ⟨_, rfl⟩
      rw [hB2] at hex
      obtain ⟨L, hL⟩ : ∃ L, (zs.take k).map (Value.int .i64) = L := ⟨_, rfl⟩
      rw [hL] at ho htk
      clear hL
      have HB2 := Hid.mk hB2
      have HTK := Hid.mk htk
      have HO := Hid.mk (own_setChan (s' := s) (r' := rc + 1) (buf' := B2) (cl' := true) ho hch)
      have HC2 := Hid.mk (heap_setChan wY C 12 B2 true s (rc + 1) false hCs)
      have HOF := Hid.mk (hof.trans ((setChan_off (w := wY) (C := C) 12 B2 true s (rc + 1) false).mono (F' := fun b => b = C ∨ w.heap.size ≤ b) (fun b h => .inl h)))
      obtain ⟨V, hV⟩ : ∃ V, V = wY.setChan C 12 B2 true s (rc + 1) false := ⟨_, rfl⟩
      have zV : w.heap.size ≤ V.heap.size := by rw [hV, size_setChan]; exact hz
      rw [← hV] at HO HC2 HOF
      clear htk hdk hB hB2 hy ho hof
      go_upto_region 4 with fail
      refine region_to ?_
      change OpsTo _ _ [0, 1] _ _ _
      refine to_comm (cases := #[rcase C (.int .i64 0)]) (blocking := true) (shape := .recv true) (w₁ := wY) (v := .tuple #[.int .i64 y, .bool true]) (w' := V) rfl rfl (by simp [go_sem, execOp, rcase, Act.eval]) (fun fr cs es h => by
        have q := step_lone_recv_buf true h hch hsz
        rw [hgd, hex, ← hV] at q
        exact q) ?_
      refine to_value rfl rfl rfl ?_
      refine to_end ?_
      simp only [Act.put, List.setIfInBounds_toArray]
      clear hch hgd hex hV hsz
      go_wp2_with (at_builtin; refine wpList_app_vals rfl (.tmp 10) (.tmp 12) 41 rfl w.heap.size 3 j0 (.int .i64 0) 1 8 Try.underlying41 hj0 hy0 hy1 hy2 rfl (by decide) (.slice r k d) k L rfl (HO.out.alloc _) (some ⟨V.heap.size, 0, none⟩) 1 1 [.int .i64 y] rfl rfl (fun ad he => by cases he; simpa using news_at V #[.int .i64 y] 3) (by simp; rfl) (fun h => by cases h) (by unfold maxLen; omega) (by omega) (by simp; omega) ?_)
      intro r4 d4 w6 ho4 hg4 ht4
      rw [← HTK.out] at ho4
      have HO4 := Hid.mk ho4
      have hnP : (Value.slice r k d).ownBlock ≠ some C := fun e => by
        rcases HO.out.2 with ⟨h1, _⟩ | ⟨g, cc, cur, h1, _, hg, _⟩
        · rw [h1] at e; simp [Value.ownBlock] at e
        · rw [h1] at e
          have hgb : g = C := by simpa [Value.ownBlock] using e
          rw [hgb, HC2.out] at hg
          cases hg
      have HC6 := Hid.mk (blk_grownC HC2.out hg4 hnP)
      have hz6 : w.heap.size ≤ w6.heap.size := by have := hg4.size; simp at this; omega
      have HF6 := Hid.mk (HOF.out.trans (off_grown hg4 (fun b hb => (HO.out.lt b hb).1)))
      clear ho4 hg4 ht4 hnP HO HC2 HOF
      go_wp2
      go_roundw
      case rel => exact ⟨k + 1, r4, d4, s, rc + 1, by omega, rfl, by rw [HB2.out]; exact HC6.out, HO4.out, hz6, HF6.out⟩
      case measure => simp [lenOf]; omega
    · obtain rfl : k = n := by omega
      rw [List.drop_of_length_le (by have := HZN.out; omega)] at hch
      rw [List.take_of_length_le (by have := HZN.out; omega)] at ho
      have HO := Hid.mk ho
      have HF := Hid.mk hof
      clear ho hof
      go_upto_region 4 with fail
      refine region_to ?_
      change OpsTo _ _ [0, 1] _ _ _
      refine to_comm (cases := #[rcase C (.int .i64 0)]) (blocking := true) (shape := .recv true) (w₁ := wY) (v := .tuple #[.int .i64 0, .bool false]) (w' := wY) rfl rfl (by simp [go_sem, execOp, rcase, Act.eval]) (fun fr cs es h => step_lone_recv_shut true h hch) ?_
      refine to_value rfl rfl rfl ?_
      refine to_end ?_
      simp only [Act.put, List.setIfInBounds_toArray]
      clear hch
      go_wp2
      go_ret
      exact ⟨⟨r, d, rfl, HO.out⟩, HF.out⟩

end Go.Proofs.Ytnfdncofobkjhaa

/- Contracts of impl.putWord, impl.takeWord. -/
namespace Go.Proofs.Ytnfdncofobkjhaa
open Go.RowKit Go.Conc

theorem res_send (C : Nat) (v z : Value) : commResult #[scase C v z] .select ((0 : Nat) : Int) undef false = .tuple #[goInt 0, .bool false] := by
  simp [commResult, scase, List.zipIdx_cons]
theorem res_none (C : Nat) (v z : Value) : commResult #[scase C v z] .select (-1) undef false = .tuple #[goInt (-1), .bool false] := by
  simp [commResult, scase, List.zipIdx_cons]
theorem res_recv (C : Nat) (v z : Value) (ok : Bool) : commResult #[rcase C z] .select ((0 : Nat) : Int) v ok = .tuple #[goInt 0, .bool ok, v] := by
  simp [commResult, rcase, List.zipIdx_cons]
theorem res_rnone (C : Nat) (z : Value) : commResult #[rcase C z] .select (-1) undef false = .tuple #[goInt (-1), .bool false, z] := by
  simp [commResult, rcase, List.zipIdx_cons]
theorem off_blk {F : Nat → Prop} {w w' : World} (h : Off F w w') {g : Nat} {o : Obj} (hg : w.heap[g]? = some o) (hn : ¬ F g) : w'.heap[g]? = some o :=
  (h.block g (Array.getElem?_eq_some_iff.1 hg).1 hn).trans hg

set_option maxRecDepth 100000 in
set_option maxHeartbeats 2000000 in
theorem putWord_any (g o : Nat) (a : Option Addr) (n c : Nat) (zs : List Int) (y : Int) (cs : Array Value) (t : TypeId) (w : World) (hz : zs.length = n) (hn : n ≤ 12) (hb : w.heap[g]? = some (.cells cs t (0, 0))) (hcs : cs[o]? = some (.slice a n c)) (ha : At w a zs) :
    Calls Try.prog 88 #[.pointer (some ⟨g, o, none⟩), .int .i64 y] w fun e w' =>
      (n < 12 ∧ ∃ r d W, e = .returned (.bool true) ∧ Below w.heap.size w W ∧ W.ownsRow w.heap.size 3 1 (.slice r (n + 1) d) (n + 1) ((zs ++ [y]).map (Value.int .i64)) ∧ w' = W.setCell ⟨g, o, none⟩ (.slice r (n + 1) d)) ∨ (¬ n < 12 ∧ e = .returned (.bool false) ∧ Below w.heap.size w w') := by
  have hgs := (Array.getElem?_eq_some_iff.1 hb).1
  have q := blk_cell hb o hcs
  have KP := Hid.mk (pipeOf_any a n c zs w hz hn ha)
  have HZ := Hid.mk hz
  clear ha hz
  go_enter Try.func88, Try.ntmps88
  go_wp2_with fail
  refine KP.out.mono ?_
  rintro e w1 ⟨⟨C, rfl, ⟨s, rc, hch⟩, hC1, hC2⟩, hb1⟩
  have hbg := blk_below hb hb1
  have HCL := Hid.mk hC1
  have HGC : Hid (g ≠ C) := Hid.mk (by omega)
  have HCS := Hid.mk hcs
  clear q KP
  have hsz : ((zs.map (Value.int .i64)).toArray).size = n := by simp [HZ.out]
  obtain ⟨B, hB⟩ : ∃ B, (zs.map (Value.int .i64)).toArray = B := ⟨_, rfl⟩
  rw [hB] at hch hsz
  by_cases hlt : n < 12
  · obtain ⟨V, hV⟩ : ∃ V, V = w1.setChan C 12 (B.push (.int .i64 y)) false (s + 1) rc false := ⟨_, rfl⟩
    have hVC : PipeAt V C false (zs ++ [y]) := ⟨s + 1, rc, by rw [hV, heap_setChan _ _ _ _ _ _ _ _ hC2, List.map_append, ← hB]; simp⟩
    have BV : Below w.heap.size w V := by rw [hV]; exact below_setChan hb1 hC1 _ _ _ _ _ _
    have zV : w1.heap.size ≤ V.heap.size := by rw [hV, size_setChan]; exact Nat.le_refl _
    have hbV := blk_below hb BV
    have KW := Hid.mk (wordsOn_any C (zs ++ [y]) V (by have := HZ.out; simp; omega) hVC)
    have hl : (zs ++ [y]).length = n + 1 := by simp [HZ.out]
    rw [hl] at KW
    have HB := Hid.mk hb
    clear hl hbg hVC hB hb hcs
    go_upto_region 4 with fail
    refine region_to ?_
    change OpsTo _ _ [0, 1, 2] _ _ _
    refine to_comm (cases := #[scase C (.int .i64 y) (.int .i64 0)]) (blocking := false) (shape := .select) (w₁ := w1) (v := .tuple #[goInt 0, .bool false]) (w' := V) rfl rfl (by simp [go_sem, execOp, scase, Act.eval]) (fun fr cs es h => by
      have q := step_lone_sel_send_room (k := 0) h rfl (fun m c' hm hc' => by
        rcases m with _ | m
        · exact absurd rfl hm
        · simp at hc') hch (by omega)
      rw [← hV] at q
      rw [q]
      rw [res_send]) ?_
    refine to_value (v := .int .i64 0) rfl rfl rfl ?_
    refine to_value (v := .bool true) rfl rfl rfl ?_
    refine to_end ?_
    simp only [Act.put, List.setIfInBounds_toArray]
    clear hch hV hsz hb1 hC1 hC2 zV
    go_wp2_with fail
    refine KW.out.mono ?_
    rintro e w3 ⟨⟨r, d, rfl, ho⟩, hof⟩
    have hgC : g ≠ C := fun e => HGC.out e
    have hb3 := off_blk hof hbV (by intro h; rcases h with h | h; exact hgC h; have := BV.size; omega)
    have B3 : Below w.heap.size w w3 := ⟨hof.os.trans BV.os, hof.tape.trans BV.tape, hof.output.trans BV.output, Nat.le_trans BV.size hof.size, fun b hbl => (hof.block b (Nat.lt_of_lt_of_le hbl BV.size) (by intro h; rcases h with h | h; exact absurd hbl (by have := HCL.out; omega); have := BV.size; omega)).trans (BV.block b hbl)⟩
    have q3 := blk_cell hb3 o HCS.out
    have f3 := blk_frozen hb3 o
    have HO := Hid.mk (owns_mono ho BV.size)
    have HB3 := Hid.mk B3
    clear KW ho hof hb3 B3 hgC
    go_wp2
    go_ret
    exact .inl ⟨hlt, r, d, w3, rfl, HB3.out, HO.out, rfl⟩
  · have hfull : 12 ≤ B.size := by omega
    have HB1 := Hid.mk hb1
    clear hbg hB hb hcs hb1
    go_upto_region 4 with fail
    refine region_to ?_
    change OpsTo _ _ [0, 1, 2] _ _ _
    refine to_comm (cases := #[scase C (.int .i64 y) (.int .i64 0)]) (blocking := false) (shape := .select) (w₁ := w1) (v := .tuple #[goInt (-1), .bool false]) (w' := w1) rfl rfl (by simp [go_sem, execOp, scase, Act.eval]) (fun fr cs es h => by
      have q := step_lone_sel_default h (fun cc hcc => by
        have e : cc = scase C (.int .i64 y) (.int .i64 0) := by simpa using hcc
        rw [e]
        exact noWay_send hch hfull)
      rw [q]
      rw [res_none]) ?_
    refine to_value (v := .int .i64 (-1)) rfl rfl rfl ?_
    refine to_value (v := .bool false) rfl rfl rfl ?_
    refine to_end ?_
    simp only [Act.put, List.setIfInBounds_toArray]
    clear hch hsz hfull
    go_wp2
    go_ret
    exact .inr ⟨hlt, rfl, HB1.out⟩

set_option maxRecDepth 100000 in
set_option maxHeartbeats 2000000 in
theorem takeWord_any (g o : Nat) (a : Option Addr) (n c : Nat) (zs : List Int) (cs : Array Value) (t : TypeId) (w : World) (hz : zs.length = n) (hn : n ≤ 12) (hb : w.heap[g]? = some (.cells cs t (0, 0))) (hcs : cs[o]? = some (.slice a n c)) (ha : At w a zs) :
    Calls Try.prog 90 #[.pointer (some ⟨g, o, none⟩)] w fun e w' =>
      (∃ y ys r d W, zs = y :: ys ∧ e = .returned (.tuple #[.int .i64 y, .bool true]) ∧ Below w.heap.size w W ∧ W.ownsRow w.heap.size 3 1 (.slice r ys.length d) ys.length (ys.map (Value.int .i64)) ∧ w' = W.setCell ⟨g, o, none⟩ (.slice r ys.length d)) ∨ (zs = [] ∧ e = .returned (.tuple #[.int .i64 0, .bool false]) ∧ Below w.heap.size w w') := by
  have hgs := (Array.getElem?_eq_some_iff.1 hb).1
  have q := blk_cell hb o hcs
  have KP := Hid.mk (pipeOf_any a n c zs w hz hn ha)
  have HZ := Hid.mk hz
  clear ha hz
  go_enter Try.func90, Try.ntmps90
  go_wp2_with fail
  refine KP.out.mono ?_
  rintro e w1 ⟨⟨C, rfl, ⟨s, rc, hch⟩, hC1, hC2⟩, hb1⟩
  have HCL := Hid.mk hC1
  have HGC : Hid (g ≠ C) := Hid.mk (by omega)
  have HCS := Hid.mk hcs
  clear q KP
  cases zs with
  | cons y ys =>
    obtain ⟨B, hB⟩ : ∃ B, ((y :: ys).map (Value.int .i64)).toArray = B := ⟨_, rfl⟩
    obtain ⟨B2, hB2⟩ : ∃ B, (ys.map (Value.int .i64)).toArray = B := ⟨_, rfl⟩
    have hsz : 0 < B.size := by rw [← hB]; simp
    have hgd : B.getD 0 undef = .int .i64 y := by rw [← hB]; rfl
    have hex : B.extract 1 B.size = B2 := by
      rw [← hB, ← hB2]
      simp
      exact List.take_of_length_le (by simp)
    rw [hB] at hch
    obtain ⟨V, hV⟩ : ∃ V, V = w1.setChan C 12 B2 false s (rc + 1) false := ⟨_, rfl⟩
    have hVC : PipeAt V C false ys := ⟨s, rc + 1, by rw [hV, heap_setChan _ _ _ _ _ _ _ _ hC2, ← hB2]⟩
    have BV : Below w.heap.size w V := by rw [hV]; exact below_setChan hb1 hC1 _ _ _ _ _ _
    have hbV := blk_below hb BV
    have KW := Hid.mk (wordsOn_any C ys V (by have := HZ.out; simp at this; omega) hVC)
    obtain ⟨m, hm⟩ : ∃ m, ys.length = m := ⟨_, rfl⟩
    rw [hm] at KW
    have HM := Hid.mk hm
    clear hVC hB hB2 hb hcs hm
    go_upto_region 3 with fail
    refine region_to ?_
    change OpsTo _ _ [0, 1, 2] _ _ _
    refine to_comm (cases := #[rcase C (.int .i64 0)]) (blocking := false) (shape := .select) (w₁ := w1) (v := .tuple #[goInt 0, .bool true, .int .i64 y]) (w' := V) rfl rfl (by simp [go_sem, execOp, rcase, Act.eval]) (fun fr cs es h => by
      have q := step_lone_sel_recv_buf (k := 0) h rfl (fun m c' hm hc' => by
        rcases m with _ | m
        · exact absurd rfl hm
        · simp at hc') hch hsz
      rw [hex, hgd, ← hV] at q
      rw [q]
      rw [res_recv]) ?_
    refine to_value (v := .int .i64 0) rfl rfl rfl ?_
    refine to_value (v := .bool true) rfl rfl rfl ?_
    refine to_end ?_
    simp only [Act.put, List.setIfInBounds_toArray]
    clear hch hV hsz hb1 hC1 hC2 hgd hex
    go_wp2_with fail
    refine KW.out.mono ?_
    rintro e w3 ⟨⟨r, d, rfl, ho⟩, hof⟩
    have hb3 := off_blk hof hbV (by intro h; rcases h with h | h; exact HGC.out h; have := BV.size; omega)
    have B3 : Below w.heap.size w w3 := ⟨hof.os.trans BV.os, hof.tape.trans BV.tape, hof.output.trans BV.output, Nat.le_trans BV.size hof.size, fun b hbl => (hof.block b (Nat.lt_of_lt_of_le hbl BV.size) (by intro h; rcases h with h | h; exact absurd hbl (by have := HCL.out; omega); have := BV.size; omega)).trans (BV.block b hbl)⟩
    have q3 := blk_cell hb3 o HCS.out
    have f3 := blk_frozen hb3 o
    have HO := Hid.mk (owns_mono ho BV.size)
    have HB3 := Hid.mk B3
    clear KW ho hof hb3 B3
    go_wp2
    refine bodyPost_ret (v := .tuple #[.int .i64 y, .bool true]) (by simp [results, Try.results90, go_sem]) rfl (.inl ⟨y, ys, r, d, w3, rfl, rfl, HB3.out, ?_, ?_⟩)
    · rw [HM.out]; exact HO.out
    · rw [HM.out]
  | nil =>
    have HB1 := Hid.mk hb1
    have hch : w1.heap[C]? = some (.chan 12 #[] false s rc false) := hch
    clear hb hcs hb1
    go_upto_region 3 with fail
    refine region_to ?_
    change OpsTo _ _ [0, 1, 2] _ _ _
    refine to_comm (cases := #[rcase C (.int .i64 0)]) (blocking := false) (shape := .select) (w₁ := w1) (v := .tuple #[goInt (-1), .bool false, .int .i64 0]) (w' := w1) rfl rfl (by simp [go_sem, execOp, rcase, Act.eval]) (fun fr cs es h => by
      have q := step_lone_sel_default h (fun cc hcc => by
        have e : cc = rcase C (.int .i64 0) := by simpa using hcc
        rw [e]
        exact noWay_recv hch)
      rw [q]
      rw [res_rnone]) ?_
    refine to_value (v := .int .i64 (-1)) rfl rfl rfl ?_
    refine to_value (v := .bool false) rfl rfl rfl ?_
    refine to_end ?_
    simp only [Act.put, List.setIfInBounds_toArray]
    clear hch
    go_wp2
    refine bodyPost_ret (v := .tuple #[.int .i64 0, .bool false]) (by simp [results, Try.results90, go_sem]) rfl (by first | exact ⟨rfl, HB1.out⟩ | exact .inr ⟨rfl, rfl, HB1.out⟩)

end Go.Proofs.Ytnfdncofobkjhaa
