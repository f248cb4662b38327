/- Several texts of one proof, in build order: BlS, PyP, SpS, SteG, PzP, PzQ. -/
import Derived.Test.YtnfdncofobkjhaaM3
import Derived.Test.YtnfdncofobkjhaaM0
import Derived.Test.YtnfdncofobkjhaaM1
import Derived.Test.YtnfdncofobkjhaaM11

/- Contracts of the laws' helpers over slices of truth values that a call owns: eqBoolS, markBoolS, heldBoolS. -/
namespace Go.Proofs.Ytnfdncofobkjhaa
open Go.RowKit

def mb (q : Int) : Bool := q % 3 == 0
def marksB (m : Int) (n : Nat) : List Bool := (List.range n).map (fun i => mb (m + (i : Nat)))
theorem marksB_length (m : Int) (n : Nat) : (marksB m n).length = n := by simp [marksB]
theorem marksB_at (m : Int) (n k : Nat) (h : k < n) : (marksB m n)[k]? = some (mb (m + k)) := by simp [marksB, h]
theorem own_slice {w : World} {base : Nat} {e : TypeId} {a : Option Addr} {n c : Nat} {cs : List Value} (h : w.ownsRow base e 1 (.slice a n c) n cs) (hn : 0 < n) : ∃ g, a = some ⟨g, 0, none⟩ := by
  rcases h.2 with ⟨hv, h0⟩ | ⟨g, cap, cur, hv, _⟩
  · simp only [Value.slice.injEq] at hv
    omega
  · simp only [Value.slice.injEq, true_and] at hv
    exact ⟨g, hv.1⟩

set_option maxHeartbeats 400000 in
theorem eqBoolS_same (base base' : Nat) (a a' : Option Addr) (n c c' : Nat) (bs : List Bool) (w : World) (hn : n ≤ 1048576) (ho : w.ownsRow base 4 1 (.slice a n c) n (bs.map .bool)) (ho' : w.ownsRow base' 4 1 (.slice a' n c') n (bs.map .bool)) :
    Calls Try.prog 19 #[.slice a n c, .slice a' n c'] w fun e w' => e = .returned (.bool true) ∧ Below w.heap.size w w' := by
  by_cases h0 : n = 0
  · subst h0
    go_enter Try.func19, Try.ntmps19
    go_wp2
    refine wp_loop_rounds 1 ?_
    rw [rounds_succ]
    go_wp2
    go_ret
    exact ⟨rfl, Below.refl _ _⟩
  · obtain ⟨g, rfl⟩ := own_slice ho (by omega)
    obtain ⟨g', rfl⟩ := own_slice ho' (by omega)
    have hl : bs.length = n := by have := ho.1; simpa using this
    have hc : ∀ k, k < n → ∃ x, bs[k]? = some x ∧ w.cell? ⟨g, k, none⟩ = some (.bool x) ∧ w.cell? ⟨g', k, none⟩ = some (.bool x) := fun k hk => by
      obtain ⟨x, hx⟩ : ∃ x, bs[k]? = some x := ⟨_, List.getElem?_eq_getElem (by omega)⟩
      have hm : (bs.map Value.bool)[k]? = some (.bool x) := by rw [List.getElem?_map, hx]; rfl
      exact ⟨x, hx, (ho.cellAt k (by omega)).trans hm, (ho'.cellAt k (by omega)).trans hm⟩
    have hlt1 : g < w.heap.size := by obtain ⟨x, _, h, _⟩ := hc 0 (by omega); exact World.block_lt_of_cell? w _ h
    have hlt2 : g' < w.heap.size := by obtain ⟨x, _, _, h⟩ := hc 0 (by omega); exact World.block_lt_of_cell? w _ h
    have HC := Hid.mk hc
    clear hc ho ho' hl
    go_enter Try.func19, Try.ntmps19
    go_wp2
    go_loopw [5] (fun i wr => ∃ (k : Nat), k ≤ n ∧ i = .int .i64 k ∧ Below w.heap.size w wr) (fun i _ => n - (intOf i).toNat)
    case atStart => exact ⟨0, Nat.zero_le _, rfl, Below.refl _ _⟩
    case round =>
      obtain ⟨k, hk, rfl, hbw⟩ := hrel
      by_cases hlt : k < n
      · obtain ⟨x, _, q1, q2⟩ := HC.out k hlt
        have hcx : wr.cell? ⟨g, k, none⟩ = some (.bool x) := (hbw.cell hlt1).trans q1
        have hcy : wr.cell? ⟨g', k, none⟩ = some (.bool x) := (hbw.cell hlt2).trans q2
        clear q1 q2
        have hxx : (x != x) = false := by cases x <;> rfl
        go_wp2
        go_quiet (fail)
        go_wp2
        go_roundw
        case rel => exact ⟨k + 1, by omega, by go_num, below_drewN hbw _⟩
        case measure => simp [intOf]; omega
      · go_wp2
        go_ret
        exact ⟨rfl, hbw⟩

set_option maxHeartbeats 400000 in
theorem markBoolS_any (base : Nat) (a : Option Addr) (n c : Nat) (cs : List Value) (m : Int) (w : World) (hn : n ≤ 1048576) (h0 : 0 ≤ m) (h1 : m ≤ 1073741824) (hown : w.ownsRow base 4 1 (.slice a n c) n cs) :
    Calls Try.prog 24 #[.slice a n c, .int .i64 m] w fun e w' => e = .returned (.int .i64 (m + n)) ∧
      w'.ownsRow base 4 1 (.slice a n c) n ((marksB m n).map .bool) ∧ w.grownBy w' (Value.slice a n c).ownBlock := by
  rcases hown.2 with ⟨hv, h00⟩ | ⟨g, cap, cur, hv, hjunk⟩
  · simp only [Value.slice.injEq] at hv
    obtain ⟨rfl, rfl, rfl⟩ := hv
    go_enter Try.func24, Try.ntmps24
    go_wp2
    refine wp_loop_rounds 1 ?_
    rw [rounds_succ]
    go_wp2
    go_ret
    exact ⟨by simp, by simpa [marksB] using World.ownsRow_nil w base 4 1, World.grownBy.refl _ _⟩
  · simp only [Value.slice.injEq, true_and] at hv
    obtain ⟨rfl, rfl⟩ := hv
    clear hjunk
    go_enter Try.func24, Try.ntmps24
    go_wp2
    go_loopw [1, 5] (fun q i wr => ∃ (k : Nat) (cs : List Value), k ≤ n ∧ i = .int .i64 k ∧ q = .int .i64 (m + k) ∧ cs.length = n ∧ (∀ j, j < k → cs[j]? = some (.bool (mb (m + (j : Nat))))) ∧ wr.ownsRow base 4 1 (.slice (some ⟨g, 0, none⟩) n c) n cs ∧ w.grownBy wr (some g)) (fun _ i _ => n - (intOf i).toNat)
    case atStart => exact ⟨0, cs, Nat.zero_le _, rfl, by simp, by simpa using hown.1, fun j h => absurd h (Nat.not_lt_zero _), hown, World.grownBy.refl _ _⟩
    case round =>
      clear hown cs
      obtain ⟨k, cs, hk, rfl, rfl, hcl, hu, hown, hbw⟩ := hrel
      by_cases hlt : k < n
      · obtain ⟨u, hu'⟩ : ∃ u, cs[k]? = some u := ⟨_, List.getElem?_eq_getElem (by omega)⟩
        have hco : wr.cell? ⟨g, k, none⟩ = some u := (hown.cellAt k (by omega)).trans hu'
        have hfo : wr.frozen? ⟨g, k, none⟩ = false := hown.frozenAt k
        obtain ⟨B, hB⟩ : ∃ B, mb (m + (k : Nat)) = B := ⟨_, rfl⟩
        have hBT : ((m + (k : Nat)) % 3 == 0) = B := hB
        have hst := hown.stored k (.bool B)
        have HU : Hid (∀ j, j < k + 1 → (cs.set k (.bool B))[j]? = some (.bool (mb (m + (j : Nat))))) := Hid.mk (fun j hj => by
          rw [List.getElem?_set]
          by_cases e : k = j
          · subst e
            rw [if_pos rfl, if_pos (by omega), hB]
          · rw [if_neg e]; exact hu j (by omega))
        have HL : Hid ((cs.set k (Value.bool B)).length = n) := Hid.mk (by rw [List.length_set]; exact hcl)
        have HO : Hid ((wr.setCell ⟨g, k, none⟩ (.bool B)).ownsRow base 4 1 (.slice (some ⟨g, 0, none⟩) n c) n (cs.set k (.bool B))) := hst.1
        have HB : Hid (w.grownBy (wr.setCell ⟨g, k, none⟩ (.bool B)) (some g)) :=
          ⟨hst.2.os.trans hbw.os, hst.2.tape.trans hbw.tape, hst.2.output.trans hbw.output, Nat.le_trans hbw.size hst.2.size, fun j hj hne => (hst.2.block j (Nat.lt_of_lt_of_le hj hbw.size) hne).trans (hbw.block j hj hne)⟩
        clear hst hu' hown hu hbw hcl hB
        have h3 : ¬ ((3 : Int) = 0) := by decide
        go_wp2
        go_roundw
        case rel => exact ⟨k + 1, _, by omega, by go_num, by go_num, HL.out, HU.out, HO.out, HB.out⟩
        case measure => simp [intOf]; omega
      · go_wp2
        go_ret
        obtain rfl : k = n := by omega
        have e : cs = (marksB m k).map .bool := by
          apply List.ext_getElem?
          intro j
          by_cases hj : j < k
          · rw [hu j hj, List.getElem?_map, marksB_at m k j hj]; rfl
          · rw [List.getElem?_eq_none (by omega), List.getElem?_eq_none (by rw [List.length_map, marksB_length]; omega)]
        rw [e] at hown
        exact ⟨rfl, hown, hbw⟩

set_option maxHeartbeats 400000 in
theorem heldBoolS_any (base : Nat) (a : Option Addr) (n c : Nat) (m : Int) (w : World) (hn : n ≤ 1048576) (h0 : 0 ≤ m) (h1 : m ≤ 1073741824) (hown : w.ownsRow base 4 1 (.slice a n c) n ((marksB m n).map .bool)) :
    Calls Try.prog 25 #[.slice a n c, .int .i64 m] w fun e w' => e = .returned (.int .i64 (m + n)) ∧ Below w.heap.size w w' := by
  by_cases hz : n = 0
  · subst hz
    go_enter Try.func25, Try.ntmps25
    go_wp2
    refine wp_loop_rounds 1 ?_
    rw [rounds_succ]
    go_wp2
    go_ret
    exact ⟨by simp, Below.refl _ _⟩
  · obtain ⟨g, rfl⟩ := own_slice hown (by omega)
    have HC : Hid (∀ k, k < n → w.cell? ⟨g, k, none⟩ = some (.bool (mb (m + (k : Nat))))) := Hid.mk (fun k hk => (hown.cellAt k (by omega)).trans (by rw [List.getElem?_map, marksB_at m n k hk]; rfl))
    clear hown
    go_enter Try.func25, Try.ntmps25
    go_wp2
    go_loopw [1, 5] (fun q i wr => ∃ (k : Nat), k ≤ n ∧ i = .int .i64 k ∧ q = .int .i64 (m + k) ∧ Below w.heap.size w wr) (fun _ i _ => n - (intOf i).toNat)
    case atStart => exact ⟨0, Nat.zero_le _, rfl, by simp, Below.refl _ _⟩
    case round =>
      obtain ⟨k, hk, rfl, rfl, hbw⟩ := hrel
      by_cases hlt : k < n
      · have hcx := (hbw.cell (World.block_lt_of_cell? w _ (HC.out k hlt))).trans (HC.out k hlt)
        obtain ⟨B, hB⟩ : ∃ B, mb (m + (k : Nat)) = B := ⟨_, rfl⟩
        have hBT : ((m + (k : Nat)) % 3 == 0) = B := hB
        rw [hB] at hcx
        have hxx : (B != B) = false := by cases B <;> rfl
        clear hB
        go_wp2
        go_roundw
        case rel => exact ⟨k + 1, by omega, by go_num, by go_num, hbw⟩
        case measure => simp [intOf]; omega
      · go_wp2
        go_ret
        obtain rfl : k = n := by omega
        exact ⟨rfl, hbw⟩

end Go.Proofs.Ytnfdncofobkjhaa

/- Plain: a thing that is owned, and a list of truth values beside it. -/
namespace Go.Proofs.Ytnfdncofobkjhaa
open Go.RowKit

theorem Try.infoBool : (Try.prog.info? 4).map (fun i => (i.zero, i.size, i.bytes)) = some (some (.bool false), 1, 1) := by kernel_rfl
/-- A list of truth values that is owned. -/
def BlOwn (w : World) (F : Nat → Prop) (a : Option Addr) (n c : Nat) (bs : List Bool) : Prop :=
  bs.length = n ∧ w.ownsRow 0 4 1 (.slice a n c) n (bs.map .bool) ∧ ∀ b, (Value.slice a n c).ownBlock = some b → F b
/-- A thing and a list of truth values, apart from one another. -/
def WithB {α : Type} (A : Rep α) (w : World) (F : Nat → Prop) (cs : List Value) (x : α) (a : Option Addr) (n c : Nat) (bs : List Bool) : Prop :=
  ∃ F1 F2, A.Own w F1 cs x ∧ BlOwn w F2 a n c bs ∧ (∀ b, F1 b → F b) ∧ (∀ b, F2 b → F b) ∧ ∀ b, F1 b → ¬ F2 b
section
variable {α : Type} {A : Rep α} {w w' : World} {F F' S : Nat → Prop} {cs : List Value} {x : α} {a : Option Addr} {n c : Nat} {bs : List Bool}
theorem BlOwn.frame (h : BlOwn w F a n c bs) (hb : ∀ b, F b → b < w.heap.size → w'.heap[b]? = w.heap[b]?) : BlOwn w' F a n c bs :=
  ⟨h.1, ownsRow_frame h.2.1 (fun b hb1 hb2 => hb b (h.2.2 b hb1) hb2), h.2.2⟩
theorem WithB.frame (h : WithB A w F cs x a n c bs) (hb : ∀ b, F b → b < w.heap.size → w'.heap[b]? = w.heap[b]?) : WithB A w' F cs x a n c bs := by
  obtain ⟨F1, F2, h1, h2, h3, h4, h5⟩ := h
  exact ⟨F1, F2, A.frame h1 (fun b k => hb b (h3 b k)), h2.frame (fun b k => hb b (h4 b k)), h3, h4, h5⟩
theorem WithB.ownBelow (h : WithB A w F cs x a n c bs) (hb : Below w.heap.size w w') : WithB A w' F cs x a n c bs := h.frame (fun b _ h2 => hb.block b h2)
theorem WithB.ownOff (h : WithB A w F cs x a n c bs) (hb : Off S w w') (hd : ∀ b, F b → ¬ S b) : WithB A w' F cs x a n c bs := h.frame (fun b h1 h2 => hb.block b h2 (hd b h1))
theorem WithB.mono (h : WithB A w F cs x a n c bs) (hF : ∀ b, F b → F' b) : WithB A w F' cs x a n c bs := by
  obtain ⟨F1, F2, h1, h2, h3, h4, h5⟩ := h
  exact ⟨F1, F2, h1, h2, fun b k => hF b (h3 b k), fun b k => hF b (h4 b k), h5⟩
theorem WithB.of {F1 : Nat → Prop} (h1 : A.Own w F1 cs x) (hl : bs.length = n) (h2 : w.ownsRow 0 4 1 (.slice a n c) n (bs.map .bool)) (h3 : ∀ b, F1 b → F b) (h4 : ∀ b, (Value.slice a n c).ownBlock = some b → ¬ F1 b ∧ F b) : WithB A w F cs x a n c bs :=
  ⟨F1, fun b => (Value.slice a n c).ownBlock = some b, h1, ⟨hl, h2, fun _ h => h⟩, h3, fun b h => (h4 b h).2, fun b k1 k2 => (h4 b k2).1 k1⟩
theorem WithB.toAt (h : WithB A w F cs x a n c bs) : A.At w cs x := by
  obtain ⟨_, _, h1, _⟩ := h
  exact A.toAt h1
theorem WithB.own1 (h : WithB A w F cs x a n c bs) : A.Own w (fun _ => True) cs x := by
  obtain ⟨_, _, h1, _⟩ := h
  exact A.mono h1 (fun _ _ => trivial)
theorem WithB.row (h : WithB A w F cs x a n c bs) : bs.length = n ∧ w.ownsRow 0 4 1 (.slice a n c) n (bs.map .bool) := by
  obtain ⟨_, _, _, h2, _⟩ := h
  exact ⟨h2.1, h2.2.1⟩
theorem WithB.void (h1 : A.Own w (fun _ => False) cs x) : WithB A w F cs x none 0 0 [] :=
  ⟨fun _ => False, fun _ => False, h1, ⟨rfl, World.ownsRow_nil _ _ _ _, fun b h => by cases h⟩, fun _ h => h.elim, fun _ h => h.elim, fun _ h => h.elim⟩
end

end Go.Proofs.Ytnfdncofobkjhaa

/- Plain: what a step tells is within the laws' bound. -/
namespace Go.Proofs.Ytnfdncofobkjhaa
open Go.RowKit

set_option maxRecDepth 100000 in
theorem wires_cost {ws : List TWire} (h : WsOk ws) : ∀ k, csumWire ws k ≤ k * 400
  | 0 => by rw [csumWire_zero]; exact Nat.zero_le _
  | k + 1 => by
    by_cases hk : k < ws.length
    · have hx : ws[k]? = some ws[k] := List.getElem?_eq_getElem hk
      have h1 := h _ (List.mem_of_getElem? hx)
      have h2 : costWire ws[k] ≤ 400 := by unfold costWire; omega
      rw [csumWire_succ hx]
      have := wires_cost h k
      omega
    · have e : csumWire ws (k + 1) = csumWire ws k := by
        unfold csumWire szL
        rw [List.take_of_length_le (by omega), List.take_of_length_le (by omega)]
      rw [e]
      have := wires_cost h k
      omega
theorem gs_small {x : TSnap} (h : gsB x = true) : costSnap x ≤ 1048576 := by
  obtain ⟨ps, ws⟩ := x
  obtain ⟨_, g4, _, g16, _, gw, _⟩ := gs_parts (ps := ps) (ws := ws) rfl rfl h
  have := wires_cost gw ws.length
  unfold costSnap
  simp only
  omega
theorem spX_small (x : TSnap) (kd f t v : Int) : costSnap ((spX x kd f t v).1, (spX x kd f t v).2) ≤ 1048576 := by
  show costSnap (spX x kd f t v) ≤ 1048576
  unfold spX
  by_cases h : spB x kd f t v = true
  · rw [if_pos h]
    unfold spB at h
    simp only [Bool.and_eq_true] at h
    exact gs_small h.2
  · rw [if_neg h]
    decide

end Go.Proofs.Ytnfdncofobkjhaa

/- SnapStep as a thing in memory. -/
namespace Go.Proofs.Ytnfdncofobkjhaa
open Go.RowKit

/-- impl.SnapStep, by its fields. -/
abbrev TSnapStep := Int × Int × Int × Int
abbrev RSnapStep : Rep TSnapStep := Rep.pair Rep.int (Rep.pair Rep.int (Rep.pair Rep.int (Rep.int)))
abbrev RSnapSteps : Rep (List TSnapStep) := Rep.slice 36 RSnapStep
theorem RSnapStep_k : RSnapStep.k = 4 := rfl
theorem RSnapStep.at_open {w : World} {cs : List Value} {x : TSnapStep} (h : RSnapStep.At w cs x) : cs = [.int .i64 x.1, .int .i64 x.2.1, .int .i64 x.2.2.1, .int .i64 x.2.2.2] ∧ True := by
  obtain ⟨e0, d0, rfl, h0, ⟨e1, d1, rfl, h1, ⟨e2, d2, rfl, h2, h3⟩⟩⟩ := h
  obtain rfl : e0 = [.int .i64 x.1] := h0
  obtain rfl : e1 = [.int .i64 x.2.1] := h1
  obtain rfl : e2 = [.int .i64 x.2.2.1] := h2
  obtain rfl : d2 = [.int .i64 x.2.2.2] := h3
  exact ⟨rfl, trivial⟩
theorem RSnapStep.own_mk {w : World} {F : Nat → Prop} {zi0 : Int} {zi1 : Int} {zi2 : Int} {zi3 : Int} : RSnapStep.Own w F [.int .i64 zi0, .int .i64 zi1, .int .i64 zi2, .int .i64 zi3] (zi0, zi1, zi2, zi3) :=
  ⟨[_], _, (fun _ => False), (fun _ => False), rfl, rfl, ⟨[_], _, (fun _ => False), (fun _ => False), rfl, rfl, ⟨[_], _, (fun _ => False), (fun _ => False), rfl, rfl, rfl, (fun _ h => False.elim h), (fun _ h => h), (fun _ h => False.elim h)⟩, (fun _ h => False.elim h), (fun _ h => h), (fun _ h => False.elim h)⟩, (fun _ h => False.elim h), (fun _ h => False.elim h), (fun _ h => False.elim h)⟩
theorem RSnapStep.own_open {w : World} {F : Nat → Prop} {cs : List Value} {x : TSnapStep} (h : RSnapStep.Own w F cs x) : cs = [.int .i64 x.1, .int .i64 x.2.1, .int .i64 x.2.2.1, .int .i64 x.2.2.2] := (RSnapStep.at_open (RSnapStep.toAt h)).1
def mknSnapStep (_x : TSnapStep) : Nat := 1 + 1 + 1 + 1
def mkSnapStep (m : Int) (_x : TSnapStep) : TSnapStep := (m, m + 1, m + 1 + 1, m + 1 + 1 + 1)
abbrev msumSnapStep (xs : List TSnapStep) (k : Nat) : Nat := szL mknSnapStep xs k
def mkSnapSteps (m : Int) (xs : List TSnapStep) : List TSnapStep := mkL mkSnapStep mknSnapStep m xs
theorem msumSnapStep_zero (xs : List TSnapStep) : msumSnapStep xs 0 = 0 := by simp [msumSnapStep, szL]
theorem msumSnapStep_succ {xs : List TSnapStep} {k : Nat} {x : TSnapStep} (h : xs[k]? = some x) : msumSnapStep xs (k + 1) = msumSnapStep xs k + mknSnapStep x := szL_succ mknSnapStep h
theorem msumSnapStep_mono (xs : List TSnapStep) (j k : Nat) (h : j ≤ k) : msumSnapStep xs j ≤ msumSnapStep xs k := szL_mono mknSnapStep xs j k h
theorem mkSnapSteps_len (m : Int) (xs : List TSnapStep) : (mkSnapSteps m xs).length = xs.length := mkL_length _ _ _ _
theorem RSnapStep.row {w : World} {a : Option Addr} {xs : List TSnapStep} (h : AtSl RSnapStep w a xs) (hp : 0 < xs.length) : ∃ b off, a = some ⟨b, off, none⟩ ∧ b < w.heap.size ∧ ∀ (i : Nat) (x : TSnapStep), xs[i]? = some x → w.cell? ⟨b, off + i * 4, none⟩ = some (.int .i64 x.1) ∧ w.cell? ⟨b, off + i * 4 + 1, none⟩ = some (.int .i64 x.2.1) ∧ w.cell? ⟨b, off + i * 4 + 2, none⟩ = some (.int .i64 x.2.2.1) ∧ w.cell? ⟨b, off + i * 4 + 3, none⟩ = some (.int .i64 x.2.2.2) ∧ True := by
  obtain ⟨b, off, rfl, hc⟩ := AtSl.each h hp
  have row : ∀ (i : Nat) (x : TSnapStep), xs[i]? = some x → w.cell? ⟨b, off + i * 4, none⟩ = some (.int .i64 x.1) ∧ w.cell? ⟨b, off + i * 4 + 1, none⟩ = some (.int .i64 x.2.1) ∧ w.cell? ⟨b, off + i * 4 + 2, none⟩ = some (.int .i64 x.2.2.1) ∧ w.cell? ⟨b, off + i * 4 + 3, none⟩ = some (.int .i64 x.2.2.2) ∧ True := by
    intro i x hx
    obtain ⟨cs, h1, h2⟩ := hc i x hx
    obtain ⟨rfl, u⟩ := RSnapStep.at_open h2
    exact ⟨h1 0 _ rfl, h1 1 _ rfl, h1 2 _ rfl, h1 3 _ rfl, u⟩
  refine ⟨b, off, rfl, ?_, row⟩
  obtain ⟨h1, _⟩ := row 0 xs[0] (List.getElem?_eq_getElem hp)
  exact World.block_lt_of_cell? _ _ h1
theorem RSnapSteps.atSl {w : World} {F : Nat → Prop} {a : Option Addr} {n c : Nat} {xs : List TSnapStep} (h : RSnapSteps.Own w F [.slice a n c] xs) : xs.length = n ∧ AtSl RSnapStep w a xs := by
  obtain ⟨a', n', c', e, h1, _, h3, _⟩ := RSnapSteps.toAt h
  simp only [List.cons.injEq, Value.slice.injEq, and_true] at e
  obtain ⟨rfl, rfl, rfl⟩ := e
  exact ⟨h1, h3⟩
theorem msumSnapStep_eq : ∀ (xs : List TSnapStep) (k : Nat), k ≤ xs.length → msumSnapStep xs k = 4 * k
  | xs, 0, _ => by rw [msumSnapStep_zero]
  | xs, k + 1, h => by
    have hx : xs[k]? = some xs[k] := List.getElem?_eq_getElem (by omega)
    have e : mknSnapStep xs[k] = 4 := by unfold mknSnapStep; omega
    rw [msumSnapStep_succ hx, msumSnapStep_eq xs k (by omega), e]
    omega

end Go.Proofs.Ytnfdncofobkjhaa

/- Plain: playing steps on a snap. -/
namespace Go.Proofs.Ytnfdncofobkjhaa
open Go.RowKit

def pzN (x : TSnap) (s : TSnapStep) : TSnap := cond (spB x s.1 s.2.1 s.2.2.1 s.2.2.2) (spX x s.1 s.2.1 s.2.2.1 s.2.2.2) x
def pzS : TSnap → List TSnapStep → TSnap
  | x, [] => x
  | x, s :: l => pzS (pzN x s) l
def pzL : TSnap → List TSnapStep → List Bool
  | _, [] => []
  | x, s :: l => spB x s.1 s.2.1 s.2.2.1 s.2.2.2 :: pzL (pzN x s) l
theorem gs_next {x : TSnap} (s : TSnapStep) (h : gsB x = true) : gsB (pzN x s) = true := by
  unfold pzN
  cases hb : spB x s.1 s.2.1 s.2.2.1 s.2.2.2 with
  | false => exact h
  | true =>
    show gsB (spX x s.1 s.2.1 s.2.2.1 s.2.2.2) = true
    unfold spX
    rw [hb]
    unfold spB at hb
    simp only [Bool.and_eq_true] at hb
    exact hb.2
theorem gs_play : ∀ (l : List TSnapStep) {x : TSnap}, gsB x = true → gsB (pzS x l) = true
  | [], _, h => h
  | s :: l, _, h => gs_play l (gs_next s h)
theorem pzL_len : ∀ (l : List TSnapStep) (x : TSnap), (pzL x l).length = l.length
  | [], _ => rfl
  | s :: l, x => by show (pzL _ l).length + 1 = l.length + 1; rw [pzL_len l]
theorem pz_at {l : List TSnapStep} {i : Nat} {s : TSnapStep} (h : l[i]? = some s) (x : TSnap) : pzS x (l.drop i) = pzS (pzN x s) (l.drop (i + 1)) ∧ pzL x (l.drop i) = spB x s.1 s.2.1 s.2.2.1 s.2.2.2 :: pzL (pzN x s) (l.drop (i + 1)) := by
  have e : l.drop i = s :: l.drop (i + 1) := by
    rw [List.drop_eq_getElem_cons (List.getElem?_eq_some_iff.1 h).1, (List.getElem?_eq_some_iff.1 h).2]
  rw [e]; exact ⟨rfl, rfl⟩
def pzOk (src : List Int) (l : List TSnapStep) : Bool := gsB (newS src) && decide (l.length ≤ 120)
def pzX (src : List Int) (l : List TSnapStep) : TSnap := if pzOk src l then pzS (newS src) l else ([], [])
def pzB (src : List Int) (l : List TSnapStep) : List Bool := if pzOk src l then pzL (newS src) l else []
theorem pz_small (src : List Int) (l : List TSnapStep) : costSnap ((pzX src l).1, (pzX src l).2) ≤ 1048576 := by
  show costSnap (pzX src l) ≤ 1048576
  unfold pzX
  cases hg : pzOk src l with
  | false => show costSnap ([], []) ≤ 1048576; decide
  | true =>
    unfold pzOk at hg
    rw [Bool.and_eq_true] at hg
    exact gs_small (gs_play l hg.1)
theorem pz_len (src : List Int) (l : List TSnapStep) : (pzB src l).length ≤ 120 := by
  unfold pzB
  cases hg : pzOk src l with
  | false => show ([] : List Bool).length ≤ 120; decide
  | true =>
    unfold pzOk at hg
    rw [Bool.and_eq_true, decide_eq_true_eq] at hg
    rw [if_pos rfl, pzL_len]
    exact hg.2
theorem gs_wires {ps : List TProc} {ws : List TWire} (h : gsB (ps, ws) = true) : ps.length ≤ 1048576 ∧ ws.length ≤ 1048576 ∧ ∀ (i : Nat) (x : TWire), ws[i]? = some x → costWire x ≤ 1048576 := by
  obtain ⟨_, g4, _, g16, _, gw, _⟩ := gs_parts (ps := ps) (ws := ws) rfl rfl h
  refine ⟨by omega, by omega, fun i x hx => ?_⟩
  have := gw _ (List.mem_of_getElem? hx)
  unfold costWire
  omega

end Go.Proofs.Ytnfdncofobkjhaa

/- What PlaySnap tells. -/
namespace Go.Proofs.Ytnfdncofobkjhaa
open Go.RowKit

def PzRet (e : Ending) (w' : World) (lo : Nat) (ok : Bool) (x : TSnap) (bs : List Bool) : Prop :=
  ∃ r0 m0 d0 r1 m1 d1 rb nb db, e = .returned (.tuple #[.agg #[.slice r0 m0 d0, .slice r1 m1 d1], .slice rb nb db, .bool ok]) ∧
    WithB RSnap w' (From lo w'.heap.size) [.slice r0 m0 d0, .slice r1 m1 d1] x rb nb db bs

end Go.Proofs.Ytnfdncofobkjhaa
