/- Several texts of one proof, in build order: BlS, PyP, RepP, SkP, RepD, Blk, KrP, KrI. -/
import Derived.Test.YtmbjmmnodcebbaaM3
import Derived.Test.YtmbjmmnodcebbaaM0
import Derived.Test.YtmbjmmnodcebbaaM1
import Derived.Test.YtmbjmmnodcebbaaM4
import Derived.Deep.CutBlock

/- Contracts of the laws' helpers over slices of truth values that a call owns: eqBoolS, markBoolS, heldBoolS. -/
namespace Go.Proofs.Ytmbjmmnodcebbaa
open Go.RowKit

def mb (q : Int) : Bool := q % 3 == 0
def marksB (m : Int) (n : Nat) : List Bool := (List.range n).map (fun i => mb (m + (i : Nat)))
theorem marksB_length (m : Int) (n : Nat) : (marksB m n).length = n := by simp [marksB]
theorem marksB_at (m : Int) (n k : Nat) (h : k < n) : (marksB m n)[k]? = some (mb (m + k)) := by simp [marksB, h]
theorem own_slice {w : World} {base : Nat} {e : TypeId} {a : Option Addr} {n c : Nat} {cs : List Value} (h : w.ownsRow base e 1 (.slice a n c) n cs) (hn : 0 < n) : ∃ g, a = some ⟨g, 0, none⟩ := by
  rcases h.2 with ⟨hv, h0⟩ | ⟨g, cap, cur, hv, _⟩
  · simp only [Value.slice.injEq] at hv
    omega
  · simp only [Value.slice.injEq, true_and] at hv
    exact ⟨g, hv.1⟩

set_option maxHeartbeats 400000 in
theorem eqBoolS_same (base base' : Nat) (a a' : Option Addr) (n c c' : Nat) (bs : List Bool) (w : World) (hn : n ≤ 1048576) (ho : w.ownsRow base 4 1 (.slice a n c) n (bs.map .bool)) (ho' : w.ownsRow base' 4 1 (.slice a' n c') n (bs.map .bool)) :
    Calls Try.prog 16 #[.slice a n c, .slice a' n c'] w fun e w' => e = .returned (.bool true) ∧ Below w.heap.size w w' := by
  by_cases h0 : n = 0
  · subst h0
    go_enter Try.func16, Try.ntmps16
    go_wp2
    refine wp_loop_rounds 1 ?_
    rw [rounds_succ]
    go_wp2
    go_ret
    exact ⟨rfl, Below.refl _ _⟩
  · obtain ⟨g, rfl⟩ := own_slice ho (by omega)
    obtain ⟨g', rfl⟩ := own_slice ho' (by omega)
    have hl : bs.length = n := by have := ho.1; simpa using this
    have hc : ∀ k, k < n → ∃ x, bs[k]? = some x ∧ w.cell? ⟨g, k, none⟩ = some (.bool x) ∧ w.cell? ⟨g', k, none⟩ = some (.bool x) := fun k hk => by
      obtain ⟨x, hx⟩ : ∃ x, bs[k]? = some x := ⟨_, List.getElem?_eq_getElem (by omega)⟩
      have hm : (bs.map Value.bool)[k]? = some (.bool x) := by rw [List.getElem?_map, hx]; rfl
      exact ⟨x, hx, (ho.cellAt k (by omega)).trans hm, (ho'.cellAt k (by omega)).trans hm⟩
    have hlt1 : g < w.heap.size := by obtain ⟨x, _, h, _⟩ := hc 0 (by omega); exact World.block_lt_of_cell? w _ h
    have hlt2 : g' < w.heap.size := by obtain ⟨x, _, _, h⟩ := hc 0 (by omega); exact World.block_lt_of_cell? w _ h
    have HC := Hid.mk hc
    clear hc ho ho' hl
    go_enter Try.func16, Try.ntmps16
    go_wp2
    go_loopw [5] (fun i wr => ∃ (k : Nat), k ≤ n ∧ i = .int .i64 k ∧ Below w.heap.size w wr) (fun i _ => n - (intOf i).toNat)
    case atStart => exact ⟨0, Nat.zero_le _, rfl, Below.refl _ _⟩
    case round =>
      obtain ⟨k, hk, rfl, hbw⟩ := hrel
      by_cases hlt : k < n
      · obtain ⟨x, _, q1, q2⟩ := HC.out k hlt
        have hcx : wr.cell? ⟨g, k, none⟩ = some (.bool x) := (hbw.cell hlt1).trans q1
        have hcy : wr.cell? ⟨g', k, none⟩ = some (.bool x) := (hbw.cell hlt2).trans q2
        clear q1 q2
        have hxx : (x != x) = false := by cases x <;> rfl
        go_wp2
        go_quiet (fail)
        go_wp2
        go_roundw
        case rel => exact ⟨k + 1, by omega, by go_num, below_drewN hbw _⟩
        case measure => simp [intOf]; omega
      · go_wp2
        go_ret
        exact ⟨rfl, hbw⟩

set_option maxHeartbeats 400000 in
theorem markBoolS_any (base : Nat) (a : Option Addr) (n c : Nat) (cs : List Value) (m : Int) (w : World) (hn : n ≤ 1048576) (h0 : 0 ≤ m) (h1 : m ≤ 1073741824) (hown : w.ownsRow base 4 1 (.slice a n c) n cs) :
    Calls Try.prog 19 #[.slice a n c, .int .i64 m] w fun e w' => e = .returned (.int .i64 (m + n)) ∧
      w'.ownsRow base 4 1 (.slice a n c) n ((marksB m n).map .bool) ∧ w.grownBy w' (Value.slice a n c).ownBlock := by
  rcases hown.2 with ⟨hv, h00⟩ | ⟨g, cap, cur, hv, hjunk⟩
  · simp only [Value.slice.injEq] at hv
    obtain ⟨rfl, rfl, rfl⟩ := hv
    go_enter Try.func19, Try.ntmps19
    go_wp2
    refine wp_loop_rounds 1 ?_
    rw [rounds_succ]
    go_wp2
    go_ret
    exact ⟨by simp, by simpa [marksB] using World.ownsRow_nil w base 4 1, World.grownBy.refl _ _⟩
  · simp only [Value.slice.injEq, true_and] at hv
    obtain ⟨rfl, rfl⟩ := hv
    clear hjunk
    go_enter Try.func19, Try.ntmps19
    go_wp2
    go_loopw [1, 5] (fun q i wr => ∃ (k : Nat) (cs : List Value), k ≤ n ∧ i = .int .i64 k ∧ q = .int .i64 (m + k) ∧ cs.length = n ∧ (∀ j, j < k → cs[j]? = some (.bool (mb (m + (j : Nat))))) ∧ wr.ownsRow base 4 1 (.slice (some ⟨g, 0, none⟩) n c) n cs ∧ w.grownBy wr (some g)) (fun _ i _ => n - (intOf i).toNat)
    case atStart => exact ⟨0, cs, Nat.zero_le _, rfl, by simp, by simpa using hown.1, fun j h => absurd h (Nat.not_lt_zero _), hown, World.grownBy.refl _ _⟩
    case round =>
      clear hown cs
      obtain ⟨k, cs, hk, rfl, rfl, hcl, hu, hown, hbw⟩ := hrel
      by_cases hlt : k < n
      · obtain ⟨u, hu'⟩ : ∃ u, cs[k]? = some u := ⟨_, List.getElem?_eq_getElem (by omega)⟩
        have hco : wr.cell? ⟨g, k, none⟩ = some u := (hown.cellAt k (by omega)).trans hu'
        have hfo : wr.frozen? ⟨g, k, none⟩ = false := hown.frozenAt k
        obtain ⟨B, hB⟩ : ∃ B, mb (m + (k : Nat)) = B := ⟨_, rfl⟩
        have hBT : ((m + (k : Nat)) % 3 == 0) = B := hB
        have hst := hown.stored k (.bool B)
        have HU : Hid (∀ j, j < k + 1 → (cs.set k (.bool B))[j]? = some (.bool (mb (m + (j : Nat))))) := Hid.mk (fun j hj => by
          rw [List.getElem?_set]
          by_cases e : k = j
          · subst e
            rw [if_pos rfl, if_pos (by omega), hB]
          · rw [if_neg e]; exact hu j (by omega))
        have HL : Hid ((cs.set k (Value.bool B)).length = n) := Hid.mk (by rw [List.length_set]; exact hcl)
        have HO : Hid ((wr.setCell ⟨g, k, none⟩ (.bool B)).ownsRow base 4 1 (.slice (some ⟨g, 0, none⟩) n c) n (cs.set k (.bool B))) := hst.1
        have HB : Hid (w.grownBy (wr.setCell ⟨g, k, none⟩ (.bool B)) (some g)) :=
          ⟨hst.2.os.trans hbw.os, hst.2.tape.trans hbw.tape, hst.2.output.trans hbw.output, Nat.le_trans hbw.size hst.2.size, fun j hj hne => (hst.2.block j (Nat.lt_of_lt_of_le hj hbw.size) hne).trans (hbw.block j hj hne)⟩
        clear hst hu' hown hu hbw hcl hB
        have h3 : ¬ ((3 : Int) = 0) := by decide
        go_wp2
        go_roundw
        case rel => exact ⟨k + 1, _, by omega, by go_num, by go_num, HL.out, HU.out, HO.out, HB.out⟩
        case measure => simp [intOf]; omega
      · go_wp2
        go_ret
        obtain rfl : k = n := by omega
        have e : cs = (marksB m k).map .bool := by
          apply List.ext_getElem?
          intro j
          by_cases hj : j < k
          · rw [hu j hj, List.getElem?_map, marksB_at m k j hj]; rfl
          · rw [List.getElem?_eq_none (by omega), List.getElem?_eq_none (by rw [List.length_map, marksB_length]; omega)]
        rw [e] at hown
        exact ⟨rfl, hown, hbw⟩

set_option maxHeartbeats 400000 in
theorem heldBoolS_any (base : Nat) (a : Option Addr) (n c : Nat) (m : Int) (w : World) (hn : n ≤ 1048576) (h0 : 0 ≤ m) (h1 : m ≤ 1073741824) (hown : w.ownsRow base 4 1 (.slice a n c) n ((marksB m n).map .bool)) :
    Calls Try.prog 20 #[.slice a n c, .int .i64 m] w fun e w' => e = .returned (.int .i64 (m + n)) ∧ Below w.heap.size w w' := by
  by_cases hz : n = 0
  · subst hz
    go_enter Try.func20, Try.ntmps20
    go_wp2
    refine wp_loop_rounds 1 ?_
    rw [rounds_succ]
    go_wp2
    go_ret
    exact ⟨by simp, Below.refl _ _⟩
  · obtain ⟨g, rfl⟩ := own_slice hown (by omega)
    have HC : Hid (∀ k, k < n → w.cell? ⟨g, k, none⟩ = some (.bool (mb (m + (k : Nat))))) := Hid.mk (fun k hk => (hown.cellAt k (by omega)).trans (by rw [List.getElem?_map, marksB_at m n k hk]; rfl))
    clear hown
    go_enter Try.func20, Try.ntmps20
    go_wp2
    go_loopw [1, 5] (fun q i wr => ∃ (k : Nat), k ≤ n ∧ i = .int .i64 k ∧ q = .int .i64 (m + k) ∧ Below w.heap.size w wr) (fun _ i _ => n - (intOf i).toNat)
    case atStart => exact ⟨0, Nat.zero_le _, rfl, by simp, Below.refl _ _⟩
    case round =>
      obtain ⟨k, hk, rfl, rfl, hbw⟩ := hrel
      by_cases hlt : k < n
      · have hcx := (hbw.cell (World.block_lt_of_cell? w _ (HC.out k hlt))).trans (HC.out k hlt)
        obtain ⟨B, hB⟩ : ∃ B, mb (m + (k : Nat)) = B := ⟨_, rfl⟩
        have hBT : ((m + (k : Nat)) % 3 == 0) = B := hB
        rw [hB] at hcx
        have hxx : (B != B) = false := by cases B <;> rfl
        clear hB
        go_wp2
        go_roundw
        case rel => exact ⟨k + 1, by omega, by go_num, by go_num, hbw⟩
        case measure => simp [intOf]; omega
      · go_wp2
        go_ret
        obtain rfl : k = n := by omega
        exact ⟨rfl, hbw⟩

end Go.Proofs.Ytmbjmmnodcebbaa

/- Plain: a thing that is owned, and a list of truth values beside it. -/
namespace Go.Proofs.Ytmbjmmnodcebbaa
open Go.RowKit

theorem Try.infoBool : (Try.prog.info? 4).map (fun i => (i.zero, i.size, i.bytes)) = some (some (.bool false), 1, 1) := by kernel_rfl
/-- A list of truth values that is owned. -/
def BlOwn (w : World) (F : Nat → Prop) (a : Option Addr) (n c : Nat) (bs : List Bool) : Prop :=
  bs.length = n ∧ w.ownsRow 0 4 1 (.slice a n c) n (bs.map .bool) ∧ ∀ b, (Value.slice a n c).ownBlock = some b → F b
/-- A thing and a list of truth values, apart from one another. -/
def WithB {α : Type} (A : Rep α) (w : World) (F : Nat → Prop) (cs : List Value) (x : α) (a : Option Addr) (n c : Nat) (bs : List Bool) : Prop :=
  ∃ F1 F2, A.Own w F1 cs x ∧ BlOwn w F2 a n c bs ∧ (∀ b, F1 b → F b) ∧ (∀ b, F2 b → F b) ∧ ∀ b, F1 b → ¬ F2 b
section
variable {α : Type} {A : Rep α} {w w' : World} {F F' S : Nat → Prop} {cs : List Value} {x : α} {a : Option Addr} {n c : Nat} {bs : List Bool}
theorem BlOwn.frame (h : BlOwn w F a n c bs) (hb : ∀ b, F b → b < w.heap.size → w'.heap[b]? = w.heap[b]?) : BlOwn w' F a n c bs :=
  ⟨h.1, ownsRow_frame h.2.1 (fun b hb1 hb2 => hb b (h.2.2 b hb1) hb2), h.2.2⟩
theorem WithB.frame (h : WithB A w F cs x a n c bs) (hb : ∀ b, F b → b < w.heap.size → w'.heap[b]? = w.heap[b]?) : WithB A w' F cs x a n c bs := by
  obtain ⟨F1, F2, h1, h2, h3, h4, h5⟩ := h
  exact ⟨F1, F2, A.frame h1 (fun b k => hb b (h3 b k)), h2.frame (fun b k => hb b (h4 b k)), h3, h4, h5⟩
theorem WithB.ownBelow (h : WithB A w F cs x a n c bs) (hb : Below w.heap.size w w') : WithB A w' F cs x a n c bs := h.frame (fun b _ h2 => hb.block b h2)
theorem WithB.ownOff (h : WithB A w F cs x a n c bs) (hb : Off S w w') (hd : ∀ b, F b → ¬ S b) : WithB A w' F cs x a n c bs := h.frame (fun b h1 h2 => hb.block b h2 (hd b h1))
theorem WithB.mono (h : WithB A w F cs x a n c bs) (hF : ∀ b, F b → F' b) : WithB A w F' cs x a n c bs := by
  obtain ⟨F1, F2, h1, h2, h3, h4, h5⟩ := h
  exact ⟨F1, F2, h1, h2, fun b k => hF b (h3 b k), fun b k => hF b (h4 b k), h5⟩
theorem WithB.of {F1 : Nat → Prop} (h1 : A.Own w F1 cs x) (hl : bs.length = n) (h2 : w.ownsRow 0 4 1 (.slice a n c) n (bs.map .bool)) (h3 : ∀ b, F1 b → F b) (h4 : ∀ b, (Value.slice a n c).ownBlock = some b → ¬ F1 b ∧ F b) : WithB A w F cs x a n c bs :=
  ⟨F1, fun b => (Value.slice a n c).ownBlock = some b, h1, ⟨hl, h2, fun _ h => h⟩, h3, fun b h => (h4 b h).2, fun b k1 k2 => (h4 b k2).1 k1⟩
theorem WithB.toAt (h : WithB A w F cs x a n c bs) : A.At w cs x := by
  obtain ⟨_, _, h1, _⟩ := h
  exact A.toAt h1
theorem WithB.own1 (h : WithB A w F cs x a n c bs) : A.Own w (fun _ => True) cs x := by
  obtain ⟨_, _, h1, _⟩ := h
  exact A.mono h1 (fun _ _ => trivial)
theorem WithB.row (h : WithB A w F cs x a n c bs) : bs.length = n ∧ w.ownsRow 0 4 1 (.slice a n c) n (bs.map .bool) := by
  obtain ⟨_, _, _, h2, _⟩ := h
  exact ⟨h2.1, h2.2.1⟩
theorem WithB.void (h1 : A.Own w (fun _ => False) cs x) : WithB A w F cs x none 0 0 [] :=
  ⟨fun _ => False, fun _ => False, h1, ⟨rfl, World.ownsRow_nil _ _ _ _, fun b h => by cases h⟩, fun _ h => h.elim, fun _ h => h.elim, fun _ h => h.elim⟩
end

end Go.Proofs.Ytmbjmmnodcebbaa

/- One more thing at a slice's end. -/
namespace Go.Proofs.Ytmbjmmnodcebbaa
open Go.RowKit

section
variable {α : Type} {A : Rep α} {w w2 w4 : World} {F H F' : Nat → Prop} {e : TypeId} {a a' : Option Addr} {n c c' : Nat} {xs : List α} {cells vs : List Value} {G : Nat → Nat → Prop} {x : α}

theorem sub_append_left {cells vs : List Value} {o k : Nat} (h : o + k ≤ cells.length) : sub (cells ++ vs) o k = sub cells o k := by
  unfold sub
  rw [List.drop_append_of_le_length (by omega), List.take_append_of_le_length (by simp; omega)]
theorem sub_append_right {cells vs : List Value} {k : Nat} (h : vs.length = k) : sub (cells ++ vs) cells.length k = vs := by
  unfold sub
  rw [List.drop_left, ← h, List.take_length]

/-- Behind 'append(l, x)': the slice lies in its old block, or in a new one. -/
theorem Laid.push (h : Laid A w F e a n c xs cells G n) (hF : ∀ b, F b → b < w.heap.size) (hb : Below w.heap.size w w2) (ho : A.Own w2 H vs x) (hH : ∀ b, H b → w.heap.size ≤ b ∧ b < w2.heap.size)
    (hg : ∀ b, b < w2.heap.size → (Value.slice a n c).ownBlock ≠ some b → w4.heap[b]? = w2.heap[b]?) (hown : w4.ownsRow 0 e A.k (.slice a' (n + 1) c') (n + 1) (cells ++ vs))
    (hat : (Value.slice a' (n + 1) c').ownBlock = (Value.slice a n c).ownBlock ∨ ∀ b, (Value.slice a' (n + 1) c').ownBlock = some b → w2.heap.size ≤ b) (hbig : n + 1 ≤ 9223372036854775807)
    (hF1 : ∀ b, F b → F' b) (hF2 : ∀ b, H b → F' b) (hF3 : ∀ b, (Value.slice a' (n + 1) c').ownBlock = some b → F' b) :
    Laid A w4 F' e a' (n + 1) c' (xs ++ [x]) (cells ++ vs) (fun i => if i = n then H else G i) (n + 1) := by
  have hl := A.ownLen ho
  have hcl : cells.length = n * A.k := h.outer.1
  have hz := hb.size
  have hB : ∀ i b, i < n → G i b → b < w.heap.size ∧ (Value.slice a n c).ownBlock ≠ some b := fun i b hi hg' => ⟨hF b (h.rowF i b hi hg').1, (h.rowF i b hi hg').2⟩
  have hO : ∀ b, (Value.slice a n c).ownBlock = some b → b < w.heap.size := fun b hb' => hF b (h.outerF b hb')
  refine ⟨by simp [h.len], hbig, hown, hF3, fun i y hi hy => ?_, fun i b hi hb' => ?_, fun i j b hi hj hij hb' => ?_⟩
  · by_cases ei : i = n
    · subst ei
      simp only [if_true]
      obtain rfl : x = y := by
        rw [List.getElem?_append_right (by rw [h.len]; exact Nat.le_refl _)] at hy
        simpa [h.len] using hy
      have := sub_append_right (cells := cells) hl
      rw [hcl] at this
      rw [this]
      exact A.frame ho (fun b hb' _ => hg b (hH b hb').2 (fun e' => by have := hO b e'; have := (hH b hb').1; omega))
    · simp only [if_neg ei]
      have hi' : i < n := by omega
      rw [List.getElem?_append_left (by rw [h.len]; exact hi')] at hy
      rw [sub_append_left (by rw [hcl]; exact at_mul hi')]
      exact A.frame (A.ownBelow (h.row i y hi' hy) hb) (fun b hb' _ => hg b (by have := (hB i b hi' hb').1; omega) (hB i b hi' hb').2)
  · by_cases ei : i = n
    · subst ei
      simp only [if_true] at hb'
      refine ⟨hF2 b hb', fun e' => ?_⟩
      have h1 := hH b hb'
      rcases hat with h2 | h2
      · rw [h2] at e'
        have := hO b e'
        omega
      · have := h2 b e'
        omega
    · simp only [if_neg ei] at hb'
      have h1 := hB i b (by omega) hb'
      refine ⟨hF1 b (h.rowF i b (by omega) hb').1, fun e' => ?_⟩
      rcases hat with h2 | h2
      · rw [h2] at e'; exact h1.2 e'
      · have := h2 b e'
        omega
  · by_cases ei : i = n
    · subst ei
      simp only [if_true] at hb'
      simp only [if_neg (Ne.symm hij)]
      intro e'
      have := (hB j b (by omega) e').1
      have := (hH b hb').1
      omega
    · simp only [if_neg ei] at hb'
      by_cases ej : j = n
      · simp only [if_pos ej]
        intro e'
        have := (hB i b (by omega) hb').1
        have := (hH b e').1
        omega
      · simp only [if_neg ej]
        exact h.apart i j b (by omega) (by omega) hij hb'

/-- A slice of nothing. -/
theorem Laid.none (A : Rep α) (w : World) (F : Nat → Prop) (e : TypeId) : Laid A w F e none 0 0 [] [] (fun _ _ => False) 0 :=
  ⟨rfl, by omega, World.ownsRow_nil _ _ _ _, fun b hb => (by cases hb), fun i x h => by omega, fun i b h => by omega, fun i j b h => by omega⟩
end

end Go.Proofs.Ytmbjmmnodcebbaa

/- Plain: sinks that hold nothing; a sink that is told. -/
namespace Go.Proofs.Ytmbjmmnodcebbaa
open Go.RowKit

abbrev newK (src : List Int) : TSink := (src, 0, [], [], [], 0, 0)
theorem gk_new (src : List Int) : gkB (newK src) = decide (src.length ≤ 30) := by
  unfold gkB hdB
  simp [pgsB, upF, seg]
theorem RInts.void (w : World) (F : Nat → Prop) : RInts.Own w F [.slice none 0 0] [] := RInts.own_iff.2 ⟨rfl, by omega, World.ownsRow_nil _ _ _ _, fun b hb => by cases hb⟩
theorem RPrepareds.void (w : World) (F : Nat → Prop) : RPrepareds.Own w F [.slice none 0 0] [] := ⟨none, 0, 0, [], _, rfl, Laid.none _ _ _ _⟩
theorem RSink.void (w : World) (F : Nat → Prop) : RSink.Own w F [.slice none 0 0, .int .i64 0, .slice none 0 0, .slice none 0 0, .slice none 0 0, .int .i64 0, .int .i64 0] (newK []) :=
  RSink.own_mk (F0 := fun _ => False) (F2 := fun _ => False) (F3 := fun _ => False) (F4 := fun _ => False) (RInts.void _ _) (RInts.void _ _) ⟨none, 0, 0, [], _, rfl, Laid.none _ _ _ _⟩ (RInts.void _ _)
    (fun _ h => h.elim) (fun _ h => h.elim) (fun _ h => h.elim) (fun _ h => h.elim) (fun _ h => h.elim) (fun _ h => h.elim) (fun _ h => h.elim) (fun _ h => h.elim) (fun _ h => h.elim) (fun _ h => h.elim)
/-- A sink and a truth value that are told, in memory that the call made. -/
def SinkRet (e : Ending) (w' : World) (lo : Nat) (ok : Bool) (x : TSink) : Prop :=
  ∃ r0 m0 d0 r2 m2 d2 r3 m3 d3 r4 m4 d4, e = .returned (.tuple #[.agg #[.slice r0 m0 d0, .int .i64 x.2.1, .slice r2 m2 d2, .slice r3 m3 d3, .slice r4 m4 d4, .int .i64 x.2.2.2.2.2.1, .int .i64 x.2.2.2.2.2.2], .bool ok]) ∧
    RSink.Own w' (From lo w'.heap.size) [.slice r0 m0 d0, .int .i64 x.2.1, .slice r2 m2 d2, .slice r3 m3 d3, .slice r4 m4 d4, .int .i64 x.2.2.2.2.2.1, .int .i64 x.2.2.2.2.2.2] x
def SinkRetN (e : Ending) (w' : World) (lo : Nat) (k : Int) (ok : Bool) (x : TSink) : Prop :=
  ∃ r0 m0 d0 r2 m2 d2 r3 m3 d3 r4 m4 d4, e = .returned (.tuple #[.agg #[.slice r0 m0 d0, .int .i64 x.2.1, .slice r2 m2 d2, .slice r3 m3 d3, .slice r4 m4 d4, .int .i64 x.2.2.2.2.2.1, .int .i64 x.2.2.2.2.2.2], .int .i64 k, .bool ok]) ∧
    RSink.Own w' (From lo w'.heap.size) [.slice r0 m0 d0, .int .i64 x.2.1, .slice r2 m2 d2, .slice r3 m3 d3, .slice r4 m4 d4, .int .i64 x.2.2.2.2.2.1, .int .i64 x.2.2.2.2.2.2] x
theorem ownCap {w : World} {base : Nat} {e : TypeId} {size : Nat} {a : Option Addr} {n c : Nat} {xs : List Value} (h : w.ownsRow base e size (.slice a n c) n xs) : n ≤ c := by
  rcases h.2 with ⟨h', h0⟩ | ⟨g, cap, cur, h', _, _, h1, _⟩
  · simp at h'; omega
  · simp at h'; omega
/-- A row of numbers that the call made. -/
theorem RInts.made {w : World} {base : Nat} {a : Option Addr} {n c : Nat} {zs : List Int} (hz : zs.length = n) (hn : n ≤ 9223372036854775807) (ho : w.ownsRow base 3 1 (.slice a n c) n (zs.map (.int .i64))) : RInts.Own w (From base w.heap.size) [.slice a n c] zs :=
  RInts.own_iff.2 ⟨hz, hn, owns_mono ho (Nat.zero_le _), fun b hb => ho.lt b hb⟩
/-- A sink with a source alone. -/
theorem RSink.fresh {w : World} {F : Nat → Prop} {a : Option Addr} {n c : Nat} {zs : List Int} (h : RInts.Own w F [.slice a n c] zs) : RSink.Own w F [.slice a n c, .int .i64 0, .slice none 0 0, .slice none 0 0, .slice none 0 0, .int .i64 0, .int .i64 0] (newK zs) :=
  RSink.own_mk (F2 := fun _ => False) (F3 := fun _ => False) (F4 := fun _ => False) h (RInts.void _ _) (RPrepareds.void _ _) (RInts.void _ _)
    (fun _ h => h) (fun _ h => h.elim) (fun _ h => h.elim) (fun _ h => h.elim) (fun _ _ h => h.elim) (fun _ _ h => h.elim) (fun _ _ h => h.elim) (fun _ h => h.elim) (fun _ h => h.elim) (fun _ h => h.elim)
/-- What a good sink says. -/
theorem gk_parts {src : List Int} {t : Int} {pd : List Int} {ps : List TPrepared} {ou : List Int} {la up : Int} (h : gkB (src, t, pd, ps, ou, la, up) = true) :
    src.length ≤ 30 ∧ 0 ≤ t ∧ t ≤ src.length ∧ 0 ≤ up ∧ up ≤ t ∧ 0 ≤ la ∧ la ≤ 1000 ∧ ps.length ≤ 4 ∧ la + ps.length ≤ 1000 ∧ pgsB src t la up ps = true ∧ pd = seg src (upF up ps) t ∧ ou = seg src 0 up := by
  unfold gkB hdB at h
  simp only [Bool.and_eq_true, decide_eq_true_eq] at h
  obtain ⟨⟨⟨⟨⟨⟨⟨⟨h1, h2, h3⟩, h4, h5⟩, h6, h7⟩, h8⟩, h9⟩, h10⟩, h11⟩, h12⟩ := h
  exact ⟨h1, h2, h3, h4, h5, h6, h7, h8, h9, h10, h11, h12⟩
theorem gk_out {src : List Int} {t : Int} {pd : List Int} {ps : List TPrepared} {ou : List Int} {la up : Int} (h : gkB (src, t, pd, ps, ou, la, up) = true) : (ou.length : Int) = up ∧ ou.length ≤ 30 := by
  obtain ⟨h1, h2, h3, h4, h5, _, _, _, _, _, _, h12⟩ := gk_parts h
  have q : ou.length = up.toNat := by rw [h12, seg_len (by omega) h4 (by omega)]; omega
  omega
def outL (x : TSink) : List Int := if gkB x then x.2.2.2.2.1 else []
def outN (x : TSink) : Int := if gkB x then x.1.length - x.2.2.2.2.2.2 else 0
theorem out_small (x : TSink) : (outL x).length ≤ 30 := by
  obtain ⟨src, t, pd, ps, ou, la, up⟩ := x
  unfold outL
  split
  · next h => exact (gk_out h).2
  · simp
theorem new_smallK (src : List Int) : costSink (if gkB (newK src) then newK src else newK []) ≤ 1048576 := by
  rw [gk_new]
  cases h : decide (src.length ≤ 30) with
  | false => show costSink (newK []) ≤ 1048576; decide
  | true =>
    have := of_decide_eq_true h
    simp only [if_true]
    unfold costSink
    simp [csumPrepared_zero]
    omega

end Go.Proofs.Ytmbjmmnodcebbaa

/- The laws' copies of slices of numbers, of slices of numbers, as things that are owned. -/
namespace Go.Proofs.Ytmbjmmnodcebbaa
open Go.RowKit

theorem toInts_rep (a : Option Addr) (n c : Nat) (zs : List Int) (w : World) (hz : zs.length = n) (hn : n ≤ 1048576) (ha : At w a zs) :
    Calls Try.prog 14 #[.slice a n c] w fun e w' => ∃ g, e = .returned (.slice (some ⟨g, 0, none⟩) n n) ∧ RInts.Own w' (From w.heap.size w'.heap.size) [.slice (some ⟨g, 0, none⟩) n n] zs ∧ Below w.heap.size w w' :=
  (toIntS_any a n c zs w hz hn ha).mono fun _ _ ⟨h1, h2, h3⟩ => ⟨_, h1, RInts.of_owns hz (by omega) h2, h3⟩
end Go.Proofs.Ytmbjmmnodcebbaa

/- A block of cells that a function holds: what is stored, what stays. -/
namespace Go.Proofs.Ytmbjmmnodcebbaa
open Go.RowKit

theorem blk_set {w : World} {g : Nat} {cs : Array Value} {t : TypeId} (h : w.heap[g]? = some (.cells cs t (0, 0))) (k : Nat) (v : Value) : (w.setCell ⟨g, k, none⟩ v).heap[g]? = some (.cells (cs.setIfInBounds k v) t (0, 0)) := heap_setCell_same w g k cs t v h
theorem blk_cell {w : World} {g : Nat} {cs : Array Value} {t : TypeId} (h : w.heap[g]? = some (.cells cs t (0, 0))) (k : Nat) {v : Value} (hv : cs[k]? = some v) : w.cell? ⟨g, k, none⟩ = some v := by
  rw [cell_of_row w g k _ t (0, 0) h]; exact hv
theorem blk_frozen {w : World} {g : Nat} {cs : Array Value} {t : TypeId} (h : w.heap[g]? = some (.cells cs t (0, 0))) (k : Nat) : w.frozen? ⟨g, k, none⟩ = false := frozen_of_row w g k _ t h
theorem blk_below {w w' : World} {g : Nat} {o : Obj} (h : w.heap[g]? = some o) (hb : Below w.heap.size w w') : w'.heap[g]? = some o := (hb.block g (Array.getElem?_eq_some_iff.1 h).1).trans h
theorem blk_other {w : World} {g : Nat} {o : Obj} (h : w.heap[g]? = some o) {a : Addr} (ha : g ≠ a.block) (v : Value) : (w.setCell a v).heap[g]? = some o := (Below.heap_setCell w a v g ha).trans h
theorem blk_alloc {w : World} {g : Nat} {o : Obj} (h : w.heap[g]? = some o) (o' : Obj) : (w.alloc o').heap[g]? = some o := (Below.heap_alloc w o' g (Array.getElem?_eq_some_iff.1 h).1).trans h

end Go.Proofs.Ytmbjmmnodcebbaa

/- Plain: what steps do with a sink; a sink that is told by one who holds it. -/
namespace Go.Proofs.Ytmbjmmnodcebbaa
open Go.RowKit

/-- What was owned, and what is new since. -/
def Gr (F : Nat → Prop) (w w' : World) : Nat → Prop := fun b => F b ∨ (w.heap.size ≤ b ∧ b < w'.heap.size)
/-- A sink and a truth value, in what was held and in new memory. -/
def KRet (e : Ending) (w w' : World) (F : Nat → Prop) (ok : Bool) (x : TSink) : Prop :=
  ∃ r0 m0 d0 r2 m2 d2 r3 m3 d3 r4 m4 d4, e = .returned (.tuple #[.agg #[.slice r0 m0 d0, .int .i64 x.2.1, .slice r2 m2 d2, .slice r3 m3 d3, .slice r4 m4 d4, .int .i64 x.2.2.2.2.2.1, .int .i64 x.2.2.2.2.2.2], .bool ok]) ∧
    RSink.Own w' (Gr F w w') [.slice r0 m0 d0, .int .i64 x.2.1, .slice r2 m2 d2, .slice r3 m3 d3, .slice r4 m4 d4, .int .i64 x.2.2.2.2.2.1, .int .i64 x.2.2.2.2.2.2] x ∧ Off F w w'
theorem Off.cut {F : Nat → Prop} {w w' : World} (h : Off (fun b => F b ∨ w.heap.size ≤ b) w w') : Off F w w' :=
  ⟨h.os, h.tape, h.output, h.size, fun b hb hn => h.block b hb (fun e => e.elim hn (fun k => by omega))⟩
/-- In place: without one row. -/
theorem laid_eraseIn {α : Type} {A : Rep α} {w w' : World} {F : Nat → Prop} {e : TypeId} {g n c i : Nat} {xs : List α} {cells : List Value} {G : Nat → Nat → Prop} (h : Laid A w F e (some ⟨g, 0, none⟩) n c xs cells G n) (hi : i < n)
    (hw : ∀ b, b ≠ g → b < w.heap.size → w'.heap[b]? = w.heap[b]?)
    (hs : ∀ j, sub (cells.take (i * A.k) ++ cells.drop ((i + 1) * A.k)) (j * A.k) A.k = sub cells ((if j < i then j else j + 1) * A.k) A.k)
    (ho : w'.ownsRow 0 e A.k (.slice (some ⟨g, 0, none⟩) (n - 1) c) (n - 1) (cells.take (i * A.k) ++ cells.drop ((i + 1) * A.k))) :
    Laid A w' F e (some ⟨g, 0, none⟩) (n - 1) c (xs.eraseIdx i) (cells.take (i * A.k) ++ cells.drop ((i + 1) * A.k)) (fun j => G (if j < i then j else j + 1)) (n - 1) := by
  have hl := h.len
  have hb := h.big
  have hof : ∀ j, j < n - 1 → (if j < i then j else j + 1) < n := fun j hj => by split <;> omega
  refine ⟨by rw [List.length_eraseIdx, if_pos (by omega), hl], by omega, ho, h.outerF, fun j y hj hy => ?_, fun j b hj hb' => ?_, fun j l b hj hl' hjl hb' => ?_⟩
  · rw [hs j]
    refine A.frame (h.row _ y (hof j hj) ?_) (fun b h1 h2 => hw b (fun e => (h.rowF _ b (hof j hj) h1).2 (by rw [e]; rfl)) h2)
    rw [List.getElem?_eraseIdx] at hy
    by_cases hji : j < i
    · rw [if_pos hji] at hy ⊢; exact hy
    · rw [if_neg hji] at hy ⊢; exact hy
  · exact h.rowF _ b (hof j hj) hb'
  · exact h.apart _ _ b (hof j hj) (hof l hl') (by split <;> split <;> omega) hb'
theorem cell_apart {w : World} {b b' o o' : Nat} (v : Value) (h : b' ≠ b) : (w.setCell ⟨b, o, none⟩ v).cell? ⟨b', o', none⟩ = w.cell? ⟨b', o', none⟩ := World.cell?_of_block (Below.heap_setCell w ⟨b, o, none⟩ v b' h)
theorem sub_cut {cells : List Value} {n i : Nat} (hl : cells.length = n * 3) (hi : i < n) (j : Nat) : sub (cells.take (i * 3) ++ cells.drop ((i + 1) * 3)) (j * 3) 3 = sub cells ((if j < i then j else j + 1) * 3) 3 := by
  have ht : (cells.take (i * 3)).length = i * 3 := by rw [List.length_take]; omega
  apply List.ext_getElem?
  intro d
  by_cases hd : d < 3
  · rw [sub_at hd, sub_at hd]
    by_cases hji : j < i
    · rw [if_pos hji, List.getElem?_append_left (by omega), List.getElem?_take_of_lt (by omega)]
    · rw [if_neg hji, List.getElem?_append_right (by omega), ht, List.getElem?_drop]
      congr 1
      omega
  · rw [List.getElem?_eq_none (by simp [sub]; omega), List.getElem?_eq_none (by simp [sub]; omega)]

end Go.Proofs.Ytmbjmmnodcebbaa

/- Contract of the program's crash. -/
namespace Go.Proofs.Ytmbjmmnodcebbaa
open Go.RowKit

set_option maxRecDepth 100000 in
set_option maxHeartbeats 8000000 in
theorem crash_any (F : Nat → Prop) (a0 : Option Addr) (n0 c0 : Nat) (a2 : Option Addr) (n2 c2 : Nat) (a3 : Option Addr) (n3 c3 : Nat) (a4 : Option Addr) (n4 c4 : Nat) (t la up : Int) (src pd : List Int) (ps : List TPrepared) (ou : List Int) (w : World) (ho : RSink.Own w F [.slice a0 n0 c0, .int .i64 t, .slice a2 n2 c2, .slice a3 n3 c3, .slice a4 n4 c4, .int .i64 la, .int .i64 up] (src, t, pd, ps, ou, la, up)) :
    Calls Try.prog 54 #[.agg #[.slice a0 n0 c0, .int .i64 t, .slice a2 n2 c2, .slice a3 n3 c3, .slice a4 n4 c4, .int .i64 la, .int .i64 up]] w fun e w' => KRet e w w' F true (src, upF up ps, [], ps, ou, la, up) := by
  obtain ⟨W, hW⟩ : ∃ W, W = (w.alloc (.cells #[.slice a0 n0 c0, .int .i64 t, .slice a2 n2 c2, .slice a3 n3 c3, .slice a4 n4 c4, .int .i64 la, .int .i64 up] 29)).alloc (.cells #[.slice none 0 0, .int .i64 0, .slice none 0 0, .slice none 0 0, .slice none 0 0, .int .i64 0, .int .i64 0] 29) := ⟨_, rfl⟩
  have B0 : Below w.heap.size w W := by rw [hW]; exact ((Below.refl _ _).alloc (Nat.le_refl _) _).alloc (by simp) _
  have b0 : W.heap[w.heap.size]? = some (.cells #[.slice a0 n0 c0, .int .i64 t, .slice a2 n2 c2, .slice a3 n3 c3, .slice a4 n4 c4, .int .i64 la, .int .i64 up] 29 (0, 0)) := by rw [hW]; exact blk_alloc (heap_alloc_new w _) _
  have b1 : W.heap[w.heap.size + 1]? = some (.cells #[.slice none 0 0, .int .i64 0, .slice none 0 0, .slice none 0 0, .slice none 0 0, .int .i64 0, .int .i64 0] 29 (0, 0)) := by
    rw [hW]
    have q := heap_alloc_new (w.alloc (.cells #[.slice a0 n0 c0, .int .i64 t, .slice a2 n2 c2, .slice a3 n3 c3, .slice a4 n4 c4, .int .i64 la, .int .i64 up] 29)) (.cells #[.slice none 0 0, .int .i64 0, .slice none 0 0, .slice none 0 0, .slice none 0 0, .int .i64 0, .int .i64 0] 29)
    simpa only [World.size_alloc] using q
  have zW : W.heap.size = w.heap.size + 2 := by rw [hW]; simp
  obtain ⟨F0, F2, F3, F4, h0, h2, h3, h4, f0, f2, f3, f4, d02, d03, d04, d23, d24, d34⟩ := RSink.own_iff ho
  have h3l := RPrepareds.atSl h3
  have hb3 : n3 ≤ 9223372036854775807 := (RSink.at_iff (RSink.toAt ho)).2.2.1.2.1
  obtain ⟨X1, hX1⟩ : ∃ u, u = W.setCell ⟨w.heap.size, 2, none⟩ (.slice none 0 0) := ⟨_, rfl⟩
  have k0 : X1.heap[w.heap.size]? = some (.cells #[.slice a0 n0 c0, .int .i64 t, .slice none 0 0, .slice a3 n3 c3, .slice a4 n4 c4, .int .i64 la, .int .i64 up] 29 (0, 0)) := by rw [hX1]; exact blk_set b0 2 _
  have k1 : X1.heap[w.heap.size + 1]? = some (.cells #[.slice none 0 0, .int .i64 0, .slice none 0 0, .slice none 0 0, .slice none 0 0, .int .i64 0, .int .i64 0] 29 (0, 0)) := by rw [hX1]; exact blk_other b1 (by simp) _
  have C1 : Below w.heap.size w X1 := by rw [hX1]; exact B0.setCell (Nat.le_refl _) _
  have KS := Hid.mk (storedUpto_any a0 n0 c0 t none 0 0 a3 n3 c3 a4 n4 c4 la up ps X1 h3l.1 hb3 (AtSl.below h3l.2 C1))
  have q2 := blk_cell b0 2 (v := .slice a2 n2 c2) rfl
  have g2 := blk_frozen b0 2
  have p0 := blk_cell k0 0 (v := .slice a0 n0 c0) rfl
  have p1 := blk_cell k0 1 (v := .int .i64 t) rfl
  have p2 := blk_cell k0 2 (v := .slice none 0 0) rfl
  have p3 := blk_cell k0 3 (v := .slice a3 n3 c3) rfl
  have p4 := blk_cell k0 4 (v := .slice a4 n4 c4) rfl
  have p5 := blk_cell k0 5 (v := .int .i64 la) rfl
  have p6 := blk_cell k0 6 (v := .int .i64 up) rfl
  obtain ⟨V, hV⟩ : ∃ V, upF up ps = V := ⟨_, rfl⟩
  rw [hV] at KS ⊢
  have z1 : W.heap.size ≤ X1.heap.size := by rw [hX1]; simp [World.setCell]
  clear hV h3l hb3
  go_enter Try.func54, Try.ntmps54
  go_upto_region 1 with fail
  rw [← hW]
  clear hW
  go_upto_region 2 with fail
  rw [← hX1]
  clear hX1 q2 g2
  go_wp2_with fail
  refine KS.out.mono ?_
  rintro e w2 ⟨rfl, hb2⟩
  have k0 := blk_below k0 hb2
  have k1 := blk_below k1 hb2
  have z2 := hb2.size
  have C2 : Below w.heap.size w w2 := C1.trans (hb2.mono C1.size)
  obtain ⟨X3, hX3⟩ : ∃ u, u = w2.setCell ⟨w.heap.size, 1, none⟩ (.int .i64 V) := ⟨_, rfl⟩
  have e0 : X3.heap[w.heap.size]? = some (.cells #[.slice a0 n0 c0, .int .i64 V, .slice none 0 0, .slice a3 n3 c3, .slice a4 n4 c4, .int .i64 la, .int .i64 up] 29 (0, 0)) := by rw [hX3]; exact blk_set k0 1 _
  have e1 : X3.heap[w.heap.size + 1]? = some (.cells #[.slice none 0 0, .int .i64 0, .slice none 0 0, .slice none 0 0, .slice none 0 0, .int .i64 0, .int .i64 0] 29 (0, 0)) := by rw [hX3]; exact blk_other k1 (by simp) _
  have C3 : Below w.heap.size w X3 := by rw [hX3]; exact C2.setCell (Nat.le_refl _) _
  have z3 : w2.heap.size ≤ X3.heap.size := by rw [hX3]; simp [World.setCell]
  have q1 := blk_cell k0 1 (v := .int .i64 t) rfl
  have g1 := blk_frozen k0 1
  clear p0 p1 p2 p3 p4 p5 p6 KS
  go_upto_region 3 with fail
  rw [← hX3]
  clear hX3 q1 g1
  have p0 := blk_cell e0 0 (v := .slice a0 n0 c0) rfl
  have p1 := blk_cell e0 1 (v := .int .i64 V) rfl
  have p2 := blk_cell e0 2 (v := .slice none 0 0) rfl
  have p3 := blk_cell e0 3 (v := .slice a3 n3 c3) rfl
  have p4 := blk_cell e0 4 (v := .slice a4 n4 c4) rfl
  have p5 := blk_cell e0 5 (v := .int .i64 la) rfl
  have p6 := blk_cell e0 6 (v := .int .i64 up) rfl
  have y0 := blk_cell e1 0 (v := .slice none 0 0) rfl
  have y1 := blk_cell e1 1 (v := .int .i64 0) rfl
  have y2 := blk_cell e1 2 (v := .slice none 0 0) rfl
  have y3 := blk_cell e1 3 (v := .slice none 0 0) rfl
  have y4 := blk_cell e1 4 (v := .slice none 0 0) rfl
  have y5 := blk_cell e1 5 (v := .int .i64 0) rfl
  have y6 := blk_cell e1 6 (v := .int .i64 0) rfl
  have fz0 := blk_frozen e1 0
  have fz1 := blk_frozen e1 1
  have fz2 := blk_frozen e1 2
  have fz3 := blk_frozen e1 3
  have fz4 := blk_frozen e1 4
  have fz5 := blk_frozen e1 5
  have fz6 := blk_frozen e1 6
  obtain ⟨Y, hY⟩ : ∃ u, u = stores X3 (w.heap.size + 1) 0 [.slice a0 n0 c0, .int .i64 V, .slice none 0 0, .slice a3 n3 c3, .slice a4 n4 c4, .int .i64 la, .int .i64 up] := ⟨_, rfl⟩
  have S : Off (fun b => b = w.heap.size + 1) X3 Y := by rw [hY]; exact stores_off (F := fun b => b = w.heap.size + 1) _ _ _ _ rfl
  have zY : Y.heap.size = X3.heap.size := by rw [hY]; exact stores_size _ _ _ _
  have D : Below w.heap.size w Y := by rw [hY]; exact stores_below _ _ _ _ C3 (by omega)
  have R : Hid (KRet (.returned (.tuple #[.agg #[.slice a0 n0 c0, .int .i64 V, .slice none 0 0, .slice a3 n3 c3, .slice a4 n4 c4, .int .i64 la, .int .i64 up], .bool true])) w Y F true (src, V, [], ps, ou, la, up)) := Hid.mk
    ⟨a0, n0, c0, none, 0, 0, a3, n3, c3, a4, n4, c4, rfl, RSink.own_mk (F2 := fun _ => False) (RInts.ownBelow h0 D) (RInts.void _ _) (RPrepareds.ownBelow h3 D) (RInts.ownBelow h4 D) (fun b h => .inl (f0 b h)) (fun _ h => h.elim) (fun b h => .inl (f3 b h)) (fun b h => .inl (f4 b h)) (fun _ _ h => h.elim) d03 d04 (fun _ h => h.elim) (fun _ h => h.elim) d34, Off.below D⟩
  have HY := Hid.mk hY
  clear S hY zY D k0 k1 e0 e1 C1 C2 C3
  go_wp2
  refine bodyPost_ret (v := .tuple #[.agg #[.slice a0 n0 c0, .int .i64 V, .slice none 0 0, .slice a3 n3 c3, .slice a4 n4 c4, .int .i64 la, .int .i64 up], .bool true]) (by simp [results, Try.results54, go_sem, y0, y1, y2, y3, y4, y5, y6]) rfl ?_
  have h := R.out
  rw [HY.out] at h
  exact h

end Go.Proofs.Ytmbjmmnodcebbaa
