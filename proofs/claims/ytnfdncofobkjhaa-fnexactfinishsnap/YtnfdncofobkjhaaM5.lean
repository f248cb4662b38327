/- Several texts of one proof, in build order: SvB, AppendAll, StepV, StepW, ClnI, SvC, SvD, RowC. -/
import Derived.Test.YtnfdncofobkjhaaM4
import Derived.Test.YtnfdncofobkjhaaM0
import Derived.Deep.AppendLies
import Derived.Laws.AppendOwnNone
import Derived.Test.YtnfdncofobkjhaaM3
import Derived.Deep.CutBlock
import Derived.Test.YtnfdncofobkjhaaM1

/- A snap that the call owns: a wire put anew. -/
namespace Go.Proofs.Ytnfdncofobkjhaa
open Go.RowKit

variable {w W : World} {lo : Nat → Prop} {g0 n0 c0 g1 n1 c1 : Nat} {ps : List TProc} {ws : List TWire} {cells0 cells1 : List Value} {G : Nat → Nat → Prop}

theorem size_set (w : World) (a : Addr) (v : Value) : (w.setCell a v).heap.size = w.heap.size := by simp [World.setCell]

theorem SV.notG1 (h : SV w lo g0 n0 c0 g1 n1 c1 ps ws cells0 cells1 G) {k b : Nat} (hk : k < n1) (hb : G k b) : b ≠ g1 := fun e => (h.wi.rowF k b hk hb).2 (by rw [e]; rfl)

theorem SV.newWire (h : SV w lo g0 n0 c0 g1 n1 c1 ps ws cells0 cells1 G) {k j : Nat} {v : Value} {vs : List Value} {x' : TWire} {H : Nat → Prop} (hk : k < n1) (hj : j < 3)
    (hS : w.heap.size ≤ W.heap.size) (hW : ∀ b, b < w.heap.size → ¬ G k b → W.heap[b]? = w.heap[b]?) (hvs : (sub cells1 (k * 3) 3).set j v = vs)
    (hx : RWire.Own (W.setCell ⟨g1, k * 3 + j, none⟩ v) H vs x') (hH : ∀ b, H b → (G k b ∨ w.heap.size ≤ b) ∧ b < W.heap.size) :
    SV (W.setCell ⟨g1, k * 3 + j, none⟩ v) lo g0 n0 c0 g1 n1 c1 ps (ws.set k x') cells0 (sets cells1 (k * 3) vs) (fun i => if i = k then H else G i) := by
  have hcl : cells1.length = n1 * 3 := h.wi.outer.1
  have hcm : k * 3 + 3 ≤ cells1.length := by omega
  have hsl : (sub cells1 (k * 3) 3).length = 3 := by simp [sub]; omega
  have hvl : vs.length = 3 := by rw [← hvs]; simp [hsl]
  have l0 := h.l0
  have l1 := h.l1
  have hsz : (W.setCell ⟨g1, k * 3 + j, none⟩ v).heap.size = W.heap.size := size_set _ _ _
  have hg1 : W.heap[g1]? = w.heap[g1]? := hW g1 l1.2 (fun e => h.notG1 hk e rfl)
  have hg0 : (W.setCell ⟨g1, k * 3 + j, none⟩ v).heap[g0]? = w.heap[g0]? := (Below.heap_setCell _ _ _ _ h.ne).trans (hW g0 l0.2 (fun e => h.ap k g0 hk e rfl))
  have ho : W.ownsRow 0 76 3 (.slice (some ⟨g1, 0, none⟩) n1 c1) n1 (sets cells1 (k * 3) (sub cells1 (k * 3) 3)) := by
    rw [sets_self _ _ _ hcm]
    exact ownsRow_frame h.wi.outer (fun b hb _ => by
      simp [Value.ownBlock] at hb
      rw [← hb]; exact hg1)
  have ho2 := owns_sets_store ho j v (by rw [hsl]; exact hj) (by rw [hsl]; exact hcm)
  rw [hvs] at ho2
  have hF : ∀ b, In lo w.heap.size b → In lo (W.setCell ⟨g1, k * 3 + j, none⟩ v).heap.size b ∧ b < w.heap.size := fun b hb => ⟨⟨hb.1, by have := hb.2; omega⟩, hb.2⟩
  refine ⟨⟨h.pr.len, h.pr.big, ownsRow_frame h.pr.outer (fun b hb _ => by
      simp [Value.ownBlock] at hb
      rw [← hb]; exact hg0), fun b hb => (hF b (h.pr.outerF b hb)).1, fun i y hi hy => RProc.frame (h.pr.row i y hi hy) (fun b hb => hb.elim), fun i b _ hb => hb.elim, fun _ _ _ _ _ _ hb => hb.elim⟩, ?_, h.ne, fun i b hi hb => ?_, fun b k => h.up b (by rw [hsz] at k; omega)⟩
  · refine h.wi.renew hk (fun b hb hg hn => (Below.heap_setCell _ _ _ _ (fun e => hn (by rw [e]; rfl))).trans (hW b hb hg)) ho2 (fun j' hj' => ?_) ?_ hF (fun b hb => ⟨?_, (hH b hb).1⟩)
    · exact sub_sets_far _ _ _ _ _ (by rw [hvl]; exact mul_far (k := 3) hj')
    · show RWire.Own _ _ (sub (sets cells1 (k * 3) vs) (k * 3) 3) x'
      have hsu : sub (sets cells1 (k * 3) vs) (k * 3) 3 = vs := by
        have q := sub_sets cells1 (k * 3) vs (by rw [hvl]; exact hcm)
        rw [hvl] at q
        exact q
      rw [hsu]
      exact hx
    · refine ⟨?_, by rw [hsz]; exact (hH b hb).2⟩
      rcases (hH b hb).1 with q | q
      · exact (h.wi.rowF k b hk q).1.1
      · exact h.up b q
  · by_cases e : i = k
    · subst e
      simp only [if_true] at hb
      rcases (hH b hb).1 with q | q
      · exact h.ap i b hi q
      · omega
    · simp only [if_neg e] at hb
      exact h.ap i b hi hb

/-- A wire opened or shut. -/
theorem SV.setOpen (h : SV w lo g0 n0 c0 g1 n1 c1 ps ws cells0 cells1 G) {k : Nat} {x : TWire} (hx : ws[k]? = some x) (b' : Bool) :
    ∃ cells1' G', SV (w.setCell ⟨g1, k * 3 + 2, none⟩ (.bool b')) lo g0 n0 c0 g1 n1 c1 ps (ws.set k (x.1, x.2.1, b')) cells0 cells1' G' := by
  obtain ⟨a0, d0, a1, d1, F0, F1, hk, hs, _, _, _, r0, r1, f0, f1, d01⟩ := h.wire (x0 := x.1) (x1 := x.2.1) (b := x.2.2) hx
  have hh : ∀ b, G k b → (w.setCell ⟨g1, k * 3 + 2, none⟩ (.bool b')).heap[b]? = w.heap[b]? := fun b hb => Below.heap_setCell _ _ _ _ (h.notG1 hk hb)
  refine ⟨_, _, h.newWire (W := w) (vs := [.slice a0 x.1.length d0, .slice a1 x.2.1.length d1, .bool b']) (H := G k) hk (by omega) (Nat.le_refl _) (fun _ _ _ => rfl) (by rw [hs]; rfl)
    (RWire.own_mk (RInts.frame r0 (fun b hb _ => hh b (f0 b hb))) (RInts.frame r1 (fun b hb _ => hh b (f1 b hb))) f0 f1 d01) (fun b hb => ⟨.inl hb, (h.wi.rowF k b hk hb).1.2⟩)⟩

/-- A wire's words put anew, in new memory. -/
theorem SV.setWords (h : SV w lo g0 n0 c0 g1 n1 c1 ps ws cells0 cells1 G) {k : Nat} {x : TWire} (hx : ws[k]? = some x) {r : Option Addr} {ys : List Int} {d : Nat} (hB : Below w.heap.size w W)
    (hm : ys.length ≤ 9223372036854775807) (ho : W.ownsRow w.heap.size 3 1 (.slice r ys.length d) ys.length (ys.map (Value.int .i64))) :
    ∃ cells1' G', SV (W.setCell ⟨g1, k * 3, none⟩ (.slice r ys.length d)) lo g0 n0 c0 g1 n1 c1 ps (ws.set k (ys, x.2.1, x.2.2)) cells0 cells1' G' := by
  obtain ⟨a0, d0, a1, d1, F0, F1, hk, hs, _, _, _, r0, r1, f0, f1, d01⟩ := h.wire (x0 := x.1) (x1 := x.2.1) (b := x.2.2) hx
  have l1 := h.l1
  have hlt : ∀ b, G k b → b < w.heap.size := fun b hb => (h.wi.rowF k b hk hb).1.2
  have hh : ∀ b, G k b → (W.setCell ⟨g1, k * 3 + 0, none⟩ (.slice r ys.length d)).heap[b]? = w.heap[b]? := fun b hb => (Below.heap_setCell _ _ _ _ (h.notG1 hk hb)).trans (hB.block b (hlt b hb))
  have hn : RInts.Own (W.setCell ⟨g1, k * 3 + 0, none⟩ (.slice r ys.length d)) (From w.heap.size W.heap.size) [.slice r ys.length d] ys :=
    RInts.frame (RInts.of_owns rfl hm ho) (fun b hb _ => Below.heap_setCell _ _ _ _ (fun e => by have q : b = g1 := e; have := hb.1; omega))
  refine ⟨_, _, h.newWire (W := W) (vs := [.slice r ys.length d, .slice a1 x.2.1.length d1, .bool x.2.2]) (H := fun b => From w.heap.size W.heap.size b ∨ F1 b) (j := 0) hk (by omega) hB.size (fun b hb _ => hB.block b hb) (by rw [hs]; rfl)
    (RWire.own_mk hn (RInts.frame r1 (fun b hb _ => hh b (f1 b hb))) (fun b hb => .inl hb) (fun b hb => .inr hb) (fun b hb hb' => by have := hb.1; have := hlt b (f1 b hb'); omega)) (fun b hb => ?_)⟩
  rcases hb with q | q
  · exact ⟨.inr q.1, q.2⟩
  · exact ⟨.inl (f1 b q), by have := hlt b (f1 b q); have := hB.size; omega⟩

end Go.Proofs.Ytnfdncofobkjhaa

/- 'append(out, xs...)': out the call's own, xs whatever slice of ints: nil, empty or not; and a variable of a row behind the store. -/
namespace Go.Proofs.Ytnfdncofobkjhaa
open Go.RowKit

theorem newcell (w : World) (v : Value) (t : TypeId) : (w.alloc (.cells #[v] t)).cell? ⟨w.heap.size, 0, none⟩ = some v := by simp
theorem newfrozen (w : World) (v : Value) (t : TypeId) : (w.alloc (.cells #[v] t)).frozen? ⟨w.heap.size, 0, none⟩ = false := by simp

theorem cell_set {w : World} {a : Addr} {u : Value} (h : w.cell? a = some u) (v : Value) : (w.setCell a v).cell? a = some v := World.cell?_setCell_same' w a v (by simp [h])
theorem size_lt (w : World) (o : Obj) : w.heap.size < (w.alloc o).heap.size := by simp
theorem lt_set {w : World} {a : Addr} {u : Value} (h : w.cell? a = some u) (v : Value) : a.block < (w.setCell a v).heap.size := by
  have := World.block_lt_of_cell? _ _ h
  simpa [World.setCell] using this
theorem keep_far {w : World} {b b' o o' : Nat} {v u : Value} (h : w.cell? ⟨b, o, none⟩ = some v) (hne : b ≠ b') : (w.setCell ⟨b', o', none⟩ u).cell? ⟨b, o, none⟩ = some v :=
  (World.cell?_of_block (Below.heap_setCell w ⟨b', o', none⟩ u b hne)).trans h

theorem owns_slice {w : World} {base : Nat} {e : TypeId} {size : Nat} {v : Value} {n : Nat} {xs : List Value} (h : w.ownsRow base e size v n xs) : ∃ r cap, v = .slice r n cap := by
  rcases h.2 with ⟨rfl, rfl⟩ | ⟨g, cap, cur, rfl, _⟩
  · exact ⟨none, 0, rfl⟩
  · exact ⟨_, cap, rfl⟩

theorem wpList_append_all {P : Program} {w : World} {ops : Array Oper} {rest : List Oper} {o : Oper} {a : Act} {Q : Exit → Act → World → Prop} (hgd : o.guard = none) (s x : Operand) (t : TypeId)
    (ho : o.op = .call { callee := .builtin .append, args := #[s, x], argTypes := #[t, t] })
    (base : Nat) (e : TypeId) (i : TypeInfo) (z : Value) (bytes : Nat) (ht : P.underlying t = some (.slice e)) (hi : P.info? e = some i) (hz : i.zero = some z)
    (hsize : i.size = 1) (hby : i.bytes = bytes) (hzs : z.cells.size = 1)
    (v : Value) (n : Nat) (xs : List Value) (hs : a.eval s = v) (hown : w.ownsRow base e 1 v n xs)
    (ao : Option Addr) (m c : Nat) (zs : List Int) (hx : a.eval x = .slice ao m c) (hl : zs.length = m) (hat : At w ao zs) (hnil : ao = none → c = 0)
    (h63 : n + m ≤ maxLen) (hbytes : (n + m) * bytes ≤ 140737488355328) (hbase : base ≤ w.heap.size)
    (h : ∀ r cap w', w'.ownsRow base e 1 (.slice r (n + m) cap) (n + m) (xs ++ zs.map (.int .i64)) → w.grownBy w' v.ownBlock → wpList P ops Q rest (a.put o.dst (.slice r (n + m) cap)) w') : wpList P ops Q (o :: rest) a w := by
  cases ao with
  | none =>
    have hc := hnil rfl
    have hzs' : zs = [] := by
      rcases hat with h | ⟨b, off, h, _⟩
      · exact h
      · cases h
    subst hzs' hc
    simp at hl
    subst hl
    refine wpList_append_own_none hgd s x t ho base e i 1 ht hi v n xs hs hown hx ?_
    obtain ⟨r, cap, rfl⟩ := owns_slice hown
    have := h r cap w (by simpa using hown) (World.grownBy.refl _ _)
    simpa using this
  | some ad =>
    refine wpList_append_own w hgd s x t ho base e i z 1 bytes ht hi hz hsize hby hzs (by decide) v n xs hs hown ad m c (zs.map (.int .i64)) hx (by simpa using hl) ?_ ?_ h63 hbytes hbase ?_
    · intro j u hj
      have hjl : j < zs.length := by
        have := (List.getElem?_eq_some_iff.1 hj).1
        simpa using this
      obtain ⟨b, off, he, _, hc⟩ := hat.some (by omega)
      simp only [Option.some.injEq] at he
      subst he
      rw [Addr.add_lit, hc j hjl]
      simpa [List.getD, hjl] using hj
    · intro u hu
      obtain ⟨y, _, rfl⟩ := List.mem_map.1 hu
      rfl
    · intro v' w' h2 h3 _
      obtain ⟨r, cap, rfl⟩ := owns_slice h2
      exact h r cap w' h2 h3

/-- Behind 'x.f = <a slice that the call owns>'. -/
theorem RowVar.put {w w1 : World} {R : Nat} {t : TypeId} {base : Nat} {e : TypeId} {a r : Option Addr} {n c k cap : Nat} {zs ys : List Int} (h : RowVar w R t base e a n c zs) (hl : ys.length = k)
    (hown : w1.ownsRow base e 1 (.slice r k cap) k (ys.map (.int .i64))) (hg : w.grownBy w1 (Value.slice a n c).ownBlock) :
    w1.cell? ⟨R, 0, none⟩ = some (.slice a n c) ∧ w1.frozen? ⟨R, 0, none⟩ = false ∧ RowVar (w1.setCell ⟨R, 0, none⟩ (.slice r k cap)) R t base e r k cap ys := by
  have hlt := (Array.getElem?_eq_some_iff.1 h.2.2.1).1
  have hR : w1.heap[R]? = some (.cells #[.slice a n c] t (0, 0)) := by
    rw [hg.block R hlt (fun e' => by have := (h.2.2.2.lt R e'.symm).1; have := h.2.1; omega)]
    exact h.2.2.1
  refine ⟨by rw [cell_of_row w1 R 0 _ t (0, 0) hR]; simp, frozen_of_row w1 R 0 _ t hR, hl, h.2.1, ?_, ?_⟩
  · rw [heap_setCell_same w1 R 0 _ t _ hR]; simp
  · exact ownsRow_setCell_below hown h.2.1 _
theorem RowVar.put_below {w w1 : World} {R : Nat} {t : TypeId} {base : Nat} {e : TypeId} {a : Option Addr} {n c : Nat} {zs : List Int} {B : Nat} {W : World} {v : Value} (h : RowVar w R t base e a n c zs)
    (hg : w.grownBy w1 (Value.slice a n c).ownBlock) (hB : Below B W w) (hBR : B ≤ R) : Below B W (w1.setCell ⟨R, 0, none⟩ v) := by
  have hlt := (Array.getElem?_eq_some_iff.1 h.2.2.1).1
  have hb := h.2.1
  exact (hB.grown hg (by omega) (fun j hj => by have := (h.2.2.2.lt j hj).1; omega)).setCell hBR _

/-- As RowVar, the slice's cells in any block of the call's own but the variable's. -/
def RowVar2 (w : World) (R : Nat) (t : TypeId) (base : Nat) (e : TypeId) (a : Option Addr) (n c : Nat) (zs : List Int) : Prop :=
  zs.length = n ∧ w.heap[R]? = some (.cells #[.slice a n c] t (0, 0)) ∧ w.ownsRow base e 1 (.slice a n c) n (zs.map (.int .i64)) ∧ ∀ k, (Value.slice a n c).ownBlock = some k → k ≠ R

theorem RowVar2.cell {w : World} {R : Nat} {t : TypeId} {base : Nat} {e : TypeId} {a : Option Addr} {n c : Nat} {zs : List Int} (h : RowVar2 w R t base e a n c zs) : w.cell? ⟨R, 0, none⟩ = some (.slice a n c) := by
  rw [cell_of_row w R 0 _ t (0, 0) h.2.1]; simp
theorem RowVar2.frozen {w : World} {R : Nat} {t : TypeId} {base : Nat} {e : TypeId} {a : Option Addr} {n c : Nat} {zs : List Int} (h : RowVar2 w R t base e a n c zs) : w.frozen? ⟨R, 0, none⟩ = false := frozen_of_row w R 0 _ t h.2.1
theorem RowVar2.own {w : World} {R : Nat} {t : TypeId} {base : Nat} {e : TypeId} {a : Option Addr} {n c : Nat} {zs : List Int} (h : RowVar2 w R t base e a n c zs) : w.ownsRow base e 1 (.slice a n c) n (zs.map (.int .i64)) := h.2.2.1
theorem RowVar2.lt {w : World} {R : Nat} {t : TypeId} {base : Nat} {e : TypeId} {a : Option Addr} {n c : Nat} {zs : List Int} (h : RowVar2 w R t base e a n c zs) : R < w.heap.size := (Array.getElem?_eq_some_iff.1 h.2.1).1
theorem RowVar2.below {w w' : World} {R : Nat} {t : TypeId} {base : Nat} {e : TypeId} {a : Option Addr} {n c : Nat} {zs : List Int} (h : RowVar2 w R t base e a n c zs) (hb : Below w.heap.size w w') : RowVar2 w' R t base e a n c zs :=
  ⟨h.1, (hb.block R h.lt).trans h.2.1, owns_below h.2.2.1 hb, h.2.2.2⟩
theorem RowVar2.new {w : World} {t : TypeId} {base : Nat} {e : TypeId} {a : Option Addr} {n c : Nat} {zs : List Int} (hl : zs.length = n) (h : w.ownsRow base e 1 (.slice a n c) n (zs.map (.int .i64))) : RowVar2 (w.alloc (.cells #[.slice a n c] t)) w.heap.size t base e a n c zs :=
  ⟨hl, heap_alloc_new w _, h.alloc _, fun k hk => by have := (h.lt k hk).2; omega⟩

theorem setCell_grown (w : World) (a : Addr) (v : Value) : w.grownBy (w.setCell a v) (some a.block) :=
  ⟨rfl, rfl, rfl, by simp [World.setCell], fun k _ hn => Below.heap_setCell w a v k (fun e => hn (by rw [e]))⟩

theorem RowVar2.pushed {w w1 : World} {R : Nat} {t : TypeId} {base : Nat} {e : TypeId} {a : Option Addr} {n c g cap : Nat} {zs : List Int} {x : Int} {o : Obj} (h : RowVar2 w R t base e a n c zs)
    (hown : w1.ownsRow base e 1 (.slice (some ⟨g, 0, none⟩) (n + 1) cap) (n + 1) (zs.map (.int .i64) ++ [.int .i64 x])) (hg : (w.alloc o).grownBy w1 (Value.slice a n c).ownBlock)
    (hat : (Value.slice a n c).ownBlock = some g ∨ g = w.heap.size + 1) :
    w1.cell? ⟨R, 0, none⟩ = some (.slice a n c) ∧ w1.frozen? ⟨R, 0, none⟩ = false ∧
      RowVar2 (w1.setCell ⟨R, 0, none⟩ (.slice (some ⟨g, 0, none⟩) (n + 1) cap)) R t base e (some ⟨g, 0, none⟩) (n + 1) cap (zs ++ [x]) := by
  have hlt := h.lt
  have hgR : g ≠ R := by
    rcases hat with h' | h'
    · exact h.2.2.2 g h'
    · omega
  have hR : w1.heap[R]? = some (.cells #[.slice a n c] t (0, 0)) := by
    rw [hg.block R (by simp; omega) (fun e' => h.2.2.2 R e'.symm rfl), Below.heap_alloc w o R hlt]
    exact h.2.1
  refine ⟨by rw [cell_of_row w1 R 0 _ t (0, 0) hR]; simp, frozen_of_row w1 R 0 _ t hR, by simp [h.1], ?_, ?_, ?_⟩
  · rw [heap_setCell_same w1 R 0 _ t _ hR]; simp
  · rw [List.map_append]
    exact hown.kept (setCell_grown w1 ⟨R, 0, none⟩ _) (.inr (by simp [Value.ownBlock, hgR]))
  · intro k hk
    simp [Value.ownBlock] at hk
    omega

theorem RowVar2.pushed_below {w w1 : World} {R : Nat} {t : TypeId} {base : Nat} {e : TypeId} {a : Option Addr} {n c : Nat} {zs : List Int} {o : Obj} {B : Nat} {W : World} {v : Value} (h : RowVar2 w R t base e a n c zs)
    (hg : (w.alloc o).grownBy w1 (Value.slice a n c).ownBlock) (hB : Below B W w) (hBR : B ≤ R) (hBb : B ≤ base) : Below B W (w1.setCell ⟨R, 0, none⟩ v) := by
  have hlt := h.lt
  exact ((hB.alloc (by omega) o).grown hg (by simp; omega) (fun j hj => by have := (h.2.2.1.lt j hj).1; omega)).setCell hBR _

end Go.Proofs.Ytnfdncofobkjhaa

/- An append of whatever cells, at a step of a region that draws. -/
namespace Go.Proofs.Ytnfdncofobkjhaa
open Go.RowKit

theorem step_append_vals {P : Program} {w : World} {ops : Array Oper} {o : Oper} {a : Act} {K : Act → World → Prop} {Q : Exit → Act → World → Prop} {E : Prop} (hgd : o.guard = none) (s x : Operand) (t : TypeId)
    (ho : o.op = .call { callee := .builtin .append, args := #[s, x], argTypes := #[t, t] })
    (base : Nat) (e : TypeId) (i : TypeInfo) (z : Value) (size bytes : Nat) (ht : P.underlying t = some (.slice e)) (hi : P.info? e = some i) (hz : i.zero = some z)
    (hsize : i.size = size) (hby : i.bytes = bytes) (hzs : z.cells.size = size) (hsz : 0 < size)
    (v : Value) (n : Nat) (xs : List Value) (hs : a.eval s = v) (hown : w.ownsRow base e size v n xs)
    (ao : Option Addr) (m c : Nat) (news : List Value) (hx : a.eval x = .slice ao m c) (hl : news.length = m * size) (hat : ∀ ad, ao = some ad → ∀ (j : Nat) (u : Value), news[j]? = some u → w.cell? (ad.add j) = some u) (h1 : ∀ u ∈ news, u.oneCell' = true) (hnil : ao = none → c = 0 ∧ m = 0)
    (h63 : n + m ≤ maxLen) (hbytes : (n + m) * bytes ≤ 140737488355328) (hbase : base ≤ w.heap.size)
    (h : ∀ r cap w', w'.ownsRow base e size (.slice r (n + m) cap) (n + m) (xs ++ news) → w.grownBy w' v.ownBlock → ((Value.slice r (n + m) cap).ownBlock = v.ownBlock ∨ (Value.slice r (n + m) cap).ownBlock = some w.heap.size) → K (a.put o.dst (.slice r (n + m) cap)) w') :
    if Region.wanted o (yielded ops a.tmps) = true then Oper.wp P o a w K Q else E := by
  have hw : Region.wanted o (yielded ops a.tmps) = true := by simp [Region.wanted, hgd]
  rw [if_pos hw]
  cases ao with
  | none =>
    obtain ⟨hc, hm⟩ := hnil rfl
    subst hc hm
    obtain rfl : news = [] := List.eq_nil_of_length_eq_zero (by simpa using hl)
    obtain ⟨r, cap, rfl⟩ := owns_slice hown
    have hrun := run_append_owned_none (P := P) (w := w) base t o.type e i size ht hi (.slice r n cap) n xs hown
    have := h r cap w (by simpa using hown) (World.grownBy.refl _ _) (.inl rfl)
    unfold Oper.wp
    simp [execOp, ho, resolve, invoke, builtin, hs, hx, hrun, Result.andThen]
    rw [Nat.add_zero] at this
    exact this
  | some ad =>
    obtain ⟨v', w', hr, h2, h3, _, h5⟩ := run_append_own_at (P := P) w base t o.type e i z size bytes ht hi hz hsize hby hzs hsz v n xs hown ad m c news hl (fun j u hj => hat ad rfl j u hj) h1 h63 hbytes hbase
    obtain ⟨r, cap, rfl⟩ := owns_slice h2
    unfold Oper.wp execOp
    simp only [ho, resolve, invoke, builtin, Sem.run_bind, Sem.run_pure, Result.andThen_ok, List.map_toArray, List.map_cons, List.map_nil, hs, hx, hr]
    exact h r cap w' h2 h3 h5

end Go.Proofs.Ytnfdncofobkjhaa

/- An append of whatever cells, in a plain region. -/
namespace Go.Proofs.Ytnfdncofobkjhaa
open Go.RowKit

theorem wpList_app_vals {P : Program} {w : World} {ops : Array Oper} {rest : List Oper} {o : Oper} {a : Act} {Q : Exit → Act → World → Prop} (hgd : o.guard = none) (s x : Operand) (t : TypeId)
    (ho : o.op = .call { callee := .builtin .append, args := #[s, x], argTypes := #[t, t] })
    (base : Nat) (e : TypeId) (i : TypeInfo) (z : Value) (size bytes : Nat) (ht : P.underlying t = some (.slice e)) (hi : P.info? e = some i) (hz : i.zero = some z)
    (hsize : i.size = size) (hby : i.bytes = bytes) (hzs : z.cells.size = size) (hsz : 0 < size)
    (v : Value) (n : Nat) (xs : List Value) (hs : a.eval s = v) (hown : w.ownsRow base e size v n xs)
    (ao : Option Addr) (m c : Nat) (news : List Value) (hx : a.eval x = .slice ao m c) (hl : news.length = m * size) (hat : ∀ ad, ao = some ad → ∀ (j : Nat) (u : Value), news[j]? = some u → w.cell? (ad.add j) = some u) (h1 : ∀ u ∈ news, u.oneCell' = true) (hnil : ao = none → c = 0 ∧ m = 0)
    (h63 : n + m ≤ maxLen) (hbytes : (n + m) * bytes ≤ 140737488355328) (hbase : base ≤ w.heap.size)
    (h : ∀ r cap w', w'.ownsRow base e size (.slice r (n + m) cap) (n + m) (xs ++ news) → w.grownBy w' v.ownBlock → ((Value.slice r (n + m) cap).ownBlock = v.ownBlock ∨ (Value.slice r (n + m) cap).ownBlock = some w.heap.size) → wpList P ops Q rest (a.put o.dst (.slice r (n + m) cap)) w') :
    wpList P ops Q (o :: rest) a w :=
  wpList_plain hgd fun K hK => by
    have hw : Region.wanted o (yielded ops a.tmps) = true := by simp [Region.wanted, hgd]
    have h9 := step_append_vals (P := P) (w := w) (ops := ops) (o := o) (a := a) (K := K) (Q := Q) (E := True) hgd s x t ho base e i z size bytes ht hi hz hsize hby hzs hsz v n xs hs hown ao m c news hx hl hat h1 hnil h63 hbytes hbase (fun r cap w' k1 k2 k3 => hK _ _ (h r cap w' k1 k2 k3))
    rw [if_pos hw] at h9
    exact h9

end Go.Proofs.Ytnfdncofobkjhaa

/- Contract of slices.Clone at ints. -/
namespace Go.Proofs.Ytnfdncofobkjhaa
open Go.RowKit

theorem own_void (w : World) (e : TypeId) (size : Nat) : (w.alloc (.cells #[] e)).ownsRow w.heap.size e size (.slice (some ⟨w.heap.size, 0, none⟩) 0 0) 0 [] :=
  ⟨by simp, .inr ⟨w.heap.size, 0, #[], rfl, Nat.le_refl _, heap_alloc_new w _, by simp, by simp, by simp, by simp⟩⟩
theorem eqNilI (a : Option Addr) (n c : Nat) (w : World) : (binOp .eql 41 (.slice a n c) (.slice none 0 0)).run Try.prog w = .ok (.bool a.isNone) w := by
  have he : (Op.equalIn (9999 + 1) 41 (.slice a n c) (.slice none 0 0)).run Try.prog w = .ok a.isNone w := by
    unfold Op.equalIn
    simp only [Sem.run_bind, run_underlying Try.underlying41, Result.andThen_ok]
    cases a <;> rfl
  have he' : (Op.equal 41 (.slice a n c) (.slice none 0 0)).run Try.prog w = .ok a.isNone w := he
  simp only [binOp]
  rw [Sem.run_bind, he']
  rfl

set_option maxHeartbeats 2000000 in
theorem cloneI_any (a : Option Addr) (n c : Nat) (zs : List Int) (w : World) (hz : zs.length = n) (hn : n ≤ 1048576) (hF : a = none → c = 0) (ha : At w a zs) :
    Calls Try.prog 67 #[.slice a n c] w fun e w' => ∃ r d, e = .returned (.slice r n d) ∧ w'.ownsRow w.heap.size 3 1 (.slice r n d) n (zs.map (.int .i64)) ∧ Below w.heap.size w w' := by
  obtain ⟨i0, hi, hz0, hz1, hz2⟩ := info_parts Try.infoInt
  cases a with
  | none =>
    have hc0 := hF rfl
    subst hc0
    have hM : zs = [] := by rcases ha with h | ⟨b, off, h, _⟩; exact h; cases h
    subst hM
    have hn0 : 0 = n := hz
    subst hn0
    have hq := fun w => eqNilI none 0 0 w
    go_enter Try.func67, Try.ntmps67
    go_wp2
    go_ret
    exact ⟨none, 0, rfl, World.ownsRow_nil _ _ _ _, Below.refl _ _⟩
  | some ad =>
    have OE := Hid.mk (own_void w 3 1)
    have HA := Hid.mk (ha.alloc (.cells #[] 3))
    have HZ := Hid.mk hz
    clear ha hF hz
    have hq := fun w => eqNilI (some ad) n c w
    go_enter Try.func67, Try.ntmps67
    go_wp2_with (at_builtin; refine wpList_append_all rfl (.tmp 5) (.tmp 6) 41 rfl w.heap.size 3 i0 (.int .i64 0) 8 Try.underlying41 hi hz0 hz1 hz2 rfl (.slice (some ⟨w.heap.size, 0, none⟩) 0 0) 0 [] rfl OE.out (some ad) n c zs rfl HZ.out HA.out (fun h => by cases h) (by unfold maxLen; omega) (by omega) (by simp) ?_)
    intro r1 d1 w1 ho1 hg1
    have HB : Hid (Below w.heap.size w w1) := ((Below.refl _ _).alloc (Nat.le_refl _) _).grown hg1 (by simp) (fun j hj => by simp [Value.ownBlock] at hj; omega)
    have HO : Hid (w1.ownsRow w.heap.size 3 1 (.slice r1 n d1) n (zs.map (.int .i64))) := Hid.mk (by simpa using ho1)
    clear ho1 hg1
    go_wp2
    go_ret
    exact ⟨r1, d1, by first | rfl | simp, HO.out, HB.out⟩

end Go.Proofs.Ytnfdncofobkjhaa

/- Contracts of slices.Clone at processes and at wires: the cells as they are. -/
namespace Go.Proofs.Ytnfdncofobkjhaa
open Go.RowKit

theorem Try.infoProcC : (Try.prog.info? 74).map (fun i => (i.zero, i.size, i.bytes)) = some (some (.agg #[.int .i64 0, .int .i64 0, .bool false]), 3, 24) := by kernel_rfl
theorem eqNilProc (a : Option Addr) (n c : Nat) (w : World) : (binOp .eql 29 (.slice a n c) (.slice none 0 0)).run Try.prog w = .ok (.bool a.isNone) w := by
  have he : (Op.equalIn (9999 + 1) 29 (.slice a n c) (.slice none 0 0)).run Try.prog w = .ok a.isNone w := by
    unfold Op.equalIn
    simp only [Sem.run_bind, run_underlying Try.underlying29, Result.andThen_ok]
    cases a <;> rfl
  have he' : (Op.equal 29 (.slice a n c) (.slice none 0 0)).run Try.prog w = .ok a.isNone w := he
  simp only [binOp]
  rw [Sem.run_bind, he']
  rfl

set_option maxHeartbeats 2000000 in
theorem cloneProc_vals (b off n c : Nat) (L : List Value) (w : World) (hn : n ≤ 1048576) (hL : L.length = n * 3) (ha : ∀ j, j < n * 3 → w.cell? ⟨b, off + j, none⟩ = L[j]?) (h1 : ∀ u ∈ L, u.oneCell' = true) :
    Calls Try.prog 65 #[.slice (some ⟨b, off, none⟩) n c] w fun e w' => ∃ r d, e = .returned (.slice r n d) ∧ w'.ownsRow w.heap.size 74 3 (.slice r n d) n L ∧ Below w.heap.size w w' := by
  obtain ⟨i0, hi, hz0, hz1, hz2⟩ := info_parts Try.infoProcC
  have OE := Hid.mk (own_void w 74 3)
  have HL := Hid.mk hL
  have HN : Hid (∀ ad', some (⟨b, off, none⟩ : Addr) = some ad' → ∀ (j : Nat) (u : Value), L[j]? = some u → (w.alloc (.cells #[] 74)).cell? (ad'.add j) = some u) := Hid.mk (by
    intro ad he j u hj
    simp only [Option.some.injEq] at he
    subst he
    have hjl := (List.getElem?_eq_some_iff.1 hj).1
    have q := ha j (by omega)
    rw [hj] at q
    rw [Addr.add_lit]
    exact cell_later ((Below.refl _ _).alloc (Nat.le_refl _) _) q)
  have H1 := Hid.mk h1
  clear ha h1 hL
  have hq := fun w => eqNilProc (some ⟨b, off, none⟩) n c w
  go_enter Try.func65, Try.ntmps65
  go_wp2_with (at_builtin; refine wpList_app_vals rfl (.tmp 5) (.tmp 6) 29 rfl w.heap.size 74 i0 (.agg #[.int .i64 0, .int .i64 0, .bool false]) 3 24 Try.underlying29 hi hz0 hz1 hz2 rfl (by decide) (.slice (some ⟨w.heap.size, 0, none⟩) 0 0) 0 [] rfl OE.out (some ⟨b, off, none⟩) n c L rfl HL.out HN.out H1.out (fun h => by cases h) (by unfold maxLen; omega) (by omega) (by simp) ?_)
  intro r1 d1 w1 ho1 hg1 ht1
  have HB : Hid (Below w.heap.size w w1) := ((Below.refl _ _).alloc (Nat.le_refl _) _).grown hg1 (by simp) (fun j hj => by simp [Value.ownBlock] at hj; omega)
  have HO : Hid (w1.ownsRow w.heap.size 74 3 (.slice r1 n d1) n L) := Hid.mk (by simpa using ho1)
  clear ho1 hg1 ht1
  go_wp2
  go_ret
  exact ⟨r1, d1, by first | rfl | simp, HO.out, HB.out⟩

theorem Try.infoWireC : (Try.prog.info? 76).map (fun i => (i.zero, i.size, i.bytes)) = some (some (.agg #[.slice none 0 0, .slice none 0 0, .bool false]), 3, 56) := by kernel_rfl
theorem eqNilWire (a : Option Addr) (n c : Nat) (w : World) : (binOp .eql 30 (.slice a n c) (.slice none 0 0)).run Try.prog w = .ok (.bool a.isNone) w := by
  have he : (Op.equalIn (9999 + 1) 30 (.slice a n c) (.slice none 0 0)).run Try.prog w = .ok a.isNone w := by
    unfold Op.equalIn
    simp only [Sem.run_bind, run_underlying Try.underlying30, Result.andThen_ok]
    cases a <;> rfl
  have he' : (Op.equal 30 (.slice a n c) (.slice none 0 0)).run Try.prog w = .ok a.isNone w := he
  simp only [binOp]
  rw [Sem.run_bind, he']
  rfl

set_option maxHeartbeats 2000000 in
theorem cloneWire_vals (b off n c : Nat) (L : List Value) (w : World) (hn : n ≤ 1048576) (hL : L.length = n * 3) (ha : ∀ j, j < n * 3 → w.cell? ⟨b, off + j, none⟩ = L[j]?) (h1 : ∀ u ∈ L, u.oneCell' = true) :
    Calls Try.prog 66 #[.slice (some ⟨b, off, none⟩) n c] w fun e w' => ∃ r d, e = .returned (.slice r n d) ∧ w'.ownsRow w.heap.size 76 3 (.slice r n d) n L ∧ Below w.heap.size w w' := by
  obtain ⟨i0, hi, hz0, hz1, hz2⟩ := info_parts Try.infoWireC
  have OE := Hid.mk (own_void w 76 3)
  have HL := Hid.mk hL
  have HN : Hid (∀ ad', some (⟨b, off, none⟩ : Addr) = some ad' → ∀ (j : Nat) (u : Value), L[j]? = some u → (w.alloc (.cells #[] 76)).cell? (ad'.add j) = some u) := Hid.mk (by
    intro ad he j u hj
    simp only [Option.some.injEq] at he
    subst he
    have hjl := (List.getElem?_eq_some_iff.1 hj).1
    have q := ha j (by omega)
    rw [hj] at q
    rw [Addr.add_lit]
    exact cell_later ((Below.refl _ _).alloc (Nat.le_refl _) _) q)
  have H1 := Hid.mk h1
  clear ha h1 hL
  have hq := fun w => eqNilWire (some ⟨b, off, none⟩) n c w
  go_enter Try.func66, Try.ntmps66
  go_wp2_with (at_builtin; refine wpList_app_vals rfl (.tmp 5) (.tmp 6) 30 rfl w.heap.size 76 i0 (.agg #[.slice none 0 0, .slice none 0 0, .bool false]) 3 56 Try.underlying30 hi hz0 hz1 hz2 rfl (by decide) (.slice (some ⟨w.heap.size, 0, none⟩) 0 0) 0 [] rfl OE.out (some ⟨b, off, none⟩) n c L rfl HL.out HN.out H1.out (fun h => by cases h) (by unfold maxLen; omega) (by omega) (by simp) ?_)
  intro r1 d1 w1 ho1 hg1 ht1
  have HB : Hid (Below w.heap.size w w1) := ((Below.refl _ _).alloc (Nat.le_refl _) _).grown hg1 (by simp) (fun j hj => by simp [Value.ownBlock] at hj; omega)
  have HO : Hid (w1.ownsRow w.heap.size 76 3 (.slice r1 n d1) n L) := Hid.mk (by simpa using ho1)
  clear ho1 hg1 ht1
  go_wp2
  go_ret
  exact ⟨r1, d1, by first | rfl | simp, HO.out, HB.out⟩

end Go.Proofs.Ytnfdncofobkjhaa

/- A snap that is being copied: its processes whole, of its wires the first m. -/
namespace Go.Proofs.Ytnfdncofobkjhaa
open Go.RowKit

structure CW (w : World) (lo g0 n0 c0 g1 n1 c1 : Nat) (ps : List TProc) (ws : List TWire) (cells0 cells1 : List Value) (G : Nat → Nat → Prop) (m : Nat) : Prop where
  pr : Laid RProc w (From lo w.heap.size) 74 (some ⟨g0, 0, none⟩) n0 c0 ps cells0 (fun _ _ => False) n0
  wi : Laid RWire w (From lo w.heap.size) 76 (some ⟨g1, 0, none⟩) n1 c1 ws cells1 G m
  ne : g0 ≠ g1
  ap : ∀ i b, i < m → G i b → b ≠ g0

section
variable {w w' W : World} {lo g0 n0 c0 g1 n1 c1 m : Nat} {ps : List TProc} {ws : List TWire} {cells0 cells1 : List Value} {G : Nat → Nat → Prop}
theorem CW.l0 (h : CW w lo g0 n0 c0 g1 n1 c1 ps ws cells0 cells1 G m) : lo ≤ g0 ∧ g0 < w.heap.size := h.pr.outerF g0 rfl
theorem CW.l1 (h : CW w lo g0 n0 c0 g1 n1 c1 ps ws cells0 cells1 G m) : lo ≤ g1 ∧ g1 < w.heap.size := h.wi.outerF g1 rfl
theorem CW.lt (h : CW w lo g0 n0 c0 g1 n1 c1 ps ws cells0 cells1 G m) : ∀ i b, i < m → G i b → b < w.heap.size := fun i b hi hb => (h.wi.rowF i b hi hb).1.2
theorem CW.below (h : CW w lo g0 n0 c0 g1 n1 c1 ps ws cells0 cells1 G m) (hb : Below w.heap.size w w') : CW w' lo g0 n0 c0 g1 n1 c1 ps ws cells0 cells1 G m :=
  ⟨(h.pr.below hb).mono (fun _ k => ⟨k.1, Nat.lt_of_lt_of_le k.2 hb.size⟩), (h.wi.below hb).mono (fun _ k => ⟨k.1, Nat.lt_of_lt_of_le k.2 hb.size⟩), h.ne, h.ap⟩
theorem CW.all (h : CW w lo g0 n0 c0 g1 n1 c1 ps ws cells0 cells1 G n1) : SV w (fun b => lo ≤ b) g0 n0 c0 g1 n1 c1 ps ws cells0 cells1 G := ⟨h.pr, h.wi, h.ne, h.ap, fun b k => by have := h.l0; show lo ≤ b; omega⟩
/-- A cell of a wire that is not yet held. -/
theorem CW.store (h : CW w lo g0 n0 c0 g1 n1 c1 ps ws cells0 cells1 G m) {k j : Nat} {v : Value} {vs : List Value} (hk : m ≤ k) (hkn : k < n1) (hj : j < 3) (hvs : (sub cells1 (k * 3) 3).set j v = vs) :
    CW (w.setCell ⟨g1, k * 3 + j, none⟩ v) lo g0 n0 c0 g1 n1 c1 ps ws cells0 (sets cells1 (k * 3) vs) G m := by
  have hcl : cells1.length = n1 * 3 := h.wi.outer.1
  have hcm : k * 3 + 3 ≤ cells1.length := by omega
  have hsl : (sub cells1 (k * 3) 3).length = 3 := by simp [sub]; omega
  have hvl : vs.length = 3 := by rw [← hvs]; simp [hsl]
  have hsz : (w.setCell ⟨g1, k * 3 + j, none⟩ v).heap.size = w.heap.size := size_set _ _ _
  have hh : ∀ b, b ≠ g1 → (w.setCell ⟨g1, k * 3 + j, none⟩ v).heap[b]? = w.heap[b]? := fun b e => Below.heap_setCell _ _ _ _ e
  have ho : w.ownsRow 0 76 3 (.slice (some ⟨g1, 0, none⟩) n1 c1) n1 (sets cells1 (k * 3) (sub cells1 (k * 3) 3)) := by
    rw [sets_self _ _ _ hcm]; exact h.wi.outer
  have ho2 := owns_sets_store ho j v (by rw [hsl]; exact hj) (by rw [hsl]; exact hcm)
  rw [hvs] at ho2
  refine ⟨⟨h.pr.len, h.pr.big, ownsRow_frame h.pr.outer (fun b hb _ => by
      simp [Value.ownBlock] at hb
      rw [← hb]; exact hh g0 h.ne), fun b hb => by rw [hsz]; exact h.pr.outerF b hb, fun i y hi hy => RProc.frame (h.pr.row i y hi hy) (fun b hb => hb.elim), fun i b _ hb => hb.elim, fun _ _ _ _ _ _ hb => hb.elim⟩,
    ⟨h.wi.len, h.wi.big, ho2, fun b hb => by rw [hsz]; exact h.wi.outerF b hb, fun i y hi hy => ?_, fun i b hi hb => by rw [hsz]; exact h.wi.rowF i b hi hb, h.wi.apart⟩, h.ne, h.ap⟩
  show RWire.Own _ _ (sub (sets cells1 (k * 3) vs) (i * 3) 3) y
  rw [sub_sets_far _ _ _ _ _ (by rw [hvl]; exact mul_far (k := 3) (by omega))]
  exact RWire.frame (h.wi.row i y hi hy) (fun b hb _ => hh b (fun e => (h.wi.rowF i b hi hb).2 (by rw [e]; rfl)))
/-- The next wire is held. -/
theorem CW.close (h : CW w lo g0 n0 c0 g1 n1 c1 ps ws cells0 cells1 G m) {x : TWire} {H : Nat → Prop} (hx : ws[m]? = some x) (ho : RWire.Own w H (sub cells1 (m * 3) 3) x)
    (hH : ∀ b, H b → From lo w.heap.size b ∧ b ≠ g0 ∧ b ≠ g1 ∧ ∀ i, i < m → ¬ G i b) : CW w lo g0 n0 c0 g1 n1 c1 ps ws cells0 cells1 (fun i => if i = m then H else G i) (m + 1) := by
  refine ⟨h.pr, ⟨h.wi.len, h.wi.big, h.wi.outer, h.wi.outerF, fun i y hi hy => ?_, fun i b hi hb => ?_, fun i j b hi hj hij hb hb' => ?_⟩, h.ne, fun i b hi hb => ?_⟩
  · by_cases e : i = m
    · subst e
      rw [hx] at hy
      obtain rfl := Option.some.inj hy
      simp only [if_true]
      exact ho
    · simp only [if_neg e]
      exact h.wi.row i y (by omega) hy
  · by_cases e : i = m
    · subst e
      simp only [if_true] at hb
      refine ⟨(hH b hb).1, fun e' => (hH b hb).2.2.1 ?_⟩
      simp [Value.ownBlock] at e'
      exact e'.symm
    · simp only [if_neg e] at hb
      exact h.wi.rowF i b (by omega) hb
  · by_cases e : i = m
    · subst e
      simp only [if_true] at hb
      simp only [if_neg (Ne.symm hij)] at hb'
      exact (hH b hb).2.2.2 j (by omega) hb'
    · simp only [if_neg e] at hb
      by_cases e' : j = m
      · subst e'
        simp only [if_true] at hb'
        exact (hH b hb').2.2.2 i (by omega) hb
      · simp only [if_neg e'] at hb'
        exact h.wi.apart i j b (by omega) (by omega) hij hb hb'
  · by_cases e : i = m
    · subst e
      simp only [if_true] at hb
      exact (hH b hb).2.1
    · simp only [if_neg e] at hb
      exact h.ap i b (by omega) hb
end

/-- The cells of processes that lie somewhere. -/
def prV (ps : List TProc) : List Value := ps.flatMap (fun p => [.int .i64 p.1, .int .i64 p.2.1, .bool p.2.2])
theorem prV_len (ps : List TProc) : (prV ps).length = ps.length * 3 := by
  induction ps with
  | nil => rfl
  | cons p ps ih => show (_ :: _ :: _ :: prV ps).length = _; simp only [List.length_cons, ih]; omega
theorem prV_at : ∀ (ps : List TProc) (i : Nat) (p : TProc), ps[i]? = some p → sub (prV ps) (i * 3) 3 = [.int .i64 p.1, .int .i64 p.2.1, .bool p.2.2]
  | [], i, p, h => by simp at h
  | q :: ps, 0, p, h => by
    obtain rfl : q = p := by simpa using h
    simp [sub, prV]
  | q :: ps, i + 1, p, h => by
    have ih := prV_at ps i p (by simpa using h)
    show List.take 3 (List.drop ((i + 1) * 3) (.int .i64 q.1 :: .int .i64 q.2.1 :: .bool q.2.2 :: prV ps)) = _
    rw [show (i + 1) * 3 = i * 3 + 1 + 1 + 1 by omega, List.drop_succ_cons, List.drop_succ_cons, List.drop_succ_cons]
    exact ih
theorem prV_one (ps : List TProc) : ∀ u ∈ prV ps, u.oneCell' = true := by
  intro u hu
  obtain ⟨p, _, hp⟩ := List.mem_flatMap.1 hu
  simp only [List.mem_cons, List.not_mem_nil, or_false] at hp
  rcases hp with rfl | rfl | rfl <;> rfl

end Go.Proofs.Ytnfdncofobkjhaa

/- Rows of three cells as they lie in memory. -/
namespace Go.Proofs.Ytnfdncofobkjhaa
open Go.RowKit

theorem row_cells {w : World} {b off : Nat} {R : Nat → List Value → Prop} : ∀ (n : Nat) (_ : ∀ i, i < n → ∃ vs, vs.length = 3 ∧ (∀ j v, vs[j]? = some v → w.cell? ⟨b, off + i * 3 + j, none⟩ = some v) ∧ (∀ u ∈ vs, u.oneCell' = true) ∧ R i vs),
    ∃ L : List Value, L.length = n * 3 ∧ (∀ j, j < n * 3 → w.cell? ⟨b, off + j, none⟩ = L[j]?) ∧ (∀ u ∈ L, u.oneCell' = true) ∧ ∀ i, i < n → R i (sub L (i * 3) 3)
  | 0, _ => ⟨[], rfl, fun j hj => by omega, fun u hu => (by cases hu), fun i hi => by omega⟩
  | n + 1, h => by
    obtain ⟨L, l1, l2, l3, l4⟩ := row_cells n (fun i hi => h i (by omega))
    obtain ⟨vs, v1, v2, v3, v4⟩ := h n (by omega)
    refine ⟨L ++ vs, by rw [List.length_append, l1, v1]; omega, fun j hj => ?_, fun u hu => ?_, fun i hi => ?_⟩
    · by_cases e : j < n * 3
      · rw [List.getElem?_append_left (by omega)]; exact l2 j e
      · obtain ⟨r, rfl⟩ : ∃ r, j = n * 3 + r := ⟨j - n * 3, by omega⟩
        rw [List.getElem?_append_right (by omega), l1, Nat.add_sub_cancel_left]
        obtain ⟨v, hv⟩ : ∃ v, vs[r]? = some v := ⟨_, List.getElem?_eq_getElem (by omega)⟩
        rw [hv, ← Nat.add_assoc]
        exact v2 r v hv
    · rcases List.mem_append.1 hu with q | q
      · exact l3 u q
      · exact v3 u q
    · by_cases e : i < n
      · have q : sub (L ++ vs) (i * 3) 3 = sub L (i * 3) 3 := by
          unfold sub
          rw [List.drop_append_of_le_length (by omega), List.take_append_of_le_length (by rw [List.length_drop]; omega)]
        rw [q]; exact l4 i e
      · obtain rfl : i = n := by omega
        have q : sub (L ++ vs) (i * 3) 3 = vs := by
          unfold sub
          rw [List.drop_left' l1, List.take_of_length_le (by omega)]
        rw [q]; exact v4

end Go.Proofs.Ytnfdncofobkjhaa
