/- Several texts of one proof, in build order: FrS, RepR, StT, ValI. -/
import Derived.Test.YtmbjmmnodcebbaaM6
import Derived.Test.YtmbjmmnodcebbaaM8
import Derived.Test.YtmbjmmnodcebbaaM3

/- Contracts of the model's l16From and l16Crash. -/
namespace Go.Proofs.Ytmbjmmnodcebbaa
open Go.RowKit

theorem l16From_any (a0 : Option Addr) (n0 c0 : Nat) (t : Int) (a2 : Option Addr) (n2 c2 : Nat) (a3 : Option Addr) (n3 c3 : Nat) (a4 : Option Addr) (n4 c4 : Nat) (la up : Int) (ps : List TPrepared) (w : World) (h3 : ps.length = n3) (hb3 : n3 ≤ 9223372036854775807) (ha : AtSl RPrepared w a3 ps) :
    Calls Try.prog 58 #[.agg #[.slice a0 n0 c0, .int .i64 t, .slice a2 n2 c2, .slice a3 n3 c3, .slice a4 n4 c4, .int .i64 la, .int .i64 up]] w fun e w' => e = .returned (.int .i64 (upF up ps)) ∧ Below w.heap.size w w' := by
  obtain ⟨W, hW⟩ : ∃ W, W = w.alloc (.cells #[.slice a0 n0 c0, .int .i64 t, .slice a2 n2 c2, .slice a3 n3 c3, .slice a4 n4 c4, .int .i64 la, .int .i64 up] 29) := ⟨_, rfl⟩
  have B0 : Below w.heap.size w W := by rw [hW]; exact (Below.refl _ _).alloc (Nat.le_refl _) _
  have p3 : W.cell? ⟨w.heap.size, 3, none⟩ = some (.slice a3 n3 c3) := by rw [hW]; simp
  have p6 : W.cell? ⟨w.heap.size, 6, none⟩ = some (.int .i64 up) := by rw [hW]; simp
  by_cases h0 : n3 = 0
  · have hup : upF up ps = up := upF_nil (by omega)
    have hn0 : ¬ (0 : Int) < (n3 : Int) := by omega
    rw [hup]
    clear hup h0 ha h3
    go_enter Try.func58, Try.ntmps58
    go_upto_region 1 with fail
    rw [← hW]
    clear hW
    go_wp2
    go_ret
    exact ⟨rfl, B0⟩
  · obtain ⟨b, off, rfl, _, hc⟩ := RPrepared.row (AtSl.below ha B0) (by omega)
    obtain ⟨⟨x0, x1, x2⟩, hx⟩ : ∃ x, ps[n3 - 1]? = some x := ⟨_, List.getElem?_eq_getElem (by omega)⟩
    obtain ⟨d, l, e, _, g1, _, _⟩ := hc _ _ hx
    have hup : upF up ps = x1 := upF_last (n := n3 - 1) (by omega) hx
    have hn0 : (0 : Int) < (n3 : Int) := by omega
    have hw1 : IntKind.i64.wrap ((n3 : Int) - 1) = ((n3 - 1 : Nat) : Int) := by rw [IntWalk.i64_in _ (by omega)]; omega
    have hlt : n3 - 1 < n3 := by omega
    have hlti : ((n3 - 1 : Nat) : Int) < (n3 : Int) := by omega
    simp only at g1
    rw [hup]
    clear hup h0 ha h3 hc hx
    go_enter Try.func58, Try.ntmps58
    go_upto_region 1 with fail
    rw [← hW]
    clear hW
    go_wp2
    go_ret
    exact ⟨rfl, B0⟩

/-- A sink that is told by one who holds it. -/
def CrRet (e : Ending) (w w' : World) (F : Nat → Prop) (x : TSink) : Prop :=
  ∃ r0 m0 d0 r2 m2 d2 r3 m3 d3 r4 m4 d4, e = .returned (.agg #[.slice r0 m0 d0, .int .i64 x.2.1, .slice r2 m2 d2, .slice r3 m3 d3, .slice r4 m4 d4, .int .i64 x.2.2.2.2.2.1, .int .i64 x.2.2.2.2.2.2]) ∧
    RSink.Own w' (Gr F w w') [.slice r0 m0 d0, .int .i64 x.2.1, .slice r2 m2 d2, .slice r3 m3 d3, .slice r4 m4 d4, .int .i64 x.2.2.2.2.2.1, .int .i64 x.2.2.2.2.2.2] x ∧ Below w.heap.size w w'

set_option maxRecDepth 100000 in
set_option maxHeartbeats 2000000 in
theorem l16Crash_any (F : Nat → Prop) (a0 : Option Addr) (n0 c0 : Nat) (a2 : Option Addr) (n2 c2 : Nat) (a3 : Option Addr) (n3 c3 : Nat) (a4 : Option Addr) (n4 c4 : Nat) (t la up : Int) (src pd : List Int) (ps : List TPrepared) (ou : List Int) (w : World) (ho : RSink.Own w F [.slice a0 n0 c0, .int .i64 t, .slice a2 n2 c2, .slice a3 n3 c3, .slice a4 n4 c4, .int .i64 la, .int .i64 up] (src, t, pd, ps, ou, la, up)) :
    Calls Try.prog 46 #[.agg #[.slice a0 n0 c0, .int .i64 t, .slice a2 n2 c2, .slice a3 n3 c3, .slice a4 n4 c4, .int .i64 la, .int .i64 up]] w fun e w' => CrRet e w w' F (src, upF up ps, [], ps, ou, la, up) := by
  obtain ⟨W, hW⟩ : ∃ W, W = (w.alloc (.cells #[.slice a0 n0 c0, .int .i64 t, .slice a2 n2 c2, .slice a3 n3 c3, .slice a4 n4 c4, .int .i64 la, .int .i64 up] 29)).alloc (.cells #[.slice none 0 0, .int .i64 0, .slice none 0 0, .slice none 0 0, .slice none 0 0, .int .i64 0, .int .i64 0] 29) := ⟨_, rfl⟩
  have B0 : Below w.heap.size w W := by rw [hW]; exact ((Below.refl _ _).alloc (Nat.le_refl _) _).alloc (by simp) _
  have b0 : W.heap[w.heap.size]? = some (.cells #[.slice a0 n0 c0, .int .i64 t, .slice a2 n2 c2, .slice a3 n3 c3, .slice a4 n4 c4, .int .i64 la, .int .i64 up] 29 (0, 0)) := by rw [hW]; exact blk_alloc (heap_alloc_new w _) _
  have b1 : W.heap[w.heap.size + 1]? = some (.cells #[.slice none 0 0, .int .i64 0, .slice none 0 0, .slice none 0 0, .slice none 0 0, .int .i64 0, .int .i64 0] 29 (0, 0)) := by
    rw [hW]
    have q := heap_alloc_new (w.alloc (.cells #[.slice a0 n0 c0, .int .i64 t, .slice a2 n2 c2, .slice a3 n3 c3, .slice a4 n4 c4, .int .i64 la, .int .i64 up] 29)) (.cells #[.slice none 0 0, .int .i64 0, .slice none 0 0, .slice none 0 0, .slice none 0 0, .int .i64 0, .int .i64 0] 29)
    simpa only [World.size_alloc] using q
  have zW : W.heap.size = w.heap.size + 2 := by rw [hW]; simp
  obtain ⟨F0, F2, F3, F4, h0, h2, h3, h4, f0, f2, f3, f4, d02, d03, d04, d23, d24, d34⟩ := RSink.own_iff ho
  have h3l := RPrepareds.atSl h3
  have hb3 : n3 ≤ 9223372036854775807 := (RSink.at_iff (RSink.toAt ho)).2.2.1.2.1
  have KS := Hid.mk (l16From_any a0 n0 c0 t a2 n2 c2 a3 n3 c3 a4 n4 c4 la up ps W h3l.1 hb3 (AtSl.below h3l.2 B0))
  have p0 := blk_cell b0 0 (v := .slice a0 n0 c0) rfl
  have p1 := blk_cell b0 1 (v := .int .i64 t) rfl
  have p2 := blk_cell b0 2 (v := .slice a2 n2 c2) rfl
  have p3 := blk_cell b0 3 (v := .slice a3 n3 c3) rfl
  have p4 := blk_cell b0 4 (v := .slice a4 n4 c4) rfl
  have p5 := blk_cell b0 5 (v := .int .i64 la) rfl
  have p6 := blk_cell b0 6 (v := .int .i64 up) rfl
  obtain ⟨V, hV⟩ : ∃ V, upF up ps = V := ⟨_, rfl⟩
  rw [hV] at KS ⊢
  clear hV h3l hb3
  go_enter Try.func46, Try.ntmps46
  go_upto_region 1 with fail
  rw [← hW]
  clear hW
  go_wp2_with fail
  refine KS.out.mono ?_
  rintro e w2 ⟨rfl, hb2⟩
  have k0 := blk_below b0 hb2
  have k1 := blk_below b1 hb2
  have z2 := hb2.size
  have C2 : Below w.heap.size w w2 := B0.trans (hb2.mono B0.size)
  obtain ⟨X3, hX3⟩ : ∃ u, u = w2.setCell ⟨w.heap.size, 1, none⟩ (.int .i64 V) := ⟨_, rfl⟩
  have e0 : X3.heap[w.heap.size]? = some (.cells #[.slice a0 n0 c0, .int .i64 V, .slice a2 n2 c2, .slice a3 n3 c3, .slice a4 n4 c4, .int .i64 la, .int .i64 up] 29 (0, 0)) := by rw [hX3]; exact blk_set k0 1 _
  have e1 : X3.heap[w.heap.size + 1]? = some (.cells #[.slice none 0 0, .int .i64 0, .slice none 0 0, .slice none 0 0, .slice none 0 0, .int .i64 0, .int .i64 0] 29 (0, 0)) := by rw [hX3]; exact blk_other k1 (by simp) _
  have C1 : Below w.heap.size w X3 := by rw [hX3]; exact C2.setCell (Nat.le_refl _) _
  have z3 : w2.heap.size ≤ X3.heap.size := by rw [hX3]; simp [World.setCell]
  have q1 := blk_cell k0 1 (v := .int .i64 t) rfl
  have g1 := blk_frozen k0 1
  clear p0 p1 p2 p3 p4 p5 p6 KS
  go_upto_region 2 with fail
  rw [← hX3]
  clear hX3 q1 g1
  obtain ⟨X4, hX4⟩ : ∃ u, u = X3.setCell ⟨w.heap.size, 2, none⟩ (.slice none 0 0) := ⟨_, rfl⟩
  have k0 : X4.heap[w.heap.size]? = some (.cells #[.slice a0 n0 c0, .int .i64 V, .slice none 0 0, .slice a3 n3 c3, .slice a4 n4 c4, .int .i64 la, .int .i64 up] 29 (0, 0)) := by rw [hX4]; exact blk_set e0 2 _
  have k1 : X4.heap[w.heap.size + 1]? = some (.cells #[.slice none 0 0, .int .i64 0, .slice none 0 0, .slice none 0 0, .slice none 0 0, .int .i64 0, .int .i64 0] 29 (0, 0)) := by rw [hX4]; exact blk_other e1 (by simp) _
  have C3 : Below w.heap.size w X4 := by rw [hX4]; exact C1.setCell (Nat.le_refl _) _
  have z4 : X3.heap.size ≤ X4.heap.size := by rw [hX4]; simp [World.setCell]
  have q2 := blk_cell e0 2 (v := .slice a2 n2 c2) rfl
  have g2 := blk_frozen e0 2
  go_upto_region 3 with fail
  rw [← hX4]
  clear hX4 q2 g2
  have p0 := blk_cell k0 0 (v := .slice a0 n0 c0) rfl
  have p1 := blk_cell k0 1 (v := .int .i64 V) rfl
  have p2 := blk_cell k0 2 (v := .slice none 0 0) rfl
  have p3 := blk_cell k0 3 (v := .slice a3 n3 c3) rfl
  have p4 := blk_cell k0 4 (v := .slice a4 n4 c4) rfl
  have p5 := blk_cell k0 5 (v := .int .i64 la) rfl
  have p6 := blk_cell k0 6 (v := .int .i64 up) rfl
  have y0 := blk_cell k1 0 (v := .slice none 0 0) rfl
  have y1 := blk_cell k1 1 (v := .int .i64 0) rfl
  have y2 := blk_cell k1 2 (v := .slice none 0 0) rfl
  have y3 := blk_cell k1 3 (v := .slice none 0 0) rfl
  have y4 := blk_cell k1 4 (v := .slice none 0 0) rfl
  have y5 := blk_cell k1 5 (v := .int .i64 0) rfl
  have y6 := blk_cell k1 6 (v := .int .i64 0) rfl
  have fz0 := blk_frozen k1 0
  have fz1 := blk_frozen k1 1
  have fz2 := blk_frozen k1 2
  have fz3 := blk_frozen k1 3
  have fz4 := blk_frozen k1 4
  have fz5 := blk_frozen k1 5
  have fz6 := blk_frozen k1 6
  obtain ⟨Y, hY⟩ : ∃ u, u = stores X4 (w.heap.size + 1) 0 [.slice a0 n0 c0, .int .i64 V, .slice none 0 0, .slice a3 n3 c3, .slice a4 n4 c4, .int .i64 la, .int .i64 up] := ⟨_, rfl⟩
  have S : Off (fun b => b = w.heap.size + 1) X4 Y := by rw [hY]; exact stores_off (F := fun b => b = w.heap.size + 1) _ _ _ _ rfl
  have zY : Y.heap.size = X4.heap.size := by rw [hY]; exact stores_size _ _ _ _
  have D : Below w.heap.size w Y := by rw [hY]; exact stores_below _ _ _ _ C3 (by omega)
  have R : Hid (CrRet (.returned (.agg #[.slice a0 n0 c0, .int .i64 V, .slice none 0 0, .slice a3 n3 c3, .slice a4 n4 c4, .int .i64 la, .int .i64 up])) w Y F (src, V, [], ps, ou, la, up)) := Hid.mk
    ⟨a0, n0, c0, none, 0, 0, a3, n3, c3, a4, n4, c4, rfl, RSink.own_mk (F2 := fun _ => False) (RInts.ownBelow h0 D) (RInts.void _ _) (RPrepareds.ownBelow h3 D) (RInts.ownBelow h4 D) (fun b h => .inl (f0 b h)) (fun _ h => h.elim) (fun b h => .inl (f3 b h)) (fun b h => .inl (f4 b h)) (fun _ _ h => h.elim) d03 d04 (fun _ h => h.elim) (fun _ h => h.elim) d34, D⟩
  have HY := Hid.mk hY
  clear S hY zY D k0 k1 e0 e1 C1 C2 C3
  go_wp2
  refine bodyPost_ret (v := .agg #[.slice a0 n0 c0, .int .i64 V, .slice none 0 0, .slice a3 n3 c3, .slice a4 n4 c4, .int .i64 la, .int .i64 up]) (by simp [results, Try.results46, go_sem, y0, y1, y2, y3, y4, y5, y6]) rfl ?_
  have h := R.out
  rw [HY.out] at h
  exact h

end Go.Proofs.Ytmbjmmnodcebbaa

/- Rows of a slice, one by one: a slice that is cut and grown at its end. -/
namespace Go.Proofs.Ytmbjmmnodcebbaa
open Go.RowKit

structure RowsOf {α : Type} (A : Rep α) (w : World) (F : Nat → Prop) (ob : Option Nat) (n : Nat) (xs : List α) (cells : List Value) (G : Nat → Nat → Prop) : Prop where
  len : xs.length = n
  clen : cells.length = n * A.k
  row : ∀ i x, i < n → xs[i]? = some x → A.Own w (G i) (sub cells (i * A.k) A.k) x
  rowF : ∀ i b, i < n → G i b → F b ∧ ob ≠ some b
  apart : ∀ i j b, i < n → j < n → i ≠ j → G i b → ¬ G j b

section
variable {α : Type} {A : Rep α} {w w' : World} {F F' H : Nat → Prop} {e : TypeId} {a : Option Addr} {n m c : Nat} {xs : List α} {cells vs : List Value} {G : Nat → Nat → Prop} {x : α} {ob ob' : Option Nat}

theorem sub_take {cells : List Value} {o k m : Nat} (h : o + k ≤ m) : sub (cells.take m) o k = sub cells o k := by
  unfold sub
  rw [List.drop_take, List.take_take, Nat.min_eq_left (by omega)]

theorem RowsOf.of (h : Laid A w F e a n c xs cells G n) (hm : m ≤ n) : RowsOf A w F (Value.slice a n c).ownBlock m (xs.take m) (cells.take (m * A.k)) G where
  len := by rw [List.length_take, h.len]; omega
  clen := by
    have h1 : cells.length = n * A.k := h.outer.1
    have h2 := Nat.mul_le_mul_right A.k hm
    rw [List.length_take, h1]; omega
  row := fun i x hi hx => by
    rw [List.getElem?_take, if_pos hi] at hx
    rw [sub_take (at_mul hi)]
    exact h.row i x (by omega) hx
  rowF := fun i b hi hb => h.rowF i b (by omega) hb
  apart := fun i j b hi hj hij => h.apart i j b (by omega) (by omega) hij

theorem RowsOf.to (h : RowsOf A w F ob n xs cells G) (hf : ∀ i b, i < n → G i b → b < w.heap.size → w'.heap[b]? = w.heap[b]?) (hF : ∀ i b, i < n → G i b → F' b ∧ ob' ≠ some b) : RowsOf A w' F' ob' n xs cells G where
  len := h.len
  clen := h.clen
  row := fun i x hi hx => A.frame (h.row i x hi hx) (fun b h1 h2 => hf i b hi h1 h2)
  rowF := hF
  apart := h.apart

theorem RowsOf.add (h : RowsOf A w F ob n xs cells G) (ho : A.Own w H vs x) (hH : ∀ b, H b → F b ∧ ob ≠ some b) (hd : ∀ i b, i < n → G i b → ¬ H b) : RowsOf A w F ob (n + 1) (xs ++ [x]) (cells ++ vs) (fun i => if i = n then H else G i) where
  len := by simp [h.len]
  clen := by rw [List.length_append, h.clen, A.ownLen ho, Nat.succ_mul]
  row := fun i y hi hy => by
    by_cases ei : i = n
    · subst ei
      simp only [if_true]
      obtain rfl : x = y := by
        rw [List.getElem?_append_right (by rw [h.len]; exact Nat.le_refl _)] at hy
        simpa [h.len] using hy
      have := sub_append_right (cells := cells) (A.ownLen ho)
      rw [h.clen] at this
      rw [this]
      exact ho
    · simp only [if_neg ei]
      have hi' : i < n := by omega
      rw [List.getElem?_append_left (by rw [h.len]; exact hi')] at hy
      rw [sub_append_left (by rw [h.clen]; exact at_mul hi')]
      exact h.row i y hi' hy
  rowF := fun i b hi hb => by
    by_cases ei : i = n
    · simp only [if_pos ei] at hb; exact hH b hb
    · simp only [if_neg ei] at hb; exact h.rowF i b (by omega) hb
  apart := fun i j b hi hj hij hb => by
    by_cases ei : i = n
    · simp only [if_pos ei] at hb
      rw [if_neg (by omega)]
      exact fun hj' => hd j b (by omega) hj' hb
    · simp only [if_neg ei] at hb
      by_cases ej : j = n
      · rw [if_pos ej]
        exact hd i b (by omega) hb
      · rw [if_neg ej]
        exact h.apart i j b (by omega) (by omega) hij hb

theorem RowsOf.laid (h : RowsOf A w F (Value.slice a n c).ownBlock n xs cells G) (hbig : n ≤ 9223372036854775807) (ho : w.ownsRow 0 e A.k (.slice a n c) n cells) (hF : ∀ b, (Value.slice a n c).ownBlock = some b → F b) : Laid A w F e a n c xs cells G n :=
  ⟨h.len, hbig, ho, hF, h.row, h.rowF, h.apart⟩

theorem owns_take {base : Nat} {size : Nat} {g : Nat} {ys : List Value} (h : w.ownsRow base e size (.slice (some ⟨g, 0, none⟩) n c) n ys) (hm : m ≤ n) : w.ownsRow base e size (.slice (some ⟨g, 0, none⟩) m c) m (ys.take (m * size)) := by
  have h2 := Nat.mul_le_mul_right size hm
  refine ⟨by rw [List.length_take, h.1]; omega, ?_⟩
  rcases h.2 with ⟨h0, _⟩ | ⟨g', cap, cur, e1, e2, e3, e4, e5, e6, e7⟩
  · cases h0
  · simp only [Value.slice.injEq, Option.some.injEq, Addr.mk.injEq, and_true, true_and] at e1
    obtain ⟨rfl, rfl⟩ := e1
    refine .inr ⟨g, c, cur, rfl, e2, e3, by omega, e5, e6, ?_⟩
    rw [← e7, List.take_take, Nat.min_eq_left h2]
end

end Go.Proofs.Ytmbjmmnodcebbaa

/- Contracts of the model's l16Step at SinkCrash and SinkTorn, and at no kind. -/
namespace Go.Proofs.Ytmbjmmnodcebbaa
open Go.RowKit

theorem laid_take {α : Type} {A : Rep α} {w : World} {F : Nat → Prop} {e : TypeId} {a : Option Addr} {n c m : Nat} {xs : List α} {cells : List Value} {G : Nat → Nat → Prop} (h : Laid A w F e a n c xs cells G n) (hm : m ≤ n) : Laid A w F e a m c (xs.take m) (cells.take (m * A.k)) G m := by
  have hl := h.len
  have hb := h.big
  have ho : (Value.slice a m c).ownBlock = (Value.slice a n c).ownBlock := by cases a <;> rfl
  have hown : w.ownsRow 0 e A.k (.slice a m c) m (cells.take (m * A.k)) := by
    rcases h.outer.2 with ⟨hv, h0⟩ | ⟨g, cap, cur, hv, _⟩
    · simp only [Value.slice.injEq] at hv
      obtain ⟨rfl, rfl, rfl⟩ := hv
      obtain rfl : m = 0 := by omega
      rw [Nat.zero_mul, List.take_zero]
      exact World.ownsRow_nil _ _ _ _
    · simp only [Value.slice.injEq, true_and] at hv
      obtain ⟨rfl, rfl⟩ := hv
      exact owns_take h.outer hm
  refine ⟨by rw [List.length_take]; omega, by omega, hown, fun b hb => h.outerF b (by rw [← ho]; exact hb), fun i x hi hx => ?_, fun i b hi hb' => ⟨(h.rowF i b (by omega) hb').1, fun e => (h.rowF i b (by omega) hb').2 (by rw [← ho]; exact e)⟩, fun i j b hi hj hij hb' => h.apart i j b (by omega) (by omega) hij hb'⟩
  have hs : sub (cells.take (m * A.k)) (i * A.k) A.k = sub cells (i * A.k) A.k := by
    have h9 : (i + 1) * A.k ≤ m * A.k := Nat.mul_le_mul_right _ (by omega)
    rw [Nat.succ_mul] at h9
    apply List.ext_getElem?
    intro d
    by_cases hd : d < A.k
    · rw [sub_at hd, sub_at hd, List.getElem?_take_of_lt (by omega)]
    · rw [List.getElem?_eq_none (by simp [sub]; omega), List.getElem?_eq_none (by simp [sub]; omega)]
  rw [hs]
  exact h.row i x (by omega) (by rw [List.getElem?_take_of_lt hi] at hx; exact hx)

set_option maxRecDepth 100000 in
set_option maxHeartbeats 2000000 in
theorem step4_any (F : Nat → Prop) (a0 : Option Addr) (n0 c0 : Nat) (a2 : Option Addr) (n2 c2 : Nat) (a3 : Option Addr) (n3 c3 : Nat) (a4 : Option Addr) (n4 c4 : Nat) (t la up : Int) (src pd : List Int) (ps : List TPrepared) (ou : List Int) (w : World) (hF : ∀ b, F b → b < w.heap.size) (ho : RSink.Own w F [.slice a0 n0 c0, .int .i64 t, .slice a2 n2 c2, .slice a3 n3 c3, .slice a4 n4 c4, .int .i64 la, .int .i64 up] (src, t, pd, ps, ou, la, up)) :
    Calls Try.prog 26 #[.agg #[.slice a0 n0 c0, .int .i64 t, .slice a2 n2 c2, .slice a3 n3 c3, .slice a4 n4 c4, .int .i64 la, .int .i64 up], .int .i64 4] w fun e w' => KRet e w w' F true (src, upF up ps, [], ps, ou, la, up) := by
  obtain ⟨W, hW⟩ : ∃ W, W = (w.alloc (.cells #[.slice a0 n0 c0, .int .i64 t, .slice a2 n2 c2, .slice a3 n3 c3, .slice a4 n4 c4, .int .i64 la, .int .i64 up] 29)).alloc (.cells #[.slice none 0 0, .int .i64 0, .slice none 0 0, .slice none 0 0, .slice none 0 0, .int .i64 0, .int .i64 0] 29) := ⟨_, rfl⟩
  have B0 : Below w.heap.size w W := by rw [hW]; exact ((Below.refl _ _).alloc (Nat.le_refl _) _).alloc (by simp) _
  have b0 : W.heap[w.heap.size]? = some (.cells #[.slice a0 n0 c0, .int .i64 t, .slice a2 n2 c2, .slice a3 n3 c3, .slice a4 n4 c4, .int .i64 la, .int .i64 up] 29 (0, 0)) := by rw [hW]; exact blk_alloc (heap_alloc_new w _) _
  have b1 : W.heap[w.heap.size + 1]? = some (.cells #[.slice none 0 0, .int .i64 0, .slice none 0 0, .slice none 0 0, .slice none 0 0, .int .i64 0, .int .i64 0] 29 (0, 0)) := by
    rw [hW]
    have q := heap_alloc_new (w.alloc (.cells #[.slice a0 n0 c0, .int .i64 t, .slice a2 n2 c2, .slice a3 n3 c3, .slice a4 n4 c4, .int .i64 la, .int .i64 up] 29)) (.cells #[.slice none 0 0, .int .i64 0, .slice none 0 0, .slice none 0 0, .slice none 0 0, .int .i64 0, .int .i64 0] 29)
    simpa only [World.size_alloc] using q
  have zW : W.heap.size = w.heap.size + 2 := by rw [hW]; simp
  have KC := Hid.mk (l16Crash_any F a0 n0 c0 a2 n2 c2 a3 n3 c3 a4 n4 c4 t la up src pd ps ou W (RSink.ownBelow ho B0))
  obtain ⟨V, hV⟩ : ∃ V, upF up ps = V := ⟨_, rfl⟩
  rw [hV] at KC ⊢
  clear hV
  have p0 := blk_cell b0 0 (v := .slice a0 n0 c0) rfl
  have p1 := blk_cell b0 1 (v := .int .i64 t) rfl
  have p2 := blk_cell b0 2 (v := .slice a2 n2 c2) rfl
  have p3 := blk_cell b0 3 (v := .slice a3 n3 c3) rfl
  have p4 := blk_cell b0 4 (v := .slice a4 n4 c4) rfl
  have p5 := blk_cell b0 5 (v := .int .i64 la) rfl
  have p6 := blk_cell b0 6 (v := .int .i64 up) rfl
  go_enter Try.func26, Try.ntmps26
  go_upto_region 1 with fail
  rw [← hW]
  clear hW
  go_wp2_with fail
  refine KC.out.mono ?_
  rintro e w2 ⟨rb0, mb0, db0, rb2, mb2, db2, rb3, mb3, db3, rb4, mb4, db4, rfl, ho2, hb2⟩
  simp only at ho2
  have b1 := blk_below b1 hb2
  have z2 := hb2.size
  have B2 : Below w.heap.size w w2 := B0.trans (hb2.mono B0.size)
  have HO2 := Hid.mk ho2
  clear ho2 hb2 KC p0 p1 p2 p3 p4 p5 p6
  have y0 := blk_cell b1 0 (v := .slice none 0 0) rfl
  have y1 := blk_cell b1 1 (v := .int .i64 0) rfl
  have y2 := blk_cell b1 2 (v := .slice none 0 0) rfl
  have y3 := blk_cell b1 3 (v := .slice none 0 0) rfl
  have y4 := blk_cell b1 4 (v := .slice none 0 0) rfl
  have y5 := blk_cell b1 5 (v := .int .i64 0) rfl
  have y6 := blk_cell b1 6 (v := .int .i64 0) rfl
  have fz0 := blk_frozen b1 0
  have fz1 := blk_frozen b1 1
  have fz2 := blk_frozen b1 2
  have fz3 := blk_frozen b1 3
  have fz4 := blk_frozen b1 4
  have fz5 := blk_frozen b1 5
  have fz6 := blk_frozen b1 6
  obtain ⟨Y, hY⟩ : ∃ u, u = stores w2 (w.heap.size + 1) 0 [.slice rb0 mb0 db0, .int .i64 V, .slice rb2 mb2 db2, .slice rb3 mb3 db3, .slice rb4 mb4 db4, .int .i64 la, .int .i64 up] := ⟨_, rfl⟩
  have S : Off (fun b => b = w.heap.size + 1) w2 Y := by rw [hY]; exact stores_off (F := fun b => b = w.heap.size + 1) _ _ _ _ rfl
  have zY : Y.heap.size = w2.heap.size := by rw [hY]; exact stores_size _ _ _ _
  have D : Below w.heap.size w Y := by rw [hY]; exact stores_below _ _ _ _ B2 (by omega)
  have R : Hid (KRet (.returned (.tuple #[.agg #[.slice rb0 mb0 db0, .int .i64 V, .slice rb2 mb2 db2, .slice rb3 mb3 db3, .slice rb4 mb4 db4, .int .i64 la, .int .i64 up], .bool true])) w Y F true (src, V, [], ps, ou, la, up)) := Hid.mk
    ⟨rb0, mb0, db0, rb2, mb2, db2, rb3, mb3, db3, rb4, mb4, db4, rfl, RSink.mono (RSink.ownOff HO2.out S (fun b h e => by have h2 : b = w.heap.size + 1 := e; rcases h with h | h; have := hF b h; omega; omega)) (fun b h => h.imp id (fun h => ⟨by omega, by omega⟩)), Off.below D⟩
  have HY := Hid.mk hY
  clear S hY zY D HO2 b1
  go_wp2
  refine bodyPost_ret (v := .tuple #[.agg #[.slice rb0 mb0 db0, .int .i64 V, .slice rb2 mb2 db2, .slice rb3 mb3 db3, .slice rb4 mb4 db4, .int .i64 la, .int .i64 up], .bool true]) (by simp [results, Try.results26, go_sem, y0, y1, y2, y3, y4, y5, y6]) rfl ?_
  have h := R.out
  rw [HY.out] at h
  exact h

set_option maxRecDepth 100000 in
set_option maxHeartbeats 2000000 in
theorem step5_yes (F : Nat → Prop) (a0 : Option Addr) (n0 c0 : Nat) (a2 : Option Addr) (n2 c2 : Nat) (a3 : Option Addr) (n3 c3 : Nat) (a4 : Option Addr) (n4 c4 : Nat) (t la up : Int) (src pd : List Int) (ps : List TPrepared) (ou : List Int) (w : World) (hF : ∀ b, F b → b < w.heap.size) (h2 : 2 ≤ n3) (h4m : n3 ≤ 1048576) (ho : RSink.Own w F [.slice a0 n0 c0, .int .i64 t, .slice a2 n2 c2, .slice a3 n3 c3, .slice a4 n4 c4, .int .i64 la, .int .i64 up] (src, t, pd, ps, ou, la, up)) :
    Calls Try.prog 26 #[.agg #[.slice a0 n0 c0, .int .i64 t, .slice a2 n2 c2, .slice a3 n3 c3, .slice a4 n4 c4, .int .i64 la, .int .i64 up], .int .i64 5] w fun e w' => KRet e w w' F true (src, upF up (ps.take (n3 - 1)), [], ps.take (n3 - 1), ou, la, up) := by
  obtain ⟨W, hW⟩ : ∃ W, W = (w.alloc (.cells #[.slice a0 n0 c0, .int .i64 t, .slice a2 n2 c2, .slice a3 n3 c3, .slice a4 n4 c4, .int .i64 la, .int .i64 up] 29)).alloc (.cells #[.slice none 0 0, .int .i64 0, .slice none 0 0, .slice none 0 0, .slice none 0 0, .int .i64 0, .int .i64 0] 29) := ⟨_, rfl⟩
  have B0 : Below w.heap.size w W := by rw [hW]; exact ((Below.refl _ _).alloc (Nat.le_refl _) _).alloc (by simp) _
  have b0 : W.heap[w.heap.size]? = some (.cells #[.slice a0 n0 c0, .int .i64 t, .slice a2 n2 c2, .slice a3 n3 c3, .slice a4 n4 c4, .int .i64 la, .int .i64 up] 29 (0, 0)) := by rw [hW]; exact blk_alloc (heap_alloc_new w _) _
  have b1 : W.heap[w.heap.size + 1]? = some (.cells #[.slice none 0 0, .int .i64 0, .slice none 0 0, .slice none 0 0, .slice none 0 0, .int .i64 0, .int .i64 0] 29 (0, 0)) := by
    rw [hW]
    have q := heap_alloc_new (w.alloc (.cells #[.slice a0 n0 c0, .int .i64 t, .slice a2 n2 c2, .slice a3 n3 c3, .slice a4 n4 c4, .int .i64 la, .int .i64 up] 29)) (.cells #[.slice none 0 0, .int .i64 0, .slice none 0 0, .slice none 0 0, .slice none 0 0, .int .i64 0, .int .i64 0] 29)
    simpa only [World.size_alloc] using q
  have zW : W.heap.size = w.heap.size + 2 := by rw [hW]; simp
  have hcap : n3 - 1 ≤ c3 := by
    obtain ⟨_, _, F3, _, _, _, ⟨a, n, c, cells, G, hcs, hL⟩, _⟩ := RSink.own_iff ho
    simp only [List.cons.injEq, Value.slice.injEq, and_true] at hcs
    obtain ⟨rfl, rfl, rfl⟩ := hcs
    have := ownCap hL.outer
    omega
  obtain ⟨X1, hX1⟩ : ∃ u, u = W.setCell ⟨w.heap.size, 3, none⟩ (.slice a3 (n3 - 1) c3) := ⟨_, rfl⟩
  have k0 : X1.heap[w.heap.size]? = some (.cells #[.slice a0 n0 c0, .int .i64 t, .slice a2 n2 c2, .slice a3 (n3 - 1) c3, .slice a4 n4 c4, .int .i64 la, .int .i64 up] 29 (0, 0)) := by rw [hX1]; exact blk_set b0 3 _
  have k1 : X1.heap[w.heap.size + 1]? = some (.cells #[.slice none 0 0, .int .i64 0, .slice none 0 0, .slice none 0 0, .slice none 0 0, .int .i64 0, .int .i64 0] 29 (0, 0)) := by rw [hX1]; exact blk_other b1 (by simp) _
  have C1 : Below w.heap.size w X1 := by rw [hX1]; exact B0.setCell (Nat.le_refl _) _
  have z1 : W.heap.size ≤ X1.heap.size := by rw [hX1]; simp [World.setCell]
  have hoX : RSink.Own X1 F [.slice a0 n0 c0, .int .i64 t, .slice a2 n2 c2, .slice a3 (n3 - 1) c3, .slice a4 n4 c4, .int .i64 la, .int .i64 up] (src, t, pd, ps.take (n3 - 1), ou, la, up) := by
    have ho1 := RSink.ownBelow ho C1
    obtain ⟨F0, F2, F3, F4, h0, h2', h3, h4, f0, f2, f3, f4, d02, d03, d04, d23, d24, d34⟩ := RSink.own_iff ho1
    obtain ⟨a, n, c, cells, G, hcs, hL⟩ := h3
    simp only [List.cons.injEq, Value.slice.injEq, and_true] at hcs
    obtain ⟨rfl, rfl, rfl⟩ := hcs
    exact RSink.own_mk h0 h2' ⟨_, _, _, _, _, rfl, laid_take hL (by omega)⟩ h4 f0 f2 f3 f4 d02 d03 d04 d23 d24 d34
  have KC := Hid.mk (l16Crash_any F a0 n0 c0 a2 n2 c2 a3 (n3 - 1) c3 a4 n4 c4 t la up src pd (ps.take (n3 - 1)) ou X1 hoX)
  obtain ⟨V, hV⟩ : ∃ V, upF up (ps.take (n3 - 1)) = V := ⟨_, rfl⟩
  rw [hV] at KC ⊢
  clear hV hoX
  have p0 := blk_cell b0 0 (v := .slice a0 n0 c0) rfl
  have p1 := blk_cell b0 1 (v := .int .i64 t) rfl
  have p2 := blk_cell b0 2 (v := .slice a2 n2 c2) rfl
  have p3 := blk_cell b0 3 (v := .slice a3 n3 c3) rfl
  have p4 := blk_cell b0 4 (v := .slice a4 n4 c4) rfl
  have p5 := blk_cell b0 5 (v := .int .i64 la) rfl
  have p6 := blk_cell b0 6 (v := .int .i64 up) rfl
  have g3 := blk_frozen b0 3
  have hb2 : ¬ (n3 : Int) < 2 := by omega
  have hw1 : IntKind.i64.wrap ((n3 : Int) - 1) = ((n3 - 1 : Nat) : Int) := by rw [IntWalk.i64_in _ (by omega)]; omega
  go_enter Try.func26, Try.ntmps26
  go_upto_region 1 with fail
  rw [← hW]
  clear hW
  go_upto_region 30 with fail
  rw [← hX1]
  clear hX1 g3 p0 p1 p2 p3 p4 p5 p6
  have p0 := blk_cell k0 0 (v := .slice a0 n0 c0) rfl
  have p1 := blk_cell k0 1 (v := .int .i64 t) rfl
  have p2 := blk_cell k0 2 (v := .slice a2 n2 c2) rfl
  have p3 := blk_cell k0 3 (v := .slice a3 (n3 - 1) c3) rfl
  have p4 := blk_cell k0 4 (v := .slice a4 n4 c4) rfl
  have p5 := blk_cell k0 5 (v := .int .i64 la) rfl
  have p6 := blk_cell k0 6 (v := .int .i64 up) rfl
  have b1 := k1
  go_wp2_with fail
  refine KC.out.mono ?_
  rintro e w2 ⟨rb0, mb0, db0, rb2, mb2, db2, rb3, mb3, db3, rb4, mb4, db4, rfl, ho2, hb2⟩
  simp only at ho2
  have b1 := blk_below b1 hb2
  have z2 := hb2.size
  have B2 : Below w.heap.size w w2 := C1.trans (hb2.mono C1.size)
  have HO2 := Hid.mk ho2
  clear ho2 hb2 KC p0 p1 p2 p3 p4 p5 p6
  have y0 := blk_cell b1 0 (v := .slice none 0 0) rfl
  have y1 := blk_cell b1 1 (v := .int .i64 0) rfl
  have y2 := blk_cell b1 2 (v := .slice none 0 0) rfl
  have y3 := blk_cell b1 3 (v := .slice none 0 0) rfl
  have y4 := blk_cell b1 4 (v := .slice none 0 0) rfl
  have y5 := blk_cell b1 5 (v := .int .i64 0) rfl
  have y6 := blk_cell b1 6 (v := .int .i64 0) rfl
  have fz0 := blk_frozen b1 0
  have fz1 := blk_frozen b1 1
  have fz2 := blk_frozen b1 2
  have fz3 := blk_frozen b1 3
  have fz4 := blk_frozen b1 4
  have fz5 := blk_frozen b1 5
  have fz6 := blk_frozen b1 6
  obtain ⟨Y, hY⟩ : ∃ u, u = stores w2 (w.heap.size + 1) 0 [.slice rb0 mb0 db0, .int .i64 V, .slice rb2 mb2 db2, .slice rb3 mb3 db3, .slice rb4 mb4 db4, .int .i64 la, .int .i64 up] := ⟨_, rfl⟩
  have S : Off (fun b => b = w.heap.size + 1) w2 Y := by rw [hY]; exact stores_off (F := fun b => b = w.heap.size + 1) _ _ _ _ rfl
  have zY : Y.heap.size = w2.heap.size := by rw [hY]; exact stores_size _ _ _ _
  have D : Below w.heap.size w Y := by rw [hY]; exact stores_below _ _ _ _ B2 (by omega)
  have R : Hid (KRet (.returned (.tuple #[.agg #[.slice rb0 mb0 db0, .int .i64 V, .slice rb2 mb2 db2, .slice rb3 mb3 db3, .slice rb4 mb4 db4, .int .i64 la, .int .i64 up], .bool true])) w Y F true (src, V, [], (ps.take (n3 - 1)), ou, la, up)) := Hid.mk
    ⟨rb0, mb0, db0, rb2, mb2, db2, rb3, mb3, db3, rb4, mb4, db4, rfl, RSink.mono (RSink.ownOff HO2.out S (fun b h e => by have h2 : b = w.heap.size + 1 := e; rcases h with h | h; have := hF b h; omega; omega)) (fun b h => h.imp id (fun h => ⟨by omega, by omega⟩)), Off.below D⟩
  have HY := Hid.mk hY
  clear S hY zY D HO2 b1
  go_wp2
  refine bodyPost_ret (v := .tuple #[.agg #[.slice rb0 mb0 db0, .int .i64 V, .slice rb2 mb2 db2, .slice rb3 mb3 db3, .slice rb4 mb4 db4, .int .i64 la, .int .i64 up], .bool true]) (by simp [results, Try.results26, go_sem, y0, y1, y2, y3, y4, y5, y6]) rfl ?_
  have h := R.out
  rw [HY.out] at h
  exact h

set_option maxRecDepth 100000 in
set_option maxHeartbeats 2000000 in
theorem step5_no (F : Nat → Prop) (a0 : Option Addr) (n0 c0 : Nat) (a2 : Option Addr) (n2 c2 : Nat) (a3 : Option Addr) (n3 c3 : Nat) (a4 : Option Addr) (n4 c4 : Nat) (t la up : Int) (src pd : List Int) (ps : List TPrepared) (ou : List Int) (w : World) (h2 : n3 < 2) (ho : RSink.Own w F [.slice a0 n0 c0, .int .i64 t, .slice a2 n2 c2, .slice a3 n3 c3, .slice a4 n4 c4, .int .i64 la, .int .i64 up] (src, t, pd, ps, ou, la, up)) :
    Calls Try.prog 26 #[.agg #[.slice a0 n0 c0, .int .i64 t, .slice a2 n2 c2, .slice a3 n3 c3, .slice a4 n4 c4, .int .i64 la, .int .i64 up], .int .i64 5] w fun e w' => KRet e w w' F false (src, t, pd, ps, ou, la, up) ∧ Below w.heap.size w w' := by
  obtain ⟨W, hW⟩ : ∃ W, W = (w.alloc (.cells #[.slice a0 n0 c0, .int .i64 t, .slice a2 n2 c2, .slice a3 n3 c3, .slice a4 n4 c4, .int .i64 la, .int .i64 up] 29)).alloc (.cells #[.slice none 0 0, .int .i64 0, .slice none 0 0, .slice none 0 0, .slice none 0 0, .int .i64 0, .int .i64 0] 29) := ⟨_, rfl⟩
  have B0 : Below w.heap.size w W := by rw [hW]; exact ((Below.refl _ _).alloc (Nat.le_refl _) _).alloc (by simp) _
  have b0 : W.heap[w.heap.size]? = some (.cells #[.slice a0 n0 c0, .int .i64 t, .slice a2 n2 c2, .slice a3 n3 c3, .slice a4 n4 c4, .int .i64 la, .int .i64 up] 29 (0, 0)) := by rw [hW]; exact blk_alloc (heap_alloc_new w _) _
  have b1 : W.heap[w.heap.size + 1]? = some (.cells #[.slice none 0 0, .int .i64 0, .slice none 0 0, .slice none 0 0, .slice none 0 0, .int .i64 0, .int .i64 0] 29 (0, 0)) := by
    rw [hW]
    have q := heap_alloc_new (w.alloc (.cells #[.slice a0 n0 c0, .int .i64 t, .slice a2 n2 c2, .slice a3 n3 c3, .slice a4 n4 c4, .int .i64 la, .int .i64 up] 29)) (.cells #[.slice none 0 0, .int .i64 0, .slice none 0 0, .slice none 0 0, .slice none 0 0, .int .i64 0, .int .i64 0] 29)
    simpa only [World.size_alloc] using q
  have zW : W.heap.size = w.heap.size + 2 := by rw [hW]; simp
  have p0 := blk_cell b0 0 (v := .slice a0 n0 c0) rfl
  have p1 := blk_cell b0 1 (v := .int .i64 t) rfl
  have p2 := blk_cell b0 2 (v := .slice a2 n2 c2) rfl
  have p3 := blk_cell b0 3 (v := .slice a3 n3 c3) rfl
  have p4 := blk_cell b0 4 (v := .slice a4 n4 c4) rfl
  have p5 := blk_cell b0 5 (v := .int .i64 la) rfl
  have p6 := blk_cell b0 6 (v := .int .i64 up) rfl
  have y0 := blk_cell b1 0 (v := .slice none 0 0) rfl
  have y1 := blk_cell b1 1 (v := .int .i64 0) rfl
  have y2 := blk_cell b1 2 (v := .slice none 0 0) rfl
  have y3 := blk_cell b1 3 (v := .slice none 0 0) rfl
  have y4 := blk_cell b1 4 (v := .slice none 0 0) rfl
  have y5 := blk_cell b1 5 (v := .int .i64 0) rfl
  have y6 := blk_cell b1 6 (v := .int .i64 0) rfl
  have fz0 := blk_frozen b1 0
  have fz1 := blk_frozen b1 1
  have fz2 := blk_frozen b1 2
  have fz3 := blk_frozen b1 3
  have fz4 := blk_frozen b1 4
  have fz5 := blk_frozen b1 5
  have fz6 := blk_frozen b1 6
  have hb2 : (n3 : Int) < 2 := by omega
  clear h2
  go_enter Try.func26, Try.ntmps26
  go_upto_region 1 with fail
  rw [← hW]
  clear hW
  go_upto_region 28 with fail
  obtain ⟨Y, hY⟩ : ∃ u, u = stores W (w.heap.size + 1) 0 [.slice a0 n0 c0, .int .i64 t, .slice a2 n2 c2, .slice a3 n3 c3, .slice a4 n4 c4, .int .i64 la, .int .i64 up] := ⟨_, rfl⟩
  have S : Off (fun b => b = w.heap.size + 1) W Y := by rw [hY]; exact stores_off (F := fun b => b = w.heap.size + 1) _ _ _ _ rfl
  have zY : Y.heap.size = W.heap.size := by rw [hY]; exact stores_size _ _ _ _
  have D : Below w.heap.size w Y := by rw [hY]; exact stores_below _ _ _ _ B0 (by omega)
  have R : Hid (KRet (.returned (.tuple #[.agg #[.slice a0 n0 c0, .int .i64 t, .slice a2 n2 c2, .slice a3 n3 c3, .slice a4 n4 c4, .int .i64 la, .int .i64 up], .bool false])) w Y F false (src, t, pd, ps, ou, la, up) ∧ Below w.heap.size w Y) := Hid.mk
    ⟨⟨a0, n0, c0, a2, n2, c2, a3, n3, c3, a4, n4, c4, rfl, RSink.mono (RSink.ownBelow ho D) (fun b h => .inl h), Off.below D⟩, D⟩
  have HY := Hid.mk hY
  clear S hY zY D b0 b1 B0 zW
  go_wp2
  refine bodyPost_ret (v := .tuple #[.agg #[.slice a0 n0 c0, .int .i64 t, .slice a2 n2 c2, .slice a3 n3 c3, .slice a4 n4 c4, .int .i64 la, .int .i64 up], .bool false]) (by simp [results, Try.results26, go_sem, y0, y1, y2, y3, y4, y5, y6]) rfl ?_
  have h := R.out
  rw [HY.out] at h
  exact h

set_option maxRecDepth 100000 in
set_option maxHeartbeats 2000000 in
theorem step9_no (F : Nat → Prop) (a0 : Option Addr) (n0 c0 : Nat) (a2 : Option Addr) (n2 c2 : Nat) (a3 : Option Addr) (n3 c3 : Nat) (a4 : Option Addr) (n4 c4 : Nat) (t la up : Int) (src pd : List Int) (ps : List TPrepared) (ou : List Int) (k : Int) (w : World) (hk : k ≠ 1 ∧ k ≠ 2 ∧ k ≠ 3 ∧ k ≠ 4 ∧ k ≠ 5) (ho : RSink.Own w F [.slice a0 n0 c0, .int .i64 t, .slice a2 n2 c2, .slice a3 n3 c3, .slice a4 n4 c4, .int .i64 la, .int .i64 up] (src, t, pd, ps, ou, la, up)) :
    Calls Try.prog 26 #[.agg #[.slice a0 n0 c0, .int .i64 t, .slice a2 n2 c2, .slice a3 n3 c3, .slice a4 n4 c4, .int .i64 la, .int .i64 up], .int .i64 k] w fun e w' => KRet e w w' F false (src, t, pd, ps, ou, la, up) ∧ Below w.heap.size w w' := by
  obtain ⟨W, hW⟩ : ∃ W, W = (w.alloc (.cells #[.slice a0 n0 c0, .int .i64 t, .slice a2 n2 c2, .slice a3 n3 c3, .slice a4 n4 c4, .int .i64 la, .int .i64 up] 29)).alloc (.cells #[.slice none 0 0, .int .i64 0, .slice none 0 0, .slice none 0 0, .slice none 0 0, .int .i64 0, .int .i64 0] 29) := ⟨_, rfl⟩
  have B0 : Below w.heap.size w W := by rw [hW]; exact ((Below.refl _ _).alloc (Nat.le_refl _) _).alloc (by simp) _
  have b0 : W.heap[w.heap.size]? = some (.cells #[.slice a0 n0 c0, .int .i64 t, .slice a2 n2 c2, .slice a3 n3 c3, .slice a4 n4 c4, .int .i64 la, .int .i64 up] 29 (0, 0)) := by rw [hW]; exact blk_alloc (heap_alloc_new w _) _
  have b1 : W.heap[w.heap.size + 1]? = some (.cells #[.slice none 0 0, .int .i64 0, .slice none 0 0, .slice none 0 0, .slice none 0 0, .int .i64 0, .int .i64 0] 29 (0, 0)) := by
    rw [hW]
    have q := heap_alloc_new (w.alloc (.cells #[.slice a0 n0 c0, .int .i64 t, .slice a2 n2 c2, .slice a3 n3 c3, .slice a4 n4 c4, .int .i64 la, .int .i64 up] 29)) (.cells #[.slice none 0 0, .int .i64 0, .slice none 0 0, .slice none 0 0, .slice none 0 0, .int .i64 0, .int .i64 0] 29)
    simpa only [World.size_alloc] using q
  have zW : W.heap.size = w.heap.size + 2 := by rw [hW]; simp
  have p0 := blk_cell b0 0 (v := .slice a0 n0 c0) rfl
  have p1 := blk_cell b0 1 (v := .int .i64 t) rfl
  have p2 := blk_cell b0 2 (v := .slice a2 n2 c2) rfl
  have p3 := blk_cell b0 3 (v := .slice a3 n3 c3) rfl
  have p4 := blk_cell b0 4 (v := .slice a4 n4 c4) rfl
  have p5 := blk_cell b0 5 (v := .int .i64 la) rfl
  have p6 := blk_cell b0 6 (v := .int .i64 up) rfl
  have y0 := blk_cell b1 0 (v := .slice none 0 0) rfl
  have y1 := blk_cell b1 1 (v := .int .i64 0) rfl
  have y2 := blk_cell b1 2 (v := .slice none 0 0) rfl
  have y3 := blk_cell b1 3 (v := .slice none 0 0) rfl
  have y4 := blk_cell b1 4 (v := .slice none 0 0) rfl
  have y5 := blk_cell b1 5 (v := .int .i64 0) rfl
  have y6 := blk_cell b1 6 (v := .int .i64 0) rfl
  have fz0 := blk_frozen b1 0
  have fz1 := blk_frozen b1 1
  have fz2 := blk_frozen b1 2
  have fz3 := blk_frozen b1 3
  have fz4 := blk_frozen b1 4
  have fz5 := blk_frozen b1 5
  have fz6 := blk_frozen b1 6
  have hk1 : (k == 1) = false := beq_eq_false_iff_ne.2 (by omega)
  have hk2 : (k == 2) = false := beq_eq_false_iff_ne.2 (by omega)
  have hk3 : (k == 3) = false := beq_eq_false_iff_ne.2 (by omega)
  have hk4 : (k == 4) = false := beq_eq_false_iff_ne.2 (by omega)
  have hk5 : (k == 5) = false := beq_eq_false_iff_ne.2 (by omega)
  clear hk
  go_enter Try.func26, Try.ntmps26
  go_upto_region 1 with fail
  rw [← hW]
  clear hW
  go_upto_region 31 with fail
  obtain ⟨Y, hY⟩ : ∃ u, u = stores W (w.heap.size + 1) 0 [.slice a0 n0 c0, .int .i64 t, .slice a2 n2 c2, .slice a3 n3 c3, .slice a4 n4 c4, .int .i64 la, .int .i64 up] := ⟨_, rfl⟩
  have S : Off (fun b => b = w.heap.size + 1) W Y := by rw [hY]; exact stores_off (F := fun b => b = w.heap.size + 1) _ _ _ _ rfl
  have zY : Y.heap.size = W.heap.size := by rw [hY]; exact stores_size _ _ _ _
  have D : Below w.heap.size w Y := by rw [hY]; exact stores_below _ _ _ _ B0 (by omega)
  have R : Hid (KRet (.returned (.tuple #[.agg #[.slice a0 n0 c0, .int .i64 t, .slice a2 n2 c2, .slice a3 n3 c3, .slice a4 n4 c4, .int .i64 la, .int .i64 up], .bool false])) w Y F false (src, t, pd, ps, ou, la, up) ∧ Below w.heap.size w Y) := Hid.mk
    ⟨⟨a0, n0, c0, a2, n2, c2, a3, n3, c3, a4, n4, c4, rfl, RSink.mono (RSink.ownBelow ho D) (fun b h => .inl h), Off.below D⟩, D⟩
  have HY := Hid.mk hY
  clear S hY zY D b0 b1 B0 zW
  go_wp2
  refine bodyPost_ret (v := .tuple #[.agg #[.slice a0 n0 c0, .int .i64 t, .slice a2 n2 c2, .slice a3 n3 c3, .slice a4 n4 c4, .int .i64 la, .int .i64 up], .bool false]) (by simp [results, Try.results26, go_sem, y0, y1, y2, y3, y4, y5, y6]) rfl ?_
  have h := R.out
  rw [HY.out] at h
  exact h

end Go.Proofs.Ytmbjmmnodcebbaa

/- Numbers in memory as cells. -/
namespace Go.Proofs.Ytmbjmmnodcebbaa
open Go.RowKit

theorem vals_of {w : World} {ao : Option Addr} {zs : List Int} (hat : At w ao zs) : ∀ ad, ao = some ad → ∀ (j : Nat) (u : Value), (zs.map (Value.int .i64))[j]? = some u → w.cell? (ad.add j) = some u := by
  intro ad he j u hj
  have hjl : j < zs.length := by
    have := (List.getElem?_eq_some_iff.1 hj).1
    simpa using this
  obtain ⟨b, off, he2, _, hc⟩ := At.some hat (by omega)
  rw [he] at he2
  simp only [Option.some.injEq] at he2
  subst he2
  rw [Addr.add_lit, hc j hjl]
  simpa [List.getD, hjl] using hj
theorem ones_of (zs : List Int) : ∀ u ∈ zs.map (Value.int .i64), u.oneCell' = true := fun u hu => by
  obtain ⟨y, _, rfl⟩ := List.mem_map.1 hu
  rfl
theorem nil_of {w : World} {ao : Option Addr} {n c : Nat} {zs : List Int} (hat : At w ao zs) (hz : zs.length = n) (hF : ao = none → c = 0) : ao = none → c = 0 ∧ n = 0 := fun e => by
  refine ⟨hF e, ?_⟩
  rw [← hz]
  rcases hat with h | ⟨b, off, h, _⟩
  · rw [h]; rfl
  · rw [e] at h; cases h

end Go.Proofs.Ytmbjmmnodcebbaa
