/- Several texts of one proof, in build order: RowC, ClP, CpK. -/
import Derived.Test.YtmbjmmnodcebbaaM1
import Derived.Test.YtmbjmmnodcebbaaM12
import Derived.Test.YtmbjmmnodcebbaaM10
import Derived.Test.YtmbjmmnodcebbaaM15
import Derived.Deep.CutBlock
import Derived.Test.YtmbjmmnodcebbaaM6

/- Rows of three cells as they lie in memory. -/
namespace Go.Proofs.Ytmbjmmnodcebbaa
open Go.RowKit

theorem row_cells {w : World} {b off : Nat} {R : Nat → List Value → Prop} : ∀ (n : Nat) (_ : ∀ i, i < n → ∃ vs, vs.length = 3 ∧ (∀ j v, vs[j]? = some v → w.cell? ⟨b, off + i * 3 + j, none⟩ = some v) ∧ (∀ u ∈ vs, u.oneCell' = true) ∧ R i vs),
    ∃ L : List Value, L.length = n * 3 ∧ (∀ j, j < n * 3 → w.cell? ⟨b, off + j, none⟩ = L[j]?) ∧ (∀ u ∈ L, u.oneCell' = true) ∧ ∀ i, i < n → R i (sub L (i * 3) 3)
  | 0, _ => ⟨[], rfl, fun j hj => by omega, fun u hu => (by cases hu), fun i hi => by omega⟩
  | n + 1, h => by
    obtain ⟨L, l1, l2, l3, l4⟩ := row_cells n (fun i hi => h i (by omega))
    obtain ⟨vs, v1, v2, v3, v4⟩ := h n (by omega)
    refine ⟨L ++ vs, by rw [List.length_append, l1, v1]; omega, fun j hj => ?_, fun u hu => ?_, fun i hi => ?_⟩
    · by_cases e : j < n * 3
      · rw [List.getElem?_append_left (by omega)]; exact l2 j e
      · obtain ⟨r, rfl⟩ : ∃ r, j = n * 3 + r := ⟨j - n * 3, by omega⟩
        rw [List.getElem?_append_right (by omega), l1, Nat.add_sub_cancel_left]
        obtain ⟨v, hv⟩ : ∃ v, vs[r]? = some v := ⟨_, List.getElem?_eq_getElem (by omega)⟩
        rw [hv, ← Nat.add_assoc]
        exact v2 r v hv
    · rcases List.mem_append.1 hu with q | q
      · exact l3 u q
      · exact v3 u q
    · by_cases e : i < n
      · have q : sub (L ++ vs) (i * 3) 3 = sub L (i * 3) 3 := by
          unfold sub
          rw [List.drop_append_of_le_length (by omega), List.take_append_of_le_length (by rw [List.length_drop]; omega)]
        rw [q]; exact l4 i e
      · obtain rfl : i = n := by omega
        have q : sub (L ++ vs) (i * 3) 3 = vs := by
          unfold sub
          rw [List.drop_left' l1, List.take_of_length_le (by omega)]
        rw [q]; exact v4

end Go.Proofs.Ytmbjmmnodcebbaa

/- slices.Clone at Prepared that lie somewhere: the cells as they are. -/
namespace Go.Proofs.Ytmbjmmnodcebbaa
open Go.RowKit

theorem eqNilP (a : Option Addr) (n c : Nat) (w : World) : (binOp .eql 27 (.slice a n c) (.slice none 0 0)).run Try.prog w = .ok (.bool a.isNone) w := by
  have he : (Op.equalIn (9999 + 1) 27 (.slice a n c) (.slice none 0 0)).run Try.prog w = .ok a.isNone w := by
    unfold Op.equalIn
    simp only [Sem.run_bind, run_underlying Try.underlying27, Result.andThen_ok]
    cases a <;> rfl
  have he' : (Op.equal 27 (.slice a n c) (.slice none 0 0)).run Try.prog w = .ok a.isNone w := he
  simp only [binOp]
  rw [Sem.run_bind, he']
  rfl

set_option maxHeartbeats 2000000 in
theorem cloneP_vals (ad : Addr) (n c : Nat) (L : List Value) (w : World) (hn : n ≤ 1048576) (hL : L.length = n * 3) (ha : ∀ (j : Nat) (u : Value), L[j]? = some u → w.cell? (ad.add j) = some u) (h1 : ∀ u ∈ L, u.oneCell' = true) :
    Calls Try.prog 53 #[.slice (some ad) n c] w fun e w' => ∃ r d, e = .returned (.slice r n d) ∧ w'.ownsRow w.heap.size 64 3 (.slice r n d) n L ∧ Below w.heap.size w w' := by
  obtain ⟨i0, hi, hz0, hz1, hz2⟩ := info_parts Try.infoPrepared
  have OE := Hid.mk (own_void w 64 3)
  have HL := Hid.mk hL
  have HN : Hid (∀ ad', some ad = some ad' → ∀ (j : Nat) (u : Value), L[j]? = some u → (w.alloc (.cells #[] 64)).cell? (ad'.add j) = some u) := Hid.mk (by
    intro ad' he j u hj
    simp only [Option.some.injEq] at he
    subst he
    exact cell_later ((Below.refl _ _).alloc (Nat.le_refl _) _) (ha j u hj))
  have H1 := Hid.mk h1
  clear ha h1 hL
  have hq := fun w => eqNilP (some ad) n c w
  go_enter Try.func53, Try.ntmps53
  go_wp2_with (at_builtin; refine wpList_app_vals rfl (.tmp 5) (.tmp 6) 27 rfl w.heap.size 64 i0 (.agg #[.int .i64 0, .int .i64 0, .slice none 0 0]) 3 40 Try.underlying27 hi hz0 hz1 hz2 rfl (by decide) (.slice (some ⟨w.heap.size, 0, none⟩) 0 0) 0 [] rfl OE.out (some ad) n c L rfl HL.out HN.out H1.out (fun h => by cases h) (by unfold maxLen; omega) (by omega) (by simp) ?_)
  intro r1 d1 w1 ho1 hg1 ht1
  have HB : Hid (Below w.heap.size w w1) := ((Below.refl _ _).alloc (Nat.le_refl _) _).grown hg1 (by simp) (fun j hj => by simp [Value.ownBlock] at hj; omega)
  have HO : Hid (w1.ownsRow w.heap.size 64 3 (.slice r1 n d1) n L) := Hid.mk (by simpa using ho1)
  clear ho1 hg1 ht1
  go_wp2
  go_ret
  exact ⟨r1, d1, by first | rfl | simp, HO.out, HB.out⟩

/-- What a Prepared's three cells mean. -/
def PCells (w : World) (x : TPrepared) (vs : List Value) : Prop := ∃ a2 c2, vs = [.int .i64 x.1, .int .i64 x.2.1, .slice a2 x.2.2.length c2] ∧ At w a2 x.2.2 ∧ (a2 = none → c2 = 0)
/-- Copied cells that are told. -/
def ClRet (e : Ending) (w0 w w' : World) (n : Nat) (ps : List TPrepared) : Prop :=
  ∃ r d cells, e = .returned (.slice r n d) ∧ w'.ownsRow w.heap.size 64 3 (.slice r n d) n cells ∧ (∀ i x, ps[i]? = some x → PCells w0 x (sub cells (i * 3) 3)) ∧ Below w.heap.size w w'
theorem cloneP_any (a : Option Addr) (n c : Nat) (ps : List TPrepared) (w0 w : World) (hbw0 : Below w0.heap.size w0 w) (hz : ps.length = n) (hn : n ≤ 1048576) (hF : a = none → c = 0) (ha : AtSl RPrepared w0 a ps) :
    Calls Try.prog 53 #[.slice a n c] w fun e w' => ClRet e w0 w w' n ps := by
  by_cases h0 : n = 0
  · subst h0
    have HPS := Hid.mk (List.length_eq_zero_iff.1 hz)
    cases a with
    | none =>
      have hc0 := hF rfl
      subst hc0
      have hq := fun w => eqNilP none 0 0 w
      clear ha hz
      go_enter Try.func53, Try.ntmps53
      go_wp2
      go_ret
      exact ⟨none, 0, [], rfl, World.ownsRow_nil _ _ _ _, fun i x h => by rw [HPS.out] at h; simp at h, Below.refl _ _⟩
    | some ad =>
      refine (cloneP_vals ad 0 c [] w (by omega) rfl (fun j u h => by simp at h) (fun u h => by cases h)).mono ?_
      rintro e w' ⟨r, d, rfl, ho, hb⟩
      exact ⟨r, d, [], rfl, ho, fun i x h => by rw [HPS.out] at h; simp at h, hb⟩
  · obtain ⟨b, off, rfl, hb, hc⟩ := RPrepared.row ha (by omega)
    obtain ⟨L, l1, l2, l3, l4⟩ := row_cells (w := w) (b := b) (off := off) (R := fun i vs => ∀ x, ps[i]? = some x → PCells w0 x vs) n (fun i hi => by
      obtain ⟨x, hx⟩ : ∃ x, ps[i]? = some x := ⟨_, List.getElem?_eq_getElem (by omega)⟩
      obtain ⟨a2, m2, c2, q0, q1, q2, ⟨u0, _, u1, u2⟩⟩ := hc i x hx
      have q0 := cell_later hbw0 q0
      have q1 := cell_later hbw0 q1
      have q2 := cell_later hbw0 q2
      subst u0
      refine ⟨[.int .i64 x.1, .int .i64 x.2.1, .slice a2 x.2.2.length c2], rfl, fun j v hv => ?_, fun u hu => ?_, fun x' hx' => by rw [hx] at hx'; obtain rfl := Option.some.inj hx'; exact ⟨a2, c2, rfl, u1, u2⟩⟩
      · match j, hv with
        | 0, hv => obtain rfl := Option.some.inj hv; exact q0
        | 1, hv => obtain rfl := Option.some.inj hv; exact q1
        | 2, hv => obtain rfl := Option.some.inj hv; exact q2
      · simp only [List.mem_cons, List.not_mem_nil, or_false] at hu
        rcases hu with rfl | rfl | rfl <;> rfl)
    refine (cloneP_vals ⟨b, off, none⟩ n c L w hn l1 (fun j u hj => by
      have hjl := (List.getElem?_eq_some_iff.1 hj).1
      rw [Addr.add_lit, l2 j (by omega)]; exact hj) l3).mono ?_
    rintro e w' ⟨r, d, rfl, ho, hbw⟩
    exact ⟨r, d, L, rfl, ho, fun i x hx => l4 i (by have := (List.getElem?_eq_some_iff.1 hx).1; omega) x hx, hbw⟩

end Go.Proofs.Ytmbjmmnodcebbaa

/- Contract of impl.copySink. -/
namespace Go.Proofs.Ytmbjmmnodcebbaa
open Go.RowKit

/-- A sink that is told, in memory that the call made. -/
def CpRet (e : Ending) (w w' : World) (x : TSink) : Prop :=
  ∃ r0 m0 d0 r2 m2 d2 r3 m3 d3 r4 m4 d4, e = .returned (.agg #[.slice r0 m0 d0, .int .i64 x.2.1, .slice r2 m2 d2, .slice r3 m3 d3, .slice r4 m4 d4, .int .i64 x.2.2.2.2.2.1, .int .i64 x.2.2.2.2.2.2]) ∧
    RSink.Own w' (From w.heap.size w'.heap.size) [.slice r0 m0 d0, .int .i64 x.2.1, .slice r2 m2 d2, .slice r3 m3 d3, .slice r4 m4 d4, .int .i64 x.2.2.2.2.2.1, .int .i64 x.2.2.2.2.2.2] x ∧ Below w.heap.size w w'
theorem laidP_store {w : World} {F : Nat → Prop} {e : TypeId} {g n c m k j : Nat} {xs : List TPrepared} {cells vs : List Value} {G : Nat → Nat → Prop} {v : Value} (h : Laid RPrepared w F e (some ⟨g, 0, none⟩) n c xs cells G m) (hk : m ≤ k) (hkn : k < n) (hj : j < 3) (hvs : (sub cells (k * 3) 3).set j v = vs) :
    Laid RPrepared (w.setCell ⟨g, k * 3 + j, none⟩ v) F e (some ⟨g, 0, none⟩) n c xs (sets cells (k * 3) vs) G m := by
  have hcl : cells.length = n * 3 := h.outer.1
  have hcm : k * 3 + 3 ≤ cells.length := by omega
  have hsl : (sub cells (k * 3) 3).length = 3 := by simp [sub]; omega
  have hvl : vs.length = 3 := by rw [← hvs]; simp [hsl]
  have hh : ∀ b, b ≠ g → (w.setCell ⟨g, k * 3 + j, none⟩ v).heap[b]? = w.heap[b]? := fun b e => Below.heap_setCell _ _ _ _ e
  have ho : w.ownsRow 0 e 3 (.slice (some ⟨g, 0, none⟩) n c) n (sets cells (k * 3) (sub cells (k * 3) 3)) := by
    rw [sets_self _ _ _ hcm]; exact h.outer
  have ho2 := owns_sets_store ho j v (by rw [hsl]; exact hj) (by rw [hsl]; exact hcm)
  rw [hvs] at ho2
  refine ⟨h.len, h.big, ho2, h.outerF, fun i y hi hy => ?_, h.rowF, h.apart⟩
  show RPrepared.Own _ _ (sub (sets cells (k * 3) vs) (i * 3) 3) y
  rw [sub_sets_far _ _ _ _ _ (by rw [hvl]; exact mul_far (k := 3) (by omega))]
  exact RPrepared.frame (h.row i y hi hy) (fun b hb _ => hh b (fun e => (h.rowF i b hi hb).2 (by rw [e]; rfl)))
theorem laid_close {α : Type} {A : Rep α} {w : World} {F : Nat → Prop} {e : TypeId} {a : Option Addr} {n c m : Nat} {xs : List α} {cells : List Value} {G : Nat → Nat → Prop} {x : α} {H : Nat → Prop} (h : Laid A w F e a n c xs cells G m) (hx : xs[m]? = some x) (ho : A.Own w H (sub cells (m * A.k) A.k) x)
    (hH : ∀ b, H b → F b ∧ (Value.slice a n c).ownBlock ≠ some b ∧ ∀ i, i < m → ¬ G i b) : Laid A w F e a n c xs cells (fun i => if i = m then H else G i) (m + 1) := by
  refine ⟨h.len, h.big, h.outer, h.outerF, fun i y hi hy => ?_, fun i b hi hb => ?_, fun i j b hi hj hij hb hb' => ?_⟩
  · by_cases e : i = m
    · subst e
      rw [hx] at hy
      obtain rfl := Option.some.inj hy
      simp only [if_true]
      exact ho
    · simp only [if_neg e]
      exact h.row i y (by omega) hy
  · by_cases e : i = m
    · subst e
      simp only [if_true] at hb
      exact ⟨(hH b hb).1, (hH b hb).2.1⟩
    · simp only [if_neg e] at hb
      exact h.rowF i b (by omega) hb
  · by_cases e : i = m
    · subst e
      simp only [if_true] at hb
      simp only [if_neg (Ne.symm hij)] at hb'
      exact (hH b hb).2.2 j (by omega) hb'
    · simp only [if_neg e] at hb
      by_cases e' : j = m
      · subst e'
        simp only [if_true] at hb'
        exact (hH b hb').2.2 i (by omega) hb
      · simp only [if_neg e'] at hb'
        exact h.apart i j b (by omega) (by omega) hij hb hb'

set_option maxRecDepth 100000 in
set_option maxHeartbeats 2000000 in
theorem copySink_any (a0 : Option Addr) (n0 c0 : Nat) (a2 : Option Addr) (n2 c2 : Nat) (a3 : Option Addr) (n3 c3 : Nat) (a4 : Option Addr) (n4 c4 : Nat) (t la up : Int) (src pd : List Int) (ps : List TPrepared) (ou : List Int) (w : World) (h0 : src.length = n0) (h2 : pd.length = n2) (h3 : ps.length = n3) (h4 : ou.length = n4) (hb0 : n0 ≤ 1048576) (hb2 : n2 ≤ 1048576) (hb3 : n3 ≤ 1048576) (hb4 : n4 ≤ 1048576) (hF0 : a0 = none → c0 = 0) (hF2 : a2 = none → c2 = 0) (hF3 : a3 = none → c3 = 0) (hF4 : a4 = none → c4 = 0) (hsm : ∀ (i : Nat) (x : TPrepared), ps[i]? = some x → costPrepared x ≤ 1048576) (ha0 : At w a0 src) (ha2 : At w a2 pd) (ha3 : AtSl RPrepared w a3 ps) (ha4 : At w a4 ou) :
    Calls Try.prog 30 #[.agg #[.slice a0 n0 c0, .int .i64 t, .slice a2 n2 c2, .slice a3 n3 c3, .slice a4 n4 c4, .int .i64 la, .int .i64 up]] w fun e w' => CpRet e w w' (src, t, pd, ps, ou, la, up) := by
  obtain ⟨W, hW⟩ : ∃ W, W = (w.alloc (.cells #[.slice a0 n0 c0, .int .i64 t, .slice a2 n2 c2, .slice a3 n3 c3, .slice a4 n4 c4, .int .i64 la, .int .i64 up] 29)).alloc (.cells #[.slice none 0 0, .int .i64 0, .slice none 0 0, .slice none 0 0, .slice none 0 0, .int .i64 0, .int .i64 0] 29) := ⟨_, rfl⟩
  have B0 : Below w.heap.size w W := by rw [hW]; exact ((Below.refl _ _).alloc (Nat.le_refl _) _).alloc (by simp) _
  have b0 : W.heap[w.heap.size]? = some (.cells #[.slice a0 n0 c0, .int .i64 t, .slice a2 n2 c2, .slice a3 n3 c3, .slice a4 n4 c4, .int .i64 la, .int .i64 up] 29 (0, 0)) := by rw [hW]; exact blk_alloc (heap_alloc_new w _) _
  have b1 : W.heap[w.heap.size + 1]? = some (.cells #[.slice none 0 0, .int .i64 0, .slice none 0 0, .slice none 0 0, .slice none 0 0, .int .i64 0, .int .i64 0] 29 (0, 0)) := by
    rw [hW]
    have q := heap_alloc_new (w.alloc (.cells #[.slice a0 n0 c0, .int .i64 t, .slice a2 n2 c2, .slice a3 n3 c3, .slice a4 n4 c4, .int .i64 la, .int .i64 up] 29)) (.cells #[.slice none 0 0, .int .i64 0, .slice none 0 0, .slice none 0 0, .slice none 0 0, .int .i64 0, .int .i64 0] 29)
    simpa only [World.size_alloc] using q
  have zW : W.heap.size = w.heap.size + 2 := by rw [hW]; simp
  obtain ⟨X0, hX0⟩ : ∃ u, u = W.alloc (.cells #[.slice a0 n0 c0, .int .i64 t, .slice a2 n2 c2, .slice a3 n3 c3, .slice a4 n4 c4, .int .i64 la, .int .i64 up] 29) := ⟨_, rfl⟩
  have BX0 : Below W.heap.size W X0 := by rw [hX0]; exact (Below.refl _ _).alloc (Nat.le_refl _) _
  have b2 : X0.heap[w.heap.size + 2]? = some (.cells #[.slice a0 n0 c0, .int .i64 t, .slice a2 n2 c2, .slice a3 n3 c3, .slice a4 n4 c4, .int .i64 la, .int .i64 up] 29 (0, 0)) := by rw [hX0, ← zW]; exact heap_alloc_new W _
  have zX : X0.heap.size = w.heap.size + 3 := by rw [hX0]; simp [zW]
  have p0 := blk_cell b0 0 (v := .slice a0 n0 c0) rfl
  have p1 := blk_cell b0 1 (v := .int .i64 t) rfl
  have p2 := blk_cell b0 2 (v := .slice a2 n2 c2) rfl
  have p3 := blk_cell b0 3 (v := .slice a3 n3 c3) rfl
  have p4 := blk_cell b0 4 (v := .slice a4 n4 c4) rfl
  have p5 := blk_cell b0 5 (v := .int .i64 la) rfl
  have p6 := blk_cell b0 6 (v := .int .i64 up) rfl
  have b0 := blk_below b0 BX0
  have b1 := blk_below b1 BX0
  have H0 := Hid.mk h0
  have H2 := Hid.mk h2
  have H3 := Hid.mk h3
  have H4 := Hid.mk h4
  have HSM := Hid.mk hsm
  have HA0 := Hid.mk (At.below ha0 B0)
  have HA2 := Hid.mk (At.below ha2 B0)
  have HA3 := Hid.mk (AtSl.below ha3 B0)
  have HA4 := Hid.mk (At.below ha4 B0)
  clear ha0 ha2 ha3 ha4 h0 h2 h3 h4 hsm
  go_enter Try.func30, Try.ntmps30
  go_upto_region 1 with fail
  rw [← hW]
  clear hW
  go_upto_region 2 with fail
  rw [← hX0]
  clear hX0 p0 p1 p2 p3 p4 p5 p6
  have u0 := blk_cell b0 0 (v := .slice a0 n0 c0) rfl
  go_wp2_with fail
  refine (cloneI_any a0 n0 c0 src X0 H0.out hb0 hF0 (At.below HA0.out (BX0))).mono ?_
  rintro e w1 ⟨r0, d0, rfl, o0, hb⟩
  have b0 := blk_below b0 hb
  have b1 := blk_below b1 hb
  have b2 := blk_below b2 hb
  have zw0 := hb.size
  have BW0 := BX0.trans (hb.mono BX0.size)
  have HO0 := Hid.mk o0
  have HF0 := Hid.mk (fun b (hb2 : (Value.slice r0 n0 d0).ownBlock = some b) => o0.lt b hb2)
  obtain ⟨X1, hX⟩ : ∃ u, u = w1.setCell ⟨w.heap.size + 2, 0, none⟩ (.slice r0 n0 d0) := ⟨_, rfl⟩
  have q2 := blk_cell b2 0 (v := .slice a0 n0 c0) rfl
  have f2 := blk_frozen b2 0
  have b2 : X1.heap[w.heap.size + 2]? = some (.cells #[.slice r0 n0 d0, .int .i64 t, .slice a2 n2 c2, .slice a3 n3 c3, .slice a4 n4 c4, .int .i64 la, .int .i64 up] 29 (0, 0)) := by rw [hX]; exact blk_set b2 0 _
  have b0 : X1.heap[w.heap.size]? = some (.cells #[.slice a0 n0 c0, .int .i64 t, .slice a2 n2 c2, .slice a3 n3 c3, .slice a4 n4 c4, .int .i64 la, .int .i64 up] 29 (0, 0)) := by rw [hX]; exact blk_other b0 (by simp) _
  have b1 : X1.heap[w.heap.size + 1]? = some (.cells #[.slice none 0 0, .int .i64 0, .slice none 0 0, .slice none 0 0, .slice none 0 0, .int .i64 0, .int .i64 0] 29 (0, 0)) := by rw [hX]; exact blk_other b1 (by simp) _
  have zX0 : X1.heap.size = w1.heap.size := by rw [hX]; simp [World.setCell]
  have BX1 : Below W.heap.size W X1 := by rw [hX]; exact BW0.setCell (by show W.heap.size ≤ w.heap.size + 2; omega) _
  have hSX : Off (fun b => b = w.heap.size + 2) w1 X1 := by rw [hX]; exact Off.set (F := fun b => b = w.heap.size + 2) (a := ⟨w.heap.size + 2, 0, none⟩) rfl _
  have HO0 := Hid.mk (ownsRow_frame HO0.out (fun b hb2 hl => hSX.block b hl (fun e => by have h2 : b = w.heap.size + 2 := e; have := (HO0.out.lt b hb2).1; omega)))
  clear hb o0 hSX u0
  go_upto_region 3 with fail
  rw [← hX]
  clear hX q2 f2
  have u2 := blk_cell b0 2 (v := .slice a2 n2 c2) rfl
  go_wp2_with fail
  refine (cloneI_any a2 n2 c2 pd X1 H2.out hb2 hF2 (At.below HA2.out (BX1))).mono ?_
  rintro e w2 ⟨r2, d2, rfl, o2, hb⟩
  have b0 := blk_below b0 hb
  have b1 := blk_below b1 hb
  have b2 := blk_below b2 hb
  have zw1 := hb.size
  have BW1 := BX1.trans (hb.mono BX1.size)
  have HO2 := Hid.mk o2
  have HF2 := Hid.mk (fun b (hb2 : (Value.slice r2 n2 d2).ownBlock = some b) => o2.lt b hb2)
  have HO0 := Hid.mk (owns_below HO0.out hb)
  obtain ⟨X2, hX⟩ : ∃ u, u = w2.setCell ⟨w.heap.size + 2, 2, none⟩ (.slice r2 n2 d2) := ⟨_, rfl⟩
  have q2 := blk_cell b2 2 (v := .slice a2 n2 c2) rfl
  have f2 := blk_frozen b2 2
  have b2 : X2.heap[w.heap.size + 2]? = some (.cells #[.slice r0 n0 d0, .int .i64 t, .slice r2 n2 d2, .slice a3 n3 c3, .slice a4 n4 c4, .int .i64 la, .int .i64 up] 29 (0, 0)) := by rw [hX]; exact blk_set b2 2 _
  have b0 : X2.heap[w.heap.size]? = some (.cells #[.slice a0 n0 c0, .int .i64 t, .slice a2 n2 c2, .slice a3 n3 c3, .slice a4 n4 c4, .int .i64 la, .int .i64 up] 29 (0, 0)) := by rw [hX]; exact blk_other b0 (by simp) _
  have b1 : X2.heap[w.heap.size + 1]? = some (.cells #[.slice none 0 0, .int .i64 0, .slice none 0 0, .slice none 0 0, .slice none 0 0, .int .i64 0, .int .i64 0] 29 (0, 0)) := by rw [hX]; exact blk_other b1 (by simp) _
  have zX1 : X2.heap.size = w2.heap.size := by rw [hX]; simp [World.setCell]
  have BX2 : Below W.heap.size W X2 := by rw [hX]; exact BW1.setCell (by show W.heap.size ≤ w.heap.size + 2; omega) _
  have hSX : Off (fun b => b = w.heap.size + 2) w2 X2 := by rw [hX]; exact Off.set (F := fun b => b = w.heap.size + 2) (a := ⟨w.heap.size + 2, 2, none⟩) rfl _
  have HO0 := Hid.mk (ownsRow_frame HO0.out (fun b hb2 hl => hSX.block b hl (fun e => by have h2 : b = w.heap.size + 2 := e; have := (HO0.out.lt b hb2).1; omega)))
  have HO2 := Hid.mk (ownsRow_frame HO2.out (fun b hb2 hl => hSX.block b hl (fun e => by have h2 : b = w.heap.size + 2 := e; have := (HO2.out.lt b hb2).1; omega)))
  clear hb o2 hSX u2
  go_upto_region 4 with fail
  rw [← hX]
  clear hX q2 f2
  have u3 := blk_cell b0 3 (v := .slice a3 n3 c3) rfl
  go_wp2_with fail
  refine (cloneP_any a3 n3 c3 ps W X2 BX2 H3.out hb3 hF3 HA3.out).mono ?_
  rintro e w3 ⟨r3, d3, cs0, rfl, o3, hr3, hb⟩
  have b0 := blk_below b0 hb
  have b1 := blk_below b1 hb
  have b2 := blk_below b2 hb
  have zw2 := hb.size
  have BW2 := BX2.trans (hb.mono BX2.size)
  have HO3 := Hid.mk o3
  have HF3 := Hid.mk (fun b (hb2 : (Value.slice r3 n3 d3).ownBlock = some b) => o3.lt b hb2)
  have HO0 := Hid.mk (owns_below HO0.out hb)
  have HO2 := Hid.mk (owns_below HO2.out hb)
  obtain ⟨X3, hX⟩ : ∃ u, u = w3.setCell ⟨w.heap.size + 2, 3, none⟩ (.slice r3 n3 d3) := ⟨_, rfl⟩
  have q2 := blk_cell b2 3 (v := .slice a3 n3 c3) rfl
  have f2 := blk_frozen b2 3
  have b2 : X3.heap[w.heap.size + 2]? = some (.cells #[.slice r0 n0 d0, .int .i64 t, .slice r2 n2 d2, .slice r3 n3 d3, .slice a4 n4 c4, .int .i64 la, .int .i64 up] 29 (0, 0)) := by rw [hX]; exact blk_set b2 3 _
  have b0 : X3.heap[w.heap.size]? = some (.cells #[.slice a0 n0 c0, .int .i64 t, .slice a2 n2 c2, .slice a3 n3 c3, .slice a4 n4 c4, .int .i64 la, .int .i64 up] 29 (0, 0)) := by rw [hX]; exact blk_other b0 (by simp) _
  have b1 : X3.heap[w.heap.size + 1]? = some (.cells #[.slice none 0 0, .int .i64 0, .slice none 0 0, .slice none 0 0, .slice none 0 0, .int .i64 0, .int .i64 0] 29 (0, 0)) := by rw [hX]; exact blk_other b1 (by simp) _
  have zX2 : X3.heap.size = w3.heap.size := by rw [hX]; simp [World.setCell]
  have BX3 : Below W.heap.size W X3 := by rw [hX]; exact BW2.setCell (by show W.heap.size ≤ w.heap.size + 2; omega) _
  have hSX : Off (fun b => b = w.heap.size + 2) w3 X3 := by rw [hX]; exact Off.set (F := fun b => b = w.heap.size + 2) (a := ⟨w.heap.size + 2, 3, none⟩) rfl _
  have HO0 := Hid.mk (ownsRow_frame HO0.out (fun b hb2 hl => hSX.block b hl (fun e => by have h2 : b = w.heap.size + 2 := e; have := (HO0.out.lt b hb2).1; omega)))
  have HO2 := Hid.mk (ownsRow_frame HO2.out (fun b hb2 hl => hSX.block b hl (fun e => by have h2 : b = w.heap.size + 2 := e; have := (HO2.out.lt b hb2).1; omega)))
  have HO3 := Hid.mk (ownsRow_frame HO3.out (fun b hb2 hl => hSX.block b hl (fun e => by have h2 : b = w.heap.size + 2 := e; have := (HO3.out.lt b hb2).1; omega)))
  clear hb o3 hSX u3
  go_upto_region 5 with fail
  rw [← hX]
  clear hX q2 f2
  have u4 := blk_cell b0 4 (v := .slice a4 n4 c4) rfl
  go_wp2_with fail
  refine (cloneI_any a4 n4 c4 ou X3 H4.out hb4 hF4 (At.below HA4.out (BX3))).mono ?_
  rintro e w4 ⟨r4, d4, rfl, o4, hb⟩
  have b0 := blk_below b0 hb
  have b1 := blk_below b1 hb
  have b2 := blk_below b2 hb
  have zw3 := hb.size
  have BW3 := BX3.trans (hb.mono BX3.size)
  have HO4 := Hid.mk o4
  have HF4 := Hid.mk (fun b (hb2 : (Value.slice r4 n4 d4).ownBlock = some b) => o4.lt b hb2)
  have HO0 := Hid.mk (owns_below HO0.out hb)
  have HO2 := Hid.mk (owns_below HO2.out hb)
  have HO3 := Hid.mk (owns_below HO3.out hb)
  obtain ⟨X4, hX⟩ : ∃ u, u = w4.setCell ⟨w.heap.size + 2, 4, none⟩ (.slice r4 n4 d4) := ⟨_, rfl⟩
  have q2 := blk_cell b2 4 (v := .slice a4 n4 c4) rfl
  have f2 := blk_frozen b2 4
  have b2 : X4.heap[w.heap.size + 2]? = some (.cells #[.slice r0 n0 d0, .int .i64 t, .slice r2 n2 d2, .slice r3 n3 d3, .slice r4 n4 d4, .int .i64 la, .int .i64 up] 29 (0, 0)) := by rw [hX]; exact blk_set b2 4 _
  have b0 : X4.heap[w.heap.size]? = some (.cells #[.slice a0 n0 c0, .int .i64 t, .slice a2 n2 c2, .slice a3 n3 c3, .slice a4 n4 c4, .int .i64 la, .int .i64 up] 29 (0, 0)) := by rw [hX]; exact blk_other b0 (by simp) _
  have b1 : X4.heap[w.heap.size + 1]? = some (.cells #[.slice none 0 0, .int .i64 0, .slice none 0 0, .slice none 0 0, .slice none 0 0, .int .i64 0, .int .i64 0] 29 (0, 0)) := by rw [hX]; exact blk_other b1 (by simp) _
  have zX3 : X4.heap.size = w4.heap.size := by rw [hX]; simp [World.setCell]
  have BX4 : Below W.heap.size W X4 := by rw [hX]; exact BW3.setCell (by show W.heap.size ≤ w.heap.size + 2; omega) _
  have hSX : Off (fun b => b = w.heap.size + 2) w4 X4 := by rw [hX]; exact Off.set (F := fun b => b = w.heap.size + 2) (a := ⟨w.heap.size + 2, 4, none⟩) rfl _
  have HO0 := Hid.mk (ownsRow_frame HO0.out (fun b hb2 hl => hSX.block b hl (fun e => by have h2 : b = w.heap.size + 2 := e; have := (HO0.out.lt b hb2).1; omega)))
  have HO2 := Hid.mk (ownsRow_frame HO2.out (fun b hb2 hl => hSX.block b hl (fun e => by have h2 : b = w.heap.size + 2 := e; have := (HO2.out.lt b hb2).1; omega)))
  have HO3 := Hid.mk (ownsRow_frame HO3.out (fun b hb2 hl => hSX.block b hl (fun e => by have h2 : b = w.heap.size + 2 := e; have := (HO3.out.lt b hb2).1; omega)))
  have HO4 := Hid.mk (ownsRow_frame HO4.out (fun b hb2 hl => hSX.block b hl (fun e => by have h2 : b = w.heap.size + 2 := e; have := (HO4.out.lt b hb2).1; omega)))
  clear hb o4 hSX u4
  go_upto_region 6 with fail
  rw [← hX]
  clear hX q2 f2
  have u3 := blk_cell b0 3 (v := .slice a3 n3 c3) rfl
  have HR3 := Hid.mk hr3
  have HBX4 := Hid.mk BX4
  have HLD0 : Hid (Laid RPrepared X4 (fun b => (X2.heap.size ≤ b ∧ b < w3.heap.size) ∨ (X4.heap.size ≤ b ∧ b < X4.heap.size)) 64 r3 n3 d3 ps cs0 (fun _ _ => False) 0) := Hid.mk (Laid.start H3.out (by omega) (owns_mono HO3.out (Nat.zero_le _)) (fun b hb => .inl (HF3.out b hb)) _)
  clear hr3 BX1 BX2 BX3 BX4 BW0 BW1 BW2 BW3 BX0
  go_wp2_with fail
  clear u3
  go_loopw [26] (fun i wr => ∃ (k : Nat) (cells : List Value) (G : Nat → Nat → Prop), k ≤ n3 ∧ i = .int .i64 k ∧ wr.heap[w.heap.size + 1]? = some (.cells #[.slice none 0 0, .int .i64 0, .slice none 0 0, .slice none 0 0, .slice none 0 0, .int .i64 0, .int .i64 0] 29 (0, 0)) ∧ wr.heap[w.heap.size + 2]? = some (.cells #[.slice r0 n0 d0, .int .i64 t, .slice r2 n2 d2, .slice r3 n3 d3, .slice r4 n4 d4, .int .i64 la, .int .i64 up] 29 (0, 0)) ∧
    Laid RPrepared wr (fun b => (X2.heap.size ≤ b ∧ b < w3.heap.size) ∨ (X4.heap.size ≤ b ∧ b < wr.heap.size)) 64 r3 n3 d3 ps cells G k ∧ (∀ i x, k ≤ i → ps[i]? = some x → PCells W x (sub cells (i * 3) 3)) ∧ Off (fun b => (Value.slice r3 n3 d3).ownBlock = some b) X4 wr ∧ Below W.heap.size W wr) (fun i _ => n3 - (intOf i).toNat)
  case atStart => exact ⟨0, cs0, _, Nat.zero_le _, rfl, b1, b2, HLD0.out, fun i x _ hx => HR3.out i x hx, Off.refl _ _, HBX4.out⟩
  case round =>
    clear HLD0 HR3 HBX4 b0 b1 b2
    obtain ⟨k, cells, G, hk, rfl, j1, j2, hL, hR, hof, hbw⟩ := hrel
    obtain ⟨wY, rfl⟩ : ∃ x, x = wr := ⟨_, rfl⟩
    have zY := hof.size
    by_cases hlt : k < n3
    · obtain ⟨g, hg, hgl⟩ : ∃ g, r3 = some ⟨g, 0, none⟩ ∧ X2.heap.size ≤ g ∧ g < w3.heap.size := by
        rcases HO3.out.2 with ⟨hv, h0⟩ | ⟨g, cap, cur, hv, _⟩
        · omega
        · simp only [Value.slice.injEq, true_and] at hv
          exact ⟨g, hv.1, HF3.out g (by rw [hv.1]; rfl)⟩
      subst hg
      obtain ⟨b, off, rfl, _, hc⟩ := RPrepared.row HA3.out (by have := H3.out; omega)
      obtain ⟨x, hx⟩ : ∃ x, ps[k]? = some x := ⟨_, List.getElem?_eq_getElem (by have := H3.out; omega)⟩
      obtain ⟨e2, m2, f2, y0, y1, y2, ⟨q0, _, q1, q2⟩⟩ := hc k x hx
      have y0 := cell_later hbw y0
      have y1 := cell_later hbw y1
      have y2 := cell_later hbw y2
      have hm2 : m2 ≤ 1048576 := smallPrepared q0 (HSM.out k x hx)
      obtain ⟨xa, xc, hpc, _⟩ := hR k x (Nat.le_refl _) hx
      rw [q0] at hpc
      have HPC := Hid.mk hpc
      have hki : (k : Int) < (n3 : Int) := by omega
      obtain ⟨V, hV⟩ : ∃ V, V = wY.alloc (.cells #[.int .i64 x.1, .int .i64 x.2.1, .slice e2 m2 f2] 64) := ⟨_, rfl⟩
      have bV : Below wY.heap.size wY V := by rw [hV]; exact (Below.refl _ _).alloc (Nat.le_refl _) _
      have v0 : V.heap[wY.heap.size]? = some (.cells #[.int .i64 x.1, .int .i64 x.2.1, .slice e2 m2 f2] 64 (0, 0)) := by rw [hV]; exact heap_alloc_new wY _
      have zV : V.heap.size = wY.heap.size + 1 := by rw [hV]; simp
      have j1 := blk_below j1 bV
      have j2 := blk_below j2 bV
      have t1 := blk_cell j2 3 (v := .slice (some ⟨g, 0, none⟩) n3 d3) rfl
      have t2 := blk_cell v0 2 (v := .slice e2 m2 f2) rfl
      have BV := Hid.mk (hbw.trans (bV.mono hbw.size))
      have zBV := BV.out.size
      have KC := Hid.mk (fun (Z : World) (hZ : Below V.heap.size V Z) => cloneI_any e2 m2 f2 x.2.2 Z q0 hm2 q2 (At.below (At.below q1 BV.out) hZ))
      have HLD := Hid.mk (hL.below bV)
      have HOFV := Hid.mk (hof.trans (Off.below bV))
      have HQ0 := Hid.mk q0
      have HX := Hid.mk hx
      have HRR := Hid.mk hR
      clear hc hx hpc q0 q1 q2 hL hR hof bV v0 hbw
      go_upto_region 9 with fail
      rw [← hV]
      clear hV y0 y1 y2
      refine wp_region_held_drew (S := fun w' => w'.cell? ⟨w.heap.size + 2, 3, none⟩ = some (.slice (some ⟨g, 0, none⟩) n3 d3) ∧ w'.cell? ⟨wY.heap.size, 2, none⟩ = some (.slice e2 m2 f2)) (by kernel_rfl) ?_ (fun hHeld => ?_)
      · (try dsimp only)
        exact ⟨t1, t2⟩
      refine tk 0 ?_
      refine tk 1 ?_
      refine tk 2 ?_
      refine tk 3 ?_
      refine tk 4 ?_
      refine tr 5 (fun K hK => ?_)
      go_simp
      go_at_call 52
      refine (KC.out V.drew (Below.refl _ _).drew).mono ?_
      rintro e w5 ⟨r5, d5, rfl, o5, hb5⟩
      have h5 : Below V.heap.size V w5 := (Below.refl _ _).drew.trans hb5
      have t1 := cell_later h5 t1
      have t2 := cell_later h5 t2
      (try go_wp2_with fail)
      refine hK.out _ _ ?_ (fun hHeld' => ?_)
      · (try dsimp only)
        exact ⟨t1, t2⟩
      clear hK K hHeld
      have hHeld := hHeld'
      clear hHeld'
      (try simp only [Act.put, List.setIfInBounds_toArray, List.set_cons_zero, List.set_cons_succ])
      have HO5 : Hid (w5.ownsRow V.heap.size 3 1 (.slice r5 m2 d5) m2 (x.2.2.map (.int .i64))) := Hid.mk o5
      have HLD5 := Hid.mk (HLD.out.below h5)
      have j1 := blk_below j1 h5
      have j2 := blk_below j2 h5
      have z5 := h5.size
      have B5 := Hid.mk (BV.out.trans (h5.mono BV.out.size))
      have HOFF5 := Hid.mk ((HOFV.out).trans (Off.below h5))
      have HE := HLD5.out.outer.cellAt (k * 3 + 2) (show k * 3 + 2 < n3 * 3 by omega)
      have HFE := HLD5.out.outer.frozenAt (k * 3 + 2)
      rw [← sub_at (o := k * 3) (k := 3) (show 2 < 3 by omega), HPC.out] at HE
      have HE : w5.cell? ⟨g, k * 3 + 2, none⟩ = some (.slice xa m2 xc) := HE
      clear hb5 h5 o5
      refine tk 6 ?_
      refine tk 7 ?_
      refine wpAnyH_ready (rs := [8]) (by kernel_rfl) (by simp) ?_
      refine AllReadyH.cons (o := ?_) ?_ (fun K hK => ?_) AllReadyH.nil
      rotate_left
      · (simp only [List.getElem?_toArray, List.getElem?_cons_zero, List.getElem?_cons_succ]; rfl)
      go_simp
      skip
      (try go_wp2_with fail)
      refine hK.out _ _ ?_ (fun hHeld' => ?_)
      · (try dsimp only)
        exact ⟨(cell_apart _ (by omega)).trans t1, (cell_apart _ (by omega)).trans t2⟩
      clear hK K hHeld
      have hHeld := hHeld'
      clear hHeld'
      (try simp only [Act.put, List.setIfInBounds_toArray, List.set_cons_zero, List.set_cons_succ])
      refine wpAnyH_done (by kernel_rfl) ?_ _
      (try go_wp2_with fail)
      obtain ⟨w6, hw6⟩ : ∃ u, u = w5.setCell ⟨g, k * 3 + 2, none⟩ (.slice r5 m2 d5) := ⟨_, rfl⟩
      have z6 : w6.heap.size = w5.heap.size := by rw [hw6]; simp [World.setCell]
      have hS6 : Off (fun b => b = g) w5 w6 := by rw [hw6]; exact Off.set (F := fun b => b = g) (a := ⟨g, k * 3 + 2, none⟩) rfl _
      have j1' : w6.heap[w.heap.size + 1]? = some (.cells #[.slice none 0 0, .int .i64 0, .slice none 0 0, .slice none 0 0, .slice none 0 0, .int .i64 0, .int .i64 0] 29 (0, 0)) := by rw [hw6]; exact blk_other j1 (by show w.heap.size + 1 ≠ g; omega) _
      have j2' : w6.heap[w.heap.size + 2]? = some (.cells #[.slice r0 n0 d0, .int .i64 t, .slice r2 n2 d2, .slice (some ⟨g, 0, none⟩) n3 d3, .slice r4 n4 d4, .int .i64 la, .int .i64 up] 29 (0, 0)) := by rw [hw6]; exact blk_other j2 (by show w.heap.size + 2 ≠ g; omega) _
      have HLS : Hid (Laid RPrepared w6 (fun b => (X2.heap.size ≤ b ∧ b < w3.heap.size) ∨ (X4.heap.size ≤ b ∧ b < w6.heap.size)) 64 (some ⟨g, 0, none⟩) n3 d3 ps (sets cells (k * 3) [.int .i64 x.1, .int .i64 x.2.1, .slice r5 m2 d5]) (fun i => if i = k then From V.heap.size w5.heap.size else G i) (k + 1)) := Hid.mk (by
        have hls := laidP_store (k := k) (j := 2) (v := .slice r5 m2 d5) (vs := [.int .i64 x.1, .int .i64 x.2.1, .slice r5 m2 d5]) HLD5.out (Nat.le_refl _) hlt (by omega) (by rw [HPC.out]; rfl)
        rw [← hw6] at hls
        have hcl : cells.length = n3 * 3 := HLD5.out.outer.1
        have hsu : sub (sets cells (k * 3) [.int .i64 x.1, .int .i64 x.2.1, .slice r5 m2 d5]) (k * 3) 3 = [.int .i64 x.1, .int .i64 x.2.1, .slice r5 m2 d5] := sub_sets cells (k * 3) [.int .i64 x.1, .int .i64 x.2.1, .slice r5 m2 d5] (by simp only [List.length_cons, List.length_nil]; omega)
        have hrow : RInts.Own w6 (From V.heap.size w5.heap.size) [.slice r5 m2 d5] x.2.2 := RInts.own_iff.2 ⟨HQ0.out, by omega, ownsRow_frame (owns_mono HO5.out (Nat.zero_le _)) (fun b hb hl => hS6.block b hl (fun e => by have h2 : b = g := e; have := (HO5.out.lt b hb).1; omega)), fun b hb => HO5.out.lt b hb⟩
        have hls2 := hls.mono (F' := fun b => (X2.heap.size ≤ b ∧ b < w3.heap.size) ∨ (X4.heap.size ≤ b ∧ b < w6.heap.size)) (fun b h => h.imp id (fun h => ⟨h.1, by omega⟩))
        refine laid_close hls2 HX.out (by
          show RPrepared.Own w6 _ (sub _ (k * 3) 3) x
          rw [hsu]
          exact RPrepared.own_mk hrow (fun _ h => h)) (fun b h => ⟨.inr ⟨by have := h.1; omega, by have := h.2; omega⟩, fun e => ?_, fun i hi hg => ?_⟩)
        · have h2 : g = b := by simpa [Value.ownBlock] using e
          have := h.1; omega
        · have h3 := (HLD.out.rowF i b hi hg).1
          have := h.1
          rcases h3 with h3 | h3 <;> omega)
      have HRN : Hid (∀ i y, k + 1 ≤ i → ps[i]? = some y → PCells W y (sub (sets cells (k * 3) [.int .i64 x.1, .int .i64 x.2.1, .slice r5 m2 d5]) (i * 3) 3)) := Hid.mk (fun i y hi hy => by
        rw [sub_sets_far _ _ _ _ _ (by simp only [List.length_cons, List.length_nil]; exact mul_far (k := 3) (by omega))]
        exact HRR.out i y (by omega) hy)
      have HOF6 : Hid (Off (fun b => (Value.slice (some ⟨g, 0, none⟩) n3 d3).ownBlock = some b) X4 w6) := Hid.mk (HOFF5.out.trans (hS6.mono (fun b e => by rw [show b = g from e]; rfl)))
      have B6 : Hid (Below W.heap.size W w6) := Hid.mk (by rw [hw6]; exact B5.out.setCell (by show W.heap.size ≤ g; omega) _)
      (try rw [← hw6])
      clear hw6 hS6 HLD5 HLD HPC HX HRR HOFF5 HOFV HE HFE HO5 t1 t2 j1 j2
      go_wp2
      go_roundw
      case rel => exact ⟨k + 1, _, _, by omega, by go_num, j1', j2', HLS.out, HRN.out, HOF6.out, B6.out⟩
      case measure => simp [intOf]; omega
    · have hkn : n3 = k := by omega
      have hki : ¬ (k : Int) < (n3 : Int) := by omega
      rw [← hkn] at hL
      have HLL := Hid.mk hL
      clear hkn
      have BY := Hid.mk hbw
      have HO0 := Hid.mk (ownsRow_frame HO0.out (fun b hb hl => hof.block b hl (fun e => by have h1 := HF0.out b hb; have h2 := HF3.out b e; omega)))
      have HO2 := Hid.mk (ownsRow_frame HO2.out (fun b hb hl => hof.block b hl (fun e => by have h1 := HF2.out b hb; have h2 := HF3.out b e; omega)))
      have HO4 := Hid.mk (ownsRow_frame HO4.out (fun b hb hl => hof.block b hl (fun e => by have h1 := HF4.out b hb; have h2 := HF3.out b e; omega)))
      clear hL hR hof hbw
      have p0 := blk_cell j2 0 (v := .slice r0 n0 d0) rfl
      have p1 := blk_cell j2 1 (v := .int .i64 t) rfl
      have p2 := blk_cell j2 2 (v := .slice r2 n2 d2) rfl
      have p3 := blk_cell j2 3 (v := .slice r3 n3 d3) rfl
      have p4 := blk_cell j2 4 (v := .slice r4 n4 d4) rfl
      have p5 := blk_cell j2 5 (v := .int .i64 la) rfl
      have p6 := blk_cell j2 6 (v := .int .i64 up) rfl
      have y0 := blk_cell j1 0 (v := .slice none 0 0) rfl
      have y1 := blk_cell j1 1 (v := .int .i64 0) rfl
      have y2 := blk_cell j1 2 (v := .slice none 0 0) rfl
      have y3 := blk_cell j1 3 (v := .slice none 0 0) rfl
      have y4 := blk_cell j1 4 (v := .slice none 0 0) rfl
      have y5 := blk_cell j1 5 (v := .int .i64 0) rfl
      have y6 := blk_cell j1 6 (v := .int .i64 0) rfl
      have fz0 := blk_frozen j1 0
      have fz1 := blk_frozen j1 1
      have fz2 := blk_frozen j1 2
      have fz3 := blk_frozen j1 3
      have fz4 := blk_frozen j1 4
      have fz5 := blk_frozen j1 5
      have fz6 := blk_frozen j1 6
      obtain ⟨Y, hY⟩ : ∃ u, u = stores wY (w.heap.size + 1) 0 [.slice r0 n0 d0, .int .i64 t, .slice r2 n2 d2, .slice r3 n3 d3, .slice r4 n4 d4, .int .i64 la, .int .i64 up] := ⟨_, rfl⟩
      have S : Off (fun b => b = w.heap.size + 1) wY Y := by rw [hY]; exact stores_off (F := fun b => b = w.heap.size + 1) _ _ _ _ rfl
      have zY : Y.heap.size = wY.heap.size := by rw [hY]; exact stores_size _ _ _ _
      have D : Below w.heap.size w Y := by rw [hY]; exact stores_below _ _ _ _ (B0.trans (BY.out.mono B0.size)) (by omega)
      have R : Hid (CpRet (.returned (.agg #[.slice r0 n0 d0, .int .i64 t, .slice r2 n2 d2, .slice r3 n3 d3, .slice r4 n4 d4, .int .i64 la, .int .i64 up])) w Y (src, t, pd, ps, ou, la, up)) := Hid.mk (by
        have hs0 := RInts.ownOff (F := From X0.heap.size w1.heap.size) (RInts.own_iff.2 ⟨H0.out, by omega, owns_mono HO0.out (Nat.zero_le _), HF0.out⟩) S (fun b h e => by have h1 := h.1; have h2 : b = w.heap.size + 1 := e; omega)
        have hs2 := RInts.ownOff (F := From X1.heap.size w2.heap.size) (RInts.own_iff.2 ⟨H2.out, by omega, owns_mono HO2.out (Nat.zero_le _), HF2.out⟩) S (fun b h e => by have h1 := h.1; have h2 : b = w.heap.size + 1 := e; omega)
        have hs4 := RInts.ownOff (F := From X3.heap.size w4.heap.size) (RInts.own_iff.2 ⟨H4.out, by omega, owns_mono HO4.out (Nat.zero_le _), HF4.out⟩) S (fun b h e => by have h1 := h.1; have h2 : b = w.heap.size + 1 := e; omega)
        have hs3 : RPrepareds.Own Y (fun b => (X2.heap.size ≤ b ∧ b < w3.heap.size) ∨ (X4.heap.size ≤ b ∧ b < Y.heap.size)) [.slice r3 n3 d3] ps := ⟨r3, n3, d3, cells, G, rfl, (HLL.out.frame (fun b h hb => S.block b hb (fun e => by have h2 : b = w.heap.size + 1 := e; rcases h with h | h <;> omega))).mono (fun b h => h.imp id (fun h => ⟨h.1, by omega⟩))⟩
        exact ⟨r0, n0, d0, r2, n2, d2, r3, n3, d3, r4, n4, d4, rfl, RSink.own_mk hs0 hs2 hs3 hs4 (fun b h => ⟨by have := h.1; omega, by have := h.2; omega⟩) (fun b h => ⟨by have := h.1; omega, by have := h.2; omega⟩) (fun b h => ⟨by omega, by omega⟩) (fun b h => ⟨by have := h.1; omega, by have := h.2; omega⟩)
          (fun b h k => by have := h.2; have := k.1; omega) (fun b h k => by have := h.2; rcases k with k | k <;> omega) (fun b h k => by have := h.2; have := k.1; omega) (fun b h k => by have := h.2; rcases k with k | k <;> omega) (fun b h k => by have := h.2; have := k.1; omega) (fun b h k => by have h1 := k.1; have h2 := k.2; rcases h with h | h <;> omega), D⟩)
      clear D
      have HY := Hid.mk hY
      clear S hY zY HLL HO0 HO2 HO4 j1 j2
      go_wp2
      refine bodyPost_ret (v := .agg #[.slice r0 n0 d0, .int .i64 t, .slice r2 n2 d2, .slice r3 n3 d3, .slice r4 n4 d4, .int .i64 la, .int .i64 up]) (by simp [results, Try.results30, go_sem, y0, y1, y2, y3, y4, y5, y6]) rfl ?_
      have h := R.out
      rw [HY.out] at h
      exact h

end Go.Proofs.Ytmbjmmnodcebbaa
