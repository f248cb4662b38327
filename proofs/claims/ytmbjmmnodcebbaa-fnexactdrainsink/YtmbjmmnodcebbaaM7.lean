/- Several texts of one proof, in build order: AgI, PpT. -/
import Derived.Test.YtmbjmmnodcebbaaM6
import Derived.Test.YtmbjmmnodcebbaaM3
import Derived.Deep.CutBlock

/- Contract of the program's again, over whatever step. -/
namespace Go.Proofs.Ytmbjmmnodcebbaa
open Go.RowKit

/-- A step as often as it can be done, n times at most: what comes of it, and how often. -/
def itK (f : TSink → TSink × Bool) : Nat → TSink → TSink × Nat
  | 0, x => (x, 0)
  | n + 1, x => if (f x).2 then ((itK f n (f x).1).1, (itK f n (f x).1).2 + 1) else (x, 0)
theorem itK_no {f : TSink → TSink × Bool} {x : TSink} {n : Nat} (h : (f x).2 = false) : itK f n x = (x, 0) := by
  cases n with
  | zero => rfl
  | succ n => unfold itK; rw [h]; rfl
theorem itK_yes {f : TSink → TSink × Bool} {x : TSink} {n : Nat} (h : (f x).2 = true) : itK f (n + 1) x = ((itK f n (f x).1).1, (itK f n (f x).1).2 + 1) := by
  show (if (f x).2 then _ else _) = _
  rw [h]; rfl
/-- A sink and a number. -/
def ARet (e : Ending) (w w' : World) (F : Nat → Prop) (k : Int) (x : TSink) : Prop :=
  ∃ r0 m0 d0 r2 m2 d2 r3 m3 d3 r4 m4 d4, e = .returned (.tuple #[.agg #[.slice r0 m0 d0, .int .i64 x.2.1, .slice r2 m2 d2, .slice r3 m3 d3, .slice r4 m4 d4, .int .i64 x.2.2.2.2.2.1, .int .i64 x.2.2.2.2.2.2], .int .i64 k]) ∧
    RSink.Own w' (Gr F w w') [.slice r0 m0 d0, .int .i64 x.2.1, .slice r2 m2 d2, .slice r3 m3 d3, .slice r4 m4 d4, .int .i64 x.2.2.2.2.2.1, .int .i64 x.2.2.2.2.2.2] x ∧ Off F w w'
/-- What a step's function does with a sink that it is handed for good. -/
def StepK (g : Nat) (f : TSink → TSink × Bool) (P : TSink → Prop) : Prop := ∀ (F : Nat → Prop) (a0 : Option Addr) (n0 c0 : Nat) (a2 : Option Addr) (n2 c2 : Nat) (a3 : Option Addr) (n3 c3 : Nat) (a4 : Option Addr) (n4 c4 : Nat) (t la up : Int) (src pd : List Int) (ps : List TPrepared) (ou : List Int) (w : World),
  P (src, t, pd, ps, ou, la, up) → (∀ b, F b → b < w.heap.size) → RSink.Own w F [.slice a0 n0 c0, .int .i64 t, .slice a2 n2 c2, .slice a3 n3 c3, .slice a4 n4 c4, .int .i64 la, .int .i64 up] (src, t, pd, ps, ou, la, up) →
    Calls Try.prog g #[.agg #[.slice a0 n0 c0, .int .i64 t, .slice a2 n2 c2, .slice a3 n3 c3, .slice a4 n4 c4, .int .i64 la, .int .i64 up]] w fun e w' => KRet e w w' F (f (src, t, pd, ps, ou, la, up)).2 (f (src, t, pd, ps, ou, la, up)).1 ∧ ((f (src, t, pd, ps, ou, la, up)).2 = false → Below w.heap.size w w')

set_option maxRecDepth 100000 in
set_option maxHeartbeats 8000000 in
theorem again_any (g : Nat) (f : TSink → TSink × Bool) (P : TSink → Prop) (μ : TSink → Nat) (eg : ∀ args w, (callFunc g args).run Try.prog w = .ok (.enter g args) w) (hst : StepK g f P) (hP : ∀ x, P x → (f x).2 = true → P (f x).1 ∧ μ (f x).1 + 1 = μ x)
    (F : Nat → Prop) (a0 : Option Addr) (n0 c0 : Nat) (a2 : Option Addr) (n2 c2 : Nat) (a3 : Option Addr) (n3 c3 : Nat) (a4 : Option Addr) (n4 c4 : Nat) (t la up : Int) (src pd : List Int) (ps : List TPrepared) (ou : List Int) (w : World) (hp : P (src, t, pd, ps, ou, la, up)) (hM : μ (src, t, pd, ps, ou, la, up) ≤ 1000) (hF : ∀ b, F b → b < w.heap.size) (ho : RSink.Own w F [.slice a0 n0 c0, .int .i64 t, .slice a2 n2 c2, .slice a3 n3 c3, .slice a4 n4 c4, .int .i64 la, .int .i64 up] (src, t, pd, ps, ou, la, up)) :
    Calls Try.prog 39 #[.agg #[.slice a0 n0 c0, .int .i64 t, .slice a2 n2 c2, .slice a3 n3 c3, .slice a4 n4 c4, .int .i64 la, .int .i64 up], .func (.func g) #[] #[]] w fun e w' => ARet e w w' F ((itK f (μ (src, t, pd, ps, ou, la, up)) (src, t, pd, ps, ou, la, up)).2 : Nat) (itK f (μ (src, t, pd, ps, ou, la, up)) (src, t, pd, ps, ou, la, up)).1 := by
  obtain ⟨W, hW⟩ : ∃ W, W = (w.alloc (.cells #[.slice a0 n0 c0, .int .i64 t, .slice a2 n2 c2, .slice a3 n3 c3, .slice a4 n4 c4, .int .i64 la, .int .i64 up] 29)).alloc (.cells #[.slice none 0 0, .int .i64 0, .slice none 0 0, .slice none 0 0, .slice none 0 0, .int .i64 0, .int .i64 0] 29) := ⟨_, rfl⟩
  have B0 : Below w.heap.size w W := by rw [hW]; exact ((Below.refl _ _).alloc (Nat.le_refl _) _).alloc (by simp) _
  have b0 : W.heap[w.heap.size]? = some (.cells #[.slice a0 n0 c0, .int .i64 t, .slice a2 n2 c2, .slice a3 n3 c3, .slice a4 n4 c4, .int .i64 la, .int .i64 up] 29 (0, 0)) := by rw [hW]; exact blk_alloc (heap_alloc_new w _) _
  have b1 : W.heap[w.heap.size + 1]? = some (.cells #[.slice none 0 0, .int .i64 0, .slice none 0 0, .slice none 0 0, .slice none 0 0, .int .i64 0, .int .i64 0] 29 (0, 0)) := by
    rw [hW]
    have q := heap_alloc_new (w.alloc (.cells #[.slice a0 n0 c0, .int .i64 t, .slice a2 n2 c2, .slice a3 n3 c3, .slice a4 n4 c4, .int .i64 la, .int .i64 up] 29)) (.cells #[.slice none 0 0, .int .i64 0, .slice none 0 0, .slice none 0 0, .slice none 0 0, .int .i64 0, .int .i64 0] 29)
    simpa only [World.size_alloc] using q
  have zW : W.heap.size = w.heap.size + 2 := by rw [hW]; simp
  obtain ⟨M, hMM⟩ : ∃ M, μ (src, t, pd, ps, ou, la, up) = M := ⟨_, rfl⟩
  obtain ⟨XX, hXX⟩ : ∃ x, (itK f (μ (src, t, pd, ps, ou, la, up)) (src, t, pd, ps, ou, la, up)).1 = x := ⟨_, rfl⟩
  obtain ⟨XK, hXK⟩ : ∃ x, (itK f (μ (src, t, pd, ps, ou, la, up)) (src, t, pd, ps, ou, la, up)).2 = x := ⟨_, rfl⟩
  rw [hXX, hXK]
  have hM2 : M ≤ 1000 := by omega
  have HMM := Hid.mk hMM
  have HXX := Hid.mk hXX
  have HXK := Hid.mk hXK
  have HST := Hid.mk hst
  have HP := Hid.mk hP
  have HPX := Hid.mk hp
  have HOX := Hid.mk (RSink.ownBelow ho B0)
  clear hMM hXX hXK hM hst hP hp ho
  go_enter Try.func39, Try.ntmps39
  go_upto_region 1 with fail
  rw [← hW]
  clear hW
  go_wp2_with fail
  go_loopw [6] (fun i wr => ∃ (j : Nat) (ysrc : List Int) (yt : Int) (ypd : List Int) (yps : List TPrepared) (you : List Int) (yl yu : Int) (G : Nat → Prop) (b0 : Option Addr) (l0 k0 : Nat) (b2 : Option Addr) (l2 k2 : Nat) (b3 : Option Addr) (l3 k3 : Nat) (b4 : Option Addr) (l4 k4 : Nat),
    i = .int .i64 j ∧ wr.heap[w.heap.size]? = some (.cells #[.slice b0 l0 k0, .int .i64 yt, .slice b2 l2 k2, .slice b3 l3 k3, .slice b4 l4 k4, .int .i64 yl, .int .i64 yu] 29 (0, 0)) ∧ wr.heap[w.heap.size + 1]? = some (.cells #[.slice none 0 0, .int .i64 0, .slice none 0 0, .slice none 0 0, .slice none 0 0, .int .i64 0, .int .i64 0] 29 (0, 0)) ∧ RSink.Own wr G [.slice b0 l0 k0, .int .i64 yt, .slice b2 l2 k2, .slice b3 l3 k3, .slice b4 l4 k4, .int .i64 yl, .int .i64 yu] (ysrc, yt, ypd, yps, you, yl, yu) ∧ P (ysrc, yt, ypd, yps, you, yl, yu) ∧ (itK f (μ (ysrc, yt, ypd, yps, you, yl, yu)) (ysrc, yt, ypd, yps, you, yl, yu)).1 = XX ∧ j + (itK f (μ (ysrc, yt, ypd, yps, you, yl, yu)) (ysrc, yt, ypd, yps, you, yl, yu)).2 = XK ∧ j + μ (ysrc, yt, ypd, yps, you, yl, yu) = M ∧
    (∀ b, G b → F b ∨ (w.heap.size + 2 ≤ b ∧ b < wr.heap.size)) ∧ Off F w wr ∧ w.heap.size + 2 ≤ wr.heap.size) (fun i _ => 1001 - (intOf i).toNat)
  case atStart => exact ⟨0, src, t, pd, ps, ou, la, up, F, a0, n0, c0, a2, n2, c2, a3, n3, c3, a4, n4, c4, rfl, b0, b1, HOX.out, HPX.out, HXX.out, by rw [HXK.out]; omega, by rw [HMM.out]; omega, fun b h => .inl h, Off.below B0, by omega⟩
  case round =>
    obtain ⟨j, ysrc, yt, ypd, yps, you, yl, yu, G, b0, l0, k0, b2, l2, k2, b3, l3, k3, b4, l4, k4, rfl, e0, e1, hoy, hpy, hx, hk, hj, hgf, hof, hz⟩ := hrel
    obtain ⟨wY, rfl⟩ : ∃ x, x = wr := ⟨_, rfl⟩
    have hG : ∀ b, G b → b < wY.heap.size := fun b h => (hgf b h).elim (fun q => by have := hF b q; omega) (fun q => q.2)
    obtain ⟨⟨zsrc, zt, zpd, zps, zou, zl, zu⟩, hz1⟩ : ∃ z, (f (ysrc, yt, ypd, yps, you, yl, yu)).1 = z := ⟨_, rfl⟩
    obtain ⟨OK, hok⟩ : ∃ b, (f (ysrc, yt, ypd, yps, you, yl, yu)).2 = b := ⟨_, rfl⟩
    have KS := Hid.mk (HST.out G b0 l0 k0 b2 l2 k2 b3 l3 k3 b4 l4 k4 yt yl yu ysrc ypd yps you wY hpy hG hoy)
    rw [hz1, hok] at KS
    have hj1 : IntKind.i64.wrap ((j : Int) + 1) = ((j + 1 : Nat) : Int) := by rw [IntWalk.i64_in _ (by omega)]; omega
    have HPY := Hid.mk (HP.out _ hpy)
    rw [hz1, hok] at HPY
    have HX := Hid.mk hx
    have HK := Hid.mk hk
    have HJ := Hid.mk hj
    have HGF := Hid.mk hgf
    have HOF := Hid.mk hof
    have HOK := Hid.mk hok
    have HZ1 := Hid.mk hz1
    have HHG := Hid.mk hG
    have HOYY := Hid.mk hoy
    have p0 := blk_cell e0 0 (v := .slice b0 l0 k0) rfl
    have p1 := blk_cell e0 1 (v := .int .i64 yt) rfl
    have p2 := blk_cell e0 2 (v := .slice b2 l2 k2) rfl
    have p3 := blk_cell e0 3 (v := .slice b3 l3 k3) rfl
    have p4 := blk_cell e0 4 (v := .slice b4 l4 k4) rfl
    have p5 := blk_cell e0 5 (v := .int .i64 yl) rfl
    have p6 := blk_cell e0 6 (v := .int .i64 yu) rfl
    clear hx hk hj hgf hof hok hz1 hpy hG hoy
    go_wp2_with fail
    refine KS.out.mono ?_
    rintro e w1 ⟨⟨r0, m0, d0, r2, m2, d2, r3, m3, d3, r4, m4, d4, rfl, ho1, hO1⟩, hbel⟩
    have HBEL := Hid.mk hbel
    simp only at ho1
    have hnG : ∀ b, w.heap.size ≤ b → b < w.heap.size + 2 → ¬ G b := fun b h1 h2 h => (HGF.out b h).elim (fun q => by have := hF b q; omega) (fun q => by omega)
    have e0 := (hO1.block w.heap.size (by omega) (hnG _ (by omega) (by omega))).trans e0
    have e1 := (hO1.block (w.heap.size + 1) (by omega) (hnG _ (by omega) (by omega))).trans e1
    have z1 := hO1.size
    have HB1 := Hid.mk hO1
    have HO1 := Hid.mk ho1
    clear ho1 hO1 hnG hbel KS p0 p1 p2 p3 p4 p5 p6
    obtain ⟨X, hX⟩ : ∃ u, u = w1.alloc (.cells #[.slice r0 m0 d0, .int .i64 zt, .slice r2 m2 d2, .slice r3 m3 d3, .slice r4 m4 d4, .int .i64 zl, .int .i64 zu] 29) := ⟨_, rfl⟩
    have bX : Below w1.heap.size w1 X := by rw [hX]; exact (Below.refl _ _).alloc (Nat.le_refl _) _
    have x0 : X.heap[w1.heap.size]? = some (.cells #[.slice r0 m0 d0, .int .i64 zt, .slice r2 m2 d2, .slice r3 m3 d3, .slice r4 m4 d4, .int .i64 zl, .int .i64 zu] 29 (0, 0)) := by rw [hX]; exact heap_alloc_new w1 _
    have e0 := blk_below e0 bX
    have e1 := blk_below e1 bX
    have zX := bX.size
    have zX2 : w1.heap.size < X.heap.size := by rw [hX]; simp
    go_upto_region 4 with fail
    (try simp only)
    rw [← hX]
    clear hX
    cases OK with
    | false =>
      have HOY := Hid.mk (RSink.ownBelow HOYY.out (HBEL.out rfl))
      have HNO := HOK
      have p0 := blk_cell e0 0 (v := .slice b0 l0 k0) rfl
      have p1 := blk_cell e0 1 (v := .int .i64 yt) rfl
      have p2 := blk_cell e0 2 (v := .slice b2 l2 k2) rfl
      have p3 := blk_cell e0 3 (v := .slice b3 l3 k3) rfl
      have p4 := blk_cell e0 4 (v := .slice b4 l4 k4) rfl
      have p5 := blk_cell e0 5 (v := .int .i64 yl) rfl
      have p6 := blk_cell e0 6 (v := .int .i64 yu) rfl
      have y0 := blk_cell e1 0 (v := .slice none 0 0) rfl
      have y1 := blk_cell e1 1 (v := .int .i64 0) rfl
      have y2 := blk_cell e1 2 (v := .slice none 0 0) rfl
      have y3 := blk_cell e1 3 (v := .slice none 0 0) rfl
      have y4 := blk_cell e1 4 (v := .slice none 0 0) rfl
      have y5 := blk_cell e1 5 (v := .int .i64 0) rfl
      have y6 := blk_cell e1 6 (v := .int .i64 0) rfl
      have fz0 := blk_frozen e1 0
      have fz1 := blk_frozen e1 1
      have fz2 := blk_frozen e1 2
      have fz3 := blk_frozen e1 3
      have fz4 := blk_frozen e1 4
      have fz5 := blk_frozen e1 5
      have fz6 := blk_frozen e1 6
      obtain ⟨Y, hY⟩ : ∃ u, u = stores X (w.heap.size + 1) 0 [.slice b0 l0 k0, .int .i64 yt, .slice b2 l2 k2, .slice b3 l3 k3, .slice b4 l4 k4, .int .i64 yl, .int .i64 yu] := ⟨_, rfl⟩
      have S : Off (fun b => b = w.heap.size + 1) X Y := by rw [hY]; exact stores_off (F := fun b => b = w.heap.size + 1) _ _ _ _ rfl
      have zY : Y.heap.size = X.heap.size := by rw [hY]; exact stores_size _ _ _ _
      have D : Off F w Y := by rw [hY]; exact Off.cut ((HOF.out.mono (fun b h => .inl h)).trans ((HB1.out.mono (fun b h => (HGF.out b h).elim .inl (fun h => .inr (by omega)))).trans ((Off.below (F := fun b => F b ∨ w.heap.size ≤ b) bX).trans (stores_off (F := fun b => F b ∨ w.heap.size ≤ b) _ _ _ _ (.inr (by omega))))))
      have R : Hid (ARet (.returned (.tuple #[.agg #[.slice b0 l0 k0, .int .i64 yt, .slice b2 l2 k2, .slice b3 l3 k3, .slice b4 l4 k4, .int .i64 yl, .int .i64 yu], .int .i64 (j : Nat)])) w Y F (XK : Nat) XX) := Hid.mk (by
        have e1 : XX = (ysrc, yt, ypd, yps, you, yl, yu) := by rw [← HX.out, itK_no HNO.out]
        have e2 : (j : Nat) = XK := by have q := HK.out; rw [itK_no HNO.out] at q; simpa using q
        rw [e1, ← e2]
        exact ⟨b0, l0, k0, b2, l2, k2, b3, l3, k3, b4, l4, k4, rfl, RSink.mono (RSink.ownOff (RSink.ownBelow HOY.out bX) S (fun b h e => by have h2 : b = w.heap.size + 1 := e; rcases HGF.out b h with q | q; have := hF b q; omega; omega)) (fun b h => (HGF.out b h).elim .inl (fun q => .inr ⟨by omega, by omega⟩)), D⟩)
      clear D
      have HY := Hid.mk hY
      clear S hY zY HO1 HPY HBEL
      go_wp2
      refine bodyPost_ret (v := .tuple #[.agg #[.slice b0 l0 k0, .int .i64 yt, .slice b2 l2 k2, .slice b3 l3 k3, .slice b4 l4 k4, .int .i64 yl, .int .i64 yu], .int .i64 (j : Nat)]) (by simp [results, Try.results39, go_sem, y0, y1, y2, y3, y4, y5, y6]) rfl ?_
      have h := R.out
      rw [HY.out] at h
      exact h
    | true =>
      obtain ⟨hpz, hmz⟩ := HPY.out rfl
      have p0 := blk_cell x0 0 (v := .slice r0 m0 d0) rfl
      have p1 := blk_cell x0 1 (v := .int .i64 zt) rfl
      have p2 := blk_cell x0 2 (v := .slice r2 m2 d2) rfl
      have p3 := blk_cell x0 3 (v := .slice r3 m3 d3) rfl
      have p4 := blk_cell x0 4 (v := .slice r4 m4 d4) rfl
      have p5 := blk_cell x0 5 (v := .int .i64 zl) rfl
      have p6 := blk_cell x0 6 (v := .int .i64 zu) rfl
      have y0 := blk_cell e0 0 (v := .slice b0 l0 k0) rfl
      have y1 := blk_cell e0 1 (v := .int .i64 yt) rfl
      have y2 := blk_cell e0 2 (v := .slice b2 l2 k2) rfl
      have y3 := blk_cell e0 3 (v := .slice b3 l3 k3) rfl
      have y4 := blk_cell e0 4 (v := .slice b4 l4 k4) rfl
      have y5 := blk_cell e0 5 (v := .int .i64 yl) rfl
      have y6 := blk_cell e0 6 (v := .int .i64 yu) rfl
      have fz0 := blk_frozen e0 0
      have fz1 := blk_frozen e0 1
      have fz2 := blk_frozen e0 2
      have fz3 := blk_frozen e0 3
      have fz4 := blk_frozen e0 4
      have fz5 := blk_frozen e0 5
      have fz6 := blk_frozen e0 6
      obtain ⟨X2, hX2⟩ : ∃ u, u = (((((((X.setCell ⟨w.heap.size, 0, none⟩ (.slice r0 m0 d0)).setCell ⟨w.heap.size, 1, none⟩ (.int .i64 zt)).setCell ⟨w.heap.size, 2, none⟩ (.slice r2 m2 d2)).setCell ⟨w.heap.size, 3, none⟩ (.slice r3 m3 d3)).setCell ⟨w.heap.size, 4, none⟩ (.slice r4 m4 d4)).setCell ⟨w.heap.size, 5, none⟩ (.int .i64 zl)).setCell ⟨w.heap.size, 6, none⟩ (.int .i64 zu)) := ⟨_, rfl⟩
      have e0' : X2.heap[w.heap.size]? = some (.cells #[.slice r0 m0 d0, .int .i64 zt, .slice r2 m2 d2, .slice r3 m3 d3, .slice r4 m4 d4, .int .i64 zl, .int .i64 zu] 29 (0, 0)) := by rw [hX2]; exact (blk_set (blk_set (blk_set (blk_set (blk_set (blk_set (blk_set e0 0 _) 1 _) 2 _) 3 _) 4 _) 5 _) 6 _)
      have e1' : X2.heap[w.heap.size + 1]? = some (.cells #[.slice none 0 0, .int .i64 0, .slice none 0 0, .slice none 0 0, .slice none 0 0, .int .i64 0, .int .i64 0] 29 (0, 0)) := by rw [hX2]; exact (blk_other (blk_other (blk_other (blk_other (blk_other (blk_other (blk_other e1 (by simp) _) (by simp) _) (by simp) _) (by simp) _) (by simp) _) (by simp) _) (by simp) _)
      have hS2 : Off (fun b => b = w.heap.size) X X2 := by rw [hX2]; exact stores_off (F := fun b => b = w.heap.size) X w.heap.size 0 [.slice r0 m0 d0, .int .i64 zt, .slice r2 m2 d2, .slice r3 m3 d3, .slice r4 m4 d4, .int .i64 zl, .int .i64 zu] rfl
      have z2 : X2.heap.size = X.heap.size := by rw [hX2]; exact stores_size X w.heap.size 0 [.slice r0 m0 d0, .int .i64 zt, .slice r2 m2 d2, .slice r3 m3 d3, .slice r4 m4 d4, .int .i64 zl, .int .i64 zu]
      have HREL : Hid (∃ (ysrc : List Int) (yt : Int) (ypd : List Int) (yps : List TPrepared) (you : List Int) (yl yu : Int) (G : Nat → Prop) (b0 : Option Addr) (l0 k0 : Nat) (b2 : Option Addr) (l2 k2 : Nat) (b3 : Option Addr) (l3 k3 : Nat) (b4 : Option Addr) (l4 k4 : Nat),
        X2.heap[w.heap.size]? = some (.cells #[.slice b0 l0 k0, .int .i64 yt, .slice b2 l2 k2, .slice b3 l3 k3, .slice b4 l4 k4, .int .i64 yl, .int .i64 yu] 29 (0, 0)) ∧ X2.heap[w.heap.size + 1]? = some (.cells #[.slice none 0 0, .int .i64 0, .slice none 0 0, .slice none 0 0, .slice none 0 0, .int .i64 0, .int .i64 0] 29 (0, 0)) ∧ RSink.Own X2 G [.slice b0 l0 k0, .int .i64 yt, .slice b2 l2 k2, .slice b3 l3 k3, .slice b4 l4 k4, .int .i64 yl, .int .i64 yu] (ysrc, yt, ypd, yps, you, yl, yu) ∧ P (ysrc, yt, ypd, yps, you, yl, yu) ∧ (itK f (μ (ysrc, yt, ypd, yps, you, yl, yu)) (ysrc, yt, ypd, yps, you, yl, yu)).1 = XX ∧ (j + 1) + (itK f (μ (ysrc, yt, ypd, yps, you, yl, yu)) (ysrc, yt, ypd, yps, you, yl, yu)).2 = XK ∧ (j + 1) + μ (ysrc, yt, ypd, yps, you, yl, yu) = M ∧
        (∀ b, G b → F b ∨ (w.heap.size + 2 ≤ b ∧ b < X2.heap.size)) ∧ Off F w X2 ∧ w.heap.size + 2 ≤ X2.heap.size) := Hid.mk (by
        have hx := HX.out
        have hk := HK.out
        have hj := HJ.out
        rw [← hmz, itK_yes HOK.out, HZ1.out] at hx hk
        rw [← hmz] at hj
        refine ⟨zsrc, zt, zpd, zps, zou, zl, zu, Gr G wY w1, r0, m0, d0, r2, m2, d2, r3, m3, d3, r4, m4, d4, e0', e1', ?_, hpz, hx, by rw [← hk]; simp only; omega, by omega, ?_, ?_, by omega⟩
        · exact RSink.ownOff (RSink.ownBelow HO1.out bX) hS2 (fun b h e => by
            have h2 : b = w.heap.size := e
            rcases h with h | h
            · exact (HGF.out b h).elim (fun q => by have := hF b q; omega) (fun q => by omega)
            · have := h.1; omega)
        · intro b h
          rcases h with h | h
          · exact (HGF.out b h).imp id (fun q => ⟨q.1, by omega⟩)
          · exact .inr ⟨by have := h.1; omega, by have := h.2; omega⟩
        · exact Off.cut ((((HOF.out.mono (fun b h => .inl h)).trans (HB1.out.mono (fun b h => (HGF.out b h).elim .inl (fun h => .inr (by omega))))).trans (Off.below (F := fun b => F b ∨ w.heap.size ≤ b) bX)).trans (hS2.mono (fun b e => .inr (by have h2 : b = w.heap.size := e; omega)))))
      have HJJ : Hid (j + 1 ≤ 1000) := Hid.mk (by have := HJ.out; omega)
      clear hpz hmz e0' e1' hS2 z2 HOK HZ1 HX HK HPY HBEL HOYY
      go_upto_region 2 with fail
      rw [← hX2]
      clear hX2
      go_wp2
      go_roundw
      case rel =>
        obtain ⟨ysrc, yt, ypd, yps, you, yl, yu, G, b0, l0, k0, b2, l2, k2, b3, l3, k3, b4, l4, k4, q1, q2, q3, q4, q5, q6, q7, q8, q9, q10⟩ := HREL.out
        exact ⟨j + 1, ysrc, yt, ypd, yps, you, yl, yu, G, b0, l0, k0, b2, l2, k2, b3, l3, k3, b4, l4, k4, by go_num, q1, q2, q3, q4, q5, q6, q7, q8, q9, q10⟩
      case measure => have := HJJ.out; simp [intOf]; omega

end Go.Proofs.Ytmbjmmnodcebbaa

/- Contracts of the laws' to of Prepared. -/
namespace Go.Proofs.Ytmbjmmnodcebbaa
open Go.RowKit

set_option maxRecDepth 100000 in
set_option maxHeartbeats 8000000 in
theorem toPrepared_rep (a2 : Option Addr) (n2 : Nat) (c2 : Nat) (zi0 : Int) (zi1 : Int) (x2 : List Int) (w : World) (hz2 : x2.length = n2) (hs2 : n2 ≤ 1048576) (ha2 : At w a2 x2) :
    Calls Try.prog 47 #[.agg #[.int .i64 zi0, .int .i64 zi1, .slice a2 n2 c2]] w fun e w' => ∃ g2, e = .returned (.agg #[.int .i64 zi0, .int .i64 zi1, .slice (some ⟨g2, 0, none⟩) n2 n2]) ∧ RPrepared.Own w' (From w.heap.size w'.heap.size) [.int .i64 zi0, .int .i64 zi1, .slice (some ⟨g2, 0, none⟩) n2 n2] (zi0, zi1, x2) ∧ Below w.heap.size w w' := by
  obtain ⟨W, hW⟩ : ∃ W, W = (((w.alloc (.cells #[.int .i64 zi0, .int .i64 zi1, .slice a2 n2 c2] 62)).alloc (.cells #[.int .i64 0, .int .i64 0, .slice none 0 0] 64)).alloc (.cells #[.int .i64 zi0, .int .i64 zi1, .slice none 0 0] 64)) := ⟨_, rfl⟩
  have B0 : Below w.heap.size w W := by rw [hW]; exact ((((Below.refl _ _).alloc (Nat.le_refl _) _).alloc (by simp) _).alloc (by simp; omega) _)
  have zW : w.heap.size + 2 < W.heap.size := by rw [hW]; simp
  have b2 : W.heap[w.heap.size + 1 + 1]? = some (.cells #[.int .i64 zi0, .int .i64 zi1, .slice none 0 0] 64 (0, 0)) := by
    rw [hW]
    have q := heap_alloc_new ((w.alloc (.cells #[.int .i64 zi0, .int .i64 zi1, .slice a2 n2 c2] 62)).alloc (.cells #[.int .i64 0, .int .i64 0, .slice none 0 0] 64)) (.cells #[.int .i64 zi0, .int .i64 zi1, .slice none 0 0] 64)
    simpa only [World.size_alloc] using q
  have b1 : W.heap[w.heap.size + 1]? = some (.cells #[.int .i64 0, .int .i64 0, .slice none 0 0] 64 (0, 0)) := by
    rw [hW]
    refine blk_alloc ?_ _
    have q := heap_alloc_new (w.alloc (.cells #[.int .i64 zi0, .int .i64 zi1, .slice a2 n2 c2] 62)) (.cells #[.int .i64 0, .int .i64 0, .slice none 0 0] 64)
    simpa only [World.size_alloc] using q
  have b0 : W.heap[w.heap.size]? = some (.cells #[.int .i64 zi0, .int .i64 zi1, .slice a2 n2 c2] 62 (0, 0)) := by
    rw [hW]
    exact blk_alloc (blk_alloc (heap_alloc_new w _) _) _
  have HA2 := Hid.mk ha2
  have HZ2 := Hid.mk hz2
  clear ha2 hz2
  go_enter Try.func47, Try.ntmps47
  go_wp2_with fail
  rw [← hW]
  clear hW
  refine (toInts_rep a2 n2 c2 x2 W HZ2.out hs2 (At.below HA2.out B0)).mono ?_
  rintro e w2 ⟨g2, rfl, o2, hb2⟩
  have k2 := blk_below b2 hb2
  have k1 := blk_below b1 hb2
  have k0 := blk_below b0 hb2
  clear b2 b1 b0
  have z2 := hb2.size
  have E2 : Below w.heap.size w w2 := B0.trans (hb2.mono (by omega))
  have q := blk_cell k2 2 (v := .slice none 0 0) rfl
  have f := blk_frozen k2 2
  have r : True := trivial
  obtain ⟨X2, hX2⟩ : ∃ u, u = w2.setCell ⟨w.heap.size + 1 + 1, 2, none⟩ (.slice (some ⟨g2, 0, none⟩) n2 n2) := ⟨_, rfl⟩
  have y2 : w2.heap.size ≤ X2.heap.size := by rw [hX2]; simp [World.setCell]
  have b2 : X2.heap[w.heap.size + 1 + 1]? = some (.cells #[.int .i64 zi0, .int .i64 zi1, .slice (some ⟨g2, 0, none⟩) n2 n2] 64 (0, 0)) := by rw [hX2]; exact blk_set k2 2 _
  have b1 : X2.heap[w.heap.size + 1]? = some (.cells #[.int .i64 0, .int .i64 0, .slice none 0 0] 64 (0, 0)) := by rw [hX2]; exact blk_other k1 (by simp) _
  have b0 : X2.heap[w.heap.size]? = some (.cells #[.int .i64 zi0, .int .i64 zi1, .slice a2 n2 c2] 62 (0, 0)) := by rw [hX2]; exact blk_other k0 (by simp; omega) _
  have C2 : Below w.heap.size w X2 := by rw [hX2]; exact E2.setCell (by simp; omega) _
  have S2 : Hid (Off (From w.heap.size (w.heap.size + 3)) w2 X2) := by rw [hX2]; exact Off.set ⟨by simp; omega, by simp⟩ _
  have O2_2 := Hid.mk (RInts.ownOff o2 S2.out (fun b h k => by have := h.1; have := k.2; omega))
  clear o2 hb2
  clear S2 k2 k1 k0
  go_upto_region 5 with fail
  rw [← hX2]
  clear hX2 q f r
  have u0 := blk_cell b2 0 (v := .int .i64 zi0) rfl
  have p0 := blk_cell b1 0 (v := .int .i64 0) rfl
  have f0 := blk_frozen b1 0
  have u1 := blk_cell b2 1 (v := .int .i64 zi1) rfl
  have p1 := blk_cell b1 1 (v := .int .i64 0) rfl
  have f1 := blk_frozen b1 1
  have u2 := blk_cell b2 2 (v := .slice (some ⟨g2, 0, none⟩) n2 n2) rfl
  have p2 := blk_cell b1 2 (v := .slice none 0 0) rfl
  have f2 := blk_frozen b1 2
  obtain ⟨Y, hY⟩ : ∃ u, u = stores X2 (w.heap.size + 1) 0 [.int .i64 zi0, .int .i64 zi1, .slice (some ⟨g2, 0, none⟩) n2 n2] := ⟨_, rfl⟩
  have D : Below w.heap.size w Y := by rw [hY]; exact stores_below _ _ _ _ C2 (by omega)
  have S : Off (From w.heap.size (w.heap.size + 3)) X2 Y := by rw [hY]; exact stores_off _ _ _ _ ⟨by omega, by omega⟩
  have zY : Y.heap.size = X2.heap.size := by rw [hY]; exact stores_size _ _ _ _
  have R : Hid (RPrepared.Own Y (From w.heap.size Y.heap.size) [.int .i64 zi0, .int .i64 zi1, .slice (some ⟨g2, 0, none⟩) n2 n2] (zi0, zi1, x2)) :=
    RPrepared.own_mk (RInts.ownOff O2_2.out S (fun b h k => by have := h.1; have := k.2; omega)) (fun b h => ⟨by have := h.1; omega, by have := h.2; omega⟩) 
  have HY := Hid.mk hY
  have HD := Hid.mk D
  clear S D hY zY b1 b2 b0 C2 O2_2
  go_wp2
  refine bodyPost_ret (v := .agg #[.int .i64 zi0, .int .i64 zi1, .slice (some ⟨g2, 0, none⟩) n2 n2]) (by simp [results, Try.results47, go_sem, p0, p1, p2]) rfl ⟨g2, rfl, ?_, ?_⟩
  · have h := R.out
    rw [HY.out] at h
    exact h
  · have h := HD.out
    rw [HY.out] at h
    exact h

theorem Try.infoPrepared : (Try.prog.info? 64).map (fun i => (i.zero, i.size, i.bytes)) = some (some (.agg #[.int .i64 0, .int .i64 0, .slice none 0 0]), 3, 40) := by kernel_rfl

set_option maxRecDepth 100000 in
set_option maxHeartbeats 8000000 in
theorem toPreparedS_rep (a : Option Addr) (n c : Nat) (xs : List TPrepared) (w : World) (hz : xs.length = n) (hn : n ≤ 1048576) (hs : ∀ (i : Nat) (x : TPrepared), xs[i]? = some x → costPrepared x ≤ 1048576) (ha : AtSl RPrepared w a xs) :
    Calls Try.prog 28 #[.slice a n c] w fun e w' => ∃ g, e = .returned (.slice (some ⟨g, 0, none⟩) n n) ∧ RPrepareds.Own w' (From w.heap.size w'.heap.size) [.slice (some ⟨g, 0, none⟩) n n] xs ∧ Below w.heap.size w w' := by
  obtain ⟨i0, hi, hz0, hz1, hz2⟩ := info_parts Try.infoPrepared
  go_enter Try.func28, Try.ntmps28
  go_wp2_with (at_make; refine wpList_make_full _ rfl _ _ 27 rfl w.heap.size 64 i0 (.agg #[.int .i64 0, .int .i64 0, .slice none 0 0]) 3 Try.underlying27 hi hz0 hz1 .i64 .i64 _ _ n rfl rfl rfl rfl (by rw [hz2]; omega) (by unfold maxLen; omega) (Nat.le_refl _) ?_; intro w1 hown hg)
  have hb1 : Below w.heap.size w w1 := (Below.refl _ _).grown hg (Nat.le_refl _) (by simp)
  have hlt1 := (hown.lt w.heap.size rfl).2
  obtain ⟨cs, hcs⟩ : ∃ cs, cs = (madeCells (Value.agg #[.int .i64 0, .int .i64 0, .slice none 0 0]).cells (n * 3)).toList := ⟨_, rfl⟩
  rw [← hcs] at hown
  have hst : Laid RPrepared w1 (From w.heap.size w1.heap.size) 64 (some ⟨w.heap.size, 0, none⟩) n n xs cs (fun _ _ => False) 0 := Laid.start hz (by omega) (owns_mono hown (Nat.zero_le _)) (fun b hb => hown.lt b hb) _
  clear hcs hown hg
  go_loopw [4] (fun i wr => ∃ (k : Nat) (cells : List Value) (G : Nat → Nat → Prop), k ≤ n ∧ i = .int .i64 k ∧ Laid RPrepared wr (From w.heap.size wr.heap.size) 64 (some ⟨w.heap.size, 0, none⟩) n n xs cells G k ∧ w.heap.size < wr.heap.size ∧ Below w.heap.size w wr) (fun i _ => n - (intOf i).toNat)
  case atStart => exact ⟨0, cs, _, Nat.zero_le _, rfl, hst, hlt1, hb1⟩
  case round =>
    clear hst hb1 hlt1 cs
    obtain ⟨k, cells, G, hk, rfl, ho, hzr, hbw⟩ := hrel
    by_cases hlt : k < n
    · obtain ⟨b, off, rfl, _, hc⟩ := RPrepared.row (AtSl.below ha hbw) (by omega)
      obtain ⟨⟨zi0, zi1, x2⟩, hx⟩ : ∃ x, xs[k]? = some x := ⟨_, List.getElem?_eq_getElem (by omega)⟩
      obtain ⟨a2, n2, c2, e0, e1, e2, ⟨hv2, hu2, hw2, _⟩⟩ := hc k _ hx
      have hsm := smallPrepared hv2 (hs k _ hx)
      have hki : (k : Int) < (n : Int) := by omega
      have HO := Hid.mk ho
      have HX := Hid.mk hx
      have HC := Hid.mk (toPrepared_rep a2 n2 c2 zi0 zi1 x2 wr hv2 hsm hw2)
      clear hc ha ho hx hs hsm hv2 hw2
      go_wp2_with fail
      refine HC.out.mono ?_
      rintro e w2 ⟨g2, rfl, ho2, hb2⟩
      have hput := HO.out.put hlt (fun b hb => hb.2) hb2 HX.out ho2 (fun b hb => hb.1)
      have z2 := hb2.size
      have hput2 := hput.mono (F' := From w.heap.size w2.heap.size) (fun b hb => by rcases hb with hb | hb; exact ⟨hb.1, by have := hb.2; omega⟩; exact ⟨by have := hb.1; omega, hb.2⟩)
      have HP : Hid (Laid RPrepared (((w2.setCell ⟨w.heap.size, k * 3, none⟩ (.int .i64 zi0)).setCell ⟨w.heap.size, k * 3 + 1, none⟩ (.int .i64 zi1)).setCell ⟨w.heap.size, k * 3 + 2, none⟩ (.slice (some ⟨g2, 0, none⟩) n2 n2)) (From w.heap.size w2.heap.size) 64 (some ⟨w.heap.size, 0, none⟩) n n xs _ _ (k + 1)) := hput2
      have hout := (HO.out.below hb2).outer
      have hln := hout.1
      have hln : cells.length = n * 3 := hln
      obtain ⟨v0, hv0⟩ : ∃ u, cells[k * 3]? = some u := ⟨_, List.getElem?_eq_getElem (by omega)⟩
      have q0 : w2.cell? ⟨w.heap.size, k * 3, none⟩ = some v0 := (hout.cellAt _ (show k * 3 < n * 3 by omega)).trans hv0
      have f0 : w2.frozen? ⟨w.heap.size, k * 3, none⟩ = false := hout.frozenAt _
      clear hv0
      obtain ⟨v1, hv1⟩ : ∃ u, cells[k * 3 + 1]? = some u := ⟨_, List.getElem?_eq_getElem (by omega)⟩
      have q1 : w2.cell? ⟨w.heap.size, k * 3 + 1, none⟩ = some v1 := (hout.cellAt _ (show k * 3 + 1 < n * 3 by omega)).trans hv1
      have f1 : w2.frozen? ⟨w.heap.size, k * 3 + 1, none⟩ = false := hout.frozenAt _
      clear hv1
      obtain ⟨v2, hv2⟩ : ∃ u, cells[k * 3 + 2]? = some u := ⟨_, List.getElem?_eq_getElem (by omega)⟩
      have q2 : w2.cell? ⟨w.heap.size, k * 3 + 2, none⟩ = some v2 := (hout.cellAt _ (show k * 3 + 2 < n * 3 by omega)).trans hv2
      have f2 : w2.frozen? ⟨w.heap.size, k * 3 + 2, none⟩ = false := hout.frozenAt _
      clear hv2
      have HB : Hid (Below w.heap.size w (((w2.setCell ⟨w.heap.size, k * 3, none⟩ (.int .i64 zi0)).setCell ⟨w.heap.size, k * 3 + 1, none⟩ (.int .i64 zi1)).setCell ⟨w.heap.size, k * 3 + 2, none⟩ (.slice (some ⟨g2, 0, none⟩) n2 n2))) := ((((hbw.trans (hb2.mono hbw.size)).setCell (Nat.le_refl _) _).setCell (Nat.le_refl _) _).setCell (Nat.le_refl _) _)
      clear hput hput2 hout hln hb2 hbw ho2 HC e0 e1 e2
      go_wp2
      go_roundw
      case rel => exact ⟨k + 1, _, _, by omega, by go_num, by simpa only [World.setCell, Array.size_modify] using HP.out, by simp [World.setCell]; omega, HB.out⟩
      case measure => simp [intOf]; omega
    · obtain rfl : k = n := by omega
      go_wp2
      go_ret
      exact ⟨_, rfl, ⟨_, _, _, _, _, rfl, ho⟩, hbw⟩

end Go.Proofs.Ytmbjmmnodcebbaa
