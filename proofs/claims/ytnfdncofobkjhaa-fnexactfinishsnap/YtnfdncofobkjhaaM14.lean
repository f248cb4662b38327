/- Several texts of one proof, in build order: SvQ, L1In. -/
import Derived.Test.YtnfdncofobkjhaaM11
import Derived.Test.YtnfdncofobkjhaaM13
import Derived.Test.YtnfdncofobkjhaaM5
import Derived.Test.YtnfdncofobkjhaaM0
import Derived.Test.YtnfdncofobkjhaaRows

/- The words of a wire grow; contract of the model's l15Save. -/
namespace Go.Proofs.Ytnfdncofobkjhaa
open Go.RowKit

/-- A wire's words grow by one. -/
theorem SV.pushWords {lo : Nat → Prop} {g0 n0 c0 g1 n1 c1 k : Nat} {ps : List TProc} {ws : List TWire} {cells0 cells1 : List Value} {G : Nat → Nat → Prop} {w W : World} {x : TWire} (h : SV w lo g0 n0 c0 g1 n1 c1 ps ws cells0 cells1 G) {a0 a1 : Option Addr} {d0 d1 : Nat} {F0 F1 : Nat → Prop} (hk : k < n1)
    (hs : sub cells1 (k * 3) 3 = [.slice a0 x.1.length d0, .slice a1 x.2.1.length d1, .bool x.2.2]) (r0 : RInts.Own w F0 [.slice a0 x.1.length d0] x.1) (r1 : RInts.Own w F1 [.slice a1 x.2.1.length d1] x.2.1) (f0 : ∀ b, F0 b → G k b) (f1 : ∀ b, F1 b → G k b) (d01 : ∀ b, F0 b → ¬ F1 b)
    (v : Int) {r : Option Addr} {d : Nat} (hm : x.1.length < 1048576) (hg : w.grownBy W (Value.slice a0 x.1.length d0).ownBlock) (hsz : w.heap.size ≤ W.heap.size) (ho : W.ownsRow 0 3 1 (.slice r (x.1.length + 1) d) (x.1.length + 1) ((x.1 ++ [v]).map (Value.int .i64)))
    (hr : (Value.slice r (x.1.length + 1) d).ownBlock = (Value.slice a0 x.1.length d0).ownBlock ∨ (Value.slice r (x.1.length + 1) d).ownBlock = some w.heap.size) :
    ∃ cells1' G', SV (W.setCell ⟨g1, k * 3 + 0, none⟩ (.slice r (x.1.length + 1) d)) lo g0 n0 c0 g1 n1 c1 ps (ws.set k (x.1 ++ [v], x.2.1, x.2.2)) cells0 cells1' G' := by
  have hlt : ∀ b, G k b → b < w.heap.size := fun b hb => (h.wi.rowF k b hk hb).1.2
  have ob1 := (RInts.own_iff.1 r0).2.2.2
  have hW : ∀ b, b < w.heap.size → ¬ G k b → W.heap[b]? = w.heap[b]? := fun b hb hn => hg.block b hb (fun e => hn (f0 b (ob1 b e.symm)))
  have hW0 : ∀ b, F1 b → W.heap[b]? = w.heap[b]? := fun b hb => hg.block b (hlt b (f1 b hb)) (fun e => d01 b (ob1 b e.symm) hb)
  have hob : ∀ b, (Value.slice r (x.1.length + 1) d).ownBlock = some b → F0 b ∨ b = w.heap.size := fun b hb => by
    rcases hr with q | q
    · exact .inl (ob1 b (by rw [← q]; exact hb))
    · rw [q] at hb; exact .inr (Option.some.inj hb).symm
  have l1 := h.l1
  have hne : ∀ b, F0 b ∨ b = w.heap.size → b ≠ g1 := fun b hb => by
    rcases hb with q | q
    · exact h.notG1 hk (f0 b q)
    · omega
  have O0 : RInts.Own (W.setCell ⟨g1, k * 3 + 0, none⟩ (.slice r (x.1.length + 1) d)) F1 [.slice a1 x.2.1.length d1] x.2.1 :=
    RInts.frame r1 (fun b hb _ => (Below.heap_setCell _ _ _ _ (h.notG1 hk (f1 b hb))).trans (hW0 b hb))
  have O1 : RInts.Own (W.setCell ⟨g1, k * 3 + 0, none⟩ (.slice r (x.1.length + 1) d)) (fun b => (F0 b ∨ b = w.heap.size) ∧ b < W.heap.size) [.slice r (x.1.length + 1) d] (x.1 ++ [v]) :=
    RInts.own_iff.2 ⟨by simp, by omega, ownsRow_frame ho (fun b hb _ => Below.heap_setCell _ _ _ _ (hne b (hob b hb))), fun b hb => ⟨hob b hb, (ho.lt b hb).2⟩⟩
  refine ⟨_, _, h.newWire (W := W) (j := 0) (vs := [.slice r (x.1.length + 1) d, .slice a1 x.2.1.length d1, .bool x.2.2]) (H := fun b => (F0 b ∨ b = w.heap.size) ∧ b < W.heap.size ∨ F1 b) hk (by omega) hsz hW (by rw [hs]; rfl)
    (RWire.own_mk (x0 := x.1 ++ [v]) (x1 := x.2.1) O1 O0 (fun _ q => .inl q) (fun _ q => .inr q) (fun b q q' => by
      rcases q.1 with q2 | q2
      · exact d01 b q2 q'
      · have := hlt b (f1 b q'); omega)) (fun b hb => ?_)⟩
  rcases hb with ⟨q | q, q2⟩ | q
  · exact ⟨.inl (f0 b q), q2⟩
  · exact ⟨.inr (by omega), q2⟩
  · exact ⟨.inl (f1 b q), by have := hlt b (f1 b q); omega⟩

theorem frozen_grown {w w' : World} {row : Option Nat} {e : TypeId} {k g n c : Nat} {cells : List Value} (h : w.ownsRow 0 e k (.slice (some ⟨g, 0, none⟩) n c) n cells) (hg : w.grownBy w' row) (hn : row = some g → False) (o : Nat) : w'.frozen? ⟨g, o, none⟩ = false :=
  (ownsRow_frame h (fun b hb hl => hg.block b hl (fun e => by
    have h2 : b = g := by simp [Value.ownBlock] at hb; exact hb.symm
    subst h2
    exact hn e.symm))).frozenAt o
theorem SV.shunX {w w' : World} {lo X : Nat → Prop} {g0 n0 c0 g1 n1 c1 : Nat} {ps : List TProc} {ws : List TWire} {cells0 cells1 : List Value} {G : Nat → Nat → Prop} (h : SV w lo g0 n0 c0 g1 n1 c1 ps ws cells0 cells1 G) (hX : ∀ b, X b → w.heap.size ≤ b ∧ b < w'.heap.size) (hb : Below w.heap.size w w') : SV w' (fun b => lo b ∧ ¬ X b) g0 n0 c0 g1 n1 c1 ps ws cells0 cells1 G :=
  ⟨(h.pr.below hb).mono (fun b k => ⟨⟨k.1, fun hx => by have := k.2; have := hX b hx; omega⟩, Nat.lt_of_lt_of_le k.2 hb.size⟩), (h.wi.below hb).mono (fun b k => ⟨⟨k.1, fun hx => by have := k.2; have := hX b hx; omega⟩, Nat.lt_of_lt_of_le k.2 hb.size⟩), h.ne, h.ap, fun b k => ⟨h.up b (by have := hb.size; omega), fun hx => by have := hX b hx; omega⟩⟩
/-- One other process while `who` saves, one wire staying shut: the model's way. -/
def svMS (n who : Nat) (sh : Int) (k : Nat) (ws : List TWire) : Bool × List TWire :=
  if k = who then (true, ws)
  else if (wirAt ws (who * n + k)).1.length < 12 then
    (true, (ws.set (k * n + who) ((wirAt ws (k * n + who)).1, (wirAt ws (k * n + who)).2.1, ((k : Int) != sh))).set (who * n + k) ((wirAt ws (who * n + k)).1 ++ [0], (wirAt ws (who * n + k)).2.1, (wirAt ws (who * n + k)).2.2))
  else (false, ws)
def svM (n who : Nat) (sh : Int) : Nat → Nat → List TWire → Bool × List TWire
  | 0, _, ws => (true, ws)
  | m + 1, k, ws => if (svMS n who sh k ws).1 then svM n who sh m (k + 1) (svMS n who sh k ws).2 else (false, ws)

set_option maxRecDepth 100000 in
set_option maxHeartbeats 20000000 in
theorem l15Save_any (lo : Nat → Prop) (g0 n0 c0 g1 n1 c1 who : Nat) (sh : Int) (ps : List TProc) (ws : List TWire) (cells0 cells1 : List Value) (G : Nat → Nat → Prop) (w : World) (p : TProc) (hn : n0 ≤ 4) (h1 : n1 = n0 * n0) (hwho : who < n0) (hp : ps[who]? = some p) (hf : Few ws)
    (h : SV w lo g0 n0 c0 g1 n1 c1 ps ws cells0 cells1 G) :
    Calls Try.prog 55 #[.agg #[.slice (some ⟨g0, 0, none⟩) n0 c0, .slice (some ⟨g1, 0, none⟩) n1 c1], .int .i64 who, .int .i64 sh] w fun e w' => e = .returned (.tuple #[.agg #[.slice (some ⟨g0, 0, none⟩) n0 c0, .slice (some ⟨g1, 0, none⟩) n1 c1], .bool (svM n0 who sh n0 0 ws).1]) ∧ Off lo w w' ∧
      ((svM n0 who sh n0 0 ws).1 = true → ∃ cells0 cells1 G, SV w' lo g0 n0 c0 g1 n1 c1 (ps.set who (p.1, p.1, true)) (svM n0 who sh n0 0 ws).2 cells0 cells1 G) := by
  obtain ⟨i0, hi0, hx0, hx1, hx2⟩ := info_parts Try.infoInt
  obtain ⟨W, hW⟩ : ∃ W, W = (w.alloc (.cells #[.slice (some ⟨g0, 0, none⟩) n0 c0, .slice (some ⟨g1, 0, none⟩) n1 c1] 32)).alloc (.cells #[.slice none 0 0, .slice none 0 0] 32) := ⟨_, rfl⟩
  have hb : Below w.heap.size w W := by rw [hW]; exact ((Below.refl _ _).alloc (Nat.le_refl _) _).alloc (by simp) _
  have zW : W.heap.size = w.heap.size + 2 := by rw [hW]; simp
  have bb : W.heap[w.heap.size]? = some (.cells #[.slice (some ⟨g0, 0, none⟩) n0 c0, .slice (some ⟨g1, 0, none⟩) n1 c1] 32 (0, 0)) := by rw [hW]; exact blk_alloc (heap_alloc_new w _) _
  have br : W.heap[w.heap.size + 1]? = some (.cells #[.slice none 0 0, .slice none 0 0] 32 (0, 0)) := by
    rw [hW]
    have q := heap_alloc_new (w.alloc (.cells #[.slice (some ⟨g0, 0, none⟩) n0 c0, .slice (some ⟨g1, 0, none⟩) n1 c1] 32)) (.cells #[.slice none 0 0, .slice none 0 0] 32)
    simpa only [World.size_alloc] using q
  have HUP := Hid.mk h.up
  obtain ⟨lo', hlo'⟩ : ∃ l : Nat → Prop, l = fun b => lo b ∧ ¬ (b = w.heap.size ∨ b = w.heap.size + 1) := ⟨_, rfl⟩
  have HLE : Hid (∀ b, lo' b → lo b) := Hid.mk (fun b hb => by rw [hlo'] at hb; exact hb.1)
  have HNN : Hid (∀ b, b = w.heap.size ∨ b = w.heap.size + 1 → ¬ lo' b) := Hid.mk (fun b hb h2 => by rw [hlo'] at h2; exact h2.2 hb)
  have hW0 : SV W lo' g0 n0 c0 g1 n1 c1 ps ws cells0 cells1 G := by
    rw [hlo']
    exact h.shunX (X := fun b => b = w.heap.size ∨ b = w.heap.size + 1) (fun b hb => by rcases hb with hb | hb <;> omega) hb
  have l0 : lo' g0 ∧ g0 < w.heap.size := ⟨hW0.l0.1, h.l0.2⟩
  have l1 : lo' g1 ∧ g1 < w.heap.size := ⟨hW0.l1.1, h.l1.2⟩
  have q0 := blk_cell bb 0 (v := .slice (some ⟨g0, 0, none⟩) n0 c0) rfl
  have q1 := blk_cell bb 1 (v := .slice (some ⟨g1, 0, none⟩) n1 c1) rfl
  obtain ⟨z0, z1, zb⟩ := p
  obtain ⟨_, _, r0, r1, r2⟩ := hW0.proc hp
  have fz1 := hW0.frozen0 (who * 3 + 1)
  have hwi : (who : Int) < (n0 : Int) := by omega
  have HF := Hid.mk hf
  have HP := Hid.mk hp
  have HS0 := Hid.mk hW0
  have HB := Hid.mk (show Off lo' w W from Off.below hb)
  have HN1 := Hid.mk h1
  have hpl : who < ps.length := (List.getElem?_eq_some_iff.1 hp).1
  have HZW := Hid.mk zW
  clear hf hp h hW0 hb h1 hlo' zW
  go_enter Try.func55, Try.ntmps55
  go_upto_region 1 with fail
  rw [← hW]
  clear hW
  go_upto_region 2 with fail
  refine wp_region_held_drew (S := fun w' => w'.cell? ⟨w.heap.size, 0, none⟩ = some (.slice (some ⟨g0, 0, none⟩) n0 c0) ∧ w'.cell? ⟨g0, who * 3, none⟩ = some (.int .i64 z0)) (by kernel_rfl) ?_ (fun hHeld => ?_)
  · (try dsimp only)
    exact ⟨q0, r0⟩
  refine tk 0 ?_
  refine tk 1 ?_
  refine tk 2 ?_
  refine tk 3 ?_
  refine tk 4 ?_
  refine tk 5 ?_
  refine tk 6 ?_
  refine tk 7 ?_
  refine tk 8 ?_
  refine tk 9 ?_
  refine tk 10 ?_
  have r1 : W.drew.cell? ⟨g0, who * 3 + 1, none⟩ = some (.int .i64 z1) := r1
  have fz1 : W.drew.frozen? ⟨g0, who * 3 + 1, none⟩ = false := fz1
  refine wpAnyH_ready (rs := [11]) (by kernel_rfl) (by simp) ?_
  refine AllReadyH.cons (o := ?_) ?_ (fun K hK => ?_) AllReadyH.nil
  rotate_left
  · (simp only [List.getElem?_toArray, List.getElem?_cons_zero, List.getElem?_cons_succ]; rfl)
  go_simp
  skip
  (try go_wp2_with fail)
  refine hK.out _ _ ?_ (fun hHeld' => ?_)
  · (try dsimp only)
    exact ⟨(cell_far _ (by omega)).trans q0, (cell_near (by omega) _).trans r0⟩
  clear hK K hHeld
  have hHeld := hHeld'
  clear hHeld'
  (try simp only [Act.put, List.setIfInBounds_toArray, List.set_cons_zero, List.set_cons_succ])
  refine wpAnyH_done (by kernel_rfl) ?_ _
  obtain ⟨w1, hw1⟩ : ∃ u, u = (W.setCell ⟨g0, who * 3 + 1, none⟩ (.int .i64 z0)).drew := ⟨_, rfl⟩
  have HS1 := Hid.mk ((HS0.out.setProc (j := 1) (x' := (z0, z0, zb)) (v := .int .i64 z0) HP.out (by omega) rfl).below (Below.refl _ _).drew)
  have HB1 : Hid (Off lo' w w1) := Hid.mk (by rw [hw1]; exact (HB.out.setCellO l0.1 _).drew)
  have bb1 : w1.heap[w.heap.size]? = some (.cells #[.slice (some ⟨g0, 0, none⟩) n0 c0, .slice (some ⟨g1, 0, none⟩) n1 c1] 32 (0, 0)) := by rw [hw1]; exact blk_other bb (by show w.heap.size ≠ g0; omega) _
  have br1 : w1.heap[w.heap.size + 1]? = some (.cells #[.slice none 0 0, .slice none 0 0] 32 (0, 0)) := by rw [hw1]; exact blk_other br (by show w.heap.size + 1 ≠ g0; omega) _
  rw [← hw1] at HS1 ⊢
  have hp1 : (ps.set who (z0, z0, zb))[who]? = some (z0, z0, zb) := List.getElem?_set_self hpl
  obtain ⟨_, _, r0, r1, r2⟩ := HS1.out.proc hp1
  have fz2 := HS1.out.frozen0 (who * 3 + 2)
  have q0 := blk_cell bb1 0 (v := .slice (some ⟨g0, 0, none⟩) n0 c0) rfl
  have q1 := blk_cell bb1 1 (v := .slice (some ⟨g1, 0, none⟩) n1 c1) rfl
  clear HB HS0 bb br hw1 hHeld fz1
  go_upto_region 4 with fail
  obtain ⟨w2, hw2⟩ : ∃ u, u = w1.setCell ⟨g0, who * 3 + 2, none⟩ (.bool true) := ⟨_, rfl⟩
  have HS2 := Hid.mk (HS1.out.setProc (j := 2) (x' := (z0, z0, true)) (v := .bool true) hp1 (by omega) rfl)
  have HB2 : Hid (Off lo' w w2) := Hid.mk (by rw [hw2]; exact HB1.out.setCellO l0.1 _)
  have bb2 : w2.heap[w.heap.size]? = some (.cells #[.slice (some ⟨g0, 0, none⟩) n0 c0, .slice (some ⟨g1, 0, none⟩) n1 c1] 32 (0, 0)) := by rw [hw2]; exact blk_other bb1 (by show w.heap.size ≠ g0; omega) _
  have br2 : w2.heap[w.heap.size + 1]? = some (.cells #[.slice none 0 0, .slice none 0 0] 32 (0, 0)) := by rw [hw2]; exact blk_other br1 (by show w.heap.size + 1 ≠ g0; omega) _
  rw [← hw2] at HS2 ⊢
  rw [List.set_set] at HS2
  obtain ⟨cells0, hc0⟩ : ∃ c, c = sets (sets cells0 (who * 3) [.int .i64 z0, .int .i64 z0, .bool zb]) (who * 3) [.int .i64 z0, .int .i64 z0, .bool true] := ⟨_, rfl⟩
  obtain ⟨qs, hqs⟩ : ∃ q, q = ps.set who (z0, z0, true) := ⟨_, rfl⟩
  have HQ := Hid.mk hqs
  have HS2 : Hid (SV w2 lo' g0 n0 c0 g1 n1 c1 qs ws cells0 cells1 G) := Hid.mk (by rw [hc0, hqs]; exact HS2.out)
  clear HB1 HS1 bb1 br1 hw2 hp1 r0 r1 r2 fz2 q0 q1 hc0 hqs
  have q0 := blk_cell bb2 0 (v := .slice (some ⟨g0, 0, none⟩) n0 c0) rfl
  have q1 := blk_cell bb2 1 (v := .slice (some ⟨g1, 0, none⟩) n1 c1) rfl
  go_wp2_with fail
  go_loopw [9] (fun i wr => ∃ (k : Nat) (wk : List TWire) (cells1 : List Value) (G : Nat → Nat → Prop), k ≤ n0 ∧ i = .int .i64 k ∧ svM n0 who sh n0 0 ws = svM n0 who sh (n0 - k) k wk ∧ Few wk ∧ SV wr lo' g0 n0 c0 g1 n1 c1 qs wk cells0 cells1 G ∧ Off lo' w wr ∧
    wr.heap[w.heap.size]? = some (.cells #[.slice (some ⟨g0, 0, none⟩) n0 c0, .slice (some ⟨g1, 0, none⟩) n1 c1] 32 (0, 0)) ∧ wr.heap[w.heap.size + 1]? = some (.cells #[.slice none 0 0, .slice none 0 0] 32 (0, 0))) (fun i _ => n0 - (intOf i).toNat)
  case atStart => exact ⟨0, ws, cells1, G, Nat.zero_le _, rfl, rfl, HF.out, HS2.out, HB2.out, bb2, br2⟩
  case round =>
    clear HS2 HB2 bb2 br2 q0 q1
    obtain ⟨k, wk, cells1, G, hk, rfl, hsv, hfw, hS, hbw, bb, br⟩ := hrel
    obtain ⟨wY, rfl⟩ : ∃ x, x = wr := ⟨_, rfl⟩
    have q0 := blk_cell bb 0 (v := .slice (some ⟨g0, 0, none⟩) n0 c0) rfl
    have q1 := blk_cell bb 1 (v := .slice (some ⟨g1, 0, none⟩) n1 c1) rfl
    by_cases hlt : k < n0
    · have hki : (k : Int) < (n0 : Int) := by omega
      have hwk : IntKind.i64.wrap ((k : Int) + 1) = ((k + 1 : Nat) : Int) := by rw [IntWalk.i64_in _ (by omega)]; omega
      have hm : n0 - k = (n0 - (k + 1)) + 1 := by omega
      rw [hm] at hsv
      by_cases e : k = who
      · subst e
        have hss : svM n0 k sh (n0 - (k + 1) + 1) k wk = svM n0 k sh (n0 - (k + 1)) (k + 1) wk := by simp [svM, svMS]
        rw [hss] at hsv
        have HSV := Hid.mk hsv
        have HSS := Hid.mk hS
        have HFW := Hid.mk hfw
        have HBW := Hid.mk hbw
        have HBB := Hid.mk bb
        have HRR := Hid.mk br
        clear hsv hS hfw hss hm hbw bb br
        go_wp2
        go_roundw
        case rel => exact ⟨k + 1, wk, cells1, G, by omega, by go_num, HSV.out, HFW.out, HSS.out, HBW.out, HBB.out, HRR.out⟩
        case measure => simp [intOf]; omega
      · have e' : ((k : Int) == (who : Int)) = false := by simp; omega
        have hn1k : k * n0 + who < n1 := by rw [HN1.out]; exact idx_lt hlt hwho
        have hn1w : who * n0 + k < n1 := by rw [HN1.out]; exact idx_lt hwho hlt
        have hkk := idx_ne hlt hwho e
        have hN16 : n1 ≤ 16 := by rw [HN1.out]; exact Nat.mul_le_mul hn hn
        obtain ⟨x, hx⟩ := hS.few hn1k
        obtain ⟨y, hy⟩ := hS.few hn1w
        obtain ⟨KN, hKN⟩ : ∃ A, k * n0 = A := ⟨_, rfl⟩
        obtain ⟨WN, hWN⟩ : ∃ A, who * n0 = A := ⟨_, rfl⟩
        have v1 : IntKind.i64.wrap ((k : Int) * (n0 : Int)) = (KN : Int) := by rw [← Int.natCast_mul, hKN]; exact IntWalk.i64_in _ (by omega)
        have v2 : IntKind.i64.wrap ((who : Int) * (n0 : Int)) = (WN : Int) := by rw [← Int.natCast_mul, hWN]; exact IntWalk.i64_in _ (by omega)
        obtain ⟨A, hA⟩ : ∃ A, KN + who = A := ⟨_, rfl⟩
        obtain ⟨B, hB⟩ : ∃ B, WN + k = B := ⟨_, rfl⟩
        have v3 : IntKind.i64.wrap ((KN : Int) + (who : Int)) = (A : Int) := (IntWalk.i64_in _ (by omega)).trans (by omega)
        have v4 : IntKind.i64.wrap ((WN : Int) + (k : Int)) = (B : Int) := (IntWalk.i64_in _ (by omega)).trans (by omega)
        obtain ⟨bo, hbo⟩ : ∃ b, ((k : Int) != sh) = b := ⟨_, rfl⟩
        have hss : svM n0 who sh (n0 - (k + 1) + 1) k wk = if y.1.length < 12 then svM n0 who sh (n0 - (k + 1)) (k + 1) ((wk.set A (x.1, x.2.1, bo)).set B (y.1 ++ [0], y.2.1, y.2.2)) else (false, wk) := by
          rw [hKN, hA] at hx
          rw [hWN, hB] at hy
          by_cases q : y.1.length < 12
          · simp [svM, svMS, e, hKN, hWN, hA, hB, wirAt_of hx, wirAt_of hy, q, hbo]
          · simp [svM, svMS, e, hWN, hB, wirAt_of hy, q]
        rw [hss] at hsv
        rw [hKN, hA] at hn1k hkk hx
        rw [hWN, hB] at hn1w hkk hy
        have hAi : (A : Int) < (n1 : Int) := by omega
        have hBi : (B : Int) < (n1 : Int) := by omega
        have HSV := Hid.mk hsv
        have HSS := Hid.mk hS
        have HFW := Hid.mk hfw
        have HX := Hid.mk hx
        have HY := Hid.mk hy
        have HBW := Hid.mk hbw
        clear hsv hS hfw hss hm hx hy hA hB hbw hKN hWN
        obtain ⟨_, _, _, _, _, _, _, _, _, _, y2, _⟩ := HSS.out.wire (x0 := x.1) (x1 := x.2.1) (b := x.2.2) HX.out
        have fz := HSS.out.frozen1 (A * 3 + 2)
        go_upto_region 9 with fail
        obtain ⟨cells1, G, hS4⟩ := HSS.out.setOpen HX.out bo
        obtain ⟨w4, hw4⟩ : ∃ u, u = wY.setCell ⟨g1, A * 3 + 2, none⟩ (.bool bo) := ⟨_, rfl⟩
        have bb4 : w4.heap[w.heap.size]? = some (.cells #[.slice (some ⟨g0, 0, none⟩) n0 c0, .slice (some ⟨g1, 0, none⟩) n1 c1] 32 (0, 0)) := by rw [hw4]; exact blk_other bb (by show w.heap.size ≠ g1; omega) _
        have br4 : w4.heap[w.heap.size + 1]? = some (.cells #[.slice none 0 0, .slice none 0 0] 32 (0, 0)) := by rw [hw4]; exact blk_other br (by show w.heap.size + 1 ≠ g1; omega) _
        have HB4 : Hid (Off lo' w w4) := Hid.mk (by rw [hw4]; exact HBW.out.setCellO l1.1 _)
        rw [← hw4] at hS4 ⊢
        have HS4 := Hid.mk hS4
        clear hS4 hw4 HSS HBW bb br y2 fz q0 q1
        have q0 := blk_cell bb4 0 (v := .slice (some ⟨g0, 0, none⟩) n0 c0) rfl
        have q1 := blk_cell bb4 1 (v := .slice (some ⟨g1, 0, none⟩) n1 c1) rfl
        have hy4 : (wk.set A (x.1, x.2.1, bo))[B]? = some y := by rw [List.getElem?_set_ne hkk]; exact HY.out
        obtain ⟨e0, f0, e1, f1, F0, F1, _, _, y0, _, _, o0, _⟩ := HS4.out.wire (x0 := y.1) (x1 := y.2.1) (b := y.2.2) hy4
        have HY4 := Hid.mk hy4
        have HOW := Hid.mk (RInts.own_iff.1 o0).2.2.1
        have hle12 := HFW.out B y HY.out
        clear hy4 o0
        by_cases h12 : y.1.length = 12
        · have hE : ((y.1.length : Int) == 12) = true := beq_iff_eq.2 (by omega)
          have hsvE : svM n0 who sh n0 0 ws = (false, wk) := by rw [HSV.out, if_neg (by omega)]
          have HE := Hid.mk hsvE
          have HBX := HB4
          have bb := bb4
          have br := br4
          clear hsvE HSV HFW HX HY HS4 HY4 HOW bb4 br4 q0 q1 h12 hle12
          have p0 := blk_cell bb 0 (v := .slice (some ⟨g0, 0, none⟩) n0 c0) rfl
          have p1 := blk_cell bb 1 (v := .slice (some ⟨g1, 0, none⟩) n1 c1) rfl
          have y0 := blk_cell br 0 (v := .slice none 0 0) rfl
          have y1 := blk_cell br 1 (v := .slice none 0 0) rfl
          have fz0 := blk_frozen br 0
          have fz1 := blk_frozen br 1
          obtain ⟨Y, hY⟩ : ∃ u, u = (w4.setCell ⟨w.heap.size + 1, 0, none⟩ (.slice (some ⟨g0, 0, none⟩) n0 c0)).setCell ⟨w.heap.size + 1, 1, none⟩ (.slice (some ⟨g1, 0, none⟩) n1 c1) := ⟨_, rfl⟩
          have S : Off (fun b => b = w.heap.size + 1) w4 Y := by rw [hY]; exact (Off.set (F := fun b => b = w.heap.size + 1) (a := ⟨w.heap.size + 1, 0, none⟩) rfl _).trans (Off.set (F := fun b => b = w.heap.size + 1) (a := ⟨w.heap.size + 1, 1, none⟩) rfl _)
          have RR : Hid (Off lo w Y ∧ (false = true → ∃ cells0 cells1 G, SV Y lo g0 n0 c0 g1 n1 c1 (ps.set who (z0, z0, true)) wk cells0 cells1 G)) := Hid.mk
            ⟨(HBX.out.mono HLE.out).trans (S.mono (fun b h => by have h2 : b = w.heap.size + 1 := h; exact HUP.out b (by omega))), fun h => by cases h⟩
          have HY := Hid.mk hY
          clear S hY
          go_wp2
          refine bodyPost_ret (v := .tuple #[.agg #[.slice (some ⟨g0, 0, none⟩) n0 c0, .slice (some ⟨g1, 0, none⟩) n1 c1], .bool false]) (by simp [results, Try.results55, go_sem, y0, y1]) rfl ?_
          have h := RR.out
          rw [HY.out] at h
          rw [HE.out]
          first | exact ⟨rfl, h.1, h.2⟩ | exact ⟨rfl, h.1, fun _ => h.2 trivial⟩
        · have hE : ((y.1.length : Int) == 12) = false := beq_eq_false_iff_ne.2 (by omega)
          have hl12 : y.1.length < 12 := by omega
          have hl : (y.1 ++ [(0 : Int)]).length = y.1.length + 1 := by simp
          have HSV2 : Hid (svM n0 who sh n0 0 ws = svM n0 who sh (n0 - (k + 1)) (k + 1) ((wk.set A (x.1, x.2.1, bo)).set B (y.1 ++ [0], y.2.1, y.2.2))) := Hid.mk (by rw [HSV.out, if_pos hl12])
          have HF6 : Hid (Few ((wk.set A (x.1, x.2.1, bo)).set B (y.1 ++ [0], y.2.1, y.2.2))) := Hid.mk (Few.set (x := (y.1 ++ [0], y.2.1, y.2.2)) (Few.set (x := (x.1, x.2.1, bo)) HFW.out A (HFW.out A x HX.out)) B (by show (y.1 ++ [(0 : Int)]).length ≤ 12; rw [hl]; omega))
          have HNB := Hid.mk (HNN.out w.heap.size (.inl rfl))
          have s1 := q1
          have zlb : w.heap.size < w4.heap.size := blk_lt bb4
          have zlb2 : w.heap.size + 1 < w4.heap.size := blk_lt br4
          clear HSV HFW q0 h12
          go_upto_region 11 with fail
          refine wp_region_held_drew (S := fun w' => w'.cell? ⟨w.heap.size, 1, none⟩ = some (.slice (some ⟨g1, 0, none⟩) n1 c1)) (by kernel_rfl) ?_ (fun hHeld => ?_)
          · (try dsimp only)
            exact s1
          refine tk 0 ?_
          refine tk 1 ?_
          refine tk 2 ?_
          refine tk 3 ?_
          refine tk 4 ?_
          refine tk 5 ?_
          refine tk 6 ?_
          refine tk 7 ?_
          refine tk 8 ?_
          refine tk 9 ?_
          refine tk 10 ?_
          refine tk 11 ?_
          refine tk 12 ?_
          refine tk 13 ?_
          refine tk 14 ?_
          refine tk 15 ?_
          obtain ⟨u0, hu0⟩ : ∃ u, u = w4.drew := ⟨_, rfl⟩
          have Y0 : Below w4.heap.size w4 u0 := by rw [hu0]; exact (Below.refl _ _).drew
          rw [← hu0]
          clear hu0
          have y0c := cell_later Y0 y0
          refine wpAnyH_ready (rs := [16, 17]) (by kernel_rfl) (by simp) ?_
          refine AllReadyH.cons (o := ?_) ?_ (fun K hK => ?_) ?_
          rotate_left
          · (simp only [List.getElem?_toArray, List.getElem?_cons_zero, List.getElem?_cons_succ]; rfl)
          · go_simp
            (try go_wp2_with fail)
            refine hK.out _ _ ?_ (fun hHeld' => ?_)
            · (try dsimp only)
              exact (Y0.cell zlb).trans s1
            clear hK K hHeld
            have hHeld := hHeld'
            clear hHeld'
            (try simp only [Act.put, List.setIfInBounds_toArray, List.set_cons_zero, List.set_cons_succ])
            refine wpAnyH_ready (rs := [17]) (by kernel_rfl) (by simp) ?_
            refine AllReadyH.cons (o := ?_) ?_ (fun K hK => ?_) AllReadyH.nil
            rotate_left
            · (simp only [List.getElem?_toArray, List.getElem?_cons_zero, List.getElem?_cons_succ]; rfl)
            go_simp
            (try go_wp2_with fail)
            refine hK.out _ _ ?_ (fun hHeld' => ?_)
            · (try dsimp only)
              exact ((Y0.alloc Y0.size _).cell zlb).trans s1
            clear hK K hHeld
            have hHeld := hHeld'
            clear hHeld'
            (try simp only [Act.put, List.setIfInBounds_toArray, List.set_cons_zero, List.set_cons_succ])
            obtain ⟨vk2, hv2⟩ : ∃ u, u = u0.alloc (.cells #[.int .i64 0] 3) := ⟨_, rfl⟩
            have hbk2 : Below u0.heap.size u0 vk2 := by rw [hv2]; exact (Below.refl _ _).alloc (Nat.le_refl _) _
            have HBk2 : Below w4.heap.size w4 vk2 := Y0.trans (hbk2.mono Y0.size)
            have nw0 : vk2.cell? ⟨u0.heap.size, 0, none⟩ = some (.int .i64 0) := by rw [hv2]; simp
            have zN : w4.heap.size ≤ u0.heap.size := Y0.size
            have zN1 : vk2.heap.size = u0.heap.size + 1 := by rw [hv2]; simp
            rw [← hv2]
            clear hv2
            refine wpAnyH_ready (rs := [18]) (by kernel_rfl) (by simp) ?_
            refine AllReadyH.cons (o := ?_) ?_ (fun K hK => ?_) AllReadyH.nil
            rotate_left
            · (simp only [List.getElem?_toArray, List.getElem?_cons_zero, List.getElem?_cons_succ]; rfl)
            have HSVc := Hid.mk (HS4.out.below HBk2)
            refine step_append_vals rfl (.tmp 78) (.tmp 79) 41 rfl 0 3 i0 (.int .i64 0) 1 8 Try.underlying41 hi0 hx0 hx1 hx2 rfl (by decide) (.slice e0 y.1.length f0) y.1.length (y.1.map (.int .i64)) (by simp [Act.eval]) (owns_below HOW.out HBk2) (some ⟨u0.heap.size, 0, none⟩) 1 1 [.int .i64 0] (by simp [Act.eval]) rfl (fun ad he => by cases he; intro j u hu; match j, hu with | 0, hu => (obtain rfl := Option.some.inj hu; exact nw0)) (by intro u hu; simp at hu; rw [hu]; rfl) (fun h => by cases h) (by unfold maxLen; omega) (by omega) (Nat.zero_le _) (fun r d wk3 ho2 hg2 ht2 => ?_)
            have ho2 : wk3.ownsRow 0 3 1 (.slice r (y.1.length + 1) d) (y.1.length + 1) ((y.1 ++ [(0 : Int)]).map (.int .i64)) := by rw [List.map_append]; exact ho2
            have hs5 := (HSVc.out.wire (x0 := y.1) (x1 := y.2.1) (b := y.2.2) HY4.out)
            obtain ⟨e0', f0', e1', f1', F0', F1', hB1, hsub, ca, _, _, o0, o1, ff0, ff1, dd⟩ := hs5
            have hca : (.slice e0 y.1.length f0 : Value) = .slice e0' y.1.length f0' := Option.some.inj ((cell_later HBk2 y0).symm.trans ca)
            simp only [Value.slice.injEq, true_and] at hca
            obtain ⟨rfl, rfl⟩ := hca
            have ob := (RInts.own_iff.1 o0).2.2.2
            have s1' : wk3.cell? ⟨w.heap.size, 1, none⟩ = some (.slice (some ⟨g1, 0, none⟩) n1 c1) := (Off.grown (F := fun b => (Value.slice e0 y.1.length f0).ownBlock = some b) hg2 (fun _ hk => hk)).cell ((HBk2.cell zlb).trans s1) (fun e => HNB.out ((HSVc.out.wi.rowF B _ hB1 (ff0 _ (ob _ e))).1.1))
            obtain ⟨cells1', G', hS6⟩ := HSVc.out.pushWords (x := y) hB1 hsub o0 o1 ff0 ff1 dd 0 (by omega) hg2 hg2.size ho2 ht2
            have HS6 := Hid.mk hS6
            have HB6 : Hid (Off lo' w (wk3.setCell ⟨g1, B * 3 + 0, none⟩ (.slice r (y.1.length + 1) d))) := Hid.mk (((HB4.out.trans (Off.below HBk2)).trans (Off.grown hg2 (fun b hb => (HSVc.out.wi.rowF B b hB1 (ff0 b (ob b hb))).1.1))).setCellO l1.1 _)
            have hbl : ∀ b, b = w.heap.size ∨ b = w.heap.size + 1 → wk3.heap[b]? = w4.heap[b]? := fun b hb => (hg2.block b (by have := (HBk2).size; omega) (fun e => HNN.out b hb ((HSVc.out.wi.rowF B b hB1 (ff0 b (ob b e.symm))).1.1))).trans ((HBk2).block b (by omega))
            have bb6 := (hbl w.heap.size (.inl rfl)).trans bb4
            have br6 := (hbl (w.heap.size + 1) (.inr rfl)).trans br4
            have qs2 := (Off.grown (F := fun b => (Value.slice e0 y.1.length f0).ownBlock = some b) hg2 (fun _ hk => hk)).cell (cell_later HBk2 y0) (fun e => HSVc.out.notG1 hB1 (ff0 _ (ob _ e)) rfl)
            have fs2 : wk3.frozen? ⟨g1, B * 3, none⟩ = false := frozen_grown (HSVc.out.wi.outer) hg2 (fun e => HSVc.out.notG1 hB1 (ff0 _ (ob _ e)) rfl) (B * 3)
            clear hg2 ht2 ho2 nw0 hS6 hbl hsub ca o0 o1 ob
            refine hK.out _ _ ?_ (fun hHeld' => ?_)
            · (try dsimp only)
              exact s1'
            clear hK K hHeld
            have hHeld := hHeld'
            clear hHeld'
            (try simp only [Act.put, List.setIfInBounds_toArray, List.set_cons_zero, List.set_cons_succ])
            refine tk 19 ?_
            refine tk 20 ?_
            refine wpAnyH_ready (rs := [21]) (by kernel_rfl) (by simp) ?_
            refine AllReadyH.cons (o := ?_) ?_ (fun K hK => ?_) AllReadyH.nil
            rotate_left
            · (simp only [List.getElem?_toArray, List.getElem?_cons_zero, List.getElem?_cons_succ]; rfl)
            go_simp
            (try go_wp2_with fail)
            refine hK.out _ _ ?_ (fun hHeld' => ?_)
            · (try dsimp only)
              exact (cell_far _ (by omega)).trans s1'
            clear hK K hHeld
            have hHeld := hHeld'
            clear hHeld'
            (try simp only [Act.put, List.setIfInBounds_toArray, List.set_cons_zero, List.set_cons_succ])
            refine wpAnyH_done (by kernel_rfl) ?_ _
            have hz6 := HB6.out.size
            obtain ⟨X6, hX6⟩ : ∃ u, u = wk3.setCell ⟨g1, B * 3, none⟩ (.slice r (y.1.length + 1) d) := ⟨_, rfl⟩
            have HS7 : Hid (SV X6 lo' g0 n0 c0 g1 n1 c1 qs ((wk.set A (x.1, x.2.1, bo)).set B (y.1 ++ [0], y.2.1, y.2.2)) cells0 cells1' G') := Hid.mk (by rw [hX6]; exact HS6.out)
            have HB7 : Hid (Off lo' w X6) := Hid.mk (by rw [hX6]; exact HB6.out)
            have bb7 : X6.heap[w.heap.size]? = some (.cells #[.slice (some ⟨g0, 0, none⟩) n0 c0, .slice (some ⟨g1, 0, none⟩) n1 c1] 32 (0, 0)) := by rw [hX6]; exact blk_other bb6 (by show w.heap.size ≠ g1; omega) _
            have br7 : X6.heap[w.heap.size + 1]? = some (.cells #[.slice none 0 0, .slice none 0 0] 32 (0, 0)) := by rw [hX6]; exact blk_other br6 (by show w.heap.size + 1 ≠ g1; omega) _
            have HBB := Hid.mk bb7
            have HRR := Hid.mk br7
            clear HS6 HB6 bb6 br6 bb7 br7 qs2 fs2 s1' y0c hz6
            rw [← hX6]
            clear hX6
            go_wp2
            go_roundw
            case rel => exact ⟨k + 1, _, cells1', G', by omega, by go_num, HSV2.out, HF6.out, HS7.out, HB7.out, HBB.out, HRR.out⟩
            case measure => simp [intOf]; omega
          refine AllReadyH.cons (o := ?_) ?_ (fun K hK => ?_) AllReadyH.nil
          rotate_left
          · (simp only [List.getElem?_toArray, List.getElem?_cons_zero, List.getElem?_cons_succ]; rfl)
          · go_simp
            (try go_wp2_with fail)
            refine hK.out _ _ ?_ (fun hHeld' => ?_)
            · (try dsimp only)
              exact ((Y0.alloc Y0.size _).cell zlb).trans s1
            clear hK K hHeld
            have hHeld := hHeld'
            clear hHeld'
            (try simp only [Act.put, List.setIfInBounds_toArray, List.set_cons_zero, List.set_cons_succ])
            obtain ⟨vk5, hv5⟩ : ∃ u, u = u0.alloc (.cells #[.int .i64 0] 3) := ⟨_, rfl⟩
            have hbk5 : Below u0.heap.size u0 vk5 := by rw [hv5]; exact (Below.refl _ _).alloc (Nat.le_refl _) _
            have HBk5 : Below w4.heap.size w4 vk5 := Y0.trans (hbk5.mono Y0.size)
            have nw0 : vk5.cell? ⟨u0.heap.size, 0, none⟩ = some (.int .i64 0) := by rw [hv5]; simp
            have zN : w4.heap.size ≤ u0.heap.size := Y0.size
            have zN1 : vk5.heap.size = u0.heap.size + 1 := by rw [hv5]; simp
            rw [← hv5]
            clear hv5
            have y0c := cell_later HBk5 y0
            refine wpAnyH_ready (rs := [16]) (by kernel_rfl) (by simp) ?_
            refine AllReadyH.cons (o := ?_) ?_ (fun K hK => ?_) AllReadyH.nil
            rotate_left
            · (simp only [List.getElem?_toArray, List.getElem?_cons_zero, List.getElem?_cons_succ]; rfl)
            go_simp
            (try go_wp2_with fail)
            refine hK.out _ _ ?_ (fun hHeld' => ?_)
            · (try dsimp only)
              exact (HBk5.cell zlb).trans s1
            clear hK K hHeld
            have hHeld := hHeld'
            clear hHeld'
            (try simp only [Act.put, List.setIfInBounds_toArray, List.set_cons_zero, List.set_cons_succ])
            refine wpAnyH_ready (rs := [18]) (by kernel_rfl) (by simp) ?_
            refine AllReadyH.cons (o := ?_) ?_ (fun K hK => ?_) AllReadyH.nil
            rotate_left
            · (simp only [List.getElem?_toArray, List.getElem?_cons_zero, List.getElem?_cons_succ]; rfl)
            have HSVc := Hid.mk (HS4.out.below HBk5)
            refine step_append_vals rfl (.tmp 78) (.tmp 79) 41 rfl 0 3 i0 (.int .i64 0) 1 8 Try.underlying41 hi0 hx0 hx1 hx2 rfl (by decide) (.slice e0 y.1.length f0) y.1.length (y.1.map (.int .i64)) (by simp [Act.eval]) (owns_below HOW.out HBk5) (some ⟨u0.heap.size, 0, none⟩) 1 1 [.int .i64 0] (by simp [Act.eval]) rfl (fun ad he => by cases he; intro j u hu; match j, hu with | 0, hu => (obtain rfl := Option.some.inj hu; exact nw0)) (by intro u hu; simp at hu; rw [hu]; rfl) (fun h => by cases h) (by unfold maxLen; omega) (by omega) (Nat.zero_le _) (fun r d wk7 ho2 hg2 ht2 => ?_)
            have ho2 : wk7.ownsRow 0 3 1 (.slice r (y.1.length + 1) d) (y.1.length + 1) ((y.1 ++ [(0 : Int)]).map (.int .i64)) := by rw [List.map_append]; exact ho2
            have hs5 := (HSVc.out.wire (x0 := y.1) (x1 := y.2.1) (b := y.2.2) HY4.out)
            obtain ⟨e0', f0', e1', f1', F0', F1', hB1, hsub, ca, _, _, o0, o1, ff0, ff1, dd⟩ := hs5
            have hca : (.slice e0 y.1.length f0 : Value) = .slice e0' y.1.length f0' := Option.some.inj ((cell_later HBk5 y0).symm.trans ca)
            simp only [Value.slice.injEq, true_and] at hca
            obtain ⟨rfl, rfl⟩ := hca
            have ob := (RInts.own_iff.1 o0).2.2.2
            have s1' : wk7.cell? ⟨w.heap.size, 1, none⟩ = some (.slice (some ⟨g1, 0, none⟩) n1 c1) := (Off.grown (F := fun b => (Value.slice e0 y.1.length f0).ownBlock = some b) hg2 (fun _ hk => hk)).cell ((HBk5.cell zlb).trans s1) (fun e => HNB.out ((HSVc.out.wi.rowF B _ hB1 (ff0 _ (ob _ e))).1.1))
            obtain ⟨cells1', G', hS6⟩ := HSVc.out.pushWords (x := y) hB1 hsub o0 o1 ff0 ff1 dd 0 (by omega) hg2 hg2.size ho2 ht2
            have HS6 := Hid.mk hS6
            have HB6 : Hid (Off lo' w (wk7.setCell ⟨g1, B * 3 + 0, none⟩ (.slice r (y.1.length + 1) d))) := Hid.mk (((HB4.out.trans (Off.below HBk5)).trans (Off.grown hg2 (fun b hb => (HSVc.out.wi.rowF B b hB1 (ff0 b (ob b hb))).1.1))).setCellO l1.1 _)
            have hbl : ∀ b, b = w.heap.size ∨ b = w.heap.size + 1 → wk7.heap[b]? = w4.heap[b]? := fun b hb => (hg2.block b (by have := (HBk5).size; omega) (fun e => HNN.out b hb ((HSVc.out.wi.rowF B b hB1 (ff0 b (ob b e.symm))).1.1))).trans ((HBk5).block b (by omega))
            have bb6 := (hbl w.heap.size (.inl rfl)).trans bb4
            have br6 := (hbl (w.heap.size + 1) (.inr rfl)).trans br4
            have qs2 := (Off.grown (F := fun b => (Value.slice e0 y.1.length f0).ownBlock = some b) hg2 (fun _ hk => hk)).cell (cell_later HBk5 y0) (fun e => HSVc.out.notG1 hB1 (ff0 _ (ob _ e)) rfl)
            have fs2 : wk7.frozen? ⟨g1, B * 3, none⟩ = false := frozen_grown (HSVc.out.wi.outer) hg2 (fun e => HSVc.out.notG1 hB1 (ff0 _ (ob _ e)) rfl) (B * 3)
            clear hg2 ht2 ho2 nw0 hS6 hbl hsub ca o0 o1 ob
            refine hK.out _ _ ?_ (fun hHeld' => ?_)
            · (try dsimp only)
              exact s1'
            clear hK K hHeld
            have hHeld := hHeld'
            clear hHeld'
            (try simp only [Act.put, List.setIfInBounds_toArray, List.set_cons_zero, List.set_cons_succ])
            refine tk 19 ?_
            refine tk 20 ?_
            refine wpAnyH_ready (rs := [21]) (by kernel_rfl) (by simp) ?_
            refine AllReadyH.cons (o := ?_) ?_ (fun K hK => ?_) AllReadyH.nil
            rotate_left
            · (simp only [List.getElem?_toArray, List.getElem?_cons_zero, List.getElem?_cons_succ]; rfl)
            go_simp
            (try go_wp2_with fail)
            refine hK.out _ _ ?_ (fun hHeld' => ?_)
            · (try dsimp only)
              exact (cell_far _ (by omega)).trans s1'
            clear hK K hHeld
            have hHeld := hHeld'
            clear hHeld'
            (try simp only [Act.put, List.setIfInBounds_toArray, List.set_cons_zero, List.set_cons_succ])
            refine wpAnyH_done (by kernel_rfl) ?_ _
            have hz6 := HB6.out.size
            obtain ⟨X6, hX6⟩ : ∃ u, u = wk7.setCell ⟨g1, B * 3, none⟩ (.slice r (y.1.length + 1) d) := ⟨_, rfl⟩
            have HS7 : Hid (SV X6 lo' g0 n0 c0 g1 n1 c1 qs ((wk.set A (x.1, x.2.1, bo)).set B (y.1 ++ [0], y.2.1, y.2.2)) cells0 cells1' G') := Hid.mk (by rw [hX6]; exact HS6.out)
            have HB7 : Hid (Off lo' w X6) := Hid.mk (by rw [hX6]; exact HB6.out)
            have bb7 : X6.heap[w.heap.size]? = some (.cells #[.slice (some ⟨g0, 0, none⟩) n0 c0, .slice (some ⟨g1, 0, none⟩) n1 c1] 32 (0, 0)) := by rw [hX6]; exact blk_other bb6 (by show w.heap.size ≠ g1; omega) _
            have br7 : X6.heap[w.heap.size + 1]? = some (.cells #[.slice none 0 0, .slice none 0 0] 32 (0, 0)) := by rw [hX6]; exact blk_other br6 (by show w.heap.size + 1 ≠ g1; omega) _
            have HBB := Hid.mk bb7
            have HRR := Hid.mk br7
            clear HS6 HB6 bb6 br6 bb7 br7 qs2 fs2 s1' y0c hz6
            rw [← hX6]
            clear hX6
            go_wp2
            go_roundw
            case rel => exact ⟨k + 1, _, cells1', G', by omega, by go_num, HSV2.out, HF6.out, HS7.out, HB7.out, HBB.out, HRR.out⟩
            case measure => simp [intOf]; omega
    · have hkn : n0 = k := by omega
      subst hkn
      have hki : ¬ (n0 : Int) < (n0 : Int) := by omega
      have hsvE : svM n0 who sh n0 0 ws = (true, wk) := by rw [hsv, Nat.sub_self]; rfl
      have HE := Hid.mk hsvE
      have HSS := Hid.mk hS
      have HBX := Hid.mk hbw
      clear hsv hS hfw hbw hsvE
      have p0 := blk_cell bb 0 (v := .slice (some ⟨g0, 0, none⟩) n0 c0) rfl
      have p1 := blk_cell bb 1 (v := .slice (some ⟨g1, 0, none⟩) n1 c1) rfl
      have y0 := blk_cell br 0 (v := .slice none 0 0) rfl
      have y1 := blk_cell br 1 (v := .slice none 0 0) rfl
      have fz0 := blk_frozen br 0
      have fz1 := blk_frozen br 1
      obtain ⟨Y, hY⟩ : ∃ u, u = (wY.setCell ⟨w.heap.size + 1, 0, none⟩ (.slice (some ⟨g0, 0, none⟩) n0 c0)).setCell ⟨w.heap.size + 1, 1, none⟩ (.slice (some ⟨g1, 0, none⟩) n1 c1) := ⟨_, rfl⟩
      have S : Off (fun b => b = w.heap.size + 1) wY Y := by rw [hY]; exact (Off.set (F := fun b => b = w.heap.size + 1) (a := ⟨w.heap.size + 1, 0, none⟩) rfl _).trans (Off.set (F := fun b => b = w.heap.size + 1) (a := ⟨w.heap.size + 1, 1, none⟩) rfl _)
      have RR : Hid (Off lo w Y ∧ (true = true → ∃ cells0 cells1 G, SV Y lo g0 n0 c0 g1 n1 c1 (ps.set who (z0, z0, true)) wk cells0 cells1 G)) := Hid.mk
        ⟨(HBX.out.mono HLE.out).trans (S.mono (fun b h => by have h2 : b = w.heap.size + 1 := h; exact HUP.out b (by omega))), fun _ => ⟨cells0, cells1, G, by rw [← HQ.out]; exact (HSS.out.frame (fun b hb _ => S.block b (by omega) (fun e => HNN.out b (.inr e) hb)) S.size).mono HLE.out⟩⟩
      have HY := Hid.mk hY
      clear S hY
      go_wp2
      refine bodyPost_ret (v := .tuple #[.agg #[.slice (some ⟨g0, 0, none⟩) n0 c0, .slice (some ⟨g1, 0, none⟩) n1 c1], .bool true]) (by simp [results, Try.results55, go_sem, y0, y1]) rfl ?_
      have h := RR.out
      rw [HY.out] at h
      rw [HE.out]
      first | exact ⟨rfl, h.1, h.2⟩ | exact ⟨rfl, h.1, fun _ => h.2 trivial⟩

end Go.Proofs.Ytnfdncofobkjhaa

/- Contract of spec.l1In. -/
namespace Go.Proofs.Ytnfdncofobkjhaa
open Go.RowKit

theorem l1In_any (x lo hi : Int) (w : World) :
    Calls Try.prog 53 #[.int .i64 x, .int .i64 lo, .int .i64 hi] w fun e w' => e = .returned (.bool (decide (lo ≤ x) && decide (x ≤ hi))) ∧ w' = w := by
  by_cases h : lo ≤ x
  · have h1 : decide (lo ≤ x) = true := decide_eq_true h
    go_enter Try.func53, Try.ntmps53
    go_wp2
    go_ret
    exact ⟨ret_bool (by simp [h]), rfl⟩
  · have h1 : decide (lo ≤ x) = false := decide_eq_false h
    go_enter Try.func53, Try.ntmps53
    go_wp2
    go_ret
    exact ⟨ret_bool (by simp), rfl⟩

end Go.Proofs.Ytnfdncofobkjhaa
