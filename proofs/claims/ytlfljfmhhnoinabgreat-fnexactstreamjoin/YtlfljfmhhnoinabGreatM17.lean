/- Several texts of one proof, in build order: CntS, SumK, RunS, ProdP, RowOf. -/
import Derived.Test.YtlfljfmhhnoinabGreatM12
import Derived.Test.YtlfljfmhhnoinabGreatM16
import Derived.Test.YtlfljfmhhnoinabGreatM10
import Derived.Deep.AppendLies
import Derived.WalkKit
import Derived.OwnWalkIn
import Derived.TacticsInMore
import Derived.LoopNIn
import Derived.LoopIn
import Derived.Test.YtlfljfmhhnoinabGreatM15
import Derived.Test.YtlfljfmhhnoinabGreatM5
import Derived.Deep.RegionLaw

/- Slices of maps of weights: what lies in memory, what is owned; contracts of impl.countsOfStream, impl.delayed, slices.Values. -/
namespace Go.Proofs.YtlfljfmhhnoinabGreat
open Go.RowKit Go.Shelf Go.Maps

def mapV (b : Nat) : Value := .map (some b)
abbrev bat (bs : List Nat) (i : Nat) : Nat := bs.getD i 0
theorem bat_left {bs bs' : List Nat} {i : Nat} (h : i < bs.length) : bat (bs ++ bs') i = bat bs i := by simp [bat, List.getD, List.getElem?_append_left h]
theorem bat_last (bs : List Nat) (b : Nat) : bat (bs ++ [b]) bs.length = b := by simp [bat, List.getD]
theorem lat_left {xs ys : List (List WRow)} {i : Nat} (h : i < xs.length) : lat (xs ++ ys) i = lat xs i := by simp [lat, List.getD, List.getElem?_append_left h]
theorem lat_last (xs : List (List WRow)) (x : List WRow) : lat (xs ++ [x]) xs.length = x := by simp [lat, List.getD]

/-- A slice of maps that tell the lists xss. -/
structure AtC (w : World) (a : Option Addr) (q M : Nat) (xss : List (List WRow)) (bs : List Nat) : Prop where
  len : bs.length = xss.length
  cells : xss = [] ∨ ∃ b off, a = some ⟨b, off, none⟩ ∧ ∀ i, i < xss.length → w.cell? ⟨b, off + i, none⟩ = some (.map (some (bat bs i)))
  each : ∀ i, i < xss.length → Cnt w (bat bs i) q M (lat xss i)
theorem AtC.below {w w' : World} {a : Option Addr} {q M : Nat} {xss : List (List WRow)} {bs : List Nat} (h : AtC w a q M xss bs) (hb : Below w.heap.size w w') : AtC w' a q M xss bs :=
  ⟨h.len, h.cells.imp id fun ⟨b, off, e, hc⟩ => ⟨b, off, e, fun i hi => cell_later hb (hc i hi)⟩, fun i hi => (h.each i hi).below hb⟩
/-- The same, the slice itself made by the call. -/
structure OwnC (w : World) (lo : Nat) (a : Option Addr) (n c : Nat) (q M : Nat) (xss : List (List WRow)) (bs : List Nat) : Prop where
  len : bs.length = n
  lenx : xss.length = n
  own : w.ownsRow lo 92 1 (.slice a n c) n (bs.map mapV)
  each : ∀ i, i < n → Cnt w (bat bs i) q M (lat xss i)
section
variable {w w' : World} {lo : Nat} {a : Option Addr} {n c q M : Nat} {xss : List (List WRow)} {bs : List Nat}
theorem OwnC.below (h : OwnC w lo a n c q M xss bs) (hb : Below w.heap.size w w') : OwnC w' lo a n c q M xss bs := ⟨h.len, h.lenx, owns_below h.own hb, fun i hi => (h.each i hi).below hb⟩
theorem OwnC.atC (h : OwnC w lo a n c q M xss bs) : AtC w a q M xss bs := by
  refine ⟨h.len.trans h.lenx.symm, ?_, fun i hi => h.each i (by rw [← h.lenx]; exact hi)⟩
  rcases h.own.2 with ⟨hv, h0⟩ | ⟨g, cap, cur, hv, _⟩
  · left
    have := h.lenx
    rw [h0] at this
    exact List.eq_nil_of_length_eq_zero this
  · simp only [Value.slice.injEq, true_and] at hv
    obtain ⟨rfl, rfl⟩ := hv
    refine .inr ⟨g, 0, rfl, fun i hi => ?_⟩
    rw [h.lenx] at hi
    rw [Nat.zero_add, h.own.cellAt i (by omega), List.getElem?_map]
    have : i < bs.length := by rw [h.len]; exact hi
    simp [mapV, bat, List.getD, this]
theorem OwnC.nil (w : World) (lo q M : Nat) : OwnC w lo none 0 0 q M [] [] := ⟨rfl, rfl, World.ownsRow_nil _ _ _ _, fun i hi => by omega⟩
theorem cnt_own {b s : Nat} {e : TypeId} {xs : List WRow} {cs : List Value} (hc : Cnt w b q M xs) (ho : w.ownsRow lo e s (.slice a n c) n cs) (hg : w.grownBy w' (Value.slice a n c).ownBlock) : Cnt w' b q M xs := by
  refine hc.grown hg (fun eq => ?_)
  obtain ⟨cnt, D, f, S, ⟨es, clock, hb, _⟩, _⟩ := hc
  rcases ho.2 with ⟨hv, _⟩ | ⟨g, cap, cur, hv, _, hh, _⟩
  · rw [hv] at eq; simp [Value.ownBlock] at eq
  · rw [hv] at eq
    simp [Value.ownBlock] at eq
    rw [eq, hh] at hb
    cases hb
theorem OwnC.push {w2 w3 w4 : World} {b g cap : Nat} {xs : List WRow} (h : OwnC w lo a n c q M xss bs) (hb : Below w.heap.size w w2) (hc : Cnt w2 b q M xs) (hb3 : Below w2.heap.size w2 w3)
    (hown : w4.ownsRow lo 92 1 (.slice (some ⟨g, 0, none⟩) (n + 1) cap) (n + 1) (bs.map mapV ++ [.map (some b)])) (hgr : w3.grownBy w4 (Value.slice a n c).ownBlock) :
    OwnC w4 lo (some ⟨g, 0, none⟩) (n + 1) cap q M (xss ++ [xs]) (bs ++ [b]) := by
  have h3 := (h.below hb).below hb3
  refine ⟨by simp [h.len], by simp [h.lenx], by rw [List.map_append]; exact hown, fun i hi => ?_⟩
  by_cases e : i = n
  · subst e
    rw [show bat (bs ++ [b]) i = b by rw [← h.len]; exact bat_last bs b, show lat (xss ++ [xs]) i = xs by rw [← h.lenx]; exact lat_last xss xs]
    exact cnt_own (hc.below hb3) h3.own hgr
  · rw [bat_left (by rw [h.len]; omega), lat_left (by rw [h.lenx]; omega)]
    exact cnt_own (h3.each i (by omega)) h3.own hgr
end
theorem Tryz.infoC : (Tryz.prog.info? 92).map (fun i => (i.zero, i.size, i.bytes)) = some (some (.map none), 1, 8) := by kernel_rfl
theorem Cnt.empty (w : World) (q M : Nat) : Cnt (w.alloc (.map #[] 0)) w.heap.size q M [] :=
  ⟨0, .map [], fun _ => 0, [], World.ownsMap_made _ _ _ _, MapIs.empty, fun a ha => (by cases ha), ⟨List.Pairwise.nil, fun t h => (by cases h), fun t h => (by cases h), fun _ _ _ => rfl⟩, Nat.zero_le _⟩

/-- What f tells of 0, 1 .. k - 1. -/
def upto (f : Nat → List WRow) (k : Nat) : List (List WRow) := (List.range k).map f
theorem upto_succ (f : Nat → List WRow) (k : Nat) : upto f (k + 1) = upto f k ++ [f k] := by simp [upto, List.range_succ]
theorem upto_length (f : Nat → List WRow) (k : Nat) : (upto f k).length = k := by simp [upto]
theorem upto_at (f : Nat → List WRow) (n i : Nat) (h : i < n) : lat (upto f n) i = f i := by simp [upto, lat, List.getD, h]
/-- The list ahead of the k-th. -/
def prevK (f : Nat → List WRow) (k : Nat) : List WRow := if k = 0 then [] else f (k - 1)
theorem prevK_zero (f : Nat → List WRow) : prevK f 0 = [] := rfl
theorem prevK_succ (f : Nat → List WRow) (k : Nat) : prevK f (k + 1) = f k := by simp [prevK]

set_option maxRecDepth 100000 in
set_option maxHeartbeats 2000000 in
theorem countsOfStream_any (a : Option Addr) (n c q : Nat) (ss : List Tab) (p : Int) (w : World) (hs : SmU ss n) (hn : n ≤ 12) (hg : ∀ k, k < n → goodT q (tat ss k).2 = true) (ha : AtSM w a ss) :
    Calls Tryz.prog 29 #[.agg #[.int .i64 p, .slice a n c]] w fun e w' => ∃ r d bs, e = .returned (.slice r n d) ∧ OwnC w' w.heap.size r n d q 60 (upto (fun k => (tat ss k).2) n) bs ∧ Below w.heap.size w w' := by
  obtain ⟨i0, hi, hz0, hz1, hz2⟩ := info_parts Tryz.infoC
  have hz := hs.1
  obtain ⟨W, hW⟩ : ∃ W, W = w.alloc (.cells #[.int .i64 p, .slice a n c] 30) := ⟨_, rfl⟩
  have B0 : Below w.heap.size w W := by rw [hW]; exact (Below.refl _ _).alloc (Nat.le_refl _) _
  go_enter Tryz.func29, Tryz.ntmps29
  go_wp2
  rw [← hW]
  clear hW
  go_loopw [3, 9] (fun o i wr => ∃ (k : Nat) (r : Option Addr) (d : Nat) (bs : List Nat), k ≤ n ∧ i = .int .i64 k ∧ o = .slice r k d ∧ OwnC wr w.heap.size r k d q 60 (upto (fun k => (tat ss k).2) k) bs ∧ Below w.heap.size w wr) (fun _ i _ => n - (intOf i).toNat)
  case atStart => exact ⟨0, none, 0, [], Nat.zero_le _, rfl, rfl, OwnC.nil _ _ _ _, B0⟩
  case round =>
    obtain ⟨k, r, d, bs, hk, rfl, rfl, ho, hbw⟩ := hrel
    by_cases hlt : k < n
    · obtain ⟨b, off, rfl, hc⟩ := (ha.below hbw).some (by omega)
      obtain ⟨q', d', hcw, hcx, _, _, hat⟩ := hc k (by omega)
      have hgk := hg k hlt
      have HU := Hid.mk (upto_succ (fun k => (tat ss k).2) k)
      have hki : (k : Int) < (n : Int) := by omega
      generalize tat ss k = Y at *
      obtain ⟨x, us⟩ := Y
      simp only at hcw hcx hat hgk HU
      obtain ⟨m, hmm⟩ : ∃ m, us.length = m := ⟨_, rfl⟩
      rw [hmm] at hcx
      have HM := Hid.mk hmm
      have HG := Hid.mk hgk
      obtain ⟨V, hV⟩ : ∃ V, V = wr.alloc (.cells #[.int .i64 x, .slice q' m d'] 48) := ⟨_, rfl⟩
      have hbV : Below wr.heap.size wr V := by rw [hV]; exact (Below.refl _ _).alloc (Nat.le_refl _) _
      have HAV := (hat.below hbV).atW
      have B3 := hbw.trans (hbV.mono hbw.size)
      have HOV := Hid.mk (ho.below hbV)
      clear hc hmm hat hgk ho
      go_wp2_with (first
        | (go_at_call 56; rw [← hV]; clear hV hcw hcx; refine (countsOf_any _ _ _ q us _ _ HM.out HG.out HAV).mono ?_; rintro e w3 ⟨b3, rfl, hk3, hc3, hb3⟩; have B4 := B3.trans (hb3.mono B3.size); have HO3 := Hid.mk (HOV.out.below hb3); have HC3 := Hid.mk hc3; clear hc3 B3 hbV hb3)
        | (at_builtin; refine wpList_append_lies _ rfl (.tmp 13) (.tmp 16) 63 rfl w.heap.size 92 i0 (.map none) 1 8 Tryz.underlying63 hi hz0 hz1 hz2 rfl (by decide) (.slice r k d) k (bs.map mapV) rfl (HO3.out.own.alloc _) ⟨w3.heap.size, 0, none⟩ 1 1 [.map (some b3)] (by simp [Act.eval]) rfl (by simpa using news_at w3 #[.map (some b3)] 92) (by intro u hu; simp at hu; subst hu; rfl) (by decide) (by unfold maxLen; omega) (by omega) (by have := B4.size; simp; omega) (w3.heap.size + 1) (by simp) ?_; intro g2 cap2 w5 hown5 hgrow5 hat5 hlt5))
      have hbA : Below w3.heap.size w3 (w3.alloc (.cells #[.map (some b3)] 92)) := (Below.refl _ _).alloc (Nat.le_refl _) _
      have HP : Hid (OwnC w5 w.heap.size (some ⟨g2, 0, none⟩) (k + 1) cap2 q 60 (upto (fun k => (tat ss k).2) (k + 1)) (bs ++ [b3])) := by
        show OwnC _ _ _ _ _ _ _ _ _
        rw [HU.out]
        exact HO3.out.push (Below.refl _ _) HC3.out hbA hown5 hgrow5
      have hrb : ∀ j, (Value.slice r k d).ownBlock = some j → w.heap.size ≤ j := fun j hj => (HO3.out.own.lt j hj).1
      have HB5 := Hid.mk ((B4.alloc B4.size _).grown hgrow5 (by have := B4.size; simp; omega) (fun j hj => hrb j hj))
      clear hown5 hgrow5 hat5 hlt5 HO3 hbA hrb B4
      go_wp2
      go_roundw
      case rel => exact ⟨k + 1, _, _, _, by omega, by go_num, rfl, HP.out, HB5.out⟩
      case measure => simp [intOf]; omega
    · obtain rfl : k = n := by omega
      go_wp2
      go_ret
      exact ⟨_, _, _, rfl, ho, hbw⟩

set_option maxRecDepth 100000 in
set_option maxHeartbeats 2000000 in
theorem delayed_any (a : Option Addr) (n c q M : Nat) (f : Nat → List WRow) (bs0 : List Nat) (w : World) (hn : n ≤ 12) (ha : AtC w a q M (upto f n) bs0) :
    Calls Tryz.prog 52 #[.slice a n c] w fun e w' => ∃ r d bs, e = .returned (.slice r n d) ∧ OwnC w' w.heap.size r n d q M (upto (prevK f) n) bs ∧ Below w.heap.size w w' := by
  obtain ⟨i0, hi, hz0, hz1, hz2⟩ := info_parts Tryz.infoC
  have hmm := @run_makeMap Tryz.prog
  have B0 : Below w.heap.size w (w.alloc (.map #[] 0)) := (Below.refl _ _).alloc (Nat.le_refl _) _
  go_enter Tryz.func52, Tryz.ntmps52
  go_wp2
  go_loopw [3, 4, 10] (fun o h i wr => ∃ (k : Nat) (r : Option Addr) (d b : Nat) (bs : List Nat), k ≤ n ∧ i = .int .i64 k ∧ o = .slice r k d ∧ h = .map (some b) ∧ OwnC wr w.heap.size r k d q M (upto (prevK f) k) bs ∧ Cnt wr b q M (prevK f k) ∧ Below w.heap.size w wr) (fun _ _ i _ => n - (intOf i).toNat)
  case atStart => exact ⟨0, none, 0, w.heap.size, [], Nat.zero_le _, rfl, rfl, rfl, OwnC.nil _ _ _ _, by rw [prevK_zero]; exact Cnt.empty w q M, B0⟩
  case round =>
    obtain ⟨k, r, d, b, bs, hk, rfl, rfl, rfl, ho, hcn, hbw⟩ := hrel
    by_cases hlt : k < n
    · have ha2 := ha.below hbw
      have hun := upto_length f n
      obtain ⟨b0, off, rfl, hc⟩ : ∃ b0 off, a = some ⟨b0, off, none⟩ ∧ ∀ i, i < n → wr.cell? ⟨b0, off + i, none⟩ = some (.map (some (bat bs0 i))) := by
        rcases ha2.cells with h | ⟨b0, off, e, hc⟩
        · rw [h] at hun; simp at hun; omega
        · rw [hun] at hc; exact ⟨b0, off, e, hc⟩
      have hcx := hc k hlt
      have hce := ha2.each k (by rw [hun]; exact hlt)
      rw [upto_at f n k hlt] at hce
      have HU := Hid.mk (upto_succ (prevK f) k)
      have HPS := Hid.mk (prevK_succ f k)
      have hki : (k : Int) < (n : Int) := by omega
      have HCE := Hid.mk hce
      have HCN := Hid.mk hcn
      have HO := Hid.mk ho
      generalize bat bs0 k = b1 at *
      clear hc hce hcn ho ha2 hun
      go_wp2_with (at_builtin; refine wpList_append_lies _ rfl (.tmp 14) (.tmp 16) 63 rfl w.heap.size 92 i0 (.map none) 1 8 Tryz.underlying63 hi hz0 hz1 hz2 rfl (by decide) (.slice r k d) k (bs.map mapV) rfl (HO.out.own.alloc _) ⟨wr.heap.size, 0, none⟩ 1 1 [.map (some b)] (by simp [Act.eval]) rfl (by simpa using news_at wr #[.map (some b)] 92) (by intro u hu; simp at hu; subst hu; rfl) (by decide) (by unfold maxLen; omega) (by omega) (by have := hbw.size; simp; omega) (wr.heap.size + 1) (by simp) ?_; intro g2 cap2 w5 hown5 hgrow5 hat5 hlt5)
      have hbA : Below wr.heap.size wr (wr.alloc (.cells #[.map (some b)] 92)) := (Below.refl _ _).alloc (Nat.le_refl _) _
      have HP : Hid (OwnC w5 w.heap.size (some ⟨g2, 0, none⟩) (k + 1) cap2 q M (upto (prevK f) (k + 1)) (bs ++ [b])) := by
        show OwnC _ _ _ _ _ _ _ _ _
        rw [HU.out]
        exact HO.out.push (Below.refl _ _) HCN.out hbA hown5 hgrow5
      have HC5 : Hid (Cnt w5 b1 q M (prevK f (k + 1))) := by
        show Cnt _ _ _ _ _
        rw [HPS.out]
        exact cnt_own (HCE.out.below hbA) (HO.out.below hbA).own hgrow5
      have hrb : ∀ j, (Value.slice r k d).ownBlock = some j → w.heap.size ≤ j := fun j hj => (HO.out.own.lt j hj).1
      have HB5 := Hid.mk ((hbw.alloc hbw.size _).grown hgrow5 (by have := hbw.size; simp; omega) (fun j hj => hrb j hj))
      clear hown5 hgrow5 hat5 hlt5 HO hbA hrb hbw hcx
      go_wp2
      go_roundw
      case rel => exact ⟨k + 1, _, _, _, _, by omega, by go_num, rfl, rfl, HP.out, HC5.out, HB5.out⟩
      case measure => simp [intOf]; omega
    · obtain rfl : k = n := by omega
      go_wp2
      go_ret
      exact ⟨_, _, _, rfl, ho, hbw⟩

end Go.Proofs.YtlfljfmhhnoinabGreat

/- Plain: the sums of the first lists; what differs from the one ahead. -/
namespace Go.Proofs.YtlfljfmhhnoinabGreat

/-- The first k lists, added. -/
def sumK (f : Nat → List WRow) : Nat → List WRow
  | 0 => []
  | k + 1 => putAll (sumK f k) (f k)
theorem sumK_lst {q n : Nat} {f : Nat → List WRow} (h : ∀ k, k < n → Lst q 60 1000000 (f k)) : ∀ k, k ≤ n → Lst q (60 * k) (1000000 * k) (sumK f k) := by
  intro k hk
  induction k with
  | zero => exact (Lst.nil q).mono (by omega) (by omega)
  | succ k ih =>
    have := (ih (by omega)).put (h k (by omega)) (by omega) (by omega)
    exact this.mono (by omega) (by push_cast; omega)
end Go.Proofs.YtlfljfmhhnoinabGreat

/- Contract of impl.runningSums. -/
namespace Go.Proofs.YtlfljfmhhnoinabGreat
open Go.RowKit Go.Maps

theorem AtC.cell {w : World} {a : Option Addr} {q M n : Nat} {f : Nat → List WRow} {bs : List Nat} (h : AtC w a q M (upto f n) bs) {k : Nat} (hk : k < n) :
    ∃ b0 off, a = some ⟨b0, off, none⟩ ∧ (∀ i, i < n → w.cell? ⟨b0, off + i, none⟩ = some (.map (some (bat bs i)))) ∧ Cnt w (bat bs k) q M (f k) := by
  have hun := upto_length f n
  have hce := h.each k (by rw [hun]; exact hk)
  rw [upto_at f n k hk] at hce
  rcases h.cells with h' | ⟨b0, off, e, hc⟩
  · rw [h'] at hun; simp at hun; omega
  · rw [hun] at hc; exact ⟨b0, off, e, hc, hce⟩

set_option maxRecDepth 100000 in
set_option maxHeartbeats 2000000 in
theorem runningSums_any (a : Option Addr) (n c q : Nat) (f : Nat → List WRow) (bs0 : List Nat) (w : World) (hn : n ≤ 12) (hL : ∀ k, k < n → Lst q 60 1000000 (f k)) (ha : AtC w a q 60 (upto f n) bs0) :
    Calls Tryz.prog 53 #[.slice a n c] w fun e w' => ∃ r d bs, e = .returned (.slice r n d) ∧ OwnC w' w.heap.size r n d q 720 (upto (fun k => sumK f (k + 1)) n) bs ∧ Below w.heap.size w w' := by
  obtain ⟨i0, hi, hz0, hz1, hz2⟩ := info_parts Tryz.infoC
  have hmm := @run_makeMap Tryz.prog
  have B0 : Below w.heap.size w (w.alloc (.map #[] 0)) := (Below.refl _ _).alloc (Nat.le_refl _) _
  go_enter Tryz.func53, Tryz.ntmps53
  go_wp2
  go_loopw [3, 4, 10] (fun o h i wr => ∃ (k : Nat) (r : Option Addr) (d b : Nat) (bs : List Nat), k ≤ n ∧ i = .int .i64 k ∧ o = .slice r k d ∧ h = .map (some b) ∧ OwnC wr w.heap.size r k d q 720 (upto (fun k => sumK f (k + 1)) k) bs ∧ Cnt wr b q (60 * k) (sumK f k) ∧ Below w.heap.size w wr) (fun _ _ i _ => n - (intOf i).toNat)
  case atStart => exact ⟨0, none, 0, w.heap.size, [], Nat.zero_le _, rfl, rfl, rfl, OwnC.nil _ _ _ _, Cnt.empty w q 0, B0⟩
  case round =>
    obtain ⟨k, r, d, b, bs, hk, rfl, rfl, rfl, ho, hcn, hbw⟩ := hrel
    by_cases hlt : k < n
    · obtain ⟨b0, off, rfl, hc, hce⟩ := (ha.below hbw).cell hlt
      have hcx := hc k hlt
      have HU := Hid.mk (upto_succ (fun k => sumK f (k + 1)) k)
      have hki : (k : Int) < (n : Int) := by omega
      have HLK := Hid.mk (sumK_lst hL k (by omega)).within
      have HLF := Hid.mk (hL k hlt).within
      have HCE := Hid.mk hce
      have HCN := Hid.mk hcn
      have HO := Hid.mk ho
      generalize bat bs0 k = b1 at *
      clear hc hce hcn ho
      go_wp2_with (first | (go_at_call 74; refine (plus_any _ _ q _ _ (sumK f k) (f k) (1000000 * k) 1000000 _ HCN.out HCE.out (by omega) (by omega) (by omega) (by omega) HLK.out HLF.out).mono ?_; rintro e w3 ⟨b3, rfl, hk3, hc3, hb3⟩; have B4 := hbw.trans (hb3.mono hbw.size); have HO3 := Hid.mk (HO.out.below hb3); have HC3 : Hid (Cnt w3 b3 q (60 * (k + 1)) (sumK f (k + 1))) := (hc3.mono (by omega)); clear hc3 hbw hb3) | (at_builtin; refine wpList_append_lies _ rfl (.tmp 17) (.tmp 19) 63 rfl w.heap.size 92 i0 (.map none) 1 8 Tryz.underlying63 hi hz0 hz1 hz2 rfl (by decide) (.slice r k d) k (bs.map mapV) rfl (HO3.out.own.alloc _) ⟨w3.heap.size, 0, none⟩ 1 1 [.map (some b3)] (by simp [Act.eval]) rfl (by simpa using news_at w3 #[.map (some b3)] 92) (by intro u hu; simp at hu; subst hu; rfl) (by decide) (by unfold maxLen; omega) (by omega) (by have := B4.size; simp; omega) (w3.heap.size + 1) (by simp) ?_; intro g2 cap2 w5 hown5 hgrow5 hat5 hlt5))
      have hbA : Below w3.heap.size w3 (w3.alloc (.cells #[.map (some b3)] 92)) := (Below.refl _ _).alloc (Nat.le_refl _) _
      have HP : Hid (OwnC w5 w.heap.size (some ⟨g2, 0, none⟩) (k + 1) cap2 q 720 (upto (fun k => sumK f (k + 1)) (k + 1)) (bs ++ [b3])) := by
        show OwnC _ _ _ _ _ _ _ _ _
        rw [HU.out]
        exact HO3.out.push (Below.refl _ _) (HC3.out.mono (by omega)) hbA hown5 hgrow5
      have HC5 : Hid (Cnt w5 b3 q (60 * (k + 1)) (sumK f (k + 1))) := cnt_own (HC3.out.below hbA) (HO3.out.below hbA).own hgrow5
      have hrb : ∀ j, (Value.slice r k d).ownBlock = some j → w.heap.size ≤ j := fun j hj => (HO3.out.own.lt j hj).1
      have HB5 := Hid.mk ((B4.alloc B4.size _).grown hgrow5 (by have := B4.size; simp; omega) (fun j hj => hrb j hj))
      clear hown5 hgrow5 hat5 hlt5 HO HO3 hbA hrb B4 hcx
      go_wp2
      go_roundw
      case rel => exact ⟨k + 1, _, _, _, _, by omega, by go_num, rfl, rfl, HP.out, HC5.out, HB5.out⟩
      case measure => simp [intOf]; omega
    · obtain rfl : k = n := by omega
      go_wp2
      go_ret
      exact ⟨_, _, _, rfl, ho, hbw⟩

end Go.Proofs.YtlfljfmhhnoinabGreat

/- Plain: the product of two maps of weights, by what their rows make together. -/
namespace Go.Proofs.YtlfljfmhhnoinabGreat
open Go.RowKit Go.Maps

/-- What two arrays make together. -/
def mJ (p q : Nat) (ps : List (List Int)) (a c : List Int) : Option (List Int) := if joinOk (unr p a) (unr q c) ps = true then some (raised (joinZ (unr p a) (unr q c) (side ps 1))) else none
def oneK (o : Option (List Int)) (z : List Int) : Int := if o = some z then 1 else 0
def inK (m : List Int → List Int → Option (List Int)) (f : List Int → Int) (a : List Int) (ks : List (List Int)) (z : List Int) : Int := (ks.map fun c => f c * oneK (m a c) z).sum
def inY (m : List Int → List Int → Option (List Int)) (a : List Int) (ys : List WRow) (z : List Int) : Int := (ys.map fun t => t.2 * oneK (m a (raised t.1)) z).sum
def outK (m : List Int → List Int → Option (List Int)) (f : List Int → Int) (ys : List WRow) (ks : List (List Int)) (z : List Int) : Int := (ks.map fun a => f a * inY m a ys z).sum
def outX (m : List Int → List Int → Option (List Int)) (xs ys : List WRow) (z : List Int) : Int := (xs.map fun t => t.2 * inY m (raised t.1) ys z).sum

theorem mJ_raised {p q : Nat} {ps : List (List Int)} {xs ys : List Int} (hx : xs.length = p) (hy : ys.length = q) : mJ p q ps (raised xs) (raised ys) = if joinOk xs ys ps = true then some (raised (joinZ xs ys (side ps 1))) else none := by
  subst hx hy
  unfold mJ
  rw [unr_raised, unr_raised]

section
variable {m : List Int → List Int → Option (List Int)} {f g : List Int → Int} {a c z : List Int} {ks : List (List Int)} {ys : List WRow}
theorem inK_none (h : m a c = none) : inK m f a (c :: ks) z = inK m f a ks z := by
  simp [inK, h, oneK]
theorem inK_some {k : List Int} (h : m a c = some k) : inK m f a (c :: ks) z = inK m f a ks z + if z = k then f c else 0 := by
  unfold inK
  rw [List.map_cons, List.sum_cons, h]
  unfold oneK
  by_cases e : z = k
  · subst e; simp; omega
  · rw [if_neg (fun h => e (Option.some.inj h).symm), if_neg e]; omega
theorem inK_nil : inK m f a [] z = 0 := rfl
theorem outK_cons : outK m f ys (a :: ks) z = f a * inY m a ys z + outK m f ys ks z := by simp [outK]
/-- The inner loop is through. -/
theorem inK_all {q : Nat} (h : Tells q g ys) (hk : Keys q ks) (hn : ks.Nodup) (hz : ∀ zs, good zs = true → zs.length = q → raised zs ∉ ks → g (raised zs) = 0) : inK m g a ks z = inY m a ys z :=
  sum_tells h hk hn hz fun c => oneK (m a c) z
theorem outK_all {q : Nat} {xs : List WRow} (h : Tells q f xs) (hk : Keys q ks) (hn : ks.Nodup) (hz : ∀ zs, good zs = true → zs.length = q → raised zs ∉ ks → f (raised zs) = 0) : outK m f ys ks z = outX m xs ys z :=
  sum_tells h hk hn hz fun a => inY m a ys z
end

theorem mapIs_bump {D : DataW Unit} {G : List Int → Int} {S : List (List Int)} (hm : MapIs D G S) (hD : IsMap D) {k : List Int} (hk : Fits k) {cc v : Int} (hcc : D.atKey (klit k) (.lit (.int .i64 0)) = .lit (.int .i64 cc)) :
    cc = G k ∧ MapIs (D.put (klit k) (.lit (.int .i64 (cc + v)))) (fun z => G z + if z = k then v else 0) (k :: S) := by
  have h1 : cc = G k := hm.at hk hcc
  refine ⟨h1, (hm.put hD hk _).congr (fun z => ?_) rfl⟩
  by_cases e : z = k
  · subst e; simp [h1]
  · simp [e]

theorem sumW_append (l k : List WRow) (zs : List Int) : sumW (l ++ k) zs = sumW l zs + sumW k zs := by
  unfold sumW
  rw [List.map_append, List.sum_append]
section
variable {p q : Nat} {ps : List (List Int)} {zs : List Int}
theorem sumW_in (hz : good zs = true) (t : WRow) (ht : good t.1 = true ∧ t.1.length = p) : ∀ ys : List WRow, (∀ u ∈ ys, good u.1 = true ∧ u.1.length = q) → sumW (ys.filterMap (joinG ps t)) zs = t.2 * inY (mJ p q ps) (raised t.1) ys (raised zs)
  | [], _ => by simp [sumW, inY]
  | u :: ys, h => by
    have hu := h u (List.mem_cons_self ..)
    have ih := sumW_in hz t ht ys fun v hv => h v (List.mem_cons_of_mem _ hv)
    have e : inY (mJ p q ps) (raised t.1) (u :: ys) (raised zs) = u.2 * oneK (mJ p q ps (raised t.1) (raised u.1)) (raised zs) + inY (mJ p q ps) (raised t.1) ys (raised zs) := by simp [inY]
    rw [e, mJ_raised ht.2 hu.2]
    by_cases hj : joinOk t.1 u.1 ps = true
    · have hG : joinG ps t u = some (joinAns t.1 u.1 ps, t.2 * u.2) := by unfold joinG; rw [if_pos hj]
      have hjz : (joinZ t.1 u.1 (side ps 1)).length ≤ 6 := by
        simp only [joinOk, Bool.and_eq_true, decide_eq_true_eq] at hj
        exact hj.2
      have hgz : good (joinZ t.1 u.1 (side ps 1)) = true := by rw [good_joinZ ht.1 hu.1, decide_eq_true hjz]
      have hf : (u :: ys).filterMap (joinG ps t) = [(joinAns t.1 u.1 ps, t.2 * u.2)] ++ ys.filterMap (joinG ps t) := by rw [List.filterMap_cons, hG]; rfl
      rw [hf, sumW_append, ih, if_pos hj]
      have hs : sumW [(joinAns t.1 u.1 ps, t.2 * u.2)] zs = t.2 * (u.2 * oneK (some (raised (joinZ t.1 u.1 (side ps 1)))) (raised zs)) := by
        have ha : joinAns t.1 u.1 ps = joinZ t.1 u.1 (side ps 1) := by rw [joinAns, if_pos hj]
        rw [ha]
        unfold oneK
        by_cases e2 : joinZ t.1 u.1 (side ps 1) = zs
        · simp [sumW, e2]
        · have : raised (joinZ t.1 u.1 (side ps 1)) ≠ raised zs := fun h => e2 (raised_inj hgz hz h)
          simp [sumW, e2, this]
      rw [hs, Int.mul_add]
    · have hG : joinG ps t u = none := by unfold joinG; rw [if_neg hj]
      have hf : (u :: ys).filterMap (joinG ps t) = ys.filterMap (joinG ps t) := by rw [List.filterMap_cons, hG]
      rw [hf, if_neg hj]
      simp only [oneK]
      rw [ih]
      simp
theorem sumW_join (hz : good zs = true) : ∀ (xs ys : List WRow), (∀ t ∈ xs, good t.1 = true ∧ t.1.length = p) → (∀ u ∈ ys, good u.1 = true ∧ u.1.length = q) → sumW (joinL xs ys ps) zs = outX (mJ p q ps) xs ys (raised zs)
  | [], ys, _, _ => by simp [sumW, outX, joinL]
  | t :: xs, ys, h, k => by
    have ih := sumW_join hz xs ys (fun v hv => h v (List.mem_cons_of_mem _ hv)) k
    have e1 : joinL (t :: xs) ys ps = ys.filterMap (joinG ps t) ++ joinL xs ys ps := by simp [joinL]
    have e2 : outX (mJ p q ps) (t :: xs) ys (raised zs) = t.2 * inY (mJ p q ps) (raised t.1) ys (raised zs) + outX (mJ p q ps) xs ys (raised zs) := by simp [outX]
    rw [e1, e2, sumW_append, ih, sumW_in hz t (h t (List.mem_cons_self ..)) ys k]
theorem joinL_row {xs ys : List WRow} (h : ∀ t ∈ xs, good t.1 = true ∧ t.1.length = p) (k : ∀ u ∈ ys, good u.1 = true ∧ u.1.length = q) : ∀ t ∈ joinL xs ys ps, good t.1 = true ∧ t.1.length = joinC p q ps := fun t ht => by
  obtain ⟨a, ha, b, hb, hg⟩ := joinL_mem ht
  obtain ⟨h1, rfl⟩ := joinG_some hg
  have ga := h a ha
  have gb := k b hb
  have hj : (joinZ a.1 b.1 (side ps 1)).length ≤ 6 := by
    simp only [joinOk, Bool.and_eq_true, decide_eq_true_eq] at h1
    exact h1.2
  refine ⟨?_, ?_⟩
  · show good (joinZ a.1 b.1 (side ps 1)) = true
    rw [good_joinZ ga.1 gb.1, decide_eq_true hj]
  · show (joinZ a.1 b.1 (side ps 1)).length = _
    rw [joinZ_len, ga.2, gb.2]; simp [joinC]
theorem tells_prod {f g : List Int → Int} {xs ys : List WRow} (hx : Tells p f xs) (hy : Tells q g ys) : Tells (joinC p q ps) (outX (mJ p q ps) xs ys) (joinW xs ys ps) :=
  tells_put List.Pairwise.nil (fun t ht => by cases ht) (fun t ht => by cases ht) (joinL_row hx.rows hy.rows) fun zs h1 _ => by rw [sumW_join h1 xs ys hx.rows hy.rows, wOf_nil]; omega
/-- How great the weights of a join can be. -/
theorem lst_join {N N' : Nat} {B B' : Int} {xs ys : List WRow} (hx : Lst p N B xs) (hy : Lst q N' B' ys) (h0 : 0 ≤ B) (h0' : 0 ≤ B') : Lst (joinC p q ps) (N * N') (B * B' * (N * N' : Nat)) (joinW xs ys ps) := by
  have hlen : (joinL xs ys ps).length ≤ N * N' := Nat.le_trans (joinL_len xs ys ps) (Nat.mul_le_mul hx.len hy.len)
  have hrow := joinL_row (ps := ps) hx.rows hy.rows
  have hB := Int.mul_nonneg h0 h0'
  have hw : ∀ t ∈ joinL xs ys ps, -(B * B') ≤ t.2 ∧ t.2 ≤ B * B' := fun t ht => by
    obtain ⟨a, ha, b, hb, hg⟩ := joinL_mem ht
    obtain ⟨h1, rfl⟩ := joinG_some hg
    have ga := hx.within a ha
    have gb := hy.within b hb
    exact mul_in ga.1 ga.2 gb.1 gb.2
  refine ⟨?_, putAll_rises List.Pairwise.nil, putAll_nozero (fun t ht => by cases ht), fun t ht => ?_, fun t ht => ?_⟩
  · have := putAll_len (joinL xs ys ps) []
    simp only [List.length_nil] at this
    show (putAll [] (joinL xs ys ps)).length ≤ _
    omega
  · rcases putAll_rows ht with ⟨s, hs, e⟩ | ⟨s, hs, e⟩
    · cases hs
    · rw [← e]; exact hrow s hs
  · have hw2 := wOf_mem (putAll_rises (l := joinL xs ys ps) List.Pairwise.nil) ht
    rw [putAll_wOf t.1 List.Pairwise.nil, wOf_nil] at hw2
    have b2 := sumW_bound (zs := t.1) hB hw
    have b3 : B * B' * ((joinL xs ys ps).length : Int) ≤ B * B' * ((N * N' : Nat) : Int) := Int.mul_le_mul_of_nonneg_left (by exact_mod_cast hlen) hB
    constructor <;> omega
end

end Go.Proofs.YtlfljfmhhnoinabGreat

/- Contract of impl.rowOf. -/
namespace Go.Proofs.YtlfljfmhhnoinabGreat
open Go.RowKit

set_option maxHeartbeats 2000000 in
theorem rowOf_any (x0 x1 x2 x3 x4 x5 : Int) (zs : List Int) (n : Nat) (w : World) (hz : zs.length = n) (hg : good zs = true) (hr : raised zs = [x0, x1, x2, x3, x4, x5]) :
    Calls Tryz.prog 50 #[.agg #[.int .i64 x0, .int .i64 x1, .int .i64 x2, .int .i64 x3, .int .i64 x4, .int .i64 x5], .int .i64 n] w fun e w' => ∃ r d, e = .returned (.agg #[.slice r n d]) ∧
      w'.ownsRow w.heap.size 3 1 (.slice r n d) n (zs.map (.int .i64)) ∧ Below w.heap.size w w' := by
  have h6 : n ≤ 6 := by have := good_len hg; omega
  have HR := Hid.mk hr
  have HG := Hid.mk hg
  have HZ := Hid.mk hz
  clear hr hg hz
  have hn0 : (0 : Int) ≤ n := by omega
  have hn6 : (n : Int) ≤ 6 := by omega
  obtain ⟨i0, hi, hz0, hz1, hz2⟩ := info_parts Tryz.infoInt
  obtain ⟨W, hW⟩ : ∃ W, W = ((w.alloc (.cells #[.int .i64 x0, .int .i64 x1, .int .i64 x2, .int .i64 x3, .int .i64 x4, .int .i64 x5] 62)).alloc (.cells #[.slice none 0 0] 76)).alloc (.cells #[.slice none 0 0] 76) := ⟨_, rfl⟩
  have B : Below w.heap.size w W := by rw [hW]; exact (((Below.refl _ _).alloc (Nat.le_refl _) _).alloc (by simp) _).alloc (by simp; omega) _
  have A1 : Arr W w.heap.size 62 (raised zs) := by rw [hW, HR.out]; exact ((Arr.new rfl (by simp)).alloc _).alloc _
  have q1 : W.heap[w.heap.size + 1]? = some (.cells #[.slice none 0 0] 76 (0, 0)) := by
    rw [hW]
    refine (Below.heap_alloc _ _ _ (by simp)).trans ?_
    have := heap_alloc_new (w.alloc (.cells #[.int .i64 x0, .int .i64 x1, .int .i64 x2, .int .i64 x3, .int .i64 x4, .int .i64 x5] 62)) (.cells #[.slice none 0 0] 76)
    rwa [World.size_alloc] at this
  have c1 : W.cell? ⟨w.heap.size + 1, 0, none⟩ = some (.slice none 0 0) := by rw [cell_of_row W _ 0 _ _ (0, 0) q1]; rfl
  have f1 : W.frozen? ⟨w.heap.size + 1, 0, none⟩ = false := frozen_of_row W _ 0 _ _ q1
  clear q1
  have V0 : RowVar W (w.heap.size + 1 + 1) 76 (w.heap.size + 1 + 1 + 1) 3 none 0 0 (zs.take 0) := by rw [hW]; exact RowVar.new (by simp) (by omega)
  have zW : W.heap.size = w.heap.size + 1 + 1 + 1 := by rw [hW]; simp
  have hl6 := raised_length (good_len HG.out)
  go_enter Tryz.func50, Tryz.ntmps50
  go_wp2
  rw [← hW]
  clear hW
  go_loopw [11] (fun i wr => ∃ (k : Nat) (r : Option Addr) (d : Nat), k ≤ n ∧ i = .int .i64 k ∧ RowVar wr (w.heap.size + 1 + 1) 76 (w.heap.size + 1 + 1 + 1) 3 r k d (zs.take k) ∧ Below (w.heap.size + 1 + 1) W wr) (fun i _ => n - (intOf i).toNat)
  case atStart => exact ⟨0, none, 0, Nat.zero_le _, rfl, V0, Below.refl _ _⟩
  case round =>
    clear V0
    obtain ⟨k, r, d, hk, rfl, hv, hbw⟩ := hrel
    have zR : w.heap.size + 1 + 1 < wr.heap.size := by have := hbw.size; omega
    by_cases hlt : k < n
    · have hcx := (A1.below hbw (by omega)).cell k (by omega)
      have hgk := good_cell HG.out k (by have := HZ.out; omega)
      have hx : (raised zs).getD k 0 = zs.getD k 0 + 100001 := by
        have : k < zs.length := by have := HZ.out; omega
        simp [raised, List.getD, List.getElem?_append, this]
      rw [hx] at hcx
      have HS := Hid.mk (take_succ_getD zs k (by have := HZ.out; omega))
      obtain ⟨y, hy⟩ : ∃ y, y = zs.getD k 0 := ⟨_, rfl⟩
      rw [← hy] at hcx HS hgk
      obtain ⟨hy1, hy2⟩ := hgk
      have hki : (k : Int) < (n : Int) := by omega
      have hcr := hv.cell
      have hfr := hv.frozen
      clear hy hx A1 c1 f1
      go_wp2_with (at_builtin; refine wpList_append_lies _ rfl (.tmp 16) (.tmp 20) 41 rfl (w.heap.size + 1 + 1 + 1) 3 i0 (.int .i64 0) 1 8 Tryz.underlying41 hi hz0 hz1 hz2 rfl (by decide) _ _ _ rfl (hv.own.alloc _) ⟨wr.heap.size, 0, none⟩ 1 1 [.int .i64 y] (by simp [Act.eval]) rfl (by have q : y + 100001 - 100000 - 1 = y := (by omega); simpa [q] using news_at wr #[.int .i64 y] 3) (by simp; rfl) (by decide) (by unfold maxLen; omega) (by omega) (by simp; omega) (wr.heap.size + 1) (by simp) ?_; intro g2 cap2 w4 hown4 hgrow4 _ _; obtain ⟨t1, t2, hv4⟩ := hv.pushed hown4 hgrow4)
      have HB := Hid.mk (hv.pushed_below (v := .slice (some ⟨g2, 0, none⟩) (k + 1) cap2) hgrow4 hbw (Nat.le_refl _))
      rw [← HS.out] at hv4
      have HV := Hid.mk hv4
      clear hv4 hown4 hgrow4 hv hbw t1 t2
      go_roundw
      case rel => exact ⟨k + 1, _, _, by omega, by go_num, HV.out, HB.out⟩
      case measure => simp [intOf]; omega
    · obtain rfl : k = n := by omega
      have htk : zs.take k = zs := List.take_of_length_le (by have := HZ.out; omega)
      rw [htk] at hv
      clear htk
      have hcr := hv.cell
      have e1 := (hbw.cell (p := ⟨w.heap.size + 1, 0, none⟩) (by simp)).trans c1
      have e2 := (hbw.frozen (p := ⟨w.heap.size + 1, 0, none⟩) (by simp)).trans f1
      clear c1 f1 A1
      go_wp2
      refine bodyPost_ret (v := .agg #[.slice r k d]) (by simp [results, Tryz.results50, go_sem, e1]) rfl ⟨r, d, rfl, ?_, ?_⟩
      · exact owns_mono (ownsRow_setCell_below (base := w.heap.size + 1 + 1 + 1) hv.own (show w.heap.size + 1 < w.heap.size + 1 + 1 + 1 by omega) _) (by omega)
      · exact (B.trans (hbw.mono (by omega))).setCell (by simp) _

end Go.Proofs.YtlfljfmhhnoinabGreat
