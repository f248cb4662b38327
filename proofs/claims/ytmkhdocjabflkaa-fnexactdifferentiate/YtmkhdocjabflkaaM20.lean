/- Slices of maps of weights: what lies in memory, what is owned; contracts of impl.countsOfStream, impl.delayed, slices.Values. -/
import Derived.Test.YtmkhdocjabflkaaM14
import Derived.Test.YtmkhdocjabflkaaM19
import Derived.Test.YtmkhdocjabflkaaM12
import Derived.Deep.AppendLies
import Derived.WalkKit
import Derived.OwnWalkIn
import Derived.TacticsInMore
import Derived.LoopNIn
import Derived.LoopIn
namespace Go.Proofs.Ytmkhdocjabflkaa
open Go.RowKit Go.Shelf Go.Maps

def mapV (b : Nat) : Value := .map (some b)
abbrev bat (bs : List Nat) (i : Nat) : Nat := bs.getD i 0
theorem bat_left {bs bs' : List Nat} {i : Nat} (h : i < bs.length) : bat (bs ++ bs') i = bat bs i := by simp [bat, List.getD, List.getElem?_append_left h]
theorem bat_last (bs : List Nat) (b : Nat) : bat (bs ++ [b]) bs.length = b := by simp [bat, List.getD]
theorem lat_left {xs ys : List (List WRow)} {i : Nat} (h : i < xs.length) : lat (xs ++ ys) i = lat xs i := by simp [lat, List.getD, List.getElem?_append_left h]
theorem lat_last (xs : List (List WRow)) (x : List WRow) : lat (xs ++ [x]) xs.length = x := by simp [lat, List.getD]

/-- A slice of maps that tell the lists xss. -/
structure AtC (w : World) (a : Option Addr) (q M : Nat) (xss : List (List WRow)) (bs : List Nat) : Prop where
  len : bs.length = xss.length
  cells : xss = [] ∨ ∃ b off, a = some ⟨b, off, none⟩ ∧ ∀ i, i < xss.length → w.cell? ⟨b, off + i, none⟩ = some (.map (some (bat bs i)))
  each : ∀ i, i < xss.length → Cnt w (bat bs i) q M (lat xss i)
theorem AtC.below {w w' : World} {a : Option Addr} {q M : Nat} {xss : List (List WRow)} {bs : List Nat} (h : AtC w a q M xss bs) (hb : Below w.heap.size w w') : AtC w' a q M xss bs :=
  ⟨h.len, h.cells.imp id fun ⟨b, off, e, hc⟩ => ⟨b, off, e, fun i hi => cell_later hb (hc i hi)⟩, fun i hi => (h.each i hi).below hb⟩
/-- The same, the slice itself made by the call. -/
structure OwnC (w : World) (lo : Nat) (a : Option Addr) (n c : Nat) (q M : Nat) (xss : List (List WRow)) (bs : List Nat) : Prop where
  len : bs.length = n
  lenx : xss.length = n
  own : w.ownsRow lo 74 1 (.slice a n c) n (bs.map mapV)
  each : ∀ i, i < n → Cnt w (bat bs i) q M (lat xss i)
section
variable {w w' : World} {lo : Nat} {a : Option Addr} {n c q M : Nat} {xss : List (List WRow)} {bs : List Nat}
theorem OwnC.below (h : OwnC w lo a n c q M xss bs) (hb : Below w.heap.size w w') : OwnC w' lo a n c q M xss bs := ⟨h.len, h.lenx, owns_below h.own hb, fun i hi => (h.each i hi).below hb⟩
theorem OwnC.atC (h : OwnC w lo a n c q M xss bs) : AtC w a q M xss bs := by
  refine ⟨h.len.trans h.lenx.symm, ?_, fun i hi => h.each i (by rw [← h.lenx]; exact hi)⟩
  rcases h.own.2 with ⟨hv, h0⟩ | ⟨g, cap, cur, hv, _⟩
  · left
    have := h.lenx
    rw [h0] at this
    exact List.eq_nil_of_length_eq_zero this
  · simp only [Value.slice.injEq, true_and] at hv
    obtain ⟨rfl, rfl⟩ := hv
    refine .inr ⟨g, 0, rfl, fun i hi => ?_⟩
    rw [h.lenx] at hi
    rw [Nat.zero_add, h.own.cellAt i (by omega), List.getElem?_map]
    have : i < bs.length := by rw [h.len]; exact hi
    simp [mapV, bat, List.getD, this]
theorem OwnC.nil (w : World) (lo q M : Nat) : OwnC w lo none 0 0 q M [] [] := ⟨rfl, rfl, World.ownsRow_nil _ _ _ _, fun i hi => by omega⟩
theorem cnt_own {b s : Nat} {e : TypeId} {xs : List WRow} {cs : List Value} (hc : Cnt w b q M xs) (ho : w.ownsRow lo e s (.slice a n c) n cs) (hg : w.grownBy w' (Value.slice a n c).ownBlock) : Cnt w' b q M xs := by
  refine hc.grown hg (fun eq => ?_)
  obtain ⟨cnt, D, f, S, ⟨es, clock, hb, _⟩, _⟩ := hc
  rcases ho.2 with ⟨hv, _⟩ | ⟨g, cap, cur, hv, _, hh, _⟩
  · rw [hv] at eq; simp [Value.ownBlock] at eq
  · rw [hv] at eq
    simp [Value.ownBlock] at eq
    rw [eq, hh] at hb
    cases hb
theorem OwnC.push {w2 w3 w4 : World} {b g cap : Nat} {xs : List WRow} (h : OwnC w lo a n c q M xss bs) (hb : Below w.heap.size w w2) (hc : Cnt w2 b q M xs) (hb3 : Below w2.heap.size w2 w3)
    (hown : w4.ownsRow lo 74 1 (.slice (some ⟨g, 0, none⟩) (n + 1) cap) (n + 1) (bs.map mapV ++ [.map (some b)])) (hgr : w3.grownBy w4 (Value.slice a n c).ownBlock) :
    OwnC w4 lo (some ⟨g, 0, none⟩) (n + 1) cap q M (xss ++ [xs]) (bs ++ [b]) := by
  have h3 := (h.below hb).below hb3
  refine ⟨by simp [h.len], by simp [h.lenx], by rw [List.map_append]; exact hown, fun i hi => ?_⟩
  by_cases e : i = n
  · subst e
    rw [show bat (bs ++ [b]) i = b by rw [← h.len]; exact bat_last bs b, show lat (xss ++ [xs]) i = xs by rw [← h.lenx]; exact lat_last xss xs]
    exact cnt_own (hc.below hb3) h3.own hgr
  · rw [bat_left (by rw [h.len]; omega), lat_left (by rw [h.lenx]; omega)]
    exact cnt_own (h3.each i (by omega)) h3.own hgr
end
theorem Try.infoC : (Try.prog.info? 74).map (fun i => (i.zero, i.size, i.bytes)) = some (some (.map none), 1, 8) := by kernel_rfl
theorem Cnt.empty (w : World) (q M : Nat) : Cnt (w.alloc (.map #[] 0)) w.heap.size q M [] :=
  ⟨0, .map [], fun _ => 0, [], World.ownsMap_made _ _ _ _, MapIs.empty, fun a ha => (by cases ha), ⟨List.Pairwise.nil, fun t h => (by cases h), fun t h => (by cases h), fun _ _ _ => rfl⟩, Nat.zero_le _⟩

/-- What f tells of 0, 1 .. k - 1. -/
def upto (f : Nat → List WRow) (k : Nat) : List (List WRow) := (List.range k).map f
theorem upto_zero (f : Nat → List WRow) : upto f 0 = [] := rfl
theorem upto_succ (f : Nat → List WRow) (k : Nat) : upto f (k + 1) = upto f k ++ [f k] := by simp [upto, List.range_succ]
theorem upto_length (f : Nat → List WRow) (k : Nat) : (upto f k).length = k := by simp [upto]
theorem upto_at (f : Nat → List WRow) (n i : Nat) (h : i < n) : lat (upto f n) i = f i := by simp [upto, lat, List.getD, h]
/-- The list ahead of the k-th. -/
def prevK (f : Nat → List WRow) (k : Nat) : List WRow := if k = 0 then [] else f (k - 1)
theorem prevK_zero (f : Nat → List WRow) : prevK f 0 = [] := rfl
theorem prevK_succ (f : Nat → List WRow) (k : Nat) : prevK f (k + 1) = f k := by simp [prevK]

set_option maxRecDepth 100000 in
set_option maxHeartbeats 2000000 in
theorem countsOfStream_any (a : Option Addr) (n c q : Nat) (ss : List Tab) (p : Int) (w : World) (hs : SmU ss n) (hn : n ≤ 12) (hg : ∀ k, k < n → goodT q (tat ss k).2 = true) (ha : AtSM w a ss) :
    Calls Try.prog 78 #[.agg #[.int .i64 p, .slice a n c]] w fun e w' => ∃ r d bs, e = .returned (.slice r n d) ∧ OwnC w' w.heap.size r n d q 60 (upto (fun k => (tat ss k).2) n) bs ∧ Below w.heap.size w w' := by
  obtain ⟨i0, hi, hz0, hz1, hz2⟩ := info_parts Try.infoC
  have hz := hs.1
  obtain ⟨W, hW⟩ : ∃ W, W = w.alloc (.cells #[.int .i64 p, .slice a n c] 45) := ⟨_, rfl⟩
  have B0 : Below w.heap.size w W := by rw [hW]; exact (Below.refl _ _).alloc (Nat.le_refl _) _
  go_enter Try.func78, Try.ntmps78
  go_wp2
  rw [← hW]
  clear hW
  go_loopw [3, 9] (fun o i wr => ∃ (k : Nat) (r : Option Addr) (d : Nat) (bs : List Nat), k ≤ n ∧ i = .int .i64 k ∧ o = .slice r k d ∧ OwnC wr w.heap.size r k d q 60 (upto (fun k => (tat ss k).2) k) bs ∧ Below w.heap.size w wr) (fun _ i _ => n - (intOf i).toNat)
  case atStart => exact ⟨0, none, 0, [], Nat.zero_le _, rfl, rfl, OwnC.nil _ _ _ _, B0⟩
  case round =>
    obtain ⟨k, r, d, bs, hk, rfl, rfl, ho, hbw⟩ := hrel
    by_cases hlt : k < n
    · obtain ⟨b, off, rfl, hc⟩ := (ha.below hbw).some (by omega)
      obtain ⟨q', d', hcw, hcx, _, _, hat⟩ := hc k (by omega)
      have hgk := hg k hlt
      have HU := Hid.mk (upto_succ (fun k => (tat ss k).2) k)
      have hki : (k : Int) < (n : Int) := by omega
      generalize tat ss k = Y at *
      obtain ⟨x, us⟩ := Y
      simp only at hcw hcx hat hgk HU
      obtain ⟨m, hmm⟩ : ∃ m, us.length = m := ⟨_, rfl⟩
      rw [hmm] at hcx
      have HM := Hid.mk hmm
      have HG := Hid.mk hgk
      obtain ⟨V, hV⟩ : ∃ V, V = wr.alloc (.cells #[.int .i64 x, .slice q' m d'] 25) := ⟨_, rfl⟩
      have hbV : Below wr.heap.size wr V := by rw [hV]; exact (Below.refl _ _).alloc (Nat.le_refl _) _
      have HAV := (hat.below hbV).atW
      have B3 := hbw.trans (hbV.mono hbw.size)
      have HOV := Hid.mk (ho.below hbV)
      clear hc hmm hat hgk ho
      go_wp2_with (first
        | (go_at_call 48; rw [← hV]; clear hV hcw hcx; refine (countsOf_any _ _ _ q us _ _ HM.out HG.out HAV).mono ?_; rintro e w3 ⟨b3, rfl, hk3, hc3, hb3⟩; have B4 := B3.trans (hb3.mono B3.size); have HO3 := Hid.mk (HOV.out.below hb3); have HC3 := Hid.mk hc3; clear hc3 B3 hbV hb3)
        | (at_builtin; refine wpList_append_lies _ rfl (.tmp 13) (.tmp 16) 116 rfl w.heap.size 74 i0 (.map none) 1 8 Try.underlying116 hi hz0 hz1 hz2 rfl (by decide) (.slice r k d) k (bs.map mapV) rfl (HO3.out.own.alloc _) ⟨w3.heap.size, 0, none⟩ 1 1 [.map (some b3)] (by simp [Act.eval]) rfl (by simpa using news_at w3 #[.map (some b3)] 74) (by intro u hu; simp at hu; subst hu; rfl) (by decide) (by unfold maxLen; omega) (by omega) (by have := B4.size; simp; omega) (w3.heap.size + 1) (by simp) ?_; intro g2 cap2 w5 hown5 hgrow5 hat5 hlt5))
      have hbA : Below w3.heap.size w3 (w3.alloc (.cells #[.map (some b3)] 74)) := (Below.refl _ _).alloc (Nat.le_refl _) _
      have HP : Hid (OwnC w5 w.heap.size (some ⟨g2, 0, none⟩) (k + 1) cap2 q 60 (upto (fun k => (tat ss k).2) (k + 1)) (bs ++ [b3])) := by
        show OwnC _ _ _ _ _ _ _ _ _
        rw [HU.out]
        exact HO3.out.push (Below.refl _ _) HC3.out hbA hown5 hgrow5
      have hrb : ∀ j, (Value.slice r k d).ownBlock = some j → w.heap.size ≤ j := fun j hj => (HO3.out.own.lt j hj).1
      have HB5 := Hid.mk ((B4.alloc B4.size _).grown hgrow5 (by have := B4.size; simp; omega) (fun j hj => hrb j hj))
      clear hown5 hgrow5 hat5 hlt5 HO3 hbA hrb B4
      go_wp2
      go_roundw
      case rel => exact ⟨k + 1, _, _, _, by omega, by go_num, rfl, HP.out, HB5.out⟩
      case measure => simp [intOf]; omega
    · obtain rfl : k = n := by omega
      go_wp2
      go_ret
      exact ⟨_, _, _, rfl, ho, hbw⟩

set_option maxRecDepth 100000 in
set_option maxHeartbeats 2000000 in
theorem delayed_any (a : Option Addr) (n c q M : Nat) (f : Nat → List WRow) (bs0 : List Nat) (w : World) (hn : n ≤ 12) (ha : AtC w a q M (upto f n) bs0) :
    Calls Try.prog 83 #[.slice a n c] w fun e w' => ∃ r d bs, e = .returned (.slice r n d) ∧ OwnC w' w.heap.size r n d q M (upto (prevK f) n) bs ∧ Below w.heap.size w w' := by
  obtain ⟨i0, hi, hz0, hz1, hz2⟩ := info_parts Try.infoC
  have hmm := @run_makeMap Try.prog
  have B0 : Below w.heap.size w (w.alloc (.map #[] 0)) := (Below.refl _ _).alloc (Nat.le_refl _) _
  go_enter Try.func83, Try.ntmps83
  go_wp2
  go_loopw [3, 4, 10] (fun o h i wr => ∃ (k : Nat) (r : Option Addr) (d b : Nat) (bs : List Nat), k ≤ n ∧ i = .int .i64 k ∧ o = .slice r k d ∧ h = .map (some b) ∧ OwnC wr w.heap.size r k d q M (upto (prevK f) k) bs ∧ Cnt wr b q M (prevK f k) ∧ Below w.heap.size w wr) (fun _ _ i _ => n - (intOf i).toNat)
  case atStart => exact ⟨0, none, 0, w.heap.size, [], Nat.zero_le _, rfl, rfl, rfl, OwnC.nil _ _ _ _, by rw [prevK_zero]; exact Cnt.empty w q M, B0⟩
  case round =>
    obtain ⟨k, r, d, b, bs, hk, rfl, rfl, rfl, ho, hcn, hbw⟩ := hrel
    by_cases hlt : k < n
    · have ha2 := ha.below hbw
      have hun := upto_length f n
      obtain ⟨b0, off, rfl, hc⟩ : ∃ b0 off, a = some ⟨b0, off, none⟩ ∧ ∀ i, i < n → wr.cell? ⟨b0, off + i, none⟩ = some (.map (some (bat bs0 i))) := by
        rcases ha2.cells with h | ⟨b0, off, e, hc⟩
        · rw [h] at hun; simp at hun; omega
        · rw [hun] at hc; exact ⟨b0, off, e, hc⟩
      have hcx := hc k hlt
      have hce := ha2.each k (by rw [hun]; exact hlt)
      rw [upto_at f n k hlt] at hce
      have HU := Hid.mk (upto_succ (prevK f) k)
      have HPS := Hid.mk (prevK_succ f k)
      have hki : (k : Int) < (n : Int) := by omega
      have HCE := Hid.mk hce
      have HCN := Hid.mk hcn
      have HO := Hid.mk ho
      generalize bat bs0 k = b1 at *
      clear hc hce hcn ho ha2 hun
      go_wp2_with (at_builtin; refine wpList_append_lies _ rfl (.tmp 14) (.tmp 16) 116 rfl w.heap.size 74 i0 (.map none) 1 8 Try.underlying116 hi hz0 hz1 hz2 rfl (by decide) (.slice r k d) k (bs.map mapV) rfl (HO.out.own.alloc _) ⟨wr.heap.size, 0, none⟩ 1 1 [.map (some b)] (by simp [Act.eval]) rfl (by simpa using news_at wr #[.map (some b)] 74) (by intro u hu; simp at hu; subst hu; rfl) (by decide) (by unfold maxLen; omega) (by omega) (by have := hbw.size; simp; omega) (wr.heap.size + 1) (by simp) ?_; intro g2 cap2 w5 hown5 hgrow5 hat5 hlt5)
      have hbA : Below wr.heap.size wr (wr.alloc (.cells #[.map (some b)] 74)) := (Below.refl _ _).alloc (Nat.le_refl _) _
      have HP : Hid (OwnC w5 w.heap.size (some ⟨g2, 0, none⟩) (k + 1) cap2 q M (upto (prevK f) (k + 1)) (bs ++ [b])) := by
        show OwnC _ _ _ _ _ _ _ _ _
        rw [HU.out]
        exact HO.out.push (Below.refl _ _) HCN.out hbA hown5 hgrow5
      have HC5 : Hid (Cnt w5 b1 q M (prevK f (k + 1))) := by
        show Cnt _ _ _ _ _
        rw [HPS.out]
        exact cnt_own (HCE.out.below hbA) (HO.out.below hbA).own hgrow5
      have hrb : ∀ j, (Value.slice r k d).ownBlock = some j → w.heap.size ≤ j := fun j hj => (HO.out.own.lt j hj).1
      have HB5 := Hid.mk ((hbw.alloc hbw.size _).grown hgrow5 (by have := hbw.size; simp; omega) (fun j hj => hrb j hj))
      clear hown5 hgrow5 hat5 hlt5 HO hbA hrb hbw hcx
      go_wp2
      go_roundw
      case rel => exact ⟨k + 1, _, _, _, _, by omega, by go_num, rfl, rfl, HP.out, HC5.out, HB5.out⟩
      case measure => simp [intOf]; omega
    · obtain rfl : k = n := by omega
      go_wp2
      go_ret
      exact ⟨_, _, _, rfl, ho, hbw⟩

attribute [local go_sem] Oper.semAt_some in
set_option maxRecDepth 100000 in
set_option maxHeartbeats 2000000 in
theorem values1_hands (T : Nat) (a : Option Addr) (n c q M : Nat) (xss : List (List WRow)) (bs : List Nat) (w : World) (hz : xss.length = n) (hn : n ≤ 1048576) (hT : w.cell? ⟨T, 0, none⟩ = some (.slice a n c)) (ha : AtC w a q M xss bs) :
    HandsM Try.prog 124 #[.pointer (some ⟨T, 0, none⟩)] q M xss w := by
  intro n₀ l J Jx W h1 h2 hb hJ hJx hY h0
  refine callsIn_of_wp Try.func124 rfl trivial ?_
  simp only [Try.ntmps124, List.size_toArray, List.length_cons, List.length_nil, Nat.reduceAdd, Nat.reduceSub, Array.replicate_succ, Array.replicate_zero, List.push_toArray, List.append_toArray, List.nil_append, List.cons_append]
  have hTW := cell_later hb hT
  gi_wp2
  gi_loopw [7] (fun i wr => ∃ (k : Nat), k ≤ n ∧ i = .int .i64 k ∧ J k wr ∧ Below n₀ W wr) (fun i _ => n - (intOf i).toNat)
  case atStart => exact ⟨0, Nat.zero_le _, rfl, h0, Below.refl _ _⟩
  case round =>
    obtain ⟨k, hk, rfl, hj, hap⟩ := hrel
    by_cases hlt : k < n
    · have hbr : Below w.heap.size w wr := hb.trans (hap.mono h1)
      have ha2 := ha.below hbr
      obtain ⟨b0, off, rfl, hc⟩ : ∃ b0 off, a = some ⟨b0, off, none⟩ ∧ ∀ i, i < n → wr.cell? ⟨b0, off + i, none⟩ = some (.map (some (bat bs i))) := by
        rcases ha2.cells with h | ⟨b0, off, e, hc⟩
        · rw [h] at hz; simp at hz; omega
        · rw [hz] at hc; exact ⟨b0, off, e, hc⟩
      have hcx := hc k hlt
      have hce := ha2.each k (by omega)
      have hki : (k : Int) < (n : Int) := by omega
      obtain ⟨fn, tmps, assign, body, hy, hR⟩ := hY k wr (bat bs k) (by omega) hj hap hce
      generalize bat bs k = b1 at *
      clear hc ha2 hce
      gi_wp2
      refine ⟨rfl, hR.mono ?_⟩
      rintro e W3 ⟨hcase, hap3⟩
      have HA3 := Hid.mk (hap.trans hap3)
      rcases hcase with ⟨rfl, hJ3⟩ | ⟨rfl, hJ3⟩
      · have HJ3 := Hid.mk hJ3
        clear hJ3 hap3 hR hy hcx hap hj
        gi_wp2
        go_roundw
        case rel => exact ⟨k + 1, by omega, by go_num, HJ3.out, HA3.out⟩
        case measure => simp [intOf]; omega
      · have HJ3 := Hid.mk hJ3
        clear hJ3 hap3 hR hy hcx hap hj
        gi_wp2
        refine bodyPost_ret (results_none rfl _ _ _) rfl ?_
        exact ⟨⟨_, rfl⟩, .inr ⟨k, by omega, HJ3.out⟩, HA3.out⟩
    · obtain rfl : k = n := by omega
      gi_wp2
      go_end0
      rw [hz]
      exact ⟨⟨_, rfl⟩, .inl hj, hap⟩

theorem values_any (a : Option Addr) (n c : Nat) (w : World) :
    Calls Try.prog 76 #[.slice a n c] w fun e w' => e = .returned (.func (.func 124) #[] #[.pointer (some ⟨w.heap.size, 0, none⟩)]) ∧ w' = w.alloc (.cells #[.slice a n c] 116) := by
  go_enter Try.func76, Try.ntmps76
  go_wp2
  go_ret
  exact ⟨rfl, rfl⟩

end Go.Proofs.Ytmkhdocjabflkaa
