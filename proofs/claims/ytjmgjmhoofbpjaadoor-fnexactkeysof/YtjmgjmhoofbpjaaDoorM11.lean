/- Several texts of one proof, in build order: KeyC, KeyT, CovP, Plain, PlainT, PlainC. -/
import Derived.Test.YtjmgjmhoofbpjaaDoorM9
import Derived.Test.YtjmgjmhoofbpjaaDoorShelf
import Derived.Lib.QuietBelow
import Derived.Shelf.SlSortCmp.NoneTotal
import Derived.Test.YtjmgjmhoofbpjaaDoorM7
import Derived.Test.YtjmgjmhoofbpjaaDoorM0

/- The order by which partsOfSet sorts, as slices.SortFunc asks it. -/
namespace Go.Proofs.YtjmgjmhoofbpjaaDoor
open Go.RowKit

/-- By how many columns, then by the first number that is unlike. -/
def cfS (a b : Nat) : Int := if sgnI (pc a) (pc b) = 0 then lexI (bl a) (bl b) else sgnI (pc a) (pc b)
theorem drewn_of {w w' : World} (h : Below w.heap.size w w') (hd : w.drawn ≤ w'.drawn) : ∃ q os, w' = Go.Sort.grow (w.drewN q) os := by
  obtain ⟨p, hp⟩ := regrown_of_below h
  have h1 : w'.drawn = p.d := by rw [hp]; rfl
  have h3 : w.drawn ≤ p.d := by omega
  have h2 : redrawn w p.d = w.drewN (p.d - w.drawn) := by
    show ({ w with drawn := p.d } : World) = { w with drawn := w.drawn + (p.d - w.drawn) }
    rw [show w.drawn + (p.d - w.drawn) = p.d by omega]
  exact ⟨p.d - w.drawn, p.os, by rw [hp, h2]⟩

set_option maxRecDepth 100000 in
set_option maxHeartbeats 2000000 in
theorem cmpS_any (a b : Nat) (w : World) (ha : a < 64) (hb : b < 64) (ht : TabB w) :
    Calls Tryd.prog 67 #[.int .u64 (a : Nat), .int .u64 (b : Nat)] w fun e w' => e = .returned (.int .i64 (cfS a b)) ∧ ∃ q os, w' = Go.Sort.grow (w.drewN q) os := by
  have HT := Hid.mk ht
  clear ht
  go_enter Tryd.func67, Tryd.ntmps67
  go_wp2_with fail
  refine (ones_any a w ha).mono ?_
  rintro e w1 ⟨rfl, rfl⟩
  go_wp2_with fail
  refine (ones_any b _ hb).mono ?_
  rintro e w1 ⟨rfl, rfl⟩
  go_wp2_with fail
  refine (cmpI_any _ _ _).mono ?_
  rintro e w1 ⟨rfl, rfl⟩
  obtain ⟨S, hS⟩ : ∃ S, sgnI (pc a) (pc b) = S := ⟨_, rfl⟩
  have HS : Hid (cfS a b = if S = 0 then lexI (bl a) (bl b) else S) := by show _ = _; unfold cfS; rw [hS]
  rw [hS]
  clear hS
  go_wp2_with fail
  refine (list_drawn a _ ha HT.out).mono ?_
  rintro e w2 ⟨r2, m2, d2, rfl, hm2, ho2, hb2, hd2⟩
  have HO2 := Hid.mk ho2
  have HB2 := Hid.mk hb2
  have HD2 := Hid.mk hd2
  have HM2 := Hid.mk hm2
  clear ho2 hb2 hd2 hm2
  go_wp2_with fail
  refine (list_drawn b _ hb (TabIs.below HT.out HB2.out)).mono ?_
  rintro e w3 ⟨r3, m3, d3, rfl, hm3, ho3, hb3, hd3⟩
  have HO3 := Hid.mk ho3
  have HB3 := Hid.mk (HB2.out.trans (hb3.mono HB2.out.size))
  have HD3 := Hid.mk (Nat.le_trans HD2.out hd3)
  have KL := Hid.mk (lexI_any r2 m2 d2 (bl a) r3 m3 d3 (bl b) w3 HM2.out (by have h1 := bl_len a; have h2 := HM2.out; omega) (At.below (At.owned HO2.out) hb3) hm3 (by have h1 := bl_len b; omega) (At.owned ho3))
  obtain ⟨L, hL⟩ : ∃ L, lexI (bl a) (bl b) = L := ⟨_, rfl⟩
  rw [hL] at KL HS
  clear ho3 hb3 hd3 hm3 hL
  go_wp2_with fail
  refine KL.out.mono ?_
  rintro e w4 ⟨rfl, rfl⟩
  obtain ⟨W, hW⟩ : ∃ W, W = w4.alloc (.cells #[.int .i64 S, .int .i64 L] 3) := ⟨_, rfl⟩
  have q0 : W.cell? ⟨w4.heap.size, 0, none⟩ = some (.int .i64 S) := by rw [hW]; simp
  have q1 : W.cell? ⟨w4.heap.size, 1, none⟩ = some (.int .i64 L) := by rw [hW]; simp
  have KO := Hid.mk (or2_any w4.heap.size S L W q0 q1)
  have HBW : Hid (Below w1.heap.size w1 W) := by rw [hW]; exact HB3.out.alloc HB3.out.size _
  have HDW : Hid (w1.drawn ≤ W.drawn) := by rw [hW]; exact Hid.mk HD3.out
  clear q0 q1
  go_wp2_with fail
  rw [← hW]
  clear hW
  refine KO.out.mono ?_
  rintro e w5 ⟨rfl, rfl⟩
  rw [← HS.out]
  go_wp2
  go_ret
  exact ⟨rfl, drewn_of HBW.out HDW.out⟩

end Go.Proofs.YtjmgjmhoofbpjaaDoor

/- partsOfSet: the sets within one, in their order. -/
namespace Go.Proofs.YtjmgjmhoofbpjaaDoor
open Go.RowKit Go.Shelf Go.Sort

/-- All sets of six columns, in their order. -/
def L64 : List Nat := [0, 1, 2, 4, 8, 16, 32, 3, 5, 9, 17, 33, 6, 10, 18, 34, 12, 20, 36, 24, 40, 48, 7, 11, 19, 35, 13, 21, 37, 25, 41, 49, 14, 22, 38, 26, 42, 50, 28, 44, 52, 56, 15, 23, 39, 27, 43, 51, 29, 45, 53, 57, 30, 46, 54, 58, 60, 31, 47, 55, 59, 61, 62, 63]
theorem cf_rk : ∀ a : Nat, a < 64 → ∀ b : Nat, b < 64 → decide (cfS a b < 0) = decide (L64.idxOf a < L64.idxOf b) := by decide +kernel
theorem idx_inj : ∀ a : Nat, a < 64 → ∀ b : Nat, b < 64 → L64.idxOf a = L64.idxOf b → a = b := by decide +kernel

theorem pow64K {q : Nat} (h : q ≤ 6) : 2 ^ q ≤ 64 := by have : 2 ^ q ≤ 2 ^ 6 := Nat.pow_le_pow_right (by omega) h; omega
abbrev Set6 := Fin 64
def encS (x : Set6) : Value := .int .u64 (x.1 : Nat)
def cfF (x y : Set6) : Int := cfS x.1 y.1
theorem ltF (x y : Set6) : ltOf cfF x y = decide (L64.idxOf x.1 < L64.idxOf y.1) := cf_rk x.1 x.2 y.1 y.2
theorem swoF : SWO (ltOf cfF) where
  irrefl x := by rw [ltF]; simp
  trans x y z h1 h2 := by rw [ltF, decide_eq_true_eq] at *; omega
  ntrans x y z h1 h2 := by rw [ltF, decide_eq_false_iff_not] at *; omega
theorem totalF (x y : Set6) (h1 : ltOf cfF x y = false) (h2 : ltOf cfF y x = false) : x = y := by
  rw [ltF, decide_eq_false_iff_not] at h1 h2
  exact Fin.ext (idx_inj x.1 x.2 y.1 y.2 (by omega))

/-- The sets of q columns, by number; and in their order. -/
def allF (q : Nat) : List Set6 := (List.range (2 ^ q)).map (Fin.ofNat 64)
def ordF (q : Nat) : List Set6 := (L64.filter (· < 2 ^ q)).map (Fin.ofNat 64)
theorem ord_perm_all : ∀ q : Nat, q < 7 → (ordF q).isPerm (allF q) = true := by decide +kernel
theorem ord_len_all : ∀ q : Nat, q < 7 → (ordF q).length = 2 ^ q ∧ (allF q).length = 2 ^ q := by decide +kernel
theorem ord_rise_all : ∀ q : Nat, q < 7 → (ordF q).Pairwise fun x y => L64.idxOf x.1 < L64.idxOf y.1 := by decide +kernel
theorem ord_sort {q : Nat} (hq : q < 7) : (allF q).mergeSort (fun x y => !(ltOf cfF) y x) = ordF q := by
  have h1 := ord_len_all q hq
  have hp : (ordF q).Perm (allF q) := List.isPerm_iff.1 (ord_perm_all q hq)
  have := sorted_unique_holds (lt := ltOf cfF) swoF totalF (allF q).toArray (ordF q).toArray ⟨by simp [h1.1, h1.2], fun i hi => ?_, ?_⟩ (fun i j _ hij hj => ?_)
  · exact this.symm
  · rcases hi with hi | hi
    · omega
    · simp only [List.size_toArray, h1.2] at hi
      rw [getElem!_neg _ _ (by simp [h1.1]; omega), getElem!_neg _ _ (by simp [h1.2]; omega)]
  · have e1 : (ordF q).toArray.extract 0 (allF q).toArray.size = (ordF q).toArray := by
      rw [show (allF q).toArray.size = (ordF q).toArray.size by simp [h1.1, h1.2]]; exact Array.extract_size
    rw [e1, Array.extract_size]
    exact hp
  · simp only [List.size_toArray, h1.2] at hj
    have hr := List.pairwise_iff_getElem.1 (ord_rise_all q hq) i j (by omega) (by omega) hij
    rw [ltF, getElem!_pos _ _ (by simp [h1.1]; omega), getElem!_pos _ _ (by simp [h1.1]; omega)]
    simp only [List.getElem_toArray]
    exact decide_eq_false (by omega)

theorem TabB.of1 {w w' : World} (h : TabB w) (hb : w'.heap[1]? = w.heap[1]?) : TabB w' := by
  show Lib.TabIs _ _ _ _ _
  have h' : Lib.TabIs Tryd.prog w "math/bits.deBruijn64tab" .u8 deB := h
  unfold Lib.TabIs World.var? at h' ⊢
  rw [gTab] at h' ⊢
  simp only [Option.bind_some] at h' ⊢
  rw [hb]; exact h'

theorem sort_far {w : World} {g m : Nat} {d : Array Set6} {os : Array Obj} {k : Nat} (hk : k < w.heap.size) (hg : g ≠ k) : (sortWorld encS w g 0 m d os).heap[k]? = w.heap[k]? := by
  have hsz : (putRow encS (Sort.ahead w m) g 0 d).heap.size = w.heap.size := by simp [putRow, mapBlock, Sort.ahead]
  unfold sortWorld
  rw [heap_grow_old _ _ (by rw [hsz]; exact hk)]
  simp [putRow, mapBlock, Sort.ahead, Array.getElem?_modify, hg]

theorem laysF (g size : Nat) (w : World) (ht : TabB w) (h1 : 1 < w.heap.size) (hg : g ≠ 1) : CmpLays1 Tryd.prog 67 #[] encS cfF g 0 size w := fun _ _ _ _ x y =>
  cmpS_any x.1 y.1 _ x.2 y.2 (ht.of1 (sort_far h1 hg))

theorem holds_of_own {w : World} {base g n c : Nat} {e : TypeId} {ks : List Set6} (hn : ks.length = n) (h : w.ownsRow base e 1 (.slice (some ⟨g, 0, none⟩) n c) n (ks.map encS)) : Holds encS w g 0 ks.toArray := by
  intro j hj
  have hj' : j < n := by simpa [hn] using hj
  refine ⟨?_, by rw [Nat.zero_add]; exact h.frozenAt j⟩
  rw [Nat.zero_add, h.cellAt j (by omega), List.getElem?_map, List.getElem?_eq_getElem (by omega), getElem!_pos ks.toArray j hj]
  simp

theorem owns_sortedF {w : World} {base g n c m : Nat} {e : TypeId} {os : Array Obj} {ks ts : List Set6} (ht : ts.length = n) (h : w.ownsRow base e 1 (.slice (some ⟨g, 0, none⟩) n c) n (ks.map encS)) :
    (sortWorld encS w g 0 m ts.toArray os).ownsRow base e 1 (.slice (some ⟨g, 0, none⟩) n c) n (ts.map encS) ∧ w.grownBy (sortWorld encS w g 0 m ts.toArray os) (some g) := by
  rcases h.2 with ⟨hv, _⟩ | ⟨g', cap, cur, hv, hbase, hb, h1, h2, h3, h4⟩
  · simp at hv
  · simp only [Value.slice.injEq, Option.some.injEq, Addr.mk.injEq, and_true, true_and] at hv
    obtain ⟨rfl, rfl⟩ := hv
    have hg : g < w.heap.size := (Array.getElem?_eq_some_iff.1 hb).1
    have hsz : (putRow encS (Sort.ahead w m) g 0 ts.toArray).heap.size = w.heap.size := by simp [putRow, mapBlock, Sort.ahead]
    refine ⟨⟨by simp [ht], .inr ⟨g, c, putCells encS 0 ts.toArray cur, rfl, hbase, ?_, h1, h2, by simp [putCells, h3], ?_⟩⟩, rfl, rfl, rfl, ?_, fun k hk hne => sort_far hk (fun e => hne (by rw [e]))⟩
    · unfold sortWorld
      rw [heap_grow_old _ _ (by rw [hsz]; exact hg)]
      simp [putRow, mapBlock, Sort.ahead, Array.getElem?_modify, hb, onCells]
    · apply List.ext_getElem?
      intro j
      by_cases hj : j < n
      · have hjc : j < cur.size := by omega
        rw [List.getElem?_take_of_lt (by omega), Array.getElem?_toList, List.getElem?_map, List.getElem?_eq_getElem (by omega)]
        simp only [putCells, Array.getElem?_mapIdx, Array.getElem?_eq_getElem hjc, Option.map_some]
        rw [if_pos ⟨Nat.zero_le _, by simp; omega⟩]
        simp only [Nat.sub_zero]
        rw [getElem!_pos ts.toArray j (by simp; omega)]
        simp
      · rw [List.getElem?_eq_none (by rw [List.length_take]; omega), List.getElem?_eq_none (by simp; omega)]
    · unfold sortWorld
      simp [grow, hsz]

theorem sortC_any (g n cap base q : Nat) (e : TypeId) (w : World) (hq : q < 7) (hn : 2 ^ q = n) (ht : TabB w) (h1 : 1 < w.heap.size) (hg : g ≠ 1) (h : w.ownsRow base e 1 (.slice (some ⟨g, 0, none⟩) n cap) n ((allF q).map encS)) :
    Calls Tryd.prog 66 #[.slice (some ⟨g, 0, none⟩) n cap, .func (.func 67) #[] #[]] w fun e' w' => e' = .returned (.tuple #[]) ∧
      w'.ownsRow base e 1 (.slice (some ⟨g, 0, none⟩) n cap) n ((ordF q).map encS) ∧ w.grownBy w' (some g) := by
  have eg : ∀ args w, (callFunc 67 args).run Tryd.prog w = .ok (.enter 67 args) w := enters_of Tryd.func67 (by kernel_rfl) rfl
  have hl := ord_len_all q hq
  have hd : (allF q).toArray.size = n := by simp [hl.2, hn]
  have hn64 : n ≤ 64 := by rw [← hn]; exact pow64K (by omega)
  have hcon := Any.slices_SortFunc_total Tryd.sortC encS (fun _ => rfl) cfF swoF 67 #[] g 0 cap (allF q).toArray w eg (laysF g (allF q).toArray.size w ht h1 hg) (holds_of_own (hl.2.trans hn) h) ((h.lt g rfl).2) (by rw [hd]; omega) totalF
  rw [hd] at hcon
  refine Calls.mono hcon ?_
  rintro e' w' ⟨rfl, m, os, rfl⟩
  rw [show (allF q).toArray.toList = allF q from rfl, ord_sort hq]
  exact ⟨rfl, owns_sortedF (hl.1.trans hn) h⟩

end Go.Proofs.YtjmgjmhoofbpjaaDoor

/- Plain: covers over sets of columns. -/
namespace Go.Proofs.YtjmgjmhoofbpjaaDoor
open Go.RowKit

def addT (M : List (Nat × Nat)) (p : Nat × Nat) : List (Nat × Nat) := if p ∈ M then M else M ++ [p]
def partT (f : Nat) (M : List (Nat × Nat)) (ks : List Int) : List (Nat × Nat) := ks.foldl (fun M k => addT M (f, 2 ^ k.toNat)) M
def partD (M : List (Nat × Nat)) (d : Dep) : List (Nat × Nat) := partT (mk d.1) M d.2
def partA (l : List Dep) : List (Nat × Nat) := l.foldl partD []
/-- A set without a column. -/
def wo (f : Nat) (c : Int) : Nat := f &&& (18446744073709551615 - 2 ^ c.toNat)
def tatT (M : List (Nat × Nat)) (i : Nat) : Nat × Nat := M.getD i (0, 0)
noncomputable def lessC (i : Nat) (M : List (Nat × Nat)) (c : Int) : List (Nat × Nat) := if sb (tatT M i).2 (clo M (wo (tatT M i).1 c)) then M.set i (wo (tatT M i).1 c, (tatT M i).2) else M
noncomputable def lessL (i : Nat) (M : List (Nat × Nat)) (cs : List Int) : List (Nat × Nat) := cs.foldl (lessC i) M
noncomputable def lessI (M : List (Nat × Nat)) (i : Nat) : List (Nat × Nat) := lessL i M (bl (tatT M i).1)
noncomputable def lessA (M : List (Nat × Nat)) (k : Nat) : List (Nat × Nat) := (List.range k).foldl lessI M
noncomputable def dropG : Nat → Nat → List (Nat × Nat) → List (Nat × Nat)
  | 0, _, M => M
  | f + 1, i, M => if sb (tatT M i).2 (clo (M.eraseIdx i) (tatT M i).1) then dropG f i (M.eraseIdx i) else dropG f (i + 1) M
noncomputable def dropA (M : List (Nat × Nat)) : List (Nat × Nat) := dropG M.length 0 M
noncomputable def coverM (l : List Dep) : List (Nat × Nat) := dropA (lessA (partA l) (partA l).length)
noncomputable def covB (l : List Dep) (C : Int) : Bool := goodDeps l C && decide ((coverM l).length ≤ 10)
def und (p : Nat × Nat) : Dep := (bl p.1, bl p.2)
noncomputable def covL (l : List Dep) (C : Int) : List Dep := if covB l C then (coverM l).map und else []

/-- All sets within the first q columns. -/
def Lim (q : Nat) (M : List (Nat × Nat)) : Prop := ∀ p ∈ M, p.1 < 2 ^ q ∧ p.2 < 2 ^ q
theorem pow64 {q : Nat} (h : q ≤ 6) : 2 ^ q ≤ 64 := by have : 2 ^ q ≤ 2 ^ 6 := Nat.pow_le_pow_right (by omega) h; omega
theorem Lim.sets {q : Nat} {M : List (Nat × Nat)} (h : Lim q M) (hq : q ≤ 6) : Sets M := fun p hp => by have := h p hp; have := pow64 hq; omega
theorem addT_len (M : List (Nat × Nat)) (p : Nat × Nat) : (addT M p).length ≤ M.length + 1 := by unfold addT; split <;> simp
theorem Lim.add {q : Nat} {M : List (Nat × Nat)} {p : Nat × Nat} (h : Lim q M) (hp : p.1 < 2 ^ q ∧ p.2 < 2 ^ q) : Lim q (addT M p) := by
  unfold addT
  split
  · exact h
  · intro x hx
    simp only [List.mem_append, List.mem_singleton] at hx
    rcases hx with hx | rfl
    · exact h x hx
    · exact hp
theorem partT_take {f : Nat} {M : List (Nat × Nat)} {ks : List Int} {j : Nat} (h : j < ks.length) : partT f M (ks.take (j + 1)) = addT (partT f M (ks.take j)) (f, 2 ^ (ks.getD j 0).toNat) := by
  rw [take_succ_getD ks j h]; unfold partT; rw [List.foldl_append]; rfl
theorem partA_take {l : List Dep} {i : Nat} {d : Dep} (h : l[i]? = some d) : partA (l.take (i + 1)) = partD (partA (l.take i)) d := by
  obtain ⟨hi, rfl⟩ := List.getElem?_eq_some_iff.1 h
  rw [List.take_succ_eq_append_getElem hi]; unfold partA; rw [List.foldl_append]; rfl
theorem partT_len (f : Nat) (M : List (Nat × Nat)) (ks : List Int) : (partT f M ks).length ≤ M.length + ks.length := by
  unfold partT
  induction ks generalizing M with
  | nil => simp
  | cons k ks ih => rw [List.foldl_cons]; have := ih (addT M (f, 2 ^ k.toNat)); have := addT_len M (f, 2 ^ k.toNat); simp; omega
theorem partT_lim {q f : Nat} {M : List (Nat × Nat)} {ks : List Int} (h : Lim q M) (hf : f < 2 ^ q) (hk : ∀ k ∈ ks, 0 ≤ k ∧ k < (q : Int)) : Lim q (partT f M ks) := by
  unfold partT
  induction ks generalizing M with
  | nil => exact h
  | cons k ks ih =>
    rw [List.foldl_cons]
    have hk0 := hk k (by simp)
    exact ih (h.add ⟨hf, Nat.pow_lt_pow_right (by omega) (by omega)⟩) (fun x hx => hk x (by simp [hx]))
theorem mk_lim {q : Nat} {l : List Int} (h : ris (q : Int) l = true) : mk l < 2 ^ q := by
  refine Nat.lt_pow_two_of_testBit (n := q) _ fun i hi => ?_
  cases hb : (mk l).testBit i with
  | false => rfl
  | true =>
    have := ((risB_mem h).2 _ ((mk_bit l (ris_nonneg h) i).1 hb)).2
    omega
theorem ris_range {q : Nat} {l : List Int} (h : ris (q : Int) l = true) : ∀ x ∈ l, 0 ≤ x ∧ x < (q : Int) := fun x hx => ⟨ris_nonneg h x hx, ((risB_mem h).2 x hx).2⟩
theorem partA_ok {q : Nat} (hq : q ≤ 6) : ∀ (l : List Dep), (∀ d ∈ l, ris (q : Int) d.1 = true ∧ ris (q : Int) d.2 = true) → ∀ i, i ≤ l.length → Lim q (partA (l.take i)) ∧ (partA (l.take i)).length ≤ i * 6 := by
  intro l hl i
  induction i with
  | zero => intro _; exact ⟨fun p hp => by simp [partA] at hp, by simp [partA]⟩
  | succ i ih =>
    intro hi
    obtain ⟨h1, h2⟩ := ih (by omega)
    have hd := hl l[i] (List.getElem_mem _)
    rw [partA_take (List.getElem?_eq_getElem (by omega : i < l.length))]
    refine ⟨partT_lim h1 (mk_lim hd.1) (ris_range hd.2), ?_⟩
    have h3 := partT_len (mk (l[i]).1) (partA (l.take i)) (l[i]).2
    have h4 := (Told.of (by omega) hd.2).len
    unfold partD
    omega
theorem tatT_of {M : List (Nat × Nat)} {i : Nat} {p : Nat × Nat} (h : M[i]? = some p) : tatT M i = p := by simp [tatT, List.getD, h]
theorem wo_lt {f : Nat} (c : Int) {b : Nat} (h : f < b) : wo f c < b := Nat.lt_of_le_of_lt Nat.and_le_left h
theorem lessC_len (i : Nat) (M : List (Nat × Nat)) (c : Int) : (lessC i M c).length = M.length := by unfold lessC; split <;> simp
theorem lessC_lim {q i : Nat} {M : List (Nat × Nat)} (c : Int) (h : Lim q M) (hi : i < M.length) : Lim q (lessC i M c) := by
  unfold lessC
  split
  · have hp := h (tatT M i) (by rw [tatT_of (List.getElem?_eq_getElem hi)]; exact List.getElem_mem _)
    intro x hx
    rcases List.mem_or_eq_of_mem_set hx with hx | rfl
    · exact h x hx
    · exact ⟨wo_lt c hp.1, hp.2⟩
  · exact h
theorem lessL_take {i : Nat} {M : List (Nat × Nat)} {cs : List Int} {j : Nat} (h : j < cs.length) : lessL i M (cs.take (j + 1)) = lessC i (lessL i M (cs.take j)) (cs.getD j 0) := by
  rw [take_succ_getD cs j h]; unfold lessL; rw [List.foldl_append]; rfl
theorem lessL_len (i : Nat) (M : List (Nat × Nat)) (cs : List Int) : (lessL i M cs).length = M.length := by
  unfold lessL
  induction cs generalizing M with
  | nil => rfl
  | cons c cs ih => rw [List.foldl_cons, ih, lessC_len]
theorem lessL_lim {q i : Nat} {M : List (Nat × Nat)} (cs : List Int) (h : Lim q M) (hi : i < M.length) : Lim q (lessL i M cs) := by
  unfold lessL
  induction cs generalizing M with
  | nil => exact h
  | cons c cs ih => rw [List.foldl_cons]; exact ih (lessC_lim c h hi) (by rw [lessC_len]; exact hi)
theorem lessA_succ (M : List (Nat × Nat)) (k : Nat) : lessA M (k + 1) = lessI (lessA M k) k := by unfold lessA; rw [List.range_succ, List.foldl_append]; rfl
theorem lessA_ok {q : Nat} {M : List (Nat × Nat)} (h : Lim q M) : ∀ k, k ≤ M.length → Lim q (lessA M k) ∧ (lessA M k).length = M.length := by
  intro k
  induction k with
  | zero => intro _; exact ⟨h, rfl⟩
  | succ k ih =>
    intro hk
    obtain ⟨h1, h2⟩ := ih (by omega)
    rw [lessA_succ]
    unfold lessI
    exact ⟨lessL_lim _ h1 (by omega), by rw [lessL_len, h2]⟩
theorem dropG_end {f i : Nat} {M : List (Nat × Nat)} (h : M.length - i = f) (hi : ¬ i < M.length) : dropG f i M = M := by
  obtain rfl : f = 0 := by omega
  rfl
theorem dropG_yes {i : Nat} {M : List (Nat × Nat)} (hi : i < M.length) (h : sb (tatT M i).2 (clo (M.eraseIdx i) (tatT M i).1) = true) : dropG (M.length - i) i M = dropG ((M.eraseIdx i).length - i) i (M.eraseIdx i) := by
  obtain ⟨f, hf⟩ : ∃ f, M.length - i = f + 1 := ⟨M.length - i - 1, by omega⟩
  rw [hf, dropG, if_pos h, show (M.eraseIdx i).length - i = f by rw [List.length_eraseIdx, if_pos hi]; omega]
theorem dropG_no {i : Nat} {M : List (Nat × Nat)} (hi : i < M.length) (h : sb (tatT M i).2 (clo (M.eraseIdx i) (tatT M i).1) = false) : dropG (M.length - i) i M = dropG (M.length - (i + 1)) (i + 1) M := by
  obtain ⟨f, hf⟩ : ∃ f, M.length - i = f + 1 := ⟨M.length - i - 1, by omega⟩
  rw [hf, dropG, if_neg (by rw [h]; simp), show M.length - (i + 1) = f by omega]
theorem Lim.erase {q : Nat} {M : List (Nat × Nat)} (h : Lim q M) (i : Nat) : Lim q (M.eraseIdx i) := fun p hp => h p (List.mem_of_mem_eraseIdx hp)
theorem dropG_lim {q : Nat} : ∀ (f i : Nat) (M : List (Nat × Nat)), Lim q M → Lim q (dropG f i M)
  | 0, _, _, h => h
  | f + 1, i, M, h => by
    unfold dropG
    split
    · exact dropG_lim f i _ (h.erase i)
    · exact dropG_lim f (i + 1) _ h
theorem dropG_len : ∀ (f i : Nat) (M : List (Nat × Nat)), (dropG f i M).length ≤ M.length
  | 0, _, _ => Nat.le_refl _
  | f + 1, i, M => by
    unfold dropG
    split
    · have h1 := dropG_len f i (M.eraseIdx i)
      have h2 : (M.eraseIdx i).length ≤ M.length := by rw [List.length_eraseIdx]; split <;> omega
      omega
    · exact dropG_len f (i + 1) M
theorem ris_bl_all : ∀ q : Nat, q < 7 → ∀ s : Nat, s < 64 → s < 2 ^ q → ris (q : Int) (bl s) = true := by decide +kernel

end Go.Proofs.YtjmgjmhoofbpjaaDoor

/- Plain functions on lists of numbers: what the program's row functions answer. -/
namespace Go.Proofs.YtjmgjmhoofbpjaaDoor

def inb (z : Int) : Bool := decide (-100000 ≤ z) && decide (z ≤ 100000)
/-- A good row's cells. -/
def good (zs : List Int) : Bool := decide (zs.length ≤ 6) && zs.all inb

theorem good_len {zs : List Int} (h : good zs = true) : zs.length ≤ 6 := by simp [good] at h; exact h.1
theorem good_cell {zs : List Int} (h : good zs = true) (k : Nat) (hk : k < zs.length) : -100000 ≤ zs.getD k 0 ∧ zs.getD k 0 ≤ 100000 := by
  simp [good, inb] at h
  have := h.2 (zs[k]) (List.getElem_mem hk)
  simpa [List.getD, hk] using this
theorem good_long {zs : List Int} (h : 6 < zs.length) : good zs = false := by simp [good]; omega
theorem not_good_cell {zs : List Int} (k : Nat) (hk : k < zs.length) (h : zs.getD k 0 < -100000 ∨ 100000 < zs.getD k 0) : good zs = false := by
  cases hg : good zs with
  | false => rfl
  | true => have := good_cell hg k hk; omega
theorem good_of {zs : List Int} (hl : zs.length ≤ 6) (h : ∀ k, k < zs.length → -100000 ≤ zs.getD k 0 ∧ zs.getD k 0 ≤ 100000) : good zs = true := by
  simp only [good, Bool.and_eq_true, decide_eq_true_eq, List.all_eq_true, inb]
  refine ⟨hl, fun x hx => ?_⟩
  obtain ⟨k, hk, rfl⟩ := List.getElem_of_mem hx
  simpa [List.getD, hk] using h k hk

/-- Cell by cell; the first unlike one decides; a row that ends there is less. -/
def cmp : List Int → List Int → Int
  | [], [] => 0
  | [], _ :: _ => -1
  | _ :: _, [] => 1
  | x :: xs, y :: ys => if x < y then -1 else if y < x then 1 else cmp xs ys

theorem cmp_drop (xs ys : List Int) (k : Nat) (h1 : k < xs.length) (h2 : k < ys.length) :
    cmp (xs.drop k) (ys.drop k) = if xs.getD k 0 < ys.getD k 0 then -1 else if ys.getD k 0 < xs.getD k 0 then 1 else cmp (xs.drop (k + 1)) (ys.drop (k + 1)) := by
  rw [List.drop_eq_getElem_cons h1, List.drop_eq_getElem_cons h2, cmp]
  simp [List.getD, h1, h2]

theorem cmp_end (xs ys : List Int) (k : Nat) (h : k = xs.length ∨ k = ys.length) (h1 : k ≤ xs.length) (h2 : k ≤ ys.length) :
    cmp (xs.drop k) (ys.drop k) = if xs.length < ys.length then -1 else if ys.length < xs.length then 1 else 0 := by
  rcases h with rfl | rfl
  · rw [List.drop_length]
    by_cases e : xs.length = ys.length
    · rw [List.drop_eq_nil_of_le (by omega), if_neg (by omega), if_neg (by omega)]; rfl
    · rw [List.drop_eq_getElem_cons (by omega), if_pos (by omega)]; rfl
  · rw [List.drop_length]
    by_cases e : xs.length = ys.length
    · rw [List.drop_eq_nil_of_le (by omega), if_neg (by omega), if_neg (by omega)]; rfl
    · rw [List.drop_eq_getElem_cons (by omega), if_neg (by omega), if_pos (by omega)]; rfl

theorem cmp_self (xs : List Int) : cmp xs xs = 0 := by
  induction xs with
  | nil => rfl
  | cons x xs ih => simp [cmp, ih]

def good2 (xs ys : List Int) : Bool := good xs && good ys
def cmpAns (xs ys : List Int) : Int := if good xs && good ys then cmp xs ys else 0

/-- A cell's three bytes. -/
def cellNums (z : Int) : List Int := [(z + 100000) / 65536, (z + 100000) / 256 % 256, (z + 100000) % 256]
def rowNumsTo (zs : List Int) (k : Nat) : List Int := (zs.length : Int) :: (zs.take k).flatMap cellNums
def rowNums (zs : List Int) : List Int := (zs.length : Int) :: zs.flatMap cellNums

theorem take_snocD (zs : List Int) (k : Nat) (h : k < zs.length) : zs.take (k + 1) = zs.take k ++ [zs.getD k 0] := by
  rw [List.take_succ_eq_append_getElem h]; simp [List.getD, h]
theorem rowNumsTo_succ (zs : List Int) (k : Nat) (h : k < zs.length) : rowNumsTo zs (k + 1) = rowNumsTo zs k ++ cellNums (zs.getD k 0) := by
  unfold rowNumsTo
  rw [take_snocD zs k h, List.flatMap_append]
  simp only [List.flatMap_cons, List.flatMap_nil, List.append_nil, List.cons_append]
theorem rowNumsTo_all (zs : List Int) : rowNumsTo zs zs.length = rowNums zs := by simp [rowNumsTo, rowNums]
theorem rowNumsTo_length (zs : List Int) (k : Nat) (h : k ≤ zs.length) : (rowNumsTo zs k).length = 1 + 3 * k := by
  induction k with
  | zero => simp [rowNumsTo]
  | succ k ih => rw [rowNumsTo_succ zs k (by omega), List.length_append, ih (by omega)]; simp [cellNums]; omega

/-- The row itself where it is good, else the empty one. -/
def goodOr (zs : List Int) : List Int := if good zs then zs else []

def byt (s : ByteArray) (k : Nat) : Nat := (s.data.toList.getD k 0).toNat
/-- The j-th cell that a row's bytes tell. -/
def cellAt (s : ByteArray) (j : Nat) : Int := (byt s (1 + 3 * j) : Int) * 65536 + (byt s (1 + 3 * j + 1) : Int) * 256 + (byt s (1 + 3 * j + 2) : Int) - 100000
def cellsTo (s : ByteArray) (k : Nat) : List Int := (List.range k).map (cellAt s)
theorem byt_lt (s : ByteArray) (k : Nat) : byt s k < 256 := (s.data.toList.getD k 0).toNat_lt
theorem byt_at (s : ByteArray) (k : Nat) (h : k < s.size) : (s[k]'h).toNat = byt s k := by
  have h' : k < s.data.size := h
  unfold byt
  rw [show s.data.toList.getD k 0 = s[k] from by simp only [List.getD, Array.getElem?_toList, Array.getElem?_eq_getElem h', Option.getD_some]; rfl]
theorem cellsTo_succ (s : ByteArray) (k : Nat) : cellsTo s (k + 1) = cellsTo s k ++ [cellAt s k] := by simp [cellsTo, List.range_succ]
theorem cellsTo_length (s : ByteArray) (k : Nat) : (cellsTo s k).length = k := by simp [cellsTo]

/-- A good row's cells raised above 0, and 0 behind the last one. -/
def raised (zs : List Int) : List Int := zs.map (· + 100001) ++ List.replicate (6 - zs.length) 0

theorem cmp_raised' (xs : List Int) : ∀ (ys : List Int) (a b : Nat), (∀ x ∈ xs, -100000 ≤ x) → (∀ y ∈ ys, -100000 ≤ y) → xs.length + a = ys.length + b →
    cmp (xs.map (· + 100001) ++ List.replicate a 0) (ys.map (· + 100001) ++ List.replicate b 0) = cmp xs ys := by
  induction xs with
  | nil =>
    intro ys a b _ hy hl
    cases ys with
    | nil => simp at hl; subst hl; simp [cmp_self, cmp]
    | cons y ys =>
      obtain ⟨a', rfl⟩ : ∃ a', a = a' + 1 := ⟨a - 1, by simp at hl; omega⟩
      have := hy y (by simp)
      simp [List.replicate_succ, cmp]
      omega
  | cons x xs ih =>
    intro ys a b hx hy hl
    have h0 := hx x (by simp)
    cases ys with
    | nil =>
      obtain ⟨b', rfl⟩ : ∃ b', b = b' + 1 := ⟨b - 1, by simp at hl; omega⟩
      simp only [List.map_cons, List.cons_append, List.map_nil, List.nil_append, List.replicate_succ, cmp]
      rw [if_neg (by omega), if_pos (by omega)]
    | cons y ys =>
      have h1 := hy y (by simp)
      simp only [List.map_cons, List.cons_append, cmp]
      rw [ih ys a b (fun z hz => hx z (by simp [hz])) (fun z hz => hy z (by simp [hz])) (by simp at hl; omega)]
      by_cases e1 : x < y
      · rw [if_pos (by omega), if_pos e1]
      · rw [if_neg (by omega), if_neg e1]
        by_cases e2 : y < x
        · rw [if_pos (by omega), if_pos e2]
        · rw [if_neg (by omega), if_neg e2]

theorem good_mem {zs : List Int} (h : good zs = true) : ∀ z ∈ zs, -100000 ≤ z ∧ z ≤ 100000 := by
  simp only [good, Bool.and_eq_true, List.all_eq_true, inb, decide_eq_true_eq] at h
  exact h.2

theorem cmp_raised {xs ys : List Int} (hx : good xs = true) (hy : good ys = true) : cmp (raised xs) (raised ys) = cmp xs ys := by
  have h1 := good_len hx
  have h2 := good_len hy
  exact cmp_raised' xs ys _ _ (fun z hz => (good_mem hx z hz).1) (fun z hz => (good_mem hy z hz).1) (by omega)

/-- The array while it is filled. -/
def rowTo (zs : List Int) (k : Nat) : List Int := (zs.take k).map (· + 100001) ++ List.replicate (6 - k) 0

theorem rowTo_length (zs : List Int) (k : Nat) (h : k ≤ zs.length) (h6 : k ≤ 6) : (rowTo zs k).length = 6 := by simp [rowTo]; omega

theorem rowTo_set (zs : List Int) (k : Nat) (h : k < zs.length) (h6 : k < 6) : (rowTo zs k).set k (zs.getD k 0 + 100001) = rowTo zs (k + 1) := by
  unfold rowTo
  rw [List.set_append_right _ _ (by simp; omega)]
  rw [show k - (List.map (· + 100001) (List.take k zs)).length = 0 by simp; omega]
  rw [show 6 - k = (6 - (k + 1)) + 1 by omega, List.replicate_succ, List.set_cons_zero]
  rw [List.take_succ_eq_append_getElem h, List.map_append, List.append_assoc]
  simp [List.getD, h]

theorem rowTo_all (zs : List Int) : rowTo zs zs.length = raised zs := by simp [rowTo, raised]

theorem raised_length {zs : List Int} (h : zs.length ≤ 6) : (raised zs).length = 6 := by simp [raised]; omega

end Go.Proofs.YtjmgjmhoofbpjaaDoor

/- Plain functions on lists of weighted rows: what a good table is. -/
namespace Go.Proofs.YtjmgjmhoofbpjaaDoor

def inw (x : Int) : Bool := decide (-1000000 ≤ x) && decide (x ≤ 1000000)
def inc (p : Int) : Bool := decide (0 ≤ p) && decide (p ≤ 6)
/-- A row that may be handed in. -/
def goodW (p : Int) (t : WRow) : Bool := good t.1 && (decide ((t.1.length : Int) = p) && inw t.2)
/-- The k-th row may stand in a table. -/
def stepB (p : Int) (ts : List WRow) (k : Nat) : Bool := goodW p (wat ts k) && (!decide ((wat ts k).2 = 0) && (decide (k = 0) || decide (cmp (wat ts (k - 1)).1 (wat ts k).1 < 0)))
/-- A good table. -/
def goodT (p : Int) (ts : List WRow) : Bool := inc p && (decide (ts.length ≤ 60) && (List.range ts.length).all (stepB p ts))
def goodL (p : Int) (ts : List WRow) : Bool := ts.all (goodW p)

theorem goodW_cells {p : Int} {t : WRow} (h : goodW p t = true) : good t.1 = true ∧ (t.1.length : Int) = p ∧ -1000000 ≤ t.2 ∧ t.2 ≤ 1000000 := by
  simpa [goodW, inw] using h
theorem goodW_mk {p : Int} {t : WRow} (h1 : good t.1 = true) (h2 : (t.1.length : Int) = p) (h3 : inw t.2 = true) : goodW p t = true := by
  simp [goodW, h1, h2, h3]
theorem goodW_row {p : Int} {t : WRow} (h : good t.1 = false) : goodW p t = false := by simp [goodW, h]
theorem goodW_len {p : Int} {t : WRow} (h : (t.1.length : Int) ≠ p) : goodW p t = false := by simp [goodW, h]
theorem goodW_wt {p : Int} {t : WRow} (h : inw t.2 = false) : goodW p t = false := by simp [goodW, h]

theorem wat_mem {ts : List WRow} {k : Nat} (h : k < ts.length) : wat ts k ∈ ts := by
  rw [show wat ts k = ts[k] by simp [wat, List.getD, h]]; exact List.getElem_mem h

theorem goodL_of {p : Int} {ts : List WRow} (h : ∀ k, k < ts.length → goodW p (wat ts k) = true) : goodL p ts = true := by
  unfold goodL
  rw [List.all_eq_true]
  intro t ht
  obtain ⟨k, hk, rfl⟩ := List.getElem_of_mem ht
  simpa [wat, List.getD, hk] using h k hk
theorem goodL_at {p : Int} {ts : List WRow} (h : goodL p ts = true) (k : Nat) (hk : k < ts.length) : goodW p (wat ts k) = true := List.all_eq_true.1 h _ (wat_mem hk)
theorem goodL_not {p : Int} {ts : List WRow} (k : Nat) (hk : k < ts.length) (h : goodW p (wat ts k) = false) : goodL p ts = false := by
  cases hg : goodL p ts with
  | false => rfl
  | true => rw [goodL_at hg k hk] at h; cases h

theorem goodT_of {p : Int} {ts : List WRow} (h1 : inc p = true) (h2 : ts.length ≤ 60) (h : ∀ k, k < ts.length → stepB p ts k = true) : goodT p ts = true := by
  simp only [goodT, h1, decide_eq_true h2, Bool.true_and, List.all_eq_true, List.mem_range]; exact h
theorem goodT_parts {p : Int} {ts : List WRow} (h : goodT p ts = true) : inc p = true ∧ ts.length ≤ 60 ∧ ∀ k, k < ts.length → stepB p ts k = true := by
  simpa only [goodT, Bool.and_eq_true, decide_eq_true_eq, List.all_eq_true, List.mem_range] using h
theorem goodT_col {p : Int} {ts : List WRow} (h : inc p = false) : goodT p ts = false := by simp [goodT, h]
theorem goodT_len {p : Int} {ts : List WRow} (h : 60 < ts.length) : goodT p ts = false := by
  have : decide (ts.length ≤ 60) = false := by simp; omega
  simp [goodT, this]
theorem goodT_not {p : Int} {ts : List WRow} (k : Nat) (hk : k < ts.length) (h : stepB p ts k = false) : goodT p ts = false := by
  cases hg : goodT p ts with
  | false => rfl
  | true => rw [(goodT_parts hg).2.2 k hk] at h; cases h
theorem stepB_good {p : Int} {ts : List WRow} {k : Nat} (h : stepB p ts k = true) : goodW p (wat ts k) = true := by
  simp only [stepB, Bool.and_eq_true] at h; exact h.1
theorem stepB_row {p : Int} {ts : List WRow} {k : Nat} (h : goodW p (wat ts k) = false) : stepB p ts k = false := by simp only [stepB, h, Bool.false_and]
theorem stepB_zero {p : Int} {ts : List WRow} {k : Nat} (h : (wat ts k).2 = 0) : stepB p ts k = false := by simp only [stepB, h, decide_true, Bool.not_true, Bool.false_and, Bool.and_false]
theorem stepB_cmp {p : Int} {ts : List WRow} {k : Nat} (h0 : k ≠ 0) (h : ¬ cmp (wat ts (k - 1)).1 (wat ts k).1 < 0) : stepB p ts k = false := by
  simp only [stepB, decide_eq_false h0, decide_eq_false h, Bool.or_false, Bool.and_false]
theorem stepB_mk {p : Int} {ts : List WRow} {k : Nat} (h1 : goodW p (wat ts k) = true) (h2 : (wat ts k).2 ≠ 0) (h3 : k = 0 ∨ cmp (wat ts (k - 1)).1 (wat ts k).1 < 0) : stepB p ts k = true := by
  rcases h3 with h3 | h3 <;> simp only [stepB, h1, decide_eq_false h2, decide_eq_true h3, Bool.not_false, Bool.true_and, Bool.or_true, Bool.true_or]
theorem goodL_of_goodT {p : Int} {ts : List WRow} (h : goodT p ts = true) : goodL p ts = true := goodL_of fun k hk => stepB_good ((goodT_parts h).2.2 k hk)
theorem goodT_goodL {p : Int} {ts : List WRow} (h : goodL p ts = false) : goodT p ts = false := by
  cases hg : goodT p ts with
  | false => rfl
  | true => rw [goodL_of_goodT hg] at h; cases h
theorem inc_range {p : Int} (h : inc p = true) : 0 ≤ p ∧ p ≤ 6 := by simpa [inc] using h

/-- cmp tells -1, 0 or 1. -/
theorem cmp_range (xs : List Int) : ∀ ys, cmp xs ys = -1 ∨ cmp xs ys = 0 ∨ cmp xs ys = 1 := by
  induction xs with
  | nil => intro ys; cases ys <;> simp [cmp]
  | cons x xs ih =>
    intro ys
    cases ys with
    | nil => simp [cmp]
    | cons y ys =>
      simp only [cmp]
      by_cases h1 : x < y
      · simp [h1]
      · by_cases h2 : y < x
        · simp [h1, h2]
        · simp [h1, h2, ih ys]

end Go.Proofs.YtjmgjmhoofbpjaaDoor

/- Plain facts: cmp is an order of the rows; the rows of a good table rise; the weight of a row. -/
namespace Go.Proofs.YtjmgjmhoofbpjaaDoor

theorem cmp_eq {xs : List Int} : ∀ {ys : List Int}, cmp xs ys = 0 → xs = ys := by
  induction xs with
  | nil => intro ys h; cases ys with
    | nil => rfl
    | cons y ys => simp [cmp] at h
  | cons x xs ih =>
    intro ys h
    cases ys with
    | nil => simp [cmp] at h
    | cons y ys =>
      simp only [cmp] at h
      by_cases h1 : x < y
      · simp [h1] at h
      · by_cases h2 : y < x
        · simp [h1, h2] at h
        · simp only [if_neg h1, if_neg h2] at h
          obtain rfl : x = y := by omega
          rw [ih h]

theorem cmp_swap (xs : List Int) : ∀ ys, cmp ys xs = - cmp xs ys := by
  induction xs with
  | nil => intro ys; cases ys <;> simp [cmp]
  | cons x xs ih =>
    intro ys
    cases ys with
    | nil => simp [cmp]
    | cons y ys =>
      simp only [cmp]
      by_cases h1 : x < y
      · rw [if_neg (by omega), if_pos h1, if_pos h1]; rfl
      · by_cases h2 : y < x
        · rw [if_pos h2, if_neg h1, if_pos h2]
        · rw [if_neg h2, if_neg h1, if_neg h1, if_neg h2, ih ys]

theorem cmp_trans {xs : List Int} : ∀ {ys zs : List Int}, cmp xs ys < 0 → cmp ys zs < 0 → cmp xs zs < 0 := by
  induction xs with
  | nil =>
    intro ys zs h1 h2
    cases ys with
    | nil => simp [cmp] at h1
    | cons y ys => cases zs with
      | nil => simp [cmp] at h2
      | cons z zs => simp [cmp]
  | cons x xs ih =>
    intro ys zs h1 h2
    cases ys with
    | nil => simp [cmp] at h1
    | cons y ys => cases zs with
      | nil => simp [cmp] at h2
      | cons z zs =>
        simp only [cmp] at *
        by_cases a1 : x < y
        · by_cases a2 : y < z
          · rw [if_pos (by omega)]; omega
          · rw [if_neg a2] at h2
            by_cases a3 : z < y
            · rw [if_pos a3] at h2; omega
            · rw [if_pos (by omega)]; omega
        · rw [if_neg a1] at h1
          by_cases a1' : y < x
          · rw [if_pos a1'] at h1; omega
          · rw [if_neg a1'] at h1
            by_cases a2 : y < z
            · rw [if_pos (by omega)]; omega
            · rw [if_neg a2] at h2
              by_cases a3 : z < y
              · rw [if_pos a3] at h2; omega
              · rw [if_neg a3] at h2
                rw [if_neg (by omega), if_neg (by omega)]
                exact ih h1 h2

theorem cmp_irrefl (xs : List Int) : ¬ cmp xs xs < 0 := by rw [cmp_self]; omega
theorem cmp_ne {xs ys : List Int} (h : cmp xs ys < 0) : xs ≠ ys := fun e => by rw [e] at h; exact cmp_irrefl ys h

/-- Rows that rise. -/
def Rises (ts : List WRow) : Prop := ts.Pairwise fun s t => cmp s.1 t.1 < 0

theorem rises_of {ts : List WRow} (h : ∀ k, k + 1 < ts.length → cmp (wat ts k).1 (wat ts (k + 1)).1 < 0) : Rises ts := by
  induction ts with
  | nil => exact List.Pairwise.nil
  | cons t ts ih =>
    have ih' : Rises ts := ih fun k hk => by simpa [wat, List.getD] using h (k + 1) (by simpa using hk)
    refine List.pairwise_cons.2 ⟨fun s hs => ?_, ih'⟩
    cases ts with
    | nil => simp at hs
    | cons u us =>
      have h0 : cmp t.1 u.1 < 0 := by simpa [wat, List.getD] using h 0 (by simp)
      rcases List.mem_cons.1 hs with rfl | hs
      · exact h0
      · exact cmp_trans h0 ((List.pairwise_cons.1 ih').1 s hs)

theorem goodT_rises {p : Int} {ts : List WRow} (h : goodT p ts = true) : Rises ts := rises_of fun k hk => by
  have := (goodT_parts h).2.2 (k + 1) hk
  simp only [stepB, Bool.and_eq_true, Bool.or_eq_true, decide_eq_true_eq] at this
  rcases this.2.2 with h0 | h0
  · omega
  · simpa using h0

theorem raised_inj {xs ys : List Int} (hx : good xs = true) (hy : good ys = true) (h : raised xs = raised ys) : xs = ys := by
  apply cmp_eq
  rw [← cmp_raised hx hy, h, cmp_self]

/-- The weight of a row, 0 where it is not there. -/
def wOf (ts : List WRow) (zs : List Int) : Int := ((ts.find? fun t => decide (t.1 = zs)).map fun t => t.2).getD 0

theorem wOf_nil (zs : List Int) : wOf [] zs = 0 := rfl
theorem wOf_cons (t : WRow) (ts : List WRow) (zs : List Int) : wOf (t :: ts) zs = if t.1 = zs then t.2 else wOf ts zs := by
  unfold wOf
  by_cases e : t.1 = zs <;> simp [e]
theorem wOf_absent {ts : List WRow} {zs : List Int} (h : ∀ t ∈ ts, t.1 ≠ zs) : wOf ts zs = 0 := by
  induction ts with
  | nil => rfl
  | cons t ts ih => rw [wOf_cons, if_neg (h t (by simp))]; exact ih fun s hs => h s (by simp [hs])
theorem wOf_drop (ts : List WRow) (k : Nat) (zs : List Int) (h : k < ts.length) : wOf (ts.drop k) zs = if (wat ts k).1 = zs then (wat ts k).2 else wOf (ts.drop (k + 1)) zs := by
  rw [List.drop_eq_getElem_cons h, wOf_cons]
  simp [wat, List.getD, h]

end Go.Proofs.YtjmgjmhoofbpjaaDoor
