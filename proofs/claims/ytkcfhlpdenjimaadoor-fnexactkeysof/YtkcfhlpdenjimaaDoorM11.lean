/- Several texts of one proof, in build order: KeyC, KeyR, KeyT, CovP, OthI, KeyI, KeyJ. -/
import Derived.Test.YtkcfhlpdenjimaaDoorM9
import Derived.Test.YtkcfhlpdenjimaaDoorShelf
import Derived.Lib.QuietBelow
import Derived.Shelf.SlSortCmp.NoneTotal
import Derived.Test.YtkcfhlpdenjimaaDoorM4
import Derived.Test.YtkcfhlpdenjimaaDoorM7

/- The order by which partsOfSet sorts, as slices.SortFunc asks it. -/
namespace Go.Proofs.YtkcfhlpdenjimaaDoor
open Go.RowKit

/-- By how many columns, then by the first number that is unlike. -/
def cfS (a b : Nat) : Int := if sgnI (pc a) (pc b) = 0 then lexI (bl a) (bl b) else sgnI (pc a) (pc b)
theorem drewn_of {w w' : World} (h : Below w.heap.size w w') (hd : w.drawn ≤ w'.drawn) : ∃ q os, w' = Go.Sort.grow (w.drewN q) os := by
  obtain ⟨p, hp⟩ := regrown_of_below h
  have h1 : w'.drawn = p.d := by rw [hp]; rfl
  have h3 : w.drawn ≤ p.d := by omega
  have h2 : redrawn w p.d = w.drewN (p.d - w.drawn) := by
    show ({ w with drawn := p.d } : World) = { w with drawn := w.drawn + (p.d - w.drawn) }
    rw [show w.drawn + (p.d - w.drawn) = p.d by omega]
  exact ⟨p.d - w.drawn, p.os, by rw [hp, h2]⟩

set_option maxRecDepth 100000 in
set_option maxHeartbeats 2000000 in
theorem cmpS_any (a b : Nat) (w : World) (ha : a < 64) (hb : b < 64) (ht : TabB w) :
    Calls Tryd.prog 77 #[.int .u64 (a : Nat), .int .u64 (b : Nat)] w fun e w' => e = .returned (.int .i64 (cfS a b)) ∧ ∃ q os, w' = Go.Sort.grow (w.drewN q) os := by
  have HT := Hid.mk ht
  clear ht
  go_enter Tryd.func77, Tryd.ntmps77
  go_wp2_with fail
  refine (ones_any a w ha).mono ?_
  rintro e w1 ⟨rfl, rfl⟩
  go_wp2_with fail
  refine (ones_any b _ hb).mono ?_
  rintro e w1 ⟨rfl, rfl⟩
  go_wp2_with fail
  refine (cmpI_any _ _ _).mono ?_
  rintro e w1 ⟨rfl, rfl⟩
  obtain ⟨S, hS⟩ : ∃ S, sgnI (pc a) (pc b) = S := ⟨_, rfl⟩
  have HS : Hid (cfS a b = if S = 0 then lexI (bl a) (bl b) else S) := by show _ = _; unfold cfS; rw [hS]
  rw [hS]
  clear hS
  go_wp2_with fail
  refine (list_drawn a _ ha HT.out).mono ?_
  rintro e w2 ⟨r2, m2, d2, rfl, hm2, ho2, hb2, hd2⟩
  have HO2 := Hid.mk ho2
  have HB2 := Hid.mk hb2
  have HD2 := Hid.mk hd2
  have HM2 := Hid.mk hm2
  clear ho2 hb2 hd2 hm2
  go_wp2_with fail
  refine (list_drawn b _ hb (TabIs.below HT.out HB2.out)).mono ?_
  rintro e w3 ⟨r3, m3, d3, rfl, hm3, ho3, hb3, hd3⟩
  have HO3 := Hid.mk ho3
  have HB3 := Hid.mk (HB2.out.trans (hb3.mono HB2.out.size))
  have HD3 := Hid.mk (Nat.le_trans HD2.out hd3)
  have KL := Hid.mk (lexI_any r2 m2 d2 (bl a) r3 m3 d3 (bl b) w3 HM2.out (by have h1 := bl_len a; have h2 := HM2.out; omega) (At.below (At.owned HO2.out) hb3) hm3 (by have h1 := bl_len b; omega) (At.owned ho3))
  obtain ⟨L, hL⟩ : ∃ L, lexI (bl a) (bl b) = L := ⟨_, rfl⟩
  rw [hL] at KL HS
  clear ho3 hb3 hd3 hm3 hL
  go_wp2_with fail
  refine KL.out.mono ?_
  rintro e w4 ⟨rfl, rfl⟩
  obtain ⟨W, hW⟩ : ∃ W, W = w4.alloc (.cells #[.int .i64 S, .int .i64 L] 3) := ⟨_, rfl⟩
  have q0 : W.cell? ⟨w4.heap.size, 0, none⟩ = some (.int .i64 S) := by rw [hW]; simp
  have q1 : W.cell? ⟨w4.heap.size, 1, none⟩ = some (.int .i64 L) := by rw [hW]; simp
  have KO := Hid.mk (or2_any w4.heap.size S L W q0 q1)
  have HBW : Hid (Below w1.heap.size w1 W) := by rw [hW]; exact HB3.out.alloc HB3.out.size _
  have HDW : Hid (w1.drawn ≤ W.drawn) := by rw [hW]; exact Hid.mk HD3.out
  clear q0 q1
  go_wp2_with fail
  rw [← hW]
  clear hW
  refine KO.out.mono ?_
  rintro e w5 ⟨rfl, rfl⟩
  rw [← HS.out]
  go_wp2
  go_ret
  exact ⟨rfl, drewn_of HBW.out HDW.out⟩

end Go.Proofs.YtkcfhlpdenjimaaDoor

/- Plain: all sets of six columns in their order. -/
namespace Go.Proofs.YtkcfhlpdenjimaaDoor

/-- All sets of six columns, in their order. -/
def L64 : List Nat := [0, 1, 2, 4, 8, 16, 32, 3, 5, 9, 17, 33, 6, 10, 18, 34, 12, 20, 36, 24, 40, 48, 7, 11, 19, 35, 13, 21, 37, 25, 41, 49, 14, 22, 38, 26, 42, 50, 28, 44, 52, 56, 15, 23, 39, 27, 43, 51, 29, 45, 53, 57, 30, 46, 54, 58, 60, 31, 47, 55, 59, 61, 62, 63]

end Go.Proofs.YtkcfhlpdenjimaaDoor

/- partsOfSet: the sets within one, in their order. -/
namespace Go.Proofs.YtkcfhlpdenjimaaDoor
open Go.RowKit Go.Shelf Go.Sort

theorem cf_rk : ∀ a : Nat, a < 64 → ∀ b : Nat, b < 64 → decide (cfS a b < 0) = decide (L64.idxOf a < L64.idxOf b) := by decide +kernel
theorem idx_inj : ∀ a : Nat, a < 64 → ∀ b : Nat, b < 64 → L64.idxOf a = L64.idxOf b → a = b := by decide +kernel

theorem pow64K {q : Nat} (h : q ≤ 6) : 2 ^ q ≤ 64 := by have : 2 ^ q ≤ 2 ^ 6 := Nat.pow_le_pow_right (by omega) h; omega
abbrev Set6 := Fin 64
def encS (x : Set6) : Value := .int .u64 (x.1 : Nat)
def cfF (x y : Set6) : Int := cfS x.1 y.1
theorem ltF (x y : Set6) : ltOf cfF x y = decide (L64.idxOf x.1 < L64.idxOf y.1) := cf_rk x.1 x.2 y.1 y.2
theorem swoF : SWO (ltOf cfF) where
  irrefl x := by rw [ltF]; simp
  trans x y z h1 h2 := by rw [ltF, decide_eq_true_eq] at *; omega
  ntrans x y z h1 h2 := by rw [ltF, decide_eq_false_iff_not] at *; omega
theorem totalF (x y : Set6) (h1 : ltOf cfF x y = false) (h2 : ltOf cfF y x = false) : x = y := by
  rw [ltF, decide_eq_false_iff_not] at h1 h2
  exact Fin.ext (idx_inj x.1 x.2 y.1 y.2 (by omega))

/-- The sets of q columns, by number; and in their order. -/
def allF (q : Nat) : List Set6 := (List.range (2 ^ q)).map (Fin.ofNat 64)
def ordF (q : Nat) : List Set6 := (L64.filter (· < 2 ^ q)).map (Fin.ofNat 64)
theorem ord_perm_all : ∀ q : Nat, q < 7 → (ordF q).isPerm (allF q) = true := by decide +kernel
theorem ord_len_all : ∀ q : Nat, q < 7 → (ordF q).length = 2 ^ q ∧ (allF q).length = 2 ^ q := by decide +kernel
theorem ord_rise_all : ∀ q : Nat, q < 7 → (ordF q).Pairwise fun x y => L64.idxOf x.1 < L64.idxOf y.1 := by decide +kernel
theorem ord_sort {q : Nat} (hq : q < 7) : (allF q).mergeSort (fun x y => !(ltOf cfF) y x) = ordF q := by
  have h1 := ord_len_all q hq
  have hp : (ordF q).Perm (allF q) := List.isPerm_iff.1 (ord_perm_all q hq)
  have := sorted_unique_holds (lt := ltOf cfF) swoF totalF (allF q).toArray (ordF q).toArray ⟨by simp [h1.1, h1.2], fun i hi => ?_, ?_⟩ (fun i j _ hij hj => ?_)
  · exact this.symm
  · rcases hi with hi | hi
    · omega
    · simp only [List.size_toArray, h1.2] at hi
      rw [getElem!_neg _ _ (by simp [h1.1]; omega), getElem!_neg _ _ (by simp [h1.2]; omega)]
  · have e1 : (ordF q).toArray.extract 0 (allF q).toArray.size = (ordF q).toArray := by
      rw [show (allF q).toArray.size = (ordF q).toArray.size by simp [h1.1, h1.2]]; exact Array.extract_size
    rw [e1, Array.extract_size]
    exact hp
  · simp only [List.size_toArray, h1.2] at hj
    have hr := List.pairwise_iff_getElem.1 (ord_rise_all q hq) i j (by omega) (by omega) hij
    rw [ltF, getElem!_pos _ _ (by simp [h1.1]; omega), getElem!_pos _ _ (by simp [h1.1]; omega)]
    simp only [List.getElem_toArray]
    exact decide_eq_false (by omega)

theorem TabB.of1 {w w' : World} (h : TabB w) (hb : w'.heap[1]? = w.heap[1]?) : TabB w' := by
  show Lib.TabIs _ _ _ _ _
  have h' : Lib.TabIs Tryd.prog w "math/bits.deBruijn64tab" .u8 deB := h
  unfold Lib.TabIs World.var? at h' ⊢
  rw [gTab] at h' ⊢
  simp only [Option.bind_some] at h' ⊢
  rw [hb]; exact h'

theorem sort_far {w : World} {g m : Nat} {d : Array Set6} {os : Array Obj} {k : Nat} (hk : k < w.heap.size) (hg : g ≠ k) : (sortWorld encS w g 0 m d os).heap[k]? = w.heap[k]? := by
  have hsz : (putRow encS (Sort.ahead w m) g 0 d).heap.size = w.heap.size := by simp [putRow, mapBlock, Sort.ahead]
  unfold sortWorld
  rw [heap_grow_old _ _ (by rw [hsz]; exact hk)]
  simp [putRow, mapBlock, Sort.ahead, Array.getElem?_modify, hg]

theorem laysF (g size : Nat) (w : World) (ht : TabB w) (h1 : 1 < w.heap.size) (hg : g ≠ 1) : CmpLays1 Tryd.prog 77 #[] encS cfF g 0 size w := fun _ _ _ _ x y =>
  cmpS_any x.1 y.1 _ x.2 y.2 (ht.of1 (sort_far h1 hg))

theorem holds_of_own {w : World} {base g n c : Nat} {e : TypeId} {ks : List Set6} (hn : ks.length = n) (h : w.ownsRow base e 1 (.slice (some ⟨g, 0, none⟩) n c) n (ks.map encS)) : Holds encS w g 0 ks.toArray := by
  intro j hj
  have hj' : j < n := by simpa [hn] using hj
  refine ⟨?_, by rw [Nat.zero_add]; exact h.frozenAt j⟩
  rw [Nat.zero_add, h.cellAt j (by omega), List.getElem?_map, List.getElem?_eq_getElem (by omega), getElem!_pos ks.toArray j hj]
  simp

theorem owns_sortedF {w : World} {base g n c m : Nat} {e : TypeId} {os : Array Obj} {ks ts : List Set6} (ht : ts.length = n) (h : w.ownsRow base e 1 (.slice (some ⟨g, 0, none⟩) n c) n (ks.map encS)) :
    (sortWorld encS w g 0 m ts.toArray os).ownsRow base e 1 (.slice (some ⟨g, 0, none⟩) n c) n (ts.map encS) ∧ w.grownBy (sortWorld encS w g 0 m ts.toArray os) (some g) := by
  rcases h.2 with ⟨hv, _⟩ | ⟨g', cap, cur, hv, hbase, hb, h1, h2, h3, h4⟩
  · simp at hv
  · simp only [Value.slice.injEq, Option.some.injEq, Addr.mk.injEq, and_true, true_and] at hv
    obtain ⟨rfl, rfl⟩ := hv
    have hg : g < w.heap.size := (Array.getElem?_eq_some_iff.1 hb).1
    have hsz : (putRow encS (Sort.ahead w m) g 0 ts.toArray).heap.size = w.heap.size := by simp [putRow, mapBlock, Sort.ahead]
    refine ⟨⟨by simp [ht], .inr ⟨g, c, putCells encS 0 ts.toArray cur, rfl, hbase, ?_, h1, h2, by simp [putCells, h3], ?_⟩⟩, rfl, rfl, rfl, ?_, fun k hk hne => sort_far hk (fun e => hne (by rw [e]))⟩
    · unfold sortWorld
      rw [heap_grow_old _ _ (by rw [hsz]; exact hg)]
      simp [putRow, mapBlock, Sort.ahead, Array.getElem?_modify, hb, onCells]
    · apply List.ext_getElem?
      intro j
      by_cases hj : j < n
      · have hjc : j < cur.size := by omega
        rw [List.getElem?_take_of_lt (by omega), Array.getElem?_toList, List.getElem?_map, List.getElem?_eq_getElem (by omega)]
        simp only [putCells, Array.getElem?_mapIdx, Array.getElem?_eq_getElem hjc, Option.map_some]
        rw [if_pos ⟨Nat.zero_le _, by simp; omega⟩]
        simp only [Nat.sub_zero]
        rw [getElem!_pos ts.toArray j (by simp; omega)]
        simp
      · rw [List.getElem?_eq_none (by rw [List.length_take]; omega), List.getElem?_eq_none (by simp; omega)]
    · unfold sortWorld
      simp [grow, hsz]

theorem sortC_any (g n cap base q : Nat) (e : TypeId) (w : World) (hq : q < 7) (hn : 2 ^ q = n) (ht : TabB w) (h1 : 1 < w.heap.size) (hg : g ≠ 1) (h : w.ownsRow base e 1 (.slice (some ⟨g, 0, none⟩) n cap) n ((allF q).map encS)) :
    Calls Tryd.prog 76 #[.slice (some ⟨g, 0, none⟩) n cap, .func (.func 77) #[] #[]] w fun e' w' => e' = .returned (.tuple #[]) ∧
      w'.ownsRow base e 1 (.slice (some ⟨g, 0, none⟩) n cap) n ((ordF q).map encS) ∧ w.grownBy w' (some g) := by
  have eg : ∀ args w, (callFunc 77 args).run Tryd.prog w = .ok (.enter 77 args) w := enters_of Tryd.func77 (by kernel_rfl) rfl
  have hl := ord_len_all q hq
  have hd : (allF q).toArray.size = n := by simp [hl.2, hn]
  have hn64 : n ≤ 64 := by rw [← hn]; exact pow64K (by omega)
  have hcon := Any.slices_SortFunc_total Tryd.sortC encS (fun _ => rfl) cfF swoF 77 #[] g 0 cap (allF q).toArray w eg (laysF g (allF q).toArray.size w ht h1 hg) (holds_of_own (hl.2.trans hn) h) ((h.lt g rfl).2) (by rw [hd]; omega) totalF
  rw [hd] at hcon
  refine Calls.mono hcon ?_
  rintro e' w' ⟨rfl, m, os, rfl⟩
  rw [show (allF q).toArray.toList = allF q from rfl, ord_sort hq]
  exact ⟨rfl, owns_sortedF (hl.1.trans hn) h⟩

end Go.Proofs.YtkcfhlpdenjimaaDoor

/- Plain: covers over sets of columns. -/
namespace Go.Proofs.YtkcfhlpdenjimaaDoor
open Go.RowKit

def addT (M : List (Nat × Nat)) (p : Nat × Nat) : List (Nat × Nat) := if p ∈ M then M else M ++ [p]
def partT (f : Nat) (M : List (Nat × Nat)) (ks : List Int) : List (Nat × Nat) := ks.foldl (fun M k => addT M (f, 2 ^ k.toNat)) M
def partD (M : List (Nat × Nat)) (d : Dep) : List (Nat × Nat) := partT (mk d.1) M d.2
def partA (l : List Dep) : List (Nat × Nat) := l.foldl partD []
/-- A set without a column. -/
def wo (f : Nat) (c : Int) : Nat := f &&& (18446744073709551615 - 2 ^ c.toNat)
def tatT (M : List (Nat × Nat)) (i : Nat) : Nat × Nat := M.getD i (0, 0)
noncomputable def lessC (i : Nat) (M : List (Nat × Nat)) (c : Int) : List (Nat × Nat) := if sb (tatT M i).2 (clo M (wo (tatT M i).1 c)) then M.set i (wo (tatT M i).1 c, (tatT M i).2) else M
noncomputable def lessL (i : Nat) (M : List (Nat × Nat)) (cs : List Int) : List (Nat × Nat) := cs.foldl (lessC i) M
noncomputable def lessI (M : List (Nat × Nat)) (i : Nat) : List (Nat × Nat) := lessL i M (bl (tatT M i).1)
noncomputable def lessA (M : List (Nat × Nat)) (k : Nat) : List (Nat × Nat) := (List.range k).foldl lessI M
noncomputable def dropG : Nat → Nat → List (Nat × Nat) → List (Nat × Nat)
  | 0, _, M => M
  | f + 1, i, M => if sb (tatT M i).2 (clo (M.eraseIdx i) (tatT M i).1) then dropG f i (M.eraseIdx i) else dropG f (i + 1) M
noncomputable def dropA (M : List (Nat × Nat)) : List (Nat × Nat) := dropG M.length 0 M
noncomputable def coverM (l : List Dep) : List (Nat × Nat) := dropA (lessA (partA l) (partA l).length)
noncomputable def covB (l : List Dep) (C : Int) : Bool := goodDeps l C && decide ((coverM l).length ≤ 10)
def und (p : Nat × Nat) : Dep := (bl p.1, bl p.2)
noncomputable def covL (l : List Dep) (C : Int) : List Dep := if covB l C then (coverM l).map und else []

/-- All sets within the first q columns. -/
def Lim (q : Nat) (M : List (Nat × Nat)) : Prop := ∀ p ∈ M, p.1 < 2 ^ q ∧ p.2 < 2 ^ q
theorem pow64 {q : Nat} (h : q ≤ 6) : 2 ^ q ≤ 64 := by have : 2 ^ q ≤ 2 ^ 6 := Nat.pow_le_pow_right (by omega) h; omega
theorem Lim.sets {q : Nat} {M : List (Nat × Nat)} (h : Lim q M) (hq : q ≤ 6) : Sets M := fun p hp => by have := h p hp; have := pow64 hq; omega
theorem addT_len (M : List (Nat × Nat)) (p : Nat × Nat) : (addT M p).length ≤ M.length + 1 := by unfold addT; split <;> simp
theorem Lim.add {q : Nat} {M : List (Nat × Nat)} {p : Nat × Nat} (h : Lim q M) (hp : p.1 < 2 ^ q ∧ p.2 < 2 ^ q) : Lim q (addT M p) := by
  unfold addT
  split
  · exact h
  · intro x hx
    simp only [List.mem_append, List.mem_singleton] at hx
    rcases hx with hx | rfl
    · exact h x hx
    · exact hp
theorem partT_take {f : Nat} {M : List (Nat × Nat)} {ks : List Int} {j : Nat} (h : j < ks.length) : partT f M (ks.take (j + 1)) = addT (partT f M (ks.take j)) (f, 2 ^ (ks.getD j 0).toNat) := by
  rw [take_succ_getD ks j h]; unfold partT; rw [List.foldl_append]; rfl
theorem partA_take {l : List Dep} {i : Nat} {d : Dep} (h : l[i]? = some d) : partA (l.take (i + 1)) = partD (partA (l.take i)) d := by
  obtain ⟨hi, rfl⟩ := List.getElem?_eq_some_iff.1 h
  rw [List.take_succ_eq_append_getElem hi]; unfold partA; rw [List.foldl_append]; rfl
theorem partT_len (f : Nat) (M : List (Nat × Nat)) (ks : List Int) : (partT f M ks).length ≤ M.length + ks.length := by
  unfold partT
  induction ks generalizing M with
  | nil => simp
  | cons k ks ih => rw [List.foldl_cons]; have := ih (addT M (f, 2 ^ k.toNat)); have := addT_len M (f, 2 ^ k.toNat); simp; omega
theorem partT_lim {q f : Nat} {M : List (Nat × Nat)} {ks : List Int} (h : Lim q M) (hf : f < 2 ^ q) (hk : ∀ k ∈ ks, 0 ≤ k ∧ k < (q : Int)) : Lim q (partT f M ks) := by
  unfold partT
  induction ks generalizing M with
  | nil => exact h
  | cons k ks ih =>
    rw [List.foldl_cons]
    have hk0 := hk k (by simp)
    exact ih (h.add ⟨hf, Nat.pow_lt_pow_right (by omega) (by omega)⟩) (fun x hx => hk x (by simp [hx]))
theorem mk_lim {q : Nat} {l : List Int} (h : ris (q : Int) l = true) : mk l < 2 ^ q := by
  refine Nat.lt_pow_two_of_testBit (n := q) _ fun i hi => ?_
  cases hb : (mk l).testBit i with
  | false => rfl
  | true =>
    have := ((risB_mem h).2 _ ((mk_bit l (ris_nonneg h) i).1 hb)).2
    omega
theorem ris_range {q : Nat} {l : List Int} (h : ris (q : Int) l = true) : ∀ x ∈ l, 0 ≤ x ∧ x < (q : Int) := fun x hx => ⟨ris_nonneg h x hx, ((risB_mem h).2 x hx).2⟩
theorem partA_ok {q : Nat} (hq : q ≤ 6) : ∀ (l : List Dep), (∀ d ∈ l, ris (q : Int) d.1 = true ∧ ris (q : Int) d.2 = true) → ∀ i, i ≤ l.length → Lim q (partA (l.take i)) ∧ (partA (l.take i)).length ≤ i * 6 := by
  intro l hl i
  induction i with
  | zero => intro _; exact ⟨fun p hp => by simp [partA] at hp, by simp [partA]⟩
  | succ i ih =>
    intro hi
    obtain ⟨h1, h2⟩ := ih (by omega)
    have hd := hl l[i] (List.getElem_mem _)
    rw [partA_take (List.getElem?_eq_getElem (by omega : i < l.length))]
    refine ⟨partT_lim h1 (mk_lim hd.1) (ris_range hd.2), ?_⟩
    have h3 := partT_len (mk (l[i]).1) (partA (l.take i)) (l[i]).2
    have h4 := (Told.of (by omega) hd.2).len
    unfold partD
    omega
theorem tatT_of {M : List (Nat × Nat)} {i : Nat} {p : Nat × Nat} (h : M[i]? = some p) : tatT M i = p := by simp [tatT, List.getD, h]
theorem wo_lt {f : Nat} (c : Int) {b : Nat} (h : f < b) : wo f c < b := Nat.lt_of_le_of_lt Nat.and_le_left h
theorem lessC_len (i : Nat) (M : List (Nat × Nat)) (c : Int) : (lessC i M c).length = M.length := by unfold lessC; split <;> simp
theorem lessC_lim {q i : Nat} {M : List (Nat × Nat)} (c : Int) (h : Lim q M) (hi : i < M.length) : Lim q (lessC i M c) := by
  unfold lessC
  split
  · have hp := h (tatT M i) (by rw [tatT_of (List.getElem?_eq_getElem hi)]; exact List.getElem_mem _)
    intro x hx
    rcases List.mem_or_eq_of_mem_set hx with hx | rfl
    · exact h x hx
    · exact ⟨wo_lt c hp.1, hp.2⟩
  · exact h
theorem lessL_take {i : Nat} {M : List (Nat × Nat)} {cs : List Int} {j : Nat} (h : j < cs.length) : lessL i M (cs.take (j + 1)) = lessC i (lessL i M (cs.take j)) (cs.getD j 0) := by
  rw [take_succ_getD cs j h]; unfold lessL; rw [List.foldl_append]; rfl
theorem lessL_len (i : Nat) (M : List (Nat × Nat)) (cs : List Int) : (lessL i M cs).length = M.length := by
  unfold lessL
  induction cs generalizing M with
  | nil => rfl
  | cons c cs ih => rw [List.foldl_cons, ih, lessC_len]
theorem lessL_lim {q i : Nat} {M : List (Nat × Nat)} (cs : List Int) (h : Lim q M) (hi : i < M.length) : Lim q (lessL i M cs) := by
  unfold lessL
  induction cs generalizing M with
  | nil => exact h
  | cons c cs ih => rw [List.foldl_cons]; exact ih (lessC_lim c h hi) (by rw [lessC_len]; exact hi)
theorem lessA_succ (M : List (Nat × Nat)) (k : Nat) : lessA M (k + 1) = lessI (lessA M k) k := by unfold lessA; rw [List.range_succ, List.foldl_append]; rfl
theorem lessA_ok {q : Nat} {M : List (Nat × Nat)} (h : Lim q M) : ∀ k, k ≤ M.length → Lim q (lessA M k) ∧ (lessA M k).length = M.length := by
  intro k
  induction k with
  | zero => intro _; exact ⟨h, rfl⟩
  | succ k ih =>
    intro hk
    obtain ⟨h1, h2⟩ := ih (by omega)
    rw [lessA_succ]
    unfold lessI
    exact ⟨lessL_lim _ h1 (by omega), by rw [lessL_len, h2]⟩
theorem dropG_end {f i : Nat} {M : List (Nat × Nat)} (h : M.length - i = f) (hi : ¬ i < M.length) : dropG f i M = M := by
  obtain rfl : f = 0 := by omega
  rfl
theorem dropG_yes {i : Nat} {M : List (Nat × Nat)} (hi : i < M.length) (h : sb (tatT M i).2 (clo (M.eraseIdx i) (tatT M i).1) = true) : dropG (M.length - i) i M = dropG ((M.eraseIdx i).length - i) i (M.eraseIdx i) := by
  obtain ⟨f, hf⟩ : ∃ f, M.length - i = f + 1 := ⟨M.length - i - 1, by omega⟩
  rw [hf, dropG, if_pos h, show (M.eraseIdx i).length - i = f by rw [List.length_eraseIdx, if_pos hi]; omega]
theorem dropG_no {i : Nat} {M : List (Nat × Nat)} (hi : i < M.length) (h : sb (tatT M i).2 (clo (M.eraseIdx i) (tatT M i).1) = false) : dropG (M.length - i) i M = dropG (M.length - (i + 1)) (i + 1) M := by
  obtain ⟨f, hf⟩ : ∃ f, M.length - i = f + 1 := ⟨M.length - i - 1, by omega⟩
  rw [hf, dropG, if_neg (by rw [h]; simp), show M.length - (i + 1) = f by omega]
theorem Lim.erase {q : Nat} {M : List (Nat × Nat)} (h : Lim q M) (i : Nat) : Lim q (M.eraseIdx i) := fun p hp => h p (List.mem_of_mem_eraseIdx hp)
theorem dropG_lim {q : Nat} : ∀ (f i : Nat) (M : List (Nat × Nat)), Lim q M → Lim q (dropG f i M)
  | 0, _, _, h => h
  | f + 1, i, M, h => by
    unfold dropG
    split
    · exact dropG_lim f i _ (h.erase i)
    · exact dropG_lim f (i + 1) _ h
theorem dropG_len : ∀ (f i : Nat) (M : List (Nat × Nat)), (dropG f i M).length ≤ M.length
  | 0, _, _ => Nat.le_refl _
  | f + 1, i, M => by
    unfold dropG
    split
    · have h1 := dropG_len f i (M.eraseIdx i)
      have h2 : (M.eraseIdx i).length ≤ M.length := by rw [List.length_eraseIdx]; split <;> omega
      omega
    · exact dropG_len f (i + 1) M
theorem ris_bl_all : ∀ q : Nat, q < 7 → ∀ s : Nat, s < 64 → s < 2 ^ q → ris (q : Int) (bl s) = true := by decide +kernel

end Go.Proofs.YtkcfhlpdenjimaaDoor

/- Contract of columnSet.others. -/
namespace Go.Proofs.YtkcfhlpdenjimaaDoor
open Go.RowKit

/-- What of the first q columns is not in T. -/
def oth (q T : Nat) : Nat := (2 ^ q - 1) &&& (18446744073709551615 - T)
theorem others_any (T q : Nat) (w : World) (hT : T < 64) (hq : q ≤ 6) :
    Calls Tryd.prog 49 #[.int .u64 (T : Nat), .int .i64 (q : Nat)] w fun e w' => e = .returned (.int .u64 (oth q T : Nat)) ∧ w' = w := by
  have h2 : 2 ^ q ≤ 64 := by have : 2 ^ q ≤ 2 ^ 6 := Nat.pow_le_pow_right (by omega) hq; omega
  have h1 : 1 ≤ 2 ^ q := Nat.one_le_two_pow
  have e1 : IntKind.u64.wrap (2 ^ q) = ((2 ^ q : Nat) : Int) := by
    have := wrap64_small (n := 2 ^ q) (by omega)
    rw [← this]; congr 1
  have e2 : IntKind.u64.wrap (((2 ^ q : Nat) : Int) - 1) = ((2 ^ q - 1 : Nat) : Int) := by
    rw [show ((2 ^ q : Nat) : Int) - 1 = ((2 ^ q - 1 : Nat) : Int) by omega]; exact wrap64_small (by omega)
  have e3 := u64_andNot_nat (2 ^ q - 1) T (by omega) (by omega)
  have e4 : bits .andNot .u64 (IntKind.u64.wrap (IntKind.u64.wrap (2 ^ q) - 1)) (T : Int) = (oth q T : Int) := by rw [e1, e2, e3]; rfl
  have H4 := Hid.mk e4
  clear e1 e2 e3 e4
  go_enter Tryd.func49, Tryd.ntmps49
  go_wp2
  go_ret
  refine ⟨?_, rfl⟩
  rw [← H4.out]
  rfl


end Go.Proofs.YtkcfhlpdenjimaaDoor

/- Contracts of partsOfSet, listsOf and KeysOf. -/
namespace Go.Proofs.YtkcfhlpdenjimaaDoor
open Go.RowKit

theorem Tryd.infoColumnSet : (Tryd.prog.info? 62).map (fun i => (i.zero, i.size, i.bytes)) = some (some (.int .u64 0), 1, 8) := by kernel_rfl
theorem TabB.lt {w : World} (h : TabB w) : 1 < w.heap.size := by
  have h' : Lib.TabIs Tryd.prog w "math/bits.deBruijn64tab" .u8 deB := h
  unfold Lib.TabIs World.var? at h'
  rw [gTab] at h'
  simp only [Option.bind_some] at h'
  by_cases hl : 1 < w.heap.size
  · exact hl
  · rw [Array.getElem?_eq_none (by omega)] at h'
    cases h'
theorem allF_at {q k : Nat} (h : k < 2 ^ q) : (allF q)[k]? = some (Fin.ofNat 64 k) := by
  unfold allF
  rw [List.getElem?_map, List.getElem?_range h]; rfl
theorem has_full_all : ∀ q : Nat, q < 7 → ∀ k : Nat, k < 64 → k < 2 ^ q → sb k (2 ^ q - 1) = true := by decide +kernel

set_option maxRecDepth 100000 in
set_option maxHeartbeats 2000000 in
theorem partsOfSet_any (q N : Nat) (w : World) (hq : q ≤ 6) (hN : 2 ^ q = N) (ht : TabB w) :
    Calls Tryd.prog 54 #[.int .u64 (N - 1 : Nat)] w fun e w' => ∃ g d, e = .returned (.slice (some ⟨g, 0, none⟩) N d) ∧ w'.ownsRow w.heap.size 62 1 (.slice (some ⟨g, 0, none⟩) N d) N ((ordF q).map encS) ∧ Below w.heap.size w w' := by
  obtain ⟨i0, hi, hz0, hz1, hz2⟩ := info_parts Tryd.infoColumnSet
  have hN64 : N ≤ 64 := by rw [← hN]; exact pow64K hq
  have hN1 : 1 ≤ N := by rw [← hN]; exact Nat.one_le_two_pow
  have HT := Hid.mk ht
  have HNN := Hid.mk hN
  have hw : IntKind.u64.wrap (((N - 1 : Nat) : Int) + 1) = ((N : Nat) : Int) := by
    rw [show ((N - 1 : Nat) : Int) + 1 = ((N : Nat) : Int) by omega]; exact wrap64_small (by omega)
  have HFULL : Hid (∀ k, k < N → sb k (N - 1) = true) := fun k hk => by have := has_full_all q (by omega) k (by omega); rw [hN] at this; exact this hk
  obtain ⟨S, hS⟩ : ∃ S, S = N - 1 := ⟨_, rfl⟩
  rw [← hS] at hw HFULL ⊢
  have hS64 : S < 64 := by omega
  have zlt := ht.lt
  clear ht hN hS
  go_enter Tryd.func54, Tryd.ntmps54
  go_wp2_with fail
  go_loopw [3, 7] (fun p i wx => ∃ (k : Nat) (r : Option Addr) (d : Nat), k ≤ N ∧ i = .int .u64 k ∧ p = .slice r k d ∧ wx.ownsRow w.heap.size 62 1 (.slice r k d) k (((allF q).take k).map encS) ∧ Below w.heap.size w wx) (fun _ i _ => N - (intOf i).toNat)
  case atStart => exact ⟨0, none, 0, Nat.zero_le _, rfl, rfl, World.ownsRow_nil _ _ _ _, Below.refl _ _⟩
  case round =>
    obtain ⟨k, r, d, hk, rfl, rfl, hown, hbw⟩ := hrel
    by_cases hlt : k < N
    · have hki : (k : Int) < (N : Int) := by omega
      have hwk : IntKind.u64.wrap ((k : Int) + 1) = ((k + 1 : Nat) : Int) := by
        rw [show (k : Int) + 1 = ((k + 1 : Nat) : Int) by omega]; exact wrap64_small (by omega)
      have HTK : Hid (((allF q).take (k + 1)).map encS = ((allF q).take k).map encS ++ [.int .u64 (k : Nat)]) := by
        show _ = _
        have h9 := allF_at (q := q) (k := k) (by rw [HNN.out]; exact hlt)
        obtain ⟨hh, he⟩ := List.getElem?_eq_some_iff.1 h9
        rw [List.take_succ_eq_append_getElem hh, he, List.map_append]
        congr 1
        show [encS (Fin.ofNat 64 k)] = _
        unfold encS
        simp [Fin.ofNat, Nat.mod_eq_of_lt (show k < 64 by omega)]
      have K := Hid.mk (has_any S k wr hS64 (by omega))
      rw [HFULL.out k hlt] at K
      have HO := Hid.mk hown
      have HB := Hid.mk hbw
      have z := hbw.size
      clear hown hbw
      go_wp2_with fail
      refine K.out.mono ?_
      rintro e w1 ⟨rfl, rfl⟩
      go_wp2_with (at_builtin; refine wpList_append_lies _ rfl (.tmp 13) (.tmp 15) 80 rfl w.heap.size 62 i0 (.int .u64 0) 1 8 Tryd.underlying80 hi hz0 hz1 hz2 rfl (by decide) _ _ _ rfl (HO.out.alloc _) ⟨w1.heap.size, 0, none⟩ 1 1 [.int .u64 (k : Nat)] rfl rfl (news_at w1 _ _) (by intro u hu; simp at hu; subst hu; rfl) (by decide) (by unfold maxLen; omega) (by omega) (by simp; omega) (w1.heap.size + 1) (by simp) ?_)
      intro g3 cap3 w3 ho3 hg3 hat3 hlt3
      rw [← List.map_take, ← HTK.out] at ho3
      have HB3 : Hid (Below w.heap.size w w3) := (HB.out.alloc z _).grown hg3 (by simp; omega) (fun j hj => (HO.out.lt j hj).1)
      have HO3 := Hid.mk ho3
      clear ho3 hg3 hat3 HO HB K
      go_wp2
      go_roundw
      case rel => exact ⟨k + 1, _, _, by omega, by first | rfl | go_num, rfl, HO3.out, HB3.out⟩
      case measure => simp [intOf]; omega
    · obtain rfl : k = N := by omega
      have hkk : ¬ (k : Int) < (k : Int) := by omega
      have hl := (ord_len_all q (by omega)).2
      rw [HNN.out] at hl
      rw [List.take_of_length_le (by omega)] at hown
      obtain ⟨g, hg, hgl, hgr⟩ : ∃ g, r = some ⟨g, 0, none⟩ ∧ w.heap.size ≤ g ∧ g < wr.heap.size := by
        have hlt := hown.lt
        rcases hown.2 with ⟨_, h1⟩ | ⟨g, cap, cur, hv, _⟩
        · omega
        · simp only [Value.slice.injEq, true_and] at hv
          obtain ⟨rfl, rfl⟩ := hv
          exact ⟨g, rfl, hlt g rfl⟩
      subst hg
      have KS := Hid.mk (sortC_any g k d w.heap.size q 62 wr (by omega) HNN.out (TabIs.below HT.out hbw) (by have := hbw.size; omega) (by omega) hown)
      have HB := Hid.mk hbw
      clear hown hbw hl
      go_wp2_with fail
      refine KS.out.mono ?_
      rintro e w2 ⟨rfl, ho2, hg2⟩
      have HO2 := Hid.mk ho2
      have HB2 : Hid (Below w.heap.size w w2) := HB.out.grown hg2 HB.out.size (fun j hj => by cases hj; exact hgl)
      clear ho2 hg2 HB KS
      go_wp2
      go_ret
      exact ⟨g, d, rfl, HO2.out, HB2.out⟩

end Go.Proofs.YtkcfhlpdenjimaaDoor

/- Contracts of listsOf and KeysOf. -/
namespace Go.Proofs.YtkcfhlpdenjimaaDoor
open Go.RowKit

def encN (x : Nat) : Value := .int .u64 (x : Nat)
theorem all_blK {k s : Nat} (hk : k < 64) : ((bl k).all fun x => decide (x ∈ bl s)) = sb k s := all_bl hk
theorem mk_blK : ∀ s : Nat, s < 64 → mk (bl s) = s := by decide +kernel
theorem len_full_all : ∀ q : Nat, q < 7 → ∀ T : Nat, T < 64 → T < 2 ^ q → decide ((bl T).length = q) = decide (T = 2 ^ q - 1) := by decide +kernel
theorem sb_lt_all : ∀ q : Nat, q < 7 → ∀ T : Nat, T < 64 → sb T (2 ^ q - 1) = true → T < 2 ^ q := by decide +kernel
theorem sets_ord_all : ∀ q : Nat, q < 7 → setsU q (q + 1) = (ordF q).map (fun x => bl x.1) := by decide +kernel
theorem clo_in {q : Nat} {M : List (Nat × Nat)} {s T : Nat} (hq : q ≤ 6) (hM : Lim q M) (hs : s < 2 ^ q) (h : IsClo M s T) : T < 2 ^ q := by
  have h64 := pow64 hq
  refine sb_lt_all q (by omega) T h.lt (h.least _ (has_full_all q (by omega) s (by omega) hs) (fun d hd _ => ?_))
  have := hM d hd
  exact has_full_all q (by omega) d.2 (by omega) this.2
theorem stepK_eq {q : Nat} {M : List (Nat × Nat)} {s T : Nat} {ks : List Nat} (hq : q ≤ 6) (hM : Lim q M) (hs : s < 2 ^ q) (h : IsClo M s T) (hk : ∀ k ∈ ks, k < 64) :
    stepK M q (ks.map bl) (bl s) = if ((ks.all fun k => !sb k s) && decide (T = 2 ^ q - 1)) = true then (ks ++ [s]).map bl else ks.map bl := by
  have h64 := pow64 hq
  have e1 : fitT M q (ks.map bl) (bl s) (ks.map bl).length = ((ks.all fun k => !sb k s) && decide (T = 2 ^ q - 1)) := by
    unfold fitT
    rw [mk_blK s (by omega), h.clo_eq, len_full_all q (by omega) T h.lt (clo_in hq hM hs h), List.take_length, List.all_map, Bool.and_comm]
    congr 1
    refine Bool.eq_iff_iff.2 ⟨fun h9 => ?_, fun h9 => ?_⟩
    · rw [List.all_eq_true] at h9 ⊢
      intro k hk'
      have := h9 k hk'
      simp only [Function.comp_apply] at this
      rw [all_blK (hk k hk')] at this
      exact this
    · rw [List.all_eq_true] at h9 ⊢
      intro k hk'
      have := h9 k hk'
      simp only [Function.comp_apply]
      rw [all_blK (hk k hk')]
      exact this
  unfold stepK
  rw [e1, List.map_append]
  rfl
theorem lim_dms {xs : List Dep} {q : Nat} (h : goodDeps xs (q : Int) = true) : Lim q (dms xs) := by
  simp only [goodDeps, allDep, goodDep, Bool.and_eq_true, decide_eq_true_eq, List.all_eq_true] at h
  intro p hp
  obtain ⟨d, hd, rfl⟩ := List.mem_map.1 hp
  exact ⟨mk_lim (h.2.2.2 d hd).1, mk_lim (h.2.2.2 d hd).2⟩
theorem ord_lt_all : ∀ q : Nat, q < 7 → (ordF q).all (fun x => decide (x.1 < 2 ^ q)) = true := by decide +kernel

set_option maxRecDepth 100000 in
set_option maxHeartbeats 2000000 in
theorem listsOf_any (base : Nat) (a : Option Addr) (n c : Nat) (ks : List Nat) (w : World) (hz : ks.length = n) (hn : n ≤ 64) (hks : ∀ k ∈ ks, k < 64) (ho : w.ownsRow base 62 1 (.slice a n c) n (ks.map encN)) (ht : TabB w) :
    Calls Tryd.prog 56 #[.slice a n c] w fun e w' => ∃ r m d, e = .returned (.slice r m d) ∧ RPairs.Own w' (From w.heap.size w'.heap.size) [.slice r m d] (ks.map bl) ∧ Below w.heap.size w w' := by
  obtain ⟨k0, hk, hx0, hx1, hx2⟩ := info_parts Tryd.infoInts
  have HT := Hid.mk ht
  have HO := Hid.mk ho
  have HKS := Hid.mk hks
  clear ht ho hks
  go_enter Tryd.func56, Tryd.ntmps56
  go_wp2_with fail
  go_loopw [3, 8] (fun p i wx => ∃ (k : Nat) (r : Option Addr) (d : Nat) (cells : List Value) (G : Nat → Nat → Prop), k ≤ n ∧ i = .int .i64 k ∧ p = .slice r k d ∧ Laid RInts wx (From w.heap.size wx.heap.size) 23 r k d ((ks.take k).map bl) cells G k ∧ Below w.heap.size w wx) (fun _ i _ => n - (intOf i).toNat)
  case atStart => exact ⟨0, none, 0, [], _, Nat.zero_le _, rfl, rfl, Laid.none _ _ _ _, Below.refl _ _⟩
  case round =>
    obtain ⟨k, r, d, cells, G, hkn, rfl, rfl, hlaid, hbw⟩ := hrel
    by_cases hlt : k < n
    · obtain ⟨s, hs⟩ : ∃ s, ks[k]? = some s := ⟨_, List.getElem?_eq_getElem (by omega)⟩
      have hs64 := HKS.out s (List.mem_of_getElem? hs)
      obtain ⟨g, hg⟩ : ∃ g, a = some ⟨g, 0, none⟩ := by
        rcases HO.out.2 with ⟨_, h1⟩ | ⟨g, cap, cur, hv, _⟩
        · omega
        · simp only [Value.slice.injEq, true_and] at hv
          exact ⟨g, hv.1⟩
      subst hg
      have hcx : wr.cell? ⟨g, k, none⟩ = some (.int .u64 (s : Nat)) := cell_later hbw ((HO.out.cellAt k (by omega)).trans (by rw [List.getElem?_map, hs]; rfl))
      have HTK : Hid ((ks.take (k + 1)).map bl = (ks.take k).map bl ++ [bl s]) := by
        show _ = _
        obtain ⟨hh, rfl⟩ := List.getElem?_eq_some_iff.1 hs
        rw [List.take_succ_eq_append_getElem hh, List.map_append]; rfl
      have hki : (k : Int) < (n : Int) := by omega
      have K := Hid.mk (list_any s wr hs64 (TabIs.below HT.out hbw))
      have HLA := Hid.mk hlaid
      have HB := Hid.mk hbw
      have zw := hbw.size
      clear hlaid hbw hs
      go_wp2_with fail
      refine K.out.mono ?_
      rintro e w4 ⟨r3, m3, d3, rfl, hm3, ho3, hb2⟩
      have hm36 : m3 ≤ 6 := by rw [← hm3]; exact bl_len s
      have z4 := hb2.size
      have HOI : Hid (RInts.Own w4 (From wr.heap.size w4.heap.size) [.slice r3 m3 d3] (bl s)) := RInts.of_owns hm3 (by omega) ho3
      have HW : Hid (wr.ownsRow w.heap.size 23 1 (.slice r k d) k cells) := owns_base HLA.out.outer (fun b hb => (HLA.out.outerF b hb).1)
      have HW4 := Hid.mk (owns_below HW.out hb2)
      have HB2 := Hid.mk hb2
      clear ho3 hb2 hm3 K
      go_wp2_with (at_builtin; refine wpList_app_vals rfl (.tmp 12) (.tmp 15) 50 rfl w.heap.size 23 k0 (.slice none 0 0) 1 24 Tryd.underlying50 hk hx0 hx1 hx2 rfl (by decide) (.slice r k d) k cells rfl (HW4.out.alloc _) (some ⟨w4.heap.size, 0, none⟩) 1 1 [.slice r3 m3 d3] rfl rfl (fun ad he => by cases he; simpa using news_at w4 #[.slice r3 m3 d3] 23) (by simp; rfl) (fun h => by cases h) (by unfold maxLen; omega) (by omega) (by simp; omega) ?_)
      intro r4 d4 w5 ho4 hg4 ht4
      have z5 : w4.heap.size < w5.heap.size := by have h9 := hg4.size; simp at h9; omega
      have BG : ∀ b, b < w4.heap.size → (Value.slice r k d).ownBlock ≠ some b → w5.heap[b]? = w4.heap[b]? := fun b hb hn => (hg4.block b (by simp; omega) (fun e => hn e.symm)).trans (Below.heap_alloc w4 _ b hb)
      have hpush := HLA.out.push (F' := From w.heap.size w5.heap.size) (fun b h => h.2) HB2.out HOI.out (fun b h => h) BG (owns_mono ho4 (Nat.zero_le _)) (by
        rcases ht4 with h9 | h9
        · exact .inl h9
        · refine .inr (fun b e => ?_)
          rw [h9] at e
          simp at e
          omega) (by omega) (fun b h => ⟨h.1, by have := h.2; omega⟩) (fun b h => ⟨by have := h.1; omega, by have := h.2; omega⟩) (fun b h => ho4.lt b h)
      obtain ⟨G', HL'⟩ : ∃ G', Hid (Laid RInts w5 (From w.heap.size w5.heap.size) 23 r4 (k + 1) d4 ((ks.take (k + 1)).map bl) (cells ++ [.slice r3 m3 d3]) G' (k + 1)) := by
        rw [HTK.out]
        exact ⟨_, Hid.mk hpush⟩
      have HB' : Hid (Below w.heap.size w w5) := ((HB.out.trans (HB2.out.mono HB.out.size)).alloc (by omega) _).grown hg4 (by simp; omega) (fun j hj => (HW.out.lt j hj).1)
      clear hpush BG ho4 hg4 ht4 HLA HB HB2 HW HW4 HOI
      go_wp2
      go_roundw
      case rel => exact ⟨k + 1, r4, d4, _, G', by omega, by go_num, rfl, HL'.out, HB'.out⟩
      case measure => simp [intOf]; omega
    · obtain rfl : k = n := by omega
      rw [List.take_of_length_le (by omega)] at hlaid
      have hkk : ¬ (k : Int) < (k : Int) := by omega
      have HFIN : Hid (RPairs.Own wr (From w.heap.size wr.heap.size) [.slice r k d] (ks.map bl)) := ⟨_, _, _, cells, G, rfl, hlaid⟩
      clear hlaid
      go_wp2
      go_ret
      exact ⟨r, k, d, rfl, HFIN.out, hbw⟩

end Go.Proofs.YtkcfhlpdenjimaaDoor
