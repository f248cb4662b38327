/- Several texts of one proof, in build order: KeyC, KeyT, PrtS, PrtI, BsJ. -/
import Derived.Test.YtkcmlphpilggpaaDoorM7
import Derived.Test.YtkcmlphpilggpaaDoorShelf
import Derived.Lib.QuietBelow
import Derived.Shelf.SlSortCmp.NoneTotal
import Derived.Test.YtkcmlphpilggpaaDoorM8
import Derived.Test.YtkcmlphpilggpaaDoorM10

/- The order by which partsOfSet sorts, as slices.SortFunc asks it. -/
namespace Go.Proofs.YtkcmlphpilggpaaDoor
open Go.RowKit

/-- By how many columns, then by the first number that is unlike. -/
def cfS (a b : Nat) : Int := if sgnI (pc a) (pc b) = 0 then lexI (bl a) (bl b) else sgnI (pc a) (pc b)
theorem drewn_of {w w' : World} (h : Below w.heap.size w w') (hd : w.drawn ≤ w'.drawn) : ∃ q os, w' = Go.Sort.grow (w.drewN q) os := by
  obtain ⟨p, hp⟩ := regrown_of_below h
  have h1 : w'.drawn = p.d := by rw [hp]; rfl
  have h3 : w.drawn ≤ p.d := by omega
  have h2 : redrawn w p.d = w.drewN (p.d - w.drawn) := by
    show ({ w with drawn := p.d } : World) = { w with drawn := w.drawn + (p.d - w.drawn) }
    rw [show w.drawn + (p.d - w.drawn) = p.d by omega]
  exact ⟨p.d - w.drawn, p.os, by rw [hp, h2]⟩

set_option maxRecDepth 100000 in
set_option maxHeartbeats 2000000 in
theorem cmpS_any (a b : Nat) (w : World) (ha : a < 64) (hb : b < 64) (ht : TabB w) :
    Calls Tryd.prog 46 #[.int .u64 (a : Nat), .int .u64 (b : Nat)] w fun e w' => e = .returned (.int .i64 (cfS a b)) ∧ ∃ q os, w' = Go.Sort.grow (w.drewN q) os := by
  have HT := Hid.mk ht
  clear ht
  go_enter Tryd.func46, Tryd.ntmps46
  go_wp2_with fail
  refine (ones_any a w ha).mono ?_
  rintro e w1 ⟨rfl, rfl⟩
  go_wp2_with fail
  refine (ones_any b _ hb).mono ?_
  rintro e w1 ⟨rfl, rfl⟩
  go_wp2_with fail
  refine (cmpI_any _ _ _).mono ?_
  rintro e w1 ⟨rfl, rfl⟩
  obtain ⟨S, hS⟩ : ∃ S, sgnI (pc a) (pc b) = S := ⟨_, rfl⟩
  have HS : Hid (cfS a b = if S = 0 then lexI (bl a) (bl b) else S) := by show _ = _; unfold cfS; rw [hS]
  rw [hS]
  clear hS
  go_wp2_with fail
  refine (list_drawn a _ ha HT.out).mono ?_
  rintro e w2 ⟨r2, m2, d2, rfl, hm2, ho2, hb2, hd2⟩
  have HO2 := Hid.mk ho2
  have HB2 := Hid.mk hb2
  have HD2 := Hid.mk hd2
  have HM2 := Hid.mk hm2
  clear ho2 hb2 hd2 hm2
  go_wp2_with fail
  refine (list_drawn b _ hb (TabIs.below HT.out HB2.out)).mono ?_
  rintro e w3 ⟨r3, m3, d3, rfl, hm3, ho3, hb3, hd3⟩
  have HO3 := Hid.mk ho3
  have HB3 := Hid.mk (HB2.out.trans (hb3.mono HB2.out.size))
  have HD3 := Hid.mk (Nat.le_trans HD2.out hd3)
  have KL := Hid.mk (lexI_any r2 m2 d2 (bl a) r3 m3 d3 (bl b) w3 HM2.out (by have h1 := bl_len a; have h2 := HM2.out; omega) (At.below (At.owned HO2.out) hb3) hm3 (by have h1 := bl_len b; omega) (At.owned ho3))
  obtain ⟨L, hL⟩ : ∃ L, lexI (bl a) (bl b) = L := ⟨_, rfl⟩
  rw [hL] at KL HS
  clear ho3 hb3 hd3 hm3 hL
  go_wp2_with fail
  refine KL.out.mono ?_
  rintro e w4 ⟨rfl, rfl⟩
  obtain ⟨W, hW⟩ : ∃ W, W = w4.alloc (.cells #[.int .i64 S, .int .i64 L] 3) := ⟨_, rfl⟩
  have q0 : W.cell? ⟨w4.heap.size, 0, none⟩ = some (.int .i64 S) := by rw [hW]; simp
  have q1 : W.cell? ⟨w4.heap.size, 1, none⟩ = some (.int .i64 L) := by rw [hW]; simp
  have KO := Hid.mk (or2_any w4.heap.size S L W q0 q1)
  have HBW : Hid (Below w1.heap.size w1 W) := by rw [hW]; exact HB3.out.alloc HB3.out.size _
  have HDW : Hid (w1.drawn ≤ W.drawn) := by rw [hW]; exact Hid.mk HD3.out
  clear q0 q1
  go_wp2_with fail
  rw [← hW]
  clear hW
  refine KO.out.mono ?_
  rintro e w5 ⟨rfl, rfl⟩
  rw [← HS.out]
  go_wp2
  go_ret
  exact ⟨rfl, drewn_of HBW.out HDW.out⟩

end Go.Proofs.YtkcmlphpilggpaaDoor

/- partsOfSet: the sets within one, in their order. -/
namespace Go.Proofs.YtkcmlphpilggpaaDoor
open Go.RowKit Go.Shelf Go.Sort

theorem cf_rk : ∀ a : Nat, a < 64 → ∀ b : Nat, b < 64 → decide (cfS a b < 0) = decide (L64.idxOf a < L64.idxOf b) := by decide +kernel
theorem idx_inj : ∀ a : Nat, a < 64 → ∀ b : Nat, b < 64 → L64.idxOf a = L64.idxOf b → a = b := by decide +kernel

theorem pow64K {q : Nat} (h : q ≤ 6) : 2 ^ q ≤ 64 := by have : 2 ^ q ≤ 2 ^ 6 := Nat.pow_le_pow_right (by omega) h; omega
abbrev Set6 := Fin 64
def encS (x : Set6) : Value := .int .u64 (x.1 : Nat)
def cfF (x y : Set6) : Int := cfS x.1 y.1
theorem ltF (x y : Set6) : ltOf cfF x y = decide (L64.idxOf x.1 < L64.idxOf y.1) := cf_rk x.1 x.2 y.1 y.2
theorem swoF : SWO (ltOf cfF) where
  irrefl x := by rw [ltF]; simp
  trans x y z h1 h2 := by rw [ltF, decide_eq_true_eq] at *; omega
  ntrans x y z h1 h2 := by rw [ltF, decide_eq_false_iff_not] at *; omega
theorem totalF (x y : Set6) (h1 : ltOf cfF x y = false) (h2 : ltOf cfF y x = false) : x = y := by
  rw [ltF, decide_eq_false_iff_not] at h1 h2
  exact Fin.ext (idx_inj x.1 x.2 y.1 y.2 (by omega))

/-- The sets of q columns, by number; and in their order. -/
def allF (q : Nat) : List Set6 := (List.range (2 ^ q)).map (Fin.ofNat 64)
def ordF (q : Nat) : List Set6 := (L64.filter (· < 2 ^ q)).map (Fin.ofNat 64)
theorem ord_perm_all : ∀ q : Nat, q < 7 → (ordF q).isPerm (allF q) = true := by decide +kernel
theorem ord_len_all : ∀ q : Nat, q < 7 → (ordF q).length = 2 ^ q ∧ (allF q).length = 2 ^ q := by decide +kernel
theorem ord_rise_all : ∀ q : Nat, q < 7 → (ordF q).Pairwise fun x y => L64.idxOf x.1 < L64.idxOf y.1 := by decide +kernel
theorem ord_sort {q : Nat} (hq : q < 7) : (allF q).mergeSort (fun x y => !(ltOf cfF) y x) = ordF q := by
  have h1 := ord_len_all q hq
  have hp : (ordF q).Perm (allF q) := List.isPerm_iff.1 (ord_perm_all q hq)
  have := sorted_unique_holds (lt := ltOf cfF) swoF totalF (allF q).toArray (ordF q).toArray ⟨by simp [h1.1, h1.2], fun i hi => ?_, ?_⟩ (fun i j _ hij hj => ?_)
  · exact this.symm
  · rcases hi with hi | hi
    · omega
    · simp only [List.size_toArray, h1.2] at hi
      rw [getElem!_neg _ _ (by simp [h1.1]; omega), getElem!_neg _ _ (by simp [h1.2]; omega)]
  · have e1 : (ordF q).toArray.extract 0 (allF q).toArray.size = (ordF q).toArray := by
      rw [show (allF q).toArray.size = (ordF q).toArray.size by simp [h1.1, h1.2]]; exact Array.extract_size
    rw [e1, Array.extract_size]
    exact hp
  · simp only [List.size_toArray, h1.2] at hj
    have hr := List.pairwise_iff_getElem.1 (ord_rise_all q hq) i j (by omega) (by omega) hij
    rw [ltF, getElem!_pos _ _ (by simp [h1.1]; omega), getElem!_pos _ _ (by simp [h1.1]; omega)]
    simp only [List.getElem_toArray]
    exact decide_eq_false (by omega)

theorem TabB.of1 {w w' : World} (h : TabB w) (hb : w'.heap[1]? = w.heap[1]?) : TabB w' := by
  show Lib.TabIs _ _ _ _ _
  have h' : Lib.TabIs Tryd.prog w "math/bits.deBruijn64tab" .u8 deB := h
  unfold Lib.TabIs World.var? at h' ⊢
  rw [gTab] at h' ⊢
  simp only [Option.bind_some] at h' ⊢
  rw [hb]; exact h'

theorem sort_far {w : World} {g m : Nat} {d : Array Set6} {os : Array Obj} {k : Nat} (hk : k < w.heap.size) (hg : g ≠ k) : (sortWorld encS w g 0 m d os).heap[k]? = w.heap[k]? := by
  have hsz : (putRow encS (Sort.ahead w m) g 0 d).heap.size = w.heap.size := by simp [putRow, mapBlock, Sort.ahead]
  unfold sortWorld
  rw [heap_grow_old _ _ (by rw [hsz]; exact hk)]
  simp [putRow, mapBlock, Sort.ahead, Array.getElem?_modify, hg]

theorem laysF (g size : Nat) (w : World) (ht : TabB w) (h1 : 1 < w.heap.size) (hg : g ≠ 1) : CmpLays1 Tryd.prog 46 #[] encS cfF g 0 size w := fun _ _ _ _ x y =>
  cmpS_any x.1 y.1 _ x.2 y.2 (ht.of1 (sort_far h1 hg))

theorem holds_of_own {w : World} {base g n c : Nat} {e : TypeId} {ks : List Set6} (hn : ks.length = n) (h : w.ownsRow base e 1 (.slice (some ⟨g, 0, none⟩) n c) n (ks.map encS)) : Holds encS w g 0 ks.toArray := by
  intro j hj
  have hj' : j < n := by simpa [hn] using hj
  refine ⟨?_, by rw [Nat.zero_add]; exact h.frozenAt j⟩
  rw [Nat.zero_add, h.cellAt j (by omega), List.getElem?_map, List.getElem?_eq_getElem (by omega), getElem!_pos ks.toArray j hj]
  simp

theorem owns_sortedF {w : World} {base g n c m : Nat} {e : TypeId} {os : Array Obj} {ks ts : List Set6} (ht : ts.length = n) (h : w.ownsRow base e 1 (.slice (some ⟨g, 0, none⟩) n c) n (ks.map encS)) :
    (sortWorld encS w g 0 m ts.toArray os).ownsRow base e 1 (.slice (some ⟨g, 0, none⟩) n c) n (ts.map encS) ∧ w.grownBy (sortWorld encS w g 0 m ts.toArray os) (some g) := by
  rcases h.2 with ⟨hv, _⟩ | ⟨g', cap, cur, hv, hbase, hb, h1, h2, h3, h4⟩
  · simp at hv
  · simp only [Value.slice.injEq, Option.some.injEq, Addr.mk.injEq, and_true, true_and] at hv
    obtain ⟨rfl, rfl⟩ := hv
    have hg : g < w.heap.size := (Array.getElem?_eq_some_iff.1 hb).1
    have hsz : (putRow encS (Sort.ahead w m) g 0 ts.toArray).heap.size = w.heap.size := by simp [putRow, mapBlock, Sort.ahead]
    refine ⟨⟨by simp [ht], .inr ⟨g, c, putCells encS 0 ts.toArray cur, rfl, hbase, ?_, h1, h2, by simp [putCells, h3], ?_⟩⟩, rfl, rfl, rfl, ?_, fun k hk hne => sort_far hk (fun e => hne (by rw [e]))⟩
    · unfold sortWorld
      rw [heap_grow_old _ _ (by rw [hsz]; exact hg)]
      simp [putRow, mapBlock, Sort.ahead, Array.getElem?_modify, hb, onCells]
    · apply List.ext_getElem?
      intro j
      by_cases hj : j < n
      · have hjc : j < cur.size := by omega
        rw [List.getElem?_take_of_lt (by omega), Array.getElem?_toList, List.getElem?_map, List.getElem?_eq_getElem (by omega)]
        simp only [putCells, Array.getElem?_mapIdx, Array.getElem?_eq_getElem hjc, Option.map_some]
        rw [if_pos ⟨Nat.zero_le _, by simp; omega⟩]
        simp only [Nat.sub_zero]
        rw [getElem!_pos ts.toArray j (by simp; omega)]
        simp
      · rw [List.getElem?_eq_none (by rw [List.length_take]; omega), List.getElem?_eq_none (by simp; omega)]
    · unfold sortWorld
      simp [grow, hsz]

theorem sortC_any (g n cap base q : Nat) (e : TypeId) (w : World) (hq : q < 7) (hn : 2 ^ q = n) (ht : TabB w) (h1 : 1 < w.heap.size) (hg : g ≠ 1) (h : w.ownsRow base e 1 (.slice (some ⟨g, 0, none⟩) n cap) n ((allF q).map encS)) :
    Calls Tryd.prog 45 #[.slice (some ⟨g, 0, none⟩) n cap, .func (.func 46) #[] #[]] w fun e' w' => e' = .returned (.tuple #[]) ∧
      w'.ownsRow base e 1 (.slice (some ⟨g, 0, none⟩) n cap) n ((ordF q).map encS) ∧ w.grownBy w' (some g) := by
  have eg : ∀ args w, (callFunc 46 args).run Tryd.prog w = .ok (.enter 46 args) w := enters_of Tryd.func46 (by kernel_rfl) rfl
  have hl := ord_len_all q hq
  have hd : (allF q).toArray.size = n := by simp [hl.2, hn]
  have hn64 : n ≤ 64 := by rw [← hn]; exact pow64K (by omega)
  have hcon := Any.slices_SortFunc_total Tryd.sortC encS (fun _ => rfl) cfF swoF 46 #[] g 0 cap (allF q).toArray w eg (laysF g (allF q).toArray.size w ht h1 hg) (holds_of_own (hl.2.trans hn) h) ((h.lt g rfl).2) (by rw [hd]; omega) totalF
  rw [hd] at hcon
  refine Calls.mono hcon ?_
  rintro e' w' ⟨rfl, m, os, rfl⟩
  rw [show (allF q).toArray.toList = allF q from rfl, ord_sort hq]
  exact ⟨rfl, owns_sortedF (hl.1.trans hn) h⟩

end Go.Proofs.YtkcmlphpilggpaaDoor

/- partsOfSet at any set: the sets within it, sorted. -/
namespace Go.Proofs.YtkcmlphpilggpaaDoor
open Go.RowKit Go.Shelf Go.Sort

/-- The sets within P, by number; and in their order. -/
def allT (P k : Nat) : List Set6 := ((List.range k).filter fun x => sb x P).map (Fin.ofNat 64)
def allP (P : Nat) : List Set6 := allT P (P + 1)
def ordPF (P : Nat) : List Set6 := (ordP P).map (Fin.ofNat 64)
theorem allT_succ (P k : Nat) : allT P (k + 1) = if sb k P then allT P k ++ [Fin.ofNat 64 k] else allT P k := by
  unfold allT
  rw [List.range_succ, List.filter_append]
  cases h : sb k P <;> simp [h]
theorem allT_len (P k : Nat) : (allT P k).length ≤ k := by
  unfold allT
  rw [List.length_map]
  exact Nat.le_trans (List.length_filter_le _ _) (by simp)
theorem ordP_perm_all : ∀ P : Nat, P < 64 → (ordPF P).isPerm (allP P) = true := by decide +kernel
theorem ordP_lens_all : ∀ P : Nat, P < 64 → (ordPF P).length = (allP P).length ∧ 0 < (allP P).length := by decide +kernel
theorem ordP_rise_all : ∀ P : Nat, P < 64 → (ordPF P).Pairwise fun x y => L64.idxOf x.1 < L64.idxOf y.1 := by decide +kernel
theorem ordP_sort {P : Nat} (hP : P < 64) : (allP P).mergeSort (fun x y => !(ltOf cfF) y x) = ordPF P := by
  have h1 := (ordP_lens_all P hP).1
  have hp : (ordPF P).Perm (allP P) := List.isPerm_iff.1 (ordP_perm_all P hP)
  have := sorted_unique_holds (lt := ltOf cfF) swoF totalF (allP P).toArray (ordPF P).toArray ⟨by simp [h1], fun i hi => ?_, ?_⟩ (fun i j _ hij hj => ?_)
  · exact this.symm
  · rcases hi with hi | hi
    · omega
    · simp only [List.size_toArray] at hi
      rw [getElem!_neg _ _ (by simp [h1]; omega), getElem!_neg _ _ (by simp; omega)]
  · have e1 : (ordPF P).toArray.extract 0 (allP P).toArray.size = (ordPF P).toArray := by
      rw [show (allP P).toArray.size = (ordPF P).toArray.size by simp [h1]]; exact Array.extract_size
    rw [e1, Array.extract_size]
    exact hp
  · simp only [List.size_toArray] at hj
    have hr := List.pairwise_iff_getElem.1 (ordP_rise_all P hP) i j (by omega) (by omega) hij
    rw [ltF, getElem!_pos _ _ (by simp [h1]; omega), getElem!_pos _ _ (by simp [h1]; omega)]
    simp only [List.getElem_toArray]
    exact decide_eq_false (by omega)
theorem ordPF_enc_all : ∀ P : Nat, P < 64 → (ordPF P).map (fun x => x.1) = ordP P := by decide +kernel
theorem ordPF_enc {P : Nat} (hP : P < 64) : (ordPF P).map encS = (ordP P).map (fun x => Value.int .u64 (x : Nat)) := by
  rw [← ordPF_enc_all P hP, List.map_map]; rfl

theorem sortP_any (g n cap base P : Nat) (e : TypeId) (w : World) (hP : P < 64) (hn : (allP P).length = n) (ht : TabB w) (h1 : 1 < w.heap.size) (hg : g ≠ 1) (h : w.ownsRow base e 1 (.slice (some ⟨g, 0, none⟩) n cap) n ((allP P).map encS)) :
    Calls Tryd.prog 45 #[.slice (some ⟨g, 0, none⟩) n cap, .func (.func 46) #[] #[]] w fun e' w' => e' = .returned (.tuple #[]) ∧
      w'.ownsRow base e 1 (.slice (some ⟨g, 0, none⟩) n cap) n ((ordP P).map (fun x => Value.int .u64 (x : Nat))) ∧ w.grownBy w' (some g) := by
  have eg : ∀ args w, (callFunc 46 args).run Tryd.prog w = .ok (.enter 46 args) w := enters_of Tryd.func46 (by kernel_rfl) rfl
  have hl := ordP_lens_all P hP
  have hd : (allP P).toArray.size = n := by simp [hn]
  have hn64 : n ≤ 64 := by rw [← hn]; exact Nat.le_trans (allT_len P (P + 1)) (by omega)
  have hcon := Any.slices_SortFunc_total Tryd.sortC encS (fun _ => rfl) cfF swoF 46 #[] g 0 cap (allP P).toArray w eg (laysF g (allP P).toArray.size w ht h1 hg) (holds_of_own hn h) ((h.lt g rfl).2) (by rw [hd]; omega) totalF
  rw [hd] at hcon
  refine Calls.mono hcon ?_
  rintro e' w' ⟨rfl, m, os, rfl⟩
  rw [show (allP P).toArray.toList = allP P from rfl, ordP_sort hP, ← ordPF_enc hP]
  exact ⟨rfl, owns_sortedF (hl.1.trans hn) h⟩

end Go.Proofs.YtkcmlphpilggpaaDoor

/- Contract of partsOfSet at any set of columns. -/
namespace Go.Proofs.YtkcmlphpilggpaaDoor
open Go.RowKit

theorem Tryd.infoColumnSet : (Tryd.prog.info? 56).map (fun i => (i.zero, i.size, i.bytes)) = some (some (.int .u64 0), 1, 8) := by kernel_rfl
theorem TabB.lt {w : World} (h : TabB w) : 1 < w.heap.size := by
  have h' : Lib.TabIs Tryd.prog w "math/bits.deBruijn64tab" .u8 deB := h
  unfold Lib.TabIs World.var? at h'
  rw [gTab] at h'
  simp only [Option.bind_some] at h'
  by_cases hl : 1 < w.heap.size
  · exact hl
  · rw [Array.getElem?_eq_none (by omega)] at h'
    cases h'

set_option maxRecDepth 100000 in
set_option maxHeartbeats 2000000 in
theorem partsOfSetP (P : Nat) (w : World) (hP : P < 64) (ht : TabB w) :
    Calls Tryd.prog 40 #[.int .u64 (P : Nat)] w fun e w' => ∃ g n d, e = .returned (.slice (some ⟨g, 0, none⟩) n d) ∧ (ordP P).length = n ∧ w'.ownsRow w.heap.size 56 1 (.slice (some ⟨g, 0, none⟩) n d) n ((ordP P).map (fun x => Value.int .u64 (x : Nat))) ∧ Below w.heap.size w w' := by
  obtain ⟨i0, hi, hz0, hz1, hz2⟩ := info_parts Tryd.infoColumnSet
  have HT := Hid.mk ht
  have hw : IntKind.u64.wrap ((P : Int) + 1) = ((P + 1 : Nat) : Int) := by
    rw [show (P : Int) + 1 = ((P + 1 : Nat) : Int) by omega]; exact wrap64_small (by omega)
  have zlt := ht.lt
  have hlens := ordP_lens_all P hP
  have HLN := Hid.mk hlens.1
  have HLP := Hid.mk hlens.2
  obtain ⟨N, hN⟩ : ∃ N, N = P + 1 := ⟨_, rfl⟩
  have HAP : Hid (allP P = allT P N) := by show _ = _; rw [hN]; rfl
  rw [← hN] at hw
  have hN64 : N ≤ 64 := by omega
  clear ht hlens hN
  go_enter Tryd.func40, Tryd.ntmps40
  go_wp2_with fail
  go_loopw [3, 7] (fun p i wx => ∃ (k m : Nat) (r : Option Addr) (d : Nat), k ≤ N ∧ m ≤ k ∧ i = .int .u64 k ∧ p = .slice r m d ∧ (allT P k).length = m ∧ wx.ownsRow w.heap.size 56 1 (.slice r m d) m ((allT P k).map encS) ∧ Below w.heap.size w wx) (fun _ i _ => N - (intOf i).toNat)
  case atStart => exact ⟨0, 0, none, 0, Nat.zero_le _, Nat.le_refl _, rfl, rfl, rfl, World.ownsRow_nil _ _ _ _, Below.refl _ _⟩
  case round =>
    obtain ⟨k, m, r, d, hk, hmk, rfl, rfl, hm, hown, hbw⟩ := hrel
    by_cases hlt : k < N
    · have hki : (k : Int) < (N : Int) := by omega
      have hwk : IntKind.u64.wrap ((k : Int) + 1) = ((k + 1 : Nat) : Int) := by
        rw [show (k : Int) + 1 = ((k + 1 : Nat) : Int) by omega]; exact wrap64_small (by omega)
      have HTK := Hid.mk (allT_succ P k)
      have K := Hid.mk (has_any P k wr hP (by omega))
      have HO := Hid.mk hown
      have HB := Hid.mk hbw
      have HM := Hid.mk hm
      have z := hbw.size
      clear hown hbw hm
      go_wp2_with fail
      refine K.out.mono ?_
      rintro e w1 ⟨rfl, rfl⟩
      cases hs : sb k P with
      | false =>
        have HE : Hid (allT P (k + 1) = allT P k) := by show _ = _; rw [HTK.out, hs]; rfl
        go_wp2
        go_roundw
        case rel => exact ⟨k + 1, m, r, d, by omega, by omega, by first | rfl | go_num, rfl, by rw [HE.out]; exact HM.out, by rw [HE.out]; exact HO.out, HB.out⟩
        case measure => simp [intOf]; omega
      | true =>
        have HE : Hid (allT P (k + 1) = allT P k ++ [Fin.ofNat 64 k]) := by show _ = _; rw [HTK.out, hs]; rfl
        have HV : Hid ((allT P (k + 1)).map encS = (allT P k).map encS ++ [.int .u64 (k : Nat)]) := by
          show _ = _
          rw [HE.out, List.map_append]
          congr 1
          show [encS (Fin.ofNat 64 k)] = _
          unfold encS
          simp [Fin.ofNat, Nat.mod_eq_of_lt (show k < 64 by omega)]
        go_wp2_with (at_builtin; refine wpList_append_lies _ rfl (.tmp 13) (.tmp 15) 61 rfl w.heap.size 56 i0 (.int .u64 0) 1 8 Tryd.underlying61 hi hz0 hz1 hz2 rfl (by decide) _ _ _ rfl (HO.out.alloc _) ⟨w1.heap.size, 0, none⟩ 1 1 [.int .u64 (k : Nat)] rfl rfl (news_at w1 _ _) (by intro u hu; simp at hu; subst hu; rfl) (by decide) (by unfold maxLen; omega) (by omega) (by simp; omega) (w1.heap.size + 1) (by simp) ?_)
        intro g3 cap3 w3 ho3 hg3 hat3 hlt3
        rw [← HV.out] at ho3
        have HB3 : Hid (Below w.heap.size w w3) := (HB.out.alloc z _).grown hg3 (by simp; omega) (fun j hj => (HO.out.lt j hj).1)
        have HO3 := Hid.mk ho3
        clear ho3 hg3 hat3 HO HB K
        go_wp2
        go_roundw
        case rel => exact ⟨k + 1, m + 1, _, _, by omega, by omega, by first | rfl | go_num, rfl, by rw [HE.out, List.length_append, HM.out]; rfl, HO3.out, HB3.out⟩
        case measure => simp [intOf]; omega
    · obtain rfl : k = N := by omega
      have hkk : ¬ (k : Int) < (k : Int) := by omega
      rw [← HAP.out] at hown hm
      have hm0 : 0 < m := by rw [← hm]; exact HLP.out
      obtain ⟨g, hg, hgl, hgr⟩ : ∃ g, r = some ⟨g, 0, none⟩ ∧ w.heap.size ≤ g ∧ g < wr.heap.size := by
        have hlt := hown.lt
        rcases hown.2 with ⟨_, h1⟩ | ⟨g, cap, cur, hv, _⟩
        · omega
        · simp only [Value.slice.injEq, true_and] at hv
          obtain ⟨rfl, rfl⟩ := hv
          exact ⟨g, rfl, hlt g rfl⟩
      subst hg
      have KS := Hid.mk (sortP_any g m d w.heap.size P 56 wr hP hm (TabIs.below HT.out hbw) (by have := hbw.size; omega) (by omega) hown)
      have HB := Hid.mk hbw
      have HM : Hid ((ordP P).length = m) := by show _ = _; rw [← hm, ← HLN.out]; simp [ordPF]
      clear hown hbw hm
      go_wp2_with fail
      refine KS.out.mono ?_
      rintro e w2 ⟨rfl, ho2, hg2⟩
      have HO2 := Hid.mk ho2
      have HB2 : Hid (Below w.heap.size w w2) := HB.out.grown hg2 HB.out.size (fun j hj => by cases hj; exact hgl)
      clear ho2 hg2 HB KS
      go_wp2
      go_ret
      exact ⟨g, m, d, rfl, HM.out, HO2.out, HB2.out⟩

end Go.Proofs.YtkcmlphpilggpaaDoor

/- Contract of costs.bestPlan. -/
namespace Go.Proofs.YtkcmlphpilggpaaDoor
open Go.RowKit

theorem Tryd.infoPlan : (Tryd.prog.info? 49).map (fun i => (i.zero, i.size, i.bytes)) = some (some (.agg #[.slice none 0 0, .int .i64 0]), 2, 32) := by kernel_rfl
/-- The plans of some sets, as the list of plans has them. -/
def PlsIn (wr : World) (g : Nat) (zs : List Int) (fs : List (List Int)) (cells : List Value) (Ts : List Nat) : Prop :=
  ∀ T ∈ Ts, ∃ r d, cells[T * 2]? = some (.slice r (bl T).length d) ∧ cells[T * 2 + 1]? = some (.int .i64 (pC zs fs T)) ∧ wr.ownsRow (g + 1) 3 1 (.slice r (bl T).length d) (bl T).length ((pO zs fs T).map (.int .i64))
theorem PlsIn.below {w w' : World} {g : Nat} {zs : List Int} {fs : List (List Int)} {cells : List Value} {Ts : List Nat} (h : PlsIn w g zs fs cells Ts) (hb : Below w.heap.size w w') : PlsIn w' g zs fs cells Ts := fun T hT => by
  obtain ⟨r, d, h1, h2, h3⟩ := h T hT
  exact ⟨r, d, h1, h2, owns_below h3 hb⟩
theorem tbl_sub {n S P : Nat} (hS : S < 64) (hs : sb S P = true) (h : TbL n (bl P)) : TbL n (bl S) := by
  refine ⟨bl_nd S hS, fun x hx => h.lt x ?_⟩
  obtain ⟨i, hi, hb, rfl⟩ := mem_bl.1 hx
  exact mem_bl.2 ⟨i, hi, sb_bit hs i hb, rfl⟩
theorem ahead_mem {P S k : Nat} (hP : P < 64) (hk : (ordP P)[k]? = some S) (x : Nat) (hx : (x : Int) ∈ bl S) : S &&& (18446744073709551615 - 2 ^ x) ∈ (ordP P).take k := by
  have h1 := ahead_all P hP
  rw [List.all_eq_true] at h1
  have hm := List.mem_of_getElem? hk
  have h2 := h1 S hm
  rw [List.all_eq_true] at h2
  have h3 := h2 (x : Int) hx
  rw [decide_eq_true_eq, Int.toNat_natCast] at h3
  obtain ⟨hkl, e⟩ := List.getElem?_eq_some_iff.1 hk
  have h4 : (ordP P).idxOf S = k := by rw [← e]; exact (ordP_nd_all P hP).idxOf_getElem k hkl
  rw [h4] at h3
  have h5 : (ordP P).idxOf (S &&& (18446744073709551615 - 2 ^ x)) < (ordP P).length := by omega
  rw [List.mem_take_iff_getElem]
  exact ⟨_, by omega, List.getElem_idxOf h5⟩

set_option maxRecDepth 100000 in
set_option maxHeartbeats 8000000 in
theorem bestPlan_any (b P : Nat) (zs : List Int) (fs : List (List Int)) (w : World) (hbx : BoxS w b zs fs) (hg : GsF zs fs) (hP : P < 64) (hT : TbL zs.length (bl P)) (ht : TabB w) :
    Calls Tryd.prog 29 #[.agg #[.func (.func 38) #[] #[.pointer (some ⟨b, 0, none⟩)]], .int .u64 (P : Nat)] w fun e w' => ∃ r d, e = .returned (.agg #[.slice r (bl P).length d, .int .i64 (pC zs fs P)]) ∧ w'.ownsRow w.heap.size 3 1 (.slice r (bl P).length d) (bl P).length ((pO zs fs P).map (.int .i64)) ∧ Below w.heap.size w w' := by
  obtain ⟨i0, hi, hz0, hz1, hz2⟩ := info_parts Tryd.infoPlan
  obtain ⟨W, hW⟩ : ∃ W, W = (w.alloc (.cells #[.func (.func 38) #[] #[.pointer (some ⟨b, 0, none⟩)]] 52)).alloc (.cells #[.slice none 0 0, .int .i64 0] 49) := ⟨_, rfl⟩
  have B0 : Below w.heap.size w W := by rw [hW]; exact ((Below.refl _ _).alloc (Nat.le_refl _) _).alloc (by simp) _
  have zW : W.heap.size = w.heap.size + 2 := by rw [hW]; simp
  have k1 : W.heap[w.heap.size + 1]? = some (.cells #[.slice none 0 0, .int .i64 0] 49 (0, 0)) := by
    rw [hW]
    have q := heap_alloc_new (w.alloc (.cells #[.func (.func 38) #[] #[.pointer (some ⟨b, 0, none⟩)]] 52)) (.cells #[.slice none 0 0, .int .i64 0] 49)
    simpa only [World.size_alloc] using q
  have k0 : W.heap[w.heap.size]? = some (.cells #[.func (.func 38) #[] #[.pointer (some ⟨b, 0, none⟩)]] 52 (0, 0)) := by
    rw [hW]
    exact blk_alloc (heap_alloc_new w _) _
  have hw : IntKind.u64.wrap ((P : Int) + 1) = ((P + 1 : Nat) : Int) := by
    rw [show (P : Int) + 1 = ((P + 1 : Nat) : Int) by omega]; exact wrap64_small (by omega)
  obtain ⟨n, hn⟩ : ∃ n, n = P + 1 := ⟨_, rfl⟩
  rw [← hn] at hw
  have hn64 : n ≤ 64 := by omega
  have hPn : P < n := by omega
  have HN := Hid.mk hn
  have HBX := Hid.mk hbx
  have HG := Hid.mk hg
  have HT := Hid.mk hT
  have HTB := Hid.mk ht
  have HZW := Hid.mk zW
  have HB0 := Hid.mk B0
  clear hbx hg hT ht zW hn B0
  go_enter Tryd.func29, Tryd.ntmps29
  go_upto_region 1 with fail
  rw [← hW]
  clear hW
  go_wp2_with (at_make; refine wpList_make_full _ rfl _ _ 60 rfl W.heap.size 49 i0 (.agg #[.slice none 0 0, .int .i64 0]) 2 Tryd.underlying60 hi hz0 hz1 .u64 .u64 _ _ n rfl rfl rfl rfl (by rw [hz2]; omega) (by unfold maxLen; omega) (Nat.le_refl _) ?_; intro w1 hown hgr)
  obtain ⟨g, hgd⟩ : ∃ g, g = W.heap.size := ⟨_, rfl⟩
  rw [← hgd] at hown ⊢
  have hbg : Below W.heap.size W w1 := (Below.refl _ _).grown hgr (Nat.le_refl _) (by simp)
  have hg1 := (hown.lt g rfl).2
  have HGD := Hid.mk hgd
  obtain ⟨cs, hcs⟩ : ∃ cs, cs = (madeCells (Value.agg #[.slice none 0 0, .int .i64 0]).cells (n * 2)).toList := ⟨_, rfl⟩
  rw [← hcs] at hown
  have hB1 := HB0.out.trans (hbg.mono HB0.out.size)
  have KP := Hid.mk (partsOfSetP P w1 hP (TabIs.below HTB.out hB1))
  have c1 := blk_below k0 hbg
  have e1 := blk_below k1 hbg
  have HO1 := Hid.mk hown
  have HB1 := Hid.mk hB1
  clear hown hgr hbg hcs k0 k1 hgd hB1
  refine KP.out.mono ?_
  rintro e w2 ⟨gp, np, dp, rfl, hnp, hop, hb2⟩
  have hg2 : g < w2.heap.size := Nat.lt_of_lt_of_le hg1 hb2.size
  have c2 := blk_below c1 hb2
  have e2 := blk_below e1 hb2
  have HO2 := Hid.mk (owns_below HO1.out hb2)
  have HB2 := Hid.mk (HB1.out.trans (hb2.mono HB1.out.size))
  have HP2 := Hid.mk (owns_mono hop (show g + 1 ≤ w1.heap.size by omega))
  have HNP := Hid.mk hnp
  have hgw : g = w.heap.size + 2 := by rw [HGD.out]; exact HZW.out
  have hnp64 : np ≤ 64 := by have := ordP_len_all P hP; omega
  have HGW : Hid (g = w.heap.size + 2) := hgw
  have hgl : w.heap.size + 1 < g := by omega
  clear KP HO1 HB1 c1 e1 hop hb2 hnp hg1 hgw
  go_wp2
  go_loopw [14] (fun i wr => ∃ (k : Nat) (cells : List Value), k ≤ np ∧ i = .int .i64 k ∧ wr.ownsRow g 49 2 (.slice (some ⟨g, 0, none⟩) n n) n cells ∧ PlsIn wr g zs fs cells ((ordP P).take k) ∧ wr.ownsRow (g + 1) 56 1 (.slice (some ⟨gp, 0, none⟩) np dp) np ((ordP P).map (fun x => Value.int .u64 (x : Nat))) ∧
    wr.heap[w.heap.size]? = some (.cells #[.func (.func 38) #[] #[.pointer (some ⟨b, 0, none⟩)]] 52 (0, 0)) ∧ wr.heap[w.heap.size + 1]? = some (.cells #[.slice none 0 0, .int .i64 0] 49 (0, 0)) ∧ Below w.heap.size w wr ∧ g < wr.heap.size) (fun i _ => np - (intOf i).toNat)
  case atStart => exact ⟨0, cs, Nat.zero_le _, rfl, HO2.out, (fun T hT => by simp at hT), HP2.out, c2, e2, HB2.out, hg2⟩
  case round =>
    clear HO2 HP2 HB2 c2 e2 hg2 cs
    obtain ⟨k, cells, hk, rfl, ho, hpl, hop, c2, e2, hlo, hgz⟩ := hrel
    by_cases hlt : k < np
    · obtain ⟨S, hS⟩ : ∃ S, (ordP P)[k]? = some S := ⟨_, List.getElem?_eq_getElem (by have := HNP.out; omega)⟩
      obtain ⟨hS64, hsb⟩ := ordP_mem (List.mem_of_getElem? hS)
      have hSP : S ≤ P := by
        have h9 := ordP_le_all P hP
        rw [List.all_eq_true] at h9
        simpa using h9 S (List.mem_of_getElem? hS)
      have hSn : S < n := by omega
      have hcx : wr.cell? ⟨gp, k, none⟩ = some (.int .u64 (S : Nat)) := by
        have h9 := hop.cellAt k (by omega)
        rw [List.getElem?_map, hS] at h9
        simpa using h9
      have hcl : cells.length = n * 2 := ho.1
      have hpA : ∀ x : Nat, x < 6 → (x : Int) ∈ bl S → PlAt wr (g + 1) g zs fs (S &&& (18446744073709551615 - 2 ^ x)) := fun x _ hx => by
        have hm := ahead_mem hP hS x hx
        obtain ⟨r, d, h1, h2, h3⟩ := hpl _ hm
        have hle : S &&& (18446744073709551615 - 2 ^ x) ≤ S := Nat.and_le_left
        exact ⟨r, d, (ho.cellAt _ (by omega)).trans h1, (ho.cellAt _ (by omega)).trans h2, h3⟩
      have KB := Hid.mk (bestOfPlans_any b g (g + 1) n n S zs fs wr (HBX.out.below hlo) HG.out hS64 (tbl_sub hS64 hsb HT.out) hSn hn64 hpA (TabIs.below HTB.out hlo))
      have q0 := blk_cell c2 0 (v := .func (.func 38) #[] #[.pointer (some ⟨b, 0, none⟩)]) rfl
      have hki : (k : Int) < (np : Int) := by omega
      have HO := Hid.mk ho
      have HPL := Hid.mk hpl
      have HOP := Hid.mk hop
      have HC2 := Hid.mk c2
      have HE2 := Hid.mk e2
      have HLO := Hid.mk hlo
      have HS := Hid.mk hS
      clear ho hpl hop c2 e2 hlo hS hpA hsb
      go_wp2_with fail
      refine KB.out.mono ?_
      rintro e w3 ⟨r3, d3, rfl, ho3, hb3⟩
      have hO3 := owns_below HO.out hb3
      obtain ⟨u0, hu0⟩ : ∃ u, cells[S * 2]? = some u := ⟨_, List.getElem?_eq_getElem (by omega)⟩
      obtain ⟨u1, hu1⟩ : ∃ u, cells[S * 2 + 1]? = some u := ⟨_, List.getElem?_eq_getElem (by omega)⟩
      have x0 : w3.cell? ⟨g, S * 2, none⟩ = some u0 := (hO3.cellAt _ (by omega)).trans hu0
      have x1 : w3.cell? ⟨g, S * 2 + 1, none⟩ = some u1 := (hO3.cellAt _ (by omega)).trans hu1
      have y0 : w3.frozen? ⟨g, S * 2, none⟩ = false := hO3.frozenAt _
      have y1 : w3.frozen? ⟨g, S * 2 + 1, none⟩ = false := hO3.frozenAt _
      have t1 := hO3.stored (S * 2) (.slice r3 (bl S).length d3)
      have t2 := t1.1.stored (S * 2 + 1) (.int .i64 (pC zs fs S))
      have hgz3 : g < w3.heap.size := Nat.lt_of_lt_of_le hgz hb3.size
      obtain ⟨m3, hm3⟩ : ∃ m3, (bl S).length = m3 := ⟨_, rfl⟩
      obtain ⟨C3, hC3⟩ : ∃ C, pC zs fs S = C := ⟨_, rfl⟩
      obtain ⟨U, hU⟩ : ∃ U, U = (w3.setCell ⟨g, S * 2, none⟩ (.slice r3 m3 d3)).setCell ⟨g, S * 2 + 1, none⟩ (.int .i64 C3) := ⟨_, rfl⟩
      have hlow : ∀ {n : Nat} {v : Value} {e : TypeId} {xs : List Value}, w3.ownsRow (g + 1) e 1 v n xs → U.ownsRow (g + 1) e 1 v n xs := fun h => by
        rw [hU]
        exact ownsRow_setCell_below (ownsRow_setCell_below h (by show g < g + 1; omega) _) (by show g < g + 1; omega) _
      have hother : ∀ {B : Nat} {o : Obj}, B ≠ g → w3.heap[B]? = some o → U.heap[B]? = some o := fun hne h => by
        rw [hU, Below.heap_setCell _ _ _ _ (by simpa using hne), Below.heap_setCell _ _ _ _ (by simpa using hne)]; exact h
      have HI : Hid (∃ cells', U.ownsRow g 49 2 (.slice (some ⟨g, 0, none⟩) n n) n cells' ∧ PlsIn U g zs fs cells' ((ordP P).take (k + 1)) ∧ U.ownsRow (g + 1) 56 1 (.slice (some ⟨gp, 0, none⟩) np dp) np ((ordP P).map (fun x => Value.int .u64 (x : Nat))) ∧
          U.heap[w.heap.size]? = some (.cells #[.func (.func 38) #[] #[.pointer (some ⟨b, 0, none⟩)]] 52 (0, 0)) ∧ U.heap[w.heap.size + 1]? = some (.cells #[.slice none 0 0, .int .i64 0] 49 (0, 0)) ∧ Below w.heap.size w U ∧ g < U.heap.size) := by
        refine ⟨_, by rw [hU, ← hm3, ← hC3]; exact t2.1, ?_, hlow (owns_below HOP.out hb3), hother (by omega) (blk_below HC2.out hb3), hother (by omega) (blk_below HE2.out hb3), ?_, by rw [hU]; simp [World.setCell]; omega⟩
        · intro T hT
          obtain ⟨hkl, e9⟩ := List.getElem?_eq_some_iff.1 HS.out
          rw [List.take_succ_eq_append_getElem hkl, e9] at hT
          by_cases hTS : T = S
          · subst hTS
            refine ⟨r3, d3, ?_, ?_, hlow (owns_mono ho3 (by omega))⟩
            · rw [List.getElem?_set_ne (by omega), List.getElem?_set_self (by omega)]
            · rw [List.getElem?_set_self (by rw [List.length_set]; omega)]
          · have hT' : T ∈ (ordP P).take k := by
              rcases List.mem_append.1 hT with h | h
              · exact h
              · exact absurd (by simpa using h) hTS
            obtain ⟨r, d, h1, h2, h3⟩ := HPL.out T hT'
            refine ⟨r, d, ?_, ?_, hlow (owns_below h3 hb3)⟩
            · rw [List.getElem?_set_ne (by omega), List.getElem?_set_ne (by omega)]; exact h1
            · rw [List.getElem?_set_ne (by omega), List.getElem?_set_ne (by omega)]; exact h2
        · rw [hU]
          have hlo3 := HLO.out.trans (hb3.mono HLO.out.size)
          exact (hlo3.setCell (p := ⟨g, S * 2, none⟩) (by show w.heap.size ≤ g; omega) _).setCell (p := ⟨g, S * 2 + 1, none⟩) (by show w.heap.size ≤ g; omega) _
      rw [hm3, hC3]
      clear t1 t2 hlow hother hO3 ho3 hb3 hu0 hu1 HO HPL HOP HC2 HE2 HLO KB hm3 hC3 hcx q0
      go_wp2
      rw [← hU]
      clear hU x0 x1 y0 y1
      obtain ⟨cells', i1, i2, i3, i4, i5, i6, i7⟩ := HI.out
      go_roundw
      case rel => exact ⟨k + 1, cells', by omega, by go_num, i1, i2, i3, i4, i5, i6, i7⟩
      case measure => simp [intOf]; omega
    · obtain rfl : np = k := by omega
      have hki : ¬ (np : Int) < (np : Int) := by omega
      rw [List.take_of_length_le (by have := HNP.out; omega)] at hpl
      obtain ⟨r, d, h1, h2, h3⟩ := hpl P (by simpa using ordP_last_all P hP)
      have hcl : cells.length = n * 2 := ho.1
      have x0 : wr.cell? ⟨g, P * 2, none⟩ = some (.slice r (bl P).length d) := (ho.cellAt _ (by omega)).trans h1
      have x1 : wr.cell? ⟨g, P * 2 + 1, none⟩ = some (.int .i64 (pC zs fs P)) := (ho.cellAt _ (by omega)).trans h2
      have y0 := blk_cell e2 0 (v := .slice none 0 0) rfl
      have y1 := blk_cell e2 1 (v := .int .i64 0) rfl
      have f0 := blk_frozen e2 0
      have f1 := blk_frozen e2 1
      obtain ⟨m3, hm3⟩ : ∃ m3, (bl P).length = m3 := ⟨_, rfl⟩
      obtain ⟨C3, hC3⟩ : ∃ C, pC zs fs P = C := ⟨_, rfl⟩
      rw [hm3] at x0 h3
      rw [hC3] at x1
      have HM3 := Hid.mk hm3
      have HC3 := Hid.mk hC3
      obtain ⟨U, hU⟩ : ∃ U, U = (wr.setCell ⟨w.heap.size + 1, 0, none⟩ (.slice r m3 d)).setCell ⟨w.heap.size + 1, 1, none⟩ (.int .i64 C3) := ⟨_, rfl⟩
      have ub : U.heap[w.heap.size + 1]? = some (.cells #[.slice r m3 d, .int .i64 C3] 49 (0, 0)) := by rw [hU]; exact blk_set (blk_set e2 0 _) 1 _
      have u0 := blk_cell ub 0 (v := .slice r m3 d) rfl
      have u1 := blk_cell ub 1 (v := .int .i64 C3) rfl
      have HO : Hid (U.ownsRow w.heap.size 3 1 (.slice r m3 d) m3 ((pO zs fs P).map (.int .i64))) := by
        show World.ownsRow _ _ _ _ _ _ _
        rw [hU]; exact owns_mono (own_set2 h3 e2 (by decide) _ _) (by omega)
      have HB : Hid (Below w.heap.size w U) := by
        show Below _ _ _
        rw [hU]; exact (hlo.setCell (p := ⟨w.heap.size + 1, 0, none⟩) (by show w.heap.size ≤ w.heap.size + 1; omega) _).setCell (p := ⟨w.heap.size + 1, 1, none⟩) (by show w.heap.size ≤ w.heap.size + 1; omega) _
      clear ho hpl hop c2 e2 hlo h1 h2 h3 hm3 hC3
      go_wp2
      rw [← hU]
      clear hU
      exact bodyPost_ret (v := .agg #[.slice r m3 d, .int .i64 C3]) (by simp [results, Tryd.results29, go_sem, u0, u1]) rfl ⟨r, d, by rw [HM3.out, HC3.out], by rw [HM3.out]; exact HO.out, HB.out⟩

end Go.Proofs.YtkcmlphpilggpaaDoor
