/- Several texts of one proof, in build order: KeyC, KeyT, PrtS, PrtI, NrmI, ConcU, OthI. -/
import Derived.Test.YtpnaoahlfhbbmaaDoorM11
import Derived.Test.YtpnaoahlfhbbmaaDoorShelf
import Derived.Lib.QuietBelow
import Derived.Shelf.SlSortCmp.NoneTotal
import Derived.Test.YtpnaoahlfhbbmaaDoorM7
import Derived.Test.YtpnaoahlfhbbmaaDoorM8
import Derived.Lib.Walk
import Derived.Lib.AppendZerosOnto
import Derived.Test.YtpnaoahlfhbbmaaDoorM4

/- The order by which partsOfSet sorts, as slices.SortFunc asks it. -/
namespace Go.Proofs.YtpnaoahlfhbbmaaDoor
open Go.RowKit

/-- By how many columns, then by the first number that is unlike. -/
def cfS (a b : Nat) : Int := if sgnI (pc a) (pc b) = 0 then lexI (bl a) (bl b) else sgnI (pc a) (pc b)
theorem drewn_of {w w' : World} (h : Below w.heap.size w w') (hd : w.drawn ≤ w'.drawn) : ∃ q os, w' = Go.Sort.grow (w.drewN q) os := by
  obtain ⟨p, hp⟩ := regrown_of_below h
  have h1 : w'.drawn = p.d := by rw [hp]; rfl
  have h3 : w.drawn ≤ p.d := by omega
  have h2 : redrawn w p.d = w.drewN (p.d - w.drawn) := by
    show ({ w with drawn := p.d } : World) = { w with drawn := w.drawn + (p.d - w.drawn) }
    rw [show w.drawn + (p.d - w.drawn) = p.d by omega]
  exact ⟨p.d - w.drawn, p.os, by rw [hp, h2]⟩

set_option maxRecDepth 100000 in
set_option maxHeartbeats 2000000 in
theorem cmpS_any (a b : Nat) (w : World) (ha : a < 64) (hb : b < 64) (ht : TabB w) :
    Calls Tryd.prog 62 #[.int .u64 (a : Nat), .int .u64 (b : Nat)] w fun e w' => e = .returned (.int .i64 (cfS a b)) ∧ ∃ q os, w' = Go.Sort.grow (w.drewN q) os := by
  have HT := Hid.mk ht
  clear ht
  go_enter Tryd.func62, Tryd.ntmps62
  go_wp2_with fail
  refine (ones_any a w ha).mono ?_
  rintro e w1 ⟨rfl, rfl⟩
  go_wp2_with fail
  refine (ones_any b _ hb).mono ?_
  rintro e w1 ⟨rfl, rfl⟩
  go_wp2_with fail
  refine (cmpI_any _ _ _).mono ?_
  rintro e w1 ⟨rfl, rfl⟩
  obtain ⟨S, hS⟩ : ∃ S, sgnI (pc a) (pc b) = S := ⟨_, rfl⟩
  have HS : Hid (cfS a b = if S = 0 then lexI (bl a) (bl b) else S) := by show _ = _; unfold cfS; rw [hS]
  rw [hS]
  clear hS
  go_wp2_with fail
  refine (list_drawn a _ ha HT.out).mono ?_
  rintro e w2 ⟨r2, m2, d2, rfl, hm2, ho2, hb2, hd2⟩
  have HO2 := Hid.mk ho2
  have HB2 := Hid.mk hb2
  have HD2 := Hid.mk hd2
  have HM2 := Hid.mk hm2
  clear ho2 hb2 hd2 hm2
  go_wp2_with fail
  refine (list_drawn b _ hb (TabIs.below HT.out HB2.out)).mono ?_
  rintro e w3 ⟨r3, m3, d3, rfl, hm3, ho3, hb3, hd3⟩
  have HO3 := Hid.mk ho3
  have HB3 := Hid.mk (HB2.out.trans (hb3.mono HB2.out.size))
  have HD3 := Hid.mk (Nat.le_trans HD2.out hd3)
  have KL := Hid.mk (lexI_any r2 m2 d2 (bl a) r3 m3 d3 (bl b) w3 HM2.out (by have h1 := bl_len a; have h2 := HM2.out; omega) (At.below (At.owned HO2.out) hb3) hm3 (by have h1 := bl_len b; omega) (At.owned ho3))
  obtain ⟨L, hL⟩ : ∃ L, lexI (bl a) (bl b) = L := ⟨_, rfl⟩
  rw [hL] at KL HS
  clear ho3 hb3 hd3 hm3 hL
  go_wp2_with fail
  refine KL.out.mono ?_
  rintro e w4 ⟨rfl, rfl⟩
  obtain ⟨W, hW⟩ : ∃ W, W = w4.alloc (.cells #[.int .i64 S, .int .i64 L] 3) := ⟨_, rfl⟩
  have q0 : W.cell? ⟨w4.heap.size, 0, none⟩ = some (.int .i64 S) := by rw [hW]; simp
  have q1 : W.cell? ⟨w4.heap.size, 1, none⟩ = some (.int .i64 L) := by rw [hW]; simp
  have KO := Hid.mk (or2_any w4.heap.size S L W q0 q1)
  have HBW : Hid (Below w1.heap.size w1 W) := by rw [hW]; exact HB3.out.alloc HB3.out.size _
  have HDW : Hid (w1.drawn ≤ W.drawn) := by rw [hW]; exact Hid.mk HD3.out
  clear q0 q1
  go_wp2_with fail
  rw [← hW]
  clear hW
  refine KO.out.mono ?_
  rintro e w5 ⟨rfl, rfl⟩
  rw [← HS.out]
  go_wp2
  go_ret
  exact ⟨rfl, drewn_of HBW.out HDW.out⟩

end Go.Proofs.YtpnaoahlfhbbmaaDoor

/- partsOfSet: the sets within one, in their order. -/
namespace Go.Proofs.YtpnaoahlfhbbmaaDoor
open Go.RowKit Go.Shelf Go.Sort

theorem cf_rk : ∀ a : Nat, a < 64 → ∀ b : Nat, b < 64 → decide (cfS a b < 0) = decide (L64.idxOf a < L64.idxOf b) := by decide +kernel
theorem idx_inj : ∀ a : Nat, a < 64 → ∀ b : Nat, b < 64 → L64.idxOf a = L64.idxOf b → a = b := by decide +kernel

theorem pow64K {q : Nat} (h : q ≤ 6) : 2 ^ q ≤ 64 := by have : 2 ^ q ≤ 2 ^ 6 := Nat.pow_le_pow_right (by omega) h; omega
abbrev Set6 := Fin 64
def encS (x : Set6) : Value := .int .u64 (x.1 : Nat)
def cfF (x y : Set6) : Int := cfS x.1 y.1
theorem ltF (x y : Set6) : ltOf cfF x y = decide (L64.idxOf x.1 < L64.idxOf y.1) := cf_rk x.1 x.2 y.1 y.2
theorem swoF : SWO (ltOf cfF) where
  irrefl x := by rw [ltF]; simp
  trans x y z h1 h2 := by rw [ltF, decide_eq_true_eq] at *; omega
  ntrans x y z h1 h2 := by rw [ltF, decide_eq_false_iff_not] at *; omega
theorem totalF (x y : Set6) (h1 : ltOf cfF x y = false) (h2 : ltOf cfF y x = false) : x = y := by
  rw [ltF, decide_eq_false_iff_not] at h1 h2
  exact Fin.ext (idx_inj x.1 x.2 y.1 y.2 (by omega))

/-- The sets of q columns, by number; and in their order. -/
def allF (q : Nat) : List Set6 := (List.range (2 ^ q)).map (Fin.ofNat 64)
def ordF (q : Nat) : List Set6 := (L64.filter (· < 2 ^ q)).map (Fin.ofNat 64)
theorem ord_perm_all : ∀ q : Nat, q < 7 → (ordF q).isPerm (allF q) = true := by decide +kernel
theorem ord_len_all : ∀ q : Nat, q < 7 → (ordF q).length = 2 ^ q ∧ (allF q).length = 2 ^ q := by decide +kernel
theorem ord_rise_all : ∀ q : Nat, q < 7 → (ordF q).Pairwise fun x y => L64.idxOf x.1 < L64.idxOf y.1 := by decide +kernel
theorem ord_sort {q : Nat} (hq : q < 7) : (allF q).mergeSort (fun x y => !(ltOf cfF) y x) = ordF q := by
  have h1 := ord_len_all q hq
  have hp : (ordF q).Perm (allF q) := List.isPerm_iff.1 (ord_perm_all q hq)
  have := sorted_unique_holds (lt := ltOf cfF) swoF totalF (allF q).toArray (ordF q).toArray ⟨by simp [h1.1, h1.2], fun i hi => ?_, ?_⟩ (fun i j _ hij hj => ?_)
  · exact this.symm
  · rcases hi with hi | hi
    · omega
    · simp only [List.size_toArray, h1.2] at hi
      rw [getElem!_neg _ _ (by simp [h1.1]; omega), getElem!_neg _ _ (by simp [h1.2]; omega)]
  · have e1 : (ordF q).toArray.extract 0 (allF q).toArray.size = (ordF q).toArray := by
      rw [show (allF q).toArray.size = (ordF q).toArray.size by simp [h1.1, h1.2]]; exact Array.extract_size
    rw [e1, Array.extract_size]
    exact hp
  · simp only [List.size_toArray, h1.2] at hj
    have hr := List.pairwise_iff_getElem.1 (ord_rise_all q hq) i j (by omega) (by omega) hij
    rw [ltF, getElem!_pos _ _ (by simp [h1.1]; omega), getElem!_pos _ _ (by simp [h1.1]; omega)]
    simp only [List.getElem_toArray]
    exact decide_eq_false (by omega)

theorem TabB.of1 {w w' : World} (h : TabB w) (hb : w'.heap[1]? = w.heap[1]?) : TabB w' := by
  show Lib.TabIs _ _ _ _ _
  have h' : Lib.TabIs Tryd.prog w "math/bits.deBruijn64tab" .u8 deB := h
  unfold Lib.TabIs World.var? at h' ⊢
  rw [gTab] at h' ⊢
  simp only [Option.bind_some] at h' ⊢
  rw [hb]; exact h'

theorem sort_far {w : World} {g m : Nat} {d : Array Set6} {os : Array Obj} {k : Nat} (hk : k < w.heap.size) (hg : g ≠ k) : (sortWorld encS w g 0 m d os).heap[k]? = w.heap[k]? := by
  have hsz : (putRow encS (Sort.ahead w m) g 0 d).heap.size = w.heap.size := by simp [putRow, mapBlock, Sort.ahead]
  unfold sortWorld
  rw [heap_grow_old _ _ (by rw [hsz]; exact hk)]
  simp [putRow, mapBlock, Sort.ahead, Array.getElem?_modify, hg]

theorem laysF (g size : Nat) (w : World) (ht : TabB w) (h1 : 1 < w.heap.size) (hg : g ≠ 1) : CmpLays1 Tryd.prog 62 #[] encS cfF g 0 size w := fun _ _ _ _ x y =>
  cmpS_any x.1 y.1 _ x.2 y.2 (ht.of1 (sort_far h1 hg))

theorem holds_of_own {w : World} {base g n c : Nat} {e : TypeId} {ks : List Set6} (hn : ks.length = n) (h : w.ownsRow base e 1 (.slice (some ⟨g, 0, none⟩) n c) n (ks.map encS)) : Holds encS w g 0 ks.toArray := by
  intro j hj
  have hj' : j < n := by simpa [hn] using hj
  refine ⟨?_, by rw [Nat.zero_add]; exact h.frozenAt j⟩
  rw [Nat.zero_add, h.cellAt j (by omega), List.getElem?_map, List.getElem?_eq_getElem (by omega), getElem!_pos ks.toArray j hj]
  simp

theorem owns_sortedF {w : World} {base g n c m : Nat} {e : TypeId} {os : Array Obj} {ks ts : List Set6} (ht : ts.length = n) (h : w.ownsRow base e 1 (.slice (some ⟨g, 0, none⟩) n c) n (ks.map encS)) :
    (sortWorld encS w g 0 m ts.toArray os).ownsRow base e 1 (.slice (some ⟨g, 0, none⟩) n c) n (ts.map encS) ∧ w.grownBy (sortWorld encS w g 0 m ts.toArray os) (some g) := by
  rcases h.2 with ⟨hv, _⟩ | ⟨g', cap, cur, hv, hbase, hb, h1, h2, h3, h4⟩
  · simp at hv
  · simp only [Value.slice.injEq, Option.some.injEq, Addr.mk.injEq, and_true, true_and] at hv
    obtain ⟨rfl, rfl⟩ := hv
    have hg : g < w.heap.size := (Array.getElem?_eq_some_iff.1 hb).1
    have hsz : (putRow encS (Sort.ahead w m) g 0 ts.toArray).heap.size = w.heap.size := by simp [putRow, mapBlock, Sort.ahead]
    refine ⟨⟨by simp [ht], .inr ⟨g, c, putCells encS 0 ts.toArray cur, rfl, hbase, ?_, h1, h2, by simp [putCells, h3], ?_⟩⟩, rfl, rfl, rfl, ?_, fun k hk hne => sort_far hk (fun e => hne (by rw [e]))⟩
    · unfold sortWorld
      rw [heap_grow_old _ _ (by rw [hsz]; exact hg)]
      simp [putRow, mapBlock, Sort.ahead, Array.getElem?_modify, hb, onCells]
    · apply List.ext_getElem?
      intro j
      by_cases hj : j < n
      · have hjc : j < cur.size := by omega
        rw [List.getElem?_take_of_lt (by omega), Array.getElem?_toList, List.getElem?_map, List.getElem?_eq_getElem (by omega)]
        simp only [putCells, Array.getElem?_mapIdx, Array.getElem?_eq_getElem hjc, Option.map_some]
        rw [if_pos ⟨Nat.zero_le _, by simp; omega⟩]
        simp only [Nat.sub_zero]
        rw [getElem!_pos ts.toArray j (by simp; omega)]
        simp
      · rw [List.getElem?_eq_none (by rw [List.length_take]; omega), List.getElem?_eq_none (by simp; omega)]
    · unfold sortWorld
      simp [grow, hsz]

theorem sortC_any (g n cap base q : Nat) (e : TypeId) (w : World) (hq : q < 7) (hn : 2 ^ q = n) (ht : TabB w) (h1 : 1 < w.heap.size) (hg : g ≠ 1) (h : w.ownsRow base e 1 (.slice (some ⟨g, 0, none⟩) n cap) n ((allF q).map encS)) :
    Calls Tryd.prog 61 #[.slice (some ⟨g, 0, none⟩) n cap, .func (.func 62) #[] #[]] w fun e' w' => e' = .returned (.tuple #[]) ∧
      w'.ownsRow base e 1 (.slice (some ⟨g, 0, none⟩) n cap) n ((ordF q).map encS) ∧ w.grownBy w' (some g) := by
  have eg : ∀ args w, (callFunc 62 args).run Tryd.prog w = .ok (.enter 62 args) w := enters_of Tryd.func62 (by kernel_rfl) rfl
  have hl := ord_len_all q hq
  have hd : (allF q).toArray.size = n := by simp [hl.2, hn]
  have hn64 : n ≤ 64 := by rw [← hn]; exact pow64K (by omega)
  have hcon := Any.slices_SortFunc_total Tryd.sortC encS (fun _ => rfl) cfF swoF 62 #[] g 0 cap (allF q).toArray w eg (laysF g (allF q).toArray.size w ht h1 hg) (holds_of_own (hl.2.trans hn) h) ((h.lt g rfl).2) (by rw [hd]; omega) totalF
  rw [hd] at hcon
  refine Calls.mono hcon ?_
  rintro e' w' ⟨rfl, m, os, rfl⟩
  rw [show (allF q).toArray.toList = allF q from rfl, ord_sort hq]
  exact ⟨rfl, owns_sortedF (hl.1.trans hn) h⟩

end Go.Proofs.YtpnaoahlfhbbmaaDoor

/- partsOfSet at any set: the sets within it, sorted. -/
namespace Go.Proofs.YtpnaoahlfhbbmaaDoor
open Go.RowKit Go.Shelf Go.Sort

/-- The sets within P, by number; and in their order. -/
def allT (P k : Nat) : List Set6 := ((List.range k).filter fun x => sb x P).map (Fin.ofNat 64)
def allP (P : Nat) : List Set6 := allT P (P + 1)
def ordPF (P : Nat) : List Set6 := (ordP P).map (Fin.ofNat 64)
theorem allT_succ (P k : Nat) : allT P (k + 1) = if sb k P then allT P k ++ [Fin.ofNat 64 k] else allT P k := by
  unfold allT
  rw [List.range_succ, List.filter_append]
  cases h : sb k P <;> simp [h]
theorem allT_len (P k : Nat) : (allT P k).length ≤ k := by
  unfold allT
  rw [List.length_map]
  exact Nat.le_trans (List.length_filter_le _ _) (by simp)
theorem ordP_perm_all : ∀ P : Nat, P < 64 → (ordPF P).isPerm (allP P) = true := by decide +kernel
theorem ordP_lens_all : ∀ P : Nat, P < 64 → (ordPF P).length = (allP P).length ∧ 0 < (allP P).length := by decide +kernel
theorem ordP_rise_all : ∀ P : Nat, P < 64 → (ordPF P).Pairwise fun x y => L64.idxOf x.1 < L64.idxOf y.1 := by decide +kernel
theorem ordP_sort {P : Nat} (hP : P < 64) : (allP P).mergeSort (fun x y => !(ltOf cfF) y x) = ordPF P := by
  have h1 := (ordP_lens_all P hP).1
  have hp : (ordPF P).Perm (allP P) := List.isPerm_iff.1 (ordP_perm_all P hP)
  have := sorted_unique_holds (lt := ltOf cfF) swoF totalF (allP P).toArray (ordPF P).toArray ⟨by simp [h1], fun i hi => ?_, ?_⟩ (fun i j _ hij hj => ?_)
  · exact this.symm
  · rcases hi with hi | hi
    · omega
    · simp only [List.size_toArray] at hi
      rw [getElem!_neg _ _ (by simp [h1]; omega), getElem!_neg _ _ (by simp; omega)]
  · have e1 : (ordPF P).toArray.extract 0 (allP P).toArray.size = (ordPF P).toArray := by
      rw [show (allP P).toArray.size = (ordPF P).toArray.size by simp [h1]]; exact Array.extract_size
    rw [e1, Array.extract_size]
    exact hp
  · simp only [List.size_toArray] at hj
    have hr := List.pairwise_iff_getElem.1 (ordP_rise_all P hP) i j (by omega) (by omega) hij
    rw [ltF, getElem!_pos _ _ (by simp [h1]; omega), getElem!_pos _ _ (by simp [h1]; omega)]
    simp only [List.getElem_toArray]
    exact decide_eq_false (by omega)
theorem ordPF_enc_all : ∀ P : Nat, P < 64 → (ordPF P).map (fun x => x.1) = ordP P := by decide +kernel
theorem ordPF_enc {P : Nat} (hP : P < 64) : (ordPF P).map encS = (ordP P).map (fun x => Value.int .u64 (x : Nat)) := by
  rw [← ordPF_enc_all P hP, List.map_map]; rfl

theorem sortP_any (g n cap base P : Nat) (e : TypeId) (w : World) (hP : P < 64) (hn : (allP P).length = n) (ht : TabB w) (h1 : 1 < w.heap.size) (hg : g ≠ 1) (h : w.ownsRow base e 1 (.slice (some ⟨g, 0, none⟩) n cap) n ((allP P).map encS)) :
    Calls Tryd.prog 61 #[.slice (some ⟨g, 0, none⟩) n cap, .func (.func 62) #[] #[]] w fun e' w' => e' = .returned (.tuple #[]) ∧
      w'.ownsRow base e 1 (.slice (some ⟨g, 0, none⟩) n cap) n ((ordP P).map (fun x => Value.int .u64 (x : Nat))) ∧ w.grownBy w' (some g) := by
  have eg : ∀ args w, (callFunc 62 args).run Tryd.prog w = .ok (.enter 62 args) w := enters_of Tryd.func62 (by kernel_rfl) rfl
  have hl := ordP_lens_all P hP
  have hd : (allP P).toArray.size = n := by simp [hn]
  have hn64 : n ≤ 64 := by rw [← hn]; exact Nat.le_trans (allT_len P (P + 1)) (by omega)
  have hcon := Any.slices_SortFunc_total Tryd.sortC encS (fun _ => rfl) cfF swoF 62 #[] g 0 cap (allP P).toArray w eg (laysF g (allP P).toArray.size w ht h1 hg) (holds_of_own hn h) ((h.lt g rfl).2) (by rw [hd]; omega) totalF
  rw [hd] at hcon
  refine Calls.mono hcon ?_
  rintro e' w' ⟨rfl, m, os, rfl⟩
  rw [show (allP P).toArray.toList = allP P from rfl, ordP_sort hP, ← ordPF_enc hP]
  exact ⟨rfl, owns_sortedF (hl.1.trans hn) h⟩

end Go.Proofs.YtpnaoahlfhbbmaaDoor

/- Contract of partsOfSet at any set of columns. -/
namespace Go.Proofs.YtpnaoahlfhbbmaaDoor
open Go.RowKit

theorem Tryd.infoColumnSet : (Tryd.prog.info? 53).map (fun i => (i.zero, i.size, i.bytes)) = some (some (.int .u64 0), 1, 8) := by kernel_rfl
theorem TabB.lt {w : World} (h : TabB w) : 1 < w.heap.size := by
  have h' : Lib.TabIs Tryd.prog w "math/bits.deBruijn64tab" .u8 deB := h
  unfold Lib.TabIs World.var? at h'
  rw [gTab] at h'
  simp only [Option.bind_some] at h'
  by_cases hl : 1 < w.heap.size
  · exact hl
  · rw [Array.getElem?_eq_none (by omega)] at h'
    cases h'

set_option maxRecDepth 100000 in
set_option maxHeartbeats 2000000 in
theorem partsOfSetP (P : Nat) (w : World) (hP : P < 64) (ht : TabB w) :
    Calls Tryd.prog 49 #[.int .u64 (P : Nat)] w fun e w' => ∃ g n d, e = .returned (.slice (some ⟨g, 0, none⟩) n d) ∧ (ordP P).length = n ∧ w'.ownsRow w.heap.size 53 1 (.slice (some ⟨g, 0, none⟩) n d) n ((ordP P).map (fun x => Value.int .u64 (x : Nat))) ∧ Below w.heap.size w w' := by
  obtain ⟨i0, hi, hz0, hz1, hz2⟩ := info_parts Tryd.infoColumnSet
  have HT := Hid.mk ht
  have hw : IntKind.u64.wrap ((P : Int) + 1) = ((P + 1 : Nat) : Int) := by
    rw [show (P : Int) + 1 = ((P + 1 : Nat) : Int) by omega]; exact wrap64_small (by omega)
  have zlt := ht.lt
  have hlens := ordP_lens_all P hP
  have HLN := Hid.mk hlens.1
  have HLP := Hid.mk hlens.2
  obtain ⟨N, hN⟩ : ∃ N, N = P + 1 := ⟨_, rfl⟩
  have HAP : Hid (allP P = allT P N) := by show _ = _; rw [hN]; rfl
  rw [← hN] at hw
  have hN64 : N ≤ 64 := by omega
  clear ht hlens hN
  go_enter Tryd.func49, Tryd.ntmps49
  go_wp2_with fail
  go_loopw [3, 7] (fun p i wx => ∃ (k m : Nat) (r : Option Addr) (d : Nat), k ≤ N ∧ m ≤ k ∧ i = .int .u64 k ∧ p = .slice r m d ∧ (allT P k).length = m ∧ wx.ownsRow w.heap.size 53 1 (.slice r m d) m ((allT P k).map encS) ∧ Below w.heap.size w wx) (fun _ i _ => N - (intOf i).toNat)
  case atStart => exact ⟨0, 0, none, 0, Nat.zero_le _, Nat.le_refl _, rfl, rfl, rfl, World.ownsRow_nil _ _ _ _, Below.refl _ _⟩
  case round =>
    obtain ⟨k, m, r, d, hk, hmk, rfl, rfl, hm, hown, hbw⟩ := hrel
    by_cases hlt : k < N
    · have hki : (k : Int) < (N : Int) := by omega
      have hwk : IntKind.u64.wrap ((k : Int) + 1) = ((k + 1 : Nat) : Int) := by
        rw [show (k : Int) + 1 = ((k + 1 : Nat) : Int) by omega]; exact wrap64_small (by omega)
      have HTK := Hid.mk (allT_succ P k)
      have K := Hid.mk (has_any P k wr hP (by omega))
      have HO := Hid.mk hown
      have HB := Hid.mk hbw
      have HM := Hid.mk hm
      have z := hbw.size
      clear hown hbw hm
      go_wp2_with fail
      refine K.out.mono ?_
      rintro e w1 ⟨rfl, rfl⟩
      cases hs : sb k P with
      | false =>
        have HE : Hid (allT P (k + 1) = allT P k) := by show _ = _; rw [HTK.out, hs]; rfl
        go_wp2
        go_roundw
        case rel => exact ⟨k + 1, m, r, d, by omega, by omega, by first | rfl | go_num, rfl, by rw [HE.out]; exact HM.out, by rw [HE.out]; exact HO.out, HB.out⟩
        case measure => simp [intOf]; omega
      | true =>
        have HE : Hid (allT P (k + 1) = allT P k ++ [Fin.ofNat 64 k]) := by show _ = _; rw [HTK.out, hs]; rfl
        have HV : Hid ((allT P (k + 1)).map encS = (allT P k).map encS ++ [.int .u64 (k : Nat)]) := by
          show _ = _
          rw [HE.out, List.map_append]
          congr 1
          show [encS (Fin.ofNat 64 k)] = _
          unfold encS
          simp [Fin.ofNat, Nat.mod_eq_of_lt (show k < 64 by omega)]
        go_wp2_with (at_builtin; refine wpList_append_lies _ rfl (.tmp 13) (.tmp 15) 64 rfl w.heap.size 53 i0 (.int .u64 0) 1 8 Tryd.underlying64 hi hz0 hz1 hz2 rfl (by decide) _ _ _ rfl (HO.out.alloc _) ⟨w1.heap.size, 0, none⟩ 1 1 [.int .u64 (k : Nat)] rfl rfl (news_at w1 _ _) (by intro u hu; simp at hu; subst hu; rfl) (by decide) (by unfold maxLen; omega) (by omega) (by simp; omega) (w1.heap.size + 1) (by simp) ?_)
        intro g3 cap3 w3 ho3 hg3 hat3 hlt3
        rw [← HV.out] at ho3
        have HB3 : Hid (Below w.heap.size w w3) := (HB.out.alloc z _).grown hg3 (by simp; omega) (fun j hj => (HO.out.lt j hj).1)
        have HO3 := Hid.mk ho3
        clear ho3 hg3 hat3 HO HB K
        go_wp2
        go_roundw
        case rel => exact ⟨k + 1, m + 1, _, _, by omega, by omega, by first | rfl | go_num, rfl, by rw [HE.out, List.length_append, HM.out]; rfl, HO3.out, HB3.out⟩
        case measure => simp [intOf]; omega
    · obtain rfl : k = N := by omega
      have hkk : ¬ (k : Int) < (k : Int) := by omega
      rw [← HAP.out] at hown hm
      have hm0 : 0 < m := by rw [← hm]; exact HLP.out
      obtain ⟨g, hg, hgl, hgr⟩ : ∃ g, r = some ⟨g, 0, none⟩ ∧ w.heap.size ≤ g ∧ g < wr.heap.size := by
        have hlt := hown.lt
        rcases hown.2 with ⟨_, h1⟩ | ⟨g, cap, cur, hv, _⟩
        · omega
        · simp only [Value.slice.injEq, true_and] at hv
          obtain ⟨rfl, rfl⟩ := hv
          exact ⟨g, rfl, hlt g rfl⟩
      subst hg
      have KS := Hid.mk (sortP_any g m d w.heap.size P 53 wr hP hm (TabIs.below HT.out hbw) (by have := hbw.size; omega) (by omega) hown)
      have HB := Hid.mk hbw
      have HM : Hid ((ordP P).length = m) := by show _ = _; rw [← hm, ← HLN.out]; simp [ordPF]
      clear hown hbw hm
      go_wp2_with fail
      refine KS.out.mono ?_
      rintro e w2 ⟨rfl, ho2, hg2⟩
      have HO2 := Hid.mk ho2
      have HB2 : Hid (Below w.heap.size w w2) := HB.out.grown hg2 HB.out.size (fun j hj => by cases hj; exact hgl)
      clear ho2 hg2 HB KS
      go_wp2
      go_ret
      exact ⟨g, m, d, rfl, HM.out, HO2.out, HB2.out⟩

end Go.Proofs.YtpnaoahlfhbbmaaDoor

/- Contracts of firstSplit and IsNormal. -/
namespace Go.Proofs.YtpnaoahlfhbbmaaDoor
open Go.RowKit

set_option maxRecDepth 100000 in
set_option maxHeartbeats 4000000 in
theorem firstSplit_any (a : Option Addr) (n c : Nat) (xs : List (Nat × Nat)) (P : Nat) (w : World) (hz : xs.length = n) (hn : n ≤ 9223372036854775807) (hs : Sets xs) (hP : P < 64) (ha : AtT w a xs) (ht : TabB w) :
    Calls Tryd.prog 28 #[.slice a n c, .int .u64 (P : Nat)] w fun e w' => e = .returned (.tuple #[.int .u64 (fsA xs P : Nat), .int .u64 (fsB xs P : Nat), .bool (fsO xs P)]) ∧ Below w.heap.size w w' := by
  have K := Hid.mk (partsOfSetP P w hP ht)
  have HZ := Hid.mk hz
  have HS := Hid.mk hs
  have HA := Hid.mk ha
  clear hz hs ha ht
  go_enter Tryd.func28, Tryd.ntmps28
  go_wp2_with fail
  refine K.out.mono ?_
  rintro e w1 ⟨g, m, d, rfl, hm, ho, hb1⟩
  have hm64 : m ≤ 64 := by rw [← hm]; exact ordP_len_all P hP
  have HM := Hid.mk hm
  have HO := Hid.mk ho
  have HB1 := Hid.mk hb1
  clear hm ho hb1 K
  go_wp2_with fail
  go_loopw [15] (fun i wx => ∃ (k : Nat), k ≤ m ∧ i = .int .i64 k ∧ fsp xs P = ((ordP P).drop k).find? (spl xs P) ∧ Below w1.heap.size w1 wx) (fun i _ => m - (intOf i).toNat)
  case atStart => exact ⟨0, Nat.zero_le _, rfl, rfl, Below.refl _ _⟩
  case round =>
    obtain ⟨k, hk, rfl, hf, hbw⟩ := hrel
    by_cases hlt : k < m
    · obtain ⟨F, hF⟩ : ∃ F, (ordP P)[k]? = some F := ⟨_, List.getElem?_eq_getElem (by have := HM.out; omega)⟩
      have hcx : wr.cell? ⟨g, k, none⟩ = some (.int .u64 (F : Nat)) := cell_later hbw ((HO.out.cellAt k (by omega)).trans (by rw [List.getElem?_map, hF]; rfl))
      obtain ⟨hF64, hFP⟩ := ordP_mem (List.mem_of_getElem? hF)
      rw [find_drop hF] at hf
      have HF := Hid.mk hf
      have hki : (k : Int) < (m : Int) := by omega
      have hB := HB1.out.trans (hbw.mono HB1.out.size)
      have K := Hid.mk (splitSet_any a n c xs P F wr HZ.out hn HS.out hP hF64 (AtSl.below HA.out hB))
      have HB := Hid.mk hbw
      have HBW := Hid.mk hB
      clear hf hbw hF hB
      go_wp2_with fail
      refine K.out.mono ?_
      rintro e w2 ⟨T, hT, rfl, hb2⟩
      have HB2 := Hid.mk (HB.out.trans (hb2.mono HB.out.size))
      have HBW2 := Hid.mk (HBW.out.trans (hb2.mono HBW.out.size))
      have HTE := Hid.mk hT.clo_eq
      clear hT hb2 K HB HBW
      cases hs : spOk T P F with
      | false =>
        have HF2 : Hid (fsp xs P = ((ordP P).drop (k + 1)).find? (spl xs P)) := by
          show _ = _
          rw [HF.out, if_neg (by unfold spl; rw [HTE.out, hs]; simp)]
        go_wp2
        go_roundw
        case rel => exact ⟨k + 1, by omega, by go_num, HF2.out, HB2.out⟩
        case measure => simp [intOf]; omega
      | true =>
        have HF2 : Hid (fsp xs P = some F) := by
          show _ = _
          rw [HF.out, if_pos (by unfold spl; rw [HTE.out, hs])]
        have HV : Hid (spA T P F = fsA xs P ∧ spB T P F = fsB xs P ∧ true = fsO xs P) := by
          refine ⟨?_, ?_, ?_⟩
          · unfold spA fsA; rw [HF2.out, hs, if_pos rfl]; show _ = clo xs F &&& P; rw [HTE.out]
          · unfold spB fsB; rw [HF2.out, hs, if_pos rfl]; show _ = F ||| dif P (clo xs F); rw [HTE.out]
          · unfold fsO; rw [HF2.out]; rfl
        obtain ⟨A, hA⟩ : ∃ A, spA T P F = A := ⟨_, rfl⟩
        obtain ⟨B, hB⟩ : ∃ B, spB T P F = B := ⟨_, rfl⟩
        rw [hA, hB] at HV ⊢
        clear hA hB
        go_wp2
        exact bodyPost_ret (v := .tuple #[.int .u64 (A : Nat), .int .u64 (B : Nat), .bool true]) (by simp [results, Tryd.results28, go_sem]) rfl ⟨by rw [HV.out.1, HV.out.2.1, ← HV.out.2.2], HBW2.out⟩
    · obtain rfl : k = m := by omega
      have hki : ¬ (k : Int) < (k : Int) := by omega
      rw [find_done (by have := HM.out; omega)] at hf
      have HV : Hid (fsA xs P = 0 ∧ fsB xs P = 0 ∧ fsO xs P = false) := by
        refine ⟨?_, ?_, ?_⟩
        · unfold fsA; rw [hf]
        · unfold fsB; rw [hf]
        · unfold fsO; rw [hf]; rfl
      have HBW := Hid.mk (HB1.out.trans (hbw.mono HB1.out.size))
      clear hf hbw
      go_wp2
      exact bodyPost_ret (v := .tuple #[.int .u64 0, .int .u64 0, .bool false]) (by simp [results, Tryd.results28, go_sem]) rfl ⟨by rw [HV.out.1, HV.out.2.1, HV.out.2.2]; rfl, HBW.out⟩

/-- A part is normal. -/
noncomputable def nrmV (xs : List Dep) (ps : List Int) : Bool := !fsO (dms xs) (mk ps)

set_option maxRecDepth 100000 in
set_option maxHeartbeats 4000000 in
theorem implIsNormal (a : Option Addr) (n c : Nat) (xs : List Dep) (C : Int) (pa : Option Addr) (pn pc : Nat) (ps : List Int) (w : World) (hz : xs.length = n) (hn : n ≤ 1048576) (ha : AtD w a xs) (hpn : ps.length = pn) (hpb : pn ≤ 1048576) (hpa : At w pa ps) (htab : TabB w) :
    Calls Tryd.prog 10 #[.slice a n c, .int .i64 C, .slice pa pn pc] w fun e w' => e = .returned (.tuple #[.bool (prtB xs C ps && nrmV xs ps), .bool (prtB xs C ps)]) ∧ Below w.heap.size w w' := by
  have K1 := Hid.mk (goodPart_any a n c xs C pa pn pc ps w hz (by omega) ha hpn (by omega) hpa)
  have HZ := Hid.mk hz
  have HA := Hid.mk ha
  have HPN := Hid.mk hpn
  have HPA := Hid.mk hpa
  have HT := Hid.mk htab
  clear hz ha hpn hpa htab
  go_enter Tryd.func10, Tryd.ntmps10
  go_wp2_with fail
  refine K1.out.mono ?_
  rintro e w1 ⟨rfl, B1⟩
  cases h1 : prtB xs C ps with
  | false =>
    go_wp2
    exact bodyPost_ret (v := .tuple #[.bool false, .bool false]) (by simp [results, Tryd.results10, go_sem]) rfl ⟨by rw [h1]; rfl, B1⟩
  | true =>
    have hg := h1
    unfold prtB at hg
    rw [Bool.and_eq_true] at hg
    have h6 := (goodDeps_C hg.1).2.1
    have HTP := Hid.mk (Told.of h6 hg.2)
    have HLX : Hid ((dms xs).length = n) := by show _ = _; simp [dms]; exact HZ.out
    have K3 := Hid.mk (tellingsOf_any a n c xs w1 HZ.out hn (Cols.of hg.1) (AtSl.below HA.out B1))
    have HSS := Hid.mk (Cols.of hg.1).sets
    have hP6 := HTP.out.lt
    have HB1 := Hid.mk B1
    clear hg h6 B1
    go_wp2_with fail
    refine K3.out.mono ?_
    rintro e w3 ⟨r3, d3, rfl, hat3, hb3⟩
    have HB3 := Hid.mk (HB1.out.trans (hb3.mono HB1.out.size))
    have HA3 := Hid.mk hat3
    clear hat3 hb3 K3 HB1
    go_wp2_with fail
    refine (setOf_any pa pn pc ps w3 HPN.out (by omega) HTP.out.in (At.below HPA.out HB3.out)).mono ?_
    rintro e w4 ⟨rfl, hw4⟩
    obtain rfl := hw4.symm
    clear hw4
    go_wp2_with fail
    refine (firstSplit_any r3 n d3 (dms xs) (mk ps) w3 HLX.out (by omega) HSS.out hP6 HA3.out (TabIs.below HT.out HB3.out)).mono ?_
    rintro e w5 ⟨rfl, hb5⟩
    have HB5 := Hid.mk (HB3.out.trans (hb5.mono HB3.out.size))
    have HV : Hid (nrmV xs ps = !fsO (dms xs) (mk ps)) := rfl
    obtain ⟨ok, hok⟩ : ∃ ok, fsO (dms xs) (mk ps) = ok := ⟨_, rfl⟩
    obtain ⟨A, hA⟩ : ∃ A, fsA (dms xs) (mk ps) = A := ⟨_, rfl⟩
    obtain ⟨B, hB⟩ : ∃ B, fsB (dms xs) (mk ps) = B := ⟨_, rfl⟩
    rw [hok] at HV
    rw [hok, hA, hB]
    clear hb5 hok hA hB HB3
    go_wp2
    exact bodyPost_ret (v := .tuple #[.bool (!ok), .bool true]) (by simp [results, Tryd.results10, go_sem]) rfl ⟨by rw [HV.out, h1]; rfl, HB5.out⟩

end Go.Proofs.YtpnaoahlfhbbmaaDoor

/- Contracts of slices.Grow, slices.Concat at sets of columns. -/
namespace Go.Proofs.YtpnaoahlfhbbmaaDoor
open Go.RowKit

abbrev vU (ks : List Nat) : List Value := ks.map (fun x => Value.int .u64 (x : Nat))
theorem vU_one (ks : List Nat) : ∀ u ∈ vU ks, u.oneCell' = true := fun u hu => by
  obtain ⟨x, _, rfl⟩ := List.mem_map.1 hu
  rfl
theorem vU_at {w : World} {base : Nat} {e : TypeId} {g n c : Nat} {ks : List Nat} (h : w.ownsRow base e 1 (.slice (some ⟨g, 0, none⟩) n c) n (vU ks)) : ∀ ad, some (⟨g, 0, none⟩ : Addr) = some ad → ∀ (j : Nat) (u : Value), (vU ks)[j]? = some u → w.cell? (ad.add j) = some u := fun ad he j u hu => by
  obtain rfl := Option.some.inj he
  have hj : j < n * 1 := by rw [← h.1]; exact (List.getElem?_eq_some_iff.1 hu).1
  rw [Addr.add_lit, Nat.zero_add, h.cellAt j hj]
  exact hu

theorem growU_none (w : World) : Calls Tryd.prog 68 #[.slice none 0 0, .int .i64 0] w fun e w' => e = .returned (.slice none 0 0) ∧ w' = w := by
  go_enter Tryd.func68, Tryd.ntmps68
  go_wp2
  go_ret
  exact ⟨rfl, rfl⟩

set_option maxRecDepth 100000 in
set_option maxHeartbeats 2000000 in
theorem growU_some (n : Nat) (w : World) (h0 : 0 < n) (hn : n ≤ 10000000) :
    Calls Tryd.prog 68 #[.slice none 0 0, .int .i64 n] w fun e w' => ∃ g cap, e = .returned (.slice (some ⟨g, 0, none⟩) 0 cap) ∧ w'.ownsRow w.heap.size 53 1 (.slice (some ⟨g, 0, none⟩) 0 cap) 0 [] ∧ Below w.heap.size w w' := by
  obtain ⟨i0, hi, hz0, hz1, hz2⟩ := info_parts Tryd.infoColumnSet
  obtain ⟨cap, hcap⟩ : ∃ cap, cap = grownCap w n 0 53 := ⟨_, rfl⟩
  have hge : n ≤ cap := by rw [hcap]; exact grownCap_ge w n 0 _
  have hle : cap ≤ maxLen := by rw [hcap]; exact grownCap_le_maxLen w n 0 _ (by unfold maxLen; omega)
  obtain ⟨cs, hcs⟩ : ∃ cs, cs = #[] ++ Builtin.zeroCells (Value.int .u64 0).cells n ++ Builtin.zeroCells (Value.int .u64 0).cells (cap - n) := ⟨_, rfl⟩
  have hsz : cs.size = cap * 1 := by rw [hcs]; simp only [Array.size_append, size_zeroCells]; simp [Value.cells]; omega
  have hrz : ∀ ty, (Builtin.append_ #[64, 3] ty #[.slice none 0 0, .int .i64 (n : Int)]).run Tryd.prog w = .ok (.slice (some ⟨w.heap.size, 0, none⟩) n cap) (w.drew.alloc (.cells cs 53)) := fun ty => by
    have h := Lib.run_append_grow_zeros w 64 3 ty 53 i0 (.int .u64 0) .i64 .i64 Tryd.underlying64 Tryd.underlying3 hi hz0 none 0 0 [] (run_firstCells_none w.drew i0.size 0 0 0) n h0 (by rw [hz1]; decide) (by omega) (by omega) (by rw [hz2]; omega) (growslice_fits (by omega) (by rw [hz2]; omega))
    rw [Nat.zero_add, ← hcap] at h
    rw [h, hcs]
  have hb : Below w.heap.size w (w.drew.alloc (.cells cs 53)) := (Below.refl _ _).drew.alloc (Nat.le_refl _) _
  have hown : (w.drew.alloc (.cells cs 53)).ownsRow w.heap.size 53 1 (.slice (some ⟨w.heap.size, 0, none⟩) 0 cap) 0 [] :=
    ⟨by simp, .inr ⟨w.heap.size, cap, cs, rfl, Nat.le_refl _, heap_alloc_new w.drew _, by omega, hle, hsz, by simp⟩⟩
  have hpos : (0 : Int) < (n : Int) := by omega
  have hcap63 : (cap : Int) ≤ 9223372036854775807 := by unfold maxLen at hle; omega
  clear hcs hcap hsz
  go_enter Tryd.func68, Tryd.ntmps68
  go_wp2_with (at_builtin; refine Lib.wpList_append_run _ rfl _ _ _ _ rfl _ _ rfl rfl _ _ (hrz _) ?_)
  go_ret
  exact ⟨_, _, rfl, hown, hb⟩

theorem growU_any (x : Int) (w : World) (h0 : 0 ≤ x) (hn : x ≤ 10000000) :
    Calls Tryd.prog 68 #[.slice none 0 0, .int .i64 x] w fun e w' => ∃ r cap, e = .returned (.slice r 0 cap) ∧ w'.ownsRow w.heap.size 53 1 (.slice r 0 cap) 0 [] ∧ Below w.heap.size w w' := by
  obtain ⟨n, rfl⟩ : ∃ n : Nat, x = n := ⟨x.toNat, by omega⟩
  cases n with
  | zero => exact (growU_none w).mono fun e w' ⟨h1, h2⟩ => ⟨none, 0, h1, by rw [h2]; exact World.ownsRow_nil _ _ _ _, by rw [h2]; exact Below.refl _ _⟩
  | succ n => exact (growU_some (n + 1) w (by omega) (by omega)).mono fun e w' ⟨g, cap, h1, h2, h3⟩ => ⟨_, cap, h1, h2, h3⟩

set_option maxRecDepth 100000 in
set_option maxHeartbeats 4000000 in
theorem concatU_any (B0 b1 b2 : Nat) (g g' : Nat) (n n' c c' : Nat) (ks ks' : List Nat) (w : World) (hz : ks.length = n) (hz' : ks'.length = n') (hn : n ≤ 1048576) (hn' : n' ≤ 1048576)
    (ha : w.ownsRow b1 53 1 (.slice (some ⟨g, 0, none⟩) n c) n (vU ks)) (ha' : w.ownsRow b2 53 1 (.slice (some ⟨g', 0, none⟩) n' c') n' (vU ks')) (h0 : 0 < n)
    (q0 : w.cell? ⟨B0, 0, none⟩ = some (.slice (some ⟨g, 0, none⟩) n c)) (q1 : w.cell? ⟨B0, 1, none⟩ = some (.slice (some ⟨g', 0, none⟩) n' c')) :
    Calls Tryd.prog 56 #[.slice (some ⟨B0, 0, none⟩) 2 2] w fun e w' => ∃ r d, e = .returned (.slice (some ⟨r, 0, none⟩) (n + n') d) ∧ w'.ownsRow w.heap.size 53 1 (.slice (some ⟨r, 0, none⟩) (n + n') d) (n + n') (vU (ks ++ ks')) ∧ Below w.heap.size w w' := by
  obtain ⟨i0, hi, hz0, hz1, hz2⟩ := info_parts Tryd.infoColumnSet
  have hw : IntKind.i64.wrap ((n : Int) + (n' : Int)) = ((n + n' : Nat) : Int) := (IntWalk.i64_in _ (by omega)).trans (by omega)
  have HA := Hid.mk ha
  have HA' := Hid.mk ha'
  have HZ := Hid.mk hz
  have HZ' := Hid.mk hz'
  clear ha ha' hz hz'
  go_enter Tryd.func56, Tryd.ntmps56
  go_wp2
  refine wp_loop_rounds 3 ?_
  rw [rounds_succ]
  go_wp2
  rw [rounds_succ]
  go_wp2
  rw [rounds_succ]
  go_wp2_with fail
  refine (growU_any _ w (by omega) (by omega)).mono ?_
  rintro e w1 ⟨r1, d1, rfl, ho1, hb1⟩
  have p0 := cell_later hb1 q0
  have p1 := cell_later hb1 q1
  have HO1 := Hid.mk ho1
  clear ho1
  go_wp2
  refine wp_loop_rounds 3 ?_
  rw [rounds_succ]
  go_wp2_with (at_builtin; refine wpList_app_vals rfl (.tmp 31) (.tmp 32) 64 rfl w.heap.size 53 i0 (.int .u64 0) 1 8 Tryd.underlying64 hi hz0 hz1 hz2 rfl (by decide) (.slice r1 0 d1) 0 ([]) rfl HO1.out (some ⟨g, 0, none⟩) n c (vU ks) rfl (by simp [vU]; exact HZ.out) (vU_at (owns_below HA.out hb1)) (vU_one _) (fun h => by cases h) (by unfold maxLen; omega) (by omega) hb1.size ?_; rintro r2 d2 w2 ho2 hg2 ht2; (try rw [Nat.zero_add, List.nil_append] at ho2); have B2 : Below w.heap.size w w2 := hb1.grown hg2 hb1.size (fun j hj => (HO1.out.lt j hj).1); have HO2 := Hid.mk ho2; have p0 := cell_later (B2) q0; have p1 := cell_later (B2) q1; clear ho2 hg2 ht2)
  rw [rounds_succ]
  go_wp2_with (at_builtin; refine wpList_app_vals rfl (.tmp 31) (.tmp 32) 64 rfl w.heap.size 53 i0 (.int .u64 0) 1 8 Tryd.underlying64 hi hz0 hz1 hz2 rfl (by decide) (.slice r2 n d2) n (vU ks) rfl HO2.out (some ⟨g', 0, none⟩) n' c' (vU ks') rfl (by simp [vU]; exact HZ'.out) (vU_at (owns_below HA'.out B2)) (vU_one _) (fun h => by cases h) (by unfold maxLen; omega) (by omega) B2.size ?_; rintro r3 d3 w3 ho3 hg3 ht3; (try rw [Nat.zero_add, List.nil_append] at ho3); have B3 : Below w.heap.size w w3 := B2.grown hg3 B2.size (fun j hj => (HO2.out.lt j hj).1); have HO3 := Hid.mk ho3; have p0 := cell_later (B3) q0; have p1 := cell_later (B3) q1; clear ho3 hg3 ht3)
  rw [rounds_succ]
  have HO4 : Hid (w3.ownsRow w.heap.size 53 1 (.slice r3 (n + n') d3) (n + n') (vU (ks ++ ks'))) := by
    have h9 := HO3.out
    show World.ownsRow _ _ _ _ _ _ _
    rw [show vU (ks ++ ks') = vU ks ++ vU ks' from List.map_append]; exact h9
  obtain ⟨r, hr⟩ : ∃ r, r3 = some ⟨r, 0, none⟩ := by
    rcases HO4.out.2 with ⟨_, h9⟩ | ⟨g9, cap, cur, hv, _⟩
    · omega
    · simp only [Value.slice.injEq, true_and] at hv
      exact ⟨g9, hv.1⟩
  subst hr
  clear HO3
  go_wp2
  go_ret
  exact ⟨r, d3, rfl, HO4.out, B3⟩

end Go.Proofs.YtpnaoahlfhbbmaaDoor

/- Contract of columnSet.others. -/
namespace Go.Proofs.YtpnaoahlfhbbmaaDoor
open Go.RowKit

/-- What of the first q columns is not in T. -/
def oth (q T : Nat) : Nat := (2 ^ q - 1) &&& (18446744073709551615 - T)
theorem others_any (T q : Nat) (w : World) (hT : T < 64) (hq : q ≤ 6) :
    Calls Tryd.prog 37 #[.int .u64 (T : Nat), .int .i64 (q : Nat)] w fun e w' => e = .returned (.int .u64 (oth q T : Nat)) ∧ w' = w := by
  have h2 : 2 ^ q ≤ 64 := by have : 2 ^ q ≤ 2 ^ 6 := Nat.pow_le_pow_right (by omega) hq; omega
  have h1 : 1 ≤ 2 ^ q := Nat.one_le_two_pow
  have e1 : IntKind.u64.wrap (2 ^ q) = ((2 ^ q : Nat) : Int) := by
    have := wrap64_small (n := 2 ^ q) (by omega)
    rw [← this]; congr 1
  have e2 : IntKind.u64.wrap (((2 ^ q : Nat) : Int) - 1) = ((2 ^ q - 1 : Nat) : Int) := by
    rw [show ((2 ^ q : Nat) : Int) - 1 = ((2 ^ q - 1 : Nat) : Int) by omega]; exact wrap64_small (by omega)
  have e3 := u64_andNot_nat (2 ^ q - 1) T (by omega) (by omega)
  have e4 : bits .andNot .u64 (IntKind.u64.wrap (IntKind.u64.wrap (2 ^ q) - 1)) (T : Int) = (oth q T : Int) := by rw [e1, e2, e3]; rfl
  have H4 := Hid.mk e4
  clear e1 e2 e3 e4
  go_enter Tryd.func37, Tryd.ntmps37
  go_wp2
  go_ret
  refine ⟨?_, rfl⟩
  rw [← H4.out]
  rfl


end Go.Proofs.YtpnaoahlfhbbmaaDoor
