/- Several texts of one proof, in build order: KeyC, KeyT, PrtS, PrtI, DinI, DinU, IntE, DepE, IntM. -/
import Derived.Test.YtpnaoahlfhbbmabDoorM11
import Derived.Test.YtpnaoahlfhbbmabDoorShelf
import Derived.Lib.QuietBelow
import Derived.Shelf.SlSortCmp.NoneTotal
import Derived.Test.YtpnaoahlfhbbmabDoorM7
import Derived.Test.YtpnaoahlfhbbmabDoorM8
import Derived.Test.YtpnaoahlfhbbmabDoorM10
import Derived.Test.YtpnaoahlfhbbmabDoorM3

/- The order by which partsOfSet sorts, as slices.SortFunc asks it. -/
namespace Go.Proofs.YtpnaoahlfhbbmabDoor
open Go.RowKit

/-- By how many columns, then by the first number that is unlike. -/
def cfS (a b : Nat) : Int := if sgnI (pc a) (pc b) = 0 then lexI (bl a) (bl b) else sgnI (pc a) (pc b)
theorem drewn_of {w w' : World} (h : Below w.heap.size w w') (hd : w.drawn ≤ w'.drawn) : ∃ q os, w' = Go.Sort.grow (w.drewN q) os := by
  obtain ⟨p, hp⟩ := regrown_of_below h
  have h1 : w'.drawn = p.d := by rw [hp]; rfl
  have h3 : w.drawn ≤ p.d := by omega
  have h2 : redrawn w p.d = w.drewN (p.d - w.drawn) := by
    show ({ w with drawn := p.d } : World) = { w with drawn := w.drawn + (p.d - w.drawn) }
    rw [show w.drawn + (p.d - w.drawn) = p.d by omega]
  exact ⟨p.d - w.drawn, p.os, by rw [hp, h2]⟩

set_option maxRecDepth 100000 in
set_option maxHeartbeats 2000000 in
theorem cmpS_any (a b : Nat) (w : World) (ha : a < 64) (hb : b < 64) (ht : TabB w) :
    Calls Tryd.prog 40 #[.int .u64 (a : Nat), .int .u64 (b : Nat)] w fun e w' => e = .returned (.int .i64 (cfS a b)) ∧ ∃ q os, w' = Go.Sort.grow (w.drewN q) os := by
  have HT := Hid.mk ht
  clear ht
  go_enter Tryd.func40, Tryd.ntmps40
  go_wp2_with fail
  refine (ones_any a w ha).mono ?_
  rintro e w1 ⟨rfl, rfl⟩
  go_wp2_with fail
  refine (ones_any b _ hb).mono ?_
  rintro e w1 ⟨rfl, rfl⟩
  go_wp2_with fail
  refine (cmpI_any _ _ _).mono ?_
  rintro e w1 ⟨rfl, rfl⟩
  obtain ⟨S, hS⟩ : ∃ S, sgnI (pc a) (pc b) = S := ⟨_, rfl⟩
  have HS : Hid (cfS a b = if S = 0 then lexI (bl a) (bl b) else S) := by show _ = _; unfold cfS; rw [hS]
  rw [hS]
  clear hS
  go_wp2_with fail
  refine (list_drawn a _ ha HT.out).mono ?_
  rintro e w2 ⟨r2, m2, d2, rfl, hm2, ho2, hb2, hd2⟩
  have HO2 := Hid.mk ho2
  have HB2 := Hid.mk hb2
  have HD2 := Hid.mk hd2
  have HM2 := Hid.mk hm2
  clear ho2 hb2 hd2 hm2
  go_wp2_with fail
  refine (list_drawn b _ hb (TabIs.below HT.out HB2.out)).mono ?_
  rintro e w3 ⟨r3, m3, d3, rfl, hm3, ho3, hb3, hd3⟩
  have HO3 := Hid.mk ho3
  have HB3 := Hid.mk (HB2.out.trans (hb3.mono HB2.out.size))
  have HD3 := Hid.mk (Nat.le_trans HD2.out hd3)
  have KL := Hid.mk (lexI_any r2 m2 d2 (bl a) r3 m3 d3 (bl b) w3 HM2.out (by have h1 := bl_len a; have h2 := HM2.out; omega) (At.below (At.owned HO2.out) hb3) hm3 (by have h1 := bl_len b; omega) (At.owned ho3))
  obtain ⟨L, hL⟩ : ∃ L, lexI (bl a) (bl b) = L := ⟨_, rfl⟩
  rw [hL] at KL HS
  clear ho3 hb3 hd3 hm3 hL
  go_wp2_with fail
  refine KL.out.mono ?_
  rintro e w4 ⟨rfl, rfl⟩
  obtain ⟨W, hW⟩ : ∃ W, W = w4.alloc (.cells #[.int .i64 S, .int .i64 L] 3) := ⟨_, rfl⟩
  have q0 : W.cell? ⟨w4.heap.size, 0, none⟩ = some (.int .i64 S) := by rw [hW]; simp
  have q1 : W.cell? ⟨w4.heap.size, 1, none⟩ = some (.int .i64 L) := by rw [hW]; simp
  have KO := Hid.mk (or2_any w4.heap.size S L W q0 q1)
  have HBW : Hid (Below w1.heap.size w1 W) := by rw [hW]; exact HB3.out.alloc HB3.out.size _
  have HDW : Hid (w1.drawn ≤ W.drawn) := by rw [hW]; exact Hid.mk HD3.out
  clear q0 q1
  go_wp2_with fail
  rw [← hW]
  clear hW
  refine KO.out.mono ?_
  rintro e w5 ⟨rfl, rfl⟩
  rw [← HS.out]
  go_wp2
  go_ret
  exact ⟨rfl, drewn_of HBW.out HDW.out⟩

end Go.Proofs.YtpnaoahlfhbbmabDoor

/- partsOfSet: the sets within one, in their order. -/
namespace Go.Proofs.YtpnaoahlfhbbmabDoor
open Go.RowKit Go.Shelf Go.Sort

theorem cf_rk : ∀ a : Nat, a < 64 → ∀ b : Nat, b < 64 → decide (cfS a b < 0) = decide (L64.idxOf a < L64.idxOf b) := by decide +kernel
theorem idx_inj : ∀ a : Nat, a < 64 → ∀ b : Nat, b < 64 → L64.idxOf a = L64.idxOf b → a = b := by decide +kernel

theorem pow64K {q : Nat} (h : q ≤ 6) : 2 ^ q ≤ 64 := by have : 2 ^ q ≤ 2 ^ 6 := Nat.pow_le_pow_right (by omega) h; omega
abbrev Set6 := Fin 64
def encS (x : Set6) : Value := .int .u64 (x.1 : Nat)
def cfF (x y : Set6) : Int := cfS x.1 y.1
theorem ltF (x y : Set6) : ltOf cfF x y = decide (L64.idxOf x.1 < L64.idxOf y.1) := cf_rk x.1 x.2 y.1 y.2
theorem swoF : SWO (ltOf cfF) where
  irrefl x := by rw [ltF]; simp
  trans x y z h1 h2 := by rw [ltF, decide_eq_true_eq] at *; omega
  ntrans x y z h1 h2 := by rw [ltF, decide_eq_false_iff_not] at *; omega
theorem totalF (x y : Set6) (h1 : ltOf cfF x y = false) (h2 : ltOf cfF y x = false) : x = y := by
  rw [ltF, decide_eq_false_iff_not] at h1 h2
  exact Fin.ext (idx_inj x.1 x.2 y.1 y.2 (by omega))

/-- The sets of q columns, by number; and in their order. -/
def allF (q : Nat) : List Set6 := (List.range (2 ^ q)).map (Fin.ofNat 64)
def ordF (q : Nat) : List Set6 := (L64.filter (· < 2 ^ q)).map (Fin.ofNat 64)
theorem ord_perm_all : ∀ q : Nat, q < 7 → (ordF q).isPerm (allF q) = true := by decide +kernel
theorem ord_len_all : ∀ q : Nat, q < 7 → (ordF q).length = 2 ^ q ∧ (allF q).length = 2 ^ q := by decide +kernel
theorem ord_rise_all : ∀ q : Nat, q < 7 → (ordF q).Pairwise fun x y => L64.idxOf x.1 < L64.idxOf y.1 := by decide +kernel
theorem ord_sort {q : Nat} (hq : q < 7) : (allF q).mergeSort (fun x y => !(ltOf cfF) y x) = ordF q := by
  have h1 := ord_len_all q hq
  have hp : (ordF q).Perm (allF q) := List.isPerm_iff.1 (ord_perm_all q hq)
  have := sorted_unique_holds (lt := ltOf cfF) swoF totalF (allF q).toArray (ordF q).toArray ⟨by simp [h1.1, h1.2], fun i hi => ?_, ?_⟩ (fun i j _ hij hj => ?_)
  · exact this.symm
  · rcases hi with hi | hi
    · omega
    · simp only [List.size_toArray, h1.2] at hi
      rw [getElem!_neg _ _ (by simp [h1.1]; omega), getElem!_neg _ _ (by simp [h1.2]; omega)]
  · have e1 : (ordF q).toArray.extract 0 (allF q).toArray.size = (ordF q).toArray := by
      rw [show (allF q).toArray.size = (ordF q).toArray.size by simp [h1.1, h1.2]]; exact Array.extract_size
    rw [e1, Array.extract_size]
    exact hp
  · simp only [List.size_toArray, h1.2] at hj
    have hr := List.pairwise_iff_getElem.1 (ord_rise_all q hq) i j (by omega) (by omega) hij
    rw [ltF, getElem!_pos _ _ (by simp [h1.1]; omega), getElem!_pos _ _ (by simp [h1.1]; omega)]
    simp only [List.getElem_toArray]
    exact decide_eq_false (by omega)

theorem TabB.of1 {w w' : World} (h : TabB w) (hb : w'.heap[1]? = w.heap[1]?) : TabB w' := by
  show Lib.TabIs _ _ _ _ _
  have h' : Lib.TabIs Tryd.prog w "math/bits.deBruijn64tab" .u8 deB := h
  unfold Lib.TabIs World.var? at h' ⊢
  rw [gTab] at h' ⊢
  simp only [Option.bind_some] at h' ⊢
  rw [hb]; exact h'

theorem sort_far {w : World} {g m : Nat} {d : Array Set6} {os : Array Obj} {k : Nat} (hk : k < w.heap.size) (hg : g ≠ k) : (sortWorld encS w g 0 m d os).heap[k]? = w.heap[k]? := by
  have hsz : (putRow encS (Sort.ahead w m) g 0 d).heap.size = w.heap.size := by simp [putRow, mapBlock, Sort.ahead]
  unfold sortWorld
  rw [heap_grow_old _ _ (by rw [hsz]; exact hk)]
  simp [putRow, mapBlock, Sort.ahead, Array.getElem?_modify, hg]

theorem laysF (g size : Nat) (w : World) (ht : TabB w) (h1 : 1 < w.heap.size) (hg : g ≠ 1) : CmpLays1 Tryd.prog 40 #[] encS cfF g 0 size w := fun _ _ _ _ x y =>
  cmpS_any x.1 y.1 _ x.2 y.2 (ht.of1 (sort_far h1 hg))

theorem holds_of_own {w : World} {base g n c : Nat} {e : TypeId} {ks : List Set6} (hn : ks.length = n) (h : w.ownsRow base e 1 (.slice (some ⟨g, 0, none⟩) n c) n (ks.map encS)) : Holds encS w g 0 ks.toArray := by
  intro j hj
  have hj' : j < n := by simpa [hn] using hj
  refine ⟨?_, by rw [Nat.zero_add]; exact h.frozenAt j⟩
  rw [Nat.zero_add, h.cellAt j (by omega), List.getElem?_map, List.getElem?_eq_getElem (by omega), getElem!_pos ks.toArray j hj]
  simp

theorem owns_sortedF {w : World} {base g n c m : Nat} {e : TypeId} {os : Array Obj} {ks ts : List Set6} (ht : ts.length = n) (h : w.ownsRow base e 1 (.slice (some ⟨g, 0, none⟩) n c) n (ks.map encS)) :
    (sortWorld encS w g 0 m ts.toArray os).ownsRow base e 1 (.slice (some ⟨g, 0, none⟩) n c) n (ts.map encS) ∧ w.grownBy (sortWorld encS w g 0 m ts.toArray os) (some g) := by
  rcases h.2 with ⟨hv, _⟩ | ⟨g', cap, cur, hv, hbase, hb, h1, h2, h3, h4⟩
  · simp at hv
  · simp only [Value.slice.injEq, Option.some.injEq, Addr.mk.injEq, and_true, true_and] at hv
    obtain ⟨rfl, rfl⟩ := hv
    have hg : g < w.heap.size := (Array.getElem?_eq_some_iff.1 hb).1
    have hsz : (putRow encS (Sort.ahead w m) g 0 ts.toArray).heap.size = w.heap.size := by simp [putRow, mapBlock, Sort.ahead]
    refine ⟨⟨by simp [ht], .inr ⟨g, c, putCells encS 0 ts.toArray cur, rfl, hbase, ?_, h1, h2, by simp [putCells, h3], ?_⟩⟩, rfl, rfl, rfl, ?_, fun k hk hne => sort_far hk (fun e => hne (by rw [e]))⟩
    · unfold sortWorld
      rw [heap_grow_old _ _ (by rw [hsz]; exact hg)]
      simp [putRow, mapBlock, Sort.ahead, Array.getElem?_modify, hb, onCells]
    · apply List.ext_getElem?
      intro j
      by_cases hj : j < n
      · have hjc : j < cur.size := by omega
        rw [List.getElem?_take_of_lt (by omega), Array.getElem?_toList, List.getElem?_map, List.getElem?_eq_getElem (by omega)]
        simp only [putCells, Array.getElem?_mapIdx, Array.getElem?_eq_getElem hjc, Option.map_some]
        rw [if_pos ⟨Nat.zero_le _, by simp; omega⟩]
        simp only [Nat.sub_zero]
        rw [getElem!_pos ts.toArray j (by simp; omega)]
        simp
      · rw [List.getElem?_eq_none (by rw [List.length_take]; omega), List.getElem?_eq_none (by simp; omega)]
    · unfold sortWorld
      simp [grow, hsz]

theorem sortC_any (g n cap base q : Nat) (e : TypeId) (w : World) (hq : q < 7) (hn : 2 ^ q = n) (ht : TabB w) (h1 : 1 < w.heap.size) (hg : g ≠ 1) (h : w.ownsRow base e 1 (.slice (some ⟨g, 0, none⟩) n cap) n ((allF q).map encS)) :
    Calls Tryd.prog 39 #[.slice (some ⟨g, 0, none⟩) n cap, .func (.func 40) #[] #[]] w fun e' w' => e' = .returned (.tuple #[]) ∧
      w'.ownsRow base e 1 (.slice (some ⟨g, 0, none⟩) n cap) n ((ordF q).map encS) ∧ w.grownBy w' (some g) := by
  have eg : ∀ args w, (callFunc 40 args).run Tryd.prog w = .ok (.enter 40 args) w := enters_of Tryd.func40 (by kernel_rfl) rfl
  have hl := ord_len_all q hq
  have hd : (allF q).toArray.size = n := by simp [hl.2, hn]
  have hn64 : n ≤ 64 := by rw [← hn]; exact pow64K (by omega)
  have hcon := Any.slices_SortFunc_total Tryd.sortC encS (fun _ => rfl) cfF swoF 40 #[] g 0 cap (allF q).toArray w eg (laysF g (allF q).toArray.size w ht h1 hg) (holds_of_own (hl.2.trans hn) h) ((h.lt g rfl).2) (by rw [hd]; omega) totalF
  rw [hd] at hcon
  refine Calls.mono hcon ?_
  rintro e' w' ⟨rfl, m, os, rfl⟩
  rw [show (allF q).toArray.toList = allF q from rfl, ord_sort hq]
  exact ⟨rfl, owns_sortedF (hl.1.trans hn) h⟩

end Go.Proofs.YtpnaoahlfhbbmabDoor

/- partsOfSet at any set: the sets within it, sorted. -/
namespace Go.Proofs.YtpnaoahlfhbbmabDoor
open Go.RowKit Go.Shelf Go.Sort

/-- The sets within P, by number; and in their order. -/
def allT (P k : Nat) : List Set6 := ((List.range k).filter fun x => sb x P).map (Fin.ofNat 64)
def allP (P : Nat) : List Set6 := allT P (P + 1)
def ordPF (P : Nat) : List Set6 := (ordP P).map (Fin.ofNat 64)
theorem allT_succ (P k : Nat) : allT P (k + 1) = if sb k P then allT P k ++ [Fin.ofNat 64 k] else allT P k := by
  unfold allT
  rw [List.range_succ, List.filter_append]
  cases h : sb k P <;> simp [h]
theorem allT_len (P k : Nat) : (allT P k).length ≤ k := by
  unfold allT
  rw [List.length_map]
  exact Nat.le_trans (List.length_filter_le _ _) (by simp)
theorem ordP_perm_all : ∀ P : Nat, P < 64 → (ordPF P).isPerm (allP P) = true := by decide +kernel
theorem ordP_lens_all : ∀ P : Nat, P < 64 → (ordPF P).length = (allP P).length ∧ 0 < (allP P).length := by decide +kernel
theorem ordP_rise_all : ∀ P : Nat, P < 64 → (ordPF P).Pairwise fun x y => L64.idxOf x.1 < L64.idxOf y.1 := by decide +kernel
theorem ordP_sort {P : Nat} (hP : P < 64) : (allP P).mergeSort (fun x y => !(ltOf cfF) y x) = ordPF P := by
  have h1 := (ordP_lens_all P hP).1
  have hp : (ordPF P).Perm (allP P) := List.isPerm_iff.1 (ordP_perm_all P hP)
  have := sorted_unique_holds (lt := ltOf cfF) swoF totalF (allP P).toArray (ordPF P).toArray ⟨by simp [h1], fun i hi => ?_, ?_⟩ (fun i j _ hij hj => ?_)
  · exact this.symm
  · rcases hi with hi | hi
    · omega
    · simp only [List.size_toArray] at hi
      rw [getElem!_neg _ _ (by simp [h1]; omega), getElem!_neg _ _ (by simp; omega)]
  · have e1 : (ordPF P).toArray.extract 0 (allP P).toArray.size = (ordPF P).toArray := by
      rw [show (allP P).toArray.size = (ordPF P).toArray.size by simp [h1]]; exact Array.extract_size
    rw [e1, Array.extract_size]
    exact hp
  · simp only [List.size_toArray] at hj
    have hr := List.pairwise_iff_getElem.1 (ordP_rise_all P hP) i j (by omega) (by omega) hij
    rw [ltF, getElem!_pos _ _ (by simp [h1]; omega), getElem!_pos _ _ (by simp [h1]; omega)]
    simp only [List.getElem_toArray]
    exact decide_eq_false (by omega)
theorem ordPF_enc_all : ∀ P : Nat, P < 64 → (ordPF P).map (fun x => x.1) = ordP P := by decide +kernel
theorem ordPF_enc {P : Nat} (hP : P < 64) : (ordPF P).map encS = (ordP P).map (fun x => Value.int .u64 (x : Nat)) := by
  rw [← ordPF_enc_all P hP, List.map_map]; rfl

theorem sortP_any (g n cap base P : Nat) (e : TypeId) (w : World) (hP : P < 64) (hn : (allP P).length = n) (ht : TabB w) (h1 : 1 < w.heap.size) (hg : g ≠ 1) (h : w.ownsRow base e 1 (.slice (some ⟨g, 0, none⟩) n cap) n ((allP P).map encS)) :
    Calls Tryd.prog 39 #[.slice (some ⟨g, 0, none⟩) n cap, .func (.func 40) #[] #[]] w fun e' w' => e' = .returned (.tuple #[]) ∧
      w'.ownsRow base e 1 (.slice (some ⟨g, 0, none⟩) n cap) n ((ordP P).map (fun x => Value.int .u64 (x : Nat))) ∧ w.grownBy w' (some g) := by
  have eg : ∀ args w, (callFunc 40 args).run Tryd.prog w = .ok (.enter 40 args) w := enters_of Tryd.func40 (by kernel_rfl) rfl
  have hl := ordP_lens_all P hP
  have hd : (allP P).toArray.size = n := by simp [hn]
  have hn64 : n ≤ 64 := by rw [← hn]; exact Nat.le_trans (allT_len P (P + 1)) (by omega)
  have hcon := Any.slices_SortFunc_total Tryd.sortC encS (fun _ => rfl) cfF swoF 40 #[] g 0 cap (allP P).toArray w eg (laysF g (allP P).toArray.size w ht h1 hg) (holds_of_own hn h) ((h.lt g rfl).2) (by rw [hd]; omega) totalF
  rw [hd] at hcon
  refine Calls.mono hcon ?_
  rintro e' w' ⟨rfl, m, os, rfl⟩
  rw [show (allP P).toArray.toList = allP P from rfl, ordP_sort hP, ← ordPF_enc hP]
  exact ⟨rfl, owns_sortedF (hl.1.trans hn) h⟩

end Go.Proofs.YtpnaoahlfhbbmabDoor

/- Contract of partsOfSet at any set of columns. -/
namespace Go.Proofs.YtpnaoahlfhbbmabDoor
open Go.RowKit

theorem Tryd.infoColumnSet : (Tryd.prog.info? 50).map (fun i => (i.zero, i.size, i.bytes)) = some (some (.int .u64 0), 1, 8) := by kernel_rfl
theorem TabB.lt {w : World} (h : TabB w) : 1 < w.heap.size := by
  have h' : Lib.TabIs Tryd.prog w "math/bits.deBruijn64tab" .u8 deB := h
  unfold Lib.TabIs World.var? at h'
  rw [gTab] at h'
  simp only [Option.bind_some] at h'
  by_cases hl : 1 < w.heap.size
  · exact hl
  · rw [Array.getElem?_eq_none (by omega)] at h'
    cases h'

set_option maxRecDepth 100000 in
set_option maxHeartbeats 2000000 in
theorem partsOfSetP (P : Nat) (w : World) (hP : P < 64) (ht : TabB w) :
    Calls Tryd.prog 24 #[.int .u64 (P : Nat)] w fun e w' => ∃ g n d, e = .returned (.slice (some ⟨g, 0, none⟩) n d) ∧ (ordP P).length = n ∧ w'.ownsRow w.heap.size 50 1 (.slice (some ⟨g, 0, none⟩) n d) n ((ordP P).map (fun x => Value.int .u64 (x : Nat))) ∧ Below w.heap.size w w' := by
  obtain ⟨i0, hi, hz0, hz1, hz2⟩ := info_parts Tryd.infoColumnSet
  have HT := Hid.mk ht
  have hw : IntKind.u64.wrap ((P : Int) + 1) = ((P + 1 : Nat) : Int) := by
    rw [show (P : Int) + 1 = ((P + 1 : Nat) : Int) by omega]; exact wrap64_small (by omega)
  have zlt := ht.lt
  have hlens := ordP_lens_all P hP
  have HLN := Hid.mk hlens.1
  have HLP := Hid.mk hlens.2
  obtain ⟨N, hN⟩ : ∃ N, N = P + 1 := ⟨_, rfl⟩
  have HAP : Hid (allP P = allT P N) := by show _ = _; rw [hN]; rfl
  rw [← hN] at hw
  have hN64 : N ≤ 64 := by omega
  clear ht hlens hN
  go_enter Tryd.func24, Tryd.ntmps24
  go_wp2_with fail
  go_loopw [3, 7] (fun p i wx => ∃ (k m : Nat) (r : Option Addr) (d : Nat), k ≤ N ∧ m ≤ k ∧ i = .int .u64 k ∧ p = .slice r m d ∧ (allT P k).length = m ∧ wx.ownsRow w.heap.size 50 1 (.slice r m d) m ((allT P k).map encS) ∧ Below w.heap.size w wx) (fun _ i _ => N - (intOf i).toNat)
  case atStart => exact ⟨0, 0, none, 0, Nat.zero_le _, Nat.le_refl _, rfl, rfl, rfl, World.ownsRow_nil _ _ _ _, Below.refl _ _⟩
  case round =>
    obtain ⟨k, m, r, d, hk, hmk, rfl, rfl, hm, hown, hbw⟩ := hrel
    by_cases hlt : k < N
    · have hki : (k : Int) < (N : Int) := by omega
      have hwk : IntKind.u64.wrap ((k : Int) + 1) = ((k + 1 : Nat) : Int) := by
        rw [show (k : Int) + 1 = ((k + 1 : Nat) : Int) by omega]; exact wrap64_small (by omega)
      have HTK := Hid.mk (allT_succ P k)
      have K := Hid.mk (has_any P k wr hP (by omega))
      have HO := Hid.mk hown
      have HB := Hid.mk hbw
      have HM := Hid.mk hm
      have z := hbw.size
      clear hown hbw hm
      go_wp2_with fail
      refine K.out.mono ?_
      rintro e w1 ⟨rfl, rfl⟩
      cases hs : sb k P with
      | false =>
        have HE : Hid (allT P (k + 1) = allT P k) := by show _ = _; rw [HTK.out, hs]; rfl
        go_wp2
        go_roundw
        case rel => exact ⟨k + 1, m, r, d, by omega, by omega, by first | rfl | go_num, rfl, by rw [HE.out]; exact HM.out, by rw [HE.out]; exact HO.out, HB.out⟩
        case measure => simp [intOf]; omega
      | true =>
        have HE : Hid (allT P (k + 1) = allT P k ++ [Fin.ofNat 64 k]) := by show _ = _; rw [HTK.out, hs]; rfl
        have HV : Hid ((allT P (k + 1)).map encS = (allT P k).map encS ++ [.int .u64 (k : Nat)]) := by
          show _ = _
          rw [HE.out, List.map_append]
          congr 1
          show [encS (Fin.ofNat 64 k)] = _
          unfold encS
          simp [Fin.ofNat, Nat.mod_eq_of_lt (show k < 64 by omega)]
        go_wp2_with (at_builtin; refine wpList_append_lies _ rfl (.tmp 13) (.tmp 15) 52 rfl w.heap.size 50 i0 (.int .u64 0) 1 8 Tryd.underlying52 hi hz0 hz1 hz2 rfl (by decide) _ _ _ rfl (HO.out.alloc _) ⟨w1.heap.size, 0, none⟩ 1 1 [.int .u64 (k : Nat)] rfl rfl (news_at w1 _ _) (by intro u hu; simp at hu; subst hu; rfl) (by decide) (by unfold maxLen; omega) (by omega) (by simp; omega) (w1.heap.size + 1) (by simp) ?_)
        intro g3 cap3 w3 ho3 hg3 hat3 hlt3
        rw [← HV.out] at ho3
        have HB3 : Hid (Below w.heap.size w w3) := (HB.out.alloc z _).grown hg3 (by simp; omega) (fun j hj => (HO.out.lt j hj).1)
        have HO3 := Hid.mk ho3
        clear ho3 hg3 hat3 HO HB K
        go_wp2
        go_roundw
        case rel => exact ⟨k + 1, m + 1, _, _, by omega, by omega, by first | rfl | go_num, rfl, by rw [HE.out, List.length_append, HM.out]; rfl, HO3.out, HB3.out⟩
        case measure => simp [intOf]; omega
    · obtain rfl : k = N := by omega
      have hkk : ¬ (k : Int) < (k : Int) := by omega
      rw [← HAP.out] at hown hm
      have hm0 : 0 < m := by rw [← hm]; exact HLP.out
      obtain ⟨g, hg, hgl, hgr⟩ : ∃ g, r = some ⟨g, 0, none⟩ ∧ w.heap.size ≤ g ∧ g < wr.heap.size := by
        have hlt := hown.lt
        rcases hown.2 with ⟨_, h1⟩ | ⟨g, cap, cur, hv, _⟩
        · omega
        · simp only [Value.slice.injEq, true_and] at hv
          obtain ⟨rfl, rfl⟩ := hv
          exact ⟨g, rfl, hlt g rfl⟩
      subst hg
      have KS := Hid.mk (sortP_any g m d w.heap.size P 50 wr hP hm (TabIs.below HT.out hbw) (by have := hbw.size; omega) (by omega) hown)
      have HB := Hid.mk hbw
      have HM : Hid ((ordP P).length = m) := by show _ = _; rw [← hm, ← HLN.out]; simp [ordPF]
      clear hown hbw hm
      go_wp2_with fail
      refine KS.out.mono ?_
      rintro e w2 ⟨rfl, ho2, hg2⟩
      have HO2 := Hid.mk ho2
      have HB2 : Hid (Below w.heap.size w w2) := HB.out.grown hg2 HB.out.size (fun j hj => by cases hj; exact hgl)
      clear ho2 hg2 HB KS
      go_wp2
      go_ret
      exact ⟨g, m, d, rfl, HM.out, HO2.out, HB2.out⟩

end Go.Proofs.YtpnaoahlfhbbmabDoor

/- Contract of DependsIn. -/
namespace Go.Proofs.YtpnaoahlfhbbmabDoor
open Go.RowKit

set_option maxRecDepth 100000 in
set_option maxHeartbeats 8000000 in
theorem implDependsIn (a : Option Addr) (n c : Nat) (xs : List Dep) (C : Int) (pa : Option Addr) (pn pc : Nat) (ps : List Int) (w : World) (hz : xs.length = n) (hn : n ≤ 1048576) (ha : AtD w a xs) (hpn : ps.length = pn) (hpb : pn ≤ 1048576) (hpa : At w pa ps) (htab : TabB w) :
    Calls Tryd.prog 8 #[.slice a n c, .int .i64 C, .slice pa pn pc] w fun e w' => DepsRet e w' w.heap.size (dinB xs C ps) (dinL xs C ps) ∧ Below w.heap.size w w' := by
  obtain ⟨i0, hi, hz0, hz1, hz2⟩ := info_parts Tryd.infoTelling
  have K1 := Hid.mk (goodPart_any a n c xs C pa pn pc ps w hz (by omega) ha hpn (by omega) hpa)
  have HZ := Hid.mk hz
  have HA := Hid.mk ha
  have HPN := Hid.mk hpn
  have HPA := Hid.mk hpa
  have HT := Hid.mk htab
  clear hz ha hpn hpa htab
  go_enter Tryd.func8, Tryd.ntmps8
  go_wp2_with fail
  refine K1.out.mono ?_
  rintro e w1 ⟨rfl, B1⟩
  cases h1 : prtB xs C ps with
  | false =>
    have HN : Hid (dinB xs C ps = false) := by show _ = _; unfold dinB; rw [h1]; rfl
    go_wp2
    exact bodyPost_ret (v := .tuple #[.slice none 0 0, .bool false]) (by simp [results, Tryd.results8, go_sem]) rfl ⟨DepsRet.none _ _ HN.out (dinL_no HN.out), B1⟩
  | true =>
    have hg := h1
    unfold prtB at hg
    rw [Bool.and_eq_true] at hg
    have h6 := (goodDeps_C hg.1).2.1
    have HTP := Hid.mk (Told.of h6 hg.2)
    have HLX : Hid ((dms xs).length = n) := by show _ = _; simp [dms]; exact HZ.out
    have K3 := Hid.mk (tellingsOf_any a n c xs w1 HZ.out hn (Cols.of hg.1) (AtSl.below HA.out B1))
    have HSS := Hid.mk (Cols.of hg.1).sets
    have hP6 := HTP.out.lt
    have HB1 := Hid.mk B1
    have HDB : Hid (dinB xs C ps = decide ((dinM (dms xs) (mk ps) (ordP (mk ps))).length ≤ 10)) := by show _ = _; unfold dinB; rw [h1]; rfl
    have HDL : Hid (dinL xs C ps = if (dinM (dms xs) (mk ps) (ordP (mk ps))).length ≤ 10 then (dinM (dms xs) (mk ps) (ordP (mk ps))).map und else []) := by
      show _ = _
      unfold dinL
      rw [HDB.out]
      by_cases hc : (dinM (dms xs) (mk ps) (ordP (mk ps))).length ≤ 10
      · rw [decide_eq_true hc, if_pos hc]; rfl
      · rw [decide_eq_false hc, if_neg hc]; rfl
    clear hg h6 B1
    go_wp2_with fail
    refine K3.out.mono ?_
    rintro e w3 ⟨r3, d3, rfl, hat3, hb3⟩
    have HB3 := Hid.mk (HB1.out.trans (hb3.mono HB1.out.size))
    have HA3 := Hid.mk hat3
    clear hat3 hb3 K3 HB1
    go_wp2_with fail
    refine (setOf_any pa pn pc ps w3 HPN.out (by omega) HTP.out.in (At.below HPA.out HB3.out)).mono ?_
    rintro e w4 ⟨rfl, hw4⟩
    obtain rfl := hw4.symm
    clear hw4
    have HSN := Hid.mk (dinM_sets (D := dms xs) hP6)
    obtain ⟨P, hP⟩ : ∃ P, mk ps = P := ⟨_, rfl⟩
    obtain ⟨D, hD⟩ : ∃ D, dms xs = D := ⟨_, rfl⟩
    rw [hP] at hP6 HDB HDL HSN ⊢
    rw [hD] at HDB HDL HSN HLX HSS HA3
    have K4 := Hid.mk (partsOfSetP P w3 hP6 (TabIs.below HT.out HB3.out))
    clear hP hD
    go_wp2_with fail
    refine K4.out.mono ?_
    rintro e w4 ⟨g, M, d, rfl, hM, ho4, hb4⟩
    have hM64 : M ≤ 64 := by rw [← hM]; exact ordP_len_all P hP6
    have HM := Hid.mk hM
    have HO4 := Hid.mk ho4
    have HB4 := Hid.mk (HB3.out.trans (hb4.mono HB3.out.size))
    have HA4 := Hid.mk (AtSl.below HA3.out hb4)
    clear hM ho4 hb4 K4 HB3 HA3
    go_wp2_with fail
    go_loopw [10, 26] (fun p i wx => ∃ (k m : Nat) (r : Option Addr) (d' : Nat), k ≤ M ∧ m ≤ k ∧ i = .int .i64 k ∧ p = .slice r m d' ∧ (dinM D P ((ordP P).take k)).length = m ∧ OwnTl wx w4.heap.size r m d' (dinM D P ((ordP P).take k)) ∧ Below w4.heap.size w4 wx) (fun _ i _ => M - (intOf i).toNat)
    case atStart => exact ⟨0, 0, none, 0, Nat.zero_le _, Nat.le_refl _, rfl, rfl, rfl, World.ownsRow_nil _ _ _ _, Below.refl _ _⟩
    case round =>
      obtain ⟨k, m, r, d', hk, hmk, rfl, rfl, hm, hown, hbw⟩ := hrel
      by_cases hlt : k < M
      · obtain ⟨F, hF⟩ : ∃ F, (ordP P)[k]? = some F := ⟨_, List.getElem?_eq_getElem (by have := HM.out; omega)⟩
        have hcx : wr.cell? ⟨g, k, none⟩ = some (.int .u64 (F : Nat)) := cell_later hbw ((HO4.out.cellAt k (by omega)).trans (by rw [List.getElem?_map, hF]; rfl))
        obtain ⟨hF64, hFP⟩ := ordP_mem (List.mem_of_getElem? hF)
        have HTK := Hid.mk (dinM_take (D := D) (P := P) hF)
        have hki : (k : Int) < (M : Int) := by omega
        have K := Hid.mk (closure_any r3 n d3 D F wr HLX.out (by omega) HSS.out hF64 (AtSl.below HA4.out hbw))
        have HB := Hid.mk hbw
        have HO := Hid.mk hown
        have HMM := Hid.mk hm
        clear hbw hF hown hm
        go_wp2_with fail
        refine K.out.mono ?_
        rintro e w5 ⟨T, hT, rfl, hb5⟩
        have hT6 := hT.lt
        have HTO : Hid (toF D P F = dif (T &&& P) F) := by show _ = _; unfold toF; rw [hT.clo_eq]
        have e1 := u64_and_nat T P (by omega) (by omega)
        have hA6 : T &&& P < 64 := and_lt64 hT6
        have e2 := u64_andNot_nat (T &&& P) F (by omega) (by omega)
        change _ = ((dif (T &&& P) F : Nat) : Int) at e2
        obtain ⟨A, hA⟩ : ∃ A, T &&& P = A := ⟨_, rfl⟩
        rw [hA] at e1 e2 HTO hA6
        obtain ⟨E, hE⟩ : ∃ E, dif A F = E := ⟨_, rfl⟩
        rw [hE] at e2 HTO
        rw [HTO.out] at HTK
        have HB5 := Hid.mk (HB.out.trans (hb5.mono HB.out.size))
        have HO5 := Hid.mk (owns_below HO.out hb5)
        have z5 := HB5.out.size
        clear hT hb5 K HB HO hA hE HTO
        by_cases h0 : E = 0
        · have HE : Hid (dinM D P ((ordP P).take (k + 1)) = dinM D P ((ordP P).take k)) := by show _ = _; rw [HTK.out, if_pos h0]
          have hE0 : ((E : Int) != 0) = false := by rw [h0]; rfl
          clear h0
          go_wp2
          go_roundw
          case rel => exact ⟨k + 1, m, r, d', by omega, by omega, by go_num, rfl, by rw [HE.out]; exact HMM.out, by rw [HE.out]; exact HO5.out, HB5.out⟩
          case measure => simp [intOf]; omega
        · have HE : Hid (dinM D P ((ordP P).take (k + 1)) = dinM D P ((ordP P).take k) ++ [(F, E)]) := by show _ = _; rw [HTK.out, if_neg h0]
          have hE0 : ((E : Int) != 0) = true := bne_iff_ne.2 (by omega)
          clear h0
          go_wp2_with (at_builtin; refine wpList_append_lies _ rfl (.tmp 39) (.tmp 43) 47 rfl w4.heap.size 56 i0 (.agg #[.int .u64 0, .int .u64 0]) 2 16 Tryd.underlying47 hi hz0 hz1 hz2 rfl (by decide) _ _ _ rfl (HO5.out.alloc _) ⟨w5.heap.size, 0, none⟩ 1 1 [.int .u64 (F : Nat), .int .u64 (E : Nat)] rfl rfl (news_at w5 _ _) (by intro u hu; simp at hu; rcases hu with rfl | rfl <;> rfl) (by decide) (by unfold maxLen; omega) (by omega) (by simp; omega) (w5.heap.size + 1) (by simp) ?_)
          intro g7 cap7 w7 ho7 hg7 hat7 hlt7
          have HO7 : Hid (OwnTl w7 w4.heap.size (some ⟨g7, 0, none⟩) (m + 1) cap7 (dinM D P ((ordP P).take (k + 1)))) := by
            show World.ownsRow _ _ _ _ _ _ _
            rw [HE.out, flatT_push]; exact ho7
          have HB7 : Hid (Below w4.heap.size w4 w7) := (HB5.out.alloc z5 _).grown hg7 (by simp; omega) (fun j hj => (HO5.out.lt j hj).1)
          clear ho7 hg7 hat7 HO5 HB5
          go_wp2
          go_roundw
          case rel => exact ⟨k + 1, m + 1, _, _, by omega, by omega, by go_num, rfl, by rw [HE.out, List.length_append, HMM.out]; rfl, HO7.out, HB7.out⟩
          case measure => simp [intOf]; omega
      · obtain rfl : k = M := by omega
        have hki : ¬ (k : Int) < (k : Int) := by omega
        rw [List.take_of_length_le (by have := HM.out; omega)] at hown hm
        have hB := HB4.out.trans (hbw.mono HB4.out.size)
        have K := Hid.mk (dependsOf_any w4.heap.size r m d' (dinM D P (ordP P)) wr hm HSN.out hown (TabIs.below HT.out hB))
        rw [← HDB.out, ← HDL.out] at K
        have HB := Hid.mk hB
        clear hown hm hbw hB
        go_wp2_with fail
        refine K.out.mono ?_
        rintro e w8 ⟨⟨r8, m8, d8, rfl, ho8⟩, hb8⟩
        have HR : Hid (DepsRet (.returned (.tuple #[.slice r8 m8 d8, .bool (dinB xs C ps)])) w8 w.heap.size (dinB xs C ps) (dinL xs C ps)) := DepsRet.low ⟨r8, m8, d8, rfl, ho8⟩ HB.out.size
        have HB8 := Hid.mk (HB.out.trans (hb8.mono HB.out.size))
        clear ho8 hb8 K
        go_wp2
        exact bodyPost_ret (v := .tuple #[.slice r8 m8 d8, .bool (dinB xs C ps)]) (by simp [results, Tryd.results8, go_sem]) rfl ⟨HR.out, HB8.out⟩

end Go.Proofs.YtpnaoahlfhbbmabDoor

/- What is told of a part is small. -/
namespace Go.Proofs.YtpnaoahlfhbbmabDoor
open Go.RowKit

theorem dsum_leD {xs : List Dep} (h : ∀ x ∈ xs, dcost x ≤ 12) : ∀ k, k ≤ xs.length → dsum xs k ≤ 12 * k
  | 0, _ => by rw [dsum_zero]; omega
  | k + 1, hk => by
    have h1 := dsum_leD h k (by omega)
    have h2 := dsum_succ (List.getElem?_eq_getElem (by omega : k < xs.length))
    have h3 := h xs[k] (List.getElem_mem _)
    omega
theorem din_small (l : List Dep) (C : Int) (ps : List Int) : SmD (dinL l C ps) (dinL l C ps).length := by
  refine ⟨rfl, ?_⟩
  have h10 : (dinL l C ps).length ≤ 10 := by
    unfold dinL
    cases hb : dinB l C ps with
    | false => simp
    | true =>
      unfold dinB at hb
      simp only [Bool.and_eq_true, decide_eq_true_eq] at hb
      simp only [if_true, List.length_map]
      exact hb.2
  have h12 : ∀ x ∈ dinL l C ps, dcost x ≤ 12 := by
    unfold dinL
    cases hb : dinB l C ps with
    | false => simp
    | true =>
      simp only [if_true]
      intro x hx
      obtain ⟨p, _, rfl⟩ := List.mem_map.1 hx
      have h1 := bl_len p.1
      have h2 := bl_len p.2
      unfold dcost und
      simp only
      omega
  have := dsum_leD h12 _ (Nat.le_refl _)
  omega

end Go.Proofs.YtpnaoahlfhbbmabDoor

/- Slices of numbers that are alike are held equal. -/
namespace Go.Proofs.YtpnaoahlfhbbmabDoor
open Go.RowKit

theorem eqIntS_same (a a' : Option Addr) (n c c' : Nat) (zs : List Int) (w : World) (hz : zs.length = n) (hn : n ≤ 1048576) (ha : At w a zs) (ha' : At w a' zs) :
    Calls Tryd.prog 10 #[.slice a n c, .slice a' n c'] w fun e w' => e = .returned (.bool true) ∧ Below w.heap.size w w' :=
  (eqIntS_any a a' n n c c' zs zs w hz hz hn hn ha ha').mono fun _ _ ⟨h1, h2⟩ => ⟨by rw [h1, decide_eq_true rfl], h2⟩
end Go.Proofs.YtpnaoahlfhbbmabDoor

/- Contracts of the laws' helpers eqDepend, eqDependS over dependencies that are alike. -/
namespace Go.Proofs.YtpnaoahlfhbbmabDoor
open Go.RowKit

set_option maxRecDepth 100000 in
set_option maxHeartbeats 2000000 in
theorem eqDepend_same (sa sa' : Option Addr) (sn sc sc' : Nat) (pa pa' : Option Addr) (pn pc pc' : Nat) (ss : List Int) (xs : List Int) (w : World) (hsz : ss.length = sn) (hz : xs.length = pn) (hsn : sn ≤ 1048576) (hpn : pn ≤ 1048576) (hsa : At w sa ss) (ha : At w pa xs) (hsa' : At w sa' ss) (ha' : At w pa' xs) :
    Calls Tryd.prog 27 #[.agg #[.slice sa sn sc, .slice pa pn pc], .agg #[.slice sa' sn sc', .slice pa' pn pc']] w fun e w' => e = .returned (.bool true) ∧ Below w.heap.size w w' := by
  obtain ⟨W, hW⟩ : ∃ W, W = ((w.alloc (.cells #[.slice sa sn sc, .slice pa pn pc] 44)).alloc (.cells #[.slice sa' sn sc', .slice pa' pn pc'] 44)) := ⟨_, rfl⟩
  have B0 : Below w.heap.size w W := by rw [hW]; exact (((Below.refl _ _).alloc (Nat.le_refl _) _).alloc (by simp) _)
  have q0 : W.cell? ⟨w.heap.size, 1, none⟩ = some (.slice pa pn pc) := by rw [hW]; simp
  have q1 : W.cell? ⟨w.heap.size + 1, 1, none⟩ = some (.slice pa' pn pc') := by rw [hW]; simp
  have U3 := Hid.mk (And.intro hsa hsa')
  have V3 := Hid.mk (And.intro ha ha')
  have HU1 := Hid.mk hsz
  have HV1 := Hid.mk hz
  clear hsa ha hsa' ha' hsz hz
  go_enter Tryd.func27, Tryd.ntmps27
  go_wp2_with fail
  rw [← hW]
  clear hW
  refine (eqIntS_same sa sa' sn sc sc' ss W HU1.out hsn (At.below U3.out.1 B0) (At.below U3.out.2 B0)).mono ?_
  rintro e w1 ⟨rfl, hb1⟩
  have B1 := B0.trans (hb1.mono B0.size)
  have q0 := cell_later hb1 q0
  have q1 := cell_later hb1 q1
  clear hb1 B0
  go_wp2_with fail
  refine (eqIntS_same pa pa' pn pc pc' xs w1 HV1.out hpn (At.below V3.out.1 B1) (At.below V3.out.2 B1)).mono ?_
  rintro e w2 ⟨rfl, hb2⟩
  go_wp2
  go_ret
  exact ⟨rfl, B1.trans (hb2.mono B1.size)⟩

set_option maxRecDepth 100000 in
set_option maxHeartbeats 4000000 in
theorem eqDependS_same (a a' : Option Addr) (n c c' : Nat) (xs : List Dep) (w : World) (hz : xs.length = n) (hn : n ≤ 1048576) (hs : ∀ (i : Nat) (x : Dep), xs[i]? = some x → SmDep x) (ha : AtD w a xs) (ha' : AtD w a' xs) :
    Calls Tryd.prog 9 #[.slice a n c, .slice a' n c'] w fun e w' => e = .returned (.bool true) ∧ Below w.heap.size w w' := by
  by_cases h0 : n = 0
  · subst h0
    go_enter Tryd.func9, Tryd.ntmps9
    go_wp2
    refine wp_loop_rounds 1 ?_
    rw [rounds_succ]
    go_wp2
    go_ret
    exact ⟨rfl, Below.refl _ _⟩
  · go_enter Tryd.func9, Tryd.ntmps9
    go_wp2
    go_loopw [5] (fun i wr => ∃ (k : Nat), k ≤ n ∧ i = .int .i64 k ∧ Below w.heap.size w wr) (fun i _ => n - (intOf i).toNat)
    case atStart => exact ⟨0, Nat.zero_le _, rfl, Below.refl _ _⟩
    case round =>
      obtain ⟨k, hk, rfl, hbw⟩ := hrel
      by_cases hlt : k < n
      · obtain ⟨b, off, rfl, _, hc⟩ := AtD.row (AtSl.below ha hbw) (by omega)
        obtain ⟨b', off', rfl, _, hc'⟩ := AtD.row (AtSl.below ha' hbw) (by omega)
        obtain ⟨x, hx⟩ : ∃ x, xs[k]? = some x := ⟨_, List.getElem?_eq_getElem (by omega)⟩
        obtain ⟨fa, fn, fc, ta, tn, tc, g0, g1, ⟨t1, t2, t3⟩, ⟨u1, u2, u3⟩⟩ := hc k x hx
        obtain ⟨fa', fn', fc', ta', tn', tc', h0, h1, ⟨t1', _, t3'⟩, ⟨u1', _, u3'⟩⟩ := hc' k x hx
        obtain rfl : fn = fn' := t1.symm.trans t1'
        obtain rfl : tn = tn' := u1.symm.trans u1'
        have hsm := hs k x hx
        have hki : (k : Int) < (n : Int) := by omega
        have HE : Hid (∀ w' : World, Below wr.heap.size wr w' → Calls Tryd.prog 27 #[.agg #[.slice fa fn fc, .slice ta tn tc], .agg #[.slice fa' fn fc', .slice ta' tn tc']] w' fun e w'' => e = .returned (.bool true) ∧ Below w'.heap.size w' w'') :=
          fun w' hw' => eqDepend_same fa fa' fn fc fc' ta ta' tn tc tc' x.1 x.2 w' t1 u1 (by have := hsm.1; omega) (by have := hsm.2; omega) (At.below t3 hw') (At.below u3 hw') (At.below t3' hw') (At.below u3' hw')
        clear hc hc' ha ha' hs hsm hx t1 t3 u1 u3 t1' t3' u1' u3'
        go_wp2_with fail
        go_region_held3 (fun w' => w'.cell? ⟨b, off + k * 2, none⟩ = some (.slice fa fn fc) ∧ w'.cell? ⟨b, off + k * 2 + 1, none⟩ = some (.slice ta tn tc) ∧ w'.cell? ⟨b', off' + k * 2, none⟩ = some (.slice fa' fn fc') ∧ w'.cell? ⟨b', off' + k * 2 + 1, none⟩ = some (.slice ta' tn tc')) (refine ⟨?_, ?_, ?_, ?_⟩ <;> assumption)
          (first | (go_at_call 27; refine (HE.out wr.drew (Below.refl _ _).drew).mono ?_; rintro e w2 ⟨rfl, hb2⟩; have e0 := cell_later hb2 g0; have e1 := cell_later hb2 g1; have d0 := cell_later hb2 h0; have d1 := cell_later hb2 h1) | fail)
        go_wp2
        go_roundw
        case rel => exact ⟨k + 1, by omega, by go_num, hbw.drew.trans (hb2.mono hbw.size)⟩
        case measure => simp [intOf]; omega
      · go_wp2
        go_ret
        exact ⟨rfl, hbw⟩

end Go.Proofs.YtpnaoahlfhbbmabDoor

/- Slices of numbers, marked, as things that are owned. -/
namespace Go.Proofs.YtpnaoahlfhbbmabDoor
open Go.RowKit

theorem markInts_rep (F : Nat → Prop) (a : Option Addr) (n c : Nat) (zs : List Int) (m : Int) (w : World) (hn : n ≤ 1048576) (h0 : 0 ≤ m) (h1 : m ≤ 268435456) (ho : RInts.Own w F [.slice a n c] zs) :
    Calls Tryd.prog 12 #[.slice a n c, .int .i64 m] w fun e w' => e = .returned (.int .i64 (m + n)) ∧ RInts.Own w' F [.slice a n c] (mkInts m zs) ∧ Off F w w' := by
  obtain ⟨h2, h3, h4, h5⟩ := RInts.own_iff.1 ho
  refine (markIntS_any 0 a n c _ m w hn h0 (by omega) h4).mono fun e w' ⟨e1, e2, e3⟩ => ⟨e1, RInts.own_iff.2 ⟨by unfold mkInts; rw [marks_length, h2], h3, by unfold mkInts; rw [h2]; exact e2, h5⟩, Off.grown e3 h5⟩
end Go.Proofs.YtpnaoahlfhbbmabDoor
