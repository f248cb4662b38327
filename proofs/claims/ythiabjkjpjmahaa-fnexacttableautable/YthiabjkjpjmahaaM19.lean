/- Several texts of one proof, in build order: TbP, TtP, MinI, SomeC, TbI, OeI, TtI. -/
import Derived.Test.YthiabjkjpjmahaaM6
import Derived.Test.YthiabjkjpjmahaaM18
import Derived.Test.YthiabjkjpjmahaaM10
import Derived.Test.YthiabjkjpjmahaaM1
import Derived.Test.YthiabjkjpjmahaaM17
import Derived.Test.YthiabjkjpjmahaaM7
import Derived.Test.YthiabjkjpjmahaaM4
import Derived.Test.YthiabjkjpjmahaaM14
import Derived.Test.YthiabjkjpjmahaaM3
import Derived.Deep.CutBlock

/- Plain: good tableaus. -/
namespace Go.Proofs.Ythiabjkjpjmahaa

def rowOk (C : Int) (z : List Int) : Bool := good z && decide ((z.length : Int) = C) && z.all (fun x => decide (0 ≤ x))
/-- A tableau of C columns that is good. -/
def tbB (C : Int) (zss : List (List Int)) : Bool := (decide (1 ≤ C) && decide (C ≤ 6)) && (decide (1 ≤ zss.length) && decide (zss.length ≤ 8)) && zss.all (rowOk C)

theorem rowOk_good {C : Int} {z : List Int} (h : rowOk C z = true) : good z = true := by simp [rowOk] at h; exact h.1.1
theorem rowOk_len {C : Int} {z : List Int} (h : rowOk C z = true) : (z.length : Int) = C := by simp [rowOk] at h; exact h.1.2
theorem rowOk_cell {C : Int} {z : List Int} (h : rowOk C z = true) (k : Nat) (hk : k < z.length) : 0 ≤ z.getD k 0 ∧ z.getD k 0 ≤ 100000 := by
  have h1 := good_cell (rowOk_good h) k hk
  simp [rowOk] at h
  have h2 := h.2 z[k] (List.getElem_mem hk)
  refine ⟨?_, h1.2⟩
  simpa [List.getD, hk] using h2
theorem rowOk_of {C : Int} {z : List Int} (hg : good z = true) (hl : (z.length : Int) = C) (h : ∀ k, k < z.length → 0 ≤ z.getD k 0) : rowOk C z = true := by
  simp only [rowOk, hg, Bool.true_and, Bool.and_eq_true, decide_eq_true_eq, List.all_eq_true]
  refine ⟨hl, fun x hx => ?_⟩
  obtain ⟨k, hk, rfl⟩ := List.getElem_of_mem hx
  simpa [List.getD, hk] using h k hk
theorem tbB_C {C : Int} {zss : List (List Int)} (h : tbB C zss = true) : 1 ≤ C ∧ C ≤ 6 := by simp [tbB] at h; exact h.1.1
theorem tbB_n {C : Int} {zss : List (List Int)} (h : tbB C zss = true) : 1 ≤ zss.length ∧ zss.length ≤ 8 := by simp [tbB] at h; exact h.1.2
theorem tbB_row {C : Int} {zss : List (List Int)} (h : tbB C zss = true) {k : Nat} {z : List Int} (hz : zss[k]? = some z) : rowOk C z = true := by
  have h1 : zss.all (rowOk C) = true := by simp only [tbB, Bool.and_eq_true] at h; exact h.2
  exact List.all_eq_true.1 h1 z (List.mem_of_getElem? hz)
theorem tbB_of {C : Int} {zss : List (List Int)} (h1 : 1 ≤ C ∧ C ≤ 6) (h2 : 1 ≤ zss.length ∧ zss.length ≤ 8) (h : ∀ z ∈ zss, rowOk C z = true) : tbB C zss = true := by
  simp only [tbB, Bool.and_eq_true, decide_eq_true_eq, List.all_eq_true]
  exact ⟨⟨h1, h2⟩, h⟩
theorem all_drop {α : Type} {p : α → Bool} {xs : List α} {k : Nat} {x : α} (h : xs[k]? = some x) : (xs.drop k).all p = (p x && (xs.drop (k + 1)).all p) := by
  obtain ⟨hk, rfl⟩ := List.getElem?_eq_some_iff.1 h
  rw [List.drop_eq_getElem_cons hk, List.all_cons]
theorem tbB_sum {C : Int} {zss : List (List Int)} (h : tbB C zss = true) : ∀ z ∈ zss, z.length ≤ 6 := fun z hz => by
  obtain ⟨k, hk, rfl⟩ := List.getElem_of_mem hz
  exact good_len (rowOk_good (tbB_row h (List.getElem?_eq_getElem hk)))

end Go.Proofs.Ythiabjkjpjmahaa

/- Plain: a tableau's rows as a table. -/
namespace Go.Proofs.Ythiabjkjpjmahaa

def onesW (zss : List (List Int)) : List WRow := zss.map fun z => (z, 1)
/-- Each row once. -/
def ttW (zss : List (List Int)) : List WRow := distW (putAll [] (onesW zss))
def ttB (p : Int) (zss : List (List Int)) : Bool := tbB p zss && goodT p (ttW zss)

theorem onesW_length (zss : List (List Int)) : (onesW zss).length = zss.length := by simp [onesW]
theorem sumW_ones (zs : List Int) : ∀ zss : List (List Int), 0 ≤ sumW (onesW zss) zs ∧ (0 < sumW (onesW zss) zs ↔ zs ∈ zss)
  | [] => by simp [sumW, onesW]
  | z :: zss => by
    have ih := sumW_ones zs zss
    have e : sumW (onesW (z :: zss)) zs = (if z = zs then 1 else 0) + sumW (onesW zss) zs := by simp [sumW, onesW]
    rw [e, List.mem_cons]
    by_cases h : z = zs
    · rw [if_pos h]; exact ⟨by omega, ⟨fun _ => .inl h.symm, fun _ => by omega⟩⟩
    · rw [if_neg h]
      refine ⟨by omega, ⟨fun h1 => .inr (ih.2.1 (by omega)), fun h1 => ?_⟩⟩
      rcases h1 with h1 | h1
      · exact absurd h1.symm h
      · have := ih.2.2 h1; omega
theorem distW_wOf0 {ts : List WRow} (hr : Rises ts) (zs : List Int) : wOf (distW ts) zs = if 0 < wOf ts zs then 1 else 0 := by
  induction ts with
  | nil => rfl
  | cons t ts ih =>
    have h2 := List.pairwise_cons.1 hr
    have e1 : distW (t :: ts) = (match plainG t with | none => distW ts | some s => s :: distW ts) := by unfold distW; rw [List.filterMap_cons]; cases plainG t <;> rfl
    rw [e1, wOf_cons]
    by_cases e : t.1 = zs
    · rw [if_pos e]
      have hno : wOf (distW ts) zs = 0 := by
        refine wOf_absent fun s hs e2 => ?_
        obtain ⟨u, hu, e3⟩ := some_mem hs
        exact cmp_ne (h2.1 u hu) (by rw [e, ← e2, (plainG_some e3).1])
      cases hg : plainG t with
      | none =>
        have : ¬ 0 < t.2 := by
          intro h
          unfold plainG at hg
          rw [if_pos h] at hg
          cases hg
        rw [if_neg this]; exact hno
      | some s =>
        have := plainG_some hg
        rw [if_pos this.2]
        show wOf (s :: distW ts) zs = 1
        rw [wOf_cons, this.1]; simp [e]
    · rw [if_neg e, ← ih h2.2]
      cases hg : plainG t with
      | none => rfl
      | some s =>
        have := plainG_some hg
        show wOf (s :: distW ts) zs = _
        rw [wOf_cons, this.1]; simp [e]
theorem tells_tt {q : Nat} {zss : List (List Int)} {f : List Int → Int} (h : ∀ z ∈ zss, good z = true ∧ z.length = q) (hf : ∀ zs, good zs = true → zs.length = q → f (raised zs) = if zs ∈ zss then 1 else 0) : Tells q f (ttW zss) := by
  have hr : Rises (putAll [] (onesW zss)) := putAll_rises List.Pairwise.nil
  refine ⟨rises_some (fun t s hs => by rw [(plainG_some hs).1]) hr, fun t ht => by obtain ⟨s, hs, e⟩ := some_mem ht; rw [(plainG_some e).1]; simp, fun t ht => ?_, fun zs h1 h2 => ?_⟩
  · obtain ⟨s, hs, e⟩ := some_mem ht
    rw [(plainG_some e).1]
    rcases putAll_rows hs with ⟨u, hu, _⟩ | ⟨u, hu, e2⟩
    · cases hu
    · rw [← e2]
      obtain ⟨z, hz, rfl⟩ := List.mem_map.1 hu
      exact h z hz
  · unfold ttW
    rw [distW_wOf0 hr, putAll_wOf zs List.Pairwise.nil, wOf_nil, hf zs h1 h2, Int.zero_add]
    have := sumW_ones zs zss
    by_cases hm : zs ∈ zss
    · rw [if_pos hm, if_pos (this.2.2 hm)]
    · rw [if_neg hm, if_neg (fun h => hm (this.2.1 h))]
theorem ttB_small (p : Int) (zss : List (List Int)) : ttB p zss = true → goodT p (ttW zss) = true := fun h => by simp only [ttB, Bool.and_eq_true] at h; exact h.2

theorem putAll_ok9 {ts l : List WRow} {M0 M : Int} (h0 : 0 ≤ M0) (hM : 0 ≤ M) (hr : Rises ts) (ht : ∀ t ∈ ts, t.1.length ≤ 6 ∧ -M0 ≤ t.2 ∧ t.2 ≤ M0) (hl : ∀ t ∈ l, t.1.length ≤ 6 ∧ -M ≤ t.2 ∧ t.2 ≤ M) :
    ∀ t ∈ putAll ts l, t.1.length ≤ 6 ∧ -(M0 + M * l.length) ≤ t.2 ∧ t.2 ≤ M0 + M * l.length := fun t h => by
  have h6 : t.1.length ≤ 6 := by
    rcases putAll_rows h with ⟨s, hs, e⟩ | ⟨s, hs, e⟩
    · rw [← e]; exact (ht s hs).1
    · rw [← e]; exact (hl s hs).1
  have hw := wOf_mem (putAll_rises (l := l) hr) h
  rw [putAll_wOf t.1 hr] at hw
  have b1 := wOf_bound (zs := t.1) h0 (fun s hs => (ht s hs).2)
  have b2 := sumW_bound (zs := t.1) hM (fun s hs => (hl s hs).2)
  omega

/-- The keys of a map that has each row's array. -/
def keysR (zss : List (List Int)) (k : Nat) : List (List Int) := ((zss.take k).map raised).reverse
theorem keysR_succ {zss : List (List Int)} {k : Nat} {z : List Int} (h : zss[k]? = some z) : keysR zss (k + 1) = raised z :: keysR zss k := by
  obtain ⟨hk, rfl⟩ := List.getElem?_eq_some_iff.1 h
  unfold keysR
  rw [List.take_succ_eq_append_getElem hk, List.map_append, List.reverse_append]; rfl
def onceS (S : List (List Int)) : List Int → Int := fun x => if x ∈ S then 1 else 0
theorem onceS_cons (a : List Int) (S : List (List Int)) (x : List Int) : (if x = a then (1 : Int) else onceS S x) = onceS (a :: S) x := by
  unfold onceS
  by_cases h : x = a
  · rw [if_pos h, if_pos (by simp [h])]
  · rw [if_neg h]
    by_cases h2 : x ∈ S
    · rw [if_pos h2, if_pos (by simp [h2])]
    · rw [if_neg h2, if_neg (by simp [h, h2])]
theorem keysR_keys {q n : Nat} {zss : List (List Int)} (hn : zss.length = n) (h : ∀ z ∈ zss, good z = true ∧ z.length = q) : Keys q (keysR zss n) := fun a ha => by
  unfold keysR at ha
  rw [List.take_of_length_le (by omega), List.mem_reverse] at ha
  obtain ⟨z, hz, rfl⟩ := List.mem_map.1 ha
  exact ⟨z, (h z hz).1, (h z hz).2, rfl⟩
theorem onceS_raised {q n : Nat} {zss : List (List Int)} (hn : zss.length = n) (h : ∀ z ∈ zss, good z = true ∧ z.length = q) {zs : List Int} (hg : good zs = true) : onceS (keysR zss n) (raised zs) = if zs ∈ zss then 1 else 0 := by
  unfold onceS keysR
  rw [List.take_of_length_le (by omega)]
  have : raised zs ∈ (zss.map raised).reverse ↔ zs ∈ zss := by
    rw [List.mem_reverse, List.mem_map]
    constructor
    · rintro ⟨z, hz, e⟩
      exact (raised_inj (h z hz).1 hg e) ▸ hz
    · exact fun hz => ⟨zs, hz, rfl⟩
  by_cases hm : zs ∈ zss
  · rw [if_pos hm, if_pos (this.2 hm)]
  · rw [if_neg hm, if_neg (fun h => hm (this.1 h))]

end Go.Proofs.Ythiabjkjpjmahaa

/- Contracts of slices.Min and slices.Max over numbers. -/
namespace Go.Proofs.Ythiabjkjpjmahaa
open Go.RowKit

set_option maxHeartbeats 1000000 in
theorem minI_any (a : Option Addr) (n c : Nat) (zs : List Int) (w : World) (hz : zs.length = n) (hn : n ≤ 9223372036854775807) (h1 : 1 ≤ n) (ha : At w a zs) :
    Calls Try.prog 99 #[.slice a n c] w fun e w' => ∃ r : Int, e = .returned (.int .i64 r) ∧ (∀ j, j < n → r ≤ zs.getD j 0) ∧ (∃ j, j < n ∧ r = zs.getD j 0) ∧ w' = w := by
  obtain ⟨b, off, rfl, hb, hc⟩ := ha.some (by omega)
  clear ha
  have hn1 : ¬ (n : Int) < 1 := by omega
  have hc0 := hc 0 (by omega)
  rw [Nat.add_zero] at hc0
  go_enter Try.func99, Try.ntmps99
  go_wp2
  go_loop [3, 4] (fun m i => ∃ (k : Nat) (r : Int), 1 ≤ k ∧ k ≤ n ∧ i = .int .i64 k ∧ m = .int .i64 r ∧ (∀ j, j < k → r ≤ zs.getD j 0) ∧ ∃ j, j < k ∧ r = zs.getD j 0) (fun _ i => n - (intOf i).toNat)
  case atStart => exact ⟨1, _, Nat.le_refl _, h1, rfl, rfl, fun j hj => by (obtain rfl : j = 0 := by omega); exact Int.le_refl _, 0, by omega, rfl⟩
  case round =>
    clear hc0
    obtain ⟨k, r, hk1, hk, rfl, rfl, hall, hex⟩ := hrel
    by_cases hlt : k < n
    · have hcx := hc k (by omega)
      have hki : (k : Int) < (n : Int) := by omega
      have HA := Hid.mk hall
      have HE := Hid.mk hex
      have HX : Hid (∀ y, y = zs.getD k 0 → ∀ s : Int, (s = r ∧ r ≤ y ∨ s = y ∧ y ≤ r) → (∀ j, j < k + 1 → s ≤ zs.getD j 0) ∧ ∃ j, j < k + 1 ∧ s = zs.getD j 0) := fun y hy s hs => by
        obtain ⟨j0, hj0, e0⟩ := HE.out
        refine ⟨fun j hj => ?_, ?_⟩
        · by_cases e : j = k
          · subst e; rw [← hy]; omega
          · have := HA.out j (by omega); omega
        · rcases hs with ⟨h, _⟩ | ⟨h, _⟩
          · exact ⟨j0, by omega, h.trans e0⟩
          · exact ⟨k, by omega, h.trans hy⟩
      obtain ⟨y, hy⟩ : ∃ y, y = zs.getD k 0 := ⟨_, rfl⟩
      rw [← hy] at hcx
      have HY := Hid.mk hy
      clear hall hex hc hy
      by_cases hry : r ≤ y
      · go_wp2
        go_round
        case rel => exact ⟨k + 1, r, by omega, by omega, by go_num, by first | rfl | (simp; omega), HX.out y HY.out r (.inl ⟨rfl, hry⟩)⟩
        case measure => simp [intOf]; omega
      · go_wp2
        go_round
        case rel => exact ⟨k + 1, y, by omega, by omega, by go_num, by first | rfl | (simp; omega), HX.out y HY.out y (.inr ⟨rfl, by omega⟩)⟩
        case measure => simp [intOf]; omega
    · obtain rfl : k = n := by omega
      have HA := Hid.mk hall
      have HE := Hid.mk hex
      clear hall hex
      go_wp2
      go_ret
      exact ⟨r, rfl, HA.out, HE.out, rfl⟩

end Go.Proofs.Ythiabjkjpjmahaa

/- Contracts of impl.goodColumns and impl.someColumns. -/
namespace Go.Proofs.Ythiabjkjpjmahaa
open Go.RowKit

theorem goodColumns_is (p : Int) (w : World) :
    Calls Try.prog 86 #[.int .i64 p] w fun e w' => e = .returned (.bool (decide (0 ≤ p) && decide (p ≤ 6))) ∧ w' = w := by
  by_cases h1 : 0 ≤ p
  · go_enter Try.func86, Try.ntmps86
    go_wp2
    go_ret
    exact ⟨by rw [decide_eq_true h1]; rfl, rfl⟩
  · go_enter Try.func86, Try.ntmps86
    go_wp2
    go_ret
    exact ⟨by rw [decide_eq_false (show ¬ 0 ≤ p by omega)]; rfl, rfl⟩
theorem someColumns_any (p : Int) (w : World) :
    Calls Try.prog 98 #[.int .i64 p] w fun e w' => e = .returned (.bool (decide (1 ≤ p) && decide (p ≤ 6))) ∧ w' = w := by
  by_cases h1 : 0 < p
  · go_enter Try.func98, Try.ntmps98
    go_wp2_with fail
    refine (goodColumns_is p _).mono ?_
    rintro e w1 ⟨rfl, rfl⟩
    rw [decide_eq_true (show 0 ≤ p by omega), Bool.true_and]
    go_wp2
    go_ret
    exact ⟨by rw [decide_eq_true (show 1 ≤ p by omega)]; rfl, rfl⟩
  · go_enter Try.func98, Try.ntmps98
    go_wp2
    go_ret
    exact ⟨by rw [decide_eq_false (show ¬ 1 ≤ p by omega)]; rfl, rfl⟩

end Go.Proofs.Ythiabjkjpjmahaa

/- Contracts of GoodTableau, the program's and the model's. -/
namespace Go.Proofs.Ythiabjkjpjmahaa
open Go.RowKit

theorem row0 (w : World) (v : Value) (t : TypeId) : (w.alloc (.cells #[v] t)).cell? ⟨w.heap.size, 0, none⟩ = some v := by simp

set_option maxRecDepth 100000 in
set_option maxHeartbeats 4000000 in
theorem implGoodTableau (p : Int) (a : Option Addr) (n c : Nat) (zss : List (List Int)) (w : World) (hz : zss.length = n) (hn : n ≤ 9223372036854775807) (ha : AtS w a zss) :
    Calls Try.prog 57 #[.agg #[.int .i64 p, .slice a n c]] w fun e w' => e = .returned (.bool (tbB p zss)) ∧ Below w.heap.size w w' := by
  obtain ⟨W, hW⟩ : ∃ W, W = w.alloc (.cells #[.int .i64 p, .slice a n c] 45) := ⟨_, rfl⟩
  have B0 : Below w.heap.size w W := by rw [hW]; exact (Below.refl _ _).alloc (Nat.le_refl _) _
  have c0 : W.cell? ⟨w.heap.size, 0, none⟩ = some (.int .i64 p) := by rw [hW]; simp
  have c1 : W.cell? ⟨w.heap.size, 1, none⟩ = some (.slice a n c) := by rw [hW]; simp
  have HZ := Hid.mk hz
  have HA := Hid.mk (ha.below B0)
  clear hz ha
  cases hs : (decide (1 ≤ p) && decide (p ≤ 6)) with
  | false =>
    have HG : Hid (tbB p zss = false) := by show _ = _; unfold tbB; rw [hs]; rfl
    go_enter Try.func57, Try.ntmps57
    go_wp2_with fail
    rw [← hW]
    clear hW
    refine (someColumns_any p _).mono ?_
    rintro e w1 ⟨rfl, hw1⟩
    obtain rfl := hw1.symm
    rw [hs]
    go_wp2
    go_ret
    exact ⟨by rw [HG.out]; rfl, B0⟩
  | true =>
  have hs' : 1 ≤ p ∧ p ≤ 6 := by simpa using hs
  by_cases h1 : n < 1
  · have h1' : (n : Int) < 1 := by omega
    have HG : Hid (tbB p zss = false) := by show _ = _; unfold tbB; rw [HZ.out, hs, decide_eq_false (by omega : ¬ 1 ≤ n)]; rfl
    clear hs'
    go_enter Try.func57, Try.ntmps57
    go_wp2_with fail
    rw [← hW]
    clear hW
    refine (someColumns_any p _).mono ?_
    rintro e w1 ⟨rfl, hw1⟩
    obtain rfl := hw1.symm
    rw [hs]
    go_wp2
    go_ret
    exact ⟨by rw [HG.out]; rfl, B0⟩
  have h1' : ¬ (n : Int) < 1 := by omega
  by_cases h2 : 8 < n
  · have h2' : (8 : Int) < (n : Int) := by omega
    have HG : Hid (tbB p zss = false) := by show _ = _; unfold tbB; rw [HZ.out, hs, decide_eq_false (by omega : ¬ n ≤ 8)]; simp
    clear hs'
    go_enter Try.func57, Try.ntmps57
    go_wp2_with fail
    rw [← hW]
    clear hW
    refine (someColumns_any p _).mono ?_
    rintro e w1 ⟨rfl, hw1⟩
    obtain rfl := hw1.symm
    rw [hs]
    go_wp2
    go_ret
    exact ⟨by rw [HG.out]; rfl, B0⟩
  have h2' : ¬ (8 : Int) < (n : Int) := by omega
  have HG : Hid (tbB p zss = (zss.drop 0).all (rowOk p)) := by
    show _ = _; unfold tbB
    rw [HZ.out, hs, decide_eq_true (by omega : 1 ≤ n), decide_eq_true (by omega : n ≤ 8)]; rfl
  have HP := Hid.mk hs'
  clear hs' h1 h2
  go_enter Try.func57, Try.ntmps57
  go_wp2_with fail
  rw [← hW]
  clear hW
  refine (someColumns_any p _).mono ?_
  rintro e w1 ⟨rfl, hw1⟩
  obtain rfl := hw1.symm
  rw [hs]
  clear hs
  go_wp2_with fail
  go_loopw [24] (fun i wr => ∃ k : Nat, k ≤ n ∧ i = .int .i64 k ∧ tbB p zss = (zss.drop k).all (rowOk p) ∧ Below W.heap.size W wr) (fun i _ => n - (intOf i).toNat)
  case atStart => exact ⟨0, Nat.zero_le _, rfl, HG.out, Below.refl _ _⟩
  case round =>
    clear HG
    obtain ⟨k, hk, rfl, hG, hbw⟩ := hrel
    have d0 := cell_later hbw c0
    have BW : Below w.heap.size w wr := B0.trans (hbw.mono B0.size)
    by_cases hlt : k < n
    · obtain ⟨b, off, rfl, hc⟩ := (HA.out.below hbw).some (by have := HZ.out; omega)
      obtain ⟨ys, hy⟩ : ∃ ys, zss[k]? = some ys := ⟨_, List.getElem?_eq_getElem (by have := HZ.out; omega)⟩
      obtain ⟨a', c', hcx, hm, hat⟩ := hc k (by have := HZ.out; omega)
      have hgk : zss.getD k [] = ys := by simp [List.getD, hy]
      rw [hgk] at hcx hat hm
      rw [all_drop hy] at hG
      obtain ⟨m, hmm⟩ : ∃ m, ys.length = m := ⟨_, rfl⟩
      rw [hmm] at hcx hm
      have hki : (k : Int) < (n : Int) := by omega
      have HG := Hid.mk hG
      have HM := Hid.mk hmm
      have hb1 : Below wr.heap.size wr (wr.alloc (.cells #[.slice a' m c'] 78)) := (Below.refl _ _).alloc (Nat.le_refl _) _
      have HY := Hid.mk (hat.below hb1)
      have B1 := BW.trans (hb1.mono BW.size)
      have e0 := cell_later hb1 d0
      have e1 := row0 wr (.slice a' m c') 78
      have HB := Hid.mk (hbw.trans (hb1.mono hbw.size))
      clear hG hmm hc hat hgk hy hbw hb1 BW c0 c1
      cases hg : good ys with
      | false =>
        have HF : Hid (tbB p zss = false) := by show _ = _; rw [HG.out]; simp [rowOk, hg]
        go_wp2_with fail
        refine (implGoodRow_any _ _ _ ys _ HM.out hm HY.out).mono ?_
        rintro e w1 ⟨rfl, hb⟩
        rw [hg]
        go_wp2
        go_ret
        exact ⟨by rw [HF.out]; rfl, B1.trans (hb.mono B1.size)⟩
      | true =>
      by_cases hl : (m : Int) = p
      · have hne : ((m : Int) != p) = false := by simp [hl]
        have HL := Hid.mk hl
        have hm1 : 1 ≤ m := by have := HP.out; omega
        clear hl
        go_wp2_with fail
        refine (implGoodRow_any _ _ _ ys _ HM.out hm HY.out).mono ?_
        rintro e w1 ⟨rfl, hb⟩
        have f0 := cell_later hb e0
        have f1 := cell_later hb e1
        have HB1 := Hid.mk (HB.out.trans (hb.mono HB.out.size))
        rw [hg]
        clear e0 e1
        go_wp2_with fail
        refine (minI_any _ _ _ ys _ HM.out hm hm1 (HY.out.below hb)).mono ?_
        rintro e w2 ⟨r, rfl, hr1, hr2, hw2⟩
        obtain rfl := hw2.symm
        have HR := Hid.mk hr1
        have HR2 := Hid.mk hr2
        clear hr1 hr2
        by_cases hr : r < 0
        · have HF : Hid (tbB p zss = false) := by
            show _ = _
            have : rowOk p ys = false := by
              obtain ⟨j, hj, ej⟩ := HR2.out
              cases hro : rowOk p ys with
              | false => rfl
              | true => have := (rowOk_cell hro j (by have := HM.out; omega)).1; omega
            rw [HG.out, this]; rfl
          go_wp2
          go_ret
          exact ⟨by rw [HF.out]; rfl, B1.trans (hb.mono B1.size)⟩
        · have HF : Hid (tbB p zss = (zss.drop (k + 1)).all (rowOk p)) := by
            show _ = _
            rw [HG.out, rowOk_of hg (by rw [HM.out]; exact HL.out) (fun j hj => by have := HR.out j (by have := HM.out; omega); omega)]; rfl
          go_wp2
          go_roundw
          case rel => exact ⟨k + 1, by omega, by go_num, HF.out, HB1.out⟩
          case measure => simp [intOf]; omega
      · have hne : ((m : Int) != p) = true := by simp [hl]
        have HF : Hid (tbB p zss = false) := by
          show _ = _
          rw [HG.out]
          have : rowOk p ys = false := by simp [rowOk, hg, HM.out, hl]
          rw [this]; rfl
        clear hl
        go_wp2_with fail
        refine (implGoodRow_any _ _ _ ys _ HM.out hm HY.out).mono ?_
        rintro e w1 ⟨rfl, hb⟩
        have f0 := cell_later hb e0
        have f1 := cell_later hb e1
        rw [hg]
        clear e0 e1
        go_wp2
        go_ret
        exact ⟨by rw [HF.out]; rfl, B1.trans (hb.mono B1.size)⟩
    · obtain rfl : k = n := by omega
      have HF : Hid (tbB p zss = true) := by show _ = _; rw [hG, List.drop_of_length_le (by have := HZ.out; omega)]; rfl
      clear hG
      go_wp2
      go_ret
      exact ⟨by rw [HF.out]; rfl, BW⟩

set_option maxRecDepth 100000 in
set_option maxHeartbeats 4000000 in
theorem specGoodTableau (p : Int) (a : Option Addr) (n c : Nat) (zss : List (List Int)) (w : World) (hz : zss.length = n) (hn : n ≤ 9223372036854775807) (ha : AtS w a zss) :
    Calls Try.prog 53 #[.agg #[.int .i64 p, .slice a n c]] w fun e w' => e = .returned (.bool (tbB p zss)) ∧ Below w.heap.size w w' := by
  obtain ⟨W, hW⟩ : ∃ W, W = w.alloc (.cells #[.int .i64 p, .slice a n c] 45) := ⟨_, rfl⟩
  have B0 : Below w.heap.size w W := by rw [hW]; exact (Below.refl _ _).alloc (Nat.le_refl _) _
  have c0 : W.cell? ⟨w.heap.size, 0, none⟩ = some (.int .i64 p) := by rw [hW]; simp
  have c1 : W.cell? ⟨w.heap.size, 1, none⟩ = some (.slice a n c) := by rw [hW]; simp
  have HZ := Hid.mk hz
  have HA := Hid.mk (ha.below B0)
  have HG : Hid (tbB p zss = ((decide (1 ≤ p) && decide (p ≤ 6)) && (decide (1 ≤ n) && decide (n ≤ 8)) && (zss.drop 0).all (rowOk p))) := by
    show _ = _; unfold tbB; rw [hz]; rfl
  clear hz ha
  go_enter Try.func53, Try.ntmps53
  go_wp2_with fail
  rw [← hW]
  clear hW
  go_loopw [10] (fun i wr => ∃ k : Nat, k ≤ n ∧ i = .int .i64 k ∧ tbB p zss = ((decide (1 ≤ p) && decide (p ≤ 6)) && (decide (1 ≤ n) && decide (n ≤ 8)) && (zss.drop k).all (rowOk p)) ∧ Below W.heap.size W wr) (fun i _ => n - (intOf i).toNat)
  case atStart => exact ⟨0, Nat.zero_le _, rfl, HG.out, Below.refl _ _⟩
  case round =>
    clear HG
    obtain ⟨k, hk, rfl, hG, hbw⟩ := hrel
    have d0 := cell_later hbw c0
    have d1 := cell_later hbw c1
    have BW : Below w.heap.size w wr := B0.trans (hbw.mono B0.size)
    by_cases hlt : k < n
    · obtain ⟨b, off, rfl, hc⟩ := (HA.out.below hbw).some (by have := HZ.out; omega)
      obtain ⟨ys, hy⟩ : ∃ ys, zss[k]? = some ys := ⟨_, List.getElem?_eq_getElem (by have := HZ.out; omega)⟩
      obtain ⟨a', c', hcx, hm, hat⟩ := hc k (by have := HZ.out; omega)
      have hgk : zss.getD k [] = ys := by simp [List.getD, hy]
      rw [hgk] at hcx hat hm
      rw [all_drop hy] at hG
      obtain ⟨m, hmm⟩ : ∃ m, ys.length = m := ⟨_, rfl⟩
      rw [hmm] at hcx hm
      have hki : (k : Int) < (n : Int) := by omega
      have HG := Hid.mk hG
      have HM := Hid.mk hmm
      have hb1 : Below wr.heap.size wr (wr.alloc (.cells #[.slice a' m c'] 78)) := (Below.refl _ _).alloc (Nat.le_refl _) _
      have HY := Hid.mk (hat.below hb1)
      have B1 := BW.trans (hb1.mono BW.size)
      have e0 := cell_later hb1 d0
      have e1 := row0 wr (.slice a' m c') 78
      have HB := Hid.mk (hbw.trans (hb1.mono hbw.size))
      have HNO : Hid (rowOk p ys = false → tbB p zss = false) := fun h => by rw [HG.out, h]; simp
      clear hG hmm hc hat hgk hy hbw hb1 BW c0 c1 d0 d1
      cases hg : good ys with
      | false =>
        have HF : Hid (tbB p zss = false) := HNO.out (by simp [rowOk, hg])
        go_wp2_with fail
        refine (specGoodRow_any _ _ _ ys _ HM.out hm HY.out).mono ?_
        rintro e w1 ⟨rfl, hb⟩
        rw [hg]
        go_wp2
        go_ret
        exact ⟨by rw [HF.out]; rfl, B1.trans (hb.mono B1.size)⟩
      | true =>
      by_cases hl : (m : Int) = p
      · have hne : ((m : Int) != p) = false := by simp [hl]
        have HL := Hid.mk hl
        clear hl
        go_wp2_with fail
        refine (specGoodRow_any _ _ _ ys _ HM.out hm HY.out).mono ?_
        rintro e w1 ⟨rfl, hb⟩
        have f0 := cell_later hb e0
        have f1 := cell_later hb e1
        have HB1 := Hid.mk (HB.out.trans (hb.mono HB.out.size))
        have HY1 := Hid.mk (HY.out.below hb)
        have B2 := B1.trans (hb.mono B1.size)
        rw [hg]
        clear e0 e1 HB HY B1
        obtain ⟨q, hq⟩ : ∃ q, q = wr.heap.size := ⟨_, rfl⟩
        go_wp2_with fail
        obtain ⟨wy, rfl⟩ : ∃ x, x = w1 := ⟨_, rfl⟩
        go_loop [28] (fun i => ∃ j : Nat, j ≤ m ∧ i = .int .i64 j ∧ ∀ t, t < j → 0 ≤ ys.getD t 0) (fun i => m - (intOf i).toNat)
        case atStart => exact ⟨0, Nat.zero_le _, rfl, fun t ht => by omega⟩
        case round =>
          obtain ⟨j, hj, rfl, hall⟩ := hrel
          by_cases hjl : j < m
          · obtain ⟨b2, off2, rfl, hb2, hc2⟩ := HY1.out.some (by have := HM.out; omega)
            have hcx2 := hc2 j (by have := HM.out; omega)
            obtain ⟨x, hx⟩ : ∃ x, x = ys.getD j 0 := ⟨_, rfl⟩
            rw [← hx] at hcx2
            have hji : (j : Int) < (m : Int) := by omega
            have HX := Hid.mk hx
            have HALL := Hid.mk hall
            clear hx hall hc2
            by_cases hx0 : x < 0
            · have HF : Hid (tbB p zss = false) := HNO.out (by
                cases hro : rowOk p ys with
                | false => rfl
                | true => have := (rowOk_cell hro j (by have := HM.out; omega)).1; have := HX.out; omega)
              go_wp2
              go_ret
              exact ⟨by rw [HF.out]; rfl, B2⟩
            · have HS : Hid (∀ t, t < j + 1 → 0 ≤ ys.getD t 0) := fun t ht => by
                by_cases e : t = j
                · subst e; have := HX.out; omega
                · exact HALL.out t (by omega)
              go_wp2
              go_round
              case rel => exact ⟨j + 1, by omega, by go_num, HS.out⟩
              case measure => simp [intOf]; omega
          · have HF : Hid (tbB p zss = ((decide (1 ≤ p) && decide (p ≤ 6)) && (decide (1 ≤ n) && decide (n ≤ 8)) && (zss.drop (k + 1)).all (rowOk p))) := by
              show _ = _
              rw [HG.out, rowOk_of hg (by rw [HM.out]; exact HL.out) (fun t ht => hall t (by have := HM.out; omega)), Bool.true_and]
            clear hall
            go_wp2
            go_roundw
            case rel => exact ⟨k + 1, by omega, by go_num, HF.out, HB1.out⟩
            case measure => simp [intOf]; omega
      · have hne : ((m : Int) != p) = true := by simp [hl]
        have HF : Hid (tbB p zss = false) := HNO.out (by simp [rowOk, hg, HM.out, hl])
        clear hl
        go_wp2_with fail
        refine (specGoodRow_any _ _ _ ys _ HM.out hm HY.out).mono ?_
        rintro e w1 ⟨rfl, hb⟩
        have f0 := cell_later hb e0
        have f1 := cell_later hb e1
        rw [hg]
        clear e0 e1
        go_wp2
        go_ret
        exact ⟨by rw [HF.out]; rfl, B1.trans (hb.mono B1.size)⟩
    · obtain rfl : k = n := by omega
      rw [List.drop_of_length_le (by have := HZ.out; omega)] at hG
      have HG := Hid.mk hG
      clear hG
      go_wp2_with fail
      refine (l1In_any p 1 6 _).mono ?_
      rintro e w1 ⟨rfl, hw1⟩
      obtain rfl := hw1.symm
      cases hs : (decide (1 ≤ p) && decide (p ≤ 6)) with
      | false =>
        have HF : Hid (tbB p zss = false) := by show _ = _; rw [HG.out, hs]; rfl
        go_wp2
        go_ret
        exact ⟨by rw [HF.out]; rfl, BW⟩
      | true =>
        have HF : Hid (tbB p zss = (decide ((1 : Int) ≤ (k : Int)) && decide ((k : Int) ≤ 8))) := by
          show _ = _
          rw [HG.out, hs]
          simp only [Bool.true_and, List.all_nil, Bool.and_true]
          congr 1 <;> (apply decide_eq_decide.2; omega)
        go_wp2_with fail
        refine (l1In_any (k : Int) 1 8 _).mono ?_
        rintro e w1 ⟨rfl, hw1⟩
        obtain rfl := hw1.symm
        go_wp2
        go_ret
        exact ⟨by rw [HF.out]; rfl, BW⟩

end Go.Proofs.Ythiabjkjpjmahaa

/- Contract of impl.onceEach: rows, each with the weight 1. -/
namespace Go.Proofs.Ythiabjkjpjmahaa
open Go.RowKit Go.Maps

set_option maxRecDepth 100000 in
set_option maxHeartbeats 8000000 in
theorem onceEach_any (q : Nat) (a : Option Addr) (n c : Nat) (zss : List (List Int)) (w : World) (hz : zss.length = n) (hn : n ≤ 1048576) (hq6 : q ≤ 6) (hrow : ∀ z ∈ zss, good z = true ∧ z.length = q) (ha : AtS w a zss) :
    Calls Try.prog 58 #[.int .i64 (q : Nat), .slice a n c] w fun e w' => TabAns e w' w.heap.size (goodT (q : Nat) (ttW zss)) (q : Nat) (ttW zss) ∧ Below w.heap.size w w' := by
  have hmm := @run_makeMap Try.prog
  obtain ⟨w1, hW⟩ : ∃ W, W = w.alloc (.cells #[.int .i64 0, .slice none 0 0] 25) := ⟨_, rfl⟩
  have B1 : Below w.heap.size w w1 := by rw [hW]; exact (Below.refl _ _).alloc (Nat.le_refl _) _
  have z1 : w.heap.size < w1.heap.size := by rw [hW]; simp
  have q1 : w1.heap[w.heap.size]? = some (.cells #[.int .i64 0, .slice none 0 0] 25 (0, 0)) := by rw [hW]; exact heap_alloc_new _ _
  have HA := Hid.mk ha
  have HZ := Hid.mk hz
  have HROW := Hid.mk hrow
  clear ha hz hrow
  obtain ⟨X, hX⟩ : ∃ X, X = w1.alloc (.map #[] 0) := ⟨_, rfl⟩
  have hbX : Below w1.heap.size w1 X := by rw [hX]; exact (Below.refl _ _).alloc (Nat.le_refl _) _
  have HOM : Hid (X.ownsMap Try.prog 66 (plainElem Try.prog 3) w1.heap.size 0 (.map [] : DataW Unit)) := by
    show World.ownsMap (H := Unit) _ _ _ _ _ _ _
    rw [hX]; exact World.ownsMap_made _ _ _ _
  have qX := blk_below q1 hbX
  have BX := B1.trans (hbX.mono B1.size)
  have zX : w1.heap.size < X.heap.size := by rw [hX]; simp
  clear hbX q1 B1
  go_enter Try.func58, Try.ntmps58
  go_upto_region 1 with fail
  rw [← hW]
  clear hW
  have HM0 : Hid (MapIs (.map [] : DataW Unit) (onceS (keysR zss 0)) (keysR zss 0)) := MapIs.empty.congr (fun x => by simp [onceS, keysR]) (by simp [keysR])
  go_upto_region 2 with fail
  rw [← hX]
  clear hX
  go_wp2_with fail
  go_loopw [12] (fun i wr => ∃ (k : Nat) (D : DataW Unit), k ≤ n ∧ i = .int .i64 k ∧ wr.ownsMap Try.prog 66 (plainElem Try.prog 3) w1.heap.size k D ∧ MapIs D (onceS (keysR zss k)) (keysR zss k) ∧ Off (fun b => b = w1.heap.size) X wr) (fun i _ => n - (intOf i).toNat)
  case atStart => exact ⟨0, _, Nat.zero_le _, rfl, HOM.out, HM0.out, Off.refl _ _⟩
  case round =>
    clear HOM HM0
    obtain ⟨k, D, hk, rfl, hom, hmi, hof⟩ := hrel
    have Bw : Below w.heap.size w wr := BX.trans ⟨hof.os, hof.tape, hof.output, hof.size, fun b hb => hof.block b (by have := BX.size; omega) (fun e => by have : b = w1.heap.size := e; omega)⟩
    have qr := (hof.block _ (Array.getElem?_eq_some_iff.1 qX).1 (show ¬ w.heap.size = w1.heap.size by omega)).trans qX
    by_cases hlt : k < n
    · obtain ⟨b, off, rfl, hc⟩ := (HA.out.below Bw).some (by have := HZ.out; omega)
      obtain ⟨z, hy⟩ : ∃ z, zss[k]? = some z := ⟨_, List.getElem?_eq_getElem (by have := HZ.out; omega)⟩
      obtain ⟨a', c', hcx, _, hat⟩ := hc k (by have := HZ.out; omega)
      have hgk : zss.getD k [] = z := by simp [List.getD, hy]
      obtain ⟨hgz, hzl⟩ := HROW.out z (List.mem_of_getElem? hy)
      rw [hgk, hzl] at hcx
      rw [hgk] at hat
      have hki : (k : Int) < (n : Int) := by omega
      obtain ⟨U, hU⟩ : ∃ U, U = wr.alloc (.cells #[.slice a' q c'] 78) := ⟨_, rfl⟩
      have hbU : Below wr.heap.size wr U := by rw [hU]; exact (Below.refl _ _).alloc (Nat.le_refl _) _
      have r0 : U.cell? ⟨wr.heap.size, 0, none⟩ = some (.slice a' q c') := by rw [hU]; exact newcell _ _ _
      have homU : U.ownsMap Try.prog 66 (plainElem Try.prog 3) w1.heap.size k D := by rw [hU]; exact hom.alloc _
      have KA := Hid.mk (arrayOf_any a' q c' z U hzl hq6 (fun j hj => good_cell hgz j (by omega)) (hat.below hbU))
      have HFR := Hid.mk (fits_raised hgz)
      have HKS := Hid.mk (keysR_succ hy)
      have HMI := Hid.mk hmi
      have HOF := Hid.mk hof
      have HBU := Hid.mk hbU
      clear hc hy hat hgk hgz hzl hom hmi hof Bw qr hbU
      go_upto_region 5 with fail
      rw [← hU]
      clear hU hcx
      go_wp2_with fail
      refine KA.out.mono ?_
      rintro e w2 ⟨v0, v1, v2, v3, v4, v5, rfl, hr, hb2⟩
      have ho2 : w2.ownsMap Try.prog 66 (plainElem Try.prog 3) w1.heap.size k D := homU.kept (Below.toGrown hb2 none) (by simp)
      have HKEY : Hid (keyOf Try.prog 66 (.agg #[.int .i64 v0, .int .i64 v1, .int .i64 v2, .int .i64 v3, .int .i64 v4, .int .i64 v5]) = some (klit (raised z))) := by
        have h := keyOf_arr (raised z) HFR.out
        rw [hr] at h ⊢
        exact h
      have hmax : k < maxLen := by unfold maxLen; omega
      have HB2 := Hid.mk (HBU.out.trans (hb2.mono HBU.out.size))
      clear hr hb2 homU KA
      go_wp2_with (first | (at_mapUpdate; refine wpList_mapUpdate_own _ rfl _ _ _ 68 rfl 66 3 Try.keyedA Try.underlying68 _ w1.heap.size k D rfl ho2 hmax _ _ _ rfl rfl HKEY.out _ [] (plainElem_int Try.underlying3 (wf_i64 (z := 1) (by omega) (by omega))) ?_; intro w5 hown5 hgr5) | go_in)
      have HM5 : Hid (MapIs (D.put (klit (raised z)) (.lit (.int .i64 1))) (onceS (keysR zss (k + 1))) (keysR zss (k + 1))) := by
        have h := HMI.out.put ho2.isMap HFR.out 1
        exact h.congr (fun x => by rw [HKS.out]; exact onceS_cons _ _ _) HKS.out.symm
      have HO5 := Hid.mk hown5
      have HOF5 : Hid (Off (fun b => b = w1.heap.size) X w5) := (HOF.out.trans (Off.below HB2.out)).trans (Off.grown hgr5 (fun j hj => by cases hj; rfl))
      clear hown5 hgr5 ho2 HMI HOF HB2
      go_wp2
      go_roundw
      case rel => exact ⟨k + 1, _, by omega, by go_num, HO5.out, HM5.out, HOF5.out⟩
      case measure => simp [intOf]; omega
    · obtain rfl : k = n := by omega
      have KT := Hid.mk (table_any w1.heap.size k D _ _ q wr (by omega) hq6 hom hmi (keysR_keys HZ.out HROW.out))
      have HTL : Hid (Tells q (onceS (keysR zss k)) (ttW zss)) := tells_tt HROW.out (fun zs h1 _ => onceS_raised HZ.out HROW.out h1)
      have zr : w.heap.size < wr.heap.size := (Array.getElem?_eq_some_iff.1 qr).1
      clear hom hmi hof
      go_wp2_with fail
      refine KT.out.mono ?_
      rintro e w3 ⟨us, ⟨r3, m3, d3, cells3, rfl, ho3⟩, hT, hb3⟩
      have hus : us = ttW zss := hT.unique HTL.out
      subst hus
      have q3 := blk_below qr hb3
      have B3 := Bw.trans (hb3.mono Bw.size)
      have e0 := blk_cell q3 0 (v := .int .i64 0) rfl
      have e1 := blk_cell q3 1 (v := .slice none 0 0) rfl
      have f0 := blk_frozen q3 0
      have f1 := blk_frozen q3 1
      clear hT hb3 q3 qr
      go_wp2
      refine bodyPost_ret (v := .tuple #[.agg #[.int .i64 (tellP q (ttW zss)), .slice r3 m3 d3], .bool (goodT q (ttW zss))]) (by simp [results, Try.results58, go_sem, e0, e1]) rfl ⟨TabAns.tell rfl ⟨r3, m3, d3, cells3, rfl, ho3.stored zr (by omega) _ _⟩, ?_⟩
      exact (B3.setCell (Nat.le_refl _) _).setCell (Nat.le_refl _) _

end Go.Proofs.Ythiabjkjpjmahaa

/- Contract of impl.TableauTable. -/
namespace Go.Proofs.Ythiabjkjpjmahaa
open Go.RowKit

set_option maxRecDepth 100000 in
set_option maxHeartbeats 8000000 in
theorem implTableauTable (p : Int) (a : Option Addr) (n c : Nat) (zss : List (List Int)) (w : World) (hz : zss.length = n) (hn : n ≤ 9223372036854775807) (ha : AtS w a zss) :
    Calls Try.prog 18 #[.agg #[.int .i64 p, .slice a n c]] w fun e w' => TabAns e w' w.heap.size (ttB p zss) p (ttW zss) ∧ Below w.heap.size w w' := by
  obtain ⟨W, hW⟩ : ∃ W, W = (w.alloc (.cells #[.int .i64 p, .slice a n c] 45)).alloc (.cells #[.int .i64 0, .slice none 0 0] 25) := ⟨_, rfl⟩
  have B0 : Below w.heap.size w W := by rw [hW]; exact ((Below.refl _ _).alloc (Nat.le_refl _) _).alloc (by simp) _
  have zW : w.heap.size + 1 < W.heap.size := by rw [hW]; simp
  have c0 : W.cell? ⟨w.heap.size, 0, none⟩ = some (.int .i64 p) := by rw [hW]; simp [go_sem]
  have c1 : W.cell? ⟨w.heap.size, 1, none⟩ = some (.slice a n c) := by rw [hW]; simp [go_sem]
  have b1 : W.heap[w.heap.size + 1]? = some (.cells #[.int .i64 0, .slice none 0 0] 25 (0, 0)) := by
    rw [hW]
    have h := heap_alloc_new (w.alloc (.cells #[.int .i64 p, .slice a n c] 45)) (.cells #[.int .i64 0, .slice none 0 0] 25)
    simpa only [World.size_alloc] using h
  have K1 := Hid.mk (implGoodTableau p a n c zss W hz hn (ha.below B0))
  have HA := Hid.mk ha
  have HZ := Hid.mk hz
  clear ha hz
  cases hg : tbB p zss with
  | false =>
    have HN : Hid (ttB p zss = false) := by show _ = _; unfold ttB; rw [hg]; rfl
    have HG := Hid.mk hg
    clear hg
    go_enter Try.func18, Try.ntmps18
    go_wp2_with fail
    rw [← hW]
    clear hW
    refine K1.out.mono ?_
    rintro e w1 ⟨rfl, hb1⟩
    rw [HG.out]
    have B1 := B0.trans (hb1.mono B0.size)
    have q := blk_below b1 hb1
    have e0 := blk_cell q 0 (v := .int .i64 0) rfl
    have e1 := blk_cell q 1 (v := .slice none 0 0) rfl
    have f0 := blk_frozen q 0
    have f1 := blk_frozen q 1
    go_wp2
    refine bodyPost_ret (v := .tuple #[.agg #[.int .i64 0, .slice none 0 0], .bool false]) (by simp [results, Try.results18, go_sem, e0, e1]) rfl ⟨TabAns.zero HN.out rfl, ?_⟩
    exact (B1.setCell (by simp) _).setCell (by simp) _
  | true =>
    have hn8 : 1 ≤ n ∧ n ≤ 8 := by have := tbB_n hg; have := HZ.out; omega
    obtain ⟨q, hq⟩ : ∃ q : Nat, p = (q : Int) := ⟨p.toNat, by have := tbB_C hg; omega⟩
    have hq6 : q ≤ 6 := by have := tbB_C hg; omega
    have HNB : Hid (ttB p zss = goodT p (ttW zss)) := by show _ = _; unfold ttB; rw [hg]; rfl
    have HROW : Hid (∀ z ∈ zss, good z = true ∧ z.length = q) := fun z hz => by
      obtain ⟨i, hi, rfl⟩ := List.getElem_of_mem hz
      have hr := tbB_row hg (List.getElem?_eq_getElem hi)
      have := rowOk_len hr
      exact ⟨rowOk_good hr, by omega⟩
    have HG := Hid.mk hg
    clear hg
    subst hq
    go_enter Try.func18, Try.ntmps18
    go_wp2_with fail
    rw [← hW]
    clear hW
    refine K1.out.mono ?_
    rintro e w1 ⟨rfl, hb1⟩
    rw [HG.out]
    have B1 := B0.trans (hb1.mono B0.size)
    have d0 := cell_later hb1 c0
    have d1 := cell_later hb1 c1
    have q1 := blk_below b1 hb1
    have z1 := hb1.size
    have KT := Hid.mk (onceEach_any q a n c zss w1 HZ.out (by omega) hq6 HROW.out (HA.out.below B1))
    clear hb1 b1 c0 c1
    go_wp2_with fail
    refine KT.out.mono ?_
    rintro e w3 ⟨⟨r3, m3, d3, cells3, rfl, ho3⟩, hb3⟩
    have q3 := blk_below q1 hb3
    have B3 := B1.trans (hb3.mono B1.size)
    have e0 := blk_cell q3 0 (v := .int .i64 0) rfl
    have e1 := blk_cell q3 1 (v := .slice none 0 0) rfl
    have f0 := blk_frozen q3 0
    have f1 := blk_frozen q3 1
    have zr : w.heap.size + 1 < w1.heap.size := by omega
    clear hb3 q3 q1
    go_wp2
    refine bodyPost_ret (v := .tuple #[.agg #[.int .i64 (ansP (goodT q (ttW zss)) q), .slice r3 m3 d3], .bool (goodT q (ttW zss))]) (by simp [results, Try.results18, go_sem, e0, e1]) rfl ⟨?_, ?_⟩
    · rw [HNB.out]
      exact ⟨r3, m3, d3, cells3, rfl, ho3.stored zr (by omega) _ _⟩
    · exact (B3.setCell (by simp) _).setCell (by simp) _

end Go.Proofs.Ythiabjkjpjmahaa
