/- Several texts of one proof, in build order: IntS, IntSS, RepN, MkL, QrG. -/
import Derived.Test.YtociphdhkjoofaaRows
import Derived.Test.YtociphdhkjoofaaM0
import Derived.Test.YtociphdhkjoofaaM1

/- Contracts of the laws' helpers over slices of ints: szIntS, toIntS, eqIntS. -/
namespace Go.Proofs.Ytociphdhkjoofaa
open Go.RowKit

theorem Try.infoInt : (Try.prog.info? 3).map (fun i => (i.zero, i.size, i.bytes)) = some (some (.int .i64 0), 1, 8) := by kernel_rfl

theorem szIntS_any (a : Option Addr) (n c : Nat) (l : Int) (w : World) (hn : n ≤ 9223372036854775807) (h0 : 0 ≤ l) (h1 : l ≤ 1048576) :
    Calls Try.prog 28 #[.slice a n c, .int .i64 l] w fun e w' => e = .returned (.int .i64 (if l < n then -1 else l - n)) ∧ w' = w := by
  by_cases h : l < n
  · have h' : l - (n : Int) < 0 := by omega
    go_enter Try.func28, Try.ntmps28
    go_wp2
    go_ret
    exact ⟨by simp, rfl⟩
  · have h' : ¬ l - (n : Int) < 0 := by omega
    go_enter Try.func28, Try.ntmps28
    go_wp2
    go_ret
    exact ⟨by simp, rfl⟩

set_option maxHeartbeats 400000 in
theorem toIntS_any (a : Option Addr) (n c : Nat) (zs : List Int) (w : World) (hz : zs.length = n) (hn : n ≤ 1048576) (ha : At w a zs) :
    Calls Try.prog 9 #[.slice a n c] w fun e w' => e = .returned (.slice (some ⟨w.heap.size, 0, none⟩) n n) ∧
      w'.ownsRow w.heap.size 3 1 (.slice (some ⟨w.heap.size, 0, none⟩) n n) n (zs.map (.int .i64)) ∧ Below w.heap.size w w' := by
  obtain ⟨i0, hi, hz0, hz1, hz2⟩ := info_parts Try.infoInt
  have key : n = 0 ∨ ∃ b off, a = some ⟨b, off, none⟩ ∧ ∀ i, i < n → w.cell? ⟨b, off + i, none⟩ = some (.int .i64 (zs.getD i 0)) := by
    rcases ha with rfl | h
    · exact .inl (by simpa using hz.symm)
    · exact .inr (by rw [← hz]; exact h)
  clear ha
  rcases key with rfl | ⟨b, off, rfl, hc⟩
  · go_enter Try.func9, Try.ntmps9
    go_wp2_with (at_make; refine wpList_make_full _ rfl _ _ 22 rfl w.heap.size 3 i0 (.int .i64 0) 1 Try.underlying22 hi hz0 hz1 .i64 .i64 _ _ 0 rfl rfl rfl rfl (by simp) (by simp) (Nat.le_refl _) ?_; intro w1 hown hg)
    refine wp_loop_rounds 1 ?_
    rw [rounds_succ]
    go_wp2
    go_ret
    obtain rfl : zs = [] := List.eq_nil_of_length_eq_zero hz
    exact ⟨rfl, by simpa [madeCells] using hown, (Below.refl _ _).grown hg (Nat.le_refl _) (by simp)⟩
  · have hb : 0 < n → b < w.heap.size := fun h => World.block_lt_of_cell? w _ (hc 0 h)
    go_enter Try.func9, Try.ntmps9
    go_wp2_with (at_make; refine wpList_make_full _ rfl _ _ 22 rfl w.heap.size 3 i0 (.int .i64 0) 1 Try.underlying22 hi hz0 hz1 .i64 .i64 _ _ n rfl rfl rfl rfl (by rw [hz2]; omega) (by unfold maxLen; omega) (Nat.le_refl _) ?_; intro w1 hown hg)
    have hb1 : Below w.heap.size w w1 := (Below.refl _ _).grown hg (Nat.le_refl _) (by simp)
    have hs0 : (madeCells (Value.int .i64 0).cells (n * 1)).toList.length = zs.length := by simp [madeCells, hz]
    have hu0 := Upto.zero hs0
    obtain ⟨cs, hcs⟩ : ∃ cs, cs = (madeCells (Value.int .i64 0).cells (n * 1)).toList := ⟨_, rfl⟩
    rw [← hcs] at hown hu0
    clear hcs hs0 hg
    go_loopw [4] (fun i wr => ∃ (k : Nat) (cs : List Value), k ≤ n ∧ i = .int .i64 k ∧ Upto cs zs k ∧ wr.ownsRow w.heap.size 3 1 (.slice (some ⟨w.heap.size, 0, none⟩) n n) n cs ∧ Below w.heap.size w wr) (fun i _ => n - (intOf i).toNat)
    case atStart => exact ⟨0, cs, Nat.zero_le _, rfl, hu0, hown, hb1⟩
    case round =>
      clear hown hu0 hb1 cs
      obtain ⟨k, cs, hk, rfl, hu, hown, hbw⟩ := hrel
      by_cases hlt : k < n
      · have hcx : wr.cell? ⟨b, off + k, none⟩ = some (.int .i64 (zs.getD k 0)) := (hbw.cell (hb (by omega))).trans (hc k hlt)
        obtain ⟨u, hu'⟩ : ∃ u, cs[k]? = some u := ⟨_, List.getElem?_eq_getElem (by have := hu.1; omega)⟩
        have hco : wr.cell? ⟨w.heap.size, k, none⟩ = some u := (hown.cellAt k (by omega)).trans hu'
        have hfo : wr.frozen? ⟨w.heap.size, k, none⟩ = false := hown.frozenAt k
        have hst := hown.stored k (.int .i64 (zs.getD k 0))
        have HU : Hid (Upto (cs.set k (.int .i64 (zs.getD k 0))) zs (k + 1)) := hu.set (by omega)
        have HO : Hid ((wr.setCell ⟨w.heap.size, k, none⟩ (.int .i64 (zs.getD k 0))).ownsRow w.heap.size 3 1 (.slice (some ⟨w.heap.size, 0, none⟩) n n) n (cs.set k (.int .i64 (zs.getD k 0)))) := hst.1
        have HB : Hid (Below w.heap.size w (wr.setCell ⟨w.heap.size, k, none⟩ (.int .i64 (zs.getD k 0)))) := hbw.setCell (Nat.le_refl _) _
        clear hst hu' hown hu hbw
        obtain ⟨x, hx⟩ : ∃ x, x = zs.getD k 0 := ⟨_, rfl⟩
        rw [← hx] at hcx HU HO HB
        clear hx
        go_wp2
        go_roundw
        case rel => exact ⟨k + 1, _, by omega, by go_num, HU.out, HO.out, HB.out⟩
        case measure => simp [intOf]; omega
      · go_wp2
        go_ret
        rw [hu.all (by omega)] at hown
        exact ⟨rfl, hown, hbw⟩

set_option maxHeartbeats 400000 in
theorem eqIntS_any (a a' : Option Addr) (n n' c c' : Nat) (zs zs' : List Int) (w : World) (hz : zs.length = n) (hz' : zs'.length = n') (hn : n ≤ 1048576) (hn' : n' ≤ 1048576) (ha : At w a zs) (ha' : At w a' zs') :
    Calls Try.prog 12 #[.slice a n c, .slice a' n' c'] w fun e w' => e = .returned (.bool (decide (zs = zs'))) ∧ Below w.heap.size w w' := by
  by_cases hnn : n = n'
  · subst hnn
    by_cases h0 : n = 0
    · subst h0
      obtain rfl := List.eq_nil_of_length_eq_zero hz
      obtain rfl := List.eq_nil_of_length_eq_zero hz'
      go_enter Try.func12, Try.ntmps12
      go_wp2
      refine wp_loop_rounds 1 ?_
      rw [rounds_succ]
      go_wp2
      go_ret
      exact ⟨by simp, Below.refl _ _⟩
    · obtain ⟨b, off, rfl, hb, hc⟩ := ha.some (by omega)
      obtain ⟨b', off', rfl, hb', hc'⟩ := ha'.some (by omega)
      clear ha ha'
      go_enter Try.func12, Try.ntmps12
      go_wp2
      go_loopw [5] (fun i wr => ∃ (k : Nat), k ≤ n ∧ i = .int .i64 k ∧ zs.take k = zs'.take k ∧ Below w.heap.size w wr) (fun i _ => n - (intOf i).toNat)
      case atStart => exact ⟨0, Nat.zero_le _, rfl, rfl, Below.refl _ _⟩
      case round =>
        obtain ⟨k, hk, rfl, ht, hbw⟩ := hrel
        by_cases hlt : k < n
        · have hcx : wr.cell? ⟨b, off + k, none⟩ = some (.int .i64 (zs.getD k 0)) := (hbw.cell hb).trans (hc k (by omega))
          have hcy : wr.cell? ⟨b', off' + k, none⟩ = some (.int .i64 (zs'.getD k 0)) := (hbw.cell hb').trans (hc' k (by omega))
          have HT : Hid (zs.getD k 0 = zs'.getD k 0 → zs.take (k + 1) = zs'.take (k + 1)) := fun e => by
            rw [take_succ_getD zs k (by omega), take_succ_getD zs' k (by omega), ht, e]
          have HN : Hid (zs.getD k 0 ≠ zs'.getD k 0 → zs ≠ zs') := ne_of_getD
          obtain ⟨x, hx⟩ : ∃ x, x = zs.getD k 0 := ⟨_, rfl⟩
          obtain ⟨y, hy⟩ : ∃ y, y = zs'.getD k 0 := ⟨_, rfl⟩
          rw [← hx] at hcx HT HN
          rw [← hy] at hcy HT HN
          clear hx hy ht hc hc'
          go_wp2
          go_quiet (fail)
          go_wp2
          · have hne : x ≠ y := by simpa using ‹(x != y) = true›
            go_ret
            exact ⟨by simp [HN.out hne], below_drewN hbw _⟩
          · have he : x = y := by simpa using ‹(x != y) = false›
            go_roundw
            case rel => exact ⟨k + 1, by omega, by go_num, HT.out he, below_drewN hbw _⟩
            case measure => simp [intOf]; omega
        · go_wp2
          go_ret
          exact ⟨by simp [take_all_eq (by omega) (by omega) ht], hbw⟩
  · go_enter Try.func12, Try.ntmps12
    go_wp2
    go_ret
    exact ⟨by have : zs ≠ zs' := fun e => hnn (by rw [← hz, ← hz', e]); simp [this], Below.refl _ _⟩

set_option maxHeartbeats 400000 in
theorem markIntS_any (base : Nat) (a : Option Addr) (n c : Nat) (cs : List Value) (m : Int) (w : World) (hn : n ≤ 1048576) (h0 : 0 ≤ m) (h1 : m ≤ 1073741824) (hown : w.ownsRow base 3 1 (.slice a n c) n cs) :
    Calls Try.prog 14 #[.slice a n c, .int .i64 m] w fun e w' => e = .returned (.int .i64 (m + n)) ∧
      w'.ownsRow base 3 1 (.slice a n c) n ((marks m n).map (.int .i64)) ∧ w.grownBy w' (Value.slice a n c).ownBlock := by
  rcases hown.2 with ⟨hv, h00⟩ | ⟨g, cap, cur, hv, hjunk⟩
  · simp only [Value.slice.injEq] at hv
    obtain ⟨rfl, rfl, rfl⟩ := hv
    go_enter Try.func14, Try.ntmps14
    go_wp2
    refine wp_loop_rounds 1 ?_
    rw [rounds_succ]
    go_wp2
    go_ret
    exact ⟨by simp, by simpa [marks] using World.ownsRow_nil w base 3 1, World.grownBy.refl _ _⟩
  · simp only [Value.slice.injEq, true_and] at hv
    obtain ⟨rfl, rfl⟩ := hv
    clear hjunk
    have hu0 := Upto.zero (cs := cs) (zs := marks m n) (by rw [marks_length]; simpa using hown.1)
    go_enter Try.func14, Try.ntmps14
    go_wp2
    go_loopw [1, 5] (fun q i wr => ∃ (k : Nat) (cs : List Value), k ≤ n ∧ i = .int .i64 k ∧ q = .int .i64 (m + k) ∧ Upto cs (marks m n) k ∧ wr.ownsRow base 3 1 (.slice (some ⟨g, 0, none⟩) n c) n cs ∧ w.grownBy wr (some g)) (fun _ i _ => n - (intOf i).toNat)
    case atStart => exact ⟨0, cs, Nat.zero_le _, rfl, by simp, hu0, hown, World.grownBy.refl _ _⟩
    case round =>
      clear hown hu0 cs
      obtain ⟨k, cs, hk, rfl, rfl, hu, hown, hbw⟩ := hrel
      by_cases hlt : k < n
      · obtain ⟨u, hu'⟩ : ∃ u, cs[k]? = some u := ⟨_, List.getElem?_eq_getElem (by have := hu.1; rw [marks_length] at this; omega)⟩
        have hco : wr.cell? ⟨g, k, none⟩ = some u := (hown.cellAt k (by omega)).trans hu'
        have hfo : wr.frozen? ⟨g, k, none⟩ = false := hown.frozenAt k
        have hst := hown.stored k (.int .i64 (m + k))
        have hset := hu.set (by rw [marks_length]; omega)
        rw [marks_getD m n k hlt] at hset
        have HU : Hid (Upto (cs.set k (.int .i64 (m + k))) (marks m n) (k + 1)) := hset
        have HO : Hid ((wr.setCell ⟨g, k, none⟩ (.int .i64 (m + k))).ownsRow base 3 1 (.slice (some ⟨g, 0, none⟩) n c) n (cs.set k (.int .i64 (m + k)))) := hst.1
        have HB : Hid (w.grownBy (wr.setCell ⟨g, k, none⟩ (.int .i64 (m + k))) (some g)) :=
          ⟨hst.2.os.trans hbw.os, hst.2.tape.trans hbw.tape, hst.2.output.trans hbw.output, Nat.le_trans hbw.size hst.2.size, fun j hj hne => (hst.2.block j (Nat.lt_of_lt_of_le hj hbw.size) hne).trans (hbw.block j hj hne)⟩
        clear hst hu' hown hu hbw hset
        go_wp2
        go_roundw
        case rel => exact ⟨k + 1, _, by omega, by go_num, by go_num, HU.out, HO.out, HB.out⟩
        case measure => simp [intOf]; omega
      · go_wp2
        go_ret
        rw [hu.all (by rw [marks_length]; omega)] at hown
        obtain rfl : k = n := by omega
        exact ⟨rfl, hown, hbw⟩

set_option maxHeartbeats 400000 in
theorem heldIntS_any (a : Option Addr) (n c : Nat) (m : Int) (w : World) (hn : n ≤ 1048576) (h0 : 0 ≤ m) (h1 : m ≤ 1073741824) (ha : At w a (marks m n)) :
    Calls Try.prog 27 #[.slice a n c, .int .i64 m] w fun e w' => e = .returned (.int .i64 (m + n)) ∧ w' = w := by
  by_cases hz : n = 0
  · subst hz
    go_enter Try.func27, Try.ntmps27
    go_wp2
    refine wp_loop_rounds 1 ?_
    rw [rounds_succ]
    go_wp2
    go_ret
    exact ⟨by simp, rfl⟩
  · obtain ⟨b, off, rfl, hb, hc⟩ := ha.some (by rw [marks_length]; omega)
    clear ha
    go_enter Try.func27, Try.ntmps27
    go_wp2
    go_loop [1, 5] (fun q i => ∃ (k : Nat), k ≤ n ∧ i = .int .i64 k ∧ q = .int .i64 (m + k)) (fun _ i => n - (intOf i).toNat)
    case atStart => exact ⟨0, Nat.zero_le _, rfl, by simp⟩
    case round =>
      obtain ⟨k, hk, rfl, rfl⟩ := hrel
      by_cases hlt : k < n
      · have hcx := hc k (by rw [marks_length]; omega)
        rw [marks_getD m n k hlt] at hcx
        clear hc
        go_wp2
        go_round
        case rel => exact ⟨k + 1, by omega, by go_num, by go_num⟩
        case measure => simp [intOf]; omega
      · go_wp2
        go_ret
        obtain rfl : k = n := by omega
        exact ⟨rfl, rfl⟩

theorem toIntS_at (a : Option Addr) (n c : Nat) (zs : List Int) (w : World) (hz : zs.length = n) (hn : n ≤ 1048576) (ha : At w a zs) :
    Calls Try.prog 9 #[.slice a n c] w fun e w' => ∃ g, e = .returned (.slice (some ⟨g, 0, none⟩) n n) ∧
      w'.ownsRow w.heap.size 3 1 (.slice (some ⟨g, 0, none⟩) n n) n (zs.map (.int .i64)) ∧ Below w.heap.size w w' :=
  (toIntS_any a n c zs w hz hn ha).mono fun _ _ ⟨h1, h2, h3⟩ => ⟨_, h1, h2, h3⟩
theorem heldIntS_any' (a : Option Addr) (n c : Nat) (m : Int) (w : World) (hn : n ≤ 1048576) (h0 : 0 ≤ m) (h1 : m ≤ 1073741824) (ha : At w a (marks m n)) :
    Calls Try.prog 27 #[.slice a n c, .int .i64 m] w fun e w' => e = .returned (.int .i64 (m + n)) ∧ Below w.heap.size w w' :=
  (heldIntS_any a n c m w hn h0 h1 ha).mono fun _ _ ⟨h1, h2⟩ => ⟨h1, h2 ▸ Below.refl _ _⟩

end Go.Proofs.Ytociphdhkjoofaa

/- Contracts of the laws' helpers over slices of slices of ints: szIntSS, toIntSS, eqIntSS, markIntSS. -/
namespace Go.Proofs.Ytociphdhkjoofaa
open Go.RowKit

theorem Try.infoInts : (Try.prog.info? 22).map (fun i => (i.zero, i.size, i.bytes)) = some (some (.slice none 0 0), 1, 24) := by kernel_rfl

theorem rows_store {w : World} {e : TypeId} {vs : List Value} {zss : List (List Int)} {k : Nat} {L : Nat → Nat} (h : RowsOwned w e vs zss k L) (hL : ∀ i, i < k → L 0 ≤ L i) {g j : Nat} (hg : g < L 0) (v : Value) (hj : k ≤ j) :
    RowsOwned (w.setCell ⟨g, j, none⟩ v) e (vs.set j v) zss k L := fun i hi => by
  obtain ⟨a, c, h1, h2, h3⟩ := h i hi
  refine ⟨a, c, ?_, ownsRow_setCell_below h2 (by have := hL i hi; simp; omega) _, h3⟩
  rw [List.getElem?_set_ne (by omega)]; exact h1

theorem listNe_getD {zss zss' : List (List Int)} {k : Nat} (h : zss.getD k [] ≠ zss'.getD k []) : zss ≠ zss' := fun e => h (by rw [e])
theorem takeS_succ (zss : List (List Int)) (k : Nat) (h : k < zss.length) : zss.take (k + 1) = zss.take k ++ [zss.getD k []] := by
  rw [List.take_succ_eq_append_getElem h]; simp [List.getD, h]

theorem tot_each (zss : List (List Int)) (n : Nat) (hn : zss.length = n) (i : Nat) (hi : i < zss.length) : (zss.getD i []).length ≤ tot zss n := by
  have h1 := tot_succ zss i hi
  have h2 := tot_mono zss (i + 1) n (by omega)
  omega

end Go.Proofs.Ytociphdhkjoofaa

/- Slices of numbers and of slices of numbers as things in memory. -/
namespace Go.Proofs.Ytociphdhkjoofaa
open Go.RowKit

theorem atSl_int {w : World} {a : Option Addr} {zs : List Int} : AtSl Rep.int w a zs ↔ At w a zs := by
  constructor
  · rintro (h | ⟨b, off, rfl, hc⟩)
    · exact .inl h
    · refine .inr ⟨b, off, rfl, fun i hi => ?_⟩
      obtain ⟨cs, h1, h2⟩ := hc i zs[i] (List.getElem?_eq_getElem hi)
      obtain rfl : cs = [.int .i64 zs[i]] := h2
      have := h1 0 _ rfl
      simpa [Rep.int, List.getD, hi] using this
  · rintro (h | ⟨b, off, rfl, hc⟩)
    · exact .inl h
    · refine .inr ⟨b, off, rfl, fun i x hx => ⟨[.int .i64 x], fun j v hv => ?_, rfl⟩⟩
      have hi := (List.getElem?_eq_some_iff.1 hx).1
      have := hc i hi
      match j, hv with
      | 0, hv =>
        obtain rfl := Option.some.inj hv
        simpa [Rep.int, List.getD, hx] using this

abbrev RInts : Rep (List Int) := Rep.slice 3 Rep.int
abbrev RPairs : Rep (List (List Int)) := Rep.slice 22 RInts

theorem RInts.at_iff {w : World} {a : Option Addr} {n c : Nat} {zs : List Int} : RInts.At w [.slice a n c] zs ↔ zs.length = n ∧ n ≤ 9223372036854775807 ∧ At w a zs ∧ (a = none → c = 0) := by
  constructor
  · rintro ⟨a', n', c', e, h1, h2, h3, h4⟩
    simp only [List.cons.injEq, Value.slice.injEq, and_true] at e
    obtain ⟨rfl, rfl, rfl⟩ := e
    exact ⟨h1, h2, atSl_int.1 h3, h4⟩
  · rintro ⟨h1, h2, h3, h4⟩
    exact ⟨a, n, c, rfl, h1, h2, atSl_int.2 h3, h4⟩

theorem cells_ints {cells : List Value} {zs : List Int} (hl : cells.length = zs.length) (h : ∀ (i : Nat) (x : Int), zs[i]? = some x → cells[i]? = some (Value.int .i64 x)) : cells = zs.map (.int .i64) := by
  apply List.ext_getElem?
  intro j
  by_cases hj : j < zs.length
  · rw [h j _ (List.getElem?_eq_getElem hj)]; simp [hj]
  · rw [List.getElem?_eq_none (by omega), List.getElem?_eq_none (by simp; omega)]

theorem owns_base {w : World} {base : Nat} {e : TypeId} {size : Nat} {v : Value} {n : Nat} {xs : List Value} (h : w.ownsRow 0 e size v n xs) (hb : ∀ b, v.ownBlock = some b → base ≤ b) : w.ownsRow base e size v n xs := by
  refine ⟨h.1, ?_⟩
  rcases h.2 with hn | ⟨g, cap, cur, rfl, _, rest⟩
  · exact .inl hn
  · exact .inr ⟨g, cap, cur, rfl, hb g rfl, rest⟩

theorem RInts.own_iff {w : World} {F : Nat → Prop} {a : Option Addr} {n c : Nat} {zs : List Int} :
    RInts.Own w F [.slice a n c] zs ↔ zs.length = n ∧ n ≤ 9223372036854775807 ∧ w.ownsRow 0 3 1 (.slice a n c) n (zs.map (.int .i64)) ∧ ∀ b, (Value.slice a n c).ownBlock = some b → F b := by
  constructor
  · rintro ⟨a', n', c', cells, G, e, h⟩
    simp only [List.cons.injEq, Value.slice.injEq, and_true] at e
    obtain ⟨rfl, rfl, rfl⟩ := e
    have hc : cells = zs.map (.int .i64) := by
      refine cells_ints (by have := h.outer.1; simp [Rep.int] at this; rw [this, h.len]) (fun i x hx => ?_)
      have hi : i < n := by rw [← h.len]; exact (List.getElem?_eq_some_iff.1 hx).1
      have e : sub cells (i * 1) 1 = [.int .i64 x] := h.row i x hi hx
      have e2 : (sub cells (i * 1) 1)[0]? = cells[i * 1 + 0]? := sub_at (by omega)
      rw [e] at e2
      simpa using e2.symm
    refine ⟨h.len, h.big, ?_, h.outerF⟩
    rw [← hc]; exact h.outer
  · rintro ⟨h1, h2, h3, h4⟩
    refine ⟨a, n, c, _, fun _ _ => False, rfl, h1, h2, h3, h4, fun i x hi hx => ?_, fun i b hi hb => hb.elim, fun i j b _ _ _ hb => hb.elim⟩
    show sub (zs.map (.int .i64)) (i * 1) 1 = [.int .i64 x]
    apply List.ext_getElem?
    intro j
    by_cases hj : j < 1
    · rw [sub_at hj]
      obtain rfl : j = 0 := by omega
      simp [hx]
    · rw [List.getElem?_eq_none (by simp [sub]; omega), List.getElem?_eq_none (by simp; omega)]

/-- What the contracts of stage 1 to 5 say of a slice of numbers, told as a thing that is owned. -/
theorem RInts.of_owns {w : World} {base : Nat} {a : Option Addr} {n c : Nat} {zs : List Int} (hz : zs.length = n) (hn : n ≤ 9223372036854775807) (h : w.ownsRow base 3 1 (.slice a n c) n (zs.map (.int .i64))) :
    RInts.Own w (From base w.heap.size) [.slice a n c] zs := RInts.own_iff.2 ⟨hz, hn, owns_mono h (Nat.zero_le _), fun b hb => h.lt b hb⟩

theorem atSl_ints {w : World} {a : Option Addr} {zss : List (List Int)} (h : AtSl RInts w a zss) : AtS w a zss := by
  rcases h with h | ⟨b, off, rfl, hc⟩
  · exact .inl h
  · refine .inr ⟨b, off, rfl, fun i hi => ?_⟩
    obtain ⟨cs, h1, h2⟩ := hc i zss[i] (List.getElem?_eq_getElem hi)
    obtain ⟨a', n', c', rfl, e1, e2, e3, _⟩ := h2
    have g0 := h1 0 _ rfl
    have ht : zss.getD i [] = zss[i] := by simp [List.getD, hi]
    rw [ht, e1]
    exact ⟨a', c', by simpa [RInts, Rep.slice] using g0, e2, atSl_int.1 e3⟩

/-- A slice of slices of numbers that a contract of stage 1 owns, as a thing that is owned. -/
theorem RPairs.of_own {w : World} {lo hi g n : Nat} {zss : List (List Int)} (h : OwnS w lo hi 22 3 g n zss) (hn : n ≤ 1048576) (hs : ∀ i, i < zss.length → (zss.getD i []).length ≤ 1048576) : RPairs.Own w (From lo hi) [.slice (some ⟨g, 0, none⟩) n n] zss := by
  obtain ⟨vs, L, h1, h2, h3, h4, h5, h6, h7, h8, h9⟩ := h
  have hm := mono_le h5
  have q0 := hm 0 n (by omega) (Nat.le_refl _)
  refine ⟨some ⟨g, 0, none⟩, n, n, vs, fun i b => L i ≤ b ∧ b < L (i + 1), rfl, h1, by omega, ⟨by simpa [Rep.slice] using h2, .inr ⟨g, n, vs.toArray, rfl, Nat.zero_le _, h8, Nat.le_refl _, by unfold maxLen; omega, by simpa [Rep.slice] using h2, by simp [Rep.slice, ← h2]⟩⟩,
    fun b hb => ?_, fun i x hi hx => ?_, fun i b hi hb => ?_, fun i j b hi hj hij hb hb' => ?_⟩
  · obtain rfl : g = b := by simpa [Value.ownBlock] using hb
    exact ⟨h3, by omega⟩
  · obtain ⟨a', c', k1, k2, k3⟩ := h9 i hi
    have ht : zss.getD i [] = x := by simp [List.getD, hx]
    have hsx := hs i (by omega)
    rw [ht] at k1 k2 k3 hsx
    have e : sub vs (i * 1) 1 = [.slice a' x.length c'] := by
      apply List.ext_getElem?
      intro j
      by_cases hj : j < 1
      · rw [sub_at hj]; obtain rfl : j = 0 := by omega
        simpa using k1
      · rw [List.getElem?_eq_none (by simp [sub]; omega), List.getElem?_eq_none (by simp; omega)]
    show RInts.Own w _ (sub vs (i * 1) 1) x
    rw [e]
    exact RInts.own_iff.2 ⟨rfl, by omega, owns_mono k2 (Nat.zero_le _), fun b hb => ⟨(k2.lt b hb).1, k3 b hb⟩⟩
  · have q1 := hm 0 i (by omega) (by omega)
    have q2 := hm (i + 1) n (by omega) (Nat.le_refl _)
    exact ⟨⟨by omega, by omega⟩, by simp [Value.ownBlock]; omega⟩
  · rcases Nat.lt_or_gt_of_ne hij with hlt | hlt
    · have := hm (i + 1) j (by omega) (by omega); omega
    · have := hm (j + 1) i (by omega) (by omega); omega

end Go.Proofs.Ytociphdhkjoofaa

/- Plain: things as the laws mark them, one behind the other, whatever they are. -/
namespace Go.Proofs.Ytociphdhkjoofaa
open Go.RowKit

section
variable {α : Type} (f : Int → α → α) (sz : α → Nat)
def mkL : Int → List α → List α
  | _, [] => []
  | m, x :: xs => f m x :: mkL (m + sz x) xs
def szL (xs : List α) (k : Nat) : Nat := ((xs.take k).map sz).sum
theorem mkL_length : ∀ (m : Int) (xs : List α), (mkL f sz m xs).length = xs.length
  | _, [] => rfl
  | m, x :: xs => by simp [mkL, mkL_length]
theorem szL_succ {xs : List α} {k : Nat} {x : α} (h : xs[k]? = some x) : szL sz xs (k + 1) = szL sz xs k + sz x := by
  have hk := (List.getElem?_eq_some_iff.1 h).1
  unfold szL
  rw [List.take_succ_eq_append_getElem hk, List.map_append, List.sum_append, (List.getElem?_eq_some_iff.1 h).2]
  simp
theorem mkL_at : ∀ (m : Int) (xs : List α) (k : Nat) (x : α), xs[k]? = some x → (mkL f sz m xs)[k]? = some (f (m + szL sz xs k) x)
  | m, y :: xs, 0, x, h => by
    simp at h
    subst h
    simp [mkL, szL]
  | m, y :: xs, k + 1, x, h => by
    have ih := mkL_at (m + sz y) xs k x (by simpa using h)
    have e : szL sz (y :: xs) (k + 1) = sz y + szL sz xs k := by simp [szL]
    rw [e]
    simp only [mkL, List.getElem?_cons_succ, ih]
    congr 2
    omega
/-- The first k are marked. -/
def mkTo (m : Int) (xs : List α) (k : Nat) : List α := (mkL f sz m xs).take k ++ xs.drop k
theorem mkTo_zero (m : Int) (xs : List α) : mkTo f sz m xs 0 = xs := by simp [mkTo]
theorem mkTo_all (m : Int) (xs : List α) {n : Nat} (h : xs.length = n) : mkTo f sz m xs n = mkL f sz m xs := by
  unfold mkTo
  rw [List.take_of_length_le (by rw [mkL_length]; omega), List.drop_of_length_le (by omega), List.append_nil]
theorem mkTo_next {m : Int} {xs : List α} {k : Nat} {x : α} (h : xs[k]? = some x) : (mkTo f sz m xs k)[k]? = some x := by
  have hk := (List.getElem?_eq_some_iff.1 h).1
  unfold mkTo
  have hl : ((mkL f sz m xs).take k).length = k := by rw [List.length_take, mkL_length]; omega
  rw [List.getElem?_append_right (by omega), hl, Nat.sub_self]
  simpa using h
theorem mkTo_set {m : Int} {xs : List α} {k : Nat} {x : α} (h : xs[k]? = some x) : (mkTo f sz m xs k).set k (f (m + szL sz xs k) x) = mkTo f sz m xs (k + 1) := by
  have hk := (List.getElem?_eq_some_iff.1 h).1
  have hm := mkL_at f sz m xs k x h
  have hl : ((mkL f sz m xs).take k).length = k := by rw [List.length_take, mkL_length]; omega
  unfold mkTo
  rw [List.set_append_right _ _ (by omega), hl, Nat.sub_self, List.drop_eq_getElem_cons hk, List.set_cons_zero]
  obtain ⟨hk2, hm2⟩ := List.getElem?_eq_some_iff.1 hm
  rw [List.take_succ_eq_append_getElem hk2, hm2, List.append_assoc]
  rfl
theorem mkTo_length (m : Int) (xs : List α) (k : Nat) : (mkTo f sz m xs k).length = xs.length := by
  unfold mkTo
  rw [List.length_append, List.length_take, List.length_drop, mkL_length]
  omega
end

def mkInts (m : Int) (zs : List Int) : List Int := marks m zs.length
def mkPairs (m : Int) (ps : List (List Int)) : List (List Int) := mkL (fun m zs => mkInts m zs) List.length m ps
theorem szL_pairs (ps : List (List Int)) (k : Nat) : szL List.length ps k = tot ps k := rfl
theorem marks_succ (m : Int) (n : Nat) : marks m (n + 1) = m :: marks (m + 1) n := by
  unfold marks
  rw [List.range_succ_eq_map, List.map_cons, List.map_map]
  simp only [List.cons.injEq]
  refine ⟨by simp, ?_⟩
  apply List.map_congr_left
  intro i _
  simp only [Function.comp]
  push_cast
  omega
theorem szL_mono {α : Type} (sz : α → Nat) (xs : List α) (j k : Nat) (h : j ≤ k) : szL sz xs j ≤ szL sz xs k := by
  obtain ⟨d, rfl⟩ := Nat.le.dest h
  induction d with
  | zero => exact Nat.le_refl _
  | succ d ih =>
    by_cases hk : j + d < xs.length
    · rw [show j + (d + 1) = (j + d) + 1 from rfl, szL_succ sz (List.getElem?_eq_getElem hk)]; have := ih (by omega); omega
    · have e1 : szL sz xs (j + (d + 1)) = szL sz xs (j + d) := by unfold szL; rw [List.take_of_length_le (by omega), List.take_of_length_le (by omega)]
      rw [e1]; exact ih (by omega)

end Go.Proofs.Ytociphdhkjoofaa

/- Atoms and queries as things in memory. -/
namespace Go.Proofs.Ytociphdhkjoofaa
open Go.RowKit

/-- An atom: Table, Vars. A query: Head, Atoms. -/
abbrev Atm := Int × List Int
abbrev RAtm : Rep Atm := Rep.pair Rep.int RInts
abbrev RAtms : Rep (List Atm) := Rep.slice 58 RAtm
abbrev Qry := List Int × List Atm
abbrev RQry : Rep Qry := Rep.pair RInts RAtms
theorem RAtm_k : RAtm.k = 2 := rfl

theorem RAtm.at_open {w : World} {cs : List Value} {x : Atm} (h : RAtm.At w cs x) : ∃ ta tn tc, cs = [.int .i64 x.1, .slice ta tn tc] ∧
    (x.2.length = tn ∧ tn ≤ 9223372036854775807 ∧ At w ta x.2 ∧ (ta = none → tc = 0)) := by
  obtain ⟨c1, c2, rfl, h1, ⟨ta, tn, tc, rfl, u1, u2, u3, u4⟩⟩ := h
  obtain rfl : c1 = [.int .i64 x.1] := h1
  exact ⟨ta, tn, tc, rfl, u1, u2, atSl_int.1 u3, u4⟩

theorem RAtm.own_mk {w : World} {F : Nat → Prop} {p : Int} {ts : List Int} {ta : Option Addr} {tn tc : Nat} (h : RInts.Own w F [.slice ta tn tc] ts) : RAtm.Own w F [.int .i64 p, .slice ta tn tc] (p, ts) :=
  ⟨[_], [_], fun _ => False, F, rfl, rfl, h, fun _ h => h.elim, fun _ h => h, fun _ h => h.elim⟩

theorem RAtm.own_open {w : World} {F : Nat → Prop} {cs : List Value} {x : Atm} (h : RAtm.Own w F cs x) : ∃ ta tn tc, cs = [.int .i64 x.1, .slice ta tn tc] ∧ RInts.Own w F [.slice ta tn tc] x.2 := by
  obtain ⟨c1, d1, F1, F2, rfl, h1, h2, a1, a2, a3⟩ := h
  obtain rfl : c1 = [.int .i64 x.1] := h1
  obtain ⟨ca, cn, cc, ccells, cG, rfl, cl⟩ := h2
  exact ⟨ca, cn, cc, rfl, RInts.mono ⟨ca, cn, cc, ccells, cG, rfl, cl⟩ a2⟩

/-- How many slots the laws count for atoms, and how many they mark. -/
def acost (x : Atm) : Nat := x.2.length
def amk (x : Atm) : Nat := 1 + x.2.length
abbrev asum (xs : List Atm) (k : Nat) : Nat := szL acost xs k
abbrev msum (xs : List Atm) (k : Nat) : Nat := szL amk xs k
theorem asum_zero (xs : List Atm) : asum xs 0 = 0 := by simp [asum, szL]
theorem msum_zero (xs : List Atm) : msum xs 0 = 0 := by simp [msum, szL]
theorem asum_succ {xs : List Atm} {k : Nat} {x : Atm} (h : xs[k]? = some x) : asum xs (k + 1) = asum xs k + acost x := szL_succ acost h
theorem msum_succ {xs : List Atm} {k : Nat} {x : Atm} (h : xs[k]? = some x) : msum xs (k + 1) = msum xs k + amk x := szL_succ amk h
theorem asum_mono (xs : List Atm) (j k : Nat) (h : j ≤ k) : asum xs j ≤ asum xs k := szL_mono acost xs j k h
theorem msum_mono (xs : List Atm) (j k : Nat) (h : j ≤ k) : msum xs j ≤ msum xs k := szL_mono amk xs j k h
theorem msum_eq : ∀ (xs : List Atm) (k : Nat), k ≤ xs.length → msum xs k = k + asum xs k
  | xs, 0, _ => by rw [msum_zero, asum_zero]
  | xs, k + 1, h => by
    have hx : xs[k]? = some xs[k] := List.getElem?_eq_getElem (by omega)
    have hm : amk xs[k] = 1 + acost xs[k] := rfl
    rw [msum_succ hx, asum_succ hx, msum_eq xs k (by omega), hm]
    omega
theorem asum_each {xs : List Atm} {n i : Nat} {x : Atm} (hn : xs.length = n) (h : xs[i]? = some x) : acost x ≤ asum xs n := by
  have hi := (List.getElem?_eq_some_iff.1 h).1
  have h1 := szL_succ acost h
  have h2 := szL_mono acost xs (i + 1) n (by omega)
  show acost x ≤ szL acost xs n
  omega

/-- Atoms within the laws' bound. -/
def SmA (xs : List Atm) (n : Nat) : Prop := xs.length = n ∧ n + asum xs n ≤ 1048576
theorem SmA.n {xs : List Atm} {n : Nat} (h : SmA xs n) : n ≤ 1048576 := by have := h.2; omega
theorem SmA.sum {xs : List Atm} {n : Nat} (h : SmA xs n) : asum xs n ≤ 1048576 := by have := h.2; omega
theorem SmA.msum {xs : List Atm} {n : Nat} (h : SmA xs n) : msum xs n ≤ 1048576 := by rw [msum_eq xs n (by have := h.1; omega)]; exact h.2
theorem SmA.each {xs : List Atm} {n : Nat} (h : SmA xs n) {i : Nat} {x : Atm} (hx : xs[i]? = some x) : x.2.length ≤ 1048576 := by
  have h1 := asum_each h.1 hx
  have h2 := h.2
  have h3 : acost x = x.2.length := rfl
  omega

/-- A slice of atoms as it is read: what a row of it is. -/
abbrev AtQ (w : World) (a : Option Addr) (xs : List Atm) : Prop := AtSl RAtm w a xs
theorem AtQ.row {w : World} {a : Option Addr} {xs : List Atm} (h : AtQ w a xs) (hp : 0 < xs.length) : ∃ b off, a = some ⟨b, off, none⟩ ∧ b < w.heap.size ∧ ∀ (i : Nat) (x : Atm), xs[i]? = some x → ∃ ta tn tc,
    w.cell? ⟨b, off + i * 2, none⟩ = some (.int .i64 x.1) ∧ w.cell? ⟨b, off + i * 2 + 1, none⟩ = some (.slice ta tn tc) ∧ (x.2.length = tn ∧ tn ≤ 9223372036854775807 ∧ At w ta x.2 ∧ (ta = none → tc = 0)) := by
  obtain ⟨b, off, rfl, hc⟩ := AtSl.each h hp
  have row : ∀ (i : Nat) (x : Atm), xs[i]? = some x → ∃ ta tn tc,
    w.cell? ⟨b, off + i * 2, none⟩ = some (.int .i64 x.1) ∧ w.cell? ⟨b, off + i * 2 + 1, none⟩ = some (.slice ta tn tc) ∧ (x.2.length = tn ∧ tn ≤ 9223372036854775807 ∧ At w ta x.2 ∧ (ta = none → tc = 0)) := by
    intro i x hx
    obtain ⟨cs, h1, h2⟩ := hc i x hx
    obtain ⟨ta, tn, tc, rfl, u⟩ := RAtm.at_open h2
    exact ⟨ta, tn, tc, h1 0 _ rfl, h1 1 _ rfl, u⟩
  refine ⟨b, off, rfl, ?_, row⟩
  obtain ⟨ta, tn, tc, h1, _⟩ := row 0 xs[0] (List.getElem?_eq_getElem hp)
  exact World.block_lt_of_cell? _ _ h1

/-- What a query by value is. -/
theorem RQry.at_iff {w : World} {ha : Option Addr} {hn hc : Nat} {a : Option Addr} {n c : Nat} {x : Qry} (h : RQry.At w [.slice ha hn hc, .slice a n c] x) :
    (x.1.length = hn ∧ hn ≤ 9223372036854775807 ∧ At w ha x.1 ∧ (ha = none → hc = 0)) ∧ (x.2.length = n ∧ n ≤ 9223372036854775807 ∧ AtQ w a x.2 ∧ (a = none → c = 0)) := by
  obtain ⟨c1, c2, e, ⟨fa', fn', fc', rfl, t1, t2, t3, t4⟩, ⟨ta', tn', tc', rfl, u1, u2, u3, u4⟩⟩ := h
  simp only [List.cons_append, List.nil_append, List.cons.injEq, Value.slice.injEq, and_true] at e
  obtain ⟨⟨rfl, rfl, rfl⟩, rfl, rfl, rfl⟩ := e
  exact ⟨⟨t1, t2, atSl_int.1 t3, t4⟩, ⟨u1, u2, u3, u4⟩⟩
theorem RQry.at_open {w : World} {cs : List Value} {x : Qry} (h : RQry.At w cs x) : ∃ ha hn hc a n c, cs = [.slice ha hn hc, .slice a n c] := by
  obtain ⟨c1, c2, rfl, ⟨fa', fn', fc', rfl, _⟩, ⟨ta', tn', tc', rfl, _⟩⟩ := h
  exact ⟨_, _, _, _, _, _, rfl⟩
theorem RQry.own_mk {w : World} {F F1 F2 : Nat → Prop} {hs : List Int} {ats : List Atm} {fa : Option Addr} {fn fc : Nat} {ta : Option Addr} {tn tc : Nat}
    (h1 : RInts.Own w F1 [.slice fa fn fc] hs) (h2 : RAtms.Own w F2 [.slice ta tn tc] ats) (f1 : ∀ b, F1 b → F b) (f2 : ∀ b, F2 b → F b) (d12 : ∀ b, F1 b → ¬ F2 b) : RQry.Own w F [.slice fa fn fc, .slice ta tn tc] (hs, ats) :=
  ⟨[_], [_], F1, F2, rfl, h1, h2, f1, f2, d12⟩
theorem RQry.own_open {w : World} {F : Nat → Prop} {fa : Option Addr} {fn fc : Nat} {ta : Option Addr} {tn tc : Nat} {x : Qry} (h : RQry.Own w F [.slice fa fn fc, .slice ta tn tc] x) : ∃ F1 F2,
    RInts.Own w F1 [.slice fa fn fc] x.1 ∧ RAtms.Own w F2 [.slice ta tn tc] x.2 ∧ (∀ b, F1 b → F b) ∧ (∀ b, F2 b → F b) ∧ (∀ b, F1 b → ¬ F2 b) := by
  obtain ⟨c1, d1, F1, F2, e, h1, h2, a1, a2, a3⟩ := h
  obtain ⟨ta', tn', tc', tcells, tG, rfl, tl⟩ := h1
  obtain ⟨ca, cn, cc, ccells, cG, rfl, cl⟩ := h2
  simp only [List.cons_append, List.nil_append, List.cons.injEq, Value.slice.injEq, and_true] at e
  obtain ⟨⟨rfl, rfl, rfl⟩, rfl, rfl, rfl⟩ := e
  exact ⟨F1, F2, ⟨_, _, _, tcells, tG, rfl, tl⟩, ⟨_, _, _, ccells, cG, rfl, cl⟩, a1, a2, a3⟩
theorem atms_at {w : World} {F : Nat → Prop} {a : Option Addr} {n c : Nat} {xs : List Atm} (h : RAtms.Own w F [.slice a n c] xs) : xs.length = n ∧ AtQ w a xs := by
  obtain ⟨a', n', c', e, h1, _, h3, _⟩ := RAtms.toAt h
  simp only [List.cons.injEq, Value.slice.injEq, and_true] at e
  obtain ⟨rfl, rfl, rfl⟩ := e
  exact ⟨h1, h3⟩
theorem qry_at {w : World} {F : Nat → Prop} {fa : Option Addr} {fn fc : Nat} {ta : Option Addr} {tn tc : Nat} {x : Qry} (h : RQry.Own w F [.slice fa fn fc, .slice ta tn tc] x) : At w fa x.1 ∧ AtQ w ta x.2 :=
  ⟨(RQry.at_iff (RQry.toAt h)).1.2.2.1, (RQry.at_iff (RQry.toAt h)).2.2.2.1⟩

end Go.Proofs.Ytociphdhkjoofaa
