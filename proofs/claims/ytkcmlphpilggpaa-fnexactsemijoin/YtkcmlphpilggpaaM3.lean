/- Several texts of one proof, in build order: IntS, RowH, TableH, Rows1, RngS. -/
import Derived.Test.YtkcmlphpilggpaaRows
import Derived.Test.YtkcmlphpilggpaaM1
import Derived.Test.YtkcmlphpilggpaaM2
import Derived.WalkKit
import Derived.OwnWalkIn
import Derived.TacticsInMore
import Derived.LoopNIn
import Derived.LoopIn
import Derived.OrdersIn

/- Contracts of the laws' helpers over slices of ints: szIntS, toIntS, eqIntS. -/
namespace Go.Proofs.Ytkcmlphpilggpaa
open Go.RowKit

theorem Try.infoInt : (Try.prog.info? 3).map (fun i => (i.zero, i.size, i.bytes)) = some (some (.int .i64 0), 1, 8) := by kernel_rfl

theorem szIntS_any (a : Option Addr) (n c : Nat) (l : Int) (w : World) (hn : n ≤ 9223372036854775807) (h0 : 0 ≤ l) (h1 : l ≤ 1048576) :
    Calls Try.prog 26 #[.slice a n c, .int .i64 l] w fun e w' => e = .returned (.int .i64 (if l < n then -1 else l - n)) ∧ w' = w := by
  by_cases h : l < n
  · have h' : l - (n : Int) < 0 := by omega
    go_enter Try.func26, Try.ntmps26
    go_wp2
    go_ret
    exact ⟨by simp, rfl⟩
  · have h' : ¬ l - (n : Int) < 0 := by omega
    go_enter Try.func26, Try.ntmps26
    go_wp2
    go_ret
    exact ⟨by simp, rfl⟩

set_option maxHeartbeats 400000 in
theorem toIntS_any (a : Option Addr) (n c : Nat) (zs : List Int) (w : World) (hz : zs.length = n) (hn : n ≤ 1048576) (ha : At w a zs) :
    Calls Try.prog 8 #[.slice a n c] w fun e w' => e = .returned (.slice (some ⟨w.heap.size, 0, none⟩) n n) ∧
      w'.ownsRow w.heap.size 3 1 (.slice (some ⟨w.heap.size, 0, none⟩) n n) n (zs.map (.int .i64)) ∧ Below w.heap.size w w' := by
  obtain ⟨i0, hi, hz0, hz1, hz2⟩ := info_parts Try.infoInt
  have key : n = 0 ∨ ∃ b off, a = some ⟨b, off, none⟩ ∧ ∀ i, i < n → w.cell? ⟨b, off + i, none⟩ = some (.int .i64 (zs.getD i 0)) := by
    rcases ha with rfl | h
    · exact .inl (by simpa using hz.symm)
    · exact .inr (by rw [← hz]; exact h)
  clear ha
  rcases key with rfl | ⟨b, off, rfl, hc⟩
  · go_enter Try.func8, Try.ntmps8
    go_wp2_with (at_make; refine wpList_make_full _ rfl _ _ 22 rfl w.heap.size 3 i0 (.int .i64 0) 1 Try.underlying22 hi hz0 hz1 .i64 .i64 _ _ 0 rfl rfl rfl rfl (by simp) (by simp) (Nat.le_refl _) ?_; intro w1 hown hg)
    refine wp_loop_rounds 1 ?_
    rw [rounds_succ]
    go_wp2
    go_ret
    obtain rfl : zs = [] := List.eq_nil_of_length_eq_zero hz
    exact ⟨rfl, by simpa [madeCells] using hown, (Below.refl _ _).grown hg (Nat.le_refl _) (by simp)⟩
  · have hb : 0 < n → b < w.heap.size := fun h => World.block_lt_of_cell? w _ (hc 0 h)
    go_enter Try.func8, Try.ntmps8
    go_wp2_with (at_make; refine wpList_make_full _ rfl _ _ 22 rfl w.heap.size 3 i0 (.int .i64 0) 1 Try.underlying22 hi hz0 hz1 .i64 .i64 _ _ n rfl rfl rfl rfl (by rw [hz2]; omega) (by unfold maxLen; omega) (Nat.le_refl _) ?_; intro w1 hown hg)
    have hb1 : Below w.heap.size w w1 := (Below.refl _ _).grown hg (Nat.le_refl _) (by simp)
    have hs0 : (madeCells (Value.int .i64 0).cells (n * 1)).toList.length = zs.length := by simp [madeCells, hz]
    have hu0 := Upto.zero hs0
    obtain ⟨cs, hcs⟩ : ∃ cs, cs = (madeCells (Value.int .i64 0).cells (n * 1)).toList := ⟨_, rfl⟩
    rw [← hcs] at hown hu0
    clear hcs hs0 hg
    go_loopw [4] (fun i wr => ∃ (k : Nat) (cs : List Value), k ≤ n ∧ i = .int .i64 k ∧ Upto cs zs k ∧ wr.ownsRow w.heap.size 3 1 (.slice (some ⟨w.heap.size, 0, none⟩) n n) n cs ∧ Below w.heap.size w wr) (fun i _ => n - (intOf i).toNat)
    case atStart => exact ⟨0, cs, Nat.zero_le _, rfl, hu0, hown, hb1⟩
    case round =>
      clear hown hu0 hb1 cs
      obtain ⟨k, cs, hk, rfl, hu, hown, hbw⟩ := hrel
      by_cases hlt : k < n
      · have hcx : wr.cell? ⟨b, off + k, none⟩ = some (.int .i64 (zs.getD k 0)) := (hbw.cell (hb (by omega))).trans (hc k hlt)
        obtain ⟨u, hu'⟩ : ∃ u, cs[k]? = some u := ⟨_, List.getElem?_eq_getElem (by have := hu.1; omega)⟩
        have hco : wr.cell? ⟨w.heap.size, k, none⟩ = some u := (hown.cellAt k (by omega)).trans hu'
        have hfo : wr.frozen? ⟨w.heap.size, k, none⟩ = false := hown.frozenAt k
        have hst := hown.stored k (.int .i64 (zs.getD k 0))
        have HU : Hid (Upto (cs.set k (.int .i64 (zs.getD k 0))) zs (k + 1)) := hu.set (by omega)
        have HO : Hid ((wr.setCell ⟨w.heap.size, k, none⟩ (.int .i64 (zs.getD k 0))).ownsRow w.heap.size 3 1 (.slice (some ⟨w.heap.size, 0, none⟩) n n) n (cs.set k (.int .i64 (zs.getD k 0)))) := hst.1
        have HB : Hid (Below w.heap.size w (wr.setCell ⟨w.heap.size, k, none⟩ (.int .i64 (zs.getD k 0)))) := hbw.setCell (Nat.le_refl _) _
        clear hst hu' hown hu hbw
        obtain ⟨x, hx⟩ : ∃ x, x = zs.getD k 0 := ⟨_, rfl⟩
        rw [← hx] at hcx HU HO HB
        clear hx
        go_wp2
        go_roundw
        case rel => exact ⟨k + 1, _, by omega, by go_num, HU.out, HO.out, HB.out⟩
        case measure => simp [intOf]; omega
      · go_wp2
        go_ret
        rw [hu.all (by omega)] at hown
        exact ⟨rfl, hown, hbw⟩

set_option maxHeartbeats 400000 in
theorem eqIntS_any (a a' : Option Addr) (n n' c c' : Nat) (zs zs' : List Int) (w : World) (hz : zs.length = n) (hz' : zs'.length = n') (hn : n ≤ 1048576) (hn' : n' ≤ 1048576) (ha : At w a zs) (ha' : At w a' zs') :
    Calls Try.prog 11 #[.slice a n c, .slice a' n' c'] w fun e w' => e = .returned (.bool (decide (zs = zs'))) ∧ Below w.heap.size w w' := by
  by_cases hnn : n = n'
  · subst hnn
    by_cases h0 : n = 0
    · subst h0
      obtain rfl := List.eq_nil_of_length_eq_zero hz
      obtain rfl := List.eq_nil_of_length_eq_zero hz'
      go_enter Try.func11, Try.ntmps11
      go_wp2
      refine wp_loop_rounds 1 ?_
      rw [rounds_succ]
      go_wp2
      go_ret
      exact ⟨by simp, Below.refl _ _⟩
    · obtain ⟨b, off, rfl, hb, hc⟩ := ha.some (by omega)
      obtain ⟨b', off', rfl, hb', hc'⟩ := ha'.some (by omega)
      clear ha ha'
      go_enter Try.func11, Try.ntmps11
      go_wp2
      go_loopw [5] (fun i wr => ∃ (k : Nat), k ≤ n ∧ i = .int .i64 k ∧ zs.take k = zs'.take k ∧ Below w.heap.size w wr) (fun i _ => n - (intOf i).toNat)
      case atStart => exact ⟨0, Nat.zero_le _, rfl, rfl, Below.refl _ _⟩
      case round =>
        obtain ⟨k, hk, rfl, ht, hbw⟩ := hrel
        by_cases hlt : k < n
        · have hcx : wr.cell? ⟨b, off + k, none⟩ = some (.int .i64 (zs.getD k 0)) := (hbw.cell hb).trans (hc k (by omega))
          have hcy : wr.cell? ⟨b', off' + k, none⟩ = some (.int .i64 (zs'.getD k 0)) := (hbw.cell hb').trans (hc' k (by omega))
          have HT : Hid (zs.getD k 0 = zs'.getD k 0 → zs.take (k + 1) = zs'.take (k + 1)) := fun e => by
            rw [take_succ_getD zs k (by omega), take_succ_getD zs' k (by omega), ht, e]
          have HN : Hid (zs.getD k 0 ≠ zs'.getD k 0 → zs ≠ zs') := ne_of_getD
          obtain ⟨x, hx⟩ : ∃ x, x = zs.getD k 0 := ⟨_, rfl⟩
          obtain ⟨y, hy⟩ : ∃ y, y = zs'.getD k 0 := ⟨_, rfl⟩
          rw [← hx] at hcx HT HN
          rw [← hy] at hcy HT HN
          clear hx hy ht hc hc'
          go_wp2
          go_quiet (fail)
          go_wp2
          · have hne : x ≠ y := by simpa using ‹(x != y) = true›
            go_ret
            exact ⟨by simp [HN.out hne], below_drewN hbw _⟩
          · have he : x = y := by simpa using ‹(x != y) = false›
            go_roundw
            case rel => exact ⟨k + 1, by omega, by go_num, HT.out he, below_drewN hbw _⟩
            case measure => simp [intOf]; omega
        · go_wp2
          go_ret
          exact ⟨by simp [take_all_eq (by omega) (by omega) ht], hbw⟩
  · go_enter Try.func11, Try.ntmps11
    go_wp2
    go_ret
    exact ⟨by have : zs ≠ zs' := fun e => hnn (by rw [← hz, ← hz', e]); simp [this], Below.refl _ _⟩

set_option maxHeartbeats 400000 in
theorem markIntS_any (base : Nat) (a : Option Addr) (n c : Nat) (cs : List Value) (m : Int) (w : World) (hn : n ≤ 1048576) (h0 : 0 ≤ m) (h1 : m ≤ 1073741824) (hown : w.ownsRow base 3 1 (.slice a n c) n cs) :
    Calls Try.prog 13 #[.slice a n c, .int .i64 m] w fun e w' => e = .returned (.int .i64 (m + n)) ∧
      w'.ownsRow base 3 1 (.slice a n c) n ((marks m n).map (.int .i64)) ∧ w.grownBy w' (Value.slice a n c).ownBlock := by
  rcases hown.2 with ⟨hv, h00⟩ | ⟨g, cap, cur, hv, hjunk⟩
  · simp only [Value.slice.injEq] at hv
    obtain ⟨rfl, rfl, rfl⟩ := hv
    go_enter Try.func13, Try.ntmps13
    go_wp2
    refine wp_loop_rounds 1 ?_
    rw [rounds_succ]
    go_wp2
    go_ret
    exact ⟨by simp, by simpa [marks] using World.ownsRow_nil w base 3 1, World.grownBy.refl _ _⟩
  · simp only [Value.slice.injEq, true_and] at hv
    obtain ⟨rfl, rfl⟩ := hv
    clear hjunk
    have hu0 := Upto.zero (cs := cs) (zs := marks m n) (by rw [marks_length]; simpa using hown.1)
    go_enter Try.func13, Try.ntmps13
    go_wp2
    go_loopw [1, 5] (fun q i wr => ∃ (k : Nat) (cs : List Value), k ≤ n ∧ i = .int .i64 k ∧ q = .int .i64 (m + k) ∧ Upto cs (marks m n) k ∧ wr.ownsRow base 3 1 (.slice (some ⟨g, 0, none⟩) n c) n cs ∧ w.grownBy wr (some g)) (fun _ i _ => n - (intOf i).toNat)
    case atStart => exact ⟨0, cs, Nat.zero_le _, rfl, by simp, hu0, hown, World.grownBy.refl _ _⟩
    case round =>
      clear hown hu0 cs
      obtain ⟨k, cs, hk, rfl, rfl, hu, hown, hbw⟩ := hrel
      by_cases hlt : k < n
      · obtain ⟨u, hu'⟩ : ∃ u, cs[k]? = some u := ⟨_, List.getElem?_eq_getElem (by have := hu.1; rw [marks_length] at this; omega)⟩
        have hco : wr.cell? ⟨g, k, none⟩ = some u := (hown.cellAt k (by omega)).trans hu'
        have hfo : wr.frozen? ⟨g, k, none⟩ = false := hown.frozenAt k
        have hst := hown.stored k (.int .i64 (m + k))
        have hset := hu.set (by rw [marks_length]; omega)
        rw [marks_getD m n k hlt] at hset
        have HU : Hid (Upto (cs.set k (.int .i64 (m + k))) (marks m n) (k + 1)) := hset
        have HO : Hid ((wr.setCell ⟨g, k, none⟩ (.int .i64 (m + k))).ownsRow base 3 1 (.slice (some ⟨g, 0, none⟩) n c) n (cs.set k (.int .i64 (m + k)))) := hst.1
        have HB : Hid (w.grownBy (wr.setCell ⟨g, k, none⟩ (.int .i64 (m + k))) (some g)) :=
          ⟨hst.2.os.trans hbw.os, hst.2.tape.trans hbw.tape, hst.2.output.trans hbw.output, Nat.le_trans hbw.size hst.2.size, fun j hj hne => (hst.2.block j (Nat.lt_of_lt_of_le hj hbw.size) hne).trans (hbw.block j hj hne)⟩
        clear hst hu' hown hu hbw hset
        go_wp2
        go_roundw
        case rel => exact ⟨k + 1, _, by omega, by go_num, by go_num, HU.out, HO.out, HB.out⟩
        case measure => simp [intOf]; omega
      · go_wp2
        go_ret
        rw [hu.all (by rw [marks_length]; omega)] at hown
        obtain rfl : k = n := by omega
        exact ⟨rfl, hown, hbw⟩

set_option maxHeartbeats 400000 in
theorem heldIntS_any (a : Option Addr) (n c : Nat) (m : Int) (w : World) (hn : n ≤ 1048576) (h0 : 0 ≤ m) (h1 : m ≤ 1073741824) (ha : At w a (marks m n)) :
    Calls Try.prog 38 #[.slice a n c, .int .i64 m] w fun e w' => e = .returned (.int .i64 (m + n)) ∧ w' = w := by
  by_cases hz : n = 0
  · subst hz
    go_enter Try.func38, Try.ntmps38
    go_wp2
    refine wp_loop_rounds 1 ?_
    rw [rounds_succ]
    go_wp2
    go_ret
    exact ⟨by simp, rfl⟩
  · obtain ⟨b, off, rfl, hb, hc⟩ := ha.some (by rw [marks_length]; omega)
    clear ha
    go_enter Try.func38, Try.ntmps38
    go_wp2
    go_loop [1, 5] (fun q i => ∃ (k : Nat), k ≤ n ∧ i = .int .i64 k ∧ q = .int .i64 (m + k)) (fun _ i => n - (intOf i).toNat)
    case atStart => exact ⟨0, Nat.zero_le _, rfl, by simp⟩
    case round =>
      obtain ⟨k, hk, rfl, rfl⟩ := hrel
      by_cases hlt : k < n
      · have hcx := hc k (by rw [marks_length]; omega)
        rw [marks_getD m n k hlt] at hcx
        clear hc
        go_wp2
        go_round
        case rel => exact ⟨k + 1, by omega, by go_num, by go_num⟩
        case measure => simp [intOf]; omega
      · go_wp2
        go_ret
        obtain rfl : k = n := by omega
        exact ⟨rfl, rfl⟩

theorem toIntS_at (a : Option Addr) (n c : Nat) (zs : List Int) (w : World) (hz : zs.length = n) (hn : n ≤ 1048576) (ha : At w a zs) :
    Calls Try.prog 8 #[.slice a n c] w fun e w' => ∃ g, e = .returned (.slice (some ⟨g, 0, none⟩) n n) ∧
      w'.ownsRow w.heap.size 3 1 (.slice (some ⟨g, 0, none⟩) n n) n (zs.map (.int .i64)) ∧ Below w.heap.size w w' :=
  (toIntS_any a n c zs w hz hn ha).mono fun _ _ ⟨h1, h2, h3⟩ => ⟨_, h1, h2, h3⟩
theorem heldIntS_any' (a : Option Addr) (n c : Nat) (m : Int) (w : World) (hn : n ≤ 1048576) (h0 : 0 ≤ m) (h1 : m ≤ 1073741824) (ha : At w a (marks m n)) :
    Calls Try.prog 38 #[.slice a n c, .int .i64 m] w fun e w' => e = .returned (.int .i64 (m + n)) ∧ Below w.heap.size w w' :=
  (heldIntS_any a n c m w hn h0 h1 ha).mono fun _ _ ⟨h1, h2⟩ => ⟨h1, h2 ▸ Below.refl _ _⟩

end Go.Proofs.Ytkcmlphpilggpaa

/- Contracts of the laws' helpers over rows: szRow, toRow, eqRow. -/
namespace Go.Proofs.Ytkcmlphpilggpaa
open Go.RowKit

theorem szRow_any (a : Option Addr) (n c : Nat) (l : Int) (w : World) (hn : n ≤ 9223372036854775807) (h0 : 0 ≤ l) (h1 : l ≤ 1048576) :
    Calls Try.prog 96 #[.agg #[.slice a n c], .int .i64 l] w fun e w' => e = .returned (.int .i64 (if l < n then -1 else l - n)) ∧ Below w.heap.size w w' := by
  by_cases h : l < n
  · go_enter Try.func96, Try.ntmps96
    go_wp2_with (go_at_call 26; refine (szIntS_any _ _ _ _ _ hn h0 h1).mono ?_; rintro e w' ⟨rfl, rfl⟩; rw [if_pos h])
    go_ret
    exact ⟨by simp, (Below.refl _ _).alloc (Nat.le_refl _) _⟩
  · have h' : ¬ l - (n : Int) < 0 := by omega
    go_enter Try.func96, Try.ntmps96
    go_wp2_with (go_at_call 26; refine (szIntS_any _ _ _ _ _ hn h0 h1).mono ?_; rintro e w' ⟨rfl, rfl⟩; rw [if_neg h])
    go_ret
    exact ⟨by simp, (Below.refl _ _).alloc (Nat.le_refl _) _⟩

theorem toRow_any (a : Option Addr) (n c : Nat) (zs : List Int) (w : World) (hz : zs.length = n) (hn : n ≤ 1048576) (ha : At w a zs) :
    Calls Try.prog 97 #[.agg #[.slice a n c]] w fun e w' => ∃ g, e = .returned (.agg #[.slice (some ⟨g, 0, none⟩) n n]) ∧
      w'.ownsRow w.heap.size 3 1 (.slice (some ⟨g, 0, none⟩) n n) n (zs.map (.int .i64)) ∧ Below w.heap.size w w' := by
  go_enter Try.func97, Try.ntmps97
  go_wp2_with (go_at_call 8; refine (toIntS_any _ _ _ zs _ hz hn ?_).mono ?_)
  · exact ((ha.alloc _).alloc _).alloc _
  · rintro e w' ⟨rfl, hown, hb⟩
    obtain ⟨hc, hf⟩ := bcell hb
    have hz' : w.heap.size + 2 < w'.heap.size := by have := hb.size; simp at this; omega
    simp only [World.size_alloc] at hc hf
    go_wp2
    refine bodyPost_ret (v := .agg #[.slice (some ⟨w.heap.size + 1 + 1 + 1, 0, none⟩) n n]) (by simp [results, Try.results97, go_sem, hc]) rfl ⟨_, rfl, ?_, ?_⟩
    · simp only [World.size_alloc] at hown
      exact owns_mono (ownsRow_setCell_below (ownsRow_setCell_below hown (by simp) _) (by simp) _) (by omega)
    · exact ((((((Below.refl _ _).alloc (Nat.le_refl _) _).alloc (by simp) _).alloc (by simp; omega) _).trans (hb.mono (by simp; omega))).setCell (by simp; omega) _).setCell (by simp) _

theorem eqRow_any (a a' : Option Addr) (n n' c c' : Nat) (zs zs' : List Int) (w : World) (hz : zs.length = n) (hz' : zs'.length = n') (hn : n ≤ 1048576) (hn' : n' ≤ 1048576) (ha : At w a zs) (ha' : At w a' zs') :
    Calls Try.prog 105 #[.agg #[.slice a n c], .agg #[.slice a' n' c']] w fun e w' => e = .returned (.bool (decide (zs = zs'))) ∧ Below w.heap.size w w' := by
  have HA := (ha.alloc (.cells #[.slice a n c] 97)).alloc (.cells #[.slice a' n' c'] 97)
  have HA' := (ha'.alloc (.cells #[.slice a n c] 97)).alloc (.cells #[.slice a' n' c'] 97)
  clear ha ha'
  have hd : ∀ d : Bool, decide (zs = zs') = d → Calls Try.prog 105 #[.agg #[.slice a n c], .agg #[.slice a' n' c']] w fun e w' => e = .returned (.bool d) ∧ Below w.heap.size w w' := by
    intro d hd
    have HD : Hid (decide (zs = zs') = d) := hd
    clear hd
    cases d
    all_goals
      go_enter Try.func105, Try.ntmps105
      go_wp2_with (go_at_call 11; refine (eqIntS_any _ _ _ _ _ _ zs zs' _ hz hz' hn hn' HA HA').mono ?_; rintro e w' ⟨rfl, hb⟩; rw [HD.out])
      go_ret
      exact ⟨rfl, (((Below.refl _ _).alloc (Nat.le_refl _) _).alloc (by simp) _).trans (hb.mono (by simp; omega))⟩
  exact hd _ rfl

end Go.Proofs.Ytkcmlphpilggpaa

/- Contracts of the laws' helpers over weighted rows: szWeighted, szWeightedS, szTable, toWeighted, toWeightedS, toTable. -/
namespace Go.Proofs.Ytkcmlphpilggpaa
open Go.RowKit

theorem szWeighted_any (a : Option Addr) (n c : Nat) (x l : Int) (w : World) (hn : n ≤ 9223372036854775807) (h0 : 0 ≤ l) (h1 : l ≤ 1048576) :
    Calls Try.prog 67 #[.agg #[.slice a n c, .int .i64 x], .int .i64 l] w fun e w' => e = .returned (.int .i64 (if l < n then -1 else l - n)) ∧ Below w.heap.size w w' := by
  by_cases h : l < n
  · go_enter Try.func67, Try.ntmps67
    go_wp2_with fail
    refine (szRow_any _ _ _ _ _ hn h0 h1).mono ?_
    rintro e w' ⟨rfl, hb⟩
    rw [if_pos h]
    go_wp2
    go_ret
    exact ⟨by simp, ((Below.refl _ _).alloc (Nat.le_refl _) _).trans (hb.mono (by simp))⟩
  · have h' : ¬ l - (n : Int) < 0 := by omega
    go_enter Try.func67, Try.ntmps67
    go_wp2_with fail
    refine (szRow_any _ _ _ _ _ hn h0 h1).mono ?_
    rintro e w' ⟨rfl, hb⟩
    rw [if_neg (by omega)]
    go_wp2
    go_ret
    exact ⟨by simp, ((Below.refl _ _).alloc (Nat.le_refl _) _).trans (hb.mono (by simp))⟩

/-- What szWeightedS takes: a slot a row, and the rows' cells. -/
theorem wtot_cells (ts : List WRow) (k : Nat) (h : k ≤ ts.length) : ∃ s : Nat, wtot ts k = k + s := ⟨wtot ts k - k, by have := wtot_len ts k h; omega⟩

set_option maxHeartbeats 1000000 in
theorem szWeightedS_any (a : Option Addr) (n c : Nat) (ts : List WRow) (l : Int) (w : World) (hz : ts.length = n) (hn : n ≤ 9223372036854775807) (h0 : 0 ≤ l) (h1 : l ≤ 1048576) (ha : AtW w a ts) :
    Calls Try.prog 40 #[.slice a n c, .int .i64 l] w fun e w' => e = .returned (.int .i64 (leftOf l (wtot ts n))) ∧ Below w.heap.size w w' := by
  have hle := wtot_len ts n (by omega)
  by_cases hb : l < n
  · have h' : l - (n : Int) < 0 := by omega
    go_enter Try.func40, Try.ntmps40
    go_wp2
    go_ret
    exact ⟨ret_int (leftOf_no (by omega)).symm, Below.refl _ _⟩
  · have h' : ¬ l - (n : Int) < 0 := by omega
    by_cases hn0 : n = 0
    · subst hn0
      have ht : wtot ts 0 = 0 := rfl
      go_enter Try.func40, Try.ntmps40
      go_wp2
      refine wp_loop_rounds 1 ?_
      rw [rounds_succ]
      go_wp2
      go_ret
      exact ⟨ret_int (by rw [ht, leftOf_yes (by omega)]; omega), Below.refl _ _⟩
    · go_enter Try.func40, Try.ntmps40
      go_wp2
      go_loopw [1, 5] (fun q i wr => ∃ (k : Nat) (r : Int), k ≤ n ∧ i = .int .i64 k ∧ q = .int .i64 r ∧ 0 ≤ r ∧ r ≤ 1048576 ∧ r + wtot ts k - k = l - n ∧ Below w.heap.size w wr) (fun _ i _ => n - (intOf i).toNat)
      case atStart => exact ⟨0, l - n, Nat.zero_le _, rfl, rfl, by omega, by omega, by rw [wtot_zero]; omega, Below.refl _ _⟩
      case round =>
        obtain ⟨k, r, hk, rfl, rfl, hr0, hr1, hr, hbw⟩ := hrel
        by_cases hlt : k < n
        · obtain ⟨b, off, rfl, hc⟩ := (ha.below hbw).some (by omega)
          obtain ⟨a', c', hcx, hcw, hm, hat⟩ := hc k (by omega)
          have hts := wtot_succ ts k (by omega)
          have htm := wtot_mono ts (k + 1) n (by omega)
          have htl : n - (k + 1) ≤ wtot ts n - wtot ts (k + 1) := by
            have : ∀ d, k + 1 + d ≤ n → d ≤ wtot ts (k + 1 + d) - wtot ts (k + 1) ∧ wtot ts (k + 1) ≤ wtot ts (k + 1 + d) := by
              intro d
              induction d with
              | zero => intro _; simp
              | succ d ih => intro h; have := ih (by omega); rw [show k + 1 + (d + 1) = (k + 1 + d) + 1 from rfl, wtot_succ ts _ (by omega)]; omega
            have := this (n - (k + 1)) (by omega)
            rw [show k + 1 + (n - (k + 1)) = n by omega] at this
            omega
          obtain ⟨m, hmm⟩ : ∃ m, m = (wat ts k).1.length := ⟨_, rfl⟩
          rw [← hmm] at hcx hm hts
          obtain ⟨x, hxx⟩ : ∃ x, x = (wat ts k).2 := ⟨_, rfl⟩
          rw [← hxx] at hcw
          have HR := Hid.mk hr
          have HT := Hid.mk hts
          have HL := Hid.mk htl
          have hki : (k : Int) < (n : Int) := by omega
          clear hmm hxx hat hc hr hts ha htl
          by_cases hfit : r < m
          · go_wp2_with fail
            refine (szWeighted_any _ _ _ _ _ _ hm hr0 hr1).mono ?_
            rintro e w' ⟨rfl, hb'⟩
            rw [if_pos hfit]
            go_wp2
            go_ret
            exact ⟨ret_int (leftOf_no (by have := HR.out; have := HT.out; have := HL.out; omega)).symm, hbw.trans (hb'.mono hbw.size)⟩
          · have hd : ¬ r - (m : Int) < 0 := by omega
            go_wp2_with fail
            refine (szWeighted_any _ _ _ _ _ _ hm hr0 hr1).mono ?_
            rintro e w' ⟨rfl, hb'⟩
            rw [if_neg (by omega)]
            go_wp2
            go_roundw
            case rel => exact ⟨k + 1, r - m, by omega, by go_num, rfl, by omega, by omega, by have := HR.out; have := HT.out; omega, hbw.trans (hb'.mono hbw.size)⟩
            case measure => simp [intOf]; omega
        · obtain rfl : k = n := by omega
          have HR := Hid.mk hr
          clear hr
          go_wp2
          go_ret
          exact ⟨ret_int (by have := HR.out; rw [leftOf_yes (by omega)]; omega), hbw⟩

theorem szTable_any (a : Option Addr) (n c : Nat) (ts : List WRow) (p l : Int) (w : World) (hz : ts.length = n) (hn : n ≤ 9223372036854775807) (h0 : 0 ≤ l) (h1 : l ≤ 1048576) (ha : AtW w a ts) :
    Calls Try.prog 15 #[.agg #[.int .i64 p, .slice a n c], .int .i64 l] w fun e w' => e = .returned (.int .i64 (leftOf l (wtot ts n))) ∧ Below w.heap.size w w' := by
  have HA := ha.alloc (.cells #[.int .i64 p, .slice a n c] 41)
  clear ha
  by_cases h : l < wtot ts n
  · go_enter Try.func15, Try.ntmps15
    go_wp2_with fail
    refine (szWeightedS_any _ _ _ ts _ _ hz hn h0 h1 HA).mono ?_
    rintro e w' ⟨rfl, hb⟩
    rw [leftOf_no h]
    go_wp2
    go_ret
    exact ⟨ret_int (leftOf_no h).symm, ((Below.refl _ _).alloc (Nat.le_refl _) _).trans (hb.mono (by simp))⟩
  · have h' : ¬ l - (wtot ts n : Int) < 0 := by omega
    go_enter Try.func15, Try.ntmps15
    go_wp2_with fail
    refine (szWeightedS_any _ _ _ ts _ _ hz hn h0 h1 HA).mono ?_
    rintro e w' ⟨rfl, hb⟩
    rw [leftOf_yes (by omega)]
    go_wp2
    go_ret
    exact ⟨ret_int (leftOf_yes (by omega)).symm, ((Below.refl _ _).alloc (Nat.le_refl _) _).trans (hb.mono (by simp))⟩

theorem toWeighted_any (a : Option Addr) (n c : Nat) (zs : List Int) (x : Int) (w : World) (hz : zs.length = n) (hn : n ≤ 1048576) (ha : At w a zs) :
    Calls Try.prog 72 #[.agg #[.slice a n c, .int .i64 x]] w fun e w' => ∃ g, e = .returned (.agg #[.slice (some ⟨g, 0, none⟩) n n, .int .i64 x]) ∧
      w'.ownsRow w.heap.size 3 1 (.slice (some ⟨g, 0, none⟩) n n) n (zs.map (.int .i64)) ∧ Below w.heap.size w w' := by
  go_enter Try.func72, Try.ntmps72
  go_wp2_with fail
  refine (toRow_any _ _ _ zs _ hz hn ?_).mono ?_
  · exact ((ha.alloc _).alloc _).alloc _
  · rintro e w' ⟨g, rfl, hown, hb⟩
    obtain ⟨hc, hf⟩ := bcell hb
    have hz' : w.heap.size + 2 < w'.heap.size := by have := hb.size; simp at this; omega
    simp only [World.size_alloc] at hc hf
    go_wp2
    refine bodyPost_ret (v := .agg #[.slice (some ⟨g, 0, none⟩) n n, .int .i64 x]) (by simp [results, Try.results72, go_sem, hc]) rfl ⟨_, rfl, ?_, ?_⟩
    · simp only [World.size_alloc] at hown
      exact owns_mono (ownsRow_setCell_below (ownsRow_setCell_below (ownsRow_setCell_below (ownsRow_setCell_below hown (by simp) _) (by simp) _) (by simp) _) (by simp) _) (by omega)
    · exact ((((((((Below.refl _ _).alloc (Nat.le_refl _) _).alloc (by simp) _).alloc (by simp; omega) _).trans (hb.mono (by simp; omega))).setCell (by simp; omega) _).setCell (by simp; omega) _).setCell (by simp) _).setCell (by simp) _

theorem Try.infoW : (Try.prog.info? 99).map (fun i => (i.zero, i.size, i.bytes)) = some (some (.agg #[.slice none 0 0, .int .i64 0]), 2, 32) := by kernel_rfl

set_option maxHeartbeats 2000000 in
theorem toWeightedS_any (a : Option Addr) (n c : Nat) (ts : List WRow) (w : World) (hz : ts.length = n) (hn : n ≤ 1048576) (hs : ∀ i, i < n → (wat ts i).1.length ≤ 1048576) (ha : AtW w a ts) :
    Calls Try.prog 45 #[.slice a n c] w fun e w' => ∃ g cells, e = .returned (.slice (some ⟨g, 0, none⟩) n n) ∧ OwnW w' w.heap.size w'.heap.size 99 3 (some ⟨g, 0, none⟩) n n ts cells ∧ Below w.heap.size w w' := by
  obtain ⟨i0, hi, hz0, hz1, hz2⟩ := info_parts Try.infoW
  go_enter Try.func45, Try.ntmps45
  go_wp2_with (at_make; refine wpList_make_full _ rfl _ _ 45 rfl w.heap.size 99 i0 (.agg #[.slice none 0 0, .int .i64 0]) 2 Try.underlying45 hi hz0 hz1 .i64 .i64 _ _ n rfl rfl rfl rfl (by rw [hz2]; omega) (by unfold maxLen; omega) (Nat.le_refl _) ?_; intro w1 hown hg)
  have hb1 : Below w.heap.size w w1 := (Below.refl _ _).grown hg (Nat.le_refl _) (by simp)
  have hlt1 := (hown.lt w.heap.size rfl).2
  have hst : OwnWk w1 w.heap.size w1.heap.size 99 3 (some ⟨w.heap.size, 0, none⟩) n n ts _ 0 := OwnWk.start hz (Nat.le_refl _) hown (fun b hb => (hown.lt b hb).2)
  obtain ⟨cs, hcs⟩ : ∃ cs, cs = (madeCells (Value.agg #[.slice none 0 0, .int .i64 0]).cells (n * 2)).toList := ⟨_, rfl⟩
  rw [← hcs] at hst
  clear hcs hown hg
  go_loopw [4] (fun i wr => ∃ (k : Nat) (cells : List Value), k ≤ n ∧ i = .int .i64 k ∧ OwnWk wr w.heap.size wr.heap.size 99 3 (some ⟨w.heap.size, 0, none⟩) n n ts cells k ∧ w.heap.size < wr.heap.size ∧ Below w.heap.size w wr) (fun i _ => n - (intOf i).toNat)
  case atStart => exact ⟨0, cs, Nat.zero_le _, rfl, hst, hlt1, hb1⟩
  case round =>
    clear hst hb1 hlt1 cs
    obtain ⟨k, cells, hk, rfl, ho, hzr, hbw⟩ := hrel
    by_cases hlt : k < n
    · obtain ⟨b, off, rfl, hc⟩ := (ha.below hbw).some (by omega)
      obtain ⟨a', c', hcx, hcy, _, hat⟩ := hc k (by omega)
      have hsm := hs k (by omega)
      have hki : (k : Int) < (n : Int) := by omega
      have HO := Hid.mk ho
      obtain ⟨ys, hys⟩ : ∃ ys, ys = (wat ts k).1 := ⟨_, rfl⟩
      obtain ⟨x, hx⟩ : ∃ x, x = (wat ts k).2 := ⟨_, rfl⟩
      obtain ⟨m, hm⟩ : ∃ m, ys.length = m := ⟨_, rfl⟩
      rw [← hys, hm] at hcx hsm
      rw [← hys] at hat
      rw [← hx] at hcy
      have HYS := Hid.mk hys
      have HX := Hid.mk hx
      have HM := Hid.mk hm
      clear hys hm hx hc ha ho hs
      go_wp2_with fail
      refine (toWeighted_any a' _ c' ys _ _ HM.out hsm hat).mono ?_
      rintro e w2 ⟨g2, rfl, ho2, hb2⟩
      have hput := HO.out.put (m := m) (c' := m) (a' := some ⟨g2, 0, none⟩) hb2 hlt (by rw [← HYS.out]; exact HM.out) HX.out.symm (Nat.le_of_lt hzr) (by rw [← HYS.out]; exact ho2)
      have hout := (HO.out.below hb2).outer
      have hln := hout.1
      obtain ⟨u, hu⟩ : ∃ u, cells[k * 2]? = some u := ⟨_, List.getElem?_eq_getElem (by omega)⟩
      obtain ⟨u', hu'⟩ : ∃ u, cells[k * 2 + 1]? = some u := ⟨_, List.getElem?_eq_getElem (by omega)⟩
      have hco : w2.cell? ⟨w.heap.size, k * 2, none⟩ = some u := (hout.cellAt _ (by omega)).trans hu
      have hco' : w2.cell? ⟨w.heap.size, k * 2 + 1, none⟩ = some u' := (hout.cellAt _ (by omega)).trans hu'
      have hfo : w2.frozen? ⟨w.heap.size, k * 2, none⟩ = false := hout.frozenAt _
      have hfo' : w2.frozen? ⟨w.heap.size, k * 2 + 1, none⟩ = false := hout.frozenAt _
      have HP := Hid.mk hput
      have z2 := hb2.size
      have HB : Hid (Below w.heap.size w ((w2.setCell ⟨w.heap.size, k * 2, none⟩ (.slice (some ⟨g2, 0, none⟩) m m)).setCell ⟨w.heap.size, k * 2 + 1, none⟩ (.int .i64 x))) := ((hbw.trans (hb2.mono hbw.size)).setCell (Nat.le_refl _) _).setCell (Nat.le_refl _) _
      clear hput hout hln hu hu' hb2 hbw ho2 hcx hcy hat
      go_wp2
      go_roundw
      case rel => exact ⟨k + 1, _, by omega, by go_num, by simpa [World.setCell] using HP.out, by simp [World.setCell]; omega, HB.out⟩
      case measure => simp [intOf]; omega
    · obtain rfl : k = n := by omega
      go_wp2
      go_ret
      exact ⟨_, _, rfl, ho, hbw⟩

theorem toTable_any (a : Option Addr) (n c : Nat) (ts : List WRow) (p : Int) (w : World) (hz : ts.length = n) (hn : n ≤ 1048576) (hs : ∀ i, i < n → (wat ts i).1.length ≤ 1048576) (ha : AtW w a ts) :
    Calls Try.prog 18 #[.agg #[.int .i64 p, .slice a n c]] w fun e w' => ∃ g cells, e = .returned (.agg #[.int .i64 p, .slice (some ⟨g, 0, none⟩) n n]) ∧ OwnW w' w.heap.size w'.heap.size 99 3 (some ⟨g, 0, none⟩) n n ts cells ∧ Below w.heap.size w w' := by
  go_enter Try.func18, Try.ntmps18
  go_wp2_with fail
  refine (toWeightedS_any _ _ _ ts _ hz hn hs ?_).mono ?_
  · exact ((ha.alloc _).alloc _).alloc _
  · rintro e w' ⟨g, cells, rfl, hown, hb⟩
    obtain ⟨hc, hf⟩ := bcell hb
    have hz' : w.heap.size + 2 < w'.heap.size := by have := hb.size; simp at this; omega
    simp only [World.size_alloc] at hc hf
    go_wp2
    have ho := ((hown.setCell (a0 := ⟨w.heap.size + 1 + 1, 1, none⟩) (.inl (by simp)) (.slice (some ⟨g, 0, none⟩) n n)).setCell (a0 := ⟨w.heap.size + 1, 0, none⟩) (.inl (by simp)) (.int .i64 p)).setCell (a0 := ⟨w.heap.size + 1, 1, none⟩) (.inl (by simp)) (.slice (some ⟨g, 0, none⟩) n n)
    refine bodyPost_ret (v := .agg #[.int .i64 p, .slice (some ⟨g, 0, none⟩) n n]) (by simp [results, Try.results18, go_sem, hc]) rfl ⟨_, _, rfl, ho.widen (by simp; omega) (by simp [World.setCell]) (Nat.le_refl _), ?_⟩
    exact (((((((Below.refl _ _).alloc (Nat.le_refl _) _).alloc (by simp) _).alloc (by simp; omega) _).trans (hb.mono (by simp; omega))).setCell (by simp; omega) _).setCell (by simp) _).setCell (by simp) _

end Go.Proofs.Ytkcmlphpilggpaa

/- Contracts of impl.rowsOf and of the function that it hands back. -/
namespace Go.Proofs.Ytkcmlphpilggpaa
open Go.RowKit Go.Shelf

attribute [local go_sem] Oper.semAt_some

set_option maxRecDepth 100000 in
set_option maxHeartbeats 2000000 in
theorem rowsOf1_hands (T : Nat) (a : Option Addr) (n c : Nat) (ts : List WRow) (w : World) (hz : ts.length = n) (hn : n ≤ 1048576) (hT : w.cell? ⟨T, 1, none⟩ = some (.slice a n c)) (ha : AtM w a ts) :
    Hands Try.prog 101 #[.pointer (some ⟨T, 0, none⟩)] ts w := by
  intro n₀ l J W h1 h2 hb hJ hY h0
  refine callsIn_of_wp Try.func101 rfl trivial ?_
  simp only [Try.ntmps101, List.size_toArray, List.length_cons, List.length_nil, Nat.reduceAdd, Nat.reduceSub, Array.replicate_succ, Array.replicate_zero, List.push_toArray, List.append_toArray, List.nil_append, List.cons_append]
  have hTW := cell_later hb hT
  gi_wp2
  gi_loopw [8] (fun i wr => ∃ (k : Nat), k ≤ n ∧ i = .int .i64 k ∧ J k wr ∧ Apart n₀ W.heap.size W wr) (fun i _ => n - (intOf i).toNat)
  case atStart => exact ⟨0, Nat.zero_le _, rfl, h0, Apart.refl _ _ _⟩
  case round =>
    obtain ⟨k, hk, rfl, hj, hap⟩ := hrel
    by_cases hlt : k < n
    · have hbr : Below w.heap.size w wr := hb.trans (hap.below hb.size h1)
      obtain ⟨b, off, rfl, hc⟩ := ha.some (by omega)
      obtain ⟨q, dd, hcx0, hwx0, hm, hnil, hat0⟩ := hc k (by omega)
      have hfar : Far n₀ W.heap.size q (wat ts k).1 := hat0.far_low h1
      have hcx := cell_later hbr hcx0
      have hwx := cell_later hbr hwx0
      have hat := hat0.below hbr
      clear hcx0 hwx0 hat0
      have hki : (k : Int) < (n : Int) := by omega
      obtain ⟨V, hV⟩ : ∃ V, V = wr.alloc (.cells #[.slice q (wat ts k).1.length dd, .int .i64 (wat ts k).2] 99) := ⟨_, rfl⟩
      have hbV : Below wr.heap.size wr V := by rw [hV]; exact (Below.refl _ _).alloc (Nat.le_refl _) _
      have c3 : V.cell? ⟨wr.heap.size, 0, none⟩ = some (.slice q (wat ts k).1.length dd) := by rw [hV]; exact pair0 wr _ _ _
      have c4 : V.cell? ⟨wr.heap.size, 1, none⟩ = some (.int .i64 (wat ts k).2) := by rw [hV]; exact pair1 wr _ _ _
      have zV : W.heap.size ≤ V.heap.size := Nat.le_trans hap.size hbV.size
      obtain ⟨fn, tmps, assign, body, hy, hR⟩ := hY k V q _ dd (by omega) (hJ k wr V (hbV.mono hap.size) hj) zV rfl hnil (hat.below hbV) hfar
      have hapV : Apart n₀ W.heap.size W V := hap.trans ⟨hbV.os, hbV.tape, hbV.output, hbV.size, fun i hi _ => hbV.block i hi⟩
      generalize wat ts k = Y at *
      obtain ⟨ys, x⟩ := Y
      simp only at hcx hwx hm hat c3 c4 hy hV
      generalize ys.length = m at *
      subst hV
      gi_wp2
      refine ⟨rfl, hR.mono ?_⟩
      rintro e W3 ⟨rfl, hJ3, hap3⟩
      have HA3 := Hid.mk (hapV.trans hap3)
      have HJ3 := Hid.mk hJ3
      clear hJ3 hap3 hapV hR hy hcx hwx c3 c4 hat hap hj hc
      gi_wp2
      go_roundw
      case rel => exact ⟨k + 1, by omega, by go_num, HJ3.out, HA3.out⟩
      case measure => simp [intOf]; omega
    · obtain rfl : k = n := by omega
      gi_wp2
      go_end0
      rw [hz]
      exact ⟨⟨_, rfl⟩, hj, hap⟩

theorem rowsOf_any (a : Option Addr) (n c : Nat) (p : Int) (w : World) :
    Calls Try.prog 82 #[.agg #[.int .i64 p, .slice a n c]] w fun e w' => e = .returned (.func (.func 101) #[] #[.pointer (some ⟨w.heap.size, 0, none⟩)]) ∧ w' = w.alloc (.cells #[.int .i64 p, .slice a n c] 47) := by
  go_enter Try.func82, Try.ntmps82
  go_wp2
  go_ret
  exact ⟨rfl, rfl⟩

end Go.Proofs.Ytkcmlphpilggpaa

/- A region that draws its order, within a round: as everywhere, where no operation of it is a 'defer'. -/
namespace Go.Proofs.Ytkcmlphpilggpaa
open Go.RowKit Go.Shelf

section
variable {P : Program} {ops : Array Oper} {Q : Exit → Act → World → Prop} {md : Region.Mode}

theorem opIn_round {F : Fence} {n l i : Nat} {K : Act → World → Prop} {a : Act} {w : World} (hro : F.round = none) (hnd : ∀ (i : Nat) (o : Oper), ops[i]? = some o → ∀ c, o.op ≠ .defer c)
    (h : wpOpIn F n P ops Q i K a w) : wpOpIn (F.inRound l) n P ops Q i K a w := by
  unfold wpOpIn at *
  cases ho : ops[i]? with
  | none => simpa [ho] using h
  | some o =>
    simp only [ho] at h ⊢
    split
    · rename_i hw
      simp only [hw, if_true] at h
      obtain ⟨h1, h2⟩ := h
      refine ⟨h1, ?_⟩
      have e1 : Oper.semAt (F.inRound l).round a.eval o = execOp a.eval o := Oper.semAt_some l a.eval o (hnd i o ho)
      have e2 : Oper.semAt F.round a.eval o = execOp a.eval o := by rw [hro]; rfl
      rw [e1]
      rw [e2] at h2
      exact h2
    · rename_i hw
      simp only [hw] at h
      exact h

theorem anyIn_round {F : Fence} {n l : Nat} (hro : F.round = none) (hnd : ∀ (i : Nat) (o : Oper), ops[i]? = some o → ∀ c, o.op ≠ .defer c) : ∀ (fuel : Nat) (listed : Array Bool) (a : Act) (w : World),
    wpAnyIn F n P md ops Q fuel listed a w → wpAnyIn (F.inRound l) n P md ops Q fuel listed a w
  | 0, _, _, _, h => h
  | fuel + 1, _, _, _, h => ⟨h.1, fun i hi => opIn_round hro hnd (wpOpIn_mono (fun a' w' h' => anyIn_round hro hnd fuel _ a' w' h') (h.2 i hi))⟩

/-- No operation is a 'defer'. -/
def noDefer (ops : Array Oper) : Bool := ops.toList.all fun o => match o.op with | .defer _ => false | _ => true
theorem noDefer_spec (h : noDefer ops = true) : ∀ (i : Nat) (o : Oper), ops[i]? = some o → ∀ c, o.op ≠ .defer c := fun i o ho c e => by
  have := List.all_eq_true.1 h o (by rw [Array.mem_toList_iff]; exact Array.mem_of_getElem? ho)
  rw [e] at this
  cases this

theorem region_round {id l : Nat} {a : Act} {w : World} (hm : P.follows .mixedOrders = true) (hnd : noDefer ops = true)
    (h : wpAnyIn Fence.wide 0 P .any ops Q ops.size (Array.replicate ops.size false) a w.drew) : (Code.region id ops true).wpIn (Fence.wide.inRound l) 0 P Q a w :=
  wpIn_region_any hm (anyIn_round rfl (noDefer_spec hnd) _ _ _ _ h)
end
end Go.Proofs.Ytkcmlphpilggpaa
