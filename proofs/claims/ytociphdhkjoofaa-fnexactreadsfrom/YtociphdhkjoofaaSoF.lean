/- Source: 2 numbers each; slices of them; contracts of the laws' helpers over these. -/
import Derived.Test.YtociphdhkjoofaaFlt
import Derived.Test.YtociphdhkjoofaaIntS
import Derived.Test.YtociphdhkjoofaaRows
import Derived.Deep.RegionHeld3
namespace Go.Proofs.Ytociphdhkjoofaa
open Go.RowKit

abbrev TSource := Int × Int
def enSource (x : TSource) : List Int := [x.1, x.2]
def deSource (l : List Int) : TSource := (l.getD 0 0, l.getD 1 0)
theorem enSource_len (x : TSource) : (enSource x).length = 2 := rfl
theorem deSource_en (l : List Int) (h : l.length = 2) : enSource (deSource l) = l := by
  match l, h with
  | [x0, x1], _ => rfl
abbrev RSource : Rep TSource := Rep.flat 2 enSource enSource_len
abbrev RSources : Rep (List TSource) := Rep.slice 73 RSource
abbrev flSource (xs : List TSource) : List Int := flatF enSource xs
theorem flSource_len (xs : List TSource) : (flSource xs).length = xs.length * 2 := flatF_len enSource_len xs
theorem flSource_some {w : World} {a : Option Addr} {xs : List TSource} (h : At w a (flSource xs)) (hp : 0 < xs.length) : ∃ b off, a = some ⟨b, off, none⟩ ∧ b < w.heap.size ∧ ∀ (k : Nat) (x : TSource), xs[k]? = some x → w.cell? ⟨b, off + k * 2, none⟩ = some (.int .i64 x.1) ∧ w.cell? ⟨b, off + k * 2 + 1, none⟩ = some (.int .i64 x.2) := by
  obtain ⟨b, off, rfl, hb, hc⟩ := At.some h (by rw [flSource_len]; omega)
  refine ⟨b, off, rfl, hb, fun k x hx => ?_⟩
  have hl := flSource_len xs
  have hk := (List.getElem?_eq_some_iff.1 hx).1
  refine ⟨?_, ?_⟩
  · have h9 := hc (k * 2 + 0) (by omega)
    rw [flatF_getD enSource_len hx (show 0 < 2 by omega)] at h9
    exact h9
  · have h9 := hc (k * 2 + 1) (by omega)
    rw [flatF_getD enSource_len hx (show 1 < 2 by omega)] at h9
    rw [Nat.add_assoc]; exact h9
theorem Try.infFSource : (Try.prog.info? 73).map (fun i => (i.zero, i.size, i.bytes)) = some (some (.agg #[.int .i64 0, .int .i64 0]), 2, 16) := by kernel_rfl
theorem RSources.of_owns {w : World} {base : Nat} {a : Option Addr} {n c : Nat} {xs : List TSource} (hz : xs.length = n) (hn : n ≤ 9223372036854775807) (h : w.ownsRow base 73 2 (.slice a n c) n ((flSource xs).map (.int .i64))) : RSources.Own w (From base w.heap.size) [.slice a n c] xs := flat_of_owns hz hn h
theorem RSources.at {w : World} {F : Nat → Prop} {a : Option Addr} {n c : Nat} {xs : List TSource} (h : RSources.Own w F [.slice a n c] xs) : At w a (flSource xs) := flat_at h

theorem Upto.setSource {cs : List Value} {zs : List Int} {k : Nat} (h : Upto cs zs (k * 2)) (hk : k * 2 + 1 < zs.length) : Upto ((cs.set (k * 2) (.int .i64 (zs.getD (k * 2) 0))).set (k * 2 + 1) (.int .i64 (zs.getD (k * 2 + 1) 0))) zs ((k + 1) * 2) := by
  have := ((h.set (by omega)).set (k := k * 2 + 1) (by omega))
  rw [show (k + 1) * 2 = k * 2 + 1 + 1 by omega]
  exact this

set_option maxRecDepth 100000 in
set_option maxHeartbeats 400000 in
theorem eqSource_same (x0 x1 : Int) (w : World) :
    Calls Try.prog 48 #[.agg #[.int .i64 x0, .int .i64 x1], .agg #[.int .i64 x0, .int .i64 x1]] w fun e w' => e = .returned (.bool true) ∧ Below w.heap.size w w' := by
  go_enter Try.func48, Try.ntmps48
  go_wp2
  go_ret
  exact ⟨rfl, ((Below.refl _ _).alloc (Nat.le_refl _) _).alloc (by simp) _⟩

set_option maxRecDepth 100000 in
set_option maxHeartbeats 1000000 in
theorem eqSourceS_same (a a' : Option Addr) (n c c' : Nat) (xs : List TSource) (w : World) (hz : xs.length = n) (hn : n ≤ 1048576) (ha : At w a (flSource xs)) (ha' : At w a' (flSource xs)) :
    Calls Try.prog 23 #[.slice a n c, .slice a' n c'] w fun e w' => e = .returned (.bool true) ∧ Below w.heap.size w w' := by
  by_cases h0 : n = 0
  · subst h0
    go_enter Try.func23, Try.ntmps23
    go_wp2
    refine wp_loop_rounds 1 ?_
    rw [rounds_succ]
    go_wp2
    go_ret
    exact ⟨rfl, Below.refl _ _⟩
  · obtain ⟨b, off, rfl, hb, hc⟩ := flSource_some ha (by omega)
    obtain ⟨b', off', rfl, hb', hc'⟩ := flSource_some ha' (by omega)
    clear ha ha'
    go_enter Try.func23, Try.ntmps23
    go_wp2
    go_loopw [5] (fun i wr => ∃ (k : Nat), k ≤ n ∧ i = .int .i64 k ∧ Below w.heap.size w wr) (fun i _ => n - (intOf i).toNat)
    case atStart => exact ⟨0, Nat.zero_le _, rfl, Below.refl _ _⟩
    case round =>
      obtain ⟨k, hk, rfl, hbw⟩ := hrel
      by_cases hlt : k < n
      · obtain ⟨x, hx⟩ : ∃ x, xs[k]? = some x := ⟨_, List.getElem?_eq_getElem (by omega)⟩
        obtain ⟨h0, h1⟩ := hc k x hx
        obtain ⟨g0, g1⟩ := hc' k x hx
        have h0 := (hbw.cell hb).trans h0
        have g0 := (hbw.cell hb').trans g0
        have h1 := (hbw.cell hb).trans h1
        have g1 := (hbw.cell hb').trans g1
        obtain ⟨x0, x1⟩ := x
        simp only at h0 g0 h1 g1
        have hki : (k : Int) < (n : Int) := by omega
        clear hc hc' hx
        go_wp2_with fail
        go_region_held3 (fun w' => w'.cell? ⟨b, off + k * 2, none⟩ = some (.int .i64 x0) ∧ w'.cell? ⟨b, off + k * 2 + 1, none⟩ = some (.int .i64 x1) ∧ w'.cell? ⟨b', off' + k * 2, none⟩ = some (.int .i64 x0) ∧ w'.cell? ⟨b', off' + k * 2 + 1, none⟩ = some (.int .i64 x1)) (refine ⟨?_, ?_, ?_, ?_⟩ <;> assumption)
          (first | (go_at_call 48; refine (eqSource_same x0 x1 _).mono ?_; rintro e w2 ⟨rfl, hb2⟩; have e0 := cell_later hb2 h0; have d0 := cell_later hb2 g0; have e1 := cell_later hb2 h1; have d1 := cell_later hb2 g1) | fail)
        go_wp2
        go_roundw
        case rel => exact ⟨k + 1, by omega, by go_num, hbw.drew.trans (hb2.mono hbw.size)⟩
        case measure => simp [intOf]; omega
      · go_wp2
        go_ret
        exact ⟨rfl, hbw⟩

set_option maxRecDepth 100000 in
set_option maxHeartbeats 2000000 in
theorem markSourceS_any (base : Nat) (a : Option Addr) (n c : Nat) (cs : List Value) (m : Int) (w : World) (hn : n ≤ 1048576) (h0 : 0 ≤ m) (h1 : m ≤ 1073741824) (hown : w.ownsRow base 73 2 (.slice a n c) n cs) :
    Calls Try.prog 25 #[.slice a n c, .int .i64 m] w fun e w' => e = .returned (.int .i64 (m + (n * 2 : Nat))) ∧
      w'.ownsRow base 73 2 (.slice a n c) n ((marks m (n * 2)).map (.int .i64)) ∧ w.grownBy w' (Value.slice a n c).ownBlock := by
  rcases hown.2 with ⟨hv, h00⟩ | ⟨g, cap, cur, hv, hjunk⟩
  · simp only [Value.slice.injEq] at hv
    obtain ⟨rfl, rfl, rfl⟩ := hv
    go_enter Try.func25, Try.ntmps25
    go_wp2
    refine wp_loop_rounds 1 ?_
    rw [rounds_succ]
    go_wp2
    go_ret
    exact ⟨by simp, by simpa [marks] using World.ownsRow_nil w base 73 2, World.grownBy.refl _ _⟩
  · simp only [Value.slice.injEq, true_and] at hv
    obtain ⟨rfl, rfl⟩ := hv
    clear hjunk
    have hu0 := Upto.zero (cs := cs) (zs := marks m (n * 2)) (by rw [marks_length]; simpa using hown.1)
    go_enter Try.func25, Try.ntmps25
    go_wp2
    go_loopw [1, 5] (fun q i wr => ∃ (k : Nat) (cs : List Value), k ≤ n ∧ i = .int .i64 k ∧ q = .int .i64 (m + 2 * (k : Int)) ∧ Upto cs (marks m (n * 2)) (k * 2) ∧ wr.ownsRow base 73 2 (.slice (some ⟨g, 0, none⟩) n c) n cs ∧ w.grownBy wr (some g)) (fun _ i _ => n - (intOf i).toNat)
    case atStart => exact ⟨0, cs, Nat.zero_le _, rfl, by simp, hu0, hown, World.grownBy.refl _ _⟩
    case round =>
      clear hown hu0 cs
      obtain ⟨k, cs, hk, rfl, rfl, hu, hown, hbw⟩ := hrel
      by_cases hlt : k < n
      · have hlen : cs.length = n * 2 := by rw [hu.1, marks_length]
        have hset := hu.setSource (by rw [marks_length]; omega)
        rw [marks_getD m (n * 2) (k * 2) (by omega), marks_getD m (n * 2) (k * 2 + 1) (by omega)] at hset
        obtain ⟨x, hx⟩ : ∃ x : Int, x = m + 2 * (k : Int) := ⟨_, rfl⟩
        rw [show m + ((k * 2 : Nat) : Int) = x by omega, show m + ((k * 2 + 1 : Nat) : Int) = x + 1 by omega] at hset
        have HU := Hid.mk hset
        have HX := Hid.mk hx
        have x0 : 0 ≤ x := by omega
        have x1 : x ≤ 1090000000 := by omega
        rw [← hx]
        clear hset hu hx
        obtain ⟨u0, hu0⟩ : ∃ u, cs[k * 2]? = some u := ⟨_, List.getElem?_eq_getElem (by omega)⟩
        have q0 : wr.cell? ⟨g, k * 2, none⟩ = some u0 := (hown.cellAt _ (by omega)).trans hu0
        have p0 : wr.frozen? ⟨g, k * 2, none⟩ = false := hown.frozenAt _
        clear hu0
        obtain ⟨u1, hu1⟩ : ∃ u, cs[k * 2 + 1]? = some u := ⟨_, List.getElem?_eq_getElem (by omega)⟩
        have q1 : wr.cell? ⟨g, k * 2 + 1, none⟩ = some u1 := (hown.cellAt _ (by omega)).trans hu1
        have p1 : wr.frozen? ⟨g, k * 2 + 1, none⟩ = false := hown.frozenAt _
        clear hu1
        have s1 := hown.stored (k * 2) (.int .i64 (x))
        have s2 := s1.1.stored (k * 2 + 1) (.int .i64 (x + 1))
        have HO := Hid.mk s2.1
        have HB := Hid.mk (grown_trans (grown_trans hbw s1.2) s2.2)
        have hki : (k : Int) < (n : Int) := by omega
        clear s1 s2 hown hbw
        go_wp2
        go_roundw
        case rel => exact ⟨k + 1, _, by omega, by go_num, by have := HX.out; first | (go_num; omega) | (congr 1; omega), HU.out, HO.out, HB.out⟩
        case measure => simp [intOf]; omega
      · obtain rfl : k = n := by omega
        rw [hu.all (by rw [marks_length]; omega)] at hown
        go_wp2
        go_ret
        exact ⟨ret_int (by omega), hown, hbw⟩
def mkSources (m : Int) (xs : List TSource) : List TSource := mkFl deSource 2 m xs.length
theorem markSourceS_rep (F : Nat → Prop) (a : Option Addr) (n c : Nat) (xs : List TSource) (m : Int) (w : World) (hn : n ≤ 1048576) (h0 : 0 ≤ m) (h1 : m ≤ 268435456) (ho : RSources.Own w F [.slice a n c] xs) :
    Calls Try.prog 25 #[.slice a n c, .int .i64 m] w fun e w' => e = .returned (.int .i64 (m + (n * 2 : Nat))) ∧ RSources.Own w' F [.slice a n c] (mkSources m xs) ∧ Off F w w' := by
  obtain ⟨hz, hb, how, hF⟩ := flat_own_iff.1 ho
  refine (markSourceS_any 0 a n c _ m w hn h0 (by omega) how).mono ?_
  rintro e w' ⟨rfl, ho', hg⟩
  refine ⟨rfl, flat_own_iff.2 ⟨by unfold mkSources; rw [mkFl_len, hz], hb, ?_, hF⟩, Off.grown hg (fun k hk => hF k hk)⟩
  unfold mkSources
  rw [mkFl_flat deSource_en, hz]
  exact ho'

set_option maxRecDepth 100000 in
set_option maxHeartbeats 1000000 in
theorem heldSourceS_any (a : Option Addr) (n c : Nat) (m : Int) (w : World) (hn : n ≤ 1048576) (h0 : 0 ≤ m) (h1 : m ≤ 1073741824) (ha : At w a (marks m (n * 2))) :
    Calls Try.prog 26 #[.slice a n c, .int .i64 m] w fun e w' => e = .returned (.int .i64 (m + (n * 2 : Nat))) ∧ w' = w := by
  by_cases hz : n = 0
  · subst hz
    go_enter Try.func26, Try.ntmps26
    go_wp2
    refine wp_loop_rounds 1 ?_
    rw [rounds_succ]
    go_wp2
    go_ret
    exact ⟨by simp, rfl⟩
  · obtain ⟨b, off, rfl, hb, hc⟩ := ha.some (by rw [marks_length]; omega)
    clear ha
    go_enter Try.func26, Try.ntmps26
    go_wp2
    go_loop [1, 5] (fun q i => ∃ (k : Nat) (x : Int), k ≤ n ∧ i = .int .i64 k ∧ q = .int .i64 x ∧ x = m + 2 * (k : Int)) (fun _ i => n - (intOf i).toNat)
    case atStart => exact ⟨0, m, Nat.zero_le _, rfl, rfl, by simp⟩
    case round =>
      obtain ⟨k, x, hk, rfl, rfl, hx⟩ := hrel
      by_cases hlt : k < n
      · have c0 : w.cell? ⟨b, off + k * 2, none⟩ = some (.int .i64 (x)) := by
          have h9 := hc (k * 2 + 0) (by rw [marks_length]; omega)
          rw [marks_getD m (n * 2) (k * 2 + 0) (by omega), show m + ((k * 2 + 0 : Nat) : Int) = x by push_cast; omega] at h9
          simpa using h9
        have c1 : w.cell? ⟨b, off + k * 2 + 1, none⟩ = some (.int .i64 (x + 1)) := by
          have h9 := hc (k * 2 + 1) (by rw [marks_length]; omega)
          rw [marks_getD m (n * 2) (k * 2 + 1) (by omega), show m + ((k * 2 + 1 : Nat) : Int) = x + 1 by push_cast; omega] at h9
          rw [Nat.add_assoc]; exact h9
        have HX := Hid.mk hx
        have hxb : 0 ≤ x := by omega
        have hxc : x ≤ 1090000000 := by omega
        clear hx hc
        have hki : (k : Int) < (n : Int) := by omega
        go_wp2
        go_round
        case rel => exact ⟨k + 1, x + 1 + 1, by omega, by go_num, rfl, by have := HX.out; push_cast; omega⟩
        case measure => simp [intOf]; omega
      · obtain rfl : k = n := by omega
        have HX := Hid.mk hx
        clear hx
        go_wp2
        go_ret
        exact ⟨ret_int (by have := HX.out; push_cast; omega), rfl⟩
theorem heldSourceS_rep (a : Option Addr) (n c : Nat) (xs : List TSource) (m : Int) (w : World) (hz : xs.length = n) (hn : n ≤ 1048576) (h0 : 0 ≤ m) (h1 : m ≤ 268435456) (ha : At w a (flSource (mkSources m xs))) :
    Calls Try.prog 26 #[.slice a n c, .int .i64 m] w fun e w' => e = .returned (.int .i64 (m + (n * 2 : Nat))) ∧ Below w.heap.size w w' := by
  have ha2 : At w a (flatF enSource (mkFl deSource 2 m xs.length)) := ha
  rw [mkFl_flat deSource_en, hz] at ha2
  exact (heldSourceS_any a n c m w hn h0 (by omega) ha2).mono fun _ _ ⟨h1, h2⟩ => ⟨h1, h2 ▸ Below.refl _ _⟩

end Go.Proofs.Ytociphdhkjoofaa
