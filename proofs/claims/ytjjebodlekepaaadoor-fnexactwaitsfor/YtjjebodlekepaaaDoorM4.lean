/- Several texts of one proof, in build order: SrF, IntsR, LkG, SrP, DepG, RisP. -/
import Derived.Test.YtjjebodlekepaaaDoorM3
import Derived.Test.YtjjebodlekepaaaDoorRows
import Derived.Deep.RegionHeld3
import Derived.Test.YtjjebodlekepaaaDoorM0

/- Step: 3 numbers each; slices of them; contracts of the laws' helpers over these. -/
namespace Go.Proofs.YtjjebodlekepaaaDoor
open Go.RowKit

abbrev TStep := Int × Int × Int
def enStep (x : TStep) : List Int := [x.1, x.2.1, x.2.2]
def deStep (l : List Int) : TStep := (l.getD 0 0, l.getD 1 0, l.getD 2 0)
theorem enStep_len (x : TStep) : (enStep x).length = 3 := rfl
theorem deStep_en (l : List Int) (h : l.length = 3) : enStep (deStep l) = l := by
  match l, h with
  | [x0, x1, x2], _ => rfl
abbrev RStep : Rep TStep := Rep.flat 3 enStep enStep_len
abbrev RSteps : Rep (List TStep) := Rep.slice 51 RStep
abbrev flStep (xs : List TStep) : List Int := flatF enStep xs
theorem flStep_len (xs : List TStep) : (flStep xs).length = xs.length * 3 := flatF_len enStep_len xs
theorem flStep_some {w : World} {a : Option Addr} {xs : List TStep} (h : At w a (flStep xs)) (hp : 0 < xs.length) : ∃ b off, a = some ⟨b, off, none⟩ ∧ b < w.heap.size ∧ ∀ (k : Nat) (x : TStep), xs[k]? = some x → w.cell? ⟨b, off + k * 3, none⟩ = some (.int .i64 x.1) ∧ w.cell? ⟨b, off + k * 3 + 1, none⟩ = some (.int .i64 x.2.1) ∧ w.cell? ⟨b, off + k * 3 + 2, none⟩ = some (.int .i64 x.2.2) := by
  obtain ⟨b, off, rfl, hb, hc⟩ := At.some h (by rw [flStep_len]; omega)
  refine ⟨b, off, rfl, hb, fun k x hx => ?_⟩
  have hl := flStep_len xs
  have hk := (List.getElem?_eq_some_iff.1 hx).1
  refine ⟨?_, ?_, ?_⟩
  · have h9 := hc (k * 3 + 0) (by omega)
    rw [flatF_getD enStep_len hx (show 0 < 3 by omega)] at h9
    exact h9
  · have h9 := hc (k * 3 + 1) (by omega)
    rw [flatF_getD enStep_len hx (show 1 < 3 by omega)] at h9
    rw [Nat.add_assoc]; exact h9
  · have h9 := hc (k * 3 + 2) (by omega)
    rw [flatF_getD enStep_len hx (show 2 < 3 by omega)] at h9
    rw [Nat.add_assoc]; exact h9
theorem Tryd.infFStep : (Tryd.prog.info? 51).map (fun i => (i.zero, i.size, i.bytes)) = some (some (.agg #[.int .i64 0, .int .i64 0, .int .i64 0]), 3, 24) := by kernel_rfl
theorem RSteps.of_owns {w : World} {base : Nat} {a : Option Addr} {n c : Nat} {xs : List TStep} (hz : xs.length = n) (hn : n ≤ 9223372036854775807) (h : w.ownsRow base 51 3 (.slice a n c) n ((flStep xs).map (.int .i64))) : RSteps.Own w (From base w.heap.size) [.slice a n c] xs := flat_of_owns hz hn h
theorem RSteps.at {w : World} {F : Nat → Prop} {a : Option Addr} {n c : Nat} {xs : List TStep} (h : RSteps.Own w F [.slice a n c] xs) : At w a (flStep xs) := flat_at h

def costStep (n : Nat) : Nat := n
theorem szStepS_any (a : Option Addr) (n c : Nat) (l : Int) (w : World) (hn : n ≤ 9223372036854775807) (h0 : 0 ≤ l) (h1 : l ≤ 1048576) :
    Calls Tryd.prog 25 #[.slice a n c, .int .i64 l] w fun e w' => e = .returned (.int .i64 (leftOf l (costStep n : Nat))) ∧ Below w.heap.size w w' := by
  unfold costStep
  by_cases h : l < n
  · have h' : l - (n : Int) < 0 := by omega
    go_enter Tryd.func25, Tryd.ntmps25
    go_wp2
    go_ret
    exact ⟨ret_int (leftOf_no (by omega)).symm, Below.refl _ _⟩
  · have h' : ¬ l - (n : Int) < 0 := by omega
    go_enter Tryd.func25, Tryd.ntmps25
    go_wp2
    go_ret
    exact ⟨ret_int (by rw [leftOf_yes (by omega)]), Below.refl _ _⟩

theorem Upto.setStep {cs : List Value} {zs : List Int} {k : Nat} (h : Upto cs zs (k * 3)) (hk : k * 3 + 2 < zs.length) : Upto (((cs.set (k * 3) (.int .i64 (zs.getD (k * 3) 0))).set (k * 3 + 1) (.int .i64 (zs.getD (k * 3 + 1) 0))).set (k * 3 + 2) (.int .i64 (zs.getD (k * 3 + 2) 0))) zs ((k + 1) * 3) := by
  have := (((h.set (by omega)).set (k := k * 3 + 1) (by omega)).set (k := k * 3 + 1 + 1) (by omega))
  rw [show (k + 1) * 3 = k * 3 + 1 + 1 + 1 by omega]
  exact this

set_option maxRecDepth 100000 in
set_option maxHeartbeats 400000 in
theorem toStep_any (x0 x1 x2 : Int) (w : World) :
    Calls Tryd.prog 50 #[.agg #[.int .i64 x0, .int .i64 x1, .int .i64 x2]] w fun e w' => e = .returned (.agg #[.int .i64 x0, .int .i64 x1, .int .i64 x2]) ∧ Below w.heap.size w w' := by
  go_enter Tryd.func50, Tryd.ntmps50
  go_wp2
  refine bodyPost_ret (v := .agg #[.int .i64 x0, .int .i64 x1, .int .i64 x2]) (by simp [results, Tryd.results50, go_sem]) rfl ⟨rfl, ?_⟩
  exact (((Below.refl _ _).alloc (Nat.le_refl _) _).alloc (by simp) _).alloc (by simp; omega) _

set_option maxRecDepth 100000 in
set_option maxHeartbeats 1000000 in
theorem toStepS_rep (a : Option Addr) (n c : Nat) (xs : List TStep) (w : World) (hz : xs.length = n) (hn : n ≤ 1048576) (ha : At w a (flStep xs)) :
    Calls Tryd.prog 31 #[.slice a n c] w fun e w' => ∃ g, e = .returned (.slice (some ⟨g, 0, none⟩) n n) ∧ RSteps.Own w' (From w.heap.size w'.heap.size) [.slice (some ⟨g, 0, none⟩) n n] xs ∧ Below w.heap.size w w' := by
  obtain ⟨i0, hi, hz0, hz1, hz2⟩ := info_parts Tryd.infFStep
  by_cases h00 : n = 0
  · subst h00
    go_enter Tryd.func31, Tryd.ntmps31
    go_wp2_with (at_make; refine wpList_make_full _ rfl _ _ 28 rfl w.heap.size 51 i0 (.agg #[.int .i64 0, .int .i64 0, .int .i64 0]) 3 Tryd.underlying28 hi hz0 hz1 .i64 .i64 _ _ 0 rfl rfl rfl rfl (by simp) (by simp) (Nat.le_refl _) ?_; intro w1 hown hg)
    refine wp_loop_rounds 1 ?_
    rw [rounds_succ]
    go_wp2
    go_ret
    obtain rfl : xs = [] := List.eq_nil_of_length_eq_zero hz
    exact ⟨_, rfl, RSteps.of_owns rfl (by omega) (by simpa [madeCells, flatF] using hown), (Below.refl _ _).grown hg (Nat.le_refl _) (by simp)⟩
  · obtain ⟨b, off, rfl, hb, hc⟩ := flStep_some ha (by omega)
    have HFL : Hid ((flStep xs).length = n * 3) := by show _ = _; rw [flStep_len, hz]
    have HZ := Hid.mk hz
    go_enter Tryd.func31, Tryd.ntmps31
    go_wp2_with (at_make; refine wpList_make_full _ rfl _ _ 28 rfl w.heap.size 51 i0 (.agg #[.int .i64 0, .int .i64 0, .int .i64 0]) 3 Tryd.underlying28 hi hz0 hz1 .i64 .i64 _ _ n rfl rfl rfl rfl (by rw [hz2]; omega) (by unfold maxLen; omega) (Nat.le_refl _) ?_; intro w1 hown hg)
    have hb1 : Below w.heap.size w w1 := (Below.refl _ _).grown hg (Nat.le_refl _) (by simp)
    have hs0 : (madeCells (Value.agg #[.int .i64 0, .int .i64 0, .int .i64 0]).cells (n * 3)).toList.length = (flStep xs).length := by rw [HFL.out]; simp [madeCells]
    have hu0 := Upto.zero hs0
    obtain ⟨cs, hcs⟩ : ∃ cs, cs = (madeCells (Value.agg #[.int .i64 0, .int .i64 0, .int .i64 0]).cells (n * 3)).toList := ⟨_, rfl⟩
    rw [← hcs] at hown hu0
    clear hcs hs0 hg hz
    go_loopw [4] (fun i wr => ∃ (k : Nat) (cs : List Value), k ≤ n ∧ i = .int .i64 k ∧ Upto cs (flStep xs) (k * 3) ∧ wr.ownsRow w.heap.size 51 3 (.slice (some ⟨w.heap.size, 0, none⟩) n n) n cs ∧ Below w.heap.size w wr) (fun i _ => n - (intOf i).toNat)
    case atStart => exact ⟨0, cs, Nat.zero_le _, rfl, hu0, hown, hb1⟩
    case round =>
      clear hown hu0 hb1 cs
      obtain ⟨k, cs, hk, rfl, hu, hown, hbw⟩ := hrel
      by_cases hlt : k < n
      · obtain ⟨x, hx⟩ : ∃ x, xs[k]? = some x := ⟨_, List.getElem?_eq_getElem (by have := HZ.out; omega)⟩
        obtain ⟨h0, h1, h2⟩ := hc k x hx
        have h0 := (hbw.cell hb).trans h0
        have h1 := (hbw.cell hb).trans h1
        have h2 := (hbw.cell hb).trans h2
        have HU := Hid.mk (hu.setStep (by rw [HFL.out]; omega))
        rw [show (flStep xs).getD (k * 3) 0 = (enStep x).getD 0 0 from flatF_getD (j := 0) enStep_len hx (by omega), show (flStep xs).getD (k * 3 + 1) 0 = (enStep x).getD 1 0 from flatF_getD (j := 1) enStep_len hx (by omega), show (flStep xs).getD (k * 3 + 2) 0 = (enStep x).getD 2 0 from flatF_getD (j := 2) enStep_len hx (by omega)] at HU
        have hlen : cs.length = n * 3 := by rw [hu.1]; exact HFL.out
        clear hu hc hx
        obtain ⟨x0, x1, x2⟩ := x
        simp only [enStep] at h0 h1 h2 HU
        have HU2 : Hid (Upto (((cs.set (k * 3) (.int .i64 x0)).set (k * 3 + 1) (.int .i64 x1)).set (k * 3 + 2) (.int .i64 x2)) (flStep xs) ((k + 1) * 3)) := HU.out
        clear HU
        have hki : (k : Int) < (n : Int) := by omega
        go_wp2_with fail
        refine (toStep_any x0 x1 x2 _).mono ?_
        rintro e w2 ⟨rfl, hb2⟩
        have ho2 := owns_below hown hb2
        have B2 := hbw.trans (hb2.mono hbw.size)
        obtain ⟨u0, hu0⟩ : ∃ u, cs[k * 3]? = some u := ⟨_, List.getElem?_eq_getElem (by omega)⟩
        have q0 : w2.cell? ⟨w.heap.size, k * 3, none⟩ = some u0 := (ho2.cellAt _ (by omega)).trans hu0
        have p0 : w2.frozen? ⟨w.heap.size, k * 3, none⟩ = false := ho2.frozenAt _
        clear hu0
        obtain ⟨u1, hu1⟩ : ∃ u, cs[k * 3 + 1]? = some u := ⟨_, List.getElem?_eq_getElem (by omega)⟩
        have q1 : w2.cell? ⟨w.heap.size, k * 3 + 1, none⟩ = some u1 := (ho2.cellAt _ (by omega)).trans hu1
        have p1 : w2.frozen? ⟨w.heap.size, k * 3 + 1, none⟩ = false := ho2.frozenAt _
        clear hu1
        obtain ⟨u2, hu2⟩ : ∃ u, cs[k * 3 + 2]? = some u := ⟨_, List.getElem?_eq_getElem (by omega)⟩
        have q2 : w2.cell? ⟨w.heap.size, k * 3 + 2, none⟩ = some u2 := (ho2.cellAt _ (by omega)).trans hu2
        have p2 : w2.frozen? ⟨w.heap.size, k * 3 + 2, none⟩ = false := ho2.frozenAt _
        clear hu2
        have s1 := ho2.stored (k * 3) (.int .i64 x0)
        have s2 := s1.1.stored (k * 3 + 1) (.int .i64 x1)
        have s3 := s2.1.stored (k * 3 + 2) (.int .i64 x2)
        have HO := Hid.mk s3.1
        have HB : Hid (Below w.heap.size w ((((w2.setCell ⟨w.heap.size, k * 3, none⟩ (.int .i64 x0)).setCell ⟨w.heap.size, k * 3 + 1, none⟩ (.int .i64 x1)).setCell ⟨w.heap.size, k * 3 + 2, none⟩ (.int .i64 x2)))) := (((B2.setCell (Nat.le_refl _) _).setCell (Nat.le_refl _) _).setCell (Nat.le_refl _) _)
        clear s1 s2 s3 ho2 hown hbw B2 hb2 h0 h1 h2
        go_wp2
        go_roundw
        case rel => exact ⟨k + 1, _, by omega, by go_num, HU2.out, HO.out, HB.out⟩
        case measure => simp [intOf]; omega
      · obtain rfl : k = n := by omega
        rw [hu.all (by rw [HFL.out]; omega)] at hown
        go_wp2
        go_ret
        exact ⟨_, rfl, RSteps.of_owns HZ.out (by omega) hown, hbw⟩

set_option maxRecDepth 100000 in
set_option maxHeartbeats 400000 in
theorem eqStep_same (x0 x1 x2 : Int) (w : World) :
    Calls Tryd.prog 47 #[.agg #[.int .i64 x0, .int .i64 x1, .int .i64 x2], .agg #[.int .i64 x0, .int .i64 x1, .int .i64 x2]] w fun e w' => e = .returned (.bool true) ∧ Below w.heap.size w w' := by
  go_enter Tryd.func47, Tryd.ntmps47
  go_wp2
  go_ret
  exact ⟨rfl, ((Below.refl _ _).alloc (Nat.le_refl _) _).alloc (by simp) _⟩

set_option maxRecDepth 100000 in
set_option maxHeartbeats 1000000 in
theorem eqStepS_same (a a' : Option Addr) (n c c' : Nat) (xs : List TStep) (w : World) (hz : xs.length = n) (hn : n ≤ 1048576) (ha : At w a (flStep xs)) (ha' : At w a' (flStep xs)) :
    Calls Tryd.prog 20 #[.slice a n c, .slice a' n c'] w fun e w' => e = .returned (.bool true) ∧ Below w.heap.size w w' := by
  by_cases h0 : n = 0
  · subst h0
    go_enter Tryd.func20, Tryd.ntmps20
    go_wp2
    refine wp_loop_rounds 1 ?_
    rw [rounds_succ]
    go_wp2
    go_ret
    exact ⟨rfl, Below.refl _ _⟩
  · obtain ⟨b, off, rfl, hb, hc⟩ := flStep_some ha (by omega)
    obtain ⟨b', off', rfl, hb', hc'⟩ := flStep_some ha' (by omega)
    clear ha ha'
    go_enter Tryd.func20, Tryd.ntmps20
    go_wp2
    go_loopw [5] (fun i wr => ∃ (k : Nat), k ≤ n ∧ i = .int .i64 k ∧ Below w.heap.size w wr) (fun i _ => n - (intOf i).toNat)
    case atStart => exact ⟨0, Nat.zero_le _, rfl, Below.refl _ _⟩
    case round =>
      obtain ⟨k, hk, rfl, hbw⟩ := hrel
      by_cases hlt : k < n
      · obtain ⟨x, hx⟩ : ∃ x, xs[k]? = some x := ⟨_, List.getElem?_eq_getElem (by omega)⟩
        obtain ⟨h0, h1, h2⟩ := hc k x hx
        obtain ⟨g0, g1, g2⟩ := hc' k x hx
        have h0 := (hbw.cell hb).trans h0
        have g0 := (hbw.cell hb').trans g0
        have h1 := (hbw.cell hb).trans h1
        have g1 := (hbw.cell hb').trans g1
        have h2 := (hbw.cell hb).trans h2
        have g2 := (hbw.cell hb').trans g2
        obtain ⟨x0, x1, x2⟩ := x
        simp only at h0 g0 h1 g1 h2 g2
        have hki : (k : Int) < (n : Int) := by omega
        clear hc hc' hx
        go_wp2_with fail
        go_region_held3 (fun w' => w'.cell? ⟨b, off + k * 3, none⟩ = some (.int .i64 x0) ∧ w'.cell? ⟨b, off + k * 3 + 1, none⟩ = some (.int .i64 x1) ∧ w'.cell? ⟨b, off + k * 3 + 2, none⟩ = some (.int .i64 x2) ∧ w'.cell? ⟨b', off' + k * 3, none⟩ = some (.int .i64 x0) ∧ w'.cell? ⟨b', off' + k * 3 + 1, none⟩ = some (.int .i64 x1) ∧ w'.cell? ⟨b', off' + k * 3 + 2, none⟩ = some (.int .i64 x2)) (refine ⟨?_, ?_, ?_, ?_, ?_, ?_⟩ <;> assumption)
          (first | (go_at_call 47; refine (eqStep_same x0 x1 x2 _).mono ?_; rintro e w2 ⟨rfl, hb2⟩; have e0 := cell_later hb2 h0; have d0 := cell_later hb2 g0; have e1 := cell_later hb2 h1; have d1 := cell_later hb2 g1; have e2 := cell_later hb2 h2; have d2 := cell_later hb2 g2) | fail)
        go_wp2
        go_roundw
        case rel => exact ⟨k + 1, by omega, by go_num, hbw.drew.trans (hb2.mono hbw.size)⟩
        case measure => simp [intOf]; omega
      · go_wp2
        go_ret
        exact ⟨rfl, hbw⟩

set_option maxRecDepth 100000 in
set_option maxHeartbeats 2000000 in
theorem markStepS_any (base : Nat) (a : Option Addr) (n c : Nat) (cs : List Value) (m : Int) (w : World) (hn : n ≤ 1048576) (h0 : 0 ≤ m) (h1 : m ≤ 1073741824) (hown : w.ownsRow base 51 3 (.slice a n c) n cs) :
    Calls Tryd.prog 21 #[.slice a n c, .int .i64 m] w fun e w' => e = .returned (.int .i64 (m + (n * 3 : Nat))) ∧
      w'.ownsRow base 51 3 (.slice a n c) n ((marks m (n * 3)).map (.int .i64)) ∧ w.grownBy w' (Value.slice a n c).ownBlock := by
  rcases hown.2 with ⟨hv, h00⟩ | ⟨g, cap, cur, hv, hjunk⟩
  · simp only [Value.slice.injEq] at hv
    obtain ⟨rfl, rfl, rfl⟩ := hv
    go_enter Tryd.func21, Tryd.ntmps21
    go_wp2
    refine wp_loop_rounds 1 ?_
    rw [rounds_succ]
    go_wp2
    go_ret
    exact ⟨by simp, by simpa [marks] using World.ownsRow_nil w base 51 3, World.grownBy.refl _ _⟩
  · simp only [Value.slice.injEq, true_and] at hv
    obtain ⟨rfl, rfl⟩ := hv
    clear hjunk
    have hu0 := Upto.zero (cs := cs) (zs := marks m (n * 3)) (by rw [marks_length]; simpa using hown.1)
    go_enter Tryd.func21, Tryd.ntmps21
    go_wp2
    go_loopw [1, 5] (fun q i wr => ∃ (k : Nat) (cs : List Value), k ≤ n ∧ i = .int .i64 k ∧ q = .int .i64 (m + 3 * (k : Int)) ∧ Upto cs (marks m (n * 3)) (k * 3) ∧ wr.ownsRow base 51 3 (.slice (some ⟨g, 0, none⟩) n c) n cs ∧ w.grownBy wr (some g)) (fun _ i _ => n - (intOf i).toNat)
    case atStart => exact ⟨0, cs, Nat.zero_le _, rfl, by simp, hu0, hown, World.grownBy.refl _ _⟩
    case round =>
      clear hown hu0 cs
      obtain ⟨k, cs, hk, rfl, rfl, hu, hown, hbw⟩ := hrel
      by_cases hlt : k < n
      · have hlen : cs.length = n * 3 := by rw [hu.1, marks_length]
        have hset := hu.setStep (by rw [marks_length]; omega)
        rw [marks_getD m (n * 3) (k * 3) (by omega), marks_getD m (n * 3) (k * 3 + 1) (by omega), marks_getD m (n * 3) (k * 3 + 2) (by omega)] at hset
        obtain ⟨x, hx⟩ : ∃ x : Int, x = m + 3 * (k : Int) := ⟨_, rfl⟩
        rw [show m + ((k * 3 : Nat) : Int) = x by omega, show m + ((k * 3 + 1 : Nat) : Int) = x + 1 by omega, show m + ((k * 3 + 2 : Nat) : Int) = x + 1 + 1 by omega] at hset
        have HU := Hid.mk hset
        have HX := Hid.mk hx
        have x0 : 0 ≤ x := by omega
        have x1 : x ≤ 1090000000 := by omega
        rw [← hx]
        clear hset hu hx
        obtain ⟨u0, hu0⟩ : ∃ u, cs[k * 3]? = some u := ⟨_, List.getElem?_eq_getElem (by omega)⟩
        have q0 : wr.cell? ⟨g, k * 3, none⟩ = some u0 := (hown.cellAt _ (by omega)).trans hu0
        have p0 : wr.frozen? ⟨g, k * 3, none⟩ = false := hown.frozenAt _
        clear hu0
        obtain ⟨u1, hu1⟩ : ∃ u, cs[k * 3 + 1]? = some u := ⟨_, List.getElem?_eq_getElem (by omega)⟩
        have q1 : wr.cell? ⟨g, k * 3 + 1, none⟩ = some u1 := (hown.cellAt _ (by omega)).trans hu1
        have p1 : wr.frozen? ⟨g, k * 3 + 1, none⟩ = false := hown.frozenAt _
        clear hu1
        obtain ⟨u2, hu2⟩ : ∃ u, cs[k * 3 + 2]? = some u := ⟨_, List.getElem?_eq_getElem (by omega)⟩
        have q2 : wr.cell? ⟨g, k * 3 + 2, none⟩ = some u2 := (hown.cellAt _ (by omega)).trans hu2
        have p2 : wr.frozen? ⟨g, k * 3 + 2, none⟩ = false := hown.frozenAt _
        clear hu2
        have s1 := hown.stored (k * 3) (.int .i64 (x))
        have s2 := s1.1.stored (k * 3 + 1) (.int .i64 (x + 1))
        have s3 := s2.1.stored (k * 3 + 2) (.int .i64 (x + 1 + 1))
        have HO := Hid.mk s3.1
        have HB := Hid.mk (grown_trans (grown_trans (grown_trans hbw s1.2) s2.2) s3.2)
        have hki : (k : Int) < (n : Int) := by omega
        clear s1 s2 s3 hown hbw
        go_wp2
        go_roundw
        case rel => exact ⟨k + 1, _, by omega, by go_num, by have := HX.out; first | (go_num; omega) | (congr 1; omega), HU.out, HO.out, HB.out⟩
        case measure => simp [intOf]; omega
      · obtain rfl : k = n := by omega
        rw [hu.all (by rw [marks_length]; omega)] at hown
        go_wp2
        go_ret
        exact ⟨ret_int (by omega), hown, hbw⟩
def mkSteps (m : Int) (xs : List TStep) : List TStep := mkFl deStep 3 m xs.length
theorem markStepS_rep (F : Nat → Prop) (a : Option Addr) (n c : Nat) (xs : List TStep) (m : Int) (w : World) (hn : n ≤ 1048576) (h0 : 0 ≤ m) (h1 : m ≤ 268435456) (ho : RSteps.Own w F [.slice a n c] xs) :
    Calls Tryd.prog 21 #[.slice a n c, .int .i64 m] w fun e w' => e = .returned (.int .i64 (m + (n * 3 : Nat))) ∧ RSteps.Own w' F [.slice a n c] (mkSteps m xs) ∧ Off F w w' := by
  obtain ⟨hz, hb, how, hF⟩ := flat_own_iff.1 ho
  refine (markStepS_any 0 a n c _ m w hn h0 (by omega) how).mono ?_
  rintro e w' ⟨rfl, ho', hg⟩
  refine ⟨rfl, flat_own_iff.2 ⟨by unfold mkSteps; rw [mkFl_len, hz], hb, ?_, hF⟩, Off.grown hg (fun k hk => hF k hk)⟩
  unfold mkSteps
  rw [mkFl_flat deStep_en, hz]
  exact ho'

set_option maxRecDepth 100000 in
set_option maxHeartbeats 1000000 in
theorem heldStepS_any (a : Option Addr) (n c : Nat) (m : Int) (w : World) (hn : n ≤ 1048576) (h0 : 0 ≤ m) (h1 : m ≤ 1073741824) (ha : At w a (marks m (n * 3))) :
    Calls Tryd.prog 22 #[.slice a n c, .int .i64 m] w fun e w' => e = .returned (.int .i64 (m + (n * 3 : Nat))) ∧ w' = w := by
  by_cases hz : n = 0
  · subst hz
    go_enter Tryd.func22, Tryd.ntmps22
    go_wp2
    refine wp_loop_rounds 1 ?_
    rw [rounds_succ]
    go_wp2
    go_ret
    exact ⟨by simp, rfl⟩
  · obtain ⟨b, off, rfl, hb, hc⟩ := ha.some (by rw [marks_length]; omega)
    clear ha
    go_enter Tryd.func22, Tryd.ntmps22
    go_wp2
    go_loop [1, 5] (fun q i => ∃ (k : Nat) (x : Int), k ≤ n ∧ i = .int .i64 k ∧ q = .int .i64 x ∧ x = m + 3 * (k : Int)) (fun _ i => n - (intOf i).toNat)
    case atStart => exact ⟨0, m, Nat.zero_le _, rfl, rfl, by simp⟩
    case round =>
      obtain ⟨k, x, hk, rfl, rfl, hx⟩ := hrel
      by_cases hlt : k < n
      · have c0 : w.cell? ⟨b, off + k * 3, none⟩ = some (.int .i64 (x)) := by
          have h9 := hc (k * 3 + 0) (by rw [marks_length]; omega)
          rw [marks_getD m (n * 3) (k * 3 + 0) (by omega), show m + ((k * 3 + 0 : Nat) : Int) = x by push_cast; omega] at h9
          simpa using h9
        have c1 : w.cell? ⟨b, off + k * 3 + 1, none⟩ = some (.int .i64 (x + 1)) := by
          have h9 := hc (k * 3 + 1) (by rw [marks_length]; omega)
          rw [marks_getD m (n * 3) (k * 3 + 1) (by omega), show m + ((k * 3 + 1 : Nat) : Int) = x + 1 by push_cast; omega] at h9
          rw [Nat.add_assoc]; exact h9
        have c2 : w.cell? ⟨b, off + k * 3 + 2, none⟩ = some (.int .i64 (x + 1 + 1)) := by
          have h9 := hc (k * 3 + 2) (by rw [marks_length]; omega)
          rw [marks_getD m (n * 3) (k * 3 + 2) (by omega), show m + ((k * 3 + 2 : Nat) : Int) = x + 1 + 1 by push_cast; omega] at h9
          rw [Nat.add_assoc]; exact h9
        have HX := Hid.mk hx
        have hxb : 0 ≤ x := by omega
        have hxc : x ≤ 1090000000 := by omega
        clear hx hc
        have hki : (k : Int) < (n : Int) := by omega
        go_wp2
        go_round
        case rel => exact ⟨k + 1, x + 1 + 1 + 1, by omega, by go_num, rfl, by have := HX.out; push_cast; omega⟩
        case measure => simp [intOf]; omega
      · obtain rfl : k = n := by omega
        have HX := Hid.mk hx
        clear hx
        go_wp2
        go_ret
        exact ⟨ret_int (by have := HX.out; push_cast; omega), rfl⟩
theorem heldStepS_rep (a : Option Addr) (n c : Nat) (xs : List TStep) (m : Int) (w : World) (hz : xs.length = n) (hn : n ≤ 1048576) (h0 : 0 ≤ m) (h1 : m ≤ 268435456) (ha : At w a (flStep (mkSteps m xs))) :
    Calls Tryd.prog 22 #[.slice a n c, .int .i64 m] w fun e w' => e = .returned (.int .i64 (m + (n * 3 : Nat))) ∧ Below w.heap.size w w' := by
  have ha2 : At w a (flatF enStep (mkFl deStep 3 m xs.length)) := ha
  rw [mkFl_flat deStep_en, hz] at ha2
  exact (heldStepS_any a n c m w hn h0 (by omega) ha2).mono fun _ _ ⟨h1, h2⟩ => ⟨h1, h2 ▸ Below.refl _ _⟩

end Go.Proofs.YtjjebodlekepaaaDoor

/- Lists of numbers that are answered, held as the laws marked them. -/
namespace Go.Proofs.YtjjebodlekepaaaDoor
open Go.RowKit

def IntsRet (e : Ending) (w' : World) (lo : Nat) (ok : Bool) (zs : List Int) : Prop := ∃ r m d, e = .returned (.tuple #[.slice r m d, .bool ok]) ∧ zs.length = m ∧ w'.ownsRow lo 3 1 (.slice r m d) m (zs.map (.int .i64))
theorem ints_at {w : World} {F : Nat → Prop} {a : Option Addr} {n c : Nat} {zs : List Int} (h : RInts.Own w F [.slice a n c] zs) : At w a zs := (RInts.at_iff.1 (RInts.toAt h)).2.2.1
theorem heldInts_rep (a : Option Addr) (n c : Nat) (zs : List Int) (m : Int) (w : World) (hz : zs.length = n) (hn : n ≤ 1048576) (h0 : 0 ≤ m) (h1 : m ≤ 268435456) (ha : At w a (mkInts m zs)) :
    Calls Tryd.prog 45 #[.slice a n c, .int .i64 m] w fun e w' => e = .returned (.int .i64 (m + n)) ∧ Below w.heap.size w w' := by
  unfold mkInts at ha
  rw [hz] at ha
  exact (heldIntS_any a n c m w hn h0 (by omega) ha).mono fun _ _ ⟨h1, h2⟩ => ⟨h1, by first | exact h2 | (rw [h2]; exact Below.refl _ _)⟩

theorem Off.toBelow {lo hi B : Nat} {a b : World} (h : Off (From lo hi) a b) (hlo : B ≤ lo) (hB : B ≤ a.heap.size) : Below B a b := ⟨h.os, h.tape, h.output, h.size, fun k hk => h.block k (by omega) (fun e => by have := e.1; omega)⟩

end Go.Proofs.YtjjebodlekepaaaDoor

/- Locks as a thing in memory: a struct of slices. -/
namespace Go.Proofs.YtjjebodlekepaaaDoor
open Go.RowKit

/-- impl.Locks, by its fields. -/
abbrev TLk := List TStep × List TStep × List TStep × List Int × List Int
abbrev RLks : Rep TLk := Rep.pair RSteps (Rep.pair RSteps (Rep.pair RSteps (Rep.pair RInts RInts)))
theorem RLks.at_iff {w : World} {a0 a1 a2 a3 a4 : Option Addr} {n0 c0 n1 c1 n2 c2 n3 c3 n4 c4 : Nat} {x : TLk} (h : RLks.At w [.slice a0 n0 c0, .slice a1 n1 c1, .slice a2 n2 c2, .slice a3 n3 c3, .slice a4 n4 c4] x) :
    (x.1.length = n0 ∧ n0 ≤ 9223372036854775807 ∧ At w a0 (flStep x.1) ∧ (a0 = none → c0 = 0)) ∧ (x.2.1.length = n1 ∧ n1 ≤ 9223372036854775807 ∧ At w a1 (flStep x.2.1) ∧ (a1 = none → c1 = 0)) ∧ (x.2.2.1.length = n2 ∧ n2 ≤ 9223372036854775807 ∧ At w a2 (flStep x.2.2.1) ∧ (a2 = none → c2 = 0)) ∧ (x.2.2.2.1.length = n3 ∧ n3 ≤ 9223372036854775807 ∧ At w a3 x.2.2.2.1 ∧ (a3 = none → c3 = 0)) ∧ (x.2.2.2.2.length = n4 ∧ n4 ≤ 9223372036854775807 ∧ At w a4 x.2.2.2.2 ∧ (a4 = none → c4 = 0)) := by
  obtain ⟨e0, d0, hcs, ⟨a0', n0', c0', rfl, t01, t02, t03, t04⟩, ⟨e1, d1, rfl, ⟨a1', n1', c1', rfl, t11, t12, t13, t14⟩, ⟨e2, d2, rfl, ⟨a2', n2', c2', rfl, t21, t22, t23, t24⟩, ⟨e3, d3, rfl, ⟨a3', n3', c3', rfl, t31, t32, t33, t34⟩, ⟨a4', n4', c4', rfl, t41, t42, t43, t44⟩⟩⟩⟩⟩ := h
  simp only [List.cons_append, List.nil_append, List.cons.injEq, Value.slice.injEq, and_true] at hcs
  obtain ⟨⟨rfl, rfl, rfl⟩, ⟨rfl, rfl, rfl⟩, ⟨rfl, rfl, rfl⟩, ⟨rfl, rfl, rfl⟩, rfl, rfl, rfl⟩ := hcs
  exact ⟨⟨t01, t02, flat_atSl (by omega) t03, t04⟩, ⟨t11, t12, flat_atSl (by omega) t13, t14⟩, ⟨t21, t22, flat_atSl (by omega) t23, t24⟩, ⟨t31, t32, atSl_int.1 t33, t34⟩, ⟨t41, t42, atSl_int.1 t43, t44⟩⟩
theorem RLks.at_open {w : World} {cs : List Value} {x : TLk} (h : RLks.At w cs x) : ∃ a0 n0 c0 a1 n1 c1 a2 n2 c2 a3 n3 c3 a4 n4 c4, cs = [.slice a0 n0 c0, .slice a1 n1 c1, .slice a2 n2 c2, .slice a3 n3 c3, .slice a4 n4 c4] := by
  obtain ⟨e0, d0, rfl, ⟨a0', n0', c0', rfl, t01, t02, t03, t04⟩, ⟨e1, d1, rfl, ⟨a1', n1', c1', rfl, t11, t12, t13, t14⟩, ⟨e2, d2, rfl, ⟨a2', n2', c2', rfl, t21, t22, t23, t24⟩, ⟨e3, d3, rfl, ⟨a3', n3', c3', rfl, t31, t32, t33, t34⟩, ⟨a4', n4', c4', rfl, t41, t42, t43, t44⟩⟩⟩⟩⟩ := h
  exact ⟨_, _, _, _, _, _, _, _, _, _, _, _, _, _, _, rfl⟩
theorem RLks.own_open {w : World} {F : Nat → Prop} {a0 a1 a2 a3 a4 : Option Addr} {n0 c0 n1 c1 n2 c2 n3 c3 n4 c4 : Nat} {x : TLk} (h : RLks.Own w F [.slice a0 n0 c0, .slice a1 n1 c1, .slice a2 n2 c2, .slice a3 n3 c3, .slice a4 n4 c4] x) : ∃ F0 F1 F2 F3 F4 : Nat → Prop,
    RSteps.Own w F0 [.slice a0 n0 c0] x.1 ∧ RSteps.Own w F1 [.slice a1 n1 c1] x.2.1 ∧ RSteps.Own w F2 [.slice a2 n2 c2] x.2.2.1 ∧ RInts.Own w F3 [.slice a3 n3 c3] x.2.2.2.1 ∧ RInts.Own w F4 [.slice a4 n4 c4] x.2.2.2.2 ∧ (∀ b, F0 b → F b) ∧ (∀ b, F1 b → F b) ∧ (∀ b, F2 b → F b) ∧ (∀ b, F3 b → F b) ∧ (∀ b, F4 b → F b) ∧ (∀ b, F0 b → ¬ F1 b) ∧ (∀ b, F0 b → ¬ F2 b) ∧ (∀ b, F0 b → ¬ F3 b) ∧ (∀ b, F0 b → ¬ F4 b) ∧ (∀ b, F1 b → ¬ F2 b) ∧ (∀ b, F1 b → ¬ F3 b) ∧ (∀ b, F1 b → ¬ F4 b) ∧ (∀ b, F2 b → ¬ F3 b) ∧ (∀ b, F2 b → ¬ F4 b) ∧ (∀ b, F3 b → ¬ F4 b) := by
  obtain ⟨e0, d0, F0, H0, hcs, ⟨a0', n0', c0', z0, G0, rfl, l0⟩, ⟨e1, d1, F1, H1, rfl, ⟨a1', n1', c1', z1, G1, rfl, l1⟩, ⟨e2, d2, F2, H2, rfl, ⟨a2', n2', c2', z2, G2, rfl, l2⟩, ⟨e3, d3, F3, H3, rfl, ⟨a3', n3', c3', z3, G3, rfl, l3⟩, ⟨a4', n4', c4', z4, G4, rfl, l4⟩, q3, r3, s3⟩, q2, r2, s2⟩, q1, r1, s1⟩, q0, r0, s0⟩ := h
  simp only [List.cons_append, List.nil_append, List.cons.injEq, Value.slice.injEq, and_true] at hcs
  obtain ⟨⟨rfl, rfl, rfl⟩, ⟨rfl, rfl, rfl⟩, ⟨rfl, rfl, rfl⟩, ⟨rfl, rfl, rfl⟩, rfl, rfl, rfl⟩ := hcs
  exact ⟨F0, F1, F2, F3, H3, ⟨_, _, _, z0, G0, rfl, l0⟩, ⟨_, _, _, z1, G1, rfl, l1⟩, ⟨_, _, _, z2, G2, rfl, l2⟩, ⟨_, _, _, z3, G3, rfl, l3⟩, ⟨_, _, _, z4, G4, rfl, l4⟩, fun b h => q0 b h, fun b h => r0 b (q1 b h), fun b h => r0 b (r1 b (q2 b h)), fun b h => r0 b (r1 b (r2 b (q3 b h))), fun b h => r0 b (r1 b (r2 b (r3 b (h)))), fun b h k => s0 b h (q1 b k), fun b h k => s0 b h (r1 b (q2 b k)), fun b h k => s0 b h (r1 b (r2 b (q3 b k))), fun b h k => s0 b h (r1 b (r2 b (r3 b k))), fun b h k => s1 b h (q2 b k), fun b h k => s1 b h (r2 b (q3 b k)), fun b h k => s1 b h (r2 b (r3 b k)), fun b h k => s2 b h (q3 b k), fun b h k => s2 b h (r3 b k), fun b h k => s3 b h k⟩
theorem RLks.own_mk {w : World} {F F0 F1 F2 F3 F4 : Nat → Prop} {a0 a1 a2 a3 a4 : Option Addr} {n0 c0 n1 c1 n2 c2 n3 c3 n4 c4 : Nat} {x0 : List TStep} {x1 : List TStep} {x2 : List TStep} {x3 : List Int} {x4 : List Int}
    (h0 : RSteps.Own w F0 [.slice a0 n0 c0] x0) (h1 : RSteps.Own w F1 [.slice a1 n1 c1] x1) (h2 : RSteps.Own w F2 [.slice a2 n2 c2] x2) (h3 : RInts.Own w F3 [.slice a3 n3 c3] x3) (h4 : RInts.Own w F4 [.slice a4 n4 c4] x4) (f0 : ∀ b, F0 b → F b) (f1 : ∀ b, F1 b → F b) (f2 : ∀ b, F2 b → F b) (f3 : ∀ b, F3 b → F b) (f4 : ∀ b, F4 b → F b) (d01 : ∀ b, F0 b → ¬ F1 b) (d02 : ∀ b, F0 b → ¬ F2 b) (d03 : ∀ b, F0 b → ¬ F3 b) (d04 : ∀ b, F0 b → ¬ F4 b) (d12 : ∀ b, F1 b → ¬ F2 b) (d13 : ∀ b, F1 b → ¬ F3 b) (d14 : ∀ b, F1 b → ¬ F4 b) (d23 : ∀ b, F2 b → ¬ F3 b) (d24 : ∀ b, F2 b → ¬ F4 b) (d34 : ∀ b, F3 b → ¬ F4 b) : RLks.Own w F [.slice a0 n0 c0, .slice a1 n1 c1, .slice a2 n2 c2, .slice a3 n3 c3, .slice a4 n4 c4] (x0, x1, x2, x3, x4) :=
  ⟨[_], _, F0, (fun b => F1 b ∨ F2 b ∨ F3 b ∨ F4 b), rfl, h0, ⟨[_], _, F1, (fun b => F2 b ∨ F3 b ∨ F4 b), rfl, h1, ⟨[_], _, F2, (fun b => F3 b ∨ F4 b), rfl, h2, ⟨[_], _, F3, F4, rfl, h3, h4, (fun _ h => .inl h), (fun _ h => .inr h), d34⟩, (fun _ h => .inl h), (fun _ h => .inr h), (fun b h k => k.elim (fun k => d23 b h k) (fun k => d24 b h k))⟩, (fun _ h => .inl h), (fun _ h => .inr h), (fun b h k => k.elim (fun k => d12 b h k) (fun k => k.elim (fun k => d13 b h k) (fun k => d14 b h k)))⟩, f0, (fun b h => h.elim (fun h => f1 b h) (fun h => h.elim (fun h => f2 b h) (fun h => h.elim (fun h => f3 b h) (fun h => f4 b h)))), (fun b h k => k.elim (fun k => d01 b h k) (fun k => k.elim (fun k => d02 b h k) (fun k => k.elim (fun k => d03 b h k) (fun k => d04 b h k))))⟩
def lkcost (x : TLk) : Nat := x.1.length + x.2.1.length + x.2.2.1.length + x.2.2.2.1.length + x.2.2.2.2.length
def lkmk (x : TLk) : Nat := x.1.length * 3 + x.2.1.length * 3 + x.2.2.1.length * 3 + x.2.2.2.1.length + x.2.2.2.2.length
theorem lks_at {w : World} {F : Nat → Prop} {a0 a1 a2 a3 a4 : Option Addr} {n0 c0 n1 c1 n2 c2 n3 c3 n4 c4 : Nat} {x : TLk} (h : RLks.Own w F [.slice a0 n0 c0, .slice a1 n1 c1, .slice a2 n2 c2, .slice a3 n3 c3, .slice a4 n4 c4] x) : At w a0 (flStep x.1) ∧ At w a1 (flStep x.2.1) ∧ At w a2 (flStep x.2.2.1) ∧ At w a3 x.2.2.2.1 ∧ At w a4 x.2.2.2.2 := by
  have q := RLks.at_iff (RLks.toAt h)
  exact ⟨q.1.2.2.1, q.2.1.2.2.1, q.2.2.1.2.2.1, q.2.2.2.1.2.2.1, q.2.2.2.2.2.2.1⟩

end Go.Proofs.YtjjebodlekepaaaDoor

/- Plain: good steps, clashes, who wrote last. -/
namespace Go.Proofs.YtjjebodlekepaaaDoor
open Go.RowKit

def stOk (x : TStep) : Bool := decide (0 ≤ x.1) && (decide (x.1 < 6) && (decide (0 ≤ x.2.2) && (decide (x.2.2 < 4) && (decide (1 ≤ x.2.1) && decide (x.2.1 ≤ 2)))))
def gpB (xs : List TStep) : Bool := decide (xs.length ≤ 40) && xs.all stOk
theorem stOk_iff {x : TStep} : stOk x = true ↔ 0 ≤ x.1 ∧ x.1 < 6 ∧ 0 ≤ x.2.2 ∧ x.2.2 < 4 ∧ 1 ≤ x.2.1 ∧ x.2.1 ≤ 2 := by simp [stOk]
theorem stOk_no {x : TStep} (h : ¬ (0 ≤ x.1 ∧ x.1 < 6 ∧ 0 ≤ x.2.2 ∧ x.2.2 < 4 ∧ 1 ≤ x.2.1 ∧ x.2.1 ≤ 2)) : stOk x = false := by
  cases hb : stOk x with
  | false => rfl
  | true => exact absurd (stOk_iff.1 hb) h
theorem all_step {xs : List TStep} {k : Nat} {x : TStep} (h : xs[k]? = some x) : (xs.drop k).all stOk = (stOk x && (xs.drop (k + 1)).all stOk) := by
  obtain ⟨hk, rfl⟩ := List.getElem?_eq_some_iff.1 h
  rw [List.drop_eq_getElem_cons hk]; rfl
theorem all_done {xs : List TStep} {k : Nat} (h : xs.length ≤ k) : (xs.drop k).all stOk = true := by
  rw [List.drop_of_length_le h]; rfl
theorem gp_len {xs : List TStep} (h : gpB xs = true) : xs.length ≤ 40 := by
  simp only [gpB, Bool.and_eq_true, decide_eq_true_eq] at h; exact h.1
theorem gp_at {xs : List TStep} (h : gpB xs = true) {k : Nat} {x : TStep} (hx : xs[k]? = some x) : 0 ≤ x.1 ∧ x.1 < 6 ∧ 0 ≤ x.2.2 ∧ x.2.2 < 4 ∧ 1 ≤ x.2.1 ∧ x.2.1 ≤ 2 := by
  simp only [gpB, Bool.and_eq_true, decide_eq_true_eq, List.all_eq_true] at h
  exact stOk_iff.1 (h.2 x (List.mem_of_getElem? hx))
/-- Two steps clash. -/
def clB (x y : TStep) : Bool := decide (x.1 ≠ y.1) && (decide (x.2.2 = y.2.2) && (decide (x.2.1 = 2) || decide (y.2.1 = 2)))

end Go.Proofs.YtjjebodlekepaaaDoor

/- Dependencies as things in memory. -/
namespace Go.Proofs.YtjjebodlekepaaaDoor
open Go.RowKit

/-- A dependency: From, To. -/
abbrev Dep := List Int × List Int
abbrev RDep : Rep Dep := Rep.pair RInts RInts
theorem RDep_k : RDep.k = 2 := rfl

theorem RDep.at_open {w : World} {cs : List Value} {x : Dep} (h : RDep.At w cs x) : ∃ fa fn fc ta tn tc, cs = [.slice fa fn fc, .slice ta tn tc] ∧
    (x.1.length = fn ∧ fn ≤ 9223372036854775807 ∧ At w fa x.1) ∧ (x.2.length = tn ∧ tn ≤ 9223372036854775807 ∧ At w ta x.2) := by
  obtain ⟨c1, c2, rfl, ⟨fa, fn, fc, rfl, t1, t2, t3, _⟩, ⟨ta, tn, tc, rfl, u1, u2, u3, _⟩⟩ := h
  exact ⟨fa, fn, fc, ta, tn, tc, rfl, ⟨t1, t2, atSl_int.1 t3⟩, ⟨u1, u2, atSl_int.1 u3⟩⟩

/-- What a dependency by value is, slice by slice. -/
theorem RDep.at_iff {w : World} {fa : Option Addr} {fn fc : Nat} {ta : Option Addr} {tn tc : Nat} {x : Dep} (h : RDep.At w [.slice fa fn fc, .slice ta tn tc] x) :
    (x.1.length = fn ∧ fn ≤ 9223372036854775807 ∧ At w fa x.1 ∧ (fa = none → fc = 0)) ∧ (x.2.length = tn ∧ tn ≤ 9223372036854775807 ∧ At w ta x.2 ∧ (ta = none → tc = 0)) := by
  obtain ⟨c1, c2, e, ⟨fa', fn', fc', rfl, t1, t2, t3, t4⟩, ⟨ta', tn', tc', rfl, u1, u2, u3, u4⟩⟩ := h
  simp only [List.cons_append, List.nil_append, List.cons.injEq, Value.slice.injEq, and_true] at e
  obtain ⟨⟨rfl, rfl, rfl⟩, rfl, rfl, rfl⟩ := e
  exact ⟨⟨t1, t2, atSl_int.1 t3, t4⟩, ⟨u1, u2, atSl_int.1 u3, u4⟩⟩

theorem RDep.own_mk {w : World} {F F1 F2 : Nat → Prop} {fs ts : List Int} {fa : Option Addr} {fn fc : Nat} {ta : Option Addr} {tn tc : Nat}
    (h1 : RInts.Own w F1 [.slice fa fn fc] fs) (h2 : RInts.Own w F2 [.slice ta tn tc] ts) (f1 : ∀ b, F1 b → F b) (f2 : ∀ b, F2 b → F b) (d12 : ∀ b, F1 b → ¬ F2 b) : RDep.Own w F [.slice fa fn fc, .slice ta tn tc] (fs, ts) :=
  ⟨[_], [_], F1, F2, rfl, h1, h2, f1, f2, d12⟩

theorem RDep.own_open {w : World} {F : Nat → Prop} {cs : List Value} {x : Dep} (h : RDep.Own w F cs x) : ∃ fa fn fc ta tn tc F1 F2, cs = [.slice fa fn fc, .slice ta tn tc] ∧
    RInts.Own w F1 [.slice fa fn fc] x.1 ∧ RInts.Own w F2 [.slice ta tn tc] x.2 ∧ (∀ b, F1 b → F b) ∧ (∀ b, F2 b → F b) ∧ (∀ b, F1 b → ¬ F2 b) := by
  obtain ⟨c1, d1, F1, F2, rfl, h1, h2, a1, a2, a3⟩ := h
  obtain ⟨ta, tn, tc, tcells, tG, rfl, tl⟩ := h1
  obtain ⟨ca, cn, cc, ccells, cG, rfl, cl⟩ := h2
  exact ⟨ta, tn, tc, ca, cn, cc, F1, F2, rfl, ⟨ta, tn, tc, tcells, tG, rfl, tl⟩, ⟨ca, cn, cc, ccells, cG, rfl, cl⟩, a1, a2, a3⟩

/-- How many slots the laws count for a dependency; and for some. -/
def dcost (x : Dep) : Nat := x.1.length + x.2.length
abbrev dsum (xs : List Dep) (k : Nat) : Nat := szL dcost xs k
theorem dsum_zero (xs : List Dep) : dsum xs 0 = 0 := by simp [dsum, szL]
theorem dsum_succ {xs : List Dep} {k : Nat} {x : Dep} (h : xs[k]? = some x) : dsum xs (k + 1) = dsum xs k + dcost x := szL_succ dcost h
theorem dsum_mono (xs : List Dep) (j k : Nat) (h : j ≤ k) : dsum xs j ≤ dsum xs k := szL_mono dcost xs j k h
theorem dsum_each {xs : List Dep} {n i : Nat} {x : Dep} (hn : xs.length = n) (h : xs[i]? = some x) : dcost x ≤ dsum xs n := by
  have hi := (List.getElem?_eq_some_iff.1 h).1
  have h1 := szL_succ dcost h
  have h2 := szL_mono dcost xs (i + 1) n (by omega)
  show dcost x ≤ szL dcost xs n
  omega

/-- Dependencies within the laws' bound. -/
def SmDep (x : Dep) : Prop := x.1.length ≤ 1048576 ∧ x.2.length ≤ 1048576
theorem SmDep.of {x : Dep} (h : dcost x ≤ 1048576) : SmDep x := by unfold dcost at h; exact ⟨by omega, by omega⟩
def SmD (xs : List Dep) (n : Nat) : Prop := xs.length = n ∧ n + dsum xs n ≤ 1048576
theorem SmD.n {xs : List Dep} {n : Nat} (h : SmD xs n) : n ≤ 1048576 := by have := h.2; omega
theorem SmD.sum {xs : List Dep} {n : Nat} (h : SmD xs n) : dsum xs n ≤ 1048576 := by have := h.2; omega
theorem SmD.each {xs : List Dep} {n : Nat} (h : SmD xs n) {i : Nat} {x : Dep} (hx : xs[i]? = some x) : SmDep x := by
  have := dsum_each h.1 hx
  have := h.2
  exact SmDep.of (by omega)

/-- A slice of dependencies as it is read: what a row of it is. -/
abbrev AtD (w : World) (a : Option Addr) (xs : List Dep) : Prop := AtSl RDep w a xs
theorem AtD.row {w : World} {a : Option Addr} {xs : List Dep} (h : AtD w a xs) (hp : 0 < xs.length) : ∃ b off, a = some ⟨b, off, none⟩ ∧ b < w.heap.size ∧ ∀ (i : Nat) (x : Dep), xs[i]? = some x → ∃ fa fn fc ta tn tc,
    w.cell? ⟨b, off + i * 2, none⟩ = some (.slice fa fn fc) ∧ w.cell? ⟨b, off + i * 2 + 1, none⟩ = some (.slice ta tn tc) ∧ (x.1.length = fn ∧ fn ≤ 9223372036854775807 ∧ At w fa x.1) ∧ (x.2.length = tn ∧ tn ≤ 9223372036854775807 ∧ At w ta x.2) := by
  obtain ⟨b, off, rfl, hc⟩ := AtSl.each h hp
  have row : ∀ (i : Nat) (x : Dep), xs[i]? = some x → ∃ fa fn fc ta tn tc,
    w.cell? ⟨b, off + i * 2, none⟩ = some (.slice fa fn fc) ∧ w.cell? ⟨b, off + i * 2 + 1, none⟩ = some (.slice ta tn tc) ∧ (x.1.length = fn ∧ fn ≤ 9223372036854775807 ∧ At w fa x.1) ∧ (x.2.length = tn ∧ tn ≤ 9223372036854775807 ∧ At w ta x.2) := by
    intro i x hx
    obtain ⟨cs, h1, h2⟩ := hc i x hx
    obtain ⟨fa, fn, fc, ta, tn, tc, rfl, t, u⟩ := RDep.at_open h2
    exact ⟨fa, fn, fc, ta, tn, tc, h1 0 _ rfl, h1 1 _ rfl, t, u⟩
  refine ⟨b, off, rfl, ?_, row⟩
  obtain ⟨fa, fn, fc, ta, tn, tc, h1, _⟩ := row 0 xs[0] (List.getElem?_eq_getElem hp)
  exact World.block_lt_of_cell? _ _ h1

theorem AtD.rowD {w : World} {a : Option Addr} {xs : List Dep} (h : AtD w a xs) (hp : 0 < xs.length) : ∃ b off, a = some ⟨b, off, none⟩ ∧ ∀ (i : Nat) (x : Dep), xs[i]? = some x → ∃ fa fn fc ta tn tc,
    w.cell? ⟨b, off + i * 2, none⟩ = some (.slice fa fn fc) ∧ w.cell? ⟨b, off + i * 2 + 1, none⟩ = some (.slice ta tn tc) ∧ RDep.At w [.slice fa fn fc, .slice ta tn tc] x := by
  obtain ⟨b, off, rfl, hc⟩ := AtSl.each h hp
  refine ⟨b, off, rfl, fun i x hx => ?_⟩
  obtain ⟨cs, h1, h2⟩ := hc i x hx
  obtain ⟨fa, fn, fc, ta, tn, tc, rfl, t, u⟩ := RDep.at_open h2
  exact ⟨fa, fn, fc, ta, tn, tc, h1 0 _ rfl, h1 1 _ rfl, h2⟩
theorem AtD.one {w : World} {b : Nat} {fa : Option Addr} {fn fc : Nat} {ta : Option Addr} {tn tc : Nat} {x : Dep} (h0 : w.cell? ⟨b, 0, none⟩ = some (.slice fa fn fc)) (h1 : w.cell? ⟨b, 1, none⟩ = some (.slice ta tn tc)) (h : RDep.At w [.slice fa fn fc, .slice ta tn tc] x) :
    AtD w (some ⟨b, 0, none⟩) [x] := by
  refine .inr ⟨b, 0, rfl, fun i y hy => ?_⟩
  have hi : i = 0 := by have := (List.getElem?_eq_some_iff.1 hy).1; simp at this; omega
  subst hi
  obtain rfl : x = y := by simpa using hy
  refine ⟨_, fun j v hv => ?_, h⟩
  match j, hv with
  | 0, hv => obtain rfl := Option.some.inj hv; simpa using h0
  | 1, hv => obtain rfl := Option.some.inj hv; simpa using h1

end Go.Proofs.YtjjebodlekepaaaDoor

/- Plain: rising lists of numbers. -/
namespace Go.Proofs.YtjjebodlekepaaaDoor
open Go.RowKit

/-- Rising behind p, and below c. -/
def risB (c : Int) : Int → List Int → Bool
  | _, [] => true
  | p, z :: zs => decide (p < z) && (decide (z < c) && risB c z zs)
def ris (c : Int) (l : List Int) : Bool := risB c (-1) l
theorem risB_done (c p : Int) (zs : List Int) (n : Nat) (h : zs.length = n) : risB c p (zs.drop n) = true := by
  rw [List.drop_of_length_le (by omega)]; rfl
theorem risB_step (c p : Int) (zs : List Int) (k : Nat) (h : k < zs.length) : risB c p (zs.drop k) = (decide (p < zs.getD k 0) && (decide (zs.getD k 0 < c) && risB c (zs.getD k 0) (zs.drop (k + 1)))) := by
  rw [List.drop_eq_getElem_cons h]
  have e : zs.getD k 0 = zs[k] := by simp [List.getD, h]
  rw [e]
  rfl

end Go.Proofs.YtjjebodlekepaaaDoor
