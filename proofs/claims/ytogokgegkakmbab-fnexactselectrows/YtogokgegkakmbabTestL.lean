/- markTestS, and the laws' helpers over lists of tests in one form. -/
import Derived.Test.YtogokgegkakmbabTestS
namespace Go.Proofs.Ytogokgegkakmbab
open Go.RowKit

set_option maxRecDepth 100000 in
set_option maxHeartbeats 2000000 in
theorem markTestS_any (base : Nat) (a : Option Addr) (n c : Nat) (cs : List Value) (m : Int) (w : World) (hn : n ≤ 1048576) (h0 : 0 ≤ m) (h1 : m ≤ 1073741824) (hown : w.ownsRow base 64 3 (.slice a n c) n cs) :
    Calls Try.prog 18 #[.slice a n c, .int .i64 m] w fun e w' => e = .returned (.int .i64 (m + (n * 3 : Nat))) ∧
      w'.ownsRow base 64 3 (.slice a n c) n ((marks m (n * 3)).map (.int .i64)) ∧ w.grownBy w' (Value.slice a n c).ownBlock := by
  rcases hown.2 with ⟨hv, h00⟩ | ⟨g, cap, cur, hv, hjunk⟩
  · simp only [Value.slice.injEq] at hv
    obtain ⟨rfl, rfl, rfl⟩ := hv
    go_enter Try.func18, Try.ntmps18
    go_wp2
    refine wp_loop_rounds 1 ?_
    rw [rounds_succ]
    go_wp2
    go_ret
    exact ⟨by simp, by simpa [marks] using World.ownsRow_nil w base 64 3, World.grownBy.refl _ _⟩
  · simp only [Value.slice.injEq, true_and] at hv
    obtain ⟨rfl, rfl⟩ := hv
    clear hjunk
    have hu0 := Upto.zero (cs := cs) (zs := marks m (n * 3)) (by rw [marks_length]; simpa using hown.1)
    go_enter Try.func18, Try.ntmps18
    go_wp2
    go_loopw [1, 5] (fun q i wr => ∃ (k : Nat) (cs : List Value), k ≤ n ∧ i = .int .i64 k ∧ q = .int .i64 (m + 3 * (k : Int)) ∧ Upto cs (marks m (n * 3)) (k * 3) ∧ wr.ownsRow base 64 3 (.slice (some ⟨g, 0, none⟩) n c) n cs ∧ w.grownBy wr (some g)) (fun _ i _ => n - (intOf i).toNat)
    case atStart => exact ⟨0, cs, Nat.zero_le _, rfl, by simp, hu0, hown, World.grownBy.refl _ _⟩
    case round =>
      clear hown hu0 cs
      obtain ⟨k, cs, hk, rfl, rfl, hu, hown, hbw⟩ := hrel
      by_cases hlt : k < n
      · have hlen : cs.length = n * 3 := by rw [hu.1, marks_length]
        have hset := hu.set3 (by rw [marks_length]; omega)
        rw [marks_getD m (n * 3) (k * 3) (by omega), marks_getD m (n * 3) (k * 3 + 1) (by omega), marks_getD m (n * 3) (k * 3 + 2) (by omega)] at hset
        obtain ⟨x, hx⟩ : ∃ x : Int, x = m + 3 * (k : Int) := ⟨_, rfl⟩
        rw [show m + ((k * 3 : Nat) : Int) = x by omega, show m + ((k * 3 + 1 : Nat) : Int) = x + 1 by omega, show m + ((k * 3 + 2 : Nat) : Int) = x + 1 + 1 by omega] at hset
        have HU := Hid.mk hset
        have HX := Hid.mk hx
        have x0 : 0 ≤ x := by omega
        have x1 : x ≤ 1077000000 := by omega
        rw [← hx]
        clear hset hu hx
        obtain ⟨u0, hu0⟩ : ∃ u, cs[k * 3]? = some u := ⟨_, List.getElem?_eq_getElem (by omega)⟩
        obtain ⟨u1, hu1⟩ : ∃ u, cs[k * 3 + 1]? = some u := ⟨_, List.getElem?_eq_getElem (by omega)⟩
        obtain ⟨u2, hu2⟩ : ∃ u, cs[k * 3 + 2]? = some u := ⟨_, List.getElem?_eq_getElem (by omega)⟩
        have q0 : wr.cell? ⟨g, k * 3, none⟩ = some u0 := (hown.cellAt _ (by omega)).trans hu0
        have q1 : wr.cell? ⟨g, k * 3 + 1, none⟩ = some u1 := (hown.cellAt _ (by omega)).trans hu1
        have q2 : wr.cell? ⟨g, k * 3 + 2, none⟩ = some u2 := (hown.cellAt _ (by omega)).trans hu2
        have p0 : wr.frozen? ⟨g, k * 3, none⟩ = false := hown.frozenAt _
        have p1 : wr.frozen? ⟨g, k * 3 + 1, none⟩ = false := hown.frozenAt _
        have p2 : wr.frozen? ⟨g, k * 3 + 2, none⟩ = false := hown.frozenAt _
        have s1 := hown.stored (k * 3) (.int .i64 x)
        have s2 := s1.1.stored (k * 3 + 1) (.int .i64 (x + 1))
        have s3 := s2.1.stored (k * 3 + 2) (.int .i64 (x + 1 + 1))
        have HO := Hid.mk s3.1
        have HB := Hid.mk (grown_trans (grown_trans (grown_trans hbw s1.2) s2.2) s3.2)
        have hki : (k : Int) < (n : Int) := by omega
        clear s1 s2 s3 hu0 hu1 hu2 hown hbw
        go_wp2
        go_roundw
        case rel => exact ⟨k + 1, _, by omega, by go_num, by have := HX.out; first | (go_num; omega) | (congr 1; omega), HU.out, HO.out, HB.out⟩
        case measure => simp [intOf]; omega
      · obtain rfl : k = n := by omega
        rw [hu.all (by rw [marks_length]; omega)] at hown
        go_wp2
        go_ret
        exact ⟨ret_int (by omega), hown, hbw⟩

/-- A list of tests that the laws' bound allows. -/
def SmE (es : List Tst) (n : Nat) : Prop := es.length = n ∧ n ≤ 1048576
theorem SmE.n {es : List Tst} {n : Nat} (h : SmE es n) : n ≤ 1048576 := h.2
def OwnF (w : World) (lo hi : Nat) (a : Option Addr) (n c : Nat) (zs : List Int) : Prop :=
  w.ownsRow lo 64 3 (.slice a n c) n (zs.map (.int .i64)) ∧ (∀ k, (Value.slice a n c).ownBlock = some k → lo ≤ k ∧ k < hi)
/-- A slice of tests that the call made: its block lies from lo on and below hi. -/
def OwnE (w : World) (lo hi : Nat) (a : Option Addr) (n c : Nat) (es : List Tst) : Prop := OwnF w lo hi a n c (flatE es)

section
variable {w w' : World} {lo hi : Nat} {a : Option Addr} {n c : Nat} {es : List Tst} {zs : List Int}
theorem OwnF.below (h : OwnF w lo hi a n c zs) (hb : Below w.heap.size w w') : OwnF w' lo hi a n c zs := ⟨h.1.kept (Below.toGrown hb none) (by simp; exact Classical.em _), h.2⟩
theorem OwnF.apartW {lo' hi' : Nat} (h : OwnF w lo hi a n c zs) (hp : Apart lo' hi' w w') (hd : hi ≤ lo' ∨ hi' ≤ lo) : OwnF w' lo hi a n c zs := ⟨hp.owns h.1 (fun k hk => by have := h.2 k hk; omega), h.2⟩
theorem OwnE.below (h : OwnE w lo hi a n c es) (hb : Below w.heap.size w w') : OwnE w' lo hi a n c es := OwnF.below h hb
theorem OwnE.apartW {lo' hi' : Nat} (h : OwnE w lo hi a n c es) (hp : Apart lo' hi' w w') (hd : hi ≤ lo' ∨ hi' ≤ lo) : OwnE w' lo hi a n c es := OwnF.apartW h hp hd
theorem OwnE.atE (h : OwnE w lo hi a n c es) (_hs : SmE es n) : AtE w a es := At.owned3 h.1
end

theorem toTestSG (a : Option Addr) (n c : Nat) (es : List Tst) (w : World) (hs : SmE es n) (ha : AtE w a es) :
    Calls Try.prog 13 #[.slice a n c] w fun e w' => ∃ g, e = .returned (.slice (some ⟨g, 0, none⟩) n n) ∧ OwnE w' w.heap.size w'.heap.size (some ⟨g, 0, none⟩) n n es ∧ Below w.heap.size w w' :=
  (toTestS_any a n c es w hs.1 hs.2 ha).mono fun _ _ ⟨h1, h2, h3⟩ => ⟨_, h1, ⟨h2, fun k hk => h2.lt k hk⟩, h3⟩
theorem eqTestSG (a a' : Option Addr) (n c c' : Nat) (es : List Tst) (w : World) (hs : SmE es n) (ha : AtE w a es) (ha' : AtE w a' es) :
    Calls Try.prog 16 #[.slice a n c, .slice a' n c'] w fun e w' => e = .returned (.bool true) ∧ Below w.heap.size w w' :=
  eqTestS_same a a' n c c' es w hs.1 hs.2 ha ha'
theorem markTestSG (lo hi : Nat) (a : Option Addr) (n c : Nat) (es : List Tst) (m : Int) (w : World) (hs : SmE es n) (h0 : 0 ≤ m) (h1 : m ≤ 268435456) (ho : OwnE w lo hi a n c es) :
    Calls Try.prog 18 #[.slice a n c, .int .i64 m] w fun e w' => e = .returned (.int .i64 (m + (n * 3 : Nat))) ∧ OwnF w' lo hi a n c (marks m (n * 3)) ∧ Apart lo hi w w' :=
  (markTestS_any lo a n c _ m w hs.2 h0 (by omega) ho.1).mono fun _ _ ⟨h1, h2, h3⟩ => ⟨h1, ⟨h2, ho.2⟩, Apart.grown h3 ho.2⟩

end Go.Proofs.Ytogokgegkakmbab
