/- Contract of slices.Clone at ints. -/
import Derived.Test.YtecaaekilbdgdaaIntS
import Derived.Test.YtecaaekilbdgdaaAppendAll
namespace Go.Proofs.Ytecaaekilbdgdaa
open Go.RowKit

theorem own_void (w : World) (e : TypeId) (size : Nat) : (w.alloc (.cells #[] e)).ownsRow w.heap.size e size (.slice (some ⟨w.heap.size, 0, none⟩) 0 0) 0 [] :=
  ⟨by simp, .inr ⟨w.heap.size, 0, #[], rfl, Nat.le_refl _, heap_alloc_new w _, by simp, by simp, by simp, by simp⟩⟩
theorem eqNilI (a : Option Addr) (n c : Nat) (w : World) : (binOp .eql 22 (.slice a n c) (.slice none 0 0)).run Try.prog w = .ok (.bool a.isNone) w := by
  have he : (Op.equalIn (9999 + 1) 22 (.slice a n c) (.slice none 0 0)).run Try.prog w = .ok a.isNone w := by
    unfold Op.equalIn
    simp only [Sem.run_bind, run_underlying Try.underlying22, Result.andThen_ok]
    cases a <;> rfl
  have he' : (Op.equal 22 (.slice a n c) (.slice none 0 0)).run Try.prog w = .ok a.isNone w := he
  simp only [binOp]
  rw [Sem.run_bind, he']
  rfl

set_option maxHeartbeats 2000000 in
theorem cloneI_any (a : Option Addr) (n c : Nat) (zs : List Int) (w : World) (hz : zs.length = n) (hn : n ≤ 1048576) (hF : a = none → c = 0) (ha : At w a zs) :
    Calls Try.prog 27 #[.slice a n c] w fun e w' => ∃ r d, e = .returned (.slice r n d) ∧ w'.ownsRow w.heap.size 3 1 (.slice r n d) n (zs.map (.int .i64)) ∧ Below w.heap.size w w' := by
  obtain ⟨i0, hi, hz0, hz1, hz2⟩ := info_parts Try.infoInt
  cases a with
  | none =>
    have hc0 := hF rfl
    subst hc0
    have hM : zs = [] := by rcases ha with h | ⟨b, off, h, _⟩; exact h; cases h
    subst hM
    have hn0 : 0 = n := hz
    subst hn0
    have hq := fun w => eqNilI none 0 0 w
    go_enter Try.func27, Try.ntmps27
    go_wp2
    go_ret
    exact ⟨none, 0, rfl, World.ownsRow_nil _ _ _ _, Below.refl _ _⟩
  | some ad =>
    have OE := Hid.mk (own_void w 3 1)
    have HA := Hid.mk (ha.alloc (.cells #[] 3))
    have HZ := Hid.mk hz
    clear ha hF hz
    have hq := fun w => eqNilI (some ad) n c w
    go_enter Try.func27, Try.ntmps27
    go_wp2_with (at_builtin; refine wpList_append_all rfl (.tmp 5) (.tmp 6) 22 rfl w.heap.size 3 i0 (.int .i64 0) 8 Try.underlying22 hi hz0 hz1 hz2 rfl (.slice (some ⟨w.heap.size, 0, none⟩) 0 0) 0 [] rfl OE.out (some ad) n c zs rfl HZ.out HA.out (fun h => by cases h) (by unfold maxLen; omega) (by omega) (by simp) ?_)
    intro r1 d1 w1 ho1 hg1
    have HB : Hid (Below w.heap.size w w1) := ((Below.refl _ _).alloc (Nat.le_refl _) _).grown hg1 (by simp) (fun j hj => by simp [Value.ownBlock] at hj; omega)
    have HO : Hid (w1.ownsRow w.heap.size 3 1 (.slice r1 n d1) n (zs.map (.int .i64))) := Hid.mk (by simpa using ho1)
    clear ho1 hg1
    go_wp2
    go_ret
    exact ⟨r1, d1, by first | rfl | simp, HO.out, HB.out⟩

end Go.Proofs.Ytecaaekilbdgdaa
