/- Several texts of one proof, in build order: StpA, QvS. -/
import Derived.Lib.Walk
import Derived.Test.YtociphdhkjoofaaM8
import Derived.Test.YtociphdhkjoofaaM11
import Derived.Test.YtociphdhkjoofaaM9
import Derived.Test.YtociphdhkjoofaaM13
import Derived.Deep.CutBlock

/- An append of ints at a step of a region that draws. -/
namespace Go.Proofs.Ytociphdhkjoofaa
open Go.RowKit

/-- 'append(out, xs...)' of whatever ints, at a step of a region that draws. -/
theorem stepA_all {P : Program} {w : World} {ops : Array Oper} {o : Oper} {a : Act} {K : Act → World → Prop} {Q : Exit → Act → World → Prop} {E : Prop} (hgd : o.guard = none) (s x : Operand) (t : TypeId)
    (ho : o.op = .call { callee := .builtin .append, args := #[s, x], argTypes := #[t, t] })
    (base : Nat) (e : TypeId) (i : TypeInfo) (z : Value) (bytes : Nat) (ht : P.underlying t = some (.slice e)) (hi : P.info? e = some i) (hz : i.zero = some z)
    (hsize : i.size = 1) (hby : i.bytes = bytes) (hzs : z.cells.size = 1)
    (v : Value) (n : Nat) (xs : List Value) (hs : a.eval s = v) (hown : w.ownsRow base e 1 v n xs)
    (ao : Option Addr) (m c : Nat) (zs : List Int) (hx : a.eval x = .slice ao m c) (hl : zs.length = m) (hat : At w ao zs) (hnil : ao = none → c = 0)
    (h63 : n + m ≤ maxLen) (hbytes : (n + m) * bytes ≤ 140737488355328) (hbase : base ≤ w.heap.size)
    (h : ∀ r cap w', w'.ownsRow base e 1 (.slice r (n + m) cap) (n + m) (xs ++ zs.map (.int .i64)) → w.grownBy w' v.ownBlock → ((Value.slice r (n + m) cap).ownBlock = v.ownBlock ∨ (Value.slice r (n + m) cap).ownBlock = some w.heap.size) → K (a.put o.dst (.slice r (n + m) cap)) w') :
    if Region.wanted o (yielded ops a.tmps) = true then Oper.wp P o a w K Q else E := by
  have hw : Region.wanted o (yielded ops a.tmps) = true := by simp [Region.wanted, hgd]
  rw [if_pos hw]
  cases ao with
  | none =>
    have hc := hnil rfl
    have hzs' : zs = [] := by
      rcases hat with h | ⟨b, off, h, _⟩
      · exact h
      · cases h
    subst hzs' hc
    simp at hl
    subst hl
    obtain ⟨r, cap, rfl⟩ := owns_slice hown
    have hrun := run_append_owned_none (P := P) (w := w) base t o.type e i 1 ht hi (.slice r n cap) n xs hown
    have := h r cap w (by simpa using hown) (World.grownBy.refl _ _) (.inl rfl)
    unfold Oper.wp
    simp [execOp, ho, resolve, invoke, builtin, hs, hx, hrun, Result.andThen]
    rw [Nat.add_zero] at this
    exact this
  | some ad =>
    obtain ⟨v', w', hr, h2, h3, _, h5⟩ := run_append_own_at (P := P) w base t o.type e i z 1 bytes ht hi hz hsize hby hzs (by decide) v n xs hown ad m c (zs.map (.int .i64)) (by simpa using hl) (fun j u hj => by
      have hjl : j < zs.length := by
        have := (List.getElem?_eq_some_iff.1 hj).1
        simpa using this
      obtain ⟨b, off, he, _, hc⟩ := hat.some (by omega)
      simp only [Option.some.injEq] at he
      subst he
      rw [Addr.add_lit, hc j hjl]
      simpa [List.getD, hjl] using hj) (fun u hu => by
      obtain ⟨y, _, rfl⟩ := List.mem_map.1 hu
      rfl) h63 hbytes hbase
    obtain ⟨r, cap, rfl⟩ := owns_slice h2
    unfold Oper.wp execOp
    simp only [ho, resolve, invoke, builtin, Sem.run_bind, Sem.run_pure, Result.andThen_ok, List.map_toArray, List.map_cons, List.map_nil, hs, hx, hr]
    exact h r cap w' h2 h3 h5

theorem at_one (w : World) (x : Int) (t : TypeId) : At (w.alloc (.cells #[.int .i64 x] t)) (some ⟨w.heap.size, 0, none⟩) [x] := .inr ⟨_, 0, rfl, fun i hi => by
  have : i = 0 := by simpa using hi
  subst this
  simp⟩

theorem atA_far {w w' : World} {row : Option Nat} {b : Nat} {zs : List Int} (h : At w (some ⟨b, 0, none⟩) zs) (hg : w.grownBy w' row) (hne : row ≠ some b) : At w' (some ⟨b, 0, none⟩) zs := by
  rcases h with h | ⟨b', off, e, hc⟩
  · exact .inl h
  · cases e
    exact .inr ⟨b, 0, rfl, fun i hi => hg.cell (hc i hi) (fun e => hne e.symm)⟩

end Go.Proofs.Ytociphdhkjoofaa

/- Contracts of spec.l10Var, spec.l10Vars, spec.VarsIn. -/
namespace Go.Proofs.Ytociphdhkjoofaa
open Go.RowKit

theorem l10Var_any (x : Int) (w : World) :
    Calls Try.prog 51 #[.int .i64 x] w fun e w' => e = .returned (.bool (vOk x)) ∧ w' = w := by
  by_cases h0 : 0 ≤ x
  · have hv : vOk x = decide (x < 6) := by unfold vOk; rw [decide_eq_true h0, Bool.true_and]
    rw [hv]
    go_enter Try.func51, Try.ntmps51
    go_wp2
    go_ret
    exact ⟨ret_bool (by simp), rfl⟩
  · have hv : vOk x = false := by unfold vOk; rw [decide_eq_false h0]; rfl
    rw [hv]
    go_enter Try.func51, Try.ntmps51
    go_wp2
    go_ret
    exact ⟨rfl, rfl⟩

/-- The variables of the first k atoms, and of the first j variables of the next. -/
def vsTo (zs : List Atm) (k : Nat) (ys : List Int) (j : Nat) : Nat := vset (zs.take k) ||| mk (ys.take j)
theorem vsTo_next {zs : List Atm} {k : Nat} {x : Atm} (h : zs[k]? = some x) : vsTo zs k x.2 x.2.length = vset (zs.take (k + 1)) := by
  unfold vsTo vset
  rw [flat_take zs k h, mk_append, List.take_length]

set_option maxRecDepth 100000 in
set_option maxHeartbeats 4000000 in
theorem l10Vars_any (ha : Option Addr) (hn hc : Nat) (a : Option Addr) (n c : Nat) (zs : List Atm) (w : World) (hz : zs.length = n) (hb : n ≤ 9223372036854775807) (hin : ∀ x ∈ zs, ∀ v ∈ x.2, (0 : Int) ≤ v ∧ v < 6) (hat : AtQ w a zs) :
    Calls Try.prog 53 #[.agg #[.slice ha hn hc, .slice a n c]] w fun e w' => ∃ r m d, e = .returned (.slice r m d) ∧ (bl (vset zs)).length = m ∧ w'.ownsRow w.heap.size 3 1 (.slice r m d) m ((bl (vset zs)).map (.int .i64)) ∧ Below w.heap.size w w' := by
  obtain ⟨W, hW⟩ : ∃ W, W = w.alloc (.cells #[.slice ha hn hc, .slice a n c] 29) := ⟨_, rfl⟩
  have B0 : Below w.heap.size w W := by rw [hW]; exact (Below.refl _ _).alloc (Nat.le_refl _) _
  have HZ := Hid.mk hz
  have HA := Hid.mk hat
  have HIN := Hid.mk hin
  have HE : Hid (∀ wr : World, wr.ownsRow w.heap.size 3 1 (.slice none 0 0) 0 ((bl (vset (zs.take 0))).map (.int .i64))) := fun wr => (by rw [List.take_zero, show bl (vset []) = [] by decide +kernel]; exact World.ownsRow_nil _ _ _ _)
  clear hz hat hin
  go_enter Try.func53, Try.ntmps53
  go_upto_region 3 with fail
  rw [← hW]
  clear hW
  go_loopw [3, 11] (fun p i wr => ∃ (k m : Nat) (r : Option Addr) (d : Nat), k ≤ n ∧ i = .int .i64 k ∧ p = .slice r m d ∧ (bl (vset (zs.take k))).length = m ∧ wr.ownsRow w.heap.size 3 1 (.slice r m d) m ((bl (vset (zs.take k))).map (.int .i64)) ∧ Below w.heap.size w wr) (fun _ i _ => n - (intOf i).toNat)
  case atStart => exact ⟨0, 0, none, 0, Nat.zero_le _, rfl, rfl, by rw [List.take_zero]; decide +kernel, HE.out _, B0⟩
  case round =>
    clear HE B0
    obtain ⟨k, m, r, d, hk, rfl, rfl, hm, ho, hbw⟩ := hrel
    obtain ⟨wY, rfl⟩ : ∃ x, x = wr := ⟨_, rfl⟩
    by_cases hlt : k < n
    · obtain ⟨x, hx⟩ : ∃ x, zs[k]? = some x := ⟨_, List.getElem?_eq_getElem (by have := HZ.out; omega)⟩
      obtain ⟨b, off, rfl, _, hc⟩ := AtQ.row HA.out (by have := HZ.out; omega)
      obtain ⟨ta, tn, tc, g0, g1, u1, u2, u3, _⟩ := hc k x hx
      have g0 := cell_later hbw g0
      have g1 := cell_later hbw g1
      have hki : (k : Int) < (n : Int) := by omega
      have hxin : ∀ v ∈ x.2, (0 : Int) ≤ v ∧ v < 6 := HIN.out x (List.mem_of_getElem? hx)
      have hvl : vset (zs.take k) < 64 := vset_lt (fun y hy => HIN.out y (List.mem_of_mem_take hy))
      obtain ⟨U, hU⟩ : ∃ U, U = wY.alloc (.cells #[.int .i64 x.1, .slice ta tn tc] 58) := ⟨_, rfl⟩
      have hbU : Below wY.heap.size wY U := by rw [hU]; exact (Below.refl _ _).alloc (Nat.le_refl _) _
      have HO : Hid (U.ownsRow w.heap.size 3 1 (.slice r m d) m ((bl (vsTo zs k x.2 0)).map (.int .i64))) := by
        show World.ownsRow _ _ _ _ _ _ _
        have : vsTo zs k x.2 0 = vset (zs.take k) := by simp [vsTo, mk]
        rw [this]
        exact owns_below ho hbU
      have HM : Hid ((bl (vsTo zs k x.2 0)).length = m) := by
        show _ = _
        have : vsTo zs k x.2 0 = vset (zs.take k) := by simp [vsTo, mk]
        rw [this]; exact hm
      have HU3 := Hid.mk u3
      have HU1 := Hid.mk u1
      have HX := Hid.mk hx
      have HXI := Hid.mk hxin
      have HBW := Hid.mk hbw
      have HBU := Hid.mk (hbw.trans (hbU.mono hbw.size))
      have g1' : U.cell? ⟨wY.heap.size, 1, none⟩ = some (.slice ta tn tc) := by rw [hU]; exact pair1 wY _ _ _
      clear hc u3 u1 hx hxin hm ho hbw
      go_upto_region 5 with fail
      rw [← hU]
      clear hU g0 g1
      go_wp2_with fail
      go_loopw [3, 18] (fun p i wx => ∃ (j m' : Nat) (r' : Option Addr) (d' : Nat), j ≤ tn ∧ i = .int .i64 j ∧ p = .slice r' m' d' ∧ (bl (vsTo zs k x.2 j)).length = m' ∧ wx.ownsRow w.heap.size 3 1 (.slice r' m' d') m' ((bl (vsTo zs k x.2 j)).map (.int .i64)) ∧ Below w.heap.size w wx) (fun _ i _ => tn - (intOf i).toNat)
      case atStart => exact ⟨0, m, r, d, Nat.zero_le _, rfl, rfl, HM.out, HO.out, HBU.out⟩
      case round =>
        clear HM HO HBU g1' hbU
        obtain ⟨j, m', r', d', hj, rfl, rfl, hm', ho', hbx⟩ := hrel
        obtain ⟨wX, rfl⟩ : ∃ x, x = wr := ⟨_, rfl⟩
        by_cases hjt : j < tn
        · have hAx := At.below HU3.out hbx
          obtain ⟨b', off', rfl, _, hcx⟩ := hAx.some (by have := HU1.out; omega)
          have hv := hcx j (by have := HU1.out; omega)
          have hji : (j : Int) < (tn : Int) := by omega
          have hins : insI (bl (vsTo zs k x.2 j)) (x.2.getD j 0) = bl (vsTo zs k x.2 (j + 1)) := ins_take hvl HXI.out (by have := HU1.out; omega)
          have hml : m' ≤ 2097152 := by have := bl_len (vsTo zs k x.2 j); omega
          obtain ⟨y, hy⟩ : ∃ y, y = x.2.getD j 0 := ⟨_, rfl⟩
          rw [← hy] at hv hins
          have HI := Hid.mk hins
          have HP := Hid.mk (l7Put_any w.heap.size r' m' d' (bl (vsTo zs k x.2 j)) y wX hm' hml hbx.size ho')
          have HBX := Hid.mk hbx
          clear hcx hy hins hm' ho' hbx hAx hml
          go_wp2_with fail
          refine HP.out.mono ?_
          rintro e w2 ⟨r2, m2, d2, rfl, h2, o2, b2⟩
          rw [HI.out] at h2 o2
          have HH := Hid.mk h2
          have HO2 := Hid.mk o2
          have HB2 := Hid.mk (HBX.out.trans (b2.mono HBX.out.size))
          clear h2 o2 b2 HBX HP
          go_wp2
          go_roundw
          case rel => exact ⟨j + 1, m2, r2, d2, by omega, by go_num, rfl, HH.out, HO2.out, HB2.out⟩
          case measure => simp [intOf]; omega
        · obtain rfl : j = tn := by omega
          have hvn := vsTo_next HX.out
          rw [HU1.out] at hvn
          rw [hvn] at hm' ho'
          have HM' := Hid.mk hm'
          have HO' := Hid.mk ho'
          clear hvn hm' ho'
          go_wp2
          go_roundw
          case rel => exact ⟨k + 1, m', r', d', by omega, by go_num, rfl, HM'.out, HO'.out, hbx⟩
          case measure => simp [intOf]; omega
    · obtain rfl : k = n := by omega
      rw [List.take_of_length_le (by have := HZ.out; omega)] at hm ho
      have HM := Hid.mk hm
      have HO := Hid.mk ho
      clear hm ho
      go_wp2
      go_ret
      exact ⟨r, m, d, rfl, HM.out, HO.out, hbw⟩


end Go.Proofs.Ytociphdhkjoofaa
