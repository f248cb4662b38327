/- Several texts of one proof, in build order: CovL, StepV. -/
import Derived.Lib.Walk
import Derived.Lib.AppendZerosOnto
import Derived.Test.YtkcfhlpdenjimaaDoorM10
import Derived.Test.YtkcfhlpdenjimaaDoorM4

/- Contracts of slices.Grow, slices.Concat at tellings, and of withoutImplied. -/
namespace Go.Proofs.YtkcfhlpdenjimaaDoor
open Go.RowKit

def FormT (a : Option Addr) (c : Nat) : Prop := (a = none → c = 0) ∧ ∀ ad, a = some ad → ∃ b off, ad = ⟨b, off, none⟩
theorem flatT_app (l m : List (Nat × Nat)) : flatT (l ++ m) = flatT l ++ flatT m := by simp [flatT]

theorem wpList_append_tells {P : Program} {w : World} {ops : Array Oper} {rest : List Oper} {o : Oper} {a : Act} {Q : Exit → Act → World → Prop} (hgd : o.guard = none) (s x : Operand) (t : TypeId)
    (ho : o.op = .call { callee := .builtin .append, args := #[s, x], argTypes := #[t, t] })
    (base : Nat) (e : TypeId) (i : TypeInfo) (z : Value) (bytes : Nat) (ht : P.underlying t = some (.slice e)) (hi : P.info? e = some i) (hz : i.zero = some z)
    (hsize : i.size = 2) (hby : i.bytes = bytes) (hzs : z.cells.size = 2)
    (v : Value) (n : Nat) (xs : List Value) (hs : a.eval s = v) (hown : w.ownsRow base e 2 v n xs)
    (ao : Option Addr) (m c : Nat) (zs : List (Nat × Nat)) (hx : a.eval x = .slice ao m c) (hl : zs.length = m) (hat : AtT w ao zs) (hF : FormT ao c)
    (h63 : n + m ≤ maxLen) (hbytes : (n + m) * bytes ≤ 140737488355328) (hbase : base ≤ w.heap.size)
    (h : ∀ r cap w', w'.ownsRow base e 2 (.slice r (n + m) cap) (n + m) (xs ++ flatT zs) → w.grownBy w' v.ownBlock → wpList P ops Q rest (a.put o.dst (.slice r (n + m) cap)) w') : wpList P ops Q (o :: rest) a w := by
  cases ao with
  | none =>
    have hc := hF.1 rfl
    have hzs' : zs = [] := by
      rcases hat with h | ⟨b, off, h, _⟩
      · exact h
      · cases h
    subst hzs' hc
    simp at hl
    subst hl
    refine wpList_append_own_none hgd s x t ho base e i 2 ht hi v n xs hs hown hx ?_
    obtain ⟨r, cap, rfl⟩ := owns_slice hown
    have := h r cap w (by simpa [flatT] using hown) (World.grownBy.refl _ _)
    simpa using this
  | some ad =>
    obtain ⟨b, off, rfl⟩ := hF.2 ad rfl
    refine wpList_append_own w hgd s x t ho base e i z 2 bytes ht hi hz hsize hby hzs (by decide) v n xs hs hown ⟨b, off, none⟩ m c (flatT zs) hx (by rw [flatT_len, hl]) (AtT.cells hat) flatT_one h63 hbytes hbase ?_
    intro v' w' h2 h3 _
    obtain ⟨r, cap, rfl⟩ := owns_slice h2
    exact h r cap w' h2 h3

theorem growT_none (w : World) : Calls Tryd.prog 97 #[.slice none 0 0, .int .i64 0] w fun e w' => e = .returned (.slice none 0 0) ∧ w' = w := by
  go_enter Tryd.func97, Tryd.ntmps97
  go_wp2
  go_ret
  exact ⟨rfl, rfl⟩

set_option maxRecDepth 100000 in
set_option maxHeartbeats 2000000 in
theorem growT_some (n : Nat) (w : World) (h0 : 0 < n) (hn : n ≤ 10000000) :
    Calls Tryd.prog 97 #[.slice none 0 0, .int .i64 n] w fun e w' => ∃ g cap, e = .returned (.slice (some ⟨g, 0, none⟩) 0 cap) ∧ w'.ownsRow w.heap.size 92 2 (.slice (some ⟨g, 0, none⟩) 0 cap) 0 [] ∧ Below w.heap.size w w' := by
  obtain ⟨i0, hi, hz0, hz1, hz2⟩ := info_parts Tryd.infoTelling
  obtain ⟨cap, hcap⟩ : ∃ cap, cap = grownCap w n 0 92 := ⟨_, rfl⟩
  have hge : n ≤ cap := by rw [hcap]; exact grownCap_ge w n 0 _
  have hle : cap ≤ maxLen := by rw [hcap]; exact grownCap_le_maxLen w n 0 _ (by unfold maxLen; omega)
  obtain ⟨cs, hcs⟩ : ∃ cs, cs = #[] ++ Builtin.zeroCells (Value.agg #[.int .u64 0, .int .u64 0]).cells n ++ Builtin.zeroCells (Value.agg #[.int .u64 0, .int .u64 0]).cells (cap - n) := ⟨_, rfl⟩
  have hsz : cs.size = cap * 2 := by rw [hcs]; simp only [Array.size_append, size_zeroCells]; simp [Value.cells]; omega
  have hrz : ∀ ty, (Builtin.append_ #[64, 3] ty #[.slice none 0 0, .int .i64 (n : Int)]).run Tryd.prog w = .ok (.slice (some ⟨w.heap.size, 0, none⟩) n cap) (w.drew.alloc (.cells cs 92)) := fun ty => by
    have h := Lib.run_append_grow_zeros w 64 3 ty 92 i0 (.agg #[.int .u64 0, .int .u64 0]) .i64 .i64 Tryd.underlying64 Tryd.underlying3 hi hz0 none 0 0 [] (run_firstCells_none w.drew i0.size 0 0 0) n h0 (by rw [hz1]; decide) (by omega) (by omega) (by rw [hz2]; omega) (growslice_fits (by omega) (by rw [hz2]; omega))
    rw [Nat.zero_add, ← hcap] at h
    rw [h, hcs]
  have hb : Below w.heap.size w (w.drew.alloc (.cells cs 92)) := (Below.refl _ _).drew.alloc (Nat.le_refl _) _
  have hown : (w.drew.alloc (.cells cs 92)).ownsRow w.heap.size 92 2 (.slice (some ⟨w.heap.size, 0, none⟩) 0 cap) 0 [] :=
    ⟨by simp, .inr ⟨w.heap.size, cap, cs, rfl, Nat.le_refl _, heap_alloc_new w.drew _, by omega, hle, hsz, by simp⟩⟩
  have hpos : (0 : Int) < (n : Int) := by omega
  have hcap63 : (cap : Int) ≤ 9223372036854775807 := by unfold maxLen at hle; omega
  clear hcs hcap hsz
  go_enter Tryd.func97, Tryd.ntmps97
  go_wp2_with (at_builtin; refine Lib.wpList_append_run _ rfl _ _ _ _ rfl _ _ rfl rfl _ _ (hrz _) ?_)
  go_ret
  exact ⟨_, _, rfl, hown, hb⟩

theorem growT_any (x : Int) (w : World) (h0 : 0 ≤ x) (hn : x ≤ 10000000) :
    Calls Tryd.prog 97 #[.slice none 0 0, .int .i64 x] w fun e w' => ∃ r cap, e = .returned (.slice r 0 cap) ∧ w'.ownsRow w.heap.size 92 2 (.slice r 0 cap) 0 [] ∧ Below w.heap.size w w' := by
  obtain ⟨n, rfl⟩ : ∃ n : Nat, x = n := ⟨x.toNat, by omega⟩
  cases n with
  | zero => exact (growT_none w).mono fun e w' ⟨h1, h2⟩ => ⟨none, 0, h1, by rw [h2]; exact World.ownsRow_nil _ _ _ _, by rw [h2]; exact Below.refl _ _⟩
  | succ n => exact (growT_some (n + 1) w (by omega) (by omega)).mono fun e w' ⟨g, cap, h1, h2, h3⟩ => ⟨_, cap, h1, h2, h3⟩

set_option maxRecDepth 100000 in
set_option maxHeartbeats 4000000 in
theorem concatT_any (B0 : Nat) (a a' : Option Addr) (n n' c c' : Nat) (zs zs' : List (Nat × Nat)) (w : World) (hz : zs.length = n) (hz' : zs'.length = n') (hn : n ≤ 100) (hn' : n' ≤ 100) (hF : FormT a c) (hF' : FormT a' c') (ha : AtT w a zs) (ha' : AtT w a' zs')
    (q0 : w.cell? ⟨B0, 0, none⟩ = some (.slice a n c)) (q1 : w.cell? ⟨B0, 1, none⟩ = some (.slice a' n' c')) :
    Calls Tryd.prog 83 #[.slice (some ⟨B0, 0, none⟩) 2 2] w fun e w' => ∃ r d, e = .returned (.slice r (n + n') d) ∧ w'.ownsRow w.heap.size 92 2 (.slice r (n + n') d) (n + n') (flatT (zs ++ zs')) ∧ Below w.heap.size w w' := by
  obtain ⟨i0, hi, hz0, hz1, hz2⟩ := info_parts Tryd.infoTelling
  have hw : IntKind.i64.wrap ((n : Int) + (n' : Int)) = ((n + n' : Nat) : Int) := (IntWalk.i64_in _ (by omega)).trans (by omega)
  have HA := Hid.mk ha
  have HA' := Hid.mk ha'
  have HF := Hid.mk hF
  have HF' := Hid.mk hF'
  clear ha ha' hF hF'
  go_enter Tryd.func83, Tryd.ntmps83
  go_wp2
  refine wp_loop_rounds 3 ?_
  rw [rounds_succ]
  go_wp2
  rw [rounds_succ]
  go_wp2
  rw [rounds_succ]
  go_wp2_with fail
  refine (growT_any _ w (by omega) (by omega)).mono ?_
  rintro e w1 ⟨r1, d1, rfl, ho1, hb1⟩
  have p0 := cell_later hb1 q0
  have p1 := cell_later hb1 q1
  have HO1 := Hid.mk ho1
  clear ho1
  go_wp2
  refine wp_loop_rounds 3 ?_
  rw [rounds_succ]
  go_wp2_with (at_builtin; refine wpList_append_tells rfl (.tmp 31) (.tmp 32) 64 rfl w.heap.size 92 i0 (.agg #[.int .u64 0, .int .u64 0]) 16 Tryd.underlying64 hi hz0 hz1 hz2 rfl (.slice r1 0 d1) 0 [] rfl HO1.out a n c zs rfl hz (AtSl.below HA.out hb1) HF.out (by unfold maxLen; omega) (by omega) hb1.size ?_; rintro r2 d2 w2 ho2 hg2; have B2 : Below w.heap.size w w2 := hb1.grown hg2 hb1.size (fun j hj => (HO1.out.lt j hj).1); have t0 : w2.cell? ⟨B0, 0, none⟩ = some (.slice a n c) := cell_later B2 q0; have t1 : w2.cell? ⟨B0, 1, none⟩ = some (.slice a' n' c') := cell_later B2 q1; simp only [Nat.zero_add, List.nil_append] at ho2 ⊢; have HO2 := Hid.mk ho2; clear ho2 hg2 p0 p1 HO1)
  rw [rounds_succ]
  go_wp2_with (at_builtin; refine wpList_append_tells rfl (.tmp 31) (.tmp 32) 64 rfl w.heap.size 92 i0 (.agg #[.int .u64 0, .int .u64 0]) 16 Tryd.underlying64 hi hz0 hz1 hz2 rfl (.slice r2 n d2) n (flatT zs) rfl HO2.out a' n' c' zs' rfl hz' (AtSl.below HA'.out B2) HF'.out (by unfold maxLen; omega) (by omega) B2.size ?_; rintro r3 d3 w3 ho3 hg3; have B3 : Below w.heap.size w w3 := B2.grown hg3 B2.size (fun j hj => (HO2.out.lt j hj).1); have HO3 := Hid.mk ho3; clear ho3 hg3 HO2 t0 t1)
  rw [rounds_succ]
  go_wp2
  go_ret
  exact ⟨r3, d3, rfl, by rw [flatT_app]; exact HO3.out, B3⟩


theorem atT_take {w : World} {a : Option Addr} {M : List (Nat × Nat)} (k : Nat) (h : AtT w a M) : AtT w a (M.take k) := by
  rcases h with rfl | ⟨b, off, rfl, hc⟩
  · exact .inl (by simp)
  · refine .inr ⟨b, off, rfl, fun i x hx => ?_⟩
    have hx' : M[i]? = some x := by
      rw [List.getElem?_take] at hx
      split at hx
      · exact hx
      · cases hx
    exact hc i x hx'
theorem atT_drop {w : World} {b off : Nat} {M : List (Nat × Nat)} (k : Nat) (h : AtT w (some ⟨b, off, none⟩) M) : AtT w (some ⟨b, off + k * 2, none⟩) (M.drop k) := by
  rcases h with rfl | ⟨b', off', e, hc⟩
  · exact .inl (by simp)
  · simp only [Option.some.injEq, Addr.mk.injEq, and_true] at e
    obtain ⟨rfl, rfl⟩ := e
    refine .inr ⟨b, off + k * 2, rfl, fun i x hx => ?_⟩
    rw [List.getElem?_drop] at hx
    obtain ⟨cs, h1, h2⟩ := hc (k + i) x hx
    refine ⟨cs, fun j v hv => ?_, h2⟩
    have h9 := h1 j v hv
    have e : off + k * 2 + i * RTell.k + j = off + (k + i) * RTell.k + j := by show off + k * 2 + i * 2 + j = off + (k + i) * 2 + j; omega
    rw [e]; exact h9

set_option maxRecDepth 100000 in
set_option maxHeartbeats 4000000 in
theorem withoutImplied_any (B : Nat) (a : Option Addr) (n c : Nat) (M : List (Nat × Nat)) (q : Nat) (w : World) (hz : M.length = n) (hn : n ≤ 60) (hq : q ≤ 6) (hl : Lim q M) (ho : OwnTl w B a n c M) :
    Calls Tryd.prog 60 #[.slice a n c] w fun e w' => ∃ r m d, e = .returned (.slice r m d) ∧ (dropA M).length = m ∧ OwnTl w' w.heap.size r m d (dropA M) ∧ Below w.heap.size w w' := by
  have HL := Hid.mk hl
  have K := Hid.mk (cloneT_any a n c M w hz (by omega) (own_form ho).1 (AtT.of_owns ho hz) (own_form ho).2)
  clear ho hl
  go_enter Tryd.func60, Tryd.ntmps60
  go_wp2_with fail
  refine K.out.mono ?_
  rintro e w1 ⟨r1, d1, rfl, ho1, B1⟩
  have HO1 := Hid.mk ho1
  have HB1 := Hid.mk B1
  clear ho1 B1 K
  go_wp2_with fail
  go_loopg [3, 4] n (fun g p i wr => ∃ (k m : Nat) (M' : List (Nat × Nat)) (r : Option Addr) (d : Nat), m = k + g ∧ M'.length = m ∧ m ≤ n ∧ p = .slice r m d ∧ i = .int .i64 k ∧ dropG (M'.length - k) k M' = dropA M ∧ Lim q M' ∧ OwnTl wr w.heap.size r m d M' ∧ Below w.heap.size w wr)
  case atStart => exact ⟨0, n, M, r1, d1, by omega, hz, Nat.le_refl _, rfl, rfl, rfl, HL.out, HO1.out, HB1.out⟩
  case round =>
    clear HO1 HB1
    obtain ⟨k, m, M', r, d, hmk, hm, hmn, rfl, rfl, hdr, hlim, hown, hbw⟩ := hrel
    have HMK := Hid.mk hmk
    have hkm : k ≤ m := by omega
    clear hmk
    by_cases hlt : k < m
    · obtain ⟨g, rfl, hgl, hgr⟩ := own_some hown (by omega)
      have hcap : m ≤ d := own_cap hown
      obtain ⟨p, hp⟩ : ∃ p, M'[k]? = some p := ⟨_, List.getElem?_eq_getElem (by omega)⟩
      obtain ⟨x0, x1⟩ := flatT_at M' k p hp
      have c0 : wr.cell? ⟨g, k * 2, none⟩ = some (.int .u64 (p.1 : Nat)) := (hown.cellAt _ (by omega)).trans x0
      have c1 : wr.cell? ⟨g, k * 2 + 1, none⟩ = some (.int .u64 (p.2 : Nat)) := (hown.cellAt _ (by omega)).trans x1
      have hp64 := (hlim.sets hq) p (List.mem_of_getElem? hp)
      have hyes := dropG_yes (i := k) (M := M') (by omega)
      have hno := dropG_no (i := k) (M := M') (by omega)
      rw [tatT_of hp] at hyes hno
      obtain ⟨f, hf⟩ : ∃ f, p.1 = f := ⟨_, rfl⟩
      obtain ⟨t, ht⟩ : ∃ t, p.2 = t := ⟨_, rfl⟩
      rw [hf] at c0 hyes hno hp64
      rw [ht] at c1 hyes hno hp64
      have herase : M'.eraseIdx k = M'.take k ++ M'.drop (k + 1) := List.eraseIdx_eq_take_drop_succ M' k
      have helen : (M'.eraseIdx k).length = m - 1 := by rw [List.length_eraseIdx, if_pos (by omega), hm]
      have hat := AtT.of_owns hown hm
      have hki : (k : Int) < (m : Int) := by omega
      have hw1 : IntKind.i64.wrap ((k : Int) + 1) = ((k + 1 : Nat) : Int) := by rw [IntWalk.i64_in _ (by omega)]; omega
      have HO := Hid.mk hown
      have HB := Hid.mk hbw
      have HLM := Hid.mk hlim
      have HDR := Hid.mk hdr
      have HYES := Hid.mk hyes
      have HNO := Hid.mk hno
      have HER := Hid.mk herase
      have HEL := Hid.mk helen
      have HM := Hid.mk hm
      have HLT : Hid ((M'.take k).length = k) := by show _ = _; rw [List.length_take]; omega
      have HLD : Hid ((M'.drop (k + 1)).length = m - (k + 1)) := by show _ = _; rw [List.length_drop]; omega
      have hf64 := hp64.1
      have ht64 := hp64.2
      obtain ⟨ad2, hcell2, HAT2⟩ : ∃ ad2 : Addr, (∀ v : Addr, (if d = k + 1 then v = ⟨g, 0, none⟩ else v = ⟨g, 0 + (k + 1) * 2, none⟩) → v = ad2) ∧ Hid (AtT wr (some ad2) (M'.drop (k + 1)) ∧ ∃ b off, ad2 = ⟨b, off, none⟩) := by
        by_cases hdk : d = k + 1
        · refine ⟨⟨g, 0, none⟩, fun v h => by rw [if_pos hdk] at h; exact h, .inl (List.drop_of_length_le (by omega)), g, 0, rfl⟩
        · exact ⟨⟨g, 0 + (k + 1) * 2, none⟩, fun v h => by rw [if_neg hdk] at h; exact h, atT_drop (k + 1) hat, g, _, rfl⟩
      have HAT1 := Hid.mk (atT_take k hat)
      clear hown hbw hlim hdr hyes hno herase helen hat hp hf ht x0 x1 hp64
      by_cases hdk : d = k + 1

      · skip
        have hdk' : k + 1 = d := hdk.symm
        subst hdk'
        have hx2 : ad2 = ⟨g, 0, none⟩ := (hcell2 ⟨g, 0, none⟩ (by simp)).symm
        subst hx2
        clear hcell2
        obtain ⟨X, hX⟩ : ∃ X, X = (wr.alloc (.cells #[.slice (some ⟨g, 0, none⟩) k (k + 1), .slice (some ⟨g, 0, none⟩) (0) (0)] 64)).drew := ⟨_, rfl⟩
        have bX : Below wr.heap.size wr X := by rw [hX]; exact ((Below.refl _ _).alloc (Nat.le_refl _) _).drew
        have s0 : X.cell? ⟨wr.heap.size, 0, none⟩ = some (.slice (some ⟨g, 0, none⟩) k (k + 1)) := by rw [hX]; show (World.alloc _ _).cell? _ = _; simp
        have s1 : X.cell? ⟨wr.heap.size, 1, none⟩ = some (.slice (some ⟨g, 0, none⟩) (0) (0)) := by rw [hX]; show (World.alloc _ _).cell? _ = _; simp
        have KC := Hid.mk (concatT_any wr.heap.size (some ⟨g, 0, none⟩) (some ⟨g, 0, none⟩) k (0) (k + 1) (0) (M'.take k) (M'.drop (k + 1)) X HLT.out (by have := HLD.out; omega) (by omega) (by omega) ⟨fun h => (by cases h), fun ad h => ⟨g, 0, (by cases h; rfl)⟩⟩ ⟨fun h => (by cases h), fun ad h => ⟨g, _, (by cases h; rfl)⟩⟩ (AtSl.below HAT1.out bX) (AtSl.below HAT2.out.1 bX) s0 s1)
        rw [← HER.out] at KC
        have c0w := c0
        have c0 := cell_later bX c0w
        have c1 := cell_later bX c1
        have hkc : (k : Int) ≤ (k : Int) + 1 := by omega
        have hk1 : (k : Int) + 1 ≤ (m : Int) := by omega
        have hk00 : (0 : Int) ≤ (k : Int) + 1 := by omega
        have hmd : (m : Int) ≤ (k : Int) + 1 := by omega
        have HOX := Hid.mk (owns_below HO.out bX)
        have HBX := Hid.mk (HB.out.trans (bX.mono HB.out.size))
        clear s0 s1 bX HO HB HAT1 HAT2
        go_wp2_with fail
        refine wp_region_held_drew (S := fun w' => w'.cell? ⟨g, k * 2, none⟩ = some (.int .u64 (f : Nat))) (by kernel_rfl) ?_ (fun hHeld => ?_)
        · (try dsimp only)
          exact c0w
        refine wpAnyH_take (i := 0) (oi := ?_) (v := ?_) ?_ (by kernel_rfl) (by kernel_rfl) (by kernel_rfl) ?_ (Or.inl ⟨?_, ?_⟩) (by assumption) ?_
        rotate_left 2
        · (simp only [List.getElem?_toArray, List.getElem?_cons_zero]; rfl)
        · exact fun _ _ _ h => h
        · rfl
        · (intro wS hSw; (try dsimp only at hSw); go_simp; (try with_reducible rfl))
        (try simp only [Act.put, List.setIfInBounds_toArray, List.set_cons_zero, List.set_cons_succ])
        refine wpAnyH_take (i := 1) (oi := ?_) (v := ?_) ?_ (by kernel_rfl) (by kernel_rfl) (by kernel_rfl) ?_ (Or.inl ⟨?_, ?_⟩) (by assumption) ?_
        rotate_left 2
        · (simp only [List.getElem?_toArray, List.getElem?_cons_zero, List.getElem?_cons_succ]; rfl)
        · exact fun _ _ _ h => h
        · rfl
        · (intro wS hSw; (try dsimp only at hSw); go_simp; (try with_reducible rfl))
        (try simp only [Act.put, List.setIfInBounds_toArray, List.set_cons_zero, List.set_cons_succ])
        refine wpAnyH_take (i := 2) (oi := ?_) (v := ?_) ?_ (by kernel_rfl) (by kernel_rfl) (by kernel_rfl) ?_ (Or.inl ⟨?_, ?_⟩) (by assumption) ?_
        rotate_left 2
        · (simp only [List.getElem?_toArray, List.getElem?_cons_zero, List.getElem?_cons_succ]; rfl)
        · exact fun _ _ _ h => h
        · rfl
        · (intro wS hSw; (try dsimp only at hSw); go_simp; (try with_reducible rfl))
        (try simp only [Act.put, List.setIfInBounds_toArray, List.set_cons_zero, List.set_cons_succ])
        refine wpAnyH_take (i := 3) (oi := ?_) (v := ?_) ?_ (by kernel_rfl) (by kernel_rfl) (by kernel_rfl) ?_ (Or.inl ⟨?_, ?_⟩) (by assumption) ?_
        rotate_left 2
        · (simp only [List.getElem?_toArray, List.getElem?_cons_zero, List.getElem?_cons_succ]; rfl)
        · exact fun _ _ _ h => h
        · rfl
        · (intro wS hSw; (try dsimp only at hSw); go_simp; (try with_reducible rfl))
        (try simp only [Act.put, List.setIfInBounds_toArray, List.set_cons_zero, List.set_cons_succ])
        refine wpAnyH_take (i := 4) (oi := ?_) (v := ?_) ?_ (by kernel_rfl) (by kernel_rfl) (by kernel_rfl) ?_ (Or.inl ⟨?_, ?_⟩) (by assumption) ?_
        rotate_left 2
        · (simp only [List.getElem?_toArray, List.getElem?_cons_zero, List.getElem?_cons_succ]; rfl)
        · exact fun _ _ _ h => h
        · rfl
        · (intro wS hSw; (try dsimp only at hSw); go_simp; (try with_reducible rfl))
        (try simp only [Act.put, List.setIfInBounds_toArray, List.set_cons_zero, List.set_cons_succ])
        refine wpAnyH_take (i := 5) (oi := ?_) (v := ?_) ?_ (by kernel_rfl) (by kernel_rfl) (by kernel_rfl) ?_ (Or.inl ⟨?_, ?_⟩) (by assumption) ?_
        rotate_left 2
        · (simp only [List.getElem?_toArray, List.getElem?_cons_zero, List.getElem?_cons_succ]; rfl)
        · exact fun _ _ _ h => h
        · rfl
        · (intro wS hSw; (try dsimp only at hSw); go_simp; (try with_reducible rfl))
        (try simp only [Act.put, List.setIfInBounds_toArray, List.set_cons_zero, List.set_cons_succ])
        refine wpAnyH_take (i := 6) (oi := ?_) (v := ?_) ?_ (by kernel_rfl) (by kernel_rfl) (by kernel_rfl) ?_ (Or.inl ⟨?_, ?_⟩) (by assumption) ?_
        rotate_left 2
        · (simp only [List.getElem?_toArray, List.getElem?_cons_zero, List.getElem?_cons_succ]; rfl)
        · exact fun _ _ _ h => h
        · rfl
        · (intro wS hSw; (try dsimp only at hSw); go_simp; (try with_reducible rfl))
        (try simp only [Act.put, List.setIfInBounds_toArray, List.set_cons_zero, List.set_cons_succ])
        refine wpAnyH_ready (rs := [7]) (by kernel_rfl) (by simp) ?_
        refine AllReadyH.cons (o := ?_) ?_ (fun K hK => ?_) AllReadyH.nil
        rotate_left
        · (simp only [List.getElem?_toArray, List.getElem?_cons_zero, List.getElem?_cons_succ]; rfl)
        go_simp
        skip
        (try go_wp2_with fail)
        refine hK.out _ _ ?_ (fun hHeld' => ?_)
        · (try dsimp only)
          exact cell_later (((Below.refl _ _).alloc (Nat.le_refl _) _).drew) c0w
        clear hK K hHeld
        have hHeld := hHeld'
        clear hHeld'
        (try simp only [Act.put, List.setIfInBounds_toArray, List.set_cons_zero, List.set_cons_succ])
        (try rw [← hX])
        (try clear hX)
        refine wpAnyH_ready (rs := [8]) (by kernel_rfl) (by simp) ?_
        refine AllReadyH.cons (o := ?_) ?_ (fun K hK => ?_) AllReadyH.nil
        rotate_left
        · (simp only [List.getElem?_toArray, List.getElem?_cons_zero, List.getElem?_cons_succ]; rfl)
        go_simp
        go_at_call 83
        refine KC.out.mono ?_
        rintro e w3 ⟨r3, d3, rfl, ho3, hb3⟩
        have c0 := cell_later hb3 c0
        have c1 := cell_later hb3 c1
        have HO3 := Hid.mk ho3
        have HOX3 := Hid.mk (owns_below HOX.out hb3)
        have HB3 := Hid.mk (HBX.out.trans (hb3.mono HBX.out.size))
        have zX := HBX.out.size
        clear ho3 hb3
        (try go_wp2_with fail)
        refine hK.out _ _ ?_ (fun hHeld' => ?_)
        · (try dsimp only)
          exact c0
        clear hK K hHeld
        have hHeld := hHeld'
        clear hHeld'
        (try simp only [Act.put, List.setIfInBounds_toArray, List.set_cons_zero, List.set_cons_succ])
        refine wpAnyH_take (i := 9) (oi := ?_) (v := ?_) ?_ (by kernel_rfl) (by kernel_rfl) (by kernel_rfl) ?_ (Or.inl ⟨?_, ?_⟩) (by assumption) ?_
        rotate_left 2
        · (simp only [List.getElem?_toArray, List.getElem?_cons_zero, List.getElem?_cons_succ]; rfl)
        · exact fun _ _ _ h => h
        · rfl
        · (intro wS hSw; (try dsimp only at hSw); go_simp; (try with_reducible rfl))
        (try simp only [Act.put, List.setIfInBounds_toArray, List.set_cons_zero, List.set_cons_succ])
        refine wpAnyH_done (by kernel_rfl) ?_ _
        have hsum : k = m - 1 := by omega
        have HSUM := Hid.mk hsum
        clear hsum
        have HEL' : Hid ((M'.eraseIdx k).length = k) := by show _ = _; have h1 := HEL.out; have h2 := HSUM.out; omega
        have HO3' : Hid (OwnTl w3 w.heap.size r3 (k) d3 (M'.eraseIdx k)) := owns_mono HO3.out zX
        have KI := Hid.mk (implied_any r3 (k) d3 (M'.eraseIdx k) f t w3 HEL'.out (by omega) ((HLM.out.erase k).sets hq) hf64 ht64 (AtT.of_owns HO3'.out HEL'.out))
        clear HO3 HOX HBX KC hHeld
        go_wp2_with fail
        refine KI.out.mono ?_
        rintro e w4 ⟨rfl, hb4⟩
        have HO4 := Hid.mk (owns_below HO3'.out hb4)
        have HOX4 := Hid.mk (owns_below HOX3.out hb4)
        have HB4 := Hid.mk (HB3.out.trans (hb4.mono HB3.out.size))
        clear hb4 HO3' HOX3 HB3 KI c0 c1
        cases hr : sb t (clo (M'.eraseIdx k) f) with
        | true =>
          have HD2 : Hid (dropG ((M'.eraseIdx k).length - k) k (M'.eraseIdx k) = dropA M) := by show _ = _; rw [← HYES.out hr]; exact HDR.out
          have HLM2 := Hid.mk (HLM.out.erase k)
          go_wp2
          go_roundg (m - 1 - k)
          case measure => have := HMK.out; omega
          case rel => exact ⟨k, k, M'.eraseIdx k, r3, d3, by have := HSUM.out; omega, HEL'.out, by omega, rfl, rfl, HD2.out, HLM2.out, HO4.out, HB4.out⟩
        | false =>
          have HD2 : Hid (dropG (M'.length - (k + 1)) (k + 1) M' = dropA M) := by show _ = _; rw [← HNO.out hr]; exact HDR.out
          go_wp2
          go_roundg (m - (k + 1))
          case measure => have := HMK.out; omega
          case rel => exact ⟨k + 1, m, M', _, _, by omega, HM.out, hmn, rfl, by go_num, HD2.out, HLM.out, HOX4.out, HB4.out⟩
      · skip
        skip
        have hx2 : ad2 = ⟨g, (k + 1) * 2, none⟩ := (hcell2 ⟨g, (k + 1) * 2, none⟩ (by rw [if_neg hdk, Nat.zero_add])).symm
        subst hx2
        clear hcell2
        obtain ⟨X, hX⟩ : ∃ X, X = (wr.alloc (.cells #[.slice (some ⟨g, 0, none⟩) k (d), .slice (some ⟨g, (k + 1) * 2, none⟩) (m - (k + 1)) (d - (k + 1))] 64)).drew := ⟨_, rfl⟩
        have bX : Below wr.heap.size wr X := by rw [hX]; exact ((Below.refl _ _).alloc (Nat.le_refl _) _).drew
        have s0 : X.cell? ⟨wr.heap.size, 0, none⟩ = some (.slice (some ⟨g, 0, none⟩) k (d)) := by rw [hX]; show (World.alloc _ _).cell? _ = _; simp
        have s1 : X.cell? ⟨wr.heap.size, 1, none⟩ = some (.slice (some ⟨g, (k + 1) * 2, none⟩) (m - (k + 1)) (d - (k + 1))) := by rw [hX]; show (World.alloc _ _).cell? _ = _; simp
        have KC := Hid.mk (concatT_any wr.heap.size (some ⟨g, 0, none⟩) (some ⟨g, (k + 1) * 2, none⟩) k (m - (k + 1)) (d) (d - (k + 1)) (M'.take k) (M'.drop (k + 1)) X HLT.out (by have := HLD.out; omega) (by omega) (by omega) ⟨fun h => (by cases h), fun ad h => ⟨g, 0, (by cases h; rfl)⟩⟩ ⟨fun h => (by cases h), fun ad h => ⟨g, _, (by cases h; rfl)⟩⟩ (AtSl.below HAT1.out bX) (AtSl.below HAT2.out.1 bX) s0 s1)
        rw [← HER.out] at KC
        have c0w := c0
        have c0 := cell_later bX c0w
        have c1 := cell_later bX c1
        have hkc : (k : Int) ≤ (d : Int) := by omega
        have hdk2 : ¬ d = k + 1 := hdk
        have hk1 : (k : Int) + 1 ≤ (m : Int) := by omega
        have hk00 : (0 : Int) ≤ (k : Int) + 1 := by omega
        have hmd : (m : Int) ≤ (d : Int) := by omega
        have HOX := Hid.mk (owns_below HO.out bX)
        have HBX := Hid.mk (HB.out.trans (bX.mono HB.out.size))
        clear s0 s1 bX HO HB HAT1 HAT2
        go_wp2_with fail
        refine wp_region_held_drew (S := fun w' => w'.cell? ⟨g, k * 2, none⟩ = some (.int .u64 (f : Nat))) (by kernel_rfl) ?_ (fun hHeld => ?_)
        · (try dsimp only)
          exact c0w
        refine wpAnyH_take (i := 0) (oi := ?_) (v := ?_) ?_ (by kernel_rfl) (by kernel_rfl) (by kernel_rfl) ?_ (Or.inl ⟨?_, ?_⟩) (by assumption) ?_
        rotate_left 2
        · (simp only [List.getElem?_toArray, List.getElem?_cons_zero]; rfl)
        · exact fun _ _ _ h => h
        · rfl
        · (intro wS hSw; (try dsimp only at hSw); go_simp; (try with_reducible rfl))
        (try simp only [Act.put, List.setIfInBounds_toArray, List.set_cons_zero, List.set_cons_succ])
        refine wpAnyH_take (i := 1) (oi := ?_) (v := ?_) ?_ (by kernel_rfl) (by kernel_rfl) (by kernel_rfl) ?_ (Or.inl ⟨?_, ?_⟩) (by assumption) ?_
        rotate_left 2
        · (simp only [List.getElem?_toArray, List.getElem?_cons_zero, List.getElem?_cons_succ]; rfl)
        · exact fun _ _ _ h => h
        · rfl
        · (intro wS hSw; (try dsimp only at hSw); go_simp; (try with_reducible rfl))
        (try simp only [Act.put, List.setIfInBounds_toArray, List.set_cons_zero, List.set_cons_succ])
        refine wpAnyH_take (i := 2) (oi := ?_) (v := ?_) ?_ (by kernel_rfl) (by kernel_rfl) (by kernel_rfl) ?_ (Or.inl ⟨?_, ?_⟩) (by assumption) ?_
        rotate_left 2
        · (simp only [List.getElem?_toArray, List.getElem?_cons_zero, List.getElem?_cons_succ]; rfl)
        · exact fun _ _ _ h => h
        · rfl
        · (intro wS hSw; (try dsimp only at hSw); go_simp; (try with_reducible rfl))
        (try simp only [Act.put, List.setIfInBounds_toArray, List.set_cons_zero, List.set_cons_succ])
        refine wpAnyH_take (i := 3) (oi := ?_) (v := ?_) ?_ (by kernel_rfl) (by kernel_rfl) (by kernel_rfl) ?_ (Or.inl ⟨?_, ?_⟩) (by assumption) ?_
        rotate_left 2
        · (simp only [List.getElem?_toArray, List.getElem?_cons_zero, List.getElem?_cons_succ]; rfl)
        · exact fun _ _ _ h => h
        · rfl
        · (intro wS hSw; (try dsimp only at hSw); go_simp; (try with_reducible rfl))
        (try simp only [Act.put, List.setIfInBounds_toArray, List.set_cons_zero, List.set_cons_succ])
        refine wpAnyH_take (i := 4) (oi := ?_) (v := ?_) ?_ (by kernel_rfl) (by kernel_rfl) (by kernel_rfl) ?_ (Or.inl ⟨?_, ?_⟩) (by assumption) ?_
        rotate_left 2
        · (simp only [List.getElem?_toArray, List.getElem?_cons_zero, List.getElem?_cons_succ]; rfl)
        · exact fun _ _ _ h => h
        · rfl
        · (intro wS hSw; (try dsimp only at hSw); go_simp; (try with_reducible rfl))
        (try simp only [Act.put, List.setIfInBounds_toArray, List.set_cons_zero, List.set_cons_succ])
        refine wpAnyH_take (i := 5) (oi := ?_) (v := ?_) ?_ (by kernel_rfl) (by kernel_rfl) (by kernel_rfl) ?_ (Or.inl ⟨?_, ?_⟩) (by assumption) ?_
        rotate_left 2
        · (simp only [List.getElem?_toArray, List.getElem?_cons_zero, List.getElem?_cons_succ]; rfl)
        · exact fun _ _ _ h => h
        · rfl
        · (intro wS hSw; (try dsimp only at hSw); go_simp; (try with_reducible rfl))
        (try simp only [Act.put, List.setIfInBounds_toArray, List.set_cons_zero, List.set_cons_succ])
        refine wpAnyH_take (i := 6) (oi := ?_) (v := ?_) ?_ (by kernel_rfl) (by kernel_rfl) (by kernel_rfl) ?_ (Or.inl ⟨?_, ?_⟩) (by assumption) ?_
        rotate_left 2
        · (simp only [List.getElem?_toArray, List.getElem?_cons_zero, List.getElem?_cons_succ]; rfl)
        · exact fun _ _ _ h => h
        · rfl
        · (intro wS hSw; (try dsimp only at hSw); go_simp; (try with_reducible rfl))
        (try simp only [Act.put, List.setIfInBounds_toArray, List.set_cons_zero, List.set_cons_succ])
        refine wpAnyH_ready (rs := [7]) (by kernel_rfl) (by simp) ?_
        refine AllReadyH.cons (o := ?_) ?_ (fun K hK => ?_) AllReadyH.nil
        rotate_left
        · (simp only [List.getElem?_toArray, List.getElem?_cons_zero, List.getElem?_cons_succ]; rfl)
        go_simp
        skip
        (try go_wp2_with fail)
        refine hK.out _ _ ?_ (fun hHeld' => ?_)
        · (try dsimp only)
          exact cell_later (((Below.refl _ _).alloc (Nat.le_refl _) _).drew) c0w
        clear hK K hHeld
        have hHeld := hHeld'
        clear hHeld'
        (try simp only [Act.put, List.setIfInBounds_toArray, List.set_cons_zero, List.set_cons_succ])
        (try rw [← hX])
        (try clear hX)
        refine wpAnyH_ready (rs := [8]) (by kernel_rfl) (by simp) ?_
        refine AllReadyH.cons (o := ?_) ?_ (fun K hK => ?_) AllReadyH.nil
        rotate_left
        · (simp only [List.getElem?_toArray, List.getElem?_cons_zero, List.getElem?_cons_succ]; rfl)
        go_simp
        go_at_call 83
        refine KC.out.mono ?_
        rintro e w3 ⟨r3, d3, rfl, ho3, hb3⟩
        have c0 := cell_later hb3 c0
        have c1 := cell_later hb3 c1
        have HO3 := Hid.mk ho3
        have HOX3 := Hid.mk (owns_below HOX.out hb3)
        have HB3 := Hid.mk (HBX.out.trans (hb3.mono HBX.out.size))
        have zX := HBX.out.size
        clear ho3 hb3
        (try go_wp2_with fail)
        refine hK.out _ _ ?_ (fun hHeld' => ?_)
        · (try dsimp only)
          exact c0
        clear hK K hHeld
        have hHeld := hHeld'
        clear hHeld'
        (try simp only [Act.put, List.setIfInBounds_toArray, List.set_cons_zero, List.set_cons_succ])
        refine wpAnyH_take (i := 9) (oi := ?_) (v := ?_) ?_ (by kernel_rfl) (by kernel_rfl) (by kernel_rfl) ?_ (Or.inl ⟨?_, ?_⟩) (by assumption) ?_
        rotate_left 2
        · (simp only [List.getElem?_toArray, List.getElem?_cons_zero, List.getElem?_cons_succ]; rfl)
        · exact fun _ _ _ h => h
        · rfl
        · (intro wS hSw; (try dsimp only at hSw); go_simp; (try with_reducible rfl))
        (try simp only [Act.put, List.setIfInBounds_toArray, List.set_cons_zero, List.set_cons_succ])
        refine wpAnyH_done (by kernel_rfl) ?_ _
        have hsum : k + (m - (k + 1)) = m - 1 := by omega
        rw [hsum] at HO3
        rw [hsum]
        have HSUM : Hid (m - 1 = m - 1) := rfl
        clear hsum
        have HEL' : Hid ((M'.eraseIdx k).length = m - 1) := by show _ = _; have h1 := HEL.out; have h2 := HSUM.out; omega
        have HO3' : Hid (OwnTl w3 w.heap.size r3 (m - 1) d3 (M'.eraseIdx k)) := owns_mono HO3.out zX
        have KI := Hid.mk (implied_any r3 (m - 1) d3 (M'.eraseIdx k) f t w3 HEL'.out (by omega) ((HLM.out.erase k).sets hq) hf64 ht64 (AtT.of_owns HO3'.out HEL'.out))
        clear HO3 HOX HBX KC hHeld
        go_wp2_with fail
        refine KI.out.mono ?_
        rintro e w4 ⟨rfl, hb4⟩
        have HO4 := Hid.mk (owns_below HO3'.out hb4)
        have HOX4 := Hid.mk (owns_below HOX3.out hb4)
        have HB4 := Hid.mk (HB3.out.trans (hb4.mono HB3.out.size))
        clear hb4 HO3' HOX3 HB3 KI c0 c1
        cases hr : sb t (clo (M'.eraseIdx k) f) with
        | true =>
          have HD2 : Hid (dropG ((M'.eraseIdx k).length - k) k (M'.eraseIdx k) = dropA M) := by show _ = _; rw [← HYES.out hr]; exact HDR.out
          have HLM2 := Hid.mk (HLM.out.erase k)
          go_wp2
          go_roundg (m - 1 - k)
          case measure => have := HMK.out; omega
          case rel => exact ⟨k, m - 1, M'.eraseIdx k, r3, d3, by have := HSUM.out; omega, HEL'.out, by omega, rfl, rfl, HD2.out, HLM2.out, HO4.out, HB4.out⟩
        | false =>
          have HD2 : Hid (dropG (M'.length - (k + 1)) (k + 1) M' = dropA M) := by show _ = _; rw [← HNO.out hr]; exact HDR.out
          go_wp2
          go_roundg (m - (k + 1))
          case measure => have := HMK.out; omega
          case rel => exact ⟨k + 1, m, M', _, _, by omega, HM.out, hmn, rfl, by go_num, HD2.out, HLM.out, HOX4.out, HB4.out⟩
    · have HE : Hid (dropA M = M') := by show _ = _; rw [← hdr]; exact dropG_end rfl (by omega)
      have HO1 := Hid.mk hown
      have HM := Hid.mk hm
      have hki : ¬ (k : Int) < (m : Int) := by omega
      clear hown hdr hm
      go_wp2
      go_ret
      exact ⟨r, m, d, rfl, by rw [HE.out]; exact HM.out, by rw [HE.out]; exact HO1.out, hbw⟩

end Go.Proofs.YtkcfhlpdenjimaaDoor

/- An append of whatever cells, at a step of a region that draws. -/
namespace Go.Proofs.YtkcfhlpdenjimaaDoor
open Go.RowKit

theorem step_append_vals {P : Program} {w : World} {ops : Array Oper} {o : Oper} {a : Act} {K : Act → World → Prop} {Q : Exit → Act → World → Prop} {E : Prop} (hgd : o.guard = none) (s x : Operand) (t : TypeId)
    (ho : o.op = .call { callee := .builtin .append, args := #[s, x], argTypes := #[t, t] })
    (base : Nat) (e : TypeId) (i : TypeInfo) (z : Value) (size bytes : Nat) (ht : P.underlying t = some (.slice e)) (hi : P.info? e = some i) (hz : i.zero = some z)
    (hsize : i.size = size) (hby : i.bytes = bytes) (hzs : z.cells.size = size) (hsz : 0 < size)
    (v : Value) (n : Nat) (xs : List Value) (hs : a.eval s = v) (hown : w.ownsRow base e size v n xs)
    (ao : Option Addr) (m c : Nat) (news : List Value) (hx : a.eval x = .slice ao m c) (hl : news.length = m * size) (hat : ∀ ad, ao = some ad → ∀ (j : Nat) (u : Value), news[j]? = some u → w.cell? (ad.add j) = some u) (h1 : ∀ u ∈ news, u.oneCell' = true) (hnil : ao = none → c = 0 ∧ m = 0)
    (h63 : n + m ≤ maxLen) (hbytes : (n + m) * bytes ≤ 140737488355328) (hbase : base ≤ w.heap.size)
    (h : ∀ r cap w', w'.ownsRow base e size (.slice r (n + m) cap) (n + m) (xs ++ news) → w.grownBy w' v.ownBlock → ((Value.slice r (n + m) cap).ownBlock = v.ownBlock ∨ (Value.slice r (n + m) cap).ownBlock = some w.heap.size) → K (a.put o.dst (.slice r (n + m) cap)) w') :
    if Region.wanted o (yielded ops a.tmps) = true then Oper.wp P o a w K Q else E := by
  have hw : Region.wanted o (yielded ops a.tmps) = true := by simp [Region.wanted, hgd]
  rw [if_pos hw]
  cases ao with
  | none =>
    obtain ⟨hc, hm⟩ := hnil rfl
    subst hc hm
    obtain rfl : news = [] := List.eq_nil_of_length_eq_zero (by simpa using hl)
    obtain ⟨r, cap, rfl⟩ := owns_slice hown
    have hrun := run_append_owned_none (P := P) (w := w) base t o.type e i size ht hi (.slice r n cap) n xs hown
    have := h r cap w (by simpa using hown) (World.grownBy.refl _ _) (.inl rfl)
    unfold Oper.wp
    simp [execOp, ho, resolve, invoke, builtin, hs, hx, hrun, Result.andThen]
    rw [Nat.add_zero] at this
    exact this
  | some ad =>
    obtain ⟨v', w', hr, h2, h3, _, h5⟩ := run_append_own_at (P := P) w base t o.type e i z size bytes ht hi hz hsize hby hzs hsz v n xs hown ad m c news hl (fun j u hj => hat ad rfl j u hj) h1 h63 hbytes hbase
    obtain ⟨r, cap, rfl⟩ := owns_slice h2
    unfold Oper.wp execOp
    simp only [ho, resolve, invoke, builtin, Sem.run_bind, Sem.run_pure, Result.andThen_ok, List.map_toArray, List.map_cons, List.map_nil, hs, hx, hr]
    exact h r cap w' h2 h3 h5

end Go.Proofs.YtkcfhlpdenjimaaDoor
