/- Several texts of one proof, in build order: TestL, SelT, ScaleP, NewT, Alike, AddT. -/
import Derived.Test.YthiabjkjpjmahaaGreatM10
import Derived.Test.YthiabjkjpjmahaaGreatM25
import Derived.Test.YthiabjkjpjmahaaGreatM29
import Derived.Test.YthiabjkjpjmahaaGreatM0
import Derived.Test.YthiabjkjpjmahaaGreatM28
import Derived.Test.YthiabjkjpjmahaaGreatM11
import Derived.Test.YthiabjkjpjmahaaGreatM9
import Derived.Test.YthiabjkjpjmahaaGreatM12

/- markTestS, and the laws' helpers over lists of tests in one form. -/
namespace Go.Proofs.YthiabjkjpjmahaaGreat
open Go.RowKit

set_option maxRecDepth 100000 in
set_option maxHeartbeats 2000000 in
theorem markTestS_any (base : Nat) (a : Option Addr) (n c : Nat) (cs : List Value) (m : Int) (w : World) (hn : n ≤ 1048576) (h0 : 0 ≤ m) (h1 : m ≤ 1073741824) (hown : w.ownsRow base 148 3 (.slice a n c) n cs) :
    Calls Tryz.prog 96 #[.slice a n c, .int .i64 m] w fun e w' => e = .returned (.int .i64 (m + (n * 3 : Nat))) ∧
      w'.ownsRow base 148 3 (.slice a n c) n ((marks m (n * 3)).map (.int .i64)) ∧ w.grownBy w' (Value.slice a n c).ownBlock := by
  rcases hown.2 with ⟨hv, h00⟩ | ⟨g, cap, cur, hv, hjunk⟩
  · simp only [Value.slice.injEq] at hv
    obtain ⟨rfl, rfl, rfl⟩ := hv
    go_enter Tryz.func96, Tryz.ntmps96
    go_wp2
    refine wp_loop_rounds 1 ?_
    rw [rounds_succ]
    go_wp2
    go_ret
    exact ⟨by simp, by simpa [marks] using World.ownsRow_nil w base 148 3, World.grownBy.refl _ _⟩
  · simp only [Value.slice.injEq, true_and] at hv
    obtain ⟨rfl, rfl⟩ := hv
    clear hjunk
    have hu0 := Upto.zero (cs := cs) (zs := marks m (n * 3)) (by rw [marks_length]; simpa using hown.1)
    go_enter Tryz.func96, Tryz.ntmps96
    go_wp2
    go_loopw [1, 5] (fun q i wr => ∃ (k : Nat) (cs : List Value), k ≤ n ∧ i = .int .i64 k ∧ q = .int .i64 (m + 3 * (k : Int)) ∧ Upto cs (marks m (n * 3)) (k * 3) ∧ wr.ownsRow base 148 3 (.slice (some ⟨g, 0, none⟩) n c) n cs ∧ w.grownBy wr (some g)) (fun _ i _ => n - (intOf i).toNat)
    case atStart => exact ⟨0, cs, Nat.zero_le _, rfl, by simp, hu0, hown, World.grownBy.refl _ _⟩
    case round =>
      clear hown hu0 cs
      obtain ⟨k, cs, hk, rfl, rfl, hu, hown, hbw⟩ := hrel
      by_cases hlt : k < n
      · have hlen : cs.length = n * 3 := by rw [hu.1, marks_length]
        have hset := hu.set3 (by rw [marks_length]; omega)
        rw [marks_getD m (n * 3) (k * 3) (by omega), marks_getD m (n * 3) (k * 3 + 1) (by omega), marks_getD m (n * 3) (k * 3 + 2) (by omega)] at hset
        obtain ⟨x, hx⟩ : ∃ x : Int, x = m + 3 * (k : Int) := ⟨_, rfl⟩
        rw [show m + ((k * 3 : Nat) : Int) = x by omega, show m + ((k * 3 + 1 : Nat) : Int) = x + 1 by omega, show m + ((k * 3 + 2 : Nat) : Int) = x + 1 + 1 by omega] at hset
        have HU := Hid.mk hset
        have HX := Hid.mk hx
        have x0 : 0 ≤ x := by omega
        have x1 : x ≤ 1077000000 := by omega
        rw [← hx]
        clear hset hu hx
        obtain ⟨u0, hu0⟩ : ∃ u, cs[k * 3]? = some u := ⟨_, List.getElem?_eq_getElem (by omega)⟩
        obtain ⟨u1, hu1⟩ : ∃ u, cs[k * 3 + 1]? = some u := ⟨_, List.getElem?_eq_getElem (by omega)⟩
        obtain ⟨u2, hu2⟩ : ∃ u, cs[k * 3 + 2]? = some u := ⟨_, List.getElem?_eq_getElem (by omega)⟩
        have q0 : wr.cell? ⟨g, k * 3, none⟩ = some u0 := (hown.cellAt _ (by omega)).trans hu0
        have q1 : wr.cell? ⟨g, k * 3 + 1, none⟩ = some u1 := (hown.cellAt _ (by omega)).trans hu1
        have q2 : wr.cell? ⟨g, k * 3 + 2, none⟩ = some u2 := (hown.cellAt _ (by omega)).trans hu2
        have p0 : wr.frozen? ⟨g, k * 3, none⟩ = false := hown.frozenAt _
        have p1 : wr.frozen? ⟨g, k * 3 + 1, none⟩ = false := hown.frozenAt _
        have p2 : wr.frozen? ⟨g, k * 3 + 2, none⟩ = false := hown.frozenAt _
        have s1 := hown.stored (k * 3) (.int .i64 x)
        have s2 := s1.1.stored (k * 3 + 1) (.int .i64 (x + 1))
        have s3 := s2.1.stored (k * 3 + 2) (.int .i64 (x + 1 + 1))
        have HO := Hid.mk s3.1
        have HB := Hid.mk (grown_trans (grown_trans (grown_trans hbw s1.2) s2.2) s3.2)
        have hki : (k : Int) < (n : Int) := by omega
        clear s1 s2 s3 hu0 hu1 hu2 hown hbw
        go_wp2
        go_roundw
        case rel => exact ⟨k + 1, _, by omega, by go_num, by have := HX.out; first | (go_num; omega) | (congr 1; omega), HU.out, HO.out, HB.out⟩
        case measure => simp [intOf]; omega
      · obtain rfl : k = n := by omega
        rw [hu.all (by rw [marks_length]; omega)] at hown
        go_wp2
        go_ret
        exact ⟨ret_int (by omega), hown, hbw⟩

/-- A list of tests that the laws' bound allows. -/
def SmE (es : List Tst) (n : Nat) : Prop := es.length = n ∧ n ≤ 1048576
theorem SmE.n {es : List Tst} {n : Nat} (h : SmE es n) : n ≤ 1048576 := h.2
def OwnF (w : World) (lo hi : Nat) (a : Option Addr) (n c : Nat) (zs : List Int) : Prop :=
  w.ownsRow lo 148 3 (.slice a n c) n (zs.map (.int .i64)) ∧ (∀ k, (Value.slice a n c).ownBlock = some k → lo ≤ k ∧ k < hi)
/-- A slice of tests that the call made: its block lies from lo on and below hi. -/
def OwnE (w : World) (lo hi : Nat) (a : Option Addr) (n c : Nat) (es : List Tst) : Prop := OwnF w lo hi a n c (flatE es)

section
variable {w w' : World} {lo hi : Nat} {a : Option Addr} {n c : Nat} {es : List Tst} {zs : List Int}
theorem OwnF.below (h : OwnF w lo hi a n c zs) (hb : Below w.heap.size w w') : OwnF w' lo hi a n c zs := ⟨h.1.kept (Below.toGrown hb none) (by simp; exact Classical.em _), h.2⟩
theorem OwnF.apartW {lo' hi' : Nat} (h : OwnF w lo hi a n c zs) (hp : Apart lo' hi' w w') (hd : hi ≤ lo' ∨ hi' ≤ lo) : OwnF w' lo hi a n c zs := ⟨hp.owns h.1 (fun k hk => by have := h.2 k hk; omega), h.2⟩
theorem OwnE.below (h : OwnE w lo hi a n c es) (hb : Below w.heap.size w w') : OwnE w' lo hi a n c es := OwnF.below h hb
theorem OwnE.apartW {lo' hi' : Nat} (h : OwnE w lo hi a n c es) (hp : Apart lo' hi' w w') (hd : hi ≤ lo' ∨ hi' ≤ lo) : OwnE w' lo hi a n c es := OwnF.apartW h hp hd
end

end Go.Proofs.YthiabjkjpjmahaaGreat

/- Contracts of impl.SelectRows, spec.l3Select, spec.SelectRows. -/
namespace Go.Proofs.YthiabjkjpjmahaaGreat
open Go.RowKit Go.Shelf

/-- The rows that pass all tests. -/
def selW (ts : List WRow) (es : List Tst) : List WRow := ts.filterMap (keptG (fun zs => passAll zs es))
def selB (p : Int) (ts : List WRow) (es : List Tst) : Bool := goodT p ts && (goodEs p es && goodT p (selW ts es))
theorem selB_no {p : Int} {ts : List WRow} {es : List Tst} (h : goodT p ts = false) : selB p ts es = false := by simp [selB, h]
theorem selB_not {p : Int} {ts : List WRow} {es : List Tst} (h : goodEs p es = false) : selB p ts es = false := by simp [selB, h]
theorem selB_yes {p : Int} {ts : List WRow} {es : List Tst} (h : goodT p ts = true) (h2 : goodEs p es = true) : selB p ts es = goodT p (selW ts es) := by simp [selB, h, h2]
theorem selB_goodT {p : Int} {ts : List WRow} {es : List Tst} (h : selB p ts es = true) : goodT p (selW ts es) = true := by
  simp only [selB, Bool.and_eq_true] at h
  exact h.2.2
theorem kept_some {keep : List Int → Bool} {t s : WRow} (h : keptG keep t = some s) : s = t := by
  unfold keptG at h
  split at h
  · simpa using h.symm
  · cases h
theorem selW_mem {ts : List WRow} {es : List Tst} {t : WRow} (h : t ∈ selW ts es) : t ∈ ts := by
  obtain ⟨s, hs, e⟩ := some_mem h
  rw [kept_some e]; exact hs
theorem selW_len (ts : List WRow) (es : List Tst) : (selW ts es).length ≤ ts.length := List.length_filterMap_le _ _
theorem selW_take (ts : List WRow) (es : List Tst) (k : Nat) (h : k < ts.length) : selW (ts.take (k + 1)) es = selW (ts.take k) es ++ (keptG (fun zs => passAll zs es) (wat ts k)).toList := by
  unfold selW
  rw [wtake_succ ts k h, List.filterMap_append, List.filterMap_cons]
  cases keptG (fun zs => passAll zs es) (wat ts k) <;> rfl
theorem selW_ok {p : Int} {ts : List WRow} {es : List Tst} (h : goodT p ts = true) : ∀ t ∈ selW ts es, good t.1 = true ∧ -1000000000000 ≤ t.2 ∧ t.2 ≤ 1000000000000 := fun t ht => by
  have := goodL_mem (goodL_of_goodT h) t (selW_mem ht)
  exact ⟨this.1, by omega, by omega⟩
theorem tells_sel {q : Nat} {ts : List WRow} {es : List Tst} (h : goodT q ts = true) : Tells q (sumAt (selW ts es) (selW ts es).length 1) (selW ts es) :=
  tells_self (rises_some (fun t s hs => by rw [kept_some hs]) (goodT_rises h)) (fun t ht => goodT_noZero h t (selW_mem ht)) (fun t ht => goodT_mem h t (selW_mem ht))

set_option maxRecDepth 100000 in
set_option maxHeartbeats 4000000 in
theorem sieveSelect (L q n' c' : Nat) (a' : Option Addr) (es : List Tst) (w : World) (hL : w.cell? ⟨L, 0, none⟩ = some (.slice a' n' c')) (h6 : q ≤ 6) (hz' : es.length = n') (hg : goodEs q es = true) (ha' : AtE w a' es) :
    Sieve Tryz.prog 142 #[.pointer (some ⟨L, 0, none⟩)] (fun zs => passAll zs es) (fun zs => zs.length = q) w := by
  intro W a n c zs hb hq hz ha
  show Calls Tryz.prog 142 #[.agg #[.slice a n c], .pointer (some ⟨L, 0, none⟩)] W _
  obtain rfl : n = q := hz.symm.trans hq
  obtain ⟨W1, hW1⟩ : ∃ W1, W1 = W.alloc (.cells #[.slice a n c] 80) := ⟨_, rfl⟩
  have hbL : Below W.heap.size W (W.alloc (.cells #[.slice a n c] 80)) := (Below.refl _ _).alloc (Nat.le_refl _) _
  have l1 := cell_later hbL (cell_later hb hL)
  have HA := ha.below hbL
  have HE := (ha'.below hb).below hbL
  have HG := Hid.mk hg
  clear hg hL ha ha'
  go_enter Tryz.func142, Tryz.ntmps142
  go_wp2_with fail
  refine (passesAll_any _ _ _ _ _ _ zs es _ hz h6 hz' (by have := goodEs_len HG.out; omega) (goodEs_mem HG.out) HA HE).mono ?_
  rintro e w2 ⟨rfl, hb2⟩
  go_wp2
  go_ret
  exact ⟨rfl, hbL.trans (hb2.mono hbL.size)⟩

set_option maxRecDepth 100000 in
set_option maxHeartbeats 4000000 in
theorem l3Select_any (a a' : Option Addr) (n n' c c' : Nat) (ts : List WRow) (es : List Tst) (q0 : Nat) (w : World) (hz : ts.length = n) (hz' : es.length = n') (hn : n ≤ 60) (h6 : q0 ≤ 6) (hgt : ∀ t ∈ ts, t.1.length = q0) (hge : goodEs q0 es = true) (ha : AtM w a ts) (ha' : AtE w a' es) :
    Calls Tryz.prog 81 #[.slice a n c, .slice a' n' c'] w fun e w' => ∃ r k d, e = .returned (.slice r k d) ∧ (selW ts es).length = k ∧ AtM w' r (selW ts es) ∧ Below w.heap.size w w' := by
  obtain ⟨i0, hi, hz0, hz1, hz2⟩ := info_parts Tryz.infoW
  have h8 : n' ≤ 8 := by have := goodEs_len hge; omega
  have HGE := Hid.mk (goodEs_mem hge)
  clear hge
  go_enter Tryz.func81, Tryz.ntmps81
  go_wp2
  go_loopw [5, 10] (fun o i wr => ∃ (k m : Nat) (r : Option Addr) (d : Nat) (cs : List Value), k ≤ n ∧ m ≤ k ∧ i = .int .i64 k ∧ o = .slice r m d ∧ (selW (ts.take k) es).length = m ∧ wr.ownsRow w.heap.size 82 2 (.slice r m d) m cs ∧ Means w cs (selW (ts.take k) es) ∧ Below w.heap.size w wr) (fun _ i _ => n - (intOf i).toNat)
  case atStart => exact ⟨0, 0, none, 0, [], Nat.zero_le _, Nat.le_refl _, rfl, rfl, rfl, World.ownsRow_nil _ _ _ _, trivial, Below.refl _ _⟩
  case round =>
    obtain ⟨k, m, r, d, cs, hk, hmk, rfl, rfl, hml, ho, hme, hbw⟩ := hrel
    by_cases hlt : k < n
    · obtain ⟨b, off, rfl, hc⟩ := ha.some (by omega)
      obtain ⟨q, dd, hcx, hwx, hm1, hnil, hat⟩ := hc k (by omega)
      have hgk := at_of_mem hgt k (by omega)
      have HS := Hid.mk (selW_take ts es k (by omega))
      have hki : (k : Int) < (n : Int) := by omega
      generalize wat ts k = Y at *
      obtain ⟨ys, x⟩ := Y
      simp only at hcx hwx hat hm1 hgk
      obtain ⟨m2, hmm⟩ : ∃ m2, ys.length = m2 := ⟨_, rfl⟩
      rw [hmm] at hcx hm1 hgk
      subst hgk
      have HM := Hid.mk hmm
      have HATW := Hid.mk hat
      have hcx := cell_later hbw hcx
      have hwx := cell_later hbw hwx
      have zz := hbw.size
      clear hc hat
      have hbL : Below wr.heap.size wr (wr.alloc (.cells #[.slice q m2 dd, .int .i64 x] 82)) := (Below.refl _ _).alloc (Nat.le_refl _) _
      have oL := ho.alloc (.cells #[.slice q m2 dd, .int .i64 x] 82)
      obtain ⟨w4, hw4⟩ : ∃ w4, w4 = wr.alloc (.cells #[.slice q m2 dd, .int .i64 x] 82) := ⟨_, rfl⟩
      go_wp2_with fail
      rw [← hw4] at hbL oL ⊢
      have z4 : w4.heap.size = wr.heap.size + 1 := by rw [hw4]; simp
      have x4 : w4.cell? ⟨wr.heap.size, 0, none⟩ = some (.slice q m2 dd) := by rw [hw4]; simp
      have y4 : w4.cell? ⟨wr.heap.size, 1, none⟩ = some (.int .i64 x) := by rw [hw4]; simp
      clear hw4
      have hb4 := hbw.trans (hbL.mono hbw.size)
      refine (l3True_any _ _ _ _ _ _ ys es _ hmm h6 hz' h8 HGE.out (HATW.out.below hb4) (ha'.below hb4)).mono ?_
      rintro e w5 ⟨rfl, hb5⟩
      have x5 := cell_later hb5 x4
      have y5 := cell_later hb5 y4
      have hbw5 := hb4.trans (hb5.mono hb4.size)
      have o5 := oL.kept (Below.toGrown hb5 none) (by simp; exact Classical.em _)
      have z5 := hb5.size
      clear hbL oL hb4 hmm x4 y4 ho hbw hcx hwx hb5
      cases hx : passAll ys es with
      | true =>
        have HSX : Hid (selW (ts.take (k + 1)) es = selW (ts.take k) es ++ [(ys, x)]) := by show _ = _; rw [HS.out]; unfold keptG; simp [hx]
        clear hx
        go_wp2_with (at_builtin; refine wpList_append_lies _ rfl (.tmp 18) (.tmp 20) 30 rfl w.heap.size 82 i0 (.agg #[.slice none 0 0, .int .i64 0]) 2 32 Tryz.underlying30 hi hz0 hz1 hz2 rfl (by decide) (.slice r m d) m cs rfl (o5.alloc _) ⟨w5.heap.size, 0, none⟩ 1 1 [.slice q m2 dd, .int .i64 x] (by simp [Act.eval]) rfl (by simpa using news_at w5 #[.slice q m2 dd, .int .i64 x] 82) (by intro u hu; simp at hu; rcases hu with rfl | rfl <;> rfl) (by decide) (by unfold maxLen; omega) (by omega) (by simp; omega) (w5.heap.size + 1) (by simp) ?_; intro g2 cap2 w6 hown6 hgrow6 hat6 hlt6)
        have hgr : w5.grownBy w6 (Value.slice r m d).ownBlock := grown_alloc hgrow6
        have HB := Hid.mk (hbw5.grown hgr hbw5.size (fun j hj => (o5.lt j hj).1))
        have HO := Hid.mk hown6
        have HME : Hid (Means w (cs ++ [.slice q m2 dd, .int .i64 x]) (selW (ts.take (k + 1)) es)) := by
          show Means _ _ _
          rw [HSX.out]
          exact hme.append (Means.one HM.out (by omega) hnil HATW.out)
        have HL2 : Hid ((selW (ts.take (k + 1)) es).length = m + 1) := by show _ = _; rw [HSX.out, List.length_append, hml]; rfl
        clear hown6 hgrow6 hat6 hlt6 hgr o5 hme hbw5 hml x5 y5
        go_wp2
        go_roundw
        case rel => exact ⟨k + 1, m + 1, _, _, _, by omega, by omega, by go_num, rfl, HL2.out, HO.out, HME.out, HB.out⟩
        case measure => simp [intOf]; omega
      | false =>
        have HSX : Hid (selW (ts.take (k + 1)) es = selW (ts.take k) es) := by show _ = _; rw [HS.out]; unfold keptG; simp [hx]
        have HL2 : Hid ((selW (ts.take (k + 1)) es).length = m) := by show _ = _; rw [HSX.out, hml]
        have HME : Hid (Means w cs (selW (ts.take (k + 1)) es)) := by show Means _ _ _; rw [HSX.out]; exact hme
        have HO := Hid.mk o5
        have HB := Hid.mk hbw5
        clear o5 hme hbw5 hml hx
        go_wp2
        go_roundw
        case rel => exact ⟨k + 1, m, _, _, _, by omega, by omega, by go_num, rfl, HL2.out, HO.out, HME.out, HB.out⟩
        case measure => simp [intOf]; omega
    · obtain rfl : k = n := by omega
      rw [wtake_all' ts hz] at hme hml
      go_wp2
      go_ret
      exact ⟨_, _, _, rfl, hml, (hme.below hbw).ownedM hml ho, hbw⟩

set_option maxRecDepth 100000 in
set_option maxHeartbeats 4000000 in
theorem implSelectRows (a a' : Option Addr) (n n' c c' : Nat) (ts : List WRow) (p : Int) (es : List Tst) (w : World) (hz : ts.length = n) (hz' : es.length = n') (hn : n ≤ 1048576) (hn' : n' ≤ 1048576) (ha : AtM w a ts) (ha' : AtE w a' es) :
    Calls Tryz.prog 108 #[.agg #[.int .i64 p, .slice a n c], .slice a' n' c'] w fun e w' => TabAns e w' w.heap.size (selB p ts es) p (selW ts es) ∧ Below w.heap.size w w' := by
  obtain ⟨W, hW⟩ : ∃ W, W = ((w.alloc (.cells #[.int .i64 p, .slice a n c] 32)).alloc (.cells #[.slice a' n' c'] 71)).alloc (.cells #[.int .i64 0, .slice none 0 0] 32) := ⟨_, rfl⟩
  have zW : W.heap.size = w.heap.size + 1 + 1 + 1 := by rw [hW]; simp
  have B0 : Below w.heap.size w W := by rw [hW]; exact (((Below.refl _ _).alloc (Nat.le_refl _) _).alloc (by simp) _).alloc (by simp; omega) _
  have c0 : W.cell? ⟨w.heap.size, 0, none⟩ = some (.int .i64 p) := by rw [hW]; exact alloc_keeps (alloc_keeps (pair0 w _ _ _) _) _
  have c1 : W.cell? ⟨w.heap.size, 1, none⟩ = some (.slice a n c) := by rw [hW]; exact alloc_keeps (alloc_keeps (pair1 w _ _ _) _) _
  have b0 : W.cell? ⟨w.heap.size + 1, 0, none⟩ = some (.slice a' n' c') := by rw [hW]; refine alloc_keeps ?_ _; simp
  have q0 : W.heap[w.heap.size + 1 + 1]? = some (.cells #[.int .i64 0, .slice none 0 0] 32 (0, 0)) := by
    rw [hW]
    have := heap_alloc_new ((w.alloc (.cells #[.int .i64 p, .slice a n c] 32)).alloc (.cells #[.slice a' n' c'] 71)) (.cells #[.int .i64 0, .slice none 0 0] 32)
    rwa [World.size_alloc, World.size_alloc] at this
  have e0 : W.cell? ⟨w.heap.size + 1 + 1, 0, none⟩ = some (.int .i64 0) := by rw [cell_of_row _ _ 0 _ _ (0, 0) q0]; rfl
  have e1 : W.cell? ⟨w.heap.size + 1 + 1, 1, none⟩ = some (.slice none 0 0) := by rw [cell_of_row _ _ 1 _ _ (0, 0) q0]; rfl
  have f0 : W.frozen? ⟨w.heap.size + 1 + 1, 0, none⟩ = false := frozen_of_row _ _ 0 _ _ q0
  have f1 : W.frozen? ⟨w.heap.size + 1 + 1, 1, none⟩ = false := frozen_of_row _ _ 1 _ _ q0
  have HA := ha.below B0
  have HC := ha'.below B0
  clear ha ha' q0
  cases hg : goodT p ts with
  | false =>
    have HG := Hid.mk hg
    clear hg
    go_enter Tryz.func108, Tryz.ntmps108
    go_wp2_with fail
    rw [← hW]
    clear hW
    refine (implGoodTable_any _ _ _ ts _ _ hz hn HA.atW).mono ?_
    rintro e w1 ⟨rfl, hb1⟩
    rw [HG.out]
    have B1 := B0.trans (hb1.mono B0.size)
    have f0 := frozen_later hb1 e0 f0
    have f1 := frozen_later hb1 e1 f1
    have e0 := cell_later hb1 e0
    have e1 := cell_later hb1 e1
    have c0 := cell_later hb1 c0
    have c1 := cell_later hb1 c1
    have b0 := cell_later hb1 b0
    go_wp2
    refine bodyPost_ret (v := .tuple #[.agg #[.int .i64 0, .slice none 0 0], .bool false]) (by simp [results, Tryz.results108, go_sem, e0, e1]) rfl ⟨TabAns.zero (selB_no HG.out) rfl, ?_⟩
    exact (B1.setCell (by show w.heap.size ≤ w.heap.size + 1 + 1; omega) _).setCell (by show w.heap.size ≤ w.heap.size + 1 + 1; omega) _
  | true =>
    obtain ⟨q, hq⟩ : ∃ q : Nat, p = q := ⟨p.toNat, by have := inc_range (goodT_parts hg).1; omega⟩
    subst hq
    have h6 : q ≤ 6 := by have := inc_range (goodT_parts hg).1; omega
    have n60 := goodT_len60 hg
    have HG := Hid.mk hg
    clear hg
    go_enter Tryz.func108, Tryz.ntmps108
    go_wp2_with fail
    rw [← hW]
    clear hW
    refine (implGoodTable_any _ _ _ ts _ _ hz hn HA.atW).mono ?_
    rintro e w1 ⟨rfl, hb1⟩
    rw [HG.out]
    have B1 := B0.trans (hb1.mono B0.size)
    have f0 := frozen_later hb1 e0 f0
    have f1 := frozen_later hb1 e1 f1
    have e0 := cell_later hb1 e0
    have e1 := cell_later hb1 e1
    have c0 := cell_later hb1 c0
    have c1 := cell_later hb1 c1
    have b0 := cell_later hb1 b0
    have HA := HA.below hb1
    have HC := HC.below hb1
    clear hb1
    go_wp2_with fail
    refine (implGoodTests_any _ _ _ es q _ hz' hn' h6 HC).mono ?_
    rintro e w2 ⟨rfl, hb2⟩
    have B2 := B1.trans (hb2.mono B1.size)
    have f0 := frozen_later hb2 e0 f0
    have f1 := frozen_later hb2 e1 f1
    have e0 := cell_later hb2 e0
    have e1 := cell_later hb2 e1
    have c0 := cell_later hb2 c0
    have c1 := cell_later hb2 c1
    have b0 := cell_later hb2 b0
    have HA := HA.below hb2
    have HC := HC.below hb2
    clear hb2
    cases hc : goodEs q es with
    | false =>
      have HCO := Hid.mk hc
      clear hc
      go_wp2
      refine bodyPost_ret (v := .tuple #[.agg #[.int .i64 0, .slice none 0 0], .bool false]) (by simp [results, Tryz.results108, go_sem, e0, e1]) rfl ⟨TabAns.zero (selB_not HCO.out) rfl, ?_⟩
      exact (B2.setCell (by show w.heap.size ≤ w.heap.size + 1 + 1; omega) _).setCell (by show w.heap.size ≤ w.heap.size + 1 + 1; omega) _
    | true =>
      have HCO := Hid.mk hc
      clear hc
      have HNB : Hid (selB q ts es = goodT q (selW ts es)) := selB_yes HG.out HCO.out
      have hS2 := sieveSelect (w.heap.size + 1) q n' c' a' es w2 b0 h6 hz' HCO.out HC
      go_wp2_with fail
      refine (rowsOf_any _ _ _ _ _).mono ?_
      rintro e w4 ⟨rfl, hw4⟩
      have hb4 : Below w2.heap.size w2 w4 := by rw [hw4]; exact (Below.refl _ _).alloc (Nat.le_refl _) _
      have t4 : w4.cell? ⟨w2.heap.size, 1, none⟩ = some (.slice a n c) := by rw [hw4]; exact pair1 w2 _ _ _
      have hR := rowsOf1_hands w2.heap.size a n c ts w4 hz hn t4 (HA.below hb4)
      have B4 := B2.trans (hb4.mono B2.size)
      have hS4 := hS2.later hb4
      have f0 := frozen_later hb4 e0 f0
      have f1 := frozen_later hb4 e1 f1
      have e0 := cell_later hb4 e0
      have e1 := cell_later hb4 e1
      have c0 := cell_later hb4 c0
      have c1 := cell_later hb4 c1
      have b0 := cell_later hb4 b0
      clear HA HC hS2 hb4 t4 hw4
      go_wp2_with fail
      refine (keptRows_any _ _ _ _ _).mono ?_
      rintro e w6 ⟨rfl, hw6⟩
      have hb6 : Below w4.heap.size w4 w6 := by rw [hw6]; exact ((Below.refl _ _).alloc (Nat.le_refl _) _).alloc (by simp) _
      have t6 : w6.cell? ⟨w4.heap.size, 0, none⟩ = some (.func (.func 164) #[] #[.pointer (some ⟨w2.heap.size, 0, none⟩)]) := by rw [hw6]; exact alloc_keeps (by simp) _
      have u6 : w6.cell? ⟨w4.heap.size + 1, 0, none⟩ = some (.func (.func 142) #[] #[.pointer (some ⟨w.heap.size + 1, 0, none⟩)]) := by rw [hw6]; simp
      have hH := keptRows1_hands w4.heap.size (w4.heap.size + 1) 164 142 #[.pointer (some ⟨w2.heap.size, 0, none⟩)] #[.pointer (some ⟨w.heap.size + 1, 0, none⟩)] ts (fun zs => passAll zs es) (fun zs => zs.length = q) w6 t6 u6 (enters_of Tryz.func164 (by kernel_rfl) rfl) (enters_of Tryz.func142 (by kernel_rfl) rfl) (hR.later hb6) (hS4.later hb6) (at_of_mem (fun t ht => (goodT_mem HG.out t ht).2))
      have B6 := B4.trans (hb6.mono B4.size)
      have f0 := frozen_later hb6 e0 f0
      have f1 := frozen_later hb6 e1 f1
      have e0 := cell_later hb6 e0
      have e1 := cell_later hb6 e1
      have c0 := cell_later hb6 c0
      have c1 := cell_later hb6 c1
      have b0 := cell_later hb6 b0
      clear hR hS4 hb6 t6 u6 hw6
      go_wp2_with fail
      refine (tableOf_any 163 #[.pointer (some ⟨w4.heap.size, 0, none⟩), .pointer (some ⟨w4.heap.size + 1, 0, none⟩)] (selW ts es) q w6 (enters_of Tryz.func163 (by kernel_rfl) rfl) hH h6 (by have := selW_len ts es; omega) (at_of_mem (selW_ok HG.out)) (fun t ht => ((tells_sel HG.out).rows t ht).2)).mono ?_
      rintro e w7 ⟨us, ⟨r4, m4, d4, cells4, rfl, ho4⟩, hTl, hb7⟩
      have zR : w.heap.size + 1 + 1 < w6.heap.size := World.block_lt_of_cell? _ _ (by assumption : w6.cell? ⟨w.heap.size + 1 + 1, 0, none⟩ = _)
      have B7 := B6.trans (hb7.mono B6.size)
      have f0 := frozen_later hb7 e0 f0
      have f1 := frozen_later hb7 e1 f1
      have e0 := cell_later hb7 e0
      have e1 := cell_later hb7 e1
      have hus : us = selW ts es := hTl.unique (tells_sel HG.out)
      subst hus
      clear hH hTl hb7 c0 c1 b0
      go_wp2
      refine bodyPost_ret (v := .tuple #[.agg #[.int .i64 _, .slice r4 m4 d4], .bool _]) (by simp [results, Tryz.results108, go_sem, e0, e1]) rfl ⟨TabAns.tell HNB.out ⟨r4, m4, d4, cells4, rfl, ho4.stored zR (by omega) _ _⟩, ?_⟩
      exact (B7.setCell (by show w.heap.size ≤ w.heap.size + 1 + 1; omega) _).setCell (by show w.heap.size ≤ w.heap.size + 1 + 1; omega) _
end Go.Proofs.YthiabjkjpjmahaaGreat

/- Plain: a table's rows, scaled. -/
namespace Go.Proofs.YthiabjkjpjmahaaGreat

def scaleW (ts : List WRow) (t : Int) : List WRow := if t = 0 then [] else ts.map fun s => (s.1, t * s.2)

end Go.Proofs.YthiabjkjpjmahaaGreat

/- Contracts of impl.NewTable, impl.AddTables, impl.ScaleTable, impl.NegateTable, impl.EmptyTable. -/
namespace Go.Proofs.YthiabjkjpjmahaaGreat
open Go.RowKit Go.Maps

end Go.Proofs.YthiabjkjpjmahaaGreat

/- Contract of impl.goodAlike. -/
namespace Go.Proofs.YthiabjkjpjmahaaGreat
open Go.RowKit Go.Maps

/-- Two good tables with as many columns. -/
def alike (p : Int) (ts : List WRow) (p' : Int) (ts' : List WRow) : Bool := goodT p ts && (goodT p' ts' && decide (p = p'))

set_option maxHeartbeats 2000000 in
theorem goodAlike_any (a a' : Option Addr) (n n' c c' : Nat) (ts ts' : List WRow) (p p' : Int) (w : World) (hz : ts.length = n) (hz' : ts'.length = n') (hn : n ≤ 1048576) (hn' : n' ≤ 1048576) (ha : AtW w a ts) (ha' : AtW w a' ts') :
    Calls Tryz.prog 44 #[.agg #[.int .i64 p, .slice a n c], .agg #[.int .i64 p', .slice a' n' c']] w fun e w' => e = .returned (.bool (alike p ts p' ts')) ∧ Below w.heap.size w w' := by
  obtain ⟨W, hW⟩ : ∃ W, W = (w.alloc (.cells #[.int .i64 p, .slice a n c] 32)).alloc (.cells #[.int .i64 p', .slice a' n' c'] 32) := ⟨_, rfl⟩
  have B0 : Below w.heap.size w W := by rw [hW]; exact ((Below.refl _ _).alloc (Nat.le_refl _) _).alloc (by simp) _
  have c0 : W.cell? ⟨w.heap.size, 0, none⟩ = some (.int .i64 p) := by rw [hW]; simp
  have c1 : W.cell? ⟨w.heap.size, 1, none⟩ = some (.slice a n c) := by rw [hW]; simp
  have b0 : W.cell? ⟨w.heap.size + 1, 0, none⟩ = some (.int .i64 p') := by rw [hW]; simp
  have b1 : W.cell? ⟨w.heap.size + 1, 1, none⟩ = some (.slice a' n' c') := by rw [hW]; simp
  have HA := ha.below B0
  have HA' := ha'.below B0
  clear ha ha'
  cases hg : goodT p ts with
  | false =>
    have HG := Hid.mk hg
    clear hg
    go_enter Tryz.func44, Tryz.ntmps44
    go_wp2_with fail
    rw [← hW]
    clear hW
    refine (implGoodTable_any _ _ _ ts _ _ hz hn HA).mono ?_
    rintro e w1 ⟨rfl, hb1⟩
    rw [HG.out]
    go_wp2
    go_ret
    exact ⟨ret_bool (by simp [alike, HG.out]), B0.trans (hb1.mono B0.size)⟩
  | true =>
    have HG := Hid.mk hg
    clear hg
    cases hg' : goodT p' ts' with
    | false =>
      have HG' := Hid.mk hg'
      clear hg'
      go_enter Tryz.func44, Tryz.ntmps44
      go_wp2_with fail
      rw [← hW]
      clear hW
      refine (implGoodTable_any _ _ _ ts _ _ hz hn HA).mono ?_
      rintro e w1 ⟨rfl, hb1⟩
      rw [HG.out]
      have b0 := cell_later hb1 b0
      have b1 := cell_later hb1 b1
      go_wp2_with fail
      refine (implGoodTable_any _ _ _ ts' _ _ hz' hn' (HA'.below hb1)).mono ?_
      rintro e w2 ⟨rfl, hb2⟩
      rw [HG'.out]
      have B1 := B0.trans (hb1.mono B0.size)
      go_wp2
      go_ret
      exact ⟨ret_bool (by simp [alike, HG.out, HG'.out]), B1.trans (hb2.mono B1.size)⟩
    | true =>
      have HG' := Hid.mk hg'
      clear hg'
      go_enter Tryz.func44, Tryz.ntmps44
      go_wp2_with fail
      rw [← hW]
      clear hW
      refine (implGoodTable_any _ _ _ ts _ _ hz hn HA).mono ?_
      rintro e w1 ⟨rfl, hb1⟩
      rw [HG.out]
      have b1 := cell_later hb1 b1
      have c0 := cell_later hb1 c0
      have b0 := cell_later hb1 b0
      go_wp2_with fail
      refine (implGoodTable_any _ _ _ ts' _ _ hz' hn' (HA'.below hb1)).mono ?_
      rintro e w2 ⟨rfl, hb2⟩
      rw [HG'.out]
      have c0 := cell_later hb2 c0
      have b0 := cell_later hb2 b0
      have B1 := B0.trans (hb1.mono B0.size)
      go_wp2
      go_ret
      exact ⟨ret_bool (by show _ = (goodT p ts && (goodT p' ts' && decide (p = p'))); rw [HG.out, HG'.out]; rfl), B1.trans (hb2.mono B1.size)⟩

theorem alike_parts {p : Int} {ts : List WRow} {p' : Int} {ts' : List WRow} (h : alike p ts p' ts' = true) : goodT p ts = true ∧ goodT p' ts' = true ∧ p = p' := by
  simpa [alike] using h

end Go.Proofs.YthiabjkjpjmahaaGreat

/- Contracts of impl.goodAlike, impl.AddTables, impl.ScaleTable, impl.NegateTable, impl.EmptyTable. -/
namespace Go.Proofs.YthiabjkjpjmahaaGreat
open Go.RowKit Go.Maps

/-- What AddTables tells. -/
def addB (p : Int) (ts : List WRow) (p' : Int) (ts' : List WRow) : Bool := alike p ts p' ts' && goodT p (putAll ts ts')
theorem addB_no {p : Int} {ts : List WRow} {p' : Int} {ts' : List WRow} (h : alike p ts p' ts' = false) : addB p ts p' ts' = false := by simp [addB, h]
theorem addB_yes {p : Int} {ts : List WRow} {p' : Int} {ts' : List WRow} (h : alike p ts p' ts' = true) : addB p ts p' ts' = goodT p (putAll ts ts') := by simp [addB, h]
theorem sumAt_bound {ts : List WRow} {p : Int} (h : goodT p ts = true) {n : Nat} (hn : ts.length = n) (x : List Int) : -1000000000000 ≤ sumAt ts n 1 x ∧ sumAt ts n 1 x ≤ 1000000000000 := by
  have h60 := goodT_len60 h
  have key : ∀ k, k ≤ n → -1000000 * (k : Int) ≤ sumAt ts k 1 x ∧ sumAt ts k 1 x ≤ 1000000 * (k : Int) := by
    intro k hk
    induction k with
    | zero => simp [sumAt_zero]
    | succ k ih =>
      have hi := ih (by omega)
      have hg := goodT_cells h k (by omega)
      rw [sumAt_succ ts k 1 x (by omega)]
      by_cases e : raised (wat ts k).1 = x
      · rw [if_pos e]; push_cast; omega
      · rw [if_neg e]; push_cast; omega
  have := key n (Nat.le_refl _)
  omega
theorem tells_add {q n n' : Nat} {ts ts' : List WRow} (hz : ts.length = n) (hz' : ts'.length = n') (h : goodT q ts = true) (h' : goodT q ts' = true) : Tells q (fun x => sumAt ts n 1 x + sumAt ts' n' 1 x) (putAll ts ts') :=
  tells_put (goodT_rises h) (goodT_noZero h) (goodT_mem h) (goodT_mem h') fun zs h1 _ => by
    rw [sumAt_sumW hz 1 (fun t ht => (goodT_mem h t ht).1) h1, sumAt_sumW hz' 1 (fun t ht => (goodT_mem h' t ht).1) h1, sumW_rises (goodT_rises h)]; omega

set_option maxRecDepth 100000 in
set_option maxHeartbeats 4000000 in
theorem implAddTables (a a' : Option Addr) (n n' c c' : Nat) (ts ts' : List WRow) (p p' : Int) (w : World) (hz : ts.length = n) (hz' : ts'.length = n') (hn : n ≤ 1048576) (hn' : n' ≤ 1048576) (ha : AtW w a ts) (ha' : AtW w a' ts') :
    Calls Tryz.prog 11 #[.agg #[.int .i64 p, .slice a n c], .agg #[.int .i64 p', .slice a' n' c']] w fun e w' => TabAns e w' w.heap.size (addB p ts p' ts') p (putAll ts ts') ∧ Below w.heap.size w w' := by
  obtain ⟨W, hW⟩ : ∃ W, W = ((w.alloc (.cells #[.int .i64 p, .slice a n c] 32)).alloc (.cells #[.int .i64 p', .slice a' n' c'] 32)).alloc (.cells #[.int .i64 0, .slice none 0 0] 32) := ⟨_, rfl⟩
  have zW : W.heap.size = w.heap.size + 1 + 1 + 1 := by rw [hW]; simp
  have B0 : Below w.heap.size w W := by rw [hW]; exact (((Below.refl _ _).alloc (Nat.le_refl _) _).alloc (by simp) _).alloc (by simp; omega) _
  have c0 : W.cell? ⟨w.heap.size, 0, none⟩ = some (.int .i64 p) := by rw [hW]; exact alloc_keeps (alloc_keeps (pair0 w _ _ _) _) _
  have c1 : W.cell? ⟨w.heap.size, 1, none⟩ = some (.slice a n c) := by rw [hW]; exact alloc_keeps (alloc_keeps (pair1 w _ _ _) _) _
  have b1 : W.cell? ⟨w.heap.size + 1, 1, none⟩ = some (.slice a' n' c') := by rw [hW]; refine alloc_keeps ?_ _; have := pair1 (w.alloc (.cells #[.int .i64 p, .slice a n c] 32)) (.int .i64 p') (.slice a' n' c') 32; rwa [World.size_alloc] at this
  have b0 : W.cell? ⟨w.heap.size + 1, 0, none⟩ = some (.int .i64 p') := by rw [hW]; refine alloc_keeps ?_ _; have := pair0 (w.alloc (.cells #[.int .i64 p, .slice a n c] 32)) (.int .i64 p') (.slice a' n' c') 32; rwa [World.size_alloc] at this
  have q0 : W.heap[w.heap.size + 1 + 1]? = some (.cells #[.int .i64 0, .slice none 0 0] 32 (0, 0)) := by
    rw [hW]
    have := heap_alloc_new ((w.alloc (.cells #[.int .i64 p, .slice a n c] 32)).alloc (.cells #[.int .i64 p', .slice a' n' c'] 32)) (.cells #[.int .i64 0, .slice none 0 0] 32)
    rwa [World.size_alloc, World.size_alloc] at this

  have e0 : W.cell? ⟨w.heap.size + 1 + 1, 0, none⟩ = some (.int .i64 0) := by rw [cell_of_row _ _ 0 _ _ (0, 0) q0]; rfl
  have e1 : W.cell? ⟨w.heap.size + 1 + 1, 1, none⟩ = some (.slice none 0 0) := by rw [cell_of_row _ _ 1 _ _ (0, 0) q0]; rfl
  have f0 : W.frozen? ⟨w.heap.size + 1 + 1, 0, none⟩ = false := frozen_of_row _ _ 0 _ _ q0
  have f1 : W.frozen? ⟨w.heap.size + 1 + 1, 1, none⟩ = false := frozen_of_row _ _ 1 _ _ q0
  have HA := ha.below B0
  have HA' := ha'.below B0
  clear ha ha' q0
  go_enter Tryz.func11, Tryz.ntmps11
  go_wp2_with fail
  rw [← hW]
  clear hW
  refine (goodAlike_any _ _ _ _ _ _ ts ts' _ _ _ hz hz' hn hn' HA HA').mono ?_
  rintro e w1 ⟨rfl, hb1⟩
  have B1 := B0.trans (hb1.mono B0.size)
  have g0 := cell_later hb1 e0
  have g1 := cell_later hb1 e1
  have k0 := frozen_later hb1 e0 f0
  have k1 := frozen_later hb1 e1 f1
  have c0 := cell_later hb1 c0
  have c1 := cell_later hb1 c1
  have b1 := cell_later hb1 b1
  have HA := HA.below hb1
  have HA' := HA'.below hb1
  clear e0 e1 f0 f1 b0 hb1
  cases hal : alike p ts p' ts' with
  | false =>
    have HL := Hid.mk hal
    clear hal
    go_wp2
    refine bodyPost_ret (v := .tuple #[.agg #[.int .i64 0, .slice none 0 0], .bool false]) (by simp [results, Tryz.results11, go_sem, g0, g1]) rfl ⟨TabAns.zero (addB_no HL.out) rfl, ?_⟩
    exact (B1.setCell (by show w.heap.size ≤ w.heap.size + 1 + 1; omega) _).setCell (by show w.heap.size ≤ w.heap.size + 1 + 1; omega) _
  | true =>
    have HL := Hid.mk hal
    obtain ⟨hg, hg', rfl⟩ := alike_parts hal
    obtain ⟨q, hq⟩ : ∃ q : Nat, p = q := ⟨p.toNat, by have := inc_range (goodT_parts hg).1; omega⟩
    subst hq
    have h6 : q ≤ 6 := by have := inc_range (goodT_parts hg).1; omega
    have n60 := goodT_len60 hg
    have n60' := goodT_len60 hg'
    have HGC := Hid.mk hg
    have HGC' := Hid.mk hg'
    clear hal hg hg'
    go_wp2_with fail
    refine (sumsOf_any _ _ _ ts _ _ hz (by omega) (by decide) (by decide) (fun k hk => goodT_cells HGC.out k (by omega)) HA).mono ?_
    rintro e w2 ⟨b, D, rfl, hbb, ho2, hm2, hb2⟩
    have B2 := B1.trans (hb2.mono B1.size)
    have g0 := cell_later hb2 g0
    have k0 := frozen_later hb2 (by assumption) k0
    have k1 := frozen_later hb2 g1 k1
    have g1 := cell_later hb2 g1
    have c0 := cell_later hb2 c0
    have b1 := cell_later hb2 b1
    have HA' := HA'.below hb2
    have z1 : w.heap.size + 1 + 1 < w1.heap.size := World.block_lt_of_cell? _ _ (by assumption : w1.cell? ⟨w.heap.size + 1 + 1, 1, none⟩ = _)
    go_wp2_with fail
    refine (add_any b n D _ _ _ _ _ ts' _ _ hz' (by omega) (by omega) (by decide) (by decide) (fun k hk => goodT_cells HGC'.out k (by omega)) (fun x => sumAt_bound HGC.out hz x) HA' ho2 hm2).mono ?_
    rintro e w3 ⟨rfl, D', ho3, hm3, hg3⟩
    have B3 := B2.grown hg3 B2.size (fun j hj => by cases hj; have := B1.size; omega)
    have kk0 : w3.frozen? ⟨w.heap.size + 1 + 1, 0, none⟩ = false := (World.frozen?_of_block (hg3.block (w.heap.size + 1 + 1) (by have := hb2.size; omega) (by simp; omega))).trans k0
    have kk1 : w3.frozen? ⟨w.heap.size + 1 + 1, 1, none⟩ = false := (World.frozen?_of_block (hg3.block (w.heap.size + 1 + 1) (by have := hb2.size; omega) (by simp; omega))).trans k1
    have g0 := hg3.cell g0 (by simp; omega)
    have g1 := hg3.cell g1 (by simp; omega)
    have c0 := hg3.cell c0 (by simp; omega)
    go_wp2_with fail
    refine (table_any b (n + n') D' _ _ q _ (by omega) h6 ho3 hm3 (keys_append (keys_list (goodL_of_goodT HGC'.out) _) (keys_list (goodL_of_goodT HGC.out) _))).mono ?_
    rintro e w4 ⟨us, ⟨r4, m4, d4, cells4, rfl, ho4⟩, hT, hb4⟩
    have hus : us = putAll ts ts' := hT.unique (tells_add hz hz' HGC.out HGC'.out)
    subst hus
    have B4 := B3.trans (hb4.mono B3.size)
    have s0 := cell_later hb4 g0
    have s1 := cell_later hb4 g1
    have i0 := frozen_later hb4 g0 kk0
    have i1 := frozen_later hb4 g1 kk1
    have z3 : w.heap.size + 1 + 1 < w3.heap.size := World.block_lt_of_cell? _ _ g0
    have HNB : Hid (addB q ts q ts' = goodT q (putAll ts ts')) := addB_yes HL.out
    clear c0 c1 b1 HA HA' ho2 hm2 ho3 hm3 hT hb2 hb4 hg3
    go_wp2
    refine bodyPost_ret (v := .tuple #[.agg #[.int .i64 (tellP q (putAll ts ts')), .slice r4 m4 d4], .bool (goodT q (putAll ts ts'))]) (by simp [results, Tryz.results11, go_sem, s0, s1]) rfl ⟨TabAns.tell HNB.out ⟨r4, m4, d4, cells4, rfl, ho4.stored z3 (by omega) _ _⟩, ?_⟩
    exact (B4.setCell (by show w.heap.size ≤ w.heap.size + 1 + 1; omega) _).setCell (by show w.heap.size ≤ w.heap.size + 1 + 1; omega) _

end Go.Proofs.YthiabjkjpjmahaaGreat
