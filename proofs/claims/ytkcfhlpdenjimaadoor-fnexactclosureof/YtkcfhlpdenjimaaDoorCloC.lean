/- Contract of the model's l7Closure. -/
import Derived.Test.YtkcfhlpdenjimaaDoorCloN
import Derived.Test.YtkcfhlpdenjimaaDoorCloS
namespace Go.Proofs.YtkcfhlpdenjimaaDoor
open Go.RowKit

theorem owns_void (w : World) (e : TypeId) (size : Nat) : (w.alloc (.cells #[] e)).ownsRow w.heap.size e size (.slice (some ⟨w.heap.size, 0, none⟩) 0 0) 0 [] :=
  ⟨by simp, .inr ⟨w.heap.size, 0, #[], rfl, Nat.le_refl _, heap_alloc_new w _, by simp, by simp, by simp, by simp⟩⟩

/-- A rising list of columns: it is told by its set. -/
structure Told (l : List Int) : Prop where
  intro ::
  is : bl (mk l) = l
  lt : mk l < 64
theorem Told.of {c : Int} {l : List Int} (hc : c ≤ 6) (h : ris c l = true) : Told l := ⟨bl_mk hc h, mk_lt hc h⟩
theorem Told.in {l : List Int} (h : Told l) : ∀ x ∈ l, 0 ≤ x ∧ x < 6 := fun x hx => bl_in (s := mk l) (by rw [h.is]; exact hx)
theorem Told.len {l : List Int} (h : Told l) : l.length ≤ 6 := by have := bl_len (mk l); rw [h.is] at this; exact this
def Tolds (xs : List Dep) : Prop := ∀ d ∈ xs, Told d.1 ∧ Told d.2
theorem Tolds.of {xs : List Dep} {C : Int} (h : goodDeps xs C = true) : Tolds xs := by
  simp only [goodDeps, allDep, goodDep, Bool.and_eq_true, decide_eq_true_eq, List.all_eq_true] at h
  obtain ⟨_, h2, _, h4⟩ := h
  exact fun d hd => ⟨Told.of h2 (h4 d hd).1, Told.of h2 (h4 d hd).2⟩
theorem mk_take_bl {s : Nat} {zs : List Int} {k : Nat} (hs : s < 64) (hz : ∀ x ∈ zs, 0 ≤ x ∧ x < 6) (hk : k < zs.length) : insI (bl (s ||| mk (zs.take k))) (zs.getD k 0) = bl (s ||| mk (zs.take (k + 1))) := by
  have hx : zs.getD k 0 ∈ zs := by simp [List.getD, hk]
  rw [insI_bl (or_lt64 hs (mk_lt6 fun y hy => hz y (List.mem_of_mem_take hy))) (hz _ hx).1 (hz _ hx).2, mk_take hk, Nat.or_assoc]

set_option maxRecDepth 100000 in
set_option maxHeartbeats 4000000 in
theorem l7Closure_any (a : Option Addr) (n c : Nat) (xs : List Dep) (fa : Option Addr) (fn fc : Nat) (fs : List Int) (w : World) (hz : xs.length = n) (hn : n ≤ 1048576) (hs : Tolds xs) (ha : AtD w a xs)
    (hf : Told fs) (hfn : fs.length = fn) (hfa : At w fa fs) (hnil : fa = none → fc = 0) :
    Calls Tryd.prog 36 #[.slice a n c, .slice fa fn fc] w fun e w' => ∃ T r m d, IsClo (dms xs) (mk fs) T ∧ e = .returned (.slice r m d) ∧ (bl T).length = m ∧ w'.ownsRow w.heap.size 3 1 (.slice r m d) m ((bl T).map (.int .i64)) ∧ Below w.heap.size w w' := by
  obtain ⟨i0, hi, hz0, hz1, hz2⟩ := info_parts Tryd.infoInt
  have hfl := hf.len
  have hS := hf.lt
  have hfb := hf.is
  obtain ⟨S, hSe⟩ : ∃ S, mk fs = S := ⟨_, rfl⟩
  rw [hSe] at hS hfb ⊢
  have HS := Hid.mk hs
  have HA := Hid.mk ha
  have HFA := Hid.mk (hfa.alloc (.cells #[] 3))
  have HFN := Hid.mk hfn
  have HFB := Hid.mk hfb
  have OE := Hid.mk (owns_void w 3 1)
  have HNIL := Hid.mk hnil
  have hf6 : fn ≤ 6 := by omega
  clear hs ha hfa hfn hfb hf hSe hnil hfl
  go_enter Tryd.func36, Tryd.ntmps36
  go_wp2_with (at_builtin; refine wpList_append_all rfl (.tmp 11) (.tmp 12) 23 rfl w.heap.size 3 i0 (.int .i64 0) 8 Tryd.underlying23 hi hz0 hz1 hz2 rfl (.slice (some ⟨w.heap.size, 0, none⟩) 0 0) 0 [] rfl OE.out fa fn fc fs rfl HFN.out HFA.out HNIL.out (by unfold maxLen; omega) (by omega) (by simp) ?_)
  intro r1 d1 w1 ho1 hg1
  have B1 : Below w.heap.size w w1 := ((Below.refl _ _).alloc (Nat.le_refl _) _).grown hg1 (by simp) (fun j hj => by simp [Value.ownBlock] at hj; omega)
  have HO1 := Hid.mk ho1
  have HB1 := Hid.mk B1
  clear ho1 hg1 B1 OE
  go_wp2_with fail
  go_loopg [5] (64 - S) (fun g p wr => ∃ (T : Nat) (r : Option Addr) (m d : Nat), T + g = 64 ∧ p = .slice r m d ∧ (bl T).length = m ∧ T < 64 ∧ sb S T = true ∧ (∀ U, sb S U = true → clsd (dms xs) U → sb T U = true) ∧ wr.ownsRow w.heap.size 3 1 (.slice r m d) m ((bl T).map (.int .i64)) ∧ Below w.heap.size w wr)
  case atStart =>
    exact ⟨S, r1, fn, d1, by omega, rfl, by rw [HFB.out]; exact HFN.out, hS, sb_refl S, fun U h _ => h, by rw [HFB.out]; simpa using HO1.out, HB1.out⟩
  case round =>
    obtain ⟨T, r, m, d, hTg, rfl, hm, hT, hST, hleast, hown, hbw⟩ := hrel
    have HST := Hid.mk hST
    have HLE := Hid.mk hleast
    have HB := Hid.mk hbw
    have HM := Hid.mk hm
    have HO := Hid.mk hown
    clear hST hleast hbw hm hown HO1 HB1
    go_wp2_with fail
    go_loopg [5, 18] n (fun g2 p i wy => ∃ (k T' : Nat) (r : Option Addr) (m d : Nat), k + g2 = n ∧ i = .int .i64 k ∧ p = .slice r m d ∧ (bl T').length = m ∧ T' < 64 ∧ sb T T' = true ∧ (∀ U, sb S U = true → clsd (dms xs) U → sb T' U = true) ∧ (∀ (j : Nat) (x : Dep), j < k → xs[j]? = some x → sb (mk x.1) T = true → sb (mk x.2) T' = true) ∧ wy.ownsRow w.heap.size 3 1 (.slice r m d) m ((bl T').map (.int .i64)) ∧ Below w.heap.size w wy)
    case atStart => exact ⟨0, T, r, m, d, by omega, rfl, rfl, HM.out, hT, sb_refl T, HLE.out, fun j x h => by omega, HO.out, HB.out⟩
    case round =>
      obtain ⟨k, T', r', m', d', hkg, rfl, rfl, hm', hT', hTT, hleast, hall, hown, hbw⟩ := hrel
      have HM' := Hid.mk hm'
      have HTT := Hid.mk hTT
      have HLE' := Hid.mk hleast
      have HALL := Hid.mk hall
      have HO' := Hid.mk hown
      have HB' := Hid.mk hbw
      have hm6 : m' ≤ 6 := by rw [← hm']; exact bl_len T'
      clear hm' hTT hleast hall hown hbw HB HO
      by_cases hlt : k < n
      · obtain ⟨b, off, rfl, _, hc⟩ := AtD.row (AtSl.below HA.out HB'.out) (by omega)
        obtain ⟨x, hx⟩ : ∃ x, xs[k]? = some x := ⟨_, List.getElem?_eq_getElem (by omega)⟩
        obtain ⟨fa2, fn2, fc2, ta2, tn2, tc2, g0, g1, ⟨t1, t2, t3⟩, ⟨u1, u2, u3⟩⟩ := hc k x hx
        have hxt := HS.out x (List.mem_of_getElem? hx)
        have hki : (k : Int) < (n : Int) := by omega
        have htn6 : tn2 ≤ 6 := by rw [← u1]; exact hxt.2.len
        obtain ⟨W, hW⟩ : ∃ W, W = wr.alloc (.cells #[.slice fa2 fn2 fc2, .slice ta2 tn2 tc2] 43) := ⟨_, rfl⟩
        have bW : Below wr.heap.size wr W := by rw [hW]; exact (Below.refl _ _).alloc (Nat.le_refl _) _
        have zW : wr.heap.size < W.heap.size := by rw [hW]; simp
        have q1 : W.cell? ⟨wr.heap.size, 1, none⟩ = some (.slice ta2 tn2 tc2) := by rw [hW]; simp
        have HO2 := Hid.mk (owns_below HO'.out bW)
        have HB2 := Hid.mk (HB'.out.trans (bW.mono HB'.out.size))
        have HC := Hid.mk (l7All_any r' m' d' (bl T') fa2 fn2 fc2 x.1 W HM'.out (by omega) (At.owned HO2.out) t1 t2 (At.below t3 bW))
        have hall1 : (x.1.all fun k => decide (k ∈ bl T')) = sb (mk x.1) T' := by
          have h9 := all_bl (D := mk x.1) (T := T') hxt.1.lt
          rw [hxt.1.is] at h9
          exact h9
        rw [hall1] at HC
        have HX := Hid.mk hx
        have HXT := Hid.mk hxt
        have HU1 := Hid.mk u1
        have HU3 := Hid.mk (At.below u3 bW)
        clear hc hx hxt t1 t3 u1 u3 hall1 bW HO' HB'
        go_wp2_with fail
        rw [← hW]
        clear hW
        refine HC.out.mono ?_
        rintro e w2 ⟨rfl, rfl⟩
        cases hr1 : sb (mk x.1) T' with
        | false =>
          go_wp2
          go_roundg (n - (k + 1))
          case measure => omega
          case rel => exact ⟨k + 1, T', r', m', d', by omega, by go_num, rfl, HM'.out, hT', HTT.out, HLE'.out, fun j y hj hy hs1 => by
            by_cases hjk : j < k
            · exact HALL.out j y hjk hy hs1
            · obtain rfl : j = k := by omega
              obtain rfl : x = y := by have h9 := HX.out; rw [hy] at h9; exact (Option.some.inj h9).symm
              exact absurd (sb_trans hs1 HTT.out) (by rw [hr1]; simp), HO2.out, HB2.out⟩
        | true =>
          go_wp2_with fail
          go_loopg [5, 29] tn2 (fun g3 p i wz => ∃ (j : Nat) (r : Option Addr) (m d : Nat), j + g3 = tn2 ∧ i = .int .i64 j ∧ p = .slice r m d ∧ (bl (T' ||| mk (x.2.take j))).length = m ∧ wz.ownsRow w.heap.size 3 1 (.slice r m d) m ((bl (T' ||| mk (x.2.take j))).map (.int .i64)) ∧ Below w.heap.size w wz ∧ Below w2.heap.size w2 wz)
          case atStart => exact ⟨0, r', m', d', by omega, rfl, rfl, by simpa [mk] using HM'.out, by simpa [mk] using HO2.out, HB2.out, Below.refl _ _⟩
          case round =>
            obtain ⟨j, r3, m3, d3, hjg, rfl, rfl, hm3, hown3, hbw3, hbz3⟩ := hrel
            by_cases hjlt : j < tn2
            · obtain ⟨b4, off4, rfl, hb4, hc4⟩ := (At.below HU3.out hbz3).some (by have := HU1.out; omega)
              have hcx : wr.cell? ⟨b4, off4 + j, none⟩ = some (.int .i64 (x.2.getD j 0)) := hc4 j (by have := HU1.out; omega)
              have hins := mk_take_bl (s := T') (zs := x.2) (k := j) hT' HXT.out.2.in (by have := HU1.out; omega)
              have hm36 : m3 ≤ 6 := by rw [← hm3]; exact bl_len _
              obtain ⟨y, hy⟩ : ∃ y, y = x.2.getD j 0 := ⟨_, rfl⟩
              rw [← hy] at hcx hins
              have HC3 := Hid.mk (l7Put_any w.heap.size r3 m3 d3 (bl (T' ||| mk (x.2.take j))) y wr hm3 (by omega) hbw3.size hown3)
              rw [hins] at HC3
              have HBW3 := Hid.mk hbw3
              have HBZ3 := Hid.mk hbz3
              have hji : (j : Int) < (tn2 : Int) := by omega
              clear hc4 hins hy hm3 hown3 hbw3 hbz3
              go_wp2_with fail
              refine HC3.out.mono ?_
              rintro e w5 ⟨r5, m5, d5, rfl, hm5, ho5, hb5⟩
              have HM5 := Hid.mk hm5
              have HO5 := Hid.mk ho5
              have HB5 := Hid.mk (HBW3.out.trans (hb5.mono HBW3.out.size))
              have HZ5 := Hid.mk (HBZ3.out.trans (hb5.mono HBZ3.out.size))
              clear hm5 ho5 hb5 HBW3 HBZ3
              go_wp2
              go_roundg (tn2 - (j + 1))
              case measure => omega
              case rel => exact ⟨j + 1, r5, m5, d5, by omega, by go_num, rfl, HM5.out, HO5.out, HB5.out, HZ5.out⟩
            · obtain rfl : j = tn2 := by omega
              rw [List.take_of_length_le (by have := HU1.out; omega)] at hm3 hown3
              have hji : ¬ (j : Int) < (j : Int) := by omega
              have HM3 := Hid.mk hm3
              have HO3 := Hid.mk hown3
              have HB3 := Hid.mk hbw3
              have hD6 := HXT.out.2.lt
              clear hm3 hown3 hbw3
              go_wp2
              go_roundg (n - (k + 1))
              case measure => omega
              case rel => exact ⟨k + 1, T' ||| mk x.2, r3, m3, d3, by omega, by go_num, rfl, HM3.out, or_lt64 hT' hD6, sb_trans HTT.out (sb_or_left _ _), fun U h1 h2 => sb_or (HLE'.out U h1 h2) (by
                have h3 := h2 (dm x) (List.mem_map.2 ⟨x, List.mem_of_getElem? HX.out, rfl⟩)
                exact h3 (sb_trans hr1 (HLE'.out U h1 h2))), fun i y hi' hy hs1 => by
                by_cases hik : i < k
                · exact sb_trans (HALL.out i y hik hy hs1) (sb_or_left _ _)
                · obtain rfl : i = k := by omega
                  obtain rfl : x = y := by have h9 := HX.out; rw [hy] at h9; exact (Option.some.inj h9).symm
                  exact sb_or_right _ _, HO3.out, HB3.out⟩
      · obtain rfl : k = n := by omega
        have hki : ¬ (k : Int) < (k : Int) := by omega
        by_cases hmm : m' = m
        · obtain rfl := hmm
          have hTe : T' = T := len_bl_all T hT T' hT' HTT.out (HM'.out.trans HM.out.symm)
          subst hTe
          have HCL : Hid (IsClo (dms xs) S T') := ⟨hT', HST.out, fun dd hd => by
            obtain ⟨x, hx, rfl⟩ := List.mem_map.1 hd
            obtain ⟨j, hj, rfl⟩ := List.getElem_of_mem hx
            exact HALL.out j _ (by omega) (List.getElem?_eq_getElem hj), HLE.out⟩
          go_wp2
          go_ret
          exact ⟨T', HCL.out, r', m', d', rfl, HM'.out, HO'.out, HB'.out⟩
        · have hmi : ¬ (m' : Int) = (m : Int) := by omega
          have hne : T < T' := by
            have h9 := sb_iff.1 HTT.out
            have h8 : T ≤ T' := by rw [← h9]; exact Nat.left_le_or
            have h7 : T ≠ T' := fun e => hmm (by rw [← HM'.out, ← HM.out, e])
            omega
          go_wp2
          go_roundg (64 - T')
          case measure => omega
          case rel => exact ⟨T', r', m', d', by omega, rfl, HM'.out, hT', sb_trans HST.out HTT.out, HLE'.out, HO'.out, HB'.out⟩

end Go.Proofs.YtkcfhlpdenjimaaDoor
