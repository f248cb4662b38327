/- Contract of the model's l7Subsets. -/
import Derived.Test.YtpnaoahlfhbbmaaDoorKeyP
import Derived.Test.YtpnaoahlfhbbmaaDoorStepW
import Derived.Test.YtpnaoahlfhbbmaaDoorRepP
namespace Go.Proofs.YtpnaoahlfhbbmaaDoor
open Go.RowKit

theorem atSl_pairK {w : World} {a : Option Addr} {zss : List (List Int)} (h : AtSl RInts w a zss) {k : Nat} {zs : List Int} (hk : zss[k]? = some zs) :
    ∃ b off a' n' c', a = some ⟨b, off, none⟩ ∧ w.cell? ⟨b, off + k, none⟩ = some (.slice a' n' c') ∧ zs.length = n' ∧ n' ≤ 9223372036854775807 ∧ At w a' zs ∧ (a' = none → c' = 0) := by
  have hp : 0 < zss.length := Nat.lt_of_le_of_lt (Nat.zero_le _) (List.getElem?_eq_some_iff.1 hk).1
  obtain ⟨b, off, rfl, hc⟩ := h.each hp
  obtain ⟨cs, h1, a', n', c', rfl, e1, e2, e3, e4⟩ := hc k zs hk
  have g := h1 0 _ rfl
  exact ⟨b, off, a', n', c', rfl, by simpa [RInts, Rep.slice] using g, e1, e2, atSl_int.1 e3, e4⟩
theorem pairs_at {w : World} {F : Nat → Prop} {a : Option Addr} {n c : Nat} {xs : List (List Int)} (h : RPairs.Own w F [.slice a n c] xs) : xs.length = n ∧ AtSl RInts w a xs := by
  obtain ⟨a', n', c', e, h1, _, h3, _⟩ := RPairs.toAt h
  simp only [List.cons.injEq, Value.slice.injEq, and_true] at e
  obtain ⟨rfl, rfl, rfl⟩ := e
  exact ⟨h1, h3⟩
theorem owns_oneK (w : World) (e : TypeId) (v : Value) : (w.alloc (.cells #[v] e)).ownsRow w.heap.size e 1 (.slice (some ⟨w.heap.size, 0, none⟩) 1 1) 1 [v] :=
  ⟨by simp, .inr ⟨w.heap.size, 1, #[v], rfl, Nat.le_refl _, heap_alloc_new w _, by omega, by unfold maxLen; omega, by simp, by simp⟩⟩

set_option maxRecDepth 100000 in
set_option maxHeartbeats 8000000 in
theorem l7Subsets_any (c : Nat) (hc : c ≤ 6) : ∀ (m : Nat), m ≤ 6 → ∀ (f : Nat), f ≤ 7 → ∀ (w : World),
    Calls Tryd.prog 33 #[.int .i64 (c : Nat), .int .i64 (m : Nat), .int .i64 (f : Nat)] w fun e w' => ∃ r n d, e = .returned (.slice r n d) ∧ RPairs.Own w' (From w.heap.size w'.heap.size) [.slice r n d] (subsL c m f) ∧ Below w.heap.size w w' := by
  intro m
  induction m with
  | zero =>
    intro _ f hf w
    have HO : Hid (RPairs.Own (w.alloc (.cells #[.slice none 0 0] 23)) (From w.heap.size (w.alloc (.cells #[.slice none 0 0] 23)).heap.size) [.slice (some ⟨w.heap.size, 0, none⟩) 1 1] (subsL c 0 f)) := by
      have ho := owns_oneK w 23 (.slice none 0 0)
      refine ⟨_, _, _, [.slice none 0 0], fun _ _ => False, rfl, rfl, by omega, owns_mono ho (Nat.zero_le _), fun b hb => ho.lt b hb, fun i x hi hx => ?_, fun i b _ h => h.elim, fun i j b _ _ _ h => h.elim⟩
      obtain rfl : i = 0 := by omega
      obtain rfl : [] = x := by simpa [subsL] using hx
      exact ⟨none, 0, 0, [], fun _ _ => False, rfl, Laid.none _ _ _ _⟩
    go_enter Tryd.func33, Tryd.ntmps33
    go_wp2
    go_ret
    exact ⟨_, _, _, rfl, HO.out, (Below.refl _ _).alloc (Nat.le_refl _) _⟩
  | succ m ih =>
    intro hm f hf w
    obtain ⟨j0, hj, hy0, hy1, hy2⟩ := info_parts Tryd.infoInt
    obtain ⟨k0, hk, hx0, hx1, hx2⟩ := info_parts Tryd.infoInts
    have IH := Hid.mk ih
    obtain ⟨mm, hmm⟩ : ∃ x : Int, x = ((m + 1 : Nat) : Int) := ⟨_, rfl⟩
    have hb0 : (mm == 0) = false := beq_eq_false_iff_ne.2 (by omega)
    have hs1 : IntKind.i64.wrap (mm - 1) = (m : Int) := by rw [IntWalk.i64_in _ (by omega)]; omega
    rw [← hmm]
    clear hmm ih
    go_enter Tryd.func33, Tryd.ntmps33
    go_wp2_with fail
    go_loopw [7, 8] (fun p i wx => ∃ (t n : Nat) (r : Option Addr) (d : Nat) (cells : List Value) (G : Nat → Nat → Prop), t ≤ c - f ∧ i = .int .i64 (f + t : Nat) ∧ p = .slice r n d ∧ (subsT c m f t).length = n ∧ Laid RInts wx (From w.heap.size wx.heap.size) 23 r n d (subsT c m f t) cells G n ∧ Below w.heap.size w wx) (fun _ i _ => c - (intOf i).toNat)
    case atStart => exact ⟨0, 0, none, 0, [], _, Nat.zero_le _, rfl, rfl, rfl, Laid.none _ _ _ _, Below.refl _ _⟩
    case round =>
      obtain ⟨t, n, r, d, cells, G, ht, rfl, rfl, hn, hlaid, hbw⟩ := hrel
      obtain ⟨K, hK⟩ : ∃ K, K = f + t := ⟨_, rfl⟩
      have hall := subsT_all c m f
      have hsucc := subsT_succ c m f t
      have hok := subsT_ok_all c (by omega) m (by omega) f (by omega) t (by omega)
      rw [← hK] at hsucc ⊢
      have HALL := Hid.mk hall
      have HSUCC := Hid.mk hsucc
      have hn64 : n ≤ 64 := by omega
      have HN := Hid.mk hn
      have HLA := Hid.mk hlaid
      have HB := Hid.mk hbw
      have HK := Hid.mk hK
      have hfK : f ≤ K := by omega
      clear hall hsucc hok hn hlaid hbw
      by_cases hlt : K < c
      · have hKi : (K : Int) < (c : Int) := by omega
        have hw1 : IntKind.i64.wrap ((K : Int) + 1) = ((K + 1 : Nat) : Int) := by rw [IntWalk.i64_in _ (by omega)]; omega
        have KC := Hid.mk (IH.out (by omega) (K + 1) (by omega) wr)
        have HYL := Hid.mk (subsL_ok_all c (by omega) m (by omega) (K + 1) (by omega)).1
        have HYR : Hid (∀ (j : Nat) (zs : List Int), (subsL c m (K + 1))[j]? = some zs → zs.length ≤ 6) := fun j zs h => subsL_row hc (by omega) (by omega) h
        obtain ⟨X, hX⟩ : ∃ X, subsT c m f t = X := ⟨_, rfl⟩
        obtain ⟨Y, hY⟩ : ∃ Y, subsL c m (K + 1) = Y := ⟨_, rfl⟩
        rw [hX] at HLA HN HSUCC
        rw [hY] at KC HYL HYR HSUCC
        clear hK hX hY
        go_wp2_with fail
        refine KC.out.mono ?_
        rintro e w1 ⟨r1, n1, d1, rfl, hown1, hb1⟩
        obtain ⟨q0, hq0⟩ : ∃ q, q = wr.heap.size := ⟨_, rfl⟩
        obtain ⟨q1, hq1⟩ : ∃ q, q = w1.heap.size := ⟨_, rfl⟩
        have HLA1 : Hid (Laid RInts w1 (fun b => From w.heap.size q0 b ∨ From q1 w1.heap.size b) 23 r n d X cells G n) := (HLA.out.below hb1).mono (fun b h => .inl (by rw [hq0]; exact h))
        have HB1 := Hid.mk (HB.out.trans (hb1.mono HB.out.size))
        have hl1 := (pairs_at hown1).1
        have hn1 : n1 ≤ 64 := by rw [← hl1]; exact HYL.out
        have HL1 := Hid.mk hl1
        have zq : w.heap.size ≤ q0 := by rw [hq0]; exact HB.out.size
        have zq1 : q0 ≤ q1 := by rw [hq0, hq1]; exact hb1.size
        have zq2 : q1 ≤ w1.heap.size := by omega
        rw [← hq0, ← hq1] at hown1
        have HO1 := Hid.mk hown1
        have hX64 : X.length ≤ 64 := by have := HN.out; omega
        clear hown1 hb1 hl1 hq0 hq1 HLA HB KC HYL
        go_wp2_with fail
        go_loopw [7, 27] (fun p i wx => ∃ (j n : Nat) (r : Option Addr) (d : Nat) (cells : List Value) (G : Nat → Nat → Prop), j ≤ n1 ∧ i = .int .i64 j ∧ p = .slice r n d ∧ n ≤ 128 ∧ n = X.length + j ∧ Laid RInts wx (fun b => From w.heap.size q0 b ∨ From q1 wx.heap.size b) 23 r n d (X ++ (Y.take j).map ((K : Int) :: ·)) cells G n ∧ RPairs.Own wx (From q0 q1) [.slice r1 n1 d1] Y ∧ q1 ≤ wx.heap.size ∧ Below w.heap.size w wx) (fun _ i _ => n1 - (intOf i).toNat)
        case atStart => exact ⟨0, n, r, d, cells, G, Nat.zero_le _, rfl, rfl, by omega, HN.out.symm, by simpa using HLA1.out, HO1.out, zq2, HB1.out⟩
        case round =>
          clear HLA1 HO1 HB1 zq2 HN hn64
          obtain ⟨j, n, r, d, cells, G, hj1, rfl, rfl, hn128, hnn, hlaid, hown, zr, hbw⟩ := hrel
          by_cases hjlt : j < n1
          · obtain ⟨zs, hzs⟩ : ∃ zs, Y[j]? = some zs := ⟨_, List.getElem?_eq_getElem (by have := HL1.out; omega)⟩
            obtain ⟨b, off, a', m', c', rfl, hcx, hm', hm1, hax, hnx⟩ := atSl_pairK (pairs_at hown).2 hzs
            have hm6 : m' ≤ 6 := by rw [← hm']; exact HYR.out j zs hzs
            have HTK : Hid ((Y.take (j + 1)).map ((K : Int) :: ·) = (Y.take j).map ((K : Int) :: ·) ++ [(K : Int) :: zs]) := by
              show _ = _
              obtain ⟨hh, rfl⟩ := List.getElem?_eq_some_iff.1 hzs
              rw [List.take_succ_eq_append_getElem hh, List.map_append]; rfl
            have hji : (j : Int) < (n1 : Int) := by omega
            have HM := Hid.mk hm'
            have HNX := Hid.mk hnx
            have HAX := Hid.mk (At.alloc hax (.cells #[.int .i64 (K : Nat)] 3))
            have OE := Hid.mk (owns_oneK wr 3 (.int .i64 (K : Nat)))
            have HLA := Hid.mk hlaid
            have HO := Hid.mk hown
            have HB := Hid.mk hbw
            have HNN := Hid.mk hnn
            clear hax hm' hnx hlaid hown hbw hzs hnn
            go_wp2_with (at_builtin; refine wpList_append_all rfl (.tmp 33) (.tmp 34) 23 rfl wr.heap.size 3 j0 (.int .i64 0) 8 Tryd.underlying23 hj hy0 hy1 hy2 rfl (.slice (some ⟨wr.heap.size, 0, none⟩) 1 1) 1 [.int .i64 (K : Nat)] rfl OE.out a' m' c' zs rfl HM.out HAX.out HNX.out (by unfold maxLen; omega) (by omega) (by simp) ?_)
            intro r3 d3 w4 ho3 hg3
            have hb2 : Below wr.heap.size wr w4 := ((Below.refl _ _).alloc (Nat.le_refl _) _).grown hg3 (by simp) (fun j hj => by simp [Value.ownBlock] at hj; omega)
            have z4 := hb2.size
            have HOI : Hid (RInts.Own w4 (From wr.heap.size w4.heap.size) [.slice r3 (1 + m') d3] ((K : Int) :: zs)) := RInts.of_owns (by have := HM.out; simp; omega) (by omega) (by simpa using ho3)
            have hF : ∀ b, (Value.slice r n d).ownBlock = some b → w.heap.size ≤ b := fun b hb => by
              rcases HLA.out.outerF b hb with h | h
              · exact h.1
              · have := h.1; omega
            have HW : Hid (wr.ownsRow w.heap.size 23 1 (.slice r n d) n cells) := owns_base HLA.out.outer hF
            have HW4 := Hid.mk (owns_below HW.out hb2)
            have HB2 := Hid.mk hb2
            have zw := HB.out.size
            clear OE hg3 ho3 hb2 HAX hF
            go_wp2_with (at_builtin; refine wpList_app_vals rfl (.tmp 31) (.tmp 36) 33 rfl w.heap.size 23 k0 (.slice none 0 0) 1 24 Tryd.underlying33 hk hx0 hx1 hx2 rfl (by decide) (.slice r n d) n cells rfl (HW4.out.alloc _) (some ⟨w4.heap.size, 0, none⟩) 1 1 [.slice r3 (1 + m') d3] rfl rfl (fun ad he => by cases he; simpa using news_at w4 #[.slice r3 (1 + m') d3] 23) (by simp; rfl) (fun h => by cases h) (by unfold maxLen; omega) (by omega) (by simp; omega) ?_)
            intro r4 d4 w5 ho4 hg4 ht4
            have z5 : w4.heap.size < w5.heap.size := by have h9 := hg4.size; simp at h9; omega
            have BG : ∀ b, b < w4.heap.size → (Value.slice r n d).ownBlock ≠ some b → w5.heap[b]? = w4.heap[b]? := fun b hb hn => (hg4.block b (by simp; omega) (fun e => hn e.symm)).trans (Below.heap_alloc w4 _ b hb)
            have hfar : ∀ b, q0 ≤ b → b < q1 → (Value.slice r n d).ownBlock ≠ some b := fun b h1 h2 e => by
              rcases HLA.out.outerF b e with h | h
              · have := h.2; omega
              · have := h.1; omega
            have hpush := HLA.out.push (F' := fun b => From w.heap.size q0 b ∨ From q1 w5.heap.size b) (fun b h => by rcases h with h | h; (have := h.2; omega); exact h.2) HB2.out HOI.out (fun b h => h) BG (owns_mono ho4 (Nat.zero_le _)) (by
              rcases ht4 with h9 | h9
              · exact .inl h9
              · refine .inr (fun b e => ?_)
                rw [h9] at e
                simp at e
                omega) (by omega) (fun b h => by rcases h with h | h; exact .inl h; exact .inr ⟨h.1, by have := h.2; omega⟩) (fun b h => .inr ⟨by have := h.1; omega, by have := h.2; omega⟩) (fun b h => by
              rcases ht4 with h9 | h9
              · rw [h9] at h
                rcases HLA.out.outerF b h with h | h
                · exact .inl h
                · exact .inr ⟨h.1, by have := h.2; omega⟩
              · rw [h9] at h
                simp at h
                exact .inr ⟨by omega, by have := (ho4.lt b (by rw [h9]; simp; omega)).2; omega⟩)
            obtain ⟨G', HL'⟩ : ∃ G', Hid (Laid RInts w5 (fun b => From w.heap.size q0 b ∨ From q1 w5.heap.size b) 23 r4 (n + 1) d4 (X ++ (Y.take (j + 1)).map ((K : Int) :: ·)) (cells ++ [.slice r3 (1 + m') d3]) G' (n + 1)) := by
              rw [HTK.out, ← List.append_assoc]
              exact ⟨_, Hid.mk hpush⟩
            have HO' : Hid (RPairs.Own w5 (From q0 q1) [.slice (some ⟨b, off, none⟩) n1 d1] Y) := RPairs.frame HO.out (fun b h1 h2 => (BG b (by have := h1.2; omega) (hfar b h1.1 h1.2)).trans (HB2.out.block b h2))
            have HB' : Hid (Below w.heap.size w w5) := ((HB.out.trans (HB2.out.mono HB.out.size)).alloc (by omega) _).grown hg4 (by simp; omega) (fun j hj => (HW.out.lt j hj).1)
            have HN' : Hid (n + 1 = X.length + (j + 1)) := by show _ = _; have := HNN.out; omega
            clear hpush BG ho4 hg4 ht4 hfar HLA HO HB HB2 HW HW4 HOI
            go_wp2
            go_roundw
            case rel => exact ⟨j + 1, n + 1, r4, d4, _, G', by omega, by go_num, rfl, by have := HN'.out; omega, HN'.out, HL'.out, HO'.out, by omega, HB'.out⟩
            case measure => simp [intOf]; omega
          · obtain rfl : j = n1 := by omega
            rw [List.take_of_length_le (by have := HL1.out; omega)] at hlaid
            have HLE : Hid (subsT c m f (t + 1) = X ++ Y.map ((K : Int) :: ·)) := HSUCC.out
            rw [← HLE.out] at hlaid
            have HLA2 := Hid.mk (hlaid.mono (F' := From w.heap.size wr.heap.size) (fun b h => by rcases h with h | h; exact ⟨h.1, by have := h.2; omega⟩; exact ⟨by have := h.1; omega, h.2⟩))
            have HLL := Hid.mk hlaid.len
            have hji : ¬ (j : Int) < (j : Int) := by omega
            clear hlaid hown hnn
            go_wp2
            go_roundw
            case rel => exact ⟨t + 1, n, r, d, cells, G, by have := HK.out; omega, by have := HK.out; go_num, rfl, HLL.out, HLA2.out, hbw⟩
            case measure => simp [intOf]; omega
      · have hKi : ¬ (K : Int) < (c : Int) := by omega
        have htc : t = c - f := by omega
        have HFIN : Hid (RPairs.Own wr (From w.heap.size wr.heap.size) [.slice r n d] (subsL c (m + 1) f)) := by
          show RPairs.Own _ _ _ _
          rw [← HALL.out, ← htc]
          exact ⟨_, _, _, cells, G, rfl, HLA.out⟩
        clear htc hK
        go_wp2
        go_ret
        exact ⟨r, n, d, rfl, HFIN.out, HB.out⟩

end Go.Proofs.YtpnaoahlfhbbmaaDoor
