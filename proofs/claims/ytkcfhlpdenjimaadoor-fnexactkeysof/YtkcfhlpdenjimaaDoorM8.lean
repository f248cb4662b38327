/- Several texts of one proof, in build order: SubI, KeyQ, KeyS. -/
import Derived.Test.YtkcfhlpdenjimaaDoorM7
import Derived.Test.YtkcfhlpdenjimaaDoorM4

/- Contract of the model's l7Subsets. -/
namespace Go.Proofs.YtkcfhlpdenjimaaDoor
open Go.RowKit

theorem atSl_pairK {w : World} {a : Option Addr} {zss : List (List Int)} (h : AtSl RInts w a zss) {k : Nat} {zs : List Int} (hk : zss[k]? = some zs) :
    ∃ b off a' n' c', a = some ⟨b, off, none⟩ ∧ w.cell? ⟨b, off + k, none⟩ = some (.slice a' n' c') ∧ zs.length = n' ∧ n' ≤ 9223372036854775807 ∧ At w a' zs ∧ (a' = none → c' = 0) := by
  have hp : 0 < zss.length := Nat.lt_of_le_of_lt (Nat.zero_le _) (List.getElem?_eq_some_iff.1 hk).1
  obtain ⟨b, off, rfl, hc⟩ := h.each hp
  obtain ⟨cs, h1, a', n', c', rfl, e1, e2, e3, e4⟩ := hc k zs hk
  have g := h1 0 _ rfl
  exact ⟨b, off, a', n', c', rfl, by simpa [RInts, Rep.slice] using g, e1, e2, atSl_int.1 e3, e4⟩
theorem pairs_at {w : World} {F : Nat → Prop} {a : Option Addr} {n c : Nat} {xs : List (List Int)} (h : RPairs.Own w F [.slice a n c] xs) : xs.length = n ∧ AtSl RInts w a xs := by
  obtain ⟨a', n', c', e, h1, _, h3, _⟩ := RPairs.toAt h
  simp only [List.cons.injEq, Value.slice.injEq, and_true] at e
  obtain ⟨rfl, rfl, rfl⟩ := e
  exact ⟨h1, h3⟩
theorem owns_oneK (w : World) (e : TypeId) (v : Value) : (w.alloc (.cells #[v] e)).ownsRow w.heap.size e 1 (.slice (some ⟨w.heap.size, 0, none⟩) 1 1) 1 [v] :=
  ⟨by simp, .inr ⟨w.heap.size, 1, #[v], rfl, Nat.le_refl _, heap_alloc_new w _, by omega, by unfold maxLen; omega, by simp, by simp⟩⟩

set_option maxRecDepth 100000 in
set_option maxHeartbeats 8000000 in
theorem l7Subsets_any (c : Nat) (hc : c ≤ 6) : ∀ (m : Nat), m ≤ 6 → ∀ (f : Nat), f ≤ 7 → ∀ (w : World),
    Calls Tryd.prog 75 #[.int .i64 (c : Nat), .int .i64 (m : Nat), .int .i64 (f : Nat)] w fun e w' => ∃ r n d, e = .returned (.slice r n d) ∧ RPairs.Own w' (From w.heap.size w'.heap.size) [.slice r n d] (subsL c m f) ∧ Below w.heap.size w w' := by
  intro m
  induction m with
  | zero =>
    intro _ f hf w
    have HO : Hid (RPairs.Own (w.alloc (.cells #[.slice none 0 0] 23)) (From w.heap.size (w.alloc (.cells #[.slice none 0 0] 23)).heap.size) [.slice (some ⟨w.heap.size, 0, none⟩) 1 1] (subsL c 0 f)) := by
      have ho := owns_oneK w 23 (.slice none 0 0)
      refine ⟨_, _, _, [.slice none 0 0], fun _ _ => False, rfl, rfl, by omega, owns_mono ho (Nat.zero_le _), fun b hb => ho.lt b hb, fun i x hi hx => ?_, fun i b _ h => h.elim, fun i j b _ _ _ h => h.elim⟩
      obtain rfl : i = 0 := by omega
      obtain rfl : [] = x := by simpa [subsL] using hx
      exact ⟨none, 0, 0, [], fun _ _ => False, rfl, Laid.none _ _ _ _⟩
    go_enter Tryd.func75, Tryd.ntmps75
    go_wp2
    go_ret
    exact ⟨_, _, _, rfl, HO.out, (Below.refl _ _).alloc (Nat.le_refl _) _⟩
  | succ m ih =>
    intro hm f hf w
    obtain ⟨j0, hj, hy0, hy1, hy2⟩ := info_parts Tryd.infoInt
    obtain ⟨k0, hk, hx0, hx1, hx2⟩ := info_parts Tryd.infoInts
    have IH := Hid.mk ih
    obtain ⟨mm, hmm⟩ : ∃ x : Int, x = ((m + 1 : Nat) : Int) := ⟨_, rfl⟩
    have hb0 : (mm == 0) = false := beq_eq_false_iff_ne.2 (by omega)
    have hs1 : IntKind.i64.wrap (mm - 1) = (m : Int) := by rw [IntWalk.i64_in _ (by omega)]; omega
    rw [← hmm]
    clear hmm ih
    go_enter Tryd.func75, Tryd.ntmps75
    go_wp2_with fail
    go_loopw [7, 8] (fun p i wx => ∃ (t n : Nat) (r : Option Addr) (d : Nat) (cells : List Value) (G : Nat → Nat → Prop), t ≤ c - f ∧ i = .int .i64 (f + t : Nat) ∧ p = .slice r n d ∧ (subsT c m f t).length = n ∧ Laid RInts wx (From w.heap.size wx.heap.size) 23 r n d (subsT c m f t) cells G n ∧ Below w.heap.size w wx) (fun _ i _ => c - (intOf i).toNat)
    case atStart => exact ⟨0, 0, none, 0, [], _, Nat.zero_le _, rfl, rfl, rfl, Laid.none _ _ _ _, Below.refl _ _⟩
    case round =>
      obtain ⟨t, n, r, d, cells, G, ht, rfl, rfl, hn, hlaid, hbw⟩ := hrel
      obtain ⟨K, hK⟩ : ∃ K, K = f + t := ⟨_, rfl⟩
      have hall := subsT_all c m f
      have hsucc := subsT_succ c m f t
      have hok := subsT_ok_all c (by omega) m (by omega) f (by omega) t (by omega)
      rw [← hK] at hsucc ⊢
      have HALL := Hid.mk hall
      have HSUCC := Hid.mk hsucc
      have hn64 : n ≤ 64 := by omega
      have HN := Hid.mk hn
      have HLA := Hid.mk hlaid
      have HB := Hid.mk hbw
      have HK := Hid.mk hK
      have hfK : f ≤ K := by omega
      clear hall hsucc hok hn hlaid hbw
      by_cases hlt : K < c
      · have hKi : (K : Int) < (c : Int) := by omega
        have hw1 : IntKind.i64.wrap ((K : Int) + 1) = ((K + 1 : Nat) : Int) := by rw [IntWalk.i64_in _ (by omega)]; omega
        have KC := Hid.mk (IH.out (by omega) (K + 1) (by omega) wr)
        have HYL := Hid.mk (subsL_ok_all c (by omega) m (by omega) (K + 1) (by omega)).1
        have HYR : Hid (∀ (j : Nat) (zs : List Int), (subsL c m (K + 1))[j]? = some zs → zs.length ≤ 6) := fun j zs h => subsL_row hc (by omega) (by omega) h
        obtain ⟨X, hX⟩ : ∃ X, subsT c m f t = X := ⟨_, rfl⟩
        obtain ⟨Y, hY⟩ : ∃ Y, subsL c m (K + 1) = Y := ⟨_, rfl⟩
        rw [hX] at HLA HN HSUCC
        rw [hY] at KC HYL HYR HSUCC
        clear hK hX hY
        go_wp2_with fail
        refine KC.out.mono ?_
        rintro e w1 ⟨r1, n1, d1, rfl, hown1, hb1⟩
        obtain ⟨q0, hq0⟩ : ∃ q, q = wr.heap.size := ⟨_, rfl⟩
        obtain ⟨q1, hq1⟩ : ∃ q, q = w1.heap.size := ⟨_, rfl⟩
        have HLA1 : Hid (Laid RInts w1 (fun b => From w.heap.size q0 b ∨ From q1 w1.heap.size b) 23 r n d X cells G n) := (HLA.out.below hb1).mono (fun b h => .inl (by rw [hq0]; exact h))
        have HB1 := Hid.mk (HB.out.trans (hb1.mono HB.out.size))
        have hl1 := (pairs_at hown1).1
        have hn1 : n1 ≤ 64 := by rw [← hl1]; exact HYL.out
        have HL1 := Hid.mk hl1
        have zq : w.heap.size ≤ q0 := by rw [hq0]; exact HB.out.size
        have zq1 : q0 ≤ q1 := by rw [hq0, hq1]; exact hb1.size
        have zq2 : q1 ≤ w1.heap.size := by omega
        rw [← hq0, ← hq1] at hown1
        have HO1 := Hid.mk hown1
        have hX64 : X.length ≤ 64 := by have := HN.out; omega
        clear hown1 hb1 hl1 hq0 hq1 HLA HB KC HYL
        go_wp2_with fail
        go_loopw [7, 27] (fun p i wx => ∃ (j n : Nat) (r : Option Addr) (d : Nat) (cells : List Value) (G : Nat → Nat → Prop), j ≤ n1 ∧ i = .int .i64 j ∧ p = .slice r n d ∧ n ≤ 128 ∧ n = X.length + j ∧ Laid RInts wx (fun b => From w.heap.size q0 b ∨ From q1 wx.heap.size b) 23 r n d (X ++ (Y.take j).map ((K : Int) :: ·)) cells G n ∧ RPairs.Own wx (From q0 q1) [.slice r1 n1 d1] Y ∧ q1 ≤ wx.heap.size ∧ Below w.heap.size w wx) (fun _ i _ => n1 - (intOf i).toNat)
        case atStart => exact ⟨0, n, r, d, cells, G, Nat.zero_le _, rfl, rfl, by omega, HN.out.symm, by simpa using HLA1.out, HO1.out, zq2, HB1.out⟩
        case round =>
          clear HLA1 HO1 HB1 zq2 HN hn64
          obtain ⟨j, n, r, d, cells, G, hj1, rfl, rfl, hn128, hnn, hlaid, hown, zr, hbw⟩ := hrel
          by_cases hjlt : j < n1
          · obtain ⟨zs, hzs⟩ : ∃ zs, Y[j]? = some zs := ⟨_, List.getElem?_eq_getElem (by have := HL1.out; omega)⟩
            obtain ⟨b, off, a', m', c', rfl, hcx, hm', hm1, hax, hnx⟩ := atSl_pairK (pairs_at hown).2 hzs
            have hm6 : m' ≤ 6 := by rw [← hm']; exact HYR.out j zs hzs
            have HTK : Hid ((Y.take (j + 1)).map ((K : Int) :: ·) = (Y.take j).map ((K : Int) :: ·) ++ [(K : Int) :: zs]) := by
              show _ = _
              obtain ⟨hh, rfl⟩ := List.getElem?_eq_some_iff.1 hzs
              rw [List.take_succ_eq_append_getElem hh, List.map_append]; rfl
            have hji : (j : Int) < (n1 : Int) := by omega
            have HM := Hid.mk hm'
            have HNX := Hid.mk hnx
            have HAX := Hid.mk (At.alloc hax (.cells #[.int .i64 (K : Nat)] 3))
            have OE := Hid.mk (owns_oneK wr 3 (.int .i64 (K : Nat)))
            have HLA := Hid.mk hlaid
            have HO := Hid.mk hown
            have HB := Hid.mk hbw
            have HNN := Hid.mk hnn
            clear hax hm' hnx hlaid hown hbw hzs hnn
            go_wp2_with (at_builtin; refine wpList_append_all rfl (.tmp 33) (.tmp 34) 23 rfl wr.heap.size 3 j0 (.int .i64 0) 8 Tryd.underlying23 hj hy0 hy1 hy2 rfl (.slice (some ⟨wr.heap.size, 0, none⟩) 1 1) 1 [.int .i64 (K : Nat)] rfl OE.out a' m' c' zs rfl HM.out HAX.out HNX.out (by unfold maxLen; omega) (by omega) (by simp) ?_)
            intro r3 d3 w4 ho3 hg3
            have hb2 : Below wr.heap.size wr w4 := ((Below.refl _ _).alloc (Nat.le_refl _) _).grown hg3 (by simp) (fun j hj => by simp [Value.ownBlock] at hj; omega)
            have z4 := hb2.size
            have HOI : Hid (RInts.Own w4 (From wr.heap.size w4.heap.size) [.slice r3 (1 + m') d3] ((K : Int) :: zs)) := RInts.of_owns (by have := HM.out; simp; omega) (by omega) (by simpa using ho3)
            have hF : ∀ b, (Value.slice r n d).ownBlock = some b → w.heap.size ≤ b := fun b hb => by
              rcases HLA.out.outerF b hb with h | h
              · exact h.1
              · have := h.1; omega
            have HW : Hid (wr.ownsRow w.heap.size 23 1 (.slice r n d) n cells) := owns_base HLA.out.outer hF
            have HW4 := Hid.mk (owns_below HW.out hb2)
            have HB2 := Hid.mk hb2
            have zw := HB.out.size
            clear OE hg3 ho3 hb2 HAX hF
            go_wp2_with (at_builtin; refine wpList_app_vals rfl (.tmp 31) (.tmp 36) 50 rfl w.heap.size 23 k0 (.slice none 0 0) 1 24 Tryd.underlying50 hk hx0 hx1 hx2 rfl (by decide) (.slice r n d) n cells rfl (HW4.out.alloc _) (some ⟨w4.heap.size, 0, none⟩) 1 1 [.slice r3 (1 + m') d3] rfl rfl (fun ad he => by cases he; simpa using news_at w4 #[.slice r3 (1 + m') d3] 23) (by simp; rfl) (fun h => by cases h) (by unfold maxLen; omega) (by omega) (by simp; omega) ?_)
            intro r4 d4 w5 ho4 hg4 ht4
            have z5 : w4.heap.size < w5.heap.size := by have h9 := hg4.size; simp at h9; omega
            have BG : ∀ b, b < w4.heap.size → (Value.slice r n d).ownBlock ≠ some b → w5.heap[b]? = w4.heap[b]? := fun b hb hn => (hg4.block b (by simp; omega) (fun e => hn e.symm)).trans (Below.heap_alloc w4 _ b hb)
            have hfar : ∀ b, q0 ≤ b → b < q1 → (Value.slice r n d).ownBlock ≠ some b := fun b h1 h2 e => by
              rcases HLA.out.outerF b e with h | h
              · have := h.2; omega
              · have := h.1; omega
            have hpush := HLA.out.push (F' := fun b => From w.heap.size q0 b ∨ From q1 w5.heap.size b) (fun b h => by rcases h with h | h; (have := h.2; omega); exact h.2) HB2.out HOI.out (fun b h => h) BG (owns_mono ho4 (Nat.zero_le _)) (by
              rcases ht4 with h9 | h9
              · exact .inl h9
              · refine .inr (fun b e => ?_)
                rw [h9] at e
                simp at e
                omega) (by omega) (fun b h => by rcases h with h | h; exact .inl h; exact .inr ⟨h.1, by have := h.2; omega⟩) (fun b h => .inr ⟨by have := h.1; omega, by have := h.2; omega⟩) (fun b h => by
              rcases ht4 with h9 | h9
              · rw [h9] at h
                rcases HLA.out.outerF b h with h | h
                · exact .inl h
                · exact .inr ⟨h.1, by have := h.2; omega⟩
              · rw [h9] at h
                simp at h
                exact .inr ⟨by omega, by have := (ho4.lt b (by rw [h9]; simp; omega)).2; omega⟩)
            obtain ⟨G', HL'⟩ : ∃ G', Hid (Laid RInts w5 (fun b => From w.heap.size q0 b ∨ From q1 w5.heap.size b) 23 r4 (n + 1) d4 (X ++ (Y.take (j + 1)).map ((K : Int) :: ·)) (cells ++ [.slice r3 (1 + m') d3]) G' (n + 1)) := by
              rw [HTK.out, ← List.append_assoc]
              exact ⟨_, Hid.mk hpush⟩
            have HO' : Hid (RPairs.Own w5 (From q0 q1) [.slice (some ⟨b, off, none⟩) n1 d1] Y) := RPairs.frame HO.out (fun b h1 h2 => (BG b (by have := h1.2; omega) (hfar b h1.1 h1.2)).trans (HB2.out.block b h2))
            have HB' : Hid (Below w.heap.size w w5) := ((HB.out.trans (HB2.out.mono HB.out.size)).alloc (by omega) _).grown hg4 (by simp; omega) (fun j hj => (HW.out.lt j hj).1)
            have HN' : Hid (n + 1 = X.length + (j + 1)) := by show _ = _; have := HNN.out; omega
            clear hpush BG ho4 hg4 ht4 hfar HLA HO HB HB2 HW HW4 HOI
            go_wp2
            go_roundw
            case rel => exact ⟨j + 1, n + 1, r4, d4, _, G', by omega, by go_num, rfl, by have := HN'.out; omega, HN'.out, HL'.out, HO'.out, by omega, HB'.out⟩
            case measure => simp [intOf]; omega
          · obtain rfl : j = n1 := by omega
            rw [List.take_of_length_le (by have := HL1.out; omega)] at hlaid
            have HLE : Hid (subsT c m f (t + 1) = X ++ Y.map ((K : Int) :: ·)) := HSUCC.out
            rw [← HLE.out] at hlaid
            have HLA2 := Hid.mk (hlaid.mono (F' := From w.heap.size wr.heap.size) (fun b h => by rcases h with h | h; exact ⟨h.1, by have := h.2; omega⟩; exact ⟨by have := h.1; omega, h.2⟩))
            have HLL := Hid.mk hlaid.len
            have hji : ¬ (j : Int) < (j : Int) := by omega
            clear hlaid hown hnn
            go_wp2
            go_roundw
            case rel => exact ⟨t + 1, n, r, d, cells, G, by have := HK.out; omega, by have := HK.out; go_num, rfl, HLL.out, HLA2.out, hbw⟩
            case measure => simp [intOf]; omega
      · have hKi : ¬ (K : Int) < (c : Int) := by omega
        have htc : t = c - f := by omega
        have HFIN : Hid (RPairs.Own wr (From w.heap.size wr.heap.size) [.slice r n d] (subsL c (m + 1) f)) := by
          show RPairs.Own _ _ _ _
          rw [← HALL.out, ← htc]
          exact ⟨_, _, _, cells, G, rfl, HLA.out⟩
        clear htc hK
        go_wp2
        go_ret
        exact ⟨r, n, d, rfl, HFIN.out, HB.out⟩

end Go.Proofs.YtkcfhlpdenjimaaDoor

/- Plain: keys over lists of columns; a row that was made before is taken over. -/
namespace Go.Proofs.YtkcfhlpdenjimaaDoor
open Go.RowKit

section
variable {α : Type} {A : Rep α} {w w4 : World} {F H F' : Nat → Prop} {e : TypeId} {a a' : Option Addr} {n c c' : Nat} {xs : List α} {cells vs : List Value} {G : Nat → Nat → Prop} {x : α}
/-- Behind 'append(l, x)' with an x that was made before. -/
theorem Laid.pushH (h : Laid A w F e a n c xs cells G n) (hF : ∀ b, F b → b < w.heap.size) (ho : A.Own w H vs x) (hH : ∀ b, H b → b < w.heap.size) (hFH : ∀ b, F b → ¬ H b)
    (hg : ∀ b, b < w.heap.size → (Value.slice a n c).ownBlock ≠ some b → w4.heap[b]? = w.heap[b]?) (hown : w4.ownsRow 0 e A.k (.slice a' (n + 1) c') (n + 1) (cells ++ vs))
    (hat : (Value.slice a' (n + 1) c').ownBlock = (Value.slice a n c).ownBlock ∨ ∀ b, (Value.slice a' (n + 1) c').ownBlock = some b → w.heap.size ≤ b) (hbig : n + 1 ≤ 9223372036854775807)
    (hF1 : ∀ b, F b → F' b) (hF2 : ∀ b, H b → F' b) (hF3 : ∀ b, (Value.slice a' (n + 1) c').ownBlock = some b → F' b) :
    Laid A w4 F' e a' (n + 1) c' (xs ++ [x]) (cells ++ vs) (fun i => if i = n then H else G i) (n + 1) := by
  have hl := A.ownLen ho
  have hcl : cells.length = n * A.k := h.outer.1
  refine ⟨by simp [h.len], hbig, hown, hF3, fun i y hi hy => ?_, fun i b hi hb' => ?_, fun i j b hi hj hij hb' => ?_⟩
  · by_cases ei : i = n
    · subst ei
      simp only [if_true]
      obtain rfl : x = y := by
        rw [List.getElem?_append_right (by rw [h.len]; exact Nat.le_refl _)] at hy
        simpa [h.len] using hy
      have := sub_append_right (cells := cells) hl
      rw [hcl] at this
      rw [this]
      exact A.frame ho (fun b hb' hb => hg b hb (fun e' => hFH b (h.outerF b e') hb'))
    · simp only [if_neg ei]
      have hi' : i < n := by omega
      rw [List.getElem?_append_left (by rw [h.len]; exact hi')] at hy
      rw [sub_append_left (by rw [hcl]; exact at_mul hi')]
      exact A.frame (h.row i y hi' hy) (fun b hb' hb => hg b hb (h.rowF i b hi' hb').2)
  · by_cases ei : i = n
    · subst ei
      simp only [if_true] at hb'
      refine ⟨hF2 b hb', fun e' => ?_⟩
      rcases hat with h2 | h2
      · rw [h2] at e'
        exact hFH b (h.outerF b e') hb'
      · have := h2 b e'
        have := hH b hb'
        omega
    · simp only [if_neg ei] at hb'
      have h1 := h.rowF i b (by omega) hb'
      refine ⟨hF1 b h1.1, fun e' => ?_⟩
      rcases hat with h2 | h2
      · rw [h2] at e'; exact h1.2 e'
      · have := h2 b e'
        have := hF b h1.1
        omega
  · by_cases ei : i = n
    · subst ei
      simp only [if_true] at hb'
      simp only [if_neg (Ne.symm hij)]
      exact fun e' => hFH b (h.rowF j b (by omega) e').1 hb'
    · simp only [if_neg ei] at hb'
      by_cases ej : j = n
      · simp only [if_pos ej]
        exact fun e' => hFH b (h.rowF i b (by omega) hb').1 e'
      · simp only [if_neg ej]
        exact h.apart i j b (by omega) (by omega) hij hb'
end

section
variable {w : World} {F : Nat → Prop} {r : Option Addr} {g m d i : Nat} {xs : List (List Int)} {x : List Int} {cells : List Value} {G : Nat → Nat → Prop}
theorem laidI_some (h : Laid RInts w F 23 r m d xs cells G m) (h0 : 0 < m) : ∃ g, r = some ⟨g, 0, none⟩ := by
  rcases h.outer.2 with ⟨_, h1⟩ | ⟨g, cap, cur, hv, _⟩
  · omega
  · simp only [Value.slice.injEq, true_and] at hv
    obtain ⟨rfl, rfl⟩ := hv
    exact ⟨g, rfl⟩
theorem laidI_row (h : Laid RInts w F 23 (some ⟨g, 0, none⟩) m d xs cells G m) (hx : xs[i]? = some x) : ∃ sa sn sc, w.cell? ⟨g, i, none⟩ = some (.slice sa sn sc) ∧ RInts.Own w (G i) [.slice sa sn sc] x := by
  have hi : i < m := by rw [← h.len]; exact (List.getElem?_eq_some_iff.1 hx).1
  have hA := h.row i x hi hx
  have hA' := hA
  obtain ⟨sa, sn, sc, cs, G', e, _⟩ := hA'
  rw [e] at hA
  have e' : sub cells (i * 1) 1 = [.slice sa sn sc] := e
  have s0 := sub_at (cells := cells) (o := i * 1) (k := 1) (j := 0) (by omega)
  rw [e', Nat.mul_one, Nat.add_zero] at s0
  exact ⟨sa, sn, sc, (h.outer.cellAt i (by show i < m * 1; omega)).trans s0.symm, hA⟩
end

/-- Whether s is a key, with none of the first t of acc in it. -/
noncomputable def fitT (M : List (Nat × Nat)) (c : Nat) (acc : List (List Int)) (s : List Int) (t : Nat) : Bool := decide ((bl (clo M (mk s))).length = c) && (acc.take t).all (fun k => !(k.all fun x => decide (x ∈ s)))
noncomputable def stepK (M : List (Nat × Nat)) (c : Nat) (acc : List (List Int)) (s : List Int) : List (List Int) := if fitT M c acc s acc.length then acc ++ [s] else acc
noncomputable def keysT (M : List (Nat × Nat)) (c : Nat) (acc ls : List (List Int)) : List (List Int) := ls.foldl (stepK M c) acc
def setsU (c t : Nat) : List (List Int) := (List.range t).flatMap fun m => subsL c m 0
noncomputable def keysL (M : List (Nat × Nat)) (c : Nat) : List (List Int) := keysT M c [] (setsU c (c + 1))
theorem fitT_zero (M : List (Nat × Nat)) (c : Nat) (acc : List (List Int)) (s : List Int) : fitT M c acc s 0 = decide ((bl (clo M (mk s))).length = c) := by simp [fitT]
theorem fitT_succ {M : List (Nat × Nat)} {c : Nat} {acc : List (List Int)} {s k : List Int} {t : Nat} (h : acc[t]? = some k) : fitT M c acc s (t + 1) = (fitT M c acc s t && !(k.all fun x => decide (x ∈ s))) := by
  obtain ⟨ht, rfl⟩ := List.getElem?_eq_some_iff.1 h
  unfold fitT
  rw [List.take_succ_eq_append_getElem ht, List.all_append, Bool.and_assoc]
  simp
theorem keysT_take {M : List (Nat × Nat)} {c : Nat} {acc ls : List (List Int)} {j : Nat} {s : List Int} (h : ls[j]? = some s) : keysT M c acc (ls.take (j + 1)) = stepK M c (keysT M c acc (ls.take j)) s := by
  obtain ⟨hj, rfl⟩ := List.getElem?_eq_some_iff.1 h
  rw [List.take_succ_eq_append_getElem hj]; unfold keysT; rw [List.foldl_append]; rfl
theorem keysT_len (M : List (Nat × Nat)) (c : Nat) : ∀ (ls acc : List (List Int)), (keysT M c acc ls).length ≤ acc.length + ls.length
  | [], acc => by simp [keysT]
  | s :: ls, acc => by
    have h1 := keysT_len M c ls (stepK M c acc s)
    have h2 : (stepK M c acc s).length ≤ acc.length + 1 := by unfold stepK; split <;> simp
    show (keysT M c (stepK M c acc s) ls).length ≤ _
    simp only [List.length_cons]; omega
theorem setsU_succ (c t : Nat) : setsU c (t + 1) = setsU c t ++ subsL c t 0 := by unfold setsU; rw [List.range_succ, List.flatMap_append]; simp
theorem keysU_succ (M : List (Nat × Nat)) (c t : Nat) : keysT M c [] (setsU c (t + 1)) = keysT M c (keysT M c [] (setsU c t)) (subsL c t 0) := by rw [setsU_succ]; unfold keysT; rw [List.foldl_append]
theorem setsU_ok_all : ∀ c : Nat, c < 7 → ∀ t : Nat, t < 8 → (setsU c t).length ≤ 64 := by decide +kernel
theorem subs_told_all : ∀ c : Nat, c < 7 → ∀ m : Nat, m < 7 → (subsL c m 0).all (fun l => decide (bl (mk l) = l) && decide (mk l < 64)) = true := by decide +kernel
theorem subs_told {c m j : Nat} {s : List Int} (hc : c ≤ 6) (hm : m ≤ 6) (h : (subsL c m 0)[j]? = some s) : Told s := by
  have h9 := subs_told_all c (by omega) m (by omega)
  rw [List.all_eq_true] at h9
  have := h9 s (List.mem_of_getElem? h)
  simp only [Bool.and_eq_true, decide_eq_true_eq] at this
  exact ⟨this.1, this.2⟩
theorem l7Subsets_zero (c : Nat) (hc : c ≤ 6) (m : Nat) (hm : m ≤ 6) (w : World) :
    Calls Tryd.prog 75 #[.int .i64 (c : Nat), .int .i64 (m : Nat), .int .i64 0] w fun e w' => ∃ r n d, e = .returned (.slice r n d) ∧ RPairs.Own w' (From w.heap.size w'.heap.size) [.slice r n d] (subsL c m 0) ∧ Below w.heap.size w w' := l7Subsets_any c hc m hm 0 (by omega) w

end Go.Proofs.YtkcfhlpdenjimaaDoor

/- Contracts of the model's l7Keys and KeysOf. -/
namespace Go.Proofs.YtkcfhlpdenjimaaDoor
open Go.RowKit

set_option maxRecDepth 100000 in
set_option maxHeartbeats 8000000 in
theorem l7Keys_any (a : Option Addr) (n c : Nat) (xs : List Dep) (q : Nat) (w : World) (hz : xs.length = n) (hn : n ≤ 1048576) (hq : q ≤ 6) (hs : Tolds xs) (ha : AtD w a xs) :
    Calls Tryd.prog 53 #[.slice a n c, .int .i64 (q : Nat)] w fun e w' => ∃ r m d, e = .returned (.slice r m d) ∧ RPairs.Own w' (From w.heap.size w'.heap.size) [.slice r m d] (keysL (dms xs) q) ∧ Below w.heap.size w w' := by
  obtain ⟨k0, hk, hx0, hx1, hx2⟩ := info_parts Tryd.infoInts
  have HA := Hid.mk ha
  have HZ := Hid.mk hz
  have HS := Hid.mk hs
  obtain ⟨D, hD⟩ : ∃ D, dms xs = D := ⟨_, rfl⟩
  have HD := Hid.mk hD
  rw [hD]
  clear ha hz hs hD
  go_enter Tryd.func53, Tryd.ntmps53
  go_wp2_with fail
  go_loopw [5, 6] (fun p i wx => ∃ (t m : Nat) (r : Option Addr) (d : Nat) (cells : List Value) (G : Nat → Nat → Prop), t ≤ q + 1 ∧ i = .int .i64 t ∧ p = .slice r m d ∧ Laid RInts wx (From w.heap.size wx.heap.size) 23 r m d (keysT D q [] (setsU q t)) cells G m ∧ Below w.heap.size w wx) (fun _ i _ => q + 1 - (intOf i).toNat)
  case atStart => exact ⟨0, 0, none, 0, [], _, Nat.zero_le _, rfl, rfl, Laid.none _ _ _ _, Below.refl _ _⟩
  case round =>
    obtain ⟨t, m, r, d, cells, G, ht, rfl, rfl, hlaid, hbw⟩ := hrel
    have HNX := Hid.mk (keysU_succ D q t)
    by_cases hlt : t ≤ q
    · have hti : (t : Int) ≤ (q : Int) := by omega
      have hok := setsU_ok_all q (by omega) t (by omega)
      have hkl := keysT_len D q (setsU q t) []
      have hml := hlaid.len
      obtain ⟨X, hX⟩ : ∃ X, keysT D q [] (setsU q t) = X := ⟨_, rfl⟩
      rw [hX] at hlaid hkl hml HNX
      have hX64 : X.length ≤ 64 := by simp at hkl; omega
      have HX64 := Hid.mk hX64
      have KC := Hid.mk (l7Subsets_zero q hq t (by omega) wr)
      have HYL := Hid.mk (subsL_ok_all q (by omega) t (by omega) 0 (by omega)).1
      have HYT : Hid (∀ (j : Nat) (s : List Int), (subsL q t 0)[j]? = some s → Told s) := fun j s h => subs_told hq (by omega) h
      obtain ⟨Y, hY⟩ : ∃ Y, subsL q t 0 = Y := ⟨_, rfl⟩
      rw [hY] at KC HYL HYT HNX
      have HLA := Hid.mk hlaid
      have HB := Hid.mk hbw
      clear hlaid hbw hok hkl hml hX hY hX64
      go_wp2_with fail
      refine KC.out.mono ?_
      rintro e w1 ⟨r1, n1, d1, rfl, hown1, hb1⟩
      obtain ⟨a', n', c', cellsY, GY, he, hlY⟩ := hown1
      simp only [List.cons.injEq, Value.slice.injEq, and_true] at he
      obtain ⟨rfl, rfl, rfl⟩ := he
      obtain ⟨q0, hq0⟩ : ∃ q, q = wr.heap.size := ⟨_, rfl⟩
      obtain ⟨q1, hq1⟩ : ∃ q, q = w1.heap.size := ⟨_, rfl⟩
      have HLA1 := Hid.mk (HLA.out.below hb1)
      rw [← hq0] at HLA1
      have HB1 := Hid.mk (HB.out.trans (hb1.mono HB.out.size))
      have zq : w.heap.size ≤ q0 := by rw [hq0]; exact HB.out.size
      have zq1 : q0 ≤ q1 := by rw [hq0, hq1]; exact hb1.size
      have zq2 : q1 ≤ w1.heap.size := by omega
      have hl1 := hlY.len
      have hn1 : n1 ≤ 64 := by rw [← hl1]; exact HYL.out
      have HL1 := Hid.mk hl1
      rw [← hq0, ← hq1] at hlY
      have HLY := Hid.mk hlY
      have HLX := Hid.mk HLA.out.len
      clear hlY hb1 hl1 hq0 hq1 HLA HB KC HYL
      go_wp2_with fail
      go_loopw [5, 21] (fun p i wx => ∃ (j m : Nat) (r : Option Addr) (d : Nat) (cells : List Value) (F : Nat → Prop) (G : Nat → Nat → Prop), j ≤ n1 ∧ i = .int .i64 j ∧ p = .slice r m d ∧ Laid RInts wx F 23 r m d (keysT D q X (Y.take j)) cells G m ∧ (∀ b, F b → w.heap.size ≤ b ∧ b < wx.heap.size) ∧ (∀ b, F b → q0 ≤ b → b < q1 → ∃ i, i < j ∧ GY i b) ∧ (∀ b, (Value.slice r m d).ownBlock = some b → b < q0 ∨ q1 ≤ b) ∧ Laid RInts wx (From q0 q1) 23 r1 n1 d1 Y cellsY GY n1 ∧ q1 ≤ wx.heap.size ∧ Below w.heap.size w wx) (fun _ i _ => n1 - (intOf i).toNat)
      case atStart => exact ⟨0, m, r, d, cells, From w.heap.size q0, G, Nat.zero_le _, rfl, rfl, by simpa [keysT] using HLA1.out, fun b h => ⟨h.1, by have := h.2; omega⟩, fun b h h1 _ => by have := h.2; omega, fun b h => .inl (HLA1.out.outerF b h).2, HLY.out, zq2, HB1.out⟩
      case round =>
        clear HLA1 HLY HB1 zq2 HLX
        obtain ⟨j, m, r, d, cells, F, G, hj1, rfl, rfl, hlaid, hFw, hFq, hFo, hlY, zr, hbw⟩ := hrel
        by_cases hjlt : j < n1
        · obtain ⟨g1, rfl⟩ := laidI_some hlY (by omega)
          obtain ⟨s, hsx⟩ : ∃ s, Y[j]? = some s := ⟨_, List.getElem?_eq_getElem (by have := HL1.out; omega)⟩
          obtain ⟨sa, sn, sc, hcx, hos⟩ := laidI_row hlY hsx
          obtain ⟨s1, s2, s3, s4⟩ := RInts.at_iff.1 (RInts.toAt hos)
          have htold := HYT.out j s hsx
          have hstep := keysT_take (M := D) (c := q) (acc := X) hsx
          have hlen : (keysT D q X (Y.take j)).length ≤ 128 := by
            have h1 := keysT_len D q (Y.take j) X
            have h2 := HX64.out
            rw [List.length_take] at h1
            omega
          obtain ⟨acc, hacc⟩ : ∃ acc, keysT D q X (Y.take j) = acc := ⟨_, rfl⟩
          rw [hacc] at hlaid hstep hlen
          have hml := hlaid.len
          have hm128 : m ≤ 128 := by omega
          have hji : (j : Int) < (n1 : Int) := by omega
          have K1 := Hid.mk (l7Closure_any a n c xs sa sn sc s wr HZ.out hn HS.out (AtSl.below HA.out hbw) htold s1 s3 s4)
          rw [HD.out] at K1
          have HSTEP := Hid.mk hstep
          have HLA := Hid.mk hlaid
          have HLY := Hid.mk hlY
          have HB := Hid.mk hbw
          have HFW := Hid.mk hFw
          have HFQ := Hid.mk hFq
          have HFO := Hid.mk hFo
          have HOS := Hid.mk hos
          have HML := Hid.mk hml
          have HS1 := Hid.mk s1
          clear hlaid hlY hbw hFw hFq hFo hos hml s1 s3 s4 htold hstep hlen hacc hsx
          go_wp2_with fail
          refine K1.out.mono ?_
          rintro e w3 ⟨T, r3, m3, d3, hT, rfl, hm3, ho3, hb3⟩
          have hbq : ((m3 : Int) == (q : Int)) = fitT D q acc s 0 := by
            rw [fitT_zero, hT.clo_eq, hm3]
            by_cases e : m3 = q
            · subst e; simp
            · rw [decide_eq_false e]; exact beq_eq_false_iff_ne.2 (by omega)
          have hm36 : m3 ≤ 6 := by rw [← hm3]; exact bl_len T
          obtain ⟨fl0, hfl0⟩ : ∃ fl, fitT D q acc s 0 = fl := ⟨_, rfl⟩
          rw [hfl0] at hbq
          have HFL0 := Hid.mk hfl0
          have HLA3 := Hid.mk (HLA.out.below hb3)
          have HLY3 := Hid.mk (HLY.out.below hb3)
          have HOS3 := Hid.mk (RInts.ownBelow HOS.out hb3)
          have HB3 := Hid.mk (HB.out.trans (hb3.mono HB.out.size))
          have z3 := hb3.size
          have HFW3 : Hid (∀ b, F b → w.heap.size ≤ b ∧ b < w3.heap.size) := fun b h => ⟨(HFW.out b h).1, by have := (HFW.out b h).2; omega⟩
          clear hT hm3 ho3 hb3 K1 HLA HLY HOS HB HFW hcx hfl0
          go_wp2_with fail
          go_loopw [9, 33] (fun fl i wx => ∃ t : Nat, t ≤ m ∧ i = .int .i64 t ∧ fl = .bool (fitT D q acc s t) ∧ wx = w3) (fun _ i _ => m - (intOf i).toNat)
          case atStart => exact ⟨0, Nat.zero_le _, rfl, by rw [HFL0.out], rfl⟩
          case round =>
            clear hbq HFL0
            obtain ⟨t, htm, rfl, rfl, rfl⟩ := hrel
            by_cases htlt : t < m
            · obtain ⟨g, rfl⟩ := laidI_some HLA3.out (by omega)
              obtain ⟨k, hkx⟩ : ∃ k, acc[t]? = some k := ⟨_, List.getElem?_eq_getElem (by have := HML.out; omega)⟩
              obtain ⟨oa, on, oc, hcx, hok⟩ := laidI_row HLA3.out hkx
              obtain ⟨o1, o2, o3, o4⟩ := RInts.at_iff.1 (RInts.toAt hok)
              have hsucc := fitT_succ (M := D) (c := q) (s := s) hkx
              have hti : (t : Int) < (m : Int) := by omega
              have KA := Hid.mk (l7All_any sa sn sc s oa on oc k wr HS1.out s2 (RInts.at_iff.1 (RInts.toAt HOS3.out)).2.2.1 o1 o2 o3)
              obtain ⟨ka, hka⟩ : ∃ ka, (k.all fun x => decide (x ∈ s)) = ka := ⟨_, rfl⟩
              rw [hka] at KA hsucc
              have HSU := Hid.mk hsucc
              clear hok o1 o3 o4 hsucc hka hkx
              cases hfl : fitT D q acc s t with
              | true =>
                go_wp2_with fail
                refine KA.out.mono ?_
                rintro e w5 ⟨rfl, rfl⟩
                have HE : Hid (fitT D q acc s (t + 1) = !ka) := by show _ = _; rw [HSU.out, hfl]; rfl
                rw [show (true : Bool) = true from rfl]
                go_wp2
                go_roundw
                case rel => exact ⟨t + 1, by omega, by go_num, by rw [HE.out], by first | rfl | trivial⟩
                case measure => simp [intOf]; omega
              | false =>
                have HE : Hid (fitT D q acc s (t + 1) = false) := by show _ = _; rw [HSU.out, hfl]; rfl
                go_wp2
                go_roundw
                case rel => exact ⟨t + 1, by omega, by go_num, by rw [HE.out], by first | rfl | trivial⟩
                case measure => simp [intOf]; omega
            · obtain rfl : t = m := by omega
              have htt : ¬ (t : Int) < (t : Int) := by omega
              cases hfl : fitT D q acc s t with
              | false =>
                have HE : Hid (keysT D q X (Y.take (j + 1)) = acc) := by show _ = _; rw [HSTEP.out]; unfold stepK; rw [HML.out, hfl]; rfl
                go_wp2
                go_roundw
                case rel => exact ⟨j + 1, t, r, d, cells, F, G, by omega, by go_num, rfl, by rw [HE.out]; exact HLA3.out, HFW3.out, fun b h h1 h2 => by obtain ⟨i, hi, hg⟩ := HFQ.out b h h1 h2; exact ⟨i, by omega, hg⟩, HFO.out, HLY3.out, by omega, HB3.out⟩
                case measure => simp [intOf]; omega
              | true =>
                have HE : Hid (keysT D q X (Y.take (j + 1)) = acc ++ [s]) := by show _ = _; rw [HSTEP.out]; unfold stepK; rw [HML.out, hfl]; rfl
                have hbase : wr.ownsRow w.heap.size 23 1 (.slice r t d) t cells := owns_base HLA3.out.outer (fun b hb => (HFW3.out b (HLA3.out.outerF b hb)).1)
                have HBASE := Hid.mk hbase
                have zw := HB3.out.size
                clear hbase
                go_wp2_with (at_builtin; refine wpList_app_vals rfl (.tmp 46) (.tmp 48) 50 rfl w.heap.size 23 k0 (.slice none 0 0) 1 24 Tryd.underlying50 hk hx0 hx1 hx2 rfl (by decide) (.slice r t d) t cells rfl (HBASE.out.alloc _) (some ⟨wr.heap.size, 0, none⟩) 1 1 [.slice sa sn sc] rfl rfl (fun ad he => by cases he; simpa using news_at wr #[.slice sa sn sc] 23) (by simp; rfl) (fun h => by cases h) (by unfold maxLen; omega) (by omega) (by simp; omega) ?_)
                intro r4 d4 w5 ho4 hg4 ht4
                have z5 : wr.heap.size < w5.heap.size := by have h9 := hg4.size; simp at h9; omega
                have BG : ∀ b, b < wr.heap.size → (Value.slice r t d).ownBlock ≠ some b → w5.heap[b]? = wr.heap[b]? := fun b hb hn => (hg4.block b (by simp; omega) (fun e => hn e.symm)).trans (Below.heap_alloc wr _ b hb)
                have ht4' : (Value.slice r4 (t + 1) d4).ownBlock = (Value.slice r t d).ownBlock ∨ (Value.slice r4 (t + 1) d4).ownBlock = some (wr.heap.size + 1) := by
                  rcases ht4 with h9 | h9
                  · exact .inl h9
                  · exact .inr (by rw [h9])
                have hGY : ∀ b, GY j b → q0 ≤ b ∧ b < q1 := fun b h => (HLY3.out.rowF j b hjlt h).1
                have hpush := Laid.pushH (F' := fun b => F b ∨ GY j b ∨ b = wr.heap.size + 1) HLA3.out (fun b h => (HFW3.out b h).2) HOS3.out (fun b h => by have := (hGY b h).2; omega)
                  (fun b h1 h2 => by
                    obtain ⟨i, hi, hg⟩ := HFQ.out b h1 (hGY b h2).1 (hGY b h2).2
                    exact HLY3.out.apart i j b (by omega) hjlt (by omega) hg h2) BG (owns_mono ho4 (Nat.zero_le _)) (by
                    rcases ht4' with h9 | h9
                    · exact .inl h9
                    · refine .inr (fun b e => ?_)
                      rw [h9] at e
                      simp at e
                      omega) (by omega) (fun b h => .inl h) (fun b h => .inr (.inl h)) (fun b h => by
                    rcases ht4' with h9 | h9
                    · rw [h9] at h; exact .inl (HLA3.out.outerF b h)
                    · rw [h9] at h; simp at h; exact .inr (.inr h.symm))
                obtain ⟨G', HL'⟩ : ∃ G', Hid (Laid RInts w5 (fun b => F b ∨ GY j b ∨ b = wr.heap.size + 1) 23 r4 (t + 1) d4 (keysT D q X (Y.take (j + 1))) (cells ++ [.slice sa sn sc]) G' (t + 1)) := by
                  rw [HE.out]
                  exact ⟨_, Hid.mk hpush⟩
                have hsz6 : (Value.slice r4 (t + 1) d4).ownBlock = some (wr.heap.size + 1) → wr.heap.size + 1 < w5.heap.size := fun e => (ho4.lt _ e).2
                have HFW5 : Hid (∀ b, (F b ∨ GY j b ∨ b = wr.heap.size + 1) → w.heap.size ≤ b ∧ b < w5.heap.size + 1) := fun b h => by
                  rcases h with h | h | h
                  · exact ⟨(HFW3.out b h).1, by have := (HFW3.out b h).2; omega⟩
                  · exact ⟨by have := (hGY b h).1; omega, by have := (hGY b h).2; omega⟩
                  · exact ⟨by omega, by omega⟩
                have HLT := Hid.mk (HL'.out.tight)
                have HFO5 : Hid (∀ b, (Value.slice r4 (t + 1) d4).ownBlock = some b → b < q0 ∨ q1 ≤ b) := fun b h => by
                  rcases ht4' with h9 | h9
                  · rw [h9] at h; exact HFO.out b h
                  · rw [h9] at h; simp at h; omega
                have HLY5 := Hid.mk (HLY3.out.frame (w' := w5) (fun b h hb => BG b hb (fun e => by have h1 := h.1; have h2 := h.2; rcases HFO.out b e with h9 | h9 <;> omega)))
                have HB5 : Hid (Below w.heap.size w w5) := (HB3.out.alloc zw _).grown hg4 (by simp; omega) (fun j hj => (HBASE.out.lt j hj).1)
                clear hpush BG ho4 hg4 ht4 ht4' hGY hsz6 HLA3 HLY3 HB3 HOS3 HBASE
                go_wp2
                go_roundw
                case rel => exact ⟨j + 1, t + 1, r4, d4, _, fun b => (F b ∨ GY j b ∨ b = wr.heap.size + 1) ∧ b < w5.heap.size, _, by omega, by go_num, rfl, HLT.out, fun b h => ⟨(HFW5.out b h.1).1, h.2⟩, fun b h h1 h2 => by
                  rcases h.1 with h | h | h
                  · obtain ⟨i, hi, hg⟩ := HFQ.out b h h1 h2; exact ⟨i, by omega, hg⟩
                  · exact ⟨j, by omega, h⟩
                  · omega, HFO5.out, HLY5.out, by omega, HB5.out⟩
                case measure => simp [intOf]; omega
        · obtain rfl : j = n1 := by omega
          rw [List.take_of_length_le (by have := HL1.out; omega), ← HNX.out] at hlaid
          have HLA2 := Hid.mk (hlaid.mono (F' := From w.heap.size wr.heap.size) (fun b h => hFw b h))
          have hji : ¬ (j : Int) < (j : Int) := by omega
          clear hlaid hlY hFw hFq hFo
          go_wp2
          go_roundw
          case rel => exact ⟨t + 1, m, r, d, cells, G, by omega, by go_num, rfl, HLA2.out, hbw⟩
          case measure => simp [intOf]; omega
    · obtain rfl : t = q + 1 := by omega
      have hti : ¬ ((q + 1 : Nat) : Int) ≤ (q : Int) := by omega
      have HFIN : Hid (RPairs.Own wr (From w.heap.size wr.heap.size) [.slice r m d] (keysL D q)) := ⟨_, _, _, cells, G, rfl, hlaid⟩
      clear hlaid HNX
      go_wp2
      go_ret
      exact ⟨r, m, d, rfl, HFIN.out, hbw⟩

/-- Lists of columns, and whether. -/
def KeysRet (e : Ending) (w' : World) (lo : Nat) (ok : Bool) (zss : List (List Int)) : Prop := ∃ r m d, e = .returned (.tuple #[.slice r m d, .bool ok]) ∧ RPairs.Own w' (From lo w'.heap.size) [.slice r m d] zss
theorem keysRet_none (w : World) (lo : Nat) {ok : Bool} {ds : List (List Int)} (h1 : ok = false) (h2 : ds = []) : KeysRet (.returned (.tuple #[.slice none 0 0, .bool false])) w lo ok ds := by
  subst h1 h2
  exact ⟨none, 0, 0, rfl, none, 0, 0, [], _, rfl, Laid.none _ _ _ _⟩
noncomputable def keyL (xs : List Dep) (C : Int) : List (List Int) := if goodDeps xs C then keysL (dms xs) C.toNat else []
theorem keyL_no {xs : List Dep} {C : Int} (h : goodDeps xs C = false) : keyL xs C = [] := by unfold keyL; rw [h]; rfl

set_option maxRecDepth 100000 in
set_option maxHeartbeats 2000000 in
theorem specKeysOf (a : Option Addr) (n c : Nat) (xs : List Dep) (C : Int) (w : World) (hz : xs.length = n) (hn : n ≤ 1048576) (ha : AtD w a xs) :
    Calls Tryd.prog 26 #[.slice a n c, .int .i64 C] w fun e w' => KeysRet e w' w.heap.size (goodDeps xs C) (keyL xs C) ∧ Below w.heap.size w w' := by
  have HA := Hid.mk ha
  have HZ := Hid.mk hz
  clear ha hz
  go_enter Tryd.func26, Tryd.ntmps26
  go_wp2_with fail
  refine (specGoodDepends a n c xs C w HZ.out (by omega) HA.out).mono ?_
  rintro e w1 ⟨rfl, B1⟩
  cases hg1 : goodDeps xs C with
  | false =>
    go_wp2
    exact bodyPost_ret (v := .tuple #[.slice none 0 0, .bool false]) (by simp [results, Tryd.results26, go_sem]) rfl ⟨keysRet_none _ _ hg1 (keyL_no hg1), B1⟩
  | true =>
    obtain ⟨hC1, hC6, hx10⟩ := goodDeps_C hg1
    obtain ⟨q, hq⟩ : ∃ q : Nat, C = (q : Int) := ⟨C.toNat, by omega⟩
    have HKL : Hid (keyL xs C = keysL (dms xs) q) := by show _ = _; unfold keyL; rw [hg1, hq]; rfl
    have K := Hid.mk (l7Keys_any a n c xs q w1 HZ.out hn (by omega) (Tolds.of hg1) (AtSl.below HA.out B1))
    rw [← hq] at K
    clear hx10 hq
    go_wp2_with fail
    refine K.out.mono ?_
    rintro e w2 ⟨r2, m2, d2, rfl, ho2, hb2⟩
    have HB2 := Hid.mk (B1.trans (hb2.mono B1.size))
    have HR : Hid (KeysRet (.returned (.tuple #[.slice r2 m2 d2, .bool true])) w2 w.heap.size (goodDeps xs C) (keyL xs C)) := by
      show KeysRet _ _ _ _ _
      rw [HKL.out, hg1]
      exact ⟨r2, m2, d2, rfl, RPairs.mono ho2 (fun b h => ⟨by have h1 := h.1; have h2 := B1.size; omega, h.2⟩)⟩
    clear ho2 hb2 K
    go_wp2
    exact bodyPost_ret (v := .tuple #[.slice r2 m2 d2, .bool true]) (by simp [results, Tryd.results26, go_sem]) rfl ⟨HR.out, HB2.out⟩

end Go.Proofs.YtkcfhlpdenjimaaDoor
