/- Several texts of one proof, in build order: NpI, NpO, LsO, NpN. -/
import Derived.Test.YtpnaoahlfhbbmaaDoorM8
import Derived.Test.YtpnaoahlfhbbmaaDoorM13
import Derived.Test.YtpnaoahlfhbbmaaDoorM7

/- Contracts of normalSets, outermost, NormalParts. -/
namespace Go.Proofs.YtpnaoahlfhbbmaaDoor
open Go.RowKit

theorem least_of {p : Nat → Prop} : ∀ (n : Nat), p n → ∃ m, p m ∧ ∀ k, p k → m ≤ k := fun n => by
  induction n using Nat.strongRecOn with
  | _ n ih =>
    intro h
    by_cases hk : ∃ k, k < n ∧ p k
    · obtain ⟨k, h1, h2⟩ := hk
      exact ih k h1 h2
    · exact ⟨n, h, fun k h2 => by
        by_cases h3 : k < n
        · exact absurd ⟨k, h3, h2⟩ hk
        · omega⟩
theorem sb_63 {F : Nat} (h : F < 64) : sb F 63 = true := sb_of_bits fun i hi => by
  have h6 := bit_lt h hi
  have : ∀ i : Nat, i < 6 → (63 : Nat).testBit i = true := by decide
  exact this i h6
theorem hasClo {D : List (Nat × Nat)} (hS : Sets D) : HasClo D := fun F hF => by
  obtain ⟨T, ⟨h1, h2, h3⟩, h4⟩ := least_of (p := fun T => T < 64 ∧ sb F T = true ∧ clsd D T) 63 ⟨by omega, sb_63 hF, fun d hd _ => sb_63 (hS d hd).2⟩
  refine IsClo.is (T := T) ⟨h1, h2, h3, fun U hU hc => ?_⟩
  have hlt : T &&& U < 64 := and_lt64 h1
  have hle := h4 (T &&& U) ⟨hlt, sb_and h2 hU, fun d hd hs => sb_and (h3 d hd (sb_trans hs and_sb_left)) (hc d hd (sb_trans hs and_sb_right))⟩
  have : T &&& U = T := Nat.le_antisymm Nat.and_le_left hle
  rw [← this]; exact and_sb_right

set_option maxRecDepth 100000 in
set_option maxHeartbeats 4000000 in
theorem normalSets_any (D : List (Nat × Nat)) (hS : Sets D) : ∀ (f P : Nat), P < 64 → (bl P).length ≤ f → ∀ (a : Option Addr) (n c : Nat) (w : World), D.length = n → n ≤ 9223372036854775807 → AtT w a D → TabB w →
    Calls Tryd.prog 39 #[.slice a n c, .int .u64 (P : Nat)] w fun e w' => ∃ g m d, e = .returned (.slice (some ⟨g, 0, none⟩) m d) ∧ (nsets D P).length = m ∧ w'.ownsRow w.heap.size 53 1 (.slice (some ⟨g, 0, none⟩) m d) m (vU (nsets D P)) ∧ Below w.heap.size w w' := by
  intro f
  induction f with
  | zero =>
    intro P hP hl a n c w hz hn ha ht
    have hno : fsO D P = false := by
      cases h : fsO D P with
      | false => rfl
      | true => have := (fs_less (hasClo hS) hP h).2.2.1; omega
    have HE : Hid (nsets D P = [P]) := by show _ = _; rw [nsets_eq (hasClo hS) hP, hno]; rfl
    have K := Hid.mk (firstSplit_any a n c D P w hz hn hS hP ha ht)
    rw [hno] at K
    obtain ⟨A, hA⟩ : ∃ A, fsA D P = A := ⟨_, rfl⟩
    obtain ⟨B, hB⟩ : ∃ B, fsB D P = B := ⟨_, rfl⟩
    rw [hA, hB] at K
    clear hz ha ht hA hB hno
    go_enter Tryd.func39, Tryd.ntmps39
    go_wp2_with fail
    refine K.out.mono ?_
    rintro e w1 ⟨rfl, hb1⟩
    have HO : Hid ((w1.alloc (.cells #[.int .u64 (P : Nat)] 53)).ownsRow w.heap.size 53 1 (.slice (some ⟨w1.heap.size, 0, none⟩) 1 1) 1 (vU (nsets D P))) := by
      show World.ownsRow _ _ _ _ _ _ _
      rw [HE.out]
      exact owns_mono (owns_oneK w1 53 (.int .u64 (P : Nat))) hb1.size
    go_wp2
    go_ret
    exact ⟨w1.heap.size, 1, 1, rfl, by rw [HE.out]; rfl, HO.out, hb1.alloc hb1.size _⟩
  | succ f ih =>
    intro P hP hl a n c w hz hn ha ht
    have HEQ := Hid.mk (nsets_eq (hasClo hS) hP)
    have HLS := Hid.mk (fs_less (hasClo hS) hP)
    have K := Hid.mk (firstSplit_any a n c D P w hz hn hS hP ha ht)
    have IH := Hid.mk ih
    have HZ := Hid.mk hz
    have HA := Hid.mk ha
    have HT := Hid.mk ht
    cases hf : fsO D P with
    | false =>
      have HE : Hid (nsets D P = [P]) := by show _ = _; rw [HEQ.out, hf]; rfl
      rw [hf] at K
      obtain ⟨A, hA⟩ : ∃ A, fsA D P = A := ⟨_, rfl⟩
      obtain ⟨B, hB⟩ : ∃ B, fsB D P = B := ⟨_, rfl⟩
      rw [hA, hB] at K
      clear hz ha ht ih hA hB hf HLS
      go_enter Tryd.func39, Tryd.ntmps39
      go_wp2_with fail
      refine K.out.mono ?_
      rintro e w1 ⟨rfl, hb1⟩
      have HO : Hid ((w1.alloc (.cells #[.int .u64 (P : Nat)] 53)).ownsRow w.heap.size 53 1 (.slice (some ⟨w1.heap.size, 0, none⟩) 1 1) 1 (vU (nsets D P))) := by
        show World.ownsRow _ _ _ _ _ _ _
        rw [HE.out]
        exact owns_mono (owns_oneK w1 53 (.int .u64 (P : Nat))) hb1.size
      go_wp2
      go_ret
      exact ⟨w1.heap.size, 1, 1, rfl, by rw [HE.out]; rfl, HO.out, hb1.alloc hb1.size _⟩
    | true =>
      obtain ⟨a1, a2, a3, a4⟩ := HLS.out hf
      have HE : Hid (nsets D P = nsets D (fsA D P) ++ nsets D (fsB D P)) := by show _ = _; rw [HEQ.out, hf]; rfl
      rw [hf] at K
      have K1 := Hid.mk (fun w ha ht => IH.out (fsA D P) a1 (by omega) a n c w HZ.out hn ha ht)
      have K2 := Hid.mk (fun w ha ht => IH.out (fsB D P) a2 (by omega) a n c w HZ.out hn ha ht)
      have hl1 := nsets_len D (fsA D P)
      have hl2 := nsets_len D (fsB D P)
      obtain ⟨A, hA⟩ : ∃ A, fsA D P = A := ⟨_, rfl⟩
      obtain ⟨B, hB⟩ : ∃ B, fsB D P = B := ⟨_, rfl⟩
      rw [hA] at K HE K1 hl1
      rw [hB] at K HE K2 hl2
      clear hz ha ht ih hA hB hf HLS a1 a2 a3 a4
      go_enter Tryd.func39, Tryd.ntmps39
      go_wp2_with fail
      refine K.out.mono ?_
      rintro e w1 ⟨rfl, hb1⟩
      have HB1 := Hid.mk hb1
      clear hb1 K
      go_wp2_with fail
      refine (K1.out w1 (AtSl.below HA.out HB1.out) (TabIs.below HT.out HB1.out)).mono ?_
      rintro e w2 ⟨g2, m2, d2, rfl, hm2, ho2, hb2⟩
      have HB2 := Hid.mk (HB1.out.trans (hb2.mono HB1.out.size))
      have HM2 := Hid.mk hm2
      have HO2 := Hid.mk ho2
      clear hm2 ho2 hb2 K1
      go_wp2_with fail
      refine (K2.out w2 (AtSl.below HA.out HB2.out) (TabIs.below HT.out HB2.out)).mono ?_
      rintro e w3 ⟨g3, m3, d3, rfl, hm3, ho3, hb3⟩
      have HB3 := Hid.mk (HB2.out.trans (hb3.mono HB2.out.size))
      have hm2' : m2 ≤ 64 ∧ 0 < m2 := by rw [← HM2.out]; exact hl1
      have hm3' : m3 ≤ 64 ∧ 0 < m3 := by rw [← hm3]; exact hl2
      obtain ⟨W, hW⟩ : ∃ W, W = w3.alloc (.cells #[.slice (some ⟨g2, 0, none⟩) m2 d2, .slice (some ⟨g3, 0, none⟩) m3 d3] 64) := ⟨_, rfl⟩
      have bW : Below w3.heap.size w3 W := by rw [hW]; exact (Below.refl _ _).alloc (Nat.le_refl _) _
      have q0 : W.cell? ⟨w3.heap.size, 0, none⟩ = some (.slice (some ⟨g2, 0, none⟩) m2 d2) := by rw [hW]; simp
      have q1 : W.cell? ⟨w3.heap.size, 1, none⟩ = some (.slice (some ⟨g3, 0, none⟩) m3 d3) := by rw [hW]; simp
      have K3 := Hid.mk (concatU_any w3.heap.size w1.heap.size w2.heap.size g2 g3 m2 m3 d2 d3 (nsets D A) (nsets D B) W HM2.out hm3 (by omega) (by omega) (owns_below (owns_below HO2.out hb3) bW) (owns_below ho3 bW) hm2'.2 q0 q1)
      have HBW := Hid.mk (HB3.out.trans (bW.mono HB3.out.size))
      have HM3 := Hid.mk hm3
      clear hm3 ho3 hb3 K2 bW q0 q1
      go_wp2_with fail
      rw [← hW]
      clear hW
      refine K3.out.mono ?_
      rintro e w4 ⟨r4, d4, rfl, ho4, hb4⟩
      have HO4 : Hid (w4.ownsRow w.heap.size 53 1 (.slice (some ⟨r4, 0, none⟩) (m2 + m3) d4) (m2 + m3) (vU (nsets D P))) := by
        show World.ownsRow _ _ _ _ _ _ _
        rw [HE.out]; exact owns_mono ho4 HBW.out.size
      have HB4 := Hid.mk (HBW.out.trans (hb4.mono HBW.out.size))
      have HL4 : Hid ((nsets D P).length = m2 + m3) := by show _ = _; rw [HE.out, List.length_append, HM2.out, HM3.out]
      clear ho4 hb4 K3
      go_wp2
      go_ret
      exact ⟨r4, m2 + m3, d4, rfl, HL4.out, HO4.out, HB4.out⟩

end Go.Proofs.YtpnaoahlfhbbmaaDoor

/- Contract of outermost. -/
namespace Go.Proofs.YtpnaoahlfhbbmaaDoor
open Go.RowKit

set_option maxRecDepth 100000 in
set_option maxHeartbeats 8000000 in
theorem outermost_any (base : Nat) (g0 n c : Nat) (l : List Nat) (w : World) (hz : l.length = n) (hn : n ≤ 64) (hl : ∀ x ∈ l, x < 64) (ho : w.ownsRow base 53 1 (.slice (some ⟨g0, 0, none⟩) n c) n (vU l)) :
    Calls Tryd.prog 38 #[.slice (some ⟨g0, 0, none⟩) n c] w fun e w' => ∃ r m d, e = .returned (.slice r m d) ∧ (outm l).length = m ∧ w'.ownsRow w.heap.size 53 1 (.slice r m d) m (vU (outm l)) ∧ Below w.heap.size w w' := by
  obtain ⟨i0, hi, hz0, hz1, hz2⟩ := info_parts Tryd.infoColumnSet
  have HZ := Hid.mk hz
  have HL := Hid.mk hl
  have HO := Hid.mk ho
  have HFIN : Hid (outm l = outT l n) := by show _ = _; rw [← hz]; rfl
  clear hz hl ho
  go_enter Tryd.func38, Tryd.ntmps38
  go_wp2
  go_step3
  go_wp2
  go_step3
  go_wp2
  go_loopg [3, 10] n (fun g p i wx => ∃ (k m : Nat) (r : Option Addr) (d : Nat), k + g = n ∧ m ≤ k ∧ i = .int .i64 k ∧ p = .slice r m d ∧ (outT l k).length = m ∧ wx.ownsRow w.heap.size 53 1 (.slice r m d) m (vU (outT l k)) ∧ Below w.heap.size w wx)
  case atStart => exact ⟨0, 0, none, 0, by omega, Nat.le_refl _, rfl, rfl, rfl, World.ownsRow_nil _ _ _ _, Below.refl _ _⟩
  case round =>
    obtain ⟨k, m, r, d, hkg, hmk, rfl, rfl, hm, hown, hbw⟩ := hrel
    by_cases hlt : k < n
    · obtain ⟨x, hx⟩ : ∃ x, l[k]? = some x := ⟨_, List.getElem?_eq_getElem (by have := HZ.out; omega)⟩
      have hx64 := HL.out x (List.mem_of_getElem? hx)
      have hcx : wr.cell? ⟨g0, k, none⟩ = some (.int .u64 (x : Nat)) := cell_later hbw ((HO.out.cellAt k (by omega)).trans (by rw [List.getElem?_map, hx]; rfl))
      have HOT := Hid.mk (outT_succ hx)
      rw [HZ.out] at HOT
      have hki : (k : Int) < (n : Int) := by omega
      have HM := Hid.mk hm
      have HOW := Hid.mk hown
      have HB := Hid.mk hbw
      obtain ⟨wy, rfl⟩ : ∃ x, x = wr := ⟨_, rfl⟩
      have zwy := hbw.size
      clear hm hown hbw hx
      go_wp2
      go_loopg [17] n (fun g2 i wz => ∃ (t : Nat), t + g2 = n ∧ i = .int .i64 t ∧ wthn l k x t = false ∧ wz = wy)
      case atStart => exact ⟨0, by omega, rfl, wthn_zero l k x, rfl⟩
      case round =>
        obtain ⟨t, htg, rfl, hw, hwz⟩ := hrel
        obtain rfl := hwz
        by_cases htl : t < n
        · obtain ⟨y, hy⟩ : ∃ y, l[t]? = some y := ⟨_, List.getElem?_eq_getElem (by have := HZ.out; omega)⟩
          have hy64 := HL.out y (List.mem_of_getElem? hy)
          have hcy : wr.cell? ⟨g0, t, none⟩ = some (.int .u64 (y : Nat)) := cell_later HB.out ((HO.out.cellAt t (by omega)).trans (by rw [List.getElem?_map, hy]; rfl))
          have hws := wthn_succ (i := k) (x := x) hy
          rw [hw, Bool.false_or] at hws
          have HWS := Hid.mk hws
          have HLEN := HZ.out
          have HYES : Hid ((sb x y && (!decide (y = x) || decide (t < k))) = true → outT l (k + 1) = outT l k) := fun h => by
            rw [HOT.out, wthn_mono (n := n) (by rw [HWS.out]; exact h) (by omega)]; rfl
          have hti : (t : Int) < (n : Int) := by omega
          clear hws hw hy HLEN
          go_wp2_with fail
          refine (has_any y x _ hy64 hx64).mono ?_
          rintro e w2 ⟨rfl, hw2⟩
          obtain rfl := hw2.symm
          clear hw2
          cases h1 : sb x y with
          | false =>
            have HN : Hid (wthn l k x (t + 1) = false) := by show _ = _; rw [HWS.out, h1]; rfl
            go_wp2
            go_roundg (n - (t + 1))
            case measure => omega
            case rel => exact ⟨t + 1, by omega, by go_num, HN.out, by first | rfl | trivial⟩
          | true =>
            by_cases h2 : y = x
            · have h2' : ((y : Int) != (x : Int)) = false := by rw [h2]; simp
              by_cases h3 : t < k
              · have h3' : (t : Int) < (k : Int) := by omega
                have HE := Hid.mk (HYES.out (by rw [h1, decide_eq_true h3]; simp))
                clear h2
                go_wp2
                go_roundg (n - (k + 1))
                case measure => omega
                case rel => exact ⟨k + 1, m, r, d, by omega, by omega, by go_num, rfl, by rw [HE.out]; exact HM.out, by rw [HE.out]; exact HOW.out, HB.out⟩
              · have h3' : ¬ (t : Int) < (k : Int) := by omega
                have HN : Hid (wthn l k x (t + 1) = false) := by show _ = _; rw [HWS.out, h1, decide_eq_true h2, decide_eq_false h3]; rfl
                clear h2
                go_wp2
                go_roundg (n - (t + 1))
                case measure => omega
                case rel => exact ⟨t + 1, by omega, by go_num, HN.out, by first | rfl | trivial⟩
            · have h2' : ((y : Int) != (x : Int)) = true := bne_iff_ne.2 (by omega)
              have HE := Hid.mk (HYES.out (by rw [h1, decide_eq_false h2]; rfl))
              clear h2
              go_wp2
              go_roundg (n - (k + 1))
              case measure => omega
              case rel => exact ⟨k + 1, m, r, d, by omega, by omega, by go_num, rfl, by rw [HE.out]; exact HM.out, by rw [HE.out]; exact HOW.out, HB.out⟩
        · obtain rfl : t = n := by omega
          have hti : ¬ (t : Int) < (t : Int) := by omega
          have HE : Hid (outT l (k + 1) = outT l k ++ [x]) := by show _ = _; rw [HOT.out, hw]; rfl
          clear hw
          go_wp2_with (at_builtin; refine wpList_append_lies _ rfl (.tmp 36) (.tmp 38) 64 rfl w.heap.size 53 i0 (.int .u64 0) 1 8 Tryd.underlying64 hi hz0 hz1 hz2 rfl (by decide) _ _ _ rfl (HOW.out.alloc _) ⟨wr.heap.size, 0, none⟩ 1 1 [.int .u64 (x : Nat)] rfl rfl (news_at wr _ _) (by intro u hu; simp at hu; subst hu; rfl) (by decide) (by unfold maxLen; omega) (by omega) (by simp; omega) (wr.heap.size + 1) (by simp) ?_)
          intro g3 cap3 w3 ho3 hg3 hat3 hlt3
          have HB3 : Hid (Below w.heap.size w w3) := (HB.out.alloc HB.out.size _).grown hg3 (by simp; omega) (fun j hj => (HOW.out.lt j hj).1)
          have HO3 : Hid (w3.ownsRow w.heap.size 53 1 (.slice (some ⟨g3, 0, none⟩) (m + 1) cap3) (m + 1) (vU (outT l (k + 1)))) := by
            show World.ownsRow _ _ _ _ _ _ _
            rw [HE.out, show vU (outT l k ++ [x]) = vU (outT l k) ++ [.int .u64 (x : Nat)] from List.map_append]; exact ho3
          clear ho3 hg3 hat3
          go_wp2
          go_roundg (t - (k + 1))
          case measure => omega
          case rel => exact ⟨k + 1, m + 1, _, _, by omega, by omega, by go_num, rfl, by rw [HE.out, List.length_append, HM.out]; rfl, HO3.out, HB3.out⟩
    · obtain rfl : k = n := by omega
      have hki : ¬ (k : Int) < (k : Int) := by omega
      rw [← HFIN.out] at hown hm
      have HM := Hid.mk hm
      have HOW := Hid.mk hown
      clear hm hown
      go_wp2
      (try rw [Exit.noGoto_ret])
      go_ret
      exact ⟨r, m, d, rfl, HM.out, HOW.out, hbw⟩

end Go.Proofs.YtpnaoahlfhbbmaaDoor

/- Contract of listsOf. -/
namespace Go.Proofs.YtpnaoahlfhbbmaaDoor
open Go.RowKit

set_option maxRecDepth 100000 in
set_option maxHeartbeats 2000000 in
theorem listsU_any (base : Nat) (a : Option Addr) (n c : Nat) (ks : List Nat) (w : World) (hz : ks.length = n) (hn : n ≤ 64) (hks : ∀ k ∈ ks, k < 64) (ho : w.ownsRow base 53 1 (.slice a n c) n (vU ks)) (ht : TabB w) :
    Calls Tryd.prog 40 #[.slice a n c] w fun e w' => ∃ r m d, e = .returned (.slice r m d) ∧ RPairs.Own w' (From w.heap.size w'.heap.size) [.slice r m d] (ks.map bl) ∧ Below w.heap.size w w' := by
  obtain ⟨k0, hk, hx0, hx1, hx2⟩ := info_parts Tryd.infoInts
  have HT := Hid.mk ht
  have HO := Hid.mk ho
  have HKS := Hid.mk hks
  clear ht ho hks
  go_enter Tryd.func40, Tryd.ntmps40
  go_wp2_with fail
  go_loopw [3, 8] (fun p i wx => ∃ (k : Nat) (r : Option Addr) (d : Nat) (cells : List Value) (G : Nat → Nat → Prop), k ≤ n ∧ i = .int .i64 k ∧ p = .slice r k d ∧ Laid RInts wx (From w.heap.size wx.heap.size) 23 r k d ((ks.take k).map bl) cells G k ∧ Below w.heap.size w wx) (fun _ i _ => n - (intOf i).toNat)
  case atStart => exact ⟨0, none, 0, [], _, Nat.zero_le _, rfl, rfl, Laid.none _ _ _ _, Below.refl _ _⟩
  case round =>
    obtain ⟨k, r, d, cells, G, hkn, rfl, rfl, hlaid, hbw⟩ := hrel
    by_cases hlt : k < n
    · obtain ⟨s, hs⟩ : ∃ s, ks[k]? = some s := ⟨_, List.getElem?_eq_getElem (by omega)⟩
      have hs64 := HKS.out s (List.mem_of_getElem? hs)
      obtain ⟨g, hg⟩ : ∃ g, a = some ⟨g, 0, none⟩ := by
        rcases HO.out.2 with ⟨_, h1⟩ | ⟨g, cap, cur, hv, _⟩
        · omega
        · simp only [Value.slice.injEq, true_and] at hv
          exact ⟨g, hv.1⟩
      subst hg
      have hcx : wr.cell? ⟨g, k, none⟩ = some (.int .u64 (s : Nat)) := cell_later hbw ((HO.out.cellAt k (by omega)).trans (by rw [List.getElem?_map, hs]; rfl))
      have HTK : Hid ((ks.take (k + 1)).map bl = (ks.take k).map bl ++ [bl s]) := by
        show _ = _
        obtain ⟨hh, rfl⟩ := List.getElem?_eq_some_iff.1 hs
        rw [List.take_succ_eq_append_getElem hh, List.map_append]; rfl
      have hki : (k : Int) < (n : Int) := by omega
      have K := Hid.mk (list_any s wr hs64 (TabIs.below HT.out hbw))
      have HLA := Hid.mk hlaid
      have HB := Hid.mk hbw
      have zw := hbw.size
      clear hlaid hbw hs
      go_wp2_with fail
      refine K.out.mono ?_
      rintro e w4 ⟨r3, m3, d3, rfl, hm3, ho3, hb2⟩
      have hm36 : m3 ≤ 6 := by rw [← hm3]; exact bl_len s
      have z4 := hb2.size
      have HOI : Hid (RInts.Own w4 (From wr.heap.size w4.heap.size) [.slice r3 m3 d3] (bl s)) := RInts.of_owns hm3 (by omega) ho3
      have HW : Hid (wr.ownsRow w.heap.size 23 1 (.slice r k d) k cells) := owns_base HLA.out.outer (fun b hb => (HLA.out.outerF b hb).1)
      have HW4 := Hid.mk (owns_below HW.out hb2)
      have HB2 := Hid.mk hb2
      clear ho3 hb2 hm3 K
      go_wp2_with (at_builtin; refine wpList_app_vals rfl (.tmp 12) (.tmp 15) 33 rfl w.heap.size 23 k0 (.slice none 0 0) 1 24 Tryd.underlying33 hk hx0 hx1 hx2 rfl (by decide) (.slice r k d) k cells rfl (HW4.out.alloc _) (some ⟨w4.heap.size, 0, none⟩) 1 1 [.slice r3 m3 d3] rfl rfl (fun ad he => by cases he; simpa using news_at w4 #[.slice r3 m3 d3] 23) (by simp; rfl) (fun h => by cases h) (by unfold maxLen; omega) (by omega) (by simp; omega) ?_)
      intro r4 d4 w5 ho4 hg4 ht4
      have z5 : w4.heap.size < w5.heap.size := by have h9 := hg4.size; simp at h9; omega
      have BG : ∀ b, b < w4.heap.size → (Value.slice r k d).ownBlock ≠ some b → w5.heap[b]? = w4.heap[b]? := fun b hb hn => (hg4.block b (by simp; omega) (fun e => hn e.symm)).trans (Below.heap_alloc w4 _ b hb)
      have hpush := HLA.out.push (F' := From w.heap.size w5.heap.size) (fun b h => h.2) HB2.out HOI.out (fun b h => h) BG (owns_mono ho4 (Nat.zero_le _)) (by
        rcases ht4 with h9 | h9
        · exact .inl h9
        · refine .inr (fun b e => ?_)
          rw [h9] at e
          simp at e
          omega) (by omega) (fun b h => ⟨h.1, by have := h.2; omega⟩) (fun b h => ⟨by have := h.1; omega, by have := h.2; omega⟩) (fun b h => ho4.lt b h)
      obtain ⟨G', HL'⟩ : ∃ G', Hid (Laid RInts w5 (From w.heap.size w5.heap.size) 23 r4 (k + 1) d4 ((ks.take (k + 1)).map bl) (cells ++ [.slice r3 m3 d3]) G' (k + 1)) := by
        rw [HTK.out]
        exact ⟨_, Hid.mk hpush⟩
      have HB' : Hid (Below w.heap.size w w5) := ((HB.out.trans (HB2.out.mono HB.out.size)).alloc (by omega) _).grown hg4 (by simp; omega) (fun j hj => (HW.out.lt j hj).1)
      clear hpush BG ho4 hg4 ht4 HLA HB HB2 HW HW4 HOI
      go_wp2
      go_roundw
      case rel => exact ⟨k + 1, r4, d4, _, G', by omega, by go_num, rfl, HL'.out, HB'.out⟩
      case measure => simp [intOf]; omega
    · obtain rfl : k = n := by omega
      rw [List.take_of_length_le (by omega)] at hlaid
      have hkk : ¬ (k : Int) < (k : Int) := by omega
      have HFIN : Hid (RPairs.Own wr (From w.heap.size wr.heap.size) [.slice r k d] (ks.map bl)) := ⟨_, _, _, cells, G, rfl, hlaid⟩
      clear hlaid
      go_wp2
      go_ret
      exact ⟨r, k, d, rfl, HFIN.out, hbw⟩

end Go.Proofs.YtpnaoahlfhbbmaaDoor

/- Contract of NormalParts. -/
namespace Go.Proofs.YtpnaoahlfhbbmaaDoor
open Go.RowKit

theorem oth_zero_allN : ∀ q : Nat, q < 7 → oth q 0 = 2 ^ q - 1 := by decide +kernel
theorem outm_lt {l : List Nat} (h : ∀ x ∈ l, x < 64) : ∀ x ∈ outm l, x < 64 := outT_lt (Nat.le_refl _) h
theorem outm_len (l : List Nat) : (outm l).length ≤ l.length := outT_len l l.length

set_option maxRecDepth 100000 in
set_option maxHeartbeats 8000000 in
theorem implNormalParts (a : Option Addr) (n c : Nat) (xs : List Dep) (C : Int) (w : World) (hz : xs.length = n) (hn : n ≤ 1048576) (ha : AtD w a xs) (ht : TabB w) :
    Calls Tryd.prog 14 #[.slice a n c, .int .i64 C] w fun e w' => KeysRet e w' w.heap.size (npB xs C) (npL xs C) ∧ Below w.heap.size w w' := by
  have HA := Hid.mk ha
  have HZ := Hid.mk hz
  have HT := Hid.mk ht
  clear ha hz ht
  go_enter Tryd.func14, Tryd.ntmps14
  go_wp2_with fail
  refine (implGoodDepends a n c xs C w HZ.out (by omega) HA.out).mono ?_
  rintro e w1 ⟨rfl, B1⟩
  cases hg1 : goodDeps xs C with
  | false =>
    have HN : Hid (npB xs C = false) := by show _ = _; unfold npB; rw [hg1]; rfl
    go_wp2
    exact bodyPost_ret (v := .tuple #[.slice none 0 0, .bool false]) (by simp [results, Tryd.results14, go_sem]) rfl ⟨keysRet_none _ _ HN.out (npL_no HN.out), B1⟩
  | true =>
    obtain ⟨hC1, hC6, hx10⟩ := goodDeps_C hg1
    obtain ⟨q, hq⟩ : ∃ q : Nat, C = (q : Int) := ⟨C.toNat, by omega⟩
    have hq6 : q ≤ 6 := by omega
    have h64 : 2 ^ q - 1 < 64 := by have := Nat.pow_le_pow_right (n := 2) (by omega) hq6; omega
    have HSS := Hid.mk (Cols.of hg1).sets
    have HDL : Hid ((dms xs).length = n) := by show _ = _; simp [dms]; exact HZ.out
    have HM : Hid (npM xs C = outm (nsets (dms xs) (2 ^ q - 1))) := by show _ = _; unfold npM; rw [show C.toNat = q by omega]
    have HNB : Hid (npB xs C = decide ((npM xs C).length ≤ 8)) := by show _ = _; unfold npB; rw [hg1]; rfl
    have HNL : Hid (npB xs C = true → npL xs C = (npM xs C).map bl) := fun h => by unfold npL; rw [h]; rfl
    have K0 : Hid (Calls Tryd.prog 37 #[.int .u64 0, .int .i64 C] w1 fun e w' => e = .returned (.int .u64 (2 ^ q - 1 : Nat)) ∧ w' = w1) := by
      have := others_any 0 q w1 (by omega) hq6
      rw [oth_zero_allN q (by omega)] at this
      show Calls _ _ _ _ _
      rw [hq]; exact this
    have K1 := Hid.mk (tellingsOf_any a n c xs w1 HZ.out hn (Cols.of hg1) (AtSl.below HA.out B1))
    have HLT := Hid.mk (nsets_lt (hasClo HSS.out) h64)
    have HLN := nsets_len (dms xs) (2 ^ q - 1)
    obtain ⟨P, hP⟩ : ∃ P, 2 ^ q - 1 = P := ⟨_, rfl⟩
    rw [hP] at h64 HM K0 HLT HLN
    obtain ⟨D, hD⟩ : ∃ D, dms xs = D := ⟨_, rfl⟩
    rw [hD] at HSS HDL HM K1 HLT HLN
    have HB1 := Hid.mk B1
    clear hq hP hD B1 hC1 hC6 hx10
    go_wp2_with fail
    refine K0.out.mono ?_
    rintro e w2 ⟨rfl, hw2⟩
    obtain rfl := hw2.symm
    clear hw2
    go_wp2_with fail
    refine K1.out.mono ?_
    rintro e w3 ⟨r3, d3, rfl, hat3, hb3⟩
    have HB3 := Hid.mk (HB1.out.trans (hb3.mono HB1.out.size))
    have HA3 := Hid.mk hat3
    clear hat3 hb3 K1 K0 HB1
    go_wp2_with fail
    refine (normalSets_any D HSS.out 6 P h64 (bl_len P) r3 n d3 w3 HDL.out (by omega) HA3.out (TabIs.below HT.out HB3.out)).mono ?_
    rintro e w4 ⟨g4, m4, d4, rfl, hm4, ho4, hb4⟩
    have HB4 := Hid.mk (HB3.out.trans (hb4.mono HB3.out.size))
    have hm64 : m4 ≤ 64 := by rw [← hm4]; exact HLN.1
    have K2 := Hid.mk (outermost_any w3.heap.size g4 m4 d4 (nsets D P) w4 hm4 hm64 HLT.out ho4)
    rw [← HM.out] at K2
    have hl5 : (npM xs C).length ≤ m4 := by rw [HM.out, ← hm4]; exact outm_len _
    have HLT5 : Hid (∀ x ∈ npM xs C, x < 64) := by rw [HM.out]; exact outm_lt HLT.out
    clear hm4 ho4 hb4 HLN HLT HB3
    go_wp2_with fail
    refine K2.out.mono ?_
    rintro e w5 ⟨r5, m5, d5, rfl, hm5, ho5, hb5⟩
    have HB5 := Hid.mk (HB4.out.trans (hb5.mono HB4.out.size))
    rw [hm5] at hl5
    by_cases h8 : 8 < m5
    · have h8' : (8 : Int) < (m5 : Int) := by omega
      have HN : Hid (npB xs C = false) := by show _ = _; rw [HNB.out, decide_eq_false (by omega)]
      clear ho5 hb5 hm5
      go_wp2
      exact bodyPost_ret (v := .tuple #[.slice none 0 0, .bool false]) (by simp [results, Tryd.results14, go_sem]) rfl ⟨keysRet_none _ _ HN.out (npL_no HN.out), HB5.out⟩
    · have h8' : ¬ (8 : Int) < (m5 : Int) := by omega
      have HY : Hid (npB xs C = true) := by show _ = _; rw [HNB.out, decide_eq_true (by omega)]
      have K3 := Hid.mk (listsU_any w4.heap.size r5 m5 d5 (npM xs C) w5 hm5 (by omega) HLT5.out ho5 (TabIs.below HT.out HB5.out))
      clear ho5 hb5 hm5
      go_wp2_with fail
      refine K3.out.mono ?_
      rintro e w6 ⟨r6, m6, d6, rfl, ho6, hb6⟩
      have HR : Hid (KeysRet (.returned (.tuple #[.slice r6 m6 d6, .bool true])) w6 w.heap.size (npB xs C) (npL xs C)) := by
        rw [HNL.out HY.out, HY.out]
        exact ⟨r6, m6, d6, rfl, RPairs.mono ho6 (fun b hb => ⟨by have := hb.1; have := HB5.out.size; omega, hb.2⟩)⟩
      have HB6 := Hid.mk (HB5.out.trans (hb6.mono HB5.out.size))
      clear ho6 hb6 K3
      go_wp2
      exact bodyPost_ret (v := .tuple #[.slice r6 m6 d6, .bool true]) (by simp [results, Tryd.results14, go_sem]) rfl ⟨HR.out, HB6.out⟩

end Go.Proofs.YtpnaoahlfhbbmaaDoor
