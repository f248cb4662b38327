/- Several texts of one proof, in build order: ErD, ErV, ErW, ErX. -/
import Derived.Test.YteggbamjfhbmfaaM9
import Derived.Test.YteggbamjfhbmfaaM13

/- slices.Delete of one number of a list that the call owns. -/
namespace Go.Proofs.Yteggbamjfhbmfaa
open Go.RowKit Go.Sort Go.Lib

theorem deleteI_own (B : Nat) (a : Option Addr) (n c i : Nat) (zs : List Int) (w : World) (hz : zs.length = n) (hn : n ≤ 1048576) (hi : i < n) (ho : w.ownsRow B 3 1 (.slice a n c) n (zs.map (.int .i64))) :
    Calls Try.prog 78 #[.slice a n c, .int .i64 (i : Nat), .int .i64 ((i + 1 : Nat) : Int)] w fun e w' => e = .returned (.slice a (n - 1) c) ∧ w'.ownsRow B 3 1 (.slice a (n - 1) c) (n - 1) ((zs.eraseIdx i).map (.int .i64)) ∧ w.grownBy w' (Value.slice a n c).ownBlock := by
  rcases ho.2 with ⟨_, h⟩ | ⟨g, cap, cur, hv, hb, hg, hc1, hc2, hc3, hc4⟩
  · omega
  · simp only [Value.slice.injEq, true_and] at hv
    obtain ⟨rfl, rfl⟩ := hv
    have hcur : cur.toList.take zs.length = zs.map (.int .i64) := by rw [hz]; simpa using hc4
    have hH := holds_of_blockI hg hcur
    have h9 := Try.slices_Delete_int g 0 c i (i + 1) zs w hH (by omega) (by unfold maxLen at hc2; omega) (by omega) (by omega)
    rw [hz] at h9
    refine h9.mono ?_
    rintro e w' ⟨rfl, q, rfl⟩
    rw [show i + 1 - i = 1 by omega]
    have hee : zs.take i ++ zs.drop (i + 1) = zs.eraseIdx i := (List.eraseIdx_eq_take_drop_succ zs i).symm
    rw [hee]
    obtain ⟨ts, hts⟩ : ∃ ts, ts = zs.eraseIdx i ++ List.replicate 1 (0 : Int) := ⟨_, rfl⟩
    have hel : (zs.eraseIdx i).length = n - 1 := by rw [List.length_eraseIdx, if_pos (by omega)]; omega
    have hl : ts.length = zs.length := by rw [hts, List.length_append, List.length_replicate, hz, hel]; omega
    rw [← hts]
    have ho2 := ownsRow_sortedI (n := q) (os := #[]) (ss := zs) hl hb hg (by omega) hc2 hc3
    have hg2 : w.grownBy (grow (putRow (Value.int .i64) (Sort.ahead w q) g 0 ts.toArray) #[]) (some g) := grownBy_sortedI _
    rw [hz] at ho2
    rw [grow_empty] at ho2 hg2
    have ho3 := owns_take ho2 (show n - 1 ≤ n by omega)
    have ht : (ts.map (Value.int .i64)).take ((n - 1) * 1) = (zs.eraseIdx i).map (.int .i64) := by
      rw [Nat.mul_one, ← List.map_take, hts, List.take_left' hel]
    rw [ht] at ho3
    exact ⟨rfl, ho3, hg2⟩

theorem erase_woI : ∀ {L : List Int}, L.Nodup → ∀ {i : Nat} {k : Int}, L[i]? = some k → L.eraseIdx i = woI L k
  | [], _, i, k, h => by simp at h
  | y :: L, hn, 0, k, h => by
    simp at h
    subst h
    rw [List.nodup_cons] at hn
    have : woI (y :: L) y = L := by
      unfold woI
      rw [List.filter_cons_of_neg (by simp), List.filter_eq_self.2]
      intro a ha
      exact decide_eq_true (fun e => hn.1 (e ▸ ha))
    rw [this]; rfl
  | y :: L, hn, i + 1, k, h => by
    rw [List.nodup_cons] at hn
    have h2 : L[i]? = some k := by simpa using h
    have e : y ≠ k := fun e => hn.1 (e ▸ List.mem_of_getElem? h2)
    have h3 := erase_woI hn.2 h2
    have h4 : woI (y :: L) k = y :: woI L k := by unfold woI; rw [List.filter_cons_of_pos (by simpa using e)]
    rw [List.eraseIdx_cons_succ, h3, h4]

end Go.Proofs.Yteggbamjfhbmfaa

/- Contracts of spec.l11Ears, spec.EarsOf. -/
namespace Go.Proofs.Yteggbamjfhbmfaa
open Go.RowKit

def lenV : Value → Nat
  | .slice _ n _ => n
  | _ => 0

set_option maxRecDepth 100000 in
set_option maxHeartbeats 8000000 in
theorem l11Ears_any (ha : Option Addr) (hn hc : Nat) (a : Option Addr) (n c : Nat) (zs : List Atm) (w : World) (hz : zs.length = n) (h1 : 1 ≤ n) (h5 : n ≤ 5) (haz : AtQ w a zs) (hok : ∀ x ∈ zs, aOk x = true) :
    Calls Try.prog 39 #[.agg #[.slice ha hn hc, .slice a n c]] w fun e w' => ∃ r m d, e = .returned (.tuple #[.slice r m d, .bool (earsF (edges zs) n (upN n)).2]) ∧ (earsF (edges zs) n (upN n)).1.length = m ∧ w'.ownsRow w.heap.size 71 2 (.slice r m d) m (flatE (earsF (edges zs) n (upN n)).1) ∧ Below w.heap.size w w' := by
  obtain ⟨i0, hi, hz0, hz1, hz2⟩ := info_parts Try.infoEar
  obtain ⟨j0, hj0, hy0, hy1, hy2⟩ := info_parts Try.infoInt
  obtain ⟨W, hW⟩ : ∃ W, W = w.alloc (.cells #[.slice ha hn hc, .slice a n c] 32) := ⟨_, rfl⟩
  have B0 : Below w.heap.size w W := by rw [hW]; exact (Below.refl _ _).alloc (Nat.le_refl _) _
  have q0 : W.cell? ⟨w.heap.size, 0, none⟩ = some (.slice ha hn hc) := by rw [hW]; exact pair0 w _ _ _
  have q1 : W.cell? ⟨w.heap.size, 1, none⟩ = some (.slice a n c) := by rw [hW]; exact pair1 w _ _ _
  have HZ := Hid.mk hz
  have HA := Hid.mk (AtSl.below haz B0)
  have HOK := Hid.mk hok
  have HUA := Hid.mk (upN_atoms (E := edges zs) (n := n) (by rw [edges_len]; exact hz))
  obtain ⟨E, hE⟩ : ∃ E, edges zs = E := ⟨_, rfl⟩
  have HE := Hid.mk hE
  rw [hE] at HUA
  rw [hE]
  clear hz haz hok hE
  go_enter Try.func39, Try.ntmps39
  go_upto_region 1 with fail
  rw [← hW]
  clear hW
  go_wp2_with fail
  go_loopw [5, 12] (fun p i wr => ∃ (k : Nat) (r : Option Addr) (d : Nat), k ≤ n ∧ i = .int .i64 k ∧ p = .slice r k d ∧ wr.ownsRow W.heap.size 3 1 (.slice r k d) k ((upN k).map (.int .i64)) ∧ Below W.heap.size W wr) (fun _ i _ => n - (intOf i).toNat)
  case atStart => exact ⟨0, none, 0, Nat.zero_le _, rfl, rfl, World.ownsRow_nil _ _ _ _, Below.refl _ _⟩
  case round =>
    obtain ⟨k, r, d, hk, rfl, rfl, ho, hbw⟩ := hrel
    obtain ⟨wY, rfl⟩ : ∃ x, x = wr := ⟨_, rfl⟩
    have zW := B0.size
    have zw := hbw.size
    by_cases hlt : k < n
    · have hki : (k : Int) < (n : Int) := by omega
      have HO := Hid.mk ho
      have HB := Hid.mk hbw
      clear ho hbw
      go_wp2_with (at_builtin; refine wpList_app_vals rfl (.tmp 15) (.tmp 17) 22 rfl W.heap.size 3 j0 (.int .i64 0) 1 8 Try.underlying22 hj0 hy0 hy1 hy2 rfl (by decide) (.slice r k d) k ((upN k).map (.int .i64)) rfl (HO.out.alloc _) (some ⟨wY.heap.size, 0, none⟩) 1 1 [.int .i64 (k : Nat)] rfl rfl (fun ad he => by cases he; simpa using news_at wY #[.int .i64 (k : Nat)] 3) (by simp; rfl) (fun h => by cases h) (by unfold maxLen; omega) (by omega) (by simp; omega) ?_)
      intro r5 d5 w5 ho5 hg5 ht5
      have HB5 : Hid (Below W.heap.size W w5) := (HB.out.alloc zw _).grown hg5 (by simp; omega) (fun j hj => (HO.out.lt j hj).1)
      have HO5 : Hid (w5.ownsRow W.heap.size 3 1 (.slice r5 (k + 1) d5) (k + 1) ((upN (k + 1)).map (.int .i64))) := by
        show World.ownsRow _ _ _ _ _ _ _
        rw [upN_succ, List.map_append]; exact ho5
      clear ho5 hg5 ht5 HO HB
      go_wp2
      go_roundw
      case rel => exact ⟨k + 1, r5, d5, by omega, by go_num, rfl, HO5.out, HB5.out⟩
      case measure => simp [intOf]; omega
    · obtain rfl : k = n := by omega
      have hki : ¬ (k : Int) < (k : Int) := by omega
      have HO := Hid.mk ho
      have HB := Hid.mk hbw
      clear ho hbw
      go_wp2_with fail
      go_loopw [4, 5] (fun p s wx => ∃ (m lm : Nat) (r : Option Addr) (d : Nat) (lr : Option Addr) (ld : Nat) (ears : List (Int × Int)) (L : List Int), p = .slice r m d ∧ s = .slice lr lm ld ∧ earsF E k (upN k) = (ears ++ (earsF E lm L).1, (earsF E lm L).2) ∧ L.length = lm ∧ 1 ≤ lm ∧ ears.length = m ∧ m + lm = k ∧ Atoms E L ∧ L.Nodup ∧ wx.ownsRow W.heap.size 3 1 (.slice lr lm ld) lm (L.map (.int .i64)) ∧ wx.ownsRow W.heap.size 71 2 (.slice r m d) m (flatE ears) ∧ (∀ b, (Value.slice r m d).ownBlock = some b → (Value.slice lr lm ld).ownBlock ≠ some b) ∧ Below W.heap.size W wx) (fun _ s _ => lenV s)
      case atStart => exact ⟨0, k, none, 0, r, d, [], upN k, rfl, rfl, rfl, upN_len k, h1, rfl, by omega, HUA.out, upN_nodup k, HO.out, World.ownsRow_nil _ _ _ _, (fun b h => by cases h), HB.out⟩
      case round =>
        clear HO HB zw
        obtain ⟨m, lm, r, d, lr, ld, ears, L, rfl, rfl, hef, hlz, hl1, hml, hmk, hLA, hND, hoL, hoE, hdis, hbw⟩ := hrel
        obtain ⟨wX, rfl⟩ : ∃ x, x = wr := ⟨_, rfl⟩
        have q0' := cell_later hbw q0
        have q1' := cell_later hbw q1
        have zX := hbw.size
        have BY := B0.trans (hbw.mono B0.size)
        by_cases hbig : 1 < lm
        · obtain ⟨g, rfl⟩ : ∃ g, lm = g + 1 := ⟨lm - 1, by omega⟩
          have hbi : (1 : Int) < ((g + 1 : Nat) : Int) := by omega
          have hAE := HE.out
          have K := Hid.mk (l11Ear_any ha hn hc a k c zs lr (g + 1) ld L wX HZ.out (by omega) (AtSl.below HA.out hbw) HOK.out hlz (by omega) (At.owned hoL) (by rw [hAE]; exact hLA))
          rw [hAE] at K
          have hnl : ¬ L.length ≤ 1 := by omega
          cases heo : earO E L with
          | none =>
            rw [heo] at K
            rw [earsF_none hnl heo] at hef
            have HEF := Hid.mk hef
            have HOE := Hid.mk hoE
            have HML := Hid.mk hml
            clear hef hlz hml hLA hND hoL hoE hdis heo hbw hAE
            go_wp2_with fail
            refine K.out.mono ?_
            rintro e w3 ⟨rfl, hb3⟩
            have BB := BY.trans (hb3.mono BY.size)
            have HO3 := Hid.mk (owns_below HOE.out hb3)
            clear K
            go_wp2
            refine bodyPost_ret (v := .tuple #[.slice r m d, .bool false]) (by simp [results, Try.results39, go_sem]) rfl ⟨r, m, d, ?_, ?_, ?_, ?_⟩
            · rw [HEF.out]
            · rw [HEF.out, List.append_nil]; exact HML.out
            · rw [HEF.out, List.append_nil]; exact (owns_mono HO3.out B0.size).alloc _
            · exact BB.alloc BB.size _
          | some ku =>
            rw [heo] at K
            rw [earsF_some hnl heo] at hef
            have hmem := earO_mem heo
            have hwl := woI_lenN hND hmem
            have hwn := woI_nodup hND ku.1
            have hwa := woI_atoms hLA ku.1
            obtain ⟨kk, uu⟩ := ku
            simp only at hef hmem hwl hwn hwa
            have HEF : Hid (earsF E k (upN k) = ((ears ++ [(kk, uu)]) ++ (earsF E g (woI L kk)).1, (earsF E g (woI L kk)).2)) := by show _ = _; rw [hef, List.append_assoc]; rfl
            have HWL := Hid.mk hwl
            have HWN := Hid.mk hwn
            have HWA := Hid.mk hwa
            have HOE := Hid.mk hoE
            have HOL := Hid.mk hoL
            have HDI := Hid.mk hdis
            have HML := Hid.mk hml
            have HLZ := Hid.mk hlz
            have HB := Hid.mk hbw
            clear hef hlz hml hLA hND hoL hoE hdis heo hbw hAE hmem hwl hwn hwa
            go_wp2_with fail
            refine K.out.mono ?_
            rintro e w3 ⟨rfl, hb3⟩
            have HB3 := Hid.mk (HB.out.trans (hb3.mono HB.out.size))
            have z3 := hb3.size
            obtain ⟨U, hU⟩ : ∃ U, U = w3.alloc (.cells #[.int .i64 kk, .int .i64 uu] 71) := ⟨_, rfl⟩
            have BU : Below w3.heap.size w3 U := by rw [hU]; exact (Below.refl _ _).alloc (Nat.le_refl _) _
            have p0 : U.cell? ⟨w3.heap.size, 0, none⟩ = some (.int .i64 kk) := by rw [hU]; exact pair0 w3 _ _ _
            have p1 : U.cell? ⟨w3.heap.size, 1, none⟩ = some (.int .i64 uu) := by rw [hU]; exact pair1 w3 _ _ _
            have zU : w3.heap.size < U.heap.size := by rw [hU]; simp
            have HOE3 := Hid.mk (owns_below (owns_below HOE.out hb3) BU)
            have HOL3 := Hid.mk (owns_below (owns_below HOL.out hb3) BU)
            have HBU := Hid.mk (HB3.out.trans (BU.mono HB3.out.size))
            have HLT : Hid (∀ b, (Value.slice r m d).ownBlock = some b → b < w3.heap.size) := fun b h => by have := (HOE.out.lt b h).2; omega
            clear hb3 K HB HB3 HOE HOL BU
            go_upto_region 10 with fail
            rw [show (earZ (some (kk, uu))).1 = kk from rfl, show (earZ (some (kk, uu))).2 = uu from rfl, ← hU]
            clear hU
            go_wp2_with (at_builtin; refine wpList_app_vals rfl (.tmp 32) (.tmp 34) 27 rfl W.heap.size 71 i0 (.agg #[.int .i64 0, .int .i64 0]) 2 16 Try.underlying27 hi hz0 hz1 hz2 rfl (by decide) (.slice r m d) m (flatE ears) rfl (HOE3.out.alloc _) (some ⟨U.heap.size, 0, none⟩) 1 1 [.int .i64 kk, .int .i64 uu] rfl rfl (fun ad he => by cases he; simpa using news_at U #[.int .i64 kk, .int .i64 uu] 71) (by intro u hu; simp at hu; rcases hu with rfl | rfl <;> rfl) (fun h => by cases h) (by unfold maxLen; omega) (by omega) (by simp; omega) ?_)
            intro r5 d5 w5 ho5 hg5 ht5
            have c5 : w5.cell? ⟨w3.heap.size, 0, none⟩ = some (.int .i64 kk) := (World.cell?_of_block ((hg5.block w3.heap.size (by simp; omega) (fun e => by have := HLT.out _ e.symm; omega)).trans (Below.heap_alloc U _ w3.heap.size zU))).trans p0
            have HB5 : Hid (Below W.heap.size W w5) := (HBU.out.alloc HBU.out.size _).grown hg5 (by have := HBU.out.size; simp; omega) (fun j hj => (HOE3.out.lt j hj).1)
            have HOL5 : Hid (w5.ownsRow W.heap.size 3 1 (.slice lr (g + 1) ld) (g + 1) (L.map (.int .i64))) := (HOL3.out.alloc _).kept hg5 (by
              cases hv : (Value.slice lr (g + 1) ld).ownBlock with
              | none => exact .inl rfl
              | some b => exact .inr (fun e => HDI.out b e.symm hv))
            have HO5 : Hid (w5.ownsRow W.heap.size 71 2 (.slice r5 (m + 1) d5) (m + 1) (flatE (ears ++ [(kk, uu)]))) := by
              show World.ownsRow _ _ _ _ _ _ _
              rw [flatE_snoc]; exact ho5
            have K2 := Hid.mk (l11Without_any lr (g + 1) ld L kk w5 HLZ.out (by omega) (At.owned HOL5.out))
            have z5 := HB5.out.size
            clear ho5 hg5 ht5 HOE3 HOL3 HBU HDI HLT p0 p1
            go_wp2_with fail
            refine K2.out.mono ?_
            rintro e w6 ⟨r6, m6, d6, rfl, hm6, ho6, hb6⟩
            obtain rfl : m6 = g := by have h8 := HWL.out; have h7 := HLZ.out; omega
            have HM6 := Hid.mk hm6
            have HO6 := Hid.mk (owns_mono ho6 z5)
            have HE6 := Hid.mk (owns_below HO5.out hb6)
            have HB6 := Hid.mk (HB5.out.trans (hb6.mono z5))
            have HD6 : Hid (∀ b, (Value.slice r5 (m + 1) d5).ownBlock = some b → (Value.slice r6 m6 d6).ownBlock ≠ some b) := fun b h h2 => by
              have x1 := (HO5.out.lt b h).2
              have x2 := (ho6.lt b h2).1
              omega
            have HML2 : Hid ((ears ++ [(kk, uu)]).length = m + 1) := by show _ = _; rw [List.length_append, HML.out]; rfl
            clear hm6 ho6 hb6 K2 HO5 HB5 HOL5 c5
            go_wp2
            go_roundw
            case rel => exact ⟨m + 1, m6, r5, d5, r6, d6, _, _, rfl, rfl, HEF.out, HM6.out, by omega, HML2.out, by omega, HWA.out, HWN.out, HO6.out, HE6.out, HD6.out, HB6.out⟩
            case measure => simp [lenV]
        · obtain rfl : lm = 1 := by omega
          have h9 : earsF E 1 L = ([(L.getD 0 0, -1)], true) := earsF_end (f := 0) (by omega)
          rw [h9] at hef
          clear h9
          obtain ⟨b, off, rfl, _, hc2⟩ := (At.owned hoL).some (by omega)
          have hcx := hc2 0 (by omega)
          rw [Nat.add_zero] at hcx
          obtain ⟨x, hx⟩ : ∃ x, L.getD 0 0 = x := ⟨_, rfl⟩
          rw [hx] at hcx hef
          have HEF := Hid.mk hef
          have HOE := Hid.mk hoE
          have HML := Hid.mk hml
          have hm5 : m ≤ 5 := by omega
          clear hef hlz hml hLA hND hoL hoE hdis hc2 hx hmk
          go_wp2_with (at_builtin; refine wpList_app_vals rfl (.tmp 40) (.tmp 45) 27 rfl W.heap.size 71 i0 (.agg #[.int .i64 0, .int .i64 0]) 2 16 Try.underlying27 hi hz0 hz1 hz2 rfl (by decide) (.slice r m d) m (flatE ears) rfl (HOE.out.alloc _) (some ⟨wX.heap.size, 0, none⟩) 1 1 [.int .i64 x, .int .i64 (-1)] rfl rfl (fun ad he => by cases he; simpa using news_at wX #[.int .i64 x, .int .i64 (-1)] 71) (by intro u hu; simp at hu; rcases hu with rfl | rfl <;> rfl) (fun h => by cases h) (by unfold maxLen; omega) (by omega) (by simp; omega) ?_)
          intro r5 d5 w5 ho5 hg5 ht5
          have HB5 : Hid (Below w.heap.size w w5) := (BY.alloc BY.size _).grown hg5 (by have := BY.size; simp; omega) (fun j hj => by have := (HOE.out.lt j hj).1; omega)
          have HO5 := Hid.mk ho5
          clear ho5 hg5 ht5
          go_wp2
          refine bodyPost_ret (v := .tuple #[.slice r5 (m + 1) d5, .bool true]) (by simp [results, Try.results39, go_sem]) rfl ⟨r5, m + 1, d5, ?_, ?_, ?_, HB5.out⟩
          · rw [HEF.out]
          · rw [HEF.out, List.length_append, HML.out]; rfl
          · rw [HEF.out, flatE_snoc]; exact owns_mono HO5.out zW

end Go.Proofs.Yteggbamjfhbmfaa

/- Contract of impl.takenEars. -/
namespace Go.Proofs.Yteggbamjfhbmfaa
open Go.RowKit

theorem idx_ear {E : List (List Int)} {L : List Int} : (idxL (fun k => decide (upI E L k ≠ -1)) L = -1 ∧ earO E L = none) ∨ ∃ (i : Nat) (k : Int), idxL (fun k => decide (upI E L k ≠ -1)) L = (i : Int) ∧ i < L.length ∧ L[i]? = some k ∧ earO E L = some (k, upI E L k) := by
  unfold idxL earO
  cases h : L.findIdx? (fun k => decide (upI E L k ≠ -1)) with
  | none =>
    left
    refine ⟨rfl, ?_⟩
    rw [List.find?_eq_none.2 (fun x hx => by have := List.findIdx?_eq_none_iff.1 h x hx; rw [this]; simp)]
    rfl
  | some i =>
    right
    obtain ⟨hi, hp, hb⟩ := List.findIdx?_eq_some_iff_getElem.1 h
    refine ⟨i, L[i], rfl, hi, List.getElem?_eq_getElem hi, ?_⟩
    have : L.find? (fun k => decide (upI E L k ≠ -1)) = some L[i] := List.find?_eq_some_iff_getElem.2 ⟨hp, i, hi, rfl, fun j hj => by
      have := hb j hj
      simpa using this⟩
    rw [this]
    rfl

set_option maxRecDepth 100000 in
set_option maxHeartbeats 8000000 in
theorem takenEars_any (ea : Option Addr) (en ec : Nat) (E : List (List Int)) (w : World) (hez : E.length = en) (h1 : 1 ≤ en) (h5 : en ≤ 5) (hea : AtSl RInts w ea E) :
    Calls Try.prog 42 #[.slice ea en ec] w fun e w' => ∃ r m d, e = .returned (.tuple #[.slice r m d, .bool (earsF E en (upN en)).2]) ∧ (earsF E en (upN en)).1.length = m ∧ w'.ownsRow w.heap.size 71 2 (.slice r m d) m (flatE (earsF E en (upN en)).1) ∧ Below w.heap.size w w' := by
  obtain ⟨i0, hi, hz0, hz1, hz2⟩ := info_parts Try.infoEar
  have HEZ := Hid.mk hez
  have HEA := Hid.mk hea
  have HUA := Hid.mk (upN_atoms hez)
  clear hez hea
  have K := Hid.mk (firstNumbers_any en w (by omega))
  go_enter Try.func42, Try.ntmps42
  go_wp2_with fail
  refine K.out.mono ?_
  rintro e w1 ⟨r1, d1, rfl, ho1, hb1⟩
  clear K
  obtain ⟨W, hW⟩ : ∃ W, W = w1.alloc (.cells #[.slice ea en ec, .slice r1 en d1] 103) := ⟨_, rfl⟩
  obtain ⟨X, hX⟩ : ∃ X, X = w1.heap.size := ⟨_, rfl⟩
  have BW : Below w1.heap.size w1 W := by rw [hW]; exact (Below.refl _ _).alloc (Nat.le_refl _) _
  have x1 : W.heap[X]? = some (.cells #[.slice ea en ec, .slice r1 en d1] 103 (0, 0)) := by rw [hW, hX]; exact heap_alloc_new _ _
  have zX : X < W.heap.size := by rw [hW, hX]; simp
  have zw : w.heap.size ≤ X := by rw [hX]; exact hb1.size
  have HO := Hid.mk (owns_below ho1 BW)
  have HLB : Hid (∀ b, (Value.slice r1 en d1).ownBlock = some b → b < X) := fun b h => by rw [hX]; exact (ho1.lt b h).2
  have HB := Hid.mk (hb1.trans (BW.mono hb1.size))
  clear ho1 hb1 BW
  go_upto_region 2 with fail
  rw [← hW, ← hX]
  clear hW hX
  go_wp2_with fail
  go_loopw [5] (fun p wx => ∃ (m lm : Nat) (r : Option Addr) (d : Nat) (lr : Option Addr) (ld : Nat) (ears : List (Int × Int)) (L : List Int), p = .slice r m d ∧ wx.heap[X]? = some (.cells #[.slice ea en ec, .slice lr lm ld] 103 (0, 0)) ∧ earsF E en (upN en) = (ears ++ (earsF E lm L).1, (earsF E lm L).2) ∧ L.length = lm ∧ 1 ≤ lm ∧ ears.length = m ∧ m + lm = en ∧ Atoms E L ∧ L.Nodup ∧ wx.ownsRow w.heap.size 3 1 (.slice lr lm ld) lm (L.map (.int .i64)) ∧ (∀ b, (Value.slice lr lm ld).ownBlock = some b → b < X) ∧ wx.ownsRow W.heap.size 71 2 (.slice r m d) m (flatE ears) ∧ W.heap.size ≤ wx.heap.size ∧ Below w.heap.size w wx) (fun p _ => en - lenV p)
  case atStart => exact ⟨0, en, none, 0, r1, d1, [], upN en, rfl, x1, rfl, upN_len en, h1, rfl, by omega, HUA.out, upN_nodup en, HO.out, HLB.out, World.ownsRow_nil _ _ _ _, Nat.le_refl _, HB.out⟩
  case round =>
    clear HO HB HLB x1
    obtain ⟨m, lm, r, d, lr, ld, ears, L, rfl, xX, hef, hlz, hl1, hml, hmk, hLA, hND, hoL, hlb, hoE, zW, hbw⟩ := hrel
    obtain ⟨wX, rfl⟩ : ∃ x, x = wr := ⟨_, rfl⟩
    have c0 := blk_cell xX 0 (v := .slice ea en ec) rfl
    have c1 := blk_cell xX 1 (v := .slice lr lm ld) rfl
    have hm5 : m ≤ 5 := by omega
    have hlm5 : lm ≤ 5 := by omega
    by_cases hbig : 1 < lm
    · have hbi : (1 : Int) < (lm : Int) := by omega
      have hnl : ¬ L.length ≤ 1 := by omega
      have K := Hid.mk (indexEar_any ea en ec E lr lm ld L wX HEZ.out (by omega) (AtSl.below HEA.out hbw) hlz (by omega) (At.owned hoL) hLA)
      rcases idx_ear (E := E) (L := L) with ⟨hix, heo⟩ | ⟨i, k, hix, hil, hik, heo⟩
      · rw [hix] at K
        obtain ⟨g, rfl⟩ : ∃ g, lm = g + 1 := ⟨lm - 1, by omega⟩
        rw [earsF_none hnl heo] at hef
        have HEF := Hid.mk hef
        have HOE := Hid.mk hoE
        have HML := Hid.mk hml
        clear hef hlz hml hLA hND hoL hlb hoE heo hix hmk xX
        go_wp2_with fail
        refine K.out.mono ?_
        rintro e w3 ⟨rfl, hb3⟩
        have BB := hbw.trans (hb3.mono hbw.size)
        have HO3 := Hid.mk (owns_below HOE.out hb3)
        clear K
        go_wp2
        refine bodyPost_ret (v := .tuple #[.slice r m d, .bool false]) (by simp [results, Try.results42, go_sem]) rfl ⟨r, m, d, ?_, ?_, ?_, BB⟩
        · rw [HEF.out]
        · rw [HEF.out, List.append_nil]; exact HML.out
        · rw [HEF.out, List.append_nil]; exact owns_mono HO3.out (by omega)
      · rw [hix] at K
        obtain ⟨g, rfl⟩ : ∃ g, lm = g + 1 := ⟨lm - 1, by omega⟩
        rw [earsF_some hnl heo] at hef
        have hmem := earO_mem heo
        have hwl := woI_lenN hND hmem
        have hwn := woI_nodup hND k
        have hwa := woI_atoms hLA k
        have hker := hLA k (List.mem_of_getElem? hik)
        have her := erase_woI hND hik
        simp only at hef hmem hwl
        obtain ⟨u, hu⟩ : ∃ u, upI E L k = u := ⟨_, rfl⟩
        have K2 : Hid (∀ w', Below wX.heap.size wX w' → Calls Try.prog 77 #[.agg #[.slice ea en ec, .slice lr (g + 1) ld], .int .i64 k] w' fun e w'' => e = .returned (.int .i64 u) ∧ Below w'.heap.size w' w'') := fun w' hb => by
          have h9 := upOf_any ea en ec E lr (g + 1) ld L k w' HEZ.out (by omega) (AtSl.below HEA.out (hbw.trans (hb.mono hbw.size))) hlz (by omega) (At.below (At.owned hoL) hb) hLA hker.1 (by have := HEZ.out; omega)
          rw [hu] at h9
          exact h9
        rw [hu] at hef
        have HEF : Hid (earsF E en (upN en) = ((ears ++ [(k, u)]) ++ (earsF E g (woI L k)).1, (earsF E g (woI L k)).2)) := by show _ = _; rw [hef, List.append_assoc]; rfl
        obtain ⟨b, off, hlr, _, hc2⟩ := (At.owned hoL).some (by omega)
        have hcx := hc2 i (by omega)
        have hgk : L.getD i 0 = k := by simp [List.getD, hik]
        rw [hgk] at hcx
        have hii : (i : Int) < ((g + 1 : Nat) : Int) := by omega
        have hni : ¬ (i : Int) < 0 := by omega
        have HWL : Hid ((woI L k).length = g) := by show _ = _; omega
        have HWN := Hid.mk hwn
        have HWA := Hid.mk hwa
        have HOE := Hid.mk hoE
        have HOL := Hid.mk hoL
        have HLB := Hid.mk hlb
        have HML := Hid.mk hml
        have HLZ := Hid.mk hlz
        have HER := Hid.mk her
        have HX := Hid.mk xX
        have hig : i < g + 1 := by omega
        have HMK := Hid.mk hmk
        subst hlr
        clear hef hlz hml hLA hND hoL hoE hlb heo hix hmem hwl hwn hwa hker her hu hc2 hgk xX hik hil hmk
        go_wp2_with fail
        refine K.out.mono ?_
        rintro e w2 ⟨rfl, hb2⟩
        have c0 := cell_later hb2 c0
        have c1 := cell_later hb2 c1
        have hcx := cell_later hb2 hcx
        have K3 := Hid.mk (K2.out w2 hb2)
        clear K K2
        go_wp2_with fail
        refine K3.out.mono ?_
        rintro e w3 ⟨rfl, hb3⟩
        have hb23 := hb2.trans (hb3.mono hb2.size)
        have HB3 := Hid.mk (hbw.trans (hb23.mono hbw.size))
        have HX3 := Hid.mk (blk_below HX.out hb23)
        have HOE3 := Hid.mk (owns_below HOE.out hb23)
        have HOL3 := Hid.mk (owns_below HOL.out hb23)
        have z3 := hb23.size
        clear hb2 hb3 hb23 K3 HX HOE HOL c0 c1 hcx
        go_wp2_with (at_builtin; refine wpList_app_vals rfl (.tmp 30) (.tmp 36) 27 rfl W.heap.size 71 i0 (.agg #[.int .i64 0, .int .i64 0]) 2 16 Try.underlying27 hi hz0 hz1 hz2 rfl (by decide) (.slice r m d) m (flatE ears) rfl (HOE3.out.alloc _) (some ⟨w3.heap.size, 0, none⟩) 1 1 [.int .i64 k, .int .i64 u] rfl rfl (fun ad he => by cases he; simpa using news_at w3 #[.int .i64 k, .int .i64 u] 71) (by intro u hu; simp at hu; rcases hu with rfl | rfl <;> rfl) (fun h => by cases h) (by unfold maxLen; omega) (by omega) (by simp; omega) ?_)
        intro r5 d5 w5 ho5 hg5 ht5
        have HX5 : Hid (w5.heap[X]? = some (.cells #[.slice ea en ec, .slice (some ⟨b, off, none⟩) (g + 1) ld] 103 (0, 0))) := (hg5.block X (by simp; omega) (fun e => by have := (HOE3.out.lt X e.symm).1; omega)).trans (blk_alloc HX3.out _)
        have HOL5 : Hid (w5.ownsRow w.heap.size 3 1 (.slice (some ⟨b, off, none⟩) (g + 1) ld) (g + 1) (L.map (.int .i64))) := (HOL3.out.alloc _).kept hg5 (.inr (fun e => by
          have h8 := (HOE3.out.lt b (by rw [← e]; rfl)).1
          have h7 := HLB.out b rfl
          omega))
        have HB5 : Hid (Below w.heap.size w w5) := (HB3.out.alloc HB3.out.size _).grown hg5 (by have := HB3.out.size; simp; omega) (fun j hj => by have := (HOE3.out.lt j hj).1; omega)
        have HO5 : Hid (w5.ownsRow W.heap.size 71 2 (.slice r5 (m + 1) d5) (m + 1) (flatE (ears ++ [(k, u)]))) := by
          show World.ownsRow _ _ _ _ _ _ _
          rw [flatE_snoc]; exact ho5
        have z5 : W.heap.size ≤ w5.heap.size := by have := hg5.size; simp at this; omega
        have K4 := Hid.mk (deleteI_own w.heap.size (some ⟨b, off, none⟩) (g + 1) ld i L w5 HLZ.out (by omega) hig HOL5.out)
        rw [show ((i + 1 : Nat) : Int) = (i : Int) + 1 by omega, show g + 1 - 1 = g by omega] at K4
        have c0 := blk_cell HX5.out 0 (v := .slice ea en ec) rfl
        have c1 := blk_cell HX5.out 1 (v := .slice (some ⟨b, off, none⟩) (g + 1) ld) rfl
        clear ho5 hg5 ht5 HX3 HOE3 HOL3
        go_wp2_with fail
        refine K4.out.mono ?_
        rintro e w6 ⟨rfl, ho6, hg6⟩
        have hbX : b < X := HLB.out b rfl
        have HX6 : Hid (w6.heap[X]? = some (.cells #[.slice ea en ec, .slice (some ⟨b, off, none⟩) (g + 1) ld] 103 (0, 0))) := (hg6.block X (by omega) (fun e => by have : X = b := Option.some.inj e; omega)).trans HX5.out
        have e1 := blk_cell HX6.out 1 (v := .slice (some ⟨b, off, none⟩) (g + 1) ld) rfl
        have f1 := blk_frozen HX6.out 1
        have HS6 : Hid (∀ v, (w6.setCell ⟨X, 1, none⟩ v).heap[X]? = some (.cells #[.slice ea en ec, v] 103 (0, 0))) := fun v => blk_set HX6.out 1 v
        have HL6 : Hid (∀ v, (w6.setCell ⟨X, 1, none⟩ v).ownsRow w.heap.size 3 1 (.slice (some ⟨b, off, none⟩) g ld) g ((woI L k).map (.int .i64))) := fun v => by
          rw [← HER.out]
          exact ho6.kept (row := some X) ⟨rfl, rfl, rfl, by simp [World.setCell], fun k _ hn => Below.heap_setCell w6 ⟨X, 1, none⟩ v k (fun e => hn (by rw [e]))⟩ (.inr (fun e => by have : b = X := Option.some.inj e; omega))
        have HE6 : Hid (w6.ownsRow W.heap.size 71 2 (.slice r5 (m + 1) d5) (m + 1) (flatE (ears ++ [(k, u)]))) := HO5.out.kept hg6 (by
          cases hv : (Value.slice r5 (m + 1) d5).ownBlock with
          | none => exact .inl rfl
          | some b' => exact .inr (fun e => by have h8 := (HO5.out.lt b' hv).1; have : b' = b := Option.some.inj e; omega))
        have HB6 : Hid (Below w.heap.size w w6) := HB5.out.grown hg6 HB5.out.size (fun j hj => (HOL5.out.lt j hj).1)
        have z6 := hg6.size
        have HML2 : Hid ((ears ++ [(k, u)]).length = m + 1) := by show _ = _; rw [List.length_append, HML.out]; rfl
        clear ho6 hg6 K4 HX5 HOL5 HB5 HO5 HX6 c0 c1
        go_wp2
        go_roundw
        case rel => exact ⟨m + 1, g, r5, d5, some ⟨b, off, none⟩, ld, _, _, rfl, HS6.out _, HEF.out, HWL.out, by omega, HML2.out, by have := HMK.out; omega, HWA.out, HWN.out, HL6.out _, (fun b' h => by have : b = b' := Option.some.inj h; omega), ownsRow_setCell_below HE6.out zX _, by simp [World.setCell]; omega, HB6.out.setCell zw _⟩
        case measure => simp [lenV]; have := HMK.out; omega
    · obtain rfl : lm = 1 := by omega
      have h9 : earsF E 1 L = ([(L.getD 0 0, -1)], true) := earsF_end (f := 0) (by omega)
      rw [h9] at hef
      obtain ⟨b, off, rfl, _, hc2⟩ := (At.owned hoL).some (by omega)
      have hcx := hc2 0 (by omega)
      rw [Nat.add_zero] at hcx
      obtain ⟨x, hx⟩ : ∃ x, L.getD 0 0 = x := ⟨_, rfl⟩
      rw [hx] at hcx hef
      have HEF := Hid.mk hef
      have HOE := Hid.mk hoE
      have HML := Hid.mk hml
      clear hef hlz hml hLA hND hoL hoE hlb hc2 hx hmk h9 xX
      go_wp2_with (at_builtin; refine wpList_app_vals rfl (.tmp 45) (.tmp 51) 27 rfl W.heap.size 71 i0 (.agg #[.int .i64 0, .int .i64 0]) 2 16 Try.underlying27 hi hz0 hz1 hz2 rfl (by decide) (.slice r m d) m (flatE ears) rfl (HOE.out.alloc _) (some ⟨wX.heap.size, 0, none⟩) 1 1 [.int .i64 x, .int .i64 (-1)] rfl rfl (fun ad he => by cases he; simpa using news_at wX #[.int .i64 x, .int .i64 (-1)] 71) (by intro u hu; simp at hu; rcases hu with rfl | rfl <;> rfl) (fun h => by cases h) (by unfold maxLen; omega) (by omega) (by simp; omega) ?_)
      intro r5 d5 w5 ho5 hg5 ht5
      have HB5 : Hid (Below w.heap.size w w5) := (hbw.alloc hbw.size _).grown hg5 (by have := hbw.size; simp; omega) (fun j hj => by have := (HOE.out.lt j hj).1; omega)
      have HO5 := Hid.mk ho5
      clear ho5 hg5 ht5
      go_wp2
      refine bodyPost_ret (v := .tuple #[.slice r5 (m + 1) d5, .bool true]) (by simp [results, Try.results42, go_sem]) rfl ⟨r5, m + 1, d5, ?_, ?_, ?_, HB5.out⟩
      · rw [HEF.out]
      · rw [HEF.out, List.length_append, HML.out]; rfl
      · rw [HEF.out, flatE_snoc]; exact owns_mono HO5.out (by omega)

end Go.Proofs.Yteggbamjfhbmfaa

/- Contracts of impl.EarsOf, spec.EarsOf. -/
namespace Go.Proofs.Yteggbamjfhbmfaa
open Go.RowKit

def erL (hs : List Int) (zs : List Atm) (ts : List Int) : List (Int × Int) := if gqB hs zs ts = true then (earsF (edges zs) zs.length (upN zs.length)).1 else []
def erA (hs : List Int) (zs : List Atm) (ts : List Int) : Bool := if gqB hs zs ts = true then (earsF (edges zs) zs.length (upN zs.length)).2 else false
theorem EarRet.zero {w' : World} {lo : Nat} {hs : List Int} {zs : List Atm} {ts : List Int} (h : gqB hs zs ts = false) : EarRet (.returned (.tuple #[.slice none 0 0, .bool false, .bool false])) w' lo (erA hs zs ts) (gqB hs zs ts) (erL hs zs ts) := by
  have e1 : erA hs zs ts = false := by unfold erA; rw [h]; rfl
  have e2 : erL hs zs ts = [] := by unfold erL; rw [h]; rfl
  rw [e1, e2, h]
  exact ⟨none, 0, 0, rfl, rfl, World.ownsRow_nil _ _ _ _⟩
theorem gq_some {hs : List Int} {zs : List Atm} {ts : List Int} (h : gqB hs zs ts = true) : 1 ≤ zs.length := by
  simp only [gqB, Bool.and_eq_true, decide_eq_true_eq] at h
  exact h.1.1.1.1.2

set_option maxRecDepth 100000 in
set_option maxHeartbeats 4000000 in
theorem implEarsOf (ha : Option Addr) (hn hc : Nat) (hs : List Int) (a : Option Addr) (n c : Nat) (zs : List Atm) (ta : Option Addr) (tn tc : Nat) (ts : List Int) (w : World) (hh : hs.length = hn) (hhb : hn ≤ 9223372036854775807) (hat : At w ha hs) (hz : zs.length = n) (hb : n ≤ 9223372036854775807) (haz : AtQ w a zs) (htz : ts.length = tn) (htb : tn ≤ 9223372036854775807) (hta : At w ta ts) :
    Calls Try.prog 13 #[.agg #[.slice ha hn hc, .slice a n c], .slice ta tn tc] w fun e w' => EarRet e w' w.heap.size (erA hs zs ts) (gqB hs zs ts) (erL hs zs ts) ∧ Below w.heap.size w w' := by
  obtain ⟨W, hW⟩ : ∃ W, W = w.alloc (.cells #[.slice ha hn hc, .slice a n c] 32) := ⟨_, rfl⟩
  have B0 : Below w.heap.size w W := by rw [hW]; exact (Below.refl _ _).alloc (Nat.le_refl _) _
  have q0 : W.cell? ⟨w.heap.size, 0, none⟩ = some (.slice ha hn hc) := by rw [hW]; exact pair0 w _ _ _
  have q1 : W.cell? ⟨w.heap.size, 1, none⟩ = some (.slice a n c) := by rw [hW]; exact pair1 w _ _ _
  have HZ := Hid.mk hz
  have HC := Hid.mk (implEdgesOf ha hn hc hs a n c zs ta tn tc ts W hh hhb (At.below hat B0) hz hb (AtSl.below haz B0) htz htb (At.below hta B0))
  clear hh hat hz haz htz hta
  go_enter Try.func13, Try.ntmps13
  go_upto_region 1 with fail
  rw [← hW]
  clear hW
  go_wp2_with fail
  refine HC.out.mono ?_
  rintro e w1 ⟨⟨r1, m1, d1, rfl, ho1⟩, B1⟩
  have BW := B0.trans (B1.mono B0.size)
  clear HC
  cases hg : gqB hs zs ts with
  | false =>
    have HN := Hid.mk (EarRet.zero (w' := w1) (lo := w.heap.size) hg)
    clear ho1 hg
    go_wp2
    exact bodyPost_ret (v := .tuple #[.slice none 0 0, .bool false, .bool false]) (by simp [results, Try.results13, go_sem]) rfl ⟨HN.out, BW⟩
  | true =>
    rw [edL_yes hg] at ho1
    obtain ⟨hl1, hat1⟩ := pairs_at ho1
    rw [edges_len, HZ.out] at hl1
    subst hl1
    have h15 : 1 ≤ n ∧ n ≤ 5 := by have := gq_some hg; have := (gq_ok hg).1; have := HZ.out; omega
    have K := Hid.mk (takenEars_any r1 n d1 (edges zs) w1 (by rw [edges_len]; exact HZ.out) h15.1 h15.2 hat1)
    have HR : Hid (erA hs zs ts = (earsF (edges zs) n (upN n)).2 ∧ erL hs zs ts = (earsF (edges zs) n (upN n)).1) := by
      refine ⟨?_, ?_⟩
      · unfold erA; rw [if_pos hg, HZ.out]
      · unfold erL; rw [if_pos hg, HZ.out]
    have HG := Hid.mk hg
    obtain ⟨F, hF⟩ : ∃ F, earsF (edges zs) n (upN n) = F := ⟨_, rfl⟩
    rw [hF] at K HR
    clear ho1 hat1 hg hF
    go_wp2_with fail
    refine K.out.mono ?_
    rintro e w2 ⟨r2, m2, d2, rfl, hm2, ho2, hb2⟩
    have HM := Hid.mk hm2
    have HO := Hid.mk (owns_mono ho2 BW.size)
    have HB := Hid.mk (BW.trans (hb2.mono BW.size))
    clear hm2 ho2 hb2 K
    go_wp2
    refine bodyPost_ret (v := .tuple #[.slice r2 m2 d2, .bool F.2, .bool true]) (by simp [results, Try.results13, go_sem]) rfl ⟨?_, HB.out⟩
    rw [HR.out.1, HR.out.2, HG.out]
    exact ⟨r2, m2, d2, rfl, HM.out, HO.out⟩

set_option maxRecDepth 100000 in
set_option maxHeartbeats 4000000 in
theorem specEarsOf (ha : Option Addr) (hn hc : Nat) (hs : List Int) (a : Option Addr) (n c : Nat) (zs : List Atm) (ta : Option Addr) (tn tc : Nat) (ts : List Int) (w : World) (hh : hs.length = hn) (hhb : hn ≤ 9223372036854775807) (hat : At w ha hs) (hz : zs.length = n) (hb : n ≤ 9223372036854775807) (haz : AtQ w a zs) (htz : ts.length = tn) (htb : tn ≤ 9223372036854775807) (hta : At w ta ts) :
    Calls Try.prog 10 #[.agg #[.slice ha hn hc, .slice a n c], .slice ta tn tc] w fun e w' => EarRet e w' w.heap.size (erA hs zs ts) (gqB hs zs ts) (erL hs zs ts) ∧ Below w.heap.size w w' := by
  obtain ⟨W, hW⟩ : ∃ W, W = w.alloc (.cells #[.slice ha hn hc, .slice a n c] 32) := ⟨_, rfl⟩
  have B0 : Below w.heap.size w W := by rw [hW]; exact (Below.refl _ _).alloc (Nat.le_refl _) _
  have q0 : W.cell? ⟨w.heap.size, 0, none⟩ = some (.slice ha hn hc) := by rw [hW]; exact pair0 w _ _ _
  have q1 : W.cell? ⟨w.heap.size, 1, none⟩ = some (.slice a n c) := by rw [hW]; exact pair1 w _ _ _
  have HZ := Hid.mk hz
  have HA := Hid.mk haz
  have HC := Hid.mk (specGoodQuery ha hn hc hs a n c zs ta tn tc ts W hh hhb (At.below hat B0) hz hb (AtSl.below haz B0) htz htb (At.below hta B0))
  clear hh hat hz haz htz hta
  go_enter Try.func10, Try.ntmps10
  go_upto_region 1 with fail
  rw [← hW]
  clear hW
  go_wp2_with fail
  refine HC.out.mono ?_
  rintro e w1 ⟨rfl, B1⟩
  have BW := B0.trans (B1.mono B0.size)
  have q0 := cell_later B1 q0
  have q1 := cell_later B1 q1
  clear HC
  cases hg : gqB hs zs ts with
  | false =>
    have HN := Hid.mk (EarRet.zero (w' := w1) (lo := w.heap.size) hg)
    clear hg
    go_wp2
    exact bodyPost_ret (v := .tuple #[.slice none 0 0, .bool false, .bool false]) (by simp [results, Try.results10, go_sem]) rfl ⟨HN.out, BW⟩
  | true =>
    have h15 : 1 ≤ n ∧ n ≤ 5 := by have := gq_some hg; have := (gq_ok hg).1; have := HZ.out; omega
    have K := Hid.mk (l11Ears_any ha hn hc a n c zs w1 HZ.out h15.1 h15.2 (AtSl.below HA.out BW) (gq_ok hg).2)
    have HR : Hid (erA hs zs ts = (earsF (edges zs) n (upN n)).2 ∧ erL hs zs ts = (earsF (edges zs) n (upN n)).1) := by
      refine ⟨?_, ?_⟩
      · unfold erA; rw [if_pos hg, HZ.out]
      · unfold erL; rw [if_pos hg, HZ.out]
    have HG := Hid.mk hg
    obtain ⟨F, hF⟩ : ∃ F, earsF (edges zs) n (upN n) = F := ⟨_, rfl⟩
    rw [hF] at K HR
    clear hg hF
    go_wp2_with fail
    refine K.out.mono ?_
    rintro e w2 ⟨r2, m2, d2, rfl, hm2, ho2, hb2⟩
    have HM := Hid.mk hm2
    have HO := Hid.mk (owns_mono ho2 BW.size)
    have HB := Hid.mk (BW.trans (hb2.mono BW.size))
    clear hm2 ho2 hb2 K
    go_wp2
    refine bodyPost_ret (v := .tuple #[.slice r2 m2 d2, .bool F.2, .bool true]) (by simp [results, Try.results10, go_sem]) rfl ⟨?_, HB.out⟩
    rw [HR.out.1, HR.out.2, HG.out]
    exact ⟨r2, m2, d2, rfl, HM.out, HO.out⟩

end Go.Proofs.Yteggbamjfhbmfaa
