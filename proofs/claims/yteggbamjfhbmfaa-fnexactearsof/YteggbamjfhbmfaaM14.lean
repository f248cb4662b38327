/- Several texts of one proof, in build order: ErV, ErW, EdI. -/
import Derived.Test.YteggbamjfhbmfaaM13
import Derived.Test.YteggbamjfhbmfaaM11
import Derived.Test.YteggbamjfhbmfaaM10
import Derived.Deep.CutBlock

/- Contracts of spec.l11Ears, spec.EarsOf. -/
namespace Go.Proofs.Yteggbamjfhbmfaa
open Go.RowKit

def lenV : Value → Nat
  | .slice _ n _ => n
  | _ => 0

set_option maxRecDepth 100000 in
set_option maxHeartbeats 8000000 in
theorem l11Ears_any (ha : Option Addr) (hn hc : Nat) (a : Option Addr) (n c : Nat) (zs : List Atm) (w : World) (hz : zs.length = n) (h1 : 1 ≤ n) (h5 : n ≤ 5) (haz : AtQ w a zs) (hok : ∀ x ∈ zs, aOk x = true) :
    Calls Try.prog 39 #[.agg #[.slice ha hn hc, .slice a n c]] w fun e w' => ∃ r m d, e = .returned (.tuple #[.slice r m d, .bool (earsF (edges zs) n (upN n)).2]) ∧ (earsF (edges zs) n (upN n)).1.length = m ∧ w'.ownsRow w.heap.size 71 2 (.slice r m d) m (flatE (earsF (edges zs) n (upN n)).1) ∧ Below w.heap.size w w' := by
  obtain ⟨i0, hi, hz0, hz1, hz2⟩ := info_parts Try.infoEar
  obtain ⟨j0, hj0, hy0, hy1, hy2⟩ := info_parts Try.infoInt
  obtain ⟨W, hW⟩ : ∃ W, W = w.alloc (.cells #[.slice ha hn hc, .slice a n c] 32) := ⟨_, rfl⟩
  have B0 : Below w.heap.size w W := by rw [hW]; exact (Below.refl _ _).alloc (Nat.le_refl _) _
  have q0 : W.cell? ⟨w.heap.size, 0, none⟩ = some (.slice ha hn hc) := by rw [hW]; exact pair0 w _ _ _
  have q1 : W.cell? ⟨w.heap.size, 1, none⟩ = some (.slice a n c) := by rw [hW]; exact pair1 w _ _ _
  have HZ := Hid.mk hz
  have HA := Hid.mk (AtSl.below haz B0)
  have HOK := Hid.mk hok
  have HUA := Hid.mk (upN_atoms (E := edges zs) (n := n) (by rw [edges_len]; exact hz))
  obtain ⟨E, hE⟩ : ∃ E, edges zs = E := ⟨_, rfl⟩
  have HE := Hid.mk hE
  rw [hE] at HUA
  rw [hE]
  clear hz haz hok hE
  go_enter Try.func39, Try.ntmps39
  go_upto_region 1 with fail
  rw [← hW]
  clear hW
  go_wp2_with fail
  go_loopw [5, 12] (fun p i wr => ∃ (k : Nat) (r : Option Addr) (d : Nat), k ≤ n ∧ i = .int .i64 k ∧ p = .slice r k d ∧ wr.ownsRow W.heap.size 3 1 (.slice r k d) k ((upN k).map (.int .i64)) ∧ Below W.heap.size W wr) (fun _ i _ => n - (intOf i).toNat)
  case atStart => exact ⟨0, none, 0, Nat.zero_le _, rfl, rfl, World.ownsRow_nil _ _ _ _, Below.refl _ _⟩
  case round =>
    obtain ⟨k, r, d, hk, rfl, rfl, ho, hbw⟩ := hrel
    obtain ⟨wY, rfl⟩ : ∃ x, x = wr := ⟨_, rfl⟩
    have zW := B0.size
    have zw := hbw.size
    by_cases hlt : k < n
    · have hki : (k : Int) < (n : Int) := by omega
      have HO := Hid.mk ho
      have HB := Hid.mk hbw
      clear ho hbw
      go_wp2_with (at_builtin; refine wpList_app_vals rfl (.tmp 15) (.tmp 17) 22 rfl W.heap.size 3 j0 (.int .i64 0) 1 8 Try.underlying22 hj0 hy0 hy1 hy2 rfl (by decide) (.slice r k d) k ((upN k).map (.int .i64)) rfl (HO.out.alloc _) (some ⟨wY.heap.size, 0, none⟩) 1 1 [.int .i64 (k : Nat)] rfl rfl (fun ad he => by cases he; simpa using news_at wY #[.int .i64 (k : Nat)] 3) (by simp; rfl) (fun h => by cases h) (by unfold maxLen; omega) (by omega) (by simp; omega) ?_)
      intro r5 d5 w5 ho5 hg5 ht5
      have HB5 : Hid (Below W.heap.size W w5) := (HB.out.alloc zw _).grown hg5 (by simp; omega) (fun j hj => (HO.out.lt j hj).1)
      have HO5 : Hid (w5.ownsRow W.heap.size 3 1 (.slice r5 (k + 1) d5) (k + 1) ((upN (k + 1)).map (.int .i64))) := by
        show World.ownsRow _ _ _ _ _ _ _
        rw [upN_succ, List.map_append]; exact ho5
      clear ho5 hg5 ht5 HO HB
      go_wp2
      go_roundw
      case rel => exact ⟨k + 1, r5, d5, by omega, by go_num, rfl, HO5.out, HB5.out⟩
      case measure => simp [intOf]; omega
    · obtain rfl : k = n := by omega
      have hki : ¬ (k : Int) < (k : Int) := by omega
      have HO := Hid.mk ho
      have HB := Hid.mk hbw
      clear ho hbw
      go_wp2_with fail
      go_loopw [4, 5] (fun p s wx => ∃ (m lm : Nat) (r : Option Addr) (d : Nat) (lr : Option Addr) (ld : Nat) (ears : List (Int × Int)) (L : List Int), p = .slice r m d ∧ s = .slice lr lm ld ∧ earsF E k (upN k) = (ears ++ (earsF E lm L).1, (earsF E lm L).2) ∧ L.length = lm ∧ 1 ≤ lm ∧ ears.length = m ∧ m + lm = k ∧ Atoms E L ∧ L.Nodup ∧ wx.ownsRow W.heap.size 3 1 (.slice lr lm ld) lm (L.map (.int .i64)) ∧ wx.ownsRow W.heap.size 71 2 (.slice r m d) m (flatE ears) ∧ (∀ b, (Value.slice r m d).ownBlock = some b → (Value.slice lr lm ld).ownBlock ≠ some b) ∧ Below W.heap.size W wx) (fun _ s _ => lenV s)
      case atStart => exact ⟨0, k, none, 0, r, d, [], upN k, rfl, rfl, rfl, upN_len k, h1, rfl, by omega, HUA.out, upN_nodup k, HO.out, World.ownsRow_nil _ _ _ _, (fun b h => by cases h), HB.out⟩
      case round =>
        clear HO HB zw
        obtain ⟨m, lm, r, d, lr, ld, ears, L, rfl, rfl, hef, hlz, hl1, hml, hmk, hLA, hND, hoL, hoE, hdis, hbw⟩ := hrel
        obtain ⟨wX, rfl⟩ : ∃ x, x = wr := ⟨_, rfl⟩
        have q0' := cell_later hbw q0
        have q1' := cell_later hbw q1
        have zX := hbw.size
        have BY := B0.trans (hbw.mono B0.size)
        by_cases hbig : 1 < lm
        · obtain ⟨g, rfl⟩ : ∃ g, lm = g + 1 := ⟨lm - 1, by omega⟩
          have hbi : (1 : Int) < ((g + 1 : Nat) : Int) := by omega
          have hAE := HE.out
          have K := Hid.mk (l11Ear_any ha hn hc a k c zs lr (g + 1) ld L wX HZ.out (by omega) (AtSl.below HA.out hbw) HOK.out hlz (by omega) (At.owned hoL) (by rw [hAE]; exact hLA))
          rw [hAE] at K
          have hnl : ¬ L.length ≤ 1 := by omega
          cases heo : earO E L with
          | none =>
            rw [heo] at K
            rw [earsF_none hnl heo] at hef
            have HEF := Hid.mk hef
            have HOE := Hid.mk hoE
            have HML := Hid.mk hml
            clear hef hlz hml hLA hND hoL hoE hdis heo hbw hAE
            go_wp2_with fail
            refine K.out.mono ?_
            rintro e w3 ⟨rfl, hb3⟩
            have BB := BY.trans (hb3.mono BY.size)
            have HO3 := Hid.mk (owns_below HOE.out hb3)
            clear K
            go_wp2
            refine bodyPost_ret (v := .tuple #[.slice r m d, .bool false]) (by simp [results, Try.results39, go_sem]) rfl ⟨r, m, d, ?_, ?_, ?_, ?_⟩
            · rw [HEF.out]
            · rw [HEF.out, List.append_nil]; exact HML.out
            · rw [HEF.out, List.append_nil]; exact (owns_mono HO3.out B0.size).alloc _
            · exact BB.alloc BB.size _
          | some ku =>
            rw [heo] at K
            rw [earsF_some hnl heo] at hef
            have hmem := earO_mem heo
            have hwl := woI_lenN hND hmem
            have hwn := woI_nodup hND ku.1
            have hwa := woI_atoms hLA ku.1
            obtain ⟨kk, uu⟩ := ku
            simp only at hef hmem hwl hwn hwa
            have HEF : Hid (earsF E k (upN k) = ((ears ++ [(kk, uu)]) ++ (earsF E g (woI L kk)).1, (earsF E g (woI L kk)).2)) := by show _ = _; rw [hef, List.append_assoc]; rfl
            have HWL := Hid.mk hwl
            have HWN := Hid.mk hwn
            have HWA := Hid.mk hwa
            have HOE := Hid.mk hoE
            have HOL := Hid.mk hoL
            have HDI := Hid.mk hdis
            have HML := Hid.mk hml
            have HLZ := Hid.mk hlz
            have HB := Hid.mk hbw
            clear hef hlz hml hLA hND hoL hoE hdis heo hbw hAE hmem hwl hwn hwa
            go_wp2_with fail
            refine K.out.mono ?_
            rintro e w3 ⟨rfl, hb3⟩
            have HB3 := Hid.mk (HB.out.trans (hb3.mono HB.out.size))
            have z3 := hb3.size
            obtain ⟨U, hU⟩ : ∃ U, U = w3.alloc (.cells #[.int .i64 kk, .int .i64 uu] 71) := ⟨_, rfl⟩
            have BU : Below w3.heap.size w3 U := by rw [hU]; exact (Below.refl _ _).alloc (Nat.le_refl _) _
            have p0 : U.cell? ⟨w3.heap.size, 0, none⟩ = some (.int .i64 kk) := by rw [hU]; exact pair0 w3 _ _ _
            have p1 : U.cell? ⟨w3.heap.size, 1, none⟩ = some (.int .i64 uu) := by rw [hU]; exact pair1 w3 _ _ _
            have zU : w3.heap.size < U.heap.size := by rw [hU]; simp
            have HOE3 := Hid.mk (owns_below (owns_below HOE.out hb3) BU)
            have HOL3 := Hid.mk (owns_below (owns_below HOL.out hb3) BU)
            have HBU := Hid.mk (HB3.out.trans (BU.mono HB3.out.size))
            have HLT : Hid (∀ b, (Value.slice r m d).ownBlock = some b → b < w3.heap.size) := fun b h => by have := (HOE.out.lt b h).2; omega
            clear hb3 K HB HB3 HOE HOL BU
            go_upto_region 10 with fail
            rw [show (earZ (some (kk, uu))).1 = kk from rfl, show (earZ (some (kk, uu))).2 = uu from rfl, ← hU]
            clear hU
            go_wp2_with (at_builtin; refine wpList_app_vals rfl (.tmp 32) (.tmp 34) 27 rfl W.heap.size 71 i0 (.agg #[.int .i64 0, .int .i64 0]) 2 16 Try.underlying27 hi hz0 hz1 hz2 rfl (by decide) (.slice r m d) m (flatE ears) rfl (HOE3.out.alloc _) (some ⟨U.heap.size, 0, none⟩) 1 1 [.int .i64 kk, .int .i64 uu] rfl rfl (fun ad he => by cases he; simpa using news_at U #[.int .i64 kk, .int .i64 uu] 71) (by intro u hu; simp at hu; rcases hu with rfl | rfl <;> rfl) (fun h => by cases h) (by unfold maxLen; omega) (by omega) (by simp; omega) ?_)
            intro r5 d5 w5 ho5 hg5 ht5
            have c5 : w5.cell? ⟨w3.heap.size, 0, none⟩ = some (.int .i64 kk) := (World.cell?_of_block ((hg5.block w3.heap.size (by simp; omega) (fun e => by have := HLT.out _ e.symm; omega)).trans (Below.heap_alloc U _ w3.heap.size zU))).trans p0
            have HB5 : Hid (Below W.heap.size W w5) := (HBU.out.alloc HBU.out.size _).grown hg5 (by have := HBU.out.size; simp; omega) (fun j hj => (HOE3.out.lt j hj).1)
            have HOL5 : Hid (w5.ownsRow W.heap.size 3 1 (.slice lr (g + 1) ld) (g + 1) (L.map (.int .i64))) := (HOL3.out.alloc _).kept hg5 (by
              cases hv : (Value.slice lr (g + 1) ld).ownBlock with
              | none => exact .inl rfl
              | some b => exact .inr (fun e => HDI.out b e.symm hv))
            have HO5 : Hid (w5.ownsRow W.heap.size 71 2 (.slice r5 (m + 1) d5) (m + 1) (flatE (ears ++ [(kk, uu)]))) := by
              show World.ownsRow _ _ _ _ _ _ _
              rw [flatE_snoc]; exact ho5
            have K2 := Hid.mk (l11Without_any lr (g + 1) ld L kk w5 HLZ.out (by omega) (At.owned HOL5.out))
            have z5 := HB5.out.size
            clear ho5 hg5 ht5 HOE3 HOL3 HBU HDI HLT p0 p1
            go_wp2_with fail
            refine K2.out.mono ?_
            rintro e w6 ⟨r6, m6, d6, rfl, hm6, ho6, hb6⟩
            obtain rfl : m6 = g := by have h8 := HWL.out; have h7 := HLZ.out; omega
            have HM6 := Hid.mk hm6
            have HO6 := Hid.mk (owns_mono ho6 z5)
            have HE6 := Hid.mk (owns_below HO5.out hb6)
            have HB6 := Hid.mk (HB5.out.trans (hb6.mono z5))
            have HD6 : Hid (∀ b, (Value.slice r5 (m + 1) d5).ownBlock = some b → (Value.slice r6 m6 d6).ownBlock ≠ some b) := fun b h h2 => by
              have x1 := (HO5.out.lt b h).2
              have x2 := (ho6.lt b h2).1
              omega
            have HML2 : Hid ((ears ++ [(kk, uu)]).length = m + 1) := by show _ = _; rw [List.length_append, HML.out]; rfl
            clear hm6 ho6 hb6 K2 HO5 HB5 HOL5 c5
            go_wp2
            go_roundw
            case rel => exact ⟨m + 1, m6, r5, d5, r6, d6, _, _, rfl, rfl, HEF.out, HM6.out, by omega, HML2.out, by omega, HWA.out, HWN.out, HO6.out, HE6.out, HD6.out, HB6.out⟩
            case measure => simp [lenV]
        · obtain rfl : lm = 1 := by omega
          have h9 : earsF E 1 L = ([(L.getD 0 0, -1)], true) := earsF_end (f := 0) (by omega)
          rw [h9] at hef
          clear h9
          obtain ⟨b, off, rfl, _, hc2⟩ := (At.owned hoL).some (by omega)
          have hcx := hc2 0 (by omega)
          rw [Nat.add_zero] at hcx
          obtain ⟨x, hx⟩ : ∃ x, L.getD 0 0 = x := ⟨_, rfl⟩
          rw [hx] at hcx hef
          have HEF := Hid.mk hef
          have HOE := Hid.mk hoE
          have HML := Hid.mk hml
          have hm5 : m ≤ 5 := by omega
          clear hef hlz hml hLA hND hoL hoE hdis hc2 hx hmk
          go_wp2_with (at_builtin; refine wpList_app_vals rfl (.tmp 40) (.tmp 45) 27 rfl W.heap.size 71 i0 (.agg #[.int .i64 0, .int .i64 0]) 2 16 Try.underlying27 hi hz0 hz1 hz2 rfl (by decide) (.slice r m d) m (flatE ears) rfl (HOE.out.alloc _) (some ⟨wX.heap.size, 0, none⟩) 1 1 [.int .i64 x, .int .i64 (-1)] rfl rfl (fun ad he => by cases he; simpa using news_at wX #[.int .i64 x, .int .i64 (-1)] 71) (by intro u hu; simp at hu; rcases hu with rfl | rfl <;> rfl) (fun h => by cases h) (by unfold maxLen; omega) (by omega) (by simp; omega) ?_)
          intro r5 d5 w5 ho5 hg5 ht5
          have HB5 : Hid (Below w.heap.size w w5) := (BY.alloc BY.size _).grown hg5 (by have := BY.size; simp; omega) (fun j hj => by have := (HOE.out.lt j hj).1; omega)
          have HO5 := Hid.mk ho5
          clear ho5 hg5 ht5
          go_wp2
          refine bodyPost_ret (v := .tuple #[.slice r5 (m + 1) d5, .bool true]) (by simp [results, Try.results39, go_sem]) rfl ⟨r5, m + 1, d5, ?_, ?_, ?_, HB5.out⟩
          · rw [HEF.out]
          · rw [HEF.out, List.length_append, HML.out]; rfl
          · rw [HEF.out, flatE_snoc]; exact owns_mono HO5.out zW

end Go.Proofs.Yteggbamjfhbmfaa

/- Contract of impl.takenEars. -/
namespace Go.Proofs.Yteggbamjfhbmfaa
open Go.RowKit

theorem idx_ear {E : List (List Int)} {L : List Int} : (idxL (fun k => decide (upI E L k ≠ -1)) L = -1 ∧ earO E L = none) ∨ ∃ (i : Nat) (k : Int), idxL (fun k => decide (upI E L k ≠ -1)) L = (i : Int) ∧ i < L.length ∧ L[i]? = some k ∧ earO E L = some (k, upI E L k) := by
  unfold idxL earO
  cases h : L.findIdx? (fun k => decide (upI E L k ≠ -1)) with
  | none =>
    left
    refine ⟨rfl, ?_⟩
    rw [List.find?_eq_none.2 (fun x hx => by have := List.findIdx?_eq_none_iff.1 h x hx; rw [this]; simp)]
    rfl
  | some i =>
    right
    obtain ⟨hi, hp, hb⟩ := List.findIdx?_eq_some_iff_getElem.1 h
    refine ⟨i, L[i], rfl, hi, List.getElem?_eq_getElem hi, ?_⟩
    have : L.find? (fun k => decide (upI E L k ≠ -1)) = some L[i] := List.find?_eq_some_iff_getElem.2 ⟨hp, i, hi, rfl, fun j hj => by
      have := hb j hj
      simpa using this⟩
    rw [this]
    rfl

set_option maxRecDepth 100000 in
set_option maxHeartbeats 8000000 in
theorem takenEars_any (ea : Option Addr) (en ec : Nat) (E : List (List Int)) (w : World) (hez : E.length = en) (h1 : 1 ≤ en) (h5 : en ≤ 5) (hea : AtSl RInts w ea E) :
    Calls Try.prog 42 #[.slice ea en ec] w fun e w' => ∃ r m d, e = .returned (.tuple #[.slice r m d, .bool (earsF E en (upN en)).2]) ∧ (earsF E en (upN en)).1.length = m ∧ w'.ownsRow w.heap.size 71 2 (.slice r m d) m (flatE (earsF E en (upN en)).1) ∧ Below w.heap.size w w' := by
  obtain ⟨i0, hi, hz0, hz1, hz2⟩ := info_parts Try.infoEar
  have HEZ := Hid.mk hez
  have HEA := Hid.mk hea
  have HUA := Hid.mk (upN_atoms hez)
  clear hez hea
  have K := Hid.mk (firstNumbers_any en w (by omega))
  go_enter Try.func42, Try.ntmps42
  go_wp2_with fail
  refine K.out.mono ?_
  rintro e w1 ⟨r1, d1, rfl, ho1, hb1⟩
  clear K
  obtain ⟨W, hW⟩ : ∃ W, W = w1.alloc (.cells #[.slice ea en ec, .slice r1 en d1] 103) := ⟨_, rfl⟩
  obtain ⟨X, hX⟩ : ∃ X, X = w1.heap.size := ⟨_, rfl⟩
  have BW : Below w1.heap.size w1 W := by rw [hW]; exact (Below.refl _ _).alloc (Nat.le_refl _) _
  have x1 : W.heap[X]? = some (.cells #[.slice ea en ec, .slice r1 en d1] 103 (0, 0)) := by rw [hW, hX]; exact heap_alloc_new _ _
  have zX : X < W.heap.size := by rw [hW, hX]; simp
  have zw : w.heap.size ≤ X := by rw [hX]; exact hb1.size
  have HO := Hid.mk (owns_below ho1 BW)
  have HLB : Hid (∀ b, (Value.slice r1 en d1).ownBlock = some b → b < X) := fun b h => by rw [hX]; exact (ho1.lt b h).2
  have HB := Hid.mk (hb1.trans (BW.mono hb1.size))
  clear ho1 hb1 BW
  go_upto_region 2 with fail
  rw [← hW, ← hX]
  clear hW hX
  go_wp2_with fail
  go_loopw [5] (fun p wx => ∃ (m lm : Nat) (r : Option Addr) (d : Nat) (lr : Option Addr) (ld : Nat) (ears : List (Int × Int)) (L : List Int), p = .slice r m d ∧ wx.heap[X]? = some (.cells #[.slice ea en ec, .slice lr lm ld] 103 (0, 0)) ∧ earsF E en (upN en) = (ears ++ (earsF E lm L).1, (earsF E lm L).2) ∧ L.length = lm ∧ 1 ≤ lm ∧ ears.length = m ∧ m + lm = en ∧ Atoms E L ∧ L.Nodup ∧ wx.ownsRow w.heap.size 3 1 (.slice lr lm ld) lm (L.map (.int .i64)) ∧ (∀ b, (Value.slice lr lm ld).ownBlock = some b → b < X) ∧ wx.ownsRow W.heap.size 71 2 (.slice r m d) m (flatE ears) ∧ W.heap.size ≤ wx.heap.size ∧ Below w.heap.size w wx) (fun p _ => en - lenV p)
  case atStart => exact ⟨0, en, none, 0, r1, d1, [], upN en, rfl, x1, rfl, upN_len en, h1, rfl, by omega, HUA.out, upN_nodup en, HO.out, HLB.out, World.ownsRow_nil _ _ _ _, Nat.le_refl _, HB.out⟩
  case round =>
    clear HO HB HLB x1
    obtain ⟨m, lm, r, d, lr, ld, ears, L, rfl, xX, hef, hlz, hl1, hml, hmk, hLA, hND, hoL, hlb, hoE, zW, hbw⟩ := hrel
    obtain ⟨wX, rfl⟩ : ∃ x, x = wr := ⟨_, rfl⟩
    have c0 := blk_cell xX 0 (v := .slice ea en ec) rfl
    have c1 := blk_cell xX 1 (v := .slice lr lm ld) rfl
    have hm5 : m ≤ 5 := by omega
    have hlm5 : lm ≤ 5 := by omega
    by_cases hbig : 1 < lm
    · have hbi : (1 : Int) < (lm : Int) := by omega
      have hnl : ¬ L.length ≤ 1 := by omega
      have K := Hid.mk (indexEar_any ea en ec E lr lm ld L wX HEZ.out (by omega) (AtSl.below HEA.out hbw) hlz (by omega) (At.owned hoL) hLA)
      rcases idx_ear (E := E) (L := L) with ⟨hix, heo⟩ | ⟨i, k, hix, hil, hik, heo⟩
      · rw [hix] at K
        obtain ⟨g, rfl⟩ : ∃ g, lm = g + 1 := ⟨lm - 1, by omega⟩
        rw [earsF_none hnl heo] at hef
        have HEF := Hid.mk hef
        have HOE := Hid.mk hoE
        have HML := Hid.mk hml
        clear hef hlz hml hLA hND hoL hlb hoE heo hix hmk xX
        go_wp2_with fail
        refine K.out.mono ?_
        rintro e w3 ⟨rfl, hb3⟩
        have BB := hbw.trans (hb3.mono hbw.size)
        have HO3 := Hid.mk (owns_below HOE.out hb3)
        clear K
        go_wp2
        refine bodyPost_ret (v := .tuple #[.slice r m d, .bool false]) (by simp [results, Try.results42, go_sem]) rfl ⟨r, m, d, ?_, ?_, ?_, BB⟩
        · rw [HEF.out]
        · rw [HEF.out, List.append_nil]; exact HML.out
        · rw [HEF.out, List.append_nil]; exact owns_mono HO3.out (by omega)
      · rw [hix] at K
        obtain ⟨g, rfl⟩ : ∃ g, lm = g + 1 := ⟨lm - 1, by omega⟩
        rw [earsF_some hnl heo] at hef
        have hmem := earO_mem heo
        have hwl := woI_lenN hND hmem
        have hwn := woI_nodup hND k
        have hwa := woI_atoms hLA k
        have hker := hLA k (List.mem_of_getElem? hik)
        have her := erase_woI hND hik
        simp only at hef hmem hwl
        obtain ⟨u, hu⟩ : ∃ u, upI E L k = u := ⟨_, rfl⟩
        have K2 : Hid (∀ w', Below wX.heap.size wX w' → Calls Try.prog 77 #[.agg #[.slice ea en ec, .slice lr (g + 1) ld], .int .i64 k] w' fun e w'' => e = .returned (.int .i64 u) ∧ Below w'.heap.size w' w'') := fun w' hb => by
          have h9 := upOf_any ea en ec E lr (g + 1) ld L k w' HEZ.out (by omega) (AtSl.below HEA.out (hbw.trans (hb.mono hbw.size))) hlz (by omega) (At.below (At.owned hoL) hb) hLA hker.1 (by have := HEZ.out; omega)
          rw [hu] at h9
          exact h9
        rw [hu] at hef
        have HEF : Hid (earsF E en (upN en) = ((ears ++ [(k, u)]) ++ (earsF E g (woI L k)).1, (earsF E g (woI L k)).2)) := by show _ = _; rw [hef, List.append_assoc]; rfl
        obtain ⟨b, off, hlr, _, hc2⟩ := (At.owned hoL).some (by omega)
        have hcx := hc2 i (by omega)
        have hgk : L.getD i 0 = k := by simp [List.getD, hik]
        rw [hgk] at hcx
        have hii : (i : Int) < ((g + 1 : Nat) : Int) := by omega
        have hni : ¬ (i : Int) < 0 := by omega
        have HWL : Hid ((woI L k).length = g) := by show _ = _; omega
        have HWN := Hid.mk hwn
        have HWA := Hid.mk hwa
        have HOE := Hid.mk hoE
        have HOL := Hid.mk hoL
        have HLB := Hid.mk hlb
        have HML := Hid.mk hml
        have HLZ := Hid.mk hlz
        have HER := Hid.mk her
        have HX := Hid.mk xX
        have hig : i < g + 1 := by omega
        have HMK := Hid.mk hmk
        subst hlr
        clear hef hlz hml hLA hND hoL hoE hlb heo hix hmem hwl hwn hwa hker her hu hc2 hgk xX hik hil hmk
        go_wp2_with fail
        refine K.out.mono ?_
        rintro e w2 ⟨rfl, hb2⟩
        have c0 := cell_later hb2 c0
        have c1 := cell_later hb2 c1
        have hcx := cell_later hb2 hcx
        have K3 := Hid.mk (K2.out w2 hb2)
        clear K K2
        go_wp2_with fail
        refine K3.out.mono ?_
        rintro e w3 ⟨rfl, hb3⟩
        have hb23 := hb2.trans (hb3.mono hb2.size)
        have HB3 := Hid.mk (hbw.trans (hb23.mono hbw.size))
        have HX3 := Hid.mk (blk_below HX.out hb23)
        have HOE3 := Hid.mk (owns_below HOE.out hb23)
        have HOL3 := Hid.mk (owns_below HOL.out hb23)
        have z3 := hb23.size
        clear hb2 hb3 hb23 K3 HX HOE HOL c0 c1 hcx
        go_wp2_with (at_builtin; refine wpList_app_vals rfl (.tmp 30) (.tmp 36) 27 rfl W.heap.size 71 i0 (.agg #[.int .i64 0, .int .i64 0]) 2 16 Try.underlying27 hi hz0 hz1 hz2 rfl (by decide) (.slice r m d) m (flatE ears) rfl (HOE3.out.alloc _) (some ⟨w3.heap.size, 0, none⟩) 1 1 [.int .i64 k, .int .i64 u] rfl rfl (fun ad he => by cases he; simpa using news_at w3 #[.int .i64 k, .int .i64 u] 71) (by intro u hu; simp at hu; rcases hu with rfl | rfl <;> rfl) (fun h => by cases h) (by unfold maxLen; omega) (by omega) (by simp; omega) ?_)
        intro r5 d5 w5 ho5 hg5 ht5
        have HX5 : Hid (w5.heap[X]? = some (.cells #[.slice ea en ec, .slice (some ⟨b, off, none⟩) (g + 1) ld] 103 (0, 0))) := (hg5.block X (by simp; omega) (fun e => by have := (HOE3.out.lt X e.symm).1; omega)).trans (blk_alloc HX3.out _)
        have HOL5 : Hid (w5.ownsRow w.heap.size 3 1 (.slice (some ⟨b, off, none⟩) (g + 1) ld) (g + 1) (L.map (.int .i64))) := (HOL3.out.alloc _).kept hg5 (.inr (fun e => by
          have h8 := (HOE3.out.lt b (by rw [← e]; rfl)).1
          have h7 := HLB.out b rfl
          omega))
        have HB5 : Hid (Below w.heap.size w w5) := (HB3.out.alloc HB3.out.size _).grown hg5 (by have := HB3.out.size; simp; omega) (fun j hj => by have := (HOE3.out.lt j hj).1; omega)
        have HO5 : Hid (w5.ownsRow W.heap.size 71 2 (.slice r5 (m + 1) d5) (m + 1) (flatE (ears ++ [(k, u)]))) := by
          show World.ownsRow _ _ _ _ _ _ _
          rw [flatE_snoc]; exact ho5
        have z5 : W.heap.size ≤ w5.heap.size := by have := hg5.size; simp at this; omega
        have K4 := Hid.mk (deleteI_own w.heap.size (some ⟨b, off, none⟩) (g + 1) ld i L w5 HLZ.out (by omega) hig HOL5.out)
        rw [show ((i + 1 : Nat) : Int) = (i : Int) + 1 by omega, show g + 1 - 1 = g by omega] at K4
        have c0 := blk_cell HX5.out 0 (v := .slice ea en ec) rfl
        have c1 := blk_cell HX5.out 1 (v := .slice (some ⟨b, off, none⟩) (g + 1) ld) rfl
        clear ho5 hg5 ht5 HX3 HOE3 HOL3
        go_wp2_with fail
        refine K4.out.mono ?_
        rintro e w6 ⟨rfl, ho6, hg6⟩
        have hbX : b < X := HLB.out b rfl
        have HX6 : Hid (w6.heap[X]? = some (.cells #[.slice ea en ec, .slice (some ⟨b, off, none⟩) (g + 1) ld] 103 (0, 0))) := (hg6.block X (by omega) (fun e => by have : X = b := Option.some.inj e; omega)).trans HX5.out
        have e1 := blk_cell HX6.out 1 (v := .slice (some ⟨b, off, none⟩) (g + 1) ld) rfl
        have f1 := blk_frozen HX6.out 1
        have HS6 : Hid (∀ v, (w6.setCell ⟨X, 1, none⟩ v).heap[X]? = some (.cells #[.slice ea en ec, v] 103 (0, 0))) := fun v => blk_set HX6.out 1 v
        have HL6 : Hid (∀ v, (w6.setCell ⟨X, 1, none⟩ v).ownsRow w.heap.size 3 1 (.slice (some ⟨b, off, none⟩) g ld) g ((woI L k).map (.int .i64))) := fun v => by
          rw [← HER.out]
          exact ho6.kept (row := some X) ⟨rfl, rfl, rfl, by simp [World.setCell], fun k _ hn => Below.heap_setCell w6 ⟨X, 1, none⟩ v k (fun e => hn (by rw [e]))⟩ (.inr (fun e => by have : b = X := Option.some.inj e; omega))
        have HE6 : Hid (w6.ownsRow W.heap.size 71 2 (.slice r5 (m + 1) d5) (m + 1) (flatE (ears ++ [(k, u)]))) := HO5.out.kept hg6 (by
          cases hv : (Value.slice r5 (m + 1) d5).ownBlock with
          | none => exact .inl rfl
          | some b' => exact .inr (fun e => by have h8 := (HO5.out.lt b' hv).1; have : b' = b := Option.some.inj e; omega))
        have HB6 : Hid (Below w.heap.size w w6) := HB5.out.grown hg6 HB5.out.size (fun j hj => (HOL5.out.lt j hj).1)
        have z6 := hg6.size
        have HML2 : Hid ((ears ++ [(k, u)]).length = m + 1) := by show _ = _; rw [List.length_append, HML.out]; rfl
        clear ho6 hg6 K4 HX5 HOL5 HB5 HO5 HX6 c0 c1
        go_wp2
        go_roundw
        case rel => exact ⟨m + 1, g, r5, d5, some ⟨b, off, none⟩, ld, _, _, rfl, HS6.out _, HEF.out, HWL.out, by omega, HML2.out, by have := HMK.out; omega, HWA.out, HWN.out, HL6.out _, (fun b' h => by have : b = b' := Option.some.inj h; omega), ownsRow_setCell_below HE6.out zX _, by simp [World.setCell]; omega, HB6.out.setCell zw _⟩
        case measure => simp [lenV]; have := HMK.out; omega
    · obtain rfl : lm = 1 := by omega
      have h9 : earsF E 1 L = ([(L.getD 0 0, -1)], true) := earsF_end (f := 0) (by omega)
      rw [h9] at hef
      obtain ⟨b, off, rfl, _, hc2⟩ := (At.owned hoL).some (by omega)
      have hcx := hc2 0 (by omega)
      rw [Nat.add_zero] at hcx
      obtain ⟨x, hx⟩ : ∃ x, L.getD 0 0 = x := ⟨_, rfl⟩
      rw [hx] at hcx hef
      have HEF := Hid.mk hef
      have HOE := Hid.mk hoE
      have HML := Hid.mk hml
      clear hef hlz hml hLA hND hoL hoE hlb hc2 hx hmk h9 xX
      go_wp2_with (at_builtin; refine wpList_app_vals rfl (.tmp 45) (.tmp 51) 27 rfl W.heap.size 71 i0 (.agg #[.int .i64 0, .int .i64 0]) 2 16 Try.underlying27 hi hz0 hz1 hz2 rfl (by decide) (.slice r m d) m (flatE ears) rfl (HOE.out.alloc _) (some ⟨wX.heap.size, 0, none⟩) 1 1 [.int .i64 x, .int .i64 (-1)] rfl rfl (fun ad he => by cases he; simpa using news_at wX #[.int .i64 x, .int .i64 (-1)] 71) (by intro u hu; simp at hu; rcases hu with rfl | rfl <;> rfl) (fun h => by cases h) (by unfold maxLen; omega) (by omega) (by simp; omega) ?_)
      intro r5 d5 w5 ho5 hg5 ht5
      have HB5 : Hid (Below w.heap.size w w5) := (hbw.alloc hbw.size _).grown hg5 (by have := hbw.size; simp; omega) (fun j hj => by have := (HOE.out.lt j hj).1; omega)
      have HO5 := Hid.mk ho5
      clear ho5 hg5 ht5
      go_wp2
      refine bodyPost_ret (v := .tuple #[.slice r5 (m + 1) d5, .bool true]) (by simp [results, Try.results42, go_sem]) rfl ⟨r5, m + 1, d5, ?_, ?_, ?_, HB5.out⟩
      · rw [HEF.out]
      · rw [HEF.out, List.length_append, HML.out]; rfl
      · rw [HEF.out, flatE_snoc]; exact owns_mono HO5.out (by omega)

end Go.Proofs.Yteggbamjfhbmfaa

/- Contract of impl.EdgesOf. -/
namespace Go.Proofs.Yteggbamjfhbmfaa
open Go.RowKit

theorem atQ_one {w : World} {B : Nat} {x : Atm} {va : Option Addr} {vn vc : Nat} (h0 : w.cell? ⟨B, 0, none⟩ = some (.int .i64 x.1)) (h1 : w.cell? ⟨B, 1, none⟩ = some (.slice va vn vc)) (u1 : x.2.length = vn) (u2 : vn ≤ 9223372036854775807) (u3 : At w va x.2) (u4 : va = none → vc = 0) : AtQ w (some ⟨B, 0, none⟩) [x] := by
  refine .inr ⟨B, 0, rfl, fun i y hy => ?_⟩
  match i, hy with
  | 0, hy =>
    obtain rfl : x = y := by simpa using hy
    refine ⟨[.int .i64 x.1, .slice va vn vc], fun j v hv => ?_, [.int .i64 x.1], [.slice va vn vc], rfl, rfl, va, vn, vc, rfl, u1, u2, atSl_int.2 u3, u4⟩
    match j, hv with
    | 0, hv => obtain rfl := Option.some.inj hv; simpa using h0
    | 1, hv => obtain rfl := Option.some.inj hv; simpa using h1
    | j + 2, hv => simp at hv
  | i + 1, hy => simp at hy

set_option maxRecDepth 100000 in
set_option maxHeartbeats 4000000 in
theorem implEdgesOf (ha : Option Addr) (hn hc : Nat) (hs : List Int) (a : Option Addr) (n c : Nat) (zs : List Atm) (ta : Option Addr) (tn tc : Nat) (ts : List Int) (w : World) (hh : hs.length = hn) (hhb : hn ≤ 9223372036854775807) (hat : At w ha hs) (hz : zs.length = n) (hb : n ≤ 9223372036854775807) (haz : AtQ w a zs) (htz : ts.length = tn) (htb : tn ≤ 9223372036854775807) (hta : At w ta ts) :
    Calls Try.prog 41 #[.agg #[.slice ha hn hc, .slice a n c], .slice ta tn tc] w fun e w' => KeysRet e w' w.heap.size (gqB hs zs ts) (edL hs zs ts) ∧ Below w.heap.size w w' := by
  obtain ⟨k0, hk, hx0, hx1, hx2⟩ := info_parts Try.infoInts
  obtain ⟨W, hW⟩ : ∃ W, W = w.alloc (.cells #[.slice ha hn hc, .slice a n c] 32) := ⟨_, rfl⟩
  have B0 : Below w.heap.size w W := by rw [hW]; exact (Below.refl _ _).alloc (Nat.le_refl _) _
  have q0 : W.cell? ⟨w.heap.size, 0, none⟩ = some (.slice ha hn hc) := by rw [hW]; exact pair0 w _ _ _
  have q1 : W.cell? ⟨w.heap.size, 1, none⟩ = some (.slice a n c) := by rw [hW]; exact pair1 w _ _ _
  have zW : w.heap.size < W.heap.size := by rw [hW]; simp
  have HZ := Hid.mk hz
  have HA := Hid.mk haz
  have HC := Hid.mk (implGoodQuery ha hn hc hs a n c zs ta tn tc ts W hh hhb (At.below hat B0) hz hb (AtSl.below haz B0) htz htb (At.below hta B0))
  clear hh hat hz haz htz hta
  go_enter Try.func41, Try.ntmps41
  go_upto_region 1 with fail
  rw [← hW]
  clear hW
  go_wp2_with fail
  refine HC.out.mono ?_
  rintro e w1 ⟨rfl, B1⟩
  have q0 := cell_later B1 q0
  have q1 := cell_later B1 q1
  have BW := B0.trans (B1.mono B0.size)
  have zw1 := B1.size
  cases hg : gqB hs zs ts with
  | false =>
    have HN := Hid.mk (keysRet_none w1 w.heap.size hg (edL_no hg))
    clear hg
    go_wp2
    exact bodyPost_ret (v := .tuple #[.slice none 0 0, .bool false]) (by simp [results, Try.results41, go_sem]) rfl ⟨HN.out, BW⟩
  | true =>
    have HOK := Hid.mk (gq_ok hg)
    have HE := Hid.mk (edL_yes hg)
    have HG := Hid.mk hg
    have hn5 : n ≤ 5 := by have := HOK.out.1; have := HZ.out; omega
    have HBW := Hid.mk BW
    clear hg BW B1
    go_wp2_with fail
    go_loopw [6, 18] (fun p i wr => ∃ (k : Nat) (r : Option Addr) (d : Nat) (cells : List Value) (G : Nat → Nat → Prop), k ≤ n ∧ i = .int .i64 k ∧ p = .slice r k d ∧ Laid RInts wr (From w.heap.size wr.heap.size) 22 r k d (edges (zs.take k)) cells G k ∧ Below w.heap.size w wr) (fun _ i _ => n - (intOf i).toNat)
    case atStart => exact ⟨0, none, 0, [], _, Nat.zero_le _, rfl, rfl, Laid.none _ _ _ _, HBW.out⟩
    case round =>
      clear HBW q0 q1 zw1 HC zW B0
      obtain ⟨k, r, d, cells, G, hk1, rfl, rfl, hlaid, hbw⟩ := hrel
      obtain ⟨wY, rfl⟩ : ∃ x, x = wr := ⟨_, rfl⟩
      by_cases hlt : k < n
      · obtain ⟨x, hx⟩ : ∃ x, zs[k]? = some x := ⟨_, List.getElem?_eq_getElem (by have := HZ.out; omega)⟩
        have HAK : Hid (aOk x = true) := HOK.out.2 x (List.mem_of_getElem? hx)
        have HTK := Hid.mk (edges_take zs k hx)
        obtain ⟨b, off, rfl, _, hc⟩ := AtQ.row HA.out (by have := HZ.out; omega)
        obtain ⟨va, vn, vc, g0, g1, u1, u2, u3, u4⟩ := hc k x hx
        have g0 := cell_later hbw g0
        have g1 := cell_later hbw g1
        have hki : (k : Int) < (n : Int) := by omega
        have zY := hbw.size
        have HV := Hid.mk (At.below u3 hbw)
        have HV4 := Hid.mk u4
        have HV1 := Hid.mk u1
        have HLA := Hid.mk hlaid
        have HB := Hid.mk hbw
        obtain ⟨U, hU⟩ : ∃ U, U = wY.alloc (.cells #[.int .i64 x.1, .slice va vn vc] 76) := ⟨_, rfl⟩
        have BU : Below wY.heap.size wY U := by rw [hU]; exact (Below.refl _ _).alloc (Nat.le_refl _) _
        have p0 : U.cell? ⟨wY.heap.size, 0, none⟩ = some (.int .i64 x.1) := by rw [hU]; exact pair0 wY _ _ _
        have p1 : U.cell? ⟨wY.heap.size, 1, none⟩ = some (.slice va vn vc) := by rw [hU]; exact pair1 wY _ _ _
        have zU : wY.heap.size < U.heap.size := by rw [hU]; simp
        clear hlaid hbw hc u1 u3 u4 hx
        go_upto_region 7 with fail
        rw [← hU]
        clear hU g0 g1
        obtain ⟨V, hV⟩ : ∃ V, V = U.alloc (.cells #[.int .i64 x.1, .slice va vn vc] 76) := ⟨_, rfl⟩
        have BV : Below U.heap.size U V := by rw [hV]; exact (Below.refl _ _).alloc (Nat.le_refl _) _
        have v0 : V.cell? ⟨U.heap.size, 0, none⟩ = some (.int .i64 x.1) := by rw [hV]; exact pair0 U _ _ _
        have v1 : V.cell? ⟨U.heap.size, 1, none⟩ = some (.slice va vn vc) := by rw [hV]; exact pair1 U _ _ _
        have hone : AtQ V (some ⟨U.heap.size, 0, none⟩) [x] := atQ_one v0 v1 HV1.out u2 (At.below (At.below HV.out BU) BV) HV4.out
        have HC2 := Hid.mk (implVarsIn none 0 0 (some ⟨U.heap.size, 0, none⟩) 1 1 [x] V rfl (by omega) hone)
        rw [(qv_one HAK.out).1, (qv_one HAK.out).2] at HC2
        have zV := BV.size
        clear v0 v1 hone
        go_wp2_with fail
        rw [← hV]
        refine HC2.out.mono ?_
        rintro e w2 ⟨⟨r2, m2, d2, rfl, hl2, ho2⟩, hb2⟩
        have HOI : Hid (RInts.Own w2 (From wY.heap.size w2.heap.size) [.slice r2 m2 d2] (edge x)) := RInts.mono (RInts.of_owns hl2 (by have := bl_len (mk x.2); have : (edge x).length ≤ 6 := this; omega) ho2) (fun b h => ⟨by have := h.1; omega, h.2⟩)
        have HB2 : Hid (Below wY.heap.size wY w2) := BU.trans ((BV.mono (by omega)).trans (hb2.mono (by omega)))
        have HW4 : Hid (w2.ownsRow w.heap.size 22 1 (.slice r k d) k cells) := HLA.out.base HB2.out
        have z2 := HB2.out.size
        clear hl2 ho2 hb2 HC2
        go_wp2_with (at_builtin; refine wpList_app_vals rfl (.tmp 29) (.tmp 31) 48 rfl w.heap.size 22 k0 (.slice none 0 0) 1 24 Try.underlying48 hk hx0 hx1 hx2 rfl (by decide) (.slice r k d) k cells rfl (HW4.out.alloc _) (some ⟨w2.heap.size, 0, none⟩) 1 1 [.slice r2 m2 d2] rfl rfl (fun ad he => by cases he; simpa using news_at w2 #[.slice r2 m2 d2] 22) (by simp; rfl) (fun h => by cases h) (by unfold maxLen; omega) (by omega) (by simp; omega) ?_)
        intro r4 d4 w5 ho4 hg4 ht4
        obtain ⟨G', HL'⟩ : ∃ G', Hid (Laid RInts w5 (From w.heap.size w5.heap.size) 22 r4 (k + 1) d4 (edges (zs.take (k + 1))) (cells ++ [.slice r2 m2 d2]) G' (k + 1)) := by
          rw [HTK.out]
          obtain ⟨G', h⟩ := HLA.out.told zY HB2.out HOI.out ho4 hg4 (by omega) ht4
          exact ⟨G', Hid.mk h⟩
        have HB5 := Hid.mk (HLA.out.told_below HB.out zY HB2.out hg4)
        clear ho4 hg4 ht4 HLA HB HB2 HW4 HOI
        go_wp2
        go_roundw
        case rel => exact ⟨k + 1, r4, d4, _, G', by omega, by go_num, rfl, HL'.out, HB5.out⟩
        case measure => simp [intOf]; omega
      · obtain rfl : k = n := by omega
        rw [List.take_of_length_le (by have := HZ.out; omega), ← HE.out] at hlaid
        have HR : Hid (KeysRet (.returned (.tuple #[.slice r k d, .bool true])) wY w.heap.size (gqB hs zs ts) (edL hs zs ts)) := by
          show KeysRet _ _ _ _ _
          rw [HG.out]
          exact ⟨r, k, d, rfl, _, _, _, cells, G, rfl, hlaid⟩
        have HB := Hid.mk hbw
        have hki : ¬ (k : Int) < (k : Int) := by omega
        clear hlaid hbw
        go_wp2
        exact bodyPost_ret (v := .tuple #[.slice r k d, .bool true]) (by simp [results, Try.results41, go_sem]) rfl ⟨HR.out, HB.out⟩

end Go.Proofs.Yteggbamjfhbmfaa
