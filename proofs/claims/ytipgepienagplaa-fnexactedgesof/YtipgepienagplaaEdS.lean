/- Contracts of spec.l11Edge, spec.EdgesOf. -/
import Derived.Test.YtipgepienagplaaGqS
import Derived.Test.YtipgepienagplaaEdP
import Derived.Test.YtipgepienagplaaKrR
import Derived.Test.YtipgepienagplaaPsL
import Derived.Test.YtipgepienagplaaStepW
import Derived.Deep.CutBlock
namespace Go.Proofs.Ytipgepienagplaa
open Go.RowKit

set_option maxRecDepth 100000 in
set_option maxHeartbeats 4000000 in
theorem l11Edge_any (p : Int) (a : Option Addr) (n c : Nat) (zs : List Int) (w : World) (hz : zs.length = n) (hb : n ≤ 9223372036854775807) (hin : ∀ v ∈ zs, (0 : Int) ≤ v ∧ v < 6) (hat : At w a zs) :
    Calls Try.prog 83 #[.agg #[.int .i64 p, .slice a n c]] w fun e w' => ∃ r m d, e = .returned (.slice r m d) ∧ (bl (mk zs)).length = m ∧ w'.ownsRow w.heap.size 3 1 (.slice r m d) m ((bl (mk zs)).map (.int .i64)) ∧ Below w.heap.size w w' := by
  obtain ⟨W, hW⟩ : ∃ W, W = w.alloc (.cells #[.int .i64 p, .slice a n c] 81) := ⟨_, rfl⟩
  have B0 : Below w.heap.size w W := by rw [hW]; exact (Below.refl _ _).alloc (Nat.le_refl _) _
  have q1 : W.cell? ⟨w.heap.size, 1, none⟩ = some (.slice a n c) := by rw [hW]; exact pair1 w _ _ _
  have HZ := Hid.mk hz
  have HA := Hid.mk hat
  have HIN := Hid.mk hin
  have HE : Hid (∀ wr : World, wr.ownsRow w.heap.size 3 1 (.slice none 0 0) 0 ((bl (mk (zs.take 0))).map (.int .i64))) := fun wr => (by rw [List.take_zero, show bl (mk []) = [] by decide +kernel]; exact World.ownsRow_nil _ _ _ _)
  clear hz hat hin
  go_enter Try.func83, Try.ntmps83
  go_upto_region 1 with fail
  rw [← hW]
  clear hW
  go_wp2_with fail
  go_loopw [3, 9] (fun p i wr => ∃ (k m : Nat) (r : Option Addr) (d : Nat), k ≤ n ∧ i = .int .i64 k ∧ p = .slice r m d ∧ (bl (mk (zs.take k))).length = m ∧ wr.ownsRow w.heap.size 3 1 (.slice r m d) m ((bl (mk (zs.take k))).map (.int .i64)) ∧ Below w.heap.size w wr) (fun _ i _ => n - (intOf i).toNat)
  case atStart => exact ⟨0, 0, none, 0, Nat.zero_le _, rfl, rfl, by rw [List.take_zero]; decide +kernel, HE.out _, B0⟩
  case round =>
    clear HE B0 q1
    obtain ⟨j, m', r', d', hj, rfl, rfl, hm', ho', hbx⟩ := hrel
    obtain ⟨wX, rfl⟩ : ∃ x, x = wr := ⟨_, rfl⟩
    by_cases hjt : j < n
    · have hAx := At.below HA.out hbx
      obtain ⟨b', off', rfl, _, hcx⟩ := hAx.some (by have := HZ.out; omega)
      have hv := hcx j (by have := HZ.out; omega)
      have hji : (j : Int) < (n : Int) := by omega
      have hins : insI (bl (mk (zs.take j))) (zs.getD j 0) = bl (mk (zs.take (j + 1))) := by
        have h9 := ins_take (s := 0) (by omega) HIN.out (show j < zs.length by have := HZ.out; omega)
        simpa using h9
      have hml : m' ≤ 2097152 := by have := bl_len (mk (zs.take j)); omega
      obtain ⟨y, hy⟩ : ∃ y, y = zs.getD j 0 := ⟨_, rfl⟩
      rw [← hy] at hv hins
      have HI := Hid.mk hins
      have HP := Hid.mk (l7Put_any w.heap.size r' m' d' (bl (mk (zs.take j))) y wX hm' hml hbx.size ho')
      have HBX := Hid.mk hbx
      clear hcx hy hins hm' ho' hbx hAx hml
      go_wp2_with fail
      refine HP.out.mono ?_
      rintro e w2 ⟨r2, m2, d2, rfl, h2, o2, b2⟩
      rw [HI.out] at h2 o2
      have HH := Hid.mk h2
      have HO2 := Hid.mk o2
      have HB2 := Hid.mk (HBX.out.trans (b2.mono HBX.out.size))
      clear h2 o2 b2 HBX HP
      go_wp2
      go_roundw
      case rel => exact ⟨j + 1, m2, r2, d2, by omega, by go_num, rfl, HH.out, HO2.out, HB2.out⟩
      case measure => simp [intOf]; omega
    · obtain rfl : j = n := by omega
      rw [List.take_of_length_le (by have := HZ.out; omega)] at hm' ho'
      have HM := Hid.mk hm'
      have HO := Hid.mk ho'
      clear hm' ho'
      go_wp2
      go_ret
      exact ⟨r', m', d', rfl, HM.out, HO.out, hbx⟩

set_option maxRecDepth 100000 in
set_option maxHeartbeats 4000000 in
theorem specEdgesOf (ha : Option Addr) (hn hc : Nat) (hs : List Int) (a : Option Addr) (n c : Nat) (zs : List Atm) (ta : Option Addr) (tn tc : Nat) (ts : List Int) (w : World) (hh : hs.length = hn) (hhb : hn ≤ 9223372036854775807) (hat : At w ha hs) (hz : zs.length = n) (hb : n ≤ 9223372036854775807) (haz : AtQ w a zs) (htz : ts.length = tn) (htb : tn ≤ 9223372036854775807) (hta : At w ta ts) :
    Calls Try.prog 43 #[.agg #[.slice ha hn hc, .slice a n c], .slice ta tn tc] w fun e w' => KeysRet e w' w.heap.size (gqB hs zs ts) (edL hs zs ts) ∧ Below w.heap.size w w' := by
  obtain ⟨k0, hk, hx0, hx1, hx2⟩ := info_parts Try.infoInts
  obtain ⟨W, hW⟩ : ∃ W, W = w.alloc (.cells #[.slice ha hn hc, .slice a n c] 34) := ⟨_, rfl⟩
  have B0 : Below w.heap.size w W := by rw [hW]; exact (Below.refl _ _).alloc (Nat.le_refl _) _
  have q0 : W.cell? ⟨w.heap.size, 0, none⟩ = some (.slice ha hn hc) := by rw [hW]; exact pair0 w _ _ _
  have q1 : W.cell? ⟨w.heap.size, 1, none⟩ = some (.slice a n c) := by rw [hW]; exact pair1 w _ _ _
  have zW : w.heap.size < W.heap.size := by rw [hW]; simp
  have HZ := Hid.mk hz
  have HA := Hid.mk haz
  have HC := Hid.mk (specGoodQuery ha hn hc hs a n c zs ta tn tc ts W hh hhb (At.below hat B0) hz hb (AtSl.below haz B0) htz htb (At.below hta B0))
  clear hh hat hz haz htz hta
  go_enter Try.func43, Try.ntmps43
  go_upto_region 1 with fail
  rw [← hW]
  clear hW
  go_wp2_with fail
  refine HC.out.mono ?_
  rintro e w1 ⟨rfl, B1⟩
  have q0 := cell_later B1 q0
  have q1 := cell_later B1 q1
  have BW := B0.trans (B1.mono B0.size)
  have zw1 := B1.size
  cases hg : gqB hs zs ts with
  | false =>
    have HN := Hid.mk (keysRet_none w1 w.heap.size hg (edL_no hg))
    clear hg
    go_wp2
    exact bodyPost_ret (v := .tuple #[.slice none 0 0, .bool false]) (by simp [results, Try.results43, go_sem]) rfl ⟨HN.out, BW⟩
  | true =>
    have HOK := Hid.mk (gq_ok hg)
    have HE := Hid.mk (edL_yes hg)
    have HG := Hid.mk hg
    have hn5 : n ≤ 5 := by have := HOK.out.1; have := HZ.out; omega
    have HBW := Hid.mk BW
    clear hg BW B1
    go_wp2_with fail
    go_loopw [6, 16] (fun p i wr => ∃ (k : Nat) (r : Option Addr) (d : Nat) (cells : List Value) (G : Nat → Nat → Prop), k ≤ n ∧ i = .int .i64 k ∧ p = .slice r k d ∧ Laid RInts wr (From w.heap.size wr.heap.size) 22 r k d (edges (zs.take k)) cells G k ∧ Below w.heap.size w wr) (fun _ i _ => n - (intOf i).toNat)
    case atStart => exact ⟨0, none, 0, [], _, Nat.zero_le _, rfl, rfl, Laid.none _ _ _ _, HBW.out⟩
    case round =>
      clear HBW q0 q1 zw1 HC zW B0
      obtain ⟨k, r, d, cells, G, hk1, rfl, rfl, hlaid, hbw⟩ := hrel
      obtain ⟨wY, rfl⟩ : ∃ x, x = wr := ⟨_, rfl⟩
      by_cases hlt : k < n
      · obtain ⟨x, hx⟩ : ∃ x, zs[k]? = some x := ⟨_, List.getElem?_eq_getElem (by have := HZ.out; omega)⟩
        have HAK : Hid (aOk x = true) := HOK.out.2 x (List.mem_of_getElem? hx)
        have HTK := Hid.mk (edges_take zs k hx)
        obtain ⟨b, off, rfl, _, hc⟩ := AtQ.row HA.out (by have := HZ.out; omega)
        obtain ⟨va, vn, vc, g0, g1, u1, u2, u3, u4⟩ := hc k x hx
        have g0 := cell_later hbw g0
        have g1 := cell_later hbw g1
        have hki : (k : Int) < (n : Int) := by omega
        have zY := hbw.size
        have HV := Hid.mk (At.below u3 hbw)
        have HV4 := Hid.mk u4
        have HV1 := Hid.mk u1
        have HLA := Hid.mk hlaid
        have HB := Hid.mk hbw
        obtain ⟨U, hU⟩ : ∃ U, U = wY.alloc (.cells #[.int .i64 x.1, .slice va vn vc] 81) := ⟨_, rfl⟩
        have BU : Below wY.heap.size wY U := by rw [hU]; exact (Below.refl _ _).alloc (Nat.le_refl _) _
        have p0 : U.cell? ⟨wY.heap.size, 0, none⟩ = some (.int .i64 x.1) := by rw [hU]; exact pair0 wY _ _ _
        have p1 : U.cell? ⟨wY.heap.size, 1, none⟩ = some (.slice va vn vc) := by rw [hU]; exact pair1 wY _ _ _
        have zU : wY.heap.size < U.heap.size := by rw [hU]; simp
        clear hlaid hbw hc u1 u3 u4 hx
        go_upto_region 7 with fail
        rw [← hU]
        clear hU g0 g1
        have HC2 := Hid.mk (l11Edge_any x.1 va vn vc x.2 U HV1.out u2 (aOk_in HAK.out) (At.below HV.out BU))
        go_wp2_with fail
        refine HC2.out.mono ?_
        rintro e w2 ⟨r2, m2, d2, rfl, hl2, ho2, hb2⟩
        have HOI : Hid (RInts.Own w2 (From wY.heap.size w2.heap.size) [.slice r2 m2 d2] (edge x)) := RInts.mono (RInts.of_owns hl2 (by have := bl_len (mk x.2); have : (edge x).length ≤ 6 := this; omega) ho2) (fun b h => ⟨by have := h.1; omega, h.2⟩)
        have HB2 : Hid (Below wY.heap.size wY w2) := BU.trans (hb2.mono (by omega))
        have HW4 : Hid (w2.ownsRow w.heap.size 22 1 (.slice r k d) k cells) := HLA.out.base HB2.out
        have z2 := HB2.out.size
        clear hl2 ho2 hb2 HC2
        go_wp2_with (at_builtin; refine wpList_app_vals rfl (.tmp 20) (.tmp 23) 56 rfl w.heap.size 22 k0 (.slice none 0 0) 1 24 Try.underlying56 hk hx0 hx1 hx2 rfl (by decide) (.slice r k d) k cells rfl (HW4.out.alloc _) (some ⟨w2.heap.size, 0, none⟩) 1 1 [.slice r2 m2 d2] rfl rfl (fun ad he => by cases he; simpa using news_at w2 #[.slice r2 m2 d2] 22) (by simp; rfl) (fun h => by cases h) (by unfold maxLen; omega) (by omega) (by simp; omega) ?_)
        intro r4 d4 w5 ho4 hg4 ht4
        obtain ⟨G', HL'⟩ : ∃ G', Hid (Laid RInts w5 (From w.heap.size w5.heap.size) 22 r4 (k + 1) d4 (edges (zs.take (k + 1))) (cells ++ [.slice r2 m2 d2]) G' (k + 1)) := by
          rw [HTK.out]
          obtain ⟨G', h⟩ := HLA.out.told zY HB2.out HOI.out ho4 hg4 (by omega) ht4
          exact ⟨G', Hid.mk h⟩
        have HB5 := Hid.mk (HLA.out.told_below HB.out zY HB2.out hg4)
        clear ho4 hg4 ht4 HLA HB HB2 HW4 HOI
        go_wp2
        go_roundw
        case rel => exact ⟨k + 1, r4, d4, _, G', by omega, by go_num, rfl, HL'.out, HB5.out⟩
        case measure => simp [intOf]; omega
      · obtain rfl : k = n := by omega
        rw [List.take_of_length_le (by have := HZ.out; omega), ← HE.out] at hlaid
        have HR : Hid (KeysRet (.returned (.tuple #[.slice r k d, .bool true])) wY w.heap.size (gqB hs zs ts) (edL hs zs ts)) := by
          show KeysRet _ _ _ _ _
          rw [HG.out]
          exact ⟨r, k, d, rfl, _, _, _, cells, G, rfl, hlaid⟩
        have HB := Hid.mk hbw
        have hki : ¬ (k : Int) < (k : Int) := by omega
        clear hlaid hbw
        go_wp2
        exact bodyPost_ret (v := .tuple #[.slice r k d, .bool true]) (by simp [results, Try.results43, go_sem]) rfl ⟨HR.out, HB.out⟩

end Go.Proofs.Ytipgepienagplaa
