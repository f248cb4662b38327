/- Several texts of one proof, in build order: ErS, ErT, GsP, SzP. -/
import Derived.Test.YteggbamjfhbmfaaM7
import Derived.Test.YteggbamjfhbmfaaM10
import Derived.Test.YteggbamjfhbmfaaM9
import Derived.Test.YteggbamjfhbmfaaM0
import Derived.Test.YteggbamjfhbmfaaM4

/- Contract of spec.l11Shared. -/
namespace Go.Proofs.Yteggbamjfhbmfaa
open Go.RowKit

/-- The variables of atom o. -/
def atv (zs : List Atm) (o : Int) : List Int := ((zs[o.toNat]?).getD (0, [])).2
def shIn (zs : List Atm) (os : List Int) (v : Int) : List Int := (os.filter fun o => decide (v ∈ atv zs o)).map fun _ => v
/-- Those of some variables that some atoms have, too. -/
def shT (zs : List Atm) (os ys : List Int) : List Int := ys.flatMap (shIn zs os)
theorem shIn_take {zs : List Atm} {os : List Int} {j : Nat} {o : Int} (v : Int) (h : os[j]? = some o) : shIn zs (os.take (j + 1)) v = shIn zs (os.take j) v ++ (if v ∈ atv zs o then [v] else []) := by
  obtain ⟨hj, rfl⟩ := List.getElem?_eq_some_iff.1 h
  unfold shIn
  rw [List.take_succ_eq_append_getElem hj, List.filter_append, List.map_append]
  congr 1
  by_cases e : v ∈ atv zs os[j] <;> simp [e]
theorem shT_take {zs : List Atm} {os ys : List Int} {i : Nat} {v : Int} (h : ys[i]? = some v) : shT zs os (ys.take (i + 1)) = shT zs os (ys.take i) ++ shIn zs os v := by
  obtain ⟨hj, rfl⟩ := List.getElem?_eq_some_iff.1 h
  unfold shT
  rw [List.take_succ_eq_append_getElem hj, List.flatMap_append]
  simp
theorem mem_shIn {zs : List Atm} {os : List Int} {v u : Int} : u ∈ shIn zs os v ↔ u = v ∧ ∃ o ∈ os, v ∈ atv zs o := by
  unfold shIn
  simp only [List.mem_map, List.mem_filter, decide_eq_true_eq]
  constructor
  · rintro ⟨o, ⟨h1, h2⟩, rfl⟩; exact ⟨rfl, o, h1, h2⟩
  · rintro ⟨rfl, o, h1, h2⟩; exact ⟨o, ⟨h1, h2⟩, rfl⟩
theorem mem_shT {zs : List Atm} {os ys : List Int} {u : Int} : u ∈ shT zs os ys ↔ u ∈ ys ∧ ∃ o ∈ os, u ∈ atv zs o := by
  unfold shT
  rw [List.mem_flatMap]
  constructor
  · rintro ⟨v, hv, h⟩; obtain ⟨rfl, h2⟩ := mem_shIn.1 h; exact ⟨hv, h2⟩
  · rintro ⟨h1, h2⟩; exact ⟨u, h1, mem_shIn.2 ⟨rfl, h2⟩⟩
theorem ins_mk {T : List Int} {x : Int} (hT : ∀ y ∈ T, 0 ≤ y ∧ y < 6) (h0 : 0 ≤ x) (h6 : x < 6) : insI (bl (mk T)) x = bl (mk (T ++ [x])) := by
  have h9 := ins_take (s := 0) (zs := T ++ [x]) (k := T.length) (by omega) (fun y hy => by
    rcases List.mem_append.1 hy with h | h
    · exact hT y h
    · simp at h; subst h; exact ⟨h0, h6⟩) (by simp)
  have e2 : (T ++ [x]).take (T.length + 1) = T ++ [x] := List.take_of_length_le (by simp)
  rw [e2] at h9
  simpa using h9

set_option maxRecDepth 100000 in
set_option maxHeartbeats 8000000 in
theorem l11Shared_any (ha : Option Addr) (hn hc : Nat) (a : Option Addr) (n c : Nat) (zs : List Atm) (k : Nat) (oa : Option Addr) (on oc : Nat) (os : List Int) (w : World) (x : Atm) (hz : zs.length = n) (hb : n ≤ 9223372036854775807) (haz : AtQ w a zs) (hok : ∀ x ∈ zs, aOk x = true) (hx : zs[k]? = some x) (hoz : os.length = on) (hob : on ≤ 1048576) (hoa : At w oa os) (hos : ∀ o ∈ os, 0 ≤ o ∧ o < (n : Int)) :
    Calls Try.prog 48 #[.agg #[.slice ha hn hc, .slice a n c], .int .i64 (k : Nat), .slice oa on oc] w fun e w' => ∃ r m d, e = .returned (.slice r m d) ∧ (bl (mk (shT zs os (edge x)))).length = m ∧ w'.ownsRow w.heap.size 3 1 (.slice r m d) m ((bl (mk (shT zs os (edge x)))).map (.int .i64)) ∧ Below w.heap.size w w' := by
  have hkn : k < n := by have := (List.getElem?_eq_some_iff.1 hx).1; omega
  obtain ⟨W, hW⟩ : ∃ W, W = w.alloc (.cells #[.slice ha hn hc, .slice a n c] 32) := ⟨_, rfl⟩
  have B0 : Below w.heap.size w W := by rw [hW]; exact (Below.refl _ _).alloc (Nat.le_refl _) _
  have q1 : W.cell? ⟨w.heap.size, 1, none⟩ = some (.slice a n c) := by rw [hW]; exact pair1 w _ _ _
  have HZ := Hid.mk hz
  have HA := Hid.mk (AtSl.below haz B0)
  have HOZ := Hid.mk hoz
  have HOA := Hid.mk (At.below hoa B0)
  have HOS := Hid.mk hos
  have HOK := Hid.mk hok
  have hxo := hok x (List.mem_of_getElem? hx)
  have hxin := aOk_in hxo
  have HEI : Hid (∀ v ∈ edge x, (0 : Int) ≤ v ∧ v < 6) := fun v hv => hxin v ((mem_bl_mk hxin v).1 hv)
  obtain ⟨b, off, rfl, _, hc9⟩ := AtQ.row HA.out (by have := HZ.out; omega)
  obtain ⟨va, vn, vc, g0, g1, u1, u2, u3, u4⟩ := hc9 k x hx
  have K := Hid.mk (l11Edge_any x.1 va vn vc x.2 W u1 u2 hxin u3)
  have hki : (k : Int) < (n : Int) := by omega
  have HE0 : Hid (∀ wr : World, wr.ownsRow w.heap.size 3 1 (.slice none 0 0) 0 ((bl (mk (shT zs os ((edge x).take 0)))).map (.int .i64))) := fun wr => (by rw [List.take_zero]; show World.ownsRow _ _ _ _ _ _ ((bl (mk [])).map _); rw [show bl (mk []) = [] by decide +kernel]; exact World.ownsRow_nil _ _ _ _)
  have hel : (edge x).length ≤ 6 := bl_len _
  clear hz haz hoz hoa hos hok hxo hxin hc9 u1 u3 u4 hx
  go_enter Try.func48, Try.ntmps48
  go_upto_region 1 with fail
  rw [← hW]
  clear hW
  go_wp2_with fail
  refine K.out.mono ?_
  rintro e w1 ⟨r1, m1, d1, rfl, hm1, ho1, hb1⟩
  have hm1 : (edge x).length = m1 := hm1
  have B1 := B0.trans (hb1.mono B0.size)
  have q1 := cell_later hb1 q1
  have HA1 := Hid.mk (AtSl.below HA.out hb1)
  have HOA1 := Hid.mk (At.below HOA.out hb1)
  have HX1 : Hid (At w1 r1 (edge x)) := At.owned ho1
  have HM1 := Hid.mk hm1
  have HB1 := Hid.mk B1
  have hm6 : m1 ≤ 6 := by omega
  clear hm1 ho1 hb1 B1 K HA HOA g0 g1 B0
  go_wp2_with fail
  go_loopw [7, 19] (fun p i wr => ∃ (t m : Nat) (r : Option Addr) (d : Nat), t ≤ m1 ∧ i = .int .i64 t ∧ p = .slice r m d ∧ (bl (mk (shT zs os ((edge x).take t)))).length = m ∧ wr.ownsRow w.heap.size 3 1 (.slice r m d) m ((bl (mk (shT zs os ((edge x).take t)))).map (.int .i64)) ∧ Below w1.heap.size w1 wr) (fun _ i _ => m1 - (intOf i).toNat)
  case atStart => exact ⟨0, 0, none, 0, Nat.zero_le _, rfl, rfl, by rw [List.take_zero]; exact (by decide +kernel : (bl (mk [])).length = 0), HE0.out _, Below.refl _ _⟩
  case round =>
    clear HE0
    obtain ⟨t, m, r, d, ht, rfl, rfl, hm, ho, hbw⟩ := hrel
    obtain ⟨wY, rfl⟩ : ∃ x, x = wr := ⟨_, rfl⟩
    have HBY := Hid.mk (HB1.out.trans (hbw.mono HB1.out.size))
    by_cases hlt : t < m1
    · obtain ⟨b1, off1, rfl, _, hcv⟩ := (At.below HX1.out hbw).some (by have := HM1.out; omega)
      have hcx := hcv t (by have := HM1.out; omega)
      have hxj : (edge x)[t]? = some ((edge x).getD t 0) := by rw [List.getElem?_eq_getElem (by have := HM1.out; omega)]; simp [List.getD, show t < (edge x).length by have := HM1.out; omega]
      obtain ⟨v, hv⟩ : ∃ v, (edge x).getD t 0 = v := ⟨_, rfl⟩
      rw [hv] at hcx hxj
      have HVI := Hid.mk (HEI.out v (List.mem_of_getElem? hxj))
      have HTK := Hid.mk (shT_take (zs := zs) (os := os) hxj)
      have HTI : Hid (∀ y ∈ shT zs os ((edge x).take t), 0 ≤ y ∧ y < 6) := fun y hy => HEI.out y (List.mem_of_mem_take (mem_shT.1 hy).1)
      obtain ⟨T, hT⟩ : ∃ T, shT zs os ((edge x).take t) = T := ⟨_, rfl⟩
      rw [hT] at hm ho HTK HTI
      have hti : (t : Int) < (m1 : Int) := by omega
      have HO : Hid (wY.ownsRow w.heap.size 3 1 (.slice r m d) m ((bl (mk (T ++ shIn zs (os.take 0) v))).map (.int .i64))) := by
        show World.ownsRow _ _ _ _ _ _ _
        rw [show T ++ shIn zs (os.take 0) v = T by simp [shIn]]; exact ho
      have HM : Hid ((bl (mk (T ++ shIn zs (os.take 0) v))).length = m) := by
        show _ = _
        rw [show T ++ shIn zs (os.take 0) v = T by simp [shIn]]; exact hm
      have q1' := cell_later hbw q1
      have HB := Hid.mk hbw
      clear hcv hv hxj hm ho hbw hT
      go_wp2_with fail
      go_loopw [7, 25] (fun p i wx => ∃ (j m : Nat) (r : Option Addr) (d : Nat), j ≤ on ∧ i = .int .i64 j ∧ p = .slice r m d ∧ (bl (mk (T ++ shIn zs (os.take j) v))).length = m ∧ wx.ownsRow w.heap.size 3 1 (.slice r m d) m ((bl (mk (T ++ shIn zs (os.take j) v))).map (.int .i64)) ∧ Below w1.heap.size w1 wx) (fun _ i _ => on - (intOf i).toNat)
      case atStart => exact ⟨0, m, r, d, Nat.zero_le _, rfl, rfl, HM.out, HO.out, HB.out⟩
      case round =>
        clear HM HO HB q1' hcx
        obtain ⟨j, m, r, d, hj, rfl, rfl, hm, ho, hbw⟩ := hrel
        obtain ⟨wX, rfl⟩ : ∃ x, x = wr := ⟨_, rfl⟩
        by_cases hjt : j < on
        · obtain ⟨b2, off2, rfl, _, hc2⟩ := (At.below HOA1.out hbw).some (by have := HOZ.out; omega)
          have hcx := hc2 j (by have := HOZ.out; omega)
          have hxj : os[j]? = some (os.getD j 0) := by rw [List.getElem?_eq_getElem (by have := HOZ.out; omega)]; simp [List.getD, show j < os.length by have := HOZ.out; omega]
          obtain ⟨o, ho9⟩ : ∃ o, os.getD j 0 = o := ⟨_, rfl⟩
          rw [ho9] at hcx hxj
          have hoi := HOS.out o (List.mem_of_getElem? hxj)
          have HIK := Hid.mk (shIn_take (zs := zs) v hxj)
          obtain ⟨y, rfl⟩ : ∃ y : Nat, o = (y : Int) := ⟨o.toNat, by omega⟩
          have hyn : y < n := by omega
          have hyi : (y : Int) < (n : Int) := by omega
          obtain ⟨x2, hx2⟩ : ∃ x2, zs[y]? = some x2 := ⟨_, List.getElem?_eq_getElem (by have := HZ.out; omega)⟩
          have hav : atv zs (y : Int) = x2.2 := by simp [atv, hx2]
          rw [hav] at HIK
          obtain ⟨b3, off3, he3, _, hc3⟩ := AtQ.row (AtSl.below HA1.out hbw) (by have := HZ.out; omega)
          simp only [Option.some.injEq, Addr.mk.injEq, and_true] at he3
          obtain ⟨rfl, rfl⟩ := he3
          obtain ⟨ya, yn, yc, g0, g1, u1, u2, u3, u4⟩ := hc3 y x2 hx2
          have q1' := cell_later hbw q1
          have K := Hid.mk (l1Has_any ya yn yc x2.2 v wX u1 u2 u3)
          have hji : (j : Int) < (on : Int) := by omega
          have HB := Hid.mk hbw
          have HM := Hid.mk hm
          have HO := Hid.mk ho
          have zX := HB1.out.size
          have zX2 := hbw.size
          have HTS : Hid (∀ y ∈ T ++ shIn zs (os.take j) v, 0 ≤ y ∧ y < 6) := fun y hy => by
            rcases List.mem_append.1 hy with h | h
            · exact HTI.out y h
            · obtain ⟨rfl, _⟩ := mem_shIn.1 h; exact HVI.out
          clear hc2 ho9 hxj hoi hx2 hav hc3 u1 u3 u4 hbw hm ho g0
          cases hhv : decide (v ∈ x2.2) with
          | false =>
            have HE : Hid (shIn zs (os.take (j + 1)) v = shIn zs (os.take j) v) := by show _ = _; rw [HIK.out, if_neg (by simpa using hhv), List.append_nil]
            rw [hhv] at K
            rw [← HE.out] at HM HO
            clear hhv HIK HTS
            go_wp2_with fail
            refine K.out.mono ?_
            rintro e w2 ⟨rfl, h9⟩
            obtain rfl := h9.symm
            clear K
            go_wp2
            go_roundw
            case rel => exact ⟨j + 1, m, r, d, by omega, by go_num, rfl, HM.out, HO.out, HB.out⟩
            case measure => simp [intOf]; omega
          | true =>
            have HE : Hid (T ++ shIn zs (os.take (j + 1)) v = (T ++ shIn zs (os.take j) v) ++ [v]) := by show _ = _; rw [HIK.out, if_pos (by simpa using hhv), List.append_assoc]
            rw [hhv] at K
            have KP := Hid.mk (l7Put_any w.heap.size r m d (bl (mk (T ++ shIn zs (os.take j) v))) v wX HM.out (by have := bl_len (mk (T ++ shIn zs (os.take j) v)); have := HM.out; omega) (by omega) HO.out)
            rw [ins_mk HTS.out HVI.out.1 HVI.out.2, ← HE.out] at KP
            clear hhv HIK HTS HM HO
            go_wp2_with fail
            refine K.out.mono ?_
            rintro e w2 ⟨rfl, h9⟩
            obtain rfl := h9.symm
            clear K
            go_wp2_with fail
            refine KP.out.mono ?_
            rintro e w3 ⟨r3, m3, d3, rfl, hm3, ho3, hb3⟩
            have HB3 := Hid.mk (HB.out.trans (hb3.mono HB.out.size))
            have HM3 := Hid.mk hm3
            have HO3 := Hid.mk ho3
            clear hm3 ho3 hb3 KP
            go_wp2
            go_roundw
            case rel => exact ⟨j + 1, m3, r3, d3, by omega, by go_num, rfl, HM3.out, HO3.out, HB3.out⟩
            case measure => simp [intOf]; omega
        · obtain rfl : j = on := by omega
          rw [List.take_of_length_le (by have := HOZ.out; omega), ← HTK.out] at hm ho
          have hji : ¬ (j : Int) < (j : Int) := by omega
          have HM := Hid.mk hm
          have HO := Hid.mk ho
          clear hm ho
          go_wp2
          go_roundw
          case rel => exact ⟨t + 1, m, r, d, by omega, by go_num, rfl, HM.out, HO.out, hbw⟩
          case measure => simp [intOf]; omega
    · obtain rfl : t = m1 := by omega
      rw [List.take_of_length_le (by have := HM1.out; omega)] at hm ho
      have hti : ¬ (t : Int) < (t : Int) := by omega
      have HM := Hid.mk hm
      have HO := Hid.mk ho
      clear hm ho
      go_wp2
      go_ret
      exact ⟨r, m, d, rfl, HM.out, HO.out, HBY.out⟩

end Go.Proofs.Yteggbamjfhbmfaa

/- The model's first ear: plain, and the contract of spec.l11Ear. -/
namespace Go.Proofs.Yteggbamjfhbmfaa
open Go.RowKit

theorem mem_edge {zs : List Atm} (hok : ∀ x ∈ zs, aOk x = true) {o : Int} (h0 : 0 ≤ o) (h1 : o < (zs.length : Int)) (v : Int) : v ∈ (edges zs).getD o.toNat [] ↔ v ∈ atv zs o := by
  have hi : o.toNat < zs.length := by omega
  have e1 : (edges zs).getD o.toNat [] = edge zs[o.toNat] := by simp [edges, List.getD, hi]
  have e2 : atv zs o = zs[o.toNat].2 := by simp [atv, hi]
  rw [e1, e2]
  exact mem_bl_mk (aOk_in (hok _ (List.getElem_mem hi))) v
theorem hasV_atv {zs : List Atm} (hok : ∀ x ∈ zs, aOk x = true) {o : Int} (h0 : 0 ≤ o) (h1 : o < (zs.length : Int)) (v : Int) : hasV (edges zs) o v = decide (v ∈ atv zs o) := by
  unfold hasV
  exact decide_eq_decide.2 (mem_edge hok h0 h1 v)
theorem mem_woI {L : List Int} {x o : Int} : o ∈ woI L x ↔ o ∈ L ∧ o ≠ x := by simp [woI]
theorem shared_in {zs : List Atm} {x : Atm} (hx : aOk x = true) (os : List Int) : ∀ y ∈ shT zs os (edge x), 0 ≤ y ∧ y < 6 := fun y hy =>
  aOk_in hx y ((mem_bl_mk (aOk_in hx) y).1 (mem_shT.1 hy).1)
theorem shared_hang {zs : List Atm} {L : List Int} {k : Nat} {x : Atm} {o : Int} (hok : ∀ x ∈ zs, aOk x = true) (hL : Atoms (edges zs) L) (hx : zs[k]? = some x) (ho : o ∈ woI L (k : Int)) :
    ((bl (mk (shT zs (woI L (k : Int)) (edge x)))).all fun v => decide (v ∈ atv zs o)) = hangB (edges zs) L (k : Int) o := by
  obtain ⟨hoL, hok2⟩ := mem_woI.1 ho
  have hlen : (edges zs).length = zs.length := edges_len zs
  have hxa := hok x (List.mem_of_getElem? hx)
  have hk : k < zs.length := (List.getElem?_eq_some_iff.1 hx).1
  have hrng : ∀ u ∈ L, 0 ≤ u ∧ u < (zs.length : Int) := fun u hu => by have := hL u hu; omega
  have hek : (edges zs).getD ((k : Int)).toNat [] = edge x := by simp [edges, List.getD, hx]
  unfold hangB
  rw [decide_eq_true hok2, decide_eq_true hoL, hek]
  rw [Bool.eq_iff_iff]
  simp only [List.all_eq_true, Bool.true_and, decide_eq_true_eq]
  have hoth : ∀ v, othB (edges zs) L (k : Int) v = true ↔ ∃ o' ∈ woI L (k : Int), v ∈ atv zs o' := fun v => by
    unfold othB
    rw [List.any_eq_true]
    constructor
    · rintro ⟨o', h1, h2⟩
      simp only [othV, Bool.and_eq_true, decide_eq_true_eq] at h2
      rw [hasV_atv hok (hrng o' h1).1 (hrng o' h1).2] at h2
      exact ⟨o', mem_woI.2 ⟨h1, h2.1⟩, by simpa using h2.2⟩
    · rintro ⟨o', h1, h2⟩
      obtain ⟨h3, h4⟩ := mem_woI.1 h1
      refine ⟨o', h3, ?_⟩
      simp only [othV, Bool.and_eq_true, decide_eq_true_eq]
      rw [hasV_atv hok (hrng o' h3).1 (hrng o' h3).2]
      exact ⟨h4, by simpa using h2⟩
  constructor
  · intro h v hv
    unfold hangV
    cases hb : othB (edges zs) L (k : Int) v with
    | false => rfl
    | true =>
      have := h v ((mem_bl_mk (shared_in hxa _) v).2 (mem_shT.2 ⟨hv, (hoth v).1 hb⟩))
      rw [hasV_atv hok (hrng o hoL).1 (hrng o hoL).2]
      simpa using this
  · intro h v hv
    obtain ⟨h1, h2⟩ := mem_shT.1 ((mem_bl_mk (shared_in hxa _) v).1 hv)
    have := h v h1
    unfold hangV at this
    rw [(hoth v).2 h2, hasV_atv hok (hrng o hoL).1 (hrng o hoL).2] at this
    simpa using this
theorem up_without {E : List (List Int)} {L : List Int} {k : Int} : upI E L k = ((woI L k).find? (hangB E L k)).getD (-1) := by
  unfold upI woI
  rw [List.find?_filter]
  congr 2
  funext u
  by_cases e : u = k
  · subst e; simp [hangB]
  · simp [e]

/-- The first ear, and what it hangs on. -/
def earO (E : List (List Int)) (L : List Int) : Option (Int × Int) := (L.find? fun k => decide (upI E L k ≠ -1)).map fun k => (k, upI E L k)
def earZ (o : Option (Int × Int)) : Int × Int := o.getD (0, 0)

set_option maxRecDepth 100000 in
set_option maxHeartbeats 8000000 in
theorem l11Ear_any (ha : Option Addr) (hn hc : Nat) (a : Option Addr) (n c : Nat) (zs : List Atm) (la : Option Addr) (ln lc : Nat) (L : List Int) (w : World) (hz : zs.length = n) (hb : n ≤ 1048576) (haz : AtQ w a zs) (hok : ∀ x ∈ zs, aOk x = true) (hlz : L.length = ln) (hlb : ln ≤ 1048576) (hla : At w la L) (hL : Atoms (edges zs) L) :
    Calls Try.prog 69 #[.agg #[.slice ha hn hc, .slice a n c], .slice la ln lc] w fun e w' => e = .returned (.tuple #[.agg #[.int .i64 (earZ (earO (edges zs) L)).1, .int .i64 (earZ (earO (edges zs) L)).2], .bool (earO (edges zs) L).isSome]) ∧ Below w.heap.size w w' := by
  obtain ⟨W, hW⟩ : ∃ W, W = (w.alloc (.cells #[.slice ha hn hc, .slice a n c] 32)).alloc (.cells #[.int .i64 0, .int .i64 0] 71) := ⟨_, rfl⟩
  have B0 : Below w.heap.size w W := by rw [hW]; exact ((Below.refl _ _).alloc (Nat.le_refl _) _).alloc (by simp) _
  have q0 : W.cell? ⟨w.heap.size, 0, none⟩ = some (.slice ha hn hc) := by rw [hW]; simp [go_sem]
  have q1 : W.cell? ⟨w.heap.size, 1, none⟩ = some (.slice a n c) := by rw [hW]; simp [go_sem]
  have b1 : W.heap[w.heap.size + 1]? = some (.cells #[.int .i64 0, .int .i64 0] 71 (0, 0)) := by
    rw [hW]
    have h := heap_alloc_new (w.alloc (.cells #[.slice ha hn hc, .slice a n c] 32)) (.cells #[.int .i64 0, .int .i64 0] 71)
    simpa only [World.size_alloc] using h
  have zW : w.heap.size + 1 < W.heap.size := by rw [hW]; simp
  have HZ := Hid.mk hz
  have HA := Hid.mk (AtSl.below haz B0)
  have HLZ := Hid.mk hlz
  have HLA := Hid.mk (At.below hla B0)
  have HL := Hid.mk hL
  have HOK := Hid.mk hok
  have HLR : Hid (∀ u ∈ L, 0 ≤ u ∧ u < (n : Int)) := fun u hu => by have h1 := hL u hu; rw [edges_len] at h1; omega
  obtain ⟨E, hE⟩ : ∃ E, edges zs = E := ⟨_, rfl⟩
  have HE := Hid.mk hE
  rw [hE]
  clear hz haz hlz hla hL hok hE
  go_enter Try.func69, Try.ntmps69
  go_upto_region 1 with fail
  rw [← hW]
  clear hW
  go_wp2_with fail
  go_loopw [14] (fun i wr => ∃ (j : Nat), j ≤ ln ∧ i = .int .i64 j ∧ earO E L = ((L.drop j).find? fun k => decide (upI E L k ≠ -1)).map (fun k => (k, upI E L k)) ∧ Below W.heap.size W wr) (fun i _ => ln - (intOf i).toNat)
  case atStart => exact ⟨0, Nat.zero_le _, rfl, rfl, Below.refl _ _⟩
  case round =>
    obtain ⟨j, hj, rfl, ht, hbw⟩ := hrel
    obtain ⟨wY, rfl⟩ : ∃ x, x = wr := ⟨_, rfl⟩
    have BY := B0.trans (hbw.mono B0.size)
    have q0' := cell_later hbw q0
    have q1' := cell_later hbw q1
    have b2 := blk_below b1 hbw
    by_cases hlt : j < ln
    · have hcc := At.below HLA.out hbw
      have hxj : L[j]? = some (L.getD j 0) := by rw [List.getElem?_eq_getElem (by have := HLZ.out; omega)]; simp [List.getD, show j < L.length by have := HLZ.out; omega]
      obtain ⟨u, hu⟩ : ∃ u, L.getD j 0 = u := ⟨_, rfl⟩
      rw [hu] at hxj
      have huL := HLR.out u (List.mem_of_getElem? hxj)
      rw [find_drop hxj] at ht
      obtain ⟨k, rfl⟩ : ∃ k : Nat, u = (k : Int) := ⟨u.toNat, by omega⟩
      have K1 := Hid.mk (l11Without_any la ln lc L (k : Int) wY HLZ.out hlb hcc)
      obtain ⟨b, off, rfl, _, hc9⟩ := hcc.some (by have := HLZ.out; omega)
      have hcx := hc9 j (by have := HLZ.out; omega)
      rw [hu] at hcx
      have hji : (j : Int) < (ln : Int) := by omega
      obtain ⟨x, hx⟩ : ∃ x, zs[k]? = some x := ⟨_, List.getElem?_eq_getElem (by have := HZ.out; omega)⟩
      have HSH : Hid (∀ o ∈ woI L (k : Int), ((bl (mk (shT zs (woI L (k : Int)) (edge x)))).all fun v => decide (v ∈ atv zs o)) = hangB E L (k : Int) o) := fun o ho => by
        have h9 := shared_hang HOK.out HL.out hx ho
        rw [HE.out] at h9
        exact h9
      have HUP := Hid.mk (up_without (E := E) (L := L) (k := (k : Int)))
      have HOR : Hid (∀ o ∈ woI L (k : Int), 0 ≤ o ∧ o < (n : Int)) := fun o ho => HLR.out o (mem_woI.1 ho).1
      have HOL : Hid ((woI L (k : Int)).length ≤ ln) := by show _ ≤ _; have h8 := woI_len L (k : Int); have h7 := HLZ.out; omega
      obtain ⟨O, hO⟩ : ∃ O, woI L (k : Int) = O := ⟨_, rfl⟩
      rw [hO] at K1 HSH HUP HOR HOL
      have HT := Hid.mk ht
      have HX := Hid.mk hx
      have HB := Hid.mk hbw
      clear hc9 hu hxj ht hbw hcc huL hx hO
      go_wp2_with fail
      refine K1.out.mono ?_
      rintro e w2 ⟨r2, m2, d2, rfl, hm2, ho2, hb2⟩
      have HB2 := Hid.mk (HB.out.trans (hb2.mono HB.out.size))
      have q0'' := cell_later hb2 q0'
      have q1'' := cell_later hb2 q1'
      have HM2 := Hid.mk hm2
      have HA2 : Hid (At w2 r2 O) := At.owned ho2
      have hm2b : m2 ≤ 1048576 := by have := HOL.out; omega
      have K2 := Hid.mk (l11Shared_any ha hn hc a n c zs k r2 m2 d2 O w2 x HZ.out (by omega) (AtSl.below HA.out HB2.out) HOK.out HX.out hm2 hm2b HA2.out HOR.out)
      clear hm2 ho2 hb2 K1 HB
      go_wp2_with fail
      refine K2.out.mono ?_
      rintro e w3 ⟨r3, m3, d3, rfl, hm3, ho3, hb3⟩
      have HB3 := Hid.mk (HB2.out.trans (hb3.mono HB2.out.size))
      have q1a := cell_later hb3 q1''
      have HA3 := Hid.mk (At.below HA2.out hb3)
      have HS3 : Hid (At w3 r3 (bl (mk (shT zs O (edge x))))) := At.owned ho3
      have HAZ := Hid.mk (AtSl.below HA.out HB3.out)
      have hm36 : m3 ≤ 6 := by have := bl_len (mk (shT zs O (edge x))); omega
      have HM3 := Hid.mk hm3
      obtain ⟨S, hS⟩ : ∃ S, bl (mk (shT zs O (edge x))) = S := ⟨_, rfl⟩
      rw [hS] at HS3 HM3 HSH
      have b3 := blk_below b1 HB3.out
      have BB := B0.trans (HB3.out.mono B0.size)
      clear hm3 ho3 hb3 K2 HB2 hS q0'' b2
      go_wp2_with fail
      go_loopw [27] (fun i wx => ∃ (t : Nat), t ≤ m2 ∧ i = .int .i64 t ∧ upI E L (k : Int) = ((O.drop t).find? (hangB E L (k : Int))).getD (-1) ∧ wx = w3) (fun i _ => m2 - (intOf i).toNat)
      case atStart => exact ⟨0, Nat.zero_le _, rfl, HUP.out, rfl⟩
      case round =>
        obtain ⟨t, htm, rfl, hup, rfl⟩ := hrel
        by_cases htl : t < m2
        · obtain ⟨b4, off4, rfl, _, hc4⟩ := HA3.out.some (by have := HM2.out; omega)
          have hcx4 := hc4 t (by have := HM2.out; omega)
          have hxt : O[t]? = some (O.getD t 0) := by rw [List.getElem?_eq_getElem (by have := HM2.out; omega)]; simp [List.getD, show t < O.length by have := HM2.out; omega]
          obtain ⟨o, ho9⟩ : ∃ o, O.getD t 0 = o := ⟨_, rfl⟩
          rw [ho9] at hcx4 hxt
          have hor := HOR.out o (List.mem_of_getElem? hxt)
          have hsh := HSH.out o (List.mem_of_getElem? hxt)
          rw [find_drop hxt] at hup
          obtain ⟨y, rfl⟩ : ∃ y : Nat, o = (y : Int) := ⟨o.toNat, by omega⟩
          have hyi : (y : Int) < (n : Int) := by omega
          obtain ⟨x2, hx2⟩ : ∃ x2, zs[y]? = some x2 := ⟨_, List.getElem?_eq_getElem (by have := HZ.out; omega)⟩
          have hav : atv zs (y : Int) = x2.2 := by simp [atv, hx2]
          rw [hav] at hsh
          obtain ⟨b5, off5, rfl, _, hc5⟩ := AtQ.row HAZ.out (by have := HZ.out; omega)
          obtain ⟨ya, yn, yc, g0, g1, u1, u2, u3, u4⟩ := hc5 y x2 hx2
          have K := Hid.mk (l7All_any ya yn yc x2.2 r3 m3 d3 S wr u1 u2 u3 HM3.out (by omega) HS3.out)
          rw [hsh] at K
          have hti : (t : Int) < (m2 : Int) := by omega
          have HUP2 := Hid.mk hup
          obtain ⟨bb, hbb⟩ : ∃ bb, hangB E L (k : Int) (y : Int) = bb := ⟨_, rfl⟩
          rw [hbb] at K HUP2
          clear hc4 ho9 hxt hsh hup hx2 hav hc5 u1 u3 u4 hbb hor g0
          go_wp2_with fail
          refine K.out.mono ?_
          rintro e w4 ⟨rfl, h9⟩
          obtain rfl := h9.symm
          clear K
          cases bb with
          | true =>
            have HU : Hid (upI E L (k : Int) = (y : Int)) := by show _ = _; rw [HUP2.out]; rfl
            have HR : Hid (earO E L = some ((k : Int), (y : Int))) := by
              show _ = _
              rw [HT.out, if_pos (by rw [HU.out]; exact decide_eq_true (by omega)), Option.map_some, HU.out]
            have e0 := blk_cell b3 0 (v := .int .i64 0) rfl
            have e1 := blk_cell b3 1 (v := .int .i64 0) rfl
            have f0 := blk_frozen b3 0
            have f1 := blk_frozen b3 1
            go_wp2
            refine bodyPost_ret (v := .tuple #[.agg #[.int .i64 (k : Nat), .int .i64 (y : Nat)], .bool true]) (by simp [results, Try.results69, go_sem, e0, e1]) rfl ⟨by rw [HR.out]; rfl, ?_⟩
            exact (BB.setCell (by simp) _).setCell (by simp) _
          | false =>
            have HU : Hid (upI E L (k : Int) = ((O.drop (t + 1)).find? (hangB E L (k : Int))).getD (-1)) := by show _ = _; rw [HUP2.out]; rfl
            go_wp2
            go_roundw
            case rel => exact ⟨t + 1, by omega, by go_num, HU.out, by first | rfl | trivial⟩
            case measure => simp [intOf]; omega
        · obtain rfl : t = m2 := by omega
          rw [List.drop_of_length_le (by have := HM2.out; omega)] at hup
          have HU : Hid (upI E L (k : Int) = -1) := hup
          have HR : Hid (earO E L = ((L.drop (j + 1)).find? fun k => decide (upI E L k ≠ -1)).map (fun k => (k, upI E L k))) := by
            show _ = _
            rw [HT.out, if_neg (by rw [HU.out]; simp)]
          have hti : ¬ (t : Int) < (t : Int) := by omega
          clear hup
          go_wp2
          go_roundw
          case rel => exact ⟨j + 1, by omega, by go_num, HR.out, HB3.out⟩
          case measure => simp [intOf]; omega
    · obtain rfl : j = ln := by omega
      rw [List.drop_of_length_le (by have := HLZ.out; omega)] at ht
      have HR : Hid (earO E L = none) := ht
      have hji : ¬ (j : Int) < (j : Int) := by omega
      have e0 := blk_cell b2 0 (v := .int .i64 0) rfl
      have e1 := blk_cell b2 1 (v := .int .i64 0) rfl
      have f0 := blk_frozen b2 0
      have f1 := blk_frozen b2 1
      clear ht
      go_wp2
      refine bodyPost_ret (v := .tuple #[.agg #[.int .i64 0, .int .i64 0], .bool false]) (by simp [results, Try.results69, go_sem, e0, e1]) rfl ⟨by rw [HR.out]; rfl, ?_⟩
      exact (BY.setCell (by simp) _).setCell (by simp) _

end Go.Proofs.Yteggbamjfhbmfaa

/- Plain: statistics that are good. -/
namespace Go.Proofs.Yteggbamjfhbmfaa
open Go.RowKit

def inB (m x : Int) : Bool := decide (1 ≤ x) && decide (x ≤ m)
def wiB (m : Int) (l : List Int) : Bool := l.all (inB m)
theorem wiB_step {m : Int} {zs : List Int} {k : Nat} (h : k < zs.length) : wiB m (zs.drop k) = (inB m (zs.getD k 0) && wiB m (zs.drop (k + 1))) := by
  rw [List.drop_eq_getElem_cons h]
  have e : zs.getD k 0 = zs[k] := by simp [List.getD, h]
  rw [e]; rfl
theorem wiB_done {m : Int} {zs : List Int} {n : Nat} (h : zs.length = n) : wiB m (zs.drop n) = true := by
  rw [List.drop_of_length_le (by omega)]; rfl
/-- Factors from the kth list on: each has as many numbers as lists stand ahead of it. -/
def facB : Nat → List (List Int) → Bool
  | _, [] => true
  | k, f :: r => (decide (f.length = k) && wiB 10 f) && facB (k + 1) r
theorem facB_step {fs : List (List Int)} {k : Nat} {f : List Int} (h : fs[k]? = some f) : facB k (fs.drop k) = ((decide (f.length = k) && wiB 10 f) && facB (k + 1) (fs.drop (k + 1))) := by
  obtain ⟨hk, rfl⟩ := List.getElem?_eq_some_iff.1 h
  rw [List.drop_eq_getElem_cons hk]; rfl
theorem facB_done {fs : List (List Int)} {n : Nat} (h : fs.length = n) : facB n (fs.drop n) = true := by
  rw [List.drop_of_length_le (by omega)]; rfl
/-- Statistics that are good. -/
def gsB (zs : List Int) (fs : List (List Int)) : Bool := ((decide (1 ≤ zs.length) && decide (zs.length ≤ 6)) && decide (fs.length = zs.length)) && (facB 0 fs && wiB 50 zs)
theorem atS_rw {w : World} {a : Option Addr} {zss : List (List Int)} (h : AtS w a zss) {k : Nat} {zs : List Int} (hk : zss[k]? = some zs) :
    ∃ b off a' c', a = some ⟨b, off, none⟩ ∧ w.cell? ⟨b, off + k, none⟩ = some (.slice a' zs.length c') ∧ zs.length ≤ 9223372036854775807 ∧ At w a' zs := by
  obtain ⟨hl, rfl⟩ := List.getElem?_eq_some_iff.1 hk
  rcases h with h | ⟨b, off, rfl, hc⟩
  · rw [h] at hl; simp at hl
  · obtain ⟨a', c', h1, h2, h3⟩ := hc k hl
    have e : zss.getD k [] = zss[k] := by simp [List.getD, hl]
    rw [e] at h1 h2 h3
    exact ⟨b, off, a', c', rfl, h1, h2, h3⟩

end Go.Proofs.Yteggbamjfhbmfaa

/- Plain: sizes of joins: products of sizes and of factors, in any order. -/
namespace Go.Proofs.Yteggbamjfhbmfaa
open Go.RowKit

def prodL : List Int → Int
  | [] => 1
  | x :: l => x * prodL l
theorem prodL_app : ∀ a b : List Int, prodL (a ++ b) = prodL a * prodL b
  | [], b => by simp [prodL]
  | x :: a, b => by simp only [List.cons_append, prodL, prodL_app a b, Int.mul_assoc]
theorem prodL_perm {a b : List Int} (h : a.Perm b) : prodL a = prodL b := by
  induction h with
  | nil => rfl
  | cons x _ ih => simp only [prodL, ih]
  | swap x y l => simp only [prodL, Int.mul_left_comm]
  | trans _ _ h1 h2 => exact h1.trans h2
theorem prodL_in {m : Int} (hm : 1 ≤ m) : ∀ {l : List Int}, (∀ x ∈ l, 1 ≤ x ∧ x ≤ m) → 1 ≤ prodL l ∧ prodL l ≤ m ^ l.length
  | [], _ => by simp [prodL]
  | x :: l, h => by
    obtain ⟨h1, h2⟩ := prodL_in hm (l := l) fun y hy => h y (List.mem_cons_of_mem _ hy)
    obtain ⟨x1, x2⟩ := h x (List.mem_cons_self ..)
    refine ⟨?_, ?_⟩
    · have := Int.mul_le_mul x1 h1 (by omega) (by omega)
      simpa [prodL] using this
    · have := Int.mul_le_mul x2 h2 (by omega) (by omega)
      simp only [prodL, List.length_cons, Int.pow_succ]
      rw [Int.mul_comm (m ^ _)]; exact this
def sizA (zs : List Int) (x : Int) : Int := zs.getD x.toNat 0
def facA (fs : List (List Int)) (a b : Int) : Int := (fs.getD (max a b).toNat []).getD (min a b).toNat 0
theorem facA_comm (fs : List (List Int)) (a b : Int) : facA fs a b = facA fs b a := by unfold facA; rw [Int.max_comm, Int.min_comm]
def dnP (fs : List (List Int)) : List Int → Int
  | [] => 1
  | x :: l => prodL (l.map (facA fs x)) * dnP fs l
theorem dnP_snoc (fs : List (List Int)) (x : Int) : ∀ l : List Int, dnP fs (l ++ [x]) = dnP fs l * prodL (l.map (facA fs x))
  | [] => by simp [dnP, prodL]
  | y :: l => by
    have ih := dnP_snoc fs x l
    simp only [List.cons_append, dnP, ih, List.map_append, List.map_cons, List.map_nil, prodL_app, prodL, Int.mul_one]
    rw [facA_comm fs y x]
    simp only [Int.mul_assoc, Int.mul_comm, Int.mul_left_comm]
theorem dnP_perm (fs : List (List Int)) {a b : List Int} (h : a.Perm b) : dnP fs a = dnP fs b := by
  induction h with
  | nil => rfl
  | cons x h ih => simp only [dnP, ih, prodL_perm (h.map (facA fs x))]
  | swap x y l =>
    simp only [dnP, List.map_cons, prodL]
    rw [facA_comm fs x y]
    simp only [Int.mul_assoc, Int.mul_comm, Int.mul_left_comm]
  | trans _ _ h1 h2 => exact h1.trans h2
def upP (zs l : List Int) : Int := prodL (l.map (sizA zs))
/-- What a join of some tables tells. -/
def szQ (zs : List Int) (fs : List (List Int)) (l : List Int) : Int := upP zs l / dnP fs l
theorem szQ_perm (zs : List Int) (fs : List (List Int)) {a b : List Int} (h : a.Perm b) : szQ zs fs a = szQ zs fs b := by
  unfold szQ upP
  rw [dnP_perm fs h, prodL_perm (h.map (sizA zs))]
/-- What is known of good statistics. -/
structure GsF (zs : List Int) (fs : List (List Int)) : Prop where
  n1 : 1 ≤ zs.length
  n6 : zs.length ≤ 6
  nf : fs.length = zs.length
  sz : ∀ k, k < zs.length → 1 ≤ zs.getD k 0 ∧ zs.getD k 0 ≤ 50
  fl : ∀ (k : Nat) (f : List Int), fs[k]? = some f → f.length = k
  fc : ∀ k j, k < zs.length → j < k → 1 ≤ (fs.getD k []).getD j 0 ∧ (fs.getD k []).getD j 0 ≤ 10
theorem wiB_all {m : Int} {l : List Int} (h : wiB m l = true) {k : Nat} (hk : k < l.length) : 1 ≤ l.getD k 0 ∧ l.getD k 0 ≤ m := by
  unfold wiB at h
  have h1 := List.all_eq_true.1 h l[k] (List.getElem_mem hk)
  have e : l.getD k 0 = l[k] := by simp [List.getD, hk]
  rw [e]
  simpa [inB] using h1
theorem facB_all : ∀ (fs : List (List Int)) (k : Nat), facB k fs = true → ∀ (j : Nat) (f : List Int), fs[j]? = some f → f.length = k + j ∧ wiB 10 f = true
  | [], _, _, _, _, h => by simp at h
  | g :: r, k, h, j, f, hj => by
    simp only [facB, Bool.and_eq_true, decide_eq_true_eq] at h
    cases j with
    | zero =>
      obtain rfl : g = f := by simpa using hj
      exact ⟨h.1.1, h.1.2⟩
    | succ j =>
      have := facB_all r (k + 1) h.2 j f (by simpa using hj)
      exact ⟨by omega, this.2⟩
theorem gsF {zs : List Int} {fs : List (List Int)} (h : gsB zs fs = true) : GsF zs fs := by
  simp only [gsB, Bool.and_eq_true, decide_eq_true_eq] at h
  obtain ⟨⟨⟨h1, h2⟩, h3⟩, h4, h5⟩ := h
  have hf := facB_all fs 0 h4
  refine ⟨h1, h2, h3, fun k hk => wiB_all h5 hk, fun k f hk => by have := (hf k f hk).1; omega, fun k j hk hj => ?_⟩
  obtain ⟨f, hfk⟩ : ∃ f, fs[k]? = some f := ⟨_, List.getElem?_eq_getElem (by omega)⟩
  have e : fs.getD k [] = f := by simp [List.getD, hfk]
  obtain ⟨g1, g2⟩ := hf k f hfk
  rw [e]
  exact wiB_all g2 (by omega)
/-- Numbers of tables, each once. -/
structure TbL (n : Nat) (l : List Int) : Prop where
  nd : l.Nodup
  lt : ∀ x ∈ l, 0 ≤ x ∧ x < (n : Int)
theorem TbL.len {n : Nat} {l : List Int} (h : TbL n l) : l.length ≤ n := by
  have h1 : (l.map Int.toNat).Nodup := by
    refine List.Pairwise.map _ ?_ (List.Pairwise.and_mem.1 h.nd)
    rintro a b ⟨ha, hb, hab⟩ e
    have := h.lt a ha
    have := h.lt b hb
    exact hab (by omega)
  have h2 := List.Nodup.length_le_of_subset h1 (l₂ := List.range n) (fun x hx => by
    obtain ⟨y, hy, rfl⟩ := List.mem_map.1 hx
    have := h.lt y hy
    simp; omega)
  simpa using h2
theorem TbL.take {n : Nat} {l : List Int} (h : TbL n l) (k : Nat) : TbL n (l.take k) := ⟨h.nd.sublist (List.take_sublist ..), fun x hx => h.lt x (List.mem_of_mem_take hx)⟩
def tri : Nat → Nat
  | 0 => 0
  | k + 1 => tri k + k
theorem sizA_in {zs : List Int} {fs : List (List Int)} (h : GsF zs fs) {x : Int} (hx : 0 ≤ x ∧ x < (zs.length : Int)) : 1 ≤ sizA zs x ∧ sizA zs x ≤ 50 := h.sz _ (by omega)
theorem facA_in {zs : List Int} {fs : List (List Int)} (h : GsF zs fs) {x y : Int} (hx : 0 ≤ x ∧ x < (zs.length : Int)) (hy : 0 ≤ y ∧ y < (zs.length : Int)) (hn : x ≠ y) : 1 ≤ facA fs x y ∧ facA fs x y ≤ 10 :=
  h.fc _ _ (by omega) (by omega)
theorem upP_in {zs : List Int} {fs : List (List Int)} (h : GsF zs fs) {l : List Int} (hl : TbL zs.length l) : 1 ≤ upP zs l ∧ upP zs l ≤ 15625000000 := by
  obtain ⟨h1, h2⟩ := prodL_in (m := 50) (by omega) (l := l.map (sizA zs)) (fun y hy => by obtain ⟨x, hx, rfl⟩ := List.mem_map.1 hy; exact sizA_in h (hl.lt x hx))
  refine ⟨h1, Int.le_trans h2 ?_⟩
  have h3 : l.length ≤ 6 := Nat.le_trans hl.len h.n6
  rw [List.length_map]
  have : ∀ k, k ≤ 6 → (50 : Int) ^ k ≤ 15625000000 := by decide
  exact this _ h3
theorem fac_in {zs : List Int} {fs : List (List Int)} (h : GsF zs fs) {x : Int} (hx : 0 ≤ x ∧ x < (zs.length : Int)) {l : List Int} (hl : TbL zs.length l) (hn : x ∉ l) : 1 ≤ prodL (l.map (facA fs x)) ∧ prodL (l.map (facA fs x)) ≤ 10 ^ l.length := by
  have := prodL_in (m := 10) (by omega) (l := l.map (facA fs x)) (fun y hy => by obtain ⟨z, hz, rfl⟩ := List.mem_map.1 hy; exact facA_in h hx (hl.lt z hz) (fun e => hn (e ▸ hz)))
  simpa using this
theorem dnP_in {zs : List Int} {fs : List (List Int)} (h : GsF zs fs) : ∀ {l : List Int}, TbL zs.length l → 1 ≤ dnP fs l ∧ dnP fs l ≤ 10 ^ tri l.length
  | [], _ => by simp [dnP, tri]
  | x :: l, hl => by
    have hl' : TbL zs.length l := ⟨(List.nodup_cons.1 hl.nd).2, fun y hy => hl.lt y (List.mem_cons_of_mem _ hy)⟩
    obtain ⟨h1, h2⟩ := dnP_in h hl'
    obtain ⟨k1, k2⟩ := fac_in h (hl.lt x (List.mem_cons_self ..)) hl' (List.nodup_cons.1 hl.nd).1
    refine ⟨?_, ?_⟩
    · have := Int.mul_le_mul k1 h1 (by omega) (by omega)
      simpa [dnP] using this
    · have := Int.mul_le_mul k2 h2 (by omega) (by omega)
      simp only [dnP, List.length_cons, tri, Int.pow_add]
      rw [Int.mul_comm (10 ^ tri _)]; exact this
/-- What the inner loop holds: the factors so far. -/
theorem dn_part {zs : List Int} {fs : List (List Int)} (h : GsF zs fs) {l : List Int} (hl : TbL zs.length l) {i j : Nat} {x : Int} (hi : l[i]? = some x) (hj : j ≤ i) :
    1 ≤ dnP fs (l.take i) * prodL ((l.take j).map (facA fs x)) ∧ dnP fs (l.take i) * prodL ((l.take j).map (facA fs x)) ≤ 1000000000000000 := by
  obtain ⟨hil, rfl⟩ := List.getElem?_eq_some_iff.1 hi
  have h6 := Nat.le_trans hl.len h.n6
  obtain ⟨h1, h2⟩ := dnP_in h (hl.take i)
  have hm : l[i] ∉ l.take j := by
    intro hm
    obtain ⟨k, hk, e⟩ := List.mem_take_iff_getElem.1 hm
    have := (List.getElem_inj hl.nd).1 e
    omega
  obtain ⟨k1, k2⟩ := fac_in h (hl.lt _ (List.getElem_mem hil)) (hl.take j) hm
  rw [List.length_take, Nat.min_eq_left (by omega)] at h2 k2
  refine ⟨?_, ?_⟩
  · have := Int.mul_le_mul h1 k1 (by omega) (by omega)
    simpa using this
  · have h3 := Int.mul_le_mul h2 k2 (by omega) (by omega)
    rw [← Int.pow_add] at h3
    refine Int.le_trans h3 ?_
    have : ∀ i, i < 6 → ∀ j, j ≤ i → (10 : Int) ^ (tri i + j) ≤ 1000000000000000 := by decide
    exact this i (by omega) j hj
theorem dn_step {fs : List (List Int)} {l : List Int} {i j : Nat} {x y : Int} (hj : l[j]? = some y) : dnP fs (l.take i) * prodL ((l.take (j + 1)).map (facA fs x)) = dnP fs (l.take i) * prodL ((l.take j).map (facA fs x)) * facA fs x y := by
  obtain ⟨hk, rfl⟩ := List.getElem?_eq_some_iff.1 hj
  rw [List.take_succ_eq_append_getElem hk, List.map_append, prodL_app]
  simp [prodL, Int.mul_assoc]
theorem dn_next {fs : List (List Int)} {l : List Int} {i : Nat} {x : Int} (hi : l[i]? = some x) : dnP fs (l.take (i + 1)) = dnP fs (l.take i) * prodL ((l.take i).map (facA fs x)) := by
  obtain ⟨hk, rfl⟩ := List.getElem?_eq_some_iff.1 hi
  rw [List.take_succ_eq_append_getElem hk, dnP_snoc]
theorem up_next {zs : List Int} {l : List Int} {i : Nat} {x : Int} (hi : l[i]? = some x) : upP zs (l.take (i + 1)) = upP zs (l.take i) * sizA zs x := by
  obtain ⟨hk, rfl⟩ := List.getElem?_eq_some_iff.1 hi
  unfold upP
  rw [List.take_succ_eq_append_getElem hk, List.map_append, prodL_app]
  simp [prodL]

end Go.Proofs.Yteggbamjfhbmfaa
