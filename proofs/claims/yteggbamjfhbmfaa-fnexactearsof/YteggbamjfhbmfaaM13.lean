/- Several texts of one proof, in build order: ErS, ErT, ErQ, ErD. -/
import Derived.Test.YteggbamjfhbmfaaM10
import Derived.Test.YteggbamjfhbmfaaM12
import Derived.Test.YteggbamjfhbmfaaM4
import Derived.Test.YteggbamjfhbmfaaM7

/- Contract of spec.l11Shared. -/
namespace Go.Proofs.Yteggbamjfhbmfaa
open Go.RowKit

/-- The variables of atom o. -/
def atv (zs : List Atm) (o : Int) : List Int := ((zs[o.toNat]?).getD (0, [])).2
def shIn (zs : List Atm) (os : List Int) (v : Int) : List Int := (os.filter fun o => decide (v ∈ atv zs o)).map fun _ => v
/-- Those of some variables that some atoms have, too. -/
def shT (zs : List Atm) (os ys : List Int) : List Int := ys.flatMap (shIn zs os)
theorem shIn_take {zs : List Atm} {os : List Int} {j : Nat} {o : Int} (v : Int) (h : os[j]? = some o) : shIn zs (os.take (j + 1)) v = shIn zs (os.take j) v ++ (if v ∈ atv zs o then [v] else []) := by
  obtain ⟨hj, rfl⟩ := List.getElem?_eq_some_iff.1 h
  unfold shIn
  rw [List.take_succ_eq_append_getElem hj, List.filter_append, List.map_append]
  congr 1
  by_cases e : v ∈ atv zs os[j] <;> simp [e]
theorem shT_take {zs : List Atm} {os ys : List Int} {i : Nat} {v : Int} (h : ys[i]? = some v) : shT zs os (ys.take (i + 1)) = shT zs os (ys.take i) ++ shIn zs os v := by
  obtain ⟨hj, rfl⟩ := List.getElem?_eq_some_iff.1 h
  unfold shT
  rw [List.take_succ_eq_append_getElem hj, List.flatMap_append]
  simp
theorem mem_shIn {zs : List Atm} {os : List Int} {v u : Int} : u ∈ shIn zs os v ↔ u = v ∧ ∃ o ∈ os, v ∈ atv zs o := by
  unfold shIn
  simp only [List.mem_map, List.mem_filter, decide_eq_true_eq]
  constructor
  · rintro ⟨o, ⟨h1, h2⟩, rfl⟩; exact ⟨rfl, o, h1, h2⟩
  · rintro ⟨rfl, o, h1, h2⟩; exact ⟨o, ⟨h1, h2⟩, rfl⟩
theorem mem_shT {zs : List Atm} {os ys : List Int} {u : Int} : u ∈ shT zs os ys ↔ u ∈ ys ∧ ∃ o ∈ os, u ∈ atv zs o := by
  unfold shT
  rw [List.mem_flatMap]
  constructor
  · rintro ⟨v, hv, h⟩; obtain ⟨rfl, h2⟩ := mem_shIn.1 h; exact ⟨hv, h2⟩
  · rintro ⟨h1, h2⟩; exact ⟨u, h1, mem_shIn.2 ⟨rfl, h2⟩⟩
theorem ins_mk {T : List Int} {x : Int} (hT : ∀ y ∈ T, 0 ≤ y ∧ y < 6) (h0 : 0 ≤ x) (h6 : x < 6) : insI (bl (mk T)) x = bl (mk (T ++ [x])) := by
  have h9 := ins_take (s := 0) (zs := T ++ [x]) (k := T.length) (by omega) (fun y hy => by
    rcases List.mem_append.1 hy with h | h
    · exact hT y h
    · simp at h; subst h; exact ⟨h0, h6⟩) (by simp)
  have e2 : (T ++ [x]).take (T.length + 1) = T ++ [x] := List.take_of_length_le (by simp)
  rw [e2] at h9
  simpa using h9

set_option maxRecDepth 100000 in
set_option maxHeartbeats 8000000 in
theorem l11Shared_any (ha : Option Addr) (hn hc : Nat) (a : Option Addr) (n c : Nat) (zs : List Atm) (k : Nat) (oa : Option Addr) (on oc : Nat) (os : List Int) (w : World) (x : Atm) (hz : zs.length = n) (hb : n ≤ 9223372036854775807) (haz : AtQ w a zs) (hok : ∀ x ∈ zs, aOk x = true) (hx : zs[k]? = some x) (hoz : os.length = on) (hob : on ≤ 1048576) (hoa : At w oa os) (hos : ∀ o ∈ os, 0 ≤ o ∧ o < (n : Int)) :
    Calls Try.prog 48 #[.agg #[.slice ha hn hc, .slice a n c], .int .i64 (k : Nat), .slice oa on oc] w fun e w' => ∃ r m d, e = .returned (.slice r m d) ∧ (bl (mk (shT zs os (edge x)))).length = m ∧ w'.ownsRow w.heap.size 3 1 (.slice r m d) m ((bl (mk (shT zs os (edge x)))).map (.int .i64)) ∧ Below w.heap.size w w' := by
  have hkn : k < n := by have := (List.getElem?_eq_some_iff.1 hx).1; omega
  obtain ⟨W, hW⟩ : ∃ W, W = w.alloc (.cells #[.slice ha hn hc, .slice a n c] 32) := ⟨_, rfl⟩
  have B0 : Below w.heap.size w W := by rw [hW]; exact (Below.refl _ _).alloc (Nat.le_refl _) _
  have q1 : W.cell? ⟨w.heap.size, 1, none⟩ = some (.slice a n c) := by rw [hW]; exact pair1 w _ _ _
  have HZ := Hid.mk hz
  have HA := Hid.mk (AtSl.below haz B0)
  have HOZ := Hid.mk hoz
  have HOA := Hid.mk (At.below hoa B0)
  have HOS := Hid.mk hos
  have HOK := Hid.mk hok
  have hxo := hok x (List.mem_of_getElem? hx)
  have hxin := aOk_in hxo
  have HEI : Hid (∀ v ∈ edge x, (0 : Int) ≤ v ∧ v < 6) := fun v hv => hxin v ((mem_bl_mk hxin v).1 hv)
  obtain ⟨b, off, rfl, _, hc9⟩ := AtQ.row HA.out (by have := HZ.out; omega)
  obtain ⟨va, vn, vc, g0, g1, u1, u2, u3, u4⟩ := hc9 k x hx
  have K := Hid.mk (l11Edge_any x.1 va vn vc x.2 W u1 u2 hxin u3)
  have hki : (k : Int) < (n : Int) := by omega
  have HE0 : Hid (∀ wr : World, wr.ownsRow w.heap.size 3 1 (.slice none 0 0) 0 ((bl (mk (shT zs os ((edge x).take 0)))).map (.int .i64))) := fun wr => (by rw [List.take_zero]; show World.ownsRow _ _ _ _ _ _ ((bl (mk [])).map _); rw [show bl (mk []) = [] by decide +kernel]; exact World.ownsRow_nil _ _ _ _)
  have hel : (edge x).length ≤ 6 := bl_len _
  clear hz haz hoz hoa hos hok hxo hxin hc9 u1 u3 u4 hx
  go_enter Try.func48, Try.ntmps48
  go_upto_region 1 with fail
  rw [← hW]
  clear hW
  go_wp2_with fail
  refine K.out.mono ?_
  rintro e w1 ⟨r1, m1, d1, rfl, hm1, ho1, hb1⟩
  have hm1 : (edge x).length = m1 := hm1
  have B1 := B0.trans (hb1.mono B0.size)
  have q1 := cell_later hb1 q1
  have HA1 := Hid.mk (AtSl.below HA.out hb1)
  have HOA1 := Hid.mk (At.below HOA.out hb1)
  have HX1 : Hid (At w1 r1 (edge x)) := At.owned ho1
  have HM1 := Hid.mk hm1
  have HB1 := Hid.mk B1
  have hm6 : m1 ≤ 6 := by omega
  clear hm1 ho1 hb1 B1 K HA HOA g0 g1 B0
  go_wp2_with fail
  go_loopw [7, 19] (fun p i wr => ∃ (t m : Nat) (r : Option Addr) (d : Nat), t ≤ m1 ∧ i = .int .i64 t ∧ p = .slice r m d ∧ (bl (mk (shT zs os ((edge x).take t)))).length = m ∧ wr.ownsRow w.heap.size 3 1 (.slice r m d) m ((bl (mk (shT zs os ((edge x).take t)))).map (.int .i64)) ∧ Below w1.heap.size w1 wr) (fun _ i _ => m1 - (intOf i).toNat)
  case atStart => exact ⟨0, 0, none, 0, Nat.zero_le _, rfl, rfl, by rw [List.take_zero]; exact (by decide +kernel : (bl (mk [])).length = 0), HE0.out _, Below.refl _ _⟩
  case round =>
    clear HE0
    obtain ⟨t, m, r, d, ht, rfl, rfl, hm, ho, hbw⟩ := hrel
    obtain ⟨wY, rfl⟩ : ∃ x, x = wr := ⟨_, rfl⟩
    have HBY := Hid.mk (HB1.out.trans (hbw.mono HB1.out.size))
    by_cases hlt : t < m1
    · obtain ⟨b1, off1, rfl, _, hcv⟩ := (At.below HX1.out hbw).some (by have := HM1.out; omega)
      have hcx := hcv t (by have := HM1.out; omega)
      have hxj : (edge x)[t]? = some ((edge x).getD t 0) := by rw [List.getElem?_eq_getElem (by have := HM1.out; omega)]; simp [List.getD, show t < (edge x).length by have := HM1.out; omega]
      obtain ⟨v, hv⟩ : ∃ v, (edge x).getD t 0 = v := ⟨_, rfl⟩
      rw [hv] at hcx hxj
      have HVI := Hid.mk (HEI.out v (List.mem_of_getElem? hxj))
      have HTK := Hid.mk (shT_take (zs := zs) (os := os) hxj)
      have HTI : Hid (∀ y ∈ shT zs os ((edge x).take t), 0 ≤ y ∧ y < 6) := fun y hy => HEI.out y (List.mem_of_mem_take (mem_shT.1 hy).1)
      obtain ⟨T, hT⟩ : ∃ T, shT zs os ((edge x).take t) = T := ⟨_, rfl⟩
      rw [hT] at hm ho HTK HTI
      have hti : (t : Int) < (m1 : Int) := by omega
      have HO : Hid (wY.ownsRow w.heap.size 3 1 (.slice r m d) m ((bl (mk (T ++ shIn zs (os.take 0) v))).map (.int .i64))) := by
        show World.ownsRow _ _ _ _ _ _ _
        rw [show T ++ shIn zs (os.take 0) v = T by simp [shIn]]; exact ho
      have HM : Hid ((bl (mk (T ++ shIn zs (os.take 0) v))).length = m) := by
        show _ = _
        rw [show T ++ shIn zs (os.take 0) v = T by simp [shIn]]; exact hm
      have q1' := cell_later hbw q1
      have HB := Hid.mk hbw
      clear hcv hv hxj hm ho hbw hT
      go_wp2_with fail
      go_loopw [7, 25] (fun p i wx => ∃ (j m : Nat) (r : Option Addr) (d : Nat), j ≤ on ∧ i = .int .i64 j ∧ p = .slice r m d ∧ (bl (mk (T ++ shIn zs (os.take j) v))).length = m ∧ wx.ownsRow w.heap.size 3 1 (.slice r m d) m ((bl (mk (T ++ shIn zs (os.take j) v))).map (.int .i64)) ∧ Below w1.heap.size w1 wx) (fun _ i _ => on - (intOf i).toNat)
      case atStart => exact ⟨0, m, r, d, Nat.zero_le _, rfl, rfl, HM.out, HO.out, HB.out⟩
      case round =>
        clear HM HO HB q1' hcx
        obtain ⟨j, m, r, d, hj, rfl, rfl, hm, ho, hbw⟩ := hrel
        obtain ⟨wX, rfl⟩ : ∃ x, x = wr := ⟨_, rfl⟩
        by_cases hjt : j < on
        · obtain ⟨b2, off2, rfl, _, hc2⟩ := (At.below HOA1.out hbw).some (by have := HOZ.out; omega)
          have hcx := hc2 j (by have := HOZ.out; omega)
          have hxj : os[j]? = some (os.getD j 0) := by rw [List.getElem?_eq_getElem (by have := HOZ.out; omega)]; simp [List.getD, show j < os.length by have := HOZ.out; omega]
          obtain ⟨o, ho9⟩ : ∃ o, os.getD j 0 = o := ⟨_, rfl⟩
          rw [ho9] at hcx hxj
          have hoi := HOS.out o (List.mem_of_getElem? hxj)
          have HIK := Hid.mk (shIn_take (zs := zs) v hxj)
          obtain ⟨y, rfl⟩ : ∃ y : Nat, o = (y : Int) := ⟨o.toNat, by omega⟩
          have hyn : y < n := by omega
          have hyi : (y : Int) < (n : Int) := by omega
          obtain ⟨x2, hx2⟩ : ∃ x2, zs[y]? = some x2 := ⟨_, List.getElem?_eq_getElem (by have := HZ.out; omega)⟩
          have hav : atv zs (y : Int) = x2.2 := by simp [atv, hx2]
          rw [hav] at HIK
          obtain ⟨b3, off3, he3, _, hc3⟩ := AtQ.row (AtSl.below HA1.out hbw) (by have := HZ.out; omega)
          simp only [Option.some.injEq, Addr.mk.injEq, and_true] at he3
          obtain ⟨rfl, rfl⟩ := he3
          obtain ⟨ya, yn, yc, g0, g1, u1, u2, u3, u4⟩ := hc3 y x2 hx2
          have q1' := cell_later hbw q1
          have K := Hid.mk (l1Has_any ya yn yc x2.2 v wX u1 u2 u3)
          have hji : (j : Int) < (on : Int) := by omega
          have HB := Hid.mk hbw
          have HM := Hid.mk hm
          have HO := Hid.mk ho
          have zX := HB1.out.size
          have zX2 := hbw.size
          have HTS : Hid (∀ y ∈ T ++ shIn zs (os.take j) v, 0 ≤ y ∧ y < 6) := fun y hy => by
            rcases List.mem_append.1 hy with h | h
            · exact HTI.out y h
            · obtain ⟨rfl, _⟩ := mem_shIn.1 h; exact HVI.out
          clear hc2 ho9 hxj hoi hx2 hav hc3 u1 u3 u4 hbw hm ho g0
          cases hhv : decide (v ∈ x2.2) with
          | false =>
            have HE : Hid (shIn zs (os.take (j + 1)) v = shIn zs (os.take j) v) := by show _ = _; rw [HIK.out, if_neg (by simpa using hhv), List.append_nil]
            rw [hhv] at K
            rw [← HE.out] at HM HO
            clear hhv HIK HTS
            go_wp2_with fail
            refine K.out.mono ?_
            rintro e w2 ⟨rfl, h9⟩
            obtain rfl := h9.symm
            clear K
            go_wp2
            go_roundw
            case rel => exact ⟨j + 1, m, r, d, by omega, by go_num, rfl, HM.out, HO.out, HB.out⟩
            case measure => simp [intOf]; omega
          | true =>
            have HE : Hid (T ++ shIn zs (os.take (j + 1)) v = (T ++ shIn zs (os.take j) v) ++ [v]) := by show _ = _; rw [HIK.out, if_pos (by simpa using hhv), List.append_assoc]
            rw [hhv] at K
            have KP := Hid.mk (l7Put_any w.heap.size r m d (bl (mk (T ++ shIn zs (os.take j) v))) v wX HM.out (by have := bl_len (mk (T ++ shIn zs (os.take j) v)); have := HM.out; omega) (by omega) HO.out)
            rw [ins_mk HTS.out HVI.out.1 HVI.out.2, ← HE.out] at KP
            clear hhv HIK HTS HM HO
            go_wp2_with fail
            refine K.out.mono ?_
            rintro e w2 ⟨rfl, h9⟩
            obtain rfl := h9.symm
            clear K
            go_wp2_with fail
            refine KP.out.mono ?_
            rintro e w3 ⟨r3, m3, d3, rfl, hm3, ho3, hb3⟩
            have HB3 := Hid.mk (HB.out.trans (hb3.mono HB.out.size))
            have HM3 := Hid.mk hm3
            have HO3 := Hid.mk ho3
            clear hm3 ho3 hb3 KP
            go_wp2
            go_roundw
            case rel => exact ⟨j + 1, m3, r3, d3, by omega, by go_num, rfl, HM3.out, HO3.out, HB3.out⟩
            case measure => simp [intOf]; omega
        · obtain rfl : j = on := by omega
          rw [List.take_of_length_le (by have := HOZ.out; omega), ← HTK.out] at hm ho
          have hji : ¬ (j : Int) < (j : Int) := by omega
          have HM := Hid.mk hm
          have HO := Hid.mk ho
          clear hm ho
          go_wp2
          go_roundw
          case rel => exact ⟨t + 1, m, r, d, by omega, by go_num, rfl, HM.out, HO.out, hbw⟩
          case measure => simp [intOf]; omega
    · obtain rfl : t = m1 := by omega
      rw [List.take_of_length_le (by have := HM1.out; omega)] at hm ho
      have hti : ¬ (t : Int) < (t : Int) := by omega
      have HM := Hid.mk hm
      have HO := Hid.mk ho
      clear hm ho
      go_wp2
      go_ret
      exact ⟨r, m, d, rfl, HM.out, HO.out, HBY.out⟩

end Go.Proofs.Yteggbamjfhbmfaa

/- The model's first ear: plain, and the contract of spec.l11Ear. -/
namespace Go.Proofs.Yteggbamjfhbmfaa
open Go.RowKit

theorem mem_edge {zs : List Atm} (hok : ∀ x ∈ zs, aOk x = true) {o : Int} (h0 : 0 ≤ o) (h1 : o < (zs.length : Int)) (v : Int) : v ∈ (edges zs).getD o.toNat [] ↔ v ∈ atv zs o := by
  have hi : o.toNat < zs.length := by omega
  have e1 : (edges zs).getD o.toNat [] = edge zs[o.toNat] := by simp [edges, List.getD, hi]
  have e2 : atv zs o = zs[o.toNat].2 := by simp [atv, hi]
  rw [e1, e2]
  exact mem_bl_mk (aOk_in (hok _ (List.getElem_mem hi))) v
theorem hasV_atv {zs : List Atm} (hok : ∀ x ∈ zs, aOk x = true) {o : Int} (h0 : 0 ≤ o) (h1 : o < (zs.length : Int)) (v : Int) : hasV (edges zs) o v = decide (v ∈ atv zs o) := by
  unfold hasV
  exact decide_eq_decide.2 (mem_edge hok h0 h1 v)
theorem mem_woI {L : List Int} {x o : Int} : o ∈ woI L x ↔ o ∈ L ∧ o ≠ x := by simp [woI]
theorem shared_in {zs : List Atm} {x : Atm} (hx : aOk x = true) (os : List Int) : ∀ y ∈ shT zs os (edge x), 0 ≤ y ∧ y < 6 := fun y hy =>
  aOk_in hx y ((mem_bl_mk (aOk_in hx) y).1 (mem_shT.1 hy).1)
theorem shared_hang {zs : List Atm} {L : List Int} {k : Nat} {x : Atm} {o : Int} (hok : ∀ x ∈ zs, aOk x = true) (hL : Atoms (edges zs) L) (hx : zs[k]? = some x) (ho : o ∈ woI L (k : Int)) :
    ((bl (mk (shT zs (woI L (k : Int)) (edge x)))).all fun v => decide (v ∈ atv zs o)) = hangB (edges zs) L (k : Int) o := by
  obtain ⟨hoL, hok2⟩ := mem_woI.1 ho
  have hlen : (edges zs).length = zs.length := edges_len zs
  have hxa := hok x (List.mem_of_getElem? hx)
  have hk : k < zs.length := (List.getElem?_eq_some_iff.1 hx).1
  have hrng : ∀ u ∈ L, 0 ≤ u ∧ u < (zs.length : Int) := fun u hu => by have := hL u hu; omega
  have hek : (edges zs).getD ((k : Int)).toNat [] = edge x := by simp [edges, List.getD, hx]
  unfold hangB
  rw [decide_eq_true hok2, decide_eq_true hoL, hek]
  rw [Bool.eq_iff_iff]
  simp only [List.all_eq_true, Bool.true_and, decide_eq_true_eq]
  have hoth : ∀ v, othB (edges zs) L (k : Int) v = true ↔ ∃ o' ∈ woI L (k : Int), v ∈ atv zs o' := fun v => by
    unfold othB
    rw [List.any_eq_true]
    constructor
    · rintro ⟨o', h1, h2⟩
      simp only [othV, Bool.and_eq_true, decide_eq_true_eq] at h2
      rw [hasV_atv hok (hrng o' h1).1 (hrng o' h1).2] at h2
      exact ⟨o', mem_woI.2 ⟨h1, h2.1⟩, by simpa using h2.2⟩
    · rintro ⟨o', h1, h2⟩
      obtain ⟨h3, h4⟩ := mem_woI.1 h1
      refine ⟨o', h3, ?_⟩
      simp only [othV, Bool.and_eq_true, decide_eq_true_eq]
      rw [hasV_atv hok (hrng o' h3).1 (hrng o' h3).2]
      exact ⟨h4, by simpa using h2⟩
  constructor
  · intro h v hv
    unfold hangV
    cases hb : othB (edges zs) L (k : Int) v with
    | false => rfl
    | true =>
      have := h v ((mem_bl_mk (shared_in hxa _) v).2 (mem_shT.2 ⟨hv, (hoth v).1 hb⟩))
      rw [hasV_atv hok (hrng o hoL).1 (hrng o hoL).2]
      simpa using this
  · intro h v hv
    obtain ⟨h1, h2⟩ := mem_shT.1 ((mem_bl_mk (shared_in hxa _) v).1 hv)
    have := h v h1
    unfold hangV at this
    rw [(hoth v).2 h2, hasV_atv hok (hrng o hoL).1 (hrng o hoL).2] at this
    simpa using this
theorem up_without {E : List (List Int)} {L : List Int} {k : Int} : upI E L k = ((woI L k).find? (hangB E L k)).getD (-1) := by
  unfold upI woI
  rw [List.find?_filter]
  congr 2
  funext u
  by_cases e : u = k
  · subst e; simp [hangB]
  · simp [e]

/-- The first ear, and what it hangs on. -/
def earO (E : List (List Int)) (L : List Int) : Option (Int × Int) := (L.find? fun k => decide (upI E L k ≠ -1)).map fun k => (k, upI E L k)
def earZ (o : Option (Int × Int)) : Int × Int := o.getD (0, 0)

set_option maxRecDepth 100000 in
set_option maxHeartbeats 8000000 in
theorem l11Ear_any (ha : Option Addr) (hn hc : Nat) (a : Option Addr) (n c : Nat) (zs : List Atm) (la : Option Addr) (ln lc : Nat) (L : List Int) (w : World) (hz : zs.length = n) (hb : n ≤ 1048576) (haz : AtQ w a zs) (hok : ∀ x ∈ zs, aOk x = true) (hlz : L.length = ln) (hlb : ln ≤ 1048576) (hla : At w la L) (hL : Atoms (edges zs) L) :
    Calls Try.prog 69 #[.agg #[.slice ha hn hc, .slice a n c], .slice la ln lc] w fun e w' => e = .returned (.tuple #[.agg #[.int .i64 (earZ (earO (edges zs) L)).1, .int .i64 (earZ (earO (edges zs) L)).2], .bool (earO (edges zs) L).isSome]) ∧ Below w.heap.size w w' := by
  obtain ⟨W, hW⟩ : ∃ W, W = (w.alloc (.cells #[.slice ha hn hc, .slice a n c] 32)).alloc (.cells #[.int .i64 0, .int .i64 0] 71) := ⟨_, rfl⟩
  have B0 : Below w.heap.size w W := by rw [hW]; exact ((Below.refl _ _).alloc (Nat.le_refl _) _).alloc (by simp) _
  have q0 : W.cell? ⟨w.heap.size, 0, none⟩ = some (.slice ha hn hc) := by rw [hW]; simp [go_sem]
  have q1 : W.cell? ⟨w.heap.size, 1, none⟩ = some (.slice a n c) := by rw [hW]; simp [go_sem]
  have b1 : W.heap[w.heap.size + 1]? = some (.cells #[.int .i64 0, .int .i64 0] 71 (0, 0)) := by
    rw [hW]
    have h := heap_alloc_new (w.alloc (.cells #[.slice ha hn hc, .slice a n c] 32)) (.cells #[.int .i64 0, .int .i64 0] 71)
    simpa only [World.size_alloc] using h
  have zW : w.heap.size + 1 < W.heap.size := by rw [hW]; simp
  have HZ := Hid.mk hz
  have HA := Hid.mk (AtSl.below haz B0)
  have HLZ := Hid.mk hlz
  have HLA := Hid.mk (At.below hla B0)
  have HL := Hid.mk hL
  have HOK := Hid.mk hok
  have HLR : Hid (∀ u ∈ L, 0 ≤ u ∧ u < (n : Int)) := fun u hu => by have h1 := hL u hu; rw [edges_len] at h1; omega
  obtain ⟨E, hE⟩ : ∃ E, edges zs = E := ⟨_, rfl⟩
  have HE := Hid.mk hE
  rw [hE]
  clear hz haz hlz hla hL hok hE
  go_enter Try.func69, Try.ntmps69
  go_upto_region 1 with fail
  rw [← hW]
  clear hW
  go_wp2_with fail
  go_loopw [14] (fun i wr => ∃ (j : Nat), j ≤ ln ∧ i = .int .i64 j ∧ earO E L = ((L.drop j).find? fun k => decide (upI E L k ≠ -1)).map (fun k => (k, upI E L k)) ∧ Below W.heap.size W wr) (fun i _ => ln - (intOf i).toNat)
  case atStart => exact ⟨0, Nat.zero_le _, rfl, rfl, Below.refl _ _⟩
  case round =>
    obtain ⟨j, hj, rfl, ht, hbw⟩ := hrel
    obtain ⟨wY, rfl⟩ : ∃ x, x = wr := ⟨_, rfl⟩
    have BY := B0.trans (hbw.mono B0.size)
    have q0' := cell_later hbw q0
    have q1' := cell_later hbw q1
    have b2 := blk_below b1 hbw
    by_cases hlt : j < ln
    · have hcc := At.below HLA.out hbw
      have hxj : L[j]? = some (L.getD j 0) := by rw [List.getElem?_eq_getElem (by have := HLZ.out; omega)]; simp [List.getD, show j < L.length by have := HLZ.out; omega]
      obtain ⟨u, hu⟩ : ∃ u, L.getD j 0 = u := ⟨_, rfl⟩
      rw [hu] at hxj
      have huL := HLR.out u (List.mem_of_getElem? hxj)
      rw [find_drop hxj] at ht
      obtain ⟨k, rfl⟩ : ∃ k : Nat, u = (k : Int) := ⟨u.toNat, by omega⟩
      have K1 := Hid.mk (l11Without_any la ln lc L (k : Int) wY HLZ.out hlb hcc)
      obtain ⟨b, off, rfl, _, hc9⟩ := hcc.some (by have := HLZ.out; omega)
      have hcx := hc9 j (by have := HLZ.out; omega)
      rw [hu] at hcx
      have hji : (j : Int) < (ln : Int) := by omega
      obtain ⟨x, hx⟩ : ∃ x, zs[k]? = some x := ⟨_, List.getElem?_eq_getElem (by have := HZ.out; omega)⟩
      have HSH : Hid (∀ o ∈ woI L (k : Int), ((bl (mk (shT zs (woI L (k : Int)) (edge x)))).all fun v => decide (v ∈ atv zs o)) = hangB E L (k : Int) o) := fun o ho => by
        have h9 := shared_hang HOK.out HL.out hx ho
        rw [HE.out] at h9
        exact h9
      have HUP := Hid.mk (up_without (E := E) (L := L) (k := (k : Int)))
      have HOR : Hid (∀ o ∈ woI L (k : Int), 0 ≤ o ∧ o < (n : Int)) := fun o ho => HLR.out o (mem_woI.1 ho).1
      have HOL : Hid ((woI L (k : Int)).length ≤ ln) := by show _ ≤ _; have h8 := woI_len L (k : Int); have h7 := HLZ.out; omega
      obtain ⟨O, hO⟩ : ∃ O, woI L (k : Int) = O := ⟨_, rfl⟩
      rw [hO] at K1 HSH HUP HOR HOL
      have HT := Hid.mk ht
      have HX := Hid.mk hx
      have HB := Hid.mk hbw
      clear hc9 hu hxj ht hbw hcc huL hx hO
      go_wp2_with fail
      refine K1.out.mono ?_
      rintro e w2 ⟨r2, m2, d2, rfl, hm2, ho2, hb2⟩
      have HB2 := Hid.mk (HB.out.trans (hb2.mono HB.out.size))
      have q0'' := cell_later hb2 q0'
      have q1'' := cell_later hb2 q1'
      have HM2 := Hid.mk hm2
      have HA2 : Hid (At w2 r2 O) := At.owned ho2
      have hm2b : m2 ≤ 1048576 := by have := HOL.out; omega
      have K2 := Hid.mk (l11Shared_any ha hn hc a n c zs k r2 m2 d2 O w2 x HZ.out (by omega) (AtSl.below HA.out HB2.out) HOK.out HX.out hm2 hm2b HA2.out HOR.out)
      clear hm2 ho2 hb2 K1 HB
      go_wp2_with fail
      refine K2.out.mono ?_
      rintro e w3 ⟨r3, m3, d3, rfl, hm3, ho3, hb3⟩
      have HB3 := Hid.mk (HB2.out.trans (hb3.mono HB2.out.size))
      have q1a := cell_later hb3 q1''
      have HA3 := Hid.mk (At.below HA2.out hb3)
      have HS3 : Hid (At w3 r3 (bl (mk (shT zs O (edge x))))) := At.owned ho3
      have HAZ := Hid.mk (AtSl.below HA.out HB3.out)
      have hm36 : m3 ≤ 6 := by have := bl_len (mk (shT zs O (edge x))); omega
      have HM3 := Hid.mk hm3
      obtain ⟨S, hS⟩ : ∃ S, bl (mk (shT zs O (edge x))) = S := ⟨_, rfl⟩
      rw [hS] at HS3 HM3 HSH
      have b3 := blk_below b1 HB3.out
      have BB := B0.trans (HB3.out.mono B0.size)
      clear hm3 ho3 hb3 K2 HB2 hS q0'' b2
      go_wp2_with fail
      go_loopw [27] (fun i wx => ∃ (t : Nat), t ≤ m2 ∧ i = .int .i64 t ∧ upI E L (k : Int) = ((O.drop t).find? (hangB E L (k : Int))).getD (-1) ∧ wx = w3) (fun i _ => m2 - (intOf i).toNat)
      case atStart => exact ⟨0, Nat.zero_le _, rfl, HUP.out, rfl⟩
      case round =>
        obtain ⟨t, htm, rfl, hup, rfl⟩ := hrel
        by_cases htl : t < m2
        · obtain ⟨b4, off4, rfl, _, hc4⟩ := HA3.out.some (by have := HM2.out; omega)
          have hcx4 := hc4 t (by have := HM2.out; omega)
          have hxt : O[t]? = some (O.getD t 0) := by rw [List.getElem?_eq_getElem (by have := HM2.out; omega)]; simp [List.getD, show t < O.length by have := HM2.out; omega]
          obtain ⟨o, ho9⟩ : ∃ o, O.getD t 0 = o := ⟨_, rfl⟩
          rw [ho9] at hcx4 hxt
          have hor := HOR.out o (List.mem_of_getElem? hxt)
          have hsh := HSH.out o (List.mem_of_getElem? hxt)
          rw [find_drop hxt] at hup
          obtain ⟨y, rfl⟩ : ∃ y : Nat, o = (y : Int) := ⟨o.toNat, by omega⟩
          have hyi : (y : Int) < (n : Int) := by omega
          obtain ⟨x2, hx2⟩ : ∃ x2, zs[y]? = some x2 := ⟨_, List.getElem?_eq_getElem (by have := HZ.out; omega)⟩
          have hav : atv zs (y : Int) = x2.2 := by simp [atv, hx2]
          rw [hav] at hsh
          obtain ⟨b5, off5, rfl, _, hc5⟩ := AtQ.row HAZ.out (by have := HZ.out; omega)
          obtain ⟨ya, yn, yc, g0, g1, u1, u2, u3, u4⟩ := hc5 y x2 hx2
          have K := Hid.mk (l7All_any ya yn yc x2.2 r3 m3 d3 S wr u1 u2 u3 HM3.out (by omega) HS3.out)
          rw [hsh] at K
          have hti : (t : Int) < (m2 : Int) := by omega
          have HUP2 := Hid.mk hup
          obtain ⟨bb, hbb⟩ : ∃ bb, hangB E L (k : Int) (y : Int) = bb := ⟨_, rfl⟩
          rw [hbb] at K HUP2
          clear hc4 ho9 hxt hsh hup hx2 hav hc5 u1 u3 u4 hbb hor g0
          go_wp2_with fail
          refine K.out.mono ?_
          rintro e w4 ⟨rfl, h9⟩
          obtain rfl := h9.symm
          clear K
          cases bb with
          | true =>
            have HU : Hid (upI E L (k : Int) = (y : Int)) := by show _ = _; rw [HUP2.out]; rfl
            have HR : Hid (earO E L = some ((k : Int), (y : Int))) := by
              show _ = _
              rw [HT.out, if_pos (by rw [HU.out]; exact decide_eq_true (by omega)), Option.map_some, HU.out]
            have e0 := blk_cell b3 0 (v := .int .i64 0) rfl
            have e1 := blk_cell b3 1 (v := .int .i64 0) rfl
            have f0 := blk_frozen b3 0
            have f1 := blk_frozen b3 1
            go_wp2
            refine bodyPost_ret (v := .tuple #[.agg #[.int .i64 (k : Nat), .int .i64 (y : Nat)], .bool true]) (by simp [results, Try.results69, go_sem, e0, e1]) rfl ⟨by rw [HR.out]; rfl, ?_⟩
            exact (BB.setCell (by simp) _).setCell (by simp) _
          | false =>
            have HU : Hid (upI E L (k : Int) = ((O.drop (t + 1)).find? (hangB E L (k : Int))).getD (-1)) := by show _ = _; rw [HUP2.out]; rfl
            go_wp2
            go_roundw
            case rel => exact ⟨t + 1, by omega, by go_num, HU.out, by first | rfl | trivial⟩
            case measure => simp [intOf]; omega
        · obtain rfl : t = m2 := by omega
          rw [List.drop_of_length_le (by have := HM2.out; omega)] at hup
          have HU : Hid (upI E L (k : Int) = -1) := hup
          have HR : Hid (earO E L = ((L.drop (j + 1)).find? fun k => decide (upI E L k ≠ -1)).map (fun k => (k, upI E L k))) := by
            show _ = _
            rw [HT.out, if_neg (by rw [HU.out]; simp)]
          have hti : ¬ (t : Int) < (t : Int) := by omega
          clear hup
          go_wp2
          go_roundw
          case rel => exact ⟨j + 1, by omega, by go_num, HR.out, HB3.out⟩
          case measure => simp [intOf]; omega
    · obtain rfl : j = ln := by omega
      rw [List.drop_of_length_le (by have := HLZ.out; omega)] at ht
      have HR : Hid (earO E L = none) := ht
      have hji : ¬ (j : Int) < (j : Int) := by omega
      have e0 := blk_cell b2 0 (v := .int .i64 0) rfl
      have e1 := blk_cell b2 1 (v := .int .i64 0) rfl
      have f0 := blk_frozen b2 0
      have f1 := blk_frozen b2 1
      clear ht
      go_wp2
      refine bodyPost_ret (v := .tuple #[.agg #[.int .i64 0, .int .i64 0], .bool false]) (by simp [results, Try.results69, go_sem, e0, e1]) rfl ⟨by rw [HR.out]; rfl, ?_⟩
      exact (BY.setCell (by simp) _).setCell (by simp) _

end Go.Proofs.Yteggbamjfhbmfaa

/- Plain: all ears, one behind the other; ears in memory. -/
namespace Go.Proofs.Yteggbamjfhbmfaa
open Go.RowKit

def earsF (E : List (List Int)) : Nat → List Int → List (Int × Int) × Bool
  | 0, _ => ([], false)
  | f + 1, L => if L.length ≤ 1 then ([(L.getD 0 0, -1)], true) else match earO E L with
    | none => ([], false)
    | some ku => (ku :: (earsF E f (woI L ku.1)).1, (earsF E f (woI L ku.1)).2)
theorem earsF_end {E : List (List Int)} {f : Nat} {L : List Int} (h : L.length ≤ 1) : earsF E (f + 1) L = ([(L.getD 0 0, -1)], true) := by rw [earsF, if_pos h]
theorem earsF_none {E : List (List Int)} {f : Nat} {L : List Int} (h : ¬ L.length ≤ 1) (h2 : earO E L = none) : earsF E (f + 1) L = ([], false) := by rw [earsF, if_neg h, h2]
theorem earsF_some {E : List (List Int)} {f : Nat} {L : List Int} {ku : Int × Int} (h : ¬ L.length ≤ 1) (h2 : earO E L = some ku) : earsF E (f + 1) L = (ku :: (earsF E f (woI L ku.1)).1, (earsF E f (woI L ku.1)).2) := by rw [earsF, if_neg h, h2]
theorem earO_mem {E : List (List Int)} {L : List Int} {ku : Int × Int} (h : earO E L = some ku) : ku.1 ∈ L := by
  unfold earO at h
  cases hf : L.find? fun k => decide (upI E L k ≠ -1) with
  | none => rw [hf] at h; simp at h
  | some k => rw [hf] at h; simp at h; subst h; exact List.mem_of_find?_eq_some hf
theorem woI_nodup {L : List Int} (h : L.Nodup) (x : Int) : (woI L x).Nodup := h.filter _
theorem woI_lenN : ∀ {L : List Int}, L.Nodup → ∀ {x : Int}, x ∈ L → (woI L x).length + 1 = L.length
  | [], _, x, h => by cases h
  | y :: L, hn, x, h => by
    rw [List.nodup_cons] at hn
    by_cases e : y = x
    · subst e
      have : woI (y :: L) y = L := by
        unfold woI
        rw [List.filter_cons_of_neg (by simp), List.filter_eq_self.2]
        intro a ha
        exact decide_eq_true (fun e => hn.1 (e ▸ ha))
      rw [this, List.length_cons]
    · have h2 : x ∈ L := by
        rcases List.mem_cons.1 h with h | h
        · exact absurd h.symm e
        · exact h
      have h3 := woI_lenN hn.2 h2
      have : woI (y :: L) x = y :: woI L x := by unfold woI; rw [List.filter_cons_of_pos (by simpa using e)]
      rw [this, List.length_cons, List.length_cons, h3]
theorem woI_atoms {E : List (List Int)} {L : List Int} (h : Atoms E L) (x : Int) : Atoms E (woI L x) := fun o ho => h o (mem_woI.1 ho).1
theorem upN_nodup (n : Nat) : (upN n).Nodup := by
  unfold upN
  exact List.pairwise_map.2 (List.Pairwise.imp (fun {a b} h e => h (by omega)) (List.nodup_range (n := n)))
theorem upN_atoms {E : List (List Int)} {n : Nat} (h : E.length = n) : Atoms E (upN n) := fun o ho => by
  unfold upN at ho
  obtain ⟨i, hi, rfl⟩ := List.mem_map.1 ho
  rw [List.mem_range] at hi
  exact ⟨by omega, by omega⟩

def flatE (l : List (Int × Int)) : List Value := l.flatMap fun x => [.int .i64 x.1, .int .i64 x.2]
theorem flatE_snoc (l : List (Int × Int)) (x : Int × Int) : flatE (l ++ [x]) = flatE l ++ [.int .i64 x.1, .int .i64 x.2] := by simp [flatE]
theorem Try.infoEar : (Try.prog.info? 71).map (fun i => (i.zero, i.size, i.bytes)) = some (some (.agg #[.int .i64 0, .int .i64 0]), 2, 16) := by kernel_rfl
/-- Ears that are told, whether all were taken, and whether. -/
def EarRet (e : Ending) (w' : World) (lo : Nat) (all ok : Bool) (ears : List (Int × Int)) : Prop := ∃ r m d, e = .returned (.tuple #[.slice r m d, .bool all, .bool ok]) ∧ ears.length = m ∧ w'.ownsRow lo 71 2 (.slice r m d) m (flatE ears)

end Go.Proofs.Yteggbamjfhbmfaa

/- slices.Delete of one number of a list that the call owns. -/
namespace Go.Proofs.Yteggbamjfhbmfaa
open Go.RowKit Go.Sort Go.Lib

theorem deleteI_own (B : Nat) (a : Option Addr) (n c i : Nat) (zs : List Int) (w : World) (hz : zs.length = n) (hn : n ≤ 1048576) (hi : i < n) (ho : w.ownsRow B 3 1 (.slice a n c) n (zs.map (.int .i64))) :
    Calls Try.prog 78 #[.slice a n c, .int .i64 (i : Nat), .int .i64 ((i + 1 : Nat) : Int)] w fun e w' => e = .returned (.slice a (n - 1) c) ∧ w'.ownsRow B 3 1 (.slice a (n - 1) c) (n - 1) ((zs.eraseIdx i).map (.int .i64)) ∧ w.grownBy w' (Value.slice a n c).ownBlock := by
  rcases ho.2 with ⟨_, h⟩ | ⟨g, cap, cur, hv, hb, hg, hc1, hc2, hc3, hc4⟩
  · omega
  · simp only [Value.slice.injEq, true_and] at hv
    obtain ⟨rfl, rfl⟩ := hv
    have hcur : cur.toList.take zs.length = zs.map (.int .i64) := by rw [hz]; simpa using hc4
    have hH := holds_of_blockI hg hcur
    have h9 := Try.slices_Delete_int g 0 c i (i + 1) zs w hH (by omega) (by unfold maxLen at hc2; omega) (by omega) (by omega)
    rw [hz] at h9
    refine h9.mono ?_
    rintro e w' ⟨rfl, q, rfl⟩
    rw [show i + 1 - i = 1 by omega]
    have hee : zs.take i ++ zs.drop (i + 1) = zs.eraseIdx i := (List.eraseIdx_eq_take_drop_succ zs i).symm
    rw [hee]
    obtain ⟨ts, hts⟩ : ∃ ts, ts = zs.eraseIdx i ++ List.replicate 1 (0 : Int) := ⟨_, rfl⟩
    have hel : (zs.eraseIdx i).length = n - 1 := by rw [List.length_eraseIdx, if_pos (by omega)]; omega
    have hl : ts.length = zs.length := by rw [hts, List.length_append, List.length_replicate, hz, hel]; omega
    rw [← hts]
    have ho2 := ownsRow_sortedI (n := q) (os := #[]) (ss := zs) hl hb hg (by omega) hc2 hc3
    have hg2 : w.grownBy (grow (putRow (Value.int .i64) (Sort.ahead w q) g 0 ts.toArray) #[]) (some g) := grownBy_sortedI _
    rw [hz] at ho2
    rw [grow_empty] at ho2 hg2
    have ho3 := owns_take ho2 (show n - 1 ≤ n by omega)
    have ht : (ts.map (Value.int .i64)).take ((n - 1) * 1) = (zs.eraseIdx i).map (.int .i64) := by
      rw [Nat.mul_one, ← List.map_take, hts, List.take_left' hel]
    rw [ht] at ho3
    exact ⟨rfl, ho3, hg2⟩

theorem erase_woI : ∀ {L : List Int}, L.Nodup → ∀ {i : Nat} {k : Int}, L[i]? = some k → L.eraseIdx i = woI L k
  | [], _, i, k, h => by simp at h
  | y :: L, hn, 0, k, h => by
    simp at h
    subst h
    rw [List.nodup_cons] at hn
    have : woI (y :: L) y = L := by
      unfold woI
      rw [List.filter_cons_of_neg (by simp), List.filter_eq_self.2]
      intro a ha
      exact decide_eq_true (fun e => hn.1 (e ▸ ha))
    rw [this]; rfl
  | y :: L, hn, i + 1, k, h => by
    rw [List.nodup_cons] at hn
    have h2 : L[i]? = some k := by simpa using h
    have e : y ≠ k := fun e => hn.1 (e ▸ List.mem_of_getElem? h2)
    have h3 := erase_woI hn.2 h2
    have h4 : woI (y :: L) k = y :: woI L k := by unfold woI; rw [List.filter_cons_of_pos (by simpa using e)]
    rw [List.eraseIdx_cons_succ, h3, h4]

end Go.Proofs.Yteggbamjfhbmfaa
