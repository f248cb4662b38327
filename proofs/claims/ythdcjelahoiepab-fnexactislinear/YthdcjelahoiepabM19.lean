/- Several texts of one proof, in build order: TyA, LinI, TestL, MkP. -/
import Derived.Test.YthdcjelahoiepabM16
import Derived.Test.YthdcjelahoiepabM18
import Derived.Test.YthdcjelahoiepabM6
import Derived.Test.YthdcjelahoiepabM7

/- What a type assertion answers, for each kind of part. -/
namespace Go.Proofs.Ythdcjelahoiepab
open Go.RowKit

@[go_sem] theorem as1_2 (v : Value) (w : World) : (Instr.typeAssert (.iface 95 v) 52 80 true).run Try.prog w = .ok (.tuple #[.agg #[.int .i64 0, .slice none 0 0], .bool false]) w := by kernel_rfl
@[go_sem] theorem as2_2 (v : Value) (w : World) : (Instr.typeAssert (.iface 80 v) 52 80 true).run Try.prog w = .ok (.tuple #[v, .bool true]) w := by kernel_rfl
@[go_sem] theorem as3_2 (v : Value) (w : World) : (Instr.typeAssert (.iface 97 v) 52 80 true).run Try.prog w = .ok (.tuple #[.agg #[.int .i64 0, .slice none 0 0], .bool false]) w := by kernel_rfl
@[go_sem] theorem as4_2 (v : Value) (w : World) : (Instr.typeAssert (.iface 76 v) 52 80 true).run Try.prog w = .ok (.tuple #[.agg #[.int .i64 0, .slice none 0 0], .bool false]) w := by kernel_rfl
@[go_sem] theorem as5_2 (v : Value) (w : World) : (Instr.typeAssert (.iface 82 v) 52 80 true).run Try.prog w = .ok (.tuple #[.agg #[.int .i64 0, .slice none 0 0], .bool false]) w := by kernel_rfl
@[go_sem] theorem as6_2 (v : Value) (w : World) : (Instr.typeAssert (.iface 98 v) 52 80 true).run Try.prog w = .ok (.tuple #[.agg #[.int .i64 0, .slice none 0 0], .bool false]) w := by kernel_rfl
@[go_sem] theorem as7_2 (v : Value) (w : World) : (Instr.typeAssert (.iface 78 v) 52 80 true).run Try.prog w = .ok (.tuple #[.agg #[.int .i64 0, .slice none 0 0], .bool false]) w := by kernel_rfl
@[go_sem] theorem as1_4 (v : Value) (w : World) : (Instr.typeAssert (.iface 95 v) 52 76 true).run Try.prog w = .ok (.tuple #[.agg #[.int .i64 0, .int .i64 0, .slice none 0 0], .bool false]) w := by kernel_rfl
@[go_sem] theorem as2_4 (v : Value) (w : World) : (Instr.typeAssert (.iface 80 v) 52 76 true).run Try.prog w = .ok (.tuple #[.agg #[.int .i64 0, .int .i64 0, .slice none 0 0], .bool false]) w := by kernel_rfl
@[go_sem] theorem as3_4 (v : Value) (w : World) : (Instr.typeAssert (.iface 97 v) 52 76 true).run Try.prog w = .ok (.tuple #[.agg #[.int .i64 0, .int .i64 0, .slice none 0 0], .bool false]) w := by kernel_rfl
@[go_sem] theorem as4_4 (v : Value) (w : World) : (Instr.typeAssert (.iface 76 v) 52 76 true).run Try.prog w = .ok (.tuple #[v, .bool true]) w := by kernel_rfl
@[go_sem] theorem as5_4 (v : Value) (w : World) : (Instr.typeAssert (.iface 82 v) 52 76 true).run Try.prog w = .ok (.tuple #[.agg #[.int .i64 0, .int .i64 0, .slice none 0 0], .bool false]) w := by kernel_rfl
@[go_sem] theorem as6_4 (v : Value) (w : World) : (Instr.typeAssert (.iface 98 v) 52 76 true).run Try.prog w = .ok (.tuple #[.agg #[.int .i64 0, .int .i64 0, .slice none 0 0], .bool false]) w := by kernel_rfl
@[go_sem] theorem as7_4 (v : Value) (w : World) : (Instr.typeAssert (.iface 78 v) 52 76 true).run Try.prog w = .ok (.tuple #[.agg #[.int .i64 0, .int .i64 0, .slice none 0 0], .bool false]) w := by kernel_rfl
@[go_sem] theorem as1_5 (v : Value) (w : World) : (Instr.typeAssert (.iface 95 v) 52 82 true).run Try.prog w = .ok (.tuple #[.agg #[.int .i64 0, .int .i64 0], .bool false]) w := by kernel_rfl
@[go_sem] theorem as2_5 (v : Value) (w : World) : (Instr.typeAssert (.iface 80 v) 52 82 true).run Try.prog w = .ok (.tuple #[.agg #[.int .i64 0, .int .i64 0], .bool false]) w := by kernel_rfl
@[go_sem] theorem as3_5 (v : Value) (w : World) : (Instr.typeAssert (.iface 97 v) 52 82 true).run Try.prog w = .ok (.tuple #[.agg #[.int .i64 0, .int .i64 0], .bool false]) w := by kernel_rfl
@[go_sem] theorem as4_5 (v : Value) (w : World) : (Instr.typeAssert (.iface 76 v) 52 82 true).run Try.prog w = .ok (.tuple #[.agg #[.int .i64 0, .int .i64 0], .bool false]) w := by kernel_rfl
@[go_sem] theorem as5_5 (v : Value) (w : World) : (Instr.typeAssert (.iface 82 v) 52 82 true).run Try.prog w = .ok (.tuple #[v, .bool true]) w := by kernel_rfl
@[go_sem] theorem as6_5 (v : Value) (w : World) : (Instr.typeAssert (.iface 98 v) 52 82 true).run Try.prog w = .ok (.tuple #[.agg #[.int .i64 0, .int .i64 0], .bool false]) w := by kernel_rfl
@[go_sem] theorem as7_5 (v : Value) (w : World) : (Instr.typeAssert (.iface 78 v) 52 82 true).run Try.prog w = .ok (.tuple #[.agg #[.int .i64 0, .int .i64 0], .bool false]) w := by kernel_rfl
@[go_sem] theorem as1_7 (v : Value) (w : World) : (Instr.typeAssert (.iface 95 v) 52 78 true).run Try.prog w = .ok (.tuple #[.agg #[.int .i64 0], .bool false]) w := by kernel_rfl
@[go_sem] theorem as2_7 (v : Value) (w : World) : (Instr.typeAssert (.iface 80 v) 52 78 true).run Try.prog w = .ok (.tuple #[.agg #[.int .i64 0], .bool false]) w := by kernel_rfl
@[go_sem] theorem as3_7 (v : Value) (w : World) : (Instr.typeAssert (.iface 97 v) 52 78 true).run Try.prog w = .ok (.tuple #[.agg #[.int .i64 0], .bool false]) w := by kernel_rfl
@[go_sem] theorem as4_7 (v : Value) (w : World) : (Instr.typeAssert (.iface 76 v) 52 78 true).run Try.prog w = .ok (.tuple #[.agg #[.int .i64 0], .bool false]) w := by kernel_rfl
@[go_sem] theorem as5_7 (v : Value) (w : World) : (Instr.typeAssert (.iface 82 v) 52 78 true).run Try.prog w = .ok (.tuple #[.agg #[.int .i64 0], .bool false]) w := by kernel_rfl
@[go_sem] theorem as6_7 (v : Value) (w : World) : (Instr.typeAssert (.iface 98 v) 52 78 true).run Try.prog w = .ok (.tuple #[.agg #[.int .i64 0], .bool false]) w := by kernel_rfl
@[go_sem] theorem as7_7 (v : Value) (w : World) : (Instr.typeAssert (.iface 78 v) 52 78 true).run Try.prog w = .ok (.tuple #[v, .bool true]) w := by kernel_rfl

end Go.Proofs.Ythdcjelahoiepab

/- Contracts of IsLinear, the program's and the model's. -/
namespace Go.Proofs.Ythdcjelahoiepab
open Go.RowKit

def alone (x : PartD) : Bool := !(decide (x.K = 4) || decide (x.K = 7))
def linB (v : ViewD) : Bool := ckB v && v.2.all alone
theorem linB_no {v : ViewD} (h : ckB v = false) : linB v = false := by simp [linB, h]
theorem widthP_kind {ss ah : List Int} {x : PartD} {n : Int} (h : partW ss ah x = some n) : 1 ≤ x.K ∧ x.K ≤ 7 := by
  by_cases hk : 1 ≤ x.K ∧ x.K ≤ 7
  · exact hk
  · rw [partW_no (widthP_no hk)] at h; cases h
theorem checkTo_kind {ss : List Int} {xs : List PartD} : ∀ {n : Nat} {ah : List Int}, checkTo ss xs n = some ah → ∀ (i : Nat) (x : PartD), i < n → xs[i]? = some x → 1 ≤ x.K ∧ x.K ≤ 7
  | 0, ah, _, i, x, h, _ => by omega
  | n + 1, ah, h, i, x, hi, hx => by
    obtain ⟨a, h1, h2⟩ := Option.bind_eq_some_iff.1 h
    by_cases e : i < n
    · exact checkTo_kind h1 i x e hx
    · obtain rfl : i = n := by omega
      obtain ⟨y, h3, h4⟩ := Option.bind_eq_some_iff.1 h2
      rw [hx] at h3
      cases h3
      obtain ⟨q, h5, _⟩ := Option.map_eq_some_iff.1 h4
      exact widthP_kind h5
theorem all_take {xs : List PartD} {p : PartD → Bool} {k : Nat} {x : PartD} (h : xs[k]? = some x) : (xs.take (k + 1)).all p = ((xs.take k).all p && p x) := by
  obtain ⟨hk, rfl⟩ := List.getElem?_eq_some_iff.1 h
  rw [List.take_succ_eq_append_getElem hk, List.all_append]; simp
theorem all_no {xs : List PartD} {p : PartD → Bool} {k : Nat} {x : PartD} (h : xs[k]? = some x) (hp : p x = false) : xs.all p = false := by
  rw [List.all_eq_false]
  exact ⟨x, List.mem_of_getElem? h, by rw [hp]; simp⟩

set_option maxRecDepth 100000 in
set_option maxHeartbeats 2000000 in
theorem changesAlone_any (v : Value) (x : PartD) (w0 w : World) (hk : 1 ≤ x.K ∧ x.K ≤ 7) (h : IsPart w0 v x) :
    Calls Try.prog 20 #[v] w fun e w' => e = .returned (.bool (alone x)) ∧ w' = w := by
  obtain ⟨ta, tn, tc, ca, cn, cc, pa, pn, pc, rfl, _⟩ := h
  obtain ⟨K, A, B, ts, zs, ps⟩ := x
  simp only [PartD.K, PartD.A, PartD.B] at *
  rcases kind_cases hk with rfl | rfl | rfl | rfl | rfl | rfl | rfl
  · rw [partV_1]
    go_enter Try.func20, Try.ntmps20
    go_wp2
    go_ret
    exact ⟨rfl, rfl⟩
  · rw [partV_2]
    go_enter Try.func20, Try.ntmps20
    go_wp2
    go_ret
    exact ⟨rfl, rfl⟩
  · rw [partV_3]
    go_enter Try.func20, Try.ntmps20
    go_wp2
    go_ret
    exact ⟨rfl, rfl⟩
  · rw [partV_4]
    go_enter Try.func20, Try.ntmps20
    go_wp2
    go_ret
    exact ⟨rfl, rfl⟩
  · rw [partV_5]
    go_enter Try.func20, Try.ntmps20
    go_wp2
    go_ret
    exact ⟨rfl, rfl⟩
  · rw [partV_6]
    go_enter Try.func20, Try.ntmps20
    go_wp2
    go_ret
    exact ⟨rfl, rfl⟩
  · rw [partV_7]
    go_enter Try.func20, Try.ntmps20
    go_wp2
    go_ret
    exact ⟨rfl, rfl⟩

set_option maxRecDepth 100000 in
set_option maxHeartbeats 4000000 in
theorem implIsLinear (sa : Option Addr) (sn sc : Nat) (pa : Option Addr) (pn pc : Nat) (ss : List Int) (xs : List PartD) (w : World) (hsz : ss.length = sn) (hz : xs.length = pn) (hs : SmView (ss, xs)) (hsa : At w sa ss) (ha : AtSl RPart w pa xs) :
    Calls Try.prog 8 #[.agg #[.slice sa sn sc, .slice pa pn pc]] w fun e w' => e = .returned (.tuple #[.bool (linB (ss, xs)), .bool (ckB (ss, xs))]) ∧ Below w.heap.size w w' := by
  have hsn : sn ≤ 1048576 := by have := hs.src; simp only at this; omega
  have hpn : pn ≤ 1048576 := by have := hs.len; simp only at this; omega
  obtain ⟨W, hW⟩ : ∃ W, W = w.alloc (.cells #[.slice sa sn sc, .slice pa pn pc] 31) := ⟨_, rfl⟩
  have B0 : Below w.heap.size w W := by rw [hW]; exact (Below.refl _ _).alloc (Nat.le_refl _) _
  have c1 : W.cell? ⟨w.heap.size, 1, none⟩ = some (.slice pa pn pc) := by rw [hW]; simp
  have HC := Hid.mk (partsOf_any sa sn sc pa pn pc ss xs W hsz hsn hz hpn (fun i x hx => hs.part hx) (hsa.below B0) (ha.below B0))
  have HZ := Hid.mk hz
  have HA := Hid.mk ha
  have HSM := Hid.mk hs
  clear hsz hz hs hsa ha
  go_enter Try.func8, Try.ntmps8
  go_wp2_with fail
  rw [← hW]
  clear hW
  refine HC.out.mono ?_
  rintro e w1 ⟨hret, hb1⟩
  have B1 := B0.trans (hb1.mono B0.size)
  unfold PartsRet at hret
  cases hck : checkV (ss, xs) with
  | none =>
    rw [hck] at hret
    obtain rfl := hret
    have HR := Hid.mk (ck_none hck).1
    clear hck hb1 B0
    go_wp2
    exact bodyPost_ret (v := .tuple #[.bool false, .bool false]) (by simp [results, Try.results8, go_sem]) rfl ⟨by rw [linB_no HR.out, HR.out], B1⟩
  | some ah =>
    rw [hck] at hret
    obtain ⟨r, d, r', d', vs, rfl, hvl, hap, hop, _⟩ := hret
    simp only [HZ.out] at hvl hop ⊢
    have HCK := Hid.mk (ck_some hck).1
    have hgood := checkV_good hck
    have HKIND : Hid (∀ (i : Nat) (x : PartD), i < pn → xs[i]? = some x → 1 ≤ x.K ∧ x.K ≤ 7) := by
      have h9 := hgood.2.2.2.2.2
      simp only [HZ.out] at h9
      exact checkTo_kind h9
    have hp1 : 1 ≤ pn := by have := hgood.2.1; simp only [HZ.out] at this; exact this
    have HLB : Hid (linB (ss, xs) = xs.all alone) := by show _ = _; unfold linB; rw [HCK.out]; rfl
    rcases hop.2 with ⟨_, h00⟩ | ⟨gg, cap, cur, hv, _⟩
    · omega
    simp only [Value.slice.injEq, true_and] at hv
    obtain ⟨rfl, rfl⟩ := hv
    have HOP := Hid.mk hop
    have HAP := Hid.mk hap
    have HVL := Hid.mk hvl
    have hglt : gg < w1.heap.size := (hop.lt gg rfl).2
    clear hck hop hap hvl hgood B0 hb1
    go_upto_region 5 with fail
    go_loopw [19] (fun i wr => ∃ (k : Nat), k ≤ pn ∧ i = .int .i64 k ∧ (xs.take k).all alone = true ∧ wr = w1) (fun i _ => pn - (intOf i).toNat)
    case atStart => exact ⟨0, Nat.zero_le _, rfl, rfl, rfl⟩
    case round =>
      obtain ⟨k, hk, rfl, hall, rfl⟩ := hrel
      by_cases hlt : k < pn
      · obtain ⟨x, hx⟩ : ∃ x, xs[k]? = some x := ⟨_, List.getElem?_eq_getElem (by rw [HZ.out]; exact hlt)⟩
        obtain ⟨v, hv⟩ : ∃ v, vs[k]? = some v := ⟨_, List.getElem?_eq_getElem (by rw [HVL.out]; exact hlt)⟩
        have hcx : wr.cell? ⟨gg, k, none⟩ = some v := (HOP.out.cellAt k (by omega)).trans hv
        have HX := Hid.mk (HKIND.out k x hlt hx)
        have HI := Hid.mk (HAP.out k v x hv hx)
        have HT := Hid.mk (all_take (p := alone) hx)
        have HN : Hid (alone x = false → xs.all alone = false) := fun h => all_no hx h
        have HAL := Hid.mk hall
        have hki : (k : Int) < (pn : Int) := by omega
        clear hx hv hall
        go_wp2_with fail
        refine (changesAlone_any v x _ _ HX.out HI.out).mono ?_
        rintro e w2 ⟨rfl, rfl⟩
        cases hal : alone x with
        | false =>
          have HF := Hid.mk (HN.out hal)
          clear hal
          go_wp2
          exact bodyPost_ret (v := .tuple #[.bool false, .bool true]) (by simp [results, Try.results8, go_sem]) rfl ⟨by rw [HLB.out, HF.out, HCK.out], B1⟩
        | true =>
          have HF := Hid.mk hal
          clear hal
          go_wp2
          go_roundw
          case rel => exact ⟨k + 1, by omega, by go_num, by rw [HT.out, HAL.out, HF.out]; rfl, trivial⟩
          case measure => simp [intOf]; omega
      · obtain rfl : k = pn := by omega
        have HF : Hid (xs.all alone = true) := by show _ = _; rw [List.take_of_length_le (by rw [HZ.out]; exact Nat.le_refl _)] at hall; exact hall
        clear hall
        go_wp2
        exact bodyPost_ret (v := .tuple #[.bool true, .bool true]) (by simp [results, Try.results8, go_sem]) rfl ⟨by rw [HLB.out, HF.out, HCK.out], B1⟩

set_option maxRecDepth 100000 in
set_option maxHeartbeats 4000000 in
theorem specIsLinear (sa : Option Addr) (sn sc : Nat) (pa : Option Addr) (pn pc : Nat) (ss : List Int) (xs : List PartD) (w : World) (hsz : ss.length = sn) (hz : xs.length = pn) (hs : SmView (ss, xs)) (hsa : At w sa ss) (ha : AtSl RPart w pa xs) :
    Calls Try.prog 6 #[.agg #[.slice sa sn sc, .slice pa pn pc]] w fun e w' => e = .returned (.tuple #[.bool (linB (ss, xs)), .bool (ckB (ss, xs))]) ∧ Below w.heap.size w w' := by
  have hsn : sn ≤ 1048576 := by have := hs.src; simp only at this; omega
  have hpn : pn ≤ 1048576 := by have := hs.len; simp only at this; omega
  obtain ⟨W, hW⟩ : ∃ W, W = w.alloc (.cells #[.slice sa sn sc, .slice pa pn pc] 31) := ⟨_, rfl⟩
  have B0 : Below w.heap.size w W := by rw [hW]; exact (Below.refl _ _).alloc (Nat.le_refl _) _
  have c1 : W.cell? ⟨w.heap.size, 1, none⟩ = some (.slice pa pn pc) := by rw [hW]; simp
  have HC := Hid.mk (l6Check_any sa sn sc pa pn pc ss xs W hsz hsn hz hpn (fun i x hx => hs.part hx) (hsa.below B0) (ha.below B0))
  have HZ := Hid.mk hz
  have HA := Hid.mk ha
  have HSM := Hid.mk hs
  clear hsz hz hs hsa ha
  go_enter Try.func6, Try.ntmps6
  go_wp2_with fail
  rw [← hW]
  clear hW
  refine HC.out.mono ?_
  rintro e w1 ⟨⟨r, m, d, rfl, hm, ho⟩, hb1⟩
  have B1 := B0.trans (hb1.mono B0.size)
  have c1 := cell_later hb1 c1
  have zw : w.heap.size < w1.heap.size := World.block_lt_of_cell? _ _ c1
  clear hm ho hb1 B0
  cases hck : ckB (ss, xs) with
  | false =>
    have HR := Hid.mk hck
    clear hck
    go_wp2
    exact bodyPost_ret (v := .tuple #[.bool false, .bool false]) (by simp [results, Try.results6, go_sem]) rfl ⟨by rw [linB_no HR.out, HR.out], B1⟩
  | true =>
    have HLB : Hid (linB (ss, xs) = xs.all alone) := by show _ = _; unfold linB; rw [hck]; rfl
    have HCK := Hid.mk hck
    clear hck
    go_upto_region 5 with fail
    go_loopw [18] (fun i wr => ∃ (k : Nat), k ≤ pn ∧ i = .int .i64 k ∧ (xs.take k).all alone = true ∧ Below w1.heap.size w1 wr) (fun i _ => pn - (intOf i).toNat)
    case atStart => exact ⟨0, Nat.zero_le _, rfl, rfl, Below.refl _ _⟩
    case round =>
      obtain ⟨k, hk, rfl, hall, hbw⟩ := hrel
      have HB : Hid (Below w.heap.size w wr) := B1.trans (hbw.mono B1.size)
      by_cases hlt : k < pn
      · obtain ⟨b, off, hpa, hc⟩ := HA.out.each (by rw [HZ.out]; omega)
        subst hpa
        obtain ⟨x, hx⟩ : ∃ x, xs[k]? = some x := ⟨_, List.getElem?_eq_getElem (by rw [HZ.out]; exact hlt)⟩
        obtain ⟨cx, hcx, hat⟩ := hc k x hx
        obtain ⟨ta, tn, tc, ca, cn, cc, qa, qn, qc, rfl, _⟩ := RPart.at_open hat
        have g0 := cell_later HB.out (hcx 0 _ rfl)
        have g1 := cell_later HB.out (hcx 1 _ rfl)
        have g2 := cell_later HB.out (hcx 2 _ rfl)
        have g3 := cell_later HB.out (hcx 3 _ rfl)
        have g4 := cell_later HB.out (hcx 4 _ rfl)
        have g5 := cell_later HB.out (hcx 5 _ rfl)
        rw [RPart_k] at g0 g1 g2 g3 g4 g5
        rw [Nat.add_zero] at g0
        have hki : (k : Int) < (pn : Int) := by omega
        have HT := Hid.mk (all_take (p := alone) hx)
        have HN : Hid (alone x = false → xs.all alone = false) := fun h => all_no hx h
        have HAL := Hid.mk hall
        have HBW := Hid.mk hbw
        have HAX : Hid (alone x = !(decide (x.K = 4) || decide (x.K = 7))) := rfl
        clear hx hall hcx hc hat hbw
        generalize x.K = K at *
        generalize x.A = A at *
        generalize x.B = B at *
        have HVB : Hid (Below w1.heap.size w1 (wr.alloc (.cells #[.int .i64 K, .int .i64 A, .int .i64 B, .slice ta tn tc, .slice ca cn cc, .slice qa qn qc] 45))) := HBW.out.alloc HBW.out.size _
        have HVE : Hid (Below w.heap.size w (wr.alloc (.cells #[.int .i64 K, .int .i64 A, .int .i64 B, .slice ta tn tc, .slice ca cn cc, .slice qa qn qc] 45))) := HB.out.alloc HB.out.size _
        by_cases k4 : K = 4
        · subst k4
          have HF := Hid.mk (HN.out (by rw [HAX.out]; rfl))
          go_wp2
          exact bodyPost_ret (v := .tuple #[.bool false, .bool true]) (by simp [results, Try.results6, go_sem]) rfl ⟨by rw [HLB.out, HF.out, HCK.out], HVE.out⟩
        by_cases k7 : K = 7
        · subst k7
          have HF := Hid.mk (HN.out (by rw [HAX.out]; rfl))
          go_wp2
          exact bodyPost_ret (v := .tuple #[.bool false, .bool true]) (by simp [results, Try.results6, go_sem]) rfl ⟨by rw [HLB.out, HF.out, HCK.out], HVE.out⟩
        · have HF : Hid (alone x = true) := by show _ = _; rw [HAX.out, decide_eq_false k4, decide_eq_false k7]; rfl
          have q4 : (K == 4) = false := by simpa using k4
          have q7 : (K == 7) = false := by simpa using k7
          go_wp2
          go_roundw
          case rel => exact ⟨k + 1, by omega, by go_num, by rw [HT.out, HAL.out, HF.out]; rfl, HVB.out⟩
          case measure => simp [intOf]; omega
      · obtain rfl : k = pn := by omega
        have HF : Hid (xs.all alone = true) := by show _ = _; rw [List.take_of_length_le (by rw [HZ.out]; exact Nat.le_refl _)] at hall; exact hall
        clear hall
        go_wp2
        exact bodyPost_ret (v := .tuple #[.bool true, .bool true]) (by simp [results, Try.results6, go_sem]) rfl ⟨by rw [HLB.out, HF.out, HCK.out], HB.out⟩

end Go.Proofs.Ythdcjelahoiepab

/- markTestS, and the laws' helpers over lists of tests in one form. -/
namespace Go.Proofs.Ythdcjelahoiepab
open Go.RowKit

set_option maxRecDepth 100000 in
set_option maxHeartbeats 2000000 in
theorem markTestS_any (base : Nat) (a : Option Addr) (n c : Nat) (cs : List Value) (m : Int) (w : World) (hn : n ≤ 1048576) (h0 : 0 ≤ m) (h1 : m ≤ 1073741824) (hown : w.ownsRow base 102 3 (.slice a n c) n cs) :
    Calls Try.prog 40 #[.slice a n c, .int .i64 m] w fun e w' => e = .returned (.int .i64 (m + (n * 3 : Nat))) ∧
      w'.ownsRow base 102 3 (.slice a n c) n ((marks m (n * 3)).map (.int .i64)) ∧ w.grownBy w' (Value.slice a n c).ownBlock := by
  rcases hown.2 with ⟨hv, h00⟩ | ⟨g, cap, cur, hv, hjunk⟩
  · simp only [Value.slice.injEq] at hv
    obtain ⟨rfl, rfl, rfl⟩ := hv
    go_enter Try.func40, Try.ntmps40
    go_wp2
    refine wp_loop_rounds 1 ?_
    rw [rounds_succ]
    go_wp2
    go_ret
    exact ⟨by simp, by simpa [marks] using World.ownsRow_nil w base 102 3, World.grownBy.refl _ _⟩
  · simp only [Value.slice.injEq, true_and] at hv
    obtain ⟨rfl, rfl⟩ := hv
    clear hjunk
    have hu0 := Upto.zero (cs := cs) (zs := marks m (n * 3)) (by rw [marks_length]; simpa using hown.1)
    go_enter Try.func40, Try.ntmps40
    go_wp2
    go_loopw [1, 5] (fun q i wr => ∃ (k : Nat) (cs : List Value), k ≤ n ∧ i = .int .i64 k ∧ q = .int .i64 (m + 3 * (k : Int)) ∧ Upto cs (marks m (n * 3)) (k * 3) ∧ wr.ownsRow base 102 3 (.slice (some ⟨g, 0, none⟩) n c) n cs ∧ w.grownBy wr (some g)) (fun _ i _ => n - (intOf i).toNat)
    case atStart => exact ⟨0, cs, Nat.zero_le _, rfl, by simp, hu0, hown, World.grownBy.refl _ _⟩
    case round =>
      clear hown hu0 cs
      obtain ⟨k, cs, hk, rfl, rfl, hu, hown, hbw⟩ := hrel
      by_cases hlt : k < n
      · have hlen : cs.length = n * 3 := by rw [hu.1, marks_length]
        have hset := hu.set3 (by rw [marks_length]; omega)
        rw [marks_getD m (n * 3) (k * 3) (by omega), marks_getD m (n * 3) (k * 3 + 1) (by omega), marks_getD m (n * 3) (k * 3 + 2) (by omega)] at hset
        obtain ⟨x, hx⟩ : ∃ x : Int, x = m + 3 * (k : Int) := ⟨_, rfl⟩
        rw [show m + ((k * 3 : Nat) : Int) = x by omega, show m + ((k * 3 + 1 : Nat) : Int) = x + 1 by omega, show m + ((k * 3 + 2 : Nat) : Int) = x + 1 + 1 by omega] at hset
        have HU := Hid.mk hset
        have HX := Hid.mk hx
        have x0 : 0 ≤ x := by omega
        have x1 : x ≤ 1077000000 := by omega
        rw [← hx]
        clear hset hu hx
        obtain ⟨u0, hu0⟩ : ∃ u, cs[k * 3]? = some u := ⟨_, List.getElem?_eq_getElem (by omega)⟩
        obtain ⟨u1, hu1⟩ : ∃ u, cs[k * 3 + 1]? = some u := ⟨_, List.getElem?_eq_getElem (by omega)⟩
        obtain ⟨u2, hu2⟩ : ∃ u, cs[k * 3 + 2]? = some u := ⟨_, List.getElem?_eq_getElem (by omega)⟩
        have q0 : wr.cell? ⟨g, k * 3, none⟩ = some u0 := (hown.cellAt _ (by omega)).trans hu0
        have q1 : wr.cell? ⟨g, k * 3 + 1, none⟩ = some u1 := (hown.cellAt _ (by omega)).trans hu1
        have q2 : wr.cell? ⟨g, k * 3 + 2, none⟩ = some u2 := (hown.cellAt _ (by omega)).trans hu2
        have p0 : wr.frozen? ⟨g, k * 3, none⟩ = false := hown.frozenAt _
        have p1 : wr.frozen? ⟨g, k * 3 + 1, none⟩ = false := hown.frozenAt _
        have p2 : wr.frozen? ⟨g, k * 3 + 2, none⟩ = false := hown.frozenAt _
        have s1 := hown.stored (k * 3) (.int .i64 x)
        have s2 := s1.1.stored (k * 3 + 1) (.int .i64 (x + 1))
        have s3 := s2.1.stored (k * 3 + 2) (.int .i64 (x + 1 + 1))
        have HO := Hid.mk s3.1
        have HB := Hid.mk (grown_trans (grown_trans (grown_trans hbw s1.2) s2.2) s3.2)
        have hki : (k : Int) < (n : Int) := by omega
        clear s1 s2 s3 hu0 hu1 hu2 hown hbw
        go_wp2
        go_roundw
        case rel => exact ⟨k + 1, _, by omega, by go_num, by have := HX.out; first | (go_num; omega) | (congr 1; omega), HU.out, HO.out, HB.out⟩
        case measure => simp [intOf]; omega
      · obtain rfl : k = n := by omega
        rw [hu.all (by rw [marks_length]; omega)] at hown
        go_wp2
        go_ret
        exact ⟨ret_int (by omega), hown, hbw⟩

/-- A list of tests that the laws' bound allows. -/
def SmE (es : List Tst) (n : Nat) : Prop := es.length = n ∧ n ≤ 1048576
theorem SmE.n {es : List Tst} {n : Nat} (h : SmE es n) : n ≤ 1048576 := h.2
def OwnF (w : World) (lo hi : Nat) (a : Option Addr) (n c : Nat) (zs : List Int) : Prop :=
  w.ownsRow lo 102 3 (.slice a n c) n (zs.map (.int .i64)) ∧ (∀ k, (Value.slice a n c).ownBlock = some k → lo ≤ k ∧ k < hi)
/-- A slice of tests that the call made: its block lies from lo on and below hi. -/
def OwnE (w : World) (lo hi : Nat) (a : Option Addr) (n c : Nat) (es : List Tst) : Prop := OwnF w lo hi a n c (flatE es)

section
variable {w w' : World} {lo hi : Nat} {a : Option Addr} {n c : Nat} {es : List Tst} {zs : List Int}
theorem OwnF.below (h : OwnF w lo hi a n c zs) (hb : Below w.heap.size w w') : OwnF w' lo hi a n c zs := ⟨h.1.kept (Below.toGrown hb none) (by simp; exact Classical.em _), h.2⟩
theorem OwnF.apartW {lo' hi' : Nat} (h : OwnF w lo hi a n c zs) (hp : Apart lo' hi' w w') (hd : hi ≤ lo' ∨ hi' ≤ lo) : OwnF w' lo hi a n c zs := ⟨hp.owns h.1 (fun k hk => by have := h.2 k hk; omega), h.2⟩
theorem OwnE.below (h : OwnE w lo hi a n c es) (hb : Below w.heap.size w w') : OwnE w' lo hi a n c es := OwnF.below h hb
theorem OwnE.apartW {lo' hi' : Nat} (h : OwnE w lo hi a n c es) (hp : Apart lo' hi' w w') (hd : hi ≤ lo' ∨ hi' ≤ lo) : OwnE w' lo hi a n c es := OwnF.apartW h hp hd
theorem OwnE.atE (h : OwnE w lo hi a n c es) (_hs : SmE es n) : AtE w a es := At.owned3 h.1
end

theorem toTestSG (a : Option Addr) (n c : Nat) (es : List Tst) (w : World) (hs : SmE es n) (ha : AtE w a es) :
    Calls Try.prog 50 #[.slice a n c] w fun e w' => ∃ g, e = .returned (.slice (some ⟨g, 0, none⟩) n n) ∧ OwnE w' w.heap.size w'.heap.size (some ⟨g, 0, none⟩) n n es ∧ Below w.heap.size w w' :=
  (toTestS_any a n c es w hs.1 hs.2 ha).mono fun _ _ ⟨h1, h2, h3⟩ => ⟨_, h1, ⟨h2, fun k hk => h2.lt k hk⟩, h3⟩
theorem eqTestSG (a a' : Option Addr) (n c c' : Nat) (es : List Tst) (w : World) (hs : SmE es n) (ha : AtE w a es) (ha' : AtE w a' es) :
    Calls Try.prog 53 #[.slice a n c, .slice a' n c'] w fun e w' => e = .returned (.bool true) ∧ Below w.heap.size w w' :=
  eqTestS_same a a' n c c' es w hs.1 hs.2 ha ha'
theorem markTestSG (lo hi : Nat) (a : Option Addr) (n c : Nat) (es : List Tst) (m : Int) (w : World) (hs : SmE es n) (h0 : 0 ≤ m) (h1 : m ≤ 268435456) (ho : OwnE w lo hi a n c es) :
    Calls Try.prog 40 #[.slice a n c, .int .i64 m] w fun e w' => e = .returned (.int .i64 (m + (n * 3 : Nat))) ∧ OwnF w' lo hi a n c (marks m (n * 3)) ∧ Apart lo hi w w' :=
  (markTestS_any lo a n c _ m w hs.2 h0 (by omega) ho.1).mono fun _ _ ⟨h1, h2, h3⟩ => ⟨h1, ⟨h2, ho.2⟩, Apart.grown h3 ho.2⟩

end Go.Proofs.Ythdcjelahoiepab

/- Plain: things as the laws mark them, one behind the other. -/
namespace Go.Proofs.Ythdcjelahoiepab
open Go.RowKit

section
variable {α : Type} (f : Int → α → α) (sz : α → Nat)
def mkL : Int → List α → List α
  | _, [] => []
  | m, x :: xs => f m x :: mkL (m + sz x) xs
def szL (xs : List α) (k : Nat) : Nat := ((xs.take k).map sz).sum
theorem mkL_length : ∀ (m : Int) (xs : List α), (mkL f sz m xs).length = xs.length
  | _, [] => rfl
  | m, x :: xs => by simp [mkL, mkL_length]
theorem szL_succ {xs : List α} {k : Nat} {x : α} (h : xs[k]? = some x) : szL sz xs (k + 1) = szL sz xs k + sz x := by
  have hk := (List.getElem?_eq_some_iff.1 h).1
  unfold szL
  rw [List.take_succ_eq_append_getElem hk, List.map_append, List.sum_append, (List.getElem?_eq_some_iff.1 h).2]
  simp
theorem mkL_at : ∀ (m : Int) (xs : List α) (k : Nat) (x : α), xs[k]? = some x → (mkL f sz m xs)[k]? = some (f (m + szL sz xs k) x)
  | m, y :: xs, 0, x, h => by
    simp at h
    subst h
    simp [mkL, szL]
  | m, y :: xs, k + 1, x, h => by
    have ih := mkL_at (m + sz y) xs k x (by simpa using h)
    have e : szL sz (y :: xs) (k + 1) = sz y + szL sz xs k := by simp [szL]
    rw [e]
    simp only [mkL, List.getElem?_cons_succ, ih]
    congr 2
    omega
/-- The first k are marked. -/
def mkTo (m : Int) (xs : List α) (k : Nat) : List α := (mkL f sz m xs).take k ++ xs.drop k
theorem mkTo_zero (m : Int) (xs : List α) : mkTo f sz m xs 0 = xs := by simp [mkTo]
theorem mkTo_all (m : Int) (xs : List α) {n : Nat} (h : xs.length = n) : mkTo f sz m xs n = mkL f sz m xs := by
  unfold mkTo
  rw [List.take_of_length_le (by rw [mkL_length]; omega), List.drop_of_length_le (by omega), List.append_nil]
theorem mkTo_next {m : Int} {xs : List α} {k : Nat} {x : α} (h : xs[k]? = some x) : (mkTo f sz m xs k)[k]? = some x := by
  have hk := (List.getElem?_eq_some_iff.1 h).1
  unfold mkTo
  have hl : ((mkL f sz m xs).take k).length = k := by rw [List.length_take, mkL_length]; omega
  rw [List.getElem?_append_right (by omega), hl, Nat.sub_self]
  simpa using h
theorem mkTo_set {m : Int} {xs : List α} {k : Nat} {x : α} (h : xs[k]? = some x) : (mkTo f sz m xs k).set k (f (m + szL sz xs k) x) = mkTo f sz m xs (k + 1) := by
  have hk := (List.getElem?_eq_some_iff.1 h).1
  have hm := mkL_at f sz m xs k x h
  have hl : ((mkL f sz m xs).take k).length = k := by rw [List.length_take, mkL_length]; omega
  unfold mkTo
  rw [List.set_append_right _ _ (by omega), hl, Nat.sub_self, List.drop_eq_getElem_cons hk, List.set_cons_zero]
  obtain ⟨hk2, hm2⟩ := List.getElem?_eq_some_iff.1 hm
  rw [List.take_succ_eq_append_getElem hk2, hm2, List.append_assoc]
  rfl
theorem mkTo_length (m : Int) (xs : List α) (k : Nat) : (mkTo f sz m xs k).length = xs.length := by
  unfold mkTo
  rw [List.length_append, List.length_take, List.length_drop, mkL_length]
  omega
end

def mkInts (m : Int) (zs : List Int) : List Int := marks m zs.length
def mkPairs (m : Int) (ps : List (List Int)) : List (List Int) := mkL (fun m zs => mkInts m zs) List.length m ps
def mkTests (m : Int) (es : List Tst) : List Tst := mkL (fun m _ => (m, m + 1, m + 2)) (fun _ => 3) m es
theorem szL_pairs (ps : List (List Int)) (k : Nat) : szL List.length ps k = tot ps k := rfl
theorem marks_succ (m : Int) (n : Nat) : marks m (n + 1) = m :: marks (m + 1) n := by
  unfold marks
  rw [List.range_succ_eq_map, List.map_cons, List.map_map]
  simp only [List.cons.injEq]
  refine ⟨by simp, ?_⟩
  apply List.map_congr_left
  intro i _
  simp only [Function.comp]
  push_cast
  omega
theorem flat_mk : ∀ (m : Int) (es : List Tst), flatE (mkTests m es) = marks m (es.length * 3)
  | m, [] => rfl
  | m, e :: es => by
    have ih := flat_mk (m + 3) es
    have e1 : flatE (mkTests m (e :: es)) = m :: (m + 1) :: (m + 2) :: flatE (mkTests (m + 3) es) := rfl
    rw [e1, ih, show (e :: es).length * 3 = es.length * 3 + 1 + 1 + 1 by simp; omega, marks_succ, marks_succ, marks_succ]
    rw [show m + 1 + 1 = m + 2 by omega, show m + 2 + 1 = m + 3 by omega]
/-- How many marks a part takes. -/
def psize (x : PartD) : Nat := 3 + x.ts.length * 3 + x.cs.length + tot x.ps x.ps.length
def mkPart (m : Int) (x : PartD) : PartD :=
  (m, m + 1, m + 2, mkTests (m + 3) x.ts, mkInts (m + 3 + (x.ts.length * 3 : Nat)) x.cs, mkPairs (m + 3 + (x.ts.length * 3 : Nat) + x.cs.length) x.ps)
def mkParts (m : Int) (xs : List PartD) : List PartD := mkL mkPart psize m xs
def mkView (m : Int) (v : ViewD) : ViewD := (mkInts m v.1, mkParts (m + v.1.length) v.2)
def vsize (v : ViewD) : Nat := v.1.length + szL psize v.2 v.2.length
theorem psize_le (x : PartD) : psize x ≤ 3 * pcost x + 3 := by unfold psize pcost; omega
theorem szL_psize (xs : List PartD) : ∀ k, k ≤ xs.length → szL psize xs k ≤ 3 * psum xs k + 3 * k
  | 0, _ => by simp [szL, psum]
  | k + 1, h => by
    have hx : xs[k]? = some xs[k] := List.getElem?_eq_getElem (by omega)
    have ih := szL_psize xs k (by omega)
    rw [szL_succ psize hx, psum_succ hx]
    have := psize_le xs[k]
    omega
theorem SmView.size {v : ViewD} (h : SmView v) : szL psize v.2 v.2.length ≤ 6291456 ∧ vsize v ≤ 8388608 := by
  have h1 := szL_psize v.2 v.2.length (Nat.le_refl _)
  unfold SmView vcost at h
  unfold vsize
  omega
theorem szL_mono {α : Type} (sz : α → Nat) (xs : List α) (j k : Nat) (h : j ≤ k) : szL sz xs j ≤ szL sz xs k := by
  obtain ⟨d, rfl⟩ := Nat.le.dest h
  induction d with
  | zero => exact Nat.le_refl _
  | succ d ih =>
    by_cases hk : j + d < xs.length
    · rw [show j + (d + 1) = (j + d) + 1 from rfl, szL_succ sz (List.getElem?_eq_getElem hk)]; have := ih (by omega); omega
    · have e1 : szL sz xs (j + (d + 1)) = szL sz xs (j + d) := by unfold szL; rw [List.take_of_length_le (by omega), List.take_of_length_le (by omega)]
      rw [e1]; exact ih (by omega)

end Go.Proofs.Ythdcjelahoiepab
