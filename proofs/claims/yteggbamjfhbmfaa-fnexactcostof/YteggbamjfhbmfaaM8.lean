/- Several texts of one proof, in build order: GsS, RisI, SzO. -/
import Derived.Test.YteggbamjfhbmfaaM7
import Derived.Test.YteggbamjfhbmfaaM4
import Derived.Test.YteggbamjfhbmfaaRows
import Derived.Test.YteggbamjfhbmfaaM6

/- Contract of the model's GoodStats. -/
namespace Go.Proofs.Yteggbamjfhbmfaa
open Go.RowKit

set_option maxRecDepth 100000 in
set_option maxHeartbeats 4000000 in
theorem specGoodStats (sa : Option Addr) (sn sc : Nat) (zs : List Int) (pa : Option Addr) (pn pc : Nat) (fs : List (List Int)) (w : World) (hs : zs.length = sn) (hsn : sn ≤ 9223372036854775807) (hsa : At w sa zs) (hz : fs.length = pn) (hn : pn ≤ 9223372036854775807) (ha : AtS w pa fs) :
    Calls Try.prog 26 #[.agg #[.slice sa sn sc, .slice pa pn pc]] w fun e w' => e = .returned (.bool (gsB zs fs)) ∧ Below w.heap.size w w' := by
  obtain ⟨W, hW⟩ : ∃ W, W = w.alloc (.cells #[.slice sa sn sc, .slice pa pn pc] 53) := ⟨_, rfl⟩
  have B0 : Below w.heap.size w W := by rw [hW]; exact (Below.refl _ _).alloc (Nat.le_refl _) _
  have q0 : W.cell? ⟨w.heap.size, 0, none⟩ = some (.slice sa sn sc) := by rw [hW]; simp
  have q1 : W.cell? ⟨w.heap.size, 1, none⟩ = some (.slice pa pn pc) := by rw [hW]; simp
  have HS := Hid.mk hs
  have HZ := Hid.mk hz
  have HSA := Hid.mk (At.below hsa B0)
  have HA := Hid.mk (AtS.below ha B0)
  have zW : w.heap.size < W.heap.size := by rw [hW]; simp
  have KL := Hid.mk (l1In_any (sn : Int) 1 6 W)
  clear hs hz hsa ha
  cases c1 : (decide ((1 : Int) ≤ (sn : Int)) && decide ((sn : Int) ≤ 6)) with
  | false =>
    have HG : Hid (gsB zs fs = false) := by
      show _ = _; unfold gsB; rw [HS.out, show (decide (1 ≤ sn) && decide (sn ≤ 6)) = false by rw [← c1]; congr 1 <;> simp <;> omega]; rfl
    go_enter Try.func26, Try.ntmps26
    go_wp2_with fail
    rw [← hW]
    clear hW
    refine KL.out.mono ?_
    rintro e w1 ⟨rfl, hw1⟩
    obtain rfl := hw1.symm
    rw [c1]
    go_wp2
    go_ret
    exact ⟨by rw [HG.out]; rfl, B0⟩
  | true =>
  have hs6 : 1 ≤ sn ∧ sn ≤ 6 := by simp only [Bool.and_eq_true, decide_eq_true_eq] at c1; omega
  by_cases c3 : pn = sn
  · subst c3
    have c3' : ((pn : Int) == (pn : Int)) = true := by simp
    have HG : Hid (gsB zs fs = (facB 0 fs && wiB 50 zs)) := by show _ = _; unfold gsB; rw [HS.out, HZ.out, decide_eq_true hs6.1, decide_eq_true hs6.2]; simp
    go_enter Try.func26, Try.ntmps26
    go_wp2_with fail
    rw [← hW]
    clear hW
    refine KL.out.mono ?_
    rintro e w1 ⟨rfl, hw1⟩
    obtain rfl := hw1.symm
    rw [c1]
    clear c1 KL
    go_wp2
    go_loopw [24] (fun i wr => ∃ (k : Nat), k ≤ pn ∧ i = .int .i64 k ∧ facB 0 fs = facB k (fs.drop k) ∧ wiB 50 zs = wiB 50 (zs.drop k) ∧ Below W.heap.size W wr) (fun i _ => pn - (intOf i).toNat)
    case atStart => exact ⟨0, Nat.zero_le _, rfl, rfl, rfl, Below.refl _ _⟩
    case round =>
      obtain ⟨k, hk, rfl, ht, hu, hbw⟩ := hrel
      by_cases hlt : k < pn
      · obtain ⟨f, hf⟩ : ∃ f, fs[k]? = some f := ⟨_, List.getElem?_eq_getElem (by have := HZ.out; omega)⟩
        obtain ⟨b, off, a', c', rfl, hcx, hm1, hax⟩ := atS_rw (AtS.below HA.out hbw) hf
        obtain ⟨b2, off2, rfl, hb2, hc2⟩ := (At.below HSA.out hbw).some (by have := HS.out; omega)
        have hcy := hc2 k (by have := HS.out; omega)
        rw [facB_step hf] at ht
        rw [wiB_step (by have := HS.out; omega)] at hu
        obtain ⟨m, hm⟩ : ∃ m, f.length = m := ⟨_, rfl⟩
        rw [hm] at hcx hm1 ht
        obtain ⟨x, hx⟩ : ∃ x, x = zs.getD k 0 := ⟨_, rfl⟩
        rw [← hx] at hcy hu
        have hki : (k : Int) < (pn : Int) := by omega
        have p1 := cell_later hbw q1
        have HT := Hid.mk ht
        have HU := Hid.mk hu
        have HM := Hid.mk hm
        have HB := Hid.mk hbw
        have HAX := Hid.mk hax
        have K := Hid.mk (l1In_any x 1 50 wr)
        clear ht hu hm hbw hf hax hx hc2
        cases hi : inB 50 x with
        | false =>
          go_wp2_with fail
          refine K.out.mono ?_
          rintro e w1 ⟨rfl, hw1⟩
          obtain rfl := hw1.symm
          rw [show (decide (1 ≤ x) && decide (x ≤ 50)) = false from hi]
          go_wp2
          go_ret
          exact ⟨by rw [HG.out, HU.out, hi]; simp, B0.trans (HB.out.mono (by omega))⟩
        | true =>
        by_cases e1 : m = k
        · subst e1
          have e1' : ((m : Int) == (m : Int)) = true := by simp
          go_wp2_with fail
          refine K.out.mono ?_
          rintro e w1 ⟨rfl, hw1⟩
          obtain rfl := hw1.symm
          rw [show (decide (1 ≤ x) && decide (x ≤ 50)) = true from hi]
          clear K
          have HU2 : Hid (wiB 50 zs = wiB 50 (zs.drop (m + 1))) := by show _ = _; rw [HU.out, hi]; rfl
          clear HU hi
          obtain ⟨wy, rfl⟩ : ∃ x, x = wr := ⟨_, rfl⟩
          go_wp2
          go_loopw [48] (fun i wr => ∃ (j : Nat), j ≤ m ∧ i = .int .i64 j ∧ wiB 10 f = wiB 10 (f.drop j) ∧ Below wy.heap.size wy wr) (fun i _ => m - (intOf i).toNat)
          case atStart => exact ⟨0, Nat.zero_le _, rfl, rfl, Below.refl _ _⟩
          case round =>
            obtain ⟨j, hj, rfl, hv, hbj⟩ := hrel
            by_cases hjt : j < m
            · obtain ⟨b3, off3, rfl, hb3, hc3⟩ := (At.below HAX.out hbj).some (by have := HM.out; omega)
              have hcz := hc3 j (by have := HM.out; omega)
              rw [wiB_step (by have := HM.out; omega)] at hv
              obtain ⟨y, hy⟩ : ∃ y, y = f.getD j 0 := ⟨_, rfl⟩
              rw [← hy] at hcz hv
              have hji : (j : Int) < (m : Int) := by omega
              have HV := Hid.mk hv
              have HBJ := Hid.mk hbj
              have K := Hid.mk (l1In_any y 1 10 wr)
              clear hv hbj hy hc3
              go_wp2_with fail
              refine K.out.mono ?_
              rintro e w1 ⟨rfl, hw1⟩
              obtain rfl := hw1.symm
              clear K
              rw [show (decide (1 ≤ y) && decide (y ≤ 10)) = inB 10 y from rfl]
              cases hi : inB 10 y with
              | false =>
                go_wp2
                go_ret
                exact ⟨by rw [HG.out, HT.out, HV.out, hi]; simp, B0.trans ((HB.out.trans (HBJ.out.mono HB.out.size)).mono (by omega))⟩
              | true =>
                go_wp2
                go_roundw
                case rel => exact ⟨j + 1, by omega, by go_num, by rw [HV.out, hi]; rfl, HBJ.out⟩
                case measure => simp [intOf]; omega
            · obtain rfl : j = m := by omega
              have hji : ¬ (j : Int) < (j : Int) := by omega
              have HV := Hid.mk hv
              have HBJ := Hid.mk hbj
              clear hv hbj
              go_wp2
              go_roundw
              case rel => exact ⟨j + 1, by omega, by go_num, by rw [HT.out, HV.out, wiB_done HM.out]; simp, HU2.out, HB.out.trans (HBJ.out.mono HB.out.size)⟩
              case measure => simp [intOf]; omega
        · have e1' : ((m : Int) == (k : Int)) = false := beq_eq_false_iff_ne.2 (by omega)
          go_wp2_with fail
          refine K.out.mono ?_
          rintro e w1 ⟨rfl, hw1⟩
          obtain rfl := hw1.symm
          rw [show (decide (1 ≤ x) && decide (x ≤ 50)) = true from hi]
          go_wp2
          go_ret
          exact ⟨by rw [HG.out, HT.out, decide_eq_false e1]; simp, B0.trans (HB.out.mono (by omega))⟩
      · obtain rfl : k = pn := by omega
        have hki : ¬ (k : Int) < (k : Int) := by omega
        have HT := Hid.mk ht
        have HU := Hid.mk hu
        have HB := Hid.mk hbw
        clear ht hbw hu
        go_wp2
        go_ret
        exact ⟨by rw [HG.out, HT.out, HU.out, facB_done HZ.out, wiB_done HS.out]; rfl, B0.trans (HB.out.mono (by omega))⟩
  · have c3' : ((pn : Int) == (sn : Int)) = false := beq_eq_false_iff_ne.2 (by omega)
    have HG : Hid (gsB zs fs = false) := by show _ = _; unfold gsB; rw [HS.out, HZ.out, decide_eq_false c3]; simp
    go_enter Try.func26, Try.ntmps26
    go_wp2_with fail
    rw [← hW]
    clear hW
    refine KL.out.mono ?_
    rintro e w1 ⟨rfl, hw1⟩
    obtain rfl := hw1.symm
    rw [c1]
    go_wp2
    go_ret
    exact ⟨by rw [HG.out]; rfl, B0⟩

end Go.Proofs.Yteggbamjfhbmfaa

/- Contracts of areRising and of the model's l1Some. -/
namespace Go.Proofs.Yteggbamjfhbmfaa
open Go.RowKit

set_option maxHeartbeats 1000000 in
theorem areRising_any (a : Option Addr) (n c : Nat) (zs : List Int) (C : Int) (w : World) (hz : zs.length = n) (hn : n ≤ 9223372036854775807) (ha : At w a zs) :
    Calls Try.prog 82 #[.slice a n c, .int .i64 C] w fun e w' => e = .returned (.bool (ris C zs)) ∧ Below w.heap.size w w' := by
  by_cases h0 : n = 0
  · subst h0
    obtain rfl := List.eq_nil_of_length_eq_zero hz
    go_enter Try.func82, Try.ntmps82
    go_wp2
    refine wp_loop_rounds 1 ?_
    rw [rounds_succ]
    go_wp2
    go_ret
    exact ⟨rfl, Below.refl _ _⟩
  · obtain ⟨b, off, rfl, hb, hc⟩ := ha.some (by omega)
    clear ha
    go_enter Try.func82, Try.ntmps82
    go_wp2
    go_loopw [5, 10] (fun p i wr => ∃ (k : Nat) (q : Int), k ≤ n ∧ i = .int .i64 k ∧ p = .int .i64 q ∧ ris C zs = risB C q (zs.drop k) ∧ Below w.heap.size w wr) (fun _ i _ => n - (intOf i).toNat)
    case atStart => exact ⟨0, -1, Nat.zero_le _, rfl, rfl, rfl, Below.refl _ _⟩
    case round =>
      obtain ⟨k, q, hk, rfl, rfl, ht, hbw⟩ := hrel
      by_cases hlt : k < n
      · have hcx : wr.cell? ⟨b, off + k, none⟩ = some (.int .i64 (zs.getD k 0)) := (hbw.cell hb).trans (hc k (by omega))
        rw [risB_step _ _ _ _ (by omega)] at ht
        obtain ⟨x, hx⟩ : ∃ x, x = zs.getD k 0 := ⟨_, rfl⟩
        rw [← hx] at hcx ht
        have HT := Hid.mk ht
        clear hx ht hc
        by_cases c1 : x ≤ q
        · go_wp2
          go_ret
          exact ⟨by rw [HT.out, decide_eq_false (by omega : ¬ q < x)]; rfl, hbw⟩
        · by_cases c2 : C ≤ x
          · go_wp2
            go_ret
            exact ⟨by rw [HT.out, decide_eq_false (by omega : ¬ x < C)]; simp, hbw⟩
          · go_wp2
            go_roundw
            case rel => exact ⟨k + 1, x, by omega, by go_num, rfl, by rw [HT.out, decide_eq_true (by omega : q < x), decide_eq_true (by omega : x < C)]; rfl, hbw⟩
            case measure => simp [intOf]; omega
      · have HT := Hid.mk ht
        clear ht
        go_wp2
        go_ret
        exact ⟨by rw [HT.out, risB_done _ _ _ _ (by omega)]; rfl, hbw⟩

set_option maxHeartbeats 2000000 in
theorem l1Some_any (a : Option Addr) (n c : Nat) (zs : List Int) (C : Int) (w : World) (hz : zs.length = n) (hn : n ≤ 9223372036854775807) (ha : At w a zs) :
    Calls Try.prog 56 #[.slice a n c, .int .i64 C] w fun e w' => e = .returned (.bool (ris C zs)) ∧ Below w.heap.size w w' := by
  by_cases h0 : n = 0
  · subst h0
    obtain rfl := List.eq_nil_of_length_eq_zero hz
    go_enter Try.func56, Try.ntmps56
    go_wp2
    refine wp_loop_rounds 1 ?_
    rw [rounds_succ]
    go_wp2
    go_ret
    exact ⟨rfl, Below.refl _ _⟩
  · obtain ⟨b, off, rfl, hb, hc⟩ := ha.some (by omega)
    clear ha
    go_enter Try.func56, Try.ntmps56
    go_wp2
    go_loopw [9] (fun i wr => ∃ (k : Nat), k ≤ n ∧ i = .int .i64 k ∧ ris C zs = risB C (if k = 0 then -1 else zs.getD (k - 1) 0) (zs.drop k) ∧ (0 < k → 0 ≤ zs.getD (k - 1) 0) ∧ Below w.heap.size w wr) (fun i _ => n - (intOf i).toNat)
    case atStart => exact ⟨0, Nat.zero_le _, rfl, rfl, fun h => absurd h (by omega), Below.refl _ _⟩
    case round =>
      obtain ⟨k, hk, rfl, ht, hp, hbw⟩ := hrel
      by_cases hlt : k < n
      · have hcx : wr.cell? ⟨b, off + k, none⟩ = some (.int .i64 (zs.getD k 0)) := (hbw.cell hb).trans (hc k (by omega))
        rw [risB_step _ _ _ _ (by omega)] at ht
        obtain ⟨x, hx⟩ : ∃ x, x = zs.getD k 0 := ⟨_, rfl⟩
        have HX : Hid (zs.getD (k + 1 - 1) 0 = x) := by show _ = _; rw [Nat.add_sub_cancel, hx]
        rw [← hx] at hcx ht
        by_cases k0 : k = 0
        · rw [if_pos k0] at ht
          have HT := Hid.mk ht
          have HK := Hid.mk k0
          have hk0 : decide (0 < k) = false := decide_eq_false (by omega)
          have hk0' : ¬ (0 : Int) < (k : Int) := by omega
          clear hx ht hc hp k0
          by_cases c1 : x < 0
          · go_wp2
            go_ret
            exact ⟨by rw [HT.out, decide_eq_false (by omega : ¬ (-1 : Int) < x)]; rfl, hbw⟩
          · by_cases c2 : C ≤ x
            · go_wp2
              go_ret
              exact ⟨by rw [HT.out, decide_eq_false (by omega : ¬ x < C)]; simp, hbw⟩
            · go_wp2
              go_roundw
              case rel => exact ⟨k + 1, by omega, by go_num, by rw [HT.out, if_neg (by omega), HX.out, decide_eq_true (by omega : (-1 : Int) < x), decide_eq_true (by omega : x < C)]; rfl, fun _ => by rw [HX.out]; omega, hbw⟩
              case measure => simp [intOf]; omega
        · have hcp : wr.cell? ⟨b, off + (k - 1), none⟩ = some (.int .i64 (zs.getD (k - 1) 0)) := (hbw.cell hb).trans (hc (k - 1) (by omega))
          rw [if_neg k0] at ht
          have hp0 := hp (by omega)
          obtain ⟨q, hq⟩ : ∃ q, q = zs.getD (k - 1) 0 := ⟨_, rfl⟩
          rw [← hq] at hcp ht hp0
          have HT := Hid.mk ht
          have hk1 : 0 < k := by omega
          have hk1' : (0 : Int) < (k : Int) := by omega
          have hw : IntKind.i64.wrap ((k : Int) - 1) = ((k - 1 : Nat) : Int) := by rw [IntWalk.i64_in _ (by omega)]; omega
          have hkn : k - 1 < n := by omega
          clear hx ht hc hp hq k0
          by_cases c1 : x < 0
          · go_wp2
            go_ret
            exact ⟨by rw [HT.out, decide_eq_false (by omega : ¬ q < x)]; rfl, hbw⟩
          · by_cases c2 : C ≤ x
            · go_wp2
              go_ret
              exact ⟨by rw [HT.out, decide_eq_false (by omega : ¬ x < C)]; simp, hbw⟩
            · by_cases c3 : x ≤ q
              · go_wp2
                go_ret
                exact ⟨by rw [HT.out, decide_eq_false (by omega : ¬ q < x)]; rfl, hbw⟩
              · go_wp2
                go_roundw
                case rel => exact ⟨k + 1, by omega, by go_num, by rw [HT.out, if_neg (by omega), HX.out, decide_eq_true (by omega : q < x), decide_eq_true (by omega : x < C)]; rfl, fun _ => by rw [HX.out]; omega, hbw⟩
                case measure => simp [intOf]; omega
      · have HT := Hid.mk ht
        clear ht
        go_wp2
        go_ret
        exact ⟨by rw [HT.out, risB_done _ _ _ _ (by omega)]; rfl, hbw⟩

end Go.Proofs.Yteggbamjfhbmfaa

/- Contracts of SizeOf, the program's and the model's. -/
namespace Go.Proofs.Yteggbamjfhbmfaa
open Go.RowKit

/-- Some tables: rising numbers, at least one. -/
def smT (zs : List Int) (fs : List (List Int)) (l : List Int) : Bool := gsB zs fs && (decide (0 < l.length) && ris (zs.length : Int) l)
theorem smT_gs {zs : List Int} {fs : List (List Int)} {l : List Int} (h : smT zs fs l = true) : gsB zs fs = true := by
  simp only [smT, Bool.and_eq_true] at h; exact h.1
theorem risB_pair {c : Int} : ∀ {l : List Int} {p : Int}, risB c p l = true → (∀ x ∈ l, p < x ∧ x < c) ∧ l.Pairwise (· < ·)
  | [], _, _ => ⟨fun _ h => by simp at h, List.Pairwise.nil⟩
  | z :: l, p, h => by
    simp only [risB, Bool.and_eq_true, decide_eq_true_eq] at h
    obtain ⟨h1, h2⟩ := risB_pair h.2.2
    refine ⟨fun x hx => ?_, List.pairwise_cons.2 ⟨fun x hx => (h1 x hx).1, h2⟩⟩
    rcases List.mem_cons.1 hx with rfl | hx
    · exact ⟨h.1, h.2.1⟩
    · have := h1 x hx; omega
theorem ris_tbl {n : Nat} {l : List Int} (h : ris (n : Int) l = true) : TbL n l := by
  obtain ⟨h1, h2⟩ := risB_pair h
  exact ⟨h2.imp (fun h => by omega), fun x hx => by have := h1 x hx; omega⟩
theorem pair_lt {l : List Int} (h : l.Pairwise (· < ·)) (i j : Nat) (x y : Int) (hx : l[i]? = some x) (hy : l[j]? = some y) (hij : i < j) : x < y := by
  obtain ⟨h1, rfl⟩ := List.getElem?_eq_some_iff.1 hx
  obtain ⟨h2, rfl⟩ := List.getElem?_eq_some_iff.1 hy
  exact List.pairwise_iff_getElem.1 h i j h1 h2 hij
theorem ris_lt {n : Nat} {l : List Int} (h : ris (n : Int) l = true) (i j : Nat) (x y : Int) (hx : l[i]? = some x) (hy : l[j]? = some y) (hij : i < j) : x < y := pair_lt (risB_pair h).2 i j x y hx hy hij
def szA (zs : List Int) (fs : List (List Int)) (l : List Int) : Int := if smT zs fs l then szQ zs fs l else 0

set_option maxRecDepth 100000 in
set_option maxHeartbeats 4000000 in
theorem areSome_any (sa : Option Addr) (sn sc : Nat) (zs : List Int) (pa : Option Addr) (pn pc : Nat) (fs : List (List Int)) (a : Option Addr) (n c : Nat) (l : List Int) (w : World) (hs : zs.length = sn) (hsn : sn ≤ 9223372036854775807) (hsa : At w sa zs) (hz : fs.length = pn) (hpn : pn ≤ 9223372036854775807) (ha : AtS w pa fs) (hl : l.length = n) (hn : n ≤ 9223372036854775807) (hla : At w a l) :
    Calls Try.prog 58 #[.agg #[.slice sa sn sc, .slice pa pn pc], .slice a n c] w fun e w' => e = .returned (.bool (smT zs fs l)) ∧ Below w.heap.size w w' := by
  obtain ⟨W, hW⟩ : ∃ W, W = w.alloc (.cells #[.slice sa sn sc, .slice pa pn pc] 53) := ⟨_, rfl⟩
  have B0 : Below w.heap.size w W := by rw [hW]; exact (Below.refl _ _).alloc (Nat.le_refl _) _
  have q0 : W.cell? ⟨w.heap.size, 0, none⟩ = some (.slice sa sn sc) := by rw [hW]; simp
  have HS := Hid.mk hs
  have HL := Hid.mk hl
  have HLA := Hid.mk (At.below hla B0)
  have K := Hid.mk (implGoodStats sa sn sc zs pa pn pc fs W hs hsn (At.below hsa B0) hz hpn (AtS.below ha B0))
  clear hs hz hl hsa ha hla
  go_enter Try.func58, Try.ntmps58
  go_wp2_with fail
  rw [← hW]
  clear hW
  refine K.out.mono ?_
  rintro e w1 ⟨rfl, hb1⟩
  have q0 := cell_later hb1 q0
  have B1 := Hid.mk (B0.trans (hb1.mono B0.size))
  have HLA1 := Hid.mk (At.below HLA.out hb1)
  clear hb1 K HLA
  cases hg : gsB zs fs with
  | false =>
    go_wp2
    go_ret
    exact ⟨by unfold smT; rw [hg]; rfl, B1.out⟩
  | true =>
  by_cases h0 : n = 0
  · have h0' : ¬ (0 : Int) < (n : Int) := by omega
    have HV : Hid (smT zs fs l = false) := by show _ = _; unfold smT; rw [HL.out, decide_eq_false (by omega : ¬ 0 < n)]; simp
    clear h0
    go_wp2
    go_ret
    exact ⟨by rw [HV.out]; rfl, B1.out⟩
  · have h0' : (0 : Int) < (n : Int) := by omega
    have HV : Hid (smT zs fs l = ris (sn : Int) l) := by show _ = _; unfold smT; rw [hg, HL.out, HS.out, decide_eq_true (by omega : 0 < n)]; rfl
    have K2 := Hid.mk (areRising_any a n c l (sn : Int) w1 HL.out hn HLA1.out)
    go_wp2_with fail
    refine K2.out.mono ?_
    rintro e w2 ⟨rfl, hb2⟩
    have B2 := Hid.mk (B1.out.trans (hb2.mono B1.out.size))
    clear hb2 K2
    go_wp2
    go_ret
    exact ⟨by rw [HV.out]; rfl, B2.out⟩

set_option maxRecDepth 100000 in
set_option maxHeartbeats 4000000 in
theorem implSizeOf (sa : Option Addr) (sn sc : Nat) (zs : List Int) (pa : Option Addr) (pn pc : Nat) (fs : List (List Int)) (a : Option Addr) (n c : Nat) (l : List Int) (w : World) (hs : zs.length = sn) (hsn : sn ≤ 9223372036854775807) (hsa : At w sa zs) (hz : fs.length = pn) (hpn : pn ≤ 9223372036854775807) (ha : AtS w pa fs) (hl : l.length = n) (hn : n ≤ 9223372036854775807) (hc : n ≤ c) (hla : At w a l) :
    Calls Try.prog 31 #[.agg #[.slice sa sn sc, .slice pa pn pc], .slice a n c] w fun e w' => e = .returned (.tuple #[.int .i64 (szA zs fs l), .bool (smT zs fs l)]) ∧ Below w.heap.size w w' := by
  obtain ⟨W, hW⟩ : ∃ W, W = w.alloc (.cells #[.slice sa sn sc, .slice pa pn pc] 53) := ⟨_, rfl⟩
  have B0 : Below w.heap.size w W := by rw [hW]; exact (Below.refl _ _).alloc (Nat.le_refl _) _
  have q0 : W.cell? ⟨w.heap.size, 0, none⟩ = some (.slice sa sn sc) := by rw [hW]; simp
  have q1 : W.cell? ⟨w.heap.size, 1, none⟩ = some (.slice pa pn pc) := by rw [hW]; simp
  have HS := Hid.mk hs
  have HZ := Hid.mk hz
  have HL := Hid.mk hl
  have HSA := Hid.mk (At.below hsa B0)
  have HA := Hid.mk (AtS.below ha B0)
  have HLA := Hid.mk (At.below hla B0)
  have K := Hid.mk (areSome_any sa sn sc zs pa pn pc fs a n c l W hs hsn (At.below hsa B0) hz hpn (AtS.below ha B0) hl hn (At.below hla B0))
  clear hs hz hl hsa ha hla
  go_enter Try.func31, Try.ntmps31
  go_wp2_with fail
  rw [← hW]
  clear hW
  refine K.out.mono ?_
  rintro e w1 ⟨rfl, hb1⟩
  have q0 := cell_later hb1 q0
  have q1 := cell_later hb1 q1
  have B1 := Hid.mk (B0.trans (hb1.mono B0.size))
  have HLA1 := Hid.mk (At.below HLA.out hb1)
  have HSA1 := Hid.mk (At.below HSA.out hb1)
  have HA1 := Hid.mk (AtS.below HA.out hb1)
  clear hb1 K HLA HSA HA
  cases hg : smT zs fs l with
  | false =>
    go_wp2
    exact bodyPost_ret (v := .tuple #[.int .i64 0, .bool false]) (by simp [results, Try.results31, go_sem]) rfl ⟨by unfold szA; rw [hg]; rfl, B1.out⟩
  | true =>
    have HV : Hid (szA zs fs l = szQ zs fs l) := by show _ = _; unfold szA; rw [hg]; rfl
    have hgf := gsF (smT_gs hg)
    have hri : ris (zs.length : Int) l = true := by simp only [smT, Bool.and_eq_true] at hg; exact hg.2.2
    have K2 := Hid.mk (sizeOfJoined_any sa sn sc zs pa pn pc fs a n c l w1 HS.out HSA1.out HZ.out HA1.out HL.out hc HLA1.out hgf (ris_tbl hri))
    have HW := Hid.mk hg
    clear hgf hri hg
    go_wp2_with fail
    refine K2.out.mono ?_
    rintro e w2 ⟨rfl, hb2⟩
    have B2 := Hid.mk (B1.out.trans (hb2.mono B1.out.size))
    clear hb2 K2
    go_wp2
    exact bodyPost_ret (v := .tuple #[.int .i64 (szQ zs fs l), .bool true]) (by simp [results, Try.results31, go_sem]) rfl ⟨by rw [HV.out, HW.out], B2.out⟩

set_option maxRecDepth 100000 in
set_option maxHeartbeats 4000000 in
theorem specSizeOf (sa : Option Addr) (sn sc : Nat) (zs : List Int) (pa : Option Addr) (pn pc : Nat) (fs : List (List Int)) (a : Option Addr) (n c : Nat) (l : List Int) (w : World) (hs : zs.length = sn) (hsn : sn ≤ 9223372036854775807) (hsa : At w sa zs) (hz : fs.length = pn) (hpn : pn ≤ 9223372036854775807) (ha : AtS w pa fs) (hl : l.length = n) (hn : n ≤ 9223372036854775807) (hc : n ≤ c) (hla : At w a l) :
    Calls Try.prog 30 #[.agg #[.slice sa sn sc, .slice pa pn pc], .slice a n c] w fun e w' => e = .returned (.tuple #[.int .i64 (szA zs fs l), .bool (smT zs fs l)]) ∧ Below w.heap.size w w' := by
  obtain ⟨W, hW⟩ : ∃ W, W = w.alloc (.cells #[.slice sa sn sc, .slice pa pn pc] 53) := ⟨_, rfl⟩
  have B0 : Below w.heap.size w W := by rw [hW]; exact (Below.refl _ _).alloc (Nat.le_refl _) _
  have q0 : W.cell? ⟨w.heap.size, 0, none⟩ = some (.slice sa sn sc) := by rw [hW]; simp
  have q1 : W.cell? ⟨w.heap.size, 1, none⟩ = some (.slice pa pn pc) := by rw [hW]; simp
  have HS := Hid.mk hs
  have HZ := Hid.mk hz
  have HL := Hid.mk hl
  have HSA := Hid.mk (At.below hsa B0)
  have HA := Hid.mk (AtS.below ha B0)
  have HLA := Hid.mk (At.below hla B0)
  have K := Hid.mk (specGoodStats sa sn sc zs pa pn pc fs W hs hsn (At.below hsa B0) hz hpn (AtS.below ha B0))
  clear hs hz hl hsa ha hla
  go_enter Try.func30, Try.ntmps30
  go_wp2_with fail
  rw [← hW]
  clear hW
  refine K.out.mono ?_
  rintro e w1 ⟨rfl, hb1⟩
  have q0 := cell_later hb1 q0
  have q1 := cell_later hb1 q1
  have B1 := Hid.mk (B0.trans (hb1.mono B0.size))
  have HLA1 := Hid.mk (At.below HLA.out hb1)
  have HSA1 := Hid.mk (At.below HSA.out hb1)
  have HA1 := Hid.mk (AtS.below HA.out hb1)
  clear hb1 K HLA HSA HA
  cases hg : gsB zs fs with
  | false =>
    have HV : Hid (smT zs fs l = false) := by show _ = _; unfold smT; rw [hg]; rfl
    go_wp2
    exact bodyPost_ret (v := .tuple #[.int .i64 0, .bool false]) (by simp [results, Try.results30, go_sem]) rfl ⟨by unfold szA; rw [HV.out]; rfl, B1.out⟩
  | true =>
  have K2 := Hid.mk (l1Some_any a n c l (sn : Int) w1 HL.out hn HLA1.out)
  go_wp2_with fail
  refine K2.out.mono ?_
  rintro e w2 ⟨rfl, hb2⟩
  have q0 := cell_later hb2 q0
  have q1 := cell_later hb2 q1
  have B2 := Hid.mk (B1.out.trans (hb2.mono B1.out.size))
  have HLA2 := Hid.mk (At.below HLA1.out hb2)
  have HSA2 := Hid.mk (At.below HSA1.out hb2)
  have HA2 := Hid.mk (AtS.below HA1.out hb2)
  clear hb2 K2 HLA1 HSA1 HA1 B1
  cases hr : ris (sn : Int) l with
  | false =>
    have HV : Hid (smT zs fs l = false) := by show _ = _; unfold smT; rw [HS.out, hr]; simp
    go_wp2
    exact bodyPost_ret (v := .tuple #[.int .i64 0, .bool false]) (by simp [results, Try.results30, go_sem]) rfl ⟨by unfold szA; rw [HV.out]; rfl, B2.out⟩
  | true =>
  by_cases h0 : n = 0
  · have h0' : ((n : Int) == 0) = true := by rw [h0]; rfl
    have HV : Hid (smT zs fs l = false) := by show _ = _; unfold smT; rw [HL.out, decide_eq_false (by omega : ¬ 0 < n)]; simp
    clear h0
    go_wp2
    exact bodyPost_ret (v := .tuple #[.int .i64 0, .bool false]) (by simp [results, Try.results30, go_sem]) rfl ⟨by unfold szA; rw [HV.out]; rfl, B2.out⟩
  · have h0' : ((n : Int) == 0) = false := beq_eq_false_iff_ne.2 (by omega)
    have HW : Hid (smT zs fs l = true) := by show _ = _; unfold smT; rw [hg, HL.out, HS.out, hr, decide_eq_true (by omega : 0 < n)]; rfl
    have HV : Hid (szA zs fs l = szQ zs fs l) := by show _ = _; unfold szA; rw [HW.out]; rfl
    have hgf := gsF hg
    rw [← HS.out] at hr
    have K2 := Hid.mk (l12Size_any sa sn sc zs pa pn pc fs a n c l w2 HS.out HSA2.out HZ.out HA2.out HL.out hc HLA2.out hgf (ris_tbl hr) (ris_lt hr))
    clear hgf hr hg h0
    go_wp2_with fail
    refine K2.out.mono ?_
    rintro e w3 ⟨rfl, hb3⟩
    have B3 := Hid.mk (B2.out.trans (hb3.mono B2.out.size))
    clear hb3 K2
    go_wp2
    exact bodyPost_ret (v := .tuple #[.int .i64 (szQ zs fs l), .bool true]) (by simp [results, Try.results30, go_sem]) rfl ⟨by rw [HV.out, HW.out], B3.out⟩

end Go.Proofs.Yteggbamjfhbmfaa
