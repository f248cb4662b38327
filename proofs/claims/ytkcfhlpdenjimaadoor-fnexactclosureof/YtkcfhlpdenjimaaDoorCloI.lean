/- Contracts of columnSet.has, setOf, tellingOf, tellingsOf, closure, implied. -/
import Derived.Test.YtkcfhlpdenjimaaDoorColP
import Derived.Test.YtkcfhlpdenjimaaDoorRepP
import Derived.Test.YtkcfhlpdenjimaaDoorAppendAll
import Derived.Deep.AppendLies
import Derived.Deep.LoopGhost
import Derived.WalkMore
namespace Go.Proofs.YtkcfhlpdenjimaaDoor
open Go.RowKit

theorem wrap64_small {n : Nat} (h : n < 18446744073709551616) : IntKind.u64.wrap (n : Int) = (n : Int) := by
  simp only [IntKind.wrap, IntKind.bits, IntKind.signed]
  have h1 : (n : Int) % 18446744073709551616 = n := Int.emod_eq_of_lt (by omega) (by omega)
  simpa using h1
theorem two_pow_lt {x : Nat} (h : x < 6) : 2 ^ x < 64 := by
  have : 2 ^ x ≤ 2 ^ 5 := Nat.pow_le_pow_right (by omega) (by omega)
  omega
theorem wrap_pow {x : Int} (h0 : 0 ≤ x) (h1 : x < 6) : IntKind.u64.wrap (2 ^ x.toNat) = ((2 ^ x.toNat : Nat) : Int) := by
  have h2 := two_pow_lt (x := x.toNat) (by omega)
  have := wrap64_small (n := 2 ^ x.toNat) (by omega)
  rw [← this]
  congr 1
theorem or_pow {S : Nat} {x : Int} (hS : S < 64) (h0 : 0 ≤ x) (h1 : x < 6) : bits .or .u64 (S : Int) (IntKind.u64.wrap (2 ^ x.toNat)) = ((S ||| 2 ^ x.toNat : Nat) : Int) := by
  have h2 := two_pow_lt (x := x.toNat) (by omega)
  rw [wrap_pow h0 h1]
  exact u64_or_nat S (2 ^ x.toNat) (by omega) (by omega)
theorem mk_take {zs : List Int} {k : Nat} (h : k < zs.length) : mk (zs.take (k + 1)) = mk (zs.take k) ||| 2 ^ (zs.getD k 0).toNat := by
  rw [List.take_succ_eq_append_getElem h]
  unfold mk
  rw [List.foldl_append]
  simp [List.getD, h]
theorem mk_lt6 {zs : List Int} (h : ∀ x ∈ zs, 0 ≤ x ∧ x < 6) : mk zs < 64 := by
  refine Nat.lt_pow_two_of_testBit (n := 6) _ fun i hi => ?_
  cases hb : (mk zs).testBit i with
  | false => rfl
  | true =>
    have := (h _ ((mk_bit zs (fun x hx => (h x hx).1) i).1 hb)).2
    omega
theorem ris_in {c : Int} {l : List Int} (hc : c ≤ 6) (h : ris c l = true) : ∀ x ∈ l, 0 ≤ x ∧ x < 6 := fun x hx => by have := (risB_mem h).2 x hx; omega

theorem has_any (s p : Nat) (w : World) (hs : s < 64) (hp : p < 64) :
    Calls Tryd.prog 55 #[.int .u64 s, .int .u64 p] w fun e w' => e = .returned (.bool (sb p s)) ∧ w' = w := by
  have hq := u64_andNot_nat p s (by omega) (by omega)
  have hi := andNot_sb hp hs
  obtain ⟨q, hqe⟩ : ∃ q, p &&& (18446744073709551615 - s) = q := ⟨_, rfl⟩
  rw [hqe] at hq hi
  clear hqe
  go_enter Tryd.func55, Tryd.ntmps55
  go_wp2
  go_ret
  refine ⟨?_, rfl⟩
  show Ending.returned (Value.bool ((q : Int) == 0)) = _
  have e : ((q : Int) == 0) = sb p s := by
    cases hs' : sb p s with
    | true => rw [hi.2 hs']; rfl
    | false =>
      have : q ≠ 0 := fun e => by rw [hi.1 e] at hs'; cases hs'
      exact beq_eq_false_iff_ne.2 (by omega)
  rw [e]

set_option maxHeartbeats 1000000 in
theorem setOf_any (a : Option Addr) (n c : Nat) (zs : List Int) (w : World) (hz : zs.length = n) (hn : n ≤ 9223372036854775807) (hin : ∀ x ∈ zs, 0 ≤ x ∧ x < 6) (ha : At w a zs) :
    Calls Tryd.prog 41 #[.slice a n c] w fun e w' => e = .returned (.int .u64 (mk zs : Nat)) ∧ w' = w := by
  by_cases h0 : n = 0
  · subst h0
    obtain rfl := List.eq_nil_of_length_eq_zero hz
    go_enter Tryd.func41, Tryd.ntmps41
    go_wp2
    refine wp_loop_rounds 1 ?_
    rw [rounds_succ]
    go_wp2
    go_ret
    exact ⟨rfl, rfl⟩
  · obtain ⟨b, off, rfl, hb, hc⟩ := ha.some (by omega)
    clear ha
    go_enter Tryd.func41, Tryd.ntmps41
    go_wp2
    go_loopw [3, 8] (fun p i wr => ∃ (k : Nat), k ≤ n ∧ i = .int .i64 k ∧ p = .int .u64 (mk (zs.take k) : Nat) ∧ wr = w) (fun _ i _ => n - (intOf i).toNat)
    case atStart => exact ⟨0, Nat.zero_le _, rfl, rfl, rfl⟩
    case round =>
      obtain ⟨k, hk, rfl, rfl, rfl⟩ := hrel
      by_cases hlt : k < n
      · have hcx : wr.cell? ⟨b, off + k, none⟩ = some (.int .i64 (zs.getD k 0)) := hc k (by omega)
        obtain ⟨x, hx⟩ : ∃ x, x = zs.getD k 0 := ⟨_, rfl⟩
        have hxi : 0 ≤ x ∧ x < 6 := by
          refine hin x ?_
          rw [hx]
          simp [List.getD, show k < zs.length by omega]
        have hx0 := hxi.1
        have hx1 := hxi.2
        rw [← hx] at hcx
        obtain ⟨S, hS⟩ : ∃ S, mk (zs.take k) = S := ⟨_, rfl⟩
        rw [hS]
        have hS6 : S < 64 := by rw [← hS]; exact mk_lt6 fun y hy => hin y (List.mem_of_mem_take hy)
        have HN : Hid (mk (zs.take (k + 1)) = S ||| 2 ^ x.toNat) := by show _ = _; rw [mk_take (by omega), hS, hx]
        clear hc hin hx hS hxi
        go_wp2
        go_roundw
        case rel => exact ⟨k + 1, by omega, by go_num, by rw [HN.out, or_pow hS6 hx0 hx1], trivial⟩
        case measure => simp [intOf]; omega
      · go_wp2
        go_ret
        exact ⟨by rw [List.take_of_length_le (by omega)]; rfl, rfl⟩

theorem setOf_later {a : Option Addr} {n c : Nat} {zs : List Int} {w : World} (hz : zs.length = n) (hn : n ≤ 9223372036854775807) (hin : ∀ x ∈ zs, 0 ≤ x ∧ x < 6) (ha : At w a zs) (w' : World) (hb : Below w.heap.size w w') :
    Calls Tryd.prog 41 #[.slice a n c] w' fun e w'' => e = .returned (.int .u64 (mk zs : Nat)) ∧ w'' = w' := setOf_any a n c zs w' hz hn hin (At.below ha hb)

/-- A number without a sign. -/
def Rep.u64 : Rep Nat where
  k := 1
  At _ cs z := cs = [.int .u64 (z : Int)]
  Own _ _ cs z := cs = [.int .u64 (z : Int)]
  len h := by rw [h]; rfl
  below h _ := h
  toAt h := h
  mono h _ := h
  frame h _ := h
  tight h := h
abbrev RTell : Rep (Nat × Nat) := Rep.pair Rep.u64 Rep.u64
abbrev AtT (w : World) (a : Option Addr) (xs : List (Nat × Nat)) : Prop := AtSl RTell w a xs
theorem AtT.row {w : World} {a : Option Addr} {xs : List (Nat × Nat)} (h : AtT w a xs) (hp : 0 < xs.length) : ∃ b off, a = some ⟨b, off, none⟩ ∧ b < w.heap.size ∧ ∀ (i : Nat) (x : Nat × Nat), xs[i]? = some x →
    w.cell? ⟨b, off + i * 2, none⟩ = some (.int .u64 (x.1 : Nat)) ∧ w.cell? ⟨b, off + i * 2 + 1, none⟩ = some (.int .u64 (x.2 : Nat)) := by
  obtain ⟨b, off, rfl, hc⟩ := AtSl.each h hp
  have row : ∀ (i : Nat) (x : Nat × Nat), xs[i]? = some x → w.cell? ⟨b, off + i * 2, none⟩ = some (.int .u64 (x.1 : Nat)) ∧ w.cell? ⟨b, off + i * 2 + 1, none⟩ = some (.int .u64 (x.2 : Nat)) := by
    intro i x hx
    obtain ⟨cs, h1, c1, c2, rfl, e1, e2⟩ := hc i x hx
    obtain rfl : c1 = _ := e1
    obtain rfl : c2 = _ := e2
    exact ⟨h1 0 _ rfl, h1 1 _ rfl⟩
  exact ⟨b, off, rfl, World.block_lt_of_cell? _ _ (row 0 xs[0] (List.getElem?_eq_getElem hp)).1, row⟩

/-- The sets that are laid are small. -/
def Sets (l : List (Nat × Nat)) : Prop := ∀ d ∈ l, d.1 < 64 ∧ d.2 < 64

set_option maxRecDepth 100000 in
set_option maxHeartbeats 2000000 in
theorem closure_any (a : Option Addr) (n c : Nat) (xs : List (Nat × Nat)) (S : Nat) (w : World) (hz : xs.length = n) (hn : n ≤ 9223372036854775807) (hs : Sets xs) (hS : S < 64) (ha : AtT w a xs) :
    Calls Tryd.prog 39 #[.slice a n c, .int .u64 (S : Nat)] w fun e w' => ∃ T, IsClo xs S T ∧ e = .returned (.int .u64 (T : Nat)) ∧ Below w.heap.size w w' := by
  have HS := Hid.mk hs
  clear hs
  have HA := Hid.mk ha
  clear ha
  go_enter Tryd.func39, Tryd.ntmps39
  go_wp2
  go_step3
  go_wp2
  go_step3
  go_wp2
  go_loopg [5] (64 - S) (fun g p wr => ∃ (T : Nat), T + g = 64 ∧ p = .int .u64 (T : Nat) ∧ T < 64 ∧ sb S T = true ∧ (∀ U, sb S U = true → clsd xs U → sb T U = true) ∧ Below w.heap.size w wr)
  case atStart => exact ⟨S, by omega, rfl, hS, sb_refl S, fun U h _ => h, Below.refl _ _⟩
  case round =>
    obtain ⟨T, hTg, rfl, hT, hST, hleast, hbw⟩ := hrel
    have HST := Hid.mk hST
    have HLE := Hid.mk hleast
    have HB := Hid.mk hbw
    clear hST hleast hbw
    go_wp2
    go_loopg [5, 11] n (fun g2 p i wy => ∃ (k : Nat), k + g2 = n ∧ p = .int .u64 (T : Nat) ∧ i = .int .i64 k ∧ (∀ (j : Nat) (x : Nat × Nat), j < k → xs[j]? = some x → sb x.1 T = true → sb x.2 T = true) ∧ Below w.heap.size w wy)
    case atStart => exact ⟨0, by omega, rfl, rfl, fun j x h => by omega, HB.out⟩
    case round =>
      obtain ⟨k, hkg, rfl, rfl, hall, hbw⟩ := hrel
      by_cases hlt : k < n
      · obtain ⟨b, off, rfl, _, hc⟩ := AtT.row (AtSl.below HA.out hbw) (by omega)
        obtain ⟨x, hx⟩ : ∃ x, xs[k]? = some x := ⟨_, List.getElem?_eq_getElem (by omega)⟩
        obtain ⟨g0, g1⟩ := hc k x hx
        have hx64 := HS.out x (List.mem_of_getElem? hx)
        obtain ⟨F, hF⟩ : ∃ F, x.1 = F := ⟨_, rfl⟩
        obtain ⟨D, hD⟩ : ∃ D, x.2 = D := ⟨_, rfl⟩
        rw [hF] at g0 hx64
        rw [hD] at g1 hx64
        have hki : (k : Int) < (n : Int) := by omega
        have HX := Hid.mk hx
        have HF := Hid.mk hF
        have HD := Hid.mk hD
        have HALL := Hid.mk hall
        have HB2 := Hid.mk hbw
        have hF6 := hx64.1
        have hD6 := hx64.2
        clear hc hx hF hD hall hbw hx64 HB
        go_wp2_with fail
        obtain ⟨W, hW⟩ : ∃ W, W = wr.alloc (.cells #[.int .u64 (F : Nat), .int .u64 (D : Nat)] 92) := ⟨_, rfl⟩
        have q0 : W.cell? ⟨wr.heap.size, 0, none⟩ = some (.int .u64 (F : Nat)) := by rw [hW]; simp
        have q1 : W.cell? ⟨wr.heap.size, 1, none⟩ = some (.int .u64 (D : Nat)) := by rw [hW]; simp
        have HB3 : Hid (Below w.heap.size w W) := by rw [hW]; exact HB2.out.alloc HB2.out.size _
        rw [← hW]
        clear hW HB2
        refine (has_any T F W hT hF6).mono ?_
        rintro e w1 ⟨rfl, rfl⟩
        cases hr1 : sb F T with
        | false =>
          go_wp2
          go_roundg (n - (k + 1))
          case measure => omega
          case rel => exact ⟨k + 1, by omega, rfl, by go_num, fun j y hj hy hs1 => by
            by_cases hjk : j < k
            · exact HALL.out j y hjk hy hs1
            · obtain rfl : j = k := by omega
              obtain rfl : x = y := by have h9 := HX.out; rw [hy] at h9; exact (Option.some.inj h9).symm
              exact absurd hs1 (by rw [HF.out, hr1]; simp), HB3.out⟩
        | true =>
          go_wp2_with fail
          refine (has_any T D _ hT hD6).mono ?_
          rintro e w2 ⟨rfl, rfl⟩
          cases hr2 : sb D T with
          | true =>
            go_wp2
            go_roundg (n - (k + 1))
            case measure => omega
            case rel => exact ⟨k + 1, by omega, rfl, by go_num, fun j y hj hy hs1 => by
              by_cases hjk : j < k
              · exact HALL.out j y hjk hy hs1
              · obtain rfl : j = k := by omega
                obtain rfl : x = y := by have h9 := HX.out; rw [hy] at h9; exact (Option.some.inj h9).symm
                rw [HD.out]; exact hr2, HB3.out⟩
          | false =>
            have hor := u64_or_nat T D (by omega) (by omega)
            have hlt2 := lt_or hr2
            have hTD := or_lt64 hT hD6
            have HN : Hid (sb S (T ||| D) = true ∧ ∀ U, sb S U = true → clsd xs U → sb (T ||| D) U = true) :=
              ⟨sb_trans HST.out (sb_or_left T D), fun U h1 h2 => sb_or (HLE.out U h1 h2) (by
                have h3 := h2 x (List.mem_of_getElem? HX.out)
                rw [HF.out, HD.out] at h3
                exact h3 (sb_trans hr1 (HLE.out U h1 h2)))⟩
            obtain ⟨Q, hQ⟩ : ∃ Q, T ||| D = Q := ⟨_, rfl⟩
            rw [hQ] at hor hlt2 hTD HN
            clear hQ
            go_wp2
            go_roundg (64 - Q)
            case measure => omega
            case rel => exact ⟨Q, by omega, rfl, hTD, HN.out.1, HN.out.2, HB3.out⟩
      · obtain rfl : k = n := by omega
        have HC : Hid (IsClo xs S T) := ⟨hT, HST.out, fun d hd => by
          obtain ⟨j, hj, rfl⟩ := List.getElem_of_mem hd
          exact hall j _ (by omega) (List.getElem?_eq_getElem hj), HLE.out⟩
        have hki : ¬ (k : Int) < (k : Int) := by omega
        clear hall
        go_wp2
        (try rw [Exit.noGoto_ret])
        go_ret
        exact ⟨T, HC.out, rfl, hbw⟩

end Go.Proofs.YtkcfhlpdenjimaaDoor
