/- Several texts of one proof, in build order: JoinL, GroundG. -/
import Derived.Test.YtlfljfmhhnoinabGreatM20
import Derived.Test.YtlfljfmhhnoinabGreatM31
import Derived.Test.YtlfljfmhhnoinabGreatM7

/- Contract of spec.l3Join over lists within whatever bounds. -/
namespace Go.Proofs.YtlfljfmhhnoinabGreat
open Go.RowKit

theorem wrapL {v : Int} (h : -4000000000000000000 ≤ v ∧ v ≤ 4000000000000000000) : IntKind.i64.wrap v = v := IntWalk.i64_in _ (by omega)
theorem wrapL64 {v : Int} (h : -4000000000000000000 ≤ v ∧ v ≤ 4000000000000000000) : Go.RowKit.wrap64 v = v := by unfold Go.RowKit.wrap64; omega

theorem accJ_packL {p q N N' : Nat} {B B' : Int} {ts us : List WRow} {ps : List (List Int)} {k n' : Nat} (h : Lst p N B ts) (g : Lst q N' B' us) (h0 : 0 ≤ B) (h0' : 0 ≤ B') (hNN : N * N' ≤ 1000000) (hBB : B * B' * (N * N' : Nat) ≤ 4000000000000000000) (hk : k < ts.length) (hn' : us.length = n') :
    ∃ AC : Nat → List WRow, AC 0 = putAll [] (joinL (ts.take k) us ps) ∧ (∀ j v, j < n' → joinG ps (wat ts k) (wat us j) = some v → AC (j + 1) = putW (AC j) v.1 v.2) ∧ (∀ j, j < n' → joinG ps (wat ts k) (wat us j) = none → AC (j + 1) = AC j) ∧
      AC n' = putAll [] (joinL (ts.take (k + 1)) us ps) ∧ ∀ j, (AC j).length ≤ 1000000 ∧ ∀ i, i < (AC j).length → (wat (AC j) i).1.length ≤ 6 ∧ -4000000000000000000 ≤ (wat (AC j) i).2 ∧ (wat (AC j) i).2 ≤ 4000000000000000000 := by
  refine ⟨fun j => putAll [] (accJ ts us ps k j), by simp only [accJ_zero], fun j v hj hv => accJ_some (by omega) hv, fun j hj hv => by simp only [accJ_none (show j < us.length by omega) hv], by subst hn'; simp only [accJ_all hk], fun j => ?_⟩
  have hBp := Int.mul_nonneg h0 h0'
  have hl : (accJ ts us ps k j).length ≤ N * N' := by
    unfold accJ
    rw [List.length_append]
    have a := joinL_len (ts.take k) us ps
    have b := List.length_filterMap_le (joinG ps (wat ts k)) (us.take j)
    rw [List.length_take] at a b
    have c : (min k ts.length + 1) * us.length ≤ N * N' := Nat.mul_le_mul (by have := h.len; omega) g.len
    rw [Nat.succ_mul] at c
    omega
  have hrow : ∀ t ∈ accJ ts us ps k j, t.1.length ≤ 6 ∧ -(B * B') ≤ t.2 ∧ t.2 ≤ B * B' := fun t ht => by
    have : ∃ a ∈ ts, ∃ b ∈ us, joinG ps a b = some t := by
      rcases List.mem_append.1 ht with h1 | h1
      · obtain ⟨a, ha, b, hb, hg⟩ := joinL_mem h1
        exact ⟨a, List.mem_of_mem_take ha, b, hb, hg⟩
      · obtain ⟨b, hb, hg⟩ := List.mem_filterMap.1 h1
        exact ⟨_, wat_mem hk, b, List.mem_of_mem_take hb, hg⟩
    obtain ⟨a, ha, b, hb, hg⟩ := this
    obtain ⟨h1, rfl⟩ := joinG_some hg
    have ga := h.within a ha
    have gb := g.within b hb
    refine ⟨?_, mul_in ga.1 ga.2 gb.1 gb.2⟩
    simp only [joinOk, Bool.and_eq_true, decide_eq_true_eq] at h1
    exact h1.2
  refine ⟨?_, fun i hi => ?_⟩
  · have := putAll_len (accJ ts us ps k j) []
    simp only [List.length_nil] at this
    show (putAll [] (accJ ts us ps k j)).length ≤ 1000000
    omega
  · have b3 : B * B' * ((accJ ts us ps k j).length : Int) ≤ B * B' * ((N * N' : Nat) : Int) := Int.mul_le_mul_of_nonneg_left (by exact_mod_cast hl) hBp
    have := at_of_mem (putAll_in' (M := B * B') hBp hrow) i hi
    refine ⟨this.1, ?_, ?_⟩ <;> (dsimp only; omega)

set_option maxRecDepth 100000 in
set_option maxHeartbeats 4000000 in
theorem l3Join_gen (a a' p : Option Addr) (n n' l c c' d : Nat) (ts us : List WRow) (ps : List (List Int)) (p0 q0 N N' : Nat) (B B' : Int) (w : World) (hz : ts.length = n) (hz' : us.length = n') (hl : ps.length = l) (hgT : Lst p0 N B ts) (hgU : Lst q0 N' B' us) (q6 : p0 ≤ 6) (q6' : q0 ≤ 6) (h0 : 0 ≤ B) (h0' : 0 ≤ B') (hNs : N ≤ 1000000) (hNs' : N' ≤ 1000000) (hNN : N * N' ≤ 1000000) (hBB : B * B' * (N * N' : Nat) ≤ 4000000000000000000) (hBs : B * B' ≤ 4000000000000000000) (hok : pairsOk ps p0 q0 = true)
    (ha : AtM w a ts) (ha' : AtM w a' us) (hp : AtS w p ps) :
    Calls Tryz.prog 38 #[.slice a n c, .slice a' n' c', .slice p l d] w fun e w' => ∃ r k d, e = .returned (.slice r k d) ∧ (joinW ts us ps).length = k ∧ Formed r k d ∧ AtM w' r (joinW ts us ps) ∧ Below w.heap.size w w' := by
  have n60 : n ≤ 1000000 := by have := hgT.len; omega
  have n60' : n' ≤ 1000000 := by have := hgU.len; omega
  have HRT : Hid (∀ k, k < n → good (wat ts k).1 = true ∧ (wat ts k).1.length = p0 ∧ -B ≤ (wat ts k).2 ∧ (wat ts k).2 ≤ B) := fun k hk => by
    have h1 := at_of_mem hgT.rows k (by omega)
    exact ⟨h1.1, h1.2, at_of_mem hgT.within k (by omega)⟩
  have HRU : Hid (∀ k, k < n' → good (wat us k).1 = true ∧ (wat us k).1.length = q0 ∧ -B' ≤ (wat us k).2 ∧ (wat us k).2 ≤ B') := fun k hk => by
    have h1 := at_of_mem hgU.rows k (by omega)
    exact ⟨h1.1, h1.2, at_of_mem hgU.within k (by omega)⟩
  have HPB : Hid (∀ x y : Int, -B ≤ x → x ≤ B → -B' ≤ y → y ≤ B' → -4000000000000000000 ≤ x * y ∧ x * y ≤ 4000000000000000000) := fun x y h1 h2 h3 h4 => by
    have := mul_in h1 h2 h3 h4
    omega
  have HPK : Hid (∀ k, k < n → _) := fun k hk => accJ_packL (ps := ps) hgT hgU h0 h0' hNN hBB (show k < ts.length by omega) hz'
  have HOK := Hid.mk hok
  have HW : Hid (joinW ts us ps = putAll [] (joinL (ts.take n) us ps)) := by show _ = _; rw [List.take_of_length_le (by omega)]; rfl
  clear hgT hgU hok hNN hBB hBs hNs hNs'
  go_enter Tryz.func38, Tryz.ntmps38
  go_wp2
  go_loopw [7, 16] (fun o i wr => ∃ (k : Nat) (r : Option Addr) (m d : Nat), k ≤ n ∧ i = .int .i64 k ∧ o = .slice r m d ∧ (putAll [] (joinL (ts.take k) us ps)).length = m ∧ Formed r m d ∧ AtM wr r (putAll [] (joinL (ts.take k) us ps)) ∧ Below w.heap.size w wr) (fun _ i _ => n - (intOf i).toNat)
  case atStart => exact ⟨0, none, 0, 0, Nat.zero_le _, rfl, rfl, rfl, Formed.nil, atM_nil _ _, Below.refl _ _⟩
  case round =>
    obtain ⟨k, r, m, dm, hk, rfl, rfl, hm, hFr, har, hbw⟩ := hrel
    by_cases hlt : k < n
    · obtain ⟨b, off, rfl, hc⟩ := (ha.below hbw).some (by omega)
      obtain ⟨q, dd, hcx, hwx, hm1, hnil, hat⟩ := hc k (by omega)
      have hro := HRT.out k hlt
      obtain ⟨AC, a0, aS, aN, aA, aB⟩ := HPK.out k hlt
      rw [← a0] at hm har
      have HAS := Hid.mk aS
      have HAN := Hid.mk aN
      have HAA := Hid.mk aA
      have HAB := Hid.mk aB
      clear aS aN aA aB a0
      have hki : (k : Int) < (n : Int) := by omega
      generalize wat ts k = Y at *
      obtain ⟨xz, x⟩ := Y
      simp only at hcx hwx hat hm1 hro
      obtain ⟨m2, hmm⟩ : ∃ m2, xz.length = m2 := ⟨_, rfl⟩
      rw [hmm] at hcx hm1 hro
      have HM := Hid.mk hmm
      have HRO := Hid.mk hro
      have l6 : m2 ≤ 6 := by omega
      obtain ⟨V, hV⟩ : ∃ V, V = wr.alloc (.cells #[.slice q m2 dd, .int .i64 x] 78) := ⟨_, rfl⟩
      obtain ⟨S, hS⟩ : ∃ S, S = wr.heap.size := ⟨_, rfl⟩
      have hbV : Below wr.heap.size wr V := by rw [hV]; exact (Below.refl _ _).alloc (Nat.le_refl _) _
      have v0 : V.cell? ⟨S, 0, none⟩ = some (.slice q m2 dd) := by rw [hV, hS]; exact pair0 wr _ _ _
      have v1 : V.cell? ⟨S, 1, none⟩ = some (.int .i64 x) := by rw [hV, hS]; exact pair1 wr _ _ _
      have HB1 := Hid.mk (hbw.trans (hbV.mono hbw.size))
      have HAT := Hid.mk (hat.below hbV)
      have HAR := Hid.mk (har.below hbV)
      clear hmm hc hat har hro hbV
      go_wp2
      rw [← hV, ← hS]
      clear hV hcx hwx hS
      go_loopw [7, 22] (fun o i ws => ∃ (j : Nat) (r : Option Addr) (m d : Nat), j ≤ n' ∧ i = .int .i64 j ∧ o = .slice r m d ∧ (AC j).length = m ∧ Formed r m d ∧ AtM ws r (AC j) ∧ Below V.heap.size V ws) (fun _ i _ => n' - (intOf i).toNat)
      case atStart => exact ⟨0, r, m, dm, Nat.zero_le _, rfl, rfl, hm, hFr, HAR.out, Below.refl _ _⟩
      case round =>
        clear hm hFr HAR hbw
        obtain ⟨j, r, m, dm, hj, rfl, rfl, hm, hFr, har, hbs⟩ := hrel
        have BS := HB1.out.trans (hbs.mono HB1.out.size)
        by_cases hjt : j < n'
        · obtain ⟨b2, off2, rfl, hc2⟩ := (ha'.below BS).some (by omega)
          obtain ⟨q2, dd2, hcx2, hwx2, hm12, hnil2, hat2⟩ := hc2 j (by omega)
          have hru := HRU.out j hjt
          have HS1 := Hid.mk (fun v => HAS.out j v hjt)
          have HN1 := Hid.mk (HAN.out j hjt)
          have HLB := Hid.mk (HAB.out j)
          have hm36 : m ≤ 1000000 := by have := HLB.out.1; omega
          have hji : (j : Int) < (n' : Int) := by omega
          generalize wat us j = Y2 at *
          obtain ⟨yz, y⟩ := Y2
          simp only at hcx2 hwx2 hat2 hm12 hru
          obtain ⟨m3, hmm⟩ : ∃ m3, yz.length = m3 := ⟨_, rfl⟩
          rw [hmm] at hcx2 hm12 hru
          have HM2 := Hid.mk hmm
          have l62 : m3 ≤ 6 := by omega
          obtain ⟨U, hU⟩ : ∃ U, U = wr.alloc (.cells #[.slice q2 m3 dd2, .int .i64 y] 78) := ⟨_, rfl⟩
          have hbU : Below wr.heap.size wr U := by rw [hU]; exact (Below.refl _ _).alloc (Nat.le_refl _) _
          have u0 : U.cell? ⟨wr.heap.size, 0, none⟩ = some (.slice q2 m3 dd2) := by rw [hU]; exact pair0 wr _ _ _
          have u1 : U.cell? ⟨wr.heap.size, 1, none⟩ = some (.int .i64 y) := by rw [hU]; exact pair1 wr _ _ _
          have hbUL : Below wr.heap.size wr (wr.alloc (.cells #[.slice q2 m3 dd2, .int .i64 y] 78)) := (Below.refl _ _).alloc (Nat.le_refl _) _
          have x0 := cell_later hbUL (cell_later hbs v0)
          have x1 := cell_later hbUL (cell_later hbs v1)
          have BU := BS.trans (hbU.mono BS.size)
          have YU := hbs.trans (hbU.mono hbs.size)
          have HATX := Hid.mk (HAT.out.below YU)
          have HATY := Hid.mk (hat2.below hbU)
          have HAR := Hid.mk (har.below hbU)
          have HP := Hid.mk (hp.below BU)
          have hokk : pairsOk ps m2 m3 = true := by rw [HRO.out.2.1, hru.2.1]; exact HOK.out
          have HKK := Hid.mk hokk
          have HLJ : Hid (l1B xz yz ps = joinOk xz yz ps) := l1B_joinOk HRO.out.1 hru.1 (by rw [HM.out, HM2.out]; exact hokk)
          have hwr := wrapL (HPB.out _ _ HRO.out.2.2.1 HRO.out.2.2.2 hru.2.2.1 hru.2.2.2)
          have hwr2 := wrapL64 (HPB.out _ _ HRO.out.2.2.1 HRO.out.2.2.2 hru.2.2.1 hru.2.2.2)
          have HPI := Hid.mk (HPB.out _ _ HRO.out.2.2.1 HRO.out.2.2.2 hru.2.2.1 hru.2.2.2)
          clear hmm hc2 hat2 har hokk hru
          go_wp2_with fail
          rw [← hU] at x0 x1 ⊢
          clear hU hcx2 hwx2 hbUL
          refine (l1Join_any _ _ _ _ _ _ _ _ _ xz yz ps _ HM.out HM2.out hl l6 l62 hnil HATX.out HATY.out HP.out HKK.out).mono ?_
          rintro e w5 ⟨r5, m5, d5, rfl, hm5, ho5, hb5⟩
          rw [HLJ.out]
          have x0 := cell_later hb5 x0
          have x1 := cell_later hb5 x1
          have u0 := cell_later hb5 u0
          have u1 := cell_later hb5 u1
          have YU := YU.trans (hb5.mono YU.size)
          have HAR := Hid.mk (HAR.out.below hb5)
          obtain ⟨w6, hw6⟩ : ∃ w6, w6 = w5.alloc (.cells #[.slice r5 m5 d5] 76) := ⟨_, rfl⟩
          have hbL : Below w5.heap.size w5 (w5.alloc (.cells #[.slice r5 m5 d5] 76)) := (Below.refl _ _).alloc (Nat.le_refl _) _
          have hb6 : Below w5.heap.size w5 w6 := by rw [hw6]; exact hbL
          have x0 := cell_later hbL x0
          have x1 := cell_later hbL x1
          have u0 := cell_later hbL u0
          have u1 := cell_later hbL u1
          have YU := YU.trans (hb6.mono YU.size)
          have HAR := Hid.mk (HAR.out.below hb6)
          cases hok : joinOk xz yz ps with
          | true =>
            have hjs := HS1.out (joinAns xz yz ps, x * y) (if_pos hok)
            have HJS := Hid.mk hjs
            have HJA := Hid.mk (l1Z_joinAns hok)
            rw [HJA.out] at hm5 ho5
            have HO5 := Hid.mk ho5
            have hm56 : m5 ≤ 6 := by
              have hj6 : (joinZ xz yz (side ps 1)).length ≤ 6 := by simp only [joinOk, Bool.and_eq_true, decide_eq_true_eq] at hok; exact hok.2
              rw [← hm5, joinAns, if_pos hok]; exact hj6
            clear hjs hok ho5 hb5 hbs hbU BU BS
            go_wp2_with fail
            rw [← hw6]
            refine (l2Put_any _ _ _ _ _ _ (AC j) (joinAns xz yz ps) (x * y) _ hm hm5 (by omega) hFr hm56 (owns_formed HO5.out).2.1 (fun i hi => HLB.out.2 i (by omega)) (by have := HPI.out; omega) (by have := HPI.out; omega) HAR.out ((At.owned HO5.out).below hb6)).mono ?_
            rintro e w7 ⟨r7, m7, d7, rfl, hm7, hF7, ha7, hb7⟩
            rw [← HJS.out] at hm7 ha7
            have HM7 := Hid.mk hm7
            have HF7 := Hid.mk hF7
            have HA7 := Hid.mk ha7
            have HB7 := Hid.mk (YU.trans (hb7.mono YU.size))
            clear hm7 hF7 ha7 hb7 hm hFr HAR YU hb6 hbL hw6
            go_wp2
            go_roundw
            case rel => exact ⟨j + 1, _, _, _, by omega, by go_num, rfl, HM7.out, HF7.out, HA7.out, HB7.out⟩
            case measure => simp [intOf]; omega
          | false =>
            have HE : Hid (AC (j + 1) = AC j) := HN1.out (if_neg (by simp [hok]))
            have HM7 : Hid ((AC (j + 1)).length = m) := by show _ = _; rw [HE.out]; exact hm
            have HA7 : Hid (AtM w6 r (AC (j + 1))) := by show AtM _ _ _; rw [HE.out]; exact HAR.out
            have HB7 := Hid.mk YU
            clear hok ho5 hb5 hbs hbU BU BS hm HAR YU hb6 hbL
            go_wp2
            go_roundw
            case rel => exact ⟨j + 1, _, _, _, by omega, by go_num, rfl, HM7.out, hFr, by rw [← hw6]; exact HA7.out, by rw [← hw6]; exact HB7.out⟩
            case measure => simp [intOf]; omega
        · obtain rfl : j = n' := by omega
          rw [HAA.out] at hm har
          have HMM := Hid.mk hm
          have HARR := Hid.mk har
          have HBS := Hid.mk BS
          clear hm har BS hbs
          go_wp2
          go_roundw
          case rel => exact ⟨k + 1, _, _, _, by omega, by go_num, rfl, HMM.out, hFr, HARR.out, HBS.out⟩
          case measure => simp [intOf]; omega
    · obtain rfl : k = n := by omega
      rw [← HW.out] at hm har
      go_wp2
      go_ret
      exact ⟨_, _, _, rfl, hm, hFr, har, hbw⟩

end Go.Proofs.YtlfljfmhhnoinabGreat

/- Cells that mean weighted rows, all of them in blocks of G; what keeps them. -/
namespace Go.Proofs.YtlfljfmhhnoinabGreat
open Go.RowKit

/-- A slice of ints that lies in a block of G. -/
def AtG (G : Nat → Prop) (w : World) (a : Option Addr) (zs : List Int) : Prop := At w a zs ∧ (zs = [] ∨ ∃ b off, a = some ⟨b, off, none⟩ ∧ G b)
theorem AtG.below {G : Nat → Prop} {w w' : World} {a : Option Addr} {zs : List Int} (h : AtG G w a zs) (hb : Below w.heap.size w w') : AtG G w' a zs := ⟨h.1.below hb, h.2⟩
theorem AtG.owned {G : Nat → Prop} {w : World} {base : Nat} {e : TypeId} {a : Option Addr} {n c : Nat} {zs : List Int} (hG : ∀ k, base ≤ k → G k) (h : w.ownsRow base e 1 (.slice a n c) n (zs.map (.int .i64))) : AtG G w a zs := by
  refine ⟨At.owned h, ?_⟩
  rcases h.2 with ⟨_, hx⟩ | ⟨g, cap, cur, e, hb, _⟩
  · left
    have h1 := h.1
    rw [hx] at h1
    simp only [List.length_map, Nat.zero_mul] at h1
    exact List.eq_nil_of_length_eq_zero h1
  · cases e
    exact .inr ⟨g, 0, rfl, hG g hb⟩
theorem AtG.mono {G G' : Nat → Prop} {w : World} {a : Option Addr} {zs : List Int} (h : AtG G w a zs) (hG : ∀ k, k < w.heap.size → G k → G' k) : AtG G' w a zs := by
  refine ⟨h.1, ?_⟩
  rcases h.2 with h0 | ⟨b, off, rfl, hg⟩
  · exact .inl h0
  · rcases h.1 with h0 | ⟨b', off', e, hc⟩
    · exact .inl h0
    · by_cases hz : zs = []
      · exact .inl hz
      · cases e
        exact .inr ⟨b, off, rfl, hG b (World.block_lt_of_cell? _ _ (hc 0 (List.length_pos_iff.2 hz))) hg⟩
theorem AtG.grown {G : Nat → Prop} {w w' : World} {row : Option Nat} {a : Option Addr} {zs : List Int} (h : AtG G w a zs) (hg : w.grownBy w' row) (hr : ∀ k, row = some k → ¬ G k) : AtG G w' a zs := by
  refine ⟨?_, h.2⟩
  rcases h.2 with h0 | ⟨b, off, rfl, hb⟩
  · exact .inl h0
  · rcases h.1 with h0 | ⟨b', off', e, hc⟩
    · exact .inl h0
    · cases e
      exact .inr ⟨b, off, rfl, fun i hi => hg.cell (hc i hi) (fun e => hr b e.symm hb)⟩
theorem At.toG {w : World} {a : Option Addr} {zs : List Int} (h : At w a zs) : AtG (fun _ => True) w a zs := by
  refine ⟨h, ?_⟩
  rcases h with h0 | ⟨b, off, rfl, _⟩
  · exact .inl h0
  · exact .inr ⟨b, off, rfl, trivial⟩

/-- Cells that mean weighted rows. -/
def MeansG (G : Nat → Prop) (w : World) : List Value → List WRow → Prop
  | [], [] => True
  | u :: v :: cs, t :: ts => (∃ a c, u = .slice a t.1.length c ∧ (a = none → c = 0) ∧ AtG G w a t.1) ∧ t.1.length ≤ 9223372036854775807 ∧ v = .int .i64 t.2 ∧ MeansG G w cs ts
  | _, _ => False

theorem MeansG.nil (G : Nat → Prop) (w : World) : MeansG G w [] [] := trivial
theorem MeansG.one {G : Nat → Prop} {w : World} {a : Option Addr} {zs : List Int} {n c : Nat} {x : Int} (hn : zs.length = n) (h6 : n ≤ 9223372036854775807) (hnil : a = none → c = 0) (h : AtG G w a zs) : MeansG G w [.slice a n c, .int .i64 x] [(zs, x)] :=
  ⟨⟨a, c, by rw [hn], hnil, h⟩, by simp only [hn]; exact h6, rfl, trivial⟩

set_option linter.unusedVariables false in
theorem MeansG.length {G : Nat → Prop} {w : World} : ∀ {cs : List Value} {ts : List WRow}, MeansG G w cs ts → cs.length = ts.length * 2
  | [], [], _ => rfl
  | [], _ :: _, h => h.elim
  | [_], [], h => h.elim
  | [_], _ :: _, h => h.elim
  | _ :: _ :: _, [], h => h.elim
  | u :: v :: cs, t :: ts, ⟨_, _, _, h⟩ => by have := MeansG.length h; simp [this]; omega

set_option linter.unusedVariables false in
theorem MeansG.below {G : Nat → Prop} {w w' : World} (hb : Below w.heap.size w w') : ∀ {cs : List Value} {ts : List WRow}, MeansG G w cs ts → MeansG G w' cs ts
  | [], [], _ => trivial
  | [], _ :: _, h => h.elim
  | [_], [], h => h.elim
  | [_], _ :: _, h => h.elim
  | _ :: _ :: _, [], h => h.elim
  | u :: v :: cs, t :: ts, ⟨⟨a, c, h1, h0, h2⟩, h3, h4, h5⟩ => ⟨⟨a, c, h1, h0, h2.below hb⟩, h3, h4, MeansG.below hb h5⟩

set_option linter.unusedVariables false in
theorem MeansG.append {G : Nat → Prop} {w : World} : ∀ {cs cs' : List Value} {ts ts' : List WRow}, MeansG G w cs ts → MeansG G w cs' ts' → MeansG G w (cs ++ cs') (ts ++ ts')
  | [], _, [], _, _, h => h
  | [], _, _ :: _, _, h, _ => h.elim
  | [_], _, [], _, h, _ => h.elim
  | [_], _, _ :: _, _, h, _ => h.elim
  | _ :: _ :: _, _, [], _, h, _ => h.elim
  | u :: v :: cs, cs', t :: ts, ts', ⟨h1, h2, h3, h4⟩, h => ⟨h1, h2, h3, MeansG.append h4 h⟩

set_option linter.unusedVariables false in
theorem MeansG.take {G : Nat → Prop} {w : World} : ∀ {cs : List Value} {ts : List WRow} (k : Nat), MeansG G w cs ts → MeansG G w (cs.take (k * 2)) (ts.take k)
  | [], [], _, _ => by simp [MeansG]
  | [], _ :: _, _, h => h.elim
  | [_], [], _, h => h.elim
  | [_], _ :: _, _, h => h.elim
  | _ :: _ :: _, [], _, h => h.elim
  | u :: v :: cs, t :: ts, 0, _ => by simp [MeansG]
  | u :: v :: cs, t :: ts, k + 1, ⟨h1, h2, h3, h4⟩ => by
    rw [show (k + 1) * 2 = k * 2 + 1 + 1 by omega]
    exact ⟨h1, h2, h3, MeansG.take k h4⟩
set_option linter.unusedVariables false in
theorem MeansG.drop {G : Nat → Prop} {w : World} : ∀ {cs : List Value} {ts : List WRow} (k : Nat), MeansG G w cs ts → MeansG G w (cs.drop (k * 2)) (ts.drop k)
  | [], [], _, _ => by simp [MeansG]
  | [], _ :: _, _, h => h.elim
  | [_], [], _, h => h.elim
  | [_], _ :: _, _, h => h.elim
  | _ :: _ :: _, [], _, h => h.elim
  | u :: v :: cs, t :: ts, 0, h => by simpa using h
  | u :: v :: cs, t :: ts, k + 1, ⟨h1, h2, h3, h4⟩ => by
    rw [show (k + 1) * 2 = k * 2 + 1 + 1 by omega]
    exact MeansG.drop k h4

set_option linter.unusedVariables false in
theorem MeansG.atG {G : Nat → Prop} {w : World} : ∀ {cs : List Value} {ts : List WRow} (i : Nat), MeansG G w cs ts → i < ts.length → ∃ a c, cs[i * 2]? = some (.slice a (wat ts i).1.length c) ∧ cs[i * 2 + 1]? = some (.int .i64 (wat ts i).2) ∧ (wat ts i).1.length ≤ 9223372036854775807 ∧ (a = none → c = 0) ∧ AtG G w a (wat ts i).1
  | [], [], _, _, h => by simp at h
  | [], _ :: _, _, h, _ => h.elim
  | [_], [], _, h, _ => h.elim
  | [_], _ :: _, _, h, _ => h.elim
  | _ :: _ :: _, [], _, h, _ => h.elim
  | u :: v :: cs, t :: ts, 0, ⟨⟨a, c, h1, h0, h2⟩, h3, h4, _⟩, _ => ⟨a, c, by simp [wat, h1], by simp [wat, h4], by simpa [wat] using h3, h0, by simpa [wat] using h2⟩
  | u :: v :: cs, t :: ts, i + 1, ⟨_, _, _, h5⟩, hi => by
    obtain ⟨a, c, k1, k2, k3, k0, k4⟩ := MeansG.atG i h5 (by simpa using hi)
    have e : wat (t :: ts) (i + 1) = wat ts i := by simp [wat]
    rw [e]
    refine ⟨a, c, ?_, ?_, k3, k0, k4⟩
    · rw [show (i + 1) * 2 = i * 2 + 1 + 1 by omega]; simpa using k1
    · rw [show (i + 1) * 2 + 1 = (i * 2 + 1) + 1 + 1 by omega]; simpa using k2

set_option linter.unusedVariables false in
theorem MeansG.oneCell {G : Nat → Prop} {w : World} : ∀ {cs : List Value} {ts : List WRow}, MeansG G w cs ts → ∀ u ∈ cs, u.oneCell' = true
  | [], [], _, _, h => by cases h
  | [], _ :: _, h, _, _ => h.elim
  | [_], [], h, _, _ => h.elim
  | [_], _ :: _, h, _, _ => h.elim
  | _ :: _ :: _, [], h, _, _ => h.elim
  | u :: v :: cs, t :: ts, ⟨⟨a, c, h1, _, _⟩, _, h4, h5⟩, x, hx => by
    rcases List.mem_cons.1 hx with rfl | hx
    · subst h1; rfl
    · rcases List.mem_cons.1 hx with rfl | hx
      · subst h4; rfl
      · exact MeansG.oneCell h5 x hx

set_option linter.unusedVariables false in
theorem MeansG.means {G : Nat → Prop} {w : World} : ∀ {cs : List Value} {ts : List WRow}, MeansG G w cs ts → Means w cs ts
  | [], [], _ => trivial
  | [], _ :: _, h => h.elim
  | [_], [], h => h.elim
  | [_], _ :: _, h => h.elim
  | _ :: _ :: _, [], h => h.elim
  | u :: v :: cs, t :: ts, ⟨⟨a, c, h1, h0, h2⟩, h3, h4, h5⟩ => ⟨⟨a, c, h1, h0, h2.1⟩, h3, h4, MeansG.means h5⟩
set_option linter.unusedVariables false in
theorem MeansG.mono {G G' : Nat → Prop} {w : World} (hG : ∀ k, k < w.heap.size → G k → G' k) : ∀ {cs : List Value} {ts : List WRow}, MeansG G w cs ts → MeansG G' w cs ts
  | [], [], _ => trivial
  | [], _ :: _, h => h.elim
  | [_], [], h => h.elim
  | [_], _ :: _, h => h.elim
  | _ :: _ :: _, [], h => h.elim
  | u :: v :: cs, t :: ts, ⟨⟨a, c, h1, h0, h2⟩, h3, h4, h5⟩ => ⟨⟨a, c, h1, h0, h2.mono hG⟩, h3, h4, MeansG.mono hG h5⟩
set_option linter.unusedVariables false in
theorem MeansG.grown {G : Nat → Prop} {w w' : World} {row : Option Nat} (hg : w.grownBy w' row) (hr : ∀ k, row = some k → ¬ G k) : ∀ {cs : List Value} {ts : List WRow}, MeansG G w cs ts → MeansG G w' cs ts
  | [], [], _ => trivial
  | [], _ :: _, h => h.elim
  | [_], [], h => h.elim
  | [_], _ :: _, h => h.elim
  | _ :: _ :: _, [], h => h.elim
  | u :: v :: cs, t :: ts, ⟨⟨a, c, h1, h0, h2⟩, h3, h4, h5⟩ => ⟨⟨a, c, h1, h0, h2.grown hg hr⟩, h3, h4, MeansG.grown hg hr h5⟩
set_option linter.unusedVariables false in
theorem Means.toG {w : World} : ∀ {cs : List Value} {ts : List WRow}, Means w cs ts → MeansG (fun _ => True) w cs ts
  | [], [], _ => trivial
  | [], _ :: _, h => h.elim
  | [_], [], h => h.elim
  | [_], _ :: _, h => h.elim
  | _ :: _ :: _, [], h => h.elim
  | u :: v :: cs, t :: ts, ⟨⟨a, c, h1, h0, h2⟩, h3, h4, h5⟩ => ⟨⟨a, c, h1, h0, h2.toG⟩, h3, h4, Means.toG h5⟩
theorem MeansG.at {G : Nat → Prop} {w : World} {cs : List Value} {ts : List WRow} (i : Nat) (h : MeansG G w cs ts) (hi : i < ts.length) : ∃ a c, cs[i * 2]? = some (.slice a (wat ts i).1.length c) ∧ cs[i * 2 + 1]? = some (.int .i64 (wat ts i).2) ∧ (wat ts i).1.length ≤ 9223372036854775807 ∧ (a = none → c = 0) ∧ At w a (wat ts i).1 := h.means.at i hi

/-- A slice of weighted rows, all in blocks of G. -/
def AtMG (G : Nat → Prop) (w : World) (a : Option Addr) (ts : List WRow) : Prop :=
  ts = [] ∨ ∃ b off cs, a = some ⟨b, off, none⟩ ∧ G b ∧ MeansG G w cs ts ∧ ∀ j u, cs[j]? = some u → w.cell? ⟨b, off + j, none⟩ = some u
section
variable {G G' : Nat → Prop} {w w' : World} {a : Option Addr} {ts : List WRow}
theorem AtMG.atM (h : AtMG G w a ts) : AtM w a ts := h.imp id fun ⟨b, off, cs, e, _, hm, hc⟩ => ⟨b, off, cs, e, hm.means, hc⟩
theorem AtMG.below (h : AtMG G w a ts) (hb : Below w.heap.size w w') : AtMG G w' a ts := h.imp id fun ⟨b, off, cs, e, hg, hm, hc⟩ => ⟨b, off, cs, e, hg, hm.below hb, fun j u hj => cell_later hb (hc j u hj)⟩
theorem atMG_nil (G : Nat → Prop) (w : World) (a : Option Addr) : AtMG G w a [] := .inl rfl
theorem AtMG.mono (h : AtMG G w a ts) (hG : ∀ k, k < w.heap.size → G k → G' k) : AtMG G' w a ts := by
  rcases h with h | ⟨b, off, cs, e, hg, hm, hc⟩
  · exact .inl h
  · by_cases ht : ts = []
    · exact .inl ht
    · have hl := hm.length
      have hp := List.length_pos_iff.2 ht
      obtain ⟨u, hu⟩ : ∃ u, cs[0]? = some u := ⟨_, List.getElem?_eq_getElem (by omega)⟩
      exact .inr ⟨b, off, cs, e, hG b (World.block_lt_of_cell? _ _ (hc 0 u hu)) hg, hm.mono hG, hc⟩
theorem AtMG.grown {row : Option Nat} (h : AtMG G w a ts) (hg : w.grownBy w' row) (hr : ∀ k, row = some k → ¬ G k) : AtMG G w' a ts := by
  rcases h with h | ⟨b, off, cs, e, hb, hm, hc⟩
  · exact .inl h
  · exact .inr ⟨b, off, cs, e, hb, hm.grown hg hr, fun j u hj => hg.cell (hc j u hj) (fun e => hr b e.symm hb)⟩
theorem AtM.toG (h : AtM w a ts) (hG : ∀ k, k < w.heap.size → G k) : AtMG G w a ts := by
  have h1 : AtMG (fun _ => True) w a ts := h.imp id fun ⟨b, off, cs, e, hm, hc⟩ => ⟨b, off, cs, e, trivial, hm.toG, hc⟩
  exact h1.mono fun k hk _ => hG k hk
theorem atMG_cells {b off : Nat} (h : AtMG G w (some ⟨b, off, none⟩) ts) : ∃ cs, MeansG G w cs ts ∧ ∀ j u, cs[j]? = some u → w.cell? ⟨b, off + j, none⟩ = some u := by
  rcases h with rfl | ⟨b', off', cs, he, _, hm, hc⟩
  · exact ⟨[], trivial, fun j u h => by simp at h⟩
  · simp only [Option.some.injEq, Addr.mk.injEq, and_true] at he
    obtain ⟨rfl, rfl⟩ := he
    exact ⟨cs, hm, hc⟩
theorem MeansG.ownedMG {cs : List Value} {base : Nat} {e : TypeId} {n c : Nat} (h : MeansG G w cs ts) (hn : ts.length = n) (hG : ∀ k, base ≤ k → G k) (ho : w.ownsRow base e 2 (.slice a n c) n cs) : AtMG G w a ts := by
  have hl := h.length
  rcases ho.2 with ⟨h', rfl⟩ | ⟨g, cap, cur, h', hb, _⟩
  · left; exact List.eq_nil_of_length_eq_zero hn
  · simp only [Value.slice.injEq, true_and] at h'
    obtain ⟨rfl, rfl⟩ := h'
    refine .inr ⟨g, 0, cs, rfl, hG g hb, h, fun j u hj => ?_⟩
    have hj' := (List.getElem?_eq_some_iff.1 hj).1
    rw [Nat.zero_add, ho.cellAt j (by omega)]
    exact hj
end

end Go.Proofs.YtlfljfmhhnoinabGreat
