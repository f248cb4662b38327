/- Several texts of one proof, in build order: SpecG, JoinLG, L4J, L4JG, StrS, StrE, MeansLG. -/
import Derived.Test.YtlfljfmhhnoinabGreatM29
import Derived.Test.YtlfljfmhhnoinabGreatM26
import Derived.Test.YtlfljfmhhnoinabGreatM15
import Derived.Test.YtlfljfmhhnoinabGreatM27
import Derived.Test.YtlfljfmhhnoinabGreatM19
import Derived.Test.YtlfljfmhhnoinabGreatM12
import Derived.Test.YtlfljfmhhnoinabGreatM11
import Derived.Deep.AppendLies
import Derived.Test.YtlfljfmhhnoinabGreatM17

/- Contract of spec.l2Add: in which blocks its answer lies. -/
namespace Go.Proofs.YtlfljfmhhnoinabGreat
open Go.RowKit

set_option maxRecDepth 100000 in
set_option maxHeartbeats 4000000 in
theorem l2AddG {G : Nat → Prop} (a a' : Option Addr) (n n' c c' : Nat) (ts ts' : List WRow) (w : World) (hGf : ∀ k, w.heap.size ≤ k → G k) (hz : ts.length = n) (hz' : ts'.length = n') (hn : n ≤ 500000) (hn' : n' ≤ 500000) (hF : Formed a n c)
    (hgo : ∀ k, k ≤ n' → ∀ t ∈ putAll ts (ts'.take k), t.1.length ≤ 6 ∧ -4000000000000000000 ≤ t.2 ∧ t.2 ≤ 4000000000000000000) (hg' : ∀ t ∈ ts', t.1.length ≤ 6 ∧ -4000000000000000000 ≤ t.2 ∧ t.2 ≤ 4000000000000000000) (ha : AtMG G w a ts) (ha' : AtM w a' ts') :
    Calls Tryz.prog 21 #[.slice a n c, .slice a' n' c'] w fun e w' => ∃ r k d, e = .returned (.slice r k d) ∧ (putAll ts ts').length = k ∧ Formed r k d ∧ AtMG G w' r (putAll ts ts') ∧ Below w.heap.size w w' := by
  go_enter Tryz.func21, Tryz.ntmps21
  go_wp2
  go_loopw [5, 11] (fun o i wr => ∃ (k : Nat) (r : Option Addr) (m d : Nat), k ≤ n' ∧ i = .int .i64 k ∧ o = .slice r m d ∧ (putAll ts (ts'.take k)).length = m ∧ Formed r m d ∧ AtMG G wr r (putAll ts (ts'.take k)) ∧ Below w.heap.size w wr) (fun _ i _ => n' - (intOf i).toNat)
  case atStart => exact ⟨0, a, n, c, Nat.zero_le _, rfl, rfl, hz, hF, ha, Below.refl _ _⟩
  case round =>
    obtain ⟨k, r, m, d, hk, rfl, rfl, hm, hFr, har, hbw⟩ := hrel
    by_cases hlt : k < n'
    · obtain ⟨b, off, rfl, hc⟩ := (ha'.below hbw).some (by omega)
      obtain ⟨q, dd, hcx, hwx, hm1, hnil, hat⟩ := hc k (by omega)
      have hgk := at_of_mem hg' k (by omega)
      have HS := Hid.mk (putAll_take ts ts' k (by omega))
      have hki : (k : Int) < (n' : Int) := by omega
      have hml : m ≤ n + k := by have := putAll_len (ts'.take k) ts; rw [List.length_take] at this; omega
      have hok : ∀ j, j < m → (wat (putAll ts (ts'.take k)) j).1.length ≤ 6 ∧ -4000000000000000000 ≤ (wat (putAll ts (ts'.take k)) j).2 ∧ (wat (putAll ts (ts'.take k)) j).2 ≤ 4000000000000000000 := fun j hj => at_of_mem (hgo k hk) j (show j < (putAll ts (ts'.take k)).length by omega)
      generalize wat ts' k = Y at *
      obtain ⟨ys, x⟩ := Y
      simp only at hcx hwx hat hm1 hgk HS
      obtain ⟨m2, hmm⟩ : ∃ m2, ys.length = m2 := ⟨_, rfl⟩
      rw [hmm] at hcx hm1 hgk
      have HM := Hid.mk hmm
      obtain ⟨h6, hx1, hx2⟩ := hgk
      obtain ⟨V, hV⟩ : ∃ V, V = wr.alloc (.cells #[.slice q m2 dd, .int .i64 x] 78) := ⟨_, rfl⟩
      have hbV : Below wr.heap.size wr V := by rw [hV]; exact (Below.refl _ _).alloc (Nat.le_refl _) _
      have B1 := hbw.trans (hbV.mono hbw.size)
      clear hmm hc
      go_wp2_with fail
      rw [← hV]
      clear hV hcx hwx
      refine (l2PutG_any _ _ _ _ _ _ (putAll ts (ts'.take k)) ys x _ (fun j hj => hGf j (by have := B1.size; omega)) hm HM.out (by omega) hFr h6 hnil hok (by omega) (by omega) (har.below hbV) (hat.below hbV)).mono ?_
      rintro e w2 ⟨r2, m3, d2, rfl, hm3, hF2, ha2, hb2⟩
      rw [← HS.out] at hm3 ha2
      have HM3 := Hid.mk hm3
      have HF2 := Hid.mk hF2
      have HA2 := Hid.mk ha2
      have HB := Hid.mk (B1.trans (hb2.mono B1.size))
      clear hm3 hF2 ha2 hb2 B1 hbw har hm hFr hok hat hbV
      go_wp2
      go_roundw
      case rel => exact ⟨k + 1, _, _, _, by omega, by go_num, rfl, HM3.out, HF2.out, HA2.out, HB.out⟩
      case measure => simp [intOf]; omega
    · obtain rfl : k = n' := by omega
      rw [wtake_all' ts' hz'] at hm har
      go_wp2
      go_ret
      exact ⟨_, _, _, rfl, hm, hFr, har, hbw⟩

/-- The same of lists within bounds. -/
theorem l2AddL {G : Nat → Prop} (a a' : Option Addr) (n n' c c' q N N' : Nat) (B B' : Int) (ts ts' : List WRow) (w : World) (hGf : ∀ k, w.heap.size ≤ k → G k) (hz : ts.length = n) (hz' : ts'.length = n') (h6 : q ≤ 6) (hL : Lst q N B ts) (hL' : Lst q N' B' ts') (hN : N ≤ 400000) (hN' : N' ≤ 400000) (hB : 0 ≤ B) (hB' : 0 ≤ B') (hBB : B + B' ≤ 4000000000000000000) (hF : Formed a n c) (ha : AtMG G w a ts) (ha' : AtM w a' ts') :
    Calls Tryz.prog 21 #[.slice a n c, .slice a' n' c'] w fun e w' => ∃ r k d, e = .returned (.slice r k d) ∧ (putAll ts ts').length = k ∧ Formed r k d ∧ AtMG G w' r (putAll ts ts') ∧ Below w.heap.size w w' := by
  have e1 := hL.len
  have e2 := hL'.len
  refine l2AddG a a' n n' c c' ts ts' w hGf hz hz' (by omega) (by omega) hF (fun k hk t ht => ?_) (fun t ht => ?_) ha ha'
  · have h := hL.put (hL'.take k) hB hB'
    have h1 := (h.rows t ht).2
    have h2 := h.within t ht
    refine ⟨by omega, ?_, ?_⟩ <;> omega
  · have h1 := (hL'.rows t ht).2
    have h2 := hL'.within t ht
    refine ⟨by omega, ?_, ?_⟩ <;> omega

end Go.Proofs.YtlfljfmhhnoinabGreat

/- Contract of spec.l3Join: in which blocks its answer lies. -/
namespace Go.Proofs.YtlfljfmhhnoinabGreat
open Go.RowKit

set_option maxRecDepth 100000 in
set_option maxHeartbeats 4000000 in
theorem l3JoinG {G : Nat → Prop} (a a' p : Option Addr) (n n' l c c' d : Nat) (ts us : List WRow) (ps : List (List Int)) (p0 q0 N N' : Nat) (B B' : Int) (w : World) (hGf : ∀ k, w.heap.size ≤ k → G k) (hz : ts.length = n) (hz' : us.length = n') (hl : ps.length = l) (hgT : Lst p0 N B ts) (hgU : Lst q0 N' B' us) (q6 : p0 ≤ 6) (q6' : q0 ≤ 6) (h0 : 0 ≤ B) (h0' : 0 ≤ B') (hNs : N ≤ 1000000) (hNs' : N' ≤ 1000000) (hNN : N * N' ≤ 1000000) (hBB : B * B' * (N * N' : Nat) ≤ 4000000000000000000) (hBs : B * B' ≤ 4000000000000000000) (hok : pairsOk ps p0 q0 = true)
    (ha : AtM w a ts) (ha' : AtM w a' us) (hp : AtS w p ps) :
    Calls Tryz.prog 38 #[.slice a n c, .slice a' n' c', .slice p l d] w fun e w' => ∃ r k d, e = .returned (.slice r k d) ∧ (joinW ts us ps).length = k ∧ Formed r k d ∧ AtMG G w' r (joinW ts us ps) ∧ Below w.heap.size w w' := by
  have HGF := Hid.mk hGf
  clear hGf
  have n60 : n ≤ 1000000 := by have := hgT.len; omega
  have n60' : n' ≤ 1000000 := by have := hgU.len; omega
  have HRT : Hid (∀ k, k < n → good (wat ts k).1 = true ∧ (wat ts k).1.length = p0 ∧ -B ≤ (wat ts k).2 ∧ (wat ts k).2 ≤ B) := fun k hk => by
    have h1 := at_of_mem hgT.rows k (by omega)
    exact ⟨h1.1, h1.2, at_of_mem hgT.within k (by omega)⟩
  have HRU : Hid (∀ k, k < n' → good (wat us k).1 = true ∧ (wat us k).1.length = q0 ∧ -B' ≤ (wat us k).2 ∧ (wat us k).2 ≤ B') := fun k hk => by
    have h1 := at_of_mem hgU.rows k (by omega)
    exact ⟨h1.1, h1.2, at_of_mem hgU.within k (by omega)⟩
  have HPB : Hid (∀ x y : Int, -B ≤ x → x ≤ B → -B' ≤ y → y ≤ B' → -4000000000000000000 ≤ x * y ∧ x * y ≤ 4000000000000000000) := fun x y h1 h2 h3 h4 => by
    have := mul_in h1 h2 h3 h4
    omega
  have HPK : Hid (∀ k, k < n → _) := fun k hk => accJ_packL (ps := ps) hgT hgU h0 h0' hNN hBB (show k < ts.length by omega) hz'
  have HOK := Hid.mk hok
  have HW : Hid (joinW ts us ps = putAll [] (joinL (ts.take n) us ps)) := by show _ = _; rw [List.take_of_length_le (by omega)]; rfl
  clear hgT hgU hok hNN hBB hBs hNs hNs'
  go_enter Tryz.func38, Tryz.ntmps38
  go_wp2
  go_loopw [7, 16] (fun o i wr => ∃ (k : Nat) (r : Option Addr) (m d : Nat), k ≤ n ∧ i = .int .i64 k ∧ o = .slice r m d ∧ (putAll [] (joinL (ts.take k) us ps)).length = m ∧ Formed r m d ∧ AtMG G wr r (putAll [] (joinL (ts.take k) us ps)) ∧ Below w.heap.size w wr) (fun _ i _ => n - (intOf i).toNat)
  case atStart => exact ⟨0, none, 0, 0, Nat.zero_le _, rfl, rfl, rfl, Formed.nil, atMG_nil _ _ _, Below.refl _ _⟩
  case round =>
    obtain ⟨k, r, m, dm, hk, rfl, rfl, hm, hFr, har, hbw⟩ := hrel
    by_cases hlt : k < n
    · obtain ⟨b, off, rfl, hc⟩ := (ha.below hbw).some (by omega)
      obtain ⟨q, dd, hcx, hwx, hm1, hnil, hat⟩ := hc k (by omega)
      have hro := HRT.out k hlt
      obtain ⟨AC, a0, aS, aN, aA, aB⟩ := HPK.out k hlt
      rw [← a0] at hm har
      have HAS := Hid.mk aS
      have HAN := Hid.mk aN
      have HAA := Hid.mk aA
      have HAB := Hid.mk aB
      clear aS aN aA aB a0
      have hki : (k : Int) < (n : Int) := by omega
      generalize wat ts k = Y at *
      obtain ⟨xz, x⟩ := Y
      simp only at hcx hwx hat hm1 hro
      obtain ⟨m2, hmm⟩ : ∃ m2, xz.length = m2 := ⟨_, rfl⟩
      rw [hmm] at hcx hm1 hro
      have HM := Hid.mk hmm
      have HRO := Hid.mk hro
      have l6 : m2 ≤ 6 := by omega
      obtain ⟨V, hV⟩ : ∃ V, V = wr.alloc (.cells #[.slice q m2 dd, .int .i64 x] 78) := ⟨_, rfl⟩
      obtain ⟨S, hS⟩ : ∃ S, S = wr.heap.size := ⟨_, rfl⟩
      have hbV : Below wr.heap.size wr V := by rw [hV]; exact (Below.refl _ _).alloc (Nat.le_refl _) _
      have v0 : V.cell? ⟨S, 0, none⟩ = some (.slice q m2 dd) := by rw [hV, hS]; exact pair0 wr _ _ _
      have v1 : V.cell? ⟨S, 1, none⟩ = some (.int .i64 x) := by rw [hV, hS]; exact pair1 wr _ _ _
      have HB1 := Hid.mk (hbw.trans (hbV.mono hbw.size))
      have HAT := Hid.mk (hat.below hbV)
      have HAR := Hid.mk (har.below hbV)
      clear hmm hc hat har hro hbV
      go_wp2
      rw [← hV, ← hS]
      clear hV hcx hwx hS
      go_loopw [7, 22] (fun o i ws => ∃ (j : Nat) (r : Option Addr) (m d : Nat), j ≤ n' ∧ i = .int .i64 j ∧ o = .slice r m d ∧ (AC j).length = m ∧ Formed r m d ∧ AtMG G ws r (AC j) ∧ Below V.heap.size V ws) (fun _ i _ => n' - (intOf i).toNat)
      case atStart => exact ⟨0, r, m, dm, Nat.zero_le _, rfl, rfl, hm, hFr, HAR.out, Below.refl _ _⟩
      case round =>
        clear hm hFr HAR hbw
        obtain ⟨j, r, m, dm, hj, rfl, rfl, hm, hFr, har, hbs⟩ := hrel
        have BS := HB1.out.trans (hbs.mono HB1.out.size)
        by_cases hjt : j < n'
        · obtain ⟨b2, off2, rfl, hc2⟩ := (ha'.below BS).some (by omega)
          obtain ⟨q2, dd2, hcx2, hwx2, hm12, hnil2, hat2⟩ := hc2 j (by omega)
          have hru := HRU.out j hjt
          have HS1 := Hid.mk (fun v => HAS.out j v hjt)
          have HN1 := Hid.mk (HAN.out j hjt)
          have HLB := Hid.mk (HAB.out j)
          have hm36 : m ≤ 1000000 := by have := HLB.out.1; omega
          have hji : (j : Int) < (n' : Int) := by omega
          generalize wat us j = Y2 at *
          obtain ⟨yz, y⟩ := Y2
          simp only at hcx2 hwx2 hat2 hm12 hru
          obtain ⟨m3, hmm⟩ : ∃ m3, yz.length = m3 := ⟨_, rfl⟩
          rw [hmm] at hcx2 hm12 hru
          have HM2 := Hid.mk hmm
          have l62 : m3 ≤ 6 := by omega
          obtain ⟨U, hU⟩ : ∃ U, U = wr.alloc (.cells #[.slice q2 m3 dd2, .int .i64 y] 78) := ⟨_, rfl⟩
          have hbU : Below wr.heap.size wr U := by rw [hU]; exact (Below.refl _ _).alloc (Nat.le_refl _) _
          have u0 : U.cell? ⟨wr.heap.size, 0, none⟩ = some (.slice q2 m3 dd2) := by rw [hU]; exact pair0 wr _ _ _
          have u1 : U.cell? ⟨wr.heap.size, 1, none⟩ = some (.int .i64 y) := by rw [hU]; exact pair1 wr _ _ _
          have hbUL : Below wr.heap.size wr (wr.alloc (.cells #[.slice q2 m3 dd2, .int .i64 y] 78)) := (Below.refl _ _).alloc (Nat.le_refl _) _
          have x0 := cell_later hbUL (cell_later hbs v0)
          have x1 := cell_later hbUL (cell_later hbs v1)
          have BU := BS.trans (hbU.mono BS.size)
          have YU := hbs.trans (hbU.mono hbs.size)
          have HATX := Hid.mk (HAT.out.below YU)
          have HATY := Hid.mk (hat2.below hbU)
          have HAR := Hid.mk (har.below hbU)
          have HP := Hid.mk (hp.below BU)
          have hokk : pairsOk ps m2 m3 = true := by rw [HRO.out.2.1, hru.2.1]; exact HOK.out
          have HKK := Hid.mk hokk
          have HLJ : Hid (l1B xz yz ps = joinOk xz yz ps) := l1B_joinOk HRO.out.1 hru.1 (by rw [HM.out, HM2.out]; exact hokk)
          have hwr := wrapL (HPB.out _ _ HRO.out.2.2.1 HRO.out.2.2.2 hru.2.2.1 hru.2.2.2)
          have hwr2 := wrapL64 (HPB.out _ _ HRO.out.2.2.1 HRO.out.2.2.2 hru.2.2.1 hru.2.2.2)
          have HPI := Hid.mk (HPB.out _ _ HRO.out.2.2.1 HRO.out.2.2.2 hru.2.2.1 hru.2.2.2)
          clear hmm hc2 hat2 har hokk hru
          go_wp2_with fail
          rw [← hU] at x0 x1 ⊢
          clear hU hcx2 hwx2 hbUL
          refine (l1Join_any _ _ _ _ _ _ _ _ _ xz yz ps _ HM.out HM2.out hl l6 l62 hnil HATX.out HATY.out HP.out HKK.out).mono ?_
          rintro e w5 ⟨r5, m5, d5, rfl, hm5, ho5, hb5⟩
          rw [HLJ.out]
          have x0 := cell_later hb5 x0
          have x1 := cell_later hb5 x1
          have u0 := cell_later hb5 u0
          have u1 := cell_later hb5 u1
          have YU := YU.trans (hb5.mono YU.size)
          have HAR := Hid.mk (HAR.out.below hb5)
          obtain ⟨w6, hw6⟩ : ∃ w6, w6 = w5.alloc (.cells #[.slice r5 m5 d5] 76) := ⟨_, rfl⟩
          have hbL : Below w5.heap.size w5 (w5.alloc (.cells #[.slice r5 m5 d5] 76)) := (Below.refl _ _).alloc (Nat.le_refl _) _
          have hb6 : Below w5.heap.size w5 w6 := by rw [hw6]; exact hbL
          have x0 := cell_later hbL x0
          have x1 := cell_later hbL x1
          have u0 := cell_later hbL u0
          have u1 := cell_later hbL u1
          have YU := YU.trans (hb6.mono YU.size)
          have HAR := Hid.mk (HAR.out.below hb6)
          cases hok : joinOk xz yz ps with
          | true =>
            have hjs := HS1.out (joinAns xz yz ps, x * y) (if_pos hok)
            have HJS := Hid.mk hjs
            have HJA := Hid.mk (l1Z_joinAns hok)
            rw [HJA.out] at hm5 ho5
            have HO5 := Hid.mk ho5
            have hm56 : m5 ≤ 6 := by
              have hj6 : (joinZ xz yz (side ps 1)).length ≤ 6 := by simp only [joinOk, Bool.and_eq_true, decide_eq_true_eq] at hok; exact hok.2
              rw [← hm5, joinAns, if_pos hok]; exact hj6
            clear hjs hok ho5 hb5 hbs hbU BU BS
            go_wp2_with fail
            rw [← hw6]
            refine (l2PutG_any _ _ _ _ _ _ (AC j) (joinAns xz yz ps) (x * y) _ (fun i hi => HGF.out i (by have := HB1.out.size; have := YU.size; omega)) hm hm5 (by omega) hFr hm56 (owns_formed HO5.out).2.1 (fun i hi => HLB.out.2 i (by omega)) (by have := HPI.out; omega) (by have := HPI.out; omega) HAR.out ((At.owned HO5.out).below hb6)).mono ?_
            rintro e w7 ⟨r7, m7, d7, rfl, hm7, hF7, ha7, hb7⟩
            rw [← HJS.out] at hm7 ha7
            have HM7 := Hid.mk hm7
            have HF7 := Hid.mk hF7
            have HA7 := Hid.mk ha7
            have HB7 := Hid.mk (YU.trans (hb7.mono YU.size))
            clear hm7 hF7 ha7 hb7 hm hFr HAR YU hb6 hbL hw6
            go_wp2
            go_roundw
            case rel => exact ⟨j + 1, _, _, _, by omega, by go_num, rfl, HM7.out, HF7.out, HA7.out, HB7.out⟩
            case measure => simp [intOf]; omega
          | false =>
            have HE : Hid (AC (j + 1) = AC j) := HN1.out (if_neg (by simp [hok]))
            have HM7 : Hid ((AC (j + 1)).length = m) := by show _ = _; rw [HE.out]; exact hm
            have HA7 : Hid (AtMG G w6 r (AC (j + 1))) := by show AtMG _ _ _ _; rw [HE.out]; exact HAR.out
            have HB7 := Hid.mk YU
            clear hok ho5 hb5 hbs hbU BU BS hm HAR YU hb6 hbL
            go_wp2
            go_roundw
            case rel => exact ⟨j + 1, _, _, _, by omega, by go_num, rfl, HM7.out, hFr, by rw [← hw6]; exact HA7.out, by rw [← hw6]; exact HB7.out⟩
            case measure => simp [intOf]; omega
        · obtain rfl : j = n' := by omega
          rw [HAA.out] at hm har
          have HMM := Hid.mk hm
          have HARR := Hid.mk har
          have HBS := Hid.mk BS
          clear hm har BS hbs
          go_wp2
          go_roundw
          case rel => exact ⟨k + 1, _, _, _, by omega, by go_num, rfl, HMM.out, hFr, HARR.out, HBS.out⟩
          case measure => simp [intOf]; omega
    · obtain rfl : k = n := by omega
      rw [← HW.out] at hm har
      go_wp2
      go_ret
      exact ⟨_, _, _, rfl, hm, hFr, har, hbw⟩

end Go.Proofs.YtlfljfmhhnoinabGreat

/- Contract of spec.l4Join. -/
namespace Go.Proofs.YtlfljfmhhnoinabGreat
open Go.RowKit

theorem Lst.big {q N : Nat} {B : Int} {xs : List WRow} (h : Lst q N B xs) (h6 : q ≤ 6) (hB : B ≤ 4000000000000000000) : ∀ t ∈ xs, t.1.length ≤ 6 ∧ -4000000000000000000 ≤ t.2 ∧ t.2 ≤ 4000000000000000000 := fun t ht => by
  have h1 := (h.rows t ht).2
  have h2 := h.within t ht
  refine ⟨by omega, by omega, by omega⟩

end Go.Proofs.YtlfljfmhhnoinabGreat

/- Contract of spec.l4Join: in which blocks its answer lies. -/
namespace Go.Proofs.YtlfljfmhhnoinabGreat
open Go.RowKit

set_option maxRecDepth 100000 in
set_option maxHeartbeats 4000000 in
theorem l4JoinG {G : Nat → Prop} (a1 a2 a3 a4 p : Option Addr) (n1 n2 n3 n4 l c1 c2 c3 c4 d : Nat) (xs ys dxs dys : List WRow) (ps : List (List Int)) (q q' M D : Nat) (B C : Int) (w : World) (hGf : ∀ k, w.heap.size ≤ k → G k) (hz1 : xs.length = n1) (hz2 : ys.length = n2) (hz3 : dxs.length = n3) (hz4 : dys.length = n4) (hl : ps.length = l)
    (lx : Lst q M B xs) (ly : Lst q' M B ys) (ldx : Lst q D C dxs) (ldy : Lst q' D C dys) (h6 : q ≤ 6) (h6' : q' ≤ 6) (hok : pairsOk ps q q' = true) (hjc : joinC q q' ps ≤ 6)
    (hN : D * M + M * D + D * D ≤ 500000) (hM : M ≤ 1000000) (hD : D ≤ 1000000) (hB0 : 0 ≤ B) (hC0 : 0 ≤ C) (h1 : C * B * (D * M : Nat) ≤ 1000000000000000000) (h2 : B * C * (M * D : Nat) ≤ 1000000000000000000) (h3 : C * C * (D * D : Nat) ≤ 1000000000000000000) (h4 : C * B ≤ 4000000000000000000) (h5 : B * C ≤ 4000000000000000000) (h7 : C * C ≤ 4000000000000000000)
    (ha1 : AtM w a1 xs) (ha2 : AtM w a2 ys) (ha3 : AtM w a3 dxs) (ha4 : AtM w a4 dys) (hp : AtS w p ps) :
    Calls Tryz.prog 20 #[.slice a1 n1 c1, .slice a2 n2 c2, .slice a3 n3 c3, .slice a4 n4 c4, .slice p l d] w fun e w' => ∃ r k d, e = .returned (.slice r k d) ∧ (jdW xs ys dxs dys ps).length = k ∧ Formed r k d ∧ AtMG G w' r (jdW xs ys dxs dys ps) ∧ Below w.heap.size w w' := by
  have HGF := Hid.mk hGf
  clear hGf
  have L1 := Hid.mk (lst_join (ps := ps) ldx ly hC0 hB0)
  have L2 := Hid.mk (lst_join (ps := ps) lx ldy hB0 hC0)
  have L3 := Hid.mk (lst_join (ps := ps) ldx ldy hC0 hC0)
  have m1 := Int.mul_nonneg (Int.mul_nonneg hC0 hB0) (show (0 : Int) ≤ (D * M : Nat) from Int.natCast_nonneg _)
  have m2 := Int.mul_nonneg (Int.mul_nonneg hB0 hC0) (show (0 : Int) ≤ (M * D : Nat) from Int.natCast_nonneg _)
  have m3 := Int.mul_nonneg (Int.mul_nonneg hC0 hC0) (show (0 : Int) ≤ (D * D : Nat) from Int.natCast_nonneg _)
  go_enter Tryz.func20, Tryz.ntmps20
  go_wp2_with fail
  refine (l3JoinG (G := G) _ _ _ _ _ _ _ _ _ dxs ys ps q q' D M C B _ HGF.out hz3 hz2 hl ldx ly h6 h6' hC0 hB0 hD hM (by omega) (by omega) h4 hok ha3 ha2 hp).mono ?_
  rintro e w1 ⟨r1, k1, e1, rfl, hk1, hF1, hr1, hb1⟩
  replace ha1 := ha1.below hb1
  replace ha3 := ha3.below hb1
  replace ha4 := ha4.below hb1
  replace hp := hp.below hb1
  have B1 := hb1
  clear ha2 hb1
  go_wp2_with fail
  refine (l3JoinG (G := G) _ _ _ _ _ _ _ _ _ xs dys ps q q' M D B C _ (fun k hk => HGF.out k (by have := B1.size; omega)) hz1 hz4 hl lx ldy h6 h6' hB0 hC0 hM hD (by omega) (by omega) h5 hok ha1 ha4 hp).mono ?_
  rintro e w2 ⟨r2, k2, e2, rfl, hk2, hF2, hr2, hb2⟩
  replace ha3 := ha3.below hb2
  replace ha4 := ha4.below hb2
  replace hp := hp.below hb2
  replace hr1 := hr1.below hb2
  have B2 := B1.trans (hb2.mono B1.size)
  clear ha1 hb2
  have b1 : k1 ≤ D * M := by have := L1.out.len; omega
  have b2 : k2 ≤ M * D := by have := L2.out.len; omega
  go_wp2_with fail
  refine (l2AddG (G := G) _ _ _ _ _ _ (joinW dxs ys ps) (joinW xs dys ps) _ (fun k hk => HGF.out k (by have := B2.size; omega)) hk1 hk2 (by omega) (by omega) hF1 (fun k hk => (L1.out.put (L2.out.take k) m1 m2).big hjc (by omega)) (L2.out.big hjc (by omega)) hr1 hr2.atM).mono ?_
  rintro e w3 ⟨r3, k3, e3, rfl, hk3, hF3, hr3, hb3⟩
  replace ha3 := ha3.below hb3
  replace ha4 := ha4.below hb3
  replace hp := hp.below hb3
  have B3 := B2.trans (hb3.mono B2.size)
  have L12 := Hid.mk (L1.out.put L2.out m1 m2)
  clear hr1 hr2 hb3 hk1 hk2
  go_wp2_with fail
  refine (l3JoinG (G := G) _ _ _ _ _ _ _ _ _ dxs dys ps q q' D D C C _ (fun k hk => HGF.out k (by have := B3.size; omega)) hz3 hz4 hl ldx ldy h6 h6' hC0 hC0 hD hD (by omega) (by omega) h7 hok ha3 ha4 hp).mono ?_
  rintro e w4 ⟨r4, k4, e4, rfl, hk4, hF4, hr4, hb4⟩
  replace hr3 := hr3.below hb4
  have B4 := B3.trans (hb4.mono B3.size)
  clear ha3 ha4 hp hb4
  have b3 : k3 ≤ D * M + M * D := by have := L12.out.len; omega
  have b4 : k4 ≤ D * D := by have := L3.out.len; omega
  go_wp2_with fail
  refine (l2AddG (G := G) _ _ _ _ _ _ (putAll (joinW dxs ys ps) (joinW xs dys ps)) (joinW dxs dys ps) _ (fun k hk => HGF.out k (by have := B4.size; omega)) hk3 hk4 (by omega) (by omega) hF3 (fun k hk => (L12.out.put (L3.out.take k) (by omega) m3).big hjc (by omega)) (L3.out.big hjc (by omega)) hr3 hr4.atM).mono ?_
  rintro e w5 ⟨r5, k5, e5, rfl, hk5, hF5, hr5, hb5⟩
  have B5 := B4.trans (hb5.mono B4.size)
  have HK := Hid.mk hk5
  have HR := Hid.mk hr5
  clear hr3 hr4 hk5 hr5 hk3 hk4
  go_wp2
  go_ret
  exact ⟨_, _, _, rfl, HK.out, hF5, HR.out, B5⟩

end Go.Proofs.YtlfljfmhhnoinabGreat

/- Contract of spec.l4Stream. -/
namespace Go.Proofs.YtlfljfmhhnoinabGreat
open Go.RowKit

/-- A slice of slices of weighted rows. -/
def AtL (w : World) (a : Option Addr) (xss : List (List WRow)) : Prop :=
  xss = [] ∨ ∃ b off, a = some ⟨b, off, none⟩ ∧ ∀ i, i < xss.length → ∃ a' c', w.cell? ⟨b, off + i, none⟩ = some (.slice a' (lat xss i).length c') ∧ AtM w a' (lat xss i)
theorem AtL.below {w w' : World} {a : Option Addr} {xss : List (List WRow)} (h : AtL w a xss) (hb : Below w.heap.size w w') : AtL w' a xss := by
  rcases h with h | ⟨b, off, e, hc⟩
  · exact .inl h
  · exact .inr ⟨b, off, e, fun i hi => by obtain ⟨a', c', h1, h2⟩ := hc i hi; exact ⟨a', c', cell_later hb h1, h2.below hb⟩⟩

set_option maxRecDepth 100000 in
set_option maxHeartbeats 4000000 in
theorem l4Stream_any (a : Option Addr) (n c q : Nat) (xss : List (List WRow)) (w : World) (hz : xss.length = n) (hn : n ≤ 12) (hsz : ∀ i, i < n → (lat xss i).length ≤ 1048576 ∧ ∀ t ∈ lat xss i, t.1.length ≤ 6) (ha : AtL w a xss) :
    Calls Tryz.prog 22 #[.int .i64 q, .slice a n c] w fun e w' => StrAns e w' w.heap.size (allG q xss) q (tabsOf q xss n) ∧ Below w.heap.size w w' := by
  obtain ⟨i0, hi, hz0, hz1, hz2⟩ := info_parts Tryz.infoT
  obtain ⟨W, hW⟩ : ∃ W, W = (w.alloc (.cells #[.int .i64 0, .slice none 0 0] 30)).alloc (.cells #[.int .i64 q, .slice none 0 0] 30) := ⟨_, rfl⟩
  have zW : W.heap.size = w.heap.size + 1 + 1 := by rw [hW]; simp
  have B0 : Below w.heap.size w W := by rw [hW]; exact ((Below.refl _ _).alloc (Nat.le_refl _) _).alloc (by simp) _
  have hR : W.heap[w.heap.size]? = some (.cells #[.int .i64 0, .slice none 0 0] 30 (0, 0)) := by rw [hW]; exact (Below.heap_alloc _ _ _ (by simp)).trans (heap_alloc_new w _)
  have hT : W.heap[w.heap.size + 1]? = some (.cells #[.int .i64 q, .slice none 0 0] 30 (0, 0)) := by
    rw [hW]; have := heap_alloc_new (w.alloc (.cells #[.int .i64 0, .slice none 0 0] 30)) (.cells #[.int .i64 q, .slice none 0 0] 30); rwa [World.size_alloc] at this
  go_enter Tryz.func22, Tryz.ntmps22
  go_wp2
  rw [← hW]
  clear hW
  go_loopw [15] (fun i wr => ∃ (k : Nat) (r : Option Addr) (d : Nat) (cells : List Value) (L H : Nat → Nat), k ≤ n ∧ i = .int .i64 k ∧ wr.heap[w.heap.size]? = some (.cells #[.int .i64 0, .slice none 0 0] 30 (0, 0)) ∧ wr.heap[w.heap.size + 1]? = some (.cells #[.int .i64 q, .slice r k d] 30 (0, 0)) ∧
      OwnUk wr (w.heap.size + 2) wr.heap.size r k d (tabsOf q xss k) cells L H k ∧ (∀ j, j < k → goodT q (lat xss j) = true) ∧ w.heap.size + 2 ≤ wr.heap.size ∧ Below w.heap.size w wr) (fun i _ => n - (intOf i).toNat)
  case atStart => exact ⟨0, none, 0, [], fun _ => 0, fun _ => 0, Nat.zero_le _, rfl, hR, hT, OwnUk.start rfl (Nat.le_refl _) (World.ownsRow_nil _ _ _ _) (fun b hb => by cases hb), fun j hj => by omega, by omega, B0⟩
  case round =>
    clear hR hT B0 zW W
    obtain ⟨k, r, d, cells, L, H, hk, rfl, hR, hT, hou, hgd, z3, hbw⟩ := hrel
    have e0 : wr.cell? ⟨w.heap.size, 0, none⟩ = some (.int .i64 0) := by rw [cell_of_row wr _ 0 _ _ (0, 0) hR]; rfl
    have e1 : wr.cell? ⟨w.heap.size, 1, none⟩ = some (.slice none 0 0) := by rw [cell_of_row wr _ 1 _ _ (0, 0) hR]; rfl
    have f0 : wr.frozen? ⟨w.heap.size, 0, none⟩ = false := frozen_of_row wr _ 0 _ _ hR
    have f1 : wr.frozen? ⟨w.heap.size, 1, none⟩ = false := frozen_of_row wr _ 1 _ _ hR
    have t0 : wr.cell? ⟨w.heap.size + 1, 0, none⟩ = some (.int .i64 q) := by rw [cell_of_row wr _ 0 _ _ (0, 0) hT]; rfl
    have t1 : wr.cell? ⟨w.heap.size + 1, 1, none⟩ = some (.slice r k d) := by rw [cell_of_row wr _ 1 _ _ (0, 0) hT]; rfl
    have HR := Hid.mk hR
    have HT := Hid.mk hT
    have HOU := Hid.mk hou
    have HGD := Hid.mk hgd
    clear hR hT hou hgd
    by_cases hlt : k < n
    · obtain ⟨b, off, rfl, hc⟩ : ∃ b off, a = some ⟨b, off, none⟩ ∧ ∀ i, i < xss.length → ∃ a' c', wr.cell? ⟨b, off + i, none⟩ = some (.slice a' (lat xss i).length c') ∧ AtM wr a' (lat xss i) := by
        rcases ha.below hbw with h | h
        · rw [h] at hz; simp at hz; omega
        · exact h
      obtain ⟨x, dd, hcx, hat⟩ := hc k (by omega)
      have hsk := hsz k hlt
      have HLS := Hid.mk (tabsOf_succ q xss k (by omega))
      have HNG : Hid (goodT q (lat xss k) = false → allG q xss = false) := fun h => allG_no (by omega) h
      have hki : (k : Int) < (n : Int) := by omega
      have HGS : Hid (goodT q (lat xss k) = true → ∀ j, j < k + 1 → goodT q (lat xss j) = true) := fun h j hj => by
        by_cases e : j = k
        · subst e; exact h
        · exact HGD.out j (by omega)
      generalize lat xss k = X at *
      obtain ⟨m, hm⟩ : ∃ m, X.length = m := ⟨_, rfl⟩
      rw [hm] at hcx hsk
      have HM := Hid.mk hm
      have HPR : Hid (∀ j, j < m → (wat X j).1.length ≤ 1048576) := fun j hj => by have := hsk.2 _ (wat_mem (show j < X.length by omega)); omega
      have hml := hsk.1
      clear hc hm hsk
      cases hg : goodT q X with
      | false =>
        have HG := Hid.mk hg
        go_wp2_with fail
        refine (l2Tell_any _ _ _ X _ _ HM.out hml HPR.out hat).mono ?_
        rintro e w4 ⟨⟨r4, m4, d4, cells4, rfl, ho4⟩, hb4⟩
        rw [hg]
        clear hg
        have f0 := frozen_later hb4 e0 f0
        have f1 := frozen_later hb4 e1 f1
        have e0 := cell_later hb4 e0
        have e1 := cell_later hb4 e1
        have hbA : Below w4.heap.size w4 (w4.alloc (.cells #[.int .i64 (tellP q X), .slice r4 m4 d4] 48)) := (Below.refl _ _).alloc (Nat.le_refl _) _
        have B4 := hbw.trans (hb4.mono hbw.size)
        have B5 := B4.trans (hbA.mono B4.size)
        have f0 := frozen_later hbA e0 f0
        have f1 := frozen_later hbA e1 f1
        have e0 := cell_later hbA e0
        have e1 := cell_later hbA e1
        go_wp2
        refine bodyPost_ret (v := .tuple #[.agg #[.int .i64 0, .slice none 0 0], .bool false]) (by simp [results, Tryz.results22, go_sem, e0, e1]) rfl ⟨StrAns.zero (HNG.out HG.out) rfl, ?_⟩
        exact (B5.setCell (Nat.le_refl _) _).setCell (Nat.le_refl _) _
      | true =>
        have HG := Hid.mk hg
        have hP : tellP q X = q := by simp [tellP, hg]
        have hTT : tellT q X = X := by simp [tellT, hg]
        go_wp2_with fail
        refine (l2Tell_any _ _ _ X _ _ HM.out hml HPR.out hat).mono ?_
        rintro e w4 ⟨⟨r4, m4, d4, cells4, rfl, ho4⟩, hb4⟩
        rw [hg, hP]
        rw [hTT] at ho4
        clear hg hP hTT
        have z4 := hb4.size
        have HO4 := Hid.mk (HOU.out.below hb4)
        have hbA : Below w4.heap.size w4 (w4.alloc (.cells #[.int .i64 q, .slice r4 m4 d4] 48)) := (Below.refl _ _).alloc (Nat.le_refl _) _
        have t1 := cell_later hbA (cell_later hb4 t1)
        have hv4 : w4.heap[w.heap.size + 1]? = some (.cells #[.int .i64 q, .slice r k d] 30 (0, 0)) := (hb4.block _ (by omega)).trans HT.out
        go_wp2_with (at_builtin; refine wpList_append_lies _ rfl (.tmp 29) (.tmp 31) 28 rfl (w.heap.size + 2) 48 i0 (.agg #[.int .i64 0, .slice none 0 0]) 2 32 Tryz.underlying28 hi hz0 hz1 hz2 rfl (by decide) (.slice r k d) k cells rfl ((HO4.out.outer.alloc _).alloc _) ⟨w4.heap.size + 1, 0, none⟩ 1 1 [.int .i64 q, .slice r4 m4 d4] (by simp [Act.eval]) rfl (by simpa using news_at (w4.alloc (.cells #[.int .i64 q, .slice r4 m4 d4] 48)) #[.int .i64 q, .slice r4 m4 d4] 48) (by intro u hu; simp at hu; rcases hu with rfl | rfl <;> rfl) (by decide) (by unfold maxLen; omega) (by omega) (by simp; omega) (w4.heap.size + 1 + 1) (by simp) ?_; intro g5 cap5 w5 hown5 hgrow5 hat5 hlt5; have hne5 : some (w.heap.size + 1) ≠ (Value.slice r k d).ownBlock := (fun e => by have := (HO4.out.blocks _ e.symm).1; omega); have hv5 : w5.heap[w.heap.size + 1]? = some (.cells #[.int .i64 q, .slice r k d] 30 (0, 0)) := (hgrow5.block _ (by simp; omega) hne5).trans ((Below.heap_alloc _ _ _ (by simp; omega)).trans ((Below.heap_alloc _ _ _ (by omega)).trans hv4)); have t5 : w5.cell? ⟨w.heap.size + 1, 1, none⟩ = some (.slice r k d) := (by rw [cell_of_row w5 _ 1 _ _ (0, 0) hv5]; rfl); have u5 : w5.frozen? ⟨w.heap.size + 1, 1, none⟩ = false := frozen_of_row w5 _ 1 _ _ hv5)
        have hob : ∀ j, (Value.slice r k d).ownBlock = some j → w.heap.size + 2 ≤ j := fun j hj => (HO4.out.blocks j hj).1
        have hbB : Below w4.heap.size w4 ((w4.alloc (.cells #[.int .i64 q, .slice r4 m4 d4] 48)).alloc (.cells #[.int .i64 q, .slice r4 m4 d4] 48)) := ((Below.refl _ _).alloc (Nat.le_refl _) _).alloc (by simp) _
        have hpu := HOU.out.pushed (p := q) (by omega) hb4 (show X.length = m4 from OwnWk.len ho4) ⟨cells4, ho4⟩ hbB hown5 hgrow5 (by
          rcases hat5 with e | e
          · left; exact e
          · right; omega) hlt5
        rw [← HLS.out] at hpu
        have z5 : w4.heap.size + 1 + 1 ≤ w5.heap.size := by have := hgrow5.size; simpa using this
        have B4 := hbw.trans (hb4.mono hbw.size)
        have B5 : Below w.heap.size w w5 := (B4.trans (hbB.mono B4.size)).grown hgrow5 (by have := B4.size; simp; omega) (fun j hj => by have := hob j hj; omega)
        have HB6 := Hid.mk (B5.setCell (p := ⟨w.heap.size + 1, 1, none⟩) (by show w.heap.size ≤ w.heap.size + 1; omega) (.slice (some ⟨g5, 0, none⟩) (k + 1) cap5))
        have hpu6 := hpu.setCell (a0 := ⟨w.heap.size + 1, 1, none⟩) (.inl (by show w.heap.size + 1 < _; omega)) (.slice (some ⟨g5, 0, none⟩) (k + 1) cap5)
        have z6 : (w5.setCell ⟨w.heap.size + 1, 1, none⟩ (.slice (some ⟨g5, 0, none⟩) (k + 1) cap5)).heap.size = w5.heap.size := by simp [World.setCell]
        rw [← z6] at hpu6
        have HPU := Hid.mk hpu6
        have HR6 : Hid ((w5.setCell ⟨w.heap.size + 1, 1, none⟩ (.slice (some ⟨g5, 0, none⟩) (k + 1) cap5)).heap[w.heap.size]? = some (.cells #[.int .i64 0, .slice none 0 0] 30 (0, 0))) :=
          (Below.heap_setCell _ _ _ _ (by simp)).trans ((hgrow5.block _ (by simp; omega) (fun e => by have := hob _ e.symm; omega)).trans ((Below.heap_alloc _ _ _ (by simp; omega)).trans ((Below.heap_alloc _ _ _ (by omega)).trans ((hb4.block _ (by omega)).trans HR.out))))
        have HT6 := Hid.mk (heap_setCell_same w5 (w.heap.size + 1) 1 _ _ (.slice (some ⟨g5, 0, none⟩) (k + 1) cap5) hv5)
        have hz6 : w.heap.size + 2 ≤ (w5.setCell ⟨w.heap.size + 1, 1, none⟩ (.slice (some ⟨g5, 0, none⟩) (k + 1) cap5)).heap.size := by rw [z6]; omega
        have HZ6 := Hid.mk hz6
        clear hown5 hgrow5 hat5 hlt5 hob hbB hpu hpu6 z5 z6 hz6 B4 B5 HO4 hv4 hbA t1 t0 e0 e1 f0 f1 hbw hat ho4 hb4 z4
        go_wp2
        go_roundw
        case rel => exact ⟨k + 1, _, _, _, _, _, by omega, by go_num, HR6.out, HT6.out, HPU.out, HGS.out HG.out, HZ6.out, HB6.out⟩
        case measure => simp [intOf]; omega
    · obtain rfl : k = n := by omega
      go_wp2
      refine bodyPost_ret (v := .tuple #[.agg #[.int .i64 q, .slice r k d], .bool true]) (by simp [results, Tryz.results22, go_sem, e0, e1]) rfl ⟨?_, (hbw.setCell (Nat.le_refl _) _).setCell (Nat.le_refl _) _⟩
      rw [allG_yes (by rw [hz]; exact HGD.out)]
      refine ⟨r, k, d, rfl, ?_⟩
      have ho : OwnU wr (w.heap.size + 2) wr.heap.size r k d (tabsOf q xss k) := ⟨_, _, _, HOU.out⟩
      exact (ho.set2 (g := w.heap.size) (.inl (by omega)) _ _).widen (by omega) (by simp [World.setCell]) (Nat.le_refl _)

end Go.Proofs.YtlfljfmhhnoinabGreat

/- Contract of spec.DelayStream. -/
namespace Go.Proofs.YtlfljfmhhnoinabGreat
open Go.RowKit

theorem Tryz.infoL : (Tryz.prog.info? 45).map (fun i => (i.zero, i.size, i.bytes)) = some (some (.slice none 0 0), 1, 24) := by kernel_rfl
/-- Cells that mean lists of rows, in an elder world. -/
def MeansL (w : World) (cs : List Value) (f : Nat → List WRow) (k : Nat) : Prop := cs.length = k ∧ ∀ i, i < k → ∃ a c, cs[i]? = some (.slice a (f i).length c) ∧ AtM w a (f i)
theorem MeansL.nil (w : World) (f : Nat → List WRow) : MeansL w [] f 0 := ⟨rfl, fun i hi => by omega⟩
theorem MeansL.push {w : World} {cs : List Value} {f : Nat → List WRow} {k : Nat} (h : MeansL w cs f k) {a : Option Addr} {m c : Nat} (hm : (f k).length = m) (ha : AtM w a (f k)) : MeansL w (cs ++ [.slice a m c]) f (k + 1) := by
  refine ⟨by simp [h.1], fun i hi => ?_⟩
  by_cases e : i = k
  · subst e
    refine ⟨a, c, ?_, ha⟩
    rw [← h.1]; simp [hm, h.1]
  · obtain ⟨a', c', h1, h2⟩ := h.2 i (by omega)
    exact ⟨a', c', by rw [List.getElem?_append_left (by rw [h.1]; omega)]; exact h1, h2⟩
theorem MeansL.atL {w w' : World} {cs : List Value} {f : Nat → List WRow} {k lo : Nat} {r : Option Addr} {d : Nat} (h : MeansL w cs f k) (hb : Below w.heap.size w w') (ho : w'.ownsRow lo 45 1 (.slice r k d) k cs) : AtL w' r (upto f k) := by
  rcases ho.2 with ⟨hv, h0⟩ | ⟨g, cap, cur, hv, _⟩
  · left; rw [h0]; rfl
  · simp only [Value.slice.injEq, true_and] at hv
    obtain ⟨rfl, rfl⟩ := hv
    refine .inr ⟨g, 0, rfl, fun i hi => ?_⟩
    rw [upto_length] at hi
    obtain ⟨a', c', h1, h2⟩ := h.2 i hi
    rw [upto_at f k i hi]
    exact ⟨a', c', by rw [Nat.zero_add, ho.cellAt i (by omega)]; exact h1, h2.below hb⟩

end Go.Proofs.YtlfljfmhhnoinabGreat

/- Slices of lists of rows that lie outside the slice's own block; sums of lists. -/
namespace Go.Proofs.YtlfljfmhhnoinabGreat
open Go.RowKit

/-- Every block but the slice's own. -/
abbrev NotIn (v : Value) : Nat → Prop := fun k => v.ownBlock ≠ some k
theorem AtMG.appended {w w5 : World} {v : Value} {r : Option Addr} {g H m c : Nat} {a : Option Addr} {ts : List WRow} (h : AtMG (NotIn v) w a ts) (hg : w.grownBy w5 v.ownBlock) (hat : v.ownBlock = some g ∨ g = H) (hH : w.heap.size ≤ H) (hr : r = some ⟨g, 0, none⟩) : AtMG (NotIn (.slice r m c)) w5 a ts := by
  subst hr
  have h1 : AtMG (fun k => NotIn v k ∧ k ≠ g) w a ts := h.mono fun k hk hG => ⟨hG, by
    rcases hat with e | e
    · intro e2; subst e2; exact hG e
    · omega⟩
  have h2 := h1.grown hg (fun k hk hG => hG.1 hk)
  refine h2.mono fun k _ hG e => hG.2 ?_
  have : g = k := by simpa [Value.ownBlock] using e
  exact this.symm
/-- Cells that mean the lists g 0, g 1 .. in blocks of G. -/
def MeansLG (G : Nat → Prop) (w : World) (cs : List Value) (g : Nat → List WRow) (k : Nat) : Prop := cs.length = k ∧ ∀ i, i < k → ∃ a c, cs[i]? = some (.slice a (g i).length c) ∧ AtMG G w a (g i)
theorem MeansLG.nil (G : Nat → Prop) (w : World) (g : Nat → List WRow) : MeansLG G w [] g 0 := ⟨rfl, fun i hi => by omega⟩
theorem MeansLG.below {G : Nat → Prop} {w w' : World} {cs : List Value} {g : Nat → List WRow} {k : Nat} (h : MeansLG G w cs g k) (hb : Below w.heap.size w w') : MeansLG G w' cs g k :=
  ⟨h.1, fun i hi => by obtain ⟨a, c, h1, h2⟩ := h.2 i hi; exact ⟨a, c, h1, h2.below hb⟩⟩
theorem MeansLG.push {G : Nat → Prop} {w : World} {cs : List Value} {f : Nat → List WRow} {k : Nat} (h : MeansLG G w cs f k) {a : Option Addr} {m c : Nat} (hm : (f k).length = m) (ha : AtMG G w a (f k)) : MeansLG G w (cs ++ [.slice a m c]) f (k + 1) := by
  refine ⟨by simp [h.1], fun i hi => ?_⟩
  by_cases e : i = k
  · subst e
    refine ⟨a, c, ?_, ha⟩
    rw [← h.1]; simp [hm, h.1]
  · obtain ⟨a', c', h1, h2⟩ := h.2 i (by omega)
    exact ⟨a', c', by rw [List.getElem?_append_left (by rw [h.1]; omega)]; exact h1, h2⟩
theorem MeansLG.appended {w w5 : World} {v : Value} {r : Option Addr} {g H m c : Nat} {cs : List Value} {f : Nat → List WRow} {k : Nat} (h : MeansLG (NotIn v) w cs f k) (hg : w.grownBy w5 v.ownBlock) (hat : v.ownBlock = some g ∨ g = H) (hH : w.heap.size ≤ H) (hr : r = some ⟨g, 0, none⟩) : MeansLG (NotIn (.slice r m c)) w5 cs f k :=
  ⟨h.1, fun i hi => by obtain ⟨a, c', h1, h2⟩ := h.2 i hi; exact ⟨a, c', h1, h2.appended hg hat hH hr⟩⟩
theorem MeansLG.atL {G : Nat → Prop} {w : World} {cs : List Value} {f : Nat → List WRow} {k lo : Nat} {r : Option Addr} {d : Nat} (h : MeansLG G w cs f k) (ho : w.ownsRow lo 45 1 (.slice r k d) k cs) : AtL w r (upto f k) := by
  rcases ho.2 with ⟨hv, h0⟩ | ⟨g, cap, cur, hv, _⟩
  · left; rw [h0]; rfl
  · simp only [Value.slice.injEq, true_and] at hv
    obtain ⟨rfl, rfl⟩ := hv
    refine .inr ⟨g, 0, rfl, fun i hi => ?_⟩
    rw [upto_length] at hi
    obtain ⟨a', c', h1, h2⟩ := h.2 i hi
    rw [upto_at f k i hi]
    exact ⟨a', c', by rw [Nat.zero_add, ho.cellAt i (by omega)]; exact h1, h2.atM⟩
theorem notIn_fresh {w : World} {lo n d s : Nat} {e : TypeId} {r : Option Addr} {xs : List Value} (ho : w.ownsRow lo e s (.slice r n d) n xs) {W : World} (hW : w.heap.size ≤ W.heap.size) : ∀ k, W.heap.size ≤ k → NotIn (.slice r n d) k := fun k hk e => by
  have := (ho.lt k e).2
  omega
theorem notIn_low {w : World} {lo n d s : Nat} {e : TypeId} {r : Option Addr} {xs : List Value} (ho : w.ownsRow lo e s (.slice r n d) n xs) : ∀ k, k < lo → NotIn (.slice r n d) k := fun k hk e => by
  have := (ho.lt k e).1
  omega
end Go.Proofs.YtlfljfmhhnoinabGreat
