/- Several texts of one proof, in build order: KeyK, IntM, IntsR, PairM, DepH, RepD, Blk. -/
import Derived.Test.YtkcfhlpdenjimaaDoorM11
import Derived.Test.YtkcfhlpdenjimaaDoorM3

/- Contract of KeysOf. -/
namespace Go.Proofs.YtkcfhlpdenjimaaDoor
open Go.RowKit

theorem oth_zero_all : ∀ q : Nat, q < 7 → oth q 0 = 2 ^ q - 1 := by decide +kernel
theorem all_takeB {ks : List Nat} {s t : Nat} {k : Nat} (h : ks[t]? = some k) (hk : sb k s = false) (ha : (ks.take t).all (fun k => !sb k s) = true) : (ks.take (t + 1)).all (fun k => !sb k s) = true := by
  obtain ⟨ht, rfl⟩ := List.getElem?_eq_some_iff.1 h
  rw [List.take_succ_eq_append_getElem ht, List.all_append, ha]
  simp [hk]
theorem all_noB {ks : List Nat} {s t : Nat} {k : Nat} (h : ks[t]? = some k) (hk : sb k s = true) : ks.all (fun k => !sb k s) = false := by
  rw [List.all_eq_false]
  exact ⟨k, List.mem_of_getElem? h, by simp [hk]⟩

theorem stepK_no {q : Nat} {M : List (Nat × Nat)} {s : Nat} {ks : List Nat} (hk : ∀ k ∈ ks, k < 64) (h : ks.all (fun k => !sb k s) = false) : stepK M q (ks.map bl) (bl s) = ks.map bl := by
  rw [List.all_eq_false] at h
  obtain ⟨k, hk1, hk2⟩ := h
  have e1 : fitT M q (ks.map bl) (bl s) (ks.map bl).length = false := by
    unfold fitT
    rw [List.take_length, Bool.and_eq_false_iff]
    right
    rw [List.all_eq_false]
    refine ⟨bl k, List.mem_map_of_mem hk1, ?_⟩
    rw [all_blK (hk k hk1)]
    exact hk2
  unfold stepK
  rw [e1]
  rfl

set_option maxRecDepth 100000 in
set_option maxHeartbeats 8000000 in
theorem implKeysOf (a : Option Addr) (n c : Nat) (xs : List Dep) (C : Int) (w : World) (hz : xs.length = n) (hn : n ≤ 1048576) (ha : AtD w a xs) (ht : TabB w) :
    Calls Tryd.prog 27 #[.slice a n c, .int .i64 C] w fun e w' => KeysRet e w' w.heap.size (goodDeps xs C) (keyL xs C) ∧ Below w.heap.size w w' := by
  obtain ⟨i0, hi, hz0, hz1, hz2⟩ := info_parts Tryd.infoColumnSet
  have HA := Hid.mk ha
  have HZ := Hid.mk hz
  have HT := Hid.mk ht
  clear ha hz ht
  go_enter Tryd.func27, Tryd.ntmps27
  go_wp2_with fail
  go_step3
  go_wp2_with fail
  refine (implGoodDepends a n c xs C w HZ.out (by omega) HA.out).mono ?_
  rintro e w1 ⟨rfl, B1⟩
  cases hg1 : goodDeps xs C with
  | false =>
    go_wp2
    (try rw [Exit.noGoto_ret])
    exact bodyPost_ret (v := .tuple #[.slice none 0 0, .bool false]) (by simp [results, Tryd.results27, go_sem]) rfl ⟨keysRet_none _ _ hg1 (keyL_no hg1), B1⟩
  | true =>
    obtain ⟨hC1, hC6, hx10⟩ := goodDeps_C hg1
    obtain ⟨q, hq⟩ : ∃ q : Nat, C = (q : Int) := ⟨C.toNat, by omega⟩
    have hq6 : q ≤ 6 := by omega
    have HKL : Hid (keyL xs C = keysT (dms xs) q [] ((ordF q).map (fun x => bl x.1))) := by show _ = _; unfold keyL; rw [hg1, hq]; show keysL (dms xs) q = _; unfold keysL; rw [sets_ord_all q (by omega)]
    have HLIM : Hid (Lim q (dms xs)) := lim_dms (by rw [← hq]; exact hg1)
    have K1 := Hid.mk (tellingsOf_any a n c xs w1 HZ.out hn (Cols.of hg1) (AtSl.below HA.out B1))
    have HDL : Hid ((dms xs).length = n) := by show _ = _; simp [dms]; exact HZ.out
    obtain ⟨D, hD⟩ : ∃ D, dms xs = D := ⟨_, rfl⟩
    rw [hD] at K1 HKL HLIM HDL
    have HB1 := Hid.mk B1
    subst hq
    clear hD B1 hx10
    go_wp2_with fail
    refine K1.out.mono ?_
    rintro e w2 ⟨r2, d2, rfl, hat2, hb2⟩
    have HAT2 := Hid.mk hat2
    have HB2 := Hid.mk (HB1.out.trans (hb2.mono HB1.out.size))
    clear hat2 hb2 K1 HB1
    have KO : Hid (Calls Tryd.prog 49 #[.int .u64 0, .int .i64 (q : Nat)] w2 fun e w' => e = .returned (.int .u64 (oth q 0 : Nat)) ∧ w' = w2) := others_any 0 q w2 (by omega) hq6
    rw [oth_zero_all q (by omega)] at KO
    obtain ⟨N, hN⟩ : ∃ N, 2 ^ q = N := ⟨_, rfl⟩
    have HN := Hid.mk hN
    have hN64 : N ≤ 64 := by rw [← hN]; exact pow64K hq6
    have hN1 : 1 ≤ N := by rw [← hN]; exact Nat.one_le_two_pow
    have KP := Hid.mk (partsOfSet_any q N w2 hq6 hN (TabIs.below HT.out HB2.out))
    rw [hN] at KO
    obtain ⟨S, hS⟩ : ∃ S, N - 1 = S := ⟨_, rfl⟩
    rw [hS] at KO KP
    have HS := Hid.mk hS
    clear hN
    go_wp2_with fail
    refine KO.out.mono ?_
    rintro e w3 ⟨rfl, rfl⟩
    go_wp2_with fail
    go_step3
    go_wp2_with fail
    refine KP.out.mono ?_
    rintro e w4 ⟨g, d4, rfl, ho4, hb4⟩
    obtain ⟨Q0, hQ0⟩ : ∃ Q, Q = w3.heap.size := ⟨_, rfl⟩
    obtain ⟨Q1, hQ1⟩ : ∃ Q, Q = w4.heap.size := ⟨_, rfl⟩
    rw [← hQ0] at ho4
    have HO4 := Hid.mk ho4
    have HAT4 := Hid.mk (AtSl.below HAT2.out hb4)
    have HB4 := Hid.mk (HB2.out.trans (hb4.mono HB2.out.size))
    have zq0 : w.heap.size ≤ Q0 := by rw [hQ0]; exact HB2.out.size
    have hgQ : g < Q1 := by rw [hQ1]; exact (ho4.lt g rfl).2
    have zq1 : Q1 ≤ w4.heap.size := by omega
    have zw1 : w.heap.size ≤ Q1 := by rw [hQ1]; exact HB4.out.size
    have HOX : Hid (∀ wx, Below Q1 w4 wx → wx.ownsRow Q0 62 1 (.slice (some ⟨g, 0, none⟩) N d4) N ((ordF q).map encS)) := fun wx h => owns_below HO4.out (by rw [hQ1] at h; exact h)
    have HATX : Hid (∀ wx, Below Q1 w4 wx → AtT wx r2 D) := fun wx h => AtSl.below HAT4.out (by rw [hQ1] at h; exact h)
    clear ho4 hb4 hQ0 hQ1 KO KP HAT2 HB2 hS HO4 HAT4
    have hol := (ord_len_all q (by omega)).1
    rw [HN.out] at hol
    have hlt := ord_lt_all q (by omega)
    rw [HN.out, List.all_eq_true] at hlt
    have HLT := Hid.mk hlt
    obtain ⟨O, hO⟩ : ∃ O, ordF q = O := ⟨_, rfl⟩
    rw [hO] at HOX HKL hol HLT
    have HOL := Hid.mk hol
    clear hol hO hlt
    go_wp2
    go_loopg [8, 24] N (fun gh p i wx => ∃ (j m : Nat) (ks : List Nat) (r : Option Addr) (d : Nat), j + gh = N ∧ i = .int .i64 j ∧ p = .slice r m d ∧ ks.length = m ∧ m ≤ j ∧ (∀ k ∈ ks, k < 64) ∧ ks.map bl = keysT D q [] ((O.take j).map (fun x => bl x.1)) ∧ wx.ownsRow Q1 62 1 (.slice r m d) m (ks.map encN) ∧ Below Q1 w4 wx ∧ Q1 ≤ wx.heap.size ∧ Below w.heap.size w wx)
    case atStart => exact ⟨0, 0, [], none, 0, by omega, rfl, rfl, rfl, Nat.le_refl _, fun k h => (by cases h), rfl, World.ownsRow_nil _ _ _ _, Below.refl _ _, zq1, HB4.out⟩
    case round =>
      clear HB4 zq1
      obtain ⟨j, m, ks, r, d, hjg, rfl, rfl, hkl, hmj, hk64, hke, hok, hbq, zr, hbw⟩ := hrel
      have HJG := Hid.mk hjg
      have hjN : j ≤ N := by omega
      clear hjg
      by_cases hjlt : j < N
      · have hop := HOX.out wr hbq
        have hat := HATX.out wr hbq
        obtain ⟨x, hx⟩ : ∃ x, O[j]? = some x := ⟨_, List.getElem?_eq_getElem (by have := HOL.out; omega)⟩
        obtain ⟨s, hs⟩ : ∃ s : Nat, x.1 = s := ⟨_, rfl⟩
        have hsN : s < N := by
          have h9 := HLT.out x (List.mem_of_getElem? hx)
          rw [decide_eq_true_eq, hs] at h9
          exact h9
        have hcx : wr.cell? ⟨g, j, none⟩ = some (.int .u64 (s : Nat)) := (hop.cellAt j (by omega)).trans (by rw [List.getElem?_map, hx]; show some (encS x) = _; unfold encS; rw [hs])
        have HNX : Hid (keysT D q [] ((O.take (j + 1)).map (fun x => bl x.1)) = stepK D q (ks.map bl) (bl s)) := by
          show _ = _
          obtain ⟨hh, rfl⟩ := List.getElem?_eq_some_iff.1 hx
          rw [List.take_succ_eq_append_getElem hh, List.map_append, hke]
          unfold keysT
          rw [List.foldl_append, ← hs]
          rfl
        have hji : (j : Int) < (N : Int) := by omega
        have K := Hid.mk (closure_any r2 n d2 D s wr HDL.out (by omega) (HLIM.out.sets hq6) (by omega) hat)
        have HKL' := Hid.mk hkl
        have HK64 := Hid.mk hk64
        have HKE := Hid.mk hke
        have HOK := Hid.mk hok
        have HBQ := Hid.mk hbq
        have HB := Hid.mk hbw
        clear hx hs hkl hk64 hke hok hop hat hbw hbq
        go_wp2
        go_loopg [30] m (fun g2 i wx => ∃ t : Nat, t + g2 = m ∧ i = .int .i64 t ∧ (ks.take t).all (fun k => !sb k s) = true ∧ wx = wr)
        case atStart => exact ⟨0, by omega, rfl, rfl, rfl⟩
        case round =>
          obtain ⟨t, htg, rfl, hall, hwe⟩ := hrel
          obtain rfl := hwe
          have HALL := Hid.mk hall
          have HTG := Hid.mk htg
          have htm : t ≤ m := by omega
          clear hall htg
          by_cases htlt : t < m
          · obtain ⟨kk, hkk⟩ : ∃ kk, ks[t]? = some kk := ⟨_, List.getElem?_eq_getElem (by have := HKL'.out; omega)⟩
            have hkk64 := HK64.out kk (List.mem_of_getElem? hkk)
            obtain ⟨gk, hgk⟩ : ∃ gk, r = some ⟨gk, 0, none⟩ := by
              rcases HOK.out.2 with ⟨_, h1⟩ | ⟨g, cap, cur, hv, _⟩
              · omega
              · simp only [Value.slice.injEq, true_and] at hv
                exact ⟨g, hv.1⟩
            subst hgk
            have hcy : wr.cell? ⟨gk, t, none⟩ = some (.int .u64 (kk : Nat)) := (HOK.out.cellAt t (by omega)).trans (by rw [List.getElem?_map, hkk]; rfl)
            have hti : (t : Int) < (m : Int) := by omega
            have KH := Hid.mk (has_any s kk wr (by omega) hkk64)
            have HKK := Hid.mk hkk
            clear hkk hcx
            go_wp2_with fail
            refine KH.out.mono ?_
            rintro e w6 ⟨rfl, rfl⟩
            cases hr : sb kk s with
            | true =>
              have HE : Hid (keysT D q [] ((O.take (j + 1)).map (fun x => bl x.1)) = ks.map bl) := HNX.out.trans (stepK_no HK64.out (all_noB HKK.out hr))
              go_wp2
              go_roundg (N - (j + 1))
              case measure => have := HJG.out; omega
              case rel => exact ⟨j + 1, m, ks, _, d, by omega, by go_num, rfl, HKL'.out, by omega, HK64.out, HE.out.symm, HOK.out, HBQ.out, zr, HB.out⟩
            | false =>
              have HA2 := Hid.mk (all_takeB HKK.out hr HALL.out)
              go_wp2
              go_roundg (m - (t + 1))
              case measure => have := HTG.out; omega
              case rel => exact ⟨t + 1, by omega, by go_num, HA2.out, by first | rfl | trivial⟩
          · obtain rfl : t = m := by omega
            have htt : ¬ (t : Int) < (t : Int) := by omega
            have hall2 : ks.all (fun k => !sb k s) = true := by have h9 := HALL.out; rw [List.take_of_length_le (by have := HKL'.out; omega)] at h9; exact h9
            have HALL2 := Hid.mk hall2
            clear hall2 HALL hcx
            go_wp2_with fail
            refine K.out.mono ?_
            rintro e w6 ⟨T, hT, rfl, hb6⟩
            have hst := stepK_eq (ks := ks) hq6 HLIM.out (by rw [HN.out]; exact hsN) hT HK64.out
            rw [HALL2.out, HN.out, HS.out, Bool.true_and, ← HNX.out] at hst
            have hT64 := hT.lt
            have HOK6 := Hid.mk (owns_below HOK.out hb6)
            have HBQ6 := Hid.mk (HBQ.out.trans (hb6.mono zr))
            have HB6 := Hid.mk (HB.out.trans (hb6.mono HB.out.size))
            have z6 := hb6.size
            have zw6 := HB6.out.size
            clear hb6 hT K HOK HBQ HB
            by_cases hTS : T = S
            · have hbe : ((T : Int) == (S : Int)) = true := by rw [hTS]; simp
              rw [decide_eq_true hTS] at hst
              have HST : Hid (keysT D q [] ((O.take (j + 1)).map (fun x => bl x.1)) = (ks ++ [s]).map bl) := hst
              clear hst hTS
              go_wp2_with (at_builtin; refine wpList_append_lies _ rfl (.tmp 43) (.tmp 45) 80 rfl Q1 62 i0 (.int .u64 0) 1 8 Tryd.underlying80 hi hz0 hz1 hz2 rfl (by decide) _ _ _ rfl (HOK6.out.alloc _) ⟨w6.heap.size, 0, none⟩ 1 1 [.int .u64 (s : Nat)] rfl rfl (news_at w6 _ _) (by intro u hu; simp at hu; subst hu; rfl) (by decide) (by unfold maxLen; omega) (by omega) (by simp; omega) (w6.heap.size + 1) (by simp) ?_)
              intro g7 cap7 w7 ho7 hg7 hat7 hlt7
              have e7 : (ks ++ [s]).map encN = ks.map encN ++ [.int .u64 (s : Nat)] := by rw [List.map_append]; rfl
              rw [← e7] at ho7
              have HO7 := Hid.mk ho7
              have HBQ7 : Hid (Below Q1 w4 w7) := (HBQ6.out.alloc (by omega) _).grown hg7 (by simp; omega) (fun j hj => (HOK6.out.lt j hj).1)
              have HB7 : Hid (Below w.heap.size w w7) := (HB6.out.alloc zw6 _).grown hg7 (by simp; omega) (fun j hj => by have := (HOK6.out.lt j hj).1; omega)
              have HK7 : Hid (∀ k ∈ ks ++ [s], k < 64) := fun k hk => by
                simp only [List.mem_append, List.mem_singleton] at hk
                rcases hk with hk | rfl
                · exact HK64.out k hk
                · omega
              have HL7 : Hid ((ks ++ [s]).length = t + 1) := by show _ = _; have := HKL'.out; simp; omega
              have z7 : w6.heap.size < w7.heap.size := by have h9 := hg7.size; simp at h9; omega
              clear ho7 hg7 hat7 e7 HOK6 HBQ6 HB6
              go_wp2
              go_roundg (N - (j + 1))
              case measure => have := HJG.out; omega
              case rel => exact ⟨j + 1, t + 1, ks ++ [s], _, _, by omega, by go_num, rfl, HL7.out, by omega, HK7.out, HST.out.symm, HO7.out, HBQ7.out, by omega, HB7.out⟩
            · have hbe : ((T : Int) == (S : Int)) = false := beq_eq_false_iff_ne.2 (by omega)
              rw [decide_eq_false hTS] at hst
              have HST : Hid (keysT D q [] ((O.take (j + 1)).map (fun x => bl x.1)) = ks.map bl) := hst
              clear hst hTS
              go_wp2
              go_roundg (N - (j + 1))
              case measure => have := HJG.out; omega
              case rel => exact ⟨j + 1, t, ks, _, _, by omega, by go_num, rfl, HKL'.out, by omega, HK64.out, HST.out.symm, HOK6.out, HBQ6.out, by omega, HB6.out⟩
      · obtain rfl : j = N := by omega
        have hjj : ¬ (j : Int) < (j : Int) := by omega
        rw [List.take_of_length_le (by have := HOL.out; omega), ← HKL.out] at hke
        have KL := Hid.mk (listsOf_any Q1 r m d ks wr hkl (by omega) hk64 hok (TabIs.below HT.out hbw))
        rw [hke] at KL
        have HB := Hid.mk hbw
        clear hok hbq hbw hke hk64
        go_wp2_with fail
        refine KL.out.mono ?_
        rintro e w8 ⟨r8, m8, d8, rfl, ho8, hb8⟩
        have HB8 := Hid.mk (HB.out.trans (hb8.mono HB.out.size))
        have HR : Hid (KeysRet (.returned (.tuple #[.slice r8 m8 d8, .bool true])) w8 w.heap.size (goodDeps xs (q : Int)) (keyL xs (q : Int))) := by
          show KeysRet _ _ _ _ _
          rw [hg1]
          exact ⟨r8, m8, d8, rfl, RPairs.mono ho8 (fun b h => ⟨by have h1 := h.1; have h2 := HB.out.size; omega, h.2⟩)⟩
        clear ho8 hb8 KL HB
        go_wp2
        (try rw [Exit.noGoto_ret])
        exact bodyPost_ret (v := .tuple #[.slice r8 m8 d8, .bool true]) (by simp [results, Tryd.results27, go_sem]) rfl ⟨HR.out, HB8.out⟩

end Go.Proofs.YtkcfhlpdenjimaaDoor

/- Slices of numbers, marked, as things that are owned. -/
namespace Go.Proofs.YtkcfhlpdenjimaaDoor
open Go.RowKit

theorem markInts_rep (F : Nat → Prop) (a : Option Addr) (n c : Nat) (zs : List Int) (m : Int) (w : World) (hn : n ≤ 1048576) (h0 : 0 ≤ m) (h1 : m ≤ 268435456) (ho : RInts.Own w F [.slice a n c] zs) :
    Calls Tryd.prog 15 #[.slice a n c, .int .i64 m] w fun e w' => e = .returned (.int .i64 (m + n)) ∧ RInts.Own w' F [.slice a n c] (mkInts m zs) ∧ Off F w w' := by
  obtain ⟨h2, h3, h4, h5⟩ := RInts.own_iff.1 ho
  refine (markIntS_any 0 a n c _ m w hn h0 (by omega) h4).mono fun e w' ⟨e1, e2, e3⟩ => ⟨e1, RInts.own_iff.2 ⟨by unfold mkInts; rw [marks_length, h2], h3, by unfold mkInts; rw [h2]; exact e2, h5⟩, Off.grown e3 h5⟩
end Go.Proofs.YtkcfhlpdenjimaaDoor

/- Lists of numbers that are answered, held as the laws marked them. -/
namespace Go.Proofs.YtkcfhlpdenjimaaDoor
open Go.RowKit

def IntsRet (e : Ending) (w' : World) (lo : Nat) (ok : Bool) (zs : List Int) : Prop := ∃ r m d, e = .returned (.tuple #[.slice r m d, .bool ok]) ∧ zs.length = m ∧ w'.ownsRow lo 3 1 (.slice r m d) m (zs.map (.int .i64))
theorem ints_at {w : World} {F : Nat → Prop} {a : Option Addr} {n c : Nat} {zs : List Int} (h : RInts.Own w F [.slice a n c] zs) : At w a zs := (RInts.at_iff.1 (RInts.toAt h)).2.2.1
theorem heldInts_rep (a : Option Addr) (n c : Nat) (zs : List Int) (m : Int) (w : World) (hz : zs.length = n) (hn : n ≤ 1048576) (h0 : 0 ≤ m) (h1 : m ≤ 268435456) (ha : At w a (mkInts m zs)) :
    Calls Tryd.prog 16 #[.slice a n c, .int .i64 m] w fun e w' => e = .returned (.int .i64 (m + n)) ∧ Below w.heap.size w w' := by
  unfold mkInts at ha
  rw [hz] at ha
  exact (heldIntS_any a n c m w hn h0 (by omega) ha).mono fun _ _ ⟨h1, h2⟩ => ⟨h1, by first | exact h2 | (rw [h2]; exact Below.refl _ _)⟩

theorem Off.toBelow {lo hi B : Nat} {a b : World} (h : Off (From lo hi) a b) (hlo : B ≤ lo) (hB : B ≤ a.heap.size) : Below B a b := ⟨h.os, h.tape, h.output, h.size, fun k hk => h.block k (by omega) (fun e => by have := e.1; omega)⟩

end Go.Proofs.YtkcfhlpdenjimaaDoor

/- Contracts of the laws' eqIntSS, markIntSS, heldIntSS over things in memory (without views). -/
namespace Go.Proofs.YtkcfhlpdenjimaaDoor
open Go.RowKit

theorem eqIntSS_same (a a' : Option Addr) (n c c' : Nat) (zs : List (List Int)) (w : World) (hz : zs.length = n) (hn : n ≤ 1048576) (hs : ∀ i, i < zs.length → (zs.getD i []).length ≤ 1048576) (ha : AtS w a zs) (ha' : AtS w a' zs) :
    Calls Tryd.prog 28 #[.slice a n c, .slice a' n c'] w fun e w' => e = .returned (.bool true) ∧ Below w.heap.size w w' :=
  (eqIntSS_any a a' n n c c' zs zs w hz hz hn hn hs hs ha ha').mono fun _ _ ⟨h1, h2⟩ => ⟨by rw [h1, decide_eq_true rfl], h2⟩

set_option maxRecDepth 100000 in
set_option maxHeartbeats 4000000 in
theorem markPairs_rep (F : Nat → Prop) (a : Option Addr) (n c : Nat) (zss : List (List Int)) (m : Int) (w : World) (hn : n ≤ 1048576) (ht : tot zss n ≤ 1048576) (h0 : 0 ≤ m) (h1 : m ≤ 134217728) (ho : RPairs.Own w F [.slice a n c] zss) :
    Calls Tryd.prog 29 #[.slice a n c, .int .i64 m] w fun e w' => e = .returned (.int .i64 (m + tot zss n)) ∧ RPairs.Own w' F [.slice a n c] (mkPairs m zss) ∧ Off F w w' := by
  obtain ⟨a', n', c', cells, G, he, hl⟩ := ho
  simp only [List.cons.injEq, Value.slice.injEq, and_true] at he
  obtain ⟨rfl, rfl, rfl⟩ := he
  go_enter Tryd.func29, Tryd.ntmps29
  go_wp2
  go_loopw [1, 5] (fun q i wr => ∃ k : Nat, k ≤ n ∧ i = .int .i64 k ∧ q = .int .i64 (m + tot zss k) ∧ Laid RInts wr F 23 a n c (mkTo (fun m zs => mkInts m zs) List.length m zss k) cells G n ∧ Off F w wr) (fun _ i _ => n - (intOf i).toNat)
  case atStart => exact ⟨0, Nat.zero_le _, rfl, by simp [tot_zero], by rw [mkTo_zero]; exact hl, Off.refl _ _⟩
  case round =>
    have hzl := hl.len
    clear hl
    obtain ⟨k, hk, rfl, rfl, hl, hof⟩ := hrel
    by_cases hlt : k < n
    · obtain ⟨ys, hy⟩ : ∃ ys, zss[k]? = some ys := ⟨_, List.getElem?_eq_getElem (by omega)⟩
      have hrow := hl.row k ys hlt (mkTo_next _ _ hy)
      obtain ⟨a2, n2, c2, _, _, he2, _⟩ := hrow
      have hrow := hl.row k ys hlt (mkTo_next _ _ hy)
      rw [he2] at hrow
      rcases hl.outer.2 with ⟨_, h00⟩ | ⟨g, cap, cur, hv, _⟩
      · omega
      simp only [Value.slice.injEq, true_and] at hv
      obtain ⟨rfl, rfl⟩ := hv
      have hcl : cells.length = n * 1 := hl.outer.1
      have hcx : wr.cell? ⟨g, k, none⟩ = some (.slice a2 n2 c2) := by
        rw [hl.outer.cellAt k (show k < n * 1 by omega)]
        have h9 := sub_at (cells := cells) (o := k * 1) (k := 1) (j := 0) (by omega)
        have he3 : sub cells (k * 1) 1 = [.slice a2 n2 c2] := he2
        rw [he3] at h9
        simpa using h9.symm
      have hly : ys.length = n2 := (RInts.own_iff.1 hrow).1
      have hts := tot_succ zss k (by omega)
      have hgk : zss.getD k [] = ys := by simp [List.getD, hy]
      rw [hgk, hly] at hts
      have htm := tot_mono zss (k + 1) n (by omega)
      have HL := Hid.mk hl
      have HR := Hid.mk hrow
      have HO := Hid.mk hof
      have HY := Hid.mk hy
      have HLY := Hid.mk hly
      obtain ⟨T, hT⟩ : ∃ T, tot zss k = T := ⟨_, rfl⟩
      have HT := Hid.mk hT
      rw [hT] at hts ⊢
      have hn2 : n2 ≤ 1048576 := by omega
      have hmT : m + (T : Int) ≤ 268435456 := by omega
      have hki : (k : Int) < (n : Int) := by omega
      have HTS := Hid.mk hts
      have HE2 := Hid.mk he2
      clear hl hrow hof hy hly hT hts hgk he2 hcl htm
      go_wp2_with fail
      refine (markInts_rep (G k) a2 n2 c2 ys (m + T) wr hn2 (by omega) hmT HR.out).mono ?_
      rintro e w2 ⟨rfl, o2, f2⟩
      have hturn := HL.out.turn (w' := w2) (cells' := cells) (x' := mkInts (m + T) ys) hlt (fun b hb hn1 _ => f2.block b hb hn1) (ownsRow_frame HL.out.outer (fun b hb hlb => f2.block b hlb (fun hG => (HL.out.rowF k b hlt hG).2 hb))) (fun _ _ => rfl) (by rw [HE2.out]; exact o2)
      have HLN : Hid (Laid RInts w2 F 23 (some ⟨g, 0, none⟩) n c (mkTo (fun m zs => mkInts m zs) List.length m zss (k + 1)) cells G n) := by
        have h9 := mkTo_set (fun m zs => mkInts m zs) List.length (m := m) HY.out
        rw [szL_pairs, HT.out] at h9
        show Laid _ _ _ _ _ _ _ _ _ _ _
        rw [← h9]
        exact hturn
      have HON : Hid (Off F w w2) := HO.out.trans (f2.mono (fun b hb => (HL.out.rowF k b hlt hb).1))
      clear hturn o2 f2
      go_wp2
      go_roundw
      case rel => exact ⟨k + 1, by omega, by go_num, by rw [HTS.out]; congr 1; push_cast; omega, HLN.out, HON.out⟩
      case measure => simp [intOf]; omega
    · obtain rfl : k = n := by omega
      have HL := Hid.mk hl
      clear hl
      go_wp2
      go_ret
      refine ⟨rfl, ⟨_, _, _, cells, G, rfl, ?_⟩, hof⟩
      have h9 := HL.out
      rw [mkTo_all _ _ _ _ hzl] at h9
      exact h9

set_option maxRecDepth 100000 in
set_option maxHeartbeats 2000000 in
theorem heldPairs_rep (a : Option Addr) (n c : Nat) (zss : List (List Int)) (m : Int) (w : World) (hz : zss.length = n) (hn : n ≤ 1048576) (ht : tot zss n ≤ 1048576) (h0 : 0 ≤ m) (h1 : m ≤ 134217728) (ha : AtSl RInts w a (mkPairs m zss)) :
    Calls Tryd.prog 30 #[.slice a n c, .int .i64 m] w fun e w' => e = .returned (.int .i64 (m + tot zss n)) ∧ Below w.heap.size w w' := by
  have hl : (mkPairs m zss).length = n := by unfold mkPairs; rw [mkL_length, hz]
  by_cases hn0 : n = 0
  · subst hn0
    go_enter Tryd.func30, Tryd.ntmps30
    go_wp2
    refine wp_loop_rounds 1 ?_
    rw [rounds_succ]
    go_wp2
    go_ret
    exact ⟨by simp [tot], Below.refl _ _⟩
  go_enter Tryd.func30, Tryd.ntmps30
  go_wp2
  go_loopw [1, 5] (fun q i wr => ∃ k : Nat, k ≤ n ∧ i = .int .i64 k ∧ q = .int .i64 (m + tot zss k) ∧ Below w.heap.size w wr) (fun _ i _ => n - (intOf i).toNat)
  case atStart => exact ⟨0, Nat.zero_le _, rfl, by simp [tot_zero], Below.refl _ _⟩
  case round =>
    obtain ⟨k, hk, rfl, rfl, hbw⟩ := hrel
    by_cases hlt : k < n
    · obtain ⟨b, off, rfl, hc⟩ := (ha.below hbw).each (by omega)
      obtain ⟨ys, hy⟩ : ∃ ys, zss[k]? = some ys := ⟨_, List.getElem?_eq_getElem (by omega)⟩
      have hmk := mkL_at (fun m zs => mkInts m zs) List.length m zss k ys hy
      obtain ⟨cs, hcs, a2, n2, c2, rfl, e1, e2, e3, _⟩ := hc k _ hmk
      have hcx : wr.cell? ⟨b, off + k, none⟩ = some (.slice a2 n2 c2) := by simpa [RInts, Rep.slice] using hcs 0 _ rfl
      rw [szL_pairs] at e1 e3
      have hly : ys.length = n2 := by rw [← e1]; unfold mkInts; rw [marks_length]
      have hts := tot_succ zss k (by omega)
      have hgk : zss.getD k [] = ys := by simp [List.getD, hy]
      rw [hgk, hly] at hts
      have htm := tot_mono zss (k + 1) n (by omega)
      obtain ⟨T, hT⟩ : ∃ T, tot zss k = T := ⟨_, rfl⟩
      rw [hT] at hts e3 ⊢
      have hn2 : n2 ≤ 1048576 := by omega
      have hmT : m + (T : Int) ≤ 268435456 := by omega
      have hT0 : ¬ m + (T : Int) + (n2 : Int) < 0 := by omega
      have hki : (k : Int) < (n : Int) := by omega
      have HTS := Hid.mk hts
      have HA := Hid.mk (atSl_int.1 e3)
      have HLY := Hid.mk hly
      clear e1 e3 hly hts hgk hT htm hmk hcs hc hy ha
      go_wp2_with fail
      refine (heldInts_rep a2 n2 c2 ys (m + T) wr HLY.out hn2 (by omega) hmT HA.out).mono ?_
      rintro e w2 ⟨rfl, hb2⟩
      go_wp2
      go_roundw
      case rel => exact ⟨k + 1, by omega, by go_num, by rw [HTS.out]; congr 1; push_cast; omega, hbw.trans (hb2.mono hbw.size)⟩
      case measure => simp [intOf]; omega
    · obtain rfl : k = n := by omega
      go_wp2
      go_ret
      exact ⟨rfl, hbw⟩

end Go.Proofs.YtkcfhlpdenjimaaDoor

/- Contracts of the laws' helpers over dependencies: szDepend, szDependS. -/
namespace Go.Proofs.YtkcfhlpdenjimaaDoor
open Go.RowKit

set_option maxRecDepth 100000 in
set_option maxHeartbeats 1000000 in
theorem szDepend_any (sa : Option Addr) (sn sc : Nat) (pa : Option Addr) (pn pc : Nat) (ss : List Int) (xs : List Int) (l : Int) (w : World) (hs : ss.length = sn) (hsn : sn ≤ 9223372036854775807) (hz : xs.length = pn) (hn : pn ≤ 9223372036854775807) (h0 : 0 ≤ l) (h1 : l ≤ 1048576) :
    Calls Tryd.prog 17 #[.agg #[.slice sa sn sc, .slice pa pn pc], .int .i64 l] w fun e w' => e = .returned (.int .i64 (leftOf l (dcost (ss, xs)))) ∧ Below w.heap.size w w' := by
  have hv : dcost (ss, xs) = sn + pn := by unfold dcost; simp only; rw [hs, hz]
  rw [hv]
  clear hv
  obtain ⟨W, hW⟩ : ∃ W, W = w.alloc (.cells #[.slice sa sn sc, .slice pa pn pc] 36) := ⟨_, rfl⟩
  have B0 : Below w.heap.size w W := by rw [hW]; exact (Below.refl _ _).alloc (Nat.le_refl _) _
  have q1 : W.cell? ⟨w.heap.size, 1, none⟩ = some (.slice pa pn pc) := by rw [hW]; simp
  have HZ := Hid.mk hz
  clear hz hs
  by_cases c1 : l < sn
  · go_enter Tryd.func17, Tryd.ntmps17
    go_wp2_with fail
    rw [← hW]
    clear hW
    refine (szIntS_any sa sn sc l W hsn h0 h1).mono ?_
    rintro e w2 ⟨rfl, rfl⟩
    rw [if_pos c1]
    go_wp2
    go_ret
    exact ⟨ret_int (leftOf_no (by omega)).symm, B0⟩
  by_cases c2 : l - sn < (pn : Int)
  · go_enter Tryd.func17, Tryd.ntmps17
    have d1 : ¬ l - (sn : Int) < 0 := by omega
    go_wp2_with fail
    rw [← hW]
    clear hW
    refine (szIntS_any sa sn sc l W hsn h0 h1).mono ?_
    rintro e w2 ⟨rfl, rfl⟩
    rw [if_neg (by omega)]
    go_wp2_with fail
    refine (szIntS_any pa pn pc (l - sn) _ hn (by omega) (by omega)).mono ?_
    rintro e w3 ⟨rfl, rfl⟩
    rw [if_pos (by omega)]
    go_wp2
    go_ret
    exact ⟨ret_int (leftOf_no (by omega)).symm, B0⟩
  · go_enter Tryd.func17, Tryd.ntmps17
    have d1 : ¬ l - (sn : Int) < 0 := by omega
    have d2 : ¬ l - (sn : Int) - (pn : Int) < 0 := by omega
    go_wp2_with fail
    rw [← hW]
    clear hW
    refine (szIntS_any sa sn sc l W hsn h0 h1).mono ?_
    rintro e w2 ⟨rfl, rfl⟩
    rw [if_neg (by omega)]
    go_wp2_with fail
    refine (szIntS_any pa pn pc (l - sn) _ hn (by omega) (by omega)).mono ?_
    rintro e w3 ⟨rfl, rfl⟩
    rw [if_neg (by omega)]
    go_wp2
    go_ret
    exact ⟨ret_int (by rw [leftOf_yes (by omega)]; omega), B0⟩

set_option maxRecDepth 100000 in
set_option maxHeartbeats 2000000 in
theorem szDependS_any (a : Option Addr) (n c : Nat) (xs : List Dep) (l : Int) (w : World) (hz : xs.length = n) (hn : n ≤ 9223372036854775807) (h0 : 0 ≤ l) (h1 : l ≤ 1048576) (ha : AtD w a xs) :
    Calls Tryd.prog 7 #[.slice a n c, .int .i64 l] w fun e w' => e = .returned (.int .i64 (leftOf l (n + dsum xs n : Nat))) ∧ Below w.heap.size w w' := by
  by_cases hb : l < n
  · have h' : l - (n : Int) < 0 := by omega
    go_enter Tryd.func7, Tryd.ntmps7
    go_wp2
    go_ret
    exact ⟨ret_int (leftOf_no (by omega)).symm, Below.refl _ _⟩
  have h' : ¬ l - (n : Int) < 0 := by omega
  by_cases hn0 : n = 0
  · subst hn0
    have ht : dsum xs 0 = 0 := dsum_zero xs
    go_enter Tryd.func7, Tryd.ntmps7
    go_wp2
    refine wp_loop_rounds 1 ?_
    rw [rounds_succ]
    go_wp2
    go_ret
    exact ⟨ret_int (by rw [ht, leftOf_yes (by omega)]; omega), Below.refl _ _⟩
  · go_enter Tryd.func7, Tryd.ntmps7
    go_wp2
    go_loopw [1, 5] (fun q i wr => ∃ (k : Nat) (r : Int), k ≤ n ∧ i = .int .i64 k ∧ q = .int .i64 r ∧ 0 ≤ r ∧ r ≤ 1048576 ∧ r + dsum xs k = l - n ∧ Below w.heap.size w wr) (fun _ i _ => n - (intOf i).toNat)
    case atStart => exact ⟨0, l - n, Nat.zero_le _, rfl, rfl, by omega, by omega, by rw [dsum_zero]; omega, Below.refl _ _⟩
    case round =>
      obtain ⟨k, r, hk, rfl, rfl, hr0, hr1, hr, hbw⟩ := hrel
      by_cases hlt : k < n
      · obtain ⟨b, off, rfl, _, hc⟩ := AtD.row (AtSl.below ha hbw) (by omega)
        obtain ⟨⟨xf, xt⟩, hx⟩ : ∃ x, xs[k]? = some x := ⟨_, List.getElem?_eq_getElem (by omega)⟩
        obtain ⟨fa, fn, fc, ta, tn, tc, g0, g1, ⟨t1, t2, _⟩, ⟨u1, u2, _⟩⟩ := hc k _ hx
        have hts := dsum_succ hx
        have htm := dsum_mono xs (k + 1) n (by omega)
        have HR := Hid.mk hr
        have HT := Hid.mk hts
        have HM := Hid.mk htm
        have HX1 := Hid.mk t1
        have HX2 := Hid.mk u1
        have hki : (k : Int) < (n : Int) := by omega
        clear hc hr hts ha htm hx t1 u1
        by_cases hfit : r < dcost (xf, xt)
        · go_wp2_with fail
          refine (szDepend_any fa fn fc ta tn tc xf xt r wr HX1.out t2 HX2.out u2 hr0 hr1).mono ?_
          rintro e w' ⟨rfl, hb'⟩
          rw [leftOf_no hfit]
          go_wp2
          go_ret
          exact ⟨ret_int (leftOf_no (by have := HR.out; have := HT.out; have := HM.out; omega)).symm, hbw.trans (hb'.mono hbw.size)⟩
        · have hd : ¬ r - (dcost (xf, xt) : Int) < 0 := by omega
          go_wp2_with fail
          refine (szDepend_any fa fn fc ta tn tc xf xt r wr HX1.out t2 HX2.out u2 hr0 hr1).mono ?_
          rintro e w' ⟨rfl, hb'⟩
          rw [leftOf_yes (by omega)]
          go_wp2
          go_roundw
          case rel => exact ⟨k + 1, r - dcost (xf, xt), by omega, by go_num, rfl, by omega, by omega, by have := HR.out; have := HT.out; omega, hbw.trans (hb'.mono hbw.size)⟩
          case measure => simp [intOf]; omega
      · obtain rfl : k = n := by omega
        have HR := Hid.mk hr
        clear hr
        go_wp2
        go_ret
        exact ⟨ret_int (by have := HR.out; rw [leftOf_yes (by omega)]; omega), hbw⟩

end Go.Proofs.YtkcfhlpdenjimaaDoor

/- The laws' copies of slices of numbers, of slices of numbers, as things that are owned. -/
namespace Go.Proofs.YtkcfhlpdenjimaaDoor
open Go.RowKit

theorem toInts_rep (a : Option Addr) (n c : Nat) (zs : List Int) (w : World) (hz : zs.length = n) (hn : n ≤ 1048576) (ha : At w a zs) :
    Calls Tryd.prog 10 #[.slice a n c] w fun e w' => ∃ g, e = .returned (.slice (some ⟨g, 0, none⟩) n n) ∧ RInts.Own w' (From w.heap.size w'.heap.size) [.slice (some ⟨g, 0, none⟩) n n] zs ∧ Below w.heap.size w w' :=
  (toIntS_any a n c zs w hz hn ha).mono fun _ _ ⟨h1, h2, h3⟩ => ⟨_, h1, RInts.of_owns hz (by omega) h2, h3⟩
end Go.Proofs.YtkcfhlpdenjimaaDoor

/- A block of cells that a function holds: what is stored, what stays. -/
namespace Go.Proofs.YtkcfhlpdenjimaaDoor
open Go.RowKit

theorem blk_set {w : World} {g : Nat} {cs : Array Value} {t : TypeId} (h : w.heap[g]? = some (.cells cs t (0, 0))) (k : Nat) (v : Value) : (w.setCell ⟨g, k, none⟩ v).heap[g]? = some (.cells (cs.setIfInBounds k v) t (0, 0)) := heap_setCell_same w g k cs t v h
theorem blk_cell {w : World} {g : Nat} {cs : Array Value} {t : TypeId} (h : w.heap[g]? = some (.cells cs t (0, 0))) (k : Nat) {v : Value} (hv : cs[k]? = some v) : w.cell? ⟨g, k, none⟩ = some v := by
  rw [cell_of_row w g k _ t (0, 0) h]; exact hv
theorem blk_frozen {w : World} {g : Nat} {cs : Array Value} {t : TypeId} (h : w.heap[g]? = some (.cells cs t (0, 0))) (k : Nat) : w.frozen? ⟨g, k, none⟩ = false := frozen_of_row w g k _ t h
theorem blk_below {w w' : World} {g : Nat} {o : Obj} (h : w.heap[g]? = some o) (hb : Below w.heap.size w w') : w'.heap[g]? = some o := (hb.block g (Array.getElem?_eq_some_iff.1 h).1).trans h
theorem blk_other {w : World} {g : Nat} {o : Obj} (h : w.heap[g]? = some o) {a : Addr} (ha : g ≠ a.block) (v : Value) : (w.setCell a v).heap[g]? = some o := (Below.heap_setCell w a v g ha).trans h
theorem blk_alloc {w : World} {g : Nat} {o : Obj} (h : w.heap[g]? = some o) (o' : Obj) : (w.alloc o').heap[g]? = some o := (Below.heap_alloc w o' g (Array.getElem?_eq_some_iff.1 h).1).trans h

end Go.Proofs.YtkcfhlpdenjimaaDoor
