/- Several texts of one proof, in build order: CloN, CsI, SzS, L1In, GsI. -/
import Derived.Test.YteggbamjfhbmfaaM6
import Derived.Test.YteggbamjfhbmfaaRows
import Derived.Deep.CutBlock
import Derived.Test.YteggbamjfhbmfaaM1
import Derived.Test.YteggbamjfhbmfaaM5

/- Contracts of the model's l7Put and l7Closure. -/
namespace Go.Proofs.Yteggbamjfhbmfaa
open Go.RowKit

theorem own_cap {w : World} {base : Nat} {e : TypeId} {size : Nat} {a : Option Addr} {n c : Nat} {xs : List Value} (h : w.ownsRow base e size (.slice a n c) n xs) : n ≤ c := by
  rcases h.2 with ⟨h', h0⟩ | ⟨g, cap, cur, h', _, _, h1, _⟩
  · simp at h'; omega
  · simp at h'; omega
theorem at_take {w : World} {b off : Nat} {zs : List Int} (k : Nat) (h : At w (some ⟨b, off, none⟩) zs) : At w (some ⟨b, off, none⟩) (zs.take k) := by
  rcases h with rfl | ⟨b', off', e, hc⟩
  · exact .inl (by simp)
  · refine .inr ⟨b', off', e, fun i hi => ?_⟩
    have hi' : i < zs.length := by have := List.length_take (i := k) (l := zs); omega
    have hik : i < k := by have := List.length_take (i := k) (l := zs); omega
    rw [hc i hi']
    simp [List.getD, hik]
theorem at_drop {w : World} {b off : Nat} {zs : List Int} (k : Nat) (h : At w (some ⟨b, off, none⟩) zs) : At w (some ⟨b, off + k, none⟩) (zs.drop k) := by
  rcases h with rfl | ⟨b', off', e, hc⟩
  · exact .inl (by simp)
  · simp only [Option.some.injEq, Addr.mk.injEq, and_true] at e
    obtain ⟨rfl, rfl⟩ := e
    refine .inr ⟨b, off + k, rfl, fun i hi => ?_⟩
    have hi' : k + i < zs.length := by simp at hi; omega
    rw [Nat.add_assoc, hc (k + i) hi']
    simp [List.getD]

set_option maxRecDepth 100000 in
set_option maxHeartbeats 4000000 in
theorem l7Put_any (B : Nat) (a : Option Addr) (n c : Nat) (zs : List Int) (x : Int) (w : World) (hz : zs.length = n) (hn : n ≤ 2097152) (hB : B ≤ w.heap.size) (ho : w.ownsRow B 3 1 (.slice a n c) n (zs.map (.int .i64))) :
    Calls Try.prog 63 #[.slice a n c, .int .i64 x] w fun e w' => ∃ r m d, e = .returned (.slice r m d) ∧ (insI zs x).length = m ∧ w'.ownsRow B 3 1 (.slice r m d) m ((insI zs x).map (.int .i64)) ∧ Below w.heap.size w w' := by
  obtain ⟨i0, hi, hz0, hz1, hz2⟩ := info_parts Try.infoInt
  have hat : At w a zs := At.owned ho
  have HC := Hid.mk (l1Has_any a n c zs x w hz (by omega) hat)
  by_cases hx : x ∈ zs
  · have hd : decide (x ∈ zs) = true := decide_eq_true hx
    rw [insI_yes hx]
    rw [hd] at HC
    have HO := Hid.mk ho
    have HZ := Hid.mk hz
    clear hat ho hz hx hd
    go_enter Try.func63, Try.ntmps63
    go_wp2_with fail
    refine HC.out.mono ?_
    rintro e w1 ⟨rfl, rfl⟩
    go_wp2
    go_ret
    exact ⟨a, n, c, rfl, HZ.out, HO.out, Below.refl _ _⟩
  · have hd : decide (x ∈ zs) = false := decide_eq_false hx
    rw [insI_no hx]
    rw [hd] at HC
    rcases ho.2 with ⟨hv, h0⟩ | ⟨g, cap, cur, hv, hbg, _⟩
    · simp only [Value.slice.injEq] at hv
      obtain ⟨rfl, _, rfl⟩ := hv
      subst h0
      obtain rfl := List.eq_nil_of_length_eq_zero hz
      clear hat ho hx hd
      go_enter Try.func63, Try.ntmps63
      go_wp2_with fail
      refine HC.out.mono ?_
      rintro e w1 ⟨rfl, rfl⟩
      go_wp2_with fail
      refine wp_loop_rounds 1 ?_
      rw [rounds_succ]
      go_wp2_with (at_builtin; refine wpList_append_all rfl (.tmp 25) (.tmp 28) 22 rfl w1.heap.size 3 i0 (.int .i64 0) 8 Try.underlying22 hi hz0 hz1 hz2 rfl (.slice none 0 0) 0 [] rfl (World.ownsRow_nil _ _ _ _) none 0 0 [] rfl rfl (.inl rfl) (fun _ => rfl) (by unfold maxLen; omega) (by omega) (Nat.le_refl _) ?_)
      intro r2 d2 w2 ho2 hg2
      have B2 : Below w1.heap.size w1 w2 := (Below.refl _ _).grown hg2 (Nat.le_refl _) (fun j hj => by cases hj)
      have HO2 := Hid.mk ho2
      have z2 := B2.size
      clear ho2 hg2
      go_wp2_with (at_builtin; refine wpList_append_lies _ rfl (.tmp 30) (.tmp 32) 22 rfl w1.heap.size 3 i0 (.int .i64 0) 1 8 Try.underlying22 hi hz0 hz1 hz2 rfl (by decide) _ _ _ rfl (HO2.out.alloc _) ⟨w2.heap.size, 0, none⟩ 1 1 [.int .i64 x] rfl rfl (news_at w2 _ _) (by intro u hu; simp at hu; subst hu; rfl) (by decide) (by unfold maxLen; omega) (by omega) (by simp; omega) (w2.heap.size + 1) (by simp) ?_)
      intro g3 cap3 w3 ho3 hg3 hat3 hlt3
      have B3 : Below w1.heap.size w1 w3 := (B2.alloc z2 _).grown hg3 (by simp; omega) (fun j hj => (HO2.out.lt j hj).1)
      have HO3 := Hid.mk ho3
      have z3 := B3.size
      clear ho3 hg3 hat3 HO2
      go_wp2_with (at_builtin; refine wpList_append_all rfl (.tmp 34) (.tmp 37) 22 rfl w1.heap.size 3 i0 (.int .i64 0) 8 Try.underlying22 hi hz0 hz1 hz2 rfl _ _ _ rfl HO3.out none 0 0 [] rfl rfl (.inl rfl) (fun _ => rfl) (by unfold maxLen; omega) (by omega) z3 ?_)
      intro r4 d4 w4 ho4 hg4
      have B4 : Below w1.heap.size w1 w4 := B3.grown hg4 z3 (fun j hj => (HO3.out.lt j hj).1)
      have HO4 := Hid.mk ho4
      clear ho4 hg4 HO3
      go_wp2
      go_ret
      exact ⟨r4, 1, d4, rfl, rfl, owns_mono HO4.out hB, B4⟩
    · simp only [Value.slice.injEq, true_and] at hv
      obtain ⟨rfl, rfl⟩ := hv
      have hcap := own_cap ho
      have hcx : ∀ k, k < n → w.cell? ⟨g, k, none⟩ = some (.int .i64 (zs.getD k 0)) := fun k hk => by
        rw [ho.cellAt k (by omega)]
        simp [List.getD, show k < zs.length by omega]
      have HAT := Hid.mk hat
      have HO := Hid.mk ho
      have HZ := Hid.mk hz
      have HCX := Hid.mk hcx
      clear hat ho hx hd hcx
      go_enter Try.func63, Try.ntmps63
      go_wp2_with fail
      refine HC.out.mono ?_
      rintro e w1 ⟨rfl, rfl⟩
      go_wp2_with fail
      go_loopw [5] (fun i wr => ∃ (k : Nat), k ≤ n ∧ i = .int .i64 k ∧ (∀ j, j < k → zs.getD j 0 < x) ∧ wr = w1) (fun i _ => n - (intOf i).toNat)
      case atStart => exact ⟨0, Nat.zero_le _, rfl, fun j h => by omega, rfl⟩
      case round =>
        obtain ⟨k, hk, rfl, hle, rfl⟩ := hrel
        have HL := Hid.mk hle
        clear hle
        have stop : (k < n → ¬ zs.getD k 0 < x) → Hid (lessN x zs = k) := fun h => Hid.mk (lessN_is x zs k (by omega) HL.out (fun hk => h (by omega)))
        by_cases hlt : k < n
        · have hc := HCX.out k hlt
          obtain ⟨y, hy⟩ : ∃ y, y = zs.getD k 0 := ⟨_, rfl⟩
          have hnx : y < x → ∀ j, j < k + 1 → zs.getD j 0 < x := fun h j hj => by
            by_cases hjk : j < k
            · exact HL.out j hjk
            · obtain rfl : j = k := by omega
              rw [← hy]; exact h
          rw [← hy] at hc stop
          have HN := Hid.mk hnx
          clear hy hnx
          by_cases hyx : y < x
          · clear stop
            go_wp2
            go_roundw
            case rel => exact ⟨k + 1, by omega, by go_num, HN.out hyx, trivial⟩
            case measure => simp [intOf]; omega
          · have HS := stop (fun _ => hyx)
            clear stop
            have hkn : k ≤ n := hk
            have HTK : Hid ((zs.take k).length = k) := by show _ = _; rw [List.length_take, HZ.out]; omega
            have HDK : Hid ((zs.drop k).length = n - k) := by show _ = _; rw [List.length_drop, HZ.out]
            go_wp2_with (at_builtin; refine wpList_append_all rfl (.tmp 25) (.tmp 28) 22 rfl wr.heap.size 3 i0 (.int .i64 0) 8 Try.underlying22 hi hz0 hz1 hz2 rfl (.slice none 0 0) 0 [] rfl (World.ownsRow_nil _ _ _ _) (some ⟨g, 0, none⟩) k c (zs.take k) (by simp [Act.eval]) HTK.out (at_take k HAT.out) (fun h => by cases h) (by unfold maxLen; omega) (by omega) (Nat.le_refl _) ?_)
            intro r2 d2 w2 ho2 hg2
            have B2 : Below wr.heap.size wr w2 := (Below.refl _ _).grown hg2 (Nat.le_refl _) (fun j hj => by cases hj)
            have HO2 := Hid.mk ho2
            have z2 := B2.size
            clear ho2 hg2
            go_wp2_with (at_builtin; refine wpList_append_lies _ rfl (.tmp 30) (.tmp 32) 22 rfl wr.heap.size 3 i0 (.int .i64 0) 1 8 Try.underlying22 hi hz0 hz1 hz2 rfl (by decide) _ _ _ rfl (HO2.out.alloc _) ⟨w2.heap.size, 0, none⟩ 1 1 [.int .i64 x] rfl rfl (news_at w2 _ _) (by intro u hu; simp at hu; subst hu; rfl) (by decide) (by unfold maxLen; omega) (by omega) (by simp; omega) (w2.heap.size + 1) (by simp) ?_)
            intro g3 cap3 w3 ho3 hg3 hat3 hlt3
            have B3 : Below wr.heap.size wr w3 := (B2.alloc z2 _).grown hg3 (by simp; omega) (fun j hj => (HO2.out.lt j hj).1)
            have HO3 := Hid.mk ho3
            have z3 := B3.size
            clear ho3 hg3 hat3 HO2
            go_wp2_with (at_builtin; refine wpList_append_all rfl (.tmp 34) (.tmp 37) 22 rfl wr.heap.size 3 i0 (.int .i64 0) 8 Try.underlying22 hi hz0 hz1 hz2 rfl _ _ _ rfl HO3.out (some ⟨g, 0 + k, none⟩) (n - k) (c - k) (zs.drop k) (by simp [Act.eval]) HDK.out (at_drop k (At.below HAT.out B3)) (fun h => by cases h) (by unfold maxLen; omega) (by omega) z3 ?_)
            intro r4 d4 w4 ho4 hg4
            have B4 : Below wr.heap.size wr w4 := B3.grown hg4 z3 (fun j hj => (HO3.out.lt j hj).1)
            have HO4 := Hid.mk ho4
            clear ho4 hg4 HO3
            go_wp2
            go_ret
            refine ⟨r4, k + 1 + (n - k), d4, rfl, ?_, ?_, B4⟩
            · rw [HS.out, List.length_append, List.length_cons, HTK.out, HDK.out]; omega
            · have h9 := owns_mono HO4.out hB
              rw [HS.out, List.map_append, List.map_cons]
              simpa using h9
        · have HS := stop (fun h => absurd h hlt)
          clear stop
          by_cases hck : c = k
          · have hck' : k = c := hck.symm
            subst hck'
            have hnk : k = n := by omega
            subst hnk
            have hkn : k ≤ k := hk
            have HTK : Hid ((zs.take k).length = k) := by show _ = _; rw [List.length_take, HZ.out]; omega
            have HDK : Hid ((zs.drop k).length = 0) := by show _ = _; rw [List.length_drop, HZ.out]; omega
            go_wp2_with (at_builtin; refine wpList_append_all rfl (.tmp 25) (.tmp 28) 22 rfl wr.heap.size 3 i0 (.int .i64 0) 8 Try.underlying22 hi hz0 hz1 hz2 rfl (.slice none 0 0) 0 [] rfl (World.ownsRow_nil _ _ _ _) (some ⟨g, 0, none⟩) k k (zs.take k) (by simp [Act.eval]) HTK.out (at_take k HAT.out) (fun h => by cases h) (by unfold maxLen; omega) (by omega) (Nat.le_refl _) ?_)
            intro r2 d2 w2 ho2 hg2
            have B2 : Below wr.heap.size wr w2 := (Below.refl _ _).grown hg2 (Nat.le_refl _) (fun j hj => by cases hj)
            have HO2 := Hid.mk ho2
            have z2 := B2.size
            clear ho2 hg2
            go_wp2_with (at_builtin; refine wpList_append_lies _ rfl (.tmp 30) (.tmp 32) 22 rfl wr.heap.size 3 i0 (.int .i64 0) 1 8 Try.underlying22 hi hz0 hz1 hz2 rfl (by decide) _ _ _ rfl (HO2.out.alloc _) ⟨w2.heap.size, 0, none⟩ 1 1 [.int .i64 x] rfl rfl (news_at w2 _ _) (by intro u hu; simp at hu; subst hu; rfl) (by decide) (by unfold maxLen; omega) (by omega) (by simp; omega) (w2.heap.size + 1) (by simp) ?_)
            intro g3 cap3 w3 ho3 hg3 hat3 hlt3
            have B3 : Below wr.heap.size wr w3 := (B2.alloc z2 _).grown hg3 (by simp; omega) (fun j hj => (HO2.out.lt j hj).1)
            have HO3 := Hid.mk ho3
            have z3 := B3.size
            clear ho3 hg3 hat3 HO2
            go_wp2_with (at_builtin; refine wpList_append_all rfl (.tmp 34) (.tmp 37) 22 rfl wr.heap.size 3 i0 (.int .i64 0) 8 Try.underlying22 hi hz0 hz1 hz2 rfl _ _ _ rfl HO3.out (some ⟨g, 0, none⟩) 0 0 (zs.drop k) (by simp [Act.eval]) HDK.out (.inl (List.drop_of_length_le (by have := HZ.out; omega))) (fun h => by cases h) (by unfold maxLen; omega) (by omega) z3 ?_)
            intro r4 d4 w4 ho4 hg4
            have B4 : Below wr.heap.size wr w4 := B3.grown hg4 z3 (fun j hj => (HO3.out.lt j hj).1)
            have HO4 := Hid.mk ho4
            clear ho4 hg4 HO3
            go_wp2
            go_ret
            refine ⟨r4, k + 1, d4, rfl, ?_, ?_, B4⟩
            · rw [HS.out, List.length_append, List.length_cons, HTK.out, HDK.out]
            · have h9 := owns_mono HO4.out hB
              rw [HS.out, List.map_append, List.map_cons]
              simpa using h9
          · skip
            have hkn : k ≤ n := hk
            have HTK : Hid ((zs.take k).length = k) := by show _ = _; rw [List.length_take, HZ.out]; omega
            have HDK : Hid ((zs.drop k).length = n - k) := by show _ = _; rw [List.length_drop, HZ.out]
            go_wp2_with (at_builtin; refine wpList_append_all rfl (.tmp 25) (.tmp 28) 22 rfl wr.heap.size 3 i0 (.int .i64 0) 8 Try.underlying22 hi hz0 hz1 hz2 rfl (.slice none 0 0) 0 [] rfl (World.ownsRow_nil _ _ _ _) (some ⟨g, 0, none⟩) k c (zs.take k) (by simp [Act.eval]) HTK.out (at_take k HAT.out) (fun h => by cases h) (by unfold maxLen; omega) (by omega) (Nat.le_refl _) ?_)
            intro r2 d2 w2 ho2 hg2
            have B2 : Below wr.heap.size wr w2 := (Below.refl _ _).grown hg2 (Nat.le_refl _) (fun j hj => by cases hj)
            have HO2 := Hid.mk ho2
            have z2 := B2.size
            clear ho2 hg2
            go_wp2_with (at_builtin; refine wpList_append_lies _ rfl (.tmp 30) (.tmp 32) 22 rfl wr.heap.size 3 i0 (.int .i64 0) 1 8 Try.underlying22 hi hz0 hz1 hz2 rfl (by decide) _ _ _ rfl (HO2.out.alloc _) ⟨w2.heap.size, 0, none⟩ 1 1 [.int .i64 x] rfl rfl (news_at w2 _ _) (by intro u hu; simp at hu; subst hu; rfl) (by decide) (by unfold maxLen; omega) (by omega) (by simp; omega) (w2.heap.size + 1) (by simp) ?_)
            intro g3 cap3 w3 ho3 hg3 hat3 hlt3
            have B3 : Below wr.heap.size wr w3 := (B2.alloc z2 _).grown hg3 (by simp; omega) (fun j hj => (HO2.out.lt j hj).1)
            have HO3 := Hid.mk ho3
            have z3 := B3.size
            clear ho3 hg3 hat3 HO2
            go_wp2_with (at_builtin; refine wpList_append_all rfl (.tmp 34) (.tmp 37) 22 rfl wr.heap.size 3 i0 (.int .i64 0) 8 Try.underlying22 hi hz0 hz1 hz2 rfl _ _ _ rfl HO3.out (some ⟨g, 0 + k, none⟩) (n - k) (c - k) (zs.drop k) (by simp [Act.eval]) HDK.out (at_drop k (At.below HAT.out B3)) (fun h => by cases h) (by unfold maxLen; omega) (by omega) z3 ?_)
            intro r4 d4 w4 ho4 hg4
            have B4 : Below wr.heap.size wr w4 := B3.grown hg4 z3 (fun j hj => (HO3.out.lt j hj).1)
            have HO4 := Hid.mk ho4
            clear ho4 hg4 HO3
            go_wp2
            go_ret
            refine ⟨r4, k + 1 + (n - k), d4, rfl, ?_, ?_, B4⟩
            · rw [HS.out, List.length_append, List.length_cons, HTK.out, HDK.out]; omega
            · have h9 := owns_mono HO4.out hB
              rw [HS.out, List.map_append, List.map_cons]
              simpa using h9

end Go.Proofs.Yteggbamjfhbmfaa

/- Contracts of costsBy, its function, and costs.ofOrder. -/
namespace Go.Proofs.Yteggbamjfhbmfaa
open Go.RowKit

/-- Statistics that lie boxed at block b. -/
structure BoxS (w : World) (b : Nat) (zs : List Int) (fs : List (List Int)) : Prop where
  ex : ∃ sa sn sc pa pn pc, w.cell? ⟨b, 0, none⟩ = some (.slice sa sn sc) ∧ w.cell? ⟨b, 1, none⟩ = some (.slice pa pn pc) ∧ zs.length = sn ∧ At w sa zs ∧ fs.length = pn ∧ AtS w pa fs
theorem BoxS.below {w w' : World} {b : Nat} {zs : List Int} {fs : List (List Int)} (h : BoxS w b zs fs) (hb : Below w.heap.size w w') : BoxS w' b zs fs := by
  obtain ⟨sa, sn, sc, pa, pn, pc, h1, h2, h3, h4, h5, h6⟩ := h.ex
  exact ⟨sa, sn, sc, pa, pn, pc, cell_later hb h1, cell_later hb h2, h3, At.below h4 hb, h5, AtS.below h6 hb⟩

set_option maxRecDepth 100000 in
set_option maxHeartbeats 2000000 in
theorem ofLast_any (b : Nat) (zs : List Int) (fs : List (List Int)) (a : Option Addr) (n c : Nat) (l : List Int) (w : World) (hb : BoxS w b zs fs) (hl : l.length = n) (hc : n ≤ c) (hla : At w a l) (hg : GsF zs fs) (ht : TbL zs.length l) :
    Calls Try.prog 83 #[.slice a n c, .pointer (some ⟨b, 0, none⟩)] w fun e w' => e = .returned (.int .i64 (lastC zs fs l)) ∧ Below w.heap.size w w' := by
  obtain ⟨sa, sn, sc, pa, pn, pc, h1, h2, h3, h4, h5, h6⟩ := hb.ex
  have K := Hid.mk (sizeOfJoined_any sa sn sc zs pa pn pc fs a n c l w h3 h4 h5 h6 hl hc hla hg ht)
  have HL := Hid.mk hl
  clear h3 h4 h5 h6 hl hla hg ht hb
  by_cases c1 : n < 2
  · have c1' : (n : Int) < 2 := by omega
    have HV : Hid (lastC zs fs l = 0) := by show _ = _; unfold lastC; rw [HL.out, if_pos c1]
    clear c1 K
    go_enter Try.func83, Try.ntmps83
    go_wp2
    go_ret
    exact ⟨ret_int (by rw [HV.out]), Below.refl _ _⟩
  · have c1' : ¬ (n : Int) < 2 := by omega
    have HV : Hid (lastC zs fs l = szQ zs fs l) := by show _ = _; unfold lastC; rw [HL.out, if_neg c1]
    clear c1
    go_enter Try.func83, Try.ntmps83
    go_wp2_with fail
    refine K.out.mono ?_
    rintro e w2 ⟨rfl, hb2⟩
    go_wp2
    go_ret
    exact ⟨ret_int (by rw [HV.out]), hb2⟩

theorem costsBy_any (sa : Option Addr) (sn sc : Nat) (zs : List Int) (pa : Option Addr) (pn pc : Nat) (fs : List (List Int)) (w : World) (hs : zs.length = sn) (hsa : At w sa zs) (hz : fs.length = pn) (ha : AtS w pa fs) :
    Calls Try.prog 61 #[.agg #[.slice sa sn sc, .slice pa pn pc]] w fun e w' => ∃ b, e = .returned (.agg #[.func (.func 83) #[] #[.pointer (some ⟨b, 0, none⟩)]]) ∧ BoxS w' b zs fs ∧ Below w.heap.size w w' := by
  obtain ⟨W, hW⟩ : ∃ W, W = w.alloc (.cells #[.slice sa sn sc, .slice pa pn pc] 53) := ⟨_, rfl⟩
  have B0 : Below w.heap.size w W := by rw [hW]; exact (Below.refl _ _).alloc (Nat.le_refl _) _
  have zW : W.heap.size = w.heap.size + 1 := by rw [hW]; simp
  have q0 : W.cell? ⟨w.heap.size, 0, none⟩ = some (.slice sa sn sc) := by rw [hW]; simp
  have q1 : W.cell? ⟨w.heap.size, 1, none⟩ = some (.slice pa pn pc) := by rw [hW]; simp
  have HX : Hid (BoxS W w.heap.size zs fs) := ⟨_, _, _, _, _, _, q0, q1, hs, At.below hsa B0, hz, AtS.below ha B0⟩
  have HZW := Hid.mk zW
  have HB0 := Hid.mk B0
  clear hs hsa hz ha B0 q0 q1 zW
  have hst : ∀ (a : Addr) (fn : Fn) (first cap : Array Value) (m : Mode) (w : World), (store a (.func fn first cap) m).run Try.prog w = stored Try.prog w a (.func fn first cap) m := fun a fn first cap m w => run_store Try.prog w a _ m rfl
  have n0 : (W.alloc (.cells #[.nilFunc] 88)).cell? ⟨w.heap.size + 1, 0, none⟩ = some .nilFunc := by rw [← HZW.out]; simp
  have n1 : (W.alloc (.cells #[.nilFunc] 88)).frozen? ⟨w.heap.size + 1, 0, none⟩ = false := by rw [← HZW.out]; simp
  go_enter Try.func61, Try.ntmps61
  go_wp2_with (rw [hst])
  rw [← hW]
  clear hW n0 n1 hst
  have r0 : (W.alloc (.cells #[.func (.func 83) #[] #[.pointer (some ⟨w.heap.size, 0, none⟩)]] 88)).cell? ⟨w.heap.size + 1, 0, none⟩ = some (.func (.func 83) #[] #[.pointer (some ⟨w.heap.size, 0, none⟩)]) := by rw [← HZW.out]; simp
  exact bodyPost_ret (v := .agg #[.func (.func 83) #[] #[.pointer (some ⟨w.heap.size, 0, none⟩)]]) (by simp [results, Try.results61, go_sem, r0]) rfl ⟨w.heap.size, rfl, HX.out.below ((Below.refl _ _).alloc (Nat.le_refl _) _), HB0.out.alloc (by rw [HZW.out]; omega) _⟩

set_option maxRecDepth 100000 in
set_option maxHeartbeats 4000000 in
theorem ofOrder_any (b : Nat) (zs : List Int) (fs : List (List Int)) (a : Option Addr) (n c : Nat) (l : List Int) (w : World) (hb : BoxS w b zs fs) (hl : l.length = n) (hc : n ≤ c) (hla : At w a l) (hg : GsF zs fs) (ht : TbL zs.length l) :
    Calls Try.prog 62 #[.agg #[.func (.func 83) #[] #[.pointer (some ⟨b, 0, none⟩)]], .slice a n c] w fun e w' => e = .returned (.int .i64 (costL zs fs l)) ∧ Below w.heap.size w w' := by
  have hn6 : n ≤ 6 := by have := ht.len; have := hg.n6; omega
  obtain ⟨W, hW⟩ : ∃ W, W = w.alloc (.cells #[.func (.func 83) #[] #[.pointer (some ⟨b, 0, none⟩)]] 88) := ⟨_, rfl⟩
  have B0 : Below w.heap.size w W := by rw [hW]; exact (Below.refl _ _).alloc (Nat.le_refl _) _
  have q0 : W.cell? ⟨w.heap.size, 0, none⟩ = some (.func (.func 83) #[] #[.pointer (some ⟨b, 0, none⟩)]) := by rw [hW]; simp
  have zW : w.heap.size < W.heap.size := by rw [hW]; simp
  have HX := Hid.mk (hb.below B0)
  have HL := Hid.mk hl
  have HLA := Hid.mk (At.below hla B0)
  have HG := Hid.mk hg
  have HT := Hid.mk ht
  clear hb hl hla hg ht
  go_enter Try.func62, Try.ntmps62
  go_upto_region 2 with fail
  rw [← hW]
  clear hW
  go_wp2
  go_loopw [5, 9] (fun s i wr => ∃ (k : Nat) (T : Int), k ≤ n ∧ i = .int .i64 k ∧ s = .int .i64 T ∧ T = csN zs fs l k ∧ Below W.heap.size W wr) (fun _ i _ => n - (intOf i).toNat)
  case atStart => exact ⟨0, 0, Nat.zero_le _, rfl, rfl, rfl, Below.refl _ _⟩
  case round =>
    obtain ⟨k, T, hk, rfl, rfl, hT, hbw⟩ := hrel
    by_cases hlt : k < n
    · obtain ⟨ba, off, rfl, _, _⟩ := HLA.out.some (by have := HL.out; omega)
      have p0 := cell_later hbw q0
      have hlen : (l.take (k + 1)).length = k + 1 := by rw [List.length_take]; have := HL.out; omega
      have HE : Hid (∀ w' : World, Below wr.heap.size wr w' → Calls Try.prog 83 #[.slice (some ⟨ba, off, none⟩) (k + 1) c, .pointer (some ⟨b, 0, none⟩)] w' fun e w'' => e = .returned (.int .i64 (lastC zs fs (l.take (k + 1)))) ∧ Below w'.heap.size w' w'') := fun w' hw' =>
        ofLast_any b zs fs (some ⟨ba, off, none⟩) (k + 1) c (l.take (k + 1)) w' ((HX.out.below hbw).below hw') hlen (by omega) (at_take (k + 1) ((At.below HLA.out hbw).below hw')) HG.out (HT.out.take (k + 1))
      have hci := lastC_in HG.out (HT.out.take (k + 1))
      have hsi := csN_in HG.out HT.out k
      have hnx : csN zs fs l (k + 1) = csN zs fs l k + lastC zs fs (l.take (k + 1)) := rfl
      rw [← hT] at hsi hnx
      obtain ⟨x, hx⟩ : ∃ x, lastC zs fs (l.take (k + 1)) = x := ⟨_, rfl⟩
      rw [hx] at hci hnx HE
      obtain ⟨T2, hT2⟩ : ∃ T2, T + x = T2 := ⟨_, rfl⟩
      rw [hT2] at hnx
      have hw1 : IntKind.i64.wrap (T + x) = T2 := by rw [hT2]; exact IntWalk.i64_in _ (by omega)
      have hki : (k : Int) < (n : Int) := by omega
      obtain ⟨J, hJ⟩ : ∃ J, k + 1 = J := ⟨_, rfl⟩
      have hwJ : IntKind.i64.wrap ((k : Int) + 1) = (J : Int) := by rw [IntWalk.i64_in _ (by omega)]; omega
      have hJc : J ≤ c := by omega
      rw [hJ] at HE
      have HJ := Hid.mk hJ
      clear hJ
      have HN := Hid.mk hnx
      have HB := Hid.mk hbw
      clear hnx hbw hT hT2 hx hsi hci hlen
      go_wp2_with fail
      go_region_held3 (fun w' => w'.cell? ⟨w.heap.size, 0, none⟩ = some (.func (.func 83) #[] #[.pointer (some ⟨b, 0, none⟩)])) (assumption)
        (first | (go_at_call 83; refine (HE.out wr.drew (Below.refl _ _).drew).mono ?_; rintro e w2 ⟨rfl, hb2⟩; have e0 := cell_later hb2 p0) | fail)
      go_wp2
      go_roundw
      case rel => exact ⟨k + 1, T2, by omega, by rw [← HJ.out], rfl, HN.out.symm, HB.out.drew.trans (hb2.mono HB.out.size)⟩
      case measure => have := HJ.out; simp [intOf]; omega
    · obtain rfl : k = n := by omega
      have hki : ¬ (k : Int) < (k : Int) := by omega
      have HV : Hid (costL zs fs l = T) := by show _ = _; unfold costL; rw [HL.out, hT]
      have HB := Hid.mk hbw
      clear hT hbw
      go_wp2
      go_ret
      exact ⟨ret_int (by rw [HV.out]), B0.trans (HB.out.mono (by omega))⟩

end Go.Proofs.Yteggbamjfhbmfaa

/- Contract of spec.l12Size: what a join of some tables tells. -/
namespace Go.Proofs.Yteggbamjfhbmfaa
open Go.RowKit

set_option maxRecDepth 100000 in
set_option maxHeartbeats 4000000 in
theorem l12Size_any (sa : Option Addr) (sn sc : Nat) (zs : List Int) (pa : Option Addr) (pn pc : Nat) (fs : List (List Int)) (a : Option Addr) (n c : Nat) (l : List Int) (w : World) (hs : zs.length = sn) (hsa : At w sa zs) (hz : fs.length = pn) (ha : AtS w pa fs) (hl : l.length = n) (hc : n ≤ c) (hla : At w a l) (hg : GsF zs fs) (ht : TbL zs.length l) (hr : ∀ (i j : Nat) (x y : Int), l[i]? = some x → l[j]? = some y → i < j → x < y) :
    Calls Try.prog 57 #[.agg #[.slice sa sn sc, .slice pa pn pc], .slice a n c] w fun e w' => e = .returned (.int .i64 (szQ zs fs l)) ∧ Below w.heap.size w w' := by
  obtain ⟨W, hW⟩ : ∃ W, W = w.alloc (.cells #[.slice sa sn sc, .slice pa pn pc] 53) := ⟨_, rfl⟩
  have B0 : Below w.heap.size w W := by rw [hW]; exact (Below.refl _ _).alloc (Nat.le_refl _) _
  have q0 : W.cell? ⟨w.heap.size, 0, none⟩ = some (.slice sa sn sc) := by rw [hW]; simp
  have q1 : W.cell? ⟨w.heap.size, 1, none⟩ = some (.slice pa pn pc) := by rw [hW]; simp
  have zW : w.heap.size < W.heap.size := by rw [hW]; simp
  have hsn6 : sn ≤ 6 := by have := hg.n6; omega
  have hn6 : n ≤ 6 := by have := ht.len; have := hg.n6; omega
  have hpn : pn = sn := by have := hg.nf; omega
  have HS := Hid.mk hs
  have HZ := Hid.mk hz
  have HL := Hid.mk hl
  have HSA := Hid.mk (At.below hsa B0)
  have HA := Hid.mk (AtS.below ha B0)
  have HLA := Hid.mk (At.below hla B0)
  have HG := Hid.mk hg
  have HT := Hid.mk ht
  have HR := Hid.mk hr
  clear hr
  subst hpn
  clear hs hz hl hsa ha hla hg ht
  go_enter Try.func57, Try.ntmps57
  go_upto_region 3 with fail
  rw [← hW]
  clear hW
  go_wp2
  go_loopw [5, 6, 13] (fun u v i wr => ∃ (k : Nat) (U D : Int), k ≤ n ∧ i = .int .i64 k ∧ u = .int .i64 U ∧ v = .int .i64 D ∧ U = upP zs (l.take k) ∧ D = dnP fs (l.take k) ∧ Below W.heap.size W wr) (fun _ _ i _ => n - (intOf i).toNat)
  case atStart => exact ⟨0, 1, 1, Nat.zero_le _, rfl, rfl, rfl, rfl, rfl, Below.refl _ _⟩
  case round =>
    obtain ⟨k, U, D, hk, rfl, rfl, rfl, hU, hD, hbw⟩ := hrel
    by_cases hlt : k < n
    · obtain ⟨x, hx⟩ : ∃ x, l[k]? = some x := ⟨_, List.getElem?_eq_getElem (by have := HL.out; omega)⟩
      have hxm : x ∈ l := List.mem_of_getElem? hx
      have hxr := HT.out.lt x hxm
      obtain ⟨p, rfl⟩ : ∃ p : Nat, x = (p : Int) := ⟨x.toNat, by omega⟩
      have hp : p < pn := by have := HS.out; omega
      obtain ⟨b, off, rfl, hb, hcl⟩ := HLA.out.some (by have := HL.out; omega)
      have hcx : wr.cell? ⟨b, off + k, none⟩ = some (.int .i64 (p : Nat)) := by
        have h9 := (hbw.cell hb).trans (hcl k (by have := HL.out; omega))
        rw [h9]
        have : l.getD k 0 = (p : Int) := by simp [List.getD, hx]
        rw [this]
      obtain ⟨b2, off2, rfl, hb2, hc2⟩ := HSA.out.some (by have := HS.out; omega)
      obtain ⟨y, hy⟩ : ∃ y, y = zs.getD p 0 := ⟨_, rfl⟩
      have hcy : wr.cell? ⟨b2, off2 + p, none⟩ = some (.int .i64 y) := by rw [hy]; exact (hbw.cell hb2).trans (hc2 p (by have := HS.out; omega))
      have hup := up_next (zs := zs) hx
      rw [← hU, show sizA zs (p : Int) = y by rw [hy]; rfl] at hup
      have hui := upP_in HG.out (HT.out.take (k + 1))
      rw [hup] at hui
      obtain ⟨U2, hU2⟩ : ∃ U2, U * y = U2 := ⟨_, rfl⟩
      rw [hU2] at hui hup
      have hw1 : IntKind.i64.wrap (U * y) = U2 := by rw [hU2]; exact IntWalk.i64_in _ (by omega)
      have hki : (k : Int) < (n : Int) := by omega
      have hkc : k ≤ c := by omega
      have p0 := cell_later hbw q0
      have p1 := cell_later hbw q1
      have HU := Hid.mk hup
      have HD := Hid.mk hD
      have HX := Hid.mk hx
      have HB := Hid.mk hbw
      have HCL := Hid.mk hcl
      clear hup hD hx hbw hcl hc2 hy hU hU2 hui hxm hxr
      obtain ⟨wy, rfl⟩ : ∃ x, x = wr := ⟨_, rfl⟩
      go_wp2
      go_loopw [6, 29] (fun v i wr => ∃ (j : Nat) (E : Int), j ≤ k ∧ i = .int .i64 j ∧ v = .int .i64 E ∧ E = dnP fs (l.take k) * prodL ((l.take j).map (facA fs p)) ∧ Below wy.heap.size wy wr) (fun _ i _ => k - (intOf i).toNat)
      case atStart => exact ⟨0, D, Nat.zero_le _, rfl, rfl, by rw [HD.out]; simp [prodL], Below.refl _ _⟩
      case round =>
        obtain ⟨j, E, hj, rfl, rfl, hE, hbj⟩ := hrel
        by_cases hjt : j < k
        · obtain ⟨o, ho⟩ : ∃ o, l[j]? = some o := ⟨_, List.getElem?_eq_getElem (by have := HL.out; omega)⟩
          have hor := HT.out.lt o (List.mem_of_getElem? ho)
          obtain ⟨q, rfl⟩ : ∃ q : Nat, o = (q : Int) := ⟨o.toNat, by omega⟩
          have hq : q < pn := by have := HS.out; omega
          have hpq : p ≠ q := by
            intro e
            obtain ⟨h1, e1⟩ := List.getElem?_eq_some_iff.1 HX.out
            obtain ⟨h2, e2⟩ := List.getElem?_eq_some_iff.1 ho
            have := (List.getElem_inj (h₀ := h1) (h₁ := h2) HT.out.nd).1 (by rw [e1, e2, e])
            omega
          have hqp : q < p := by
            have := HR.out j k _ _ ho HX.out hjt
            omega
          obtain ⟨f, hf⟩ : ∃ f, fs[p]? = some f := ⟨_, List.getElem?_eq_getElem (by have := HZ.out; omega)⟩
          have hfl := HG.out.fl _ _ hf
          obtain ⟨b3, off3, a', c', rfl, hcr, hm1, hax⟩ := atS_rw (AtS.below HA.out (HB.out.trans (hbj.mono HB.out.size))) hf
          rw [hfl] at hcr hm1
          obtain ⟨b4, off4, rfl, hb4, hc4⟩ := hax.some (by omega)
          obtain ⟨y2, hy2⟩ : ∃ y2, y2 = f.getD q 0 := ⟨_, rfl⟩
          have hcq : wr.cell? ⟨b4, off4 + q, none⟩ = some (.int .i64 y2) := by rw [hy2]; exact hc4 q (by omega)
          have hco : wr.cell? ⟨b, off + j, none⟩ = some (.int .i64 (q : Nat)) := by
            have h9 := ((HB.out.trans (hbj.mono HB.out.size)).cell hb).trans (HCL.out j (by have := HL.out; omega))
            rw [h9]
            have : l.getD j 0 = (q : Int) := by simp [List.getD, ho]
            rw [this]
          have hfa : facA fs p q = y2 := by
            unfold facA
            rw [Int.max_eq_left (by omega), Int.min_eq_right (by omega), Int.toNat_natCast, Int.toNat_natCast, hy2]
            simp [List.getD, hf]
          have hst := dn_step (fs := fs) (i := k) (x := (p : Int)) ho
          rw [← hE, hfa] at hst
          have hin := dn_part HG.out HT.out HX.out (show j + 1 ≤ k by omega)
          rw [hst] at hin
          obtain ⟨E2, hE2⟩ : ∃ E2, E * y2 = E2 := ⟨_, rfl⟩
          rw [hE2] at hin hst
          have hw2 : IntKind.i64.wrap (E * y2) = E2 := by rw [hE2]; exact IntWalk.i64_in _ (by omega)
          have hji : (j : Int) < (k : Int) := by omega
          have r1 := cell_later hbj p1
          have HE := Hid.mk hst
          have HBJ := Hid.mk hbj
          clear hst hE hbj ho hf hfl hax hc4 hy2 hfa hE2 hin
          go_wp2
          go_roundw
          case rel => exact ⟨j + 1, E2, by omega, by go_num, rfl, HE.out.symm, HBJ.out⟩
          case measure => simp [intOf]; omega
        · obtain rfl : j = k := by omega
          have hji : ¬ (j : Int) < (j : Int) := by omega
          have HE : Hid (E = dnP fs (l.take (j + 1))) := by show _ = _; rw [dn_next HX.out]; exact hE
          have HBJ := Hid.mk hbj
          clear hE hbj
          go_wp2
          go_roundw
          case rel => exact ⟨j + 1, U2, E, by omega, by go_num, rfl, rfl, HU.out.symm, HE.out, HB.out.trans (HBJ.out.mono HB.out.size)⟩
          case measure => simp [intOf]; omega
    · obtain rfl : k = n := by omega
      have hki : ¬ (k : Int) < (k : Int) := by omega
      rw [List.take_of_length_le (by have := HL.out; omega)] at hU hD
      have hui := upP_in HG.out HT.out
      have hdi := dnP_in HG.out HT.out
      rw [← hU] at hui
      rw [← hD] at hdi
      have HV : Hid (szQ zs fs l = U / D) := by show _ = _; unfold szQ; rw [hU, hD]
      have hd0 : 1 ≤ D := hdi.1
      have hdne : ¬ D = 0 := by omega
      have hdb : (D == 0) = false := beq_eq_false_iff_ne.2 (by omega)
      have hq0 : 0 ≤ U / D := Int.ediv_nonneg (by omega) (by omega)
      have hq1 : U / D ≤ U := Int.ediv_le_self _ (by omega)
      have htd : U.tdiv D = U / D := Int.tdiv_eq_ediv_of_nonneg (by omega)
      have hwq : IntKind.i64.wrap (U.tdiv D) = U / D := by rw [htd]; exact IntWalk.i64_in _ (by omega)
      have HB := Hid.mk hbw
      clear hU hD hbw hdi
      go_wp2
      go_ret
      exact ⟨ret_int (by rw [HV.out]), B0.trans (HB.out.mono (by omega))⟩

end Go.Proofs.Yteggbamjfhbmfaa

/- Contract of spec.l1In. -/
namespace Go.Proofs.Yteggbamjfhbmfaa
open Go.RowKit

theorem l1In_any (x lo hi : Int) (w : World) :
    Calls Try.prog 52 #[.int .i64 x, .int .i64 lo, .int .i64 hi] w fun e w' => e = .returned (.bool (decide (lo ≤ x) && decide (x ≤ hi))) ∧ w' = w := by
  by_cases h : lo ≤ x
  · have h1 : decide (lo ≤ x) = true := decide_eq_true h
    go_enter Try.func52, Try.ntmps52
    go_wp2
    go_ret
    exact ⟨ret_bool (by simp [h]), rfl⟩
  · have h1 : decide (lo ≤ x) = false := decide_eq_false h
    go_enter Try.func52, Try.ntmps52
    go_wp2
    go_ret
    exact ⟨ret_bool (by simp), rfl⟩

end Go.Proofs.Yteggbamjfhbmfaa

/- Contracts of allWithin and GoodStats, the program's and the model's. -/
namespace Go.Proofs.Yteggbamjfhbmfaa
open Go.RowKit

set_option maxHeartbeats 1000000 in
theorem allWithin_any (a : Option Addr) (n c : Nat) (zs : List Int) (C : Int) (w : World) (hz : zs.length = n) (hn : n ≤ 9223372036854775807) (ha : At w a zs) :
    Calls Try.prog 54 #[.slice a n c, .int .i64 C] w fun e w' => e = .returned (.bool (wiB C zs)) ∧ Below w.heap.size w w' := by
  by_cases h0 : n = 0
  · subst h0
    obtain rfl := List.eq_nil_of_length_eq_zero hz
    go_enter Try.func54, Try.ntmps54
    go_wp2
    refine wp_loop_rounds 1 ?_
    rw [rounds_succ]
    go_wp2
    go_ret
    exact ⟨rfl, Below.refl _ _⟩
  · obtain ⟨b, off, rfl, hb, hc⟩ := ha.some (by omega)
    clear ha
    go_enter Try.func54, Try.ntmps54
    go_wp2
    go_loopw [9] (fun i wr => ∃ (k : Nat), k ≤ n ∧ i = .int .i64 k ∧ wiB C zs = wiB C (zs.drop k) ∧ Below w.heap.size w wr) (fun i _ => n - (intOf i).toNat)
    case atStart => exact ⟨0, Nat.zero_le _, rfl, rfl, Below.refl _ _⟩
    case round =>
      obtain ⟨k, hk, rfl, ht, hbw⟩ := hrel
      by_cases hlt : k < n
      · have hcx : wr.cell? ⟨b, off + k, none⟩ = some (.int .i64 (zs.getD k 0)) := (hbw.cell hb).trans (hc k (by omega))
        rw [wiB_step (by omega)] at ht
        obtain ⟨x, hx⟩ : ∃ x, x = zs.getD k 0 := ⟨_, rfl⟩
        rw [← hx] at hcx ht
        have HT := Hid.mk ht
        clear hx ht hc
        by_cases c1 : x < 1
        · go_wp2
          go_ret
          exact ⟨by rw [HT.out]; unfold inB; rw [decide_eq_false (by omega : ¬ 1 ≤ x)]; rfl, hbw⟩
        · by_cases c2 : C < x
          · go_wp2
            go_ret
            exact ⟨by rw [HT.out]; unfold inB; rw [decide_eq_false (by omega : ¬ x ≤ C)]; simp, hbw⟩
          · go_wp2
            go_roundw
            case rel => exact ⟨k + 1, by omega, by go_num, by rw [HT.out]; unfold inB; rw [decide_eq_true (by omega : 1 ≤ x), decide_eq_true (by omega : x ≤ C)]; rfl, hbw⟩
            case measure => simp [intOf]; omega
      · have HT := Hid.mk ht
        clear ht
        go_wp2
        go_ret
        exact ⟨by rw [HT.out, wiB_done (by omega)]; rfl, hbw⟩

set_option maxRecDepth 100000 in
set_option maxHeartbeats 4000000 in
theorem implGoodStats (sa : Option Addr) (sn sc : Nat) (zs : List Int) (pa : Option Addr) (pn pc : Nat) (fs : List (List Int)) (w : World) (hs : zs.length = sn) (hsn : sn ≤ 9223372036854775807) (hsa : At w sa zs) (hz : fs.length = pn) (hn : pn ≤ 9223372036854775807) (ha : AtS w pa fs) :
    Calls Try.prog 28 #[.agg #[.slice sa sn sc, .slice pa pn pc]] w fun e w' => e = .returned (.bool (gsB zs fs)) ∧ Below w.heap.size w w' := by
  obtain ⟨W, hW⟩ : ∃ W, W = w.alloc (.cells #[.slice sa sn sc, .slice pa pn pc] 53) := ⟨_, rfl⟩
  have B0 : Below w.heap.size w W := by rw [hW]; exact (Below.refl _ _).alloc (Nat.le_refl _) _
  have q0 : W.cell? ⟨w.heap.size, 0, none⟩ = some (.slice sa sn sc) := by rw [hW]; simp
  have q1 : W.cell? ⟨w.heap.size, 1, none⟩ = some (.slice pa pn pc) := by rw [hW]; simp
  have HS := Hid.mk hs
  have HZ := Hid.mk hz
  have HSA := Hid.mk (At.below hsa B0)
  have HA := Hid.mk (AtS.below ha B0)
  have zW : w.heap.size < W.heap.size := by rw [hW]; simp
  clear hs hz hsa ha
  by_cases c1 : sn < 1
  · have c1' : (sn : Int) < 1 := by omega
    have HG : Hid (gsB zs fs = false) := by show _ = _; unfold gsB; rw [HS.out, decide_eq_false (by omega : ¬ 1 ≤ sn)]; rfl
    go_enter Try.func28, Try.ntmps28
    go_wp2
    go_ret
    exact ⟨by rw [HG.out]; rfl, by rw [← hW]; exact B0⟩
  have c1' : ¬ (sn : Int) < 1 := by omega
  by_cases c2 : 6 < sn
  · have c2' : (6 : Int) < (sn : Int) := by omega
    have HG : Hid (gsB zs fs = false) := by show _ = _; unfold gsB; rw [HS.out, decide_eq_false (by omega : ¬ sn ≤ 6)]; simp
    go_enter Try.func28, Try.ntmps28
    go_wp2
    go_ret
    exact ⟨by rw [HG.out]; rfl, by rw [← hW]; exact B0⟩
  have c2' : ¬ (6 : Int) < (sn : Int) := by omega
  by_cases c3 : pn = sn
  · subst c3
    have c3' : ((pn : Int) == (pn : Int)) = true := by simp
    have HG : Hid (gsB zs fs = (facB 0 fs && wiB 50 zs)) := by show _ = _; unfold gsB; rw [HS.out, HZ.out, decide_eq_true (by omega : 1 ≤ pn), decide_eq_true (by omega : pn ≤ 6)]; simp
    go_enter Try.func28, Try.ntmps28
    go_upto_region 3 with fail
    rw [← hW]
    clear hW
    go_wp2
    go_loopw [27] (fun i wr => ∃ (k : Nat), k ≤ pn ∧ i = .int .i64 k ∧ facB 0 fs = facB k (fs.drop k) ∧ Below W.heap.size W wr) (fun i _ => pn - (intOf i).toNat)
    case atStart => exact ⟨0, Nat.zero_le _, rfl, rfl, Below.refl _ _⟩
    case round =>
      obtain ⟨k, hk, rfl, ht, hbw⟩ := hrel
      by_cases hlt : k < pn
      · obtain ⟨f, hf⟩ : ∃ f, fs[k]? = some f := ⟨_, List.getElem?_eq_getElem (by have := HZ.out; omega)⟩
        obtain ⟨b, off, a', c', rfl, hcx, hm1, hax⟩ := atS_rw (AtS.below HA.out hbw) hf
        rw [facB_step hf] at ht
        obtain ⟨m, hm⟩ : ∃ m, f.length = m := ⟨_, rfl⟩
        rw [hm] at hcx hm1 ht
        have hki : (k : Int) < (pn : Int) := by omega
        have HT := Hid.mk ht
        have HM := Hid.mk hm
        have HB := Hid.mk hbw
        have K := Hid.mk (allWithin_any a' m c' f 10 wr hm hm1 hax)
        clear ht hm hbw hf hax
        by_cases e1 : m = k
        · subst e1
          have e1' : ((m : Int) == (m : Int)) = true := by simp
          go_wp2_with fail
          refine K.out.mono ?_
          rintro e w2 ⟨rfl, hb2⟩
          have HB2 := Hid.mk (HB.out.trans (hb2.mono HB.out.size))
          clear hb2 K
          cases hr : wiB 10 f with
          | false =>
            go_wp2
            go_ret
            exact ⟨by rw [HG.out, HT.out, hr]; simp, B0.trans (HB2.out.mono (by omega))⟩
          | true =>
            go_wp2
            go_roundw
            case rel => exact ⟨m + 1, by omega, by go_num, by rw [HT.out, hr]; simp, HB2.out⟩
            case measure => simp [intOf]; omega
        · have e1' : ((m : Int) == (k : Int)) = false := beq_eq_false_iff_ne.2 (by omega)
          clear K
          go_wp2
          go_ret
          exact ⟨by rw [HG.out, HT.out, decide_eq_false e1]; simp, B0.trans (HB.out.mono (by omega))⟩
      · obtain rfl : k = pn := by omega
        have hki : ¬ (k : Int) < (k : Int) := by omega
        have HT := Hid.mk ht
        have q0 := cell_later hbw q0
        have K := Hid.mk (allWithin_any sa k sc zs 50 wr HS.out hsn (At.below HSA.out hbw))
        have HB := Hid.mk hbw
        clear ht hbw
        go_wp2_with fail
        refine K.out.mono ?_
        rintro e w2 ⟨rfl, hb2⟩
        have HB2 := Hid.mk (HB.out.trans (hb2.mono HB.out.size))
        clear hb2 K
        go_wp2
        go_ret
        exact ⟨by rw [HG.out, HT.out, facB_done HZ.out, Bool.true_and]; rfl, B0.trans (HB2.out.mono (by omega))⟩
  · have c3' : ((pn : Int) == (sn : Int)) = false := beq_eq_false_iff_ne.2 (by omega)
    have HG : Hid (gsB zs fs = false) := by show _ = _; unfold gsB; rw [HS.out, HZ.out, decide_eq_false c3]; simp
    go_enter Try.func28, Try.ntmps28
    go_wp2
    go_ret
    exact ⟨by rw [HG.out]; rfl, by rw [← hW]; exact B0⟩

end Go.Proofs.Yteggbamjfhbmfaa
