/- Several texts of one proof, in build order: PutF, SetR, CfM. -/
import Derived.Test.YtociphdhkjoofaaDoorM12
import Derived.Test.YtociphdhkjoofaaDoorM10
import Derived.Test.YtociphdhkjoofaaDoorM5
import Derived.Test.YtociphdhkjoofaaDoorM9
import Derived.Deep.CutBlock

/- Contract of the model's l7Put, with where the answer lies. -/
namespace Go.Proofs.YtociphdhkjoofaaDoor
open Go.RowKit

set_option maxRecDepth 100000 in
set_option maxHeartbeats 4000000 in
theorem l7Put_far (B : Nat) (a : Option Addr) (n c : Nat) (zs : List Int) (x : Int) (w : World) (hz : zs.length = n) (hn : n ≤ 2097152) (ho : w.ownsRow B 3 1 (.slice a n c) n (zs.map (.int .i64))) :
    Calls Tryd.prog 41 #[.slice a n c, .int .i64 x] w fun e w' => ∃ r m d, e = .returned (.slice r m d) ∧ (insI zs x).length = m ∧ ((Value.slice r m d = .slice a n c ∧ insI zs x = zs) ∨ w'.ownsRow w.heap.size 3 1 (.slice r m d) m ((insI zs x).map (.int .i64))) ∧ Below w.heap.size w w' := by
  obtain ⟨i0, hi, hz0, hz1, hz2⟩ := info_parts Tryd.infoInt
  have hat : At w a zs := At.owned ho
  have HC := Hid.mk (l1Has_any a n c zs x w hz (by omega) hat)
  by_cases hx : x ∈ zs
  · have hd : decide (x ∈ zs) = true := decide_eq_true hx
    rw [insI_yes hx]
    rw [hd] at HC
    have HO := Hid.mk ho
    have HZ := Hid.mk hz
    clear hat ho hz hx hd
    go_enter Tryd.func41, Tryd.ntmps41
    go_wp2_with fail
    refine HC.out.mono ?_
    rintro e w1 ⟨rfl, rfl⟩
    go_wp2
    go_ret
    exact ⟨a, n, c, rfl, HZ.out, .inl ⟨rfl, by first | trivial | rfl⟩, Below.refl _ _⟩
  · have hd : decide (x ∈ zs) = false := decide_eq_false hx
    rw [insI_no hx]
    rw [hd] at HC
    rcases ho.2 with ⟨hv, h0⟩ | ⟨g, cap, cur, hv, hbg, _⟩
    · simp only [Value.slice.injEq] at hv
      obtain ⟨rfl, _, rfl⟩ := hv
      subst h0
      obtain rfl := List.eq_nil_of_length_eq_zero hz
      clear hat ho hx hd
      go_enter Tryd.func41, Tryd.ntmps41
      go_wp2_with fail
      refine HC.out.mono ?_
      rintro e w1 ⟨rfl, rfl⟩
      go_wp2_with fail
      refine wp_loop_rounds 1 ?_
      rw [rounds_succ]
      go_wp2_with (at_builtin; refine wpList_append_all rfl (.tmp 25) (.tmp 28) 34 rfl w1.heap.size 3 i0 (.int .i64 0) 8 Tryd.underlying34 hi hz0 hz1 hz2 rfl (.slice none 0 0) 0 [] rfl (World.ownsRow_nil _ _ _ _) none 0 0 [] rfl rfl (.inl rfl) (fun _ => rfl) (by unfold maxLen; omega) (by omega) (Nat.le_refl _) ?_)
      intro r2 d2 w2 ho2 hg2
      have B2 : Below w1.heap.size w1 w2 := (Below.refl _ _).grown hg2 (Nat.le_refl _) (fun j hj => by cases hj)
      have HO2 := Hid.mk ho2
      have z2 := B2.size
      clear ho2 hg2
      go_wp2_with (at_builtin; refine wpList_append_lies _ rfl (.tmp 30) (.tmp 32) 34 rfl w1.heap.size 3 i0 (.int .i64 0) 1 8 Tryd.underlying34 hi hz0 hz1 hz2 rfl (by decide) _ _ _ rfl (HO2.out.alloc _) ⟨w2.heap.size, 0, none⟩ 1 1 [.int .i64 x] rfl rfl (news_at w2 _ _) (by intro u hu; simp at hu; subst hu; rfl) (by decide) (by unfold maxLen; omega) (by omega) (by simp; omega) (w2.heap.size + 1) (by simp) ?_)
      intro g3 cap3 w3 ho3 hg3 hat3 hlt3
      have B3 : Below w1.heap.size w1 w3 := (B2.alloc z2 _).grown hg3 (by simp; omega) (fun j hj => (HO2.out.lt j hj).1)
      have HO3 := Hid.mk ho3
      have z3 := B3.size
      clear ho3 hg3 hat3 HO2
      go_wp2_with (at_builtin; refine wpList_append_all rfl (.tmp 34) (.tmp 37) 34 rfl w1.heap.size 3 i0 (.int .i64 0) 8 Tryd.underlying34 hi hz0 hz1 hz2 rfl _ _ _ rfl HO3.out none 0 0 [] rfl rfl (.inl rfl) (fun _ => rfl) (by unfold maxLen; omega) (by omega) z3 ?_)
      intro r4 d4 w4 ho4 hg4
      have B4 : Below w1.heap.size w1 w4 := B3.grown hg4 z3 (fun j hj => (HO3.out.lt j hj).1)
      have HO4 := Hid.mk ho4
      clear ho4 hg4 HO3
      go_wp2
      go_ret
      exact ⟨r4, 1, d4, rfl, rfl, .inr HO4.out, B4⟩
    · simp only [Value.slice.injEq, true_and] at hv
      obtain ⟨rfl, rfl⟩ := hv
      have hcap := own_cap ho
      have hcx : ∀ k, k < n → w.cell? ⟨g, k, none⟩ = some (.int .i64 (zs.getD k 0)) := fun k hk => by
        rw [ho.cellAt k (by omega)]
        simp [List.getD, show k < zs.length by omega]
      have HAT := Hid.mk hat
      have HO := Hid.mk ho
      have HZ := Hid.mk hz
      have HCX := Hid.mk hcx
      clear hat ho hx hd hcx
      go_enter Tryd.func41, Tryd.ntmps41
      go_wp2_with fail
      refine HC.out.mono ?_
      rintro e w1 ⟨rfl, rfl⟩
      go_wp2_with fail
      go_loopw [5] (fun i wr => ∃ (k : Nat), k ≤ n ∧ i = .int .i64 k ∧ (∀ j, j < k → zs.getD j 0 < x) ∧ wr = w1) (fun i _ => n - (intOf i).toNat)
      case atStart => exact ⟨0, Nat.zero_le _, rfl, fun j h => by omega, rfl⟩
      case round =>
        obtain ⟨k, hk, rfl, hle, rfl⟩ := hrel
        have HL := Hid.mk hle
        clear hle
        have stop : (k < n → ¬ zs.getD k 0 < x) → Hid (lessN x zs = k) := fun h => Hid.mk (lessN_is x zs k (by omega) HL.out (fun hk => h (by omega)))
        by_cases hlt : k < n
        · have hc := HCX.out k hlt
          obtain ⟨y, hy⟩ : ∃ y, y = zs.getD k 0 := ⟨_, rfl⟩
          have hnx : y < x → ∀ j, j < k + 1 → zs.getD j 0 < x := fun h j hj => by
            by_cases hjk : j < k
            · exact HL.out j hjk
            · obtain rfl : j = k := by omega
              rw [← hy]; exact h
          rw [← hy] at hc stop
          have HN := Hid.mk hnx
          clear hy hnx
          by_cases hyx : y < x
          · clear stop
            go_wp2
            go_roundw
            case rel => exact ⟨k + 1, by omega, by go_num, HN.out hyx, trivial⟩
            case measure => simp [intOf]; omega
          · have HS := stop (fun _ => hyx)
            clear stop
            have hkn : k ≤ n := hk
            have HTK : Hid ((zs.take k).length = k) := by show _ = _; rw [List.length_take, HZ.out]; omega
            have HDK : Hid ((zs.drop k).length = n - k) := by show _ = _; rw [List.length_drop, HZ.out]
            go_wp2_with (at_builtin; refine wpList_append_all rfl (.tmp 25) (.tmp 28) 34 rfl wr.heap.size 3 i0 (.int .i64 0) 8 Tryd.underlying34 hi hz0 hz1 hz2 rfl (.slice none 0 0) 0 [] rfl (World.ownsRow_nil _ _ _ _) (some ⟨g, 0, none⟩) k c (zs.take k) (by simp [Act.eval]) HTK.out (at_take k HAT.out) (fun h => by cases h) (by unfold maxLen; omega) (by omega) (Nat.le_refl _) ?_)
            intro r2 d2 w2 ho2 hg2
            have B2 : Below wr.heap.size wr w2 := (Below.refl _ _).grown hg2 (Nat.le_refl _) (fun j hj => by cases hj)
            have HO2 := Hid.mk ho2
            have z2 := B2.size
            clear ho2 hg2
            go_wp2_with (at_builtin; refine wpList_append_lies _ rfl (.tmp 30) (.tmp 32) 34 rfl wr.heap.size 3 i0 (.int .i64 0) 1 8 Tryd.underlying34 hi hz0 hz1 hz2 rfl (by decide) _ _ _ rfl (HO2.out.alloc _) ⟨w2.heap.size, 0, none⟩ 1 1 [.int .i64 x] rfl rfl (news_at w2 _ _) (by intro u hu; simp at hu; subst hu; rfl) (by decide) (by unfold maxLen; omega) (by omega) (by simp; omega) (w2.heap.size + 1) (by simp) ?_)
            intro g3 cap3 w3 ho3 hg3 hat3 hlt3
            have B3 : Below wr.heap.size wr w3 := (B2.alloc z2 _).grown hg3 (by simp; omega) (fun j hj => (HO2.out.lt j hj).1)
            have HO3 := Hid.mk ho3
            have z3 := B3.size
            clear ho3 hg3 hat3 HO2
            go_wp2_with (at_builtin; refine wpList_append_all rfl (.tmp 34) (.tmp 37) 34 rfl wr.heap.size 3 i0 (.int .i64 0) 8 Tryd.underlying34 hi hz0 hz1 hz2 rfl _ _ _ rfl HO3.out (some ⟨g, 0 + k, none⟩) (n - k) (c - k) (zs.drop k) (by simp [Act.eval]) HDK.out (at_drop k (At.below HAT.out B3)) (fun h => by cases h) (by unfold maxLen; omega) (by omega) z3 ?_)
            intro r4 d4 w4 ho4 hg4
            have B4 : Below wr.heap.size wr w4 := B3.grown hg4 z3 (fun j hj => (HO3.out.lt j hj).1)
            have HO4 := Hid.mk ho4
            clear ho4 hg4 HO3
            go_wp2
            go_ret
            refine ⟨r4, k + 1 + (n - k), d4, rfl, ?_, ?_, B4⟩
            · rw [HS.out, List.length_append, List.length_cons, HTK.out, HDK.out]; omega
            · refine .inr ?_
              have h9 := HO4.out
              rw [HS.out, List.map_append, List.map_cons]
              simpa using h9
        · have HS := stop (fun h => absurd h hlt)
          clear stop
          by_cases hck : c = k
          · have hck' : k = c := hck.symm
            subst hck'
            have hnk : k = n := by omega
            subst hnk
            have hkn : k ≤ k := hk
            have HTK : Hid ((zs.take k).length = k) := by show _ = _; rw [List.length_take, HZ.out]; omega
            have HDK : Hid ((zs.drop k).length = 0) := by show _ = _; rw [List.length_drop, HZ.out]; omega
            go_wp2_with (at_builtin; refine wpList_append_all rfl (.tmp 25) (.tmp 28) 34 rfl wr.heap.size 3 i0 (.int .i64 0) 8 Tryd.underlying34 hi hz0 hz1 hz2 rfl (.slice none 0 0) 0 [] rfl (World.ownsRow_nil _ _ _ _) (some ⟨g, 0, none⟩) k k (zs.take k) (by simp [Act.eval]) HTK.out (at_take k HAT.out) (fun h => by cases h) (by unfold maxLen; omega) (by omega) (Nat.le_refl _) ?_)
            intro r2 d2 w2 ho2 hg2
            have B2 : Below wr.heap.size wr w2 := (Below.refl _ _).grown hg2 (Nat.le_refl _) (fun j hj => by cases hj)
            have HO2 := Hid.mk ho2
            have z2 := B2.size
            clear ho2 hg2
            go_wp2_with (at_builtin; refine wpList_append_lies _ rfl (.tmp 30) (.tmp 32) 34 rfl wr.heap.size 3 i0 (.int .i64 0) 1 8 Tryd.underlying34 hi hz0 hz1 hz2 rfl (by decide) _ _ _ rfl (HO2.out.alloc _) ⟨w2.heap.size, 0, none⟩ 1 1 [.int .i64 x] rfl rfl (news_at w2 _ _) (by intro u hu; simp at hu; subst hu; rfl) (by decide) (by unfold maxLen; omega) (by omega) (by simp; omega) (w2.heap.size + 1) (by simp) ?_)
            intro g3 cap3 w3 ho3 hg3 hat3 hlt3
            have B3 : Below wr.heap.size wr w3 := (B2.alloc z2 _).grown hg3 (by simp; omega) (fun j hj => (HO2.out.lt j hj).1)
            have HO3 := Hid.mk ho3
            have z3 := B3.size
            clear ho3 hg3 hat3 HO2
            go_wp2_with (at_builtin; refine wpList_append_all rfl (.tmp 34) (.tmp 37) 34 rfl wr.heap.size 3 i0 (.int .i64 0) 8 Tryd.underlying34 hi hz0 hz1 hz2 rfl _ _ _ rfl HO3.out (some ⟨g, 0, none⟩) 0 0 (zs.drop k) (by simp [Act.eval]) HDK.out (.inl (List.drop_of_length_le (by have := HZ.out; omega))) (fun h => by cases h) (by unfold maxLen; omega) (by omega) z3 ?_)
            intro r4 d4 w4 ho4 hg4
            have B4 : Below wr.heap.size wr w4 := B3.grown hg4 z3 (fun j hj => (HO3.out.lt j hj).1)
            have HO4 := Hid.mk ho4
            clear ho4 hg4 HO3
            go_wp2
            go_ret
            refine ⟨r4, k + 1, d4, rfl, ?_, ?_, B4⟩
            · rw [HS.out, List.length_append, List.length_cons, HTK.out, HDK.out]
            · refine .inr ?_
              have h9 := HO4.out
              rw [HS.out, List.map_append, List.map_cons]
              simpa using h9
          · skip
            have hkn : k ≤ n := hk
            have HTK : Hid ((zs.take k).length = k) := by show _ = _; rw [List.length_take, HZ.out]; omega
            have HDK : Hid ((zs.drop k).length = n - k) := by show _ = _; rw [List.length_drop, HZ.out]
            go_wp2_with (at_builtin; refine wpList_append_all rfl (.tmp 25) (.tmp 28) 34 rfl wr.heap.size 3 i0 (.int .i64 0) 8 Tryd.underlying34 hi hz0 hz1 hz2 rfl (.slice none 0 0) 0 [] rfl (World.ownsRow_nil _ _ _ _) (some ⟨g, 0, none⟩) k c (zs.take k) (by simp [Act.eval]) HTK.out (at_take k HAT.out) (fun h => by cases h) (by unfold maxLen; omega) (by omega) (Nat.le_refl _) ?_)
            intro r2 d2 w2 ho2 hg2
            have B2 : Below wr.heap.size wr w2 := (Below.refl _ _).grown hg2 (Nat.le_refl _) (fun j hj => by cases hj)
            have HO2 := Hid.mk ho2
            have z2 := B2.size
            clear ho2 hg2
            go_wp2_with (at_builtin; refine wpList_append_lies _ rfl (.tmp 30) (.tmp 32) 34 rfl wr.heap.size 3 i0 (.int .i64 0) 1 8 Tryd.underlying34 hi hz0 hz1 hz2 rfl (by decide) _ _ _ rfl (HO2.out.alloc _) ⟨w2.heap.size, 0, none⟩ 1 1 [.int .i64 x] rfl rfl (news_at w2 _ _) (by intro u hu; simp at hu; subst hu; rfl) (by decide) (by unfold maxLen; omega) (by omega) (by simp; omega) (w2.heap.size + 1) (by simp) ?_)
            intro g3 cap3 w3 ho3 hg3 hat3 hlt3
            have B3 : Below wr.heap.size wr w3 := (B2.alloc z2 _).grown hg3 (by simp; omega) (fun j hj => (HO2.out.lt j hj).1)
            have HO3 := Hid.mk ho3
            have z3 := B3.size
            clear ho3 hg3 hat3 HO2
            go_wp2_with (at_builtin; refine wpList_append_all rfl (.tmp 34) (.tmp 37) 34 rfl wr.heap.size 3 i0 (.int .i64 0) 8 Tryd.underlying34 hi hz0 hz1 hz2 rfl _ _ _ rfl HO3.out (some ⟨g, 0 + k, none⟩) (n - k) (c - k) (zs.drop k) (by simp [Act.eval]) HDK.out (at_drop k (At.below HAT.out B3)) (fun h => by cases h) (by unfold maxLen; omega) (by omega) z3 ?_)
            intro r4 d4 w4 ho4 hg4
            have B4 : Below wr.heap.size wr w4 := B3.grown hg4 z3 (fun j hj => (HO3.out.lt j hj).1)
            have HO4 := Hid.mk ho4
            clear ho4 hg4 HO3
            go_wp2
            go_ret
            refine ⟨r4, k + 1 + (n - k), d4, rfl, ?_, ?_, B4⟩
            · rw [HS.out, List.length_append, List.length_cons, HTK.out, HDK.out]; omega
            · refine .inr ?_
              have h9 := HO4.out
              rw [HS.out, List.map_append, List.map_cons]
              simpa using h9

end Go.Proofs.YtociphdhkjoofaaDoor

/- Rows of sets of numbers that a call makes: a list of lists, of which one is put anew. -/
namespace Go.Proofs.YtociphdhkjoofaaDoor
open Go.RowKit

def RowsN (w : World) (g lo : Nat) (cs : List Nat) : Prop :=
  ∃ cells : List Value, cells.length = cs.length ∧ w.heap[g]? = some (.cells cells.toArray 34 (0, 0)) ∧
    (∀ t v, cells[t]? = some v → ∃ r m d, v = .slice r m d ∧ (bl (cs.getD t 0)).length = m ∧ w.ownsRow lo 3 1 (.slice r m d) m ((bl (cs.getD t 0)).map (.int .i64))) ∧
    (∀ (i j : Nat) (u v : Value) (b : Nat), i ≠ j → cells[i]? = some u → cells[j]? = some v → u.ownBlock = some b → v.ownBlock ≠ some b)
theorem RowsN.below {w w' : World} {g lo : Nat} {cs : List Nat} (h : RowsN w g lo cs) (hb : Below w.heap.size w w') : RowsN w' g lo cs := by
  obtain ⟨cells, h1, h2, h3, h4⟩ := h
  refine ⟨cells, h1, blk_below h2 hb, fun t v ht => ?_, h4⟩
  obtain ⟨r, m, d, e, hl, ho⟩ := h3 t v ht
  exact ⟨r, m, d, e, hl, owns_below ho hb⟩
theorem RowsN.new {w : World} {g lo n : Nat} (h : w.heap[g]? = some (.cells (List.replicate n (Value.slice none 0 0)).toArray 34 (0, 0))) : RowsN w g lo (List.replicate n 0) := by
  refine ⟨_, by simp, h, fun t v ht => ?_, fun i j u v b _ hu _ hb => ?_⟩
  · obtain ⟨_, rfl⟩ := List.getElem?_eq_some_iff.1 ht
    have e : (List.replicate n 0).getD t 0 = 0 := by
      rw [List.getD_eq_getElem?_getD, List.getElem?_replicate]; split <;> rfl
    refine ⟨none, 0, 0, by simp, ?_, ?_⟩
    · rw [e]; decide
    · rw [e, show bl 0 = [] by decide]; exact World.ownsRow_nil _ _ _ _
  · obtain ⟨_, rfl⟩ := List.getElem?_eq_some_iff.1 hu
    simp [Value.ownBlock] at hb
theorem RowsN.cell {w : World} {g lo : Nat} {cs : List Nat} (h : RowsN w g lo cs) {t : Nat} (ht : t < cs.length) : ∃ r m d, w.cell? ⟨g, t, none⟩ = some (.slice r m d) ∧ w.frozen? ⟨g, t, none⟩ = false ∧ (bl (cs.getD t 0)).length = m ∧ w.ownsRow lo 3 1 (.slice r m d) m ((bl (cs.getD t 0)).map (.int .i64)) := by
  obtain ⟨cells, h1, h2, h3, h4⟩ := h
  obtain ⟨v, hv⟩ : ∃ v, cells[t]? = some v := ⟨_, List.getElem?_eq_getElem (by omega)⟩
  obtain ⟨r, m, d, rfl, hl, ho⟩ := h3 t v hv
  exact ⟨r, m, d, blk_cell h2 t (by simpa using hv), blk_frozen h2 t, hl, ho⟩
theorem RowsN.turn {w w1 : World} {g lo : Nat} {cs : List Nat} (h : RowsN w g lo cs) (hgl : g < lo) (hlo : lo ≤ w.heap.size) (hb : Below w.heap.size w w1) {t : Nat} (ht : t < cs.length) {S : Nat} {r : Option Addr} {m d : Nat} {r' : Option Addr} {m' d' : Nat}
    (hc : w.cell? ⟨g, t, none⟩ = some (.slice r m d)) (hl : (bl S).length = m') (ho : (Value.slice r' m' d' = .slice r m d ∧ bl S = bl (cs.getD t 0)) ∨ w1.ownsRow w.heap.size 3 1 (.slice r' m' d') m' ((bl S).map (.int .i64))) :
    RowsN (w1.setCell ⟨g, t, none⟩ (.slice r' m' d')) g lo (cs.set t S) := by
  obtain ⟨cells, h1, h2, h3, h4⟩ := h
  obtain ⟨v, hv⟩ : ∃ v, cells[t]? = some v := ⟨_, List.getElem?_eq_getElem (by omega)⟩
  have hv2 : v = .slice r m d := by
    have h9 := blk_cell h2 t (v := v) (by simpa using hv)
    rw [hc] at h9
    exact (Option.some.inj h9).symm
  obtain ⟨r0, m0, d0, e0, hl0, ho0⟩ := h3 t v hv
  rw [hv2] at e0
  simp only [Value.slice.injEq] at e0
  obtain ⟨rfl, rfl, rfl⟩ := e0
  have hset : ∀ {a n c ys}, w1.ownsRow lo 3 1 (.slice a n c) n ys → (w1.setCell ⟨g, t, none⟩ (.slice r' m' d')).ownsRow lo 3 1 (.slice a n c) n ys := fun {a n c ys} h9 =>
    ownsRow_frame h9 (fun b hb9 _ => Below.heap_setCell _ _ _ b (by have := (h9.lt b hb9).1; simp; omega))
  have hgetS : (cs.set t S).getD t 0 = S := by rw [List.getD_eq_getElem?_getD, List.getElem?_set_self ht]; rfl
  have hgetO : ∀ j, j ≠ t → (cs.set t S).getD j 0 = cs.getD j 0 := fun j hj => by rw [List.getD_eq_getElem?_getD, List.getElem?_set_ne (fun e => hj e.symm), ← List.getD_eq_getElem?_getD]
  have hown : w1.ownsRow lo 3 1 (.slice r' m' d') m' ((bl S).map (.int .i64)) := by
    rcases ho with ⟨e, e2⟩ | ho
    · simp only [Value.slice.injEq] at e
      obtain ⟨rfl, rfl, rfl⟩ := e
      rw [e2]; exact owns_below ho0 hb
    · exact owns_mono ho hlo
  have hblk : ∀ b, (Value.slice r' m' d').ownBlock = some b → v.ownBlock = some b ∨ w.heap.size ≤ b := fun b hb9 => by
    rcases ho with ⟨e, _⟩ | ho
    · rw [e] at hb9; exact .inl (by rw [hv2]; exact hb9)
    · exact .inr (ho.lt b hb9).1
  have hold : ∀ (j : Nat) (u : Value) (b : Nat), cells[j]? = some u → u.ownBlock = some b → b < w.heap.size := fun j u b hu hb9 => by
    obtain ⟨r9, m9, d9, rfl, _, h9⟩ := h3 j u hu
    exact (h9.lt b hb9).2
  refine ⟨cells.set t (.slice r' m' d'), by simp [h1], ?_, fun j u hu => ?_, fun i j u u' b hij hu hu' hub => ?_⟩
  · rw [blk_set (blk_below h2 hb) t _]; simp
  · by_cases hj : j = t
    · subst hj
      rw [List.getElem?_set_self (by omega)] at hu
      obtain rfl := Option.some.inj hu
      exact ⟨r', m', d', rfl, by rw [hgetS]; exact hl, by rw [hgetS]; exact hset hown⟩
    · rw [List.getElem?_set_ne (fun e => hj e.symm)] at hu
      obtain ⟨r9, m9, d9, rfl, hl9, h9⟩ := h3 j u hu
      exact ⟨r9, m9, d9, rfl, by rw [hgetO j hj]; exact hl9, by rw [hgetO j hj]; exact hset (owns_below h9 hb)⟩
  · by_cases hi : i = t
    · subst hi
      rw [List.getElem?_set_self (by omega)] at hu
      obtain rfl := Option.some.inj hu
      rw [List.getElem?_set_ne hij] at hu'
      rcases hblk b hub with h9 | h9
      · exact h4 i j v u' b hij hv hu' h9
      · intro e
        have := hold j u' b hu' e
        omega
    · rw [List.getElem?_set_ne (fun e => hi e.symm)] at hu
      by_cases hj : j = t
      · subst hj
        rw [List.getElem?_set_self (by omega)] at hu'
        obtain rfl := Option.some.inj hu'
        intro e
        rcases hblk b e with h9 | h9
        · exact h4 i j u v b hij hu hv hub h9
        · have := hold i u b hu hub
          omega
      · rw [List.getElem?_set_ne (fun e => hj e.symm)] at hu'
        exact h4 i j u u' b hij hu hu' hub
theorem RowsN.own {w : World} {g lo lo0 n : Nat} {cs : List Nat} (h : RowsN w g lo cs) (hgl : g < lo) (hg0 : lo0 ≤ g) (hn : cs.length = n) (hb : n ≤ 1048576) : RPairs.Own w (From lo0 w.heap.size) [.slice (some ⟨g, 0, none⟩) n n] (cs.map bl) := by
  obtain ⟨cells, h1, h2, h3, h4⟩ := h
  have hgw : g < w.heap.size := (Array.getElem?_eq_some_iff.1 h2).1
  refine ⟨some ⟨g, 0, none⟩, n, n, cells, fun i b => ∃ v, cells[i]? = some v ∧ v.ownBlock = some b, rfl, by simp [hn], by omega, ?_, fun b hb9 => ?_, fun i x hi hx => ?_, fun i b hi hG => ?_, fun i j b hi hj hij hG hG' => ?_⟩
  · exact ⟨by simp [RInts, Rep.slice]; omega, .inr ⟨g, n, cells.toArray, rfl, Nat.zero_le _, h2, Nat.le_refl _, by unfold maxLen; omega, by simp [RInts, Rep.slice]; omega, by rw [List.take_of_length_le]; simp [RInts, Rep.slice]; omega⟩⟩
  · simp only [Value.ownBlock, Option.some.injEq] at hb9
    subst hb9
    exact ⟨hg0, hgw⟩
  · obtain ⟨v, hv⟩ : ∃ v, cells[i]? = some v := ⟨_, List.getElem?_eq_getElem (by omega)⟩
    obtain ⟨r, m, d, rfl, hl, ho⟩ := h3 i v hv
    have hs : sub cells (i * 1) 1 = [.slice r m d] := by
      apply List.ext_getElem?
      intro j
      by_cases hj : j < 1
      · rw [sub_at hj]
        obtain rfl : j = 0 := by omega
        simpa using hv
      · rw [List.getElem?_eq_none (by simp [sub]; omega), List.getElem?_eq_none (by simp; omega)]
    have hxe : x = bl (cs.getD i 0) := by
      rw [List.getElem?_map] at hx
      obtain ⟨c, hc, rfl⟩ := Option.map_eq_some_iff.1 hx
      rw [List.getD_eq_getElem?_getD, hc]; rfl
    show RInts.Own w _ (sub cells (i * 1) 1) x
    rw [hs, hxe]
    exact RInts.own_iff.2 ⟨hl, by have := bl_len (cs.getD i 0); omega, owns_mono ho (Nat.zero_le _), fun b hb9 => ⟨_, hv, hb9⟩⟩
  · obtain ⟨v, hv, hb9⟩ := hG
    obtain ⟨r, m, d, rfl, hl, ho⟩ := h3 i v hv
    have := ho.lt b hb9
    exact ⟨⟨by omega, this.2⟩, fun e => by simp only [Value.ownBlock, Option.some.injEq] at e; omega⟩
  · obtain ⟨v, hv, hb9⟩ := hG
    obtain ⟨u, hu, hb8⟩ := hG'
    exact h4 i j v u b hij hv hu hb9 hb8

end Go.Proofs.YtociphdhkjoofaaDoor

/- Contracts of spec.l13Conflicts and spec.ConflictsOf. -/
namespace Go.Proofs.YtociphdhkjoofaaDoor
open Go.RowKit


set_option maxRecDepth 100000 in
set_option maxHeartbeats 4000000 in
theorem l13Conflicts_any (a : Option Addr) (n c : Nat) (xs : List TStep) (w : World) (hz : xs.length = n) (hnc : n ≤ c) (hg : gpB xs = true) (ha : At w a (flStep xs)) :
    Calls Tryd.prog 25 #[.slice a n c] w fun e w' => (∃ G, e = .returned (.slice (some ⟨G, 0, none⟩) 6 6) ∧ w.heap.size ≤ G ∧ RowsN w' G (G + 1) (cfL xs)) ∧ Below w.heap.size w w' := by
  obtain ⟨j0, hj0, hy0, hy1, hy2⟩ := info_parts Tryd.infoInts
  have hn40 : n ≤ 40 := by have := gp_len hg; omega
  have HZ := Hid.mk hz
  have HA := Hid.mk ha
  have HG := Hid.mk hg
  clear hz ha hg
  obtain ⟨G, hG⟩ : ∃ G, w.heap.size = G := ⟨_, rfl⟩
  have hwG : w.heap.size ≤ G := by omega
  go_enter Tryd.func25, Tryd.ntmps25
  go_wp2_with (at_make; refine wpList_make_full _ rfl _ _ 24 rfl w.heap.size 34 j0 (.slice none 0 0) 1 Tryd.underlying24 hj0 hy0 hy1 .i64 .i64 _ _ 6 rfl rfl rfl rfl (by rw [hy2]; omega) (by unfold maxLen; omega) (Nat.le_refl _) ?_; intro w1 hown hgr)
  have hb1 : Below w.heap.size w w1 := (Below.refl _ _).grown hgr (Nat.le_refl _) (by simp)
  (try rw [hG] at hown)
  have hi1 : RowsN w1 G (G + 1) (cfO xs 0) := by
    have e6 : (madeCells (Value.slice none 0 0).cells (6 * 1)).toList = List.replicate 6 (Value.slice none 0 0) := by simp [madeCells, Value.cells, List.range, List.range.loop, List.replicate]
    rw [e6] at hown
    exact RowsN.new (own_rowC hown)
  have hG1 : G + 1 ≤ w1.heap.size := by
    rcases hown.2 with ⟨h, _⟩ | ⟨g', cap, cur, hv, _, hh, _⟩
    · cases h
    · simp only [Value.slice.injEq, Option.some.injEq, Addr.mk.injEq, true_and, and_true] at hv
      obtain ⟨rfl, _⟩ := hv
      exact (Array.getElem?_eq_some_iff.1 hh).1
  (try rw [hG])
  have HI1 := Hid.mk hi1
  have HB1 := Hid.mk hb1
  clear hi1 hb1 hown hgr hG
  go_wp2_with fail
  go_loopw [11] (fun i wr => ∃ (k : Nat), k ≤ n ∧ i = .int .i64 k ∧ (RowsN wr G (G + 1) (cfO xs k)) ∧ G + 1 ≤ wr.heap.size ∧ Below w.heap.size w wr) (fun i _ => n - (intOf i).toNat)
  case atStart => exact ⟨0, Nat.zero_le _, rfl, HI1.out, hG1, HB1.out⟩
  case round =>
    clear HI1 HB1
    obtain ⟨k, hk, rfl, hi, hGw, hbw⟩ := hrel
    obtain ⟨wY, rfl⟩ : ∃ x, x = wr := ⟨_, rfl⟩
    by_cases hlt : k < n
    · obtain ⟨⟨x0, x1, x2⟩, hx⟩ : ∃ x, xs[k]? = some x := ⟨_, List.getElem?_eq_getElem (by have := HZ.out; omega)⟩
      have hA := At.below HA.out hbw
      obtain ⟨b, off, rfl, hb, hc⟩ := flStep_some HA.out (by have := HZ.out; omega)
      obtain ⟨c0, c1, c2⟩ := hc k _ hx
      have c0 := (hbw.cell hb).trans c0
      have c1 := (hbw.cell hb).trans c1
      have c2 := (hbw.cell hb).trans c2
      have hbG : b ≠ G := by omega
      have hgx := gp_at HG.out hx
      simp only at c0 c1 c2 hgx
      obtain ⟨t, rfl⟩ : ∃ t : Nat, x0 = (t : Int) := ⟨x0.toNat, by omega⟩
      have ht6 : t < 6 := by omega
      have ht6i : (t : Int) < 6 := by omega
      have hki : (k : Int) < (n : Int) := by omega
      have hwk : IntKind.i64.wrap ((k : Int) + 1) = ((k + 1 : Nat) : Int) := by rw [IntWalk.i64_in _ (by omega)]; omega
      obtain ⟨V, hV⟩ : ∃ V, V = wY.alloc (.cells #[.int .i64 (t : Int), .int .i64 x1, .int .i64 x2] 46) := ⟨_, rfl⟩
      have hbV : Below wY.heap.size wY V := by rw [hV]; exact (Below.refl _ _).alloc (Nat.le_refl _) _
      have v0 : V.cell? ⟨wY.heap.size, 0, none⟩ = some (.int .i64 (t : Int)) := by rw [hV]; simp
      have v1 : V.cell? ⟨wY.heap.size, 1, none⟩ = some (.int .i64 x1) := by rw [hV]; simp
      have v2 : V.cell? ⟨wY.heap.size, 2, none⟩ = some (.int .i64 x2) := by rw [hV]; simp
      have HIV : Hid (RowsN V G (G + 1) (cfO xs k)) := Hid.mk (RowsN.below hi hbV)
      have HBV := Hid.mk (hbw.trans (hbV.mono hbw.size))
      have hGV : G + 1 ≤ V.heap.size := Nat.le_trans hGw hbV.size
      have hYG : wY.heap.size ≠ G := by omega
      have HAV : Hid (At V (some ⟨b, off, none⟩) (flStep xs)) := Hid.mk (At.below hA hbV)
      have HX := Hid.mk hx
      have HSUC := Hid.mk (cfO_succ hx)
      have hkn1 : k + 1 ≤ n := by omega
      clear hc hx hi hbw hA hbV
      go_upto_region 5 with fail
      rw [← hV]
      clear hV c0 c1 c2
      obtain ⟨p, hp⟩ : ∃ p, k + 1 = p := ⟨_, rfl⟩
      rw [hp] at hwk hkn1 HSUC
      have hpc : p ≤ c := by omega
      by_cases hcp : c = p
      · obtain rfl : n = p := by omega
        subst hcp
        have HIN : Hid (RowsN V G (G + 1) (cfO xs (k + 1))) := Hid.mk (by
          rw [hp, HSUC.out, List.drop_of_length_le (by rw [HZ.out]; omega)]
          exact HIV.out)
        clear HIV HX
        go_wp2
        refine wp_loop_rounds 1 ?_
        rw [rounds_succ]
        go_wp2
        go_roundw
        case rel => exact ⟨k + 1, by omega, by go_num, HIN.out, hGV, HBV.out⟩
        case measure => simp [intOf]; omega
      have hcp' : ¬ p = c := fun e => hcp e.symm
      have HAD : Hid (At V (some ⟨b, off + p * 3, none⟩) (flStep (xs.drop p))) := Hid.mk (by rw [flStep_drop]; exact flat_drop _ HAV.out)
      clear HAV
      go_wp2
      go_loopw [21] (fun i wr => ∃ (j : Nat), j ≤ n - p ∧ i = .int .i64 j ∧ (RowsN wr G (G + 1) (cfI ((t : Int), x1, x2) ((xs.drop (k + 1)).take j) (cfO xs k))) ∧ Off (fun b => b = G) V wr ∧ Below w.heap.size w wr) (fun i _ => n - p - (intOf i).toNat)
      case atStart => exact ⟨0, Nat.zero_le _, rfl, by simpa [cfI] using HIV.out, Off.refl _ _, HBV.out⟩
      case round =>
        clear HIV HBV
        obtain ⟨j, hj, rfl, hi, hof, hbw⟩ := hrel
        obtain ⟨wZ, rfl⟩ : ∃ x, x = wr := ⟨_, rfl⟩
        by_cases hjn : j < n - p
        · obtain ⟨⟨y0, y1, y2⟩, hy⟩ : ∃ x, (xs.drop p)[j]? = some x := ⟨_, List.getElem?_eq_getElem (by rw [List.length_drop]; have := HZ.out; omega)⟩
          have hy' : xs[p + j]? = some (y0, y1, y2) := by rw [← hy, List.getElem?_drop]
          have hgy := gp_at HG.out hy'
          obtain ⟨b9, off9, e9, hb9, hc⟩ := flStep_some HAD.out (by rw [List.length_drop]; have := HZ.out; omega)
          simp only [Option.some.injEq, Addr.mk.injEq, and_true] at e9
          obtain ⟨rfl, rfl⟩ := e9
          obtain ⟨d0, d1, d2⟩ := hc j _ hy
          have d0 := hof.cell d0 hbG
          have d1 := hof.cell d1 hbG
          have d2 := hof.cell d2 hbG
          have z0 := hof.cell v0 hYG
          have z1 := hof.cell v1 hYG
          have z2 := hof.cell v2 hYG
          simp only at d0 d1 d2 hgy
          have hy0 : 0 ≤ y0 := by omega
          have hy6 : y0 < 6 := by omega
          have hji : (j : Int) < ((n - p : Nat) : Int) := by omega
          have hsix := cfI_take_six (xs := xs) HG.out (k := k) ((t : Int), x1, x2) j
          have htk := cfI_take (x := ((t : Int), x1, x2)) (cs := cfO xs k) hy
          rw [← hp] at htk
          obtain ⟨CS, hCS⟩ : ∃ CS, cfI ((t : Int), x1, x2) ((xs.drop (k + 1)).take j) (cfO xs k) = CS := ⟨_, rfl⟩
          rw [hCS] at hi hsix htk
          have HTK := Hid.mk htk
          obtain ⟨U, hU⟩ : ∃ U, U = wZ.alloc (.cells #[.int .i64 y0, .int .i64 y1, .int .i64 y2] 46) := ⟨_, rfl⟩
          have hbU : Below wZ.heap.size wZ U := by rw [hU]; exact (Below.refl _ _).alloc (Nat.le_refl _) _
          have u0 : U.cell? ⟨wZ.heap.size, 0, none⟩ = some (.int .i64 y0) := by rw [hU]; simp
          have u1 : U.cell? ⟨wZ.heap.size, 1, none⟩ = some (.int .i64 y1) := by rw [hU]; simp
          have u2 : U.cell? ⟨wZ.heap.size, 2, none⟩ = some (.int .i64 y2) := by rw [hU]; simp
          have z0 := cell_later hbU z0
          have z1 := cell_later hbU z1
          have z2 := cell_later hbU z2
          have HI : Hid (RowsN wZ G (G + 1) (CS)) := Hid.mk hi
          have HIU : Hid (RowsN U G (G + 1) (CS)) := Hid.mk (RowsN.below HI.out hbU)
          have HFU := Hid.mk (hof.trans (Off.below hbU))
          have HBU := Hid.mk (hbw.trans (hbU.mono hbw.size))
          have hZG : wZ.heap.size ≠ G := by have := hof.size; omega
          have KC := Hid.mk (l13Clash_any (t : Int) x1 x2 y0 y1 y2 U)
          clear hc hy hy' hi hof hbw hbU htk hCS HI
          go_upto_region 8 with fail
          rw [← hU]
          clear hU d0 d1 d2
          go_wp2_with fail
          refine KC.out.mono ?_
          rintro e w3 ⟨rfl, hb3⟩
          have s0 := cell_later hb3 z0
          have s1 := cell_later hb3 u0
          have HI3 : Hid (RowsN w3 G (G + 1) (CS)) := Hid.mk (RowsN.below HIU.out hb3)
          have HF3 := Hid.mk (HFU.out.trans (Off.below hb3))
          have HB3 := Hid.mk (HBU.out.trans (hb3.mono HBU.out.size))
          clear hb3 KC z0 z1 z2 u0 u1 u2 HIU HFU HBU
          cases hcl : clB ((t : Int), x1, x2) (y0, y1, y2) with
          | false =>
            have HN : Hid (cfI ((t : Int), x1, x2) ((xs.drop (k + 1)).take (j + 1)) (cfO xs k) = CS) := Hid.mk (by rw [HTK.out]; unfold cfS; rw [if_neg (by rw [hcl]; simp)])
            have HIN : Hid (RowsN w3 G (G + 1) (cfI ((t : Int), x1, x2) ((xs.drop (k + 1)).take (j + 1)) (cfO xs k))) := Hid.mk (by rw [HN.out]; exact HI3.out)
            clear HI3
            go_wp2
            go_roundw
            case rel => exact ⟨j + 1, by omega, by go_num, HIN.out, HF3.out, HB3.out⟩
            case measure => simp [intOf]; omega
          | true =>
          have hCt := hsix.get t
          obtain ⟨C, hC⟩ : ∃ C, CS.getD t 0 = C := ⟨_, rfl⟩
          rw [hC] at hCt
          obtain ⟨D, hD⟩ : ∃ D, C ||| 2 ^ y0.toNat = D := ⟨_, rfl⟩
          have HN : Hid (cfI ((t : Int), x1, x2) ((xs.drop (k + 1)).take (j + 1)) (cfO xs k) = CS.set t D) := Hid.mk (by
            rw [HTK.out]; unfold cfS; rw [if_pos hcl]; simp only [Int.toNat_natCast]; rw [hC, hD])
          have HINS : Hid (insI (bl C) y0 = bl D) := Hid.mk (by rw [insI_bl hCt hy0 hy6, hD])
          have HI3D : Hid (RowsN w3.drew G (G + 1) CS) := Hid.mk (HI3.out.below (Below.refl _ _).drew)
          have htl : t < CS.length := by rw [hsix.1]; omega
          have hG3 : G + 1 ≤ w3.drew.heap.size := Nat.le_trans hGV HF3.out.size
          obtain ⟨r, m, d, hcG, hfG, hl1, ho1⟩ := HI3D.out.cell htl
          rw [hC] at hl1 ho1
          have hm6 : m ≤ 6 := by rw [← hl1]; exact bl_len C
          have KP := Hid.mk (l7Put_far (G + 1) r m d (bl C) y0 w3.drew hl1 (by omega) ho1)
          clear hl1 ho1
          go_upto_region 9 with fail
          refine wp_region_held_drew (S := fun w' => w'.cell? ⟨wY.heap.size, 0, none⟩ = some (.int .i64 (t : Int)) ∧ w'.cell? ⟨wZ.heap.size, 0, none⟩ = some (.int .i64 y0)) (by kernel_rfl) ?_ (fun hHeld => ?_)
          · (try dsimp only)
            exact ⟨s0, s1⟩
          refine tk 0 ?_
          refine tk 1 ?_
          refine tk 2 ?_
          refine tk 3 ?_
          refine tk 4 ?_
          refine tk 5 ?_
          refine tk 6 ?_
          refine tk 8 ?_
          refine tk 9 ?_
          refine wpAnyH_ready (rs := [7]) (by kernel_rfl) (by simp) ?_
          refine AllReadyH.cons (o := ?_) ?_ (fun K hK => ?_) AllReadyH.nil
          rotate_left
          · (simp only [List.getElem?_toArray, List.getElem?_cons_zero, List.getElem?_cons_succ]; rfl)
          go_simp
          skip
          (try go_wp2_with fail)
          refine hK.out _ _ ?_ (fun hHeld' => ?_)
          · (try dsimp only)
            exact ⟨s0, s1⟩
          clear hK K hHeld
          have hHeld := hHeld'
          clear hHeld'
          (try simp only [Act.put, List.setIfInBounds_toArray, List.set_cons_zero, List.set_cons_succ])
          refine tr 10 (fun K hK => ?_)
          go_simp
          go_at_call 41
          refine (KP.out).mono ?_
          rintro e w4 ⟨r2, m2, d2, rfl, hl2, ho2, hb4⟩
          have hb4' : Below w3.heap.size w3 w4 := (Below.refl _ _).drew.trans hb4
          have s0 := cell_later hb4' s0
          have s1 := cell_later hb4' s1
          (try go_wp2_with fail)
          refine hK.out _ _ ?_ (fun hHeld' => ?_)
          · (try dsimp only)
            exact ⟨s0, s1⟩
          clear hK K hHeld
          have hHeld := hHeld'
          clear hHeld'
          (try simp only [Act.put, List.setIfInBounds_toArray, List.set_cons_zero, List.set_cons_succ])
          refine tk 11 ?_
          obtain ⟨X, hX⟩ : ∃ u, u = w4.setCell ⟨G, t, none⟩ (.slice r2 m2 d2) := ⟨_, rfl⟩
          have HIX : Hid (RowsN X G (G + 1) (CS.set t D)) := Hid.mk (by rw [hX]; exact RowsN.turn HI3D.out (Nat.lt_succ_self _) hG3 hb4 htl hcG (by rw [← HINS.out]; exact hl2) (by rw [← HINS.out, hC]; exact ho2))
          have HFX : Hid (Off (fun b => b = G) V X) := Hid.mk (by rw [hX]; exact (HF3.out.trans (Off.below hb4')).trans (Off.set (F := fun b => b = G) (a := ⟨G, t, none⟩) rfl _))
          have HBX : Hid (Below w.heap.size w X) := Hid.mk (by rw [hX]; exact (HB3.out.trans (hb4'.mono HB3.out.size)).setCell (p := ⟨G, t, none⟩) hwG _)
          obtain ⟨_, _, _, q4, f4, _, _⟩ := (HI3D.out.below hb4).cell htl
          have s0 : X.cell? ⟨wY.heap.size, 0, none⟩ = some (.int .i64 (t : Int)) := by rw [hX]; exact keep_far s0 hYG
          have s1 : X.cell? ⟨wZ.heap.size, 0, none⟩ = some (.int .i64 y0) := by rw [hX]; exact keep_far s1 hZG
          refine tr 12 (fun K hK => ?_)
          go_simp
          rw [← hX]
          clear hX
          (try go_wp2_with fail)
          refine hK.out _ _ ?_ (fun hHeld' => ?_)
          · (try dsimp only)
            exact ⟨s0, s1⟩
          clear hK K hHeld hHeld'
          (try simp only [Act.put, List.setIfInBounds_toArray, List.set_cons_zero, List.set_cons_succ])
          refine wpAnyH_done (by kernel_rfl) ?_ _
          have HIN : Hid (RowsN X G (G + 1) (cfI ((t : Int), x1, x2) ((xs.drop (k + 1)).take (j + 1)) (cfO xs k))) := Hid.mk (by rw [HN.out]; exact HIX.out)
          go_wp2
          go_roundw
          case rel => exact ⟨j + 1, by omega, by go_num, HIN.out, HFX.out, HBX.out⟩
          case measure => simp [intOf]; omega
        · have hji : ¬ (j : Int) < ((n - p : Nat) : Int) := by omega
          have HIN : Hid (RowsN wZ G (G + 1) (cfO xs (k + 1))) := Hid.mk (by
            rw [hp, HSUC.out]
            rw [List.take_of_length_le (by rw [List.length_drop]; have := HZ.out; omega), hp] at hi
            exact hi)
          have hGZ : G + 1 ≤ wZ.heap.size := Nat.le_trans hGV hof.size
          have HB := Hid.mk hbw
          clear hi hof hbw
          go_wp2
          go_roundw
          case rel => exact ⟨k + 1, by omega, by go_num, HIN.out, hGZ, HB.out⟩
          case measure => simp [intOf]; omega
    · obtain rfl : k = n := by omega
      have hki : ¬ (k : Int) < (k : Int) := by omega
      have HIN : Hid (RowsN wY G (G + 1) (cfL xs)) := Hid.mk (by unfold cfL; rw [HZ.out]; exact hi)
      clear hi
      go_wp2
      go_ret
      exact ⟨⟨G, rfl, hwG, HIN.out⟩, hbw⟩

set_option maxRecDepth 100000 in
set_option maxHeartbeats 1000000 in
theorem specConflictsOf (a : Option Addr) (n c : Nat) (xs : List TStep) (w : World) (hz : xs.length = n) (hn : n ≤ 1048576) (hnc : n ≤ c) (ha : At w a (flStep xs)) :
    Calls Tryd.prog 7 #[.slice a n c] w fun e w' => KeysRet e w' w.heap.size (gpB xs) (cnL13 xs) ∧ Below w.heap.size w w' := by
  have KG := Hid.mk (specGoodSteps a n c xs w hz (by omega) ha)
  have HZ := Hid.mk hz
  have HA := Hid.mk ha
  clear hz ha
  go_enter Tryd.func7, Tryd.ntmps7
  go_wp2_with fail
  refine KG.out.mono ?_
  rintro e w1 ⟨rfl, hb1⟩
  clear KG
  cases hg : gpB xs with
  | false =>
    have HR : Hid (KeysRet (.returned (.tuple #[.slice none 0 0, .bool false])) w1 w.heap.size (gpB xs) (cnL13 xs)) := Hid.mk (by
      rw [hg, show cnL13 xs = [] by unfold cnL13; rw [hg]; rfl]
      exact ⟨none, 0, 0, rfl, ⟨none, 0, 0, [], fun _ _ => False, rfl, Laid.none _ _ _ _⟩⟩)
    go_wp2
    refine bodyPost_ret (v := .tuple #[.slice none 0 0, .bool false]) (by simp [results, Tryd.results7, go_sem]) rfl ⟨HR.out, hb1⟩
  | true =>
    have KC := Hid.mk (l13Conflicts_any a n c xs w1 HZ.out hnc hg (At.below HA.out hb1))
    have HL : Hid (cnL13 xs = (cfL xs).map bl) := Hid.mk (by unfold cnL13; rw [hg]; rfl)
    have HSX : Hid (Six (cfL xs)) := Hid.mk (cfO_six (fun y hy => (gp_txn hg y hy).2) _)
    have HG := Hid.mk hg
    have HB1 := Hid.mk hb1
    clear hg hb1
    go_wp2_with fail
    refine KC.out.mono ?_
    rintro e w2 ⟨⟨G, rfl, hwG, hi⟩, hb2⟩
    have HR : Hid (KeysRet (.returned (.tuple #[.slice (some ⟨G, 0, none⟩) 6 6, .bool true])) w2 w.heap.size (gpB xs) (cnL13 xs)) := Hid.mk (by
      rw [HG.out, HL.out]
      exact ⟨_, 6, 6, rfl, hi.own (Nat.lt_succ_self _) (Nat.le_trans HB1.out.size hwG) HSX.out.1 (by omega)⟩)
    have HB2 := Hid.mk (HB1.out.trans (hb2.mono HB1.out.size))
    clear KC hi hb2 HB1
    go_wp2
    refine bodyPost_ret (v := .tuple #[.slice (some ⟨G, 0, none⟩) 6 6, .bool true]) (by simp [results, Tryd.results7, go_sem]) rfl ⟨HR.out, HB2.out⟩

end Go.Proofs.YtociphdhkjoofaaDoor
