/- Contract of spec.l2Put. -/
import Derived.Test.YtipgepienagplaaM12
import Derived.Test.YtipgepienagplaaM10
import Derived.Test.YtipgepienagplaaM11
import Derived.Deep.AppendLies
namespace Go.Proofs.Ytipgepienagplaa
open Go.RowKit

theorem atM_cells {w : World} {b off : Nat} {ts : List WRow} (h : AtM w (some ⟨b, off, none⟩) ts) : ∃ cs, Means w cs ts ∧ ∀ j u, cs[j]? = some u → w.cell? ⟨b, off + j, none⟩ = some u := by
  rcases h with rfl | ⟨b', off', cs, he, hm, hc⟩
  · exact ⟨[], trivial, fun j u h => by simp at h⟩
  · simp only [Option.some.injEq, Addr.mk.injEq, and_true] at he
    obtain ⟨rfl, rfl⟩ := he
    exact ⟨cs, hm, hc⟩
theorem take_cells {cs : List Value} {w : World} {b off : Nat} (hc : ∀ j u, cs[j]? = some u → w.cell? ⟨b, off + j, none⟩ = some u) (k : Nat) : ∀ j u, (cs.take k)[j]? = some u → w.cell? ((⟨b, off, none⟩ : Addr).add j) = some u := fun j u hj => by
  rw [Addr.add_lit]
  refine hc j u ?_
  rw [List.getElem?_take] at hj
  split at hj
  · exact hj
  · cases hj
theorem drop_cells {cs : List Value} {w : World} {b off : Nat} (hc : ∀ j u, cs[j]? = some u → w.cell? ⟨b, off + j, none⟩ = some u) (k : Nat) : ∀ j u, (cs.drop k)[j]? = some u → w.cell? ((⟨b, off + k, none⟩ : Addr).add j) = some u := fun j u hj => by
  rw [Addr.add_lit]
  rw [List.getElem?_drop] at hj
  rw [show off + k + j = off + (k + j) by omega]
  exact hc _ _ hj
theorem owns_cap {w : World} {base : Nat} {e : TypeId} {size : Nat} {a : Option Addr} {n c : Nat} {xs : List Value} (h : w.ownsRow base e size (.slice a n c) n xs) : n ≤ c := by
  rcases h.2 with ⟨h', h0⟩ | ⟨g, cap, cur, h', _, _, h1, _⟩
  · simp at h'; omega
  · simp at h'; omega
/-- A slice's head as Go makes them. -/
def Formed (a : Option Addr) (n c : Nat) : Prop := n ≤ c ∧ (a = none → c = 0) ∧ ∀ ad, a = some ad → ∃ b off, ad = ⟨b, off, none⟩
theorem Formed.nil : Formed none 0 0 := ⟨Nat.le_refl _, fun _ => rfl, fun _ h => by cases h⟩
theorem Formed.some {b off n c : Nat} (h : n ≤ c) : Formed (Option.some ⟨b, off, none⟩) n c := ⟨h, fun h => (by cases h), fun ad h => ⟨b, off, by cases h; rfl⟩⟩
theorem owns_formed {w : World} {base : Nat} {e : TypeId} {size : Nat} {a : Option Addr} {n c : Nat} {xs : List Value} (h : w.ownsRow base e size (.slice a n c) n xs) : Formed a n c := by
  rcases h.2 with ⟨h', h0⟩ | ⟨g, cap, cur, h', _, _, h1, _⟩
  · simp at h'
    obtain ⟨rfl, rfl, rfl⟩ := h'
    exact Formed.nil
  · simp at h'
    obtain ⟨rfl, rfl⟩ := h'
    exact Formed.some h1
theorem oneW_no {zs : List Int} {x : Int} (h : x = 0) : oneW zs x = [] := if_pos h
theorem oneW_yes {zs : List Int} {x : Int} (h : x ≠ 0) : oneW zs x = [(zs, x)] := if_neg h

set_option maxRecDepth 100000 in
set_option maxHeartbeats 8000000 in
theorem l2Put_some (b off : Nat) (a' : Option Addr) (n m c c' : Nat) (ts : List WRow) (zs : List Int) (x : Int) (w : World) (hz : ts.length = n) (hz' : zs.length = m) (hn : n ≤ 1048576) (hcap : n ≤ c) (l6 : m ≤ 6) (hnil : a' = none → c' = 0)
    (hgr : ∀ k, k < n → (wat ts k).1.length ≤ 6 ∧ -4000000000000000000 ≤ (wat ts k).2 ∧ (wat ts k).2 ≤ 4000000000000000000) (hx1 : -4000000000000000000 ≤ x) (hx2 : x ≤ 4000000000000000000) (ha : AtM w (some ⟨b, off, none⟩) ts) (ha' : At w a' zs) :
    Calls Try.prog 53 #[.slice (some ⟨b, off, none⟩) n c, .agg #[.slice a' m c'], .int .i64 x] w fun e w' => ∃ r k d, e = .returned (.slice r k d) ∧ (putW ts zs x).length = k ∧ Formed r k d ∧ AtM w' r (putW ts zs x) ∧ Below w.heap.size w w' := by
  obtain ⟨i0, hi, hz0, hz1, hz2⟩ := info_parts Try.infoW
  obtain ⟨W, hW⟩ : ∃ W, W = w.alloc (.cells #[.slice a' m c'] 29) := ⟨_, rfl⟩
  have zW : W.heap.size = w.heap.size + 1 := by rw [hW]; simp
  have B0 : Below w.heap.size w W := by rw [hW]; exact (Below.refl _ _).alloc (Nat.le_refl _) _
  have r0 : W.cell? ⟨w.heap.size, 0, none⟩ = some (.slice a' m c') := by rw [hW]; simp
  have HR := ha'.below B0
  obtain ⟨cs, hme, hce⟩ := atM_cells (ha.below B0)
  have hcl := hme.length
  clear ha ha'
  go_enter Try.func53, Try.ntmps53
  go_wp2
  rw [← hW]
  clear hW
  go_loopw [7] (fun i wr => ∃ (k : Nat), k ≤ n ∧ i = .int .i64 k ∧ (∀ j, j < k → cmp (wat ts j).1 zs < 0) ∧ Below W.heap.size W wr) (fun i _ => n - (intOf i).toNat)
  case atStart => exact ⟨0, Nat.zero_le _, rfl, fun j hj => by omega, Below.refl _ _⟩
  case round =>
    obtain ⟨k, hk, rfl, hlow, hbw⟩ := hrel
    have B2 := B0.trans (hbw.mono B0.size)
    have r1 := cell_later hbw r0
    have HR1 := HR.below hbw
    have hme1 := hme.below hbw
    have hce1 : ∀ j u, cs[j]? = some u → wr.cell? ⟨b, off + j, none⟩ = some u := fun j u hj => cell_later hbw (hce j u hj)
    by_cases hlt : k < n
    · obtain ⟨q, d, k1, k2, k3, k0, hat⟩ := hme1.at k (by omega)
      have hcx := hce1 _ _ k1
      have hwx := hce1 _ _ k2
      have hgk := hgr k hlt
      have hki : (k : Int) < (n : Int) := by omega
      have HP := Hid.mk (putW_at zs x ts k (by omega) hlow)
      have HRC := Hid.mk (restW_cons zs x ts k (by omega))
      have HL := Hid.mk hlow
      obtain ⟨ys, hys⟩ : ∃ ys, ys = (wat ts k).1 := ⟨_, rfl⟩
      obtain ⟨y, hy⟩ : ∃ y, y = (wat ts k).2 := ⟨_, rfl⟩
      rw [← hys] at hcx hat hgk HRC
      rw [← hys] at HP
      rw [← hy] at hwx hgk HRC
      have HYS := Hid.mk hys
      obtain ⟨m2, hm2⟩ : ∃ m2, ys.length = m2 := ⟨_, rfl⟩
      rw [hm2] at hcx hgk
      have HM2 := Hid.mk hm2
      obtain ⟨hg6, hy1, hy2⟩ := hgk
      have hwx' : wr.cell? ⟨b, off + k * 2 + 1, none⟩ = some (.int .i64 y) := hwx
      have CX := Hid.mk hcx
      clear hm2 hys hy k1 k2 k3 k0 hwx hlow hme hce HR r0
      go_wp2_with fail
      refine wp_region_held_drew (S := fun w' => w'.cell? ⟨b, off + k * 2, none⟩ = some (.slice q m2 d) ∧ w'.cell? ⟨w.heap.size, 0, none⟩ = some (.slice a' m c')) (by kernel_rfl) ?_ (fun hHeld => ?_)
      · (try dsimp only)
        exact ⟨hcx, r1⟩
      refine tk 0 ?_
      refine tk 1 ?_
      refine tk 2 ?_
      refine tk 3 ?_
      refine tk 4 ?_
      refine tk 5 ?_
      refine tk 6 ?_
      refine tk 7 ?_
      refine tk 8 ?_
      refine tk 9 ?_
      refine tk 10 ?_
      refine tr 11 (fun K hK => ?_)
      go_simp
      go_at_call 95; refine (l1Compare_any _ _ _ _ _ _ ys zs _ HM2.out hz' hg6 l6 hat.drew HR1.drew).mono ?_; rintro e w2 ⟨rfl, hb2⟩; have e1 := cell_later hb2 hcx; have e2 := cell_later hb2 r1
      (try go_wp2_with fail)
      refine hK.out _ _ ?_ (fun hHeld' => ?_)
      · (try dsimp only)
        (refine ⟨?_, ?_⟩ <;> assumption)
      clear hK K hHeld
      have hHeld := hHeld'
      clear hHeld'
      (try simp only [Act.put, List.setIfInBounds_toArray, List.set_cons_zero, List.set_cons_succ])
      refine tk 12 ?_
      refine tk 13 ?_
      refine wpAnyH_done (by kernel_rfl) ?_ _
      have B3 : Below w.heap.size w w2 := B2.drew.trans (hb2.mono B2.size)
      have V3 : Below W.heap.size W w2 := hbw.drew.trans (hb2.mono hbw.size)
      by_cases hlss : cmp ys zs < 0
      · have HLS := Hid.mk hlss
        go_wp2
        go_roundw
        case rel => exact ⟨k + 1, by omega, by go_num, fun j hj => by
          by_cases e : j = k
          · subst e; rw [← HYS.out]; exact HLS.out
          · exact HL.out j (by omega), V3⟩
        case measure => simp [intOf]; omega

      · have V2 : Below wr.heap.size wr w2 := (Below.refl _ _).drew.trans hb2
        have hme2 := hme1.below V2
        have hce2 : ∀ j u, cs[j]? = some u → w2.cell? ⟨b, off + j, none⟩ = some u := fun j u hj => cell_later V2 (hce1 j u hj)
        have HR2 := HR1.below V2
        have r2 := e2
        have hat2 := hat.below V2
        have wx2 := cell_later V2 hwx'
        have HNL := Hid.mk hlss
        clear hlss e1 e2 hHeld hwx' hcx r1 HR1 hme1 hce1 hat V3
        have htl : (cs.take (k * 2)).length = k * 2 := by rw [List.length_take, hcl]; omega
        go_wp2_with (at_builtin;  refine wpList_append_any rfl (.tmp 26) (.tmp 29) 59 rfl w2.heap.size 123 i0 (.agg #[.slice none 0 0, .int .i64 0]) 2 32 Try.underlying59 hi hz0 hz1 hz2 rfl (by decide) (.slice none 0 0) 0 [] rfl (World.ownsRow_nil _ _ _ _) ⟨b, off, none⟩ k c (cs.take (k * 2)) rfl htl (take_cells hce2 _) (fun u hu => hme2.oneCell u (List.mem_of_mem_take hu)) (by unfold maxLen; omega) (by omega) (by first | exact Nat.le_refl _ | omega | (simp; omega)) ?_; intro r5 cap5 w5 hown5 hgrow5; have hb5 : Below w2.heap.size w2 w5 := (Below.refl _ _).grown hgrow5 (Nat.le_refl _) (by simp [Value.ownBlock]); have r5c := cell_later hb5 r2; have HR5 := HR2.below hb5; rw [Nat.zero_add] at hown5; rw [Nat.zero_add])
        rw [List.nil_append] at hown5
        refine (l2OwnRow_any _ _ _ zs _ hz' (by omega) hnil HR5).mono ?_
        rintro e w6 ⟨r6, d6, rfl, ho6, hb6⟩
        obtain ⟨V, hV⟩ : ∃ V, V = w6.alloc (.cells #[.slice r6 m d6, .int .i64 x] 123) := ⟨_, rfl⟩
        have B56 : Below w2.heap.size w2 w6 := hb5.trans (hb6.mono hb5.size)
        have BV : Below w2.heap.size w2 V := by rw [hV]; exact B56.alloc B56.size _
        have o9 : V.ownsRow w2.heap.size 123 2 (.slice r5 k cap5) k (cs.take (k * 2)) := by rw [hV]; exact (owns_below hown5 hb6).alloc _
        have ho9 : V.ownsRow w5.heap.size 3 1 (.slice r6 m d6) m (zs.map (.int .i64)) := by rw [hV]; exact ho6.alloc _
        have lt5 : ∀ j, (Value.slice r5 k cap5).ownBlock = some j → j < w5.heap.size := fun j hj => (hown5.lt j hj).2
        have lt6 : ∀ j, (Value.slice r6 m d6).ownBlock = some j → w5.heap.size ≤ j ∧ j < w6.heap.size := fun j hj => ho6.lt j hj
        have z9 := BV.size
        have z56 := hb6.size
        have z25 := hb5.size
        have zV : V.heap.size = w6.heap.size + 1 := by rw [hV]; simp
        have hap9 : (Value.slice r6 m d6).ownBlock = none ∨ (Value.slice r6 m d6).ownBlock ≠ (Value.slice r5 k cap5).ownBlock := by
          cases hv : (Value.slice r6 m d6).ownBlock with
          | none => exact .inl rfl
          | some j => exact .inr (fun e' => by have := lt5 j e'.symm; have := (lt6 j hv).1; omega)
        have q9 : V.heap[w6.heap.size]? = some (.cells #[.slice r6 m d6, .int .i64 x] 123 (0, 0)) := by rw [hV]; exact heap_alloc_new w6 _
        have c9 : V.cell? ⟨w6.heap.size, 0, none⟩ = some (.slice r6 m d6) := by rw [cell_of_row V _ 0 _ _ (0, 0) q9]; rfl
        have c9' : V.cell? ⟨w6.heap.size, 1, none⟩ = some (.int .i64 x) := by rw [cell_of_row V _ 1 _ _ (0, 0) q9]; rfl
        have f9 : V.frozen? ⟨w6.heap.size, 1, none⟩ = false := frozen_of_row V _ 1 _ _ q9
        have r9 := cell_later BV r2
        have HR9 := HR2.below BV
        have cx9 : V.cell? ⟨b, off + k * 2, none⟩ = some (.slice q m2 d) := cell_later (V2.trans (BV.mono V2.size)) CX.out
        have wx9 := cell_later BV wx2
        have hat9 := hat2.below BV
        go_wp2_with fail
        rw [← hV]
        clear hV
        refine wp_region_held_drew (S := fun w' => w'.cell? ⟨b, off + k * 2, none⟩ = some (.slice q m2 d) ∧ w'.cell? ⟨w.heap.size, 0, none⟩ = some (.slice a' m c')) (by kernel_rfl) ?_ (fun hHeld => ?_)
        · (try dsimp only)
          exact ⟨cx9, r9⟩
        refine tk 0 ?_
        refine tk 1 ?_
        refine tk 2 ?_
        refine tk 3 ?_
        refine tk 4 ?_
        refine tk 5 ?_
        refine tk 6 ?_
        refine tk 7 ?_
        refine tk 8 ?_
        refine tk 9 ?_
        refine tk 10 ?_
        refine tr 11 (fun K hK => ?_)
        go_simp
        go_at_call 95; refine (l1Compare_any _ _ _ _ _ _ ys zs _ HM2.out hz' hg6 l6 hat9.drew HR9.drew).mono ?_; rintro e w10 ⟨rfl, hb10⟩; have e1 := cell_later hb10 cx9; have e2 := cell_later hb10 r9
        (try go_wp2_with fail)
        refine hK.out _ _ ?_ (fun hHeld' => ?_)
        · (try dsimp only)
          (refine ⟨?_, ?_⟩ <;> assumption)
        clear hK K hHeld
        have hHeld := hHeld'
        clear hHeld'
        (try simp only [Act.put, List.setIfInBounds_toArray, List.set_cons_zero, List.set_cons_succ])
        refine tk 12 ?_
        refine tk 13 ?_
        refine wpAnyH_done (by kernel_rfl) ?_ _
        have V10 : Below V.heap.size V w10 := (Below.refl _ _).drew.trans hb10
        have BX : Below w2.heap.size w2 w10 := BV.trans (V10.mono BV.size)
        have o9 := owns_below o9 V10
        have ho9 := owns_below ho9 V10
        have c9 := cell_later V10 c9
        have f9 := frozen_later V10 c9' f9
        have c9' := cell_later V10 c9'
        have wx9 := cell_later V10 wx9
        have z10 := V10.size
        have HPW := HP.out (fun _ => HNL.out)
        rw [HRC.out] at HPW
        clear e1 e2 hHeld hb10 V10 cx9 r9 hat9 HR9
        by_cases hc0 : cmp ys zs = 0
        · have hcb : (cmp ys zs == 0) = true := by simp [hc0]
          rw [if_pos hc0] at HPW
          obtain ⟨k', hk'⟩ : ∃ k', k' = k + 1 := ⟨_, rfl⟩
          rw [← hk'] at HPW
          have hk1 : (k : Int) + 1 = (k' : Int) := by omega
          have hk2 : k' ≤ n := by omega
          have HK := Hid.mk hk'
          have HPUT := Hid.mk HPW
          clear hk'
          have hadd : IntKind.i64.wrap (x + y) = x + y := IntWalk.i64_in _ (by omega)
          have zb0 : b < w2.heap.size := World.block_lt_of_cell? _ _ wx2
          have zb : b ≠ w6.heap.size := by omega
          clear HPW hc0
          go_wp2_with fail
          refine wp_region_held_drew (S := fun w' => w'.cell? ⟨b, off + k * 2 + 1, none⟩ = some (.int .i64 y)) (by kernel_rfl) ?_ (fun hHeld => ?_)
          · (try dsimp only)
            exact wx9
          refine tk 0 ?_
          refine tk 2 ?_
          refine tk 3 ?_
          refine tk 4 ?_
          refine tk 5 ?_
          refine tk 6 ?_
          refine tr 1 (fun K hK => ?_)
          go_simp
          skip
          (try go_wp2_with fail)
          refine hK.out _ _ ?_ (fun hHeld' => ?_)
          · (try dsimp only)
            assumption
          clear hK K hHeld
          have hHeld := hHeld'
          clear hHeld'
          (try simp only [Act.put, List.setIfInBounds_toArray, List.set_cons_zero, List.set_cons_succ])
          refine tk 7 ?_
          refine tk 8 ?_
          refine tr 9 (fun K hK => ?_)
          go_simp
          skip
          (try go_wp2_with fail)
          refine hK.out _ _ ?_ (fun hHeld' => ?_)
          · (try dsimp only)
            exact keep_far wx9 zb
          clear hK K hHeld
          have hHeld := hHeld'
          clear hHeld'
          (try simp only [Act.put, List.setIfInBounds_toArray, List.set_cons_zero, List.set_cons_succ])
          refine wpAnyH_done (by kernel_rfl) ?_ _
          obtain ⟨U, hU⟩ : ∃ U, U = (w10.setCell ⟨w6.heap.size, 1, none⟩ (.int .i64 (x + y))).drew := ⟨_, rfl⟩
          have BU : Below w2.heap.size w2 U := by rw [hU]; exact (BX.setCell (by show w2.heap.size ≤ w6.heap.size; omega) _).drew
          have o9 : U.ownsRow w2.heap.size 123 2 (.slice r5 k cap5) k (cs.take (k * 2)) := by rw [hU]; exact World.ownsRow.drew (o9.kept (setCell_grown _ _ _) (by
            cases hv : (Value.slice r5 k cap5).ownBlock with
            | none => exact .inl rfl
            | some j => exact .inr (fun e' => by have := lt5 j hv; simp at e'; omega)))
          have ho9 : U.ownsRow w5.heap.size 3 1 (.slice r6 m d6) m (zs.map (.int .i64)) := by rw [hU]; exact World.ownsRow.drew (ho9.kept (setCell_grown _ _ _) (by
            cases hv : (Value.slice r6 m d6).ownBlock with
            | none => exact .inl rfl
            | some j => exact .inr (fun e' => by have := lt6 j hv; simp at e'; omega)))
          have c9 : U.cell? ⟨w6.heap.size, 0, none⟩ = some (.slice r6 m d6) := by rw [hU]; exact (World.cell?_setCell_other _ _ _ _ (by simp)).trans c9
          have c9' : U.cell? ⟨w6.heap.size, 1, none⟩ = some (.int .i64 (x + y)) := by rw [hU]; exact cell_set (w := w10) c9' _
          have z6v : w6.heap.size < U.heap.size := by rw [hU]; show _ < (w10.setCell _ _).heap.size; simp only [World.setCell, Array.size_modify]; omega
          rw [← hU]
          clear hU hHeld
          have hme9 := hme2.below BU
          have hce9 : ∀ j u, cs[j]? = some u → U.cell? ⟨b, off + j, none⟩ = some u := fun j u hj => cell_later BU (hce2 j u hj)
          have hdl : (cs.drop (k' * 2)).length = (n - k') * 2 := by rw [List.length_drop, hcl]; have := HK.out; omega
          have zv := BU.size
          obtain ⟨oE, hif, hdE⟩ : ∃ oE : Nat, (if c = k' then some (⟨b, off, none⟩ : Addr) else some ⟨b, off + k' * 2, none⟩) = some ⟨b, oE, none⟩ ∧ ∀ w0 : World, (∀ j u, cs[j]? = some u → w0.cell? ⟨b, off + j, none⟩ = some u) → ∀ j u, (cs.drop (k' * 2))[j]? = some u → w0.cell? ((⟨b, oE, none⟩ : Addr).add j) = some u := by
            by_cases e : c = k'
            · refine ⟨off, if_pos e, fun w0 _ j u hj => ?_⟩
              rw [List.drop_of_length_le (by rw [hcl]; have := HK.out; omega)] at hj
              cases hj
            · exact ⟨off + k' * 2, if_neg e, fun w0 h => drop_cells h _⟩
          have hka : k ≤ n := hk
          have hkb : k' ≤ n := by have := HK.out; omega
          obtain ⟨N7, hN7⟩ : ∃ N7, k + (n - k') = N7 := ⟨_, rfl⟩
          obtain ⟨N8, hN8⟩ : ∃ N8, k + 1 + (n - k') = N8 := ⟨_, rfl⟩
          have HN7 := Hid.mk hN7
          have HN8 := Hid.mk hN8
          clear hN7 hN8
          by_cases h0 : x + y = 0
          · have hne : (x + y != 0) = false := by simp [h0]
            have H0 := Hid.mk h0
            clear h0
            go_wp2_with (at_builtin;  refine wpList_append_any rfl (.tmp 67) (.tmp 70) 59 rfl w2.heap.size 123 i0 (.agg #[.slice none 0 0, .int .i64 0]) 2 32 Try.underlying59 hi hz0 hz1 hz2 rfl (by decide) (.slice r5 k cap5) k (cs.take (k * 2)) rfl o9 ⟨b, oE, none⟩ (n - k') (c - k') (cs.drop (k' * 2)) rfl hdl (hdE _ hce9) (fun u hu => hme9.oneCell u (List.mem_of_mem_drop hu)) (by unfold maxLen; omega) (by omega) (by first | exact Nat.le_refl _ | omega | (simp; omega)) ?_; intro r7 cap7 w7 hown7 hgrow7; rw [HN7.out] at hown7; rw [HN7.out])
            have hb7 : Below w2.heap.size w2 w7 := BU.grown hgrow7 zv (fun j hj => by have := (o9.lt j hj).1; omega)
            have hpl : putW ts zs x = ts.take k ++ ts.drop k' := by rw [HPUT.out, oneW_no H0.out]; simp
            have hln : (ts.take k ++ ts.drop k').length = N7 := by rw [List.length_append, List.length_take, List.length_drop]; have := HK.out; have := HN7.out; omega
            go_ret
            rw [hpl]
            exact ⟨_, _, _, rfl, hln, owns_formed hown7, (((hme2.below hb7).take k).append ((hme2.below hb7).drop k')).ownedM hln hown7, B3.trans (hb7.mono B3.size)⟩
          · have hne : (x + y != 0) = true := by simp [h0]
            have H0 := Hid.mk h0
            clear h0
            go_wp2_with (first | (at_builtin; refine wpList_append_lies _ rfl (.tmp 63) (.tmp 65) 59 rfl w2.heap.size 123 i0 (.agg #[.slice none 0 0, .int .i64 0]) 2 32 Try.underlying59 hi hz0 hz1 hz2 rfl (by decide) (.slice r5 k cap5) k (cs.take (k * 2)) rfl (o9.alloc _) ⟨U.heap.size, 0, none⟩ 1 1 [.slice r6 m d6, .int .i64 (x + y)] rfl rfl (by simpa using news_at U #[.slice r6 m d6, .int .i64 (x + y)] 123) (by intro u hu; simp at hu; rcases hu with rfl | rfl <;> rfl) (by decide) (by unfold maxLen; omega) (by omega) (by first | omega | (simp; omega)) (U.heap.size + 1) (by simp) ?_; intro g8 cap8 w8 hown8 hgrow8 hat8 hlt8; have hb8 : Below w2.heap.size w2 w8 := (BU.alloc zv _).grown hgrow8 (by simp; omega) (fun j hj => by have := (o9.lt j hj).1; omega); have hce8 : (∀ j u, cs[j]? = some u → w8.cell? ⟨b, off + j, none⟩ = some u) := (fun j u hj => cell_later hb8 (hce2 j u hj)); have hme8 := hme2.below hb8; have z8 := hb8.size; have o8 := (ho9.alloc _).kept hgrow8 hap9) | (at_builtin;  refine wpList_append_any rfl (.tmp 67) (.tmp 70) 59 rfl w2.heap.size 123 i0 (.agg #[.slice none 0 0, .int .i64 0]) 2 32 Try.underlying59 hi hz0 hz1 hz2 rfl (by decide) (.slice (some ⟨g8, 0, none⟩) (k + 1) cap8) (k + 1) (cs.take (k * 2) ++ [.slice r6 m d6, .int .i64 (x + y)]) rfl hown8 ⟨b, oE, none⟩ (n - k') (c - k') (cs.drop (k' * 2)) rfl hdl (hdE _ hce8) (fun u hu => hme8.oneCell u (List.mem_of_mem_drop hu)) (by unfold maxLen; omega) (by omega) (by first | exact Nat.le_refl _ | omega | (simp; omega)) ?_; intro r7 cap7 w7 hown7 hgrow7; rw [HN8.out] at hown7; rw [HN8.out]))
            have hb7 : Below w2.heap.size w2 w7 := hb8.grown hgrow7 z8 (fun j hj => by have := (hown8.lt j hj).1; omega)
            have o7 := o8.kept hgrow7 (by
              cases hv : (Value.slice r6 m d6).ownBlock with
              | none => exact .inl rfl
              | some j => exact .inr (fun e' => by
                have q6 := lt6 j hv
                simp only [Value.ownBlock, Option.some.injEq] at e'
                rcases hat8 with h8 | h8
                · have := lt5 _ h8; omega
                · have := zv; have := z6v; omega))
            have hpl : putW ts zs x = ts.take k ++ [(zs, x + y)] ++ ts.drop k' := by rw [HPUT.out, oneW_yes H0.out]; simp
            have hln : (ts.take k ++ [(zs, x + y)] ++ ts.drop k').length = N8 := by rw [List.length_append, List.length_append, List.length_take, List.length_drop, List.length_singleton]; have := HK.out; have := HN8.out; omega
            go_ret
            rw [hpl]
            exact ⟨_, _, _, rfl, hln, owns_formed hown7, ((((hme2.below hb7).take k).append (Means.one hz' (by omega) (owns_nil o7) (At.owned o7))).append ((hme2.below hb7).drop k')).ownedM hln hown7, B3.trans (hb7.mono B3.size)⟩
        · have hcb : (cmp ys zs == 0) = false := by simp [hc0]
          have z6v : w6.heap.size < w10.heap.size := by omega
          rw [if_neg hc0] at HPW
          have HPUT := Hid.mk HPW
          clear HPW hc0
          have hme9 := hme2.below BX
          have hce9 : ∀ j u, cs[j]? = some u → w10.cell? ⟨b, off + j, none⟩ = some u := fun j u hj => cell_later BX (hce2 j u hj)
          have hdl : (cs.drop (k * 2)).length = (n - k) * 2 := by rw [List.length_drop, hcl]; omega
          have zv := BX.size
          have hka : k ≤ n := hk
          have hkb : k ≤ n := by omega
          obtain ⟨N7, hN7⟩ : ∃ N7, k + (n - k) = N7 := ⟨_, rfl⟩
          obtain ⟨N8, hN8⟩ : ∃ N8, k + 1 + (n - k) = N8 := ⟨_, rfl⟩
          have HN7 := Hid.mk hN7
          have HN8 := Hid.mk hN8
          clear hN7 hN8
          by_cases h0 : x = 0
          · have hne : (x != 0) = false := by simp [h0]
            have H0 := Hid.mk h0
            clear h0
            go_wp2_with (at_builtin;  refine wpList_append_any rfl (.tmp 67) (.tmp 70) 59 rfl w2.heap.size 123 i0 (.agg #[.slice none 0 0, .int .i64 0]) 2 32 Try.underlying59 hi hz0 hz1 hz2 rfl (by decide) (.slice r5 k cap5) k (cs.take (k * 2)) rfl o9 ⟨b, off + k * 2, none⟩ (n - k) (c - k) (cs.drop (k * 2)) rfl hdl (drop_cells hce9 _) (fun u hu => hme9.oneCell u (List.mem_of_mem_drop hu)) (by unfold maxLen; omega) (by omega) (by first | exact Nat.le_refl _ | omega | (simp; omega)) ?_; intro r7 cap7 w7 hown7 hgrow7; rw [HN7.out] at hown7; rw [HN7.out])
            have hb7 : Below w2.heap.size w2 w7 := BX.grown hgrow7 zv (fun j hj => by have := (o9.lt j hj).1; omega)
            have hpl : putW ts zs x = ts.take k ++ ts.drop k := by rw [HPUT.out, oneW_no H0.out]; simp
            have hln : (ts.take k ++ ts.drop k).length = N7 := by rw [List.length_append, List.length_take, List.length_drop]; have := HN7.out; omega
            go_ret
            rw [hpl]
            exact ⟨_, _, _, rfl, hln, owns_formed hown7, (((hme2.below hb7).take k).append ((hme2.below hb7).drop k)).ownedM hln hown7, B3.trans (hb7.mono B3.size)⟩
          · have hne : (x != 0) = true := by simp [h0]
            have H0 := Hid.mk h0
            clear h0
            go_wp2_with (first | (at_builtin; refine wpList_append_lies _ rfl (.tmp 63) (.tmp 65) 59 rfl w2.heap.size 123 i0 (.agg #[.slice none 0 0, .int .i64 0]) 2 32 Try.underlying59 hi hz0 hz1 hz2 rfl (by decide) (.slice r5 k cap5) k (cs.take (k * 2)) rfl (o9.alloc _) ⟨w10.heap.size, 0, none⟩ 1 1 [.slice r6 m d6, .int .i64 (x)] rfl rfl (by simpa using news_at w10 #[.slice r6 m d6, .int .i64 (x)] 123) (by intro u hu; simp at hu; rcases hu with rfl | rfl <;> rfl) (by decide) (by unfold maxLen; omega) (by omega) (by first | omega | (simp; omega)) (w10.heap.size + 1) (by simp) ?_; intro g8 cap8 w8 hown8 hgrow8 hat8 hlt8; have hb8 : Below w2.heap.size w2 w8 := (BX.alloc zv _).grown hgrow8 (by simp; omega) (fun j hj => by have := (o9.lt j hj).1; omega); have hce8 : (∀ j u, cs[j]? = some u → w8.cell? ⟨b, off + j, none⟩ = some u) := (fun j u hj => cell_later hb8 (hce2 j u hj)); have hme8 := hme2.below hb8; have z8 := hb8.size; have o8 := (ho9.alloc _).kept hgrow8 hap9) | (at_builtin;  refine wpList_append_any rfl (.tmp 67) (.tmp 70) 59 rfl w2.heap.size 123 i0 (.agg #[.slice none 0 0, .int .i64 0]) 2 32 Try.underlying59 hi hz0 hz1 hz2 rfl (by decide) (.slice (some ⟨g8, 0, none⟩) (k + 1) cap8) (k + 1) (cs.take (k * 2) ++ [.slice r6 m d6, .int .i64 (x)]) rfl hown8 ⟨b, off + k * 2, none⟩ (n - k) (c - k) (cs.drop (k * 2)) rfl hdl (drop_cells hce8 _) (fun u hu => hme8.oneCell u (List.mem_of_mem_drop hu)) (by unfold maxLen; omega) (by omega) (by first | exact Nat.le_refl _ | omega | (simp; omega)) ?_; intro r7 cap7 w7 hown7 hgrow7; rw [HN8.out] at hown7; rw [HN8.out]))
            have hb7 : Below w2.heap.size w2 w7 := hb8.grown hgrow7 z8 (fun j hj => by have := (hown8.lt j hj).1; omega)
            have o7 := o8.kept hgrow7 (by
              cases hv : (Value.slice r6 m d6).ownBlock with
              | none => exact .inl rfl
              | some j => exact .inr (fun e' => by
                have q6 := lt6 j hv
                simp only [Value.ownBlock, Option.some.injEq] at e'
                rcases hat8 with h8 | h8
                · have := lt5 _ h8; omega
                · have := zv; have := z6v; omega))
            have hpl : putW ts zs x = ts.take k ++ [(zs, x)] ++ ts.drop k := by rw [HPUT.out, oneW_yes H0.out]; simp
            have hln : (ts.take k ++ [(zs, x)] ++ ts.drop k).length = N8 := by rw [List.length_append, List.length_append, List.length_take, List.length_drop, List.length_singleton]; have := HN8.out; omega
            go_ret
            rw [hpl]
            exact ⟨_, _, _, rfl, hln, owns_formed hown7, ((((hme2.below hb7).take k).append (Means.one hz' (by omega) (owns_nil o7) (At.owned o7))).append ((hme2.below hb7).drop k)).ownedM hln hown7, B3.trans (hb7.mono B3.size)⟩
    · obtain rfl : k = n := by omega
      have HPUT : Hid (putW ts zs x = ts.take k ++ (oneW zs x ++ ts.drop k)) := by
        show _ = _
        rw [putW_at zs x ts k (by omega) hlow (fun h => absurd h (by omega)), List.drop_of_length_le (by omega)]
        simp [restW]
      have hnp : decide (k < k) = false := by simp
      clear hlow
      go_wp2_with fail
      refine wp_region_held_drew (S := fun w' => w'.cell? ⟨w.heap.size, 0, none⟩ = some (.slice a' m c')) (by kernel_rfl) ?_ (fun hHeld => ?_)
      · (try dsimp only)
        exact r1
      refine tk 0 ?_
      refine tk 1 ?_
      refine tk 2 ?_
      refine tk 3 ?_
      refine tk 4 ?_
      refine tu 5 ?_
      refine tu 6 ?_
      refine tu 7 ?_
      refine tu 8 ?_
      refine tu 9 ?_
      refine tu 10 ?_
      refine tu 11 ?_
      refine tu 12 ?_
      refine tk 13 ?_
      refine wpAnyH_done (by kernel_rfl) ?_ _
      obtain ⟨w2, hw2⟩ : ∃ w2, w2 = wr.drew := ⟨_, rfl⟩
      have V2 : Below wr.heap.size wr w2 := by rw [hw2]; exact (Below.refl _ _).drew
      have hme2 := hme1.below V2
      have hce2 : ∀ j u, cs[j]? = some u → w2.cell? ⟨b, off + j, none⟩ = some u := fun j u hj => cell_later V2 (hce1 j u hj)
      have HR2 := HR1.below V2
      have r2 := cell_later V2 r1
      have B3 := B2.trans (V2.mono B2.size)
      rw [← hw2]
      clear hw2 hHeld hme1 hce1 HR1 r1 HR r0 hme hce
      have htl : (cs.take (k * 2)).length = k * 2 := by rw [List.length_take, hcl]; omega
      go_wp2_with (at_builtin;  refine wpList_append_any rfl (.tmp 26) (.tmp 29) 59 rfl w2.heap.size 123 i0 (.agg #[.slice none 0 0, .int .i64 0]) 2 32 Try.underlying59 hi hz0 hz1 hz2 rfl (by decide) (.slice none 0 0) 0 [] rfl (World.ownsRow_nil _ _ _ _) ⟨b, off, none⟩ k c (cs.take (k * 2)) rfl htl (take_cells hce2 _) (fun u hu => hme2.oneCell u (List.mem_of_mem_take hu)) (by unfold maxLen; omega) (by omega) (by first | exact Nat.le_refl _ | omega | (simp; omega)) ?_; intro r5 cap5 w5 hown5 hgrow5; have hb5 : Below w2.heap.size w2 w5 := (Below.refl _ _).grown hgrow5 (Nat.le_refl _) (by simp [Value.ownBlock]); have r5c := cell_later hb5 r2; have HR5 := HR2.below hb5; rw [Nat.zero_add] at hown5; rw [Nat.zero_add])
      rw [List.nil_append] at hown5
      refine (l2OwnRow_any _ _ _ zs _ hz' (by omega) hnil HR5).mono ?_
      rintro e w6 ⟨r6, d6, rfl, ho6, hb6⟩
      obtain ⟨V, hV⟩ : ∃ V, V = w6.alloc (.cells #[.slice r6 m d6, .int .i64 x] 123) := ⟨_, rfl⟩
      have B56 : Below w2.heap.size w2 w6 := hb5.trans (hb6.mono hb5.size)
      have BV : Below w2.heap.size w2 V := by rw [hV]; exact B56.alloc B56.size _
      have o9 : V.ownsRow w2.heap.size 123 2 (.slice r5 k cap5) k (cs.take (k * 2)) := by rw [hV]; exact (owns_below hown5 hb6).alloc _
      have ho9 : V.ownsRow w5.heap.size 3 1 (.slice r6 m d6) m (zs.map (.int .i64)) := by rw [hV]; exact ho6.alloc _
      have lt5 : ∀ j, (Value.slice r5 k cap5).ownBlock = some j → j < w5.heap.size := fun j hj => (hown5.lt j hj).2
      have lt6 : ∀ j, (Value.slice r6 m d6).ownBlock = some j → w5.heap.size ≤ j ∧ j < w6.heap.size := fun j hj => ho6.lt j hj
      have z9 := BV.size
      have z56 := hb6.size
      have z25 := hb5.size
      have zV : V.heap.size = w6.heap.size + 1 := by rw [hV]; simp
      have hap9 : (Value.slice r6 m d6).ownBlock = none ∨ (Value.slice r6 m d6).ownBlock ≠ (Value.slice r5 k cap5).ownBlock := by
        cases hv : (Value.slice r6 m d6).ownBlock with
        | none => exact .inl rfl
        | some j => exact .inr (fun e' => by have := lt5 j e'.symm; have := (lt6 j hv).1; omega)
      have q9 : V.heap[w6.heap.size]? = some (.cells #[.slice r6 m d6, .int .i64 x] 123 (0, 0)) := by rw [hV]; exact heap_alloc_new w6 _
      have c9 : V.cell? ⟨w6.heap.size, 0, none⟩ = some (.slice r6 m d6) := by rw [cell_of_row V _ 0 _ _ (0, 0) q9]; rfl
      have c9' : V.cell? ⟨w6.heap.size, 1, none⟩ = some (.int .i64 x) := by rw [cell_of_row V _ 1 _ _ (0, 0) q9]; rfl
      have f9 : V.frozen? ⟨w6.heap.size, 1, none⟩ = false := frozen_of_row V _ 1 _ _ q9
      have r9 := cell_later BV r2
      have HR9 := HR2.below BV
      have q9' := Hid.mk q9
      clear q9
      go_wp2_with fail
      rw [← hV]
      clear hV
      refine wp_region_held_drew (S := fun w' => w'.cell? ⟨w.heap.size, 0, none⟩ = some (.slice a' m c')) (by kernel_rfl) ?_ (fun hHeld => ?_)
      · (try dsimp only)
        exact r9
      refine tk 0 ?_
      refine tk 1 ?_
      refine tk 2 ?_
      refine tk 3 ?_
      refine tk 4 ?_
      refine tu 5 ?_
      refine tu 6 ?_
      refine tu 7 ?_
      refine tu 8 ?_
      refine tu 9 ?_
      refine tu 10 ?_
      refine tu 11 ?_
      refine tu 12 ?_
      refine tk 13 ?_
      refine wpAnyH_done (by kernel_rfl) ?_ _
      obtain ⟨U, hU⟩ : ∃ U, U = V.drew := ⟨_, rfl⟩
      have VU : Below V.heap.size V U := by rw [hU]; exact (Below.refl _ _).drew
      have BX : Below w2.heap.size w2 U := BV.trans (VU.mono BV.size)
      have z6v : w6.heap.size < U.heap.size := by rw [hU]; show _ < V.heap.size; omega
      have o9 := owns_below o9 VU
      have ho9 := owns_below ho9 VU
      have c9 := cell_later VU c9
      have c9' := cell_later VU c9'
      rw [← hU]
      clear hHeld hU
      have hme9 := hme2.below BX
      have hce9 : ∀ j u, cs[j]? = some u → U.cell? ⟨b, off + j, none⟩ = some u := fun j u hj => cell_later BX (hce2 j u hj)
      have hdl : (cs.drop (k * 2)).length = 0 * 2 := by rw [List.length_drop, hcl]; omega
      have zv := BX.size
      obtain ⟨oE, hif, hdE⟩ : ∃ oE : Nat, (if c = k then some (⟨b, off, none⟩ : Addr) else some ⟨b, off + k * 2, none⟩) = some ⟨b, oE, none⟩ ∧ ∀ w0 : World, (∀ j u, cs[j]? = some u → w0.cell? ⟨b, off + j, none⟩ = some u) → ∀ j u, (cs.drop (k * 2))[j]? = some u → w0.cell? ((⟨b, oE, none⟩ : Addr).add j) = some u := by
        by_cases e : c = k
        · refine ⟨off, if_pos e, fun w0 _ j u hj => ?_⟩
          rw [List.drop_of_length_le (by rw [hcl]; omega)] at hj
          cases hj
        · exact ⟨off + k * 2, if_neg e, fun w0 h => drop_cells h _⟩
      have hka : k ≤ k := hk
      have hkb : k ≤ k := by omega
      obtain ⟨N7, hN7⟩ : ∃ N7, k + 0 = N7 := ⟨_, rfl⟩
      obtain ⟨N8, hN8⟩ : ∃ N8, k + 1 + 0 = N8 := ⟨_, rfl⟩
      have HN7 := Hid.mk hN7
      have HN8 := Hid.mk hN8
      clear hN7 hN8
      by_cases h0 : x = 0
      · have hne : (x != 0) = false := by simp [h0]
        have H0 := Hid.mk h0
        clear h0
        go_wp2_with (at_builtin;  refine wpList_append_any rfl (.tmp 67) (.tmp 70) 59 rfl w2.heap.size 123 i0 (.agg #[.slice none 0 0, .int .i64 0]) 2 32 Try.underlying59 hi hz0 hz1 hz2 rfl (by decide) (.slice r5 k cap5) k (cs.take (k * 2)) rfl o9 ⟨b, oE, none⟩ 0 (c - k) (cs.drop (k * 2)) rfl hdl (hdE _ hce9) (fun u hu => hme9.oneCell u (List.mem_of_mem_drop hu)) (by unfold maxLen; omega) (by omega) (by first | exact Nat.le_refl _ | omega | (simp; omega)) ?_; intro r7 cap7 w7 hown7 hgrow7; rw [HN7.out] at hown7; rw [HN7.out])
        have hb7 : Below w2.heap.size w2 w7 := BX.grown hgrow7 zv (fun j hj => by have := (o9.lt j hj).1; omega)
        have hpl : putW ts zs x = ts.take k ++ ts.drop k := by rw [HPUT.out, oneW_no H0.out]; simp
        have hln : (ts.take k ++ ts.drop k).length = N7 := by rw [List.length_append, List.length_take, List.length_drop]; have := HN7.out; omega
        go_ret
        rw [hpl]
        exact ⟨_, _, _, rfl, hln, owns_formed hown7, (((hme2.below hb7).take k).append ((hme2.below hb7).drop k)).ownedM hln hown7, B3.trans (hb7.mono B3.size)⟩
      · have hne : (x != 0) = true := by simp [h0]
        have H0 := Hid.mk h0
        clear h0
        go_wp2_with (first | (at_builtin; refine wpList_append_lies _ rfl (.tmp 63) (.tmp 65) 59 rfl w2.heap.size 123 i0 (.agg #[.slice none 0 0, .int .i64 0]) 2 32 Try.underlying59 hi hz0 hz1 hz2 rfl (by decide) (.slice r5 k cap5) k (cs.take (k * 2)) rfl (o9.alloc _) ⟨U.heap.size, 0, none⟩ 1 1 [.slice r6 m d6, .int .i64 (x)] rfl rfl (by simpa using news_at U #[.slice r6 m d6, .int .i64 (x)] 123) (by intro u hu; simp at hu; rcases hu with rfl | rfl <;> rfl) (by decide) (by unfold maxLen; omega) (by omega) (by first | omega | (simp; omega)) (U.heap.size + 1) (by simp) ?_; intro g8 cap8 w8 hown8 hgrow8 hat8 hlt8; have hb8 : Below w2.heap.size w2 w8 := (BX.alloc zv _).grown hgrow8 (by simp; omega) (fun j hj => by have := (o9.lt j hj).1; omega); have hce8 : (∀ j u, cs[j]? = some u → w8.cell? ⟨b, off + j, none⟩ = some u) := (fun j u hj => cell_later hb8 (hce2 j u hj)); have hme8 := hme2.below hb8; have z8 := hb8.size; have o8 := (ho9.alloc _).kept hgrow8 hap9) | (at_builtin;  refine wpList_append_any rfl (.tmp 67) (.tmp 70) 59 rfl w2.heap.size 123 i0 (.agg #[.slice none 0 0, .int .i64 0]) 2 32 Try.underlying59 hi hz0 hz1 hz2 rfl (by decide) (.slice (some ⟨g8, 0, none⟩) (k + 1) cap8) (k + 1) (cs.take (k * 2) ++ [.slice r6 m d6, .int .i64 (x)]) rfl hown8 ⟨b, oE, none⟩ 0 (c - k) (cs.drop (k * 2)) rfl hdl (hdE _ hce8) (fun u hu => hme8.oneCell u (List.mem_of_mem_drop hu)) (by unfold maxLen; omega) (by omega) (by first | exact Nat.le_refl _ | omega | (simp; omega)) ?_; intro r7 cap7 w7 hown7 hgrow7; rw [HN8.out] at hown7; rw [HN8.out]))
        have hb7 : Below w2.heap.size w2 w7 := hb8.grown hgrow7 z8 (fun j hj => by have := (hown8.lt j hj).1; omega)
        have o7 := o8.kept hgrow7 (by
          cases hv : (Value.slice r6 m d6).ownBlock with
          | none => exact .inl rfl
          | some j => exact .inr (fun e' => by
            have q6 := lt6 j hv
            simp only [Value.ownBlock, Option.some.injEq] at e'
            rcases hat8 with h8 | h8
            · have := lt5 _ h8; omega
            · have := zv; have := z6v; omega))
        have hpl : putW ts zs x = ts.take k ++ [(zs, x)] ++ ts.drop k := by rw [HPUT.out, oneW_yes H0.out]; simp
        have hln : (ts.take k ++ [(zs, x)] ++ ts.drop k).length = N8 := by rw [List.length_append, List.length_append, List.length_take, List.length_drop, List.length_singleton]; have := HN8.out; omega
        go_ret
        rw [hpl]
        exact ⟨_, _, _, rfl, hln, owns_formed hown7, ((((hme2.below hb7).take k).append (Means.one hz' (by omega) (owns_nil o7) (At.owned o7))).append ((hme2.below hb7).drop k)).ownedM hln hown7, B3.trans (hb7.mono B3.size)⟩
set_option maxRecDepth 100000 in
set_option maxHeartbeats 8000000 in
theorem l2Put_none (a' : Option Addr) (n m c c' : Nat) (ts : List WRow) (zs : List Int) (x : Int) (w : World) (hz : ts.length = n) (hz' : zs.length = m) (hn : n ≤ 1048576) (hcap : n ≤ c) (l6 : m ≤ 6) (hnil : a' = none → c' = 0)
    (hgr : ∀ k, k < n → (wat ts k).1.length ≤ 6 ∧ -4000000000000000000 ≤ (wat ts k).2 ∧ (wat ts k).2 ≤ 4000000000000000000) (_hx1 : -4000000000000000000 ≤ x) (_hx2 : x ≤ 4000000000000000000) (hc0 : (none : Option Addr) = none → c = 0) (ha : AtM w none ts) (ha' : At w a' zs) :
    Calls Try.prog 53 #[.slice none n c, .agg #[.slice a' m c'], .int .i64 x] w fun e w' => ∃ r k d, e = .returned (.slice r k d) ∧ (putW ts zs x).length = k ∧ Formed r k d ∧ AtM w' r (putW ts zs x) ∧ Below w.heap.size w w' := by
  obtain ⟨i0, hi, hz0, hz1, hz2⟩ := info_parts Try.infoW
  obtain rfl : ts = [] := by
    rcases ha with h | ⟨_, _, _, h, _⟩
    · exact h
    · cases h
  obtain rfl : n = 0 := by simpa using hz.symm
  obtain rfl : c = 0 := hc0 rfl
  obtain ⟨W, hW⟩ : ∃ W, W = w.alloc (.cells #[.slice a' m c'] 29) := ⟨_, rfl⟩
  have zW : W.heap.size = w.heap.size + 1 := by rw [hW]; simp
  have B0 : Below w.heap.size w W := by rw [hW]; exact (Below.refl _ _).alloc (Nat.le_refl _) _
  have r0 : W.cell? ⟨w.heap.size, 0, none⟩ = some (.slice a' m c') := by rw [hW]; simp
  have HR := ha'.below B0
  clear ha ha' hgr hz
  go_enter Try.func53, Try.ntmps53
  go_wp2
  rw [← hW]
  clear hW
  refine wp_loop_rounds 1 ?_
  rw [rounds_succ]
  go_wp2_with fail
  refine wp_region_held_drew (S := fun w' => w'.cell? ⟨w.heap.size, 0, none⟩ = some (.slice a' m c')) (by kernel_rfl) ?_ (fun hHeld => ?_)
  · (try dsimp only)
    exact r0
  refine tk 0 ?_
  refine tk 1 ?_
  refine tk 2 ?_
  refine tk 3 ?_
  refine tk 4 ?_
  refine tu 5 ?_
  refine tu 6 ?_
  refine tu 7 ?_
  refine tu 8 ?_
  refine tu 9 ?_
  refine tu 10 ?_
  refine tu 11 ?_
  refine tu 12 ?_
  refine tk 13 ?_
  refine wpAnyH_done (by kernel_rfl) ?_ _
  obtain ⟨w2, hw2⟩ : ∃ w2, w2 = W.drew := ⟨_, rfl⟩
  have V2 : Below W.heap.size W w2 := by rw [hw2]; exact (Below.refl _ _).drew
  have HR2 := HR.below V2
  have r2 := cell_later V2 r0
  have B3 := B0.trans (V2.mono B0.size)
  rw [← hw2]
  clear hw2 hHeld HR r0
  go_wp2_with (at_builtin; refine wpList_append_own_none rfl (.tmp 26) (.tmp 29) 59 rfl w2.heap.size 123 i0 2 Try.underlying59 hi (.slice none 0 0) 0 [] rfl (World.ownsRow_nil _ _ _ _) rfl ?_)
  refine (l2OwnRow_any _ _ _ zs _ hz' (by omega) hnil HR2).mono ?_
  rintro e w6 ⟨r6, d6, rfl, ho6, hb6⟩
  obtain ⟨V, hV⟩ : ∃ V, V = w6.alloc (.cells #[.slice r6 m d6, .int .i64 x] 123) := ⟨_, rfl⟩
  have BV : Below w2.heap.size w2 V := by rw [hV]; exact hb6.alloc hb6.size _
  have ho9 : V.ownsRow w2.heap.size 3 1 (.slice r6 m d6) m (zs.map (.int .i64)) := by rw [hV]; exact ho6.alloc _
  have c9 : V.cell? ⟨w6.heap.size, 0, none⟩ = some (.slice r6 m d6) := by rw [hV]; exact pair0 _ _ _ _
  have c9' : V.cell? ⟨w6.heap.size, 1, none⟩ = some (.int .i64 x) := by rw [hV]; exact pair1 _ _ _ _
  have zV : V.heap.size = w6.heap.size + 1 := by rw [hV]; simp
  have lt6 : ∀ j, (Value.slice r6 m d6).ownBlock = some j → j < w6.heap.size := fun j hj => (ho6.lt j hj).2
  have r9 := cell_later BV r2
  have z26 := hb6.size
  go_wp2_with fail
  rw [← hV]
  clear hV
  refine wp_region_held_drew (S := fun w' => w'.cell? ⟨w.heap.size, 0, none⟩ = some (.slice a' m c')) (by kernel_rfl) ?_ (fun hHeld => ?_)
  · (try dsimp only)
    exact r9
  refine tk 0 ?_
  refine tk 1 ?_
  refine tk 2 ?_
  refine tk 3 ?_
  refine tk 4 ?_
  refine tu 5 ?_
  refine tu 6 ?_
  refine tu 7 ?_
  refine tu 8 ?_
  refine tu 9 ?_
  refine tu 10 ?_
  refine tu 11 ?_
  refine tu 12 ?_
  refine tk 13 ?_
  refine wpAnyH_done (by kernel_rfl) ?_ _
  obtain ⟨U, hU⟩ : ∃ U, U = V.drew := ⟨_, rfl⟩
  have VU : Below V.heap.size V U := by rw [hU]; exact (Below.refl _ _).drew
  have BX : Below w2.heap.size w2 U := BV.trans (VU.mono BV.size)
  have ho9 := owns_below ho9 VU
  have c9 := cell_later VU c9
  have c9' := cell_later VU c9'
  have zU := VU.size
  have zX := BX.size
  rw [← hU]
  clear hHeld hU
  by_cases h0 : x = 0
  · have hne : (x != 0) = false := by simp [h0]
    have H0 := Hid.mk h0
    clear h0
    go_wp2_with (at_builtin; refine wpList_append_own_none rfl (.tmp 67) (.tmp 70) 59 rfl w2.heap.size 123 i0 2 Try.underlying59 hi (.slice none 0 0) 0 [] rfl (World.ownsRow_nil _ _ _ _) rfl ?_)
    go_ret
    have hp : putW [] zs x = [] := oneW_no H0.out
    rw [hp]
    exact ⟨_, _, _, rfl, rfl, Formed.nil, atM_nil _ _, B3.trans (BX.mono B3.size)⟩
  · have hne : (x != 0) = true := by simp [h0]
    have H0 := Hid.mk h0
    clear h0
    go_wp2_with (first | (at_builtin; refine wpList_append_lies _ rfl (.tmp 63) (.tmp 65) 59 rfl w2.heap.size 123 i0 (.agg #[.slice none 0 0, .int .i64 0]) 2 32 Try.underlying59 hi hz0 hz1 hz2 rfl (by decide) (.slice none 0 0) 0 [] rfl (World.ownsRow_nil _ _ _ _) ⟨U.heap.size, 0, none⟩ 1 1 [.slice r6 m d6, .int .i64 x] rfl rfl (by simpa using news_at U #[.slice r6 m d6, .int .i64 x] 123) (by intro u hu; simp at hu; rcases hu with rfl | rfl <;> rfl) (by decide) (by unfold maxLen; omega) (by omega) (by first | omega | (simp; omega)) (U.heap.size + 1) (by simp) ?_; intro g8 cap8 w8 hown8 hgrow8 hat8 hlt8; rw [Nat.zero_add] at hown8; rw [Nat.zero_add]) | (at_builtin; refine wpList_append_own_none rfl (.tmp 67) (.tmp 70) 59 rfl w2.heap.size 123 i0 2 Try.underlying59 hi (.slice (some ⟨g8, 0, none⟩) 1 cap8) 1 _ rfl hown8 rfl ?_))
    have o8 := (ho9.alloc (.cells #[.slice r6 m d6, .int .i64 x] 123)).kept hgrow8 (by
      cases hv : (Value.slice r6 m d6).ownBlock with
      | none => exact .inl rfl
      | some j => exact .inr (fun e' => by cases e'))
    have hb8 : Below w2.heap.size w2 w8 := (BX.alloc zX _).grown hgrow8 (by simp; omega) (fun j hj => by simp [Value.ownBlock] at hj)
    have hp : putW [] zs x = [(zs, x)] := oneW_yes H0.out
    go_ret
    rw [hp]
    exact ⟨_, _, _, rfl, rfl, owns_formed hown8, (Means.one hz' (by omega) (owns_nil o8) (At.owned o8)).ownedM rfl hown8, B3.trans (hb8.mono B3.size)⟩

theorem l2Put_any (a a' : Option Addr) (n m c c' : Nat) (ts : List WRow) (zs : List Int) (x : Int) (w : World) (hz : ts.length = n) (hz' : zs.length = m) (hn : n ≤ 1048576) (hF : Formed a n c) (l6 : m ≤ 6) (hnil : a' = none → c' = 0)
    (hgr : ∀ k, k < n → (wat ts k).1.length ≤ 6 ∧ -4000000000000000000 ≤ (wat ts k).2 ∧ (wat ts k).2 ≤ 4000000000000000000) (hx1 : -4000000000000000000 ≤ x) (hx2 : x ≤ 4000000000000000000) (ha : AtM w a ts) (ha' : At w a' zs) :
    Calls Try.prog 53 #[.slice a n c, .agg #[.slice a' m c'], .int .i64 x] w fun e w' => ∃ r k d, e = .returned (.slice r k d) ∧ (putW ts zs x).length = k ∧ Formed r k d ∧ AtM w' r (putW ts zs x) ∧ Below w.heap.size w w' := by
  cases a with
  | none => exact l2Put_none a' n m c c' ts zs x w hz hz' hn hF.1 l6 hnil hgr hx1 hx2 hF.2.1 ha ha'
  | some ad =>
    obtain ⟨b, off, rfl⟩ := hF.2.2 ad rfl
    exact l2Put_some b off a' n m c c' ts zs x w hz hz' hn hF.1 l6 hnil hgr hx1 hx2 ha ha'

end Go.Proofs.Ytipgepienagplaa
