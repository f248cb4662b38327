/- The law FnExactWeightOf returns true at every table and row, and writes nothing that was there. -/
import Derived.Test.YtlhidfjoeimicaaTableE
import Derived.Test.YtlhidfjoeimicaaWeightOf
namespace Go.Proofs.Ytlhidfjoeimicaa
open Go.RowKit

set_option maxHeartbeats 4000000 in
theorem lawWeightOf (a : Option Addr) (n c : Nat) (ts : List WRow) (p : Int) (a' : Option Addr) (n' c' : Nat) (zs : List Int) (w : World) (hz : ts.length = n) (hn : n ≤ 9223372036854775807) (ha : AtW w a ts) (hz' : zs.length = n') (hn' : n' ≤ 9223372036854775807) (ha' : At w a' zs) :
    Calls Try.prog 7 #[.agg #[.int .i64 p, .slice a n c], .agg #[.slice a' n' c']] w fun e w' => e = .returned (.bool true) ∧ Below w.heap.size w w' := by
  obtain ⟨W, hW⟩ : ∃ W, W = (w.alloc (.cells #[.int .i64 p, .slice a n c] 36)).alloc (.cells #[.slice a' n' c'] 46) := ⟨_, rfl⟩
  have B0 : Below w.heap.size w W := by rw [hW]; exact ((Below.refl _ _).alloc (Nat.le_refl _) _).alloc (by simp) _
  have c0 : W.cell? ⟨w.heap.size, 1, none⟩ = some (.slice a n c) := by rw [hW]; simp
  have d0 : W.cell? ⟨w.heap.size, 0, none⟩ = some (.int .i64 p) := by rw [hW]; simp
  have r0 : W.cell? ⟨w.heap.size + 1, 0, none⟩ = some (.slice a' n' c') := by rw [hW]; simp
  obtain ⟨A, hA⟩ : ∃ A, weightAns p ts zs = A := ⟨_, rfl⟩
  obtain ⟨O, hO⟩ : ∃ O, okW p ts zs = O := ⟨_, rfl⟩
  have HAN := Hid.mk hA
  have HOK := Hid.mk hO
  clear hA hO
  by_cases hbig : (1048576 : Int) < wtot ts n
  · go_enter Try.func7, Try.ntmps7
    go_wp2_with fail
    rw [← hW]
    clear hW
    refine (szTable_any _ _ _ ts _ _ _ hz hn (by omega) (by omega) (ha.below B0)).mono ?_
    rintro e w1 ⟨rfl, hb1⟩
    rw [leftOf_no hbig]
    go_wp2
    go_ret
    exact ⟨rfl, B0.trans (hb1.mono B0.size)⟩
  · have hsm : n ≤ 1048576 := by have := wtot_len ts n (by omega); omega
    have hss : ∀ i, i < n → (wat ts i).1.length ≤ 1048576 := fun i hi => by have := wtot_each ts n hz i hi; omega
    have hsx : ∀ i, i < n → (wat ts i).1.length ≤ 9223372036854775807 := fun i hi => Nat.le_trans (hss i hi) (by decide)
    have hl : ¬ (1048576 : Int) - wtot ts n < 0 := by omega
    obtain ⟨T, hT⟩ : ∃ T : Nat, wtot ts n = T := ⟨_, rfl⟩
    rw [hT] at hbig hl
    have HT := Hid.mk hT
    clear hT
    by_cases hbig' : (1048576 : Int) - T < n'
    · go_enter Try.func7, Try.ntmps7
      go_wp2_with fail
      rw [← hW]
      clear hW
      refine (szTable_any _ _ _ ts _ _ _ hz hn (by omega) (by omega) (ha.below B0)).mono ?_
      rintro e w1 ⟨rfl, hb1⟩
      rw [leftOf_yes (by rw [HT.out]; omega), HT.out]
      have r1 := cell_later hb1 r0
      have B1 := B0.trans (hb1.mono B0.size)
      clear hb1 c0 d0 r0 B0
      go_wp2_with fail
      refine (szRow_any _ _ _ _ _ hn' (by omega) (by omega)).mono ?_
      rintro e w2 ⟨rfl, hb2⟩
      rw [if_pos hbig']
      go_wp2
      go_ret
      exact ⟨rfl, B1.trans (hb2.mono B1.size)⟩
    · have hsm' : n' ≤ 1048576 := by omega
      have hl' : ¬ (1048576 : Int) - T - n' < 0 := by omega
      go_enter Try.func7, Try.ntmps7
      go_wp2_with fail
      rw [← hW]
      clear hW
      refine (szTable_any _ _ _ ts _ _ _ hz hn (by omega) (by omega) (ha.below B0)).mono ?_
      rintro e w1 ⟨rfl, hb1⟩
      rw [leftOf_yes (by rw [HT.out]; omega), HT.out]
      have c1 := cell_later hb1 c0
      have d1 := cell_later hb1 d0
      have r1 := cell_later hb1 r0
      have B1 := B0.trans (hb1.mono B0.size)
      clear hb1 c0 d0 r0 B0
      go_wp2_with fail
      refine (szRow_any _ _ _ _ _ hn' (by omega) (by omega)).mono ?_
      rintro e w2 ⟨rfl, hb2⟩
      rw [if_neg (by omega)]
      have c2 := cell_later hb2 c1
      have d2 := cell_later hb2 d1
      have r2 := cell_later hb2 r1
      have B2 := B1.trans (hb2.mono B1.size)
      clear hb2 c1 d1 r1 B1
      go_wp2_with fail
      go_region_held3 (fun w' => w'.cell? ⟨w.heap.size, 0, none⟩ = some (.int .i64 p) ∧ w'.cell? ⟨w.heap.size, 1, none⟩ = some (.slice a n c) ∧ w'.cell? ⟨w.heap.size + 1, 0, none⟩ = some (.slice a' n' c')) (refine ⟨?_, ?_, ?_⟩ <;> assumption)
        (first
          | (go_at_call 20; refine (toTable_any _ _ _ ts _ _ hz hsm hss (ha.below B2.drew)).mono ?_; rintro e w3 ⟨g3, cs3, rfl, ho3, hb3⟩; have c3 := cell_later hb3 c2; have d3 := cell_later hb3 d2; have r3 := cell_later hb3 r2; have B3 := B2.drew.trans (hb3.mono B2.size))
          | (go_at_call 28; refine (toRow_any _ _ _ zs _ hz' hsm' (ha'.below B3)).mono ?_; rintro e w4 ⟨g4, rfl, ho4, hb4⟩; have c4 := cell_later hb4 c3; have d4 := cell_later hb4 d3; have r4 := cell_later hb4 r3; have B4 := B3.trans (hb4.mono B3.size))
          | (go_at_call 27; refine (specWeightOf_any _ _ _ _ _ _ ts _ zs _ hz hz' hsm hsm' ((ho3.below hb4).atW hsx) (At.owned ho4)).mono ?_; rintro e w5 ⟨rfl, hb5⟩; rw [HAN.out, HOK.out]; have c5 := cell_later hb5 c4; have d5 := cell_later hb5 d4; have r5 := cell_later hb5 r4; have B5 := B4.trans (hb5.mono B4.size)))
      clear hb3 hb4 hb5 c2 d2 r2 c3 d3 r3 c4 d4 r4 B2 B3 B4 ho3 ho4
      go_wp2_with fail
      refine (toTable_any _ _ _ ts _ _ hz hsm hss (ha.below B5)).mono ?_
      rintro e w6 ⟨g6, cs6, rfl, ho6, hb6⟩
      have c6 := cell_later hb6 c5
      have d6 := cell_later hb6 d5
      have r6 := cell_later hb6 r5
      have B6 := B5.trans (hb6.mono B5.size)
      clear hb6 c5 d5 r5 B5
      have ba : Below w6.heap.size w6 (w6.alloc (.cells #[.int .i64 p, .slice (some ⟨g6, 0, none⟩) n n] 26)) := (Below.refl _ _).alloc (Nat.le_refl _) _
      have c7 := cell_later ba c6
      have d7 := cell_later ba d6
      have r7 := cell_later ba r6
      have e7 := pair1 w6 (.int .i64 p) (.slice (some ⟨g6, 0, none⟩) n n) 26
      have f7 := pair0 w6 (.int .i64 p) (.slice (some ⟨g6, 0, none⟩) n n) 26
      have B7 := B6.trans (ba.mono B6.size)
      have ho7 := ho6.below ba
      go_wp2_with fail
      obtain ⟨V, hV⟩ : ∃ V, V = w6.alloc (.cells #[.int .i64 p, .slice (some ⟨g6, 0, none⟩) n n] 26) := ⟨_, rfl⟩
      rw [← hV] at c7 d7 r7 e7 f7 B7 ho7 ⊢
      clear hV c6 d6 r6 B6 ba ho6
      refine (toRow_any _ _ _ zs _ hz' hsm' (ha'.below B7)).mono ?_
      rintro e w8 ⟨g8, rfl, ho8, hb8⟩
      have c8 := cell_later hb8 c7
      have d8 := cell_later hb8 d7
      have r8 := cell_later hb8 r7
      have e8 := cell_later hb8 e7
      have f8 := cell_later hb8 f7
      have B8 := B7.trans (hb8.mono B7.size)
      have oT8 := ho7.below hb8
      clear hb8 c7 d7 r7 e7 f7 B7 ho7
      have ba : Below w8.heap.size w8 (w8.alloc (.cells #[.slice (some ⟨g8, 0, none⟩) n' n'] 50)) := (Below.refl _ _).alloc (Nat.le_refl _) _
      have c9 := cell_later ba c8
      have d9 := cell_later ba d8
      have r9 := cell_later ba r8
      have e9 := cell_later ba e8
      have f9 := cell_later ba f8
      have q9 : (w8.alloc (.cells #[.slice (some ⟨g8, 0, none⟩) n' n'] 50)).cell? ⟨w8.heap.size, 0, none⟩ = some (.slice (some ⟨g8, 0, none⟩) n' n') := by simp
      have B9 := B8.trans (ba.mono B8.size)
      have oT9 := oT8.below ba
      have oR9 := owns_below ho8 ba
      go_wp2_with fail
      obtain ⟨U, hU⟩ : ∃ U, U = w8.alloc (.cells #[.slice (some ⟨g8, 0, none⟩) n' n'] 50) := ⟨_, rfl⟩
      rw [← hU] at c9 d9 r9 e9 f9 q9 B9 oT9 oR9 ⊢
      clear hU c8 d8 r8 e8 f8 B8 ba oT8 ho8
      refine (implWeightOf_any _ _ _ _ _ _ ts _ zs _ hz hz' hsm hsm' (oT9.atW hsx) (At.owned oR9)).mono ?_
      rintro e w10 ⟨rfl, hb10⟩
      rw [HAN.out, HOK.out]
      have c10 := cell_later hb10 c9
      have d10 := cell_later hb10 d9
      have r10 := cell_later hb10 r9
      have e10 := cell_later hb10 e9
      have f10 := cell_later hb10 f9
      have q10 := cell_later hb10 q9
      have B10 := B9.trans (hb10.mono B9.size)
      have oT10 := oT9.below hb10
      have oR10 := owns_below oR9 hb10
      clear hb10 c9 d9 r9 e9 f9 q9 B9 oT9 oR9
      go_wp2_with fail
      go_region_held3 (fun w' => w'.cell? ⟨w.heap.size, 0, none⟩ = some (.int .i64 p) ∧ w'.cell? ⟨w.heap.size, 1, none⟩ = some (.slice a n c) ∧ w'.cell? ⟨w6.heap.size, 0, none⟩ = some (.int .i64 p) ∧ w'.cell? ⟨w6.heap.size, 1, none⟩ = some (.slice (some ⟨g6, 0, none⟩) n n)) (refine ⟨?_, ?_, ?_, ?_⟩ <;> assumption)
        (first
          | (go_at_call 20; refine (toTable_any _ _ _ ts _ _ hz hsm hss (ha.below B10.drew)).mono ?_; rintro e w11 ⟨g11, cs11, rfl, ho11, hb11⟩; have c11 := cell_later hb11 c10; have d11 := cell_later hb11 d10; have e11 := cell_later hb11 e10; have f11 := cell_later hb11 f10)
          | (go_at_call 13; refine (eqTable_any _ _ _ _ _ _ ts ts _ _ _ hz hz hsm hsm hss hss ((oT10.drew.below hb11).atW hsx) (ho11.atW hsx)).mono ?_; rintro e w12 ⟨rfl, hb12⟩; have c12 := cell_later hb12 c11; have d12 := cell_later hb12 d11; have e12 := cell_later hb12 e11; have f12 := cell_later hb12 f11; rw [decide_eq_true (⟨rfl, rfl⟩ : p = p ∧ ts = ts)]))
      have r12 := cell_later hb12 (cell_later hb11 r10)
      have q12 := cell_later hb12 (cell_later hb11 q10)
      have B12 := (B10.drew.trans (hb11.mono B10.size)).trans (hb12.mono (by have := hb11.size; have := B10.size; simp only [drew_size] at *; omega))
      have oR12 := owns_below (owns_below oR10.drew hb11) hb12
      clear hb11 hb12 c10 d10 r10 e10 f10 q10 B10 oT10 oR10 c11 d11 e11 f11 c12 d12 e12 f12 ho11
      go_wp2_with fail
      go_region_held3 (fun w' => w'.cell? ⟨w.heap.size + 1, 0, none⟩ = some (.slice a' n' c') ∧ w'.cell? ⟨w8.heap.size, 0, none⟩ = some (.slice (some ⟨g8, 0, none⟩) n' n')) (refine ⟨?_, ?_⟩ <;> assumption)
        (first
          | (go_at_call 28; refine (toRow_any _ _ _ zs _ hz' hsm' (ha'.below B12.drew)).mono ?_; rintro e w13 ⟨g13, rfl, ho13, hb13⟩; have r13 := cell_later hb13 r12; have q13 := cell_later hb13 q12)
          | (go_at_call 30; refine (eqRow_any _ _ _ _ _ _ zs zs _ hz' hz' hsm' hsm' (At.owned (owns_below oR12.drew hb13)) (At.owned ho13)).mono ?_; rintro e w14 ⟨rfl, hb14⟩; have r14 := cell_later hb14 r13; have q14 := cell_later hb14 q13; rw [decide_eq_true (rfl : zs = zs)]))
      go_wp2
      go_ret
      exact ⟨rfl, (B12.drew.trans (hb13.mono B12.size)).trans (hb14.mono (by have := hb13.size; have := B12.size; simp only [drew_size] at *; omega))⟩

end Go.Proofs.Ytlhidfjoeimicaa
