/- The law FnExactTotalOf returns true at every table, and writes nothing that was there. -/
import Derived.Test.YtlhidfjoeimicabTableE
import Derived.Test.YtlhidfjoeimicabPlainOf
namespace Go.Proofs.Ytlhidfjoeimicab
open Go.RowKit

set_option maxHeartbeats 2000000 in
theorem lawTotalOf (a : Option Addr) (n c : Nat) (ts : List WRow) (p : Int) (w : World) (hz : ts.length = n) (hn : n ≤ 9223372036854775807) (ha : AtW w a ts) :
    Calls Try.prog 4 #[.agg #[.int .i64 p, .slice a n c]] w fun e w' => e = .returned (.bool true) ∧ Below w.heap.size w w' := by
  have B0 : Below w.heap.size w (w.alloc (.cells #[.int .i64 p, .slice a n c] 24)) := (Below.refl _ _).alloc (Nat.le_refl _) _
  obtain ⟨S, hS⟩ : ∃ S, (if goodT p ts then sumT ts else 0) = S := ⟨_, rfl⟩
  have HS := Hid.mk hS
  clear hS
  by_cases hbig : (1048576 : Int) < wtot ts n
  · go_enter Try.func4, Try.ntmps4
    go_wp2_with fail
    refine (szTable_any _ _ _ ts _ _ _ hz hn (by omega) (by omega) (ha.below B0)).mono ?_
    rintro e w1 ⟨rfl, hb1⟩
    rw [leftOf_no hbig]
    go_wp2
    go_ret
    exact ⟨rfl, B0.trans (hb1.mono (by simp))⟩
  · have hsm : n ≤ 1048576 := by have := wtot_len ts n (by omega); omega
    have hss : ∀ i, i < n → (wat ts i).1.length ≤ 1048576 := fun i hi => by have := wtot_each ts n hz i hi; omega
    have hsx : ∀ i, i < n → (wat ts i).1.length ≤ 9223372036854775807 := fun i hi => Nat.le_trans (hss i hi) (by decide)
    have hl : ¬ (1048576 : Int) - wtot ts n < 0 := by omega
    go_enter Try.func4, Try.ntmps4
    go_wp2_with fail
    refine (szTable_any _ _ _ ts _ _ _ hz hn (by omega) (by omega) (ha.below B0)).mono ?_
    rintro e w1 ⟨rfl, hb1⟩
    rw [leftOf_yes (by omega)]
    have c1 := cell_later hb1 (pair1 w (.int .i64 p) (.slice a n c) 24)
    have d1 := cell_later hb1 (pair0 w (.int .i64 p) (.slice a n c) 24)
    have B1 : Below w.heap.size w w1 := B0.trans (hb1.mono (by simp))
    clear hb1 B0
    go_wp2_with fail
    refine (toTable_any _ _ _ ts _ _ hz hsm hss (ha.below B1)).mono ?_
    rintro e w2 ⟨g2, cs2, rfl, ho2, hb2⟩
    have c2 := cell_later hb2 c1
    have d2 := cell_later hb2 d1
    have B2 : Below w.heap.size w w2 := B1.trans (hb2.mono B1.size)
    clear hb2 B1 c1 d1
    go_wp2_with fail
    refine (specTotalOf_any _ _ _ ts _ _ hz hsm (ho2.atW hsx)).mono ?_
    rintro e w3 ⟨rfl, hb3⟩
    rw [HS.out]
    have c3 := cell_later hb3 c2
    have d3 := cell_later hb3 d2
    have B3 : Below w.heap.size w w3 := B2.trans (hb3.mono B2.size)
    clear hb3 B2 c2 d2 ho2
    go_wp2_with fail
    refine (toTable_any _ _ _ ts _ _ hz hsm hss (ha.below B3)).mono ?_
    rintro e w4 ⟨g4, cs4, rfl, ho4, hb4⟩
    have c4 := cell_later hb4 c3
    have d4 := cell_later hb4 d3
    have B4 : Below w.heap.size w w4 := B3.trans (hb4.mono B3.size)
    clear hb4 B3 c3 d3
    go_wp2_with fail
    refine (implTotalOf_any _ _ _ ts _ _ hz hsm ((ho4.alloc _).atW hsx)).mono ?_
    rintro e w5 ⟨rfl, hb5⟩
    rw [HS.out]
    have ba : Below w4.heap.size w4 (w4.alloc (.cells #[.int .i64 p, .slice (some ⟨g4, 0, none⟩) n n] 30)) := (Below.refl _ _).alloc (Nat.le_refl _) _
    have c5 := cell_later hb5 (cell_later ba c4)
    have d5 := cell_later hb5 (cell_later ba d4)
    have e5 := cell_later hb5 (pair1 w4 (.int .i64 p) (.slice (some ⟨g4, 0, none⟩) n n) 30)
    have f5 := cell_later hb5 (pair0 w4 (.int .i64 p) (.slice (some ⟨g4, 0, none⟩) n n) 30)
    have B5 : Below w.heap.size w w5 := (B4.alloc B4.size _).trans (hb5.mono (by have := B4.size; simp; omega))
    have o5 := (ho4.alloc (.cells #[.int .i64 p, .slice (some ⟨g4, 0, none⟩) n n] 30)).below hb5
    clear hb5 B4 c4 d4 ho4 ba
    go_wp2_with fail
    go_region_held3 (fun w' => w'.cell? ⟨w.heap.size, 0, none⟩ = some (.int .i64 p) ∧ w'.cell? ⟨w.heap.size, 1, none⟩ = some (.slice a n c) ∧ w'.cell? ⟨w4.heap.size, 0, none⟩ = some (.int .i64 p) ∧ w'.cell? ⟨w4.heap.size, 1, none⟩ = some (.slice (some ⟨g4, 0, none⟩) n n)) (refine ⟨?_, ?_, ?_, ?_⟩ <;> assumption)
      (first
        | (go_at_call 8; refine (toTable_any _ _ _ ts _ _ hz hsm hss (ha.below B5.drew)).mono ?_; rintro e w6 ⟨g6, cs6, rfl, ho6, hb6⟩; have c6 := cell_later hb6 c5; have d6 := cell_later hb6 d5; have e6 := cell_later hb6 e5; have f6 := cell_later hb6 f5)
        | (go_at_call 10; refine (eqTable_any _ _ _ _ _ _ ts ts _ _ _ hz hz hsm hsm hss hss ((o5.drew.below hb6).atW hsx) (ho6.atW hsx)).mono ?_; rintro e w7 ⟨rfl, hb7⟩; have c7 := cell_later hb7 c6; have d7 := cell_later hb7 d6; have e7 := cell_later hb7 e6; have f7 := cell_later hb7 f6; rw [decide_eq_true (⟨rfl, rfl⟩ : p = p ∧ ts = ts)]))
    go_wp2
    go_ret
    have z6 : w5.heap.size ≤ w6.heap.size := hb6.size
    exact ⟨rfl, (B5.drew.trans (hb6.mono B5.size)).trans (hb7.mono (by have := B5.size; omega))⟩

end Go.Proofs.Ytlhidfjoeimicab
