/- Several texts of one proof, in build order: RaI, RunR. -/
import Derived.Test.YthiabjkjpjmahaaGreatM35
import Derived.Test.YthiabjkjpjmahaaGreatM36

/- Contract of impl.tableOfPart: the table of one part. -/
namespace Go.Proofs.YthiabjkjpjmahaaGreat
open Go.RowKit



set_option linter.unusedVariables false in
set_option maxRecDepth 100000 in
set_option maxHeartbeats 4000000 in
theorem tab_2 (j : Nat) (ta : Option Addr) (tn tc : Nat) (es : List Tst) (sa : Option Addr) (sn sc : Nat) (aa : Option Addr) (an ac : Nat) (ah : List Tab) (w : World) (hl : ah.length = an) (hln : an ≤ 1048576) (hA : AtSM w aa ah) (hj : j < an) (hm : (tat ah j).2.length ≤ 1048576) (htz : es.length = tn) (htn : tn ≤ 1048576) (hta : AtE w ta es) :
   Calls Tryz.prog 72 #[.iface 154 (.agg #[.int .i64 (j : Nat), .slice ta tn tc]), .slice sa sn sc, .slice aa an ac] w fun e w' => TabAns e w' w.heap.size (selB (tat ah j).1 (tat ah j).2 es) ((tat ah j).1) (selW (tat ah j).2 es) ∧ Below w.heap.size w w' := by
  obtain ⟨b, off, a1, c1, rfl, g0, g1, hf1, at1⟩ := hA.at hl hj
  have zb : b < w.heap.size := World.block_lt_of_cell? _ _ g0
  have nb : b ≠ w.heap.size := by omega
  have nb1 : b ≠ w.heap.size + 1 := by omega
  generalize (tat ah j).1 = p at *
  generalize (tat ah j).2 = ts at *
  obtain ⟨m, hz⟩ : ∃ m, ts.length = m := ⟨_, rfl⟩
  rw [hz] at g1 hf1 hm
  have hji : (j : Int) < (an : Int) := by omega
  obtain ⟨W1, hW1⟩ : ∃ W1, W1 = w.alloc (.cells #[.int .i64 0, .slice none 0 0] 32) := ⟨_, rfl⟩
  have z1 : W1.heap.size = w.heap.size + 1 := by rw [hW1]; simp
  have q0 : W1.heap[w.heap.size]? = some (.cells #[.int .i64 0, .slice none 0 0] 32 (0, 0)) := by rw [hW1]; exact heap_alloc_new w _
  have e0 := blk_cell q0 0 (v := .int .i64 0) rfl
  have e1 := blk_cell q0 1 (v := .slice none 0 0) rfl
  have f0 : W1.frozen? ⟨w.heap.size, 0, none⟩ = false := frozen_of_row _ _ 0 _ _ q0
  have f1 : W1.frozen? ⟨w.heap.size, 1, none⟩ = false := frozen_of_row _ _ 1 _ _ q0
  obtain ⟨W, hW⟩ : ∃ W, W = W1.alloc (.cells #[.int .i64 (j : Nat), .slice ta tn tc] 154) := ⟨_, rfl⟩
  have b01 : Below W1.heap.size W1 W := by rw [hW]; exact (Below.refl _ _).alloc (Nat.le_refl _) _
  have q1 : W.heap[w.heap.size + 1]? = some (.cells #[.int .i64 (j : Nat), .slice ta tn tc] 154 (0, 0)) := by rw [hW, ← z1]; exact heap_alloc_new W1 _
  have f0 := frozen_later b01 e0 f0
  have f1 := frozen_later b01 e1 f1
  have e0 := cell_later b01 e0
  have e1 := cell_later b01 e1
  rw [hW1] at hW
  have B0 : Below w.heap.size w W := by rw [hW]; exact ((Below.refl _ _).alloc (Nat.le_refl _) _).alloc (by simp) _
  have zW : w.heap.size + 1 < W.heap.size := by rw [hW]; simp
  clear b01 q0 hW1 z1
  have p0 := blk_cell q1 0 (v := .int .i64 (j : Nat)) rfl
  have p1 := blk_cell q1 1 (v := .slice ta tn tc) rfl
  have g0 := cell_later B0 g0
  have g1 := cell_later B0 g1
  have at1 := at1.below B0
  have K := Hid.mk (implSelectRows a1 ta m tn c1 tc ts p es W.drew hz htz hm htn at1.drew (AtE.below hta (B0.drew)))
  clear hA hl q1 at1 hta
  go_enter Tryz.func72, Tryz.ntmps72
  go_upto_region 7 with fail
  rw [← hW]
  clear hW
  go_region_held3 (fun w' => w'.cell? ⟨w.heap.size + 1, 0, none⟩ = some (.int .i64 (j : Nat)) ∧ w'.cell? ⟨w.heap.size + 1, 1, none⟩ = some (.slice ta tn tc) ∧ w'.cell? ⟨b, off + j * 2, none⟩ = some (.int .i64 p) ∧ w'.cell? ⟨b, off + j * 2 + 1, none⟩ = some (.slice a1 m c1)) (refine ⟨?_, ?_, ?_, ?_⟩ <;> first | assumption | (exact keep_far (keep_far (by assumption) (by omega)) (by omega)))
   (first | (go_at_call 108; refine K.out.mono ?_; rintro e w3 ⟨⟨r3, m3, d3, cells3, rfl, ho3⟩, hb3⟩; have f0 := frozen_later hb3 e0 f0; have f1 := frozen_later hb3 e1 f1; have e0 := cell_later hb3 e0; have e1 := cell_later hb3 e1; have p0 := cell_later hb3 p0; have p1 := cell_later hb3 p1; have g0 := cell_later hb3 g0; have g1 := cell_later hb3 g1))
  have B3 := B0.drew.trans (hb3.mono B0.size)
  go_wp2
  refine bodyPost_ret (v := .tuple #[.agg #[.int .i64 _, .slice r3 m3 d3], .bool _]) (by simp [results, Tryz.results72, go_sem, e0, e1]) rfl ⟨⟨r3, m3, d3, cells3, rfl, OwnWk.stored (R := w.heap.size) (lo' := w.heap.size) ho3 (by first | omega | (simp; omega)) (by first | omega | (simp; omega)) _ _⟩, ?_⟩
  exact (B3.setCell (by show w.heap.size ≤ w.heap.size; omega) _).setCell (by show w.heap.size ≤ w.heap.size; omega) _


set_option linter.unusedVariables false in
set_option maxRecDepth 100000 in
set_option maxHeartbeats 4000000 in
theorem tab_3 (j : Nat) (ta : Option Addr) (tn tc : Nat) (zs : List Int) (sa : Option Addr) (sn sc : Nat) (aa : Option Addr) (an ac : Nat) (ah : List Tab) (w : World) (hl : ah.length = an) (hln : an ≤ 1048576) (hA : AtSM w aa ah) (hj : j < an) (hm : (tat ah j).2.length ≤ 1048576) (htz : zs.length = tn) (htn : tn ≤ 1048576) (hta : At w ta zs) :
   Calls Tryz.prog 72 #[.iface 156 (.agg #[.int .i64 (j : Nat), .slice ta tn tc]), .slice sa sn sc, .slice aa an ac] w fun e w' => TabAns e w' w.heap.size (projB (tat ah j).1 (tat ah j).2 zs) ((zs.length : Int)) (projW (tat ah j).2 zs) ∧ Below w.heap.size w w' := by
  obtain ⟨b, off, a1, c1, rfl, g0, g1, hf1, at1⟩ := hA.at hl hj
  have zb : b < w.heap.size := World.block_lt_of_cell? _ _ g0
  have nb : b ≠ w.heap.size := by omega
  have nb1 : b ≠ w.heap.size + 1 := by omega
  generalize (tat ah j).1 = p at *
  generalize (tat ah j).2 = ts at *
  obtain ⟨m, hz⟩ : ∃ m, ts.length = m := ⟨_, rfl⟩
  rw [hz] at g1 hf1 hm
  have hji : (j : Int) < (an : Int) := by omega
  obtain ⟨W1, hW1⟩ : ∃ W1, W1 = w.alloc (.cells #[.int .i64 0, .slice none 0 0] 32) := ⟨_, rfl⟩
  have z1 : W1.heap.size = w.heap.size + 1 := by rw [hW1]; simp
  have q0 : W1.heap[w.heap.size]? = some (.cells #[.int .i64 0, .slice none 0 0] 32 (0, 0)) := by rw [hW1]; exact heap_alloc_new w _
  have e0 := blk_cell q0 0 (v := .int .i64 0) rfl
  have e1 := blk_cell q0 1 (v := .slice none 0 0) rfl
  have f0 : W1.frozen? ⟨w.heap.size, 0, none⟩ = false := frozen_of_row _ _ 0 _ _ q0
  have f1 : W1.frozen? ⟨w.heap.size, 1, none⟩ = false := frozen_of_row _ _ 1 _ _ q0
  obtain ⟨W, hW⟩ : ∃ W, W = W1.alloc (.cells #[.int .i64 (j : Nat), .slice ta tn tc] 156) := ⟨_, rfl⟩
  have b01 : Below W1.heap.size W1 W := by rw [hW]; exact (Below.refl _ _).alloc (Nat.le_refl _) _
  have q1 : W.heap[w.heap.size + 1]? = some (.cells #[.int .i64 (j : Nat), .slice ta tn tc] 156 (0, 0)) := by rw [hW, ← z1]; exact heap_alloc_new W1 _
  have f0 := frozen_later b01 e0 f0
  have f1 := frozen_later b01 e1 f1
  have e0 := cell_later b01 e0
  have e1 := cell_later b01 e1
  rw [hW1] at hW
  have B0 : Below w.heap.size w W := by rw [hW]; exact ((Below.refl _ _).alloc (Nat.le_refl _) _).alloc (by simp) _
  have zW : w.heap.size + 1 < W.heap.size := by rw [hW]; simp
  clear b01 q0 hW1 z1
  have p0 := blk_cell q1 0 (v := .int .i64 (j : Nat)) rfl
  have p1 := blk_cell q1 1 (v := .slice ta tn tc) rfl
  have g0 := cell_later B0 g0
  have g1 := cell_later B0 g1
  have at1 := at1.below B0
  have K := Hid.mk (implProjectTable a1 ta m tn c1 tc ts p zs W.drew hz htz hm htn at1.drew (At.below hta (B0.drew)))
  clear hA hl q1 at1 hta htz
  go_enter Tryz.func72, Tryz.ntmps72
  go_upto_region 10 with fail
  rw [← hW]
  clear hW
  go_region_held3 (fun w' => w'.cell? ⟨w.heap.size + 1, 0, none⟩ = some (.int .i64 (j : Nat)) ∧ w'.cell? ⟨w.heap.size + 1, 1, none⟩ = some (.slice ta tn tc) ∧ w'.cell? ⟨b, off + j * 2, none⟩ = some (.int .i64 p) ∧ w'.cell? ⟨b, off + j * 2 + 1, none⟩ = some (.slice a1 m c1)) (refine ⟨?_, ?_, ?_, ?_⟩ <;> first | assumption | (exact keep_far (keep_far (by assumption) (by omega)) (by omega)))
   (first | (go_at_call 109; refine K.out.mono ?_; rintro e w3 ⟨⟨r3, m3, d3, cells3, rfl, ho3⟩, hb3⟩; have f0 := frozen_later hb3 e0 f0; have f1 := frozen_later hb3 e1 f1; have e0 := cell_later hb3 e0; have e1 := cell_later hb3 e1; have p0 := cell_later hb3 p0; have p1 := cell_later hb3 p1; have g0 := cell_later hb3 g0; have g1 := cell_later hb3 g1))
  have B3 := B0.drew.trans (hb3.mono B0.size)
  go_wp2
  refine bodyPost_ret (v := .tuple #[.agg #[.int .i64 _, .slice r3 m3 d3], .bool _]) (by simp [results, Tryz.results72, go_sem, e0, e1]) rfl ⟨⟨r3, m3, d3, cells3, rfl, OwnWk.stored (R := w.heap.size) (lo' := w.heap.size) ho3 (by first | omega | (simp; omega)) (by first | omega | (simp; omega)) _ _⟩, ?_⟩
  exact (B3.setCell (by show w.heap.size ≤ w.heap.size; omega) _).setCell (by show w.heap.size ≤ w.heap.size; omega) _


set_option linter.unusedVariables false in
set_option maxRecDepth 100000 in
set_option maxHeartbeats 4000000 in
theorem tab_4 (j i : Nat) (ta : Option Addr) (tn tc : Nat) (ps : List (List Int)) (sa : Option Addr) (sn sc : Nat) (aa : Option Addr) (an ac : Nat) (ah : List Tab) (w : World) (hl : ah.length = an) (hln : an ≤ 1048576) (hA : AtSM w aa ah) (hj : j < an) (hi : i < an) (hm : (tat ah j).2.length ≤ 1048576) (hm' : (tat ah i).2.length ≤ 1048576) (htz : ps.length = tn) (htn : tn ≤ 1048576) (hta : AtS w ta ps) :
   Calls Tryz.prog 72 #[.iface 158 (.agg #[.int .i64 (j : Nat), .int .i64 (i : Nat), .slice ta tn tc]), .slice sa sn sc, .slice aa an ac] w fun e w' => TabAns e w' w.heap.size (joinB (tat ah j).1 (tat ah i).1 (tat ah j).2 (tat ah i).2 ps) ((joinC (tat ah j).1 (tat ah i).1 ps : Int)) (joinW (tat ah j).2 (tat ah i).2 ps) ∧ Below w.heap.size w w' := by
  obtain ⟨b, off, a1, c1, rfl, g0, g1, hf1, at1⟩ := hA.at hl hj
  obtain ⟨b', off', a2, c2, hbb, d0, d1, hf2, at2⟩ := hA.at hl hi
  simp only [Option.some.injEq, Addr.mk.injEq, and_true] at hbb
  obtain ⟨rfl, rfl⟩ := hbb
  have zb : b < w.heap.size := World.block_lt_of_cell? _ _ g0
  have nb : b ≠ w.heap.size := by omega
  have nb1 : b ≠ w.heap.size + 1 := by omega
  generalize (tat ah j).1 = p at *
  generalize (tat ah j).2 = ts at *
  obtain ⟨m, hz⟩ : ∃ m, ts.length = m := ⟨_, rfl⟩
  rw [hz] at g1 hf1 hm
  have hji : (j : Int) < (an : Int) := by omega
  generalize (tat ah i).1 = p' at *
  generalize (tat ah i).2 = us at *
  obtain ⟨m', hz'⟩ : ∃ m, us.length = m := ⟨_, rfl⟩
  rw [hz'] at d1 hf2 hm'
  have hii : (i : Int) < (an : Int) := by omega
  obtain ⟨W1, hW1⟩ : ∃ W1, W1 = w.alloc (.cells #[.int .i64 0, .slice none 0 0] 32) := ⟨_, rfl⟩
  have z1 : W1.heap.size = w.heap.size + 1 := by rw [hW1]; simp
  have q0 : W1.heap[w.heap.size]? = some (.cells #[.int .i64 0, .slice none 0 0] 32 (0, 0)) := by rw [hW1]; exact heap_alloc_new w _
  have e0 := blk_cell q0 0 (v := .int .i64 0) rfl
  have e1 := blk_cell q0 1 (v := .slice none 0 0) rfl
  have f0 : W1.frozen? ⟨w.heap.size, 0, none⟩ = false := frozen_of_row _ _ 0 _ _ q0
  have f1 : W1.frozen? ⟨w.heap.size, 1, none⟩ = false := frozen_of_row _ _ 1 _ _ q0
  obtain ⟨W, hW⟩ : ∃ W, W = W1.alloc (.cells #[.int .i64 (j : Nat), .int .i64 (i : Nat), .slice ta tn tc] 158) := ⟨_, rfl⟩
  have b01 : Below W1.heap.size W1 W := by rw [hW]; exact (Below.refl _ _).alloc (Nat.le_refl _) _
  have q1 : W.heap[w.heap.size + 1]? = some (.cells #[.int .i64 (j : Nat), .int .i64 (i : Nat), .slice ta tn tc] 158 (0, 0)) := by rw [hW, ← z1]; exact heap_alloc_new W1 _
  have f0 := frozen_later b01 e0 f0
  have f1 := frozen_later b01 e1 f1
  have e0 := cell_later b01 e0
  have e1 := cell_later b01 e1
  rw [hW1] at hW
  have B0 : Below w.heap.size w W := by rw [hW]; exact ((Below.refl _ _).alloc (Nat.le_refl _) _).alloc (by simp) _
  have zW : w.heap.size + 1 < W.heap.size := by rw [hW]; simp
  clear b01 q0 hW1 z1
  have p0 := blk_cell q1 0 (v := .int .i64 (j : Nat)) rfl
  have p1 := blk_cell q1 1 (v := .int .i64 (i : Nat)) rfl
  have p2 := blk_cell q1 2 (v := .slice ta tn tc) rfl
  have g0 := cell_later B0 g0
  have g1 := cell_later B0 g1
  have d0 := cell_later B0 d0
  have d1 := cell_later B0 d1
  have at1 := at1.below B0
  have at2 := at2.below B0
  have K := Hid.mk (implJoinTables a1 a2 ta m m' tn c1 c2 tc ts us ps p p' W.drew hz hz' htz hm hm' htn at1.drew at2.drew (AtS.below hta (B0.drew)))
  clear hA hl q1 at1 at2 hta
  go_enter Tryz.func72, Tryz.ntmps72
  go_upto_region 13 with fail
  rw [← hW]
  clear hW
  go_region_held3 (fun w' => w'.cell? ⟨w.heap.size + 1, 0, none⟩ = some (.int .i64 (j : Nat)) ∧ w'.cell? ⟨w.heap.size + 1, 1, none⟩ = some (.int .i64 (i : Nat)) ∧ w'.cell? ⟨w.heap.size + 1, 2, none⟩ = some (.slice ta tn tc) ∧ w'.cell? ⟨b, off + j * 2, none⟩ = some (.int .i64 p) ∧ w'.cell? ⟨b, off + j * 2 + 1, none⟩ = some (.slice a1 m c1) ∧ w'.cell? ⟨b, off + i * 2, none⟩ = some (.int .i64 p') ∧ w'.cell? ⟨b, off + i * 2 + 1, none⟩ = some (.slice a2 m' c2)) (refine ⟨?_, ?_, ?_, ?_, ?_, ?_, ?_⟩ <;> first | assumption | (exact keep_far (keep_far (by assumption) (by omega)) (by omega)))
   (first | (go_at_call 110; refine K.out.mono ?_; rintro e w3 ⟨⟨r3, m3, d3, cells3, rfl, ho3⟩, hb3⟩; have f0 := frozen_later hb3 e0 f0; have f1 := frozen_later hb3 e1 f1; have e0 := cell_later hb3 e0; have e1 := cell_later hb3 e1; have p0 := cell_later hb3 p0; have p1 := cell_later hb3 p1; have p2 := cell_later hb3 p2; have g0 := cell_later hb3 g0; have g1 := cell_later hb3 g1; have d0 := cell_later hb3 d0; have d1 := cell_later hb3 d1))
  have B3 := B0.drew.trans (hb3.mono B0.size)
  go_wp2
  refine bodyPost_ret (v := .tuple #[.agg #[.int .i64 _, .slice r3 m3 d3], .bool _]) (by simp [results, Tryz.results72, go_sem, e0, e1]) rfl ⟨⟨r3, m3, d3, cells3, rfl, OwnWk.stored (R := w.heap.size) (lo' := w.heap.size) ho3 (by first | omega | (simp; omega)) (by first | omega | (simp; omega)) _ _⟩, ?_⟩
  exact (B3.setCell (by show w.heap.size ≤ w.heap.size; omega) _).setCell (by show w.heap.size ≤ w.heap.size; omega) _


set_option linter.unusedVariables false in
set_option maxRecDepth 100000 in
set_option maxHeartbeats 4000000 in
theorem tab_5 (j i : Nat) (sa : Option Addr) (sn sc : Nat) (aa : Option Addr) (an ac : Nat) (ah : List Tab) (w : World) (hl : ah.length = an) (hln : an ≤ 1048576) (hA : AtSM w aa ah) (hj : j < an) (hi : i < an) (hm : (tat ah j).2.length ≤ 1048576) (hm' : (tat ah i).2.length ≤ 1048576) :
   Calls Tryz.prog 72 #[.iface 160 (.agg #[.int .i64 (j : Nat), .int .i64 (i : Nat)]), .slice sa sn sc, .slice aa an ac] w fun e w' => TabAns e w' w.heap.size (addB (tat ah j).1 (tat ah j).2 (tat ah i).1 (tat ah i).2) ((tat ah j).1) (putAll (tat ah j).2 (tat ah i).2) ∧ Below w.heap.size w w' := by
  obtain ⟨b, off, a1, c1, rfl, g0, g1, hf1, at1⟩ := hA.at hl hj
  obtain ⟨b', off', a2, c2, hbb, d0, d1, hf2, at2⟩ := hA.at hl hi
  simp only [Option.some.injEq, Addr.mk.injEq, and_true] at hbb
  obtain ⟨rfl, rfl⟩ := hbb
  have zb : b < w.heap.size := World.block_lt_of_cell? _ _ g0
  have nb : b ≠ w.heap.size := by omega
  have nb1 : b ≠ w.heap.size + 1 := by omega
  generalize (tat ah j).1 = p at *
  generalize (tat ah j).2 = ts at *
  obtain ⟨m, hz⟩ : ∃ m, ts.length = m := ⟨_, rfl⟩
  rw [hz] at g1 hf1 hm
  have hji : (j : Int) < (an : Int) := by omega
  generalize (tat ah i).1 = p' at *
  generalize (tat ah i).2 = us at *
  obtain ⟨m', hz'⟩ : ∃ m, us.length = m := ⟨_, rfl⟩
  rw [hz'] at d1 hf2 hm'
  have hii : (i : Int) < (an : Int) := by omega
  obtain ⟨W1, hW1⟩ : ∃ W1, W1 = w.alloc (.cells #[.int .i64 0, .slice none 0 0] 32) := ⟨_, rfl⟩
  have z1 : W1.heap.size = w.heap.size + 1 := by rw [hW1]; simp
  have q0 : W1.heap[w.heap.size]? = some (.cells #[.int .i64 0, .slice none 0 0] 32 (0, 0)) := by rw [hW1]; exact heap_alloc_new w _
  have e0 := blk_cell q0 0 (v := .int .i64 0) rfl
  have e1 := blk_cell q0 1 (v := .slice none 0 0) rfl
  have f0 : W1.frozen? ⟨w.heap.size, 0, none⟩ = false := frozen_of_row _ _ 0 _ _ q0
  have f1 : W1.frozen? ⟨w.heap.size, 1, none⟩ = false := frozen_of_row _ _ 1 _ _ q0
  obtain ⟨W, hW⟩ : ∃ W, W = W1.alloc (.cells #[.int .i64 (j : Nat), .int .i64 (i : Nat)] 160) := ⟨_, rfl⟩
  have b01 : Below W1.heap.size W1 W := by rw [hW]; exact (Below.refl _ _).alloc (Nat.le_refl _) _
  have q1 : W.heap[w.heap.size + 1]? = some (.cells #[.int .i64 (j : Nat), .int .i64 (i : Nat)] 160 (0, 0)) := by rw [hW, ← z1]; exact heap_alloc_new W1 _
  have f0 := frozen_later b01 e0 f0
  have f1 := frozen_later b01 e1 f1
  have e0 := cell_later b01 e0
  have e1 := cell_later b01 e1
  rw [hW1] at hW
  have B0 : Below w.heap.size w W := by rw [hW]; exact ((Below.refl _ _).alloc (Nat.le_refl _) _).alloc (by simp) _
  have zW : w.heap.size + 1 < W.heap.size := by rw [hW]; simp
  clear b01 q0 hW1 z1
  have p0 := blk_cell q1 0 (v := .int .i64 (j : Nat)) rfl
  have p1 := blk_cell q1 1 (v := .int .i64 (i : Nat)) rfl
  have g0 := cell_later B0 g0
  have g1 := cell_later B0 g1
  have d0 := cell_later B0 d0
  have d1 := cell_later B0 d1
  have at1 := at1.below B0
  have at2 := at2.below B0
  have K := Hid.mk (implAddTables a1 a2 m m' c1 c2 ts us p p' W.drew hz hz' hm hm' at1.drew.atW at2.drew.atW)
  clear hA hl q1 at1 at2 
  go_enter Tryz.func72, Tryz.ntmps72
  go_upto_region 16 with fail
  rw [← hW]
  clear hW
  go_region_held3 (fun w' => w'.cell? ⟨w.heap.size + 1, 0, none⟩ = some (.int .i64 (j : Nat)) ∧ w'.cell? ⟨w.heap.size + 1, 1, none⟩ = some (.int .i64 (i : Nat)) ∧ w'.cell? ⟨b, off + j * 2, none⟩ = some (.int .i64 p) ∧ w'.cell? ⟨b, off + j * 2 + 1, none⟩ = some (.slice a1 m c1) ∧ w'.cell? ⟨b, off + i * 2, none⟩ = some (.int .i64 p') ∧ w'.cell? ⟨b, off + i * 2 + 1, none⟩ = some (.slice a2 m' c2)) (refine ⟨?_, ?_, ?_, ?_, ?_, ?_⟩ <;> first | assumption | (exact keep_far (keep_far (by assumption) (by omega)) (by omega)))
   (first | (go_at_call 11; refine K.out.mono ?_; rintro e w3 ⟨⟨r3, m3, d3, cells3, rfl, ho3⟩, hb3⟩; have f0 := frozen_later hb3 e0 f0; have f1 := frozen_later hb3 e1 f1; have e0 := cell_later hb3 e0; have e1 := cell_later hb3 e1; have p0 := cell_later hb3 p0; have p1 := cell_later hb3 p1; have g0 := cell_later hb3 g0; have g1 := cell_later hb3 g1; have d0 := cell_later hb3 d0; have d1 := cell_later hb3 d1))
  have B3 := B0.drew.trans (hb3.mono B0.size)
  go_wp2
  refine bodyPost_ret (v := .tuple #[.agg #[.int .i64 _, .slice r3 m3 d3], .bool _]) (by simp [results, Tryz.results72, go_sem, e0, e1]) rfl ⟨⟨r3, m3, d3, cells3, rfl, OwnWk.stored (R := w.heap.size) (lo' := w.heap.size) ho3 (by first | omega | (simp; omega)) (by first | omega | (simp; omega)) _ _⟩, ?_⟩
  exact (B3.setCell (by show w.heap.size ≤ w.heap.size; omega) _).setCell (by show w.heap.size ≤ w.heap.size; omega) _


set_option linter.unusedVariables false in
set_option maxRecDepth 100000 in
set_option maxHeartbeats 4000000 in
theorem tab_1 (j : Nat) (sa : Option Addr) (sn sc : Nat) (aa : Option Addr) (an ac : Nat) (src : List Tab) (w : World) (hl : src.length = sn) (hln : sn ≤ 1048576) (hA : AtSM w sa src) (hj : j < sn) (hm : (tat src j).2.length ≤ 1048576) :
   Calls Tryz.prog 72 #[.iface 152 (.agg #[.int .i64 (j : Nat)]), .slice sa sn sc, .slice aa an ac] w fun e w' => TabAns e w' w.heap.size (scaleB (tat src j).1 (tat src j).2 1) ((tat src j).1) (scaleW (tat src j).2 1) ∧ Below w.heap.size w w' := by
  obtain ⟨b, off, a1, c1, rfl, g0, g1, hf1, at1⟩ := hA.at hl hj
  have zb : b < w.heap.size := World.block_lt_of_cell? _ _ g0
  have nb : b ≠ w.heap.size := by omega
  have nb1 : b ≠ w.heap.size + 1 := by omega
  generalize (tat src j).1 = p at *
  generalize (tat src j).2 = ts at *
  obtain ⟨m, hz⟩ : ∃ m, ts.length = m := ⟨_, rfl⟩
  rw [hz] at g1 hf1 hm
  have hji : (j : Int) < (sn : Int) := by omega
  obtain ⟨W1, hW1⟩ : ∃ W1, W1 = w.alloc (.cells #[.int .i64 0, .slice none 0 0] 32) := ⟨_, rfl⟩
  have z1 : W1.heap.size = w.heap.size + 1 := by rw [hW1]; simp
  have q0 : W1.heap[w.heap.size]? = some (.cells #[.int .i64 0, .slice none 0 0] 32 (0, 0)) := by rw [hW1]; exact heap_alloc_new w _
  have e0 := blk_cell q0 0 (v := .int .i64 0) rfl
  have e1 := blk_cell q0 1 (v := .slice none 0 0) rfl
  have f0 : W1.frozen? ⟨w.heap.size, 0, none⟩ = false := frozen_of_row _ _ 0 _ _ q0
  have f1 : W1.frozen? ⟨w.heap.size, 1, none⟩ = false := frozen_of_row _ _ 1 _ _ q0
  obtain ⟨W, hW⟩ : ∃ W, W = W1.alloc (.cells #[.int .i64 (j : Nat)] 152) := ⟨_, rfl⟩
  have b01 : Below W1.heap.size W1 W := by rw [hW]; exact (Below.refl _ _).alloc (Nat.le_refl _) _
  have q1 : W.heap[w.heap.size + 1]? = some (.cells #[.int .i64 (j : Nat)] 152 (0, 0)) := by rw [hW, ← z1]; exact heap_alloc_new W1 _
  have f0 := frozen_later b01 e0 f0
  have f1 := frozen_later b01 e1 f1
  have e0 := cell_later b01 e0
  have e1 := cell_later b01 e1
  rw [hW1] at hW
  have B0 : Below w.heap.size w W := by rw [hW]; exact ((Below.refl _ _).alloc (Nat.le_refl _) _).alloc (by simp) _
  have zW : w.heap.size + 1 < W.heap.size := by rw [hW]; simp
  clear b01 q0 hW1 z1
  have p0 := blk_cell q1 0 (v := .int .i64 (j : Nat)) rfl
  have g0 := cell_later B0 g0
  have g1 := cell_later B0 g1
  have at1 := at1.below B0
  have K := Hid.mk (implScaleTable a1 m c1 ts p 1 W hz hm at1.atW)
  clear hA hl q1 at1 
  go_enter Tryz.func72, Tryz.ntmps72
  go_wp2_with fail
  rw [← hW]
  clear hW
  refine K.out.mono ?_
  rintro e w3 ⟨⟨r3, m3, d3, cells3, rfl, ho3⟩, hb3⟩
  have B3 := B0.trans (hb3.mono B0.size)
  have f0 := frozen_later hb3 e0 f0
  have f1 := frozen_later hb3 e1 f1
  have e0 := cell_later hb3 e0
  have e1 := cell_later hb3 e1
  go_wp2
  refine bodyPost_ret (v := .tuple #[.agg #[.int .i64 _, .slice r3 m3 d3], .bool _]) (by simp [results, Tryz.results72, go_sem, e0, e1]) rfl ⟨⟨r3, m3, d3, cells3, rfl, OwnWk.stored (R := w.heap.size) (lo' := w.heap.size) ho3 (by first | omega | (simp; omega)) (by first | omega | (simp; omega)) _ _⟩, ?_⟩
  exact (B3.setCell (by show w.heap.size ≤ w.heap.size; omega) _).setCell (by show w.heap.size ≤ w.heap.size; omega) _


set_option linter.unusedVariables false in
set_option maxRecDepth 100000 in
set_option maxHeartbeats 4000000 in
theorem tab_7 (j : Nat) (sa : Option Addr) (sn sc : Nat) (aa : Option Addr) (an ac : Nat) (ah : List Tab) (w : World) (hl : ah.length = an) (hln : an ≤ 1048576) (hA : AtSM w aa ah) (hj : j < an) (hm : (tat ah j).2.length ≤ 1048576) :
   Calls Tryz.prog 72 #[.iface 163 (.agg #[.int .i64 (j : Nat)]), .slice sa sn sc, .slice aa an ac] w fun e w' => TabAns e w' w.heap.size (distB (tat ah j).1 (tat ah j).2) ((tat ah j).1) (distW (tat ah j).2) ∧ Below w.heap.size w w' := by
  obtain ⟨b, off, a1, c1, rfl, g0, g1, hf1, at1⟩ := hA.at hl hj
  have zb : b < w.heap.size := World.block_lt_of_cell? _ _ g0
  have nb : b ≠ w.heap.size := by omega
  have nb1 : b ≠ w.heap.size + 1 := by omega
  generalize (tat ah j).1 = p at *
  generalize (tat ah j).2 = ts at *
  obtain ⟨m, hz⟩ : ∃ m, ts.length = m := ⟨_, rfl⟩
  rw [hz] at g1 hf1 hm
  have hji : (j : Int) < (an : Int) := by omega
  obtain ⟨W1, hW1⟩ : ∃ W1, W1 = w.alloc (.cells #[.int .i64 0, .slice none 0 0] 32) := ⟨_, rfl⟩
  have z1 : W1.heap.size = w.heap.size + 1 := by rw [hW1]; simp
  have q0 : W1.heap[w.heap.size]? = some (.cells #[.int .i64 0, .slice none 0 0] 32 (0, 0)) := by rw [hW1]; exact heap_alloc_new w _
  have e0 := blk_cell q0 0 (v := .int .i64 0) rfl
  have e1 := blk_cell q0 1 (v := .slice none 0 0) rfl
  have f0 : W1.frozen? ⟨w.heap.size, 0, none⟩ = false := frozen_of_row _ _ 0 _ _ q0
  have f1 : W1.frozen? ⟨w.heap.size, 1, none⟩ = false := frozen_of_row _ _ 1 _ _ q0
  obtain ⟨W, hW⟩ : ∃ W, W = W1.alloc (.cells #[.int .i64 (j : Nat)] 163) := ⟨_, rfl⟩
  have b01 : Below W1.heap.size W1 W := by rw [hW]; exact (Below.refl _ _).alloc (Nat.le_refl _) _
  have q1 : W.heap[w.heap.size + 1]? = some (.cells #[.int .i64 (j : Nat)] 163 (0, 0)) := by rw [hW, ← z1]; exact heap_alloc_new W1 _
  have f0 := frozen_later b01 e0 f0
  have f1 := frozen_later b01 e1 f1
  have e0 := cell_later b01 e0
  have e1 := cell_later b01 e1
  rw [hW1] at hW
  have B0 : Below w.heap.size w W := by rw [hW]; exact ((Below.refl _ _).alloc (Nat.le_refl _) _).alloc (by simp) _
  have zW : w.heap.size + 1 < W.heap.size := by rw [hW]; simp
  clear b01 q0 hW1 z1
  have p0 := blk_cell q1 0 (v := .int .i64 (j : Nat)) rfl
  have g0 := cell_later B0 g0
  have g1 := cell_later B0 g1
  have at1 := at1.below B0
  have K := Hid.mk (implDistinctTable a1 m c1 ts p W hz hm at1)
  clear hA hl q1 at1 
  go_enter Tryz.func72, Tryz.ntmps72
  go_wp2_with fail
  rw [← hW]
  clear hW
  refine K.out.mono ?_
  rintro e w3 ⟨⟨r3, m3, d3, cells3, rfl, ho3⟩, hb3⟩
  have B3 := B0.trans (hb3.mono B0.size)
  have f0 := frozen_later hb3 e0 f0
  have f1 := frozen_later hb3 e1 f1
  have e0 := cell_later hb3 e0
  have e1 := cell_later hb3 e1
  go_wp2
  refine bodyPost_ret (v := .tuple #[.agg #[.int .i64 _, .slice r3 m3 d3], .bool _]) (by simp [results, Tryz.results72, go_sem, e0, e1]) rfl ⟨⟨r3, m3, d3, cells3, rfl, OwnWk.stored (R := w.heap.size) (lo' := w.heap.size) ho3 (by first | omega | (simp; omega)) (by first | omega | (simp; omega)) _ _⟩, ?_⟩
  exact (B3.setCell (by show w.heap.size ≤ w.heap.size; omega) _).setCell (by show w.heap.size ≤ w.heap.size; omega) _


set_option linter.unusedVariables false in
set_option maxRecDepth 100000 in
set_option maxHeartbeats 4000000 in
theorem tab_6 (j i : Nat) (sa : Option Addr) (sn sc : Nat) (aa : Option Addr) (an ac : Nat) (ah : List Tab) (w : World) (hl : ah.length = an) (hln : an ≤ 1048576) (hA : AtSM w aa ah) (hj : j < an) (hi : i < an) (hm : (tat ah j).2.length ≤ 1048576) (hm' : (tat ah i).2.length ≤ 1048576) :
   Calls Tryz.prog 72 #[.iface 161 (.agg #[.int .i64 (j : Nat), .int .i64 (i : Nat)]), .slice sa sn sc, .slice aa an ac] w fun e w' => TabAns e w' w.heap.size (addB (tat ah j).1 (tat ah j).2 (lessP (tat ah i)) (lessT (tat ah i))) (tat ah j).1 (putAll (tat ah j).2 (lessT (tat ah i))) ∧ Below w.heap.size w w' := by
  obtain ⟨b, off, a1, c1, rfl, g0, g1, hf1, at1⟩ := hA.at hl hj
  obtain ⟨b', off', a2, c2, hbb, d0, d1, hf2, at2⟩ := hA.at hl hi
  simp only [Option.some.injEq, Addr.mk.injEq, and_true] at hbb
  obtain ⟨rfl, rfl⟩ := hbb
  have zb : b < w.heap.size := World.block_lt_of_cell? _ _ g0
  have nb : b ≠ w.heap.size := by omega
  have nb1 : b ≠ w.heap.size + 1 := by omega
  unfold lessP lessT
  generalize (tat ah j).1 = p at *
  generalize (tat ah j).2 = ts at *
  obtain ⟨m, hz⟩ : ∃ m, ts.length = m := ⟨_, rfl⟩
  rw [hz] at g1 hf1 hm
  generalize (tat ah i).1 = p' at *
  generalize (tat ah i).2 = us at *
  obtain ⟨m', hz'⟩ : ∃ m, us.length = m := ⟨_, rfl⟩
  rw [hz'] at d1 hf2 hm'
  have hji : (j : Int) < (an : Int) := by omega
  have hii : (i : Int) < (an : Int) := by omega
  have hsm : SmT (ansT (scaleB p' us (-1)) (scaleW us (-1))) (ansT (scaleB p' us (-1)) (scaleW us (-1))).length := ans_small (p := p') fun h => by
   simp only [scaleB, Bool.and_eq_true] at h
   exact h.2.2
  obtain ⟨L, hL⟩ : ∃ L, ansT (scaleB p' us (-1)) (scaleW us (-1)) = L := ⟨_, rfl⟩
  obtain ⟨P, hP⟩ : ∃ P, ansP (scaleB p' us (-1)) p' = P := ⟨_, rfl⟩
  rw [hL] at hsm ⊢
  rw [hP]
  obtain ⟨W1, hW1⟩ : ∃ W1, W1 = w.alloc (.cells #[.int .i64 0, .slice none 0 0] 32) := ⟨_, rfl⟩
  have z1 : W1.heap.size = w.heap.size + 1 := by rw [hW1]; simp
  have q0 : W1.heap[w.heap.size]? = some (.cells #[.int .i64 0, .slice none 0 0] 32 (0, 0)) := by rw [hW1]; exact heap_alloc_new w _
  have e0 := blk_cell q0 0 (v := .int .i64 0) rfl
  have e1 := blk_cell q0 1 (v := .slice none 0 0) rfl
  have f0 : W1.frozen? ⟨w.heap.size, 0, none⟩ = false := frozen_of_row _ _ 0 _ _ q0
  have f1 : W1.frozen? ⟨w.heap.size, 1, none⟩ = false := frozen_of_row _ _ 1 _ _ q0
  obtain ⟨W, hW⟩ : ∃ W, W = W1.alloc (.cells #[.int .i64 (j : Nat), .int .i64 (i : Nat)] 161) := ⟨_, rfl⟩
  have b01 : Below W1.heap.size W1 W := by rw [hW]; exact (Below.refl _ _).alloc (Nat.le_refl _) _
  have q1 : W.heap[w.heap.size + 1]? = some (.cells #[.int .i64 (j : Nat), .int .i64 (i : Nat)] 161 (0, 0)) := by rw [hW, ← z1]; exact heap_alloc_new W1 _
  have f0 := frozen_later b01 e0 f0
  have f1 := frozen_later b01 e1 f1
  have e0 := cell_later b01 e0
  have e1 := cell_later b01 e1
  rw [hW1] at hW
  have B0 : Below w.heap.size w W := by rw [hW]; exact ((Below.refl _ _).alloc (Nat.le_refl _) _).alloc (by simp) _
  have zW : w.heap.size + 1 < W.heap.size := by rw [hW]; simp
  clear b01 q0 hW1 z1
  have p0 := blk_cell q1 0 (v := .int .i64 (j : Nat)) rfl
  have p1 := blk_cell q1 1 (v := .int .i64 (i : Nat)) rfl
  have g0 := cell_later B0 g0
  have g1 := cell_later B0 g1
  have d0 := cell_later B0 d0
  have d1 := cell_later B0 d1
  have at1 := at1.below B0
  have at2 := at2.below B0
  have K1 : Hid (Calls Tryz.prog 111 #[.agg #[.int .i64 p', .slice a2 m' c2]] W fun e w' => TabRet e w' W.heap.size (scaleB p' us (-1)) P L ∧ Below W.heap.size W w') := by
   have := implNegateTable a2 m' c2 us p' W hz' hm' at2.atW
   unfold TabAns at this
   rw [hL, hP] at this
   exact this
  have HAT := Hid.mk at1
  have HSM := Hid.mk hsm
  have HZ := Hid.mk hz
  clear hA hl q1 at1 at2 hL hP hsm hz hz'
  go_enter Tryz.func72, Tryz.ntmps72
  go_wp2_with fail
  rw [← hW]
  clear hW
  refine K1.out.mono ?_
  rintro e w3 ⟨⟨r3, m3, d3, cells3, rfl, ho3⟩, hb3⟩
  have B3 := B0.trans (hb3.mono B0.size)
  have f0 := frozen_later hb3 e0 f0
  have f1 := frozen_later hb3 e1 f1
  have e0 := cell_later hb3 e0
  have e1 := cell_later hb3 e1
  have p0 := cell_later hb3 p0
  have g0 := cell_later hb3 g0
  have g1 := cell_later hb3 g1
  have z3 := hb3.size
  obtain ⟨W4, hW4⟩ : ∃ W4, W4 = w3.alloc (.cells #[.int .i64 P, .slice r3 m3 d3] 32) := ⟨_, rfl⟩
  have hb4 : Below w3.heap.size w3 W4 := by rw [hW4]; exact (Below.refl _ _).alloc (Nat.le_refl _) _
  have k0 : W4.cell? ⟨w3.heap.size, 0, none⟩ = some (.int .i64 P) := by rw [hW4]; exact pair0 _ _ _ _
  have k1 : W4.cell? ⟨w3.heap.size, 1, none⟩ = some (.slice r3 m3 d3) := by rw [hW4]; exact pair1 _ _ _ _
  have B4 := B3.trans (hb4.mono B3.size)
  have f0 := frozen_later hb4 e0 f0
  have f1 := frozen_later hb4 e1 f1
  have e0 := cell_later hb4 e0
  have e1 := cell_later hb4 e1
  have p0 := cell_later hb4 p0
  have g0 := cell_later hb4 g0
  have g1 := cell_later hb4 g1
  have z4 := hb4.size
  have ho3' : OwnT w3 W.heap.size w3.heap.size r3 m3 d3 L := ⟨cells3, ho3⟩
  have hm3 : L.length = m3 := ho3'.len
  have K2 : Hid (Calls Tryz.prog 11 #[.agg #[.int .i64 p, .slice a1 m c1], .agg #[.int .i64 P, .slice r3 m3 d3]] W4.drew fun e w' => TabAns e w' W4.drew.heap.size (addB p ts P L) p (putAll ts L) ∧ Below W4.drew.heap.size W4.drew w') := by
   have hs3 : SmT L m3 := by have := HSM.out; rw [hm3] at this; exact this
   have := hs3.n
   exact implAddTables a1 r3 m m3 c1 d3 ts L p P W4.drew HZ.out hm3 hm this ((HAT.out.below hb3).below hb4).drew.atW (((ho3'.below hb4).below (Below.refl _ _).drew).atW hs3)
  clear hb3 hb4 ho3 ho3' K1 hm3 B3 HAT HSM d0 d1
  go_upto_region 20 with fail
  rw [← hW4]
  clear hW4
  go_region_held3 (fun w' => w'.cell? ⟨w.heap.size + 1, 0, none⟩ = some (.int .i64 (j : Nat)) ∧ w'.cell? ⟨b, off + j * 2, none⟩ = some (.int .i64 p) ∧ w'.cell? ⟨b, off + j * 2 + 1, none⟩ = some (.slice a1 m c1) ∧ w'.cell? ⟨w3.heap.size, 0, none⟩ = some (.int .i64 P) ∧ w'.cell? ⟨w3.heap.size, 1, none⟩ = some (.slice r3 m3 d3)) (refine ⟨?_, ?_, ?_, ?_, ?_⟩ <;> first | assumption | (exact keep_far (keep_far (by assumption) (by omega)) (by omega)))
   (first | (go_at_call 11; refine K2.out.mono ?_; rintro e w5 ⟨⟨r5, m5, d5, cells5, rfl, ho5⟩, hb5⟩; have f0 := frozen_later hb5 e0 f0; have f1 := frozen_later hb5 e1 f1; have e0 := cell_later hb5 e0; have e1 := cell_later hb5 e1; have p0 := cell_later hb5 p0; have g0 := cell_later hb5 g0; have g1 := cell_later hb5 g1; have k0 := cell_later hb5 k0; have k1 := cell_later hb5 k1))
  have B5 := B4.drew.trans (hb5.mono B4.size)
  go_wp2
  refine bodyPost_ret (v := .tuple #[.agg #[.int .i64 _, .slice r5 m5 d5], .bool _]) (by simp [results, Tryz.results72, go_sem, e0, e1]) rfl ⟨⟨r5, m5, d5, cells5, rfl, OwnWk.stored (R := w.heap.size) (lo' := w.heap.size) ho5 (by first | omega | (simp; omega)) (by first | omega | (simp; omega)) _ _⟩, ?_⟩
  exact (B5.setCell (by show w.heap.size ≤ w.heap.size; omega) _).setCell (by show w.heap.size ≤ w.heap.size; omega) _


theorem widen_nat {A : Int} {n : Nat} (h : 0 ≤ A ∧ A < n) : ∃ j : Nat, A = (j : Int) ∧ j < n := ⟨A.toNat, by omega, by omega⟩
set_option linter.unusedVariables false in
theorem tableOfPart_any (v : Value) (x : PartD) (sa : Option Addr) (sn sc : Nat) (aa : Option Addr) (an ac : Nat) (src ah : List Tab) (w : World) (hI : IsPart w v x) (hS : SmPart x) (hk : 1 ≤ x.K ∧ x.K ≤ 7) (h1 : x.K = 1 → 0 ≤ x.A ∧ x.A < sn) (h2 : ¬ x.K = 1 → 0 ≤ x.A ∧ x.A < an) (h3 : x.K = 4 ∨ x.K = 5 ∨ x.K = 6 → 0 ≤ x.B ∧ x.B < an)
   (hs : src.length = sn) (hsn : sn ≤ 1048576) (hl : ah.length = an) (hln : an ≤ 1048576) (hSa : AtSM w sa src) (hAa : AtSM w aa ah) (hms : ∀ i, i < sn → (tat src i).2.length ≤ 1048576) (hma : ∀ i, i < an → (tat ah i).2.length ≤ 1048576) :
   Calls Tryz.prog 72 #[v, .slice sa sn sc, .slice aa an ac] w fun e w' => TabAns e w' w.heap.size (tabB src ah x) (tabC src ah x) (tabW src ah x) ∧ Below w.heap.size w w' := by
  obtain ⟨ta, tn, tc, ca, cn, cc, pa, pn, pc, rfl, hat⟩ := hI
  obtain ⟨ta', tn', tc', ca', cn', cc', pa', pn', pc', hce, ⟨t1, t2, t3⟩, ⟨u1, u2, u3⟩, ⟨v1, v2, v3⟩⟩ := RPart.at_open hat
  simp only [cellsP, List.cons.injEq, Value.slice.injEq, and_true, true_and] at hce
  obtain ⟨⟨rfl, rfl, rfl⟩, ⟨rfl, rfl, rfl⟩, rfl, rfl, rfl⟩ := hce
  obtain ⟨s1, s2, s3, _⟩ := hS
  obtain ⟨K, A, B, es, zs, ps⟩ := x
  simp only [PartD.K, PartD.A, PartD.B, PartD.ts, PartD.cs, PartD.ps] at *
  rcases kind_cases hk with rfl | rfl | rfl | rfl | rfl | rfl | rfl
  ·obtain ⟨j, rfl, hj⟩ := widen_nat (h1 rfl)
   rw [partV_1]
   exact tab_1 j sa sn sc aa an ac src w hs hsn hSa hj (hms j hj)
  ·obtain ⟨j, rfl, hj⟩ := widen_nat (h2 (by decide))
   rw [partV_2]
   exact tab_2 j _ _ _ es sa sn sc aa an ac ah w hl hln hAa hj (hma j hj) t1 (by omega) t3
  ·obtain ⟨j, rfl, hj⟩ := widen_nat (h2 (by decide))
   rw [partV_3]
   exact tab_3 j _ _ _ zs sa sn sc aa an ac ah w hl hln hAa hj (hma j hj) u1 (by omega) u3
  ·obtain ⟨j, rfl, hj⟩ := widen_nat (h2 (by decide))
   obtain ⟨i, rfl, hi⟩ := widen_nat (h3 (by decide))
   rw [partV_4]
   exact tab_4 j i _ _ _ ps sa sn sc aa an ac ah w hl hln hAa hj hi (hma j hj) (hma i hi) v1 (by omega) v3
  ·obtain ⟨j, rfl, hj⟩ := widen_nat (h2 (by decide))
   obtain ⟨i, rfl, hi⟩ := widen_nat (h3 (by decide))
   rw [partV_5]
   exact tab_5 j i sa sn sc aa an ac ah w hl hln hAa hj hi (hma j hj) (hma i hi)
  ·obtain ⟨j, rfl, hj⟩ := widen_nat (h2 (by decide))
   obtain ⟨i, rfl, hi⟩ := widen_nat (h3 (by decide))
   rw [partV_6]
   exact tab_6 j i sa sn sc aa an ac ah w hl hln hAa hj hi (hma j hj) (hma i hi)
  ·obtain ⟨j, rfl, hj⟩ := widen_nat (h2 (by decide))
   rw [partV_7]
   exact tab_7 j sa sn sc aa an ac ah w hl hln hAa hj (hma j hj)

end Go.Proofs.YthiabjkjpjmahaaGreat

/- What RunAll answers. -/
namespace Go.Proofs.YthiabjkjpjmahaaGreat
open Go.RowKit

/-- What tablesOfParts answers. -/
abbrev RunRet (e : Ending) (w' : World) (lo : Nat) (o : Option (List Tab)) : Prop := TbsRet e w' lo o.isSome (o.getD [])
theorem RunRet.no {w' : World} {lo : Nat} {o : Option (List Tab)} (h : o = none) : RunRet (.returned (.tuple #[.slice none 0 0, .bool false])) w' lo o := by
  subst h
  exact ⟨none, 0, 0, rfl, OwnU.nil _ _⟩


end Go.Proofs.YthiabjkjpjmahaaGreat
