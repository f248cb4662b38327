/- Contracts of impl.RowBytes and spec.RowBytes. -/
import Derived.Test.YtagijnfiiifppaaGoodRow
import Derived.Laws.BytesArg
namespace Go.Proofs.Ytagijnfiiifppaa
open Go.RowKit

theorem Try.infoByte : (Try.prog.info? 5).map (fun i => (i.zero, i.size, i.bytes)) = some (some (.int .u8 0), 1, 1) := by kernel_rfl

set_option maxHeartbeats 1000000 in
theorem implRowBytes_any (a : Option Addr) (n c : Nat) (zs : List Int) (w : World) (hz : zs.length = n) (hn : n ≤ 9223372036854775807) (ha : At w a zs) :
    Calls Try.prog 12 #[.agg #[.slice a n c]] w fun e w' =>
      e = .returned (.tuple #[.string (if good zs then strOfNums (rowNums zs) else ByteArray.empty), .bool (good zs)]) ∧ Below w.heap.size w w' := by
  obtain ⟨W, hW⟩ : ∃ W, W = w.alloc (.cells #[.slice a n c] 25) := ⟨_, rfl⟩
  have B : Below w.heap.size w W := by rw [hW]; exact (Below.refl _ _).alloc (Nat.le_refl _) _
  have HA : At W a zs := ha.below B
  have c1 : W.cell? ⟨w.heap.size, 0, none⟩ = some (.slice a n c) := by rw [hW]; simp
  cases hg : good zs with
  | false =>
    have HG : Hid (good zs = false) := hg
    clear hg ha
    go_enter Try.func12, Try.ntmps12
    go_wp2_with fail
    rw [← hW]
    refine (implGoodRow_any _ _ _ zs _ hz hn HA).mono ?_
    rintro e w1 ⟨rfl, hb1⟩
    rw [HG.out]
    clear hW
    go_wp2
    go_ret2
    exact ⟨by simp; rfl, B.trans (hb1.mono B.size)⟩
  | true =>
    have HG : Hid (good zs = true) := hg
    have gx := fun k (hk : k < n) => good_cell hg k (by omega)
    have l1 := good_len hg
    obtain ⟨i0, hi, hz0, hz1, hz2⟩ := info_parts Try.infoByte
    clear hg ha
    go_enter Try.func12, Try.ntmps12
    go_wp2_with fail
    rw [← hW]
    refine (implGoodRow_any _ _ _ zs _ hz hn HA).mono ?_
    rintro e w1 ⟨rfl, hb1⟩
    rw [HG.out]
    have d1 := cell_later hb1 c1
    have B1 := B.trans (hb1.mono B.size)
    have HA1 := HA.below hb1
    clear hW HA hb1 c1 B
    have z1 : w.heap.size < w1.heap.size := World.block_lt_of_cell? _ _ d1
    go_wp2
    have o1 : (w1.alloc (.cells #[.int .u8 (n : Int)] 5)).ownsRow w1.heap.size 5 1 (.slice (some ⟨w1.heap.size, 0, none⟩) 1 1) (1 + 3 * 0) ((rowNumsTo zs 0).map (.int .u8)) := by
      have := World.ownsRow_lit (base := w1.heap.size) (e := 5) (size := 1) w1 #[.int .u8 (n : Int)] 1 (Nat.le_refl _) (by unfold maxLen; omega) (by simp)
      simpa [rowNumsTo, hz] using this
    go_loopw [4, 19] (fun v i wr => ∃ k : Nat, k ≤ n ∧ i = .int .i64 k ∧ wr.ownsRow w1.heap.size 5 1 v (1 + 3 * k) ((rowNumsTo zs k).map (.int .u8)) ∧ Below w1.heap.size w1 wr) (fun _ i _ => n - (intOf i).toNat)
    case atStart => exact ⟨0, Nat.zero_le _, rfl, o1, (Below.refl _ _).alloc (Nat.le_refl _) _⟩
    case round =>
      clear o1
      obtain ⟨k, hk, rfl, hown, hbw⟩ := hrel
      by_cases hlt : k < n
      · obtain ⟨b, off, rfl, hb, hc⟩ := (HA1.below hbw).some (by omega)
        have hcx := hc k (by omega)
        obtain ⟨glo, ghi⟩ := gx k hlt
        obtain ⟨x, hx⟩ : ∃ x, x = zs.getD k 0 := ⟨_, rfl⟩
        rw [← hx] at hcx glo ghi
        have HX : Hid (x = zs.getD k 0) := hx
        clear hc gx hx
        have z2 := hbw.size
        go_wp2_with (at_builtin; refine wpList_append_own _ rfl (.tmp 25) (.tmp 34) 22 rfl w1.heap.size 5 i0 (.int .u8 0) 1 1 Try.underlying22 hi hz0 hz1 hz2 rfl (by decide) _ _ _ rfl (hown.alloc _) ⟨wr.heap.size, 0, none⟩ 3 3 [.int .u8 ((x + 100000) / 65536), .int .u8 ((x + 100000) / 256 % 256), .int .u8 ((x + 100000) % 256)] rfl rfl (news_at wr _ _) (by simp; exact ⟨rfl, rfl, rfl⟩) (by unfold maxLen; omega) (by omega) (by simp; omega) ?_)
        intro v' w2 hown' hgrow _
        have HO : Hid (w2.ownsRow w1.heap.size 5 1 v' (1 + 3 * (k + 1)) ((rowNumsTo zs (k + 1)).map (.int .u8))) := by
          rw [rowNumsTo_succ zs k (by omega), ← HX.out, List.map_append]
          exact hown'
        have HB : Hid (Below w1.heap.size w1 w2) := (hbw.alloc z2 _).grown hgrow (by simp; omega) (fun j hj => (hown.lt j hj).1)
        clear hown' hgrow hown
        go_wp2
        go_roundw
        case rel => exact ⟨k + 1, by omega, by go_num, HO.out, HB.out⟩
        case measure => simp [intOf]; omega
      · obtain rfl : k = n := by omega
        have hr : rowNumsTo zs k = rowNums zs := by rw [← hz]; exact rowNumsTo_all zs
        have hlr : (rowNums zs).length = 1 + 3 * k := by rw [← hr, rowNumsTo_length zs _ (by omega)]
        rw [hr] at hown
        rcases hown.2 with ⟨_, h0⟩ | ⟨g, cap, cur, rfl, hjunk⟩
        · omega
        · clear hjunk
          have hcell : ∀ i, i < 1 + 3 * k → wr.cell? ⟨g, 0 + i, none⟩ = some (.int .u8 ((rowNums zs).getD i 0)) := fun i hi => by
            rw [Nat.zero_add, hown.cellAt i (by omega)]
            simp [List.getD, show i < (rowNums zs).length by omega]
          have hcv := run_convert_bytes_arg (P := Try.prog) wr 22 5 Try.underlying22 Try.underlying5 g 0 (1 + 3 * k) cap (rowNums zs) hlr hcell 9 Try.underlying9
          clear hcell hown hr hlr
          go_wp2
          go_ret2
          exact ⟨by simp, B1.trans (hbw.mono B1.size)⟩

set_option maxHeartbeats 1000000 in
theorem specRowBytes_any (a : Option Addr) (n c : Nat) (zs : List Int) (w : World) (hz : zs.length = n) (hn : n ≤ 9223372036854775807) (ha : At w a zs) :
    Calls Try.prog 13 #[.agg #[.slice a n c]] w fun e w' =>
      e = .returned (.tuple #[.string (if good zs then strOfNums (rowNums zs) else ByteArray.empty), .bool (good zs)]) ∧ Below w.heap.size w w' := by
  obtain ⟨W, hW⟩ : ∃ W, W = w.alloc (.cells #[.slice a n c] 25) := ⟨_, rfl⟩
  have B : Below w.heap.size w W := by rw [hW]; exact (Below.refl _ _).alloc (Nat.le_refl _) _
  have HA : At W a zs := ha.below B
  have c1 : W.cell? ⟨w.heap.size, 0, none⟩ = some (.slice a n c) := by rw [hW]; simp
  cases hg : good zs with
  | false =>
    have HG : Hid (good zs = false) := hg
    clear hg ha
    go_enter Try.func13, Try.ntmps13
    go_wp2_with fail
    rw [← hW]
    refine (specGoodRow_any _ _ _ zs _ hz hn HA).mono ?_
    rintro e w1 ⟨rfl, hb1⟩
    rw [HG.out]
    clear hW
    go_wp2
    go_ret2
    exact ⟨by simp; rfl, B.trans (hb1.mono B.size)⟩
  | true =>
    have HG : Hid (good zs = true) := hg
    have gx := fun k (hk : k < n) => good_cell hg k (by omega)
    have l1 := good_len hg
    obtain ⟨i0, hi, hz0, hz1, hz2⟩ := info_parts Try.infoByte
    clear hg ha
    go_enter Try.func13, Try.ntmps13
    go_wp2_with fail
    rw [← hW]
    refine (specGoodRow_any _ _ _ zs _ hz hn HA).mono ?_
    rintro e w1 ⟨rfl, hb1⟩
    rw [HG.out]
    have d1 := cell_later hb1 c1
    have B1 := B.trans (hb1.mono B.size)
    have HA1 := HA.below hb1
    clear hW HA hb1 c1 B
    have z1 : w.heap.size < w1.heap.size := World.block_lt_of_cell? _ _ d1
    go_wp2
    have o1 : (w1.alloc (.cells #[.int .u8 (n : Int)] 5)).ownsRow w1.heap.size 5 1 (.slice (some ⟨w1.heap.size, 0, none⟩) 1 1) (1 + 3 * 0) ((rowNumsTo zs 0).map (.int .u8)) := by
      have := World.ownsRow_lit (base := w1.heap.size) (e := 5) (size := 1) w1 #[.int .u8 (n : Int)] 1 (Nat.le_refl _) (by unfold maxLen; omega) (by simp)
      simpa [rowNumsTo, hz] using this
    go_loopw [4, 19] (fun v i wr => ∃ k : Nat, k ≤ n ∧ i = .int .i64 k ∧ wr.ownsRow w1.heap.size 5 1 v (1 + 3 * k) ((rowNumsTo zs k).map (.int .u8)) ∧ Below w1.heap.size w1 wr) (fun _ i _ => n - (intOf i).toNat)
    case atStart => exact ⟨0, Nat.zero_le _, rfl, o1, (Below.refl _ _).alloc (Nat.le_refl _) _⟩
    case round =>
      clear o1
      obtain ⟨k, hk, rfl, hown, hbw⟩ := hrel
      by_cases hlt : k < n
      · obtain ⟨b, off, rfl, hb, hc⟩ := (HA1.below hbw).some (by omega)
        have hcx := hc k (by omega)
        obtain ⟨glo, ghi⟩ := gx k hlt
        obtain ⟨x, hx⟩ : ∃ x, x = zs.getD k 0 := ⟨_, rfl⟩
        rw [← hx] at hcx glo ghi
        have HX : Hid (x = zs.getD k 0) := hx
        clear hc gx hx
        have z2 := hbw.size
        go_wp2_with (at_builtin; refine wpList_append_own _ rfl (.tmp 25) (.tmp 34) 22 rfl w1.heap.size 5 i0 (.int .u8 0) 1 1 Try.underlying22 hi hz0 hz1 hz2 rfl (by decide) _ _ _ rfl (hown.alloc _) ⟨wr.heap.size, 0, none⟩ 3 3 [.int .u8 ((x + 100000) / 65536), .int .u8 ((x + 100000) / 256 % 256), .int .u8 ((x + 100000) % 256)] rfl rfl (news_at wr _ _) (by simp; exact ⟨rfl, rfl, rfl⟩) (by unfold maxLen; omega) (by omega) (by simp; omega) ?_)
        intro v' w2 hown' hgrow _
        have HO : Hid (w2.ownsRow w1.heap.size 5 1 v' (1 + 3 * (k + 1)) ((rowNumsTo zs (k + 1)).map (.int .u8))) := by
          rw [rowNumsTo_succ zs k (by omega), ← HX.out, List.map_append]
          exact hown'
        have HB : Hid (Below w1.heap.size w1 w2) := (hbw.alloc z2 _).grown hgrow (by simp; omega) (fun j hj => (hown.lt j hj).1)
        clear hown' hgrow hown
        go_wp2
        go_roundw
        case rel => exact ⟨k + 1, by omega, by go_num, HO.out, HB.out⟩
        case measure => simp [intOf]; omega
      · obtain rfl : k = n := by omega
        have hr : rowNumsTo zs k = rowNums zs := by rw [← hz]; exact rowNumsTo_all zs
        have hlr : (rowNums zs).length = 1 + 3 * k := by rw [← hr, rowNumsTo_length zs _ (by omega)]
        rw [hr] at hown
        rcases hown.2 with ⟨_, h0⟩ | ⟨g, cap, cur, rfl, hjunk⟩
        · omega
        · clear hjunk
          have hcell : ∀ i, i < 1 + 3 * k → wr.cell? ⟨g, 0 + i, none⟩ = some (.int .u8 ((rowNums zs).getD i 0)) := fun i hi => by
            rw [Nat.zero_add, hown.cellAt i (by omega)]
            simp [List.getD, show i < (rowNums zs).length by omega]
          have hcv := run_convert_bytes_arg (P := Try.prog) wr 22 5 Try.underlying22 Try.underlying5 g 0 (1 + 3 * k) cap (rowNums zs) hlr hcell 9 Try.underlying9
          clear hcell hown hr hlr
          go_wp2
          go_ret2
          exact ⟨by simp, B1.trans (hbw.mono B1.size)⟩

/-- The text that RowBytes answers. -/
def rowStr (zs : List Int) : ByteArray := if good zs then strOfNums (rowNums zs) else ByteArray.empty

theorem implRowBytes (a : Option Addr) (n c : Nat) (zs : List Int) (w : World) (hz : zs.length = n) (hn : n ≤ 9223372036854775807) (ha : At w a zs) :
    Calls Try.prog 12 #[.agg #[.slice a n c]] w fun e w' => e = .returned (.tuple #[.string (rowStr zs), .bool (good zs)]) ∧ Below w.heap.size w w' := implRowBytes_any a n c zs w hz hn ha
theorem specRowBytes (a : Option Addr) (n c : Nat) (zs : List Int) (w : World) (hz : zs.length = n) (hn : n ≤ 9223372036854775807) (ha : At w a zs) :
    Calls Try.prog 13 #[.agg #[.slice a n c]] w fun e w' => e = .returned (.tuple #[.string (rowStr zs), .bool (good zs)]) ∧ Below w.heap.size w w' := specRowBytes_any a n c zs w hz hn ha

end Go.Proofs.Ytagijnfiiifppaa
