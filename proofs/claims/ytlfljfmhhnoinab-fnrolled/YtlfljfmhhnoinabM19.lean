/- Several texts of one proof, in build order: GrpP, GoodVI, GrpH, GrpM, GrpE, LawV. -/
import Derived.Test.YtlfljfmhhnoinabM16
import Derived.Test.YtlfljfmhhnoinabM17
import Derived.Test.YtlfljfmhhnoinabM3
import Derived.Deep.DeepCutAuto

/- One more group at a slice's end: what is owned behind 'append(l, g)'. -/
namespace Go.Proofs.Ytlfljfmhhnoinab
open Go.RowKit

theorem gat_left {ts ts' : List GRow} {i : Nat} (h : i < ts.length) : gat (ts ++ ts') i = gat ts i := by simp [gat, List.getD, List.getElem?_append_left h]
theorem gat_last (ts : List GRow) (t : GRow) : gat (ts ++ [t]) ts.length = t := by simp [gat, List.getD]

theorem OwnVk.pushed {w w2 w4 : World} {lo hi : Nat} {te ti : TypeId} {a a' : Option Addr} {n c m c' g cap : Nat} {ts : List GRow} {cells : List Value} {zs : List Int} {x y : Int} {o : Obj} (h : OwnV w lo hi te ti a n c ts cells) (hlo : lo ≤ w.heap.size) (hb : Below w.heap.size w w2)
    (hm : zs.length = m) (hrow : w2.ownsRow w.heap.size ti 1 (.slice a' m c') m (zs.map (.int .i64)))
    (hown : w4.ownsRow lo te 3 (.slice (some ⟨g, 0, none⟩) (n + 1) cap) (n + 1) (cells ++ [.slice a' m c', .int .i64 x, .int .i64 y])) (hgr : (w2.alloc o).grownBy w4 (Value.slice a n c).ownBlock)
    (hat : (Value.slice a n c).ownBlock = some g ∨ g = w2.heap.size + 1) (hlt : g < w4.heap.size) :
    OwnV w4 lo w4.heap.size te ti (some ⟨g, 0, none⟩) (n + 1) cap (ts ++ [(zs, x, y)]) (cells ++ [.slice a' m c', .int .i64 x, .int .i64 y]) := by
  have hz := h.len
  have hl := h.outer.1
  have hz2 := hb.size
  have htop := h.top
  have hsz4 : w2.heap.size + 1 ≤ w4.heap.size := by have := hgr.size; simpa using this
  have hout : ∀ b, (Value.slice a n c).ownBlock = some b → b < w.heap.size := fun b hb' => Nat.lt_of_lt_of_le (h.outerLt b hb') htop
  have hL : ∀ i, i < n → (cells ++ [.slice a' m c', .int .i64 x, .int .i64 y])[i * 3]? = cells[i * 3]? ∧ (cells ++ [.slice a' m c', .int .i64 x, .int .i64 y])[i * 3 + 1]? = cells[i * 3 + 1]? ∧ (cells ++ [.slice a' m c', .int .i64 x, .int .i64 y])[i * 3 + 2]? = cells[i * 3 + 2]? := fun i hi =>
    ⟨List.getElem?_append_left (by omega), List.getElem?_append_left (by omega), List.getElem?_append_left (by omega)⟩
  have hN0 : (cells ++ [.slice a' m c', .int .i64 x, .int .i64 y])[n * 3]? = some (.slice a' m c') := by
    rw [List.getElem?_append_right (by omega), show n * 3 - cells.length = 0 by omega]; rfl
  have hN1 : (cells ++ [.slice a' m c', .int .i64 x, .int .i64 y])[n * 3 + 1]? = some (.int .i64 x) := by
    rw [List.getElem?_append_right (by omega), show n * 3 + 1 - cells.length = 1 by omega]; rfl
  have hN2 : (cells ++ [.slice a' m c', .int .i64 x, .int .i64 y])[n * 3 + 2]? = some (.int .i64 y) := by
    rw [List.getElem?_append_right (by omega), show n * 3 + 2 - cells.length = 2 by omega]; rfl
  have hblk : ∀ i, i < n → blkV (cells ++ [.slice a' m c', .int .i64 x, .int .i64 y]) i = blkV cells i := fun i hi => by simp only [blkV, List.getD, (hL i hi).1]
  have hblkN : blkV (cells ++ [.slice a' m c', .int .i64 x, .int .i64 y]) n = (Value.slice a' m c').ownBlock := blkV_of hN0
  have hnew : ∀ b, (Value.slice a' m c').ownBlock = some b → w.heap.size ≤ b ∧ b < w2.heap.size := fun b hb' => hrow.lt b hb'
  have hold : ∀ i, i < n → ∀ b, blkV cells i = some b → b < w.heap.size := fun i hi b hb' => Nat.lt_of_lt_of_le (h.rowLt i hi b hb').1 htop
  refine ⟨by simp [hz], Nat.le_refl _, hown, fun b hb' => by simp [Value.ownBlock] at hb'; omega, fun i hi => ?_, fun i hi b hb' => ?_, fun i j hi hj hij b hb' => ?_⟩
  · by_cases e : i = n
    · subst e
      rw [show gat (ts ++ [(zs, x, y)]) i = (zs, x, y) by rw [← hz]; exact gat_last ts _]
      refine ⟨a', c', by rw [hN0, hm], hN1, hN2, ?_⟩
      simp only [hm]
      refine owns_mono ((hrow.alloc o).kept hgr ?_) hlo
      cases hv : (Value.slice a' m c').ownBlock with
      | none => exact .inl rfl
      | some k => exact .inr (fun e' => by have := hnew k hv; have := hout k e'.symm; omega)
    · have hi' : i < n := by omega
      obtain ⟨a1, c1, k1, k2, k2', k3⟩ := h.row i hi'
      rw [gat_left (by omega)]
      refine ⟨a1, c1, by rw [(hL i hi').1]; exact k1, by rw [(hL i hi').2.1]; exact k2, by rw [(hL i hi').2.2]; exact k2', ((owns_below k3 hb).alloc o).kept hgr ?_⟩
      cases hv : (Value.slice a1 (gat ts i).1.length c1).ownBlock with
      | none => exact .inl rfl
      | some k => exact .inr (fun e' => (h.rowLt i hi' k (by rw [blkV_of k1]; exact hv)).2 e'.symm)
  · by_cases e : i = n
    · subst e
      rw [hblkN] at hb'
      have := hnew b hb'
      refine ⟨by omega, fun e' => ?_⟩
      have hgb : g = b := by simpa [Value.ownBlock] using e'
      rcases hat with h' | h'
      · have := hout g h'; omega
      · omega
    · have hi' : i < n := by omega
      rw [hblk i hi'] at hb'
      have := hold i hi' b hb'
      refine ⟨by omega, fun e' => ?_⟩
      have hgb : g = b := by simpa [Value.ownBlock] using e'
      rcases hat with h' | h'
      · exact (h.rowLt i hi' b hb').2 (by rw [h', hgb])
      · omega
  · by_cases ei : i = n
    · subst ei
      rw [hblkN] at hb'
      have h1 := hnew b hb'
      rw [hblk j (by omega)]
      intro e'
      have := hold j (by omega) b e'
      omega
    · rw [hblk i (by omega)] at hb'
      by_cases ej : j = n
      · subst ej
        rw [hblkN]
        intro e'
        have := hnew b e'
        have := hold i (by omega) b hb'
        omega
      · rw [hblk j (by omega)]
        exact h.apart i j (by omega) (by omega) hij b hb'

end Go.Proofs.Ytlfljfmhhnoinab

/- Contract of impl.GoodGroups. -/
namespace Go.Proofs.Ytlfljfmhhnoinab
open Go.RowKit

set_option maxHeartbeats 4000000 in
theorem implGoodGroups_any (a : Option Addr) (n c : Nat) (ts : List GRow) (w : World) (hz : ts.length = n) (hn : n ≤ 1048576) (ha : AtV w a ts) :
    Calls Try.prog 56 #[.slice a n c] w fun e w' => e = .returned (.bool (goodV ts)) ∧ Below w.heap.size w w' := by
  by_cases h60 : n ≤ 60
  rotate_left
  · have h60' : (60 : Int) < n := by omega
    go_enter Try.func56, Try.ntmps56
    go_wp2
    go_ret
    exact ⟨ret_bool (goodV_len (by omega)).symm, Below.refl _ _⟩
  have hgt : decide ((60 : Int) < n) = false := decide_eq_false (by omega)
  cases hol : oneLen ts with
  | false =>
    have HOL := Hid.mk hol
    clear hol
    go_enter Try.func56, Try.ntmps56
    go_wp2_with (go_at_call 106; refine (keysOfOneLength_any _ _ _ ts _ hz hn ha).mono ?_; rintro e w1 ⟨rfl, hb1⟩; rw [HOL.out])
    go_ret
    exact ⟨ret_bool (goodV_oneLen HOL.out).symm, hb1⟩
  | true =>
    have HOL := Hid.mk hol
    have hL : ∀ k, k < n → (gat ts k).1.length = keyN ts := fun k hk => oneLen_at hol k (by omega)
    have HL := Hid.mk hL
    clear hol hL
    go_enter Try.func56, Try.ntmps56
    go_wp2_with (go_at_call 106; refine (keysOfOneLength_any _ _ _ ts _ hz hn ha).mono ?_; rintro e w1 ⟨rfl, hb1⟩; rw [HOL.out])
    have HA1 := ha.below hb1
    have B1 := hb1
    clear ha hb1
    go_loopw [15] (fun i wr => ∃ (k : Nat), k ≤ n ∧ i = .int .i64 k ∧ (∀ j, j < k → stepV ts j = true) ∧ Below w1.heap.size w1 wr) (fun i _ => n - (intOf i).toNat)
    case atStart => exact ⟨0, Nat.zero_le _, rfl, fun j hj => by omega, Below.refl _ _⟩
    case round =>
      obtain ⟨k, hk, rfl, hall, hbw⟩ := hrel
      have B2 := B1.trans (hbw.mono B1.size)
      by_cases hlt : k < n
      · obtain ⟨b, off, rfl, hc⟩ := (HA1.below hbw).some (by omega)
        obtain ⟨q, d, hcx, hwx, hvx, hm, hat⟩ := hc k (by omega)
        have HN : Hid (goodG (keyN ts) (gat ts k) = false → goodV ts = false) := fun h => goodV_not k (by omega) (stepV_row h)
        have HC : Hid (k ≠ 0 → ¬ cmp (gat ts (k - 1)).1 (gat ts k).1 < 0 → goodV ts = false) := fun h0 h => goodV_not k (by omega) (stepV_cmp h0 h)
        have HS : Hid (goodG (keyN ts) (gat ts k) = true → (k = 0 ∨ cmp (gat ts (k - 1)).1 (gat ts k).1 < 0) → ∀ j, j < k + 1 → stepV ts j = true) := fun h1 h2 j hj => by
          by_cases e : j = k
          · subst e; exact stepV_mk h1 h2
          · exact hall j (by omega)
        have HLK := Hid.mk (HL.out k hlt)
        have hgp : k ≠ 0 → good (gat ts (k - 1)).1 = true := fun h0 => (goodG_cells (stepV_good (hall (k - 1) (by omega)))).1
        have HGP := Hid.mk hgp
        have hprev : k ≠ 0 → ∃ q' d', wr.cell? ⟨b, off + (k - 1) * 3, none⟩ = some (.slice q' (gat ts (k - 1)).1.length d') ∧ At wr q' (gat ts (k - 1)).1 := fun h0 => by
          obtain ⟨q', d', h1, _, _, _, h2⟩ := hc (k - 1) (by omega)
          exact ⟨q', d', h1, h2⟩
        have HPV := Hid.mk hprev
        have hki : (k : Int) < (n : Int) := by omega
        obtain ⟨k', hk'⟩ : ∃ k', k' = k - 1 := ⟨_, rfl⟩
        rw [← hk'] at HC HS HGP HPV
        have HK' := Hid.mk hk'
        clear hall hc hgp hprev hk'
        generalize gat ts k = Y at *
        generalize gat ts k' = Y' at *
        obtain ⟨ys, x, y⟩ := Y
        obtain ⟨ys', x', y'⟩ := Y'
        simp only at hcx hwx hvx hat hm
        obtain ⟨m, hmm⟩ : ∃ m, ys.length = m := ⟨_, rfl⟩
        rw [hmm] at hcx hm
        have HM := Hid.mk hmm
        clear hmm
        obtain ⟨gg, hgg⟩ : ∃ gg : Bool, (good ys && (ins x && (ins y && !nought x y))) = gg := ⟨_, rfl⟩
        have HGG := Hid.mk hgg
        have HGE : Hid (goodG (keyN ts) (ys, x, y) = gg) := by
          show goodG _ _ = _
          rw [← hgg]
          simp only [goodG, show decide (ys.length = keyN ts) = true from decide_eq_true HLK.out, Bool.true_and]
        have HGY : Hid (gg = true → good ys = true) := fun h => by rw [h] at hgg; simp only [Bool.and_eq_true] at hgg; exact hgg.1
        clear hgg
        obtain ⟨W, hW⟩ : ∃ W, W = wr.alloc (.cells #[.slice q m d, .int .i64 x, .int .i64 y] 73) := ⟨_, rfl⟩
        have hbW : Below wr.heap.size wr W := by rw [hW]; exact (Below.refl _ _).alloc (Nat.le_refl _) _
        have c3 : W.cell? ⟨wr.heap.size, 0, none⟩ = some (.slice q m d) := by rw [hW]; exact trip0 wr _ _ _ _
        have HAx := hat.below hbW
        have BW := B2.trans (hbW.mono B2.size)
        have BV := hbw.trans (hbW.mono hbw.size)
        have HPW : Hid (k ≠ 0 → ∃ q' d', W.cell? ⟨b, off + k' * 3, none⟩ = some (.slice q' ys'.length d') ∧ At W q' ys') := fun h0 => by
          obtain ⟨q', d', h1, h2⟩ := HPV.out h0
          exact ⟨q', d', cell_later hbW h1, h2.below hbW⟩
        clear hat HPV B2 hbw
        cases gg with
        | false =>
          go_wp2_with fail
          rw [← hW]
          clear hW
          refine (goodGroup_any _ _ _ ys _ _ _ HM.out hm HAx).mono ?_
          rintro e w2 ⟨rfl, hb2⟩
          rw [HGG.out]
          go_wp2
          go_ret
          exact ⟨ret_bool (HN.out HGE.out).symm, BW.trans (hb2.mono BW.size)⟩
        | true =>
          have HG1 := Hid.mk (HGY.out rfl)
          have l1 := good_len (HGY.out rfl)
          rw [HM.out] at l1
          go_wp2_with fail
          rw [← hW]
          clear hW hcx hwx hvx hbW
          refine (goodGroup_any _ _ _ ys _ _ _ HM.out hm HAx).mono ?_
          rintro e w2 ⟨rfl, hb2⟩
          rw [HGG.out]
          have c3 := cell_later hb2 c3
          have HAx := HAx.below hb2
          have BW := BW.trans (hb2.mono BW.size)
          have BV := BV.trans (hb2.mono BV.size)
          by_cases hk0 : k = 0
          · have HK := Hid.mk hk0
            have hnp : decide (0 < k) = false := decide_eq_false (by omega)
            clear hk0 hb2
            go_wp2
            go_quiet (fail)
            go_wp2
            go_roundw
            case rel => exact ⟨k + 1, by omega, by go_num, HS.out HGE.out (.inl HK.out), below_drewN BV _⟩
            case measure => simp [intOf]; omega
          · obtain ⟨q', d', hcx', hat'⟩ := HPW.out hk0
            have c1 := cell_later hb2 hcx'
            have HAy := hat'.below hb2
            have HG1' := Hid.mk (HGP.out hk0)
            have l1' := good_len (HGP.out hk0)
            obtain ⟨m', hmm'⟩ : ∃ m, ys'.length = m := ⟨_, rfl⟩
            rw [hmm'] at c1 l1'
            have HM' := Hid.mk hmm'
            have hnp : 0 < k := by omega
            have hsub : IntKind.i64.wrap ((k : Int) - 1) = (k' : Int) := (IntWalk.i64_in _ (by omega)).trans (by have := HK'.out; omega)
            have hlt1 : (k' : Int) < (n : Int) := by have := HK'.out; omega
            clear hcx' hat' hmm' hb2
            go_wp2
            go_region_held3 (fun w' => w'.cell? ⟨b, off + k' * 3, none⟩ = some (.slice q' m' d') ∧ w'.cell? ⟨wr.heap.size, 0, none⟩ = some (.slice q m d)) (refine ⟨?_, ?_⟩ <;> assumption)
              (first
                | (go_at_call_of 97 (Value.slice q' m' d'); refine (arrayOf_any _ _ _ ys' _ HM'.out l1' (fun j hj => good_cell HG1'.out j (by have := HM'.out; omega)) HAy.drew).mono ?_; rintro e w5 ⟨y0, y1, y2, y3, y4, y5, rfl, hy, hb2⟩; have r1 := cell_later hb2 c1; have r3 := cell_later hb2 c3; have HAz := HAx.drew.below hb2)
                | (go_at_call_of 97 (Value.slice q m d); refine (arrayOf_any _ _ _ ys _ HM.out l1 (fun j hj => good_cell HG1.out j (by have := HM.out; omega)) HAz).mono ?_; rintro e w3 ⟨x0, x1, x2, x3, x4, x5, rfl, hx, hb3⟩; have s1 := cell_later hb3 r1; have s3 := cell_later hb3 r3)
                | (go_at_call 96; refine (compareArrays_any _ _ _ _ _ _ _ _ _ _ _ _ _ _ hy hx _).mono ?_; rintro e w4 ⟨rfl, hb4⟩; have v1 := cell_later hb4 s1; have v3 := cell_later hb4 s3))
            have B5 : Below w.heap.size w w4 := ((BW.drew.trans (hb2.mono BW.size)).trans (hb3.mono (by have := hb2.size; have := BW.size; simp only [drew_size] at *; omega))).trans (hb4.mono (by have := hb2.size; have := hb3.size; have := BW.size; simp only [drew_size] at *; omega))
            have V5 : Below w1.heap.size w1 w4 := ((BV.drew.trans (hb2.mono BV.size)).trans (hb3.mono (by have := hb2.size; have := BV.size; simp only [drew_size] at *; omega))).trans (hb4.mono (by have := hb2.size; have := hb3.size; have := BV.size; simp only [drew_size] at *; omega))
            have hcr := cmp_raised HG1'.out HG1.out
            rw [hy, hx] at hcr
            have hcm := cmp_range ys' ys
            clear hy hx hb2 hb3 hb4 r1 r3 s1 s3 v1 v3 c1 c3 HAz HAx HAy BW BV
            by_cases hlss : cmp ys' ys < 0
            · have hcc : (cmp [y0, y1, y2, y3, y4, y5] [x0, x1, x2, x3, x4, x5] != -1) = false := by rw [hcr, show cmp ys' ys = -1 by omega]; rfl
              have HL' := Hid.mk hlss
              clear hcr hcm hlss
              go_wp2
              go_roundw
              case rel => exact ⟨k + 1, by omega, by go_num, HS.out HGE.out (.inr HL'.out), V5⟩
              case measure => simp [intOf]; omega
            · have hcc : (cmp [y0, y1, y2, y3, y4, y5] [x0, x1, x2, x3, x4, x5] != -1) = true := by
                rw [hcr]
                rcases hcm with h | h | h
                · omega
                · rw [h]; rfl
                · rw [h]; rfl
              have HL' := Hid.mk hlss
              clear hcr hcm hlss
              go_wp2
              go_ret
              exact ⟨ret_bool (HC.out hk0 (by have := HL'.out; omega)).symm, B5⟩
      · go_wp2
        go_ret
        exact ⟨ret_bool (goodV_of (by omega) (fun j hj => hall j (by omega))).symm, B2⟩

end Go.Proofs.Ytlfljfmhhnoinab

/- Contracts of the laws' helpers over groups: szGroup, szGroupS, toGroup, toGroupS. -/
namespace Go.Proofs.Ytlfljfmhhnoinab
open Go.RowKit

theorem Try.infoV : (Try.prog.info? 73).map (fun i => (i.zero, i.size, i.bytes)) = some (some (.agg #[.slice none 0 0, .int .i64 0, .int .i64 0]), 3, 40) := by kernel_rfl

end Go.Proofs.Ytlfljfmhhnoinab

/- Contracts of the laws' helpers that mark groups: markGroupS, heldGroupS. -/
namespace Go.Proofs.Ytlfljfmhhnoinab
open Go.RowKit

end Go.Proofs.Ytlfljfmhhnoinab

/- Contracts of the laws' helpers over groups: eqGroup, eqGroupS. -/
namespace Go.Proofs.Ytlfljfmhhnoinab
open Go.RowKit

end Go.Proofs.Ytlfljfmhhnoinab

/- The laws' helpers over groups in one form: what they make, hold equal, mark, find held. -/
namespace Go.Proofs.Ytlfljfmhhnoinab
open Go.RowKit

/-- A list of groups that the laws' bound allows. -/
def SmV (ts : List GRow) (n : Nat) : Prop := ts.length = n ∧ vtot ts n ≤ 1048576
theorem SmV.n {ts : List GRow} {n : Nat} (h : SmV ts n) : n ≤ 1048576 := by have := vtot_len ts n (by have := h.1; omega); have := h.2; omega
theorem SmV.row {ts : List GRow} {n : Nat} (h : SmV ts n) : ∀ i, i < n → (gat ts i).1.length ≤ 1048576 := fun i hi => Nat.le_trans (vtot_each ts n h.1 i hi) h.2
theorem SmV.rowx {ts : List GRow} {n : Nat} (h : SmV ts n) : ∀ i, i < n → (gat ts i).1.length ≤ 9223372036854775807 := fun i hi => Nat.le_trans (h.row i hi) (by decide)
/-- A slice of groups that the call made: all its blocks lie from lo on and below hi. -/
def OwnGr (w : World) (lo hi : Nat) (a : Option Addr) (n c : Nat) (ts : List GRow) : Prop := ∃ cells, OwnV w lo hi 73 3 a n c ts cells

section
variable {w w' : World} {lo hi : Nat} {a : Option Addr} {n c : Nat} {ts : List GRow}
theorem OwnGr.below (h : OwnGr w lo hi a n c ts) (hb : Below w.heap.size w w') : OwnGr w' lo hi a n c ts := by obtain ⟨cs, h⟩ := h; exact ⟨cs, h.below hb⟩
theorem OwnGr.atV (h : OwnGr w lo hi a n c ts) (hs : SmV ts n) : AtV w a ts := by obtain ⟨cs, h⟩ := h; exact OwnVk.atV h hs.rowx
theorem OwnGr.len (h : OwnGr w lo hi a n c ts) : ts.length = n := by obtain ⟨cs, h⟩ := h; exact h.len
theorem OwnGr.widen {lo' hi' : Nat} (h : OwnGr w lo hi a n c ts) (h1 : lo' ≤ lo) (h2 : hi ≤ hi') (h3 : hi' ≤ w.heap.size) : OwnGr w lo' hi' a n c ts := by obtain ⟨cs, h⟩ := h; exact ⟨cs, OwnVk.widen h h1 h2 h3⟩
theorem OwnGr.nil (w : World) (lo : Nat) : OwnGr w lo w.heap.size none 0 0 [] :=
  ⟨[], rfl, Nat.le_refl _, World.ownsRow_nil _ _ _ _, fun b hb => by simp [Value.ownBlock] at hb, fun i hi => by omega, fun i hi => by omega, fun i j hi => by omega⟩
theorem OwnGr.setCell {a0 : Addr} (h : OwnGr w lo hi a n c ts) (ha : a0.block < lo ∨ hi ≤ a0.block) (v : Value) : OwnGr (w.setCell a0 v) lo hi a n c ts := by obtain ⟨cs, h⟩ := h; exact ⟨cs, OwnVk.setCell h ha v⟩
end

end Go.Proofs.Ytlfljfmhhnoinab
