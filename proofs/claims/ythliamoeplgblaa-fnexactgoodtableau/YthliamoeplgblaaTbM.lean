/- Contracts of the laws' helpers over tableaus: toRowS, toTableau, markRowS, markTableau, heldRowS, heldTableau. -/
import Derived.Test.YthliamoeplgblaaTbG
import Derived.Test.YthliamoeplgblaaRepP
import Derived.Test.YthliamoeplgblaaIntM
import Derived.Test.YthliamoeplgblaaIntsR
namespace Go.Proofs.Ythliamoeplgblaa
open Go.RowKit

theorem Try.infoRow : (Try.prog.info? 70).map (fun i => (i.zero, i.size, i.bytes)) = some (some (.agg #[.slice none 0 0]), 1, 24) := by kernel_rfl

set_option maxRecDepth 100000 in
set_option maxHeartbeats 4000000 in
theorem toRowS_any (a : Option Addr) (n c : Nat) (zss : List (List Int)) (w : World) (hs : SmR zss n) (ha : AtS w a zss) :
    Calls Try.prog 31 #[.slice a n c] w fun e w' => ∃ g, e = .returned (.slice (some ⟨g, 0, none⟩) n n) ∧ RRows.Own w' (From w.heap.size w'.heap.size) [.slice (some ⟨g, 0, none⟩) n n] zss ∧ Below w.heap.size w w' := by
  obtain ⟨i0, hi, hz0, hz1, hz2⟩ := info_parts Try.infoRow
  have hn := hs.n
  have hz := hs.1
  go_enter Try.func31, Try.ntmps31
  go_wp2_with (at_make; refine wpList_make_full _ rfl _ _ 28 rfl w.heap.size 70 i0 (.agg #[.slice none 0 0]) 1 Try.underlying28 hi hz0 hz1 .i64 .i64 _ _ n rfl rfl rfl rfl (by rw [hz2]; omega) (by unfold maxLen; omega) (Nat.le_refl _) ?_; intro w1 hown hg)
  have hb1 : Below w.heap.size w w1 := (Below.refl _ _).grown hg (Nat.le_refl _) (by simp)
  have hlt1 := (hown.lt w.heap.size rfl).2
  obtain ⟨cs, hcs⟩ : ∃ cs, cs = (madeCells (Value.agg #[.slice none 0 0]).cells (n * 1)).toList := ⟨_, rfl⟩
  rw [← hcs] at hown
  have hst : Laid RInts w1 (From w.heap.size w1.heap.size) 70 (some ⟨w.heap.size, 0, none⟩) n n zss cs (fun _ _ => False) 0 := Laid.start hz (by omega) (owns_mono hown (Nat.zero_le _)) (fun b hb => hown.lt b hb) _
  clear hcs hown hg
  go_loopw [4] (fun i wr => ∃ (k : Nat) (cells : List Value) (G : Nat → Nat → Prop), k ≤ n ∧ i = .int .i64 k ∧ Laid RInts wr (From w.heap.size wr.heap.size) 70 (some ⟨w.heap.size, 0, none⟩) n n zss cells G k ∧ w.heap.size < wr.heap.size ∧ Below w.heap.size w wr) (fun i _ => n - (intOf i).toNat)
  case atStart => exact ⟨0, cs, _, Nat.zero_le _, rfl, hst, hlt1, hb1⟩
  case round =>
    clear hst hb1 hlt1 cs
    obtain ⟨k, cells, G, hk, rfl, ho, hzr, hbw⟩ := hrel
    by_cases hlt : k < n
    · obtain ⟨b, off, rfl, hc⟩ := (ha.below hbw).some (by omega)
      obtain ⟨ys, hy⟩ : ∃ ys, zss[k]? = some ys := ⟨_, List.getElem?_eq_getElem (by omega)⟩
      obtain ⟨a', c', hcx, _, hat⟩ := hc k (by omega)
      have hsm := hs.each k (by omega)
      have hgk : zss.getD k [] = ys := by simp [List.getD, hy]
      rw [hgk] at hcx hat hsm
      obtain ⟨m, hm⟩ : ∃ m, ys.length = m := ⟨_, rfl⟩
      rw [hm] at hcx hsm
      have hki : (k : Int) < (n : Int) := by omega
      have HO := Hid.mk ho
      have HX := Hid.mk hy
      have HM := Hid.mk hm
      have HC := Hid.mk (toRow_any a' m c' ys wr hm hsm hat)
      clear hc ha ho hs hy hat hgk hm
      go_wp2_with fail
      refine HC.out.mono ?_
      rintro e w2 ⟨h1, rfl, ho2, hb2⟩
      have ho2 := RInts.of_owns HM.out (by omega) ho2
      have hput := HO.out.put hlt (fun b hb => hb.2) hb2 HX.out ho2 (fun b hb => hb.1)
      have z2 := hb2.size
      have hput2 := hput.mono (F' := From w.heap.size w2.heap.size) (fun b hb => by rcases hb with hb | hb; exact ⟨hb.1, by have := hb.2; omega⟩; exact ⟨by have := hb.1; omega, hb.2⟩)
      have HP : Hid (Laid RInts (w2.setCell ⟨w.heap.size, k * 1, none⟩ (.slice (some ⟨h1, 0, none⟩) m m)) (From w.heap.size w2.heap.size) 70 (some ⟨w.heap.size, 0, none⟩) n n zss _ _ (k + 1)) := hput2
      rw [Nat.mul_one] at HP
      have hout := (HO.out.below hb2).outer
      have hln : cells.length = n * 1 := hout.1
      obtain ⟨u0, hu0⟩ : ∃ u, cells[k]? = some u := ⟨_, List.getElem?_eq_getElem (by omega)⟩
      have q0 : w2.cell? ⟨w.heap.size, k, none⟩ = some u0 := (hout.cellAt _ (show k < n * 1 by omega)).trans hu0
      have f0 : w2.frozen? ⟨w.heap.size, k, none⟩ = false := hout.frozenAt _
      clear hu0
      have HB : Hid (Below w.heap.size w (w2.setCell ⟨w.heap.size, k, none⟩ (.slice (some ⟨h1, 0, none⟩) m m))) := (hbw.trans (hb2.mono hbw.size)).setCell (Nat.le_refl _) _
      clear hput hput2 hout hln hb2 hbw ho2 hcx
      go_wp2
      go_roundw
      case rel => exact ⟨k + 1, _, _, by omega, by go_num, by simpa only [World.setCell, Array.size_modify] using HP.out, by simp [World.setCell]; omega, HB.out⟩
      case measure => simp [intOf]; omega
    · obtain rfl : k = n := by omega
      go_wp2
      go_ret
      exact ⟨_, rfl, ⟨_, _, _, _, _, rfl, ho⟩, hbw⟩

theorem toTableau_any (p : Int) (a : Option Addr) (n c : Nat) (zss : List (List Int)) (w : World) (hs : SmR zss n) (ha : AtS w a zss) :
    Calls Try.prog 10 #[.agg #[.int .i64 p, .slice a n c]] w fun e w' => ∃ g, e = .returned (.agg #[.int .i64 p, .slice (some ⟨g, 0, none⟩) n n]) ∧ RTbl.Own w' (From w.heap.size w'.heap.size) [.int .i64 p, .slice (some ⟨g, 0, none⟩) n n] (p, zss) ∧ Below w.heap.size w w' := by
  go_enter Try.func10, Try.ntmps10
  go_wp2_with fail
  refine (toRowS_any _ _ _ zss _ hs ?_).mono ?_
  · exact AtS.below ha ((((Below.refl _ _).alloc (Nat.le_refl _) _).alloc (by simp) _).alloc (by simp; omega) _)
  · rintro e w' ⟨g, rfl, hown, hb⟩
    obtain ⟨hc, hf⟩ := bcell hb
    have hz' : w.heap.size + 2 < w'.heap.size := by have := hb.size; simp at this; omega
    simp only [World.size_alloc] at hc hf hown
    go_wp2
    have dj : ∀ b, From (w.heap.size + 1 + 1 + 1) w'.heap.size b → ¬ From 0 (w.heap.size + 3) b := fun b h k => by have := h.1; have := k.2; omega
    have ho := RRows.ownOff (RRows.ownOff (RRows.ownOff hown (Off.set (F := From 0 (w.heap.size + 3)) (a := ⟨w.heap.size + 1 + 1, 1, none⟩) ⟨by simp, by simp⟩ (.slice (some ⟨g, 0, none⟩) n n)) dj) (Off.set (F := From 0 (w.heap.size + 3)) (a := ⟨w.heap.size + 1, 0, none⟩) ⟨by simp, by simp⟩ (.int .i64 p)) dj) (Off.set (F := From 0 (w.heap.size + 3)) (a := ⟨w.heap.size + 1, 1, none⟩) ⟨by simp, by simp⟩ (.slice (some ⟨g, 0, none⟩) n n)) dj
    refine bodyPost_ret (v := .agg #[.int .i64 p, .slice (some ⟨g, 0, none⟩) n n]) (by simp [results, Try.results10, go_sem, hc]) rfl ⟨_, rfl, RTbl.own_mk (RRows.mono ho fun b h => ⟨by have := h.1; omega, by have := h.2; simp only [World.setCell, Array.size_modify]; exact this⟩), ?_⟩
    exact (((((((Below.refl _ _).alloc (Nat.le_refl _) _).alloc (by simp) _).alloc (by simp; omega) _).trans (hb.mono (by simp; omega))).setCell (by simp; omega) _).setCell (by simp) _).setCell (by simp) _

set_option maxRecDepth 100000 in
set_option maxHeartbeats 4000000 in
theorem markRowS_rep (F : Nat → Prop) (a : Option Addr) (n c : Nat) (zss : List (List Int)) (m : Int) (w : World) (hn : n ≤ 1048576) (ht : tot zss n ≤ 1048576) (h0 : 0 ≤ m) (h1 : m ≤ 134217728) (ho : RRows.Own w F [.slice a n c] zss) :
    Calls Try.prog 39 #[.slice a n c, .int .i64 m] w fun e w' => e = .returned (.int .i64 (m + tot zss n)) ∧ RRows.Own w' F [.slice a n c] (mkPairs m zss) ∧ Off F w w' := by
  obtain ⟨a', n', c', cells, G, he, hl⟩ := ho
  simp only [List.cons.injEq, Value.slice.injEq, and_true] at he
  obtain ⟨rfl, rfl, rfl⟩ := he
  go_enter Try.func39, Try.ntmps39
  go_wp2
  go_loopw [1, 5] (fun q i wr => ∃ k : Nat, k ≤ n ∧ i = .int .i64 k ∧ q = .int .i64 (m + tot zss k) ∧ Laid RInts wr F 70 a n c (mkTo (fun m zs => mkInts m zs) List.length m zss k) cells G n ∧ Off F w wr) (fun _ i _ => n - (intOf i).toNat)
  case atStart => exact ⟨0, Nat.zero_le _, rfl, by simp [tot_zero], by rw [mkTo_zero]; exact hl, Off.refl _ _⟩
  case round =>
    have hzl := hl.len
    clear hl
    obtain ⟨k, hk, rfl, rfl, hl, hof⟩ := hrel
    by_cases hlt : k < n
    · obtain ⟨ys, hy⟩ : ∃ ys, zss[k]? = some ys := ⟨_, List.getElem?_eq_getElem (by omega)⟩
      have hrow := hl.row k ys hlt (mkTo_next _ _ hy)
      obtain ⟨a2, n2, c2, _, _, he2, _⟩ := hrow
      have hrow := hl.row k ys hlt (mkTo_next _ _ hy)
      rw [he2] at hrow
      rcases hl.outer.2 with ⟨_, h00⟩ | ⟨g, cap, cur, hv, _⟩
      · omega
      simp only [Value.slice.injEq, true_and] at hv
      obtain ⟨rfl, rfl⟩ := hv
      have hcl : cells.length = n * 1 := hl.outer.1
      have hcx : wr.cell? ⟨g, k, none⟩ = some (.slice a2 n2 c2) := by
        rw [hl.outer.cellAt k (show k < n * 1 by omega)]
        have h9 := sub_at (cells := cells) (o := k * 1) (k := 1) (j := 0) (by omega)
        have he3 : sub cells (k * 1) 1 = [.slice a2 n2 c2] := he2
        rw [he3] at h9
        simpa using h9.symm
      have hly : ys.length = n2 := (RInts.own_iff.1 hrow).1
      have hts := tot_succ zss k (by omega)
      have hgk : zss.getD k [] = ys := by simp [List.getD, hy]
      rw [hgk, hly] at hts
      have htm := tot_mono zss (k + 1) n (by omega)
      have HL := Hid.mk hl
      have HR := Hid.mk hrow
      have HO := Hid.mk hof
      have HY := Hid.mk hy
      have HLY := Hid.mk hly
      obtain ⟨T, hT⟩ : ∃ T, tot zss k = T := ⟨_, rfl⟩
      have HT := Hid.mk hT
      rw [hT] at hts ⊢
      have hn2 : n2 ≤ 1048576 := by omega
      have hmT : m + (T : Int) ≤ 268435456 := by omega
      have hki : (k : Int) < (n : Int) := by omega
      have HTS := Hid.mk hts
      have HE2 := Hid.mk he2
      clear hl hrow hof hy hly hT hts hgk he2 hcl htm
      go_wp2_with fail
      refine (markInts_rep (G k) a2 n2 c2 ys (m + T) wr hn2 (by omega) hmT HR.out).mono ?_
      rintro e w2 ⟨rfl, o2, f2⟩
      have hturn := HL.out.turn (w' := w2) (cells' := cells) (x' := mkInts (m + T) ys) hlt (fun b hb hn1 _ => f2.block b hb hn1) (ownsRow_frame HL.out.outer (fun b hb hlb => f2.block b hlb (fun hG => (HL.out.rowF k b hlt hG).2 hb))) (fun _ _ => rfl) (by rw [HE2.out]; exact o2)
      have HLN : Hid (Laid RInts w2 F 70 (some ⟨g, 0, none⟩) n c (mkTo (fun m zs => mkInts m zs) List.length m zss (k + 1)) cells G n) := by
        have h9 := mkTo_set (fun m zs => mkInts m zs) List.length (m := m) HY.out
        rw [szL_pairs, HT.out] at h9
        show Laid _ _ _ _ _ _ _ _ _ _ _
        rw [← h9]
        exact hturn
      have HON : Hid (Off F w w2) := HO.out.trans (f2.mono (fun b hb => (HL.out.rowF k b hlt hb).1))
      clear hturn o2 f2
      go_wp2
      go_roundw
      case rel => exact ⟨k + 1, by omega, by go_num, by rw [HTS.out]; congr 1; push_cast; omega, HLN.out, HON.out⟩
      case measure => simp [intOf]; omega
    · obtain rfl : k = n := by omega
      have HL := Hid.mk hl
      clear hl
      go_wp2
      go_ret
      refine ⟨rfl, ⟨_, _, _, cells, G, rfl, ?_⟩, hof⟩
      have h9 := HL.out
      rw [mkTo_all _ _ _ _ hzl] at h9
      exact h9

theorem markTableau_rep (F : Nat → Prop) (p : Int) (a : Option Addr) (n c : Nat) (zss : List (List Int)) (m : Int) (w : World) (hn : n ≤ 1048576) (ht : tot zss n ≤ 1048576) (h0 : 0 ≤ m) (h1 : m ≤ 134217728) (ho : RTbl.Own w F [.int .i64 p, .slice a n c] (p, zss)) :
    Calls Try.prog 15 #[.agg #[.int .i64 p, .slice a n c], .int .i64 m] w fun e w' => e = .returned (.int .i64 (m + tot zss n)) ∧ RTbl.Own w' F [.int .i64 p, .slice a n c] (p, mkPairs m zss) ∧ Off F w w' := by
  have B0 : Below w.heap.size w (w.alloc (.cells #[.int .i64 p, .slice a n c] 30)) := (Below.refl _ _).alloc (Nat.le_refl _) _
  have HR := Hid.mk (RRows.ownBelow (RTbl.own_open ho).2 B0)
  clear ho
  go_enter Try.func15, Try.ntmps15
  go_wp2_with fail
  refine (markRowS_rep F a n c zss m _ hn ht h0 h1 HR.out).mono ?_
  rintro e w2 ⟨rfl, o2, f2⟩
  go_wp2
  go_ret
  exact ⟨rfl, RTbl.own_mk o2, (Off.below B0).trans f2⟩

set_option maxRecDepth 100000 in
set_option maxHeartbeats 2000000 in
theorem heldRowS_rep (a : Option Addr) (n c : Nat) (zss : List (List Int)) (m : Int) (w : World) (hz : zss.length = n) (hn : n ≤ 1048576) (ht : tot zss n ≤ 1048576) (h0 : 0 ≤ m) (h1 : m ≤ 134217728) (ha : AtSl RInts w a (mkPairs m zss)) :
    Calls Try.prog 41 #[.slice a n c, .int .i64 m] w fun e w' => e = .returned (.int .i64 (m + tot zss n)) ∧ Below w.heap.size w w' := by
  have hl : (mkPairs m zss).length = n := by unfold mkPairs; rw [mkL_length, hz]
  by_cases hn0 : n = 0
  · subst hn0
    go_enter Try.func41, Try.ntmps41
    go_wp2
    refine wp_loop_rounds 1 ?_
    rw [rounds_succ]
    go_wp2
    go_ret
    exact ⟨by simp [tot], Below.refl _ _⟩
  go_enter Try.func41, Try.ntmps41
  go_wp2
  go_loopw [1, 5] (fun q i wr => ∃ k : Nat, k ≤ n ∧ i = .int .i64 k ∧ q = .int .i64 (m + tot zss k) ∧ Below w.heap.size w wr) (fun _ i _ => n - (intOf i).toNat)
  case atStart => exact ⟨0, Nat.zero_le _, rfl, by simp [tot_zero], Below.refl _ _⟩
  case round =>
    obtain ⟨k, hk, rfl, rfl, hbw⟩ := hrel
    by_cases hlt : k < n
    · obtain ⟨b, off, rfl, hc⟩ := (ha.below hbw).each (by omega)
      obtain ⟨ys, hy⟩ : ∃ ys, zss[k]? = some ys := ⟨_, List.getElem?_eq_getElem (by omega)⟩
      have hmk := mkL_at (fun m zs => mkInts m zs) List.length m zss k ys hy
      obtain ⟨cs, hcs, a2, n2, c2, rfl, e1, e2, e3, _⟩ := hc k _ hmk
      have hcx : wr.cell? ⟨b, off + k, none⟩ = some (.slice a2 n2 c2) := by simpa [RInts, Rep.slice] using hcs 0 _ rfl
      rw [szL_pairs] at e1 e3
      have hly : ys.length = n2 := by rw [← e1]; unfold mkInts; rw [marks_length]
      have hts := tot_succ zss k (by omega)
      have hgk : zss.getD k [] = ys := by simp [List.getD, hy]
      rw [hgk, hly] at hts
      have htm := tot_mono zss (k + 1) n (by omega)
      obtain ⟨T, hT⟩ : ∃ T, tot zss k = T := ⟨_, rfl⟩
      rw [hT] at hts e3 ⊢
      have hn2 : n2 ≤ 1048576 := by omega
      have hmT : m + (T : Int) ≤ 268435456 := by omega
      have hT0 : ¬ m + (T : Int) + (n2 : Int) < 0 := by omega
      have hki : (k : Int) < (n : Int) := by omega
      have HTS := Hid.mk hts
      have HA := Hid.mk (atSl_int.1 e3)
      have HLY := Hid.mk hly
      clear e1 e3 hly hts hgk hT htm hmk hcs hc hy ha
      go_wp2_with fail
      refine (heldInts_rep a2 n2 c2 ys (m + T) wr HLY.out hn2 (by omega) hmT HA.out).mono ?_
      rintro e w2 ⟨rfl, hb2⟩
      go_wp2
      go_roundw
      case rel => exact ⟨k + 1, by omega, by go_num, by rw [HTS.out]; congr 1; push_cast; omega, hbw.trans (hb2.mono hbw.size)⟩
      case measure => simp [intOf]; omega
    · obtain rfl : k = n := by omega
      go_wp2
      go_ret
      exact ⟨rfl, hbw⟩

theorem heldTableau_rep (p : Int) (a : Option Addr) (n c : Nat) (zss : List (List Int)) (m : Int) (w : World) (hz : zss.length = n) (hn : n ≤ 1048576) (ht : tot zss n ≤ 1048576) (h0 : 0 ≤ m) (h1 : m ≤ 134217728) (ha : AtSl RInts w a (mkPairs m zss)) :
    Calls Try.prog 17 #[.agg #[.int .i64 p, .slice a n c], .int .i64 m] w fun e w' => e = .returned (.int .i64 (m + tot zss n)) ∧ Below w.heap.size w w' := by
  have B0 : Below w.heap.size w (w.alloc (.cells #[.int .i64 p, .slice a n c] 30)) := (Below.refl _ _).alloc (Nat.le_refl _) _
  have HA := Hid.mk (AtSl.below ha B0)
  have h2 : ¬ m + (tot zss n : Int) < 0 := by omega
  clear ha
  go_enter Try.func17, Try.ntmps17
  go_wp2_with fail
  refine (heldRowS_rep a n c zss m _ hz hn ht h0 h1 HA.out).mono ?_
  rintro e w2 ⟨rfl, hb⟩
  go_wp2
  go_ret
  exact ⟨rfl, B0.trans (hb.mono B0.size)⟩

theorem markTableau_rows (F : Nat → Prop) (p : Int) (a : Option Addr) (n c : Nat) (zss : List (List Int)) (m : Int) (w : World) (hn : n ≤ 1048576) (ht : tot zss n ≤ 1048576) (h0 : 0 ≤ m) (h1 : m ≤ 134217728) (ho : RRows.Own w F [.slice a n c] zss) :
    Calls Try.prog 15 #[.agg #[.int .i64 p, .slice a n c], .int .i64 m] w fun e w' => e = .returned (.int .i64 (m + tot zss n)) ∧ RRows.Own w' F [.slice a n c] (mkPairs m zss) ∧ Off F w w' :=
  (markTableau_rep F p a n c zss m w hn ht h0 h1 (RTbl.own_mk ho)).mono fun _ _ ⟨h1, h2, h3⟩ => ⟨h1, (RTbl.own_open h2).2, h3⟩

/-- What is answered: a tableau and a bool. -/
def TblRet (e : Ending) (w' : World) (lo : Nat) (ok : Bool) (p : Int) (zss : List (List Int)) : Prop := ∃ r m d, e = .returned (.tuple #[.agg #[.int .i64 p, .slice r m d], .bool ok]) ∧ RRows.Own w' (From lo w'.heap.size) [.slice r m d] zss
def TblRet3 (e : Ending) (w' : World) (lo : Nat) (ok : Bool) (p cnt : Int) (zss : List (List Int)) : Prop := ∃ r m d, e = .returned (.tuple #[.agg #[.int .i64 p, .slice r m d], .int .i64 cnt, .bool ok]) ∧ RRows.Own w' (From lo w'.heap.size) [.slice r m d] zss
theorem tbl_at {w : World} {F : Nat → Prop} {p : Int} {a : Option Addr} {n c : Nat} {zss : List (List Int)} (h : RTbl.Own w F [.int .i64 p, .slice a n c] (p, zss)) : AtS w a zss := (RRows.atS (RTbl.own_open h).2).2
theorem RRows.nil (w : World) (F : Nat → Prop) : RRows.Own w F [.slice none 0 0] [] := ⟨none, 0, 0, [], fun _ _ => False, rfl, Laid.none _ _ _ _⟩

end Go.Proofs.Ythliamoeplgblaa
