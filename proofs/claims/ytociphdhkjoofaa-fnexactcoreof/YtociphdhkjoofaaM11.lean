/- Several texts of one proof, in build order: LmJ, QvP, QvI. -/
import Derived.Test.YtociphdhkjoofaaM10
import Derived.Test.YtociphdhkjoofaaM3
import Derived.Test.YtociphdhkjoofaaM8
import Derived.Lib.SlicesCompact

/- Contract of the search from a way on: impl.leastMap$1, which calls itself. -/
namespace Go.Proofs.Ytociphdhkjoofaa
open Go.RowKit

set_option maxRecDepth 100000 in
set_option maxHeartbeats 16000000 in
theorem lead_any (d : LD) : ∀ (vs : List Int) (m : Wy) (la : Option Addr) (ln lc : Nat) (w : World), (∀ v ∈ vs, 0 ≤ v ∧ v < 6) → m.length = 6 → LEnv d w → vs.length = ln → ln ≤ lc → lc ≤ 9223372036854775807 → (la = none → lc = 0) → At w la vs →
    Calls Try.prog 81 #[.agg (wcells m).toArray, .slice la ln lc, .pointer (some ⟨d.bt, 0, none⟩), .pointer (some ⟨d.bl, 0, none⟩), .pointer (some ⟨d.bf, 0, none⟩), .pointer (some ⟨d.bo, 0, none⟩)] w fun e w' => Ends (leadF d.ats d.os d.tg m vs) e ∧ Below w.heap.size w w' := by
  intro vs
  induction vs with
  | nil =>
    intro m la ln lc w hin hm hE hlz hlc hlb hnil hla
    obtain rfl : ln = 0 := by simpa using hlz.symm
    obtain ⟨k0, k1, k2, k3, k4, k5, n0, n1, n2, n3, n4, n5, hw0⟩ := wcells_open hm
    have HES : Hid (Ends (leadF d.ats d.os d.tg m []) (.returned (.agg #[.bool k0, .bool k1, .bool k2, .bool k3, .bool k4, .bool k5, .int .i64 n0, .int .i64 n1, .int .i64 n2, .int .i64 n3, .int .i64 n4, .int .i64 n5]))) := by
      show _ = Ending.returned (.agg (wcells m).toArray)
      rw [hw0]
    rw [hw0]
    clear hw0 hE hla hlz hin hm
    go_enter Try.func81, Try.ntmps81
    go_wp2
    exact bodyPost_ret (v := .agg #[.bool k0, .bool k1, .bool k2, .bool k3, .bool k4, .bool k5, .int .i64 n0, .int .i64 n1, .int .i64 n2, .int .i64 n3, .int .i64 n4, .int .i64 n5]) (by simp [results, Try.results81, go_sem]) rfl ⟨HES.out, (((Below.refl _ _).alloc (Nat.le_refl _) _).alloc (by simp) _).alloc (by simp; omega) _⟩
  | cons v vs ih =>
    intro m la ln lc w hin hm hE hlz hlc hlb hnil hla
    have hmf : ∀ (fn : Fn) (first cap : Array Value) (w : World), (Instr.makeFunc fn first cap).run Try.prog w = .ok (.func fn first cap) w := fun _ _ _ _ => rfl
    obtain ⟨ln, rfl⟩ : ∃ k, ln = k + 1 := ⟨vs.length, by simpa using hlz.symm⟩
    obtain ⟨lc, rfl⟩ : ∃ k, lc = k + 1 := ⟨lc - 1, by omega⟩
    have hlz' : vs.length = ln := by simpa using hlz
    obtain ⟨lb, loff, rfl, _, _⟩ := hla.some (by simp)
    obtain ⟨k0, k1, k2, k3, k4, k5, n0, n1, n2, n3, n4, n5, hw0⟩ := wcells_open hm
    obtain ⟨W, hW⟩ : ∃ W, W = ((w.alloc (.cells #[.bool k0, .bool k1, .bool k2, .bool k3, .bool k4, .bool k5, .int .i64 n0, .int .i64 n1, .int .i64 n2, .int .i64 n3, .int .i64 n4, .int .i64 n5] 101)).alloc (.cells #[.slice (some ⟨lb, loff, none⟩) (ln + 1) (lc + 1)] 22)).alloc (.cells #[.bool false, .bool false, .bool false, .bool false, .bool false, .bool false, .int .i64 0, .int .i64 0, .int .i64 0, .int .i64 0, .int .i64 0, .int .i64 0] 101) := ⟨_, rfl⟩
    have B0 : Below w.heap.size w W := by rw [hW]; exact (((Below.refl _ _).alloc (Nat.le_refl _) _).alloc (by simp) _).alloc (by simp; omega) _
    have b0 : W.heap[w.heap.size]? = some (.cells (wcells m).toArray 101 (0, 0)) := by rw [hW, hw0]; exact blk_alloc (blk_alloc (heap_alloc_new w _) _) _
    have b1 : W.heap[w.heap.size + 1]? = some (.cells #[.slice (some ⟨lb, loff, none⟩) (ln + 1) (lc + 1)] 22 (0, 0)) := by
      rw [hW]
      refine blk_alloc ?_ _
      have h := heap_alloc_new (w.alloc (.cells #[.bool k0, .bool k1, .bool k2, .bool k3, .bool k4, .bool k5, .int .i64 n0, .int .i64 n1, .int .i64 n2, .int .i64 n3, .int .i64 n4, .int .i64 n5] 101)) (.cells #[.slice (some ⟨lb, loff, none⟩) (ln + 1) (lc + 1)] 22)
      simpa only [World.size_alloc] using h
    have b2 : W.heap[w.heap.size + 1 + 1]? = some (.cells #[.bool false, .bool false, .bool false, .bool false, .bool false, .bool false, .int .i64 0, .int .i64 0, .int .i64 0, .int .i64 0, .int .i64 0, .int .i64 0] 101 (0, 0)) := by
      rw [hW]
      have h := heap_alloc_new ((w.alloc (.cells #[.bool k0, .bool k1, .bool k2, .bool k3, .bool k4, .bool k5, .int .i64 n0, .int .i64 n1, .int .i64 n2, .int .i64 n3, .int .i64 n4, .int .i64 n5] 101)).alloc (.cells #[.slice (some ⟨lb, loff, none⟩) (ln + 1) (lc + 1)] 22)) (.cells #[.bool false, .bool false, .bool false, .bool false, .bool false, .bool false, .int .i64 0, .int .i64 0, .int .i64 0, .int .i64 0, .int .i64 0, .int .i64 0] 101)
      simpa only [World.size_alloc] using h
    have hE := hE.below B0
    have e1 := blk_cell b1 0 (v := .slice (some ⟨lb, loff, none⟩) (ln + 1) (lc + 1)) rfl
    have e2 := blk_cell hE.t 0 (v := .slice d.tga d.tgn d.tgc) rfl
    have hl0 : ¬ (ln : Int) + 1 = 0 := by omega
    have hl1 : ¬ ((ln + 1 : Nat) : Int) = 0 := by omega
    have hl2 : ((ln : Int) + 1 == 0) = false := by simp; omega
    have HIN : Hid (∀ (t : Int) (bx : Nat) (w' : World), Below W.heap.size W w' → w'.heap[bx]? = some (.cells #[.int .i64 t] 3 (0, 0)) → Calls Try.prog 82 #[.func (.func 83) #[] #[.pointer (some ⟨w.heap.size, 0, none⟩), .pointer (some ⟨w.heap.size + 1, 0, none⟩), .pointer (some ⟨bx, 0, none⟩), .pointer (some ⟨d.bl, 0, none⟩), .pointer (some ⟨d.bf, 0, none⟩), .pointer (some ⟨d.bo, 0, none⟩)]] w' fun e w'' => e = .returned (.tuple #[.agg (wcells ((tryF d.ats d.os d.tg m v vs t).getD wy0)).toArray, .bool (tryF d.ats d.os d.tg m v vs t).isSome]) ∧ Below w'.heap.size w' w'') := fun t bx w' hb hx =>
      tried_any _ _ (tryF d.ats d.os d.tg m v vs t) w' (fun args w => by simp [go_sem]) (tryF_len hm) (fun W' hb' _ => by
        have h := hb.trans (hb'.mono hb.size)
        exact inner_any d m v vs t w.heap.size (w.heap.size + 1) bx lb loff ln lc W' hm (hin v (by simp)) (hE.below h) (blk_below b0 h) (blk_below b1 h) (blk_below hx hb') hlz' (by omega) (by omega) (At.below hla (B0.trans (h.mono B0.size))) (fun m' la' ln' lc' w' h1 h2 h3 h4 h5 h6 h7 => ih m' la' ln' lc' w' (fun x hx => hin x (by simp [hx])) h1 h2 h3 h4 h5 h6 h7))
    have HW0 : Hid ((wcells m).toArray = #[.bool k0, .bool k1, .bool k2, .bool k3, .bool k4, .bool k5, .int .i64 n0, .int .i64 n1, .int .i64 n2, .int .i64 n3, .int .i64 n4, .int .i64 n5]) := by show _ = _; rw [hw0]
    have HB2 := Hid.mk b2
    have HTZ := Hid.mk hE.tgz
    have HTA := Hid.mk hE.tga
    have HM := Hid.mk hm
    have hTB := hE.tgb
    obtain ⟨tga, hta'⟩ : ∃ x, x = d.tga := ⟨_, rfl⟩
    rw [← hta'] at e2 HTA
    rw [HW0.out, leadF_cons]
    obtain ⟨F, hF⟩ : ∃ F, F = tryF d.ats d.os d.tg m v vs := ⟨_, rfl⟩
    have HFL : Hid (∀ t m', F t = some m' → m'.length = 6) := by rw [hF]; exact fun t m' h => tryF_len hm m' h
    rw [← hF] at HIN ⊢
    clear hF hin hm hE hlz hlz' hla ih b0 b1 b2 hw0 HW0 hta'
    go_enter Try.func81, Try.ntmps81
    go_upto_region 1 with fail
    rw [← hW]
    clear hW
    go_upto_region 4 with fail
    go_loopw [19] (fun i wr => ∃ (k : Nat), k ≤ d.tgn ∧ i = .int .i64 k ∧ d.tg.findSome? F = (d.tg.drop k).findSome? F ∧ Below w.heap.size w wr ∧ Below W.heap.size W wr) (fun i _ => d.tgn - (intOf i).toNat)
    case atStart => exact ⟨0, Nat.zero_le _, rfl, rfl, B0, Below.refl _ _⟩
    case round =>
      clear B0 e1 e2
      obtain ⟨k, hk, rfl, ht, hbw, hbW⟩ := hrel
      obtain ⟨wY, rfl⟩ : ∃ x, x = wr := ⟨_, rfl⟩
      by_cases hlt : k < d.tgn
      · obtain ⟨tb, toff, rfl, _, htc⟩ := (At.below HTA.out hbW).some (by have := HTZ.out; omega)
        have htc := htc k (by have := HTZ.out; omega)
        have hki : (k : Int) < (d.tgn : Int) := by omega
        have hdr : d.tg.drop k = d.tg.getD k 0 :: d.tg.drop (k + 1) := by rw [List.drop_eq_getElem_cons (by have := HTZ.out; omega)]; simp [List.getD, show k < d.tg.length by have := HTZ.out; omega]
        rw [hdr, List.findSome?_cons] at ht
        obtain ⟨t, htt⟩ : ∃ t, t = d.tg.getD k 0 := ⟨_, rfl⟩
        rw [← htt] at ht htc
        obtain ⟨U, hU⟩ : ∃ U, U = wY.alloc (.cells #[.int .i64 t] 3) := ⟨_, rfl⟩
        have hbU : Below wY.heap.size wY U := by rw [hU]; exact (Below.refl _ _).alloc (Nat.le_refl _) _
        have bx : U.heap[wY.heap.size]? = some (.cells #[.int .i64 t] 3 (0, 0)) := by rw [hU]; exact heap_alloc_new _ _
        have HT := Hid.mk ht
        have B1 := hbw.trans (hbU.mono hbw.size)
        have B2 := hbW.trans (hbU.mono hbW.size)
        have HC := Hid.mk (HIN.out t wY.heap.size U B2 bx)
        clear hdr htt ht hbU bx hbw hbW
        cases hf : F t with
        | some m' =>
          obtain ⟨k'0, k'1, k'2, k'3, k'4, k'5, n'0, n'1, n'2, n'3, n'4, n'5, hw2⟩ := wcells_open (HFL.out t m' hf)
          rw [hf] at HC
          have HCC : Hid (Calls Try.prog 82 #[.func (.func 83) #[] #[.pointer (some ⟨w.heap.size, 0, none⟩), .pointer (some ⟨w.heap.size + 1, 0, none⟩), .pointer (some ⟨wY.heap.size, 0, none⟩), .pointer (some ⟨d.bl, 0, none⟩), .pointer (some ⟨d.bf, 0, none⟩), .pointer (some ⟨d.bo, 0, none⟩)]] U fun e w'' => e = .returned (.tuple #[.agg #[.bool k'0, .bool k'1, .bool k'2, .bool k'3, .bool k'4, .bool k'5, .int .i64 n'0, .int .i64 n'1, .int .i64 n'2, .int .i64 n'3, .int .i64 n'4, .int .i64 n'5], .bool true]) ∧ Below U.heap.size U w'') := by
            have h := HC.out
            rw [show (some m').getD wy0 = m' from rfl, hw2] at h
            exact h
          have HES : Hid (Ends (d.tg.findSome? F) (.returned (.agg #[.bool k'0, .bool k'1, .bool k'2, .bool k'3, .bool k'4, .bool k'5, .int .i64 n'0, .int .i64 n'1, .int .i64 n'2, .int .i64 n'3, .int .i64 n'4, .int .i64 n'5]))) := by
            show Ends _ _
            rw [HT.out, hf]
            show _ = Ending.returned (.agg (wcells m').toArray)
            rw [hw2]
          clear hw2 hf HC
          go_upto_region 6 with fail
          rw [← hU]
          clear hU htc
          go_wp2_with fail
          refine HCC.out.mono ?_
          rintro e w2 ⟨rfl, hb2⟩
          have B3 := B1.trans (hb2.mono B1.size)
          have B4 := B2.trans (hb2.mono B2.size)
          obtain ⟨X, hX⟩ : ∃ X, X = w2.alloc (.cells #[.bool k'0, .bool k'1, .bool k'2, .bool k'3, .bool k'4, .bool k'5, .int .i64 n'0, .int .i64 n'1, .int .i64 n'2, .int .i64 n'3, .int .i64 n'4, .int .i64 n'5] 101) := ⟨_, rfl⟩
          have hbX : Below w2.heap.size w2 X := by rw [hX]; exact (Below.refl _ _).alloc (Nat.le_refl _) _
          have bX : X.heap[w2.heap.size]? = some (.cells #[.bool k'0, .bool k'1, .bool k'2, .bool k'3, .bool k'4, .bool k'5, .int .i64 n'0, .int .i64 n'1, .int .i64 n'2, .int .i64 n'3, .int .i64 n'4, .int .i64 n'5] 101 (0, 0)) := by rw [hX]; exact heap_alloc_new _ _
          have bR := blk_below HB2.out (B4.trans (hbX.mono B4.size))
          have B5 := B3.trans (hbX.mono B3.size)
          have x0 := blk_cell bX 0 (v := .bool k'0) rfl
          have x1 := blk_cell bX 1 (v := .bool k'1) rfl
          have x2 := blk_cell bX 2 (v := .bool k'2) rfl
          have x3 := blk_cell bX 3 (v := .bool k'3) rfl
          have x4 := blk_cell bX 4 (v := .bool k'4) rfl
          have x5 := blk_cell bX 5 (v := .bool k'5) rfl
          have x6 := blk_cell bX 6 (v := .int .i64 n'0) rfl
          have x7 := blk_cell bX 7 (v := .int .i64 n'1) rfl
          have x8 := blk_cell bX 8 (v := .int .i64 n'2) rfl
          have x9 := blk_cell bX 9 (v := .int .i64 n'3) rfl
          have x10 := blk_cell bX 10 (v := .int .i64 n'4) rfl
          have x11 := blk_cell bX 11 (v := .int .i64 n'5) rfl
          have r0 := blk_cell bR 0 (v := .bool false) rfl
          have r1 := blk_cell bR 1 (v := .bool false) rfl
          have r2 := blk_cell bR 2 (v := .bool false) rfl
          have r3 := blk_cell bR 3 (v := .bool false) rfl
          have r4 := blk_cell bR 4 (v := .bool false) rfl
          have r5 := blk_cell bR 5 (v := .bool false) rfl
          have r6 := blk_cell bR 6 (v := .int .i64 0) rfl
          have r7 := blk_cell bR 7 (v := .int .i64 0) rfl
          have r8 := blk_cell bR 8 (v := .int .i64 0) rfl
          have r9 := blk_cell bR 9 (v := .int .i64 0) rfl
          have r10 := blk_cell bR 10 (v := .int .i64 0) rfl
          have r11 := blk_cell bR 11 (v := .int .i64 0) rfl
          have rz0 := blk_frozen bR 0
          have rz1 := blk_frozen bR 1
          have rz2 := blk_frozen bR 2
          have rz3 := blk_frozen bR 3
          have rz4 := blk_frozen bR 4
          have rz5 := blk_frozen bR 5
          have rz6 := blk_frozen bR 6
          have rz7 := blk_frozen bR 7
          have rz8 := blk_frozen bR 8
          have rz9 := blk_frozen bR 9
          have rz10 := blk_frozen bR 10
          have rz11 := blk_frozen bR 11
          clear hb2 B3 B4 hbX HCC
          go_upto_region 7 with fail
          rw [← hX]
          clear hX
          go_wp2
          have p4 := blk_stores12 bR (.bool k'0) (.bool k'1) (.bool k'2) (.bool k'3) (.bool k'4) (.bool k'5) (.int .i64 n'0) (.int .i64 n'1) (.int .i64 n'2) (.int .i64 n'3) (.int .i64 n'4) (.int .i64 n'5)
          have q0 := blk_cell p4 0 (v := .bool k'0) rfl
          have q1 := blk_cell p4 1 (v := .bool k'1) rfl
          have q2 := blk_cell p4 2 (v := .bool k'2) rfl
          have q3 := blk_cell p4 3 (v := .bool k'3) rfl
          have q4 := blk_cell p4 4 (v := .bool k'4) rfl
          have q5 := blk_cell p4 5 (v := .bool k'5) rfl
          have q6 := blk_cell p4 6 (v := .int .i64 n'0) rfl
          have q7 := blk_cell p4 7 (v := .int .i64 n'1) rfl
          have q8 := blk_cell p4 8 (v := .int .i64 n'2) rfl
          have q9 := blk_cell p4 9 (v := .int .i64 n'3) rfl
          have q10 := blk_cell p4 10 (v := .int .i64 n'4) rfl
          have q11 := blk_cell p4 11 (v := .int .i64 n'5) rfl
          refine bodyPost_ret (v := .agg #[.bool k'0, .bool k'1, .bool k'2, .bool k'3, .bool k'4, .bool k'5, .int .i64 n'0, .int .i64 n'1, .int .i64 n'2, .int .i64 n'3, .int .i64 n'4, .int .i64 n'5]) (by simp [results, Try.results81, go_sem, r0, r1, r2, r3, r4, r5, r6, r7, r8, r9, r10, r11]) rfl ⟨HES.out, stores_below _ _ _ [.bool k'0, .bool k'1, .bool k'2, .bool k'3, .bool k'4, .bool k'5, .int .i64 n'0, .int .i64 n'1, .int .i64 n'2, .int .i64 n'3, .int .i64 n'4, .int .i64 n'5] B5 (by omega)⟩
        | none =>
          rw [hf] at HC
          have HN : Hid (d.tg.findSome? F = (d.tg.drop (k + 1)).findSome? F) := by show _ = _; rw [HT.out, hf]
          have HCC : Hid (Calls Try.prog 82 #[.func (.func 83) #[] #[.pointer (some ⟨w.heap.size, 0, none⟩), .pointer (some ⟨w.heap.size + 1, 0, none⟩), .pointer (some ⟨wY.heap.size, 0, none⟩), .pointer (some ⟨d.bl, 0, none⟩), .pointer (some ⟨d.bf, 0, none⟩), .pointer (some ⟨d.bo, 0, none⟩)]] U fun e w'' => e = .returned (.tuple #[.agg #[.bool false, .bool false, .bool false, .bool false, .bool false, .bool false, .int .i64 0, .int .i64 0, .int .i64 0, .int .i64 0, .int .i64 0, .int .i64 0], .bool false]) ∧ Below U.heap.size U w'') := HC.out
          clear hf HC
          go_upto_region 6 with fail
          rw [← hU]
          clear hU htc
          go_wp2_with fail
          refine HCC.out.mono ?_
          rintro e w2 ⟨rfl, hb2⟩
          have B3 := Hid.mk (And.intro (B1.trans (hb2.mono B1.size)) (B2.trans (hb2.mono B2.size)))
          clear hb2 HCC B1 B2
          go_wp2
          go_roundw
          case rel => exact ⟨k + 1, by omega, by go_num, HN.out, B3.out.1.alloc B3.out.1.size _, B3.out.2.alloc B3.out.2.size _⟩
          case measure => simp [intOf]; omega
      · have HEN : Hid (Ends (d.tg.findSome? F) (.panicked [{ v := .iface 121 (.agg #[]), recovered := false }])) := by
          show Ends _ _
          rw [ht, List.drop_of_length_le (by have := HTZ.out; omega)]
          rfl
        clear ht
        go_wp2
        exact ⟨rfl, HEN.out, hbw⟩

end Go.Proofs.Ytociphdhkjoofaa

/- Plain: what variables a query's atoms have, as a rising list. -/
namespace Go.Proofs.Ytociphdhkjoofaa
open Go.RowKit

def vOk (v : Int) : Bool := decide (0 ≤ v) && decide (v < 6)
def aOk (a : Atm) : Bool := decide (a.2.length ≤ 6) && a.2.all vOk
/-- Whether VarsIn tells true. -/
def qvB (z : List Atm) : Bool := decide (z.length ≤ 5) && z.all aOk
/-- All variables, one behind the other; as a set. -/
def flatV (z : List Atm) : List Int := z.flatMap (·.2)
def vset (z : List Atm) : Nat := mk (flatV z)
def qvL (z : List Atm) : List Int := if qvB z = true then bl (vset z) else []

theorem qvL_len (z : List Atm) : (qvL z).length ≤ 6 := by unfold qvL; split; exact bl_len _; simp
theorem vOk_iff {v : Int} : vOk v = true ↔ 0 ≤ v ∧ v < 6 := by simp [vOk]
theorem aOk_in {a : Atm} (h : aOk a = true) : ∀ v ∈ a.2, 0 ≤ v ∧ v < 6 := fun v hv => by
  simp only [aOk, Bool.and_eq_true, List.all_eq_true] at h
  exact vOk_iff.1 (h.2 v hv)
theorem aOk_len {a : Atm} (h : aOk a = true) : a.2.length ≤ 6 := by
  simp only [aOk, Bool.and_eq_true, decide_eq_true_eq] at h
  exact h.1
theorem flat_in {z : List Atm} (h : ∀ a ∈ z, ∀ v ∈ a.2, (0 : Int) ≤ v ∧ v < 6) : ∀ v ∈ flatV z, (0 : Int) ≤ v ∧ v < 6 := fun v hv => by
  obtain ⟨a, ha, hva⟩ := List.mem_flatMap.1 hv
  exact h a ha v hva
theorem flat_take (z : List Atm) (k : Nat) {a : Atm} (h : z[k]? = some a) : flatV (z.take (k + 1)) = flatV (z.take k) ++ a.2 := by
  obtain ⟨hk, hg⟩ := List.getElem?_eq_some_iff.1 h
  unfold flatV
  rw [List.take_succ_eq_append_getElem hk, List.flatMap_append, hg]
  simp
theorem flat_len {z : List Atm} (h : ∀ a ∈ z, a.2.length ≤ 6) : (flatV z).length ≤ 6 * z.length := by
  induction z with
  | nil => simp [flatV]
  | cons a z ih =>
    have h1 := h a (by simp)
    have h2 := ih (fun b hb => h b (by simp [hb]))
    unfold flatV at *
    rw [List.flatMap_cons, List.length_append, List.length_cons]
    omega
theorem mk_append (a b : List Int) : mk (a ++ b) = mk a ||| mk b := by
  unfold mk
  rw [List.foldl_append]
  exact mk_or b _
theorem vset_lt {z : List Atm} (h : ∀ a ∈ z, ∀ v ∈ a.2, (0 : Int) ≤ v ∧ v < 6) : vset z < 64 := mk_lt6 (flat_in h)
theorem mem_bl_mk {l : List Int} (hl : ∀ x ∈ l, 0 ≤ x ∧ x < 6) (x : Int) : x ∈ bl (mk l) ↔ x ∈ l := by
  constructor
  · intro h
    obtain ⟨i, h1, h2, rfl⟩ := mem_bl.1 h
    exact (mk_bit l (fun y hy => (hl y hy).1) i).1 h2
  · intro h
    have h0 := hl x h
    refine mem_bl.2 ⟨x.toNat, by omega, (mk_bit l (fun y hy => (hl y hy).1) _).2 (by rw [Int.toNat_of_nonneg h0.1]; exact h), by omega⟩

theorem ins_take {s : Nat} {zs : List Int} {k : Nat} (hs : s < 64) (hz : ∀ x ∈ zs, 0 ≤ x ∧ x < 6) (hk : k < zs.length) : insI (bl (s ||| mk (zs.take k))) (zs.getD k 0) = bl (s ||| mk (zs.take (k + 1))) := by
  have hx : zs.getD k 0 ∈ zs := by simp [List.getD, hk]
  rw [insI_bl (or_lt64 hs (mk_lt6 fun y hy => hz y (List.mem_of_mem_take hy))) (hz _ hx).1 (hz _ hx).2, mk_take hk, Nat.or_assoc]

/-- A list that does not fall, with each number once. -/
theorem compact_mem (zs : List Int) (x : Int) : x ∈ Lib.compact zs ↔ x ∈ zs := by
  have key : ∀ m, m ≤ zs.length → (x ∈ Lib.compactUpTo zs.toArray m ↔ x ∈ zs.take m) := by
    intro m
    induction m with
    | zero => intro _; simp [Lib.compactUpTo]
    | succ m ih =>
      intro hm
      have ihm := ih (by omega)
      have hd : zs.toArray[m]! = zs[m] := by simp [getElem!_pos, show m < zs.length by omega]
      rw [Lib.compactUpTo_succ, List.mem_append, ihm, List.take_succ_eq_append_getElem (by omega), List.mem_append, List.mem_singleton]
      by_cases hk : Lib.keeps zs.toArray m = true
      · rw [if_pos hk, List.mem_singleton, hd]
      · rw [if_neg hk]
        constructor
        · intro h; rcases h with h | h; exact .inl h; simp at h
        · intro h
          rcases h with h | h
          · exact .inl h
          · left
            have hk' : ¬ (m = 0 ∨ zs.toArray[m]! ≠ zs.toArray[m - 1]!) := by simpa [Lib.keeps] using hk
            have hm0 : m ≠ 0 := fun e => hk' (.inl e)
            have he : zs.toArray[m]! = zs.toArray[m - 1]! := Classical.byContradiction fun e => hk' (.inr e)
            have hd1 : zs.toArray[m - 1]! = zs[m - 1] := by simp [getElem!_pos, show m - 1 < zs.length by omega]
            rw [hd, hd1] at he
            rw [h, he, List.mem_take_iff_getElem]
            exact ⟨m - 1, by omega, rfl⟩
  have h := key zs.length (Nat.le_refl _)
  rw [List.take_length] at h
  exact h
theorem compact_srt {zs : List Int} (hs : zs.Pairwise (· ≤ ·)) : (Lib.compact zs).Pairwise (· < ·) := by
  have key : ∀ m, m ≤ zs.length → (Lib.compactUpTo zs.toArray m).Pairwise (· < ·) ∧ (∀ x ∈ Lib.compactUpTo zs.toArray m, ∀ h : 0 < m, ∀ h2 : m - 1 < zs.length, x ≤ zs[m - 1]) := by
    intro m
    induction m with
    | zero => intro _; simp [Lib.compactUpTo]
    | succ m ih =>
      intro hm
      obtain ⟨i1, i2⟩ := ih (by omega)
      have hd : zs.toArray[m]! = zs[m] := by simp [getElem!_pos, show m < zs.length by omega]
      have hup : ∀ x ∈ Lib.compactUpTo zs.toArray m, x ≤ zs[m] := fun x hx => by
        by_cases h0 : 0 < m
        · have h1 := i2 x hx h0 (by omega)
          have h2 := List.pairwise_iff_getElem.1 hs (m - 1) m (by omega) (by omega) (by omega)
          omega
        · obtain rfl : m = 0 := by omega
          simp [Lib.compactUpTo] at hx
      rw [Lib.compactUpTo_succ]
      constructor
      · rw [List.pairwise_append]
        refine ⟨i1, ?_, ?_⟩
        · split <;> simp
        · intro a ha b hb
          split at hb
          · rename_i hk
            rw [List.mem_singleton, hd] at hb
            subst hb
            have hk' : m = 0 ∨ zs.toArray[m]! ≠ zs.toArray[m - 1]! := by simpa [Lib.keeps] using hk
            rcases hk' with h0 | h0
            · subst h0; simp [Lib.compactUpTo] at ha
            · by_cases hm0 : 0 < m
              · have hd1 : zs.toArray[m - 1]! = zs[m - 1] := by simp [getElem!_pos, show m - 1 < zs.length by omega]
                rw [hd, hd1] at h0
                have h1 := i2 a ha hm0 (by omega)
                have h2 := List.pairwise_iff_getElem.1 hs (m - 1) m (by omega) (by omega) (by omega)
                omega
              · obtain rfl : m = 0 := by omega
                simp [Lib.compactUpTo] at ha
          · simp at hb
      · intro x hx _ h2
        rw [List.mem_append] at hx
        rcases hx with hx | hx
        · exact hup x hx
        · split at hx
          · rw [List.mem_singleton, hd] at hx; subst hx; exact Int.le_refl _
          · simp at hx
  have h := key zs.length (Nat.le_refl _)
  exact h.1
theorem compact_sort {l : List Int} (hl : ∀ x ∈ l, 0 ≤ x ∧ x < 6) : Lib.compact (l.mergeSort fun x y => decide (x ≤ y)) = bl (mk l) := by
  have hs : (l.mergeSort fun x y => decide (x ≤ y)).Pairwise (· ≤ ·) := by
    have := List.pairwise_mergeSort (le := fun x y : Int => decide (x ≤ y)) (fun a b c h1 h2 => by simp at *; omega) (fun a b => by simp; omega) l
    simpa using this
  refine srt_ext (compact_srt hs) (bl_sorted _) (fun x => ?_)
  rw [compact_mem, List.mem_mergeSort, mem_bl_mk hl]

end Go.Proofs.Ytociphdhkjoofaa

/- Contracts of impl.isNoVariable, of slices.IndexFunc and slices.ContainsFunc at it. -/
namespace Go.Proofs.Ytociphdhkjoofaa
open Go.RowKit

theorem isNoVariable_any (x : Int) (w : World) :
    Calls Try.prog 69 #[.int .i64 x] w fun e w' => e = .returned (.bool (!vOk x)) ∧ w' = w := by
  by_cases h0 : x < 0
  · have hv : vOk x = false := by unfold vOk; rw [decide_eq_false (by omega)]; rfl
    rw [hv]
    go_enter Try.func69, Try.ntmps69
    go_wp2
    go_ret
    exact ⟨rfl, rfl⟩
  · by_cases h1 : x < 6
    · have hv : vOk x = true := vOk_iff.2 ⟨by omega, h1⟩
      have h2 : ¬ (6 : Int) ≤ x := by omega
      rw [hv]
      go_enter Try.func69, Try.ntmps69
      go_wp2
      go_ret
      exact ⟨ret_bool (by simp <;> omega), rfl⟩
    · have hv : vOk x = false := by unfold vOk; rw [decide_eq_false h1, Bool.and_false]
      rw [hv]
      go_enter Try.func69, Try.ntmps69
      go_wp2
      go_ret
      exact ⟨ret_bool (by simp <;> omega), rfl⟩


set_option maxHeartbeats 1000000 in
theorem indexNoVar_any (a : Option Addr) (n c : Nat) (zs : List Int) (w : World) (hz : zs.length = n) (hn : n ≤ 9223372036854775807) (ha : At w a zs) :
    Calls Try.prog 78 #[.slice a n c, .func (.func 69) #[] #[]] w fun e w' => ∃ k : Int, e = .returned (.int .i64 k) ∧ (zs.all vOk = true → k = -1) ∧ (zs.all vOk = false → 0 ≤ k) ∧ w' = w := by
  by_cases h0 : n = 0
  · subst h0
    obtain rfl := List.eq_nil_of_length_eq_zero hz
    go_enter Try.func78, Try.ntmps78
    go_wp2
    refine wp_loop_rounds 1 ?_
    rw [rounds_succ]
    go_wp2
    go_ret
    exact ⟨-1, rfl, fun _ => rfl, fun h => (by cases h), rfl⟩
  · obtain ⟨b, off, rfl, hb, hc⟩ := ha.some (by omega)
    clear ha
    go_enter Try.func78, Try.ntmps78
    go_wp2
    go_loopw [8] (fun i wr => ∃ (k : Nat), k ≤ n ∧ i = .int .i64 k ∧ zs.all vOk = (zs.drop k).all vOk ∧ wr = w) (fun i _ => n - (intOf i).toNat)
    case atStart => exact ⟨0, Nat.zero_le _, rfl, rfl, rfl⟩
    case round =>
      obtain ⟨k, hk, rfl, ht, rfl⟩ := hrel
      by_cases hlt : k < n
      · have hcx : wr.cell? ⟨b, off + k, none⟩ = some (.int .i64 (zs.getD k 0)) := hc k (by omega)
        have hd : zs.drop k = zs.getD k 0 :: zs.drop (k + 1) := by rw [List.drop_eq_getElem_cons (by omega)]; simp [List.getD, show k < zs.length by omega]
        rw [hd] at ht
        obtain ⟨y, hy⟩ : ∃ y, y = zs.getD k 0 := ⟨_, rfl⟩
        rw [← hy, List.all_cons] at ht
        rw [← hy] at hcx
        have HT := Hid.mk ht
        clear hc hy ht hd
        cases hr : vOk y with
        | false =>
          go_wp2_with fail
          refine (isNoVariable_any y wr).mono ?_
          rintro e w1 ⟨rfl, rfl⟩
          rw [hr]
          go_wp2
          go_ret
          exact ⟨k, rfl, fun h => (by rw [HT.out, hr] at h; cases h), fun _ => (by omega), rfl⟩
        | true =>
          go_wp2_with fail
          refine (isNoVariable_any y wr).mono ?_
          rintro e w1 ⟨rfl, rfl⟩
          rw [hr]
          go_wp2
          go_roundw
          case rel => exact ⟨k + 1, by omega, by go_num, by rw [HT.out, hr]; rfl, trivial⟩
          case measure => simp [intOf]; omega
      · rw [List.drop_of_length_le (by omega)] at ht
        have HT := Hid.mk ht
        clear ht
        go_wp2
        go_ret
        exact ⟨-1, rfl, fun _ => rfl, fun h => (by rw [HT.out] at h; cases h), rfl⟩

theorem noVars_any (a : Option Addr) (n c : Nat) (zs : List Int) (w : World) (hz : zs.length = n) (hn : n ≤ 9223372036854775807) (ha : At w a zs) :
    Calls Try.prog 68 #[.slice a n c, .func (.func 69) #[] #[]] w fun e w' => e = .returned (.bool (!zs.all vOk)) ∧ w' = w := by
  have HC := Hid.mk (indexNoVar_any a n c zs w hz hn ha)
  clear ha hz
  cases hr : zs.all vOk with
  | false =>
    rw [hr] at HC
    go_enter Try.func68, Try.ntmps68
    go_wp2_with fail
    refine HC.out.mono ?_
    rintro e w1 ⟨k, rfl, _, h2, rfl⟩
    have hk := h2 trivial
    go_wp2
    go_ret
    exact ⟨ret_bool (by simp <;> omega), rfl⟩
  | true =>
    rw [hr] at HC
    go_enter Try.func68, Try.ntmps68
    go_wp2_with fail
    refine HC.out.mono ?_
    rintro e w1 ⟨k, rfl, h1, _, rfl⟩
    obtain rfl := h1 trivial
    go_wp2
    go_ret
    exact ⟨rfl, rfl⟩

end Go.Proofs.Ytociphdhkjoofaa
