/- Several texts of one proof, in build order: CnP, OeI, ClnI, StepV, StepW, StreamH, InfR. -/
import Derived.Test.YtipgepienagplaaM8
import Derived.Test.YtipgepienagplaaM22
import Derived.Test.YtipgepienagplaaM17
import Derived.Test.YtipgepienagplaaM14
import Derived.Test.YtipgepienagplaaM4
import Derived.Deep.CutBlock
import Derived.Test.YtipgepienagplaaM3
import Derived.Test.YtipgepienagplaaM6

/- Plain: the tables in which there are just the rows of a query's atoms; rows that lie elsewhere. -/
namespace Go.Proofs.Ytipgepienagplaa
open Go.RowKit

/-- The rows of the atoms of table k. -/
def rowsAt (zs : List Atm) (k : Nat) : List (List Int) := (zs.filter fun a => decide (a.1 = (k : Int))).map (·.2)
def canT (q : Int) (rows : List (List Int)) : Tab := (ansP (goodT q (ttW rows)) q, ansT (goodT q (ttW rows)) (ttW rows))
def canTo (zs : List Atm) (ts : List Int) (k : Nat) : List Tab := (List.range k).map fun i => canT (ts.getD i 0) (rowsAt zs i)
def cnL (hs : List Int) (zs : List Atm) (ts : List Int) : List Tab := if gqB hs zs ts = true then canTo zs ts ts.length else []
def cnH (hs : List Int) (zs : List Atm) (ts : List Int) : List Int := if gqB hs zs ts = true then hs else []
theorem cnL_no {hs : List Int} {zs : List Atm} {ts : List Int} (h : gqB hs zs ts = false) : cnL hs zs ts = [] := by unfold cnL; rw [h]; rfl
theorem cnL_yes {hs : List Int} {zs : List Atm} {ts : List Int} (h : gqB hs zs ts = true) : cnL hs zs ts = canTo zs ts ts.length := by unfold cnL; rw [if_pos h]
theorem cnH_no {hs : List Int} {zs : List Atm} {ts : List Int} (h : gqB hs zs ts = false) : cnH hs zs ts = [] := by unfold cnH; rw [h]; rfl
theorem cnH_yes {hs : List Int} {zs : List Atm} {ts : List Int} (h : gqB hs zs ts = true) : cnH hs zs ts = hs := by unfold cnH; rw [if_pos h]
theorem canTo_succ (zs : List Atm) (ts : List Int) (k : Nat) : canTo zs ts (k + 1) = canTo zs ts k ++ [canT (ts.getD k 0) (rowsAt zs k)] := by
  unfold canTo
  rw [List.range_succ, List.map_append]
  rfl
theorem rowsAt_take (zs : List Atm) (j k : Nat) {x : Atm} (h : zs[j]? = some x) : rowsAt (zs.take (j + 1)) k = rowsAt (zs.take j) k ++ (if x.1 = (k : Int) then [x.2] else []) := by
  obtain ⟨hj, rfl⟩ := List.getElem?_eq_some_iff.1 h
  unfold rowsAt
  rw [List.take_succ_eq_append_getElem hj, List.filter_append, List.map_append]
  congr 1
  by_cases e : zs[j].1 = (k : Int) <;> simp [e]
theorem rowsAt_len (zs : List Atm) (k : Nat) : (rowsAt zs k).length ≤ zs.length := by
  unfold rowsAt
  rw [List.length_map]
  exact List.length_filter_le _ _
theorem gq_all {hs : List Int} {zs : List Atm} {ts : List Int} (h : gqB hs zs ts = true) : tabOk ts = true ∧ hs.length ≤ 6 ∧ ∀ x ∈ zs, atOk ts x = true := by
  simp only [gqB, Bool.and_eq_true, List.all_eq_true, decide_eq_true_eq] at h
  exact ⟨h.1.1.1.1.1, h.1.1.1.2, fun x hx => by simpa using h.1.2 x hx⟩
theorem gq_tabs {hs : List Int} {zs : List Atm} {ts : List Int} (h : gqB hs zs ts = true) : 1 ≤ ts.length ∧ ts.length ≤ 4 := by
  have h1 := (gq_all h).1
  simp only [tabOk, Bool.and_eq_true, decide_eq_true_eq] at h1
  omega
theorem rowsAt_ok {hs : List Int} {zs : List Atm} {ts : List Int} (h : gqB hs zs ts = true) (k : Nat) : ∀ z ∈ rowsAt zs k, good z = true ∧ (z.length : Int) = ts.getD k 0 := fun z hz => by
  unfold rowsAt at hz
  obtain ⟨a, ha, rfl⟩ := List.mem_map.1 hz
  obtain ⟨h1, h2⟩ := List.mem_filter.1 ha
  have h2 : a.1 = (k : Int) := by simpa using h2
  have h3 := (gq_ok h).2 a h1
  have h4 := (gq_all h).2.2 a h1
  simp only [atOk, Bool.and_eq_true, decide_eq_true_eq] at h4
  refine ⟨?_, by rw [h4.2, h2]; simp⟩
  have h5 := aOk_len h3
  have h6 := aOk_in h3
  unfold good
  rw [decide_eq_true h5, Bool.true_and, List.all_eq_true]
  intro v hv
  have := h6 v hv
  simp [inb]
  omega

/-- Rows that lie elsewhere, told by their slices. -/
def Refs (w : World) (cs : List Value) (zss : List (List Int)) : Prop :=
  cs.length = zss.length ∧ ∀ (i : Nat) (z : List Int), zss[i]? = some z → ∃ a' c', cs[i]? = some (.slice a' z.length c') ∧ z.length ≤ 9223372036854775807 ∧ At w a' z ∧ (a' = none → c' = 0)
theorem Refs.nil (w : World) : Refs w [] [] := ⟨rfl, fun i z h => by simp at h⟩
theorem Refs.push {w : World} {cs : List Value} {zss : List (List Int)} {z : List Int} {a' : Option Addr} {n' c' : Nat} (h : Refs w cs zss) (hn : z.length = n') (hb : n' ≤ 9223372036854775807) (ha : At w a' z) (hc : a' = none → c' = 0) : Refs w (cs ++ [.slice a' n' c']) (zss ++ [z]) := by
  refine ⟨by simp [h.1], fun i y hy => ?_⟩
  by_cases hi : i < zss.length
  · rw [List.getElem?_append_left hi] at hy
    obtain ⟨a2, c2, h1, h2⟩ := h.2 i y hy
    exact ⟨a2, c2, by rw [List.getElem?_append_left (by have := h.1; omega)]; exact h1, h2⟩
  · have hlt : i < (zss ++ [z]).length := (List.getElem?_eq_some_iff.1 hy).1
    simp at hlt
    obtain rfl : i = zss.length := by omega
    simp at hy
    subst hy
    exact ⟨a', c', by rw [← h.1]; simp [hn], by omega, ha, hc⟩
theorem Refs.below {w w' : World} {cs : List Value} {zss : List (List Int)} (h : Refs w cs zss) (hb : Below w.heap.size w w') : Refs w' cs zss :=
  ⟨h.1, fun i z hz => by obtain ⟨a', c', h1, h2, h3, h4⟩ := h.2 i z hz; exact ⟨a', c', h1, h2, h3.below hb, h4⟩⟩
theorem Refs.atS {w : World} {cs : List Value} {zss : List (List Int)} {lo n d : Nat} {e : TypeId} {r : Option Addr} (h : Refs w cs zss) (ho : w.ownsRow lo e 1 (.slice r n d) n cs) : AtS w r zss := by
  have hl := ho.1
  have hn : zss.length = n := by have := h.1; omega
  rcases ho.2 with ⟨hv, h0⟩ | ⟨g, cap, cur, hv, _⟩
  · left
    exact List.length_eq_zero_iff.1 (by omega)
  · simp only [Value.slice.injEq, true_and] at hv
    obtain ⟨rfl, rfl⟩ := hv
    refine .inr ⟨g, 0, rfl, fun i hi => ?_⟩
    obtain ⟨a', c', h1, h2, h3, _⟩ := h.2 i zss[i] (List.getElem?_eq_getElem hi)
    have e9 : zss.getD i [] = zss[i] := by simp [List.getD, hi]
    rw [e9]
    exact ⟨a', c', by rw [Nat.zero_add, ho.cellAt i (by omega)]; exact h1, h2, h3⟩

/-- Tables, a row that lies behind them, and whether. -/
def CanRet (e : Ending) (w' : World) (lo : Nat) (ok : Bool) (ss : List Tab) (hs : List Int) : Prop :=
  ∃ r m d ra rm rd mid, e = .returned (.tuple #[.slice r m d, .agg #[.slice ra rm rd], .bool ok]) ∧ lo ≤ mid ∧ mid ≤ w'.heap.size ∧ OwnU w' lo mid r m d ss ∧ hs.length = rm ∧ w'.ownsRow mid 3 1 (.slice ra rm rd) rm (hs.map (.int .i64))
theorem CanRet.zero {w' : World} {lo : Nat} {ok : Bool} {ss : List Tab} {hs : List Int} (hl : lo ≤ w'.heap.size) (h : ok = false) (h1 : ss = []) (h2 : hs = []) : CanRet (.returned (.tuple #[.slice none 0 0, .agg #[.slice none 0 0], .bool false])) w' lo ok ss hs := by
  subst h h1 h2
  exact ⟨none, 0, 0, none, 0, 0, w'.heap.size, rfl, hl, Nat.le_refl _, OwnU.nil _ _, rfl, World.ownsRow_nil _ _ _ _⟩

end Go.Proofs.Ytipgepienagplaa

/- Contract of impl.onceEach: rows, each with the weight 1. -/
namespace Go.Proofs.Ytipgepienagplaa
open Go.RowKit Go.Maps

set_option maxRecDepth 100000 in
set_option maxHeartbeats 8000000 in
theorem onceEach_any (q : Nat) (a : Option Addr) (n c : Nat) (zss : List (List Int)) (w : World) (hz : zss.length = n) (hn : n ≤ 1048576) (hq6 : q ≤ 6) (hrow : ∀ z ∈ zss, good z = true ∧ z.length = q) (ha : AtS w a zss) :
    Calls Try.prog 58 #[.int .i64 (q : Nat), .slice a n c] w fun e w' => TabAns e w' w.heap.size (goodT (q : Nat) (ttW zss)) (q : Nat) (ttW zss) ∧ Below w.heap.size w w' := by
  have hmm := @run_makeMap Try.prog
  obtain ⟨w1, hW⟩ : ∃ W, W = w.alloc (.cells #[.int .i64 0, .slice none 0 0] 61) := ⟨_, rfl⟩
  have B1 : Below w.heap.size w w1 := by rw [hW]; exact (Below.refl _ _).alloc (Nat.le_refl _) _
  have z1 : w.heap.size < w1.heap.size := by rw [hW]; simp
  have q1 : w1.heap[w.heap.size]? = some (.cells #[.int .i64 0, .slice none 0 0] 61 (0, 0)) := by rw [hW]; exact heap_alloc_new _ _
  have HA := Hid.mk ha
  have HZ := Hid.mk hz
  have HROW := Hid.mk hrow
  clear ha hz hrow
  obtain ⟨X, hX⟩ : ∃ X, X = w1.alloc (.map #[] 0) := ⟨_, rfl⟩
  have hbX : Below w1.heap.size w1 X := by rw [hX]; exact (Below.refl _ _).alloc (Nat.le_refl _) _
  have HOM : Hid (X.ownsMap Try.prog 129 (plainElem Try.prog 3) w1.heap.size 0 (.map [] : DataW Unit)) := by
    show World.ownsMap (H := Unit) _ _ _ _ _ _ _
    rw [hX]; exact World.ownsMap_made _ _ _ _
  have qX := blk_below q1 hbX
  have BX := B1.trans (hbX.mono B1.size)
  have zX : w1.heap.size < X.heap.size := by rw [hX]; simp
  clear hbX q1 B1
  go_enter Try.func58, Try.ntmps58
  go_upto_region 1 with fail
  rw [← hW]
  clear hW
  have HM0 : Hid (MapIs (.map [] : DataW Unit) (onceS (keysR zss 0)) (keysR zss 0)) := MapIs.empty.congr (fun x => by simp [onceS, keysR]) (by simp [keysR])
  go_upto_region 2 with fail
  rw [← hX]
  clear hX
  go_wp2_with fail
  go_loopw [12] (fun i wr => ∃ (k : Nat) (D : DataW Unit), k ≤ n ∧ i = .int .i64 k ∧ wr.ownsMap Try.prog 129 (plainElem Try.prog 3) w1.heap.size k D ∧ MapIs D (onceS (keysR zss k)) (keysR zss k) ∧ Off (fun b => b = w1.heap.size) X wr) (fun i _ => n - (intOf i).toNat)
  case atStart => exact ⟨0, _, Nat.zero_le _, rfl, HOM.out, HM0.out, Off.refl _ _⟩
  case round =>
    clear HOM HM0
    obtain ⟨k, D, hk, rfl, hom, hmi, hof⟩ := hrel
    have Bw : Below w.heap.size w wr := BX.trans ⟨hof.os, hof.tape, hof.output, hof.size, fun b hb => hof.block b (by have := BX.size; omega) (fun e => by have : b = w1.heap.size := e; omega)⟩
    have qr := (hof.block _ (Array.getElem?_eq_some_iff.1 qX).1 (show ¬ w.heap.size = w1.heap.size by omega)).trans qX
    by_cases hlt : k < n
    · obtain ⟨b, off, rfl, hc⟩ := (HA.out.below Bw).some (by have := HZ.out; omega)
      obtain ⟨z, hy⟩ : ∃ z, zss[k]? = some z := ⟨_, List.getElem?_eq_getElem (by have := HZ.out; omega)⟩
      obtain ⟨a', c', hcx, _, hat⟩ := hc k (by have := HZ.out; omega)
      have hgk : zss.getD k [] = z := by simp [List.getD, hy]
      obtain ⟨hgz, hzl⟩ := HROW.out z (List.mem_of_getElem? hy)
      rw [hgk, hzl] at hcx
      rw [hgk] at hat
      have hki : (k : Int) < (n : Int) := by omega
      obtain ⟨U, hU⟩ : ∃ U, U = wr.alloc (.cells #[.slice a' q c'] 29) := ⟨_, rfl⟩
      have hbU : Below wr.heap.size wr U := by rw [hU]; exact (Below.refl _ _).alloc (Nat.le_refl _) _
      have r0 : U.cell? ⟨wr.heap.size, 0, none⟩ = some (.slice a' q c') := by rw [hU]; exact newcell _ _ _
      have homU : U.ownsMap Try.prog 129 (plainElem Try.prog 3) w1.heap.size k D := by rw [hU]; exact hom.alloc _
      have KA := Hid.mk (arrayOf_any a' q c' z U hzl hq6 (fun j hj => good_cell hgz j (by omega)) (hat.below hbU))
      have HFR := Hid.mk (fits_raised hgz)
      have HKS := Hid.mk (keysR_succ hy)
      have HMI := Hid.mk hmi
      have HOF := Hid.mk hof
      have HBU := Hid.mk hbU
      clear hc hy hat hgk hgz hzl hom hmi hof Bw qr hbU
      go_upto_region 5 with fail
      rw [← hU]
      clear hU hcx
      go_wp2_with fail
      refine KA.out.mono ?_
      rintro e w2 ⟨v0, v1, v2, v3, v4, v5, rfl, hr, hb2⟩
      have ho2 : w2.ownsMap Try.prog 129 (plainElem Try.prog 3) w1.heap.size k D := homU.kept (Below.toGrown hb2 none) (by simp)
      have HKEY : Hid (keyOf Try.prog 129 (.agg #[.int .i64 v0, .int .i64 v1, .int .i64 v2, .int .i64 v3, .int .i64 v4, .int .i64 v5]) = some (klit (raised z))) := by
        have h := keyOf_arr (raised z) HFR.out
        rw [hr] at h ⊢
        exact h
      have hmax : k < maxLen := by unfold maxLen; omega
      have HB2 := Hid.mk (HBU.out.trans (hb2.mono HBU.out.size))
      clear hr hb2 homU KA
      go_wp2_with (first | (at_mapUpdate; refine wpList_mapUpdate_own _ rfl _ _ _ 127 rfl 129 3 Try.keyedA Try.underlying127 _ w1.heap.size k D rfl ho2 hmax _ _ _ rfl rfl HKEY.out _ [] (plainElem_int Try.underlying3 (wf_i64 (z := 1) (by omega) (by omega))) ?_; intro w5 hown5 hgr5) | go_in)
      have HM5 : Hid (MapIs (D.put (klit (raised z)) (.lit (.int .i64 1))) (onceS (keysR zss (k + 1))) (keysR zss (k + 1))) := by
        have h := HMI.out.put ho2.isMap HFR.out 1
        exact h.congr (fun x => by rw [HKS.out]; exact onceS_cons _ _ _) HKS.out.symm
      have HO5 := Hid.mk hown5
      have HOF5 : Hid (Off (fun b => b = w1.heap.size) X w5) := (HOF.out.trans (Off.below HB2.out)).trans (Off.grown hgr5 (fun j hj => by cases hj; rfl))
      clear hown5 hgr5 ho2 HMI HOF HB2
      go_wp2
      go_roundw
      case rel => exact ⟨k + 1, _, by omega, by go_num, HO5.out, HM5.out, HOF5.out⟩
      case measure => simp [intOf]; omega
    · obtain rfl : k = n := by omega
      have KT := Hid.mk (table_any w1.heap.size k D _ _ q wr (by omega) hq6 hom hmi (keysR_keys HZ.out HROW.out))
      have HTL : Hid (Tells q (onceS (keysR zss k)) (ttW zss)) := tells_tt HROW.out (fun zs h1 _ => onceS_raised HZ.out HROW.out h1)
      have zr : w.heap.size < wr.heap.size := (Array.getElem?_eq_some_iff.1 qr).1
      clear hom hmi hof
      go_wp2_with fail
      refine KT.out.mono ?_
      rintro e w3 ⟨us, ⟨r3, m3, d3, cells3, rfl, ho3⟩, hT, hb3⟩
      have hus : us = ttW zss := hT.unique HTL.out
      subst hus
      have q3 := blk_below qr hb3
      have B3 := Bw.trans (hb3.mono Bw.size)
      have e0 := blk_cell q3 0 (v := .int .i64 0) rfl
      have e1 := blk_cell q3 1 (v := .slice none 0 0) rfl
      have f0 := blk_frozen q3 0
      have f1 := blk_frozen q3 1
      clear hT hb3 q3 qr
      go_wp2
      refine bodyPost_ret (v := .tuple #[.agg #[.int .i64 (tellP q (ttW zss)), .slice r3 m3 d3], .bool (goodT q (ttW zss))]) (by simp [results, Try.results58, go_sem, e0, e1]) rfl ⟨TabAns.tell rfl ⟨r3, m3, d3, cells3, rfl, ho3.stored zr (by omega) _ _⟩, ?_⟩
      exact (B3.setCell (Nat.le_refl _) _).setCell (Nat.le_refl _) _

end Go.Proofs.Ytipgepienagplaa

/- Contract of slices.Clone at ints. -/
namespace Go.Proofs.Ytipgepienagplaa
open Go.RowKit

theorem own_void (w : World) (e : TypeId) (size : Nat) : (w.alloc (.cells #[] e)).ownsRow w.heap.size e size (.slice (some ⟨w.heap.size, 0, none⟩) 0 0) 0 [] :=
  ⟨by simp, .inr ⟨w.heap.size, 0, #[], rfl, Nat.le_refl _, heap_alloc_new w _, by simp, by simp, by simp, by simp⟩⟩
theorem eqNilI (a : Option Addr) (n c : Nat) (w : World) : (binOp .eql 22 (.slice a n c) (.slice none 0 0)).run Try.prog w = .ok (.bool a.isNone) w := by
  have he : (Op.equalIn (9999 + 1) 22 (.slice a n c) (.slice none 0 0)).run Try.prog w = .ok a.isNone w := by
    unfold Op.equalIn
    simp only [Sem.run_bind, run_underlying Try.underlying22, Result.andThen_ok]
    cases a <;> rfl
  have he' : (Op.equal 22 (.slice a n c) (.slice none 0 0)).run Try.prog w = .ok a.isNone w := he
  simp only [binOp]
  rw [Sem.run_bind, he']
  rfl

set_option maxHeartbeats 2000000 in
theorem cloneI_any (a : Option Addr) (n c : Nat) (zs : List Int) (w : World) (hz : zs.length = n) (hn : n ≤ 1048576) (hF : a = none → c = 0) (ha : At w a zs) :
    Calls Try.prog 59 #[.slice a n c] w fun e w' => ∃ r d, e = .returned (.slice r n d) ∧ w'.ownsRow w.heap.size 3 1 (.slice r n d) n (zs.map (.int .i64)) ∧ Below w.heap.size w w' := by
  obtain ⟨i0, hi, hz0, hz1, hz2⟩ := info_parts Try.infoInt
  cases a with
  | none =>
    have hc0 := hF rfl
    subst hc0
    have hM : zs = [] := by rcases ha with h | ⟨b, off, h, _⟩; exact h; cases h
    subst hM
    have hn0 : 0 = n := hz
    subst hn0
    have hq := fun w => eqNilI none 0 0 w
    go_enter Try.func59, Try.ntmps59
    go_wp2
    go_ret
    exact ⟨none, 0, rfl, World.ownsRow_nil _ _ _ _, Below.refl _ _⟩
  | some ad =>
    have OE := Hid.mk (own_void w 3 1)
    have HA := Hid.mk (ha.alloc (.cells #[] 3))
    have HZ := Hid.mk hz
    clear ha hF hz
    have hq := fun w => eqNilI (some ad) n c w
    go_enter Try.func59, Try.ntmps59
    go_wp2_with (at_builtin; refine wpList_append_all rfl (.tmp 5) (.tmp 6) 22 rfl w.heap.size 3 i0 (.int .i64 0) 8 Try.underlying22 hi hz0 hz1 hz2 rfl (.slice (some ⟨w.heap.size, 0, none⟩) 0 0) 0 [] rfl OE.out (some ad) n c zs rfl HZ.out HA.out (fun h => by cases h) (by unfold maxLen; omega) (by omega) (by simp) ?_)
    intro r1 d1 w1 ho1 hg1
    have HB : Hid (Below w.heap.size w w1) := ((Below.refl _ _).alloc (Nat.le_refl _) _).grown hg1 (by simp) (fun j hj => by simp [Value.ownBlock] at hj; omega)
    have HO : Hid (w1.ownsRow w.heap.size 3 1 (.slice r1 n d1) n (zs.map (.int .i64))) := Hid.mk (by simpa using ho1)
    clear ho1 hg1
    go_wp2
    go_ret
    exact ⟨r1, d1, by first | rfl | simp, HO.out, HB.out⟩

end Go.Proofs.Ytipgepienagplaa

/- An append of whatever cells, at a step of a region that draws. -/
namespace Go.Proofs.Ytipgepienagplaa
open Go.RowKit

theorem step_append_vals {P : Program} {w : World} {ops : Array Oper} {o : Oper} {a : Act} {K : Act → World → Prop} {Q : Exit → Act → World → Prop} {E : Prop} (hgd : o.guard = none) (s x : Operand) (t : TypeId)
    (ho : o.op = .call { callee := .builtin .append, args := #[s, x], argTypes := #[t, t] })
    (base : Nat) (e : TypeId) (i : TypeInfo) (z : Value) (size bytes : Nat) (ht : P.underlying t = some (.slice e)) (hi : P.info? e = some i) (hz : i.zero = some z)
    (hsize : i.size = size) (hby : i.bytes = bytes) (hzs : z.cells.size = size) (hsz : 0 < size)
    (v : Value) (n : Nat) (xs : List Value) (hs : a.eval s = v) (hown : w.ownsRow base e size v n xs)
    (ao : Option Addr) (m c : Nat) (news : List Value) (hx : a.eval x = .slice ao m c) (hl : news.length = m * size) (hat : ∀ ad, ao = some ad → ∀ (j : Nat) (u : Value), news[j]? = some u → w.cell? (ad.add j) = some u) (h1 : ∀ u ∈ news, u.oneCell' = true) (hnil : ao = none → c = 0 ∧ m = 0)
    (h63 : n + m ≤ maxLen) (hbytes : (n + m) * bytes ≤ 140737488355328) (hbase : base ≤ w.heap.size)
    (h : ∀ r cap w', w'.ownsRow base e size (.slice r (n + m) cap) (n + m) (xs ++ news) → w.grownBy w' v.ownBlock → ((Value.slice r (n + m) cap).ownBlock = v.ownBlock ∨ (Value.slice r (n + m) cap).ownBlock = some w.heap.size) → K (a.put o.dst (.slice r (n + m) cap)) w') :
    if Region.wanted o (yielded ops a.tmps) = true then Oper.wp P o a w K Q else E := by
  have hw : Region.wanted o (yielded ops a.tmps) = true := by simp [Region.wanted, hgd]
  rw [if_pos hw]
  cases ao with
  | none =>
    obtain ⟨hc, hm⟩ := hnil rfl
    subst hc hm
    obtain rfl : news = [] := List.eq_nil_of_length_eq_zero (by simpa using hl)
    obtain ⟨r, cap, rfl⟩ := owns_slice hown
    have hrun := run_append_owned_none (P := P) (w := w) base t o.type e i size ht hi (.slice r n cap) n xs hown
    have := h r cap w (by simpa using hown) (World.grownBy.refl _ _) (.inl rfl)
    unfold Oper.wp
    simp [execOp, ho, resolve, invoke, builtin, hs, hx, hrun, Result.andThen]
    rw [Nat.add_zero] at this
    exact this
  | some ad =>
    obtain ⟨v', w', hr, h2, h3, _, h5⟩ := run_append_own_at (P := P) w base t o.type e i z size bytes ht hi hz hsize hby hzs hsz v n xs hown ad m c news hl (fun j u hj => hat ad rfl j u hj) h1 h63 hbytes hbase
    obtain ⟨r, cap, rfl⟩ := owns_slice h2
    unfold Oper.wp execOp
    simp only [ho, resolve, invoke, builtin, Sem.run_bind, Sem.run_pure, Result.andThen_ok, List.map_toArray, List.map_cons, List.map_nil, hs, hx, hr]
    exact h r cap w' h2 h3 h5

end Go.Proofs.Ytipgepienagplaa

/- An append of whatever cells, in a plain region. -/
namespace Go.Proofs.Ytipgepienagplaa
open Go.RowKit

theorem wpList_app_vals {P : Program} {w : World} {ops : Array Oper} {rest : List Oper} {o : Oper} {a : Act} {Q : Exit → Act → World → Prop} (hgd : o.guard = none) (s x : Operand) (t : TypeId)
    (ho : o.op = .call { callee := .builtin .append, args := #[s, x], argTypes := #[t, t] })
    (base : Nat) (e : TypeId) (i : TypeInfo) (z : Value) (size bytes : Nat) (ht : P.underlying t = some (.slice e)) (hi : P.info? e = some i) (hz : i.zero = some z)
    (hsize : i.size = size) (hby : i.bytes = bytes) (hzs : z.cells.size = size) (hsz : 0 < size)
    (v : Value) (n : Nat) (xs : List Value) (hs : a.eval s = v) (hown : w.ownsRow base e size v n xs)
    (ao : Option Addr) (m c : Nat) (news : List Value) (hx : a.eval x = .slice ao m c) (hl : news.length = m * size) (hat : ∀ ad, ao = some ad → ∀ (j : Nat) (u : Value), news[j]? = some u → w.cell? (ad.add j) = some u) (h1 : ∀ u ∈ news, u.oneCell' = true) (hnil : ao = none → c = 0 ∧ m = 0)
    (h63 : n + m ≤ maxLen) (hbytes : (n + m) * bytes ≤ 140737488355328) (hbase : base ≤ w.heap.size)
    (h : ∀ r cap w', w'.ownsRow base e size (.slice r (n + m) cap) (n + m) (xs ++ news) → w.grownBy w' v.ownBlock → ((Value.slice r (n + m) cap).ownBlock = v.ownBlock ∨ (Value.slice r (n + m) cap).ownBlock = some w.heap.size) → wpList P ops Q rest (a.put o.dst (.slice r (n + m) cap)) w') :
    wpList P ops Q (o :: rest) a w :=
  wpList_plain hgd fun K hK => by
    have hw : Region.wanted o (yielded ops a.tmps) = true := by simp [Region.wanted, hgd]
    have h9 := step_append_vals (P := P) (w := w) (ops := ops) (o := o) (a := a) (K := K) (Q := Q) (E := True) hgd s x t ho base e i z size bytes ht hi hz hsize hby hzs hsz v n xs hs hown ao m c news hx hl hat h1 hnil h63 hbytes hbase (fun r cap w' k1 k2 k3 => hK _ _ (h r cap w' k1 k2 k3))
    rw [if_pos hw] at h9
    exact h9

end Go.Proofs.Ytipgepienagplaa

/- Contracts of the laws' helpers over tables in a slice and streams: szTableS, szStream, toTableS, toStream, eqTableS, eqStream. -/
namespace Go.Proofs.Ytipgepienagplaa
open Go.RowKit

theorem Try.infoT : (Try.prog.info? 61).map (fun i => (i.zero, i.size, i.bytes)) = some (some (.agg #[.int .i64 0, .slice none 0 0]), 2, 32) := by kernel_rfl

set_option maxHeartbeats 2000000 in
theorem eqTableS_any (a a' : Option Addr) (n c c' : Nat) (ss : List Tab) (w : World) (hs : SmU ss n) (ha : AtSW w a ss) (ha' : AtSW w a' ss) :
    Calls Try.prog 14 #[.slice a n c, .slice a' n c'] w fun e w' => e = .returned (.bool true) ∧ Below w.heap.size w w' := by
  have hz := hs.1
  have hn := hs.n
  by_cases h0 : n = 0
  · subst h0
    go_enter Try.func14, Try.ntmps14
    go_wp2
    refine wp_loop_rounds 1 ?_
    rw [rounds_succ]
    go_wp2
    go_ret
    exact ⟨rfl, Below.refl _ _⟩
  · go_enter Try.func14, Try.ntmps14
    go_wp2
    go_loopw [5] (fun i wr => ∃ (k : Nat), k ≤ n ∧ i = .int .i64 k ∧ Below w.heap.size w wr) (fun i _ => n - (intOf i).toNat)
    case atStart => exact ⟨0, Nat.zero_le _, rfl, Below.refl _ _⟩
    case round =>
      obtain ⟨k, hk, rfl, hbw⟩ := hrel
      by_cases hlt : k < n
      · obtain ⟨b, off, rfl, hc⟩ := (ha.below hbw).some (by omega)
        obtain ⟨b', off', rfl, hc'⟩ := (ha'.below hbw).some (by omega)
        obtain ⟨q, d, hwx, hcx, _, hat⟩ := hc k (by omega)
        obtain ⟨q', d', hwy, hcy, _, hat'⟩ := hc' k (by omega)
        have hsm := hs.tab k hlt
        generalize tat ss k = Y at *
        obtain ⟨x, us⟩ := Y
        simp only at hcx hcy hwx hwy hat hat' hsm
        obtain ⟨m, hmm⟩ : ∃ m, us.length = m := ⟨_, rfl⟩
        rw [hmm] at hcx hcy hsm
        have HM := Hid.mk hmm
        have hki : (k : Int) < (n : Int) := by omega
        clear hc hc' hmm ha ha' hs
        go_wp2_with fail
        go_region_held3 (fun w' => w'.cell? ⟨b, off + k * 2, none⟩ = some (.int .i64 x) ∧ w'.cell? ⟨b, off + k * 2 + 1, none⟩ = some (.slice q m d) ∧ w'.cell? ⟨b', off' + k * 2, none⟩ = some (.int .i64 x) ∧ w'.cell? ⟨b', off' + k * 2 + 1, none⟩ = some (.slice q' m d')) (refine ⟨?_, ?_, ?_, ?_⟩ <;> assumption)
          (first | (go_at_call 38; refine (eqTableG _ _ _ _ _ us _ _ hsm hat.drew hat'.drew).mono ?_; rintro e w2 ⟨rfl, hb2⟩; have e1 := cell_later hb2 hcx; have e2 := cell_later hb2 hcy; have e3 := cell_later hb2 hwx; have e4 := cell_later hb2 hwy))
        go_wp2
        go_roundw
        case rel => exact ⟨k + 1, by omega, by go_num, hbw.drew.trans (hb2.mono hbw.size)⟩
        case measure => simp [intOf]; omega
      · go_wp2
        go_ret
        exact ⟨rfl, hbw⟩

end Go.Proofs.Ytipgepienagplaa

/- What the program says of the type Row. -/
namespace Go.Proofs.Ytipgepienagplaa
open Go.RowKit

theorem Try.infoRow : (Try.prog.info? 29).map (fun i => (i.zero, i.size, i.bytes)) = some (some (.agg #[.slice none 0 0]), 1, 24) := by kernel_rfl

end Go.Proofs.Ytipgepienagplaa
