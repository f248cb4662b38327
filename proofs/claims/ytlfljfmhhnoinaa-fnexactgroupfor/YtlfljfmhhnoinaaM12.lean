/- Several texts of one proof, in build order: ConcG, MgP, LawR, GoodVI. -/
import Derived.Lib.Walk
import Derived.Lib.AppendZerosOnto
import Derived.Test.YtlfljfmhhnoinaaM11
import Derived.Test.YtlfljfmhhnoinaaM9
import Derived.Test.YtlfljfmhhnoinaaM4
import Derived.Deep.DeepCutAuto
import Derived.Test.YtlfljfmhhnoinaaM8
import Derived.Test.YtlfljfmhhnoinaaM3
import Derived.Test.YtlfljfmhhnoinaaM10

/- Contracts of slices.Grow, slices.Concat at groups: a nil slice grown, two slices put together. -/
namespace Go.Proofs.Ytlfljfmhhnoinaa
open Go.RowKit

theorem growG_none (w : World) : Calls Try.prog 76 #[.slice none 0 0, .int .i64 0] w fun e w' => e = .returned (.slice none 0 0) ∧ w' = w := by
  go_enter Try.func76, Try.ntmps76
  go_wp2
  go_ret
  exact ⟨rfl, rfl⟩

set_option maxRecDepth 100000 in
set_option maxHeartbeats 2000000 in
theorem growG_some (n : Nat) (w : World) (h0 : 0 < n) (hn : n ≤ 1000000) :
    Calls Try.prog 76 #[.slice none 0 0, .int .i64 n] w fun e w' => ∃ g cap, e = .returned (.slice (some ⟨g, 0, none⟩) 0 cap) ∧ w'.ownsRow w.heap.size 35 3 (.slice (some ⟨g, 0, none⟩) 0 cap) 0 [] ∧ Below w.heap.size w w' := by
  obtain ⟨i0, hi, hz0, hz1, hz2⟩ := info_parts Try.infoV
  obtain ⟨cap, hcap⟩ : ∃ cap, cap = grownCap w n 0 35 := ⟨_, rfl⟩
  have hge : n ≤ cap := by rw [hcap]; exact grownCap_ge w n 0 _
  have hle : cap ≤ maxLen := by rw [hcap]; exact grownCap_le_maxLen w n 0 _ (by unfold maxLen; omega)
  obtain ⟨cs, hcs⟩ : ∃ cs, cs = #[] ++ Builtin.zeroCells (Value.agg #[.slice none 0 0, .int .i64 0, .int .i64 0]).cells n ++ Builtin.zeroCells (Value.agg #[.slice none 0 0, .int .i64 0, .int .i64 0]).cells (cap - n) := ⟨_, rfl⟩
  have hsz : cs.size = cap * 3 := by rw [hcs]; simp only [Array.size_append, size_zeroCells]; simp [Value.cells]; omega
  have hrz : ∀ ty, (Builtin.append_ #[25, 3] ty #[.slice none 0 0, .int .i64 (n : Int)]).run Try.prog w = .ok (.slice (some ⟨w.heap.size, 0, none⟩) n cap) (w.drew.alloc (.cells cs 35)) := fun ty => by
    have h := Lib.run_append_grow_zeros w 25 3 ty 35 i0 (.agg #[.slice none 0 0, .int .i64 0, .int .i64 0]) .i64 .i64 Try.underlying25 Try.underlying3 hi hz0 none 0 0 [] (run_firstCells_none w.drew i0.size 0 0 0) n h0 (by rw [hz1]; decide) (by omega) (by omega) (by rw [hz2]; omega) (growslice_fits (by omega) (by rw [hz2]; omega))
    rw [Nat.zero_add, ← hcap] at h
    rw [h, hcs]
  have hb : Below w.heap.size w (w.drew.alloc (.cells cs 35)) := (Below.refl _ _).drew.alloc (Nat.le_refl _) _
  have hown : (w.drew.alloc (.cells cs 35)).ownsRow w.heap.size 35 3 (.slice (some ⟨w.heap.size, 0, none⟩) 0 cap) 0 [] :=
    ⟨by simp, .inr ⟨w.heap.size, cap, cs, rfl, Nat.le_refl _, heap_alloc_new w.drew _, by omega, hle, hsz, by simp⟩⟩
  have hpos : (0 : Int) < (n : Int) := by omega
  have hcap63 : (cap : Int) ≤ 9223372036854775807 := by unfold maxLen at hle; omega
  clear hcs hcap hsz
  go_enter Try.func76, Try.ntmps76
  go_wp2_with (at_builtin; refine Lib.wpList_append_run _ rfl _ _ _ _ rfl _ _ rfl rfl _ _ (hrz _) ?_)
  go_ret
  exact ⟨_, _, rfl, hown, hb⟩

theorem growG_any (x : Int) (w : World) (h0 : 0 ≤ x) (hn : x ≤ 1000000) :
    Calls Try.prog 76 #[.slice none 0 0, .int .i64 x] w fun e w' => ∃ r cap, e = .returned (.slice r 0 cap) ∧ w'.ownsRow w.heap.size 35 3 (.slice r 0 cap) 0 [] ∧ Below w.heap.size w w' := by
  obtain ⟨n, rfl⟩ : ∃ n : Nat, x = n := ⟨x.toNat, by omega⟩
  cases n with
  | zero => exact (growG_none w).mono fun e w' ⟨h1, h2⟩ => ⟨none, 0, h1, by rw [h2]; exact World.ownsRow_nil _ _ _ _, by rw [h2]; exact Below.refl _ _⟩
  | succ n => exact (growG_some (n + 1) w (by omega) (by omega)).mono fun e w' ⟨g, cap, h1, h2, h3⟩ => ⟨_, cap, h1, h2, h3⟩

/-- 'append(out, xs...)' of whatever groups. -/
theorem wpList_append_grps {P : Program} {w : World} {ops : Array Oper} {rest : List Oper} {o : Oper} {a : Act} {Q : Exit → Act → World → Prop} (hgd : o.guard = none) (s x : Operand) (t : TypeId)
    (ho : o.op = .call { callee := .builtin .append, args := #[s, x], argTypes := #[t, t] })
    (base : Nat) (e : TypeId) (i : TypeInfo) (z : Value) (bytes : Nat) (ht : P.underlying t = some (.slice e)) (hi : P.info? e = some i) (hz : i.zero = some z)
    (hsize : i.size = 3) (hby : i.bytes = bytes) (hzs : z.cells.size = 3)
    (v : Value) (n : Nat) (xs : List Value) (hs : a.eval s = v) (hown : w.ownsRow base e 3 v n xs)
    (ao : Option Addr) (m c : Nat) (cs : List Value) (hx : a.eval x = .slice ao m c) (hl : cs.length = m * 3) (hF : Formed ao m c) (hce : ∀ b off, ao = some ⟨b, off, none⟩ → ∀ j u, cs[j]? = some u → w.cell? ⟨b, off + j, none⟩ = some u) (h1 : ∀ u ∈ cs, u.oneCell' = true)
    (h63 : n + m ≤ maxLen) (hbytes : (n + m) * bytes ≤ 140737488355328) (hbase : base ≤ w.heap.size)
    (h : ∀ r cap w', w'.ownsRow base e 3 (.slice r (n + m) cap) (n + m) (xs ++ cs) → w.grownBy w' v.ownBlock → wpList P ops Q rest (a.put o.dst (.slice r (n + m) cap)) w') : wpList P ops Q (o :: rest) a w := by
  cases ao with
  | none =>
    have hc := hF.2.1 rfl
    have hm : m = 0 := by have := hF.1; omega
    subst hm hc
    obtain rfl : cs = [] := List.eq_nil_of_length_eq_zero (by simpa using hl)
    refine wpList_append_own_none hgd s x t ho base e i 3 ht hi v n xs hs hown hx ?_
    obtain ⟨r, cap, rfl⟩ := owns_slice hown
    exact h r cap w (by simpa using hown) (World.grownBy.refl _ _)
  | some ad =>
    obtain ⟨b, off, rfl⟩ := hF.2.2 ad rfl
    exact wpList_append_any hgd s x t ho base e i z 3 bytes ht hi hz hsize hby hzs (by decide) v n xs hs hown ⟨b, off, none⟩ m c cs hx hl (fun j u hj => by rw [Addr.add_lit]; exact hce b off rfl j u hj) h1 h63 hbytes hbase h

theorem atN_parts {w : World} {a : Option Addr} {ts : List GRow} {n : Nat} (h : AtN w a ts) (hn : ts.length = n) : ∃ cs, MeansN w cs ts ∧ cs.length = n * 3 ∧ ∀ b off, a = some ⟨b, off, none⟩ → ∀ j u, cs[j]? = some u → w.cell? ⟨b, off + j, none⟩ = some u := by
  rcases h with rfl | ⟨b, off, cs, rfl, hm, hc⟩
  · exact ⟨[], trivial, by simp at hn; subst hn; rfl, fun b off _ j u h => by simp at h⟩
  · exact ⟨cs, hm, by rw [hm.length, hn], fun b' off' e j u hj => by cases e; exact hc j u hj⟩

set_option maxRecDepth 100000 in
set_option maxHeartbeats 4000000 in
theorem concatG_any (B0 : Nat) (a a' : Option Addr) (n n' c c' : Nat) (ts us : List GRow) (w : World) (hz : ts.length = n) (hz' : us.length = n') (hn : n ≤ 60) (hn' : n' ≤ 60) (hF : Formed a n c) (hF' : Formed a' n' c') (ha : AtN w a ts) (ha' : AtN w a' us)
    (q0 : w.cell? ⟨B0, 0, none⟩ = some (.slice a n c)) (q1 : w.cell? ⟨B0, 1, none⟩ = some (.slice a' n' c')) :
    Calls Try.prog 67 #[.slice (some ⟨B0, 0, none⟩) 2 2] w fun e w' => ∃ r d, e = .returned (.slice r (n + n') d) ∧ AtN w' r (ts ++ us) ∧ Formed r (n + n') d ∧ Below w.heap.size w w' := by
  obtain ⟨i0, hi, hz0, hz1, hz2⟩ := info_parts Try.infoV
  obtain ⟨cs, hme, hcl, hce⟩ := atN_parts ha hz
  obtain ⟨cs', hme', hcl', hce'⟩ := atN_parts ha' hz'
  have hw : IntKind.i64.wrap ((n : Int) + (n' : Int)) = ((n + n' : Nat) : Int) := (IntWalk.i64_in _ (by omega)).trans (by omega)
  go_enter Try.func67, Try.ntmps67
  go_wp2
  refine wp_loop_rounds 3 ?_
  rw [rounds_succ]
  go_wp2
  rw [rounds_succ]
  go_wp2
  rw [rounds_succ]
  go_wp2_with fail
  refine (growG_any _ w (by omega) (by omega)).mono ?_
  rintro e w1 ⟨r1, d1, rfl, ho1, hb1⟩
  have p0 := cell_later hb1 q0
  have p1 := cell_later hb1 q1
  have HC := Hid.mk hce
  have HC' := Hid.mk hce'
  have HM := Hid.mk hme
  have HM' := Hid.mk hme'
  have HF := Hid.mk hF
  have HF' := Hid.mk hF'
  have HO1 := Hid.mk ho1
  clear hce hce' hme hme' hF hF' ho1 ha ha'
  go_wp2
  refine wp_loop_rounds 3 ?_
  rw [rounds_succ]
  go_wp2_with (at_builtin; refine wpList_append_grps rfl (.tmp 31) (.tmp 32) 25 rfl w.heap.size 35 i0 (.agg #[.slice none 0 0, .int .i64 0, .int .i64 0]) 40 Try.underlying25 hi hz0 hz1 hz2 rfl (.slice r1 0 d1) 0 [] rfl HO1.out a n c cs rfl hcl HF.out (fun b off e j u hj => cell_later hb1 (HC.out b off e j u hj)) HM.out.oneCell (by unfold maxLen; omega) (by omega) hb1.size ?_; rintro r2 d2 w2 ho2 hg2; have B2 : Below w.heap.size w w2 := hb1.grown hg2 hb1.size (fun j hj => (HO1.out.lt j hj).1); have t0 : w2.cell? ⟨B0, 0, none⟩ = some (.slice a n c) := cell_later B2 q0; have t1 : w2.cell? ⟨B0, 1, none⟩ = some (.slice a' n' c') := cell_later B2 q1; simp only [Nat.zero_add, List.nil_append] at ho2 ⊢; have HO2 := Hid.mk ho2; clear ho2 hg2 p0 p1 HO1)
  rw [rounds_succ]
  go_wp2_with (at_builtin; refine wpList_append_grps rfl (.tmp 31) (.tmp 32) 25 rfl w.heap.size 35 i0 (.agg #[.slice none 0 0, .int .i64 0, .int .i64 0]) 40 Try.underlying25 hi hz0 hz1 hz2 rfl (.slice r2 n d2) n cs rfl HO2.out a' n' c' cs' rfl hcl' HF'.out (fun b off e j u hj => cell_later B2 (HC'.out b off e j u hj)) HM'.out.oneCell (by unfold maxLen; omega) (by omega) B2.size ?_; rintro r3 d3 w3 ho3 hg3; have B3 : Below w.heap.size w w3 := B2.grown hg3 B2.size (fun j hj => (HO2.out.lt j hj).1); have HO3 := Hid.mk ho3; clear ho3 hg3 HO2 t0 t1)
  rw [rounds_succ]
  go_wp2
  go_ret
  exact ⟨r3, d3, rfl, ((HM.out.below B3).append (HM'.out.below B3)).ownedN (by simp [hz, hz']) HO3.out, owns_formed HO3.out, B3⟩

end Go.Proofs.Ytlfljfmhhnoinaa

/- Plain: two lists of groups merged. -/
namespace Go.Proofs.Ytlfljfmhhnoinaa

/-- Keys of both lists are of one length, where both have keys. -/
def sameK (ts us : List GRow) : Bool := decide (ts = []) || (decide (us = []) || decide (keyN ts = keyN us))
def mgL (ts us : List GRow) : List GRow := putAllV ts us
def mgB (ts us : List GRow) : Bool := goodV ts && (goodV us && (sameK ts us && goodV (mgL ts us)))
section
variable {ts us : List GRow}
theorem mgB_a (h : goodV ts = false) : mgB ts us = false := by simp [mgB, h]
theorem mgB_b (h : goodV us = false) : mgB ts us = false := by simp [mgB, h]
theorem mgB_k (h : sameK ts us = false) : mgB ts us = false := by simp [mgB, h]
theorem mgB_yes (h1 : goodV ts = true) (h2 : goodV us = true) (h3 : sameK ts us = true) : mgB ts us = goodV (mgL ts us) := by simp [mgB, h1, h2, h3]
theorem mgB_goodV (h : mgB ts us = true) : goodV (mgL ts us) = true := by simp only [mgB, Bool.and_eq_true] at h; exact h.2.2.2
theorem sumV_rises : ∀ {ts : List GRow}, RisesV ts → ∀ zs, sumV ts zs = vOf ts zs
  | [], _, zs => rfl
  | t :: l, hr, zs => by
    have hr' := List.pairwise_cons.1 hr
    rw [sumV_cons, vOf_cons, sumV_rises hr'.2 zs]
    by_cases e : t.1 = zs
    · rw [if_pos e, if_pos e, vOf_absent (fun s hs e' => ?_), addA_zero]
      have h := hr'.1 s hs
      rw [e, e', cmp_self] at h
      omega
    · rw [if_neg e, if_neg e, zero_addA]
theorem putAllV_self (hr : RisesV ts) (hz : NoZeroV ts) : putAllV [] ts = ts := by
  refine risesV_ext (putAllV_rises List.Pairwise.nil) hr (putAllV_nozero (fun t ht => by cases ht)) hz fun zs => ?_
  rw [putAllV_vOf _ List.Pairwise.nil, vOf_nil, zero_addA, sumV_rises hr]
theorem putAllV_both (h : goodV ts = true) : putAllV [] (ts ++ us) = mgL ts us := by
  have : putAllV [] (ts ++ us) = putAllV (putAllV [] ts) us := by simp [putAllV]
  rw [this, putAllV_self (goodV_rises h) (goodV_noZero h)]; rfl
theorem keyN_left (h : ts ≠ []) : keyN (ts ++ us) = keyN ts := by
  cases ts with
  | nil => exact absurd rfl h
  | cons t l => rfl
theorem keyN_both (hs : sameK ts us = true) : (ts ≠ [] → keyN (ts ++ us) = keyN ts) ∧ (us ≠ [] → keyN (ts ++ us) = keyN us) := by
  refine ⟨keyN_left, fun hu => ?_⟩
  by_cases ht : ts = []
  · rw [ht]; rfl
  · rw [keyN_left ht]
    simp only [sameK, Bool.or_eq_true, decide_eq_true_eq] at hs
    rcases hs with e | e | e
    · exact absurd e ht
    · exact absurd e hu
    · exact e
theorem both_mem (h1 : goodV ts = true) (h2 : goodV us = true) (hs : sameK ts us = true) : ∀ t ∈ ts ++ us, good t.1 = true ∧ t.1.length = keyN (ts ++ us) ∧ InA 100000000000000 t.2 := fun t ht => by
  obtain ⟨k1, k2⟩ := keyN_both hs
  rcases List.mem_append.1 ht with ht | ht
  · obtain ⟨g1, g2, g3, _⟩ := goodV_mem h1 t ht
    exact ⟨g1, by rw [k1 (fun e => by rw [e] at ht; cases ht)]; exact g2, g3⟩
  · obtain ⟨g1, g2, g3, _⟩ := goodV_mem h2 t ht
    exact ⟨g1, by rw [k2 (fun e => by rw [e] at ht; cases ht)]; exact g2, g3⟩
theorem both_oneLen (h1 : goodV ts = true) (h2 : goodV us = true) : oneLen (ts ++ us) = sameK ts us := by
  cases hs : sameK ts us with
  | true => exact oneLen_of fun k hk => (both_mem h1 h2 hs _ (gat_mem hk)).2.1
  | false =>
    simp only [sameK, Bool.or_eq_false_iff, decide_eq_false_iff_not] at hs
    obtain ⟨e1, e2, e3⟩ := hs
    have hu : 0 < us.length := Nat.pos_of_ne_zero fun e => e2 (List.eq_nil_of_length_eq_zero e)
    refine oneLen_not ts.length (by simp; omega) ?_
    rw [keyN_left e1]
    have : gat (ts ++ us) ts.length = gat us 0 := by simp [gat, List.getD, List.getElem?_append_right]
    rw [this]
    exact fun e => e3 e.symm
theorem keyN_six (h : goodV ts = true) : keyN ts ≤ 6 := by
  cases ts with
  | nil => decide
  | cons t l => exact good_len (goodV_at h 0 (by simp)).1
theorem both_six (h1 : goodV ts = true) (h2 : goodV us = true) : keyN (ts ++ us) ≤ 6 := by
  by_cases ht : ts = []
  · rw [ht]; exact keyN_six h2
  · rw [keyN_left ht]; exact keyN_six h1
theorem sameK_nil : sameK [] us = true := rfl
theorem sameK_nil' : sameK ts [] = true := by simp [sameK]
theorem sameK_eq (h : keyN ts = keyN us) : sameK ts us = true := by simp [sameK, h]
theorem sameK_ne (h1 : ts ≠ []) (h2 : us ≠ []) (h : keyN ts ≠ keyN us) : sameK ts us = false := by simp [sameK, h, h1, h2]
/-- What putting some of them onto good groups makes. -/
theorem mg_in (h1 : goodV ts = true) (h2 : goodV us = true) (j : Nat) : ∀ t ∈ putAllV ts (us.take j), t.1.length ≤ 6 ∧ InA 2000000000000000000 t.2 := fun t ht => by
  have hM : (0 : Int) ≤ 100000000000000 := by decide
  have hr := putAllV_rises (l := us.take j) (goodV_rises h1)
  have hv := vOf_mem hr ht
  have hl : (us.take j).length ≤ 60 := by have := (goodV_parts h2).1; rw [List.length_take]; omega
  refine ⟨?_, ?_⟩
  · rcases putAllV_rows ht with ⟨s, hs, e⟩ | ⟨s, hs, e⟩
    · rw [← e]; exact good_len (goodV_mem h1 s hs).1
    · rw [← e]; exact good_len (goodV_mem h2 s (List.mem_of_mem_take hs)).1
  · rw [← hv, putAllV_vOf _ (goodV_rises h1)]
    refine ((vOf_bound hM (fun s hs => (goodV_mem h1 s hs).2.2.1)).add (sumV_bound hM (fun s hs => (goodV_mem h2 s (List.mem_of_mem_take hs)).2.2.1))).mono ?_
    omega
end
theorem OwnGr.atN {w : World} {lo hi : Nat} {a : Option Addr} {n c : Nat} {ts : List GRow} (h : OwnGr w lo hi a n c ts) (hs : SmV ts n) : AtN w a ts := by obtain ⟨cs, h⟩ := h; exact OwnVk.atN h hs.rowx
theorem OwnGr.formed {w : World} {lo hi : Nat} {a : Option Addr} {n c : Nat} {ts : List GRow} (h : OwnGr w lo hi a n c ts) : Formed a n c := by obtain ⟨cs, h⟩ := h; exact owns_formed h.outer

end Go.Proofs.Ytlfljfmhhnoinaa

/- The laws' helpers over a row and over one group in one form: what they make, hold equal, mark, find held. -/
namespace Go.Proofs.Ytlfljfmhhnoinaa
open Go.RowKit

section
variable {w w' : World} {lo hi : Nat} {a : Option Addr} {n c : Nat} {zs : List Int}
theorem OwnI.len (h : OwnI w lo hi a n c zs) : zs.length = n := by have := h.1.1; simpa using this
theorem OwnI.atMark {m : Int} (h : OwnI w lo hi a n c (marks m n)) (_hs : SmI zs n) : At w a (marks m n) := At.owned h.1
theorem OwnI.set3 {g : Nat} (h : OwnI w lo hi a n c zs) (hg : g < lo ∨ hi ≤ g) (u v x : Value) : OwnI (((w.setCell ⟨g, 0, none⟩ u).setCell ⟨g, 1, none⟩ v).setCell ⟨g, 2, none⟩ x) lo hi a n c zs := by
  have hne : (Value.slice a n c).ownBlock ≠ some g := fun e => by have h9 := h.2 g e; omega
  exact ⟨((h.1.kept (setCell_grown w ⟨g, 0, none⟩ u) (.inr hne)).kept (setCell_grown _ ⟨g, 1, none⟩ v) (.inr hne)).kept (setCell_grown _ ⟨g, 2, none⟩ x) (.inr hne), h.2⟩
end
theorem setg_heap {w : World} {g : Nat} {x y z : Value} {t : TypeId} (h : w.heap[g]? = some (.cells #[x, y, z] t (0, 0))) (u v q : Value) : (((w.setCell ⟨g, 0, none⟩ u).setCell ⟨g, 1, none⟩ v).setCell ⟨g, 2, none⟩ q).heap[g]? = some (.cells #[u, v, q] t (0, 0)) := by
  have h1 := heap_setCell_same w g 0 _ t u h
  have h2 := heap_setCell_same _ g 1 _ t v h1
  have h3 := heap_setCell_same _ g 2 _ t q h2
  rw [h3]; rfl
theorem setg_0 {w : World} {g : Nat} {x y z : Value} {t : TypeId} (h : w.heap[g]? = some (.cells #[x, y, z] t (0, 0))) (u v q : Value) : (((w.setCell ⟨g, 0, none⟩ u).setCell ⟨g, 1, none⟩ v).setCell ⟨g, 2, none⟩ q).cell? ⟨g, 0, none⟩ = some u := by
  rw [cell_of_row _ _ 0 _ _ (0, 0) (setg_heap h u v q)]; rfl
theorem setg_1 {w : World} {g : Nat} {x y z : Value} {t : TypeId} (h : w.heap[g]? = some (.cells #[x, y, z] t (0, 0))) (u v q : Value) : (((w.setCell ⟨g, 0, none⟩ u).setCell ⟨g, 1, none⟩ v).setCell ⟨g, 2, none⟩ q).cell? ⟨g, 1, none⟩ = some v := by
  rw [cell_of_row _ _ 1 _ _ (0, 0) (setg_heap h u v q)]; rfl
theorem setg_2 {w : World} {g : Nat} {x y z : Value} {t : TypeId} (h : w.heap[g]? = some (.cells #[x, y, z] t (0, 0))) (u v q : Value) : (((w.setCell ⟨g, 0, none⟩ u).setCell ⟨g, 1, none⟩ v).setCell ⟨g, 2, none⟩ q).cell? ⟨g, 2, none⟩ = some q := by
  rw [cell_of_row _ _ 2 _ _ (0, 0) (setg_heap h u v q)]; rfl

theorem szRowG (a : Option Addr) (n c : Nat) (zs : List Int) (l : Int) (w : World) (_hz : zs.length = n) (hn : n ≤ 9223372036854775807) (h0 : 0 ≤ l) (h1 : l ≤ 1048576) (_ha : At w a zs) :
    Calls Try.prog 14 #[.agg #[.slice a n c], .int .i64 l] w fun e w' => e = .returned (.int .i64 (leftOf l (n : Nat))) ∧ Below w.heap.size w w' := szRow_any a n c l w hn h0 h1
theorem toRowG (a : Option Addr) (n c : Nat) (zs : List Int) (w : World) (hs : SmI zs n) (ha : At w a zs) :
    Calls Try.prog 16 #[.agg #[.slice a n c]] w fun e w' => ∃ g, e = .returned (.agg #[.slice (some ⟨g, 0, none⟩) n n]) ∧ OwnI w' w.heap.size w'.heap.size (some ⟨g, 0, none⟩) n n zs ∧ Below w.heap.size w w' :=
  (toRow_any a n c zs w hs.1 hs.2 ha).mono fun _ _ ⟨g, h1, h2, h3⟩ => ⟨g, h1, ⟨h2, fun k hk => h2.lt k hk⟩, h3⟩
theorem eqRowG (a a' : Option Addr) (n c c' : Nat) (zs : List Int) (w : World) (hs : SmI zs n) (ha : At w a zs) (ha' : At w a' zs) :
    Calls Try.prog 19 #[.agg #[.slice a n c], .agg #[.slice a' n c']] w fun e w' => e = .returned (.bool true) ∧ Below w.heap.size w w' :=
  (eqRow_any a a' n n c c' zs zs w hs.1 hs.1 hs.2 hs.2 ha ha').mono fun _ _ ⟨h1, h2⟩ => ⟨by rw [h1, decide_eq_true rfl], h2⟩
theorem markRowG (lo hi : Nat) (a : Option Addr) (n c : Nat) (zs : List Int) (m : Int) (w : World) (hs : SmI zs n) (h0 : 0 ≤ m) (h1 : m ≤ 268435456) (ho : OwnI w lo hi a n c zs) :
    Calls Try.prog 21 #[.agg #[.slice a n c], .int .i64 m] w fun e w' => e = .returned (.int .i64 (m + n)) ∧ OwnI w' lo hi a n c (marks m n) ∧ Apart lo hi w w' :=
  (markRow_any lo a n c _ m w hs.2 h0 (by omega) ho.1).mono fun _ _ ⟨h1, h2, h3⟩ => ⟨h1, ⟨h2, ho.2⟩, Apart.grown h3 ho.2⟩

/-- How many marks a group takes: its key's cells. -/
def gfTot (_ : List Int) (n : Nat) : Nat := n
def OneT (e : Ending) (w' : World) (lo : Nat) (ok : Bool) (x y : Int) (zs : List Int) : Prop := OneRet e w' lo ok zs x y
theorem gf_small {ok : Bool} {zs : List Int} (h : ok = true → good zs = true) : SmI (gfKey ok zs) (gfKey ok zs).length := by
  refine ⟨rfl, ?_⟩
  cases ok with
  | false => simp [gfKey]
  | true => have := good_len (h rfl); simp only [gfKey, if_true]; omega
theorem gfB_key {ts : List GRow} {zs : List Int} (h : gfB ts zs = true) : good zs = true := by simp only [gfB, Bool.and_eq_true] at h; exact h.2.1
theorem eqGroupG (a a' : Option Addr) (n c c' : Nat) (zs : List Int) (x y : Int) (w : World) (hs : SmI zs n) (ha : At w a zs) (ha' : At w a' zs) :
    Calls Try.prog 18 #[.agg #[.slice a n c, .int .i64 x, .int .i64 y], .agg #[.slice a' n c', .int .i64 x, .int .i64 y]] w fun e w' => e = .returned (.bool true) ∧ Below w.heap.size w w' :=
  (eqGroup_any a a' n n c c' zs zs x x y y w hs.1 hs.1 hs.2 hs.2 ha ha').mono fun _ _ ⟨h1, h2⟩ => ⟨by rw [h1, decide_eq_true rfl], h2⟩
theorem markGroupG (lo hi : Nat) (a : Option Addr) (n c : Nat) (zs : List Int) (x y m : Int) (w : World) (hs : SmI zs n) (h0 : 0 ≤ m) (h1 : m ≤ 268435456) (ho : OwnI w lo hi a n c zs) :
    Calls Try.prog 22 #[.agg #[.slice a n c, .int .i64 x, .int .i64 y], .int .i64 m] w fun e w' => e = .returned (.int .i64 (m + gfTot zs n)) ∧ OwnI w' lo hi a n c (marks m n) ∧ Apart lo hi w w' := by
  have hb : Below w.heap.size w (w.alloc (.cells #[.slice a n c, .int .i64 x, .int .i64 y] 35)) := (Below.refl _ _).alloc (Nat.le_refl _) _
  have HO := ho.below hb
  go_enter Try.func22, Try.ntmps22
  go_wp2_with fail
  refine (markRowG lo hi a n c zs m _ hs h0 h1 HO).mono ?_
  rintro e w1 ⟨rfl, h2, h3⟩
  go_wp2
  go_ret
  exact ⟨rfl, h2, (Apart.trans ⟨hb.os, hb.tape, hb.output, hb.size, fun k hk _ => hb.block k hk⟩ h3)⟩
theorem heldGroupG (a : Option Addr) (n c : Nat) (zs : List Int) (x y m : Int) (w : World) (hs : SmI zs n) (h0 : 0 ≤ m) (h1 : m ≤ 268435456) (ha : At w a (marks m n)) :
    Calls Try.prog 23 #[.agg #[.slice a n c, .int .i64 x, .int .i64 y], .int .i64 m] w fun e w' => e = .returned (.int .i64 (m + gfTot zs n)) ∧ Below w.heap.size w w' := by
  have hb : Below w.heap.size w (w.alloc (.cells #[.slice a n c, .int .i64 x, .int .i64 y] 35)) := (Below.refl _ _).alloc (Nat.le_refl _) _
  have h2 : ¬ m + (n : Int) < 0 := by omega
  go_enter Try.func23, Try.ntmps23
  go_wp2_with fail
  refine (heldRow_any a n c m _ hs.2 h0 (by omega) (ha.below hb)).mono ?_
  rintro e w1 ⟨rfl, hb1⟩
  go_wp2
  go_ret
  exact ⟨rfl, hb.trans (hb1.mono hb.size)⟩

end Go.Proofs.Ytlfljfmhhnoinaa

/- Contract of impl.GoodGroups. -/
namespace Go.Proofs.Ytlfljfmhhnoinaa
open Go.RowKit

set_option maxHeartbeats 4000000 in
theorem implGoodGroups_any (a : Option Addr) (n c : Nat) (ts : List GRow) (w : World) (hz : ts.length = n) (hn : n ≤ 1048576) (ha : AtV w a ts) :
    Calls Try.prog 12 #[.slice a n c] w fun e w' => e = .returned (.bool (goodV ts)) ∧ Below w.heap.size w w' := by
  by_cases h60 : n ≤ 60
  rotate_left
  · have h60' : (60 : Int) < n := by omega
    go_enter Try.func12, Try.ntmps12
    go_wp2
    go_ret
    exact ⟨ret_bool (goodV_len (by omega)).symm, Below.refl _ _⟩
  have hgt : decide ((60 : Int) < n) = false := decide_eq_false (by omega)
  cases hol : oneLen ts with
  | false =>
    have HOL := Hid.mk hol
    clear hol
    go_enter Try.func12, Try.ntmps12
    go_wp2_with (go_at_call 44; refine (keysOfOneLength_any _ _ _ ts _ hz hn ha).mono ?_; rintro e w1 ⟨rfl, hb1⟩; rw [HOL.out])
    go_ret
    exact ⟨ret_bool (goodV_oneLen HOL.out).symm, hb1⟩
  | true =>
    have HOL := Hid.mk hol
    have hL : ∀ k, k < n → (gat ts k).1.length = keyN ts := fun k hk => oneLen_at hol k (by omega)
    have HL := Hid.mk hL
    clear hol hL
    go_enter Try.func12, Try.ntmps12
    go_wp2_with (go_at_call 44; refine (keysOfOneLength_any _ _ _ ts _ hz hn ha).mono ?_; rintro e w1 ⟨rfl, hb1⟩; rw [HOL.out])
    have HA1 := ha.below hb1
    have B1 := hb1
    clear ha hb1
    go_loopw [15] (fun i wr => ∃ (k : Nat), k ≤ n ∧ i = .int .i64 k ∧ (∀ j, j < k → stepV ts j = true) ∧ Below w1.heap.size w1 wr) (fun i _ => n - (intOf i).toNat)
    case atStart => exact ⟨0, Nat.zero_le _, rfl, fun j hj => by omega, Below.refl _ _⟩
    case round =>
      obtain ⟨k, hk, rfl, hall, hbw⟩ := hrel
      have B2 := B1.trans (hbw.mono B1.size)
      by_cases hlt : k < n
      · obtain ⟨b, off, rfl, hc⟩ := (HA1.below hbw).some (by omega)
        obtain ⟨q, d, hcx, hwx, hvx, hm, hat⟩ := hc k (by omega)
        have HN : Hid (goodG (keyN ts) (gat ts k) = false → goodV ts = false) := fun h => goodV_not k (by omega) (stepV_row h)
        have HC : Hid (k ≠ 0 → ¬ cmp (gat ts (k - 1)).1 (gat ts k).1 < 0 → goodV ts = false) := fun h0 h => goodV_not k (by omega) (stepV_cmp h0 h)
        have HS : Hid (goodG (keyN ts) (gat ts k) = true → (k = 0 ∨ cmp (gat ts (k - 1)).1 (gat ts k).1 < 0) → ∀ j, j < k + 1 → stepV ts j = true) := fun h1 h2 j hj => by
          by_cases e : j = k
          · subst e; exact stepV_mk h1 h2
          · exact hall j (by omega)
        have HLK := Hid.mk (HL.out k hlt)
        have hgp : k ≠ 0 → good (gat ts (k - 1)).1 = true := fun h0 => (goodG_cells (stepV_good (hall (k - 1) (by omega)))).1
        have HGP := Hid.mk hgp
        have hprev : k ≠ 0 → ∃ q' d', wr.cell? ⟨b, off + (k - 1) * 3, none⟩ = some (.slice q' (gat ts (k - 1)).1.length d') ∧ At wr q' (gat ts (k - 1)).1 := fun h0 => by
          obtain ⟨q', d', h1, _, _, _, h2⟩ := hc (k - 1) (by omega)
          exact ⟨q', d', h1, h2⟩
        have HPV := Hid.mk hprev
        have hki : (k : Int) < (n : Int) := by omega
        obtain ⟨k', hk'⟩ : ∃ k', k' = k - 1 := ⟨_, rfl⟩
        rw [← hk'] at HC HS HGP HPV
        have HK' := Hid.mk hk'
        clear hall hc hgp hprev hk'
        generalize gat ts k = Y at *
        generalize gat ts k' = Y' at *
        obtain ⟨ys, x, y⟩ := Y
        obtain ⟨ys', x', y'⟩ := Y'
        simp only at hcx hwx hvx hat hm
        obtain ⟨m, hmm⟩ : ∃ m, ys.length = m := ⟨_, rfl⟩
        rw [hmm] at hcx hm
        have HM := Hid.mk hmm
        clear hmm
        obtain ⟨gg, hgg⟩ : ∃ gg : Bool, (good ys && (ins x && (ins y && !nought x y))) = gg := ⟨_, rfl⟩
        have HGG := Hid.mk hgg
        have HGE : Hid (goodG (keyN ts) (ys, x, y) = gg) := by
          show goodG _ _ = _
          rw [← hgg]
          simp only [goodG, show decide (ys.length = keyN ts) = true from decide_eq_true HLK.out, Bool.true_and]
        have HGY : Hid (gg = true → good ys = true) := fun h => by rw [h] at hgg; simp only [Bool.and_eq_true] at hgg; exact hgg.1
        clear hgg
        obtain ⟨W, hW⟩ : ∃ W, W = wr.alloc (.cells #[.slice q m d, .int .i64 x, .int .i64 y] 35) := ⟨_, rfl⟩
        have hbW : Below wr.heap.size wr W := by rw [hW]; exact (Below.refl _ _).alloc (Nat.le_refl _) _
        have c3 : W.cell? ⟨wr.heap.size, 0, none⟩ = some (.slice q m d) := by rw [hW]; exact trip0 wr _ _ _ _
        have HAx := hat.below hbW
        have BW := B2.trans (hbW.mono B2.size)
        have BV := hbw.trans (hbW.mono hbw.size)
        have HPW : Hid (k ≠ 0 → ∃ q' d', W.cell? ⟨b, off + k' * 3, none⟩ = some (.slice q' ys'.length d') ∧ At W q' ys') := fun h0 => by
          obtain ⟨q', d', h1, h2⟩ := HPV.out h0
          exact ⟨q', d', cell_later hbW h1, h2.below hbW⟩
        clear hat HPV B2 hbw
        cases gg with
        | false =>
          go_wp2_with fail
          rw [← hW]
          clear hW
          refine (goodGroup_any _ _ _ ys _ _ _ HM.out hm HAx).mono ?_
          rintro e w2 ⟨rfl, hb2⟩
          rw [HGG.out]
          go_wp2
          go_ret
          exact ⟨ret_bool (HN.out HGE.out).symm, BW.trans (hb2.mono BW.size)⟩
        | true =>
          have HG1 := Hid.mk (HGY.out rfl)
          have l1 := good_len (HGY.out rfl)
          rw [HM.out] at l1
          go_wp2_with fail
          rw [← hW]
          clear hW hcx hwx hvx hbW
          refine (goodGroup_any _ _ _ ys _ _ _ HM.out hm HAx).mono ?_
          rintro e w2 ⟨rfl, hb2⟩
          rw [HGG.out]
          have c3 := cell_later hb2 c3
          have HAx := HAx.below hb2
          have BW := BW.trans (hb2.mono BW.size)
          have BV := BV.trans (hb2.mono BV.size)
          by_cases hk0 : k = 0
          · have HK := Hid.mk hk0
            have hnp : decide (0 < k) = false := decide_eq_false (by omega)
            clear hk0 hb2
            go_wp2
            go_quiet (fail)
            go_wp2
            go_roundw
            case rel => exact ⟨k + 1, by omega, by go_num, HS.out HGE.out (.inl HK.out), below_drewN BV _⟩
            case measure => simp [intOf]; omega
          · obtain ⟨q', d', hcx', hat'⟩ := HPW.out hk0
            have c1 := cell_later hb2 hcx'
            have HAy := hat'.below hb2
            have HG1' := Hid.mk (HGP.out hk0)
            have l1' := good_len (HGP.out hk0)
            obtain ⟨m', hmm'⟩ : ∃ m, ys'.length = m := ⟨_, rfl⟩
            rw [hmm'] at c1 l1'
            have HM' := Hid.mk hmm'
            have hnp : 0 < k := by omega
            have hsub : IntKind.i64.wrap ((k : Int) - 1) = (k' : Int) := (IntWalk.i64_in _ (by omega)).trans (by have := HK'.out; omega)
            have hlt1 : (k' : Int) < (n : Int) := by have := HK'.out; omega
            clear hcx' hat' hmm' hb2
            go_wp2
            go_region_held3 (fun w' => w'.cell? ⟨b, off + k' * 3, none⟩ = some (.slice q' m' d') ∧ w'.cell? ⟨wr.heap.size, 0, none⟩ = some (.slice q m d)) (refine ⟨?_, ?_⟩ <;> assumption)
              (first
                | (go_at_call_of 47 (Value.slice q' m' d'); refine (arrayOf_any _ _ _ ys' _ HM'.out l1' (fun j hj => good_cell HG1'.out j (by have := HM'.out; omega)) HAy.drew).mono ?_; rintro e w5 ⟨y0, y1, y2, y3, y4, y5, rfl, hy, hb2⟩; have r1 := cell_later hb2 c1; have r3 := cell_later hb2 c3; have HAz := HAx.drew.below hb2)
                | (go_at_call_of 47 (Value.slice q m d); refine (arrayOf_any _ _ _ ys _ HM.out l1 (fun j hj => good_cell HG1.out j (by have := HM.out; omega)) HAz).mono ?_; rintro e w3 ⟨x0, x1, x2, x3, x4, x5, rfl, hx, hb3⟩; have s1 := cell_later hb3 r1; have s3 := cell_later hb3 r3)
                | (go_at_call 46; refine (compareArrays_any _ _ _ _ _ _ _ _ _ _ _ _ _ _ hy hx _).mono ?_; rintro e w4 ⟨rfl, hb4⟩; have v1 := cell_later hb4 s1; have v3 := cell_later hb4 s3))
            have B5 : Below w.heap.size w w4 := ((BW.drew.trans (hb2.mono BW.size)).trans (hb3.mono (by have := hb2.size; have := BW.size; simp only [drew_size] at *; omega))).trans (hb4.mono (by have := hb2.size; have := hb3.size; have := BW.size; simp only [drew_size] at *; omega))
            have V5 : Below w1.heap.size w1 w4 := ((BV.drew.trans (hb2.mono BV.size)).trans (hb3.mono (by have := hb2.size; have := BV.size; simp only [drew_size] at *; omega))).trans (hb4.mono (by have := hb2.size; have := hb3.size; have := BV.size; simp only [drew_size] at *; omega))
            have hcr := cmp_raised HG1'.out HG1.out
            rw [hy, hx] at hcr
            have hcm := cmp_range ys' ys
            clear hy hx hb2 hb3 hb4 r1 r3 s1 s3 v1 v3 c1 c3 HAz HAx HAy BW BV
            by_cases hlss : cmp ys' ys < 0
            · have hcc : (cmp [y0, y1, y2, y3, y4, y5] [x0, x1, x2, x3, x4, x5] != -1) = false := by rw [hcr, show cmp ys' ys = -1 by omega]; rfl
              have HL' := Hid.mk hlss
              clear hcr hcm hlss
              go_wp2
              go_roundw
              case rel => exact ⟨k + 1, by omega, by go_num, HS.out HGE.out (.inr HL'.out), V5⟩
              case measure => simp [intOf]; omega
            · have hcc : (cmp [y0, y1, y2, y3, y4, y5] [x0, x1, x2, x3, x4, x5] != -1) = true := by
                rw [hcr]
                rcases hcm with h | h | h
                · omega
                · rw [h]; rfl
                · rw [h]; rfl
              have HL' := Hid.mk hlss
              clear hcr hcm hlss
              go_wp2
              go_ret
              exact ⟨ret_bool (HC.out hk0 (by have := HL'.out; omega)).symm, B5⟩
      · go_wp2
        go_ret
        exact ⟨ret_bool (goodV_of (by omega) (fun j hj => hall j (by omega))).symm, B2⟩

end Go.Proofs.Ytlfljfmhhnoinaa
