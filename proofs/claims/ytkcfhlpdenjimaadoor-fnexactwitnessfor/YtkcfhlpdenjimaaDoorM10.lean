/- Several texts of one proof, in build order: MapA, WSum, OthI, WitP, TzI, TableM. -/
import Derived.Test.YtkcfhlpdenjimaaDoorM8
import Derived.Test.YtkcfhlpdenjimaaDoorM9
import Derived.WideKeyEntry
import Derived.Deep.RegionHeld3
import Derived.Test.YtkcfhlpdenjimaaDoorM4
import Derived.Test.YtkcfhlpdenjimaaDoorM7
import Derived.Lib.TrailingZeros
import Derived.Lib.LaidTab

/- Contracts of impl.weights.add, impl.sumsOf. -/
namespace Go.Proofs.YtkcfhlpdenjimaaDoor
open Go.RowKit Go.Maps
open Go.ChangeMaps (setBlock)

theorem Tryd.zeroInt (w : World) : (zeroValue 3).run Tryd.prog w = .ok (.int .i64 0) w := by kernel_rfl

theorem setBlock_twice (w : World) (b : Nat) (o o' : Obj) : setBlock (setBlock w b o) b o' = setBlock w b o' := by simp [setBlock]
theorem heap_setBlock_at {w : World} {b : Nat} {es : Array MapEntry} {clock : Nat} (hb : w.heap[b]? = some (.map es clock)) (o : Obj) : (setBlock w b o).heap[b]? = some o := by
  have := (Array.getElem?_eq_some_iff.1 hb).1
  simp [setBlock, this]
theorem setBlock_grown (w : World) (b : Nat) (o : Obj) : w.grownBy (setBlock w b o) (some b) :=
  ⟨rfl, rfl, rfl, by simp [setBlock], fun k _ hn => by simp [setBlock, show b ≠ k from fun e => hn (by rw [e])]⟩

theorem mul_bound {x t : Int} (h1 : -1000000 ≤ x) (h2 : x ≤ 1000000) (h3 : -1000 ≤ t) (h4 : t ≤ 1000) : -1000000000 ≤ x * t ∧ x * t ≤ 1000000000 := by
  have a1 : (x + 1000000) * (t + 1000) ≥ 0 := Int.mul_nonneg (by omega) (by omega)
  have a2 : (1000000 - x) * (1000 - t) ≥ 0 := Int.mul_nonneg (by omega) (by omega)
  have a3 : (x + 1000000) * (1000 - t) ≥ 0 := Int.mul_nonneg (by omega) (by omega)
  have a4 : (1000000 - x) * (t + 1000) ≥ 0 := Int.mul_nonneg (by omega) (by omega)
  simp only [Int.add_mul, Int.sub_mul, Int.mul_add, Int.mul_sub] at a1 a2 a3 a4
  omega

theorem MapIs.congr {D : DataW Unit} {f f' : List Int → Int} {S S' : List (List Int)} (h : MapIs D f S) (hf : ∀ x, f x = f' x) (hS : S = S') : MapIs D f' S' := by
  obtain rfl : f = f' := funext hf
  subst hS
  exact h

/-- To take the entry is to store at the key what it holds, 0 where it is new. -/
theorem entry_is_update {P : Program} {t k e : TypeId} (K : WideMaps.KeyLaw P k) (ht : P.underlying t = some (.map k e)) {z : Value} (hz : ∀ u : World, (zeroValue e).run P u = .ok z u) {w W1 : World} {b : Nat} {es : Array MapEntry} {clock : Nat}
    {R : Value → Option (DataW Unit × List MemPlace)} (hb : w.heap[b]? = some (.map es clock)) (F : WideElems.Fit P k R es clock) {key : Value} {kl : Lit} (hkey : keyOf P k key = some kl) {v0 : Value} {st : Nat}
    (hrun : (Instr.mapEntry t (.map (some b)) key).run P w = .ok (.tuple #[v0, goInt st]) W1) : (Instr.mapUpdate t (.map (some b)) key v0).run P w = .ok () W1 := by
  rcases K.find w hkey es.toList F.keys with ⟨h1, h2⟩ | ⟨j, e0, h1, h2, h3⟩
  · simp [Instr.mapEntry, run_underlying ht, MapKept.run_getObj_map hb, K.check w false hkey, h1, hz, MapKept.run_setObj_map _ hb, Result.andThen] at hrun
    obtain ⟨⟨rfl, _⟩, rfl⟩ := hrun
    simp [Instr.mapUpdate, run_underlying ht, MapKept.run_getObj_map hb, K.check w false hkey, h1, MapKept.run_setObj_map _ hb, Result.andThen]
  · have hj : es[j]? = some e0 := by simpa using h2
    simp [Instr.mapEntry, run_underlying ht, MapKept.run_getObj_map hb, K.check w false hkey, h1, hj, h3, K.stays w hkey, MapKept.run_setObj_map _ hb, Result.andThen] at hrun
    obtain ⟨⟨rfl, _⟩, rfl⟩ := hrun
    have hmod : es.modify j (fun e' => { e' with key := key, val := e0.val }) = es.modify j (fun e' => { e' with key := key }) := by
      apply Array.ext'
      rw [Array.toList_modify, Array.toList_modify, ChangeMaps.modify_eq_set _ _ _ _ h2, ChangeMaps.modify_eq_set _ _ _ _ h2]
    simp [Instr.mapUpdate, run_underlying ht, MapKept.run_getObj_map hb, K.check w false hkey, h1, hj, h3, K.stays w hkey, MapKept.run_setObj_map _ hb, Result.andThen, hmod]

/-- 'm[k] += v' in its steps: the look-up (ahead of the entry or behind it), the entry, the store. -/
theorem bump {P : Program} {t k e : TypeId} (K : WideMaps.KeyLaw P k) (ht : P.underlying t = some (.map k e)) (he : P.underlying e = some (.int .i64)) (hz : ∀ u : World, (zeroValue e).run P u = .ok (.int .i64 0) u) {w : World} {b cnt : Nat} {D : DataW Unit}
    (hown : w.ownsMap P k (plainElem P e) b cnt D) (hcnt : cnt < maxLen) {key : Value} {kl : Lit} (hkey : keyOf P k key = some kl) :
    ∃ c : Int, (Instr.lookup t (.map (some b)) key false).run P w = .ok (.int .i64 c) w ∧ D.atKey kl (.lit (.int .i64 0)) = .lit (.int .i64 c) ∧
      ∀ v : Int, (Lit.int .i64 v).wf = true → ∃ (v0 : Value) (st : Nat) (W1 W2 : World), (Instr.mapEntry t (.map (some b)) key).run P w = .ok (.tuple #[v0, .int .i64 st]) W1 ∧ (Instr.lookup t (.map (some b)) key false).run P W1 = .ok (.int .i64 c) W1 ∧
        (Instr.entryStore t (.map (some b)) (.int .i64 st) (.int .i64 v)).run P W1 = .ok () W2 ∧ W2.ownsMap P k (plainElem P e) b (cnt + 1) (D.put kl (.lit (.int .i64 v))) ∧ w.grownBy W1 (some b) ∧ w.grownBy W2 (some b) := by
  have KK := Keyed.of_law K
  obtain ⟨c, h1, h2, _⟩ := hown.lookup_int KK ht he (hz w) hkey
  refine ⟨c, h1, h2, fun v hv => ?_⟩
  obtain ⟨w', hu, ho, hg⟩ := hown.update KK ht hcnt hkey (plainElem_int he hv)
  have hown' := hown
  obtain ⟨es, clock, hb, F, _, hD⟩ := hown
  obtain ⟨v0, st, es1, clock1, r1, rv, r2⟩ := WideElems.entry_then_store K ht hz hb F hkey
  obtain ⟨es', clock', s1, s2⟩ := r2 (setBlock w b (.map es1 clock1)) (.int .i64 v) (heap_setBlock_at hb _)
  rw [setBlock_twice] at s1
  have e : w' = setBlock w b (.map es' clock') := by rw [s2] at hu; simpa using hu.symm
  subst e
  have hupd := entry_is_update K ht hz hb F hkey r1
  have hv0 : v0 = .int .i64 c := by
    rcases fit_look false KK ht (hz w) hb F hkey with ⟨hrun, hno, _⟩ | ⟨e0, y, hy1, hy2, hrun, _, _, _⟩
    · rw [h1] at hrun
      rcases rv with ⟨e0, he0, hk0, _⟩ | ⟨_, hv⟩
      · exact absurd hk0 (hno e0 he0)
      · rw [hv]; simpa using hrun.symm
    · rw [h1] at hrun
      rcases rv with ⟨e1, he1, hk1, hv⟩ | ⟨hno, _⟩
      · rw [hv, entry_eq_of_key (by have := F.stamped.2.2; rwa [List.Nodup, List.pairwise_map] at this) he1 hy1 (hk1.trans hy2.symm)]; simpa using hrun.symm
      · exact absurd hy2 (hno e0 hy1)
  subst hv0
  have hwc : (Lit.int .i64 c).wf = true := by
    obtain ⟨c', h1', h2', h3'⟩ := hown'.lookup_int KK ht he (hz w) hkey
    rw [h1] at h1'
    simp at h1'
    subst h1'
    exact h3'
  obtain ⟨w'', hu'', ho'', _⟩ := hown'.update KK ht hcnt hkey (plainElem_int he hwc)
  have e : w'' = setBlock w b (.map es1 clock1) := by rw [hupd] at hu''; simpa using hu''.symm
  subst e
  obtain ⟨c2, k1, k2, _⟩ := ho''.lookup_int KK ht he (hz _) hkey
  rw [atKey_put_same hown'.isMap (KK.key hkey)] at k2
  have : c2 = c := by simpa using k2.symm
  subst this
  exact ⟨.int .i64 c2, st, _, _, r1, k1, s1, ho, setBlock_grown _ _ _, hg⟩

end Go.Proofs.YtkcfhlpdenjimaaDoor

/- Plain: what is told by summing weights up, and by putting them one by one, is one list. -/
namespace Go.Proofs.YtkcfhlpdenjimaaDoor
open Go.RowKit

/-- What a function that tells a table or nothing hands back. -/
def ansP (ok : Bool) (p : Int) : Int := if ok then p else 0
def ansT (ok : Bool) (ts : List WRow) : List WRow := if ok then ts else []
def TabAns (e : Ending) (w' : World) (lo : Nat) (ok : Bool) (p : Int) (ts : List WRow) : Prop := TabRet e w' lo ok (ansP ok p) (ansT ok ts)

theorem TabAns.zero {e : Ending} {w' : World} {lo : Nat} {ok : Bool} {p : Int} {ts : List WRow} (h : ok = false) (he : e = .returned (.tuple #[.agg #[.int .i64 0, .slice none 0 0], .bool false])) : TabAns e w' lo ok p ts := by
  subst h
  exact ⟨none, 0, 0, [], he, OwnWk.start rfl (Nat.le_refl _) (World.ownsRow_nil _ _ _ _) (fun b hb => by cases hb)⟩
theorem TabAns.tell {e : Ending} {w' : World} {lo : Nat} {ok : Bool} {p : Int} {ts : List WRow} (h : ok = goodT p ts) (hr : TabRet e w' lo (goodT p ts) (tellP p ts) (tellT p ts)) : TabAns e w' lo ok p ts := by
  subst h; exact hr

/-- What NewTable tells. -/
def newB (p : Int) (l : List WRow) : Bool := inc p && (decide (l.length ≤ 200) && (goodL p l && goodT p (putAll [] l)))
theorem newB_col {p : Int} {l : List WRow} (h : inc p = false) : newB p l = false := by simp [newB, h]
theorem newB_len {p : Int} {l : List WRow} (h : 200 < l.length) : newB p l = false := by
  have : decide (l.length ≤ 200) = false := by simp; omega
  simp [newB, this]
theorem newB_list {p : Int} {l : List WRow} (h : goodL p l = false) : newB p l = false := by simp [newB, h]
theorem newB_good {p : Int} {l : List WRow} (h1 : inc p = true) (h2 : l.length ≤ 200) (h3 : goodL p l = true) : newB p l = goodT p (putAll [] l) := by simp [newB, h1, h2, h3]

theorem keysTo_mem {ts : List WRow} {k : Nat} {a : List Int} (h : a ∈ keysTo ts k) : ∃ t ∈ ts, a = raised t.1 := by
  unfold keysTo at h
  rw [List.mem_reverse] at h
  obtain ⟨t, ht, rfl⟩ := List.mem_map.1 h
  exact ⟨t, List.mem_of_mem_take ht, rfl⟩
theorem goodL_mem {p : Int} {ts : List WRow} (h : goodL p ts = true) : ∀ t ∈ ts, good t.1 = true ∧ (t.1.length : Int) = p ∧ -1000000 ≤ t.2 ∧ t.2 ≤ 1000000 := fun t ht => goodW_cells (List.all_eq_true.1 h t ht)
theorem keys_list {q : Nat} {ts : List WRow} (h : goodL q ts = true) (k : Nat) : Keys q (keysTo ts k) := fun a ha => by
  obtain ⟨t, ht, rfl⟩ := keysTo_mem ha
  have := goodL_mem h t ht
  exact ⟨t.1, this.1, by omega, rfl⟩
theorem keys_append {q : Nat} {S S' : List (List Int)} (h : Keys q S) (h' : Keys q S') : Keys q (S ++ S') := fun a ha => by
  rcases List.mem_append.1 ha with ha | ha
  · exact h a ha
  · exact h' a ha

theorem Tells.unique {q : Nat} {f : List Int → Int} {ts us : List WRow} (h : Tells q f ts) (k : Tells q f us) : ts = us := by
  refine rises_ext h.rises k.rises h.noZero k.noZero fun zs => ?_
  by_cases e : good zs = true ∧ zs.length = q
  · rw [h.weight zs e.1 e.2, k.weight zs e.1 e.2]
  · rw [wOf_absent fun t ht e' => e (by rw [← e']; exact h.rows t ht), wOf_absent fun t ht e' => e (by rw [← e']; exact k.rows t ht)]

/-- The sum by arrays is the sum by rows. -/
theorem sumAt_sumW {ts : List WRow} {zs : List Int} {n : Nat} (hn : ts.length = n) (times : Int) (hg : ∀ t ∈ ts, good t.1 = true) (hz : good zs = true) : sumAt ts n times (raised zs) = sumW ts zs * times := by
  unfold sumAt sumW
  rw [List.take_of_length_le (by omega)]
  clear hn
  induction ts with
  | nil => simp
  | cons t ts ih =>
    rw [List.map_cons, List.map_cons, List.sum_cons, List.sum_cons, ih fun s hs => hg s (by simp [hs]), Int.add_mul]
    congr 1
    by_cases e : t.1 = zs
    · rw [if_pos e, if_pos (by rw [e])]
    · rw [if_neg e, if_neg (fun h => e (raised_inj (hg t (by simp)) hz h))]; simp

theorem sumW_absent {ts : List WRow} {zs : List Int} (h : ∀ t ∈ ts, t.1 ≠ zs) : sumW ts zs = 0 := by
  unfold sumW
  induction ts with
  | nil => rfl
  | cons t ts ih => rw [List.map_cons, List.sum_cons, if_neg (h t (by simp)), ih fun s hs => h s (by simp [hs])]; rfl
theorem sumW_rises {ts : List WRow} {zs : List Int} (h : Rises ts) : sumW ts zs = wOf ts zs := by
  induction ts with
  | nil => rfl
  | cons t ts ih =>
    obtain ⟨h1, h2⟩ := List.pairwise_cons.1 h
    have e : sumW (t :: ts) zs = (if t.1 = zs then t.2 else 0) + sumW ts zs := by simp [sumW]
    rw [e, ih h2, wOf_cons]
    by_cases e2 : t.1 = zs
    · rw [if_pos e2, if_pos e2, wOf_absent fun s hs e3 => cmp_ne (h1 s hs) (e2.trans e3.symm)]; omega
    · rw [if_neg e2, if_neg e2]; omega

theorem tells_put {q : Nat} {f : List Int → Int} {ts l : List WRow} (hr : Rises ts) (hn : NoZero ts) (hrow : ∀ t ∈ ts, good t.1 = true ∧ t.1.length = q) (hl : ∀ t ∈ l, good t.1 = true ∧ t.1.length = q)
    (hf : ∀ zs, good zs = true → zs.length = q → f (raised zs) = wOf ts zs + sumW l zs) : Tells q f (putAll ts l) where
  rises := putAll_rises hr
  noZero := putAll_nozero hn
  rows := fun t ht => by
    rcases putAll_rows ht with ⟨s, hs, e⟩ | ⟨s, hs, e⟩
    · rw [← e]; exact hrow s hs
    · rw [← e]; exact hl s hs
  weight := fun zs h1 h2 => by rw [putAll_wOf zs hr, hf zs h1 h2]

theorem tells_new {q n : Nat} {ts : List WRow} (hz : ts.length = n) (h : goodL q ts = true) : Tells q (sumAt ts n 1) (putAll [] ts) :=
  tells_put List.Pairwise.nil (fun t ht => by cases ht) (fun t ht => by cases ht) (fun t ht => by have := goodL_mem h t ht; exact ⟨this.1, by omega⟩)
    fun zs h1 _ => by rw [sumAt_sumW hz 1 (fun t ht => (goodL_mem h t ht).1) h1, wOf_nil]; omega

end Go.Proofs.YtkcfhlpdenjimaaDoor

/- Contract of columnSet.others. -/
namespace Go.Proofs.YtkcfhlpdenjimaaDoor
open Go.RowKit

/-- What of the first q columns is not in T. -/
def oth (q T : Nat) : Nat := (2 ^ q - 1) &&& (18446744073709551615 - T)
theorem others_any (T q : Nat) (w : World) (hT : T < 64) (hq : q ≤ 6) :
    Calls Tryd.prog 49 #[.int .u64 (T : Nat), .int .i64 (q : Nat)] w fun e w' => e = .returned (.int .u64 (oth q T : Nat)) ∧ w' = w := by
  have h2 : 2 ^ q ≤ 64 := by have : 2 ^ q ≤ 2 ^ 6 := Nat.pow_le_pow_right (by omega) hq; omega
  have h1 : 1 ≤ 2 ^ q := Nat.one_le_two_pow
  have e1 : IntKind.u64.wrap (2 ^ q) = ((2 ^ q : Nat) : Int) := by
    have := wrap64_small (n := 2 ^ q) (by omega)
    rw [← this]; congr 1
  have e2 : IntKind.u64.wrap (((2 ^ q : Nat) : Int) - 1) = ((2 ^ q - 1 : Nat) : Int) := by
    rw [show ((2 ^ q : Nat) : Int) - 1 = ((2 ^ q - 1 : Nat) : Int) by omega]; exact wrap64_small (by omega)
  have e3 := u64_andNot_nat (2 ^ q - 1) T (by omega) (by omega)
  have e4 : bits .andNot .u64 (IntKind.u64.wrap (IntKind.u64.wrap (2 ^ q) - 1)) (T : Int) = (oth q T : Int) := by rw [e1, e2, e3]; rfl
  have H4 := Hid.mk e4
  clear e1 e2 e3 e4
  go_enter Tryd.func49, Tryd.ntmps49
  go_wp2
  go_ret
  refine ⟨?_, rfl⟩
  rw [← H4.out]
  rfl


end Go.Proofs.YtkcfhlpdenjimaaDoor

/- Plain: two rows that show what does not follow. -/
namespace Go.Proofs.YtkcfhlpdenjimaaDoor
open Go.RowKit

noncomputable def witB (xs : List Dep) (C : Int) (d : Dep) : Bool := impB xs C d && !impV xs d
def witRow (q T : Nat) : List Int := (List.range q).map fun k => if T.testBit k then 0 else 1
def witT (q T : Nat) : List WRow := [(List.replicate q 0, 1), (witRow q T, 1)]
noncomputable def witL (xs : List Dep) (C : Int) (d : Dep) : List WRow := witT C.toNat (clo (dms xs) (mk d.1))
def setAll (l : List Int) (ks : List Int) : List Int := ks.foldl (fun l k => l.set k.toNat 1) l
theorem oth_all : ∀ q : Nat, q < 7 → ∀ T : Nat, T < 64 → oth q T < 64 ∧ (bl (oth q T)).all (fun k => decide (k < (q : Int))) = true ∧ setAll (List.replicate q 0) (bl (oth q T)) = witRow q T := by decide +kernel
theorem setAll_take {l ks : List Int} {k : Nat} (h : k < ks.length) : setAll l (ks.take (k + 1)) = (setAll l (ks.take k)).set (ks.getD k 0).toNat 1 := by
  rw [take_succ_getD ks k h]
  unfold setAll
  rw [List.foldl_append]
  rfl
theorem setAll_len (l ks : List Int) : (setAll l ks).length = l.length := by
  unfold setAll
  induction ks generalizing l with
  | nil => rfl
  | cons x ks ih => rw [List.foldl_cons, ih]; simp
theorem witRow_len (q T : Nat) : (witRow q T).length = q := by simp [witRow]

/-- A slice of two rows that the call made. -/
theorem own_two {w : World} {lo q : Nat} {te ti : TypeId} {g1 d1 g2 d2 : Nat} {xs ys : List Int} (h1 : w.ownsRow lo ti 1 (.slice (some ⟨g1, 0, none⟩) q d1) q (xs.map (.int .i64))) (h2 : w.ownsRow lo ti 1 (.slice (some ⟨g2, 0, none⟩) q d2) q (ys.map (.int .i64)))
    (hx : xs.length = q) (hy : ys.length = q) (hd : g1 ≠ g2) (hlo : lo ≤ w.heap.size) :
    OwnW (w.alloc (.cells #[.slice (some ⟨g1, 0, none⟩) q d1, .int .i64 1, .slice (some ⟨g2, 0, none⟩) q d2, .int .i64 1] te)) lo (w.alloc (.cells #[.slice (some ⟨g1, 0, none⟩) q d1, .int .i64 1, .slice (some ⟨g2, 0, none⟩) q d2, .int .i64 1] te)).heap.size te ti (some ⟨w.heap.size, 0, none⟩) 2 2 [(xs, 1), (ys, 1)]
      [.slice (some ⟨g1, 0, none⟩) q d1, .int .i64 1, .slice (some ⟨g2, 0, none⟩) q d2, .int .i64 1] := by
  have k1 := (h1.lt g1 rfl).2
  have k2 := (h2.lt g2 rfl).2
  refine ⟨rfl, Nat.le_refl _, ⟨by simp, .inr ⟨w.heap.size, 2, _, rfl, hlo, heap_alloc_new w _, Nat.le_refl _, by unfold maxLen; omega, by simp, by simp⟩⟩, fun b hb => ?_, fun i hi => ?_, fun i hi b hb => ?_, fun i j hi hj hij b hb => ?_⟩
  · obtain rfl : w.heap.size = b := by simpa [Value.ownBlock] using hb
    simp
  · match i, hi with
    | 0, _ => exact ⟨some ⟨g1, 0, none⟩, d1, by show _ = some (Value.slice _ xs.length _); rw [hx]; rfl, rfl, by show World.ownsRow _ _ _ _ (.slice _ xs.length _) xs.length (xs.map _); rw [hx]; exact h1.alloc _⟩
    | 1, _ => exact ⟨some ⟨g2, 0, none⟩, d2, by show _ = some (Value.slice _ ys.length _); rw [hy]; rfl, rfl, by show World.ownsRow _ _ _ _ (.slice _ ys.length _) ys.length (ys.map _); rw [hy]; exact h2.alloc _⟩
  · match i, hi with
    | 0, _ => obtain rfl : g1 = b := by simpa [blkW, Value.ownBlock] using hb
              exact ⟨by simp; omega, by simp [Value.ownBlock]; omega⟩
    | 1, _ => obtain rfl : g2 = b := by simpa [blkW, Value.ownBlock] using hb
              exact ⟨by simp; omega, by simp [Value.ownBlock]; omega⟩
  · match i, j, hi, hj with
    | 0, 0, _, _ => exact absurd rfl hij
    | 1, 1, _, _ => exact absurd rfl hij
    | 0, 1, _, _ => obtain rfl : g1 = b := by simpa [blkW, Value.ownBlock] using hb
                    simp [blkW, Value.ownBlock]; exact fun e => hd e.symm
    | 1, 0, _, _ => obtain rfl : g2 = b := by simpa [blkW, Value.ownBlock] using hb
                    simp [blkW, Value.ownBlock]; exact hd

end Go.Proofs.YtkcfhlpdenjimaaDoor

/- Contracts of math/bits.TrailingZeros at sets of columns, and of columnSet.list. -/
namespace Go.Proofs.YtkcfhlpdenjimaaDoor
open Go.RowKit

theorem TabIs.below {P : Program} {w w' : World} {name : String} {k : IntKind} {ns : List Int} (h : Lib.TabIs P w name k ns) (hb : Below w.heap.size w w') : Lib.TabIs P w' name k ns := by
  unfold Lib.TabIs World.var? at *
  cases hg : P.globalNamed name with
  | none => rw [hg] at h; cases h
  | some g =>
    rw [hg] at h
    simp only [Option.bind_some] at h ⊢
    have hlt : g < w.heap.size := by
      by_cases hl : g < w.heap.size
      · exact hl
      · rw [Array.getElem?_eq_none (by omega)] at h
        cases h
    rw [hb.block g hlt]
    exact h

/-- The table that TrailingZeros reads. -/
def deB : List Int := Lib.deBruijn64tab.map Int.ofNat
abbrev TabB (w : World) : Prop := Lib.TabIs Tryd.prog w "math/bits.deBruijn64tab" .u8 deB
theorem gTab : Tryd.prog.globalNamed "math/bits.deBruijn64tab" = some 1 := by kernel_rfl

/-- The first column of a set. -/
def tz (x : Nat) : Nat := ((List.range 6).find? (fun i => x.testBit i)).getD 0
def tzAt (x : Nat) : Nat := (x &&& (18446744073709551616 - x)) * 285870213051353865 % 18446744073709551616 / 288230376151711744
theorem tz_key : ∀ x : Nat, x < 64 → x ≠ 0 → tzAt x < 64 ∧ Lib.deBruijn64tab.getD (tzAt x) 0 = tz x ∧ tz x < 6 := by decide +kernel
theorem bl_step : ∀ x : Nat, x < 64 → x ≠ 0 → bl x = (tz x : Int) :: bl (x &&& (x - 1)) ∧ (x &&& (x - 1)) < x := by decide +kernel
theorem bl_zero : bl 0 = [] := by decide +kernel
theorem deB_at : ∀ i : Nat, i < 64 → deB.getD i 0 = (Lib.deBruijn64tab.getD i 0 : Nat) := by decide +kernel

theorem tz_wrap {x : Nat} (hx : x < 64) (h0 : x ≠ 0) :
    IntKind.u64.wrap (bits BinOp.and IntKind.u64 (x : Int) (IntKind.u64.wrap (-(x : Int))) * 285870213051353865) / 288230376151711744 = (tzAt x : Int) := by
  have e0 : ∀ n : Int, IntKind.u64.wrap n = n % 18446744073709551616 := fun n => by simp [IntKind.wrap, IntKind.bits, IntKind.signed]
  have e1 : IntKind.u64.wrap (-(x : Int)) = ((18446744073709551616 - x : Nat) : Int) := by rw [e0]; omega
  rw [e1, u64_and_nat x _ (by omega) (by omega), e0]
  unfold tzAt
  omega

set_option maxHeartbeats 1000000 in
theorem tz64_any (x : Nat) (w : World) (hx : x < 64) (h0 : x ≠ 0) (ht : TabB w) :
    Calls Tryd.prog 87 #[.int .u64 (x : Nat)] w fun e w' => e = .returned (.int .i64 (tz x : Nat)) ∧ w' = w := by
  obtain ⟨k1, k2, k3⟩ := tz_key x hx h0
  have key := tz_wrap hx h0
  have hc := Lib.TabIs.cell ht gTab (tzAt x) (by show tzAt x < 64; exact k1)
  rw [deB_at _ k1, k2] at hc
  have hb : ((x : Int) == 0) = false := beq_eq_false_iff_ne.2 (by omega)
  obtain ⟨I, hI⟩ : ∃ I, tzAt x = I := ⟨_, rfl⟩
  obtain ⟨Z, hZ⟩ : ∃ Z, tz x = Z := ⟨_, rfl⟩
  rw [hI] at key hc k1
  rw [hZ] at hc k3 ⊢
  clear ht k2 hI hZ
  go_enter Tryd.func87, Tryd.ntmps87
  go_wp2_with (simp only [key])
  go_ret
  exact ⟨rfl, rfl⟩

theorem tz_any (x : Nat) (w : World) (hx : x < 64) (h0 : x ≠ 0) (ht : TabB w) :
    Calls Tryd.prog 69 #[.int .u64 (x : Nat)] w fun e w' => e = .returned (.int .i64 (tz x : Nat)) ∧ w' = w := by
  have K := Hid.mk (tz64_any x w hx h0 ht)
  clear ht
  go_enter Tryd.func69, Tryd.ntmps69
  go_wp2_with fail
  refine K.out.mono ?_
  rintro e w1 ⟨rfl, rfl⟩
  go_wp2
  go_ret
  exact ⟨rfl, rfl⟩

set_option maxRecDepth 100000 in
set_option maxHeartbeats 2000000 in
theorem list_any (S : Nat) (w : World) (hS : S < 64) (ht : TabB w) :
    Calls Tryd.prog 42 #[.int .u64 (S : Nat)] w fun e w' => ∃ r m d, e = .returned (.slice r m d) ∧ (bl S).length = m ∧ w'.ownsRow w.heap.size 3 1 (.slice r m d) m ((bl S).map (.int .i64)) ∧ Below w.heap.size w w' := by
  obtain ⟨i0, hi, hz0, hz1, hz2⟩ := info_parts Tryd.infoInt
  have HT := Hid.mk ht
  clear ht
  go_enter Tryd.func42, Tryd.ntmps42
  go_wp2
  go_loopg [0, 3] S (fun g p q wr => ∃ (s : Nat) (zs : List Int) (r : Option Addr) (m d : Nat), s = g ∧ s < 64 ∧ p = .int .u64 (s : Nat) ∧ q = .slice r m d ∧ bl S = zs ++ bl s ∧ zs.length = m ∧ wr.ownsRow w.heap.size 3 1 (.slice r m d) m (zs.map (.int .i64)) ∧ Below w.heap.size w wr)
  case atStart => exact ⟨S, [], none, 0, 0, rfl, hS, rfl, rfl, rfl, rfl, World.ownsRow_nil _ _ _ _, Below.refl _ _⟩
  case round =>
    obtain ⟨s, zs, r, m, d, rfl, hs, rfl, rfl, hbl, hm, hown, hbw⟩ := hrel
    by_cases h0 : s = 0
    · have HB : Hid (bl S = zs) := by show _ = _; rw [hbl, h0, bl_zero, List.append_nil]
      have hsb : ((s : Int) != 0) = false := by rw [h0]; rfl
      have HO := Hid.mk hown
      have HM := Hid.mk hm
      clear hbl hown hm
      go_wp2
      go_ret
      exact ⟨r, m, d, rfl, by rw [HB.out]; exact HM.out, by rw [HB.out]; exact HO.out, hbw⟩
    · obtain ⟨b1, b2⟩ := bl_step s hs h0
      have hm6 : m ≤ 6 := by have h9 := bl_len S; rw [hbl, List.length_append] at h9; omega
      rw [b1] at hbl
      have hsb : ((s : Int) != 0) = true := bne_iff_ne.2 (by omega)
      have hsub : IntKind.u64.wrap ((s : Int) - 1) = ((s - 1 : Nat) : Int) := by
        rw [show (s : Int) - 1 = ((s - 1 : Nat) : Int) by omega]; exact wrap64_small (by omega)
      have hand := u64_and_nat s (s - 1) (by omega) (by omega)
      have K := Hid.mk (tz_any s wr hs h0 (TabIs.below HT.out hbw))
      obtain ⟨Z, hZ⟩ : ∃ Z, tz s = Z := ⟨_, rfl⟩
      obtain ⟨Q, hQ⟩ : ∃ Q, s &&& (s - 1) = Q := ⟨_, rfl⟩
      rw [hZ] at hbl K
      rw [hQ] at hbl hand b2
      have HBL := Hid.mk hbl
      have HM := Hid.mk hm
      have HO := Hid.mk hown
      have HB := Hid.mk hbw
      have z := hbw.size
      clear hbl hm hown hbw hZ hQ b1 h0
      go_wp2_with fail
      refine K.out.mono ?_
      rintro e w1 ⟨rfl, rfl⟩
      go_wp2_with (at_builtin; refine wpList_append_lies _ rfl (.tmp 6) (.tmp 9) 23 rfl w.heap.size 3 i0 (.int .i64 0) 1 8 Tryd.underlying23 hi hz0 hz1 hz2 rfl (by decide) _ _ _ rfl (HO.out.alloc _) ⟨w1.heap.size, 0, none⟩ 1 1 [.int .i64 (Z : Nat)] rfl rfl (news_at w1 _ _) (by intro u hu; simp at hu; subst hu; rfl) (by decide) (by unfold maxLen; omega) (by omega) (by simp; omega) (w1.heap.size + 1) (by simp) ?_)
      intro g3 cap3 w3 ho3 hg3 hat3 hlt3
      have HB3 : Hid (Below w.heap.size w w3) := (HB.out.alloc z _).grown hg3 (by simp; omega) (fun j hj => (HO.out.lt j hj).1)
      have HO3 : Hid (w3.ownsRow w.heap.size 3 1 (.slice (some ⟨g3, 0, none⟩) (m + 1) cap3) (m + 1) ((zs ++ [(Z : Int)]).map (.int .i64))) := by
        show World.ownsRow _ _ _ _ _ _ _
        rw [List.map_append]; exact ho3
      clear ho3 hg3 hat3 HO HB K
      go_wp2
      go_roundg Q
      case measure => omega
      case rel => exact ⟨Q, zs ++ [(Z : Int)], some ⟨g3, 0, none⟩, m + 1, cap3, rfl, by omega, rfl, rfl, by rw [HBL.out]; simp, by have := HM.out; simp; omega, HO3.out, HB3.out⟩

end Go.Proofs.YtkcfhlpdenjimaaDoor

/- Contracts of the laws' helpers that mark tables: markWeightedS, markTable, heldWeightedS, heldTable. -/
namespace Go.Proofs.YtkcfhlpdenjimaaDoor
open Go.RowKit

/-- The first k rows as the laws mark them, the others as they were. -/
def mixW (m : Int) (ts : List WRow) (k : Nat) : List WRow := (List.range ts.length).map fun i => if i < k then (marks (m + wtot ts i) (wat ts i).1.length, m + wtot ts i + (wat ts i).1.length) else wat ts i
theorem mixW_length (m : Int) (ts : List WRow) (k : Nat) : (mixW m ts k).length = ts.length := by simp [mixW]
theorem mixW_at (m : Int) (ts : List WRow) (k i : Nat) (h : i < ts.length) : wat (mixW m ts k) i = if i < k then (marks (m + wtot ts i) (wat ts i).1.length, m + wtot ts i + (wat ts i).1.length) else wat ts i := by
  simp [mixW, h]
theorem mixW_zero (m : Int) (ts : List WRow) : mixW m ts 0 = ts := by
  apply List.ext_getElem?
  intro i
  by_cases h : i < ts.length
  · simp [mixW, h]
  · simp [mixW, h]
theorem mixW_all (m : Int) (ts : List WRow) : mixW m ts ts.length = markW m ts := by
  unfold mixW markW
  exact List.map_congr_left fun i hi => if_pos (List.mem_range.1 hi)
theorem mixW_len (m : Int) (ts : List WRow) (k i : Nat) (h : i < ts.length) : (wat (mixW m ts k) i).1.length = (wat ts i).1.length := by
  rw [mixW_at m ts k i h]
  by_cases e : i < k
  · rw [if_pos e]; exact marks_length _ _
  · rw [if_neg e]

theorem OwnWk.marked {w w2 : World} {lo hi : Nat} {te ti : TypeId} {g n c k l : Nat} {ts : List WRow} {cells : List Value} {m : Int} {a' : Option Addr} {c' : Nat} (h : OwnW w lo hi te ti (some ⟨g, 0, none⟩) n c (mixW m ts k) cells) (hz : ts.length = n) (hk : k < n)
    (hl : (wat ts k).1.length = l) (hcell : cells[k * 2]? = some (.slice a' l c')) (hrow : w2.ownsRow lo ti 1 (.slice a' l c') l ((marks (m + wtot ts k) l).map (.int .i64))) (hg : w.grownBy w2 (Value.slice a' l c').ownBlock) :
    OwnW (w2.setCell ⟨g, k * 2 + 1, none⟩ (.int .i64 (m + wtot ts k + l))) lo hi te ti (some ⟨g, 0, none⟩) n c (mixW m ts (k + 1)) (cells.set (k * 2 + 1) (.int .i64 (m + wtot ts k + l))) := by
  have hbk : blkW cells k = (Value.slice a' l c').ownBlock := blkW_of hcell
  have hl2 := h.outer.1
  have hgk : ∀ b, (Value.slice a' l c').ownBlock = some b → g ≠ b := fun b hb e => by
    have := (h.rowLt k hk b (by rw [hbk]; exact hb)).2
    simp [Value.ownBlock, e] at this
  have ho2 : w2.ownsRow lo te 2 (.slice (some ⟨g, 0, none⟩) n c) n cells := h.outer.kept hg (.inr (fun e => by
    have h1 : (Value.slice a' l c').ownBlock = some g := by rw [← e]; rfl
    exact hgk g h1 rfl))
  have hset : ∀ i, (cells.set (k * 2 + 1) (.int .i64 (m + wtot ts k + l)))[i * 2]? = cells[i * 2]? := fun i => by rw [List.getElem?_set_ne (by omega)]
  have hbs : ∀ i, blkW (cells.set (k * 2 + 1) (.int .i64 (m + wtot ts k + l))) i = blkW cells i := fun i => by simp only [blkW, List.getD, hset i]
  have hgs : w2.grownBy (w2.setCell ⟨g, k * 2 + 1, none⟩ (.int .i64 (m + wtot ts k + l))) (some g) :=
    ⟨rfl, rfl, rfl, by simp [World.setCell], fun j _ hn => Below.heap_setCell _ _ _ j (fun e => hn (by rw [e]))⟩
  refine ⟨by rw [mixW_length]; exact hz, by have := h.top; have := hg.size; simp [World.setCell]; omega, (ho2.stored _ _).1, h.outerLt, fun i hi => ?_, fun i hi b hb => ?_, fun i j hi hj hij b hb => ?_⟩
  · by_cases e : i = k
    · subst e
      rw [mixW_at m ts (i + 1) i (by omega), if_pos (by omega)]
      refine ⟨a', c', ?_, ?_, ?_⟩
      · rw [hset]; simp only [marks_length, hl]; exact hcell
      · rw [List.getElem?_set_self (by omega), hl]
      · simp only [marks_length, hl]
        refine hrow.kept hgs ?_
        cases hv : (Value.slice a' l c').ownBlock with
        | none => exact .inl rfl
        | some b => exact .inr (fun e => hgk b hv (by simpa using e.symm))
    · obtain ⟨a1, c1, k1, k2, k3⟩ := h.row i hi
      have hm1 : wat (mixW m ts (k + 1)) i = wat (mixW m ts k) i := by
        rw [mixW_at m ts (k + 1) i (by omega), mixW_at m ts k i (by omega)]
        by_cases e1 : i < k
        · rw [if_pos e1, if_pos (by omega)]
        · rw [if_neg e1, if_neg (by omega)]
      rw [hm1]
      refine ⟨a1, c1, by rw [hset]; exact k1, by rw [List.getElem?_set_ne (by omega)]; exact k2, (k3.kept hg ?_).kept hgs ?_⟩
      · cases hv : (Value.slice a1 (wat (mixW m ts k) i).1.length c1).ownBlock with
        | none => exact .inl rfl
        | some b => exact .inr (fun e' => h.apart i k hi hk e b (by rw [blkW_of k1]; exact hv) (by rw [hbk]; exact e'.symm))
      · cases hv : (Value.slice a1 (wat (mixW m ts k) i).1.length c1).ownBlock with
        | none => exact .inl rfl
        | some b => exact .inr (fun e' => by have := (h.rowLt i hi b (by rw [blkW_of k1]; exact hv)).2; simp [Value.ownBlock] at e' this; omega)
  · rw [hbs] at hb; exact h.rowLt i hi b hb
  · rw [hbs] at hb ⊢; exact h.apart i j hi hj hij b hb

set_option maxHeartbeats 2000000 in
theorem markWeightedS_any (lo hi : Nat) (a : Option Addr) (n c : Nat) (ts : List WRow) (cells : List Value) (m : Int) (w : World) (hs : ∀ i, i < n → (wat ts i).1.length ≤ 1048576) (ht : wtot ts n ≤ 1048576) (h0 : 0 ≤ m) (h1 : m ≤ 268435456)
    (ho : OwnW w lo hi 74 3 a n c ts cells) :
    Calls Tryd.prog 51 #[.slice a n c, .int .i64 m] w fun e w' => e = .returned (.int .i64 (m + wtot ts n)) ∧ (∃ cells', OwnW w' lo hi 74 3 a n c (markW m ts) cells') ∧ Apart lo hi w w' := by
  have hz := ho.len
  have hn : n ≤ 1048576 := by have := wtot_len ts n (by omega); omega
  by_cases hn0 : n = 0
  · subst hn0
    obtain rfl := List.eq_nil_of_length_eq_zero hz
    go_enter Tryd.func51, Tryd.ntmps51
    go_wp2
    refine wp_loop_rounds 1 ?_
    rw [rounds_succ]
    go_wp2
    go_ret
    exact ⟨ret_int (by simp [wtot]), ⟨cells, ho⟩, Apart.refl _ _ _⟩
  · obtain ⟨g, hgv⟩ : ∃ g, a = some ⟨g, 0, none⟩ := by
      rcases ho.outer.2 with ⟨_, h⟩ | ⟨g, cap, cur, hv, _⟩
      · omega
      · simp only [Value.slice.injEq, true_and] at hv
        exact ⟨g, hv.1⟩
    subst hgv
    have ho0 : OwnW w lo hi 74 3 (some ⟨g, 0, none⟩) n c (mixW m ts 0) cells := by rw [mixW_zero]; exact ho
    clear ho
    go_enter Tryd.func51, Tryd.ntmps51
    go_wp2
    go_loopw [1, 5] (fun q i wr => ∃ (k : Nat) (cells : List Value), k ≤ n ∧ i = .int .i64 k ∧ q = .int .i64 (m + wtot ts k) ∧ OwnW wr lo hi 74 3 (some ⟨g, 0, none⟩) n c (mixW m ts k) cells ∧ Apart lo hi w wr) (fun _ i _ => n - (intOf i).toNat)
    case atStart => exact ⟨0, cells, Nat.zero_le _, rfl, by simp [wtot_zero], ho0, Apart.refl _ _ _⟩
    case round =>
      clear ho0 cells
      obtain ⟨k, cells, hk, rfl, rfl, ho, hap⟩ := hrel
      by_cases hlt : k < n
      · obtain ⟨a', c', k1, k2, k3⟩ := ho.row k hlt
        rw [mixW_len m ts k k (by omega)] at k1 k3
        have hsm := hs k hlt
        have hts := wtot_succ ts k (by omega)
        have htm := wtot_mono ts (k + 1) n (by omega)
        obtain ⟨l, hl⟩ : ∃ l, (wat ts k).1.length = l := ⟨_, rfl⟩
        rw [hl] at k1 k3 hsm hts
        obtain ⟨T, hT⟩ : ∃ T : Nat, wtot ts k = T := ⟨_, rfl⟩
        have hb1 : m + (T : Int) ≤ 1073741824 := by omega
        have hb0 : 0 ≤ m + (T : Int) := by omega
        have hout := ho.outer
        have hln := hout.1
        have hcx : wr.cell? ⟨g, k * 2, none⟩ = some (.slice a' l c') := (hout.cellAt _ (by omega)).trans k1
        have HO := Hid.mk ho
        have HK := Hid.mk k1
        have HL := Hid.mk hl
        have HT := Hid.mk hT
        have HTS := Hid.mk hts
        have HAP := Hid.mk hap
        obtain ⟨u', hu'⟩ : ∃ u, cells[k * 2 + 1]? = some u := ⟨_, List.getElem?_eq_getElem (by omega)⟩
        have HU := Hid.mk hu'
        rw [hT]
        have hki : (k : Int) < (n : Int) := by omega
        clear k1 k2 hl hT hts htm hap hu' ho hout
        go_wp2_with fail
        refine (markIntS_any _ _ _ _ _ _ _ hsm hb0 hb1 k3).mono ?_
        rintro e w2 ⟨rfl, hr2, hg2⟩
        have hmk := HO.out.marked (m := m) (ts := ts) (by have := HO.out.len; rwa [mixW_length] at this) hlt HL.out HK.out (by rw [HT.out]; exact hr2) hg2
        rw [HT.out] at hmk
        have hgb : ∀ b, (Value.slice a' l c').ownBlock = some b → g ≠ b := fun b hb e => by
          have := (HO.out.rowLt k hlt b (by rw [blkW_of HK.out]; exact hb)).2
          simp [Value.ownBlock, e] at this
        have ho2 := HO.out.outer.kept hg2 (.inr (fun e => by
          have h1 : (Value.slice a' l c').ownBlock = some g := by rw [← e]; rfl
          exact hgb g h1 rfl))
        have hco : w2.cell? ⟨g, k * 2 + 1, none⟩ = some u' := (ho2.cellAt _ (by omega)).trans HU.out
        have hfo : w2.frozen? ⟨g, k * 2 + 1, none⟩ = false := ho2.frozenAt _
        have hcx2 : w2.cell? ⟨g, k * 2, none⟩ = some (.slice a' l c') := (ho2.cellAt _ (by omega)).trans HK.out
        have HM := Hid.mk hmk
        have hB := HO.out.blocks
        have HA : Hid (Apart lo hi w (w2.setCell ⟨g, k * 2 + 1, none⟩ (.int .i64 (m + T + l)))) :=
          (HAP.out.trans (Apart.grown hg2 (fun b hb => hB.2 k hlt b (by rw [blkW_of HK.out]; exact hb)))).trans
            (Apart.grown (row := some g) ⟨rfl, rfl, rfl, by simp [World.setCell], fun j _ hn => Below.heap_setCell _ _ _ j (fun e => hn (by rw [e]))⟩ (fun b hb => by have := hB.1 g rfl; simp at hb; omega))
        clear hmk ho2 hgb hB hr2 hg2 k3 hcx HO HK HU
        go_wp2
        go_roundw
        case rel => exact ⟨k + 1, _, by omega, by go_num, by have := HTS.out; have := HT.out; go_num, HM.out, HA.out⟩
        case measure => simp [intOf]; omega
      · obtain rfl : k = n := by omega
        have hTm : wtot ts k ≤ 1048576 := ht
        have ho' : OwnW wr lo hi 74 3 (some ⟨g, 0, none⟩) k c (markW m ts) cells := by
          rw [← mixW_all, hz]; exact ho
        go_wp2
        go_ret
        exact ⟨rfl, ⟨cells, ho'⟩, hap⟩

set_option maxHeartbeats 2000000 in
theorem heldWeightedS_any (a : Option Addr) (n c : Nat) (ts : List WRow) (m : Int) (w : World) (hz : ts.length = n) (hs : ∀ i, i < n → (wat ts i).1.length ≤ 1048576) (ht : wtot ts n ≤ 1048576) (h0 : 0 ≤ m) (h1 : m ≤ 268435456) (ha : AtW w a (markW m ts)) :
    Calls Tryd.prog 52 #[.slice a n c, .int .i64 m] w fun e w' => e = .returned (.int .i64 (m + wtot ts n)) ∧ Below w.heap.size w w' := by
  have hn : n ≤ 1048576 := by have := wtot_len ts n (by omega); omega
  by_cases hn0 : n = 0
  · subst hn0
    obtain rfl := List.eq_nil_of_length_eq_zero hz
    go_enter Tryd.func52, Tryd.ntmps52
    go_wp2
    refine wp_loop_rounds 1 ?_
    rw [rounds_succ]
    go_wp2
    go_ret
    exact ⟨ret_int (by simp [wtot]), Below.refl _ _⟩
  · go_enter Tryd.func52, Tryd.ntmps52
    go_wp2
    go_loopw [1, 5] (fun q i wr => ∃ (k : Nat), k ≤ n ∧ i = .int .i64 k ∧ q = .int .i64 (m + wtot ts k) ∧ Below w.heap.size w wr) (fun _ i _ => n - (intOf i).toNat)
    case atStart => exact ⟨0, Nat.zero_le _, rfl, by simp [wtot_zero], Below.refl _ _⟩
    case round =>
      obtain ⟨k, hk, rfl, rfl, hbw⟩ := hrel
      by_cases hlt : k < n
      · obtain ⟨b, off, rfl, hc⟩ := (ha.below hbw).some (by rw [markW_length]; omega)
        obtain ⟨q, d, hcx, hwx, _, hat⟩ := hc k (by rw [markW_length]; omega)
        rw [markW_at m ts k (by omega)] at hcx hwx hat
        simp only [marks_length] at hcx
        have hsm := hs k hlt
        have hts := wtot_succ ts k (by omega)
        have htm := wtot_mono ts (k + 1) n (by omega)
        obtain ⟨l, hl⟩ : ∃ l, (wat ts k).1.length = l := ⟨_, rfl⟩
        simp only [hl] at hcx hwx hat hsm hts
        obtain ⟨T, hT⟩ : ∃ T : Nat, wtot ts k = T := ⟨_, rfl⟩
        rw [hT] at hwx hat ⊢
        have hb1 : m + (T : Int) ≤ 1073741824 := by omega
        have hb0 : 0 ≤ m + (T : Int) := by omega
        have HT := Hid.mk hT
        have HTS := Hid.mk hts
        have hki : (k : Int) < (n : Int) := by omega
        have hnn : ¬ m + (T : Int) + l < 0 := by omega
        clear hc hl hT hts htm ha
        go_wp2_with fail
        refine (heldIntS_any' _ _ _ _ _ hsm hb0 hb1 hat).mono ?_
        rintro e w2 ⟨rfl, hb2⟩
        have e1 := cell_later hb2 hwx
        have e2 := cell_later hb2 hcx
        have HB := Hid.mk (hbw.trans (hb2.mono hbw.size))
        clear hb2 hwx hcx hat hbw
        go_wp2
        go_roundw
        case rel => exact ⟨k + 1, by omega, by go_num, by have := HTS.out; have := HT.out; go_num, HB.out⟩
        case measure => simp [intOf]; omega
      · obtain rfl : k = n := by omega
        have hTm : wtot ts k ≤ 1048576 := ht
        go_wp2
        go_ret
        exact ⟨rfl, hbw⟩

theorem markTable_any (lo hi : Nat) (a : Option Addr) (n c : Nat) (ts : List WRow) (p : Int) (cells : List Value) (m : Int) (w : World) (hs : ∀ i, i < n → (wat ts i).1.length ≤ 1048576) (ht : wtot ts n ≤ 1048576) (h0 : 0 ≤ m) (h1 : m ≤ 268435456)
    (ho : OwnW w lo hi 74 3 a n c ts cells) :
    Calls Tryd.prog 24 #[.agg #[.int .i64 p, .slice a n c], .int .i64 m] w fun e w' => e = .returned (.int .i64 (m + wtot ts n)) ∧ (∃ cells', OwnW w' lo hi 74 3 a n c (markW m ts) cells') ∧ Apart lo hi w w' := by
  have HO := ho.alloc (.cells #[.int .i64 p, .slice a n c] 40)
  have hAp : Apart lo hi w (w.alloc (.cells #[.int .i64 p, .slice a n c] 40)) := Apart.grown (World.grownBy_alloc w _ none) (fun k hk => by cases hk)
  clear ho
  go_enter Tryd.func24, Tryd.ntmps24
  go_wp2_with fail
  refine (markWeightedS_any lo hi _ _ _ ts cells _ _ hs ht h0 h1 HO).mono ?_
  rintro e w1 ⟨rfl, ho1, hap⟩
  go_wp2
  go_ret
  exact ⟨rfl, ho1, hAp.trans hap⟩

theorem heldTable_any (a : Option Addr) (n c : Nat) (ts : List WRow) (p m : Int) (w : World) (hz : ts.length = n) (hs : ∀ i, i < n → (wat ts i).1.length ≤ 1048576) (ht : wtot ts n ≤ 1048576) (h0 : 0 ≤ m) (h1 : m ≤ 268435456) (ha : AtW w a (markW m ts)) :
    Calls Tryd.prog 25 #[.agg #[.int .i64 p, .slice a n c], .int .i64 m] w fun e w' => e = .returned (.int .i64 (m + wtot ts n)) ∧ Below w.heap.size w w' := by
  have HA := ha.alloc (.cells #[.int .i64 p, .slice a n c] 40)
  have h2 : ¬ m + (wtot ts n : Int) < 0 := by omega
  have B0 : Below w.heap.size w (w.alloc (.cells #[.int .i64 p, .slice a n c] 40)) := (Below.refl _ _).alloc (Nat.le_refl _) _
  clear ha
  go_enter Tryd.func25, Tryd.ntmps25
  go_wp2_with fail
  refine (heldWeightedS_any _ _ _ ts _ _ hz hs ht h0 h1 HA).mono ?_
  rintro e w1 ⟨rfl, hb1⟩
  go_wp2
  go_ret
  exact ⟨rfl, B0.trans (hb1.mono B0.size)⟩

end Go.Proofs.YtkcfhlpdenjimaaDoor
