/- Several texts of one proof, in build order: LstP, MapG, MapH. -/
import Derived.Test.YtmkhdocjabflkabM13
import Derived.Test.YtmkhdocjabflkabM11

/- Plain: lists of rows within bounds; sums over keys. -/
namespace Go.Proofs.Ytmkhdocjabflkab

theorem mul_in {x y B C : Int} (h1 : -B ≤ x) (h2 : x ≤ B) (h3 : -C ≤ y) (h4 : y ≤ C) : -(B * C) ≤ x * y ∧ x * y ≤ B * C := by
  have a := Int.mul_nonneg (show 0 ≤ B - x by omega) (show 0 ≤ C + y by omega)
  have b := Int.mul_nonneg (show 0 ≤ B + x by omega) (show 0 ≤ C - y by omega)
  have c := Int.mul_nonneg (show 0 ≤ B - x by omega) (show 0 ≤ C - y by omega)
  have d := Int.mul_nonneg (show 0 ≤ B + x by omega) (show 0 ≤ C + y by omega)
  simp only [Int.sub_mul, Int.add_mul, Int.mul_sub, Int.mul_add] at a b c d
  constructor <;> omega

/-- Rows that rise, without noughts, with so many cells, weights within a bound. -/
structure Lst (q N : Nat) (B : Int) (xs : List WRow) : Prop where
  len : xs.length ≤ N
  rises : Rises xs
  noZero : NoZero xs
  rows : ∀ t ∈ xs, good t.1 = true ∧ t.1.length = q
  within : ∀ t ∈ xs, -B ≤ t.2 ∧ t.2 ≤ B

section
variable {q N N' : Nat} {B B' : Int} {xs ys : List WRow}
theorem Lst.nil (q : Nat) : Lst q 0 0 [] := ⟨Nat.le_refl _, List.Pairwise.nil, fun t h => (by cases h), fun t h => (by cases h), fun t h => (by cases h)⟩
theorem Lst.mono (h : Lst q N B xs) (hN : N ≤ N') (hB : B ≤ B') : Lst q N' B' xs := ⟨Nat.le_trans h.len hN, h.rises, h.noZero, h.rows, fun t ht => by have := h.within t ht; omega⟩
theorem goodT_lst (h : goodT q xs = true) : Lst q 60 1000000 xs :=
  ⟨goodT_len60 h, goodT_rises h, goodT_noZero h, goodT_mem h, fun t ht => (goodT_six h t ht).2⟩
theorem Lst.take (h : Lst q N B xs) (k : Nat) : Lst q N B (xs.take k) :=
  ⟨by rw [List.length_take]; have := h.len; omega, h.rises.sublist (List.take_sublist _ _), fun t ht => h.noZero t (List.mem_of_mem_take ht), fun t ht => h.rows t (List.mem_of_mem_take ht), fun t ht => h.within t (List.mem_of_mem_take ht)⟩
theorem Lst.six (h : Lst q N B xs) (h6 : q ≤ 6) : ∀ t ∈ xs, t.1.length ≤ 6 := fun t ht => by have := (h.rows t ht).2; omega
theorem Lst.put (h : Lst q N B xs) (k : Lst q N' B' ys) (h0 : 0 ≤ B) (h0' : 0 ≤ B') : Lst q (N + N') (B + B') (putAll xs ys) where
  len := by have := putAll_len ys xs; have := h.len; have := k.len; omega
  rises := putAll_rises h.rises
  noZero := putAll_nozero h.noZero
  rows := fun t ht => by
    rcases putAll_rows ht with ⟨s, hs, e⟩ | ⟨s, hs, e⟩
    · rw [← e]; exact h.rows s hs
    · rw [← e]; exact k.rows s hs
  within := fun t ht => by
    have hw := wOf_mem (putAll_rises (l := ys) h.rises) ht
    rw [putAll_wOf t.1 h.rises, sumW_rises k.rises] at hw
    have b1 := wOf_bound (zs := t.1) h0 h.within
    have b2 := wOf_bound (zs := t.1) h0' k.within
    omega
theorem Lst.neg (h : Lst q N B xs) : Lst q N B (scaleW xs (-1)) := by
  have e : scaleW xs (-1) = xs.map fun t => (t.1, -1 * t.2) := by unfold scaleW; rw [if_neg (by decide)]
  rw [e]
  refine ⟨by rw [List.length_map]; exact h.len, ?_, fun t ht => ?_, fun t ht => ?_, fun t ht => ?_⟩
  · unfold Rises; rw [List.pairwise_map]; exact h.rises
  · obtain ⟨s, hs, rfl⟩ := List.mem_map.1 ht
    have := h.noZero s hs
    show -1 * s.2 ≠ 0
    omega
  · obtain ⟨s, hs, rfl⟩ := List.mem_map.1 ht
    exact h.rows s hs
  · obtain ⟨s, hs, rfl⟩ := List.mem_map.1 ht
    have := h.within s hs
    show -B ≤ -1 * s.2 ∧ -1 * s.2 ≤ B
    omega
theorem Lst.tells (h : Lst q N B xs) {f : List Int → Int} (hf : ∀ zs, good zs = true → zs.length = q → wOf xs zs = f (raised zs)) : Tells q f xs := ⟨h.rises, h.noZero, h.rows, hf⟩
end
theorem Tells.lst {q : Nat} {f : List Int → Int} {xs : List WRow} {B : Int} (h : Tells q f xs) (hB : ∀ t ∈ xs, -B ≤ t.2 ∧ t.2 ≤ B) : Lst q xs.length B xs := ⟨Nat.le_refl _, h.rises, h.noZero, h.rows, hB⟩

/-- A sum over keys hangs on those alone that count. -/
theorem sum_perm {h : List Int → Int} {ks ks' : List (List Int)} (p : ks.Perm ks') : (ks.map h).sum = (ks'.map h).sum := by
  induction p with
  | nil => rfl
  | cons x _ ih => simp only [List.map_cons, List.sum_cons, ih]
  | swap x y l => simp only [List.map_cons, List.sum_cons]; omega
  | trans _ _ ih1 ih2 => rw [ih1, ih2]
theorem sum_filter (h : List Int → Int) (ks : List (List Int)) : (ks.map h).sum = ((ks.filter fun a => decide (h a ≠ 0)).map h).sum := by
  induction ks with
  | nil => rfl
  | cons a ks ih =>
    by_cases e : h a = 0
    · rw [List.filter_cons_of_neg (by simp [e]), List.map_cons, List.sum_cons, ih, e]; omega
    · rw [List.filter_cons_of_pos (by simp [e]), List.map_cons, List.sum_cons, List.map_cons, List.sum_cons, ih]
theorem sum_support {h : List Int → Int} {ks ks' : List (List Int)} (n : ks.Nodup) (n' : ks'.Nodup) (hs : ∀ a, h a ≠ 0 → (a ∈ ks ↔ a ∈ ks')) : (ks.map h).sum = (ks'.map h).sum := by
  rw [sum_filter h ks, sum_filter h ks']
  refine sum_perm ((List.perm_ext_iff_of_nodup (n.filter _) (n'.filter _)).2 fun a => ?_)
  simp only [List.mem_filter, decide_eq_true_eq]
  constructor
  · rintro ⟨h1, h2⟩; exact ⟨(hs a h2).1 h1, h2⟩
  · rintro ⟨h1, h2⟩; exact ⟨(hs a h2).2 h1, h2⟩

/-- A sum over a map's keys is one over the rows that it tells. -/
theorem sum_tells {q : Nat} {f : List Int → Int} {xs : List WRow} {ks : List (List Int)} (h : Tells q f xs) (hk : Keys q ks) (hn : ks.Nodup) (hz : ∀ zs, good zs = true → zs.length = q → raised zs ∉ ks → f (raised zs) = 0) (G : List Int → Int) :
    (ks.map fun a => f a * G a).sum = (xs.map fun t => t.2 * G (raised t.1)).sum := by
  have e : (xs.map fun t => t.2 * G (raised t.1)) = (xs.map fun t => raised t.1).map fun a => f a * G a := by
    rw [List.map_map]
    refine List.map_congr_left fun t ht => ?_
    show t.2 * G (raised t.1) = f (raised t.1) * G (raised t.1)
    rw [← h.weight t.1 (h.rows t ht).1 (h.rows t ht).2, wOf_mem h.rises ht]
  rw [e]
  refine sum_support hn ?_ fun a ha => ?_
  · unfold List.Nodup
    rw [List.pairwise_map]
    refine h.rises.imp_of_mem fun {s t} hs ht hc e => ?_
    exact cmp_ne hc (raised_inj (h.rows s hs).1 (h.rows t ht).1 e)
  · constructor
    · intro hm
      obtain ⟨zs, h1, h2, rfl⟩ := hk a hm
      have hf : f (raised zs) ≠ 0 := fun e => ha (by rw [e, Int.zero_mul])
      rw [← h.weight zs h1 h2] at hf
      exact List.mem_map.2 ⟨_, mem_wOf hf, rfl⟩
    · intro hm
      obtain ⟨t, ht, rfl⟩ := List.mem_map.1 hm
      refine Classical.byContradiction fun hno => ?_
      have := hz t.1 (h.rows t ht).1 (h.rows t ht).2 hno
      exact ha (by rw [this, Int.zero_mul])

end Go.Proofs.Ytmkhdocjabflkab

/- Contracts of impl.plus, impl.negated, impl.countsOf, impl.onceAbove. -/
namespace Go.Proofs.Ytmkhdocjabflkab
open Go.RowKit Go.Maps

theorem grown_drew {w w' : World} {row : Option Nat} (h : w.drew.grownBy w' row) : w.grownBy w' row := grown_trans (Below.toGrown (Below.refl _ _).drew row) h
/-- A map to which one more key was added. -/
theorem mapIs_in {D : DataW Unit} {f g : List Int → Int} {ks S : List (List Int)} (hm : MapIs D (fun z => g z + if z ∈ ks then f z else 0) S) (hD : IsMap D) {x : List Int} (hx : Fits x) (hn : x ∉ ks) {cc : Int} (hcc : D.atKey (klit x) (.lit (.int .i64 0)) = .lit (.int .i64 cc)) :
    cc = g x ∧ MapIs (D.put (klit x) (.lit (.int .i64 (cc + f x)))) (fun z => g z + if z ∈ x :: ks then f z else 0) (x :: S) := by
  have h1 : cc = g x := by have := hm.at hx hcc; simpa [hn] using this
  refine ⟨h1, (hm.put hD hx _).congr (fun z => ?_) rfl⟩
  by_cases e : z = x
  · subst e; simp [h1]
  · simp [e]

/-- What two maps tell, added. -/
theorem tells_plus {q : Nat} {f f' : List Int → Int} {xs ys : List WRow} (h : Tells q f xs) (h' : Tells q f' ys) : Tells q (fun z => f z + f' z) (putAll xs ys) :=
  tells_put h.rises h.noZero h.rows h'.rows fun zs h1 h2 => by rw [sumW_rises h'.rises, h.weight zs h1 h2, h'.weight zs h1 h2]
theorem Tells.congr {q : Nat} {f f' : List Int → Int} {xs : List WRow} (h : Tells q f xs) (he : ∀ zs, good zs = true → zs.length = q → f (raised zs) = f' (raised zs)) : Tells q f' xs :=
  ⟨h.rises, h.noZero, h.rows, fun zs h1 h2 => by rw [h.weight zs h1 h2, he zs h1 h2]⟩
theorem MapIs.agree {D : DataW Unit} {f f' : List Int → Int} {S S' : List (List Int)} (h : MapIs D f S) (hf : ∀ x, Fits x → f x = f' x) (hS : ∀ x, Fits x → (x ∈ S ↔ x ∈ S')) : MapIs D f' S' := fun a ha => by
  obtain ⟨h1, h2⟩ := h a ha
  rw [h1, h2, hf a ha]
  exact ⟨rfl, by simp [hS a ha]⟩

theorem onceAbove_any (x : Int) (w : World) : Calls Try.prog 43 #[.int .i64 x] w fun e w' => e = .returned (.int .i64 (onceF x)) ∧ w' = w := by
  by_cases h : 0 < x
  · go_enter Try.func43, Try.ntmps43
    go_wp2
    go_ret
    exact ⟨ret_int (by simp [onceF, h]), rfl⟩
  · go_enter Try.func43, Try.ntmps43
    go_wp2
    go_ret
    exact ⟨ret_int (by simp [onceF, h]), rfl⟩

theorem countsOf_any (a : Option Addr) (n c q : Nat) (ts : List WRow) (p : Int) (w : World) (hz : ts.length = n) (hg : goodT q ts = true) (ha : AtW w a ts) :
    Calls Try.prog 25 #[.agg #[.int .i64 p, .slice a n c]] w fun e w' => ∃ b, e = .returned (.map (some b)) ∧ w.heap.size ≤ b ∧ Cnt w' b q 60 ts ∧ Below w.heap.size w w' := by
  have hl := goodT_len60 hg
  have B0 : Below w.heap.size w (w.alloc (.cells #[.int .i64 p, .slice a n c] 28)) := (Below.refl _ _).alloc (Nat.le_refl _) _
  have HA := ha.below B0
  go_enter Try.func25, Try.ntmps25
  go_wp2_with fail
  refine (sumsOf_any _ _ _ ts _ _ hz (by omega) (by omega) (by omega) (fun k hk => goodT_cells hg k (by omega)) HA).mono ?_
  rintro e w1 ⟨b, D, rfl, hb, ho, hm, hb1⟩
  go_wp2
  go_ret
  refine ⟨b, rfl, by simp at hb; omega, ⟨n, D, _, _, ho, hm, keys_list (goodL_of_goodT hg) n, ?_, by omega⟩, B0.trans (hb1.mono B0.size)⟩
  exact (goodT_lst hg).tells fun zs h1 h2 => by rw [sumAt_sumW hz 1 (fun t ht => (goodT_mem hg t ht).1) h1, sumW_rises (goodT_rises hg)]; omega

end Go.Proofs.Ytmkhdocjabflkab

/- Contracts of impl.negated and impl.distinctDelta. -/
namespace Go.Proofs.Ytmkhdocjabflkab
open Go.RowKit Go.Maps

theorem look_cnt {w : World} {b cnt : Nat} {D : DataW Unit} {f : List Int → Int} {S : List (List Int)} (ho : w.ownsMap Try.prog 56 (plainElem Try.prog 3) b cnt D) (hm : MapIs D f S) (x0 x1 x2 x3 x4 x5 : Int) (hf : Fits [x0, x1, x2, x3, x4, x5]) :
    (Instr.lookup 53 (.map (some b)) (.agg #[.int .i64 x0, .int .i64 x1, .int .i64 x2, .int .i64 x3, .int .i64 x4, .int .i64 x5]) false).run Try.prog w = .ok (.int .i64 (f [x0, x1, x2, x3, x4, x5])) w := by
  obtain ⟨c, h1, h2, _⟩ := ho.lookup_int Try.keyedA Try.underlying53 Try.underlying3 (Try.zeroInt _) (keyOf_arr _ hf)
  rw [← hm.at hf h2]
  exact h1
/-- A map to which one more key is laid. -/
theorem mapIs_set {D : DataW Unit} {h : List Int → Int} {ks : List (List Int)} (hm : MapIs D (fun z => if z ∈ ks then h z else 0) ks) (hD : IsMap D) {x : List Int} (hx : Fits x) {v : Int} (hv : v = h x) :
    MapIs (D.put (klit x) (.lit (.int .i64 v))) (fun z => if z ∈ x :: ks then h z else 0) (x :: ks) :=
  (hm.put hD hx v).congr (fun z => by
    by_cases e : z = x
    · subst e; simp [hv]
    · simp [e]) rfl
theorem wOf_neg (xs : List WRow) (zs : List Int) : wOf (xs.map fun t => (t.1, -1 * t.2)) zs = - wOf xs zs := by
  induction xs with
  | nil => rfl
  | cons t xs ih =>
    rw [List.map_cons, wOf_cons, wOf_cons]
    by_cases e : t.1 = zs
    · simp only [if_pos e]; omega
    · simp only [if_neg e]; exact ih
theorem tells_neg {q : Nat} {f : List Int → Int} {xs : List WRow} (h : Tells q f xs) : Tells q (fun z => - f z) (scaleW xs (-1)) := by
  have e : scaleW xs (-1) = xs.map fun t => (t.1, -1 * t.2) := by unfold scaleW; rw [if_neg (by decide)]
  have hw := wOf_neg xs
  rw [e]
  refine ⟨?_, fun t ht => ?_, fun t ht => ?_, fun zs h1 h2 => by rw [hw, h.weight zs h1 h2]⟩
  · unfold Rises; rw [List.pairwise_map]; exact h.rises
  · obtain ⟨s, hs, rfl⟩ := List.mem_map.1 ht
    have := h.noZero s hs
    show -1 * s.2 ≠ 0
    omega
  · obtain ⟨s, hs, rfl⟩ := List.mem_map.1 ht
    exact h.rows s hs

set_option maxRecDepth 100000 in
set_option maxHeartbeats 4000000 in
theorem distinctDelta_any (b b' q M M' : Nat) (xs ys : List WRow) (B B' : Int) (w : World) (hx : Cnt w b q M xs) (hy : Cnt w b' q M' ys) (hM : M' ≤ 1000000) (hB0 : 0 ≤ B) (hB0' : 0 ≤ B') (hBB : B + B' ≤ 4000000000000000000) (bx : ∀ t ∈ xs, -B ≤ t.2 ∧ t.2 ≤ B) (cx : ∀ t ∈ ys, -B' ≤ t.2 ∧ t.2 ≤ B') :
    Calls Try.prog 24 #[.map (some b), .map (some b')] w fun e w' => ∃ b3, e = .returned (.map (some b3)) ∧ w.heap.size ≤ b3 ∧ Cnt w' b3 q M' (ddW xs ys) ∧ Below w.heap.size w w' := by
  have lb := hx.lt
  have lb' := hy.lt
  obtain ⟨cnt, D, f, S, hown, hm, hS, hT, hcM⟩ := hx
  obtain ⟨cnt', D', f', S', hown', hm', hS', hT', hcM'⟩ := hy
  have hsz := hown'.size_le
  have hmm := @run_makeMap Try.prog
  go_enter Try.func24, Try.ntmps24
  go_wp2_with (first | (at_range; refine wpList_range_own _ rfl _ 53 rfl 56 3 Try.keyedA Try.underlying53 _ b' cnt' D' rfl (hown'.alloc _) ?_; intro w0 hrg0 hg0 hs0) | go_in)
  go_frame
  have B0 : Below w.heap.size w w0 := ((Below.refl _ _).alloc (Nat.le_refl _) _).grown hg0 (by simp) (by simp)
  have ho0 : w0.ownsMap Try.prog 56 (plainElem Try.prog 3) w.heap.size 0 (.map [] : DataW Unit) := (World.ownsMap_made _ _ _ _).kept hg0 (by simp)
  simp only [World.size_alloc] at hrg0 hs0 ⊢
  go_loopw [7] (fun _ wr => ∃ (left : Lit → Bool) (c0 : Nat) (ks : List (List Int)) (E : DataW Unit), wr.ranges Try.prog 56 (plainElem Try.prog 3) b' (w.heap.size + 1) cnt' D' left c0 ∧ Ran D' left ks ∧ ks.length + c0 ≤ cnt' ∧ wr.ownsMap Try.prog 56 (plainElem Try.prog 3) w.heap.size ks.length E ∧ MapIs E (fun z => if z ∈ ks then onceF (f z + f' z) - onceF (f z) else 0) ks ∧ Below w.heap.size w wr) (fun _ wr => wr.rangeLeft b' (w.heap.size + 1))
  case atStart => exact ⟨_, _, [], _, hrg0, Ran.start D', by simpa using hsz, ho0, MapIs.empty.congr (fun _ => by simp) rfl, B0⟩
  case round =>
    clear hrg0 hg0 hs0 B0 ho0 w0
    obtain ⟨left, c0, ks, E, hrg, hR, hlen, ho, hme, hbw⟩ := hrel
    go_wp2_with (first | (at_next; refine wpList_next_ranges _ rfl _ rfl 56 Try.keyedA (plainElem Try.prog 3) Six.val (Value.int .i64) (fun _ _ h => six_key h) (fun v y hv => by obtain ⟨c, rfl, _⟩ := plainElem_int_inv Try.underlying3 hv; exact ⟨c, rfl⟩) b' (w.heap.size + 1) cnt' D' left c0 rfl hrg ?_ ?_) | go_in)
    · intro h00 hl0
      have hall : ∀ x, Fits x → (x ∈ ks ↔ x ∈ S') := fun x hx => hR.all hm' hl0 hx
      have hK1 : Keys q ks := hS'.of_sub fun x hx => (hall x (hR.fits x hx)).1 hx
      have HM := Hid.mk hme
      have HTT := Hid.mk (tells_dd (ks := ks) hT hT' fun zs h1 _ h3 => map_zero hm' (fits_raised h1) (fun h => h3 ((hall _ (fits_raised h1)).2 h)))
      have HO := Hid.mk ho
      have HB := Hid.mk hbw
      clear hrg hme ho hbw hl0 hR
      go_wp2
      go_ret
      exact ⟨w.heap.size, rfl, Nat.le_refl _, ⟨_, E, _, _, HO.out, HM.out, hK1, HTT.out, by omega⟩, HB.out⟩
    · intro x0 x1 x2 x3 x4 x5 c kl yd yp w1 cnt1 hkey hlk hv hat hrg1 hlt hg1 hs1 hen
      obtain ⟨zs, hfz, hvz, rfl⟩ := keyOf_arr_inv hkey
      obtain rfl : zs = [x0, x1, x2, x3, x4, x5] := (arrV_inj (by rw [← hvz]; rfl)).symm
      obtain ⟨c', hc', hy', hwc⟩ := plainElem_int_inv Try.underlying3 hv
      obtain rfl : c' = c := by simpa using hc'.symm
      have hyd : yd = .lit (.int .i64 c') := by simpa using congrArg Prod.fst hy'
      have hfx : c' = f' [x0, x1, x2, x3, x4, x5] := hm'.at hfz (by rw [hat, hyd])
      have hhas : Maps.has D' (klit [x0, x1, x2, x3, x4, x5]) = true := has_true_of_atKey hat
      obtain ⟨hst, hnot⟩ := hR.step hfz hlk hhas
      have hin : [x0, x1, x2, x3, x4, x5] ∈ S' := of_decide_eq_true (((hm' _ hfz).2).symm.trans hhas)
      have hlf := hrg.left_eq
      simp only [Six.val] at hen
      clear hat hv hlk hvz hc' hy' hyd hhas hwc hkey
      have zr : w.heap.size + 1 < w1.heap.size := by rw [hs1]; exact hrg.lt
      have hbw1 : Below w.heap.size w w1 := hbw.grown hg1 hbw.size (fun j hj => by cases hj; omega)
      clear hs1
      have ho1 : w1.ownsMap Try.prog 56 (plainElem Try.prog 3) w.heap.size ks.length E := ho.kept hg1 (by simp <;> omega)
      have HRG := Hid.mk hrg1
      have HLF := Hid.mk hlf
      have HST := Hid.mk hst
      have HFX := Hid.mk hfx
      obtain ⟨V, hV⟩ : ∃ V, V = w1.alloc (.cells #[.int .i64 x0, .int .i64 x1, .int .i64 x2, .int .i64 x3, .int .i64 x4, .int .i64 x5] 56) := ⟨_, rfl⟩
      have cV : V.cell? ⟨w1.heap.size, 0, none⟩ = some (.int .i64 x0) ∧ V.cell? ⟨w1.heap.size, 1, none⟩ = some (.int .i64 x1) ∧ V.cell? ⟨w1.heap.size, 2, none⟩ = some (.int .i64 x2) ∧ V.cell? ⟨w1.heap.size, 3, none⟩ = some (.int .i64 x3) ∧ V.cell? ⟨w1.heap.size, 4, none⟩ = some (.int .i64 x4) ∧ V.cell? ⟨w1.heap.size, 5, none⟩ = some (.int .i64 x5) := by rw [hV]; simp
      have hbV : Below w1.heap.size w1 V := by rw [hV]; exact (Below.refl _ _).alloc (Nat.le_refl _) _
      have hoV := ho1.kept (Below.toGrown hbV none) (by simp)
      have hkey : keyOf Try.prog 56 (.agg #[.int .i64 x0, .int .i64 x1, .int .i64 x2, .int .i64 x3, .int .i64 x4, .int .i64 x5]) = some (klit [x0, x1, x2, x3, x4, x5]) := keyOf_arr _ hfz
      have hbc := hT'.key hS' hB0' cx hin
      rw [← hfx] at hbc
      obtain ⟨y, hy⟩ : ∃ y, f [x0, x1, x2, x3, x4, x5] = y := ⟨_, rfl⟩
      have hby : -B ≤ y ∧ y ≤ B := by
        obtain ⟨zs, e1, e2, e3⟩ := hS' _ hin
        rw [← hy, e3]; exact hT.bound hB0 bx e1 e2
      have hadd : IntKind.i64.wrap (y + c') = y + c' := IntWalk.i64_in _ (by omega)
      have o1 : 0 ≤ onceF (y + c') ∧ onceF (y + c') ≤ 1 := by unfold onceF; split <;> omega
      have o2 : 0 ≤ onceF y ∧ onceF y ≤ 1 := by unfold onceF; split <;> omega
      have hsub : IntKind.i64.wrap (onceF (y + c') - onceF y) = onceF (y + c') - onceF y := IntWalk.i64_in _ (by omega)
      have hoD := hoV.drew
      obtain ⟨W2, hup, hoW2, hgW2⟩ := hoD.update Try.keyedA Try.underlying53 (by unfold maxLen; omega) hkey (plainElem_int Try.underlying3 (show (Lit.int .i64 (onceF (y + c') - onceF y)).wf = true from wf_i64 (by omega) (by omega)))
      have HMP := Hid.mk (mapIs_set (h := fun z => onceF (f z + f' z) - onceF (f z)) hme hoD.isMap hfz (v := onceF (y + c') - onceF y) (by rw [hfx, ← hy]))
      have HO2 := Hid.mk hoW2
      have hgV : w1.grownBy W2 (some w.heap.size) := grown_trans (Below.toGrown hbV _) (grown_drew hgW2)
      have BV := hbw1.trans (hbV.mono hbw1.size)
      have B2 := hbw1.grown hgV hbw1.size (fun j hj => by cases hj; exact Nat.le_refl _)
      have lkV : (Instr.lookup 53 (.map (some b)) (.agg #[.int .i64 x0, .int .i64 x1, .int .i64 x2, .int .i64 x3, .int .i64 x4, .int .i64 x5]) false).run Try.prog V = .ok (.int .i64 y) V := by rw [← hy]; exact look_cnt (hown.kept (Below.toGrown BV none) (by simp)) hm _ _ _ _ _ _ hfz
      have lkD : (Instr.lookup 53 (.map (some b)) (.agg #[.int .i64 x0, .int .i64 x1, .int .i64 x2, .int .i64 x3, .int .i64 x4, .int .i64 x5]) false).run Try.prog V.drew = .ok (.int .i64 y) V.drew := by rw [← hy]; exact look_cnt (hown.kept (Below.toGrown BV.drew none) (by simp)) hm _ _ _ _ _ _ hfz
      have lk2 : (Instr.lookup 53 (.map (some b)) (.agg #[.int .i64 x0, .int .i64 x1, .int .i64 x2, .int .i64 x3, .int .i64 x4, .int .i64 x5]) false).run Try.prog W2 = .ok (.int .i64 y) W2 := by rw [← hy]; exact look_cnt (hown.kept (Below.toGrown B2 none) (by simp)) hm _ _ _ _ _ _ hfz
      have cD := six_later (Below.refl V.heap.size V).drew cV
      have c2 := six_grown hgW2 (by simp <;> omega) cD
      have HR2 := Hid.mk (HRG.out.kept hgV (by simp <;> omega) (by simp <;> omega))
      have HB2 := Hid.mk B2
      clear hbc hby hy o1 o2 hoV hoD ho ho1 hme hrg hrg1 hst hlf hfx hbw hbw1 hbV BV B2 hg1 hgV hoW2 hgW2 hR HRG
      go_wp2_with fail
      rw [← hV]
      clear hV hen
      refine wp_region_held_drew (S := fun w' => w'.cell? ⟨w1.heap.size, 0, none⟩ = some (.int .i64 x0) ∧ w'.cell? ⟨w1.heap.size, 1, none⟩ = some (.int .i64 x1) ∧ w'.cell? ⟨w1.heap.size, 2, none⟩ = some (.int .i64 x2) ∧ w'.cell? ⟨w1.heap.size, 3, none⟩ = some (.int .i64 x3) ∧ w'.cell? ⟨w1.heap.size, 4, none⟩ = some (.int .i64 x4) ∧ w'.cell? ⟨w1.heap.size, 5, none⟩ = some (.int .i64 x5) ∧ (Instr.lookup 53 (.map (some b)) (.agg #[.int .i64 x0, .int .i64 x1, .int .i64 x2, .int .i64 x3, .int .i64 x4, .int .i64 x5]) false).run Try.prog w' = .ok (.int .i64 y) w') (by kernel_rfl) ?_ (fun hHeld => ?_)
      · (try dsimp only)
        exact ⟨cV.1, cV.2.1, cV.2.2.1, cV.2.2.2.1, cV.2.2.2.2.1, cV.2.2.2.2.2, lkD⟩
      refine wpAnyH_take (i := 0) (oi := ?_) (v := ?_) ?_ (by kernel_rfl) (by kernel_rfl) (by kernel_rfl) ?_ (Or.inl ⟨?_, ?_⟩) (by assumption) ?_
      rotate_left 2
      · (simp only [List.getElem?_toArray, List.getElem?_cons_zero]; rfl)
      · exact fun _ _ _ h => h
      · rfl
      · (intro wS hSw; (try dsimp only at hSw); go_simp; (try with_reducible rfl))
      (try simp only [Act.put, List.setIfInBounds_toArray, List.set_cons_zero, List.set_cons_succ])
      refine wpAnyH_take (i := 1) (oi := ?_) (v := ?_) ?_ (by kernel_rfl) (by kernel_rfl) (by kernel_rfl) ?_ (Or.inl ⟨?_, ?_⟩) (by assumption) ?_
      rotate_left 2
      · (simp only [List.getElem?_toArray, List.getElem?_cons_zero, List.getElem?_cons_succ]; rfl)
      · exact fun _ _ _ h => h
      · rfl
      · (intro wS hSw; (try dsimp only at hSw); go_simp; (try with_reducible rfl))
      (try simp only [Act.put, List.setIfInBounds_toArray, List.set_cons_zero, List.set_cons_succ])
      refine wpAnyH_take (i := 2) (oi := ?_) (v := ?_) ?_ (by kernel_rfl) (by kernel_rfl) (by kernel_rfl) ?_ (Or.inl ⟨?_, ?_⟩) (by assumption) ?_
      rotate_left 2
      · (simp only [List.getElem?_toArray, List.getElem?_cons_zero, List.getElem?_cons_succ]; rfl)
      · exact fun _ _ _ h => h
      · rfl
      · (intro wS hSw; (try dsimp only at hSw); go_simp; (try with_reducible rfl))
      (try simp only [Act.put, List.setIfInBounds_toArray, List.set_cons_zero, List.set_cons_succ])
      refine wpAnyH_take (i := 3) (oi := ?_) (v := ?_) ?_ (by kernel_rfl) (by kernel_rfl) (by kernel_rfl) ?_ (Or.inl ⟨?_, ?_⟩) (by assumption) ?_
      rotate_left 2
      · (simp only [List.getElem?_toArray, List.getElem?_cons_zero, List.getElem?_cons_succ]; rfl)
      · exact fun _ _ _ h => h
      · rfl
      · (intro wS hSw; (try dsimp only at hSw); go_simp; (try with_reducible rfl))
      (try simp only [Act.put, List.setIfInBounds_toArray, List.set_cons_zero, List.set_cons_succ])
      refine wpAnyH_take (i := 4) (oi := ?_) (v := ?_) ?_ (by kernel_rfl) (by kernel_rfl) (by kernel_rfl) ?_ (Or.inl ⟨?_, ?_⟩) (by assumption) ?_
      rotate_left 2
      · (simp only [List.getElem?_toArray, List.getElem?_cons_zero, List.getElem?_cons_succ]; rfl)
      · exact fun _ _ _ h => h
      · rfl
      · (intro wS hSw; (try dsimp only at hSw); go_simp; (try with_reducible rfl))
      (try simp only [Act.put, List.setIfInBounds_toArray, List.set_cons_zero, List.set_cons_succ])
      refine wpAnyH_take (i := 5) (oi := ?_) (v := ?_) ?_ (by kernel_rfl) (by kernel_rfl) (by kernel_rfl) ?_ (Or.inl ⟨?_, ?_⟩) (by assumption) ?_
      rotate_left 2
      · (simp only [List.getElem?_toArray, List.getElem?_cons_zero, List.getElem?_cons_succ]; rfl)
      · exact fun _ _ _ h => h
      · rfl
      · (intro wS hSw; (try dsimp only at hSw); go_simp; (try with_reducible rfl))
      (try simp only [Act.put, List.setIfInBounds_toArray, List.set_cons_zero, List.set_cons_succ])
      refine wpAnyH_take (i := 6) (oi := ?_) (v := ?_) ?_ (by kernel_rfl) (by kernel_rfl) (by kernel_rfl) ?_ (Or.inl ⟨?_, ?_⟩) (by assumption) ?_
      rotate_left 2
      · (simp only [List.getElem?_toArray, List.getElem?_cons_zero, List.getElem?_cons_succ]; rfl)
      · exact fun _ _ _ h => h
      · rfl
      · (intro wS hSw; (try dsimp only at hSw); go_simp; (try with_reducible rfl))
      (try simp only [Act.put, List.setIfInBounds_toArray, List.set_cons_zero, List.set_cons_succ])
      refine wpAnyH_take (i := 8) (oi := ?_) (v := ?_) ?_ (by kernel_rfl) (by kernel_rfl) (by kernel_rfl) ?_ (Or.inl ⟨?_, ?_⟩) (by assumption) ?_
      rotate_left 2
      · (simp only [List.getElem?_toArray, List.getElem?_cons_zero, List.getElem?_cons_succ]; rfl)
      · exact fun _ _ _ h => h
      · rfl
      · (intro wS hSw; (try dsimp only at hSw); go_simp; (try with_reducible rfl))
      (try simp only [Act.put, List.setIfInBounds_toArray, List.set_cons_zero, List.set_cons_succ])
      refine wpAnyH_take (i := 9) (oi := ?_) (v := ?_) ?_ (by kernel_rfl) (by kernel_rfl) (by kernel_rfl) ?_ (Or.inl ⟨?_, ?_⟩) (by assumption) ?_
      rotate_left 2
      · (simp only [List.getElem?_toArray, List.getElem?_cons_zero, List.getElem?_cons_succ]; rfl)
      · exact fun _ _ _ h => h
      · rfl
      · (intro wS hSw; (try dsimp only at hSw); go_simp; (try with_reducible rfl))
      (try simp only [Act.put, List.setIfInBounds_toArray, List.set_cons_zero, List.set_cons_succ])
      refine wpAnyH_take (i := 10) (oi := ?_) (v := ?_) ?_ (by kernel_rfl) (by kernel_rfl) (by kernel_rfl) ?_ (Or.inl ⟨?_, ?_⟩) (by assumption) ?_
      rotate_left 2
      · (simp only [List.getElem?_toArray, List.getElem?_cons_zero, List.getElem?_cons_succ]; rfl)
      · exact fun _ _ _ h => h
      · rfl
      · (intro wS hSw; (try dsimp only at hSw); go_simp; (try with_reducible rfl))
      (try simp only [Act.put, List.setIfInBounds_toArray, List.set_cons_zero, List.set_cons_succ])
      refine wpAnyH_ready (rs := [7]) (by kernel_rfl) (by simp) ?_
      refine AllReadyH.cons (o := ?_) ?_ (fun K hK => ?_) AllReadyH.nil
      rotate_left
      · (simp only [List.getElem?_toArray, List.getElem?_cons_zero, List.getElem?_cons_succ]; rfl)
      go_simp
      go_at_call 43; refine (onceAbove_any _ _).mono ?_; rintro e wq ⟨rfl, rfl⟩
      (try go_wp2_with fail)
      refine hK.out _ _ ?_ (fun hHeld' => ?_)
      · (try dsimp only)
        exact ⟨cD.1, cD.2.1, cD.2.2.1, cD.2.2.2.1, cD.2.2.2.2.1, cD.2.2.2.2.2, lkD⟩
      clear hK K hHeld
      have hHeld := hHeld'
      clear hHeld'
      (try simp only [Act.put, List.setIfInBounds_toArray, List.set_cons_zero, List.set_cons_succ])
      refine wpAnyH_ready (rs := [11]) (by kernel_rfl) (by simp) ?_
      refine AllReadyH.cons (o := ?_) ?_ (fun K hK => ?_) AllReadyH.nil
      rotate_left
      · (simp only [List.getElem?_toArray, List.getElem?_cons_zero, List.getElem?_cons_succ]; rfl)
      go_simp
      go_at_call 43; refine (onceAbove_any _ _).mono ?_; rintro e wq ⟨rfl, rfl⟩
      (try go_wp2_with fail)
      refine hK.out _ _ ?_ (fun hHeld' => ?_)
      · (try dsimp only)
        exact ⟨cD.1, cD.2.1, cD.2.2.1, cD.2.2.2.1, cD.2.2.2.2.1, cD.2.2.2.2.2, lkD⟩
      clear hK K hHeld
      have hHeld := hHeld'
      clear hHeld'
      (try simp only [Act.put, List.setIfInBounds_toArray, List.set_cons_zero, List.set_cons_succ])
      refine wpAnyH_take (i := 12) (oi := ?_) (v := ?_) ?_ (by kernel_rfl) (by kernel_rfl) (by kernel_rfl) ?_ (Or.inl ⟨?_, ?_⟩) (by assumption) ?_
      rotate_left 2
      · (simp only [List.getElem?_toArray, List.getElem?_cons_zero, List.getElem?_cons_succ]; rfl)
      · exact fun _ _ _ h => h
      · rfl
      · (intro wS hSw; (try dsimp only at hSw); go_simp; (try with_reducible rfl))
      (try simp only [Act.put, List.setIfInBounds_toArray, List.set_cons_zero, List.set_cons_succ])
      refine wpAnyH_ready (rs := [13]) (by kernel_rfl) (by simp) ?_
      refine AllReadyH.cons (o := ?_) ?_ (fun K hK => ?_) AllReadyH.nil
      rotate_left
      · (simp only [List.getElem?_toArray, List.getElem?_cons_zero, List.getElem?_cons_succ]; rfl)
      go_simp
      skip
      (try go_wp2_with fail)
      refine hK.out _ _ ?_ (fun hHeld' => ?_)
      · (try dsimp only)
        exact ⟨c2.1, c2.2.1, c2.2.2.1, c2.2.2.2.1, c2.2.2.2.2.1, c2.2.2.2.2.2, lk2⟩
      clear hK K hHeld
      have hHeld := hHeld'
      clear hHeld'
      (try simp only [Act.put, List.setIfInBounds_toArray, List.set_cons_zero, List.set_cons_succ])
      refine wpAnyH_done (by kernel_rfl) ?_ _
      clear c2 cD cV hkey hup lkD lk2 lkV hHeld
      go_wp2
      go_roundw
      case rel => exact ⟨_, cnt1, [x0, x1, x2, x3, x4, x5] :: ks, _, HR2.out, HST.out, by simp; omega, by simpa using HO2.out, HMP.out, HB2.out⟩
      case measure => rw [HR2.out.left_eq, HLF.out]; exact hlt

end Go.Proofs.Ytmkhdocjabflkab
