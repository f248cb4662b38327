/- Several texts of one proof, in build order: StepV, CkA, RepP. -/
import Derived.Test.YthiabjkjpjmahaaGreatM6
import Derived.Test.YthiabjkjpjmahaaGreatM17
import Derived.Test.YthiabjkjpjmahaaGreatM1

/- An append of whatever cells, at a step of a region that draws. -/
namespace Go.Proofs.YthiabjkjpjmahaaGreat
open Go.RowKit

theorem step_append_vals {P : Program} {w : World} {ops : Array Oper} {o : Oper} {a : Act} {K : Act → World → Prop} {Q : Exit → Act → World → Prop} {E : Prop} (hgd : o.guard = none) (s x : Operand) (t : TypeId)
    (ho : o.op = .call { callee := .builtin .append, args := #[s, x], argTypes := #[t, t] })
    (base : Nat) (e : TypeId) (i : TypeInfo) (z : Value) (size bytes : Nat) (ht : P.underlying t = some (.slice e)) (hi : P.info? e = some i) (hz : i.zero = some z)
    (hsize : i.size = size) (hby : i.bytes = bytes) (hzs : z.cells.size = size) (hsz : 0 < size)
    (v : Value) (n : Nat) (xs : List Value) (hs : a.eval s = v) (hown : w.ownsRow base e size v n xs)
    (ao : Option Addr) (m c : Nat) (news : List Value) (hx : a.eval x = .slice ao m c) (hl : news.length = m * size) (hat : ∀ ad, ao = some ad → ∀ (j : Nat) (u : Value), news[j]? = some u → w.cell? (ad.add j) = some u) (h1 : ∀ u ∈ news, u.oneCell' = true) (hnil : ao = none → c = 0 ∧ m = 0)
    (h63 : n + m ≤ maxLen) (hbytes : (n + m) * bytes ≤ 140737488355328) (hbase : base ≤ w.heap.size)
    (h : ∀ r cap w', w'.ownsRow base e size (.slice r (n + m) cap) (n + m) (xs ++ news) → w.grownBy w' v.ownBlock → ((Value.slice r (n + m) cap).ownBlock = v.ownBlock ∨ (Value.slice r (n + m) cap).ownBlock = some w.heap.size) → K (a.put o.dst (.slice r (n + m) cap)) w') :
    if Region.wanted o (yielded ops a.tmps) = true then Oper.wp P o a w K Q else E := by
  have hw : Region.wanted o (yielded ops a.tmps) = true := by simp [Region.wanted, hgd]
  rw [if_pos hw]
  cases ao with
  | none =>
    obtain ⟨hc, hm⟩ := hnil rfl
    subst hc hm
    obtain rfl : news = [] := List.eq_nil_of_length_eq_zero (by simpa using hl)
    obtain ⟨r, cap, rfl⟩ := owns_slice hown
    have hrun := run_append_owned_none (P := P) (w := w) base t o.type e i size ht hi (.slice r n cap) n xs hown
    have := h r cap w (by simpa using hown) (World.grownBy.refl _ _) (.inl rfl)
    unfold Oper.wp
    simp [execOp, ho, resolve, invoke, builtin, hs, hx, hrun, Result.andThen]
    rw [Nat.add_zero] at this
    exact this
  | some ad =>
    obtain ⟨v', w', hr, h2, h3, _, h5⟩ := run_append_own_at (P := P) w base t o.type e i z size bytes ht hi hz hsize hby hzs hsz v n xs hown ad m c news hl (fun j u hj => hat ad rfl j u hj) h1 h63 hbytes hbase
    obtain ⟨r, cap, rfl⟩ := owns_slice h2
    unfold Oper.wp execOp
    simp only [ho, resolve, invoke, builtin, Sem.run_bind, Sem.run_pure, Result.andThen_ok, List.map_toArray, List.map_cons, List.map_nil, hs, hx, hr]
    exact h r cap w' h2 h3 h5

end Go.Proofs.YthiabjkjpjmahaaGreat

/- Contracts of the parts' asPart: a part told again, in new memory. -/
namespace Go.Proofs.YthiabjkjpjmahaaGreat
open Go.RowKit

/-- What asPart hands back: a part that the call owns. -/
def PartRet (e : Ending) (w' : World) (lo : Nat) (x : PartD) : Prop :=
  ∃ ta tc ca cc pa pc, e = .returned (.agg (cellsP x.K x.A x.B ta x.ts.length tc ca x.cs.length cc pa x.ps.length pc).toArray) ∧ RPart.Own w' (From lo w'.heap.size) (cellsP x.K x.A x.B ta x.ts.length tc ca x.cs.length cc pa x.ps.length pc) x

theorem none_tests (w : World) (F : Nat → Prop) : RTests.Own w F [.slice none 0 0] [] := RTests.own_iff.2 ⟨rfl, by omega, World.ownsRow_nil _ _ _ _, fun b hb => by cases hb⟩
theorem none_ints (w : World) (F : Nat → Prop) : RInts.Own w F [.slice none 0 0] [] := RInts.own_iff.2 ⟨rfl, by omega, World.ownsRow_nil _ _ _ _, fun b hb => by cases hb⟩
theorem none_pairs (w : World) (F : Nat → Prop) : RPairs.Own w F [.slice none 0 0] [] := ⟨none, 0, 0, [], fun _ _ => False, rfl, rfl, by omega, World.ownsRow_nil _ _ _ _, fun b hb => (by cases hb), fun i x h => by omega, fun i b h => by omega, fun i j b h => by omega⟩
def noF : Nat → Prop := fun _ => False
theorem RPart.own_bare (w : World) (F : Nat → Prop) (k a b : Int) : RPart.Own w F (cellsP k a b none 0 0 none 0 0 none 0 0) (k, a, b, [], [], []) :=
  RPart.own_mk (F1 := noF) (F2 := noF) (F3 := noF) (none_tests w _) (none_ints w _) (none_pairs w _) (fun _ h => h.elim) (fun _ h => h.elim) (fun _ h => h.elim) (fun _ h => h.elim) (fun _ h => h.elim) (fun _ h => h.elim)

theorem at_vals {w : World} {ao : Option Addr} {zs : List Int} (hat : At w ao zs) : ∀ ad, ao = some ad → ∀ (j : Nat) (u : Value), (zs.map (Value.int .i64))[j]? = some u → w.cell? (ad.add j) = some u := by
  intro ad he j u hj
  have hjl : j < zs.length := by
    have := (List.getElem?_eq_some_iff.1 hj).1
    simpa using this
  obtain ⟨b, off, he2, _, hc⟩ := At.some hat (by omega)
  rw [he] at he2
  simp only [Option.some.injEq] at he2
  subst he2
  rw [Addr.add_lit, hc j hjl]
  simpa [List.getD, hjl] using hj
theorem ints_one (zs : List Int) : ∀ u ∈ zs.map (Value.int .i64), u.oneCell' = true := fun u hu => by
  obtain ⟨y, _, rfl⟩ := List.mem_map.1 hu
  rfl
theorem at_none {w : World} {zs : List Int} (h : At w none zs) : zs = [] := by
  rcases h with h | ⟨b, off, h, _⟩
  · exact h
  · cases h

set_option maxRecDepth 100000 in
set_option maxHeartbeats 1000000 in
theorem p_sourcePart (A : Int) (w : World) : Calls Tryz.prog 207 #[.agg #[.int .i64 A]] w fun e w' => PartRet e w' w.heap.size (1, A, 0, [], [], []) ∧ Below w.heap.size w w' := by
  go_enter Tryz.func207, Tryz.ntmps207
  go_wp2
  refine bodyPost_ret (v := .agg #[.int .i64 1, .int .i64 A, .int .i64 0, .slice none 0 0, .slice none 0 0, .slice none 0 0]) (by simp [results, Tryz.results207, go_sem]) rfl ⟨⟨none, 0, none, 0, none, 0, rfl, RPart.own_bare _ _ _ _ _⟩, ?_⟩
  exact (((Below.refl _ _).alloc (Nat.le_refl _) _).alloc (by simp) _)

set_option maxRecDepth 100000 in
set_option maxHeartbeats 1000000 in
theorem p_unionPart (A B : Int) (w : World) : Calls Tryz.prog 216 #[.agg #[.int .i64 A, .int .i64 B]] w fun e w' => PartRet e w' w.heap.size (5, A, B, [], [], []) ∧ Below w.heap.size w w' := by
  go_enter Tryz.func216, Tryz.ntmps216
  go_wp2
  refine bodyPost_ret (v := .agg #[.int .i64 5, .int .i64 A, .int .i64 B, .slice none 0 0, .slice none 0 0, .slice none 0 0]) (by simp [results, Tryz.results216, go_sem]) rfl ⟨⟨none, 0, none, 0, none, 0, rfl, RPart.own_bare _ _ _ _ _⟩, ?_⟩
  exact (((Below.refl _ _).alloc (Nat.le_refl _) _).alloc (by simp) _)

set_option maxRecDepth 100000 in
set_option maxHeartbeats 1000000 in
theorem p_minusPart (A B : Int) (w : World) : Calls Tryz.prog 219 #[.agg #[.int .i64 A, .int .i64 B]] w fun e w' => PartRet e w' w.heap.size (6, A, B, [], [], []) ∧ Below w.heap.size w w' := by
  go_enter Tryz.func219, Tryz.ntmps219
  go_wp2
  refine bodyPost_ret (v := .agg #[.int .i64 6, .int .i64 A, .int .i64 B, .slice none 0 0, .slice none 0 0, .slice none 0 0]) (by simp [results, Tryz.results219, go_sem]) rfl ⟨⟨none, 0, none, 0, none, 0, rfl, RPart.own_bare _ _ _ _ _⟩, ?_⟩
  exact (((Below.refl _ _).alloc (Nat.le_refl _) _).alloc (by simp) _)

set_option maxRecDepth 100000 in
set_option maxHeartbeats 1000000 in
theorem p_distinctPart (A : Int) (w : World) : Calls Tryz.prog 221 #[.agg #[.int .i64 A]] w fun e w' => PartRet e w' w.heap.size (7, A, 0, [], [], []) ∧ Below w.heap.size w w' := by
  go_enter Tryz.func221, Tryz.ntmps221
  go_wp2
  refine bodyPost_ret (v := .agg #[.int .i64 7, .int .i64 A, .int .i64 0, .slice none 0 0, .slice none 0 0, .slice none 0 0]) (by simp [results, Tryz.results221, go_sem]) rfl ⟨⟨none, 0, none, 0, none, 0, rfl, RPart.own_bare _ _ _ _ _⟩, ?_⟩
  exact (((Below.refl _ _).alloc (Nat.le_refl _) _).alloc (by simp) _)

set_option maxRecDepth 100000 in
set_option maxHeartbeats 2000000 in
theorem p_selectPart (A : Int) (a : Option Addr) (n c : Nat) (ts : List Tst) (w : World) (hz : ts.length = n) (hn : n ≤ 1048576) (hat : AtE w a ts) (hnil : a = none → c = 0) : Calls Tryz.prog 210 #[.agg #[.int .i64 A, .slice a n c]] w fun e w' => PartRet e w' w.heap.size (2, A, 0, ts, [], []) ∧ Below w.heap.size w w' := by
  obtain ⟨i0, hi, hz0, hz1, hz2⟩ := info_parts Tryz.infoTest
  obtain ⟨W, hW⟩ : ∃ W, W = (w.alloc (.cells #[.int .i64 A, .slice a n c] 154)).alloc (.cells #[.int .i64 0, .int .i64 0, .int .i64 0, .slice none 0 0, .slice none 0 0, .slice none 0 0] 74) := ⟨_, rfl⟩
  have B0 : Below w.heap.size w W := by rw [hW]; exact (((Below.refl _ _).alloc (Nat.le_refl _) _).alloc (by simp) _)
  have zW : w.heap.size + 1 < W.heap.size := by rw [hW]; simp
  have b1 : W.heap[w.heap.size + 1]? = some (.cells #[.int .i64 0, .int .i64 0, .int .i64 0, .slice none 0 0, .slice none 0 0, .slice none 0 0] 74 (0, 0)) := by
    rw [hW]
    have q := heap_alloc_new (w.alloc (.cells #[.int .i64 A, .slice a n c] 154)) (.cells #[.int .i64 0, .int .i64 0, .int .i64 0, .slice none 0 0, .slice none 0 0, .slice none 0 0] 74)
    simpa only [World.size_alloc] using q
  have b0 : W.heap[w.heap.size]? = some (.cells #[.int .i64 A, .slice a n c] 154 (0, 0)) := by
    rw [hW]
    exact blk_alloc (heap_alloc_new w _) _
  have c0 := blk_cell b0 0 (v := .int .i64 A) rfl
  have c1 := blk_cell b0 1 (v := .slice a n c) rfl
  have HAT := Hid.mk (AtE.below hat B0)
  have HZ := Hid.mk hz
  have HNIL : Hid (a = none → c = 0 ∧ n = 0) := fun ha => ⟨hnil ha, by subst ha; have h0 := at_none (AtE.below HAT.out (Below.refl _ _) : At W none (flatE ts)); have h1 := flatE_len ts; rw [h0] at h1; simp at h1; omega⟩
  have HL : Hid (((flatE ts).map (Value.int .i64)).length = n * 3) := Hid.mk (by rw [List.length_map, flatE_len, hz])
  clear hat hnil hz
  go_enter Tryz.func210, Tryz.ntmps210
  go_wp2_with fail
  rw [← hW]
  clear hW
  refine wp_region_held_drew (S := fun w' => w'.cell? ⟨w.heap.size, 0, none⟩ = some (.int .i64 A) ∧ w'.cell? ⟨w.heap.size, 1, none⟩ = some (.slice a n c)) (by kernel_rfl) ?_ (fun hHeld => ?_)
  · (try dsimp only)
    exact ⟨c0, c1⟩
  refine tk 0 ?_
  refine tk 1 ?_
  refine tk 2 ?_
  refine tk 3 ?_
  refine tr 4 (fun K hK => ?_)
  refine step_append_vals rfl (.const (.slice none 0 0)) (.tmp 6) 71 rfl W.heap.size 148 i0 (.agg #[.int .i64 0, .int .i64 0, .int .i64 0]) 3 24 Tryz.underlying71 hi hz0 hz1 hz2 rfl (by decide) (.slice none 0 0) 0 [] (by simp [Act.eval]) (World.ownsRow_nil _ _ _ _) a n c ((flatE ts).map (Value.int .i64)) (by simp [Act.eval]) HL.out (at_vals (At.drew HAT.out)) (ints_one _) HNIL.out (by unfold maxLen; omega) (by omega) (Nat.le_refl _) ?_
  intro r4 d4 w4 ho4 hg4 ht4
  simp only [Nat.zero_add, List.nil_append] at ho4 ht4 ⊢
  have hb4 : Below W.heap.size W w4 := (Below.refl _ _).drew.grown hg4 (Nat.le_refl _) (fun k hk => by cases hk)
  refine hK.out _ _ ?_ (fun hHeld' => ?_)
  · (try dsimp only)
    exact ⟨cell_later hb4 c0, cell_later hb4 c1⟩
  clear hK K hHeld
  have hHeld := hHeld'
  clear hHeld'
  (try simp only [Act.put, List.setIfInBounds_toArray, List.set_cons_zero, List.set_cons_succ])
  refine tk 5 ?_
  have k1 := blk_below b1 hb4
  have z4 := hb4.size
  have p0 := blk_cell k1 0 (v := .int .i64 0) rfl
  have f0 := blk_frozen k1 0
  have p1 := blk_cell k1 1 (v := .int .i64 0) rfl
  have f1 := blk_frozen k1 1
  have p2 := blk_cell k1 2 (v := .int .i64 0) rfl
  have f2 := blk_frozen k1 2
  have p3 := blk_cell k1 3 (v := .slice none 0 0) rfl
  have f3 := blk_frozen k1 3
  have p4 := blk_cell k1 4 (v := .slice none 0 0) rfl
  have f4 := blk_frozen k1 4
  have p5 := blk_cell k1 5 (v := .slice none 0 0) rfl
  have f5 := blk_frozen k1 5
  have i0 := cell_later hb4 c0
  have i1 := cell_later hb4 c1
  refine tr 6 (fun K hK => ?_)
  go_simp
  skip
  (try go_wp2_with fail)
  refine hK.out _ _ ?_ (fun hHeld' => ?_)
  · (try dsimp only)
    exact ⟨keep_far (keep_far (keep_far (keep_far (keep_far (keep_far i0 (by omega)) (by omega)) (by omega)) (by omega)) (by omega)) (by omega), keep_far (keep_far (keep_far (keep_far (keep_far (keep_far i1 (by omega)) (by omega)) (by omega)) (by omega)) (by omega)) (by omega)⟩
  clear hK K hHeld
  have hHeld := hHeld'
  clear hHeld'
  (try simp only [Act.put, List.setIfInBounds_toArray, List.set_cons_zero, List.set_cons_succ])
  refine wpAnyH_done (by kernel_rfl) ?_ _
  obtain ⟨Y, hY⟩ : ∃ u, u = stores w4 (w.heap.size + 1) 0 [.int .i64 2, .int .i64 A, .int .i64 0, .slice r4 n d4, .slice none 0 0, .slice none 0 0] := ⟨_, rfl⟩
  have D : Below w.heap.size w Y := by rw [hY]; exact stores_below _ _ _ _ (B0.trans (hb4.mono (by omega))) (by omega)
  have S : Off (From w.heap.size (w.heap.size + 2)) w4 Y := by rw [hY]; exact stores_off _ _ _ _ ⟨by omega, by omega⟩
  have zY : Y.heap.size = w4.heap.size := by rw [hY]; exact stores_size _ _ _ _
  have ho : Y.ownsRow 0 148 3 (.slice r4 n d4) n ((flatE ts).map (Value.int .i64)) := ownsRow_frame (owns_mono ho4 (Nat.zero_le _)) (fun b hb hl => S.block b hl (fun k => by have := (ho4.lt b hb).1; have := k.2; omega))
  have hB : ∀ b, (Value.slice r4 n d4).ownBlock = some b → From w.heap.size Y.heap.size b := fun b hb => ⟨by have := (ho4.lt b hb).1; omega, by have := (ho4.lt b hb).2; omega⟩
  have HR : Hid (RPart.Own Y (From w.heap.size Y.heap.size) (cellsP 2 A 0 r4 n d4 none 0 0 none 0 0) (2, A, 0, ts, [], [])) := RPart.own_mk (F2 := noF) (F3 := noF) (RTests.own_iff.2 ⟨HZ.out, by omega, ho, fun b hb => hB b hb⟩) (none_ints _ _) (none_pairs _ _) (fun b h => h) (fun b h => h.elim) (fun b h => h.elim) (fun b h k => k.elim) (fun b h k => k.elim) (fun b h => h.elim)
  have HY := Hid.mk hY
  have HD := Hid.mk D
  clear S D hY zY ho hB ho4 hg4 ht4 hb4
  go_wp2
  refine bodyPost_ret (v := .agg #[.int .i64 2, .int .i64 A, .int .i64 0, .slice r4 n d4, .slice none 0 0, .slice none 0 0]) (by simp [results, Tryz.results210, go_sem, p0, p1, p2, p3, p4, p5]) rfl ⟨⟨r4, d4, none, 0, none, 0, by simp only [HZ.out]; rfl, ?_⟩, ?_⟩
  · have h := HR.out
    rw [HY.out] at h
    simp only [HZ.out]
    exact h
  · have h := HD.out
    rw [HY.out] at h
    exact h

set_option maxRecDepth 100000 in
set_option maxHeartbeats 2000000 in
theorem p_projectPart (A : Int) (a : Option Addr) (n c : Nat) (ts : List Int) (w : World) (hz : ts.length = n) (hn : n ≤ 1048576) (hat : At w a ts) (hnil : a = none → c = 0) : Calls Tryz.prog 212 #[.agg #[.int .i64 A, .slice a n c]] w fun e w' => PartRet e w' w.heap.size (3, A, 0, [], ts, []) ∧ Below w.heap.size w w' := by
  obtain ⟨i0, hi, hz0, hz1, hz2⟩ := info_parts Tryz.infoInt
  obtain ⟨W, hW⟩ : ∃ W, W = (w.alloc (.cells #[.int .i64 A, .slice a n c] 156)).alloc (.cells #[.int .i64 0, .int .i64 0, .int .i64 0, .slice none 0 0, .slice none 0 0, .slice none 0 0] 74) := ⟨_, rfl⟩
  have B0 : Below w.heap.size w W := by rw [hW]; exact (((Below.refl _ _).alloc (Nat.le_refl _) _).alloc (by simp) _)
  have zW : w.heap.size + 1 < W.heap.size := by rw [hW]; simp
  have b1 : W.heap[w.heap.size + 1]? = some (.cells #[.int .i64 0, .int .i64 0, .int .i64 0, .slice none 0 0, .slice none 0 0, .slice none 0 0] 74 (0, 0)) := by
    rw [hW]
    have q := heap_alloc_new (w.alloc (.cells #[.int .i64 A, .slice a n c] 156)) (.cells #[.int .i64 0, .int .i64 0, .int .i64 0, .slice none 0 0, .slice none 0 0, .slice none 0 0] 74)
    simpa only [World.size_alloc] using q
  have b0 : W.heap[w.heap.size]? = some (.cells #[.int .i64 A, .slice a n c] 156 (0, 0)) := by
    rw [hW]
    exact blk_alloc (heap_alloc_new w _) _
  have c0 := blk_cell b0 0 (v := .int .i64 A) rfl
  have c1 := blk_cell b0 1 (v := .slice a n c) rfl
  have HAT := Hid.mk (At.below hat B0)
  have HZ := Hid.mk hz
  have HNIL : Hid (a = none → c = 0 ∧ n = 0) := fun ha => ⟨hnil ha, by subst ha; have h0 := at_none HAT.out; rw [← HZ.out, h0]; rfl⟩
  have HL : Hid ((ts.map (Value.int .i64)).length = n * 1) := Hid.mk (by rw [List.length_map, hz]; omega)
  clear hat hnil hz
  go_enter Tryz.func212, Tryz.ntmps212
  go_wp2_with fail
  rw [← hW]
  clear hW
  refine wp_region_held_drew (S := fun w' => w'.cell? ⟨w.heap.size, 0, none⟩ = some (.int .i64 A) ∧ w'.cell? ⟨w.heap.size, 1, none⟩ = some (.slice a n c)) (by kernel_rfl) ?_ (fun hHeld => ?_)
  · (try dsimp only)
    exact ⟨c0, c1⟩
  refine tk 0 ?_
  refine tk 1 ?_
  refine tk 2 ?_
  refine tk 3 ?_
  refine tr 4 (fun K hK => ?_)
  refine step_append_vals rfl (.const (.slice none 0 0)) (.tmp 6) 23 rfl W.heap.size 3 i0 (.int .i64 0) 1 8 Tryz.underlying23 hi hz0 hz1 hz2 rfl (by decide) (.slice none 0 0) 0 [] (by simp [Act.eval]) (World.ownsRow_nil _ _ _ _) a n c (ts.map (Value.int .i64)) (by simp [Act.eval]) HL.out (at_vals (At.drew HAT.out)) (ints_one _) HNIL.out (by unfold maxLen; omega) (by omega) (Nat.le_refl _) ?_
  intro r4 d4 w4 ho4 hg4 ht4
  simp only [Nat.zero_add, List.nil_append] at ho4 ht4 ⊢
  have hb4 : Below W.heap.size W w4 := (Below.refl _ _).drew.grown hg4 (Nat.le_refl _) (fun k hk => by cases hk)
  refine hK.out _ _ ?_ (fun hHeld' => ?_)
  · (try dsimp only)
    exact ⟨cell_later hb4 c0, cell_later hb4 c1⟩
  clear hK K hHeld
  have hHeld := hHeld'
  clear hHeld'
  (try simp only [Act.put, List.setIfInBounds_toArray, List.set_cons_zero, List.set_cons_succ])
  refine tk 5 ?_
  have k1 := blk_below b1 hb4
  have z4 := hb4.size
  have p0 := blk_cell k1 0 (v := .int .i64 0) rfl
  have f0 := blk_frozen k1 0
  have p1 := blk_cell k1 1 (v := .int .i64 0) rfl
  have f1 := blk_frozen k1 1
  have p2 := blk_cell k1 2 (v := .int .i64 0) rfl
  have f2 := blk_frozen k1 2
  have p3 := blk_cell k1 3 (v := .slice none 0 0) rfl
  have f3 := blk_frozen k1 3
  have p4 := blk_cell k1 4 (v := .slice none 0 0) rfl
  have f4 := blk_frozen k1 4
  have p5 := blk_cell k1 5 (v := .slice none 0 0) rfl
  have f5 := blk_frozen k1 5
  have i0 := cell_later hb4 c0
  have i1 := cell_later hb4 c1
  refine tr 6 (fun K hK => ?_)
  go_simp
  skip
  (try go_wp2_with fail)
  refine hK.out _ _ ?_ (fun hHeld' => ?_)
  · (try dsimp only)
    exact ⟨keep_far (keep_far (keep_far (keep_far (keep_far (keep_far i0 (by omega)) (by omega)) (by omega)) (by omega)) (by omega)) (by omega), keep_far (keep_far (keep_far (keep_far (keep_far (keep_far i1 (by omega)) (by omega)) (by omega)) (by omega)) (by omega)) (by omega)⟩
  clear hK K hHeld
  have hHeld := hHeld'
  clear hHeld'
  (try simp only [Act.put, List.setIfInBounds_toArray, List.set_cons_zero, List.set_cons_succ])
  refine wpAnyH_done (by kernel_rfl) ?_ _
  obtain ⟨Y, hY⟩ : ∃ u, u = stores w4 (w.heap.size + 1) 0 [.int .i64 3, .int .i64 A, .int .i64 0, .slice none 0 0, .slice r4 n d4, .slice none 0 0] := ⟨_, rfl⟩
  have D : Below w.heap.size w Y := by rw [hY]; exact stores_below _ _ _ _ (B0.trans (hb4.mono (by omega))) (by omega)
  have S : Off (From w.heap.size (w.heap.size + 2)) w4 Y := by rw [hY]; exact stores_off _ _ _ _ ⟨by omega, by omega⟩
  have zY : Y.heap.size = w4.heap.size := by rw [hY]; exact stores_size _ _ _ _
  have ho : Y.ownsRow 0 3 1 (.slice r4 n d4) n (ts.map (Value.int .i64)) := ownsRow_frame (owns_mono ho4 (Nat.zero_le _)) (fun b hb hl => S.block b hl (fun k => by have := (ho4.lt b hb).1; have := k.2; omega))
  have hB : ∀ b, (Value.slice r4 n d4).ownBlock = some b → From w.heap.size Y.heap.size b := fun b hb => ⟨by have := (ho4.lt b hb).1; omega, by have := (ho4.lt b hb).2; omega⟩
  have HR : Hid (RPart.Own Y (From w.heap.size Y.heap.size) (cellsP 3 A 0 none 0 0 r4 n d4 none 0 0) (3, A, 0, [], ts, [])) := RPart.own_mk (F1 := noF) (F3 := noF) (none_tests _ _) (RInts.own_iff.2 ⟨HZ.out, by omega, ho, fun b hb => hB b hb⟩) (none_pairs _ _) (fun b h => h.elim) (fun b h => h) (fun b h => h.elim) (fun b h => h.elim) (fun b h => h.elim) (fun b h k => k.elim)
  have HY := Hid.mk hY
  have HD := Hid.mk D
  clear S D hY zY ho hB ho4 hg4 ht4 hb4
  go_wp2
  refine bodyPost_ret (v := .agg #[.int .i64 3, .int .i64 A, .int .i64 0, .slice none 0 0, .slice r4 n d4, .slice none 0 0]) (by simp [results, Tryz.results212, go_sem, p0, p1, p2, p3, p4, p5]) rfl ⟨⟨none, 0, r4, d4, none, 0, by simp only [HZ.out]; rfl, ?_⟩, ?_⟩
  · have h := HR.out
    rw [HY.out] at h
    simp only [HZ.out]
    exact h
  · have h := HD.out
    rw [HY.out] at h
    exact h

end Go.Proofs.YthiabjkjpjmahaaGreat

/- One more thing at a slice's end. -/
namespace Go.Proofs.YthiabjkjpjmahaaGreat
open Go.RowKit

section
variable {α : Type} {A : Rep α} {w w2 w4 : World} {F H F' : Nat → Prop} {e : TypeId} {a a' : Option Addr} {n c c' : Nat} {xs : List α} {cells vs : List Value} {G : Nat → Nat → Prop} {x : α}

theorem sub_append_left {cells vs : List Value} {o k : Nat} (h : o + k ≤ cells.length) : sub (cells ++ vs) o k = sub cells o k := by
  unfold sub
  rw [List.drop_append_of_le_length (by omega), List.take_append_of_le_length (by simp; omega)]
theorem sub_append_right {cells vs : List Value} {k : Nat} (h : vs.length = k) : sub (cells ++ vs) cells.length k = vs := by
  unfold sub
  rw [List.drop_left, ← h, List.take_length]

/-- Behind 'append(l, x)': the slice lies in its old block, or in a new one. -/
theorem Laid.push (h : Laid A w F e a n c xs cells G n) (hF : ∀ b, F b → b < w.heap.size) (hb : Below w.heap.size w w2) (ho : A.Own w2 H vs x) (hH : ∀ b, H b → w.heap.size ≤ b ∧ b < w2.heap.size)
    (hg : ∀ b, b < w2.heap.size → (Value.slice a n c).ownBlock ≠ some b → w4.heap[b]? = w2.heap[b]?) (hown : w4.ownsRow 0 e A.k (.slice a' (n + 1) c') (n + 1) (cells ++ vs))
    (hat : (Value.slice a' (n + 1) c').ownBlock = (Value.slice a n c).ownBlock ∨ ∀ b, (Value.slice a' (n + 1) c').ownBlock = some b → w2.heap.size ≤ b) (hbig : n + 1 ≤ 9223372036854775807)
    (hF1 : ∀ b, F b → F' b) (hF2 : ∀ b, H b → F' b) (hF3 : ∀ b, (Value.slice a' (n + 1) c').ownBlock = some b → F' b) :
    Laid A w4 F' e a' (n + 1) c' (xs ++ [x]) (cells ++ vs) (fun i => if i = n then H else G i) (n + 1) := by
  have hl := A.ownLen ho
  have hcl : cells.length = n * A.k := h.outer.1
  have hz := hb.size
  have hB : ∀ i b, i < n → G i b → b < w.heap.size ∧ (Value.slice a n c).ownBlock ≠ some b := fun i b hi hg' => ⟨hF b (h.rowF i b hi hg').1, (h.rowF i b hi hg').2⟩
  have hO : ∀ b, (Value.slice a n c).ownBlock = some b → b < w.heap.size := fun b hb' => hF b (h.outerF b hb')
  refine ⟨by simp [h.len], hbig, hown, hF3, fun i y hi hy => ?_, fun i b hi hb' => ?_, fun i j b hi hj hij hb' => ?_⟩
  · by_cases ei : i = n
    · subst ei
      simp only [if_true]
      obtain rfl : x = y := by
        rw [List.getElem?_append_right (by rw [h.len]; exact Nat.le_refl _)] at hy
        simpa [h.len] using hy
      have := sub_append_right (cells := cells) hl
      rw [hcl] at this
      rw [this]
      exact A.frame ho (fun b hb' _ => hg b (hH b hb').2 (fun e' => by have := hO b e'; have := (hH b hb').1; omega))
    · simp only [if_neg ei]
      have hi' : i < n := by omega
      rw [List.getElem?_append_left (by rw [h.len]; exact hi')] at hy
      rw [sub_append_left (by rw [hcl]; exact at_mul hi')]
      exact A.frame (A.ownBelow (h.row i y hi' hy) hb) (fun b hb' _ => hg b (by have := (hB i b hi' hb').1; omega) (hB i b hi' hb').2)
  · by_cases ei : i = n
    · subst ei
      simp only [if_true] at hb'
      refine ⟨hF2 b hb', fun e' => ?_⟩
      have h1 := hH b hb'
      rcases hat with h2 | h2
      · rw [h2] at e'
        have := hO b e'
        omega
      · have := h2 b e'
        omega
    · simp only [if_neg ei] at hb'
      have h1 := hB i b (by omega) hb'
      refine ⟨hF1 b (h.rowF i b (by omega) hb').1, fun e' => ?_⟩
      rcases hat with h2 | h2
      · rw [h2] at e'; exact h1.2 e'
      · have := h2 b e'
        omega
  · by_cases ei : i = n
    · subst ei
      simp only [if_true] at hb'
      simp only [if_neg (Ne.symm hij)]
      intro e'
      have := (hB j b (by omega) e').1
      have := (hH b hb').1
      omega
    · simp only [if_neg ei] at hb'
      by_cases ej : j = n
      · simp only [if_pos ej]
        intro e'
        have := (hB i b (by omega) hb').1
        have := (hH b e').1
        omega
      · simp only [if_neg ej]
        exact h.apart i j b (by omega) (by omega) hij hb'

/-- A slice of nothing. -/
theorem Laid.none (A : Rep α) (w : World) (F : Nat → Prop) (e : TypeId) : Laid A w F e none 0 0 [] [] (fun _ _ => False) 0 :=
  ⟨rfl, by omega, World.ownsRow_nil _ _ _ _, fun b hb => (by cases hb), fun i x h => by omega, fun i b h => by omega, fun i j b h => by omega⟩
end

end Go.Proofs.YthiabjkjpjmahaaGreat
