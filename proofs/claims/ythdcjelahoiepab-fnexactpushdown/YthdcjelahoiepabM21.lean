/- Several texts of one proof, in build order: PushF, OwnP. -/
import Derived.Test.YthdcjelahoiepabM19
import Derived.Test.YthdcjelahoiepabM20
import Derived.Test.YthdcjelahoiepabM14
import Derived.Test.YthdcjelahoiepabM5

/- Contract of impl.PushDown. -/
namespace Go.Proofs.Ythdcjelahoiepab
open Go.RowKit

theorem checkTo_part {ss : List Int} {xs : List PartD} (hs : ss.all inc = true) : ∀ {n : Nat} {ah : List Int}, checkTo ss xs n = some ah → ∀ (i : Nat) (x : PartD), i < n → xs[i]? = some x → ∃ a q, a.length = i ∧ partW ss a x = some q
  | 0, ah, _, i, x, h, _ => by omega
  | n + 1, ah, h, i, x, hi, hx => by
    obtain ⟨a, h1, h2⟩ := Option.bind_eq_some_iff.1 h
    by_cases e : i < n
    · exact checkTo_part hs h1 i x e hx
    · obtain rfl : i = n := by omega
      obtain ⟨y, h3, h4⟩ := Option.bind_eq_some_iff.1 h2
      rw [hx] at h3
      cases h3
      obtain ⟨q, h5, _⟩ := Option.map_eq_some_iff.1 h4
      exact ⟨a, q, (checkTo_some hs h1).1, h5⟩
theorem good_parts {v : ViewD} {ah : List Int} (h : checkV v = some ah) (i : Nat) (x : PartD) (hx : v.2[i]? = some x) : (1 ≤ x.K ∧ x.K ≤ 7) ∧ noMore x = true ∧ (x.K = 2 → 0 ≤ x.A ∧ x.A < i) := by
  obtain ⟨h1, _, _, _, _, h6⟩ := checkV_good h
  obtain ⟨a, q, hl, hq⟩ := checkTo_part (srcOk_all h1) h6 i x (List.getElem?_eq_some_iff.1 hx).1 hx
  have hk : 1 ≤ x.K ∧ x.K ≤ 7 := by
    by_cases hk : 1 ≤ x.K ∧ x.K ≤ 7
    · exact hk
    · rw [partW_no (widthP_no hk)] at hq; cases hq
  have hn : noMore x = true := by
    unfold partW at hq
    split at hq
    · assumption
    · cases hq
  refine ⟨hk, hn, fun h2 => ?_⟩
  unfold partW at hq
  rw [if_pos hn, widthP_2 h2] at hq
  obtain ⟨z, h3, _⟩ := Option.bind_eq_some_iff.1 hq
  obtain ⟨k, h4, h5, _⟩ := numAt_some h3
  omega
theorem sel_good {A : Int} {ts : List Tst} (h : ts.length ≤ 1048576) : (1 ≤ (2 : Int) ∧ (2 : Int) ≤ 7) ∧ noMore (2, A, 0, ts, [], []) = true ∧ SmPart (2, A, 0, ts, [], []) := ⟨⟨by decide, by decide⟩, rfl, h, Nat.zero_le _, Nat.zero_le _, Nat.zero_le _⟩
theorem uni_good {A B : Int} : (1 ≤ (5 : Int) ∧ (5 : Int) ≤ 7) ∧ noMore (5, A, B, [], [], []) = true ∧ SmPart (5, A, B, [], [], []) := ⟨⟨by decide, by decide⟩, rfl, Nat.zero_le _, Nat.zero_le _, Nat.zero_le _, Nat.zero_le _⟩
theorem pushed_parts {xs : List PartD} (h : ∀ (i : Nat) (x : PartD), xs[i]? = some x → (1 ≤ x.K ∧ x.K ≤ 7) ∧ noMore x = true ∧ SmPart x) : ∀ (i : Nat) (x : PartD), (pushed xs)[i]? = some x → (1 ≤ x.K ∧ x.K ≤ 7) ∧ noMore x = true ∧ SmPart x := by
  cases hs : selU xs with
  | none => rw [pushed_none hs]; exact h
  | some xu =>
    obtain ⟨y, u⟩ := xu
    by_cases hb : 12 < xs.length + 2
    · rw [pushed_many hb]; exact h
    · rw [pushed_some hs hb]
      intro i x hx
      have hy := (h _ _ (selU_open hs).1).2.2
      by_cases hi : i < (xs.take (xs.length - 1)).length
      · rw [List.getElem?_append_left hi, List.getElem?_take] at hx
        split at hx
        · exact h i x hx
        · cases hx
      · rw [List.getElem?_append_right (by omega)] at hx
        match hj : i - (xs.take (xs.length - 1)).length, hx with
        | 0, hx =>
          obtain rfl := Option.some.inj hx
          exact sel_good hy.1
        | 1, hx =>
          obtain rfl := Option.some.inj hx
          exact sel_good hy.1
        | 2, hx =>
          obtain rfl := Option.some.inj hx
          exact uni_good
        | n + 3, hx => simp at hx

/-- What PushDown answers. -/
def pdV (v : ViewD) : ViewD := if ckB v = true then (v.1, pushed v.2) else ([], [])
def PdRet (e : Ending) (w' : World) (lo : Nat) (v : ViewD) : Prop := ∃ sa sn sc pa pn pc, e = .returned (.tuple #[.agg #[.slice sa sn sc, .slice pa pn pc], .bool (ckB v)]) ∧ (pdV v).1.length = sn ∧ (pdV v).2.length = pn ∧ RView.Own w' (From lo w'.heap.size) [.slice sa sn sc, .slice pa pn pc] (pdV v)
theorem own_nil_ints {w : World} {F : Nat → Prop} : RInts.Own w F [.slice none 0 0] [] := RInts.own_iff.2 ⟨rfl, by omega, World.ownsRow_nil _ _ _ _, fun b h => by cases h⟩
theorem own_nil_parts {w : World} {F : Nat → Prop} : RParts.Own w F [.slice none 0 0] [] := ⟨none, 0, 0, [], _, rfl, Laid.none RPart w F _⟩
theorem own_nil_view {w : World} {F : Nat → Prop} : RView.Own w F [.slice none 0 0, .slice none 0 0] ([], []) := ⟨[_], [_], fun _ => False, fun _ => False, rfl, own_nil_ints, own_nil_parts, fun _ h => h.elim, fun _ h => h.elim, fun _ h => h.elim⟩
theorem PdRet.no {v : ViewD} {w' : World} {lo : Nat} (h : checkV v = none) : PdRet (.returned (.tuple #[.agg #[.slice none 0 0, .slice none 0 0], .bool false])) w' lo v := by
  have h1 := (ck_none h).1
  have h2 : pdV v = ([], []) := by unfold pdV; rw [h1]; rfl
  unfold PdRet
  rw [h2, h1]
  exact ⟨none, 0, 0, none, 0, 0, rfl, rfl, rfl, own_nil_view⟩

set_option maxRecDepth 100000 in
set_option maxHeartbeats 8000000 in
theorem implPushDown (sa : Option Addr) (sn sc : Nat) (pa : Option Addr) (pn pc : Nat) (ss : List Int) (xs : List PartD) (w : World) (hsz : ss.length = sn) (hz : xs.length = pn) (hs : SmView (ss, xs)) (hsa : At w sa ss) (ha : AtSl RPart w pa xs) (hnil : sa = none → sc = 0) :
    Calls Try.prog 11 #[.agg #[.slice sa sn sc, .slice pa pn pc]] w fun e w' => PdRet e w' w.heap.size (ss, xs) ∧ Below w.heap.size w w' := by
  have hsn : sn ≤ 1048576 := by have := hs.src; simp only at this; omega
  have hpn : pn ≤ 1048576 := by have := hs.len; simp only at this; omega
  obtain ⟨W, hW⟩ : ∃ W, W = (w.alloc (.cells #[.slice sa sn sc, .slice pa pn pc] 31)).alloc (.cells #[.slice none 0 0, .slice none 0 0] 31) := ⟨_, rfl⟩
  have B0 : Below w.heap.size w W := by rw [hW]; exact ((Below.refl _ _).alloc (Nat.le_refl _) _).alloc (by simp) _
  have c0 : W.cell? ⟨w.heap.size, 0, none⟩ = some (.slice sa sn sc) := by rw [hW]; simp
  have bW : W.heap[w.heap.size + 1]? = some (.cells #[.slice none 0 0, .slice none 0 0] 31 (0, 0)) := by rw [hW]; have h9 := heap_alloc_new (w.alloc (.cells #[.slice sa sn sc, .slice pa pn pc] 31)) (.cells #[.slice none 0 0, .slice none 0 0] 31); simpa using h9
  have HC := Hid.mk (partsOf_any sa sn sc pa pn pc ss xs W hsz hsn hz hpn (fun i x hx => hs.part hx) (hsa.below B0) (ha.below B0))
  have HZ := Hid.mk hz
  have HSZ := Hid.mk hsz
  have HSM := Hid.mk hs
  have HSA : Hid (At W sa ss) := hsa.below B0
  clear hsz hz hs hsa ha
  go_enter Try.func11, Try.ntmps11
  go_wp2_with fail
  rw [← hW]
  clear hW
  refine HC.out.mono ?_
  rintro e w1 ⟨hret, hb1⟩
  have B1 := B0.trans (hb1.mono B0.size)
  have b1 := blk_below bW hb1
  have c1 := cell_later hb1 c0
  unfold PartsRet at hret
  cases hck : checkV (ss, xs) with
  | none =>
    rw [hck] at hret
    obtain rfl := hret
    have p0 := blk_cell b1 0 (v := .slice none 0 0) rfl
    have p1 := blk_cell b1 1 (v := .slice none 0 0) rfl
    have f0 := blk_frozen b1 0
    have f1 := blk_frozen b1 1
    obtain ⟨Y, hY⟩ : ∃ u, u = stores w1 (w.heap.size + 1) 0 [.slice none 0 0, .slice none 0 0] := ⟨_, rfl⟩
    have D : Below w.heap.size w Y := by rw [hY]; exact stores_below _ _ _ _ B1 (by omega)
    have HR := Hid.mk (PdRet.no (w' := Y) (lo := w.heap.size) hck)
    have HY := Hid.mk hY
    have HD := Hid.mk D
    clear hck hb1 B0 b1 bW hY D
    go_wp2
    refine bodyPost_ret (v := .tuple #[.agg #[.slice none 0 0, .slice none 0 0], .bool false]) (by simp [results, Try.results11, go_sem, p0, p1]) rfl ⟨?_, ?_⟩
    · have h := HR.out
      rw [HY.out] at h
      exact h
    · have h := HD.out
      rw [HY.out] at h
      exact h
  | some ah =>
    rw [hck] at hret
    obtain ⟨r, d, r', d', vs, rfl, hvl, hap, hop, _⟩ := hret
    simp only [HZ.out] at hvl hop ⊢
    have hgood := checkV_good hck
    have hp1 : 1 ≤ pn := by have := hgood.2.1; simp only [HZ.out] at this; exact this
    have hp2 : pn ≤ 12 := by have := hgood.2.2.1; simp only [HZ.out] at this; exact this
    have HG := Hid.mk (good_parts hck)
    have HCK := Hid.mk (ck_some hck).1
    rcases hop.2 with ⟨_, h00⟩ | ⟨gg, cap, cur, hv, _, _, hcap, _⟩
    · omega
    simp only [Value.slice.injEq, true_and] at hv
    obtain ⟨rfl, rfl⟩ := hv
    have HCAP : Hid (pn ≤ d) := hcap
    clear hcap
    have HPD : Hid (Calls Try.prog 26 #[.slice (some ⟨gg, 0, none⟩) pn d] w1.drew fun e w' => HasParts e W w' (pushed xs) ∧ Below w1.drew.heap.size w1.drew w') :=
      pushedDown_any gg pn d vs xs W w1.drew hp1 hp2 hvl HZ.out hap (fun k v hv => cell_later (Below.refl _ _).drew ((hop.cellAt k (by have := (List.getElem?_eq_some_iff.1 hv).1; omega)).trans hv)) (fun i x hx => (HG.out i x hx).1) (fun i x hx => (HG.out i x hx).2.2) HCAP.out
    have HSA1 : Hid (At w1 sa ss) := HSA.out.below hb1
    have HB1 := Hid.mk hb1
    have HBB := Hid.mk B1
    have zw : w.heap.size + 1 < w1.heap.size := (Array.getElem?_eq_some_iff.1 b1).1
    have HPB := Hid.mk b1
    clear hck hop hap hvl hgood B0 hb1 HC B1 b1 bW c0
    go_upto_region 4 with fail
    refine wp_region_held_drew (S := fun w' => w'.cell? ⟨w.heap.size, 0, none⟩ = some (.slice sa sn sc)) (by kernel_rfl) ?_ (fun hHeld => ?_)
    · (try dsimp only)
      exact c1
    refine wpAnyH_take (i := 0) (oi := ?_) (v := ?_) ?_ (by kernel_rfl) (by kernel_rfl) (by kernel_rfl) ?_ (Or.inl ⟨?_, ?_⟩) (by assumption) ?_
    rotate_left 2
    · (simp only [List.getElem?_toArray, List.getElem?_cons_zero]; rfl)
    · exact fun _ _ _ h => h
    · rfl
    · (intro wS hSw; (try dsimp only at hSw); go_simp; (try with_reducible rfl))
    (try simp only [Act.put, List.setIfInBounds_toArray, List.set_cons_zero, List.set_cons_succ])
    refine wpAnyH_take (i := 1) (oi := ?_) (v := ?_) ?_ (by kernel_rfl) (by kernel_rfl) (by kernel_rfl) ?_ (Or.inl ⟨?_, ?_⟩) (by assumption) ?_
    rotate_left 2
    · (simp only [List.getElem?_toArray, List.getElem?_cons_zero, List.getElem?_cons_succ]; rfl)
    · exact fun _ _ _ h => h
    · rfl
    · (intro wS hSw; (try dsimp only at hSw); go_simp; (try with_reducible rfl))
    (try simp only [Act.put, List.setIfInBounds_toArray, List.set_cons_zero, List.set_cons_succ])
    refine wpAnyH_take (i := 2) (oi := ?_) (v := ?_) ?_ (by kernel_rfl) (by kernel_rfl) (by kernel_rfl) ?_ (Or.inl ⟨?_, ?_⟩) (by assumption) ?_
    rotate_left 2
    · (simp only [List.getElem?_toArray, List.getElem?_cons_zero, List.getElem?_cons_succ]; rfl)
    · exact fun _ _ _ h => h
    · rfl
    · (intro wS hSw; (try dsimp only at hSw); go_simp; (try with_reducible rfl))
    (try simp only [Act.put, List.setIfInBounds_toArray, List.set_cons_zero, List.set_cons_succ])
    refine wpAnyH_ready (rs := [3]) (by kernel_rfl) (by simp) ?_
    refine AllReadyH.cons (o := ?_) ?_ (fun K hK => ?_) AllReadyH.nil
    rotate_left
    · (simp only [List.getElem?_toArray, List.getElem?_cons_zero, List.getElem?_cons_succ]; rfl)
    go_simp
    go_at_call 26
    refine HPD.out.mono ?_
    rintro e w2 ⟨⟨g2, n2, d2, vs2, rfl, hv2, hx2, hn2, ha2, hc2⟩, hd2⟩
    have hb2 : Below w1.heap.size w1 w2 := (Below.refl _ _).drew.trans hd2
    have c2 := cell_later hb2 c1
    clear hd2
    (try go_wp2_with fail)
    refine hK.out _ _ ?_ (fun hHeld' => ?_)
    · (try dsimp only)
      exact c2
    clear hK K hHeld
    have hHeld := hHeld'
    clear hHeld'
    (try simp only [Act.put, List.setIfInBounds_toArray, List.set_cons_zero, List.set_cons_succ])
    refine wpAnyH_ready (rs := [4]) (by kernel_rfl) (by simp) ?_
    refine AllReadyH.cons (o := ?_) ?_ (fun K hK => ?_) AllReadyH.nil
    rotate_left
    · (simp only [List.getElem?_toArray, List.getElem?_cons_zero, List.getElem?_cons_succ]; rfl)
    go_simp
    go_at_call 25
    refine (viewOf_any sa sn sc ss g2 n2 d2 vs2 (pushed xs) W w2 HSZ.out hsn (HSA1.out.below hb2) hnil hx2 hv2 (by omega) hc2 (HB1.out.trans (hb2.mono HB1.out.size)) (fun k v x h1 h2 => by
      have h3 := pushed_parts (fun i x hx => ⟨(HG.out i x hx).1, (HG.out i x hx).2.1, HSM.out.part hx⟩) k x h2
      exact asPart_of (ha2 k v x h1 h2) h3.1 h3.2.1 h3.2.2)).mono ?_
    rintro e w3 ⟨⟨sa3, sc3, pa3, pc3, rfl, ho3⟩, hb3⟩
    simp only [HSZ.out, hx2] at ho3 ⊢
    have c3 := cell_later hb3 c2
    have b3 := blk_below (blk_below HPB.out hb2) hb3
    have p0 := blk_cell b3 0 (v := .slice none 0 0) rfl
    have p1 := blk_cell b3 1 (v := .slice none 0 0) rfl
    have f0 := blk_frozen b3 0
    have f1 := blk_frozen b3 1
    have B3 : Below w.heap.size w w3 := (HBB.out.trans (hb2.mono HBB.out.size)).trans (hb3.mono (Nat.le_trans HBB.out.size hb2.size))
    have z2 : w.heap.size + 1 < w2.heap.size := Nat.lt_of_lt_of_le zw hb2.size
    (try go_wp2_with fail)
    refine hK.out _ _ ?_ (fun hHeld' => ?_)
    · (try dsimp only)
      exact c3
    clear hK K hHeld
    have hHeld := hHeld'
    clear hHeld'
    (try simp only [Act.put, List.setIfInBounds_toArray, List.set_cons_zero, List.set_cons_succ])
    obtain ⟨Y, hY⟩ : ∃ u, u = stores w3 (w.heap.size + 1) 0 [.slice sa3 sn sc3, .slice pa3 n2 pc3] := ⟨_, rfl⟩
    have D : Below w.heap.size w Y := by rw [hY]; exact stores_below _ _ _ _ B3 (by omega)
    have cY : Y.cell? ⟨w.heap.size, 0, none⟩ = some (.slice sa sn sc) := by rw [hY]; exact (stores_off (F := fun b => b = w.heap.size + 1) w3 (w.heap.size + 1) 0 _ rfl).cell c3 (fun e : w.heap.size = w.heap.size + 1 => by omega)
    have SO : Off (fun b => b = w.heap.size + 1) w3 Y := by rw [hY]; exact stores_off (F := fun b => b = w.heap.size + 1) _ _ _ _ rfl
    have zY : Y.heap.size = w3.heap.size := by rw [hY]; exact stores_size _ _ _ _
    have HR : Hid (PdRet (.returned (.tuple #[.agg #[.slice sa3 sn sc3, .slice pa3 n2 pc3], .bool true])) Y w.heap.size (ss, xs)) := by
      show PdRet _ _ _ _
      have h2 : pdV (ss, xs) = (ss, pushed xs) := by unfold pdV; rw [HCK.out]; rfl
      unfold PdRet
      rw [h2, HCK.out]
      refine ⟨sa3, sn, sc3, pa3, n2, pc3, rfl, HSZ.out, hx2, ?_⟩
      rw [zY]
      exact RView.mono (RView.ownOff ho3 SO (fun b h e => by have h9 := h.1; omega)) (fun b h => ⟨Nat.le_trans (by omega) h.1, h.2⟩)
    have HY := Hid.mk hY
    have HD := Hid.mk D
    clear SO D hY zY ho3 hb3 b3 B3 hx2 hv2 hn2 ha2 hc2 hb2
    refine wpAnyH_ready (rs := [5]) (by kernel_rfl) (by simp) ?_
    refine AllReadyH.cons (o := ?_) ?_ (fun K hK => ?_) AllReadyH.nil
    rotate_left
    · (simp only [List.getElem?_toArray, List.getElem?_cons_zero, List.getElem?_cons_succ]; rfl)
    go_simp
    skip
    (try go_wp2_with fail)
    refine hK.out _ _ ?_ (fun hHeld' => ?_)
    · (try dsimp only)
      (have h9 := cY; rw [HY.out] at h9; exact h9)
    clear hK K hHeld
    have hHeld := hHeld'
    clear hHeld'
    (try simp only [Act.put, List.setIfInBounds_toArray, List.set_cons_zero, List.set_cons_succ])
    refine wpAnyH_take (i := 6) (oi := ?_) (v := ?_) ?_ (by kernel_rfl) (by kernel_rfl) (by kernel_rfl) ?_ (Or.inl ⟨?_, ?_⟩) (by assumption) ?_
    rotate_left 2
    · (simp only [List.getElem?_toArray, List.getElem?_cons_zero, List.getElem?_cons_succ]; rfl)
    · exact fun _ _ _ h => h
    · rfl
    · (intro wS hSw; (try dsimp only at hSw); go_simp; (try with_reducible rfl))
    (try simp only [Act.put, List.setIfInBounds_toArray, List.set_cons_zero, List.set_cons_succ])
    refine wpAnyH_done (by kernel_rfl) ?_ _
    go_wp2
    refine bodyPost_ret (v := .tuple #[.agg #[.slice sa3 sn sc3, .slice pa3 n2 pc3], .bool true]) (by simp [results, Try.results11, go_sem, p0, p1]) rfl ⟨?_, ?_⟩
    · have h := HR.out
      rw [HY.out] at h
      exact h
    · have h := HD.out
      rw [HY.out] at h
      exact h

end Go.Proofs.Ythdcjelahoiepab

/- Contract of spec.l6OwnPart: a part of its own. -/
namespace Go.Proofs.Ythdcjelahoiepab
open Go.RowKit

theorem wpList_append_vals {P : Program} {w : World} {ops : Array Oper} {rest : List Oper} {o : Oper} {a : Act} {Q : Exit → Act → World → Prop} (hgd : o.guard = none) (s x : Operand) (t : TypeId)
    (ho : o.op = .call { callee := .builtin .append, args := #[s, x], argTypes := #[t, t] })
    (base : Nat) (e : TypeId) (i : TypeInfo) (z : Value) (size bytes : Nat) (ht : P.underlying t = some (.slice e)) (hi : P.info? e = some i) (hz : i.zero = some z)
    (hsize : i.size = size) (hby : i.bytes = bytes) (hzs : z.cells.size = size) (hsz : 0 < size)
    (v : Value) (n : Nat) (xs : List Value) (hs : a.eval s = v) (hown : w.ownsRow base e size v n xs)
    (ao : Option Addr) (m c : Nat) (news : List Value) (hx : a.eval x = .slice ao m c) (hl : news.length = m * size) (hat : ∀ ad, ao = some ad → ∀ (j : Nat) (u : Value), news[j]? = some u → w.cell? (ad.add j) = some u) (h1 : ∀ u ∈ news, u.oneCell' = true) (hnil : ao = none → c = 0 ∧ m = 0)
    (h63 : n + m ≤ maxLen) (hbytes : (n + m) * bytes ≤ 140737488355328) (hbase : base ≤ w.heap.size)
    (h : ∀ r cap w', w'.ownsRow base e size (.slice r (n + m) cap) (n + m) (xs ++ news) → w.grownBy w' v.ownBlock → ((Value.slice r (n + m) cap).ownBlock = v.ownBlock ∨ (Value.slice r (n + m) cap).ownBlock = some w.heap.size) → wpList P ops Q rest (a.put o.dst (.slice r (n + m) cap)) w') :
    wpList P ops Q (o :: rest) a w :=
  wpList_plain hgd fun K hK => by
    have hw : Region.wanted o (yielded ops a.tmps) = true := by simp [Region.wanted, hgd]
    have h9 := step_append_vals (P := P) (w := w) (ops := ops) (o := o) (a := a) (K := K) (Q := Q) (E := True) hgd s x t ho base e i z size bytes ht hi hz hsize hby hzs hsz v n xs hs hown ao m c news hx hl hat h1 hnil h63 hbytes hbase (fun r cap w' k1 k2 k3 => hK _ _ (h r cap w' k1 k2 k3))
    rw [if_pos hw] at h9
    exact h9

set_option maxRecDepth 100000 in
set_option maxHeartbeats 16000000 in
theorem l6OwnPart_any (K A B : Int) (ta : Option Addr) (tn tc : Nat) (ca : Option Addr) (cn cc : Nat) (pa : Option Addr) (pn pc : Nat) (ts : List Tst) (zs : List Int) (ps : List (List Int)) (w : World) (hts : ts.length = tn) (hzs : zs.length = cn) (hps : ps.length = pn) (hs : SmPart (K, A, B, ts, zs, ps))
    (hte : AtE w ta ts) (hnt : ta = none → tc = 0) (hca : At w ca zs) (hnc : ca = none → cc = 0) (hpa : AtSl RInts w pa ps) :
    Calls Try.prog 24 #[.agg #[.int .i64 K, .int .i64 A, .int .i64 B, .slice ta tn tc, .slice ca cn cc, .slice pa pn pc]] w fun e w' => PartRet e w' w.heap.size (K, A, B, ts, zs, ps) ∧ Below w.heap.size w w' := by
  obtain ⟨i0, hi, hz0, hz1, hz2⟩ := info_parts Try.infoTest
  obtain ⟨j0, hj, hy0, hy1, hy2⟩ := info_parts Try.infoInt
  obtain ⟨k0, hk, hx0, hx1, hx2⟩ := info_parts Try.infoInts
  have htn : tn ≤ 1048576 := by have h : ts.length ≤ 1048576 := hs.1; omega
  have hcn : cn ≤ 1048576 := by have h : zs.length ≤ 1048576 := hs.2.1; omega
  have hpn : pn ≤ 1048576 := by have h : ps.length ≤ 1048576 := hs.2.2.1; omega
  have HS : Hid (∀ i, i < ps.length → (ps.getD i []).length ≤ 1048576) := hs.each
  obtain ⟨U, hU⟩ : ∃ U, U = ((w.alloc (.cells #[.int .i64 K, .int .i64 A, .int .i64 B, .slice ta tn tc, .slice ca cn cc, .slice pa pn pc] 45)).alloc (.cells #[.int .i64 0, .int .i64 0, .int .i64 0, .slice none 0 0, .slice none 0 0, .slice none 0 0] 45)) := ⟨_, rfl⟩
  have zU : U.heap.size = w.heap.size + 1 + 1 := by rw [hU]; simp
  have BU : Below w.heap.size w U := by rw [hU]; exact ((Below.refl _ _).alloc (Nat.le_refl _) _).alloc (by simp) _
  have b1 : U.heap[w.heap.size + 1]? = some (.cells #[.int .i64 0, .int .i64 0, .int .i64 0, .slice none 0 0, .slice none 0 0, .slice none 0 0] 45 (0, 0)) := by
    rw [hU]
    have q := heap_alloc_new (w.alloc (.cells #[.int .i64 K, .int .i64 A, .int .i64 B, .slice ta tn tc, .slice ca cn cc, .slice pa pn pc] 45)) (.cells #[.int .i64 0, .int .i64 0, .int .i64 0, .slice none 0 0, .slice none 0 0, .slice none 0 0] 45)
    simpa only [World.size_alloc] using q
  have b0 : U.heap[w.heap.size]? = some (.cells #[.int .i64 K, .int .i64 A, .int .i64 B, .slice ta tn tc, .slice ca cn cc, .slice pa pn pc] 45 (0, 0)) := by
    rw [hU]
    exact blk_alloc (heap_alloc_new w _) _
  have hat1 : At U ta (flatE ts) := At.below hte BU
  have HTE : Hid (At (U.alloc (.cells #[] 102)) ta (flatE ts)) := hat1.alloc _
  have HNT : Hid (ta = none → tc = 0 ∧ tn = 0) := fun h => ⟨hnt h, by subst h; have h0 := at_none hte; have h2 := flatE_len ts; rw [h0] at h2; simp at h2; omega⟩
  have HLT : Hid (((flatE ts).map (Value.int .i64)).length = tn * 3) := by show _ = _; rw [List.length_map, flatE_len, hts]
  have HNC : Hid (ca = none → cc = 0 ∧ cn = 0) := fun h => ⟨hnc h, by subst h; have h0 := at_none hca; rw [← hzs, h0]; rfl⟩
  have HLC : Hid ((zs.map (Value.int .i64)).length = cn * 1) := by show _ = _; rw [List.length_map, hzs]; omega
  have HTS := Hid.mk hts
  have HZS := Hid.mk hzs
  have HPS := Hid.mk hps
  have HCA := Hid.mk hca
  have HPA := Hid.mk hpa
  have OE := owns_empty U 102 3
  clear hts hzs hps hs hte hnt hca hnc hpa hat1
  have n0 := blk_cell b0 3 (v := .slice ta tn tc) rfl
  have y0 : w.heap.size < U.heap.size := by omega
  have HZU := Hid.mk zU
  clear zU
  go_enter Try.func24, Try.ntmps24
  go_upto_region 1 with fail
  rw [← hU]
  clear hU
  go_wp2_with (at_builtin; refine wpList_append_vals rfl (.tmp 6) (.tmp 8) 42 rfl U.heap.size 102 i0 (.agg #[.int .i64 0, .int .i64 0, .int .i64 0]) 3 24 Try.underlying42 hi hz0 hz1 hz2 rfl (by decide) (.slice (some ⟨U.heap.size, 0, none⟩) 0 0) 0 [] rfl OE ta tn tc ((flatE ts).map (Value.int .i64)) rfl HLT.out (at_vals HTE.out) (ints_one _) HNT.out (by unfold maxLen; omega) (by omega) (by simp) ?_)
  intro r1 d1 w2 ho1 hg1 ht1
  (try simp only [Nat.zero_add, List.nil_append] at ho1 ht1 ⊢)
  have zU := HZU.out
  have z2 : U.heap.size < w2.heap.size := by have h9 := hg1.size; simp at h9; omega
  have k0' := (hg1.block w.heap.size (by simp; omega) (by simp [Value.ownBlock]; omega)).trans (blk_alloc b0 _)
  have k1' := (hg1.block (w.heap.size + 1) (by simp; omega) (by simp [Value.ownBlock]; omega)).trans (blk_alloc b1 _)
  have B2 : Below w.heap.size w w2 := (BU.alloc BU.size _).grown hg1 (by simp; omega) (fun j hj => by simp [Value.ownBlock] at hj; omega)
  have hot : RTests.Own w2 (From (w.heap.size + 2) w2.heap.size) [.slice r1 tn d1] ts := RTests.own_iff.2 ⟨HTS.out, by omega, owns_mono ho1 (Nat.zero_le _), fun b hb => ⟨by have h9 := (ho1.lt b hb).1; omega, (ho1.lt b hb).2⟩⟩
  have m3 := blk_cell k0' 3 (v := .slice ta tn tc) rfl
  have f3 := blk_frozen k0' 3
  obtain ⟨X, hX⟩ : ∃ u, u = w2.setCell ⟨w.heap.size, 3, none⟩ (.slice r1 tn d1) := ⟨_, rfl⟩
  have zX : X.heap.size = w2.heap.size := by rw [hX]; simp [World.setCell]
  have SX : Off (fun b => b = w.heap.size) w2 X := by rw [hX]; exact Off.set (F := fun b => b = w.heap.size) rfl _
  have bX : X.heap[w.heap.size]? = some (.cells #[.int .i64 K, .int .i64 A, .int .i64 B, .slice r1 tn d1, .slice ca cn cc, .slice pa pn pc] 45 (0, 0)) := by rw [hX]; exact blk_set k0' 3 _
  have bXZ : X.heap[w.heap.size + 1]? = some (.cells #[.int .i64 0, .int .i64 0, .int .i64 0, .slice none 0 0, .slice none 0 0, .slice none 0 0] 45 (0, 0)) := by rw [hX]; exact blk_other k1' (by simp) _
  have HOT : Hid (RTests.Own X (From (w.heap.size + 2) X.heap.size) [.slice r1 tn d1] ts) := by show RTests.Own _ _ _ _; rw [zX]; exact RTests.ownOff hot SX (fun b h e => by have h9 := h.1; omega)
  have BX : Below w.heap.size w X := by rw [hX]; exact B2.setCell (Nat.le_refl _) _
  have zN : w.heap.size + 1 < X.heap.size := by omega
  go_upto_region 2 with fail
  rw [← hX]
  clear hX zX SX hot hg1 ho1 ht1 k0' k1' b0 b1 m3 f3 B2 OE HTE n0 y0 BU zU HZU z2
  have HCX : Hid (At (X.alloc (.cells #[] 3)) ca zs) := (HCA.out.below BX).alloc _
  have n4 := blk_cell bX 4 (v := .slice ca cn cc) rfl
  have OE := owns_empty X 3 1
  have y0 : w.heap.size < X.heap.size := by omega
  go_wp2_with (at_builtin; refine wpList_append_vals rfl (.tmp 11) (.tmp 13) 22 rfl X.heap.size 3 j0 (.int .i64 0) 1 8 Try.underlying22 hj hy0 hy1 hy2 rfl (by decide) (.slice (some ⟨X.heap.size, 0, none⟩) 0 0) 0 [] rfl OE ca cn cc (zs.map (Value.int .i64)) rfl HLC.out (at_vals HCX.out) (ints_one _) HNC.out (by unfold maxLen; omega) (by omega) (by simp) ?_)
  intro r2 d2 w3 ho2 hg2 ht2
  (try simp only [Nat.zero_add, List.nil_append] at ho2 ht2 ⊢)
  have z3 : X.heap.size < w3.heap.size := by have h9 := hg2.size; simp at h9; omega
  have k0' := (hg2.block w.heap.size (by simp; omega) (by simp [Value.ownBlock]; omega)).trans (blk_alloc bX _)
  have k1' := (hg2.block (w.heap.size + 1) (by simp; omega) (by simp [Value.ownBlock]; omega)).trans (blk_alloc bXZ _)
  have B3 : Below w.heap.size w w3 := (BX.alloc BX.size _).grown hg2 (by simp; omega) (fun j hj => by simp [Value.ownBlock] at hj; omega)
  have BX3 : Below X.heap.size X w3 := ((Below.refl _ _).alloc (Nat.le_refl _) _).grown hg2 (by simp) (fun j hj => by simp [Value.ownBlock] at hj; omega)
  have hot := RTests.ownBelow HOT.out BX3
  have hoc : RInts.Own w3 (From X.heap.size w3.heap.size) [.slice r2 cn d2] zs := RInts.of_owns HZS.out (by omega) ho2
  have m4 := blk_cell k0' 4 (v := .slice ca cn cc) rfl
  have f4 := blk_frozen k0' 4
  obtain ⟨V, hV⟩ : ∃ u, u = w3.setCell ⟨w.heap.size, 4, none⟩ (.slice r2 cn d2) := ⟨_, rfl⟩
  have zV : V.heap.size = w3.heap.size := by rw [hV]; simp [World.setCell]
  have SV : Off (fun b => b = w.heap.size) w3 V := by rw [hV]; exact Off.set (F := fun b => b = w.heap.size) rfl _
  have bV : V.heap[w.heap.size]? = some (.cells #[.int .i64 K, .int .i64 A, .int .i64 B, .slice r1 tn d1, .slice r2 cn d2, .slice pa pn pc] 45 (0, 0)) := by rw [hV]; exact blk_set k0' 4 _
  have bVZ : V.heap[w.heap.size + 1]? = some (.cells #[.int .i64 0, .int .i64 0, .int .i64 0, .slice none 0 0, .slice none 0 0, .slice none 0 0] 45 (0, 0)) := by rw [hV]; exact blk_other k1' (by simp) _
  obtain ⟨q1, hq1⟩ : ∃ q, q = X.heap.size := ⟨_, rfl⟩
  obtain ⟨q2, hq2⟩ : ∃ q, q = V.heap.size := ⟨_, rfl⟩
  have hq12 : q1 ≤ q2 := by omega
  have hq0 : w.heap.size + 2 ≤ q1 := by omega
  have HOTV : Hid (RTests.Own V (From (w.heap.size + 2) q1) [.slice r1 tn d1] ts) := by show RTests.Own _ _ _ _; rw [hq1]; exact RTests.ownOff hot SV (fun b h e => by have h9 := h.1; omega)
  have HOCV : Hid (RInts.Own V (From q1 q2) [.slice r2 cn d2] zs) := by show RInts.Own _ _ _ _; rw [hq1, hq2, zV]; exact RInts.ownOff hoc SV (fun b h e => by have h9 := h.1; omega)
  have BV : Below w.heap.size w V := by rw [hV]; exact B3.setCell (Nat.le_refl _) _
  have n5 := blk_cell bV 5 (v := .slice pa pn pc) rfl
  have zNV : w.heap.size + 1 < V.heap.size := by omega
  go_upto_region 3 with fail
  rw [← hV]
  clear hV zV SV hot hoc hg2 ho2 ht2 k0' k1' bX bXZ m4 f4 B3 BX3 BX OE HCX n4 y0 zN z3 HOT
  have hqV : q2 ≤ V.heap.size := by omega
  clear hq1 hq2
  go_upto_region 5 with fail
  go_loopw [3, 19] (fun l i wr => ∃ (k : Nat) (r : Option Addr) (d : Nat) (cells : List Value) (G : Nat → Nat → Prop), k ≤ pn ∧ i = .int .i64 k ∧ l = .slice r k d ∧ wr.heap[w.heap.size]? = some (.cells #[.int .i64 K, .int .i64 A, .int .i64 B, .slice r1 tn d1, .slice r2 cn d2, .slice pa pn pc] 45 (0, 0)) ∧ wr.heap[w.heap.size + 1]? = some (.cells #[.int .i64 0, .int .i64 0, .int .i64 0, .slice none 0 0, .slice none 0 0, .slice none 0 0] 45 (0, 0)) ∧
    Laid RInts wr (From q2 wr.heap.size) 22 r k d (ps.take k) cells G k ∧ wr.ownsRow q2 22 1 (.slice r k d) k cells ∧ RTests.Own wr (From (w.heap.size + 2) q1) [.slice r1 tn d1] ts ∧ RInts.Own wr (From q1 q2) [.slice r2 cn d2] zs ∧ q2 ≤ wr.heap.size ∧ Below w.heap.size w wr) (fun _ i _ => pn - (intOf i).toNat)
  case atStart => exact ⟨0, none, 0, [], _, Nat.zero_le _, rfl, rfl, bV, bVZ, Laid.none RInts V _ _, World.ownsRow_nil _ _ _ _, HOTV.out, HOCV.out, hqV, BV⟩
  case round =>
    clear bV bVZ HOTV HOCV hqV BV n5 zNV
    obtain ⟨k, r, d, cells, G, hkp, rfl, rfl, bV, bVZ, hl, how, hot, hoc, hqr, hbw⟩ := hrel
    by_cases hlt : k < pn
    · obtain ⟨zs', hx⟩ : ∃ zs, ps[k]? = some zs := ⟨_, List.getElem?_eq_getElem (by have := HPS.out; omega)⟩
      obtain ⟨b, off, a', m, c', hpa, hcx, hm, hm1, hax, hnx⟩ := atSl_pair (HPA.out.below hbw) hx
      have hsm : m ≤ 1048576 := by
        have h1 := HS.out k (List.getElem?_eq_some_iff.1 hx).1
        have h2 : ps.getD k [] = zs' := by simp [List.getD, hx]
        rw [h2, hm] at h1
        exact h1
      subst hpa
      have HAX : Hid (At (wr.alloc (.cells #[] 3)) a' zs') := hax.alloc _
      have HM := Hid.mk hm
      have HLM : Hid ((zs'.map (Value.int .i64)).length = m * 1) := by show _ = _; rw [List.length_map, hm]; omega
      have HNX : Hid (a' = none → c' = 0 ∧ m = 0) := fun ha => ⟨hnx ha, by subst ha; have h0 := at_none hax; rw [← hm, h0]; rfl⟩
      have HL := Hid.mk hl
      have HW := Hid.mk how
      have HOT := Hid.mk hot
      have HOC := Hid.mk hoc
      have HTK : Hid (ps.take (k + 1) = ps.take k ++ [zs']) := by
        show _ = _
        have hk' := (List.getElem?_eq_some_iff.1 hx).1
        rw [List.take_succ_eq_append_getElem hk', (List.getElem?_eq_some_iff.1 hx).2]
      have hki : (k : Int) < (pn : Int) := by omega
      have HB := Hid.mk hbw
      have OE := owns_empty wr 3 1
      clear hax hm hnx hl how hx hbw hot hoc
      go_wp2_with (at_builtin; refine wpList_append_vals rfl (.tmp 24) (.tmp 25) 22 rfl wr.heap.size 3 j0 (.int .i64 0) 1 8 Try.underlying22 hj hy0 hy1 hy2 rfl (by decide) (.slice (some ⟨wr.heap.size, 0, none⟩) 0 0) 0 [] rfl OE a' m c' (zs'.map (Value.int .i64)) rfl HLM.out (at_vals HAX.out) (ints_one _) HNX.out (by unfold maxLen; omega) (by omega) (by simp) ?_)
      intro r3 d3 w4 ho3 hg3 ht3
      (try simp only [Nat.zero_add, List.nil_append] at ho3 ht3 ⊢)
      have hb2 : Below wr.heap.size wr w4 := ((Below.refl _ _).alloc (Nat.le_refl _) _).grown hg3 (by simp) (fun j hj => by simp [Value.ownBlock] at hj; omega)
      have z4 := hb2.size
      have HOI : Hid (RInts.Own w4 (From wr.heap.size w4.heap.size) [.slice r3 m d3] zs') := RInts.of_owns HM.out hm1 ho3
      have HW4 : Hid (w4.ownsRow q2 22 1 (.slice r k d) k cells) := owns_below HW.out hb2
      have bV4 := blk_below bV hb2
      have bVZ4 := blk_below bVZ hb2
      have HB2 := Hid.mk hb2
      clear OE hg3 ho3 ht3 hb2 bV bVZ
      go_wp2_with (at_builtin; refine wpList_append_vals rfl (.tmp 23) (.tmp 27) 43 rfl q2 22 k0 (.slice none 0 0) 1 24 Try.underlying43 hk hx0 hx1 hx2 rfl (by decide) (.slice r k d) k cells rfl (HW4.out.alloc _) (some ⟨w4.heap.size, 0, none⟩) 1 1 [.slice r3 m d3] rfl rfl (fun ad he => by cases he; simpa using news_at w4 #[.slice r3 m d3] 22) (by simp; rfl) (fun h => by cases h) (by unfold maxLen; omega) (by omega) (by simp; omega) ?_)
      intro r4 d4 w5 ho4 hg4 ht4
      have hb2 := HB2.out
      have z5 : w4.heap.size < w5.heap.size := by have h9 := hg4.size; simp at h9; omega
      have BG : ∀ b, b < w4.heap.size → (Value.slice r k d).ownBlock ≠ some b → w5.heap[b]? = w4.heap[b]? := fun b hb hn => (hg4.block b (by simp; omega) (fun e => hn e.symm)).trans (Below.heap_alloc w4 _ b hb)
      have hpush := HL.out.push (F' := From q2 w5.heap.size) (fun b h => h.2) hb2 HOI.out (fun b h => h) BG (owns_mono ho4 (Nat.zero_le _)) (by
        rcases ht4 with h9 | h9
        · exact .inl h9
        · refine .inr (fun b e => ?_)
          rw [h9] at e
          simp at e
          omega) (by omega) (fun b h => ⟨h.1, by have := h.2; omega⟩) (fun b h => ⟨by have := h.1; omega, by have := h.2; omega⟩) (fun b h => ho4.lt b h)
      have hout : ∀ b, b < q2 → (Value.slice r k d).ownBlock ≠ some b := fun b hb e => by have h9 := (HW.out.lt b e).1; omega
      obtain ⟨G', HL'⟩ : ∃ G', Hid (Laid RInts w5 (From q2 w5.heap.size) 22 r4 (k + 1) d4 (ps.take (k + 1)) (cells ++ [.slice r3 m d3]) G' (k + 1)) := by
        rw [HTK.out]
        exact ⟨_, Hid.mk hpush⟩
      have HW5 := Hid.mk ho4
      have K0 : Hid (w5.heap[w.heap.size]? = some (.cells #[.int .i64 K, .int .i64 A, .int .i64 B, .slice r1 tn d1, .slice r2 cn d2, .slice (some ⟨b, off, none⟩) pn pc] 45 (0, 0))) := (BG _ (by omega) (hout _ (by omega))).trans bV4
      have K1 : Hid (w5.heap[w.heap.size + 1]? = some (.cells #[.int .i64 0, .int .i64 0, .int .i64 0, .slice none 0 0, .slice none 0 0, .slice none 0 0] 45 (0, 0))) := (BG _ (by omega) (hout _ (by omega))).trans bVZ4
      have HOT' : Hid (RTests.Own w5 (From (w.heap.size + 2) q1) [.slice r1 tn d1] ts) := RTests.frame HOT.out (fun b h1 h2 => by
        have h3 := h1.2
        rw [BG b (by omega) (hout b (by omega))]
        exact hb2.block b h2)
      have HOC' : Hid (RInts.Own w5 (From q1 q2) [.slice r2 cn d2] zs) := RInts.frame HOC.out (fun b h1 h2 => by
        have h3 := h1.2
        rw [BG b (by omega) (hout b (by omega))]
        exact hb2.block b h2)
      have HB' : Hid (Below w.heap.size w w5) := (HB.out.trans (hb2.mono HB.out.size)).trans (show Below w.heap.size w4 w5 from ⟨hg4.os, hg4.tape, hg4.output, by omega, fun b hb => BG b (by have := HB.out.size; omega) (hout b (by omega))⟩)
      have HZQ : Hid (q2 ≤ w5.heap.size) := by show _ ≤ _; omega
      clear hpush BG ho4 hg4 ht4 bV4 bVZ4 hb2 hout
      go_wp2
      go_roundw
      case rel => exact ⟨k + 1, r4, d4, _, _, by omega, by go_num, rfl, K0.out, K1.out, HL'.out, HW5.out, HOT'.out, HOC'.out, HZQ.out, HB'.out⟩
      case measure => simp [intOf]; omega
    · obtain rfl : k = pn := by omega
      have s5 := blk_cell bV 5 (v := .slice pa k pc) rfl
      have g5 := blk_frozen bV 5
      obtain ⟨X5, hX5⟩ : ∃ u, u = wr.setCell ⟨w.heap.size, 5, none⟩ (.slice r k d) := ⟨_, rfl⟩
      have zX5 : X5.heap.size = wr.heap.size := by rw [hX5]; simp [World.setCell]
      have S5 : Off (fun b => b = w.heap.size) wr X5 := by rw [hX5]; exact Off.set (F := fun b => b = w.heap.size) rfl _
      have b5 : X5.heap[w.heap.size]? = some (.cells #[.int .i64 K, .int .i64 A, .int .i64 B, .slice r1 tn d1, .slice r2 cn d2, .slice r k d] 45 (0, 0)) := by rw [hX5]; exact blk_set bV 5 _
      have b5Z : X5.heap[w.heap.size + 1]? = some (.cells #[.int .i64 0, .int .i64 0, .int .i64 0, .slice none 0 0, .slice none 0 0, .slice none 0 0] 45 (0, 0)) := by rw [hX5]; exact blk_other bVZ (by simp) _
      have B5 : Below w.heap.size w X5 := by rw [hX5]; exact hbw.setCell (Nat.le_refl _) _
      go_upto_region 10 with fail
      rw [← hX5]
      obtain ⟨Y, hY⟩ : ∃ u, u = stores X5 (w.heap.size + 1) 0 [.int .i64 K, .int .i64 A, .int .i64 B, .slice r1 tn d1, .slice r2 cn d2, .slice r k d] := ⟨_, rfl⟩
      have zY : Y.heap.size = X5.heap.size := by rw [hY]; exact stores_size _ _ _ _
      have SY : Off (fun b => b = w.heap.size + 1) X5 Y := by rw [hY]; exact stores_off (F := fun b => b = w.heap.size + 1) _ _ _ _ rfl
      have BY : Below w.heap.size w Y := by rw [hY]; exact stores_below _ _ _ _ B5 (by omega)
      have o1 : RTests.Own Y (From (w.heap.size + 2) q1) [.slice r1 tn d1] ts := RTests.ownOff (RTests.ownOff hot S5 (fun b h e => by have h9 := h.1; omega)) SY (fun b h e => by have h9 := h.1; omega)
      have o2 : RInts.Own Y (From q1 q2) [.slice r2 cn d2] zs := RInts.ownOff (RInts.ownOff hoc S5 (fun b h e => by have h9 := h.1; omega)) SY (fun b h e => by have h9 := h.1; omega)
      have o3 : RPairs.Own Y (From q2 Y.heap.size) [.slice r k d] ps := by
        refine ⟨r, k, d, cells, G, rfl, ?_⟩
        have h9 := (hl.frame (w' := X5) (fun b h1 h2 => S5.block b h2 (fun e => by have h3 := h1.1; omega))).frame (w' := Y) (fun b h1 h2 => SY.block b h2 (fun e => by have h3 := h1.1; omega))
        rw [List.take_of_length_le (by rw [HPS.out]; exact Nat.le_refl _)] at h9
        rw [zY, zX5]
        exact h9
      have HR : Hid (PartRet (.returned (.agg #[.int .i64 K, .int .i64 A, .int .i64 B, .slice r1 tn d1, .slice r2 cn d2, .slice r k d])) Y w.heap.size (K, A, B, ts, zs, ps)) := by
        refine ⟨r1, d1, r2, d2, r, d, by simp only [HTS.out, HZS.out, HPS.out], ?_⟩
        simp only [HTS.out, HZS.out, HPS.out]
        exact RPart.own_mk o1 o2 o3 (fun b h => ⟨by have := h.1; omega, by have := h.2; omega⟩) (fun b h => ⟨by have := h.1; omega, by have := h.2; omega⟩) (fun b h => ⟨by have := h.1; omega, h.2⟩) (fun b h1 h2 => by have := h1.2; have := h2.1; omega) (fun b h1 h2 => by have := h1.2; have := h2.1; omega) (fun b h1 h2 => by have := h1.2; have := h2.1; omega)
      have HY := Hid.mk hY
      have HD := Hid.mk BY
      have u0 := blk_cell b5 0 rfl
      have p0 := blk_cell b5Z 0 rfl
      have e0 := blk_frozen b5Z 0
      have u1 := blk_cell b5 1 rfl
      have p1 := blk_cell b5Z 1 rfl
      have e1 := blk_frozen b5Z 1
      have u2 := blk_cell b5 2 rfl
      have p2 := blk_cell b5Z 2 rfl
      have e2 := blk_frozen b5Z 2
      have u3 := blk_cell b5 3 rfl
      have p3 := blk_cell b5Z 3 rfl
      have e3 := blk_frozen b5Z 3
      have u4 := blk_cell b5 4 rfl
      have p4 := blk_cell b5Z 4 rfl
      have e4 := blk_frozen b5Z 4
      have u5 := blk_cell b5 5 rfl
      have p5 := blk_cell b5Z 5 rfl
      have e5 := blk_frozen b5Z 5
      clear hX5 zX5 S5 b5 b5Z B5 hY zY SY BY o1 o2 o3 hl how hot hoc bV bVZ hbw s5 g5
      go_wp2
      refine bodyPost_ret (v := .agg #[.int .i64 K, .int .i64 A, .int .i64 B, .slice r1 tn d1, .slice r2 cn d2, .slice r k d]) (by simp [results, Try.results24, go_sem, p0, p1, p2, p3, p4, p5]) rfl ⟨?_, ?_⟩
      · have h := HR.out
        rw [HY.out] at h
        exact h
      · have h := HD.out
        rw [HY.out] at h
        exact h
end Go.Proofs.Ythdcjelahoiepab
