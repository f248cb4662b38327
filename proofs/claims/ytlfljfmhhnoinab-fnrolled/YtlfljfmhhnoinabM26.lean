/- Several texts of one proof, in build order: CurG, CurD, ConcG, MgP, ConcI. -/
import Derived.Test.YtlfljfmhhnoinabM15
import Derived.Test.YtlfljfmhhnoinabM25
import Derived.Lib.Walk
import Derived.Lib.AppendZerosOnto
import Derived.Test.YtlfljfmhhnoinabM22
import Derived.Test.YtlfljfmhhnoinabM17
import Derived.Test.YtlfljfmhhnoinabM19
import Derived.Test.YtlfljfmhhnoinabM0
import Derived.Test.YtlfljfmhhnoinabM8

/- What the model's cursor draws: groups. One group of a slice of the call's own set anew. -/
namespace Go.Proofs.Ytlfljfmhhnoinab
open Go.RowKit

theorem tamper {w w'' : World} {lo hi C : Nat} {te ti : TypeId} {g n c : Nat} {ts : List GRow} {cells : List Value} (h : OwnV w lo hi te ti (some ⟨g, 0, none⟩) n c ts cells) (hs : ∀ i, i < n → (gat ts i).1.length ≤ 9223372036854775807)
    (k j : Nat) (v : Value) (t : GRow) (hg : (w.setCell ⟨g, k * 3 + j, none⟩ v).grownBy w'' (some C)) (hC : C < lo) (hk : k < n) (hj : j < 3)
    (hq : ∃ a' c', (cells.set (k * 3 + j) v)[k * 3]? = some (.slice a' t.1.length c') ∧ (cells.set (k * 3 + j) v)[k * 3 + 1]? = some (.int .i64 t.2.1) ∧ (cells.set (k * 3 + j) v)[k * 3 + 2]? = some (.int .i64 t.2.2) ∧ t.1.length ≤ 9223372036854775807 ∧ (a' = none → c' = 0) ∧ At w'' a' t.1) :
    AtN w'' (some ⟨g, 0, none⟩) (ts.set k t) := by
  have hl := h.len
  have hout := (h.outer.stored (k * 3 + j) v).1.kept hg (.inr (fun e => by have h9 := (h.outer.lt C e).1; omega))
  refine MeansN.ownedN (meansN_of ?_ fun i hi => ?_) (by simp [hl]) hout
  · rw [hout.1]; simp [hl]
  · rw [List.length_set, hl] at hi
    by_cases e : i = k
    · subst e
      rw [show gat (ts.set i t) i = t by simp [gat, List.getD, hl, hi]]
      exact hq
    · rw [show gat (ts.set k t) i = gat ts i by simp [gat, List.getD, Ne.symm e]]
      obtain ⟨a', c', k1, k2, k2', k3⟩ := h.row i hi
      have hset : ∀ d, d < 3 → (cells.set (k * 3 + j) v)[i * 3 + d]? = cells[i * 3 + d]? := fun d hd => List.getElem?_set_ne (by omega)
      have k3' := (k3.kept (setCell_grown w ⟨g, k * 3 + j, none⟩ v) (by
        cases hb : (Value.slice a' (gat ts i).1.length c').ownBlock with
        | none => exact .inl rfl
        | some b => exact .inr (fun e' => (h.rowLt i hi b (by rw [blkV_of k1]; exact hb)).2 (by simp [Value.ownBlock]; simpa using e'.symm)))).kept hg (.inr (fun e' => by have h9 := (k3.lt C e').1; omega))
      exact ⟨a', c', by have := hset 0 (by omega); simp only [Nat.add_zero] at this; rw [this]; exact k1, by rw [hset 1 (by omega)]; exact k2, by rw [hset 2 (by omega)]; exact k2', hs i hi, owns_nil k3, At.owned k3'⟩
theorem ansG_small {ok : Bool} {ts : List GRow} (h : ok = true → goodV ts = true) : (ansG ok ts).length ≤ 60 ∧ ∀ i, i < (ansG ok ts).length → (gat (ansG ok ts) i).1.length ≤ 6 := by
  cases ok with
  | false => exact ⟨by simp [ansG], fun i hi => by simp [ansG] at hi⟩
  | true =>
    have hg := h rfl
    exact ⟨(goodV_parts hg).1, fun i hi => good_len (goodV_at hg i hi).1⟩
/-- What is drawn stands whatever the cursor does on. -/
def Stays (w : World) (C : Nat) (r : Option Addr) (ts : List GRow) : Prop := ∀ w', w.grownBy w' (some C) → AtN w' r ts
def upTo (k : Nat) : List Int := (List.range k).map fun (i : Nat) => (i : Int)
theorem upTo_length (k : Nat) : (upTo k).length = k := by simp [upTo]
theorem upTo_succ (k : Nat) : upTo (k + 1) = upTo k ++ [(k : Int)] := by simp [upTo, List.range_succ]

section
variable {w : World} {lo hi C g m d : Nat} {us : List GRow} {cs : List Value} (h : OwnV w lo hi 73 3 (some ⟨g, 0, none⟩) m d us cs) (hs : ∀ i, i < m → (gat us i).1.length ≤ 6) (hC : C < lo) (K : Nat) (hK : K < m)
include h hs hC hK
omit hs in
theorem key_stays (j : Nat) (v : Value) (w' : World) (hg : (w.setCell ⟨g, j, none⟩ v).grownBy w' (some C)) : ∃ a' c', cs[K * 3]? = some (.slice a' (gat us K).1.length c') ∧ cs[K * 3 + 1]? = some (.int .i64 (gat us K).2.1) ∧ cs[K * 3 + 2]? = some (.int .i64 (gat us K).2.2) ∧ (a' = none → c' = 0) ∧ At w' a' (gat us K).1 := by
  obtain ⟨a', c', k1, k2, k2', k3⟩ := h.row K hK
  have k3' := (k3.kept (setCell_grown w ⟨g, j, none⟩ v) (by
    cases hb : (Value.slice a' (gat us K).1.length c').ownBlock with
    | none => exact .inl rfl
    | some b => exact .inr (fun e' => (h.rowLt K hK b (by rw [blkV_of k1]; exact hb)).2 (by simp [Value.ownBlock]; simpa using e'.symm)))).kept hg (.inr (fun e' => by have h9 := (k3.lt C e').1; omega))
  exact ⟨a', c', k1, k2, k2', owns_nil k3, At.owned k3'⟩
theorem stays1 (z : Int) : Stays (w.setCell ⟨g, K * 3 + 1, none⟩ (.int .i64 z)) C (some ⟨g, 0, none⟩) (us.set K ((gat us K).1, z, (gat us K).2.2)) := fun w' hg => by
  obtain ⟨a', c', k1, k2, k2', hn, ha⟩ := key_stays h hC K hK _ _ w' hg
  have hcl : cs.length = m * 3 := h.outer.1
  exact tamper h (fun i hi => Nat.le_trans (hs i hi) (by decide)) K 1 _ _ hg hC hK (by omega) ⟨a', c', by rw [List.getElem?_set_ne (by omega)]; exact k1, by rw [List.getElem?_set_self (by omega)], by rw [List.getElem?_set_ne (by omega)]; exact k2', Nat.le_trans (hs K hK) (by decide), hn, ha⟩
theorem stays2 (z : Int) : Stays (w.setCell ⟨g, K * 3 + 2, none⟩ (.int .i64 z)) C (some ⟨g, 0, none⟩) (us.set K ((gat us K).1, (gat us K).2.1, z)) := fun w' hg => by
  obtain ⟨a', c', k1, k2, k2', hn, ha⟩ := key_stays h hC K hK _ _ w' hg
  have hcl : cs.length = m * 3 := h.outer.1
  exact tamper h (fun i hi => Nat.le_trans (hs i hi) (by decide)) K 2 _ _ hg hC hK (by omega) ⟨a', c', by rw [List.getElem?_set_ne (by omega)]; exact k1, by rw [List.getElem?_set_ne (by omega)]; exact k2, by rw [List.getElem?_set_self (by omega)], Nat.le_trans (hs K hK) (by decide), hn, ha⟩
theorem stays0 (r : Option Addr) (p e : Nat) (zs : List Int) (hz : zs.length = p) (hp : p ≤ 6) (hrow : w.ownsRow hi 3 1 (.slice r p e) p (zs.map (.int .i64))) : Stays (w.setCell ⟨g, K * 3, none⟩ (.slice r p e)) C (some ⟨g, 0, none⟩) (us.set K (zs, (gat us K).2)) := fun w' hg => by
  obtain ⟨a', c', k1, k2, k2', hn, ha⟩ := key_stays h hC K hK _ _ w' hg
  have hcl : cs.length = m * 3 := h.outer.1
  have hgh := h.outerLt g rfl
  have hlg := (h.outer.lt g rfl).1
  have hr := (hrow.kept (setCell_grown w ⟨g, K * 3, none⟩ (.slice r p e)) (.inr (fun e' => by have h9 := (hrow.lt g e').1; omega))).kept hg (.inr (fun e' => by have h9 := (hrow.lt C e').1; omega))
  exact tamper h (fun i hi => Nat.le_trans (hs i hi) (by decide)) K 0 _ _ hg hC hK (by omega) ⟨r, e, by show (cs.set (K * 3) _)[K * 3]? = _; rw [List.getElem?_set_self (by omega), hz], by show (cs.set (K * 3) _)[K * 3 + 1]? = _; rw [List.getElem?_set_ne (by omega)]; exact k2, by show (cs.set (K * 3) _)[K * 3 + 2]? = _; rw [List.getElem?_set_ne (by omega)]; exact k2', by rw [hz]; omega, owns_nil hrow, At.owned hr⟩
end
theorem set_six {us : List GRow} {m K : Nat} {t : GRow} (hl : us.length = m) (hs : ∀ i, i < m → (gat us i).1.length ≤ 6) (ht : t.1.length ≤ 6) : ∀ i, i < m → (gat (us.set K t) i).1.length ≤ 6 := fun i hi => by
  by_cases e : i = K
  · subst e
    rw [show gat (us.set i t) i = t by simp [gat, List.getD, hl, hi]]; exact ht
  · rw [show gat (us.set K t) i = gat us i by simp [gat, List.getD, Ne.symm e]]; exact hs i hi

set_option maxRecDepth 100000 in
set_option maxHeartbeats 6000000 in
theorem groups_drw (p : Nat) (C : Nat) (a : Option Addr) (n c M : Nat) (w : World) (hp0 : 1 ≤ p) (hp : p ≤ 6) (hM : M ≤ 400000000) (h : Drw w C a n c M) :
    Calls Try.prog 54 #[.pointer (some ⟨C, 0, none⟩), .int .i64 p] w fun e w' => ∃ (ts : List GRow) (r : Option Addr) (m d : Nat), ts.length = m ∧ m ≤ 60 ∧ (∀ i, i < m → (gat ts i).1.length ≤ 6) ∧ e = .returned (.slice r m d) ∧ Formed r m d ∧
      Stays w' C r ts ∧ Drw w' C a n c (M + 300) ∧ w.grownBy w' (some C) := by
  obtain ⟨i0, hi, hz0, hz1, hz2⟩ := info_parts Try.infoInt
  have hCl := h.lt
  have HBY := Hid.mk h.bytes
  go_enter Try.func54, Try.ntmps54
  go_wp2_with fail
  refine (clean_drw p C a n c M w hp (by omega) h).mono ?_
  rintro e w1 ⟨tt, r1, m1, d1, cs1, hgt, hm1, rfl, ho1, hd1, hg1⟩
  have z1 := hg1.size
  obtain ⟨X, hX⟩ : ∃ X, X = w1.alloc (.cells #[.int .i64 p, .slice r1 m1 d1] 32) := ⟨_, rfl⟩
  have hbX : Below w1.heap.size w1 X := by rw [hX]; exact (Below.refl _ _).alloc (Nat.le_refl _) _
  have x0 : X.cell? ⟨w1.heap.size, 0, none⟩ = some (.int .i64 p) := by rw [hX]; exact pair0 w1 _ _ _
  have x1 : X.cell? ⟨w1.heap.size, 1, none⟩ = some (.slice r1 m1 d1) := by rw [hX]; exact pair1 w1 _ _ _
  have HL1 := Hid.mk ho1.len
  have HAX := Hid.mk ((ho1.atW (fun i hi => by
    have := (goodW_cells (stepB_good ((goodT_parts hgt).2.2 i (by rw [ho1.len]; exact hi)))).2.1
    omega)).below hbX)
  have HDX := Hid.mk (hd1.below hbX)
  have HGX := Hid.mk (grown_below hg1 hbX)
  have zX := hbX.size
  clear h hd1 hg1 ho1 hgt
  go_wp2
  rw [← hX]
  clear hX hbX
  go_loopw [6, 7] (fun l i wr => ∃ (k : Nat) (r : Option Addr) (d : Nat), k ≤ p - 1 ∧ l = .slice r k d ∧ i = .int .i64 k ∧ wr.ownsRow X.heap.size 3 1 (.slice r k d) k ((upTo k).map (.int .i64)) ∧ Below X.heap.size X wr) (fun _ i _ => p - (intOf i).toNat)
  case atStart => exact ⟨0, none, 0, by omega, rfl, rfl, World.ownsRow_nil _ _ _ _, Below.refl _ _⟩
  case round =>
    obtain ⟨k, r, d, hk, rfl, rfl, ho, hbw⟩ := hrel
    have HO := Hid.mk ho
    have zw := hbw.size
    clear ho
    by_cases hlt : k < p - 1
    · have hki : (k : Int) < (p : Int) - 1 := by omega
      go_wp2_with (at_builtin; refine wpList_append_lies _ rfl (.tmp 20) (.tmp 22) 25 rfl X.heap.size 3 i0 (.int .i64 0) 1 8 Try.underlying25 hi hz0 hz1 hz2 rfl (by decide) (.slice r k d) k ((upTo k).map (.int .i64)) (by simp [Act.eval]) (HO.out.alloc _) ⟨wr.heap.size, 0, none⟩ 1 1 [.int .i64 k] (by simp [Act.eval]) rfl (by simpa using news_at wr #[.int .i64 k] 3) (by intro u hu; simp at hu; rw [hu]; rfl) (by decide) (by unfold maxLen; omega) (by omega) (by simp; omega) (wr.heap.size + 1) (by simp) ?_; intro g4 cap4 w4 hown4 hgrow4 hat4 hlt4; have HO4 := Hid.mk hown4; have HB4 := Hid.mk (hbw.trans (below_own (w := X) zw hgrow4 (fun k hk => (HO.out.lt k hk).1))); clear hown4 hgrow4 hat4 hlt4)
      go_roundw
      case rel => exact ⟨k + 1, _, _, by omega, rfl, by go_num, by rw [upTo_succ, List.map_append]; exact HO4.out, HB4.out⟩
      case measure => simp [intOf]; omega
    · obtain rfl : k = p - 1 := by omega
      have hki : ¬ ((p - 1 : Nat) : Int) < (p : Int) - 1 := by omega
      have y0 := cell_later hbw x0
      have y1 := cell_later hbw x1
      have HDW := Hid.mk (HDX.out.below hbw)
      have HGW := Hid.mk (grown_below HGX.out hbw)
      have HAW := Hid.mk (HAX.out.below hbw)
      have hsub : IntKind.i64.wrap ((p : Int) - 1) = ((p - 1 : Nat) : Int) := (IntWalk.i64_in _ (by omega)).trans (by omega)
      clear x0 x1 HDX HGX HAX hbw
      go_wp2_with fail
      refine (specGroupTable r1 r m1 (p - 1) d1 d tt (upTo (p - 1)) p ((p - 1 : Nat) : Int) wr HL1.out (by omega) (upTo_length _) (by omega) HAW.out (At.owned HO.out)).mono ?_
      rintro e w2 ⟨⟨r2, m2, d2, rfl, ho2⟩, hb2⟩
      have hsm := ansG_small (ok := gtB p tt (upTo (p - 1)) ((p - 1 : Nat) : Int)) gtB_goodV
      generalize gtB p tt (upTo (p - 1)) ((p - 1 : Nat) : Int) = ok at *
      generalize ansG ok (gtL tt (upTo (p - 1)) (((p - 1 : Nat) : Int)).toNat) = us at *
      obtain ⟨cs2, hv2⟩ := ho2
      have hlen := hv2.len
      have HV2 := Hid.mk hv2
      have HSM : Hid (∀ i, i < m2 → (gat us i).1.length ≤ 6) := fun i hi => hsm.2 i (by omega)
      have hm60 : m2 ≤ 60 := by have := hsm.1; omega
      have HLEN := Hid.mk hlen
      have HD2 := Hid.mk (HDW.out.below hb2)
      have HG2 := Hid.mk (grown_below HGW.out hb2)
      have zz : w.heap.size ≤ wr.heap.size := by omega
      have zg2 := HG2.out.size
      have HF2 := Hid.mk (owns_formed hv2.outer)
      clear hsm hv2 hb2 HDW HGW HAW HO hlen y0 y1
      have HSTAY : Hid (∀ w', w2.grownBy w' (some C) → AtN w' r2 us) := fun w' hg => OwnVk.atN (HV2.out.kept hg (fun k hk => by cases hk; exact .inl (by omega))) (fun i hi => Nat.le_trans (HSM.out i hi) (by decide))
      by_cases hm0 : m2 = 0
      · have hnp : decide ((0 : Int) < (m2 : Int)) = false := decide_eq_false (by omega)
        have hnp' : ¬ 0 < m2 := by omega
        clear hm0
        go_wp2
        go_ret
        exact ⟨us, r2, m2, d2, HLEN.out, hm60, HSM.out, rfl, HF2.out, HSTAY.out, HD2.out.mono (by omega), HG2.out⟩
      · have hnp : (0 : Int) < (m2 : Int) := by omega
        have hnp' : 0 < m2 := by omega
        clear hm0
        go_wp2_with fail
        refine (one_drw 20 C a n c (M + 200) w2 (by omega) HD2.out (by omega) (by omega)).mono ?_
        rintro e w3 ⟨bl, rfl, hd3, hg3⟩
        cases bl with
        | false =>
          have H3 := Hid.mk hd3
          have G3 := Hid.mk hg3
          clear hd3 hg3
          go_wp2
          go_ret
          exact ⟨us, r2, m2, d2, HLEN.out, hm60, HSM.out, rfl, HF2.out, fun w' hg => HSTAY.out w' (grown_trans G3.out hg), H3.out.mono (by omega), grown_trans HG2.out G3.out⟩
        | true =>
          obtain ⟨g, rfl⟩ : ∃ g, r2 = some ⟨g, 0, none⟩ := by
            rcases HV2.out.outer.2 with ⟨_, h0⟩ | ⟨g, cap, cur, hv', _⟩
            · omega
            · simp only [Value.slice.injEq, true_and] at hv'
              exact ⟨g, hv'.1⟩
          have H3 := Hid.mk hd3
          have G3 := Hid.mk (grown_trans HG2.out hg3)
          have HV3 := Hid.mk (HV2.out.kept hg3 (fun k hk => by cases hk; exact .inl (by omega)))
          clear hd3 hg3 HD2 HG2 HV2 HSTAY
          go_wp2_with fail
          refine (pick_drw m2 C a n c (M + 202) w3 (by omega) H3.out (by omega) (by omega)).mono ?_
          rintro e w4 ⟨x, hx0, _, hx1, rfl, hd4, hg4⟩
          obtain ⟨K, rfl⟩ : ∃ K : Nat, x = K := ⟨x.toNat, by omega⟩
          have hK : K < m2 := by omega
          have hKi : (K : Int) < (m2 : Int) := by omega
          have H4 := Hid.mk hd4
          have G4 := Hid.mk (grown_trans G3.out hg4)
          have HV4 := Hid.mk (HV3.out.kept hg4 (fun k hk => by cases hk; exact .inl (by omega)))
          clear hd4 hg4 H3 G3 HV3 hx0 hx1
          go_wp2_with fail
          refine (pick_drw 3 C a n c (M + 204) w4 (by omega) H4.out (by omega) (by omega)).mono ?_
          rintro e w5 ⟨y, hy0, _, hy1, rfl, hd5, hg5⟩
          have H5 := Hid.mk hd5
          have G5 := Hid.mk (grown_trans G4.out hg5)
          have HV5 := Hid.mk (HV4.out.kept hg5 (fun k hk => by cases hk; exact .inl (by omega)))
          clear hd5 hg5 H4 G4 HV4
          obtain ⟨a', c', k1, k2, k2', k3⟩ := HV5.out.row K hK
          have hcl : cs2.length = m2 * 3 := HV5.out.outer.1
          have u0 := (HV5.out.outer.cellAt (K * 3) (by omega)).trans k1
          have u1 := (HV5.out.outer.cellAt (K * 3 + 1) (by omega)).trans k2
          have u2 := (HV5.out.outer.cellAt (K * 3 + 2) (by omega)).trans k2'
          have f0 : w5.frozen? ⟨g, K * 3, none⟩ = false := HV5.out.outer.frozenAt _
          have f1 : w5.frozen? ⟨g, K * 3 + 1, none⟩ = false := HV5.out.outer.frozenAt _
          have f2 : w5.frozen? ⟨g, K * 3 + 2, none⟩ = false := HV5.out.outer.frozenAt _
          have hgl : w.heap.size ≤ g := by have h9 := (HV5.out.outer.lt g rfl).1; omega
          have hgC : C ≠ g := by omega
          clear k1 k2 k2' k3
          obtain ⟨A0, hA0⟩ : ∃ A, A = Value.slice a' (gat us K).1.length c' := ⟨_, rfl⟩
          obtain ⟨A1, hA1⟩ : ∃ A, A = (gat us K).2.1 := ⟨_, rfl⟩
          obtain ⟨A2, hA2⟩ : ∃ A, A = (gat us K).2.2 := ⟨_, rfl⟩
          rw [← hA1] at u1
          rw [← hA2] at u2
          clear hA0 hA1 hA2
          by_cases h0 : y = 0
          · subst h0
            go_wp2
            go_ret
            exact ⟨us.set K ((gat us K).1, 0, (gat us K).2.2), some ⟨g, 0, none⟩, m2, d2, by rw [List.length_set]; exact HLEN.out, hm60, set_six HLEN.out HSM.out (HSM.out K hK), rfl, HF2.out, stays1 (C := C) HV5.out HSM.out (by omega) K hK 0, H5.out.under ((Below.refl w.heap.size w5).setCell hgl _) hCl HBY.out (by omega), grown_set G5.out hgl⟩
          · by_cases h1 : y = 1
            · subst h1
              obtain ⟨V, hV⟩ : ∃ V, V = w5.alloc (.cells #[.int .i64 100000000000000, .int .i64 100000000000001] 3) := ⟨_, rfl⟩
              have hbV : Below w5.heap.size w5 V := by rw [hV]; exact (Below.refl _ _).alloc (Nat.le_refl _) _
              have hq : V.heap[w5.heap.size]? = some (.cells #[.int .i64 100000000000000, .int .i64 100000000000001] 3 (0, 0)) := by rw [hV]; exact heap_alloc_new w5 _
              have HAT : Hid (At V (some ⟨w5.heap.size, 0, none⟩) [100000000000000, 100000000000001]) := .inr ⟨_, _, rfl, fun i hi => by
                rw [Nat.zero_add, cell_of_row V _ i _ _ (0, 0) hq]
                match i, hi with
                | 0, _ => rfl
                | 1, _ => rfl⟩
              have z5 := H5.out.lt
              go_wp2_with fail
              rw [← hV]
              clear hV hq
              refine (among_drw _ 2 2 [100000000000000, 100000000000001] C a n c (M + 206) V (by omega) (H5.out.below hbV) rfl (by omega) (by omega) HAT.out (fun b off e => by cases e; omega)).mono ?_
              rintro e w6 ⟨x, _, rfl, hd6, hg6⟩
              have hg56 := grown_trans (Below.toGrown hbV (some C)) hg6
              have q2 := hg56.cell u2 (by simpa using fun e => hgC e.symm)
              have HV6 := Hid.mk (HV5.out.kept hg56 (fun k hk => by cases hk; exact .inl (by omega)))
              have q2f : w6.frozen? ⟨g, K * 3 + 2, none⟩ = false := HV6.out.outer.frozenAt _
              have H6 := Hid.mk hd6
              have G6 := Hid.mk (grown_trans G5.out hg56)
              clear hd6 hg6 hg56 u0 u1 u2 f0 f1 f2 hbV H5 HV5 G5
              go_wp2
              go_ret
              exact ⟨us.set K ((gat us K).1, (gat us K).2.1, x), some ⟨g, 0, none⟩, m2, d2, by rw [List.length_set]; exact HLEN.out, hm60, set_six HLEN.out HSM.out (HSM.out K hK), rfl, HF2.out, stays2 (C := C) HV6.out HSM.out (by omega) K hK x, H6.out.under ((Below.refl w.heap.size w6).setCell hgl _) hCl HBY.out (by omega), grown_set G6.out hgl⟩
            · have h2 : y = 2 := by omega
              subst h2
              go_wp2_with fail
              refine (row_drw p C a n c (M + 206) w5 (by omega) (by omega) H5.out).mono ?_
              rintro e w6 ⟨zs, r7, d7, hzl, _, rfl, ho7, hd6, hg6⟩
              have q0 := hg6.cell u0 (by simpa using fun e => hgC e.symm)
              have HV6 := Hid.mk (HV5.out.kept hg6 (fun k hk => by cases hk; exact .inl (by omega)))
              have q0f : w6.frozen? ⟨g, K * 3, none⟩ = false := HV6.out.outer.frozenAt _
              have H6 := Hid.mk hd6
              have G6 := Hid.mk (grown_trans G5.out hg6)
              have HR6 := Hid.mk (owns_mono ho7 HV5.out.top)
              have HZL := Hid.mk hzl
              clear hd6 hg6 u0 u1 u2 f0 f1 f2 H5 HV5 G5 ho7 hzl
              go_wp2
              go_ret
              exact ⟨us.set K (zs, (gat us K).2), some ⟨g, 0, none⟩, m2, d2, by rw [List.length_set]; exact HLEN.out, hm60, set_six HLEN.out HSM.out (by show zs.length ≤ 6; rw [HZL.out]; exact hp), rfl, HF2.out, stays0 (C := C) HV6.out HSM.out (by omega) K hK r7 p d7 zs HZL.out hp HR6.out, H6.out.under ((Below.refl w.heap.size w6).setCell hgl _) hCl HBY.out (by omega), grown_set G6.out hgl⟩

end Go.Proofs.Ytlfljfmhhnoinab

/- What FnRolled draws. -/
namespace Go.Proofs.Ytlfljfmhhnoinab
open Go.RowKit

theorem Drw.new {w : World} {a : Option Addr} {n c : Nat} (hn : n ≤ 9223372036854775807) (h : AtB w a n) (hb : 0 < n → ∀ b off, a = some ⟨b, off, none⟩ → b < w.heap.size) : Drw (w.alloc (.cells #[.slice a n c, .int .i64 0, .int .u64 0] 91)) w.heap.size a n c 0 :=
  ⟨h.below ((Below.refl _ _).alloc (Nat.le_refl _) _), fun h0 b off e => by have := hb h0 b off e; omega, hn, 0, 0, heap_alloc_new w _, Nat.le_refl _, by omega, by omega⟩
/-- The cursor is the call's own: nothing below has turned. -/
theorem below_cur {w w' : World} {o : Obj} (h : (w.alloc o).grownBy w' (some w.heap.size)) : Below w.heap.size w w' :=
  ⟨h.os, h.tape, h.output, by have := h.size; simp at this; omega, fun k hk => (h.block k (by simp; omega) (by simp; omega)).trans (Below.heap_alloc w o k hk)⟩

theorem drawGoodGroups (a : Option Addr) (n c : Nat) (w : World) (hn : n ≤ 9223372036854775807) (ha : AtB w a n) (hb : 0 < n → ∀ b off, a = some ⟨b, off, none⟩ → b < w.heap.size) :
    Calls Try.prog 61 #[.slice a n c] w fun e w' => ∃ (ts : List GRow) (r : Option Addr) (m d : Nat), ts.length = m ∧ m ≤ 60 ∧ (∀ i, i < m → (gat ts i).1.length ≤ 6) ∧ e = .returned (.slice r m d) ∧ Formed r m d ∧ AtN w' r ts ∧ Below w.heap.size w w' := by
  have D0 := Hid.mk (Drw.new (c := c) hn ha hb)
  go_enter Try.func61, Try.ntmps61
  go_wp2_with fail
  refine (few_drw w.heap.size a n c 0 _ (by omega) D0.out).mono ?_
  rintro e w1 ⟨x, hx0, hx1, rfl, hd1, hg1⟩
  go_wp2_with fail
  refine (groups_drw x w.heap.size a n c 2 w1 hx0 (by omega) (by omega) (hd1.mono (by omega))).mono ?_
  rintro e w2 ⟨ts, r, m, d, hl, hm, hs, rfl, hF, hst, _, hg2⟩
  have H := Hid.mk (hst w2 (World.grownBy.refl _ _))
  have HB := Hid.mk (below_cur (grown_trans hg1 hg2))
  have HL := Hid.mk hl
  have HS := Hid.mk hs
  have HF := Hid.mk hF
  clear hl hs hF hst hg1 hg2 hd1
  go_wp2
  go_ret
  exact ⟨ts, r, m, d, HL.out, hm, HS.out, rfl, HF.out, H.out, HB.out⟩
theorem drawGroupsAsTable (a : Option Addr) (n c : Nat) (w : World) (hn : n ≤ 9223372036854775807) (ha : AtB w a n) (hb : 0 < n → ∀ b off, a = some ⟨b, off, none⟩ → b < w.heap.size) :
    Calls Try.prog 23 #[.slice a n c] w fun e w' => ∃ (ts : List GRow) (r : Option Addr) (m d : Nat), ts.length = m ∧ m ≤ 60 ∧ (∀ i, i < m → (gat ts i).1.length ≤ 6) ∧ e = .returned (.slice r m d) ∧ Formed r m d ∧ AtN w' r ts ∧ Below w.heap.size w w' := by
  go_enter Try.func23, Try.ntmps23
  go_wp2_with fail
  refine (drawGoodGroups a n c w hn ha hb).mono ?_
  rintro e w2 ⟨ts, r, m, d, hl, hm, hs, rfl, hF, hst, hB⟩
  have H := Hid.mk (And.intro hl (And.intro hm (And.intro hs (And.intro hF (And.intro hst hB)))))
  clear hl hm hs hF hst hB
  go_wp2
  go_ret
  exact ⟨ts, r, m, d, H.out.1, H.out.2.1, H.out.2.2.1, rfl, H.out.2.2.2.1, H.out.2.2.2.2.1, H.out.2.2.2.2.2⟩

set_option maxHeartbeats 1000000 in
theorem drawRollUp (a : Option Addr) (n c : Nat) (w : World) (hn : n ≤ 9223372036854775807) (ha : AtB w a n) (hb : 0 < n → ∀ b off, a = some ⟨b, off, none⟩ → b < w.heap.size) :
    Calls Try.prog 18 #[.slice a n c] w fun e w' => ∃ (ts : List GRow) (r : Option Addr) (m d : Nat) (zs : List Int) (r' : Option Addr) (m' d' : Nat), ts.length = m ∧ m ≤ 60 ∧ (∀ i, i < m → (gat ts i).1.length ≤ 6) ∧ zs.length = m' ∧ m' ≤ 4 ∧
      e = .returned (.tuple #[.slice r m d, .slice r' m' d']) ∧ Formed r m d ∧ AtN w' r ts ∧ At w' r' zs ∧ Below w.heap.size w w' := by
  have D0 := Hid.mk (Drw.new (c := c) hn ha hb)
  go_enter Try.func18, Try.ntmps18
  go_wp2_with fail
  refine (few_drw w.heap.size a n c 0 _ (by omega) D0.out).mono ?_
  rintro e w1 ⟨x, hx0, hx1, rfl, hd1, hg1⟩
  have hsub : IntKind.i64.wrap ((x : Int) - 1) = ((x - 1 : Nat) : Int) := (IntWalk.i64_in _ (by omega)).trans (by omega)
  go_wp2_with fail
  refine (groups_drw x w.heap.size a n c 2 w1 hx0 (by omega) (by omega) (hd1.mono (by omega))).mono ?_
  rintro e w2 ⟨ts, r, m, d, hl, hm, hs, rfl, hF, hst, hd2, hg2⟩
  have G2 := Hid.mk (grown_trans hg1 hg2)
  have H2 := Hid.mk hd2
  have HST := Hid.mk hst
  have HL := Hid.mk hl
  have HS := Hid.mk hs
  have HF := Hid.mk hF
  clear hl hs hF hst hg1 hg2 hd1 hd2 D0
  go_wp2_with fail
  refine (columns_drw _ w.heap.size a n c (2 + 300) w2 (by omega) (by omega) (by omega) H2.out).mono ?_
  rintro e w3 ⟨zs, m', r', d', hl', hm', rfl, ho', _, hg3⟩
  have HB := Hid.mk (below_cur (grown_trans G2.out hg3))
  have HN := Hid.mk (HST.out w3 hg3)
  have HZ := Hid.mk (At.owned ho')
  have HL' := Hid.mk hl'
  clear hl' ho' hg3 G2 H2 HST
  go_wp2
  refine bodyPost_ret (v := .tuple #[.slice r m d, .slice r' m' d']) (by simp [results, Try.results18, go_sem]) rfl ⟨ts, r, m, d, zs, r', m', d', HL.out, hm, HS.out, HL'.out, hm', rfl, HF.out, HN.out, HZ.out, HB.out⟩

end Go.Proofs.Ytlfljfmhhnoinab

/- Contracts of slices.Grow, slices.Concat at groups: a nil slice grown, two slices put together. -/
namespace Go.Proofs.Ytlfljfmhhnoinab
open Go.RowKit

end Go.Proofs.Ytlfljfmhhnoinab

/- Plain: two lists of groups merged. -/
namespace Go.Proofs.Ytlfljfmhhnoinab

section
variable {ts us : List GRow}
end
theorem OwnGr.atN {w : World} {lo hi : Nat} {a : Option Addr} {n c : Nat} {ts : List GRow} (h : OwnGr w lo hi a n c ts) (hs : SmV ts n) : AtN w a ts := by obtain ⟨cs, h⟩ := h; exact OwnVk.atN h hs.rowx
theorem OwnGr.formed {w : World} {lo hi : Nat} {a : Option Addr} {n c : Nat} {ts : List GRow} (h : OwnGr w lo hi a n c ts) : Formed a n c := by obtain ⟨cs, h⟩ := h; exact owns_formed h.outer

end Go.Proofs.Ytlfljfmhhnoinab

/- Contracts of slices.Grow, slices.Concat at []int: a nil slice grown, two slices put together. An append at a region's step that draws. -/
namespace Go.Proofs.Ytlfljfmhhnoinab
open Go.RowKit

theorem growI_none (w : World) : Calls Try.prog 110 #[.slice none 0 0, .int .i64 0] w fun e w' => e = .returned (.slice none 0 0) ∧ w' = w := by
  go_enter Try.func110, Try.ntmps110
  go_wp2
  go_ret
  exact ⟨rfl, rfl⟩

set_option maxRecDepth 100000 in
set_option maxHeartbeats 2000000 in
theorem growI_some (n : Nat) (w : World) (h0 : 0 < n) (hn : n ≤ 10000000) :
    Calls Try.prog 110 #[.slice none 0 0, .int .i64 n] w fun e w' => ∃ g cap, e = .returned (.slice (some ⟨g, 0, none⟩) 0 cap) ∧ w'.ownsRow w.heap.size 3 1 (.slice (some ⟨g, 0, none⟩) 0 cap) 0 [] ∧ Below w.heap.size w w' := by
  obtain ⟨i0, hi, hz0, hz1, hz2⟩ := info_parts Try.infoInt
  obtain ⟨cap, hcap⟩ : ∃ cap, cap = grownCap w n 0 3 := ⟨_, rfl⟩
  have hge : n ≤ cap := by rw [hcap]; exact grownCap_ge w n 0 _
  have hle : cap ≤ maxLen := by rw [hcap]; exact grownCap_le_maxLen w n 0 _ (by unfold maxLen; omega)
  obtain ⟨cs, hcs⟩ : ∃ cs, cs = #[] ++ Builtin.zeroCells (Value.int .i64 0).cells n ++ Builtin.zeroCells (Value.int .i64 0).cells (cap - n) := ⟨_, rfl⟩
  have hsz : cs.size = cap * 1 := by rw [hcs]; simp only [Array.size_append, size_zeroCells]; simp [Value.cells]; omega
  have hrz : ∀ ty, (Builtin.append_ #[25, 3] ty #[.slice none 0 0, .int .i64 (n : Int)]).run Try.prog w = .ok (.slice (some ⟨w.heap.size, 0, none⟩) n cap) (w.drew.alloc (.cells cs 3)) := fun ty => by
    have h := Lib.run_append_grow_zeros w 25 3 ty 3 i0 (.int .i64 0) .i64 .i64 Try.underlying25 Try.underlying3 hi hz0 none 0 0 [] (run_firstCells_none w.drew i0.size 0 0 0) n h0 (by rw [hz1]; decide) (by omega) (by omega) (by rw [hz2]; omega) (growslice_fits (by omega) (by rw [hz2]; omega))
    rw [Nat.zero_add, ← hcap] at h
    rw [h, hcs]
  have hb : Below w.heap.size w (w.drew.alloc (.cells cs 3)) := (Below.refl _ _).drew.alloc (Nat.le_refl _) _
  have hown : (w.drew.alloc (.cells cs 3)).ownsRow w.heap.size 3 1 (.slice (some ⟨w.heap.size, 0, none⟩) 0 cap) 0 [] :=
    ⟨by simp, .inr ⟨w.heap.size, cap, cs, rfl, Nat.le_refl _, heap_alloc_new w.drew _, by omega, hle, hsz, by simp⟩⟩
  have hpos : (0 : Int) < (n : Int) := by omega
  have hcap63 : (cap : Int) ≤ 9223372036854775807 := by unfold maxLen at hle; omega
  clear hcs hcap hsz
  go_enter Try.func110, Try.ntmps110
  go_wp2_with (at_builtin; refine Lib.wpList_append_run _ rfl _ _ _ _ rfl _ _ rfl rfl _ _ (hrz _) ?_)
  go_ret
  exact ⟨_, _, rfl, hown, hb⟩

theorem growI_any (x : Int) (w : World) (h0 : 0 ≤ x) (hn : x ≤ 10000000) :
    Calls Try.prog 110 #[.slice none 0 0, .int .i64 x] w fun e w' => ∃ r cap, e = .returned (.slice r 0 cap) ∧ w'.ownsRow w.heap.size 3 1 (.slice r 0 cap) 0 [] ∧ Below w.heap.size w w' := by
  obtain ⟨n, rfl⟩ : ∃ n : Nat, x = n := ⟨x.toNat, by omega⟩
  cases n with
  | zero => exact (growI_none w).mono fun e w' ⟨h1, h2⟩ => ⟨none, 0, h1, by rw [h2]; exact World.ownsRow_nil _ _ _ _, by rw [h2]; exact Below.refl _ _⟩
  | succ n => exact (growI_some (n + 1) w (by omega) (by omega)).mono fun e w' ⟨g, cap, h1, h2, h3⟩ => ⟨_, cap, h1, h2, h3⟩

set_option maxRecDepth 100000 in
set_option maxHeartbeats 4000000 in
theorem concatI_any (B0 : Nat) (a a' : Option Addr) (n n' c c' : Nat) (zs zs' : List Int) (w : World) (hz : zs.length = n) (hz' : zs'.length = n') (hn : n ≤ 1048576) (hn' : n' ≤ 1048576) (hF : a = none → c = 0) (hF' : a' = none → c' = 0) (ha : At w a zs) (ha' : At w a' zs')
    (q0 : w.cell? ⟨B0, 0, none⟩ = some (.slice a n c)) (q1 : w.cell? ⟨B0, 1, none⟩ = some (.slice a' n' c')) :
    Calls Try.prog 62 #[.slice (some ⟨B0, 0, none⟩) 2 2] w fun e w' => ∃ r d, e = .returned (.slice r (n + n') d) ∧ w'.ownsRow w.heap.size 3 1 (.slice r (n + n') d) (n + n') ((zs ++ zs').map (.int .i64)) ∧ Below w.heap.size w w' := by
  obtain ⟨i0, hi, hz0, hz1, hz2⟩ := info_parts Try.infoInt
  have hw : IntKind.i64.wrap ((n : Int) + (n' : Int)) = ((n + n' : Nat) : Int) := (IntWalk.i64_in _ (by omega)).trans (by omega)
  have HA := Hid.mk ha
  have HA' := Hid.mk ha'
  have HF := Hid.mk hF
  have HF' := Hid.mk hF'
  clear ha ha' hF hF'
  go_enter Try.func62, Try.ntmps62
  go_wp2
  refine wp_loop_rounds 3 ?_
  rw [rounds_succ]
  go_wp2
  rw [rounds_succ]
  go_wp2
  rw [rounds_succ]
  go_wp2_with fail
  refine (growI_any _ w (by omega) (by omega)).mono ?_
  rintro e w1 ⟨r1, d1, rfl, ho1, hb1⟩
  have p0 := cell_later hb1 q0
  have p1 := cell_later hb1 q1
  have HO1 := Hid.mk ho1
  clear ho1
  go_wp2
  refine wp_loop_rounds 3 ?_
  rw [rounds_succ]
  go_wp2_with (at_builtin; refine wpList_append_all rfl (.tmp 31) (.tmp 32) 25 rfl w.heap.size 3 i0 (.int .i64 0) 8 Try.underlying25 hi hz0 hz1 hz2 rfl (.slice r1 0 d1) 0 [] rfl HO1.out a n c zs rfl hz (HA.out.below hb1) HF.out (by unfold maxLen; omega) (by omega) hb1.size ?_; rintro r2 d2 w2 ho2 hg2; have B2 : Below w.heap.size w w2 := hb1.grown hg2 hb1.size (fun j hj => (HO1.out.lt j hj).1); have t0 : w2.cell? ⟨B0, 0, none⟩ = some (.slice a n c) := cell_later B2 q0; have t1 : w2.cell? ⟨B0, 1, none⟩ = some (.slice a' n' c') := cell_later B2 q1; simp only [Nat.zero_add, List.nil_append] at ho2 ⊢; have HO2 := Hid.mk ho2; clear ho2 hg2 p0 p1 HO1)
  rw [rounds_succ]
  go_wp2_with (at_builtin; refine wpList_append_all rfl (.tmp 31) (.tmp 32) 25 rfl w.heap.size 3 i0 (.int .i64 0) 8 Try.underlying25 hi hz0 hz1 hz2 rfl (.slice r2 n d2) n (zs.map (.int .i64)) rfl HO2.out a' n' c' zs' rfl hz' (HA'.out.below B2) HF'.out (by unfold maxLen; omega) (by omega) B2.size ?_; rintro r3 d3 w3 ho3 hg3; have B3 : Below w.heap.size w w3 := B2.grown hg3 B2.size (fun j hj => (HO2.out.lt j hj).1); have HO3 := Hid.mk ho3; clear ho3 hg3 HO2 t0 t1)
  rw [rounds_succ]
  go_wp2
  go_ret
  exact ⟨r3, d3, rfl, by rw [List.map_append]; exact HO3.out, B3⟩

/-- 'append(out, xs...)' of whatever ints, at a step of a region that draws. -/
theorem step_append_all {P : Program} {w : World} {ops : Array Oper} {o : Oper} {a : Act} {K : Act → World → Prop} {Q : Exit → Act → World → Prop} {E : Prop} (hgd : o.guard = none) (s x : Operand) (t : TypeId)
    (ho : o.op = .call { callee := .builtin .append, args := #[s, x], argTypes := #[t, t] })
    (base : Nat) (e : TypeId) (i : TypeInfo) (z : Value) (bytes : Nat) (ht : P.underlying t = some (.slice e)) (hi : P.info? e = some i) (hz : i.zero = some z)
    (hsize : i.size = 1) (hby : i.bytes = bytes) (hzs : z.cells.size = 1)
    (v : Value) (n : Nat) (xs : List Value) (hs : a.eval s = v) (hown : w.ownsRow base e 1 v n xs)
    (ao : Option Addr) (m c : Nat) (zs : List Int) (hx : a.eval x = .slice ao m c) (hl : zs.length = m) (hat : At w ao zs) (hnil : ao = none → c = 0)
    (h63 : n + m ≤ maxLen) (hbytes : (n + m) * bytes ≤ 140737488355328) (hbase : base ≤ w.heap.size)
    (h : ∀ r cap w', w'.ownsRow base e 1 (.slice r (n + m) cap) (n + m) (xs ++ zs.map (.int .i64)) → w.grownBy w' v.ownBlock → ((Value.slice r (n + m) cap).ownBlock = v.ownBlock ∨ (Value.slice r (n + m) cap).ownBlock = some w.heap.size) → K (a.put o.dst (.slice r (n + m) cap)) w') :
    if Region.wanted o (yielded ops a.tmps) = true then Oper.wp P o a w K Q else E := by
  have hw : Region.wanted o (yielded ops a.tmps) = true := by simp [Region.wanted, hgd]
  rw [if_pos hw]
  cases ao with
  | none =>
    have hc := hnil rfl
    have hzs' : zs = [] := by
      rcases hat with h | ⟨b, off, h, _⟩
      · exact h
      · cases h
    subst hzs' hc
    simp at hl
    subst hl
    obtain ⟨r, cap, rfl⟩ := owns_slice hown
    have hrun := run_append_owned_none (P := P) (w := w) base t o.type e i 1 ht hi (.slice r n cap) n xs hown
    have := h r cap w (by simpa using hown) (World.grownBy.refl _ _) (.inl rfl)
    unfold Oper.wp
    simp [execOp, ho, resolve, invoke, builtin, hs, hx, hrun, Result.andThen]
    rw [Nat.add_zero] at this
    exact this
  | some ad =>
    obtain ⟨v', w', hr, h2, h3, _, h5⟩ := run_append_own_at (P := P) w base t o.type e i z 1 bytes ht hi hz hsize hby hzs (by decide) v n xs hown ad m c (zs.map (.int .i64)) (by simpa using hl) (fun j u hj => by
      have hjl : j < zs.length := by
        have := (List.getElem?_eq_some_iff.1 hj).1
        simpa using this
      obtain ⟨b, off, he, _, hc⟩ := hat.some (by omega)
      simp only [Option.some.injEq] at he
      subst he
      rw [Addr.add_lit, hc j hjl]
      simpa [List.getD, hjl] using hj) (fun u hu => by
      obtain ⟨y, _, rfl⟩ := List.mem_map.1 hu
      rfl) h63 hbytes hbase
    obtain ⟨r, cap, rfl⟩ := owns_slice h2
    unfold Oper.wp execOp
    simp only [ho, resolve, invoke, builtin, Sem.run_bind, Sem.run_pure, Result.andThen_ok, List.map_toArray, List.map_cons, List.map_nil, hs, hx, hr]
    exact h r cap w' h2 h3 h5

end Go.Proofs.Ytlfljfmhhnoinab
