/- Several texts of one proof, in build order: SpecG, StrS, StrE, MeansLG. -/
import Derived.Test.YtmkhdocjabflkaaM29
import Derived.Test.YtmkhdocjabflkaaM25
import Derived.Test.YtmkhdocjabflkaaM18
import Derived.Test.YtmkhdocjabflkaaM14
import Derived.Test.YtmkhdocjabflkaaM13
import Derived.Deep.AppendLies
import Derived.Test.YtmkhdocjabflkaaM20

/- Contract of spec.l2Add: in which blocks its answer lies. -/
namespace Go.Proofs.Ytmkhdocjabflkaa
open Go.RowKit

set_option maxRecDepth 100000 in
set_option maxHeartbeats 4000000 in
theorem l2AddG {G : Nat → Prop} (a a' : Option Addr) (n n' c c' : Nat) (ts ts' : List WRow) (w : World) (hGf : ∀ k, w.heap.size ≤ k → G k) (hz : ts.length = n) (hz' : ts'.length = n') (hn : n ≤ 500000) (hn' : n' ≤ 500000) (hF : Formed a n c)
    (hgo : ∀ k, k ≤ n' → ∀ t ∈ putAll ts (ts'.take k), t.1.length ≤ 6 ∧ -4000000000000000000 ≤ t.2 ∧ t.2 ≤ 4000000000000000000) (hg' : ∀ t ∈ ts', t.1.length ≤ 6 ∧ -4000000000000000000 ≤ t.2 ∧ t.2 ≤ 4000000000000000000) (ha : AtMG G w a ts) (ha' : AtM w a' ts') :
    Calls Try.prog 66 #[.slice a n c, .slice a' n' c'] w fun e w' => ∃ r k d, e = .returned (.slice r k d) ∧ (putAll ts ts').length = k ∧ Formed r k d ∧ AtMG G w' r (putAll ts ts') ∧ Below w.heap.size w w' := by
  go_enter Try.func66, Try.ntmps66
  go_wp2
  go_loopw [5, 11] (fun o i wr => ∃ (k : Nat) (r : Option Addr) (m d : Nat), k ≤ n' ∧ i = .int .i64 k ∧ o = .slice r m d ∧ (putAll ts (ts'.take k)).length = m ∧ Formed r m d ∧ AtMG G wr r (putAll ts (ts'.take k)) ∧ Below w.heap.size w wr) (fun _ i _ => n' - (intOf i).toNat)
  case atStart => exact ⟨0, a, n, c, Nat.zero_le _, rfl, rfl, hz, hF, ha, Below.refl _ _⟩
  case round =>
    obtain ⟨k, r, m, d, hk, rfl, rfl, hm, hFr, har, hbw⟩ := hrel
    by_cases hlt : k < n'
    · obtain ⟨b, off, rfl, hc⟩ := (ha'.below hbw).some (by omega)
      obtain ⟨q, dd, hcx, hwx, hm1, hnil, hat⟩ := hc k (by omega)
      have hgk := at_of_mem hg' k (by omega)
      have HS := Hid.mk (putAll_take ts ts' k (by omega))
      have hki : (k : Int) < (n' : Int) := by omega
      have hml : m ≤ n + k := by have := putAll_len (ts'.take k) ts; rw [List.length_take] at this; omega
      have hok : ∀ j, j < m → (wat (putAll ts (ts'.take k)) j).1.length ≤ 6 ∧ -4000000000000000000 ≤ (wat (putAll ts (ts'.take k)) j).2 ∧ (wat (putAll ts (ts'.take k)) j).2 ≤ 4000000000000000000 := fun j hj => at_of_mem (hgo k hk) j (show j < (putAll ts (ts'.take k)).length by omega)
      generalize wat ts' k = Y at *
      obtain ⟨ys, x⟩ := Y
      simp only at hcx hwx hat hm1 hgk HS
      obtain ⟨m2, hmm⟩ : ∃ m2, ys.length = m2 := ⟨_, rfl⟩
      rw [hmm] at hcx hm1 hgk
      have HM := Hid.mk hmm
      obtain ⟨h6, hx1, hx2⟩ := hgk
      obtain ⟨V, hV⟩ : ∃ V, V = wr.alloc (.cells #[.slice q m2 dd, .int .i64 x] 90) := ⟨_, rfl⟩
      have hbV : Below wr.heap.size wr V := by rw [hV]; exact (Below.refl _ _).alloc (Nat.le_refl _) _
      have B1 := hbw.trans (hbV.mono hbw.size)
      clear hmm hc
      go_wp2_with fail
      rw [← hV]
      clear hV hcx hwx
      refine (l2PutG_any _ _ _ _ _ _ (putAll ts (ts'.take k)) ys x _ (fun j hj => hGf j (by have := B1.size; omega)) hm HM.out (by omega) hFr h6 hnil hok (by omega) (by omega) (har.below hbV) (hat.below hbV)).mono ?_
      rintro e w2 ⟨r2, m3, d2, rfl, hm3, hF2, ha2, hb2⟩
      rw [← HS.out] at hm3 ha2
      have HM3 := Hid.mk hm3
      have HF2 := Hid.mk hF2
      have HA2 := Hid.mk ha2
      have HB := Hid.mk (B1.trans (hb2.mono B1.size))
      clear hm3 hF2 ha2 hb2 B1 hbw har hm hFr hok hat hbV
      go_wp2
      go_roundw
      case rel => exact ⟨k + 1, _, _, _, by omega, by go_num, rfl, HM3.out, HF2.out, HA2.out, HB.out⟩
      case measure => simp [intOf]; omega
    · obtain rfl : k = n' := by omega
      rw [wtake_all' ts' hz'] at hm har
      go_wp2
      go_ret
      exact ⟨_, _, _, rfl, hm, hFr, har, hbw⟩

/-- The same of lists within bounds. -/
theorem l2AddL {G : Nat → Prop} (a a' : Option Addr) (n n' c c' q N N' : Nat) (B B' : Int) (ts ts' : List WRow) (w : World) (hGf : ∀ k, w.heap.size ≤ k → G k) (hz : ts.length = n) (hz' : ts'.length = n') (h6 : q ≤ 6) (hL : Lst q N B ts) (hL' : Lst q N' B' ts') (hN : N ≤ 400000) (hN' : N' ≤ 400000) (hB : 0 ≤ B) (hB' : 0 ≤ B') (hBB : B + B' ≤ 4000000000000000000) (hF : Formed a n c) (ha : AtMG G w a ts) (ha' : AtM w a' ts') :
    Calls Try.prog 66 #[.slice a n c, .slice a' n' c'] w fun e w' => ∃ r k d, e = .returned (.slice r k d) ∧ (putAll ts ts').length = k ∧ Formed r k d ∧ AtMG G w' r (putAll ts ts') ∧ Below w.heap.size w w' := by
  have e1 := hL.len
  have e2 := hL'.len
  refine l2AddG a a' n n' c c' ts ts' w hGf hz hz' (by omega) (by omega) hF (fun k hk t ht => ?_) (fun t ht => ?_) ha ha'
  · have h := hL.put (hL'.take k) hB hB'
    have h1 := (h.rows t ht).2
    have h2 := h.within t ht
    refine ⟨by omega, ?_, ?_⟩ <;> omega
  · have h1 := (hL'.rows t ht).2
    have h2 := hL'.within t ht
    refine ⟨by omega, ?_, ?_⟩ <;> omega

end Go.Proofs.Ytmkhdocjabflkaa

/- Contract of spec.l4Stream. -/
namespace Go.Proofs.Ytmkhdocjabflkaa
open Go.RowKit

/-- A slice of slices of weighted rows. -/
def AtL (w : World) (a : Option Addr) (xss : List (List WRow)) : Prop :=
  xss = [] ∨ ∃ b off, a = some ⟨b, off, none⟩ ∧ ∀ i, i < xss.length → ∃ a' c', w.cell? ⟨b, off + i, none⟩ = some (.slice a' (lat xss i).length c') ∧ AtM w a' (lat xss i)
theorem AtL.below {w w' : World} {a : Option Addr} {xss : List (List WRow)} (h : AtL w a xss) (hb : Below w.heap.size w w') : AtL w' a xss := by
  rcases h with h | ⟨b, off, e, hc⟩
  · exact .inl h
  · exact .inr ⟨b, off, e, fun i hi => by obtain ⟨a', c', h1, h2⟩ := hc i hi; exact ⟨a', c', cell_later hb h1, h2.below hb⟩⟩

set_option maxRecDepth 100000 in
set_option maxHeartbeats 4000000 in
theorem l4Stream_any (a : Option Addr) (n c q : Nat) (xss : List (List WRow)) (w : World) (hz : xss.length = n) (hn : n ≤ 12) (hsz : ∀ i, i < n → (lat xss i).length ≤ 1048576 ∧ ∀ t ∈ lat xss i, t.1.length ≤ 6) (ha : AtL w a xss) :
    Calls Try.prog 74 #[.int .i64 q, .slice a n c] w fun e w' => StrAns e w' w.heap.size (allG q xss) q (tabsOf q xss n) ∧ Below w.heap.size w w' := by
  obtain ⟨i0, hi, hz0, hz1, hz2⟩ := info_parts Try.infoT
  obtain ⟨W, hW⟩ : ∃ W, W = (w.alloc (.cells #[.int .i64 0, .slice none 0 0] 45)).alloc (.cells #[.int .i64 q, .slice none 0 0] 45) := ⟨_, rfl⟩
  have zW : W.heap.size = w.heap.size + 1 + 1 := by rw [hW]; simp
  have B0 : Below w.heap.size w W := by rw [hW]; exact ((Below.refl _ _).alloc (Nat.le_refl _) _).alloc (by simp) _
  have hR : W.heap[w.heap.size]? = some (.cells #[.int .i64 0, .slice none 0 0] 45 (0, 0)) := by rw [hW]; exact (Below.heap_alloc _ _ _ (by simp)).trans (heap_alloc_new w _)
  have hT : W.heap[w.heap.size + 1]? = some (.cells #[.int .i64 q, .slice none 0 0] 45 (0, 0)) := by
    rw [hW]; have := heap_alloc_new (w.alloc (.cells #[.int .i64 0, .slice none 0 0] 45)) (.cells #[.int .i64 q, .slice none 0 0] 45); rwa [World.size_alloc] at this
  go_enter Try.func74, Try.ntmps74
  go_wp2
  rw [← hW]
  clear hW
  go_loopw [15] (fun i wr => ∃ (k : Nat) (r : Option Addr) (d : Nat) (cells : List Value) (L H : Nat → Nat), k ≤ n ∧ i = .int .i64 k ∧ wr.heap[w.heap.size]? = some (.cells #[.int .i64 0, .slice none 0 0] 45 (0, 0)) ∧ wr.heap[w.heap.size + 1]? = some (.cells #[.int .i64 q, .slice r k d] 45 (0, 0)) ∧
      OwnUk wr (w.heap.size + 2) wr.heap.size r k d (tabsOf q xss k) cells L H k ∧ (∀ j, j < k → goodT q (lat xss j) = true) ∧ w.heap.size + 2 ≤ wr.heap.size ∧ Below w.heap.size w wr) (fun i _ => n - (intOf i).toNat)
  case atStart => exact ⟨0, none, 0, [], fun _ => 0, fun _ => 0, Nat.zero_le _, rfl, hR, hT, OwnUk.start rfl (Nat.le_refl _) (World.ownsRow_nil _ _ _ _) (fun b hb => by cases hb), fun j hj => by omega, by omega, B0⟩
  case round =>
    clear hR hT B0 zW W
    obtain ⟨k, r, d, cells, L, H, hk, rfl, hR, hT, hou, hgd, z3, hbw⟩ := hrel
    have e0 : wr.cell? ⟨w.heap.size, 0, none⟩ = some (.int .i64 0) := by rw [cell_of_row wr _ 0 _ _ (0, 0) hR]; rfl
    have e1 : wr.cell? ⟨w.heap.size, 1, none⟩ = some (.slice none 0 0) := by rw [cell_of_row wr _ 1 _ _ (0, 0) hR]; rfl
    have f0 : wr.frozen? ⟨w.heap.size, 0, none⟩ = false := frozen_of_row wr _ 0 _ _ hR
    have f1 : wr.frozen? ⟨w.heap.size, 1, none⟩ = false := frozen_of_row wr _ 1 _ _ hR
    have t0 : wr.cell? ⟨w.heap.size + 1, 0, none⟩ = some (.int .i64 q) := by rw [cell_of_row wr _ 0 _ _ (0, 0) hT]; rfl
    have t1 : wr.cell? ⟨w.heap.size + 1, 1, none⟩ = some (.slice r k d) := by rw [cell_of_row wr _ 1 _ _ (0, 0) hT]; rfl
    have HR := Hid.mk hR
    have HT := Hid.mk hT
    have HOU := Hid.mk hou
    have HGD := Hid.mk hgd
    clear hR hT hou hgd
    by_cases hlt : k < n
    · obtain ⟨b, off, rfl, hc⟩ : ∃ b off, a = some ⟨b, off, none⟩ ∧ ∀ i, i < xss.length → ∃ a' c', wr.cell? ⟨b, off + i, none⟩ = some (.slice a' (lat xss i).length c') ∧ AtM wr a' (lat xss i) := by
        rcases ha.below hbw with h | h
        · rw [h] at hz; simp at hz; omega
        · exact h
      obtain ⟨x, dd, hcx, hat⟩ := hc k (by omega)
      have hsk := hsz k hlt
      have HLS := Hid.mk (tabsOf_succ q xss k (by omega))
      have HNG : Hid (goodT q (lat xss k) = false → allG q xss = false) := fun h => allG_no (by omega) h
      have hki : (k : Int) < (n : Int) := by omega
      have HGS : Hid (goodT q (lat xss k) = true → ∀ j, j < k + 1 → goodT q (lat xss j) = true) := fun h j hj => by
        by_cases e : j = k
        · subst e; exact h
        · exact HGD.out j (by omega)
      generalize lat xss k = X at *
      obtain ⟨m, hm⟩ : ∃ m, X.length = m := ⟨_, rfl⟩
      rw [hm] at hcx hsk
      have HM := Hid.mk hm
      have HPR : Hid (∀ j, j < m → (wat X j).1.length ≤ 1048576) := fun j hj => by have := hsk.2 _ (wat_mem (show j < X.length by omega)); omega
      have hml := hsk.1
      clear hc hm hsk
      cases hg : goodT q X with
      | false =>
        have HG := Hid.mk hg
        go_wp2_with fail
        refine (l2Tell_any _ _ _ X _ _ HM.out hml HPR.out hat).mono ?_
        rintro e w4 ⟨⟨r4, m4, d4, cells4, rfl, ho4⟩, hb4⟩
        rw [hg]
        clear hg
        have f0 := frozen_later hb4 e0 f0
        have f1 := frozen_later hb4 e1 f1
        have e0 := cell_later hb4 e0
        have e1 := cell_later hb4 e1
        have hbA : Below w4.heap.size w4 (w4.alloc (.cells #[.int .i64 (tellP q X), .slice r4 m4 d4] 25)) := (Below.refl _ _).alloc (Nat.le_refl _) _
        have B4 := hbw.trans (hb4.mono hbw.size)
        have B5 := B4.trans (hbA.mono B4.size)
        have f0 := frozen_later hbA e0 f0
        have f1 := frozen_later hbA e1 f1
        have e0 := cell_later hbA e0
        have e1 := cell_later hbA e1
        go_wp2
        refine bodyPost_ret (v := .tuple #[.agg #[.int .i64 0, .slice none 0 0], .bool false]) (by simp [results, Try.results74, go_sem, e0, e1]) rfl ⟨StrAns.zero (HNG.out HG.out) rfl, ?_⟩
        exact (B5.setCell (Nat.le_refl _) _).setCell (Nat.le_refl _) _
      | true =>
        have HG := Hid.mk hg
        have hP : tellP q X = q := by simp [tellP, hg]
        have hTT : tellT q X = X := by simp [tellT, hg]
        go_wp2_with fail
        refine (l2Tell_any _ _ _ X _ _ HM.out hml HPR.out hat).mono ?_
        rintro e w4 ⟨⟨r4, m4, d4, cells4, rfl, ho4⟩, hb4⟩
        rw [hg, hP]
        rw [hTT] at ho4
        clear hg hP hTT
        have z4 := hb4.size
        have HO4 := Hid.mk (HOU.out.below hb4)
        have hbA : Below w4.heap.size w4 (w4.alloc (.cells #[.int .i64 q, .slice r4 m4 d4] 25)) := (Below.refl _ _).alloc (Nat.le_refl _) _
        have t1 := cell_later hbA (cell_later hb4 t1)
        have hv4 : w4.heap[w.heap.size + 1]? = some (.cells #[.int .i64 q, .slice r k d] 45 (0, 0)) := (hb4.block _ (by omega)).trans HT.out
        go_wp2_with (at_builtin; refine wpList_append_lies _ rfl (.tmp 29) (.tmp 31) 43 rfl (w.heap.size + 2) 25 i0 (.agg #[.int .i64 0, .slice none 0 0]) 2 32 Try.underlying43 hi hz0 hz1 hz2 rfl (by decide) (.slice r k d) k cells rfl ((HO4.out.outer.alloc _).alloc _) ⟨w4.heap.size + 1, 0, none⟩ 1 1 [.int .i64 q, .slice r4 m4 d4] (by simp [Act.eval]) rfl (by simpa using news_at (w4.alloc (.cells #[.int .i64 q, .slice r4 m4 d4] 25)) #[.int .i64 q, .slice r4 m4 d4] 25) (by intro u hu; simp at hu; rcases hu with rfl | rfl <;> rfl) (by decide) (by unfold maxLen; omega) (by omega) (by simp; omega) (w4.heap.size + 1 + 1) (by simp) ?_; intro g5 cap5 w5 hown5 hgrow5 hat5 hlt5; have hne5 : some (w.heap.size + 1) ≠ (Value.slice r k d).ownBlock := (fun e => by have := (HO4.out.blocks _ e.symm).1; omega); have hv5 : w5.heap[w.heap.size + 1]? = some (.cells #[.int .i64 q, .slice r k d] 45 (0, 0)) := (hgrow5.block _ (by simp; omega) hne5).trans ((Below.heap_alloc _ _ _ (by simp; omega)).trans ((Below.heap_alloc _ _ _ (by omega)).trans hv4)); have t5 : w5.cell? ⟨w.heap.size + 1, 1, none⟩ = some (.slice r k d) := (by rw [cell_of_row w5 _ 1 _ _ (0, 0) hv5]; rfl); have u5 : w5.frozen? ⟨w.heap.size + 1, 1, none⟩ = false := frozen_of_row w5 _ 1 _ _ hv5)
        have hob : ∀ j, (Value.slice r k d).ownBlock = some j → w.heap.size + 2 ≤ j := fun j hj => (HO4.out.blocks j hj).1
        have hbB : Below w4.heap.size w4 ((w4.alloc (.cells #[.int .i64 q, .slice r4 m4 d4] 25)).alloc (.cells #[.int .i64 q, .slice r4 m4 d4] 25)) := ((Below.refl _ _).alloc (Nat.le_refl _) _).alloc (by simp) _
        have hpu := HOU.out.pushed (p := q) (by omega) hb4 (show X.length = m4 from OwnWk.len ho4) ⟨cells4, ho4⟩ hbB hown5 hgrow5 (by
          rcases hat5 with e | e
          · left; exact e
          · right; omega) hlt5
        rw [← HLS.out] at hpu
        have z5 : w4.heap.size + 1 + 1 ≤ w5.heap.size := by have := hgrow5.size; simpa using this
        have B4 := hbw.trans (hb4.mono hbw.size)
        have B5 : Below w.heap.size w w5 := (B4.trans (hbB.mono B4.size)).grown hgrow5 (by have := B4.size; simp; omega) (fun j hj => by have := hob j hj; omega)
        have HB6 := Hid.mk (B5.setCell (p := ⟨w.heap.size + 1, 1, none⟩) (by show w.heap.size ≤ w.heap.size + 1; omega) (.slice (some ⟨g5, 0, none⟩) (k + 1) cap5))
        have hpu6 := hpu.setCell (a0 := ⟨w.heap.size + 1, 1, none⟩) (.inl (by show w.heap.size + 1 < _; omega)) (.slice (some ⟨g5, 0, none⟩) (k + 1) cap5)
        have z6 : (w5.setCell ⟨w.heap.size + 1, 1, none⟩ (.slice (some ⟨g5, 0, none⟩) (k + 1) cap5)).heap.size = w5.heap.size := by simp [World.setCell]
        rw [← z6] at hpu6
        have HPU := Hid.mk hpu6
        have HR6 : Hid ((w5.setCell ⟨w.heap.size + 1, 1, none⟩ (.slice (some ⟨g5, 0, none⟩) (k + 1) cap5)).heap[w.heap.size]? = some (.cells #[.int .i64 0, .slice none 0 0] 45 (0, 0))) :=
          (Below.heap_setCell _ _ _ _ (by simp)).trans ((hgrow5.block _ (by simp; omega) (fun e => by have := hob _ e.symm; omega)).trans ((Below.heap_alloc _ _ _ (by simp; omega)).trans ((Below.heap_alloc _ _ _ (by omega)).trans ((hb4.block _ (by omega)).trans HR.out))))
        have HT6 := Hid.mk (heap_setCell_same w5 (w.heap.size + 1) 1 _ _ (.slice (some ⟨g5, 0, none⟩) (k + 1) cap5) hv5)
        have hz6 : w.heap.size + 2 ≤ (w5.setCell ⟨w.heap.size + 1, 1, none⟩ (.slice (some ⟨g5, 0, none⟩) (k + 1) cap5)).heap.size := by rw [z6]; omega
        have HZ6 := Hid.mk hz6
        clear hown5 hgrow5 hat5 hlt5 hob hbB hpu hpu6 z5 z6 hz6 B4 B5 HO4 hv4 hbA t1 t0 e0 e1 f0 f1 hbw hat ho4 hb4 z4
        go_wp2
        go_roundw
        case rel => exact ⟨k + 1, _, _, _, _, _, by omega, by go_num, HR6.out, HT6.out, HPU.out, HGS.out HG.out, HZ6.out, HB6.out⟩
        case measure => simp [intOf]; omega
    · obtain rfl : k = n := by omega
      go_wp2
      refine bodyPost_ret (v := .tuple #[.agg #[.int .i64 q, .slice r k d], .bool true]) (by simp [results, Try.results74, go_sem, e0, e1]) rfl ⟨?_, (hbw.setCell (Nat.le_refl _) _).setCell (Nat.le_refl _) _⟩
      rw [allG_yes (by rw [hz]; exact HGD.out)]
      refine ⟨r, k, d, rfl, ?_⟩
      have ho : OwnU wr (w.heap.size + 2) wr.heap.size r k d (tabsOf q xss k) := ⟨_, _, _, HOU.out⟩
      exact (ho.set2 (g := w.heap.size) (.inl (by omega)) _ _).widen (by omega) (by simp [World.setCell]) (Nat.le_refl _)

end Go.Proofs.Ytmkhdocjabflkaa

/- Contract of spec.DelayStream. -/
namespace Go.Proofs.Ytmkhdocjabflkaa
open Go.RowKit

theorem Try.infoL : (Try.prog.info? 23).map (fun i => (i.zero, i.size, i.bytes)) = some (some (.slice none 0 0), 1, 24) := by kernel_rfl
/-- Cells that mean lists of rows, in an elder world. -/
def MeansL (w : World) (cs : List Value) (f : Nat → List WRow) (k : Nat) : Prop := cs.length = k ∧ ∀ i, i < k → ∃ a c, cs[i]? = some (.slice a (f i).length c) ∧ AtM w a (f i)
theorem MeansL.nil (w : World) (f : Nat → List WRow) : MeansL w [] f 0 := ⟨rfl, fun i hi => by omega⟩
theorem MeansL.push {w : World} {cs : List Value} {f : Nat → List WRow} {k : Nat} (h : MeansL w cs f k) {a : Option Addr} {m c : Nat} (hm : (f k).length = m) (ha : AtM w a (f k)) : MeansL w (cs ++ [.slice a m c]) f (k + 1) := by
  refine ⟨by simp [h.1], fun i hi => ?_⟩
  by_cases e : i = k
  · subst e
    refine ⟨a, c, ?_, ha⟩
    rw [← h.1]; simp [hm, h.1]
  · obtain ⟨a', c', h1, h2⟩ := h.2 i (by omega)
    exact ⟨a', c', by rw [List.getElem?_append_left (by rw [h.1]; omega)]; exact h1, h2⟩
theorem MeansL.atL {w w' : World} {cs : List Value} {f : Nat → List WRow} {k lo : Nat} {r : Option Addr} {d : Nat} (h : MeansL w cs f k) (hb : Below w.heap.size w w') (ho : w'.ownsRow lo 23 1 (.slice r k d) k cs) : AtL w' r (upto f k) := by
  rcases ho.2 with ⟨hv, h0⟩ | ⟨g, cap, cur, hv, _⟩
  · left; rw [h0]; rfl
  · simp only [Value.slice.injEq, true_and] at hv
    obtain ⟨rfl, rfl⟩ := hv
    refine .inr ⟨g, 0, rfl, fun i hi => ?_⟩
    rw [upto_length] at hi
    obtain ⟨a', c', h1, h2⟩ := h.2 i hi
    rw [upto_at f k i hi]
    exact ⟨a', c', by rw [Nat.zero_add, ho.cellAt i (by omega)]; exact h1, h2.below hb⟩

set_option maxRecDepth 100000 in
set_option maxHeartbeats 4000000 in
theorem specDelayStream (a : Option Addr) (n c : Nat) (ss : List Tab) (p : Int) (w : World) (hs : SmU ss n) (ha : AtSM w a ss) :
    Calls Try.prog 30 #[.agg #[.int .i64 p, .slice a n c]] w fun e w' => StrAns e w' w.heap.size (strB p ss (upto (prevK (fun k => (tat ss k).2)) n)) p (tabsOf p.toNat (upto (prevK (fun k => (tat ss k).2)) n) n) ∧ Below w.heap.size w w' := by
  obtain ⟨i0, hi, hz0, hz1, hz2⟩ := info_parts Try.infoL
  have hz := hs.1
  obtain ⟨W, hW⟩ : ∃ W, W = (w.alloc (.cells #[.int .i64 p, .slice a n c] 45)).alloc (.cells #[.int .i64 0, .slice none 0 0] 45) := ⟨_, rfl⟩
  have zW : W.heap.size = w.heap.size + 1 + 1 := by rw [hW]; simp
  have B0 : Below w.heap.size w W := by rw [hW]; exact ((Below.refl _ _).alloc (Nat.le_refl _) _).alloc (by simp) _
  have c0 : W.cell? ⟨w.heap.size, 0, none⟩ = some (.int .i64 p) := by rw [hW]; exact alloc_keeps (pair0 w _ _ _) _
  have c1 : W.cell? ⟨w.heap.size, 1, none⟩ = some (.slice a n c) := by rw [hW]; exact alloc_keeps (pair1 w _ _ _) _
  have q0 : W.heap[w.heap.size + 1]? = some (.cells #[.int .i64 0, .slice none 0 0] 45 (0, 0)) := by
    rw [hW]
    have := heap_alloc_new (w.alloc (.cells #[.int .i64 p, .slice a n c] 45)) (.cells #[.int .i64 0, .slice none 0 0] 45)
    rwa [World.size_alloc] at this
  have e0 : W.cell? ⟨w.heap.size + 1, 0, none⟩ = some (.int .i64 0) := by rw [cell_of_row _ _ 0 _ _ (0, 0) q0]; rfl
  have e1 : W.cell? ⟨w.heap.size + 1, 1, none⟩ = some (.slice none 0 0) := by rw [cell_of_row _ _ 1 _ _ (0, 0) q0]; rfl
  have f0 : W.frozen? ⟨w.heap.size + 1, 0, none⟩ = false := frozen_of_row _ _ 0 _ _ q0
  have f1 : W.frozen? ⟨w.heap.size + 1, 1, none⟩ = false := frozen_of_row _ _ 1 _ _ q0
  have HA := ha.below B0
  clear ha q0
  cases hg : goodS p ss with
  | false =>
    have HG := Hid.mk hg
    clear hg
    go_enter Try.func30, Try.ntmps30
    go_wp2_with fail
    rw [← hW]
    clear hW
    refine (specGoodStream _ _ _ ss _ _ hs HA).mono ?_
    rintro e w1 ⟨rfl, hb1⟩
    rw [HG.out]
    have B1 := B0.trans (hb1.mono B0.size)
    replace f0 := frozen_later hb1 e0 f0
    replace f1 := frozen_later hb1 e1 f1
    replace e0 := cell_later hb1 e0
    replace e1 := cell_later hb1 e1
    replace c0 := cell_later hb1 c0
    replace c1 := cell_later hb1 c1
    go_wp2
    refine bodyPost_ret (v := .tuple #[.agg #[.int .i64 0, .slice none 0 0], .bool false]) (by simp [results, Try.results30, go_sem, e0, e1]) rfl ⟨StrAns.zero (strB_no HG.out) rfl, ?_⟩
    exact (B1.setCell (by show w.heap.size ≤ w.heap.size + 1; omega) _).setCell (by show w.heap.size ≤ w.heap.size + 1; omega) _
  | true =>
    have HG := Hid.mk hg
    obtain ⟨hinc, hn12, hgd⟩ := goodS_parts hg
    rw [hz] at hn12 hgd
    obtain ⟨q, hq⟩ : ∃ q : Nat, p = q := ⟨p.toNat, by have := inc_range hinc; omega⟩
    subst hq
    have HGD : Hid (∀ k, k < n → goodT q (tat ss k).2 = true) := fun k hk => (hgd k hk).2
    obtain ⟨f, hf⟩ : ∃ f, f = (fun k => (tat ss k).2) := ⟨_, rfl⟩
    have HF := Hid.mk hf
    have HNB : Hid (strB q ss (upto (prevK (fun k => (tat ss k).2)) n) = allG q (upto (prevK f) n)) := by show _ = _; rw [hf]; exact strB_yes HG.out
    clear hg hgd hinc hf
    go_enter Try.func30, Try.ntmps30
    go_wp2_with fail
    rw [← hW]
    clear hW
    refine (specGoodStream _ _ _ ss _ _ hs HA).mono ?_
    rintro e w1 ⟨rfl, hb1⟩
    rw [HG.out]
    have B1 := B0.trans (hb1.mono B0.size)
    replace f0 := frozen_later hb1 e0 f0
    replace f1 := frozen_later hb1 e1 f1
    replace e0 := cell_later hb1 e0
    replace e1 := cell_later hb1 e1
    replace c0 := cell_later hb1 c0
    replace c1 := cell_later hb1 c1
    have HA2 := HA.below hb1
    clear HA hb1
    have h12 : (n : Int) ≤ 12 := by omega
    go_wp2
    go_loopw [4, 13] (fun o i wr => ∃ (k : Nat) (r : Option Addr) (d : Nat) (cs : List Value), k ≤ n ∧ i = .int .i64 k ∧ o = .slice r k d ∧ wr.ownsRow w1.heap.size 23 1 (.slice r k d) k cs ∧ MeansL w1 cs (prevK f) k ∧ Below w1.heap.size w1 wr) (fun _ i _ => n - (intOf i).toNat)
    case atStart => exact ⟨0, none, 0, [], Nat.zero_le _, rfl, rfl, World.ownsRow_nil _ _ _ _, MeansL.nil _ _, Below.refl _ _⟩
    case round =>
      obtain ⟨k, r, d, cs, hk, rfl, rfl, ho, hme, hbw⟩ := hrel
      have HO := Hid.mk ho
      have HME := Hid.mk hme
      clear ho hme
      replace f0 := frozen_later hbw e0 f0
      replace f1 := frozen_later hbw e1 f1
      replace e0 := cell_later hbw e0
      replace e1 := cell_later hbw e1
      replace c0 := cell_later hbw c0
      replace c1 := cell_later hbw c1
      by_cases hlt : k < n
      · have hki : (k : Int) < (n : Int) := by omega
        by_cases hk0 : k = 0
        · have hke : ((k : Int) == 0) = true := by simp [hk0]
          have HK0 := Hid.mk hk0
          clear hk0
          go_wp2_with (at_builtin; refine wpList_append_lies _ rfl (.tmp 18) (.tmp 19) 110 rfl w1.heap.size 23 i0 (.slice none 0 0) 1 24 Try.underlying110 hi hz0 hz1 hz2 rfl (by decide) (.slice r k d) k cs rfl (HO.out.alloc _) ⟨wr.heap.size, 0, none⟩ 1 1 [.slice none 0 0] (by simp [Act.eval]) rfl (by simpa using news_at wr #[.slice none 0 0] 23) (by intro u hu; simp at hu; subst hu; rfl) (by decide) (by unfold maxLen; omega) (by omega) (by have := hbw.size; simp; omega) (wr.heap.size + 1) (by simp) ?_; intro g5 cap5 w5 hown5 hgrow5 hat5 hlt5)
          have hrb : ∀ j, (Value.slice r k d).ownBlock = some j → w1.heap.size ≤ j := fun j hj => (HO.out.lt j hj).1
          have HB5 := Hid.mk ((hbw.alloc hbw.size _).grown hgrow5 (by have := hbw.size; simp; omega) (fun j hj => hrb j hj))
          have HO5 := Hid.mk hown5
          have HM5 := Hid.mk (HME.out.push (a := none) (m := 0) (c := 0) (by rw [HK0.out]; rfl) (by rw [HK0.out]; exact atM_nil _ _))
          clear hown5 hgrow5 hat5 hlt5 HO hrb hbw HME
          go_wp2
          go_roundw
          case rel => exact ⟨k + 1, _, _, _, by omega, by go_num, rfl, HO5.out, HM5.out, HB5.out⟩
          case measure => simp [intOf]; omega
        · have hke : ((k : Int) == 0) = false := by simp; omega
          obtain ⟨b, off, rfl, hc⟩ := HA2.some (by omega)
          obtain ⟨q', d', hcw, hcx, _, _, hat⟩ := hc (k - 1) (by omega)
          have hpk : prevK f k = (tat ss (k - 1)).2 := by rw [HF.out]; simp [prevK, hk0]
          rw [← hpk] at hcx hat
          have hsub : IntKind.i64.wrap ((k : Int) - 1) = ((k - 1 : Nat) : Int) := (IntWalk.i64_in _ (by omega)).trans (by omega)
          have hlt1 : ((k - 1 : Nat) : Int) < (n : Int) := by omega
          obtain ⟨k', hk'⟩ : ∃ k', k' = k - 1 := ⟨_, rfl⟩
          rw [← hk'] at hcx hsub hlt1 hcw
          obtain ⟨m, hm⟩ : ∃ m, (prevK f k).length = m := ⟨_, rfl⟩
          rw [hm] at hcx
          have HM := Hid.mk hm
          have HAT := Hid.mk hat
          have hcx := cell_later hbw hcx
          clear hc hpk hm hat hk' hcw
          go_wp2_with (at_builtin; refine wpList_append_lies _ rfl (.tmp 21) (.tmp 29) 110 rfl w1.heap.size 23 i0 (.slice none 0 0) 1 24 Try.underlying110 hi hz0 hz1 hz2 rfl (by decide) (.slice r k d) k cs rfl (HO.out.alloc _) ⟨wr.heap.size, 0, none⟩ 1 1 [.slice q' m d'] (by simp [Act.eval]) rfl (by simpa using news_at wr #[.slice q' m d'] 23) (by intro u hu; simp at hu; subst hu; rfl) (by decide) (by unfold maxLen; omega) (by omega) (by have := hbw.size; simp; omega) (wr.heap.size + 1) (by simp) ?_; intro g5 cap5 w5 hown5 hgrow5 hat5 hlt5)
          have hrb : ∀ j, (Value.slice r k d).ownBlock = some j → w1.heap.size ≤ j := fun j hj => (HO.out.lt j hj).1
          have HB5 := Hid.mk ((hbw.alloc hbw.size _).grown hgrow5 (by have := hbw.size; simp; omega) (fun j hj => hrb j hj))
          have HO5 := Hid.mk hown5
          have HM5 := Hid.mk (HME.out.push (a := q') (m := m) (c := d') HM.out HAT.out)
          clear hown5 hgrow5 hat5 hlt5 HO hrb hbw HME
          go_wp2
          go_roundw
          case rel => exact ⟨k + 1, _, _, _, by omega, by go_num, rfl, HO5.out, HM5.out, HB5.out⟩
          case measure => simp [intOf]; omega
      · obtain rfl : k = n := by omega
        have HAL := HME.out.atL hbw HO.out
        have HSZ : Hid (∀ i, i < k → (lat (upto (prevK f) k) i).length ≤ 1048576 ∧ ∀ t ∈ lat (upto (prevK f) k) i, t.1.length ≤ 6) := fun i hi => by
          rw [upto_at (prevK f) k i hi]
          by_cases e : i = 0
          · subst e; simp [prevK]
          · rw [show prevK f i = (tat ss (i - 1)).2 by rw [HF.out]; simp [prevK, e]]
            have hgi := HGD.out (i - 1) (by omega)
            have := goodT_len60 hgi
            exact ⟨by omega, fun t ht => (goodT_six hgi t ht).1⟩
        have zR : w.heap.size + 1 < wr.heap.size := World.block_lt_of_cell? _ _ e0
        have ZR := Hid.mk zR
        clear zR
        go_wp2_with fail
        refine (l4Stream_any _ _ _ q (upto (prevK f) k) _ (upto_length _ _) (by omega) HSZ.out HAL).mono ?_
        rintro e w6 ⟨⟨r6, m6, d6, rfl, ho6⟩, hb6⟩
        generalize hok6 : allG q (upto (prevK f) k) = ok6 at ho6 ⊢
        have HOK := Hid.mk hok6
        clear hok6
        have B2 := B1.trans (hbw.mono B1.size)
        have B6 := B2.trans (hb6.mono B2.size)
        replace f0 := frozen_later hb6 e0 f0
        replace f1 := frozen_later hb6 e1 f1
        replace e0 := cell_later hb6 e0
        replace e1 := cell_later hb6 e1
        clear hb6 HAL HO HME hbw HA2
        go_wp2
        refine bodyPost_ret (v := .tuple #[.agg #[.int .i64 (ansP ok6 q), .slice r6 m6 d6], .bool ok6]) (by simp [results, Try.results30, go_sem, e0, e1]) rfl ⟨?_, ?_⟩
        · rw [HNB.out, HOK.out]
          refine ⟨r6, m6, d6, rfl, ?_⟩
          rw [← HF.out]
          exact (ho6.set2 (g := w.heap.size + 1) (.inl ZR.out) _ _).widen (Nat.le_of_lt (Nat.lt_of_le_of_lt (Nat.le_succ _) ZR.out)) (by simp [World.setCell]) (Nat.le_refl _)
        · exact (B6.setCell (by show w.heap.size ≤ w.heap.size + 1; omega) _).setCell (by show w.heap.size ≤ w.heap.size + 1; omega) _

end Go.Proofs.Ytmkhdocjabflkaa

/- Slices of lists of rows that lie outside the slice's own block; sums of lists. -/
namespace Go.Proofs.Ytmkhdocjabflkaa
open Go.RowKit

/-- Every block but the slice's own. -/
abbrev NotIn (v : Value) : Nat → Prop := fun k => v.ownBlock ≠ some k
theorem AtMG.appended {w w5 : World} {v : Value} {r : Option Addr} {g H m c : Nat} {a : Option Addr} {ts : List WRow} (h : AtMG (NotIn v) w a ts) (hg : w.grownBy w5 v.ownBlock) (hat : v.ownBlock = some g ∨ g = H) (hH : w.heap.size ≤ H) (hr : r = some ⟨g, 0, none⟩) : AtMG (NotIn (.slice r m c)) w5 a ts := by
  subst hr
  have h1 : AtMG (fun k => NotIn v k ∧ k ≠ g) w a ts := h.mono fun k hk hG => ⟨hG, by
    rcases hat with e | e
    · intro e2; subst e2; exact hG e
    · omega⟩
  have h2 := h1.grown hg (fun k hk hG => hG.1 hk)
  refine h2.mono fun k _ hG e => hG.2 ?_
  have : g = k := by simpa [Value.ownBlock] using e
  exact this.symm
/-- Cells that mean the lists g 0, g 1 .. in blocks of G. -/
def MeansLG (G : Nat → Prop) (w : World) (cs : List Value) (g : Nat → List WRow) (k : Nat) : Prop := cs.length = k ∧ ∀ i, i < k → ∃ a c, cs[i]? = some (.slice a (g i).length c) ∧ AtMG G w a (g i)
theorem MeansLG.nil (G : Nat → Prop) (w : World) (g : Nat → List WRow) : MeansLG G w [] g 0 := ⟨rfl, fun i hi => by omega⟩
theorem MeansLG.below {G : Nat → Prop} {w w' : World} {cs : List Value} {g : Nat → List WRow} {k : Nat} (h : MeansLG G w cs g k) (hb : Below w.heap.size w w') : MeansLG G w' cs g k :=
  ⟨h.1, fun i hi => by obtain ⟨a, c, h1, h2⟩ := h.2 i hi; exact ⟨a, c, h1, h2.below hb⟩⟩
theorem MeansLG.push {G : Nat → Prop} {w : World} {cs : List Value} {f : Nat → List WRow} {k : Nat} (h : MeansLG G w cs f k) {a : Option Addr} {m c : Nat} (hm : (f k).length = m) (ha : AtMG G w a (f k)) : MeansLG G w (cs ++ [.slice a m c]) f (k + 1) := by
  refine ⟨by simp [h.1], fun i hi => ?_⟩
  by_cases e : i = k
  · subst e
    refine ⟨a, c, ?_, ha⟩
    rw [← h.1]; simp [hm, h.1]
  · obtain ⟨a', c', h1, h2⟩ := h.2 i (by omega)
    exact ⟨a', c', by rw [List.getElem?_append_left (by rw [h.1]; omega)]; exact h1, h2⟩
theorem MeansLG.appended {w w5 : World} {v : Value} {r : Option Addr} {g H m c : Nat} {cs : List Value} {f : Nat → List WRow} {k : Nat} (h : MeansLG (NotIn v) w cs f k) (hg : w.grownBy w5 v.ownBlock) (hat : v.ownBlock = some g ∨ g = H) (hH : w.heap.size ≤ H) (hr : r = some ⟨g, 0, none⟩) : MeansLG (NotIn (.slice r m c)) w5 cs f k :=
  ⟨h.1, fun i hi => by obtain ⟨a, c', h1, h2⟩ := h.2 i hi; exact ⟨a, c', h1, h2.appended hg hat hH hr⟩⟩
theorem MeansLG.atL {G : Nat → Prop} {w : World} {cs : List Value} {f : Nat → List WRow} {k lo : Nat} {r : Option Addr} {d : Nat} (h : MeansLG G w cs f k) (ho : w.ownsRow lo 23 1 (.slice r k d) k cs) : AtL w r (upto f k) := by
  rcases ho.2 with ⟨hv, h0⟩ | ⟨g, cap, cur, hv, _⟩
  · left; rw [h0]; rfl
  · simp only [Value.slice.injEq, true_and] at hv
    obtain ⟨rfl, rfl⟩ := hv
    refine .inr ⟨g, 0, rfl, fun i hi => ?_⟩
    rw [upto_length] at hi
    obtain ⟨a', c', h1, h2⟩ := h.2 i hi
    rw [upto_at f k i hi]
    exact ⟨a', c', by rw [Nat.zero_add, ho.cellAt i (by omega)]; exact h1, h2.atM⟩
theorem notIn_fresh {w : World} {lo n d s : Nat} {e : TypeId} {r : Option Addr} {xs : List Value} (ho : w.ownsRow lo e s (.slice r n d) n xs) {W : World} (hW : w.heap.size ≤ W.heap.size) : ∀ k, W.heap.size ≤ k → NotIn (.slice r n d) k := fun k hk e => by
  have := (ho.lt k e).2
  omega
theorem notIn_low {w : World} {lo n d s : Nat} {e : TypeId} {r : Option Addr} {xs : List Value} (ho : w.ownsRow lo e s (.slice r n d) n xs) : ∀ k, k < lo → NotIn (.slice r n d) k := fun k hk e => by
  have := (ho.lt k e).1
  omega
theorem notIn_none : ∀ k : Nat, NotIn (.slice none 0 0) k := fun k e => by simp [Value.ownBlock] at e

end Go.Proofs.Ytmkhdocjabflkaa
