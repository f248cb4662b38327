/- Several texts of one proof, in build order: MpQ, L1In, GqS, SpI. -/
import Derived.Test.YtociphdhkjoofaaM16
import Derived.Test.YtociphdhkjoofaaM0
import Derived.Test.YtociphdhkjoofaaRows
import Derived.Test.YtociphdhkjoofaaM14
import Derived.Test.YtociphdhkjoofaaM17
import Derived.Deep.CutBlock
import Derived.Test.YtociphdhkjoofaaM18

/- Plain: the program's search tells what the model's tells. -/
namespace Go.Proofs.Ytociphdhkjoofaa

theorem wWith_ne {m : Wy} {v x : Int} {u : Nat} (h : u ≠ v.toNat) : (wWith m v x).1.getD u none = m.getD u none := by
  unfold wWith
  split
  · rfl
  · exact getD_set_ne' h _
/-- What is known where the first variables have their numbers. -/
structure St (m0 m : Wy) (vars : List Int) (v0 : Nat) (tl : List Int) : Prop where
  ml : m.length = 6
  tlz : tl.length = v0
  seen : ∀ u : Nat, u < v0 → (u : Int) ∈ vars → m.getD u none = some (tl.getD u 0)
  out : ∀ u : Nat, ¬ (u : Int) ∈ vars → m.getD u none = none ∧ (u < v0 → tl.getD u 0 = 0)
  rest : ∀ u : Nat, v0 ≤ u → m.getD u none = m0.getD u none
  head : ∀ (u : Nat) (x : Int), u < v0 → m0.getD u none = some x → tl.getD u 0 = x

theorem getD_snoc {tl : List Int} {t : Int} {u : Nat} : (tl ++ [t]).getD u 0 = if u = tl.length then t else tl.getD u 0 := by
  by_cases h : u = tl.length
  · subst h; simp [List.getD]
  · rw [if_neg h]
    by_cases hl : u < tl.length
    · simp [List.getD, List.getElem?_append_left hl]
    · simp [List.getD, List.getElem?_append_right (show tl.length ≤ u by omega), show u - tl.length ≠ 0 by omega, List.getElem?_eq_none (show tl.length ≤ u by omega)]
section
variable {m0 m : Wy} {vars : List Int} {v0 : Nat} {tl : List Int}
theorem St.agr (h : St m0 m vars v0 tl) {r : List Int} (hp : tl <+: r) (hr : Agr m0 r) : Agr m r := fun u x hu => by
  by_cases hv : u < v0
  · by_cases hi : (u : Int) ∈ vars
    · rw [h.seen u hv hi] at hu
      cases hu
      exact prefix_getD hp (by rw [h.tlz]; exact hv)
    · rw [(h.out u hi).1] at hu; cases hu
  · rw [h.rest u (by omega)] at hu
    exact hr u x hu
theorem St.over (h : St m0 m vars v0 tl) (hn : ¬ (v0 : Int) ∈ vars) (h0 : ∀ u : Nat, ¬ (u : Int) ∈ vars → m0.getD u none = none) : St m0 m vars (v0 + 1) (tl ++ [0]) := by
  refine ⟨h.ml, by rw [List.length_append, h.tlz]; rfl, fun u hu hi => ?_, fun u hi => ⟨(h.out u hi).1, fun hu => ?_⟩, fun u hu => h.rest u (by omega), fun u x hu hx => ?_⟩
  · have : u ≠ v0 := fun e => hn (e ▸ hi)
    rw [getD_snoc, h.tlz, if_neg this]
    exact h.seen u (by omega) hi
  · rw [getD_snoc, h.tlz]
    split
    · rfl
    · exact (h.out u hi).2 (by omega)
  · rw [getD_snoc, h.tlz]
    split
    · rename_i e; subst e; rw [h0 u hn] at hx; cases hx
    · exact h.head u x (by omega) hx
theorem St.on (h : St m0 m vars v0 tl) (h6 : v0 < 6) (hv : (v0 : Int) ∈ vars) {t : Int} (hw : (wWith m v0 t).2 = true) : St m0 (wWith m v0 t).1 vars (v0 + 1) (tl ++ [t]) := by
  have hat := wWith_at h.ml (show (0 : Int) ≤ (v0 : Int) ∧ (v0 : Int) < 6 by omega) hw
  rw [Int.toNat_natCast] at hat
  refine ⟨by rw [wWith_len, h.ml], by rw [List.length_append, h.tlz]; rfl, fun u hu hi => ?_, fun u hi => ⟨?_, fun hu => ?_⟩, fun u hu => ?_, fun u x hu hx => ?_⟩
  · rw [getD_snoc, h.tlz]
    split
    · rename_i e; subst e; exact hat
    · exact wWith_sub u _ (h.seen u (by omega) hi)
  · have : u ≠ v0 := fun e => hi (e ▸ hv)
    rw [wWith_ne (by rw [Int.toNat_natCast]; exact this)]
    exact (h.out u hi).1
  · have : u ≠ v0 := fun e => hi (e ▸ hv)
    rw [getD_snoc, h.tlz, if_neg this]
    exact (h.out u hi).2 (by omega)
  · rw [wWith_ne (by rw [Int.toNat_natCast]; omega)]
    exact h.rest u (by omega)
  · rw [getD_snoc, h.tlz]
    split
    · rename_i e
      subst e
      have := wWith_sub (v := (u : Int)) (x := t) u x (by rw [h.rest u (Nat.le_refl _)]; exact hx)
      rw [hat] at this
      cases this
      rfl
    · exact h.head u x (by omega) hx
end

theorem map_findSome {f : Int → Option Wy} {g : Wy → List Int} : ∀ (l : List Int), (l.findSome? f).map g = l.findSome? fun x => (f x).map g
  | [] => rfl
  | t :: l => by
    rw [List.findSome?_cons, List.findSome?_cons]
    cases f t with
    | some m => rfl
    | none => exact map_findSome l
theorem filter_in {s v0 : Nat} (h : (v0 : Int) ∈ bl s) : (bl s).filter (fun v => decide ((v0 : Int) ≤ v)) = (v0 : Int) :: (bl s).filter (fun v => decide (((v0 + 1 : Nat) : Int) ≤ v)) := by
  refine srt_ext ((bl_sorted s).filter _) ?_ (fun x => ?_)
  · rw [List.pairwise_cons]
    refine ⟨fun x hx => ?_, (bl_sorted s).filter _⟩
    have := (List.mem_filter.1 hx).2
    simp only [decide_eq_true_eq] at this
    omega
  · simp only [List.mem_filter, decide_eq_true_eq, List.mem_cons]
    constructor
    · rintro ⟨h1, h2⟩
      by_cases e : x = v0
      · exact .inl e
      · exact .inr ⟨h1, by omega⟩
    · rintro (rfl | ⟨h1, h2⟩)
      · exact ⟨h, by omega⟩
      · exact ⟨h1, by omega⟩
theorem filter_out {s v0 : Nat} (h : ¬ (v0 : Int) ∈ bl s) : (bl s).filter (fun v => decide ((v0 : Int) ≤ v)) = (bl s).filter (fun v => decide (((v0 + 1 : Nat) : Int) ≤ v)) := by
  refine List.filter_congr fun x hx => ?_
  have : x ≠ v0 := fun e => h (e ▸ hx)
  by_cases h1 : (v0 : Int) ≤ x
  · rw [decide_eq_true h1, decide_eq_true (by omega)]
  · rw [decide_eq_false h1, decide_eq_false (by omega)]

theorem lead_firstS {qh ph : List Int} {qz pz : List Atm} {m0 : Wy} (hI : InV qh qz) (h0 : ∀ u : Nat, ¬ (u : Int) ∈ bl (vset qz) → m0.getD u none = none) (hmay : ∀ r, r.length = 6 → mayB qh ph qz pz r = true → Agr m0 r) (hfit : ∀ r, Agr m0 r → fitV r qh ph = true) :
    ∀ (k : Nat) (tl : List Int) (m : Wy), k ≤ 6 → St m0 m (bl (vset qz)) (6 - k) tl → ((bl (vset qz)).filter (fun v => decide (((6 - k : Nat) : Int) ≤ v)) = [] → mLead m qz pz = true) →
      (leadF qz pz (bl (vset pz)) m ((bl (vset qz)).filter (fun v => decide (((6 - k : Nat) : Int) ≤ v)))).map wnum = firstS qh ph qz pz k tl
  | 0, tl, m, _, hst, hle => by
    have hf : (bl (vset qz)).filter (fun v => decide (((6 - 0 : Nat) : Int) ≤ v)) = [] := by
      rw [List.filter_eq_nil_iff]
      intro x hx
      have := bl_in hx
      simp only [decide_eq_true_eq]
      omega
    have hml := hle hf
    rw [hf]
    have hl6 : tl.length = 6 := hst.tlz
    have hag0 : Agr m0 tl := fun u x hu => by
      by_cases h6 : u < 6
      · exact hst.head u x h6 hu
      · by_cases hi : (u : Int) ∈ bl (vset qz)
        · have := bl_in hi; omega
        · rw [h0 u hi] at hu; cases hu
    have hag : Agr m tl := hst.agr (List.prefix_refl _) hag0
    have hmay' : mayB qh ph qz pz tl = true := by
      unfold mayB
      rw [hfit tl hag0, mLead_full hst.ml hI.2 (fun a ha v hv => ?_) hag hml]
      · rfl
      · have hv0 := hI.2 a ha v hv
        refine hst.seen v.toNat (by omega) ?_
        rw [Int.toNat_of_nonneg hv0.1]
        exact (mem_bl_mk (flat_in hI.2) v).2 (List.mem_flatMap.2 ⟨a, ha, hv⟩)
    show some (wnum m) = firstS qh ph qz pz 0 tl
    unfold firstS
    rw [if_pos hmay']
    congr 1
    apply List.ext_getElem
    · unfold wnum; rw [List.length_map, hst.ml, hl6]
    · intro i h1 h2
      have hi6 : i < 6 := by omega
      have e1 : (wnum m)[i] = (m.getD i none).getD 0 := by
        have hm6 : i < m.length := by rw [hst.ml]; exact hi6
        simp [wnum, List.getD, hm6]
      have e2 : tl[i] = tl.getD i 0 := by simp [List.getD, h2]
      rw [e1, e2]
      by_cases hi : (i : Int) ∈ bl (vset qz)
      · rw [hst.seen i hi6 hi]; rfl
      · rw [(hst.out i hi).1, (hst.out i hi).2 hi6]; rfl
  | k + 1, tl, m, hk, hst, hle => by
    have e1 : 6 - (k + 1) = 5 - k := by omega
    have e2 : 6 - k = 5 - k + 1 := by omega
    rw [e1] at hst hle ⊢
    unfold firstS
    by_cases hv : ((5 - k : Nat) : Int) ∈ bl (vset qz)
    · rw [if_pos hv, filter_in hv, leadF_cons, map_findSome]
      refine findSome_congr' fun t _ => ?_
      have hnone : (∀ r, firstS qh ph qz pz k (tl ++ [t]) = some r → False) → firstS qh ph qz pz k (tl ++ [t]) = none := fun h => by
        cases hf : firstS qh ph qz pz k (tl ++ [t]) with
        | none => rfl
        | some r => exact (h r hf).elim
      have hlen : ∀ r, firstS qh ph qz pz k (tl ++ [t]) = some r → r.length = 6 := fun r hr => by
        have h9 := (firstS_some qh ph qz pz k _ r hr).2.2
        rw [List.length_append, hst.tlz] at h9
        simp at h9
        omega
      unfold tryF
      cases hw : (wWith m ((5 - k : Nat) : Int) t).2 with
      | false =>
        refine (hnone fun r hr => ?_).symm
        obtain ⟨g1, g2, g3⟩ := firstS_some qh ph qz pz k _ r hr
        have hagr := hst.agr ((List.prefix_append tl [t]).trans g1) (hmay r (hlen r hr) g2)
        have hrt : r.getD (((5 - k : Nat) : Int)).toNat 0 = t := by
          rw [Int.toNat_natCast, prefix_getD g1 (by rw [List.length_append, hst.tlz]; simp), getD_snoc, hst.tlz, if_pos rfl]
        have := (wWith_agr hst.ml (show (0 : Int) ≤ ((5 - k : Nat) : Int) ∧ ((5 - k : Nat) : Int) < 6 by omega) hagr hrt).1
        rw [hw] at this
        cases this
      | true =>
        have hst' := hst.on (by omega) hv hw
        cases hml : mLead (wWith m ((5 - k : Nat) : Int) t).1 qz pz with
        | false =>
          refine (hnone fun r hr => ?_).symm
          obtain ⟨g1, g2, g3⟩ := firstS_some qh ph qz pz k _ r hr
          have hagr := hst'.agr g1 (hmay r (hlen r hr) g2)
          unfold mayB at g2
          have := mLead_agr hst'.ml (hlen r hr) hI.2 hagr (Bool.and_eq_true_iff.1 g2).2
          rw [hml] at this
          cases this
        | true =>
          simp only [Bool.and_self, if_true]
          rw [← e2] at hst' ⊢
          exact lead_firstS hI h0 hmay hfit k (tl ++ [t]) _ (by omega) hst' (fun _ => hml)
    · rw [if_neg hv, filter_out hv]
      have hst' := hst.over hv h0
      rw [filter_out hv] at hle
      rw [← e2] at hst' hle ⊢
      exact lead_firstS hI h0 hmay hfit k (tl ++ [0]) m (by omega) hst' hle

/-- The program's map is the model's. -/
theorem lm_map {qh ph : List Int} {qz pz : List Atm} (hI : InV qh qz) (hsub : ∀ v ∈ qh, v ∈ bl (vset qz)) (hne : bl (vset qz) ≠ []) : (lmF qh ph qz pz).map wnum = mapF qh ph qz pz 6 [] := by
  rw [mapF_first hI]
  unfold lmF startF
  have hwy : ∀ u : Nat, wy0.getD u none = none := fun u => by
    unfold wy0
    match u with
    | 0 | 1 | 2 | 3 | 4 | 5 => rfl
    | u + 6 => rfl
  have hag0 : ∀ r, Agr wy0 r := fun r u x hu => by
    rw [hwy u] at hu
    cases hu
  have hmay : ∀ r, r.length = 6 → mayB qh ph qz pz r = true → (wAll wy0 qh ph).2 = true ∧ Agr (wAll wy0 qh ph).1 r := fun r hr hm => by
    unfold mayB at hm
    exact wAll_agr qh ph wy0 r rfl hr hI.1 (hag0 r) (Bool.and_eq_true_iff.1 hm).1
  cases hok : (wAll wy0 qh ph).2 with
  | false =>
    have : firstS qh ph qz pz 6 [] = none := by
      cases hf : firstS qh ph qz pz 6 [] with
      | none => rfl
      | some r =>
        obtain ⟨g1, g2, g3⟩ := firstS_some qh ph qz pz 6 _ r hf
        have := (hmay r (by simpa using g3) g2).1
        rw [hok] at this
        cases this
    rw [this]
    rfl
  | true =>
    obtain ⟨i1, i2, i3⟩ := wAll_is qh ph wy0 rfl hI.1 hok
    have hout : ∀ u : Nat, ¬ (u : Int) ∈ bl (vset qz) → (wAll wy0 qh ph).1.getD u none = none := fun u hu => by
      cases hx : (wAll wy0 qh ph).1.getD u none with
      | none => rfl
      | some x =>
        rcases i3 u x hx with h9 | h9
        · rw [hwy u] at h9; cases h9
        · exact absurd (hsub _ h9) hu
    have hst : St (wAll wy0 qh ph).1 (wAll wy0 qh ph).1 (bl (vset qz)) (6 - 6) [] :=
      ⟨wAll_len wy0 qh ph rfl, rfl, fun u hu => by omega, fun u hu => ⟨hout u hu, fun h => by omega⟩, fun _ _ => rfl, fun u x hu => by omega⟩
    have hall : (bl (vset qz)).filter (fun v => decide (((6 - 6 : Nat) : Int) ≤ v)) = bl (vset qz) := List.filter_eq_self.2 fun x hx => by have := bl_in hx; simp only [decide_eq_true_eq]; omega
    have h := lead_firstS hI hout (fun r hr hm => (hmay r hr hm).2) i2 6 [] _ (Nat.le_refl _) hst (fun h9 => by rw [hall] at h9; exact absurd h9 hne)
    rw [hall] at h
    exact h

end Go.Proofs.Ytociphdhkjoofaa

/- Contract of spec.l1In. -/
namespace Go.Proofs.Ytociphdhkjoofaa
open Go.RowKit

theorem l1In_any (x lo hi : Int) (w : World) :
    Calls Try.prog 41 #[.int .i64 x, .int .i64 lo, .int .i64 hi] w fun e w' => e = .returned (.bool (decide (lo ≤ x) && decide (x ≤ hi))) ∧ w' = w := by
  by_cases h : lo ≤ x
  · have h1 : decide (lo ≤ x) = true := decide_eq_true h
    go_enter Try.func41, Try.ntmps41
    go_wp2
    go_ret
    exact ⟨ret_bool (by simp [h]), rfl⟩
  · have h1 : decide (lo ≤ x) = false := decide_eq_false h
    go_enter Try.func41, Try.ntmps41
    go_wp2
    go_ret
    exact ⟨ret_bool (by simp), rfl⟩

end Go.Proofs.Ytociphdhkjoofaa

/- Contracts of spec.l10Tables, spec.GoodQuery. -/
namespace Go.Proofs.Ytociphdhkjoofaa
open Go.RowKit

theorem tab_all {ts : List Int} (h : (ts.all fun n => decide (1 ≤ n) && decide (n ≤ 3)) = false) : tabOk ts = false := by unfold tabOk; rw [h, Bool.and_false]

set_option maxHeartbeats 1000000 in
theorem l10Tables_any (a : Option Addr) (n c : Nat) (ts : List Int) (w : World) (hz : ts.length = n) (hn : n ≤ 9223372036854775807) (ha : At w a ts) :
    Calls Try.prog 50 #[.slice a n c] w fun e w' => e = .returned (.bool (tabOk ts)) ∧ w' = w := by
  by_cases h0 : n = 0
  · subst h0
    obtain rfl := List.eq_nil_of_length_eq_zero hz
    go_enter Try.func50, Try.ntmps50
    go_wp2
    refine wp_loop_rounds 1 ?_
    rw [rounds_succ]
    go_wp2_with fail
    refine (l1In_any _ _ _ _).mono ?_
    rintro e w2 ⟨rfl, rfl⟩
    go_wp2
    go_ret
    exact ⟨rfl, rfl⟩
  obtain ⟨b, off, rfl, hb, hc⟩ := ha.some (by omega)
  clear ha
  go_enter Try.func50, Try.ntmps50
  go_wp2
  go_loopw [7] (fun i wr => ∃ (k : Nat), k ≤ n ∧ i = .int .i64 k ∧ (ts.all fun n => decide (1 ≤ n) && decide (n ≤ 3)) = ((ts.drop k).all fun n => decide (1 ≤ n) && decide (n ≤ 3)) ∧ wr = w) (fun i _ => n - (intOf i).toNat)
  case atStart => exact ⟨0, Nat.zero_le _, rfl, rfl, rfl⟩
  case round =>
    obtain ⟨k, hk, rfl, ht, rfl⟩ := hrel
    by_cases hlt : k < n
    · have hcx : wr.cell? ⟨b, off + k, none⟩ = some (.int .i64 (ts.getD k 0)) := hc k (by omega)
      rw [all_drop_int _ (by omega)] at ht
      obtain ⟨y, hy⟩ : ∃ y, y = ts.getD k 0 := ⟨_, rfl⟩
      rw [← hy] at hcx ht
      have HT := Hid.mk ht
      clear hc hy ht
      have HC := Hid.mk (l1In_any y 1 3 wr)
      cases hr : (decide (1 ≤ y) && decide (y ≤ 3)) with
      | false =>
        rw [hr] at HC
        go_wp2_with fail
        refine HC.out.mono ?_
        rintro e w2 ⟨rfl, h9⟩
        obtain rfl := h9.symm
        go_wp2
        go_ret
        exact ⟨ret_bool (tab_all (by rw [HT.out, hr]; rfl)).symm, rfl⟩
      | true =>
        rw [hr] at HC
        go_wp2_with fail
        refine HC.out.mono ?_
        rintro e w2 ⟨rfl, h9⟩
        obtain rfl := h9.symm
        go_wp2
        go_roundw
        case rel => exact ⟨k + 1, by omega, by go_num, by rw [HT.out, hr]; rfl, trivial⟩
        case measure => simp [intOf]; omega
    · rw [List.drop_of_length_le (by omega)] at ht
      have HT : Hid (tabOk ts = (decide ((1 : Int) ≤ (n : Int)) && decide ((n : Int) ≤ 4))) := by
        show _ = _
        unfold tabOk
        rw [ht, hz]
        simp
        have e1 : decide (1 ≤ n) = decide ((1 : Int) ≤ (n : Int)) := by simp; omega
        have e2 : decide (n ≤ 4) = decide ((n : Int) ≤ 4) := by simp; omega
        rw [e1, e2]
      have HC := Hid.mk (l1In_any (n : Int) 1 4 wr)
      rw [← HT.out] at HC
      clear ht
      go_wp2_with fail
      refine HC.out.mono ?_
      rintro e w2 ⟨rfl, h9⟩
      obtain rfl := h9.symm
      go_wp2
      go_ret
      exact ⟨rfl, rfl⟩

/-- What the model asks of an atom. -/
abbrev amB (ts : List Int) (a : Atm) : Bool := atOk ts a && a.2.all vOk

set_option maxRecDepth 100000 in
set_option maxHeartbeats 8000000 in
theorem specGoodQuery (ha : Option Addr) (hn hc : Nat) (hs : List Int) (a : Option Addr) (n c : Nat) (zs : List Atm) (ta : Option Addr) (tn tc : Nat) (ts : List Int) (w : World) (hh : hs.length = hn) (hhb : hn ≤ 9223372036854775807) (hat : At w ha hs) (hz : zs.length = n) (hb : n ≤ 9223372036854775807) (haz : AtQ w a zs) (htz : ts.length = tn) (htb : tn ≤ 9223372036854775807) (hta : At w ta ts) :
    Calls Try.prog 30 #[.agg #[.slice ha hn hc, .slice a n c], .slice ta tn tc] w fun e w' => e = .returned (.bool (gqB hs zs ts)) ∧ Below w.heap.size w w' := by
  obtain ⟨W, hW⟩ : ∃ W, W = w.alloc (.cells #[.slice ha hn hc, .slice a n c] 29) := ⟨_, rfl⟩
  have B0 : Below w.heap.size w W := by rw [hW]; exact (Below.refl _ _).alloc (Nat.le_refl _) _
  have q0 : W.cell? ⟨w.heap.size, 0, none⟩ = some (.slice ha hn hc) := by rw [hW]; exact pair0 w _ _ _
  have q1 : W.cell? ⟨w.heap.size, 1, none⟩ = some (.slice a n c) := by rw [hW]; exact pair1 w _ _ _
  have HZ := Hid.mk hz
  have HH := Hid.mk hh
  have HTZ := Hid.mk htz
  have HA := Hid.mk haz
  have HAH := Hid.mk hat
  have HAT := Hid.mk hta
  have HC1 := Hid.mk (l10Tables_any ta tn tc ts W htz htb (At.below hta B0))
  have HC2 := Hid.mk (l1In_any (n : Int) 1 5 W)
  clear hz hh htz haz hat hta
  cases ht : tabOk ts with
  | false =>
    rw [ht] at HC1
    have HF := Hid.mk (gq_not (hs := hs) (zs := zs) (.inl ht))
    clear ht
    go_enter Try.func30, Try.ntmps30
    go_wp2_with fail
    rw [← hW]
    refine HC1.out.mono ?_
    rintro e w2 ⟨rfl, h9⟩
    obtain rfl := h9.symm
    clear hW
    go_wp2
    go_ret
    exact ⟨ret_bool HF.out.symm, B0⟩
  | true =>
  rw [ht] at HC1
  have HTO := Hid.mk ht
  clear ht
  by_cases h1 : 1 ≤ n ∧ n ≤ 5
  rotate_left
  · have hq : gqB hs zs ts = false := by
      by_cases h9 : 1 ≤ n
      · exact gq_not (.inr (.inr (.inr (.inl (by unfold qvB; rw [decide_eq_false (by have := HZ.out; omega)]; rfl)))))
      · exact gq_not (.inr (.inl (by have := HZ.out; omega)))
    have hd : (decide ((1 : Int) ≤ (n : Int)) && decide ((n : Int) ≤ 5)) = false := by simp; omega
    have HF := Hid.mk hq
    rw [hd] at HC2
    clear hq hd h1
    go_enter Try.func30, Try.ntmps30
    go_wp2_with fail
    rw [← hW]
    refine HC1.out.mono ?_
    rintro e w2 ⟨rfl, h9⟩
    obtain rfl := h9.symm
    clear hW
    go_wp2_with fail
    refine HC2.out.mono ?_
    rintro e w2 ⟨rfl, h9⟩
    obtain rfl := h9.symm
    go_wp2
    go_ret
    exact ⟨ret_bool HF.out.symm, B0⟩
  have hd : (decide ((1 : Int) ≤ (n : Int)) && decide ((n : Int) ≤ 5)) = true := by simp; omega
  rw [hd] at HC2
  clear hd
  by_cases h6 : (6 : Int) < (hn : Int)
  · have HF := Hid.mk (gq_not (hs := hs) (zs := zs) (ts := ts) (.inr (.inr (.inl (by have := HH.out; omega)))))
    go_enter Try.func30, Try.ntmps30
    go_wp2_with fail
    rw [← hW]
    refine HC1.out.mono ?_
    rintro e w2 ⟨rfl, h9⟩
    obtain rfl := h9.symm
    clear hW
    go_wp2_with fail
    refine HC2.out.mono ?_
    rintro e w2 ⟨rfl, h9⟩
    obtain rfl := h9.symm
    go_wp2
    go_ret
    exact ⟨ret_bool HF.out.symm, B0⟩
  have HGM : Hid (gqB hs zs ts = (zs.all (amB ts) && hs.all fun v => decide (v ∈ bl (vset zs)))) := gq_model HTO.out (by have := HZ.out; omega) (by have := HZ.out; omega) (by have := HH.out; omega)
  go_enter Try.func30, Try.ntmps30
  go_wp2_with fail
  rw [← hW]
  refine HC1.out.mono ?_
  rintro e w2 ⟨rfl, h9⟩
  obtain rfl := h9.symm
  clear hW
  go_wp2_with fail
  refine HC2.out.mono ?_
  rintro e w2 ⟨rfl, h9⟩
  obtain rfl := h9.symm
  clear HC1 HC2
  go_wp2_with fail
  go_loopw [28] (fun i wr => ∃ (k : Nat), k ≤ n ∧ i = .int .i64 k ∧ zs.all (amB ts) = (zs.drop k).all (amB ts) ∧ Below w.heap.size w wr ∧ Below W.heap.size W wr) (fun i _ => n - (intOf i).toNat)
  case atStart => exact ⟨0, Nat.zero_le _, rfl, rfl, B0, Below.refl _ _⟩
  case round =>
    clear B0
    obtain ⟨k, hk, rfl, ht, hbw, hb3⟩ := hrel
    obtain ⟨wY, rfl⟩ : ∃ x, x = wr := ⟨_, rfl⟩
    by_cases hlt : k < n
    · obtain ⟨⟨xp, xv⟩, hx⟩ : ∃ x, zs[k]? = some x := ⟨_, List.getElem?_eq_getElem (by have := HZ.out; omega)⟩
      obtain ⟨b, off, rfl, _, hc⟩ := AtQ.row (AtSl.below HA.out hbw) (by have := HZ.out; omega)
      obtain ⟨va, vn, vc, g0, g1, u1, u2, u3, _⟩ := hc k _ hx
      have hki : (k : Int) < (n : Int) := by omega
      rw [all_drop_atm _ hx] at ht
      have hao : amB ts (xp, xv) = (decide (0 ≤ xp) && decide (xp < tn) && decide ((vn : Int) = ts.getD xp.toNat 0) && xv.all vOk) := by unfold amB atOk; simp only [] at u1 ⊢; rw [HTZ.out, u1]
      rw [hao] at ht
      obtain ⟨U, hU⟩ : ∃ U, U = wY.alloc (.cells #[.int .i64 xp, .slice va vn vc] 58) := ⟨_, rfl⟩
      have hbU : Below wY.heap.size wY U := by rw [hU]; exact (Below.refl _ _).alloc (Nat.le_refl _) _
      have e0 : U.cell? ⟨wY.heap.size, 0, none⟩ = some (.int .i64 xp) := by rw [hU]; exact pair0 wY _ _ _
      have e1 : U.cell? ⟨wY.heap.size, 1, none⟩ = some (.slice va vn vc) := by rw [hU]; exact pair1 wY _ _ _
      have HT := Hid.mk ht
      have HU1 : Hid (xv.length = vn) := u1
      have HU3 : Hid (At U va xv) := At.below u3 hbU
      have HBU := Hid.mk (And.intro (hbw.trans (hbU.mono hbw.size)) (hb3.trans (hbU.mono hb3.size)))
      have HTA := Hid.mk (At.below HAT.out HBU.out.1)
      clear hc hx ht hao u1 u3 hbU
      go_upto_region 6 with fail
      rw [← hU]
      clear hU g0 g1
      by_cases hneg : xp < 0
      · have HF : Hid (gqB hs zs ts = false) := by show _ = _; rw [HGM.out, HT.out, decide_eq_false (by omega)]; rfl
        clear hbw hb3
        refine wp_region_held_drew (S := fun w' => w'.cell? ⟨wY.heap.size, 0, none⟩ = some (.int .i64 (xp)) ∧ w'.cell? ⟨wY.heap.size, 1, none⟩ = some (.slice va vn vc)) (by kernel_rfl) ?_ (fun hHeld => ?_)
        · (try dsimp only)
          (refine ⟨?_, ?_⟩ <;> assumption)
        refine tk 0 ?_
        refine tk 1 ?_
        refine tk 2 ?_
        refine tk 3 ?_
        refine tu 4 ?_
        refine tu 5 ?_
        refine tu 6 ?_
        refine tu 7 ?_
        refine tu 8 ?_
        refine tk 9 ?_
        refine tk 10 ?_
        refine tu 11 ?_
        refine tu 12 ?_
        refine tu 13 ?_
        refine tu 14 ?_
        refine tu 15 ?_
        refine tu 16 ?_
        refine tu 17 ?_
        refine tu 18 ?_
        refine tu 19 ?_
        refine tk 20 ?_
        refine wpAnyH_done (by kernel_rfl) ?_ _
        go_wp2
        go_ret
        exact ⟨ret_bool HF.out.symm, HBU.out.1.drew⟩
      · obtain ⟨p, rfl⟩ := Int.eq_ofNat_of_zero_le (show 0 ≤ xp by omega)
        by_cases hbig : (tn : Int) ≤ (p : Int)
        · have HF : Hid (gqB hs zs ts = false) := by show _ = _; rw [HGM.out, HT.out, decide_eq_false (show ¬ (p : Int) < (tn : Int) by omega)]; simp
          clear hbw hb3
          refine wp_region_held_drew (S := fun w' => w'.cell? ⟨wY.heap.size, 0, none⟩ = some (.int .i64 ((p : Nat))) ∧ w'.cell? ⟨wY.heap.size, 1, none⟩ = some (.slice va vn vc)) (by kernel_rfl) ?_ (fun hHeld => ?_)
          · (try dsimp only)
            (refine ⟨?_, ?_⟩ <;> assumption)
          refine tk 0 ?_
          refine tk 1 ?_
          refine tk 2 ?_
          refine tk 3 ?_
          refine tk 4 ?_
          refine tk 5 ?_
          refine tk 6 ?_
          refine tk 7 ?_
          refine tk 8 ?_
          refine tk 9 ?_
          refine tk 10 ?_
          refine tu 11 ?_
          refine tu 12 ?_
          refine tu 13 ?_
          refine tu 14 ?_
          refine tu 15 ?_
          refine tu 16 ?_
          refine tu 17 ?_
          refine tu 18 ?_
          refine tu 19 ?_
          refine tk 20 ?_
          refine wpAnyH_done (by kernel_rfl) ?_ _
          go_wp2
          go_ret
          exact ⟨ret_bool HF.out.symm, HBU.out.1.drew⟩
        · obtain ⟨tb, toff, rfl, _, htc⟩ := HTA.out.some (by have := HTZ.out; omega)
          have htp := htc p (by have := HTZ.out; omega)
          have hpi : (p : Int) < (tn : Int) := by omega
          obtain ⟨tp, htp'⟩ : ∃ tp, tp = ts.getD p 0 := ⟨_, rfl⟩
          rw [← htp'] at htp
          have HEQ : Hid (zs.all (amB ts) = (decide ((vn : Int) = tp) && xv.all vOk && (zs.drop (k + 1)).all (amB ts))) := by
            show _ = _
            rw [HT.out, decide_eq_true (show (0 : Int) ≤ (p : Int) by omega), decide_eq_true hpi, htp', Int.toNat_natCast]
            rfl
          clear htc htp' hbw hb3
          by_cases hvt : (vn : Int) = tp
          · have HN : Hid (zs.all (amB ts) = (xv.all vOk && (zs.drop (k + 1)).all (amB ts))) := by show _ = _; rw [HEQ.out, decide_eq_true hvt]; rfl
            clear HEQ
            refine wp_region_held_drew (S := fun w' => w'.cell? ⟨wY.heap.size, 0, none⟩ = some (.int .i64 ((p : Nat))) ∧ w'.cell? ⟨wY.heap.size, 1, none⟩ = some (.slice va vn vc) ∧ w'.cell? ⟨tb, toff + p, none⟩ = some (.int .i64 tp)) (by kernel_rfl) ?_ (fun hHeld => ?_)
            · (try dsimp only)
              (refine ⟨?_, ?_, ?_⟩ <;> assumption)
            refine tk 0 ?_
            refine tk 1 ?_
            refine tk 2 ?_
            refine tk 3 ?_
            refine tk 4 ?_
            refine tk 5 ?_
            refine tk 6 ?_
            refine tk 7 ?_
            refine tk 8 ?_
            refine tk 9 ?_
            refine tk 10 ?_
            refine tk 11 ?_
            refine tk 12 ?_
            refine tk 13 ?_
            refine tk 14 ?_
            refine tk 15 ?_
            refine tk 16 ?_
            refine tk 17 ?_
            refine tk 18 ?_
            refine tk 19 ?_
            refine tk 20 ?_
            refine wpAnyH_done (by kernel_rfl) ?_ _
            obtain ⟨V, hV⟩ : ∃ V, V = U.drew := ⟨_, rfl⟩
            have e1' : V.cell? ⟨wY.heap.size, 1, none⟩ = some (.slice va vn vc) := by rw [hV]; exact e1
            have HU3' : Hid (At V va xv) := by show At _ _ _; rw [hV]; exact HU3.out.drew
            have HBV : Hid (Below w.heap.size w V ∧ Below W.heap.size W V) := by rw [hV]; exact ⟨HBU.out.1.drew, HBU.out.2.drew⟩
            rw [← hV]
            clear hV e0 e1 HU3 HBU HTA htp
            go_wp2_with fail
            go_loopw [56] (fun i wx => ∃ (j : Nat), j ≤ vn ∧ i = .int .i64 j ∧ xv.all vOk = (xv.drop j).all vOk ∧ wx = V) (fun i _ => vn - (intOf i).toNat)
            case atStart => exact ⟨0, Nat.zero_le _, rfl, rfl, rfl⟩
            case round =>
              obtain ⟨j, hj, rfl, hvj, rfl⟩ := hrel
              by_cases hjt : j < vn
              · obtain ⟨b', off', rfl, _, hcx⟩ := HU3'.out.some (by have := HU1.out; omega)
                have hv := hcx j (by have := HU1.out; omega)
                have hji : (j : Int) < (vn : Int) := by omega
                rw [all_drop_int _ (by have := HU1.out; omega)] at hvj
                obtain ⟨y, hy⟩ : ∃ y, y = xv.getD j 0 := ⟨_, rfl⟩
                rw [← hy] at hv hvj
                have HVT := Hid.mk hvj
                clear hcx hy hvj
                cases hr : vOk y with
                | false =>
                  go_wp2_with fail
                  refine (l10Var_any y wr).mono ?_
                  rintro e w2 ⟨rfl, h9⟩
                  obtain rfl := h9.symm
                  rw [hr]
                  have HF : Hid (gqB hs zs ts = false) := by show _ = _; rw [HGM.out, HN.out, HVT.out, hr]; rfl
                  clear hr
                  go_wp2
                  go_ret
                  exact ⟨ret_bool HF.out.symm, HBV.out.1⟩
                | true =>
                  go_wp2_with fail
                  refine (l10Var_any y wr).mono ?_
                  rintro e w2 ⟨rfl, h9⟩
                  obtain rfl := h9.symm
                  rw [hr]
                  go_wp2
                  go_roundw
                  case rel => exact ⟨j + 1, by omega, by go_num, by rw [HVT.out, hr]; rfl, trivial⟩
                  case measure => simp [intOf]; omega
              · rw [List.drop_of_length_le (by have := HU1.out; omega)] at hvj
                have HVT : Hid (zs.all (amB ts) = (zs.drop (k + 1)).all (amB ts)) := by show _ = _; rw [HN.out, hvj]; rfl
                clear hvj
                go_wp2
                go_roundw
                case rel => exact ⟨k + 1, by omega, by go_num, HVT.out, HBV.out.1, HBV.out.2⟩
                case measure => simp [intOf]; omega
          · have HF : Hid (gqB hs zs ts = false) := by show _ = _; rw [HGM.out, HEQ.out, decide_eq_false hvt]; rfl
            clear HEQ
            refine wp_region_held_drew (S := fun w' => w'.cell? ⟨wY.heap.size, 0, none⟩ = some (.int .i64 ((p : Nat))) ∧ w'.cell? ⟨wY.heap.size, 1, none⟩ = some (.slice va vn vc) ∧ w'.cell? ⟨tb, toff + p, none⟩ = some (.int .i64 tp)) (by kernel_rfl) ?_ (fun hHeld => ?_)
            · (try dsimp only)
              (refine ⟨?_, ?_, ?_⟩ <;> assumption)
            refine tk 0 ?_
            refine tk 1 ?_
            refine tk 2 ?_
            refine tk 3 ?_
            refine tk 4 ?_
            refine tk 5 ?_
            refine tk 6 ?_
            refine tk 7 ?_
            refine tk 8 ?_
            refine tk 9 ?_
            refine tk 10 ?_
            refine tk 11 ?_
            refine tk 12 ?_
            refine tk 13 ?_
            refine tk 14 ?_
            refine tk 15 ?_
            refine tk 16 ?_
            refine tk 17 ?_
            refine tk 18 ?_
            refine tk 19 ?_
            refine tk 20 ?_
            refine wpAnyH_done (by kernel_rfl) ?_ _
            go_wp2
            go_ret
            exact ⟨ret_bool HF.out.symm, HBU.out.1.drew⟩
    · rw [List.drop_of_length_le (by have := HZ.out; omega)] at ht
      have ht : zs.all (amB ts) = true := ht
      have hin : ∀ x ∈ zs, ∀ v ∈ x.2, (0 : Int) ≤ v ∧ v < 6 := fun x hx v hv => vOk_iff.1 (List.all_eq_true.1 (Bool.and_eq_true_iff.1 (List.all_eq_true.1 ht x hx)).2 v hv)
      have HGY : Hid (gqB hs zs ts = hs.all fun v => decide (v ∈ bl (vset zs))) := by show _ = _; rw [HGM.out, ht]; rfl
      have q0 := cell_later hb3 q0
      have q1 := cell_later hb3 q1
      have HC1 : Hid (∀ w' : World, Below wY.heap.size wY w' → Calls Try.prog 53 #[.agg #[.slice ha hn hc, .slice a n c]] w' fun e w'' => ∃ r m d, e = .returned (.slice r m d) ∧ (bl (vset zs)).length = m ∧ w''.ownsRow w'.heap.size 3 1 (.slice r m d) m ((bl (vset zs)).map (.int .i64)) ∧ Below w'.heap.size w' w'') :=
        fun w' h' => l10Vars_any ha hn hc a n c zs w' HZ.out hb hin (AtSl.below HA.out (hbw.trans (h'.mono hbw.size)))
      have HHW := Hid.mk (At.below HAH.out hbw)
      have hm6 := bl_len (vset zs)
      clear ht hin
      go_wp2_with fail
      go_region_held3 (fun w' => w'.cell? ⟨w.heap.size, 0, none⟩ = some (.slice ha hn hc) ∧ w'.cell? ⟨w.heap.size, 1, none⟩ = some (.slice a n c)) (refine ⟨?_, ?_⟩ <;> assumption)
        (first | (go_at_call 53; refine (HC1.out wY.drew (Below.refl _ _).drew).mono ?_; rintro e w5 ⟨r, m, d, rfl, hm, ho, hb5⟩; have q0 := cell_later hb5 q0; have q1 := cell_later hb5 q1) | (go_at_call 52; refine (l7All_any r m d (bl (vset zs)) ha hn hc hs w5 hm (by omega) (At.owned ho) HH.out hhb (At.below HHW.out ((Below.refl _ _).drew.trans hb5))).mono ?_; rintro e w6 ⟨rfl, h9⟩; obtain rfl := h9.symm) | fail)
      rw [← HGY.out]
      go_wp2
      go_ret
      exact ⟨rfl, hbw.drew.trans (hb5.mono hbw.size)⟩

end Go.Proofs.Ytociphdhkjoofaa

/- Contracts of spec.l10Contained, spec.IsContained. -/
namespace Go.Proofs.Ytociphdhkjoofaa
open Go.RowKit

theorem gq_some {hs : List Int} {zs : List Atm} {ts : List Int} (h : gqB hs zs ts = true) : bl (vset zs) ≠ [] := fun he => by
  obtain ⟨h1, h2, _, h4, _⟩ := gq_parts h
  obtain ⟨a, ha⟩ : ∃ a, a ∈ zs := ⟨zs[0], List.getElem_mem _⟩
  have h5 := List.all_eq_true.1 h4 a ha
  simp only [atOk, Bool.and_eq_true, decide_eq_true_eq] at h5
  have h6 := tabOk_in h1 a.1.toNat (by omega)
  have h7 : 0 < a.2.length := by omega
  have h8 : a.2[0] ∈ bl (vset zs) := (mem_bl_mk (flat_in (gq_in h)) _).2 (List.mem_flatMap.2 ⟨a, ha, List.getElem_mem h7⟩)
  rw [he] at h8
  cases h8
theorem ic_map {ph qh : List Int} {pz qz : List Atm} {ts : List Int} (_hp : gqB ph pz ts = true) (hq : gqB qh qz ts = true) : (lmF qh ph qz pz).map wnum = mapF qh ph qz pz 6 [] :=
  lm_map ⟨gq_head hq, gq_in hq⟩ (gq_parts hq).2.2.2.2 (gq_some hq)

set_option maxRecDepth 100000 in
theorem l10Contained_any (pha : Option Addr) (phn phc : Nat) (ph : List Int) (pa : Option Addr) (pn pc : Nat) (pz : List Atm) (qha : Option Addr) (qhn qhc : Nat) (qh : List Int) (qa : Option Addr) (qn qc : Nat) (qz : List Atm) (w : World) (hph : ph.length = phn) (hpb : phn ≤ 9223372036854775807) (hpha : At w pha ph) (hpz : pz.length = pn) (hpzb : pn ≤ 9223372036854775807) (hpa : AtQ w pa pz) (hqh : qh.length = qhn) (hqb : qhn ≤ 9223372036854775807) (hqha : At w qha qh) (hqz : qz.length = qn) (hqzb : qn ≤ 9223372036854775807) (hqa : AtQ w qa qz) (hI : InV qh qz) (hle : qhn ≤ phn) (hfit : Fit qz pz) (hIp : ∀ a ∈ pz, ∀ v ∈ a.2, (0 : Int) ≤ v ∧ v < 6) :
    Calls Try.prog 54 #[.agg #[.slice pha phn phc, .slice pa pn pc], .agg #[.slice qha qhn qhc, .slice qa qn qc]] w fun e w' => MapRet (mapF qh ph qz pz 6 []) e w' w.heap.size ∧ Below w.heap.size w w' := by
  obtain ⟨W, hW⟩ : ∃ W, W = (w.alloc (.cells #[.slice pha phn phc, .slice pa pn pc] 29)).alloc (.cells #[.slice qha qhn qhc, .slice qa qn qc] 29) := ⟨_, rfl⟩
  have B0 : Below w.heap.size w W := by rw [hW]; exact ((Below.refl _ _).alloc (Nat.le_refl _) _).alloc (by simp) _
  have b0 : W.heap[w.heap.size]? = some (.cells #[.slice pha phn phc, .slice pa pn pc] 29 (0, 0)) := by rw [hW]; exact blk_alloc (heap_alloc_new w _) _
  have b1 : W.heap[w.heap.size + 1]? = some (.cells #[.slice qha qhn qhc, .slice qa qn qc] 29 (0, 0)) := by
    rw [hW]
    have h := heap_alloc_new (w.alloc (.cells #[.slice pha phn phc, .slice pa pn pc] 29)) (.cells #[.slice qha qhn qhc, .slice qa qn qc] 29)
    simpa only [World.size_alloc] using h
  have c0 := blk_cell b0 0 (v := .slice pha phn phc) rfl
  have c1 := blk_cell b0 1 (v := .slice pa pn pc) rfl
  have d0 := blk_cell b1 0 (v := .slice qha qhn qhc) rfl
  have d1 := blk_cell b1 1 (v := .slice qa qn qc) rfl
  have KM : Hid (Calls Try.prog 67 #[.agg #[.slice pha phn phc, .slice pa pn pc], .agg #[.slice qha qhn qhc, .slice qa qn qc], .int .i64 0, .slice none 0 0] W fun e w' => MapRet (mapF qh ph qz pz 6 []) e w' W.heap.size ∧ Below W.heap.size W w') :=
    l10Map_any pha phn phc ph pa pn pc pz qha qhn qhc qh qa qn qc qz 6 0 rfl none 0 [] W hph hpb (At.below hpha B0) hpz hpzb (AtSl.below hpa B0) hqh hqb (At.below hqha B0) hqz hqzb (AtSl.below hqa B0) hI hle hfit hIp rfl (.inl rfl) (fun _ => rfl)
  obtain ⟨O, hO⟩ : ∃ O, O = mapF qh ph qz pz 6 [] := ⟨_, rfl⟩
  rw [← hO] at KM ⊢
  clear hO hph hpha hpz hpa hqh hqha hqz hqa hI hfit hIp b0 b1
  go_enter Try.func54, Try.ntmps54
  go_upto_region 1 with fail
  rw [← hW]
  clear hW
  go_wp2_with fail
  refine KM.out.mono ?_
  rintro e w2 ⟨hret, hb2⟩
  have B2 := B0.trans (hb2.mono B0.size)
  cases O with
  | none =>
    have hret : e = .returned (.tuple #[.slice none 0 0, .bool false]) := hret
    subst hret
    go_wp2
    exact bodyPost_ret (v := .tuple #[.slice none 0 0, .bool false]) (by simp [results, Try.results54, go_sem]) rfl ⟨rfl, B2⟩
  | some r =>
    obtain ⟨ra, rd, rfl, hor⟩ := hret
    have HOR := Hid.mk (owns_mono hor B0.size)
    clear hor
    go_wp2
    exact bodyPost_ret (v := .tuple #[.slice ra 6 rd, .bool true]) (by simp [results, Try.results54, go_sem]) rfl ⟨⟨ra, rd, rfl, HOR.out⟩, B2⟩

end Go.Proofs.Ytociphdhkjoofaa
