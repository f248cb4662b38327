/- Several texts of one proof, in build order: MpP, SpH, SpM. -/
import Derived.Test.YtociphdhkjoofaaM14
import Derived.Deep.CutBlock

/- Plain: the model's search for a map, and that it finds what the program's search finds. -/
namespace Go.Proofs.Ytociphdhkjoofaa

/-- Numbers that lie within what is given fit others. -/
def fitV (tl : List Int) : List Int → List Int → Bool
  | [], _ => true
  | v :: vs, xs => (!decide (v < tl.length) || decide (tl.getD v.toNat 0 = xs.headD 0)) && fitV tl vs xs.tail
def hasA (tl : List Int) (pz : List Atm) (a : Atm) : Bool := pz.any fun o => decide (o.1 = a.1) && fitV tl a.2 o.2
def mayB (qh ph : List Int) (qz pz : List Atm) (tl : List Int) : Bool := fitV tl qh ph && qz.all (hasA tl pz)
/-- The model's search: k variables are left. -/
def mapF (qh ph : List Int) (qz pz : List Atm) : Nat → List Int → Option (List Int)
  | 0, tl => if mayB qh ph qz pz tl then some tl else none
  | k + 1, tl => if ((5 - k : Nat) : Int) ∈ bl (vset qz) then (bl (vset pz)).findSome? (fun x => if mayB qh ph qz pz (tl ++ [x]) then mapF qh ph qz pz k (tl ++ [x]) else none) else mapF qh ph qz pz k (tl ++ [0])
/-- The same without looking ahead. -/
def firstS (qh ph : List Int) (qz pz : List Atm) : Nat → List Int → Option (List Int)
  | 0, tl => if mayB qh ph qz pz tl then some tl else none
  | k + 1, tl => if ((5 - k : Nat) : Int) ∈ bl (vset qz) then (bl (vset pz)).findSome? (fun x => firstS qh ph qz pz k (tl ++ [x])) else firstS qh ph qz pz k (tl ++ [0])

theorem findSome_mem {f : Int → Option (List Int)} {l : List Int} {r : List Int} (h : l.findSome? f = some r) : ∃ x ∈ l, f x = some r := by
  induction l with
  | nil => simp at h
  | cons t l ih =>
    rw [List.findSome?_cons] at h
    cases ht : f t with
    | some m' => rw [ht] at h; cases h; exact ⟨t, by simp, ht⟩
    | none => rw [ht] at h; obtain ⟨x, hx, hf⟩ := ih h; exact ⟨x, by simp [hx], hf⟩
theorem findSome_congr' {f g : Int → Option (List Int)} : ∀ {l : List Int}, (∀ x ∈ l, f x = g x) → l.findSome? f = l.findSome? g
  | [], _ => rfl
  | t :: l, h => by
    rw [List.findSome?_cons, List.findSome?_cons, h t (by simp), findSome_congr' (l := l) fun x hx => h x (by simp [hx])]

theorem firstS_some (qh ph : List Int) (qz pz : List Atm) : ∀ (k : Nat) (tl r : List Int), firstS qh ph qz pz k tl = some r → tl <+: r ∧ mayB qh ph qz pz r = true ∧ r.length = tl.length + k
  | 0, tl, r, h => by
    unfold firstS at h
    split at h
    · rename_i hm; cases h; exact ⟨List.prefix_refl _, hm, rfl⟩
    · cases h
  | k + 1, tl, r, h => by
    unfold firstS at h
    split at h
    · obtain ⟨x, _, hx⟩ := findSome_mem h
      obtain ⟨h1, h2, h3⟩ := firstS_some qh ph qz pz k _ r hx
      exact ⟨(List.prefix_append tl [x]).trans h1, h2, by rw [h3]; simp; omega⟩
    · obtain ⟨h1, h2, h3⟩ := firstS_some qh ph qz pz k _ r h
      exact ⟨(List.prefix_append tl [0]).trans h1, h2, by rw [h3]; simp; omega⟩

theorem prefix_getD {tl r : List Int} (h : tl <+: r) {u : Nat} (hu : u < tl.length) : r.getD u 0 = tl.getD u 0 := by
  obtain ⟨s, rfl⟩ := h
  simp [List.getD, List.getElem?_append_left hu]
theorem fitV_prefix {tl r : List Int} (h : tl <+: r) : ∀ (vs xs : List Int), (∀ v ∈ vs, (0 : Int) ≤ v) → fitV r vs xs = true → fitV tl vs xs = true
  | [], _, _, _ => rfl
  | v :: vs, xs, hv, hf => by
    unfold fitV at hf ⊢
    simp only [Bool.and_eq_true, Bool.or_eq_true, Bool.not_eq_true', decide_eq_false_iff_not, decide_eq_true_eq] at hf ⊢
    refine ⟨?_, fitV_prefix h vs xs.tail (fun x hx => hv x (by simp [hx])) hf.2⟩
    by_cases hl : v < tl.length
    · right
      have h0 := hv v (by simp)
      have hle := h.length_le
      rcases hf.1 with h1 | h1
      · omega
      · rw [← h1, prefix_getD h (by omega)]
    · exact .inl hl
/-- Variables that are such. -/
def InV (qh : List Int) (qz : List Atm) : Prop := (∀ v ∈ qh, (0 : Int) ≤ v ∧ v < 6) ∧ ∀ a ∈ qz, ∀ v ∈ a.2, (0 : Int) ≤ v ∧ v < 6
theorem mayB_prefix {qh ph : List Int} {qz pz : List Atm} {tl r : List Int} (hI : InV qh qz) (h : tl <+: r) (hm : mayB qh ph qz pz r = true) : mayB qh ph qz pz tl = true := by
  unfold mayB at hm ⊢
  simp only [Bool.and_eq_true, List.all_eq_true] at hm ⊢
  refine ⟨fitV_prefix h qh ph (fun v hv => (hI.1 v hv).1) hm.1, fun a ha => ?_⟩
  have h1 := hm.2 a ha
  unfold hasA at h1 ⊢
  rw [List.any_eq_true] at h1 ⊢
  obtain ⟨o, ho, h2⟩ := h1
  refine ⟨o, ho, ?_⟩
  rw [Bool.and_eq_true] at h2 ⊢
  exact ⟨h2.1, fitV_prefix h a.2 o.2 (fun v hv => (hI.2 a ha v hv).1) h2.2⟩
theorem mapF_first {qh ph : List Int} {qz pz : List Atm} (hI : InV qh qz) : ∀ (k : Nat) (tl : List Int), mapF qh ph qz pz k tl = firstS qh ph qz pz k tl
  | 0, tl => rfl
  | k + 1, tl => by
    unfold mapF firstS
    split
    · refine findSome_congr' fun x _ => ?_
      split
      · exact mapF_first hI k _
      · rename_i hm
        cases hf : firstS qh ph qz pz k (tl ++ [x]) with
        | none => rfl
        | some r => exact absurd (mayB_prefix hI (firstS_some qh ph qz pz k _ r hf).1 (firstS_some qh ph qz pz k _ r hf).2.1) hm
    · exact mapF_first hI k _

/-! Ways and what they agree with. -/
def Agr (m : Wy) (r : List Int) : Prop := ∀ (u : Nat) (x : Int), m.getD u none = some x → r.getD u 0 = x
theorem getD_set_self {m : Wy} {u : Nat} (h : u < m.length) (o : Option Int) : (m.set u o).getD u none = o := by simp [List.getD, h]
theorem getD_set_ne' {m : Wy} {u v : Nat} (h : u ≠ v) (o : Option Int) : (m.set v o).getD u none = m.getD u none := by simp [List.getD, List.getElem?_set_ne (Ne.symm h)]
theorem wWith_agr {m : Wy} {r : List Int} {v x : Int} (hm : m.length = 6) (h0 : 0 ≤ v ∧ v < 6) (ha : Agr m r) (hr : r.getD v.toNat 0 = x) : (wWith m v x).2 = true ∧ Agr (wWith m v x).1 r := by
  unfold wWith
  split
  · rename_i y hy
    have := ha _ _ hy
    refine ⟨?_, ha⟩
    simp only [beq_iff_eq]
    omega
  · refine ⟨rfl, fun u y hu => ?_⟩
    by_cases huv : u = v.toNat
    · subst huv
      simp only at hu
      rw [getD_set_self (by omega)] at hu
      cases hu
      exact hr
    · simp only at hu
      rw [getD_set_ne' huv] at hu
      exact ha u y hu
theorem wAll_agr : ∀ (vs xs : List Int) (m : Wy) (r : List Int), m.length = 6 → r.length = 6 → (∀ v ∈ vs, (0 : Int) ≤ v ∧ v < 6) → Agr m r → fitV r vs xs = true → (wAll m vs xs).2 = true ∧ Agr (wAll m vs xs).1 r
  | [], _, _, _, _, _, _, ha, _ => ⟨rfl, ha⟩
  | v :: vs, xs, m, r, hm, hr, hv, ha, hf => by
    unfold fitV at hf
    simp only [Bool.and_eq_true, Bool.or_eq_true, Bool.not_eq_true', decide_eq_false_iff_not, decide_eq_true_eq] at hf
    have hv0 := hv v (by simp)
    have h1 : r.getD v.toNat 0 = xs.headD 0 := by
      rcases hf.1 with h | h
      · omega
      · exact h
    obtain ⟨g1, g2⟩ := wWith_agr hm hv0 ha h1
    rw [wAll_cons, if_pos g1]
    exact wAll_agr vs xs.tail _ r (by rw [wWith_len, hm]) hr (fun x hx => hv x (by simp [hx])) g2 hf.2
theorem wWith_sub {m : Wy} {v x : Int} : ∀ (u : Nat) (y : Int), m.getD u none = some y → (wWith m v x).1.getD u none = some y := by
  unfold wWith
  split
  · exact fun u y h => h
  · rename_i hn
    intro u y hu
    by_cases huv : u = v.toNat
    · subst huv; rw [hn] at hu; cases hu
    · simp only; rw [getD_set_ne' huv]; exact hu
theorem wWith_at {m : Wy} {v x : Int} (hm : m.length = 6) (h0 : 0 ≤ v ∧ v < 6) (h : (wWith m v x).2 = true) : (wWith m v x).1.getD v.toNat none = some x := by
  unfold wWith at h ⊢
  split
  · rename_i y hy
    rw [hy] at h
    simp only [beq_iff_eq] at h
    simp only
    rw [hy, h]
  · simp only
    exact getD_set_self (by omega) _
theorem wWith_from {m : Wy} {v x : Int} : ∀ (u : Nat) (y : Int), (wWith m v x).1.getD u none = some y → m.getD u none = some y ∨ u = v.toNat := fun u y h => by
  unfold wWith at h
  split at h
  · exact .inl h
  · by_cases huv : u = v.toNat
    · exact .inr huv
    · simp only at h; rw [getD_set_ne' huv] at h; exact .inl h
/-- What is known then: all that was, each of those told, nothing else. -/
theorem wAll_is : ∀ (vs xs : List Int) (m : Wy), m.length = 6 → (∀ v ∈ vs, (0 : Int) ≤ v ∧ v < 6) → (wAll m vs xs).2 = true →
    (∀ (u : Nat) (y : Int), m.getD u none = some y → (wAll m vs xs).1.getD u none = some y) ∧ (∀ r, Agr (wAll m vs xs).1 r → fitV r vs xs = true) ∧ (∀ (u : Nat) (y : Int), (wAll m vs xs).1.getD u none = some y → m.getD u none = some y ∨ (u : Int) ∈ vs)
  | [], _, _, _, _, _ => ⟨fun _ _ h => h, fun _ _ => rfl, fun _ _ h => .inl h⟩
  | v :: vs, xs, m, hm, hv, h => by
    rw [wAll_cons] at h ⊢
    have hv0 := hv v (by simp)
    split at h
    · rename_i hw
      rw [if_pos hw]
      obtain ⟨g1, g2, g3⟩ := wAll_is vs xs.tail _ (by rw [wWith_len, hm]) (fun x hx => hv x (by simp [hx])) h
      refine ⟨fun u y hu => g1 u y (wWith_sub u y hu), fun r hr => ?_, fun u y hu => ?_⟩
      · unfold fitV
        rw [g2 r hr, hr _ _ (g1 _ _ (wWith_at hm hv0 hw))]
        simp
      · rcases g3 u y hu with h' | h'
        · rcases wWith_from u y h' with h9 | h9
          · exact .inl h9
          · right; rw [h9, Int.toNat_of_nonneg hv0.1]; simp
        · exact .inr (by simp [h'])
    · cases h

theorem mLead_agr {m : Wy} {r : List Int} {qz pz : List Atm} (hm : m.length = 6) (hr : r.length = 6) (hv : ∀ a ∈ qz, ∀ v ∈ a.2, (0 : Int) ≤ v ∧ v < 6) (ha : Agr m r) (h : qz.all (hasA r pz) = true) : mLead m qz pz = true := by
  unfold mLead
  rw [List.all_eq_true] at h ⊢
  intro a haz
  have h1 := h a haz
  unfold hasA at h1
  rw [List.any_eq_true] at h1 ⊢
  obtain ⟨o, ho, h2⟩ := h1
  rw [Bool.and_eq_true, decide_eq_true_eq] at h2
  refine ⟨o, ho, ?_⟩
  unfold mTake
  rw [decide_eq_true h2.1.symm, (wAll_agr a.2 o.2 m r hm hr (hv a haz) ha h2.2).1]
  rfl
/-- Where all variables are known the look at atoms says what the model says. -/
theorem mLead_full {m : Wy} {r : List Int} {qz pz : List Atm} (hm : m.length = 6) (hv : ∀ a ∈ qz, ∀ v ∈ a.2, (0 : Int) ≤ v ∧ v < 6) (hfull : ∀ a ∈ qz, ∀ v ∈ a.2, m.getD v.toNat none = some (r.getD v.toNat 0)) (ha : Agr m r) (h : mLead m qz pz = true) : qz.all (hasA r pz) = true := by
  unfold mLead at h
  rw [List.all_eq_true] at h ⊢
  intro a haz
  have h1 := h a haz
  unfold hasA
  rw [List.any_eq_true] at h1 ⊢
  obtain ⟨o, ho, h2⟩ := h1
  unfold mTake at h2
  rw [Bool.and_eq_true, decide_eq_true_eq] at h2
  refine ⟨o, ho, ?_⟩
  obtain ⟨g1, g2, g3⟩ := wAll_is a.2 o.2 m hm (hv a haz) h2.2
  rw [decide_eq_true h2.1.symm, g2 r (fun u y hu => ?_)]
  · rfl
  · rcases g3 u y hu with h9 | h9
    · exact ha u y h9
    · have h8 := g1 _ _ (hfull a haz _ h9)
      rw [Int.toNat_natCast] at h8
      rw [hu] at h8
      cases h8
      rfl

end Go.Proofs.Ytociphdhkjoofaa

/- Contract of spec.l10HasAtom. -/
namespace Go.Proofs.Ytociphdhkjoofaa
open Go.RowKit

theorem fitV_cons {tl : List Int} {v : Int} {vs xs : List Int} : fitV tl (v :: vs) xs = ((!decide (v < tl.length) || decide (tl.getD v.toNat 0 = xs.headD 0)) && fitV tl vs xs.tail) := rfl

set_option maxRecDepth 100000 in
set_option maxHeartbeats 8000000 in
theorem l10HasAtom_any (pha : Option Addr) (phn phc : Nat) (pa : Option Addr) (pn pc : Nat) (pz : List Atm) (ap : Int) (va : Option Addr) (vn vc : Nat) (vs : List Int) (ta : Option Addr) (tn tc : Nat) (tl : List Int) (w : World)
    (hpz : pz.length = pn) (hpb : pn ≤ 9223372036854775807) (hpa : AtQ w pa pz) (hvz : vs.length = vn) (hvb : vn ≤ 9223372036854775807) (hva : At w va vs) (hin : ∀ v ∈ vs, (0 : Int) ≤ v) (htz : tl.length = tn) (htb : tn ≤ 9223372036854775807) (hta : At w ta tl) (hle : ∀ o ∈ pz, ap = o.1 → vn ≤ o.2.length) :
    Calls Try.prog 76 #[.agg #[.slice pha phn phc, .slice pa pn pc], .agg #[.int .i64 ap, .slice va vn vc], .slice ta tn tc] w fun e w' => e = .returned (.bool (hasA tl pz (ap, vs))) ∧ Below w.heap.size w w' := by
  obtain ⟨W, hW⟩ : ∃ W, W = (w.alloc (.cells #[.slice pha phn phc, .slice pa pn pc] 29)).alloc (.cells #[.int .i64 ap, .slice va vn vc] 58) := ⟨_, rfl⟩
  have B0 : Below w.heap.size w W := by rw [hW]; exact ((Below.refl _ _).alloc (Nat.le_refl _) _).alloc (by simp) _
  have b1 : W.heap[w.heap.size + 1]? = some (.cells #[.int .i64 ap, .slice va vn vc] 58 (0, 0)) := by
    rw [hW]
    have h := heap_alloc_new (w.alloc (.cells #[.slice pha phn phc, .slice pa pn pc] 29)) (.cells #[.int .i64 ap, .slice va vn vc] 58)
    simpa only [World.size_alloc] using h
  have c1 : W.cell? ⟨w.heap.size, 1, none⟩ = some (.slice pa pn pc) := by
    have b0 : W.heap[w.heap.size]? = some (.cells #[.slice pha phn phc, .slice pa pn pc] 29 (0, 0)) := by rw [hW]; exact blk_alloc (heap_alloc_new w _) _
    exact blk_cell b0 1 (v := .slice pa pn pc) rfl
  have HB1 := Hid.mk b1
  have HPZ := Hid.mk hpz
  have HPA := Hid.mk hpa
  have HVZ := Hid.mk hvz
  have HVA := Hid.mk hva
  have HIN := Hid.mk hin
  have HTZ := Hid.mk htz
  have HTA := Hid.mk hta
  have HLE := Hid.mk hle
  have HE : Hid (hasA tl pz (ap, vs) = (pz.drop 0).any fun o => decide (o.1 = ap) && fitV tl vs o.2) := rfl
  clear hpz hpa hvz hva hin htz hta hle b1
  go_enter Try.func76, Try.ntmps76
  go_upto_region 1 with fail
  rw [← hW]
  clear hW
  go_wp2_with fail
  go_loopw [15] (fun i wr => ∃ (k : Nat), k ≤ pn ∧ i = .int .i64 k ∧ hasA tl pz (ap, vs) = ((pz.drop k).any fun o => decide (o.1 = ap) && fitV tl vs o.2) ∧ Below w.heap.size w wr ∧ Below W.heap.size W wr) (fun i _ => pn - (intOf i).toNat)
  case atStart => exact ⟨0, Nat.zero_le _, rfl, HE.out, B0, Below.refl _ _⟩
  case round =>
    clear B0 HE c1
    obtain ⟨k, hk, rfl, ht, hbw, hbW⟩ := hrel
    obtain ⟨wY, rfl⟩ : ∃ x, x = wr := ⟨_, rfl⟩
    by_cases hlt : k < pn
    · obtain ⟨⟨xp, xv⟩, hx⟩ : ∃ x, pz[k]? = some x := ⟨_, List.getElem?_eq_getElem (by have := HPZ.out; omega)⟩
      obtain ⟨b, off, rfl, _, hc⟩ := AtQ.row (AtSl.below HPA.out hbw) (by have := HPZ.out; omega)
      obtain ⟨xa, xn, xc, g0, g1, u1, u2, u3, _⟩ := hc k _ hx
      have hki : (k : Int) < (pn : Int) := by omega
      have hdr : pz.drop k = (xp, xv) :: pz.drop (k + 1) := by
        obtain ⟨h1, h2⟩ := List.getElem?_eq_some_iff.1 hx
        rw [List.drop_eq_getElem_cons h1, h2]
      have hmem := List.mem_of_getElem? hx
      rw [hdr, List.any_cons] at ht
      simp only at ht
      obtain ⟨U, hU⟩ : ∃ U, U = wY.alloc (.cells #[.int .i64 xp, .slice xa xn xc] 58) := ⟨_, rfl⟩
      have hbU : Below wY.heap.size wY U := by rw [hU]; exact (Below.refl _ _).alloc (Nat.le_refl _) _
      have bU : U.heap[wY.heap.size]? = some (.cells #[.int .i64 xp, .slice xa xn xc] 58 (0, 0)) := by rw [hU]; exact heap_alloc_new _ _
      have B1 := hbw.trans (hbU.mono hbw.size)
      have B2 := hbW.trans (hbU.mono hbW.size)
      have d1 := blk_below HB1.out B2
      have e0 := blk_cell bU 0 (v := .int .i64 xp) rfl
      have e1 := blk_cell bU 1 (v := .slice xa xn xc) rfl
      have f0 := blk_cell d1 0 (v := .int .i64 ap) rfl
      have f1 := blk_cell d1 1 (v := .slice va vn vc) rfl
      have HT := Hid.mk ht
      have HU1 : Hid (xv.length = xn) := u1
      have HU3 : Hid (At U xa xv) := At.below u3 hbU
      have HBB := Hid.mk (And.intro B1 B2)
      have HVU := Hid.mk (At.below HVA.out B1)
      have HTU := Hid.mk (At.below HTA.out B1)
      have HLX : Hid (ap = xp → vn ≤ xn) := fun h => by have := HLE.out _ hmem h; simp only at this u1; omega
      clear hc hx hdr hmem ht u1 u3 hbU bU d1 B1 B2 hbw hbW
      by_cases hap : xp = ap
      rotate_left
      · have HN : Hid (hasA tl pz (ap, vs) = (pz.drop (k + 1)).any fun o => decide (o.1 = ap) && fitV tl vs o.2) := by show _ = _; rw [HT.out, decide_eq_false hap]; rfl
        go_upto_region 4 with fail
        rw [← hU]
        clear hU g0 g1
        go_wp2
        go_roundw
        case rel => exact ⟨k + 1, by omega, by go_num, HN.out, HBB.out.1, HBB.out.2⟩
        case measure => simp [intOf]; omega
      · subst hap
        have hvx := HLX.out rfl
        have HE2 : Hid (fitV tl vs xv = (true && fitV tl (vs.drop 0) (xv.drop 0))) := by show _ = _; simp
        have HT2 : Hid (hasA tl pz (xp, vs) = (fitV tl vs xv || (pz.drop (k + 1)).any fun o => decide (o.1 = xp) && fitV tl vs o.2)) := by show _ = _; rw [HT.out]; simp
        clear HT HLX
        go_upto_region 4 with fail
        rw [← hU]
        clear hU g0 g1
        go_wp2_with fail
        go_loopw [9, 27] (fun q i wx => ∃ (j : Nat) (bb : Bool), j ≤ vn ∧ i = .int .i64 j ∧ q = .bool bb ∧ fitV tl vs xv = (bb && fitV tl (vs.drop j) (xv.drop j)) ∧ Below U.heap.size U wx) (fun _ i _ => vn - (intOf i).toNat)
        case atStart => exact ⟨0, true, Nat.zero_le _, rfl, rfl, HE2.out, Below.refl _ _⟩
        case round =>
          clear HE2
          obtain ⟨j, bb, hj, rfl, rfl, hfj, hbx⟩ := hrel
          obtain ⟨wX, rfl⟩ : ∃ x, x = wr := ⟨_, rfl⟩
          have e1 := cell_later hbx e1
          by_cases hjt : j < vn
          · obtain ⟨vb, voff, rfl, _, hvc⟩ := (At.below HVU.out hbx).some (by have := HVZ.out; omega)
            obtain ⟨xb, xoff, rfl, _, hxc⟩ := (At.below HU3.out hbx).some (by have := HU1.out; omega)
            have hvc := hvc j (by have := HVZ.out; omega)
            have z3 := hxc j (by have := HU1.out; omega)
            have hji : (j : Int) < (vn : Int) := by omega
            have hjx : (j : Int) < (xn : Int) := by omega
            have hdv : vs.drop j = vs.getD j 0 :: vs.drop (j + 1) := by rw [List.drop_eq_getElem_cons (by have := HVZ.out; omega)]; simp [List.getD, show j < vs.length by have := HVZ.out; omega]
            have hdx : xv.drop j = xv.getD j 0 :: xv.drop (j + 1) := by rw [List.drop_eq_getElem_cons (by have := HU1.out; omega)]; simp [List.getD, show j < xv.length by have := HU1.out; omega]
            rw [hdv, hdx, fitV_cons, List.headD_cons, List.tail_cons] at hfj
            have hnn := HIN.out (vs.getD j 0) (by simp [List.getD, show j < vs.length by have := HVZ.out; omega])
            obtain ⟨p, hp⟩ := Int.eq_ofNat_of_zero_le hnn
            obtain ⟨x, hxx⟩ : ∃ x, x = xv.getD j 0 := ⟨_, rfl⟩
            rw [hp] at hvc hfj
            rw [← hxx] at z3 hfj
            rw [HTZ.out, Int.toNat_natCast] at hfj
            have HFJ := Hid.mk hfj
            have z2 := e1
            clear hdv hdx hnn hp hxx hfj hxc e1
            by_cases hpt : (p : Int) < (tn : Int)
            · obtain ⟨tb, toff, rfl, _, htc⟩ := (At.below HTU.out hbx).some (by have := HTZ.out; omega)
              have z1 := htc p (by have := HTZ.out; omega)
              obtain ⟨tv, htv⟩ : ∃ tv, tv = tl.getD p 0 := ⟨_, rfl⟩
              rw [← htv] at z1
              have HF2 : Hid (fitV tl vs xv = (bb && (decide (tv = x) && fitV tl (vs.drop (j + 1)) (xv.drop (j + 1))))) := by show _ = _; rw [HFJ.out, decide_eq_true hpt, ← htv]; simp
              clear htc htv HFJ
              by_cases htx : tv = x
              · have HN : Hid (fitV tl vs xv = (bb && fitV tl (vs.drop (j + 1)) (xv.drop (j + 1)))) := by show _ = _; rw [HF2.out, decide_eq_true htx]; simp
                clear HF2
                go_upto_region 9 with fail
                clear hvc
                refine wp_region_held_drew (S := fun w' => w'.cell? ⟨tb, toff + p, none⟩ = some (.int .i64 tv) ∧ w'.cell? ⟨wY.heap.size, 1, none⟩ = some (.slice (some ⟨xb, xoff, none⟩) xn xc) ∧ w'.cell? ⟨xb, xoff + j, none⟩ = some (.int .i64 x)) (by kernel_rfl) ?_ (fun hHeld => ?_)
                · (try dsimp only)
                  exact ⟨z1, z2, z3⟩
                refine tk 0 ?_
                refine tk 1 ?_
                refine tk 2 ?_
                refine tk 3 ?_
                refine tk 4 ?_
                refine tk 5 ?_
                refine tk 6 ?_
                refine tk 7 ?_
                refine tk 8 ?_
                refine tk 9 ?_
                refine tk 10 ?_
                refine tk 11 ?_
                refine tk 12 ?_
                refine tk 13 ?_
                refine tk 14 ?_
                refine tk 15 ?_
                refine wpAnyH_done (by kernel_rfl) ?_ _
                go_wp2
                go_roundw
                case rel => exact ⟨j + 1, bb, by omega, by go_num, rfl, HN.out, hbx.drew⟩
                case measure => simp [intOf]; omega
              · have HN : Hid (fitV tl vs xv = (false && fitV tl (vs.drop (j + 1)) (xv.drop (j + 1)))) := by show _ = _; rw [HF2.out, decide_eq_false htx]; simp
                clear HF2
                go_upto_region 9 with fail
                clear hvc
                refine wp_region_held_drew (S := fun w' => w'.cell? ⟨tb, toff + p, none⟩ = some (.int .i64 tv) ∧ w'.cell? ⟨wY.heap.size, 1, none⟩ = some (.slice (some ⟨xb, xoff, none⟩) xn xc) ∧ w'.cell? ⟨xb, xoff + j, none⟩ = some (.int .i64 x)) (by kernel_rfl) ?_ (fun hHeld => ?_)
                · (try dsimp only)
                  exact ⟨z1, z2, z3⟩
                refine tk 0 ?_
                refine tk 1 ?_
                refine tk 2 ?_
                refine tk 3 ?_
                refine tk 4 ?_
                refine tk 5 ?_
                refine tk 6 ?_
                refine tk 7 ?_
                refine tk 8 ?_
                refine tk 9 ?_
                refine tk 10 ?_
                refine tk 11 ?_
                refine tk 12 ?_
                refine tk 13 ?_
                refine tk 14 ?_
                refine tk 15 ?_
                refine wpAnyH_done (by kernel_rfl) ?_ _
                go_wp2
                go_roundw
                case rel => exact ⟨j + 1, false, by omega, by go_num, rfl, HN.out, hbx.drew⟩
                case measure => simp [intOf]; omega
            · have HN : Hid (fitV tl vs xv = (bb && fitV tl (vs.drop (j + 1)) (xv.drop (j + 1)))) := by show _ = _; rw [HFJ.out, decide_eq_false hpt]; simp
              clear HFJ
              go_upto_region 9 with fail
              clear hvc
              refine wp_region_held_drew (S := fun w' => True) (by kernel_rfl) ?_ (fun hHeld => ?_)
              · (try dsimp only)
                (try trivial)
              refine tk 0 ?_
              refine tk 1 ?_
              refine tk 2 ?_
              refine tk 3 ?_
              refine tk 4 ?_
              refine tu 5 ?_
              refine tu 6 ?_
              refine tu 7 ?_
              refine tu 8 ?_
              refine tu 9 ?_
              refine tu 10 ?_
              refine tu 11 ?_
              refine tu 12 ?_
              refine tu 13 ?_
              refine tu 14 ?_
              refine tk 15 ?_
              refine wpAnyH_done (by kernel_rfl) ?_ _
              go_wp2
              go_roundw
              case rel => exact ⟨j + 1, bb, by omega, by go_num, rfl, HN.out, hbx.drew⟩
              case measure => simp [intOf]; omega
          · rw [List.drop_of_length_le (by have := HVZ.out; omega)] at hfj
            have hfj : fitV tl vs xv = bb := by rw [hfj]; simp [fitV]
            have HFB := Hid.mk hfj
            have HB3 := Hid.mk (And.intro (HBB.out.1.trans (hbx.mono HBB.out.1.size)) (HBB.out.2.trans (hbx.mono HBB.out.2.size)))
            clear hfj e1
            cases bb with
            | true =>
              have HR : Hid (hasA tl pz (xp, vs) = true) := by show _ = _; rw [HT2.out, HFB.out]; rfl
              go_wp2
              go_ret
              exact ⟨ret_bool HR.out.symm, HB3.out.1⟩
            | false =>
              have HN : Hid (hasA tl pz (xp, vs) = (pz.drop (k + 1)).any fun o => decide (o.1 = xp) && fitV tl vs o.2) := by show _ = _; rw [HT2.out, HFB.out]; rfl
              go_wp2
              go_roundw
              case rel => exact ⟨k + 1, by omega, by go_num, HN.out, HB3.out.1, HB3.out.2⟩
              case measure => simp [intOf]; omega
    · have HF : Hid (hasA tl pz (ap, vs) = false) := by show _ = _; rw [ht, List.drop_of_length_le (by have := HPZ.out; omega)]; rfl
      clear ht
      go_wp2
      go_ret
      exact ⟨ret_bool HF.out.symm, hbw⟩

end Go.Proofs.Ytociphdhkjoofaa

/- Contract of spec.l10May. -/
namespace Go.Proofs.Ytociphdhkjoofaa
open Go.RowKit

set_option maxRecDepth 100000 in
set_option maxHeartbeats 8000000 in
theorem l10May_any (pha : Option Addr) (phn phc : Nat) (ph : List Int) (pa : Option Addr) (pn pc : Nat) (pz : List Atm) (qha : Option Addr) (qhn qhc : Nat) (qh : List Int) (qa : Option Addr) (qn qc : Nat) (qz : List Atm) (ta : Option Addr) (tn tc : Nat) (tl : List Int) (w : World)
    (hph : ph.length = phn) (hpb : phn ≤ 9223372036854775807) (hpha : At w pha ph) (hpz : pz.length = pn) (hpzb : pn ≤ 9223372036854775807) (hpa : AtQ w pa pz) (hqh : qh.length = qhn) (hqb : qhn ≤ 9223372036854775807) (hqha : At w qha qh) (hqz : qz.length = qn) (hqzb : qn ≤ 9223372036854775807) (hqa : AtQ w qa qz) (hI : InV qh qz) (hle : qhn ≤ phn) (hfit : Fit qz pz) (htz : tl.length = tn) (htb : tn ≤ 9223372036854775807) (hta : At w ta tl) :
    Calls Try.prog 77 #[.agg #[.slice pha phn phc, .slice pa pn pc], .agg #[.slice qha qhn qhc, .slice qa qn qc], .slice ta tn tc] w fun e w' => e = .returned (.bool (mayB qh ph qz pz tl)) ∧ Below w.heap.size w w' := by
  obtain ⟨W, hW⟩ : ∃ W, W = (w.alloc (.cells #[.slice pha phn phc, .slice pa pn pc] 29)).alloc (.cells #[.slice qha qhn qhc, .slice qa qn qc] 29) := ⟨_, rfl⟩
  have B0 : Below w.heap.size w W := by rw [hW]; exact ((Below.refl _ _).alloc (Nat.le_refl _) _).alloc (by simp) _
  have b0 : W.heap[w.heap.size]? = some (.cells #[.slice pha phn phc, .slice pa pn pc] 29 (0, 0)) := by rw [hW]; exact blk_alloc (heap_alloc_new w _) _
  have b1 : W.heap[w.heap.size + 1]? = some (.cells #[.slice qha qhn qhc, .slice qa qn qc] 29 (0, 0)) := by
    rw [hW]
    have h := heap_alloc_new (w.alloc (.cells #[.slice pha phn phc, .slice pa pn pc] 29)) (.cells #[.slice qha qhn qhc, .slice qa qn qc] 29)
    simpa only [World.size_alloc] using h
  have c0 := blk_cell b0 0 (v := .slice pha phn phc) rfl
  have c1 := blk_cell b0 1 (v := .slice pa pn pc) rfl
  have d0 := blk_cell b1 0 (v := .slice qha qhn qhc) rfl
  have d1 := blk_cell b1 1 (v := .slice qa qn qc) rfl
  have HPH := Hid.mk hph
  have HPHA := Hid.mk (At.below hpha B0)
  have HQH := Hid.mk hqh
  have HQHA := Hid.mk (At.below hqha B0)
  have HQZ := Hid.mk hqz
  have HQA := Hid.mk (AtSl.below hqa B0)
  have HTZ := Hid.mk htz
  have HTA := Hid.mk (At.below hta B0)
  have HI := Hid.mk hI
  have KH : Hid (∀ (a : Atm) (va : Option Addr) (vn vc : Nat) (w' : World), a ∈ qz → a.2.length = vn → vn ≤ 9223372036854775807 → At w' va a.2 → Below W.heap.size W w' → Calls Try.prog 76 #[.agg #[.slice pha phn phc, .slice pa pn pc], .agg #[.int .i64 a.1, .slice va vn vc], .slice ta tn tc] w' fun e w'' => e = .returned (.bool (hasA tl pz a)) ∧ Below w'.heap.size w' w'') := fun a va vn vc w' ha h1 h2 h3 h4 => by
    have hb := B0.trans (h4.mono B0.size)
    exact l10HasAtom_any pha phn phc pa pn pc pz a.1 va vn vc a.2 ta tn tc tl w' hpz hpzb (AtSl.below hpa hb) h1 h2 h3 (fun v hv => (hI.2 a ha v hv).1) htz htb (At.below hta hb) (fun o ho e => by have := hfit.2 a ha o ho e; omega)
  have HE : Hid (fitV tl qh ph = (fitV tl (qh.drop 0) (ph.drop 0))) := by show _ = _; simp
  have HM : Hid (mayB qh ph qz pz tl = (fitV tl qh ph && (qz.drop 0).all (hasA tl pz))) := rfl
  clear hph hpha hpz hpa hqh hqha hqz hqa htz hta hI hfit b0 b1
  go_enter Try.func77, Try.ntmps77
  go_upto_region 1 with fail
  rw [← hW]
  clear hW
  go_wp2_with fail
  go_loopw [14] (fun i wx => ∃ (j : Nat), j ≤ qhn ∧ i = .int .i64 j ∧ fitV tl qh ph = fitV tl (qh.drop j) (ph.drop j) ∧ Below W.heap.size W wx) (fun i _ => qhn - (intOf i).toNat)
  case atStart => exact ⟨0, Nat.zero_le _, rfl, HE.out, Below.refl _ _⟩
  case round =>
    clear HE
    obtain ⟨j, hj, rfl, hfj, hbx⟩ := hrel
    obtain ⟨wX, rfl⟩ : ∃ x, x = wr := ⟨_, rfl⟩
    have Bx := B0.trans (hbx.mono B0.size)
    by_cases hjt : j < qhn
    · obtain ⟨vb, voff, rfl, _, hvc⟩ := (At.below HQHA.out hbx).some (by have := HQH.out; omega)
      obtain ⟨xb, xoff, rfl, _, hxc⟩ := (At.below HPHA.out hbx).some (by have := HPH.out; omega)
      have hvc := hvc j (by have := HQH.out; omega)
      have z3 := hxc j (by have := HPH.out; omega)
      have z2 := cell_later hbx c0
      have hji : (j : Int) < (qhn : Int) := by omega
      have hjx : (j : Int) < (phn : Int) := by omega
      have hdv : qh.drop j = qh.getD j 0 :: qh.drop (j + 1) := by rw [List.drop_eq_getElem_cons (by have := HQH.out; omega)]; simp [List.getD, show j < qh.length by have := HQH.out; omega]
      have hdx : ph.drop j = ph.getD j 0 :: ph.drop (j + 1) := by rw [List.drop_eq_getElem_cons (by have := HPH.out; omega)]; simp [List.getD, show j < ph.length by have := HPH.out; omega]
      rw [hdv, hdx, fitV_cons, List.headD_cons, List.tail_cons] at hfj
      have hnn := (HI.out.1 (qh.getD j 0) (by simp [List.getD, show j < qh.length by have := HQH.out; omega])).1
      obtain ⟨p, hp⟩ := Int.eq_ofNat_of_zero_le hnn
      obtain ⟨x, hxx⟩ : ∃ x, x = ph.getD j 0 := ⟨_, rfl⟩
      rw [hp] at hvc hfj
      rw [← hxx] at z3 hfj
      rw [HTZ.out, Int.toNat_natCast] at hfj
      have HFJ := Hid.mk hfj
      clear hdv hdx hnn hp hxx hfj hxc c0 c1 d0 d1
      by_cases hpt : (p : Int) < (tn : Int)
      · obtain ⟨tb, toff, rfl, _, htc⟩ := (At.below HTA.out hbx).some (by have := HTZ.out; omega)
        have z1 := htc p (by have := HTZ.out; omega)
        obtain ⟨tv, htv⟩ : ∃ tv, tv = tl.getD p 0 := ⟨_, rfl⟩
        rw [← htv] at z1
        have HF2 : Hid (fitV tl qh ph = (decide (tv = x) && fitV tl (qh.drop (j + 1)) (ph.drop (j + 1)))) := by show _ = _; rw [HFJ.out, decide_eq_true hpt, ← htv]; simp
        clear htc htv HFJ
        by_cases htx : tv = x
        · have HN : Hid (fitV tl qh ph = fitV tl (qh.drop (j + 1)) (ph.drop (j + 1))) := by show _ = _; rw [HF2.out, decide_eq_true htx]; simp
          clear HF2
          go_upto_region 4 with fail
          clear hvc
          refine wp_region_held_drew (S := fun w' => w'.cell? ⟨tb, toff + p, none⟩ = some (.int .i64 tv) ∧ w'.cell? ⟨w.heap.size, 0, none⟩ = some (.slice (some ⟨xb, xoff, none⟩) phn phc) ∧ w'.cell? ⟨xb, xoff + j, none⟩ = some (.int .i64 x)) (by kernel_rfl) ?_ (fun hHeld => ?_)
          · (try dsimp only)
            exact ⟨z1, z2, z3⟩
          refine tk 0 ?_
          refine tk 1 ?_
          refine tk 2 ?_
          refine tk 3 ?_
          refine tk 4 ?_
          refine tk 5 ?_
          refine tk 6 ?_
          refine tk 7 ?_
          refine tk 8 ?_
          refine tk 9 ?_
          refine tk 10 ?_
          refine tk 11 ?_
          refine tk 12 ?_
          refine tk 13 ?_
          refine tk 14 ?_
          refine tk 15 ?_
          refine wpAnyH_done (by kernel_rfl) ?_ _
          go_wp2
          go_roundw
          case rel => exact ⟨j + 1, by omega, by go_num, HN.out, hbx.drew⟩
          case measure => simp [intOf]; omega
        · have HF : Hid (mayB qh ph qz pz tl = false) := by show _ = _; rw [HM.out, HF2.out, decide_eq_false htx]; rfl
          clear HF2
          go_upto_region 4 with fail
          clear hvc
          refine wp_region_held_drew (S := fun w' => w'.cell? ⟨tb, toff + p, none⟩ = some (.int .i64 tv) ∧ w'.cell? ⟨w.heap.size, 0, none⟩ = some (.slice (some ⟨xb, xoff, none⟩) phn phc) ∧ w'.cell? ⟨xb, xoff + j, none⟩ = some (.int .i64 x)) (by kernel_rfl) ?_ (fun hHeld => ?_)
          · (try dsimp only)
            exact ⟨z1, z2, z3⟩
          refine tk 0 ?_
          refine tk 1 ?_
          refine tk 2 ?_
          refine tk 3 ?_
          refine tk 4 ?_
          refine tk 5 ?_
          refine tk 6 ?_
          refine tk 7 ?_
          refine tk 8 ?_
          refine tk 9 ?_
          refine tk 10 ?_
          refine tk 11 ?_
          refine tk 12 ?_
          refine tk 13 ?_
          refine tk 14 ?_
          refine tk 15 ?_
          refine wpAnyH_done (by kernel_rfl) ?_ _
          go_wp2
          go_ret
          exact ⟨ret_bool HF.out.symm, Bx.drew⟩
      · have HN : Hid (fitV tl qh ph = fitV tl (qh.drop (j + 1)) (ph.drop (j + 1))) := by show _ = _; rw [HFJ.out, decide_eq_false hpt]; simp
        clear HFJ
        go_upto_region 4 with fail
        clear hvc
        refine wp_region_held_drew (S := fun w' => True) (by kernel_rfl) ?_ (fun hHeld => ?_)
        · (try dsimp only)
          (try trivial)
        refine tk 0 ?_
        refine tk 1 ?_
        refine tk 2 ?_
        refine tk 3 ?_
        refine tk 4 ?_
        refine tu 5 ?_
        refine tu 6 ?_
        refine tu 7 ?_
        refine tu 8 ?_
        refine tu 9 ?_
        refine tu 10 ?_
        refine tu 11 ?_
        refine tu 12 ?_
        refine tu 13 ?_
        refine tu 14 ?_
        refine tk 15 ?_
        refine wpAnyH_done (by kernel_rfl) ?_ _
        go_wp2
        go_roundw
        case rel => exact ⟨j + 1, by omega, by go_num, HN.out, hbx.drew⟩
        case measure => simp [intOf]; omega
    · rw [List.drop_of_length_le (by have := HQH.out; omega)] at hfj
      have HM2 : Hid (mayB qh ph qz pz tl = (qz.drop 0).all (hasA tl pz)) := by show _ = _; rw [HM.out, hfj]; rfl
      clear hfj HM
      have c0 := cell_later hbx c0
      have c1 := cell_later hbx c1
      have d1 := cell_later hbx d1
      have HHX := Hid.mk hbx
      go_wp2_with fail
      go_loopw [39] (fun i wx => ∃ (k : Nat), k ≤ qn ∧ i = .int .i64 k ∧ mayB qh ph qz pz tl = (qz.drop k).all (hasA tl pz) ∧ Below W.heap.size W wx ∧ Below wX.heap.size wX wx) (fun i _ => qn - (intOf i).toNat)
      case atStart => exact ⟨0, Nat.zero_le _, rfl, HM2.out, hbx, Below.refl _ _⟩
      case round =>
        clear HM2 hbx
        obtain ⟨k, hk, rfl, ht, hbw, hbX⟩ := hrel
        obtain ⟨wY, rfl⟩ : ∃ x, x = wr := ⟨_, rfl⟩
        have By := B0.trans (hbw.mono B0.size)
        by_cases hlt : k < qn
        · obtain ⟨⟨xp, xv⟩, hx⟩ : ∃ x, qz[k]? = some x := ⟨_, List.getElem?_eq_getElem (by have := HQZ.out; omega)⟩
          obtain ⟨b, off, rfl, _, hc⟩ := AtQ.row (AtSl.below HQA.out hbw) (by have := HQZ.out; omega)
          obtain ⟨va, vn, vc, g0, g1, u1, u2, u3, _⟩ := hc k _ hx
          have hki : (k : Int) < (qn : Int) := by omega
          have hdr : qz.drop k = (xp, xv) :: qz.drop (k + 1) := by
            obtain ⟨h1, h2⟩ := List.getElem?_eq_some_iff.1 hx
            rw [List.drop_eq_getElem_cons h1, h2]
          rw [hdr, List.all_cons] at ht
          obtain ⟨U, hU⟩ : ∃ U, U = wY.alloc (.cells #[.int .i64 xp, .slice va vn vc] 58) := ⟨_, rfl⟩
          have hbU : Below wY.heap.size wY U := by rw [hU]; exact (Below.refl _ _).alloc (Nat.le_refl _) _
          have e0 : U.cell? ⟨wY.heap.size, 0, none⟩ = some (.int .i64 xp) := by rw [hU]; exact pair0 wY _ _ _
          have e1 : U.cell? ⟨wY.heap.size, 1, none⟩ = some (.slice va vn vc) := by rw [hU]; exact pair1 wY _ _ _
          have B2 := hbw.trans (hbU.mono hbw.size)
          have B3 := hbX.trans (hbU.mono hbX.size)
          have q0 := cell_later B3 c0
          have q1 := cell_later B3 c1
          have HC := Hid.mk (KH.out (xp, xv) va vn vc U (List.mem_of_getElem? hx) u1 u2 (At.below u3 hbU) B2)
          have HT := Hid.mk ht
          have HBB := Hid.mk (And.intro B2 B3)
          clear hc hx hdr ht u1 u3 hbU B2 B3 hbw hbX
          go_upto_region 10 with fail
          rw [← hU]
          clear hU g0 g1
          cases hr : hasA tl pz (xp, xv) with
          | false =>
            rw [hr] at HC
            have HF : Hid (mayB qh ph qz pz tl = false) := by show _ = _; rw [HT.out, hr]; rfl
            go_wp2_with fail
            refine HC.out.mono ?_
            rintro e w2 ⟨rfl, hb2⟩
            have B4 := HBB.out.1.trans (hb2.mono HBB.out.1.size)
            go_wp2
            go_ret
            exact ⟨ret_bool HF.out.symm, B0.trans (B4.mono B0.size)⟩
          | true =>
            rw [hr] at HC
            have HN : Hid (mayB qh ph qz pz tl = (qz.drop (k + 1)).all (hasA tl pz)) := by show _ = _; rw [HT.out, hr]; rfl
            go_wp2_with fail
            refine HC.out.mono ?_
            rintro e w2 ⟨rfl, hb2⟩
            have B4 := Hid.mk (And.intro (HBB.out.1.trans (hb2.mono HBB.out.1.size)) (HBB.out.2.trans (hb2.mono HBB.out.2.size)))
            clear hb2
            go_wp2
            go_roundw
            case rel => exact ⟨k + 1, by omega, by go_num, HN.out, B4.out.1, B4.out.2⟩
            case measure => simp [intOf]; omega
        · have HF : Hid (mayB qh ph qz pz tl = true) := by show _ = _; rw [ht, List.drop_of_length_le (by have := HQZ.out; omega)]; rfl
          clear ht
          go_wp2
          go_ret
          exact ⟨ret_bool HF.out.symm, By⟩

end Go.Proofs.Ytociphdhkjoofaa
