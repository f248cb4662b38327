/- Several texts of one proof, in build order: Cnt, GoodTI, Alike, DD, ScaleP, LstP. -/
import Derived.Test.YtmkhdocjabflkaaM15
import Derived.Test.YtmkhdocjabflkaaM12
import Derived.Test.YtmkhdocjabflkaaM8
import Derived.Test.YtmkhdocjabflkaaM9
import Derived.Test.YtmkhdocjabflkaaM2

/- Maps of weights that tell a list of rows; what a range over one has passed. -/
namespace Go.Proofs.Ytmkhdocjabflkaa
open Go.RowKit Go.Maps

/-- The map in the block b tells the rows xs. -/
def Cnt (w : World) (b q M : Nat) (xs : List WRow) : Prop :=
  ∃ cnt D f S, w.ownsMap Try.prog 77 (plainElem Try.prog 3) b cnt D ∧ MapIs D f S ∧ Keys q S ∧ Tells q f xs ∧ cnt ≤ M

section
variable {w w' : World} {b q M : Nat} {xs : List WRow}
theorem Cnt.grown {row : Option Nat} (h : Cnt w b q M xs) (hg : w.grownBy w' row) (hne : some b ≠ row) : Cnt w' b q M xs := by
  obtain ⟨cnt, D, f, S, h1, h2⟩ := h
  exact ⟨cnt, D, f, S, h1.kept hg hne, h2⟩
theorem Cnt.below (h : Cnt w b q M xs) (hb : Below w.heap.size w w') : Cnt w' b q M xs := h.grown (Below.toGrown hb none) (by simp)
theorem Cnt.alloc (h : Cnt w b q M xs) (o : Obj) : Cnt (w.alloc o) b q M xs := h.below ((Below.refl _ _).alloc (Nat.le_refl _) o)
theorem Cnt.drew (h : Cnt w b q M xs) : Cnt w.drew b q M xs := h.below (Below.refl _ _).drew
theorem Cnt.mono {M' : Nat} (h : Cnt w b q M xs) (hM : M ≤ M') : Cnt w b q M' xs := by
  obtain ⟨cnt, D, f, S, h1, h2, h3, h4, h5⟩ := h
  exact ⟨cnt, D, f, S, h1, h2, h3, h4, by omega⟩
theorem Cnt.lt (h : Cnt w b q M xs) : b < w.heap.size := by
  obtain ⟨cnt, D, f, S, ⟨es, clock, hb, _⟩, _⟩ := h
  exact (Array.getElem?_eq_some_iff.1 hb).1
end

theorem Tells.bound {q : Nat} {f : List Int → Int} {xs : List WRow} {B : Int} (h : Tells q f xs) (hB : 0 ≤ B) (hx : ∀ t ∈ xs, -B ≤ t.2 ∧ t.2 ≤ B) {zs : List Int} (hg : good zs = true) (hl : zs.length = q) : -B ≤ f (raised zs) ∧ f (raised zs) ≤ B := by
  rw [← h.weight zs hg hl]; exact wOf_bound hB hx
theorem Tells.key {q : Nat} {f : List Int → Int} {xs : List WRow} {B : Int} {S : List (List Int)} (h : Tells q f xs) (hS : Keys q S) (hB : 0 ≤ B) (hx : ∀ t ∈ xs, -B ≤ t.2 ∧ t.2 ≤ B) {x : List Int} (hm : x ∈ S) : -B ≤ f x ∧ f x ≤ B := by
  obtain ⟨zs, h1, h2, rfl⟩ := hS x hm
  exact h.bound hB hx h1 h2
theorem Keys.fits {q : Nat} {S : List (List Int)} (hS : Keys q S) {x : List Int} (hm : x ∈ S) : Fits x := by
  obtain ⟨zs, h1, h2, rfl⟩ := hS x hm
  exact fits_raised h1
theorem Keys.of_sub {q : Nat} {S S' : List (List Int)} (hS : Keys q S) (h : ∀ x ∈ S', x ∈ S) : Keys q S' := fun a ha => hS a (h a ha)

/-- The arrays that a range has passed. -/
structure Ran (D : DataW Unit) (left : Lit → Bool) (ks : List (List Int)) : Prop where
  fits : ∀ x ∈ ks, Fits x
  once : ks.Nodup
  just : ∀ x, Fits x → (x ∈ ks ↔ (Maps.has D (klit x) = true ∧ left (klit x) = false))
theorem Ran.start (D : DataW Unit) : Ran D (Maps.has D) [] := ⟨by simp, by simp, fun x _ => by
  constructor
  · intro h; cases h
  · rintro ⟨h1, h2⟩; rw [h1] at h2; cases h2⟩
theorem Ran.step {D : DataW Unit} {left : Lit → Bool} {ks : List (List Int)} (h : Ran D left ks) {x : List Int} (hx : Fits x) (hl : left (klit x) = true) (hh : Maps.has D (klit x) = true) :
    Ran D (fun z => left z && !z.sameKey (klit x)) (x :: ks) ∧ x ∉ ks := by
  have hself : (klit x).sameKey (klit x) = true := WideAt.sameKey_self (klit_key hx)
  have hoth : ∀ y, Fits y → y ≠ x → (klit y).sameKey (klit x) = false := fun y hy hne => sameKey_ne (fun e => hne (klit_inj hy hx e))
  have hnot : x ∉ ks := fun hm => by have := ((h.just x hx).1 hm).2; rw [hl] at this; cases this
  refine ⟨⟨fun y hy => ?_, List.nodup_cons.2 ⟨hnot, h.once⟩, fun y hy => ?_⟩, hnot⟩
  · rcases List.mem_cons.1 hy with rfl | hy
    · exact hx
    · exact h.fits y hy
  · by_cases e : y = x
    · subst e
      simp [hh, hself]
    · rw [List.mem_cons, h.just y hy]
      simp only [hoth y hy e, Bool.not_false, Bool.and_true]
      simp [e]
theorem Ran.mem {D : DataW Unit} {left : Lit → Bool} {ks : List (List Int)} {f : List Int → Int} {S : List (List Int)} (h : Ran D left ks) (hm : MapIs D f S) {x : List Int} (hx : x ∈ ks) : x ∈ S := by
  have h1 := ((h.just x (h.fits x hx)).1 hx).1
  rw [(hm x (h.fits x hx)).2] at h1
  exact of_decide_eq_true h1
theorem Ran.all {D : DataW Unit} {left : Lit → Bool} {ks : List (List Int)} {f : List Int → Int} {S : List (List Int)} (h : Ran D left ks) (hm : MapIs D f S) (hl : ∀ kl, left kl = false) {x : List Int} (hf : Fits x) : x ∈ ks ↔ x ∈ S := by
  rw [h.just x hf, hl, (hm x hf).2]
  simp
theorem map_zero {D : DataW Unit} {f : List Int → Int} {S : List (List Int)} (hm : MapIs D f S) {x : List Int} (hx : Fits x) (h : x ∉ S) : f x = 0 := by
  have h1 := (hm x hx).1
  have h2 : Maps.has D (klit x) = false := by rw [(hm x hx).2]; exact decide_eq_false h
  rw [atKey_of_not_has h2] at h1
  simpa using h1.symm

end Go.Proofs.Ytmkhdocjabflkaa

/- Contract of impl.GoodTable. -/
namespace Go.Proofs.Ytmkhdocjabflkaa
open Go.RowKit

set_option maxHeartbeats 4000000 in
theorem implGoodTable_any (a : Option Addr) (n c : Nat) (ts : List WRow) (p : Int) (w : World) (hz : ts.length = n) (hn : n ≤ 1048576) (ha : AtW w a ts) :
    Calls Try.prog 58 #[.agg #[.int .i64 p, .slice a n c]] w fun e w' => e = .returned (.bool (goodT p ts)) ∧ Below w.heap.size w w' := by
  have B0 : Below w.heap.size w (w.alloc (.cells #[.int .i64 p, .slice a n c] 25)) := (Below.refl _ _).alloc (Nat.le_refl _) _
  have HA := ha.below B0
  clear ha
  cases hi : inc p with
  | false =>
    have HI := Hid.mk hi
    clear hi
    go_enter Try.func58, Try.ntmps58
    go_wp2_with (go_at_call 72; refine (goodColumns_any _ _).mono ?_; rintro e w2 ⟨rfl, rfl⟩; rw [HI.out])
    go_ret
    exact ⟨ret_bool (goodT_col HI.out).symm, B0⟩
  | true =>
    have HI := Hid.mk hi
    clear hi
    by_cases h60 : n ≤ 60
    · cases hg : goodL p ts with
      | false =>
        have HG := Hid.mk hg
        clear hg
        go_enter Try.func58, Try.ntmps58
        go_wp2_with (first | (go_at_call 72; refine (goodColumns_any _ _).mono ?_; rintro e w2 ⟨rfl, rfl⟩; rw [HI.out]) | (go_at_call 114; refine (goodWeighted_any _ _ _ ts _ _ hz hn HA).mono ?_; rintro e w1 ⟨rfl, hb1⟩; rw [HG.out]))
        go_ret
        exact ⟨ret_bool (goodT_goodL HG.out).symm, B0.trans (hb1.mono B0.size)⟩
      | true =>
        have HG := Hid.mk hg
        clear hg
        have hL : ∀ k, k < n → goodW p (wat ts k) = true := fun k hk => goodL_at HG.out k (by omega)
        go_enter Try.func58, Try.ntmps58
        go_wp2_with (go_at_call 72; refine (goodColumns_any _ _).mono ?_; rintro e w2 ⟨rfl, rfl⟩; rw [HI.out])
        refine (goodWeighted_any _ _ _ ts _ _ hz hn HA).mono ?_
        rintro e w1 ⟨rfl, hb1⟩
        rw [HG.out]
        have B1 := B0.trans (hb1.mono B0.size)
        have ct := cell_later hb1 (pair1 w (.int .i64 p) (.slice a n c) 25)
        have HA1 := HA.below hb1
        clear hb1 HA B0
        go_wp2
        go_loopw [26] (fun i wr => ∃ (k : Nat), k ≤ n ∧ i = .int .i64 k ∧ (∀ j, j < k → stepB p ts j = true) ∧ Below w1.heap.size w1 wr) (fun i _ => n - (intOf i).toNat)
        case atStart => exact ⟨0, Nat.zero_le _, rfl, fun j hj => by omega, Below.refl _ _⟩
        case round =>
          obtain ⟨k, hk, rfl, hall, hbw⟩ := hrel
          have B2 := B1.trans (hbw.mono B1.size)
          by_cases hlt : k < n
          · obtain ⟨b, off, rfl, hc⟩ := (HA1.below hbw).some (by omega)
            obtain ⟨q, d, hcx, hwx, hm, hat⟩ := hc k (by omega)
            have hgk := goodW_cells (hL k hlt)
            have HN : Hid ((wat ts k).2 = 0 → goodT p ts = false) := fun h => goodT_not k (by omega) (stepB_zero h)
            have HC : Hid (k ≠ 0 → ¬ cmp (wat ts (k - 1)).1 (wat ts k).1 < 0 → goodT p ts = false) := fun h0 h => goodT_not k (by omega) (stepB_cmp h0 h)
            have HS : Hid ((wat ts k).2 ≠ 0 → (k = 0 ∨ cmp (wat ts (k - 1)).1 (wat ts k).1 < 0) → ∀ j, j < k + 1 → stepB p ts j = true) := fun h1 h2 j hj => by
              by_cases e : j = k
              · subst e; exact stepB_mk (hL j hlt) h1 h2
              · exact hall j (by omega)
            have ct2 := cell_later hbw ct
            have hki : (k : Int) < (n : Int) := by omega
            by_cases hk0 : k = 0
            · have HK := Hid.mk hk0
              have hnp : decide (0 < k) = false := decide_eq_false (by omega)
              generalize wat ts k = Y at *
              obtain ⟨ys, x⟩ := Y
              simp only at hcx hwx hat hm
              clear hc hall hat hgk hk0
              obtain ⟨m, hmm⟩ : ∃ m, ys.length = m := ⟨_, rfl⟩
              rw [hmm] at hcx hm
              clear hmm
              by_cases hx : x = 0
              · have hxx : (x == 0) = true := by simp [hx]
                have HX := Hid.mk hx
                clear hx
                go_wp2
                go_ret
                exact ⟨ret_bool (HN.out HX.out).symm, B2.alloc B2.size _⟩
              · have hxx : (x == 0) = false := by simp [hx]
                have HX := Hid.mk hx
                clear hx
                go_wp2
                go_quiet (fail)
                go_wp2
                go_roundw
                case rel => exact ⟨k + 1, by omega, by go_num, HS.out HX.out (.inl HK.out), below_drewN (hbw.alloc hbw.size _) _⟩
                case measure => simp [intOf]; omega
            · obtain ⟨q', d', hcx', _, _, hat'⟩ := hc (k - 1) (by omega)
              have hgk' := goodW_cells (hL (k - 1) (by omega))
              have hnp : 0 < k := by omega
              have hsub : IntKind.i64.wrap ((k : Int) - 1) = ((k - 1 : Nat) : Int) := (IntWalk.i64_in _ (by omega)).trans (by omega)
              have hlt1 : ((k - 1 : Nat) : Int) < (n : Int) := by omega
              obtain ⟨k', hk'⟩ : ∃ k', k' = k - 1 := ⟨_, rfl⟩
              have HK' := Hid.mk hk'
              rw [← hk'] at hcx' hat' hgk' hsub hlt1 HC HS
              generalize wat ts k = Y at *
              generalize wat ts k' = Y' at *
              obtain ⟨ys, x⟩ := Y
              obtain ⟨ys', x'⟩ := Y'
              simp only at hcx hwx hat hm hcx' hat' hgk hgk'
              have l1 := good_len hgk.1
              have l1' := good_len hgk'.1
              have HG1 := Hid.mk hgk.1
              have HG1' := Hid.mk hgk'.1
              clear hc hall hgk hgk' hk'
              obtain ⟨m, hmm⟩ : ∃ m, ys.length = m := ⟨_, rfl⟩
              obtain ⟨m', hmm'⟩ : ∃ m, ys'.length = m := ⟨_, rfl⟩
              rw [hmm] at hcx hm l1
              rw [hmm'] at hcx' l1'
              have HM := Hid.mk hmm
              have HM' := Hid.mk hmm'
              clear hmm hmm'
              by_cases hx : x = 0
              · have hxx : (x == 0) = true := by simp [hx]
                have HX := Hid.mk hx
                clear hx
                go_wp2
                go_ret
                exact ⟨ret_bool (HN.out HX.out).symm, B2.alloc B2.size _⟩
              · have hxx : (x == 0) = false := by simp [hx]
                have HX := Hid.mk hx
                clear hx
                have c1 := cell_later ((Below.refl wr.heap.size wr).alloc (Nat.le_refl _) (.cells #[.slice q m d, .int .i64 x] 90)) hcx'
                have c2 := cell_later ((Below.refl wr.heap.size wr).alloc (Nat.le_refl _) (.cells #[.slice q m d, .int .i64 x] 90)) ct2
                have c3 := pair0 wr (.slice q m d) (.int .i64 x) 90
                have HAx := hat.alloc (.cells #[.slice q m d, .int .i64 x] 90)
                have HAy := hat'.alloc (.cells #[.slice q m d, .int .i64 x] 90)
                have BW := B2.alloc B2.size (.cells #[.slice q m d, .int .i64 x] 90)
                have BV := hbw.alloc hbw.size (.cells #[.slice q m d, .int .i64 x] 90)
                obtain ⟨W, hW⟩ : ∃ W, W = wr.alloc (.cells #[.slice q m d, .int .i64 x] 90) := ⟨_, rfl⟩
                go_wp2
                rw [← hW] at c1 c2 c3 HAx HAy BW BV ⊢
                clear hW hcx hcx' hwx ct2 ct hat hat' HA1 hm
                go_region_held3 (fun w' => w'.cell? ⟨w.heap.size, 1, none⟩ = some (.slice (some ⟨b, off, none⟩) n c) ∧ w'.cell? ⟨b, off + k' * 2, none⟩ = some (.slice q' m' d') ∧ w'.cell? ⟨wr.heap.size, 0, none⟩ = some (.slice q m d)) (refine ⟨?_, ?_, ?_⟩ <;> assumption)
                  (first
                    | (go_at_call_of 101 (Value.slice q' m' d'); refine (arrayOf_any _ _ _ ys' _ HM'.out l1' (fun j hj => good_cell HG1'.out j (by have := HM'.out; omega)) HAy.drew).mono ?_; rintro e w2 ⟨y0, y1, y2, y3, y4, y5, rfl, hy, hb2⟩; have r1 := cell_later hb2 c1; have r2 := cell_later hb2 c2; have r3 := cell_later hb2 c3; have HAz := HAx.drew.below hb2)
                    | (go_at_call_of 101 (Value.slice q m d); refine (arrayOf_any _ _ _ ys _ HM.out l1 (fun j hj => good_cell HG1.out j (by have := HM.out; omega)) HAz).mono ?_; rintro e w3 ⟨x0, x1, x2, x3, x4, x5, rfl, hx, hb3⟩; have s1 := cell_later hb3 r1; have s2 := cell_later hb3 r2; have s3 := cell_later hb3 r3)
                    | (go_at_call 115; refine (compareArrays_any _ _ _ _ _ _ _ _ _ _ _ _ _ _ hy hx _).mono ?_; rintro e w4 ⟨rfl, hb4⟩; have v1 := cell_later hb4 s1; have v2 := cell_later hb4 s2; have v3 := cell_later hb4 s3))
                have B5 : Below w.heap.size w w4 := ((BW.drew.trans (hb2.mono BW.size)).trans (hb3.mono (by have := hb2.size; have := BW.size; simp only [drew_size] at *; omega))).trans (hb4.mono (by have := hb2.size; have := hb3.size; have := BW.size; simp only [drew_size] at *; omega))
                have V5 : Below w1.heap.size w1 w4 := ((BV.drew.trans (hb2.mono BV.size)).trans (hb3.mono (by have := hb2.size; have := BV.size; simp only [drew_size] at *; omega))).trans (hb4.mono (by have := hb2.size; have := hb3.size; have := BV.size; simp only [drew_size] at *; omega))
                have hcr := cmp_raised HG1'.out HG1.out
                rw [hy, hx] at hcr
                have hcm := cmp_range ys' ys
                clear hy hx hb2 hb3 hb4 r1 r2 r3 s1 s2 s3 v1 v2 v3 c1 c2 c3 HAz HAx HAy BW BV
                by_cases hlss : cmp ys' ys < 0
                · have hcc : (cmp [y0, y1, y2, y3, y4, y5] [x0, x1, x2, x3, x4, x5] != -1) = false := by rw [hcr, show cmp ys' ys = -1 by omega]; rfl
                  have HL := Hid.mk hlss
                  clear hcr hcm hlss
                  go_wp2
                  go_roundw
                  case rel => exact ⟨k + 1, by omega, by go_num, HS.out HX.out (.inr HL.out), V5⟩
                  case measure => simp [intOf]; omega
                · have hcc : (cmp [y0, y1, y2, y3, y4, y5] [x0, x1, x2, x3, x4, x5] != -1) = true := by
                    rw [hcr]
                    rcases hcm with h | h | h
                    · omega
                    · rw [h]; rfl
                    · rw [h]; rfl
                  have HL := Hid.mk hlss
                  clear hcr hcm hlss
                  go_wp2
                  go_ret
                  exact ⟨ret_bool (HC.out hk0 (by have := HL.out; omega)).symm, B5⟩
          · go_wp2
            go_ret
            exact ⟨ret_bool (goodT_of HI.out (by omega) (fun j hj => hall j (by omega))).symm, B2⟩
    · go_enter Try.func58, Try.ntmps58
      go_wp2_with (go_at_call 72; refine (goodColumns_any _ _).mono ?_; rintro e w2 ⟨rfl, rfl⟩; rw [HI.out])
      go_ret
      exact ⟨ret_bool (goodT_len (by omega)).symm, B0⟩

end Go.Proofs.Ytmkhdocjabflkaa

/- Contract of impl.goodAlike. -/
namespace Go.Proofs.Ytmkhdocjabflkaa
open Go.RowKit Go.Maps

/-- Two good tables with as many columns. -/
def alike (p : Int) (ts : List WRow) (p' : Int) (ts' : List WRow) : Bool := goodT p ts && (goodT p' ts' && decide (p = p'))

set_option maxHeartbeats 2000000 in
theorem goodAlike_any (a a' : Option Addr) (n n' c c' : Nat) (ts ts' : List WRow) (p p' : Int) (w : World) (hz : ts.length = n) (hz' : ts'.length = n') (hn : n ≤ 1048576) (hn' : n' ≤ 1048576) (ha : AtW w a ts) (ha' : AtW w a' ts') :
    Calls Try.prog 45 #[.agg #[.int .i64 p, .slice a n c], .agg #[.int .i64 p', .slice a' n' c']] w fun e w' => e = .returned (.bool (alike p ts p' ts')) ∧ Below w.heap.size w w' := by
  obtain ⟨W, hW⟩ : ∃ W, W = (w.alloc (.cells #[.int .i64 p, .slice a n c] 25)).alloc (.cells #[.int .i64 p', .slice a' n' c'] 25) := ⟨_, rfl⟩
  have B0 : Below w.heap.size w W := by rw [hW]; exact ((Below.refl _ _).alloc (Nat.le_refl _) _).alloc (by simp) _
  have c0 : W.cell? ⟨w.heap.size, 0, none⟩ = some (.int .i64 p) := by rw [hW]; simp
  have c1 : W.cell? ⟨w.heap.size, 1, none⟩ = some (.slice a n c) := by rw [hW]; simp
  have b0 : W.cell? ⟨w.heap.size + 1, 0, none⟩ = some (.int .i64 p') := by rw [hW]; simp
  have b1 : W.cell? ⟨w.heap.size + 1, 1, none⟩ = some (.slice a' n' c') := by rw [hW]; simp
  have HA := ha.below B0
  have HA' := ha'.below B0
  clear ha ha'
  cases hg : goodT p ts with
  | false =>
    have HG := Hid.mk hg
    clear hg
    go_enter Try.func45, Try.ntmps45
    go_wp2_with fail
    rw [← hW]
    clear hW
    refine (implGoodTable_any _ _ _ ts _ _ hz hn HA).mono ?_
    rintro e w1 ⟨rfl, hb1⟩
    rw [HG.out]
    go_wp2
    go_ret
    exact ⟨ret_bool (by simp [alike, HG.out]), B0.trans (hb1.mono B0.size)⟩
  | true =>
    have HG := Hid.mk hg
    clear hg
    cases hg' : goodT p' ts' with
    | false =>
      have HG' := Hid.mk hg'
      clear hg'
      go_enter Try.func45, Try.ntmps45
      go_wp2_with fail
      rw [← hW]
      clear hW
      refine (implGoodTable_any _ _ _ ts _ _ hz hn HA).mono ?_
      rintro e w1 ⟨rfl, hb1⟩
      rw [HG.out]
      have b0 := cell_later hb1 b0
      have b1 := cell_later hb1 b1
      go_wp2_with fail
      refine (implGoodTable_any _ _ _ ts' _ _ hz' hn' (HA'.below hb1)).mono ?_
      rintro e w2 ⟨rfl, hb2⟩
      rw [HG'.out]
      have B1 := B0.trans (hb1.mono B0.size)
      go_wp2
      go_ret
      exact ⟨ret_bool (by simp [alike, HG.out, HG'.out]), B1.trans (hb2.mono B1.size)⟩
    | true =>
      have HG' := Hid.mk hg'
      clear hg'
      go_enter Try.func45, Try.ntmps45
      go_wp2_with fail
      rw [← hW]
      clear hW
      refine (implGoodTable_any _ _ _ ts _ _ hz hn HA).mono ?_
      rintro e w1 ⟨rfl, hb1⟩
      rw [HG.out]
      have b1 := cell_later hb1 b1
      have c0 := cell_later hb1 c0
      have b0 := cell_later hb1 b0
      go_wp2_with fail
      refine (implGoodTable_any _ _ _ ts' _ _ hz' hn' (HA'.below hb1)).mono ?_
      rintro e w2 ⟨rfl, hb2⟩
      rw [HG'.out]
      have c0 := cell_later hb2 c0
      have b0 := cell_later hb2 b0
      have B1 := B0.trans (hb1.mono B0.size)
      go_wp2
      go_ret
      exact ⟨ret_bool (by show _ = (goodT p ts && (goodT p' ts' && decide (p = p'))); rw [HG.out, HG'.out]; rfl), B1.trans (hb2.mono B1.size)⟩

theorem alike_parts {p : Int} {ts : List WRow} {p' : Int} {ts' : List WRow} (h : alike p ts p' ts' = true) : goodT p ts = true ∧ goodT p' ts' = true ∧ p = p' := by
  simpa [alike] using h

end Go.Proofs.Ytmkhdocjabflkaa

/- Plain: what DistinctDelta tells. -/
namespace Go.Proofs.Ytmkhdocjabflkaa

def onceF (x : Int) : Int := if 0 < x then 1 else 0
/-- How a row's being there once changes. -/
def ddG (ts : List WRow) (t : WRow) : Option WRow :=
  if 0 < wOf ts t.1 ∧ wOf ts t.1 + t.2 ≤ 0 then some (t.1, -1) else if wOf ts t.1 ≤ 0 ∧ 0 < wOf ts t.1 + t.2 then some (t.1, 1) else none
def ddW (ts us : List WRow) : List WRow := us.filterMap (ddG ts)
def ddB (p : Int) (ts : List WRow) (p' : Int) (us : List WRow) : Bool := alike p ts p' us && (goodT p (putAll ts us) && goodT p (ddW ts us))
theorem ddG_some {ts : List WRow} {t s : WRow} (h : ddG ts t = some s) : s.1 = t.1 ∧ s.2 = onceF (wOf ts t.1 + t.2) - onceF (wOf ts t.1) ∧ s.2 ≠ 0 ∧ -1 ≤ s.2 ∧ s.2 ≤ 1 := by
  unfold ddG at h
  split at h
  · rename_i h1
    cases h
    refine ⟨rfl, ?_, by simp, by simp, by simp⟩
    simp only [onceF, if_pos h1.1, if_neg (show ¬ 0 < wOf ts t.1 + t.2 by omega)]
    rfl
  · split at h
    · rename_i h1
      cases h
      refine ⟨rfl, ?_, by simp, by simp, by simp⟩
      simp only [onceF, if_pos h1.2, if_neg (show ¬ 0 < wOf ts t.1 by omega)]
      rfl
    · cases h
theorem ddG_none {ts : List WRow} {t : WRow} (h : ddG ts t = none) : onceF (wOf ts t.1 + t.2) - onceF (wOf ts t.1) = 0 := by
  unfold ddG at h
  split at h
  · cases h
  · split at h
    · cases h
    · rename_i h1 h2
      unfold onceF
      by_cases a : 0 < wOf ts t.1
      · rw [if_pos a, if_pos (by omega)]; rfl
      · rw [if_neg a, if_neg (by omega)]; rfl
theorem mem_filterMap_of {g : WRow → Option WRow} {us : List WRow} {s : WRow} (h : s ∈ us.filterMap g) : ∃ t ∈ us, g t = some s := List.mem_filterMap.1 h
theorem rises_filter {g : WRow → Option WRow} {us : List WRow} (hg : ∀ t s, g t = some s → s.1 = t.1) (h : Rises us) : Rises (us.filterMap g) := by
  induction us with
  | nil => exact List.Pairwise.nil
  | cons t us ih =>
    have h2 := List.pairwise_cons.1 h
    rw [List.filterMap_cons]
    cases e : g t with
    | none => exact ih h2.2
    | some s =>
      refine List.pairwise_cons.2 ⟨fun v hv => ?_, ih h2.2⟩
      obtain ⟨u, hu, e2⟩ := mem_filterMap_of hv
      rw [hg t s e, hg u v e2]
      exact h2.1 u hu
theorem ddW_rows {q : Nat} {ts us : List WRow} (hu : ∀ t ∈ us, good t.1 = true ∧ t.1.length = q) : ∀ t ∈ ddW ts us, good t.1 = true ∧ t.1.length = q := fun t ht => by
  obtain ⟨s, hs, e⟩ := mem_filterMap_of ht
  rw [(ddG_some e).1]; exact hu s hs
theorem ddW_in {ts us : List WRow} : ∀ t ∈ ddW ts us, -1 ≤ t.2 ∧ t.2 ≤ 1 := fun t ht => by
  obtain ⟨s, hs, e⟩ := mem_filterMap_of ht
  exact ⟨(ddG_some e).2.2.2.1, (ddG_some e).2.2.2.2⟩
theorem ddW_len (ts us : List WRow) : (ddW ts us).length ≤ us.length := List.length_filterMap_le _ _
theorem ddW_take (ts us : List WRow) (k : Nat) (h : k < us.length) : ddW ts (us.take (k + 1)) = ddW ts (us.take k) ++ (ddG ts (wat us k)).toList := by
  unfold ddW
  rw [wtake_succ us k h, List.filterMap_append, List.filterMap_cons]
  cases ddG ts (wat us k) <;> simp
theorem ddW_wOf {ts us : List WRow} (hr : Rises us) (zs : List Int) : wOf (ddW ts us) zs = if ∃ t ∈ us, t.1 = zs then onceF (wOf ts zs + wOf us zs) - onceF (wOf ts zs) else 0 := by
  have hd : Rises (ddW ts us) := rises_filter (fun t s h => (ddG_some h).1) hr
  by_cases h : ∃ t ∈ us, t.1 = zs
  · rw [if_pos h]
    obtain ⟨t, ht, rfl⟩ := h
    rw [wOf_mem hr ht]
    cases e : ddG ts t with
    | none =>
      rw [ddG_none e]
      refine wOf_absent fun s hs e2 => ?_
      obtain ⟨u, hu, e3⟩ := mem_filterMap_of hs
      have : u.1 = t.1 := by rw [← (ddG_some e3).1, e2]
      have h3 := wOf_mem hr hu
      have h4 := wOf_mem hr ht
      rw [this] at h3
      have : u = t := by
        refine Prod.ext this ?_
        rw [← h3, ← h4]
      rw [this, e] at e3
      cases e3
    | some s =>
      have hm : s ∈ ddW ts us := List.mem_filterMap.2 ⟨t, ht, e⟩
      have := wOf_mem hd hm
      rw [(ddG_some e).1] at this
      rw [this, (ddG_some e).2.1]
  · rw [if_neg h]
    refine wOf_absent fun s hs e => h ?_
    obtain ⟨u, hu, e3⟩ := mem_filterMap_of hs
    exact ⟨u, hu, by rw [← (ddG_some e3).1, e]⟩

/-- What the changed map tells, whatever keys came with nothing. -/
theorem tells_dd {q : Nat} {f f' : List Int → Int} {ts us : List WRow} {ks : List (List Int)} (h : Tells q f ts) (h' : Tells q f' us) (hall : ∀ zs, good zs = true → zs.length = q → raised zs ∉ ks → f' (raised zs) = 0) :
    Tells q (fun x => if x ∈ ks then onceF (f x + f' x) - onceF (f x) else 0) (ddW ts us) where
  rises := rises_filter (fun t s h => (ddG_some h).1) h'.rises
  noZero := fun t ht => by obtain ⟨s, hs, e⟩ := mem_filterMap_of ht; exact (ddG_some e).2.2.1
  rows := ddW_rows h'.rows
  weight := fun zs hg hl => by
    rw [ddW_wOf h'.rises]
    have e1 := h.weight zs hg hl
    have e2 := h'.weight zs hg hl
    by_cases hk : raised zs ∈ ks
    · simp only [if_pos hk]
      by_cases hm : ∃ t ∈ us, t.1 = zs
      · rw [if_pos hm, e1, e2]
      · rw [if_neg hm]
        have h0 : wOf us zs = 0 := wOf_absent fun t ht e => hm ⟨t, ht, e⟩
        rw [← e2, h0, Int.add_zero, Int.sub_self]
    · simp only [if_neg hk]
      have h0 := hall zs hg hl hk
      rw [if_neg]
      rintro ⟨t, ht, rfl⟩
      have := wOf_mem h'.rises ht
      rw [e2, h0] at this
      exact h'.noZero t ht this.symm

end Go.Proofs.Ytmkhdocjabflkaa

/- Plain: a table's rows, scaled. -/
namespace Go.Proofs.Ytmkhdocjabflkaa

def scaleW (ts : List WRow) (t : Int) : List WRow := if t = 0 then [] else ts.map fun s => (s.1, t * s.2)

end Go.Proofs.Ytmkhdocjabflkaa

/- Plain: lists of rows within bounds; sums over keys. -/
namespace Go.Proofs.Ytmkhdocjabflkaa

theorem mul_in {x y B C : Int} (h1 : -B ≤ x) (h2 : x ≤ B) (h3 : -C ≤ y) (h4 : y ≤ C) : -(B * C) ≤ x * y ∧ x * y ≤ B * C := by
  have a := Int.mul_nonneg (show 0 ≤ B - x by omega) (show 0 ≤ C + y by omega)
  have b := Int.mul_nonneg (show 0 ≤ B + x by omega) (show 0 ≤ C - y by omega)
  have c := Int.mul_nonneg (show 0 ≤ B - x by omega) (show 0 ≤ C - y by omega)
  have d := Int.mul_nonneg (show 0 ≤ B + x by omega) (show 0 ≤ C + y by omega)
  simp only [Int.sub_mul, Int.add_mul, Int.mul_sub, Int.mul_add] at a b c d
  constructor <;> omega

/-- Rows that rise, without noughts, with so many cells, weights within a bound. -/
structure Lst (q N : Nat) (B : Int) (xs : List WRow) : Prop where
  len : xs.length ≤ N
  rises : Rises xs
  noZero : NoZero xs
  rows : ∀ t ∈ xs, good t.1 = true ∧ t.1.length = q
  within : ∀ t ∈ xs, -B ≤ t.2 ∧ t.2 ≤ B

section
variable {q N N' : Nat} {B B' : Int} {xs ys : List WRow}
theorem Lst.nil (q : Nat) : Lst q 0 0 [] := ⟨Nat.le_refl _, List.Pairwise.nil, fun t h => (by cases h), fun t h => (by cases h), fun t h => (by cases h)⟩
theorem Lst.mono (h : Lst q N B xs) (hN : N ≤ N') (hB : B ≤ B') : Lst q N' B' xs := ⟨Nat.le_trans h.len hN, h.rises, h.noZero, h.rows, fun t ht => by have := h.within t ht; omega⟩
theorem goodT_lst (h : goodT q xs = true) : Lst q 60 1000000 xs :=
  ⟨goodT_len60 h, goodT_rises h, goodT_noZero h, goodT_mem h, fun t ht => (goodT_six h t ht).2⟩
theorem Lst.take (h : Lst q N B xs) (k : Nat) : Lst q N B (xs.take k) :=
  ⟨by rw [List.length_take]; have := h.len; omega, h.rises.sublist (List.take_sublist _ _), fun t ht => h.noZero t (List.mem_of_mem_take ht), fun t ht => h.rows t (List.mem_of_mem_take ht), fun t ht => h.within t (List.mem_of_mem_take ht)⟩
theorem Lst.six (h : Lst q N B xs) (h6 : q ≤ 6) : ∀ t ∈ xs, t.1.length ≤ 6 := fun t ht => by have := (h.rows t ht).2; omega
theorem Lst.put (h : Lst q N B xs) (k : Lst q N' B' ys) (h0 : 0 ≤ B) (h0' : 0 ≤ B') : Lst q (N + N') (B + B') (putAll xs ys) where
  len := by have := putAll_len ys xs; have := h.len; have := k.len; omega
  rises := putAll_rises h.rises
  noZero := putAll_nozero h.noZero
  rows := fun t ht => by
    rcases putAll_rows ht with ⟨s, hs, e⟩ | ⟨s, hs, e⟩
    · rw [← e]; exact h.rows s hs
    · rw [← e]; exact k.rows s hs
  within := fun t ht => by
    have hw := wOf_mem (putAll_rises (l := ys) h.rises) ht
    rw [putAll_wOf t.1 h.rises, sumW_rises k.rises] at hw
    have b1 := wOf_bound (zs := t.1) h0 h.within
    have b2 := wOf_bound (zs := t.1) h0' k.within
    omega
theorem Lst.neg (h : Lst q N B xs) : Lst q N B (scaleW xs (-1)) := by
  have e : scaleW xs (-1) = xs.map fun t => (t.1, -1 * t.2) := by unfold scaleW; rw [if_neg (by decide)]
  rw [e]
  refine ⟨by rw [List.length_map]; exact h.len, ?_, fun t ht => ?_, fun t ht => ?_, fun t ht => ?_⟩
  · unfold Rises; rw [List.pairwise_map]; exact h.rises
  · obtain ⟨s, hs, rfl⟩ := List.mem_map.1 ht
    have := h.noZero s hs
    show -1 * s.2 ≠ 0
    omega
  · obtain ⟨s, hs, rfl⟩ := List.mem_map.1 ht
    exact h.rows s hs
  · obtain ⟨s, hs, rfl⟩ := List.mem_map.1 ht
    have := h.within s hs
    show -B ≤ -1 * s.2 ∧ -1 * s.2 ≤ B
    omega
theorem Lst.tells (h : Lst q N B xs) {f : List Int → Int} (hf : ∀ zs, good zs = true → zs.length = q → wOf xs zs = f (raised zs)) : Tells q f xs := ⟨h.rises, h.noZero, h.rows, hf⟩
end
theorem Tells.lst {q : Nat} {f : List Int → Int} {xs : List WRow} {B : Int} (h : Tells q f xs) (hB : ∀ t ∈ xs, -B ≤ t.2 ∧ t.2 ≤ B) : Lst q xs.length B xs := ⟨Nat.le_refl _, h.rises, h.noZero, h.rows, hB⟩

/-- A sum over keys hangs on those alone that count. -/
theorem sum_perm {h : List Int → Int} {ks ks' : List (List Int)} (p : ks.Perm ks') : (ks.map h).sum = (ks'.map h).sum := by
  induction p with
  | nil => rfl
  | cons x _ ih => simp only [List.map_cons, List.sum_cons, ih]
  | swap x y l => simp only [List.map_cons, List.sum_cons]; omega
  | trans _ _ ih1 ih2 => rw [ih1, ih2]
theorem sum_filter (h : List Int → Int) (ks : List (List Int)) : (ks.map h).sum = ((ks.filter fun a => decide (h a ≠ 0)).map h).sum := by
  induction ks with
  | nil => rfl
  | cons a ks ih =>
    by_cases e : h a = 0
    · rw [List.filter_cons_of_neg (by simp [e]), List.map_cons, List.sum_cons, ih, e]; omega
    · rw [List.filter_cons_of_pos (by simp [e]), List.map_cons, List.sum_cons, List.map_cons, List.sum_cons, ih]
theorem sum_support {h : List Int → Int} {ks ks' : List (List Int)} (n : ks.Nodup) (n' : ks'.Nodup) (hs : ∀ a, h a ≠ 0 → (a ∈ ks ↔ a ∈ ks')) : (ks.map h).sum = (ks'.map h).sum := by
  rw [sum_filter h ks, sum_filter h ks']
  refine sum_perm ((List.perm_ext_iff_of_nodup (n.filter _) (n'.filter _)).2 fun a => ?_)
  simp only [List.mem_filter, decide_eq_true_eq]
  constructor
  · rintro ⟨h1, h2⟩; exact ⟨(hs a h2).1 h1, h2⟩
  · rintro ⟨h1, h2⟩; exact ⟨(hs a h2).2 h1, h2⟩

/-- A sum over a map's keys is one over the rows that it tells. -/
theorem sum_tells {q : Nat} {f : List Int → Int} {xs : List WRow} {ks : List (List Int)} (h : Tells q f xs) (hk : Keys q ks) (hn : ks.Nodup) (hz : ∀ zs, good zs = true → zs.length = q → raised zs ∉ ks → f (raised zs) = 0) (G : List Int → Int) :
    (ks.map fun a => f a * G a).sum = (xs.map fun t => t.2 * G (raised t.1)).sum := by
  have e : (xs.map fun t => t.2 * G (raised t.1)) = (xs.map fun t => raised t.1).map fun a => f a * G a := by
    rw [List.map_map]
    refine List.map_congr_left fun t ht => ?_
    show t.2 * G (raised t.1) = f (raised t.1) * G (raised t.1)
    rw [← h.weight t.1 (h.rows t ht).1 (h.rows t ht).2, wOf_mem h.rises ht]
  rw [e]
  refine sum_support hn ?_ fun a ha => ?_
  · unfold List.Nodup
    rw [List.pairwise_map]
    refine h.rises.imp_of_mem fun {s t} hs ht hc e => ?_
    exact cmp_ne hc (raised_inj (h.rows s hs).1 (h.rows t ht).1 e)
  · constructor
    · intro hm
      obtain ⟨zs, h1, h2, rfl⟩ := hk a hm
      have hf : f (raised zs) ≠ 0 := fun e => ha (by rw [e, Int.zero_mul])
      rw [← h.weight zs h1 h2] at hf
      exact List.mem_map.2 ⟨_, mem_wOf hf, rfl⟩
    · intro hm
      obtain ⟨t, ht, rfl⟩ := List.mem_map.1 hm
      refine Classical.byContradiction fun hno => ?_
      have := hz t.1 (h.rows t ht).1 (h.rows t ht).2 hno
      exact ha (by rw [this, Int.zero_mul])

end Go.Proofs.Ytmkhdocjabflkaa
