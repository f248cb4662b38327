/- Several texts of one proof, in build order: CloU, KeyP, SubI, KeyQ, KeyS, TzI, KeyO, KeyL. -/
import Derived.Test.YtkcmlphpilggpaaDoorM6
import Derived.Test.YtkcmlphpilggpaaDoorM5
import Derived.Test.YtkcmlphpilggpaaDoorM4
import Derived.Lib.TrailingZeros
import Derived.Lib.LaidTab
import Derived.Maps.AppendAt

/- Contracts of implied, Implies, and the model's l7Implies, Implies. -/
namespace Go.Proofs.YtkcmlphpilggpaaDoor
open Go.RowKit

noncomputable def impV (xs : List Dep) (d : Dep) : Bool := sb (mk d.2) (clo (dms xs) (mk d.1))
def impB (xs : List Dep) (C : Int) (d : Dep) : Bool := goodDeps xs C && goodDep C d
theorem impB_no1 {xs : List Dep} {C : Int} {d : Dep} (h : goodDeps xs C = false) : impB xs C d = false := by unfold impB; rw [h]; rfl
theorem goodDeps_C {xs : List Dep} {C : Int} (h : goodDeps xs C = true) : 1 ≤ C ∧ C ≤ 6 ∧ xs.length ≤ 10 := by
  simp only [goodDeps, Bool.and_eq_true, decide_eq_true_eq] at h
  exact ⟨h.1, h.2.1, h.2.2.1⟩
theorem goodDeps_one' {xs : List Dep} {C : Int} (h : goodDeps xs C = true) (d : Dep) : goodDeps [d] C = goodDep C d := by
  obtain ⟨h1, h2, _⟩ := goodDeps_C h
  rw [goodDeps_one, decide_eq_true h1, decide_eq_true h2]; rfl
theorem impB_two {xs : List Dep} {C : Int} {d : Dep} (h : goodDeps xs C = true) : impB xs C d = goodDep C d := by unfold impB; rw [h]; rfl
theorem goodDep_told {C : Int} {d : Dep} (hC : C ≤ 6) (h : goodDep C d = true) : Told d.1 ∧ Told d.2 := by
  simp only [goodDep, Bool.and_eq_true] at h
  exact ⟨Told.of hC h.1, Told.of hC h.2⟩

end Go.Proofs.YtkcmlphpilggpaaDoor

/- Plain: all rising lists of so many of so many, in their order. -/
namespace Go.Proofs.YtkcmlphpilggpaaDoor
open Go.RowKit

def subsL (c : Nat) : Nat → Nat → List (List Int)
  | 0, _ => [[]]
  | m + 1, f => (List.range (c - f)).flatMap fun i => (subsL c m (f + i + 1)).map (((f + i : Nat) : Int) :: ·)
def subsT (c m f t : Nat) : List (List Int) := (List.range t).flatMap fun i => (subsL c m (f + i + 1)).map (((f + i : Nat) : Int) :: ·)
theorem subsT_zero (c m f : Nat) : subsT c m f 0 = [] := rfl
theorem subsT_succ (c m f t : Nat) : subsT c m f (t + 1) = subsT c m f t ++ (subsL c m (f + t + 1)).map (((f + t : Nat) : Int) :: ·) := by
  unfold subsT; rw [List.range_succ, List.flatMap_append]; simp
theorem subsT_all (c m f : Nat) : subsT c m f (c - f) = subsL c (m + 1) f := rfl
theorem subsL_ok_all : ∀ c : Nat, c < 7 → ∀ m : Nat, m < 7 → ∀ f : Nat, f < 9 → ((subsL c m f).length ≤ 64 ∧ (subsL c m f).all (fun l => decide (l.length ≤ 6)) = true) := by decide +kernel
theorem subsT_ok_all : ∀ c : Nat, c < 7 → ∀ m : Nat, m < 6 → ∀ f : Nat, f < 8 → ∀ t : Nat, t < 7 → (subsT c m f t).length ≤ 64 := by decide +kernel
theorem subsL_row {c m f j : Nat} {zs : List Int} (hc : c ≤ 6) (hm : m ≤ 6) (hf : f ≤ 8) (h : (subsL c m f)[j]? = some zs) : zs.length ≤ 6 := by
  have h9 := (subsL_ok_all c (by omega) m (by omega) f (by omega)).2
  rw [List.all_eq_true] at h9
  simpa using h9 zs (List.mem_of_getElem? h)

end Go.Proofs.YtkcmlphpilggpaaDoor

/- Contract of the model's l7Subsets. -/
namespace Go.Proofs.YtkcmlphpilggpaaDoor
open Go.RowKit

theorem owns_oneK (w : World) (e : TypeId) (v : Value) : (w.alloc (.cells #[v] e)).ownsRow w.heap.size e 1 (.slice (some ⟨w.heap.size, 0, none⟩) 1 1) 1 [v] :=
  ⟨by simp, .inr ⟨w.heap.size, 1, #[v], rfl, Nat.le_refl _, heap_alloc_new w _, by omega, by unfold maxLen; omega, by simp, by simp⟩⟩

end Go.Proofs.YtkcmlphpilggpaaDoor

/- Plain: keys over lists of columns; a row that was made before is taken over. -/
namespace Go.Proofs.YtkcmlphpilggpaaDoor
open Go.RowKit

section
variable {α : Type} {A : Rep α} {w w4 : World} {F H F' : Nat → Prop} {e : TypeId} {a a' : Option Addr} {n c c' : Nat} {xs : List α} {cells vs : List Value} {G : Nat → Nat → Prop} {x : α}
/-- Behind 'append(l, x)' with an x that was made before. -/
theorem Laid.pushH (h : Laid A w F e a n c xs cells G n) (hF : ∀ b, F b → b < w.heap.size) (ho : A.Own w H vs x) (hH : ∀ b, H b → b < w.heap.size) (hFH : ∀ b, F b → ¬ H b)
    (hg : ∀ b, b < w.heap.size → (Value.slice a n c).ownBlock ≠ some b → w4.heap[b]? = w.heap[b]?) (hown : w4.ownsRow 0 e A.k (.slice a' (n + 1) c') (n + 1) (cells ++ vs))
    (hat : (Value.slice a' (n + 1) c').ownBlock = (Value.slice a n c).ownBlock ∨ ∀ b, (Value.slice a' (n + 1) c').ownBlock = some b → w.heap.size ≤ b) (hbig : n + 1 ≤ 9223372036854775807)
    (hF1 : ∀ b, F b → F' b) (hF2 : ∀ b, H b → F' b) (hF3 : ∀ b, (Value.slice a' (n + 1) c').ownBlock = some b → F' b) :
    Laid A w4 F' e a' (n + 1) c' (xs ++ [x]) (cells ++ vs) (fun i => if i = n then H else G i) (n + 1) := by
  have hl := A.ownLen ho
  have hcl : cells.length = n * A.k := h.outer.1
  refine ⟨by simp [h.len], hbig, hown, hF3, fun i y hi hy => ?_, fun i b hi hb' => ?_, fun i j b hi hj hij hb' => ?_⟩
  · by_cases ei : i = n
    · subst ei
      simp only [if_true]
      obtain rfl : x = y := by
        rw [List.getElem?_append_right (by rw [h.len]; exact Nat.le_refl _)] at hy
        simpa [h.len] using hy
      have := sub_append_right (cells := cells) hl
      rw [hcl] at this
      rw [this]
      exact A.frame ho (fun b hb' hb => hg b hb (fun e' => hFH b (h.outerF b e') hb'))
    · simp only [if_neg ei]
      have hi' : i < n := by omega
      rw [List.getElem?_append_left (by rw [h.len]; exact hi')] at hy
      rw [sub_append_left (by rw [hcl]; exact at_mul hi')]
      exact A.frame (h.row i y hi' hy) (fun b hb' hb => hg b hb (h.rowF i b hi' hb').2)
  · by_cases ei : i = n
    · subst ei
      simp only [if_true] at hb'
      refine ⟨hF2 b hb', fun e' => ?_⟩
      rcases hat with h2 | h2
      · rw [h2] at e'
        exact hFH b (h.outerF b e') hb'
      · have := h2 b e'
        have := hH b hb'
        omega
    · simp only [if_neg ei] at hb'
      have h1 := h.rowF i b (by omega) hb'
      refine ⟨hF1 b h1.1, fun e' => ?_⟩
      rcases hat with h2 | h2
      · rw [h2] at e'; exact h1.2 e'
      · have := h2 b e'
        have := hF b h1.1
        omega
  · by_cases ei : i = n
    · subst ei
      simp only [if_true] at hb'
      simp only [if_neg (Ne.symm hij)]
      exact fun e' => hFH b (h.rowF j b (by omega) e').1 hb'
    · simp only [if_neg ei] at hb'
      by_cases ej : j = n
      · simp only [if_pos ej]
        exact fun e' => hFH b (h.rowF i b (by omega) hb').1 e'
      · simp only [if_neg ej]
        exact h.apart i j b (by omega) (by omega) hij hb'
end

section
variable {w : World} {F : Nat → Prop} {r : Option Addr} {g m d i : Nat} {xs : List (List Int)} {x : List Int} {cells : List Value} {G : Nat → Nat → Prop}
theorem laidI_some (h : Laid RInts w F 22 r m d xs cells G m) (h0 : 0 < m) : ∃ g, r = some ⟨g, 0, none⟩ := by
  rcases h.outer.2 with ⟨_, h1⟩ | ⟨g, cap, cur, hv, _⟩
  · omega
  · simp only [Value.slice.injEq, true_and] at hv
    obtain ⟨rfl, rfl⟩ := hv
    exact ⟨g, rfl⟩
theorem laidI_row (h : Laid RInts w F 22 (some ⟨g, 0, none⟩) m d xs cells G m) (hx : xs[i]? = some x) : ∃ sa sn sc, w.cell? ⟨g, i, none⟩ = some (.slice sa sn sc) ∧ RInts.Own w (G i) [.slice sa sn sc] x := by
  have hi : i < m := by rw [← h.len]; exact (List.getElem?_eq_some_iff.1 hx).1
  have hA := h.row i x hi hx
  have hA' := hA
  obtain ⟨sa, sn, sc, cs, G', e, _⟩ := hA'
  rw [e] at hA
  have e' : sub cells (i * 1) 1 = [.slice sa sn sc] := e
  have s0 := sub_at (cells := cells) (o := i * 1) (k := 1) (j := 0) (by omega)
  rw [e', Nat.mul_one, Nat.add_zero] at s0
  exact ⟨sa, sn, sc, (h.outer.cellAt i (by show i < m * 1; omega)).trans s0.symm, hA⟩
end

/-- Whether s is a key, with none of the first t of acc in it. -/
noncomputable def fitT (M : List (Nat × Nat)) (c : Nat) (acc : List (List Int)) (s : List Int) (t : Nat) : Bool := decide ((bl (clo M (mk s))).length = c) && (acc.take t).all (fun k => !(k.all fun x => decide (x ∈ s)))
noncomputable def stepK (M : List (Nat × Nat)) (c : Nat) (acc : List (List Int)) (s : List Int) : List (List Int) := if fitT M c acc s acc.length then acc ++ [s] else acc
noncomputable def keysT (M : List (Nat × Nat)) (c : Nat) (acc ls : List (List Int)) : List (List Int) := ls.foldl (stepK M c) acc
def setsU (c t : Nat) : List (List Int) := (List.range t).flatMap fun m => subsL c m 0
noncomputable def keysL (M : List (Nat × Nat)) (c : Nat) : List (List Int) := keysT M c [] (setsU c (c + 1))
theorem fitT_zero (M : List (Nat × Nat)) (c : Nat) (acc : List (List Int)) (s : List Int) : fitT M c acc s 0 = decide ((bl (clo M (mk s))).length = c) := by simp [fitT]
theorem fitT_succ {M : List (Nat × Nat)} {c : Nat} {acc : List (List Int)} {s k : List Int} {t : Nat} (h : acc[t]? = some k) : fitT M c acc s (t + 1) = (fitT M c acc s t && !(k.all fun x => decide (x ∈ s))) := by
  obtain ⟨ht, rfl⟩ := List.getElem?_eq_some_iff.1 h
  unfold fitT
  rw [List.take_succ_eq_append_getElem ht, List.all_append, Bool.and_assoc]
  simp
theorem keysT_take {M : List (Nat × Nat)} {c : Nat} {acc ls : List (List Int)} {j : Nat} {s : List Int} (h : ls[j]? = some s) : keysT M c acc (ls.take (j + 1)) = stepK M c (keysT M c acc (ls.take j)) s := by
  obtain ⟨hj, rfl⟩ := List.getElem?_eq_some_iff.1 h
  rw [List.take_succ_eq_append_getElem hj]; unfold keysT; rw [List.foldl_append]; rfl
theorem keysT_len (M : List (Nat × Nat)) (c : Nat) : ∀ (ls acc : List (List Int)), (keysT M c acc ls).length ≤ acc.length + ls.length
  | [], acc => by simp [keysT]
  | s :: ls, acc => by
    have h1 := keysT_len M c ls (stepK M c acc s)
    have h2 : (stepK M c acc s).length ≤ acc.length + 1 := by unfold stepK; split <;> simp
    show (keysT M c (stepK M c acc s) ls).length ≤ _
    simp only [List.length_cons]; omega
theorem setsU_succ (c t : Nat) : setsU c (t + 1) = setsU c t ++ subsL c t 0 := by unfold setsU; rw [List.range_succ, List.flatMap_append]; simp
theorem keysU_succ (M : List (Nat × Nat)) (c t : Nat) : keysT M c [] (setsU c (t + 1)) = keysT M c (keysT M c [] (setsU c t)) (subsL c t 0) := by rw [setsU_succ]; unfold keysT; rw [List.foldl_append]
theorem setsU_ok_all : ∀ c : Nat, c < 7 → ∀ t : Nat, t < 8 → (setsU c t).length ≤ 64 := by decide +kernel
theorem subs_told_all : ∀ c : Nat, c < 7 → ∀ m : Nat, m < 7 → (subsL c m 0).all (fun l => decide (bl (mk l) = l) && decide (mk l < 64)) = true := by decide +kernel
theorem subs_told {c m j : Nat} {s : List Int} (hc : c ≤ 6) (hm : m ≤ 6) (h : (subsL c m 0)[j]? = some s) : Told s := by
  have h9 := subs_told_all c (by omega) m (by omega)
  rw [List.all_eq_true] at h9
  have := h9 s (List.mem_of_getElem? h)
  simp only [Bool.and_eq_true, decide_eq_true_eq] at this
  exact ⟨this.1, this.2⟩
end Go.Proofs.YtkcmlphpilggpaaDoor

/- Contracts of the model's l7Keys and KeysOf. -/
namespace Go.Proofs.YtkcmlphpilggpaaDoor
open Go.RowKit

noncomputable def keyL (xs : List Dep) (C : Int) : List (List Int) := if goodDeps xs C then keysL (dms xs) C.toNat else []
theorem keyL_no {xs : List Dep} {C : Int} (h : goodDeps xs C = false) : keyL xs C = [] := by unfold keyL; rw [h]; rfl

end Go.Proofs.YtkcmlphpilggpaaDoor

/- Contracts of math/bits.TrailingZeros at sets of columns, and of columnSet.list. -/
namespace Go.Proofs.YtkcmlphpilggpaaDoor
open Go.RowKit

theorem TabIs.below {P : Program} {w w' : World} {name : String} {k : IntKind} {ns : List Int} (h : Lib.TabIs P w name k ns) (hb : Below w.heap.size w w') : Lib.TabIs P w' name k ns := by
  unfold Lib.TabIs World.var? at *
  cases hg : P.globalNamed name with
  | none => rw [hg] at h; cases h
  | some g =>
    rw [hg] at h
    simp only [Option.bind_some] at h ⊢
    have hlt : g < w.heap.size := by
      by_cases hl : g < w.heap.size
      · exact hl
      · rw [Array.getElem?_eq_none (by omega)] at h
        cases h
    rw [hb.block g hlt]
    exact h

/-- The table that TrailingZeros reads. -/
def deB : List Int := Lib.deBruijn64tab.map Int.ofNat
abbrev TabB (w : World) : Prop := Lib.TabIs Tryd.prog w "math/bits.deBruijn64tab" .u8 deB
theorem gTab : Tryd.prog.globalNamed "math/bits.deBruijn64tab" = some 1 := by kernel_rfl

/-- The first column of a set. -/
def tz (x : Nat) : Nat := ((List.range 6).find? (fun i => x.testBit i)).getD 0
def tzAt (x : Nat) : Nat := (x &&& (18446744073709551616 - x)) * 285870213051353865 % 18446744073709551616 / 288230376151711744
theorem tz_key : ∀ x : Nat, x < 64 → x ≠ 0 → tzAt x < 64 ∧ Lib.deBruijn64tab.getD (tzAt x) 0 = tz x ∧ tz x < 6 := by decide +kernel
theorem bl_step : ∀ x : Nat, x < 64 → x ≠ 0 → bl x = (tz x : Int) :: bl (x &&& (x - 1)) ∧ (x &&& (x - 1)) < x := by decide +kernel
theorem bl_zero : bl 0 = [] := by decide +kernel
theorem deB_at : ∀ i : Nat, i < 64 → deB.getD i 0 = (Lib.deBruijn64tab.getD i 0 : Nat) := by decide +kernel

theorem tz_wrap {x : Nat} (hx : x < 64) (h0 : x ≠ 0) :
    IntKind.u64.wrap (bits BinOp.and IntKind.u64 (x : Int) (IntKind.u64.wrap (-(x : Int))) * 285870213051353865) / 288230376151711744 = (tzAt x : Int) := by
  have e0 : ∀ n : Int, IntKind.u64.wrap n = n % 18446744073709551616 := fun n => by simp [IntKind.wrap, IntKind.bits, IntKind.signed]
  have e1 : IntKind.u64.wrap (-(x : Int)) = ((18446744073709551616 - x : Nat) : Int) := by rw [e0]; omega
  rw [e1, u64_and_nat x _ (by omega) (by omega), e0]
  unfold tzAt
  omega

set_option maxHeartbeats 1000000 in
theorem tz64_any (x : Nat) (w : World) (hx : x < 64) (h0 : x ≠ 0) (ht : TabB w) :
    Calls Tryd.prog 71 #[.int .u64 (x : Nat)] w fun e w' => e = .returned (.int .i64 (tz x : Nat)) ∧ w' = w := by
  obtain ⟨k1, k2, k3⟩ := tz_key x hx h0
  have key := tz_wrap hx h0
  have hc := Lib.TabIs.cell ht gTab (tzAt x) (by show tzAt x < 64; exact k1)
  rw [deB_at _ k1, k2] at hc
  have hb : ((x : Int) == 0) = false := beq_eq_false_iff_ne.2 (by omega)
  obtain ⟨I, hI⟩ : ∃ I, tzAt x = I := ⟨_, rfl⟩
  obtain ⟨Z, hZ⟩ : ∃ Z, tz x = Z := ⟨_, rfl⟩
  rw [hI] at key hc k1
  rw [hZ] at hc k3 ⊢
  clear ht k2 hI hZ
  go_enter Tryd.func71, Tryd.ntmps71
  go_wp2_with (simp only [key])
  go_ret
  exact ⟨rfl, rfl⟩

theorem tz_any (x : Nat) (w : World) (hx : x < 64) (h0 : x ≠ 0) (ht : TabB w) :
    Calls Tryd.prog 59 #[.int .u64 (x : Nat)] w fun e w' => e = .returned (.int .i64 (tz x : Nat)) ∧ w' = w := by
  have K := Hid.mk (tz64_any x w hx h0 ht)
  clear ht
  go_enter Tryd.func59, Tryd.ntmps59
  go_wp2_with fail
  refine K.out.mono ?_
  rintro e w1 ⟨rfl, rfl⟩
  go_wp2
  go_ret
  exact ⟨rfl, rfl⟩

set_option maxRecDepth 100000 in
set_option maxHeartbeats 2000000 in
theorem list_any (S : Nat) (w : World) (hS : S < 64) (ht : TabB w) :
    Calls Tryd.prog 51 #[.int .u64 (S : Nat)] w fun e w' => ∃ r m d, e = .returned (.slice r m d) ∧ (bl S).length = m ∧ w'.ownsRow w.heap.size 3 1 (.slice r m d) m ((bl S).map (.int .i64)) ∧ Below w.heap.size w w' := by
  obtain ⟨i0, hi, hz0, hz1, hz2⟩ := info_parts Tryd.infoInt
  have HT := Hid.mk ht
  clear ht
  go_enter Tryd.func51, Tryd.ntmps51
  go_wp2
  go_loopg [0, 3] S (fun g p q wr => ∃ (s : Nat) (zs : List Int) (r : Option Addr) (m d : Nat), s = g ∧ s < 64 ∧ p = .int .u64 (s : Nat) ∧ q = .slice r m d ∧ bl S = zs ++ bl s ∧ zs.length = m ∧ wr.ownsRow w.heap.size 3 1 (.slice r m d) m (zs.map (.int .i64)) ∧ Below w.heap.size w wr)
  case atStart => exact ⟨S, [], none, 0, 0, rfl, hS, rfl, rfl, rfl, rfl, World.ownsRow_nil _ _ _ _, Below.refl _ _⟩
  case round =>
    obtain ⟨s, zs, r, m, d, rfl, hs, rfl, rfl, hbl, hm, hown, hbw⟩ := hrel
    by_cases h0 : s = 0
    · have HB : Hid (bl S = zs) := by show _ = _; rw [hbl, h0, bl_zero, List.append_nil]
      have hsb : ((s : Int) != 0) = false := by rw [h0]; rfl
      have HO := Hid.mk hown
      have HM := Hid.mk hm
      clear hbl hown hm
      go_wp2
      go_ret
      exact ⟨r, m, d, rfl, by rw [HB.out]; exact HM.out, by rw [HB.out]; exact HO.out, hbw⟩
    · obtain ⟨b1, b2⟩ := bl_step s hs h0
      have hm6 : m ≤ 6 := by have h9 := bl_len S; rw [hbl, List.length_append] at h9; omega
      rw [b1] at hbl
      have hsb : ((s : Int) != 0) = true := bne_iff_ne.2 (by omega)
      have hsub : IntKind.u64.wrap ((s : Int) - 1) = ((s - 1 : Nat) : Int) := by
        rw [show (s : Int) - 1 = ((s - 1 : Nat) : Int) by omega]; exact wrap64_small (by omega)
      have hand := u64_and_nat s (s - 1) (by omega) (by omega)
      have K := Hid.mk (tz_any s wr hs h0 (TabIs.below HT.out hbw))
      obtain ⟨Z, hZ⟩ : ∃ Z, tz s = Z := ⟨_, rfl⟩
      obtain ⟨Q, hQ⟩ : ∃ Q, s &&& (s - 1) = Q := ⟨_, rfl⟩
      rw [hZ] at hbl K
      rw [hQ] at hbl hand b2
      have HBL := Hid.mk hbl
      have HM := Hid.mk hm
      have HO := Hid.mk hown
      have HB := Hid.mk hbw
      have z := hbw.size
      clear hbl hm hown hbw hZ hQ b1 h0
      go_wp2_with fail
      refine K.out.mono ?_
      rintro e w1 ⟨rfl, rfl⟩
      go_wp2_with (at_builtin; refine wpList_append_lies _ rfl (.tmp 6) (.tmp 9) 22 rfl w.heap.size 3 i0 (.int .i64 0) 1 8 Tryd.underlying22 hi hz0 hz1 hz2 rfl (by decide) _ _ _ rfl (HO.out.alloc _) ⟨w1.heap.size, 0, none⟩ 1 1 [.int .i64 (Z : Nat)] rfl rfl (news_at w1 _ _) (by intro u hu; simp at hu; subst hu; rfl) (by decide) (by unfold maxLen; omega) (by omega) (by simp; omega) (w1.heap.size + 1) (by simp) ?_)
      intro g3 cap3 w3 ho3 hg3 hat3 hlt3
      have HB3 : Hid (Below w.heap.size w w3) := (HB.out.alloc z _).grown hg3 (by simp; omega) (fun j hj => (HO.out.lt j hj).1)
      have HO3 : Hid (w3.ownsRow w.heap.size 3 1 (.slice (some ⟨g3, 0, none⟩) (m + 1) cap3) (m + 1) ((zs ++ [(Z : Int)]).map (.int .i64))) := by
        show World.ownsRow _ _ _ _ _ _ _
        rw [List.map_append]; exact ho3
      clear ho3 hg3 hat3 HO HB K
      go_wp2
      go_roundg Q
      case measure => omega
      case rel => exact ⟨Q, zs ++ [(Z : Int)], some ⟨g3, 0, none⟩, m + 1, cap3, rfl, by omega, rfl, rfl, by rw [HBL.out]; simp, by have := HM.out; simp; omega, HO3.out, HB3.out⟩

end Go.Proofs.YtkcmlphpilggpaaDoor

/- Contracts of math/bits.OnesCount, cmp.Compare, cmp.Or at sets of columns. -/
namespace Go.Proofs.YtkcmlphpilggpaaDoor
open Go.RowKit

/-- How many columns. -/
def pc (x : Nat) : Nat := (bl x).length

set_option maxRecDepth 100000 in
set_option maxHeartbeats 2000000 in
theorem ones64_any (x : Nat) (w : World) (hx : x < 64) :
    Calls Tryd.prog 58 #[.int .u64 (x : Nat)] w fun e w' => e = .returned (.int .i64 (pc x : Nat)) ∧ w' = w := by
  go_enter Tryd.func58, Tryd.ntmps58
  go_wp2
  go_ret
  refine ⟨ret_int ?_, rfl⟩
  clear w
  revert x
  decide +kernel

theorem ones_any (x : Nat) (w : World) (hx : x < 64) :
    Calls Tryd.prog 49 #[.int .u64 (x : Nat)] w fun e w' => e = .returned (.int .i64 (pc x : Nat)) ∧ w' = w := by
  have K := Hid.mk (ones64_any x w hx)
  go_enter Tryd.func49, Tryd.ntmps49
  go_wp2_with fail
  refine K.out.mono ?_
  rintro e w1 ⟨rfl, rfl⟩
  go_wp2
  go_ret
  exact ⟨rfl, rfl⟩

/-- -1, 0 or 1. -/
def sgnI (a b : Int) : Int := if a < b then -1 else if b < a then 1 else 0
theorem cmpI_any (a b : Int) (w : World) : Calls Tryd.prog 48 #[.int .i64 a, .int .i64 b] w fun e w' => e = .returned (.int .i64 (sgnI a b)) ∧ w' = w := by
  have N : ∀ (z : Int) (w : World), Calls Tryd.prog 56 #[.int .i64 z] w fun e w' => e = .returned (.bool false) ∧ w' = w := fun z w => by
    go_enter Tryd.func56, Tryd.ntmps56
    go_wp2
    go_ret
    exact ⟨by simp, rfl⟩
  have HN := Hid.mk N
  clear N
  rcases Int.lt_trichotomy a b with h | h | h
  · have HS : Hid (sgnI a b = -1) := by show _ = _; unfold sgnI; rw [if_pos h]
    go_enter Tryd.func48, Tryd.ntmps48
    go_wp2_with fail
    refine (HN.out a w).mono ?_
    rintro e w1 ⟨rfl, rfl⟩
    go_wp2_with fail
    refine (HN.out b _).mono ?_
    rintro e w1 ⟨rfl, rfl⟩
    go_wp2
    go_ret
    exact ⟨ret_int HS.out.symm, rfl⟩
  · subst h
    have HS : Hid (sgnI a a = 0) := by show _ = _; unfold sgnI; simp
    go_enter Tryd.func48, Tryd.ntmps48
    go_wp2_with fail
    refine (HN.out a w).mono ?_
    rintro e w1 ⟨rfl, rfl⟩
    go_wp2_with fail
    refine (HN.out a _).mono ?_
    rintro e w1 ⟨rfl, rfl⟩
    go_wp2
    go_ret
    exact ⟨ret_int HS.out.symm, rfl⟩
  · have h' : ¬ a < b := by omega
    have HS : Hid (sgnI a b = 1) := by show _ = _; unfold sgnI; rw [if_neg h', if_pos h]
    go_enter Tryd.func48, Tryd.ntmps48
    go_wp2_with fail
    refine (HN.out a w).mono ?_
    rintro e w1 ⟨rfl, rfl⟩
    go_wp2_with fail
    refine (HN.out b _).mono ?_
    rintro e w1 ⟨rfl, rfl⟩
    go_wp2
    go_ret
    exact ⟨ret_int HS.out.symm, rfl⟩

/-- The first of two that is not 0. -/
theorem or2_any (b : Nat) (x y : Int) (w : World) (c0 : w.cell? ⟨b, 0, none⟩ = some (.int .i64 x)) (c1 : w.cell? ⟨b, 1, none⟩ = some (.int .i64 y)) :
    Calls Tryd.prog 47 #[.slice (some ⟨b, 0, none⟩) 2 2] w fun e w' => e = .returned (.int .i64 (if x = 0 then y else x)) ∧ w' = w := by
  by_cases hx : x = 0
  · subst hx
    rw [if_pos rfl]
    by_cases hy : y = 0
    · subst hy
      go_enter Tryd.func47, Tryd.ntmps47
      go_wp2
      refine wp_loop_rounds 3 ?_
      rw [rounds_succ]
      go_wp2
      rw [rounds_succ]
      go_wp2
      rw [rounds_succ]
      go_wp2
      go_ret
      exact ⟨rfl, rfl⟩
    · have hb : (y == 0) = false := beq_eq_false_iff_ne.2 hy
      go_enter Tryd.func47, Tryd.ntmps47
      go_wp2
      refine wp_loop_rounds 3 ?_
      rw [rounds_succ]
      go_wp2
      rw [rounds_succ]
      go_wp2
      go_ret
      exact ⟨rfl, rfl⟩
  · rw [if_neg hx]
    have hb : (x == 0) = false := beq_eq_false_iff_ne.2 hx
    go_enter Tryd.func47, Tryd.ntmps47
    go_wp2
    refine wp_loop_rounds 3 ?_
    rw [rounds_succ]
    go_wp2
    go_ret
    exact ⟨rfl, rfl⟩

end Go.Proofs.YtkcmlphpilggpaaDoor

/- columnSet.list and slices.Compare once more: they only draw onwards. -/
namespace Go.Proofs.YtkcmlphpilggpaaDoor
open Go.RowKit

theorem append_drawn {P : Program} (w : World) (base : Nat) (t ty e : TypeId) (i : TypeInfo) (z : Value) (size bytes : Nat) (ht : P.underlying t = some (.slice e)) (hi : P.info? e = some i) (hz : i.zero = some z) (hsize : i.size = size) (hby : i.bytes = bytes)
    (v : Value) (n : Nat) (xs : List Value) (hown : w.ownsRow base e size v n xs) (a : Addr) (m c : Nat) (news : List Value) (hl : news.length = m * size) (hnews : ∀ j u, news[j]? = some u → w.cell? (a.add j) = some u) (h1 : ∀ u ∈ news, u.oneCell' = true)
    (hm : 0 < m) (h63 : n + m ≤ maxLen) (hbytes : (n + m) * bytes ≤ 140737488355328) {v' : Value} {w' : World} (hr : (Builtin.append_ #[t, t] ty #[v, .slice (some a) m c]).run P w = .ok v' w') : w.drawn ≤ w'.drawn := by
  subst hsize hby
  have hs : n + m ≤ 9223372036854775807 := by simp only [maxLen] at h63; omega
  rcases hown.2 with ⟨rfl, rfl⟩ | ⟨g, cap, cur, rfl, hbg, hg, hnc, hcm, hcs, htake⟩
  · have h9 := run_append_nil (P := P) w t ty e i z ht hi hz a m c news hl hnews (by omega) (by omega) (by have hb := hbytes; simp only [Nat.zero_add] at hb; omega)
    rw [h9] at hr
    cases hr
    simp
  · by_cases hroom : n + m ≤ cap
    · have hfit : n * i.size + news.length ≤ cur.size := by rw [hl, hcs, ← Nat.add_mul]; exact Nat.mul_le_mul_right _ hroom
      have h9 := run_append_room (P := P) w t ty e i ht hi g n cap cur hg a m c news hl hnews h1 hroom hfit
      rw [h9] at hr
      cases hr
      simp
    · have h9 := run_append_grow (P := P) w t ty e i z ht hi hz ⟨g, 0, none⟩ n cap xs hown.1 (hown.cells (g := g) rfl) a m c news hl hnews (by omega) (by omega) (growslice_fits (by omega) hbytes)
      rw [h9] at hr
      cases hr
      simp

theorem wpList_app_drawn {P : Program} {w : World} {ops : Array Oper} {rest : List Oper} {o : Oper} {a : Act} {Q : Exit → Act → World → Prop} (hgd : o.guard = none) (s x : Operand) (t : TypeId)
    (ho : o.op = .call { callee := .builtin .append, args := #[s, x], argTypes := #[t, t] })
    (base : Nat) (e : TypeId) (i : TypeInfo) (z : Value) (size bytes : Nat) (ht : P.underlying t = some (.slice e)) (hi : P.info? e = some i) (hz : i.zero = some z)
    (hsize : i.size = size) (hby : i.bytes = bytes) (hzs : z.cells.size = size) (hsz : 0 < size)
    (v : Value) (n : Nat) (xs : List Value) (hs : a.eval s = v) (hown : w.ownsRow base e size v n xs)
    (ad : Addr) (m c : Nat) (news : List Value) (hx : a.eval x = .slice (some ad) m c) (hl : news.length = m * size) (hat : ∀ (j : Nat) (u : Value), news[j]? = some u → w.cell? (ad.add j) = some u) (h1 : ∀ u ∈ news, u.oneCell' = true) (hm : 0 < m)
    (h63 : n + m ≤ maxLen) (hbytes : (n + m) * bytes ≤ 140737488355328) (hbase : base ≤ w.heap.size)
    (h : ∀ r cap w', w'.ownsRow base e size (.slice r (n + m) cap) (n + m) (xs ++ news) → w.grownBy w' v.ownBlock → w.drawn ≤ w'.drawn → wpList P ops Q rest (a.put o.dst (.slice r (n + m) cap)) w') :
    wpList P ops Q (o :: rest) a w :=
  wpList_plain hgd fun K hK => by
    obtain ⟨v', w', hr, h2, h3, _, h5⟩ := run_append_own_at (P := P) w base t o.type e i z size bytes ht hi hz hsize hby hzs hsz v n xs hown ad m c news hl hat h1 h63 hbytes hbase
    have h6 := append_drawn w base t o.type e i z size bytes ht hi hz hsize hby v n xs hown ad m c news hl hat h1 hm h63 hbytes hr
    obtain ⟨r, cap, rfl⟩ := owns_slice h2
    unfold Oper.wp execOp
    simp only [ho, resolve, invoke, builtin, Sem.run_bind, Sem.run_pure, Result.andThen_ok, List.map_toArray, List.map_cons, List.map_nil, hs, hx, hr]
    exact hK _ _ (h r cap w' h2 h3 h6)

set_option maxRecDepth 100000 in
set_option maxHeartbeats 2000000 in
theorem list_drawn (S : Nat) (w : World) (hS : S < 64) (ht : TabB w) :
    Calls Tryd.prog 51 #[.int .u64 (S : Nat)] w fun e w' => ∃ r m d, e = .returned (.slice r m d) ∧ (bl S).length = m ∧ w'.ownsRow w.heap.size 3 1 (.slice r m d) m ((bl S).map (.int .i64)) ∧ Below w.heap.size w w' ∧ w.drawn ≤ w'.drawn := by
  obtain ⟨i0, hi, hz0, hz1, hz2⟩ := info_parts Tryd.infoInt
  have HT := Hid.mk ht
  clear ht
  go_enter Tryd.func51, Tryd.ntmps51
  go_wp2
  go_loopg [0, 3] S (fun g p q wr => ∃ (s : Nat) (zs : List Int) (r : Option Addr) (m d : Nat), s = g ∧ s < 64 ∧ p = .int .u64 (s : Nat) ∧ q = .slice r m d ∧ bl S = zs ++ bl s ∧ zs.length = m ∧ wr.ownsRow w.heap.size 3 1 (.slice r m d) m (zs.map (.int .i64)) ∧ Below w.heap.size w wr ∧ Hid (w.drawn ≤ wr.drawn))
  case atStart => exact ⟨S, [], none, 0, 0, rfl, hS, rfl, rfl, rfl, rfl, World.ownsRow_nil _ _ _ _, Below.refl _ _, Hid.mk (Nat.le_refl _)⟩
  case round =>
    obtain ⟨s, zs, r, m, d, rfl, hs, rfl, rfl, hbl, hm, hown, hbw, hdr⟩ := hrel
    by_cases h0 : s = 0
    · have HB : Hid (bl S = zs) := by show _ = _; rw [hbl, h0, bl_zero, List.append_nil]
      have hsb : ((s : Int) != 0) = false := by rw [h0]; rfl
      have HO := Hid.mk hown
      have HM := Hid.mk hm
      clear hbl hown hm
      go_wp2
      go_ret
      exact ⟨r, m, d, rfl, by rw [HB.out]; exact HM.out, by rw [HB.out]; exact HO.out, hbw, hdr.out⟩
    · obtain ⟨b1, b2⟩ := bl_step s hs h0
      have hm6 : m ≤ 6 := by have h9 := bl_len S; rw [hbl, List.length_append] at h9; omega
      rw [b1] at hbl
      have hsb : ((s : Int) != 0) = true := bne_iff_ne.2 (by omega)
      have hsub : IntKind.u64.wrap ((s : Int) - 1) = ((s - 1 : Nat) : Int) := by
        rw [show (s : Int) - 1 = ((s - 1 : Nat) : Int) by omega]; exact wrap64_small (by omega)
      have hand := u64_and_nat s (s - 1) (by omega) (by omega)
      have K := Hid.mk (tz_any s wr hs h0 (TabIs.below HT.out hbw))
      obtain ⟨Z, hZ⟩ : ∃ Z, tz s = Z := ⟨_, rfl⟩
      obtain ⟨Q, hQ⟩ : ∃ Q, s &&& (s - 1) = Q := ⟨_, rfl⟩
      rw [hZ] at hbl K
      rw [hQ] at hbl hand b2
      have HBL := Hid.mk hbl
      have HM := Hid.mk hm
      have HO := Hid.mk hown
      have HB := Hid.mk hbw
      have z := hbw.size
      clear hbl hm hown hbw hZ hQ b1 h0
      go_wp2_with fail
      refine K.out.mono ?_
      rintro e w1 ⟨rfl, rfl⟩
      go_wp2_with (at_builtin; refine wpList_app_drawn rfl (.tmp 6) (.tmp 9) 22 rfl w.heap.size 3 i0 (.int .i64 0) 1 8 Tryd.underlying22 hi hz0 hz1 hz2 rfl (by decide) _ _ _ rfl (HO.out.alloc _) ⟨w1.heap.size, 0, none⟩ 1 1 [.int .i64 (Z : Nat)] rfl rfl (news_at w1 _ _) (by intro u hu; simp at hu; subst hu; rfl) (by decide) (by unfold maxLen; omega) (by omega) (by simp; omega) ?_)
      intro r3 cap3 w3 ho3 hg3 hd3
      have HB3 : Hid (Below w.heap.size w w3) := (HB.out.alloc z _).grown hg3 (by simp; omega) (fun j hj => (HO.out.lt j hj).1)
      have HO3 : Hid (w3.ownsRow w.heap.size 3 1 (.slice r3 (m + 1) cap3) (m + 1) ((zs ++ [(Z : Int)]).map (.int .i64))) := by
        show World.ownsRow _ _ _ _ _ _ _
        rw [List.map_append]; exact ho3
      have HD3 : Hid (w.drawn ≤ w3.drawn) := Hid.mk (Nat.le_trans hdr.out (by simpa using hd3))
      clear ho3 hg3 hd3 hdr HO HB K
      go_wp2
      go_roundg Q
      case measure => omega
      case rel => exact ⟨Q, zs ++ [(Z : Int)], r3, m + 1, cap3, rfl, by omega, rfl, rfl, by rw [HBL.out]; simp, by have := HM.out; simp; omega, HO3.out, HB3.out, HD3⟩

/-- The first number that is unlike, or the shorter first. -/
def lexI : List Int → List Int → Int
  | [], [] => 0
  | [], _ :: _ => -1
  | _ :: _, [] => 1
  | x :: xs, y :: ys => if sgnI x y = 0 then lexI xs ys else sgnI x y

set_option maxRecDepth 100000 in
set_option maxHeartbeats 2000000 in
theorem lexI_any (a : Option Addr) (n c : Nat) (zs : List Int) (a' : Option Addr) (n' c' : Nat) (ys : List Int) (w : World) (hz : zs.length = n) (hn : n ≤ 64) (ha : At w a zs) (hz' : ys.length = n') (hn' : n' ≤ 64) (ha' : At w a' ys) :
    Calls Tryd.prog 50 #[.slice a n c, .slice a' n' c'] w fun e w' => e = .returned (.int .i64 (lexI zs ys)) ∧ w' = w := by
  have HA := Hid.mk (And.intro ha ha')
  have HZ := Hid.mk (And.intro hz hz')
  clear ha ha' hz hz'
  go_enter Tryd.func50, Tryd.ntmps50
  go_wp2_with fail
  go_loopw [11] (fun i wr => ∃ k : Nat, k ≤ n ∧ k ≤ n' ∧ i = .int .i64 k ∧ lexI zs ys = lexI (zs.drop k) (ys.drop k) ∧ wr = w) (fun i _ => n - (intOf i).toNat)
  case atStart => exact ⟨0, Nat.zero_le _, Nat.zero_le _, rfl, rfl, rfl⟩
  case round =>
    obtain ⟨k, hk, hk', rfl, hlex, rfl⟩ := hrel
    by_cases hlt : k < n
    · have hki : (k : Int) < (n : Int) := by omega
      obtain ⟨b, off, hab, _, hc⟩ := HA.out.1.some (by have := HZ.out.1; omega)
      subst hab
      have hcx := hc k (by have := HZ.out.1; omega)
      have hdx : zs.drop k = zs.getD k 0 :: zs.drop (k + 1) := by rw [List.drop_eq_getElem_cons (by have := HZ.out.1; omega)]; simp [List.getD, show k < zs.length by have := HZ.out.1; omega]
      obtain ⟨x, hx⟩ : ∃ x, x = zs.getD k 0 := ⟨_, rfl⟩
      rw [← hx] at hcx hdx
      rw [hdx] at hlex
      by_cases hge : n' ≤ k
      · have hgi : (n' : Int) ≤ (k : Int) := by omega
        rw [show ys.drop k = [] from List.drop_of_length_le (by have := HZ.out.2; omega)] at hlex
        have HL : Hid (lexI zs ys = 1) := hlex
        clear hlex hdx hc hx
        go_wp2
        go_ret
        exact ⟨ret_int HL.out.symm, rfl⟩
      · have hgi : ¬ (n' : Int) ≤ (k : Int) := by omega
        have hki' : (k : Int) < (n' : Int) := by omega
        obtain ⟨b', off', hab', _, hc'⟩ := HA.out.2.some (by have := HZ.out.2; omega)
        subst hab'
        have hcy := hc' k (by have := HZ.out.2; omega)
        have hdy : ys.drop k = ys.getD k 0 :: ys.drop (k + 1) := by rw [List.drop_eq_getElem_cons (by have := HZ.out.2; omega)]; simp [List.getD, show k < ys.length by have := HZ.out.2; omega]
        obtain ⟨y, hy⟩ : ∃ y, y = ys.getD k 0 := ⟨_, rfl⟩
        rw [← hy] at hcy hdy
        rw [hdy] at hlex
        have HC := Hid.mk (cmpI_any x y wr)
        have hl2 : lexI zs ys = if sgnI x y = 0 then lexI (zs.drop (k + 1)) (ys.drop (k + 1)) else sgnI x y := hlex
        obtain ⟨S, hS⟩ : ∃ S, sgnI x y = S := ⟨_, rfl⟩
        rw [hS] at HC hl2
        have HL := Hid.mk hl2
        clear hlex hl2 hdx hdy hc hc' hx hy hS
        go_wp2_with fail
        refine HC.out.mono ?_
        rintro e w1 ⟨rfl, rfl⟩
        by_cases h0 : S = 0
        · have HL2 : Hid (lexI zs ys = lexI (zs.drop (k + 1)) (ys.drop (k + 1))) := by show _ = _; rw [HL.out, if_pos h0]
          subst h0
          go_wp2
          go_roundw
          case rel => exact ⟨k + 1, by omega, by omega, by go_num, HL2.out, by first | rfl | trivial⟩
          case measure => simp [intOf]; omega
        · have HL2 : Hid (lexI zs ys = S) := by show _ = _; rw [HL.out, if_neg h0]
          have hb : (S == 0) = false := beq_eq_false_iff_ne.2 h0
          have hb2 : (S != 0) = true := bne_iff_ne.2 h0
          go_wp2
          go_ret
          exact ⟨ret_int HL2.out.symm, rfl⟩
    · obtain rfl : k = n := by omega
      rw [List.drop_of_length_le (by have := HZ.out.1; omega)] at hlex
      have hkk : ¬ (k : Int) < (k : Int) := by omega
      by_cases hsh : k < n'
      · have hsi : (k : Int) < (n' : Int) := by omega
        have HL : Hid (lexI zs ys = -1) := by
          show _ = _
          rw [hlex, List.drop_eq_getElem_cons (by have := HZ.out.2; omega)]; rfl
        clear hlex
        go_wp2
        go_ret
        exact ⟨ret_int HL.out.symm, rfl⟩
      · have hsi : ¬ (k : Int) < (n' : Int) := by omega
        have HL : Hid (lexI zs ys = 0) := by
          show _ = _
          rw [hlex, List.drop_of_length_le (by have := HZ.out.2; omega)]; rfl
        clear hlex
        go_wp2
        go_ret
        exact ⟨ret_int HL.out.symm, rfl⟩

end Go.Proofs.YtkcmlphpilggpaaDoor
