/- Plain: the least order in which each stands ahead of those that its clashes tell. -/
import Derived.Test.YtociphdhkjoofaaDoorCfP
import Derived.Test.YtociphdhkjoofaaDoorFnI
namespace Go.Proofs.YtociphdhkjoofaaDoor
open Go.RowKit

def dfN (P T : Nat) : Nat := P &&& (18446744073709551615 - T)
theorem not_bitN {T i : Nat} (hT : T < 64) (hi : i < 64) : (18446744073709551615 - T).testBit i = !(T.testBit i) := by
  have := Nat.testBit_two_pow_sub_succ (x := T) (n := 64) (by omega) i
  rw [show (2 ^ 64 - (T + 1)) = 18446744073709551615 - T by omega] at this
  rw [this]; simp [hi]
theorem bit_ltN {A i : Nat} (hA : A < 64) (h : A.testBit i = true) : i < 6 := by
  by_cases h6 : i < 6
  · exact h6
  · rw [Nat.testBit_lt_two_pow (Nat.lt_of_lt_of_le hA (by have : 2 ^ 6 ≤ 2 ^ i := Nat.pow_le_pow_right (by omega) (by omega); omega))] at h; cases h
theorem dfN_bit {P T i : Nat} (hP : P < 64) (hT : T < 64) : (dfN P T).testBit i = (P.testBit i && !(T.testBit i)) := by
  unfold dfN
  rw [Nat.testBit_and]
  cases h : P.testBit i with
  | false => rfl
  | true => rw [not_bitN hT (by have := bit_ltN hP h; omega)]
theorem dfN_lt {P T : Nat} (h : P < 64) : dfN P T < 64 := Nat.lt_of_le_of_lt Nat.and_le_left h
def brO (cs : List Nat) (l : List Int) : Nat := l.foldl (fun s t => s ||| cs.getD t.toNat 0) 0
theorem brO_foldl (cs : List Nat) : ∀ (l : List Int) (s i : Nat), (l.foldl (fun s t => s ||| cs.getD t.toNat 0) s).testBit i = (s.testBit i || l.any fun t => (cs.getD t.toNat 0).testBit i)
  | [], s, i => by simp
  | t :: l, s, i => by
    rw [List.foldl_cons, brO_foldl cs l, Nat.testBit_or, List.any_cons, Bool.or_assoc]
theorem brO_bit (cs : List Nat) (l : List Int) (i : Nat) : (brO cs l).testBit i = l.any fun t => (cs.getD t.toNat 0).testBit i := by
  unfold brO; rw [brO_foldl]; simp
theorem brO_take {cs : List Nat} {l : List Int} {j : Nat} {t : Int} (h : l[j]? = some t) : brO cs (l.take (j + 1)) = brO cs (l.take j) ||| cs.getD t.toNat 0 := by
  obtain ⟨hj, rfl⟩ := List.getElem?_eq_some_iff.1 h
  unfold brO
  rw [List.take_succ_eq_append_getElem hj, List.foldl_append]; rfl
theorem brO_lt {cs : List Nat} (h : Six cs) (l : List Int) : brO cs l < 64 := by
  have : ∀ (l : List Int) (s : Nat), s < 64 → l.foldl (fun s t => s ||| cs.getD t.toNat 0) s < 64 := by
    intro l
    induction l with
    | nil => intro s hs; exact hs
    | cons t l ih => intro s hs; exact ih _ (or_lt64 hs (h.get _))
  exact this l 0 (by omega)
def fre (cs : List Nat) (L : Nat) (t : Int) : Bool := (bl L).all fun o => !decide (t ∈ bl (cs.getD o.toNat 0))
def nxt (cs : List Nat) (L : Nat) : Option Int := (bl L).find? (fre cs L)
theorem mem_bl_nat {s i : Nat} (hi : i < 6) : ((i : Int) ∈ bl s) ↔ s.testBit i = true := by
  rw [mem_bl]
  constructor
  · rintro ⟨k, _, hb, e⟩
    have : k = i := by omega
    rw [← this]; exact hb
  · intro h; exact ⟨i, hi, h, rfl⟩
theorem bl_free {cs : List Nat} (h : Six cs) {L : Nat} (hL : L < 64) : bl (dfN L (brO cs (bl L))) = (bl L).filter (fre cs L) := by
  refine srt_ext (bl_sorted _) ((bl_sorted L).filter _) (fun x => ?_)
  rw [List.mem_filter]
  constructor
  · intro hx
    obtain ⟨i, hi, hb, rfl⟩ := mem_bl.1 hx
    rw [dfN_bit hL (brO_lt h _), Bool.and_eq_true, brO_bit] at hb
    refine ⟨(mem_bl_nat hi).2 hb.1, ?_⟩
    unfold fre
    rw [List.all_eq_true]
    intro o ho
    have h9 := hb.2
    simp only [Bool.not_eq_true', List.any_eq_false] at h9
    have := h9 o ho
    simp only [Bool.not_eq_true', decide_eq_false_iff_not]
    rw [mem_bl_nat hi]
    exact this
  · rintro ⟨hx, hf⟩
    obtain ⟨i, hi, hb, rfl⟩ := mem_bl.1 hx
    refine (mem_bl_nat hi).2 ?_
    rw [dfN_bit hL (brO_lt h _), Bool.and_eq_true, brO_bit]
    refine ⟨hb, ?_⟩
    unfold fre at hf
    rw [List.all_eq_true] at hf
    simp only [Bool.not_eq_true', List.any_eq_false]
    intro o ho
    have := hf o ho
    simp only [Bool.not_eq_true', decide_eq_false_iff_not] at this
    rw [mem_bl_nat hi] at this
    exact this
theorem bl_nil : ∀ s : Nat, s < 64 → (bl s = [] ↔ s = 0) := by decide +kernel
theorem bl_wo : ∀ s : Nat, s < 64 → ∀ i : Nat, i < 6 → woI (bl s) (i : Int) = bl (dfN s (2 ^ i)) := by decide +kernel
theorem nxt_head {cs : List Nat} (h : Six cs) {L : Nat} (hL : L < 64) : nxt cs L = (bl (dfN L (brO cs (bl L)))).head? := by
  unfold nxt; rw [bl_free h hL, List.head?_filter]
theorem nxt_mem {cs : List Nat} {L : Nat} {t : Int} (h : nxt cs L = some t) : t ∈ bl L := List.mem_of_find?_eq_some h
def ordO (cs : List Nat) : Nat → Nat → List Int × Bool
  | 0, _ => ([], true)
  | f + 1, L => if L = 0 then ([], true) else match nxt cs L with
    | none => ([], false)
    | some t => (t :: (ordO cs f (dfN L (2 ^ t.toNat))).1, (ordO cs f (dfN L (2 ^ t.toNat))).2)
theorem ordO_zero (cs : List Nat) (f : Nat) : ordO cs f 0 = ([], true) := by cases f <;> simp [ordO]
theorem ordO_none {cs : List Nat} {f L : Nat} (h : L ≠ 0) (hn : nxt cs L = none) : ordO cs (f + 1) L = ([], false) := by rw [ordO, if_neg h, hn]
theorem ordO_some {cs : List Nat} {f L : Nat} {t : Int} (h : L ≠ 0) (hn : nxt cs L = some t) : ordO cs (f + 1) L = (t :: (ordO cs f (dfN L (2 ^ t.toNat))).1, (ordO cs f (dfN L (2 ^ t.toNat))).2) := by rw [ordO, if_neg h, hn]
theorem ordO_len (cs : List Nat) : ∀ f L, (ordO cs f L).1.length ≤ f
  | 0, _ => by simp [ordO]
  | f + 1, L => by
    unfold ordO
    split
    · simp
    · split
      · simp
      · have := ordO_len cs f (dfN L (2 ^ (‹Int›).toNat))
        simp; omega
theorem dfN_less : ∀ s : Nat, s < 64 → ∀ i : Nat, i < 6 → (i : Int) ∈ bl s → dfN s (2 ^ i) < s ∧ (bl (dfN s (2 ^ i))).length + 1 = (bl s).length := by decide +kernel
def txS (xs : List TStep) : Nat := xs.foldl (fun s x => s ||| 2 ^ x.1.toNat) 0
theorem txS_take {xs : List TStep} {k : Nat} {x : TStep} (h : xs[k]? = some x) : txS (xs.take (k + 1)) = txS (xs.take k) ||| 2 ^ x.1.toNat := by
  obtain ⟨hk, rfl⟩ := List.getElem?_eq_some_iff.1 h
  unfold txS
  rw [List.take_succ_eq_append_getElem hk, List.foldl_append]; rfl
theorem txS_lt {xs : List TStep} (h : ∀ y ∈ xs, y.1 < 6) : txS xs < 64 := by
  have : ∀ (l : List TStep) (s : Nat), (∀ y ∈ l, y.1 < 6) → s < 64 → l.foldl (fun s x => s ||| 2 ^ x.1.toNat) s < 64 := by
    intro l
    induction l with
    | nil => intro s _ hs; exact hs
    | cons t l ih => intro s hl hs; exact ih _ (fun y hy => hl y (List.mem_cons_of_mem _ hy)) (or_lt64 hs (pow_lt64 (hl t (List.mem_cons_self ..))))
  exact this xs 0 h (by omega)
def soV (xs : List TStep) : Bool := gpB xs && (ordO (cfL xs) 6 (txS xs)).2
def soL (xs : List TStep) : List Int := if soV xs then (ordO (cfL xs) 6 (txS xs)).1 else []
theorem soL_len (xs : List TStep) : (soL xs).length ≤ 6 := by
  unfold soL
  split
  · exact ordO_len _ _ _
  · simp
def SoRet (e : Ending) (w' : World) (lo : Nat) (v ok : Bool) (zs : List Int) : Prop := ∃ r m d, e = .returned (.tuple #[.slice r m d, .bool v, .bool ok]) ∧ zs.length = m ∧ w'.ownsRow lo 3 1 (.slice r m d) m (zs.map (.int .i64))
def OdRet (e : Ending) (w' : World) (lo : Nat) (v : Bool) (zs : List Int) : Prop := ∃ r m d, e = .returned (.tuple #[.slice r m d, .bool v]) ∧ (if v then zs else []).length = m ∧ w'.ownsRow lo 3 1 (.slice r m d) m ((if v then zs else []).map (.int .i64))

end Go.Proofs.YtociphdhkjoofaaDoor
