/- Several texts of one proof, in build order: CovP, KeyP, StepV, StepW, SubI, KeyQ, KeyR. -/
import Derived.Test.YtpnaoahlfhbbmaaDoorM6
import Derived.Test.YtpnaoahlfhbbmaaDoorM4

/- Plain: covers over sets of columns. -/
namespace Go.Proofs.YtpnaoahlfhbbmaaDoor
open Go.RowKit

def addT (M : List (Nat × Nat)) (p : Nat × Nat) : List (Nat × Nat) := if p ∈ M then M else M ++ [p]
def partT (f : Nat) (M : List (Nat × Nat)) (ks : List Int) : List (Nat × Nat) := ks.foldl (fun M k => addT M (f, 2 ^ k.toNat)) M
def partD (M : List (Nat × Nat)) (d : Dep) : List (Nat × Nat) := partT (mk d.1) M d.2
def partA (l : List Dep) : List (Nat × Nat) := l.foldl partD []
/-- A set without a column. -/
def wo (f : Nat) (c : Int) : Nat := f &&& (18446744073709551615 - 2 ^ c.toNat)
def tatT (M : List (Nat × Nat)) (i : Nat) : Nat × Nat := M.getD i (0, 0)
noncomputable def lessC (i : Nat) (M : List (Nat × Nat)) (c : Int) : List (Nat × Nat) := if sb (tatT M i).2 (clo M (wo (tatT M i).1 c)) then M.set i (wo (tatT M i).1 c, (tatT M i).2) else M
noncomputable def lessL (i : Nat) (M : List (Nat × Nat)) (cs : List Int) : List (Nat × Nat) := cs.foldl (lessC i) M
noncomputable def lessI (M : List (Nat × Nat)) (i : Nat) : List (Nat × Nat) := lessL i M (bl (tatT M i).1)
noncomputable def lessA (M : List (Nat × Nat)) (k : Nat) : List (Nat × Nat) := (List.range k).foldl lessI M
noncomputable def dropG : Nat → Nat → List (Nat × Nat) → List (Nat × Nat)
  | 0, _, M => M
  | f + 1, i, M => if sb (tatT M i).2 (clo (M.eraseIdx i) (tatT M i).1) then dropG f i (M.eraseIdx i) else dropG f (i + 1) M
noncomputable def dropA (M : List (Nat × Nat)) : List (Nat × Nat) := dropG M.length 0 M
noncomputable def coverM (l : List Dep) : List (Nat × Nat) := dropA (lessA (partA l) (partA l).length)
noncomputable def covB (l : List Dep) (C : Int) : Bool := goodDeps l C && decide ((coverM l).length ≤ 10)
def und (p : Nat × Nat) : Dep := (bl p.1, bl p.2)
noncomputable def covL (l : List Dep) (C : Int) : List Dep := if covB l C then (coverM l).map und else []

/-- All sets within the first q columns. -/
def Lim (q : Nat) (M : List (Nat × Nat)) : Prop := ∀ p ∈ M, p.1 < 2 ^ q ∧ p.2 < 2 ^ q
theorem pow64 {q : Nat} (h : q ≤ 6) : 2 ^ q ≤ 64 := by have : 2 ^ q ≤ 2 ^ 6 := Nat.pow_le_pow_right (by omega) h; omega
theorem Lim.sets {q : Nat} {M : List (Nat × Nat)} (h : Lim q M) (hq : q ≤ 6) : Sets M := fun p hp => by have := h p hp; have := pow64 hq; omega
theorem addT_len (M : List (Nat × Nat)) (p : Nat × Nat) : (addT M p).length ≤ M.length + 1 := by unfold addT; split <;> simp
theorem Lim.add {q : Nat} {M : List (Nat × Nat)} {p : Nat × Nat} (h : Lim q M) (hp : p.1 < 2 ^ q ∧ p.2 < 2 ^ q) : Lim q (addT M p) := by
  unfold addT
  split
  · exact h
  · intro x hx
    simp only [List.mem_append, List.mem_singleton] at hx
    rcases hx with hx | rfl
    · exact h x hx
    · exact hp
theorem partT_take {f : Nat} {M : List (Nat × Nat)} {ks : List Int} {j : Nat} (h : j < ks.length) : partT f M (ks.take (j + 1)) = addT (partT f M (ks.take j)) (f, 2 ^ (ks.getD j 0).toNat) := by
  rw [take_succ_getD ks j h]; unfold partT; rw [List.foldl_append]; rfl
theorem partA_take {l : List Dep} {i : Nat} {d : Dep} (h : l[i]? = some d) : partA (l.take (i + 1)) = partD (partA (l.take i)) d := by
  obtain ⟨hi, rfl⟩ := List.getElem?_eq_some_iff.1 h
  rw [List.take_succ_eq_append_getElem hi]; unfold partA; rw [List.foldl_append]; rfl
theorem partT_len (f : Nat) (M : List (Nat × Nat)) (ks : List Int) : (partT f M ks).length ≤ M.length + ks.length := by
  unfold partT
  induction ks generalizing M with
  | nil => simp
  | cons k ks ih => rw [List.foldl_cons]; have := ih (addT M (f, 2 ^ k.toNat)); have := addT_len M (f, 2 ^ k.toNat); simp; omega
theorem partT_lim {q f : Nat} {M : List (Nat × Nat)} {ks : List Int} (h : Lim q M) (hf : f < 2 ^ q) (hk : ∀ k ∈ ks, 0 ≤ k ∧ k < (q : Int)) : Lim q (partT f M ks) := by
  unfold partT
  induction ks generalizing M with
  | nil => exact h
  | cons k ks ih =>
    rw [List.foldl_cons]
    have hk0 := hk k (by simp)
    exact ih (h.add ⟨hf, Nat.pow_lt_pow_right (by omega) (by omega)⟩) (fun x hx => hk x (by simp [hx]))
theorem mk_lim {q : Nat} {l : List Int} (h : ris (q : Int) l = true) : mk l < 2 ^ q := by
  refine Nat.lt_pow_two_of_testBit (n := q) _ fun i hi => ?_
  cases hb : (mk l).testBit i with
  | false => rfl
  | true =>
    have := ((risB_mem h).2 _ ((mk_bit l (ris_nonneg h) i).1 hb)).2
    omega
theorem ris_range {q : Nat} {l : List Int} (h : ris (q : Int) l = true) : ∀ x ∈ l, 0 ≤ x ∧ x < (q : Int) := fun x hx => ⟨ris_nonneg h x hx, ((risB_mem h).2 x hx).2⟩
theorem partA_ok {q : Nat} (hq : q ≤ 6) : ∀ (l : List Dep), (∀ d ∈ l, ris (q : Int) d.1 = true ∧ ris (q : Int) d.2 = true) → ∀ i, i ≤ l.length → Lim q (partA (l.take i)) ∧ (partA (l.take i)).length ≤ i * 6 := by
  intro l hl i
  induction i with
  | zero => intro _; exact ⟨fun p hp => by simp [partA] at hp, by simp [partA]⟩
  | succ i ih =>
    intro hi
    obtain ⟨h1, h2⟩ := ih (by omega)
    have hd := hl l[i] (List.getElem_mem _)
    rw [partA_take (List.getElem?_eq_getElem (by omega : i < l.length))]
    refine ⟨partT_lim h1 (mk_lim hd.1) (ris_range hd.2), ?_⟩
    have h3 := partT_len (mk (l[i]).1) (partA (l.take i)) (l[i]).2
    have h4 := (Told.of (by omega) hd.2).len
    unfold partD
    omega
theorem tatT_of {M : List (Nat × Nat)} {i : Nat} {p : Nat × Nat} (h : M[i]? = some p) : tatT M i = p := by simp [tatT, List.getD, h]
theorem wo_lt {f : Nat} (c : Int) {b : Nat} (h : f < b) : wo f c < b := Nat.lt_of_le_of_lt Nat.and_le_left h
theorem lessC_len (i : Nat) (M : List (Nat × Nat)) (c : Int) : (lessC i M c).length = M.length := by unfold lessC; split <;> simp
theorem lessC_lim {q i : Nat} {M : List (Nat × Nat)} (c : Int) (h : Lim q M) (hi : i < M.length) : Lim q (lessC i M c) := by
  unfold lessC
  split
  · have hp := h (tatT M i) (by rw [tatT_of (List.getElem?_eq_getElem hi)]; exact List.getElem_mem _)
    intro x hx
    rcases List.mem_or_eq_of_mem_set hx with hx | rfl
    · exact h x hx
    · exact ⟨wo_lt c hp.1, hp.2⟩
  · exact h
theorem lessL_take {i : Nat} {M : List (Nat × Nat)} {cs : List Int} {j : Nat} (h : j < cs.length) : lessL i M (cs.take (j + 1)) = lessC i (lessL i M (cs.take j)) (cs.getD j 0) := by
  rw [take_succ_getD cs j h]; unfold lessL; rw [List.foldl_append]; rfl
theorem lessL_len (i : Nat) (M : List (Nat × Nat)) (cs : List Int) : (lessL i M cs).length = M.length := by
  unfold lessL
  induction cs generalizing M with
  | nil => rfl
  | cons c cs ih => rw [List.foldl_cons, ih, lessC_len]
theorem lessL_lim {q i : Nat} {M : List (Nat × Nat)} (cs : List Int) (h : Lim q M) (hi : i < M.length) : Lim q (lessL i M cs) := by
  unfold lessL
  induction cs generalizing M with
  | nil => exact h
  | cons c cs ih => rw [List.foldl_cons]; exact ih (lessC_lim c h hi) (by rw [lessC_len]; exact hi)
theorem lessA_succ (M : List (Nat × Nat)) (k : Nat) : lessA M (k + 1) = lessI (lessA M k) k := by unfold lessA; rw [List.range_succ, List.foldl_append]; rfl
theorem lessA_ok {q : Nat} {M : List (Nat × Nat)} (h : Lim q M) : ∀ k, k ≤ M.length → Lim q (lessA M k) ∧ (lessA M k).length = M.length := by
  intro k
  induction k with
  | zero => intro _; exact ⟨h, rfl⟩
  | succ k ih =>
    intro hk
    obtain ⟨h1, h2⟩ := ih (by omega)
    rw [lessA_succ]
    unfold lessI
    exact ⟨lessL_lim _ h1 (by omega), by rw [lessL_len, h2]⟩
theorem dropG_end {f i : Nat} {M : List (Nat × Nat)} (h : M.length - i = f) (hi : ¬ i < M.length) : dropG f i M = M := by
  obtain rfl : f = 0 := by omega
  rfl
theorem dropG_yes {i : Nat} {M : List (Nat × Nat)} (hi : i < M.length) (h : sb (tatT M i).2 (clo (M.eraseIdx i) (tatT M i).1) = true) : dropG (M.length - i) i M = dropG ((M.eraseIdx i).length - i) i (M.eraseIdx i) := by
  obtain ⟨f, hf⟩ : ∃ f, M.length - i = f + 1 := ⟨M.length - i - 1, by omega⟩
  rw [hf, dropG, if_pos h, show (M.eraseIdx i).length - i = f by rw [List.length_eraseIdx, if_pos hi]; omega]
theorem dropG_no {i : Nat} {M : List (Nat × Nat)} (hi : i < M.length) (h : sb (tatT M i).2 (clo (M.eraseIdx i) (tatT M i).1) = false) : dropG (M.length - i) i M = dropG (M.length - (i + 1)) (i + 1) M := by
  obtain ⟨f, hf⟩ : ∃ f, M.length - i = f + 1 := ⟨M.length - i - 1, by omega⟩
  rw [hf, dropG, if_neg (by rw [h]; simp), show M.length - (i + 1) = f by omega]
theorem Lim.erase {q : Nat} {M : List (Nat × Nat)} (h : Lim q M) (i : Nat) : Lim q (M.eraseIdx i) := fun p hp => h p (List.mem_of_mem_eraseIdx hp)
theorem dropG_lim {q : Nat} : ∀ (f i : Nat) (M : List (Nat × Nat)), Lim q M → Lim q (dropG f i M)
  | 0, _, _, h => h
  | f + 1, i, M, h => by
    unfold dropG
    split
    · exact dropG_lim f i _ (h.erase i)
    · exact dropG_lim f (i + 1) _ h
theorem dropG_len : ∀ (f i : Nat) (M : List (Nat × Nat)), (dropG f i M).length ≤ M.length
  | 0, _, _ => Nat.le_refl _
  | f + 1, i, M => by
    unfold dropG
    split
    · have h1 := dropG_len f i (M.eraseIdx i)
      have h2 : (M.eraseIdx i).length ≤ M.length := by rw [List.length_eraseIdx]; split <;> omega
      omega
    · exact dropG_len f (i + 1) M
theorem ris_bl_all : ∀ q : Nat, q < 7 → ∀ s : Nat, s < 64 → s < 2 ^ q → ris (q : Int) (bl s) = true := by decide +kernel

end Go.Proofs.YtpnaoahlfhbbmaaDoor

/- Plain: all rising lists of so many of so many, in their order. -/
namespace Go.Proofs.YtpnaoahlfhbbmaaDoor
open Go.RowKit

def subsL (c : Nat) : Nat → Nat → List (List Int)
  | 0, _ => [[]]
  | m + 1, f => (List.range (c - f)).flatMap fun i => (subsL c m (f + i + 1)).map (((f + i : Nat) : Int) :: ·)
def subsT (c m f t : Nat) : List (List Int) := (List.range t).flatMap fun i => (subsL c m (f + i + 1)).map (((f + i : Nat) : Int) :: ·)
theorem subsT_zero (c m f : Nat) : subsT c m f 0 = [] := rfl
theorem subsT_succ (c m f t : Nat) : subsT c m f (t + 1) = subsT c m f t ++ (subsL c m (f + t + 1)).map (((f + t : Nat) : Int) :: ·) := by
  unfold subsT; rw [List.range_succ, List.flatMap_append]; simp
theorem subsT_all (c m f : Nat) : subsT c m f (c - f) = subsL c (m + 1) f := rfl
theorem subsL_ok_all : ∀ c : Nat, c < 7 → ∀ m : Nat, m < 7 → ∀ f : Nat, f < 9 → ((subsL c m f).length ≤ 64 ∧ (subsL c m f).all (fun l => decide (l.length ≤ 6)) = true) := by decide +kernel
theorem subsT_ok_all : ∀ c : Nat, c < 7 → ∀ m : Nat, m < 6 → ∀ f : Nat, f < 8 → ∀ t : Nat, t < 7 → (subsT c m f t).length ≤ 64 := by decide +kernel
theorem subsL_row {c m f j : Nat} {zs : List Int} (hc : c ≤ 6) (hm : m ≤ 6) (hf : f ≤ 8) (h : (subsL c m f)[j]? = some zs) : zs.length ≤ 6 := by
  have h9 := (subsL_ok_all c (by omega) m (by omega) f (by omega)).2
  rw [List.all_eq_true] at h9
  simpa using h9 zs (List.mem_of_getElem? h)

end Go.Proofs.YtpnaoahlfhbbmaaDoor

/- An append of whatever cells, at a step of a region that draws. -/
namespace Go.Proofs.YtpnaoahlfhbbmaaDoor
open Go.RowKit

theorem step_append_vals {P : Program} {w : World} {ops : Array Oper} {o : Oper} {a : Act} {K : Act → World → Prop} {Q : Exit → Act → World → Prop} {E : Prop} (hgd : o.guard = none) (s x : Operand) (t : TypeId)
    (ho : o.op = .call { callee := .builtin .append, args := #[s, x], argTypes := #[t, t] })
    (base : Nat) (e : TypeId) (i : TypeInfo) (z : Value) (size bytes : Nat) (ht : P.underlying t = some (.slice e)) (hi : P.info? e = some i) (hz : i.zero = some z)
    (hsize : i.size = size) (hby : i.bytes = bytes) (hzs : z.cells.size = size) (hsz : 0 < size)
    (v : Value) (n : Nat) (xs : List Value) (hs : a.eval s = v) (hown : w.ownsRow base e size v n xs)
    (ao : Option Addr) (m c : Nat) (news : List Value) (hx : a.eval x = .slice ao m c) (hl : news.length = m * size) (hat : ∀ ad, ao = some ad → ∀ (j : Nat) (u : Value), news[j]? = some u → w.cell? (ad.add j) = some u) (h1 : ∀ u ∈ news, u.oneCell' = true) (hnil : ao = none → c = 0 ∧ m = 0)
    (h63 : n + m ≤ maxLen) (hbytes : (n + m) * bytes ≤ 140737488355328) (hbase : base ≤ w.heap.size)
    (h : ∀ r cap w', w'.ownsRow base e size (.slice r (n + m) cap) (n + m) (xs ++ news) → w.grownBy w' v.ownBlock → ((Value.slice r (n + m) cap).ownBlock = v.ownBlock ∨ (Value.slice r (n + m) cap).ownBlock = some w.heap.size) → K (a.put o.dst (.slice r (n + m) cap)) w') :
    if Region.wanted o (yielded ops a.tmps) = true then Oper.wp P o a w K Q else E := by
  have hw : Region.wanted o (yielded ops a.tmps) = true := by simp [Region.wanted, hgd]
  rw [if_pos hw]
  cases ao with
  | none =>
    obtain ⟨hc, hm⟩ := hnil rfl
    subst hc hm
    obtain rfl : news = [] := List.eq_nil_of_length_eq_zero (by simpa using hl)
    obtain ⟨r, cap, rfl⟩ := owns_slice hown
    have hrun := run_append_owned_none (P := P) (w := w) base t o.type e i size ht hi (.slice r n cap) n xs hown
    have := h r cap w (by simpa using hown) (World.grownBy.refl _ _) (.inl rfl)
    unfold Oper.wp
    simp [execOp, ho, resolve, invoke, builtin, hs, hx, hrun, Result.andThen]
    rw [Nat.add_zero] at this
    exact this
  | some ad =>
    obtain ⟨v', w', hr, h2, h3, _, h5⟩ := run_append_own_at (P := P) w base t o.type e i z size bytes ht hi hz hsize hby hzs hsz v n xs hown ad m c news hl (fun j u hj => hat ad rfl j u hj) h1 h63 hbytes hbase
    obtain ⟨r, cap, rfl⟩ := owns_slice h2
    unfold Oper.wp execOp
    simp only [ho, resolve, invoke, builtin, Sem.run_bind, Sem.run_pure, Result.andThen_ok, List.map_toArray, List.map_cons, List.map_nil, hs, hx, hr]
    exact h r cap w' h2 h3 h5

end Go.Proofs.YtpnaoahlfhbbmaaDoor

/- An append of whatever cells, in a plain region. -/
namespace Go.Proofs.YtpnaoahlfhbbmaaDoor
open Go.RowKit

theorem wpList_app_vals {P : Program} {w : World} {ops : Array Oper} {rest : List Oper} {o : Oper} {a : Act} {Q : Exit → Act → World → Prop} (hgd : o.guard = none) (s x : Operand) (t : TypeId)
    (ho : o.op = .call { callee := .builtin .append, args := #[s, x], argTypes := #[t, t] })
    (base : Nat) (e : TypeId) (i : TypeInfo) (z : Value) (size bytes : Nat) (ht : P.underlying t = some (.slice e)) (hi : P.info? e = some i) (hz : i.zero = some z)
    (hsize : i.size = size) (hby : i.bytes = bytes) (hzs : z.cells.size = size) (hsz : 0 < size)
    (v : Value) (n : Nat) (xs : List Value) (hs : a.eval s = v) (hown : w.ownsRow base e size v n xs)
    (ao : Option Addr) (m c : Nat) (news : List Value) (hx : a.eval x = .slice ao m c) (hl : news.length = m * size) (hat : ∀ ad, ao = some ad → ∀ (j : Nat) (u : Value), news[j]? = some u → w.cell? (ad.add j) = some u) (h1 : ∀ u ∈ news, u.oneCell' = true) (hnil : ao = none → c = 0 ∧ m = 0)
    (h63 : n + m ≤ maxLen) (hbytes : (n + m) * bytes ≤ 140737488355328) (hbase : base ≤ w.heap.size)
    (h : ∀ r cap w', w'.ownsRow base e size (.slice r (n + m) cap) (n + m) (xs ++ news) → w.grownBy w' v.ownBlock → ((Value.slice r (n + m) cap).ownBlock = v.ownBlock ∨ (Value.slice r (n + m) cap).ownBlock = some w.heap.size) → wpList P ops Q rest (a.put o.dst (.slice r (n + m) cap)) w') :
    wpList P ops Q (o :: rest) a w :=
  wpList_plain hgd fun K hK => by
    have hw : Region.wanted o (yielded ops a.tmps) = true := by simp [Region.wanted, hgd]
    have h9 := step_append_vals (P := P) (w := w) (ops := ops) (o := o) (a := a) (K := K) (Q := Q) (E := True) hgd s x t ho base e i z size bytes ht hi hz hsize hby hzs hsz v n xs hs hown ao m c news hx hl hat h1 hnil h63 hbytes hbase (fun r cap w' k1 k2 k3 => hK _ _ (h r cap w' k1 k2 k3))
    rw [if_pos hw] at h9
    exact h9

end Go.Proofs.YtpnaoahlfhbbmaaDoor

/- Contract of the model's l7Subsets. -/
namespace Go.Proofs.YtpnaoahlfhbbmaaDoor
open Go.RowKit

theorem atSl_pairK {w : World} {a : Option Addr} {zss : List (List Int)} (h : AtSl RInts w a zss) {k : Nat} {zs : List Int} (hk : zss[k]? = some zs) :
    ∃ b off a' n' c', a = some ⟨b, off, none⟩ ∧ w.cell? ⟨b, off + k, none⟩ = some (.slice a' n' c') ∧ zs.length = n' ∧ n' ≤ 9223372036854775807 ∧ At w a' zs ∧ (a' = none → c' = 0) := by
  have hp : 0 < zss.length := Nat.lt_of_le_of_lt (Nat.zero_le _) (List.getElem?_eq_some_iff.1 hk).1
  obtain ⟨b, off, rfl, hc⟩ := h.each hp
  obtain ⟨cs, h1, a', n', c', rfl, e1, e2, e3, e4⟩ := hc k zs hk
  have g := h1 0 _ rfl
  exact ⟨b, off, a', n', c', rfl, by simpa [RInts, Rep.slice] using g, e1, e2, atSl_int.1 e3, e4⟩
theorem pairs_at {w : World} {F : Nat → Prop} {a : Option Addr} {n c : Nat} {xs : List (List Int)} (h : RPairs.Own w F [.slice a n c] xs) : xs.length = n ∧ AtSl RInts w a xs := by
  obtain ⟨a', n', c', e, h1, _, h3, _⟩ := RPairs.toAt h
  simp only [List.cons.injEq, Value.slice.injEq, and_true] at e
  obtain ⟨rfl, rfl, rfl⟩ := e
  exact ⟨h1, h3⟩
theorem owns_oneK (w : World) (e : TypeId) (v : Value) : (w.alloc (.cells #[v] e)).ownsRow w.heap.size e 1 (.slice (some ⟨w.heap.size, 0, none⟩) 1 1) 1 [v] :=
  ⟨by simp, .inr ⟨w.heap.size, 1, #[v], rfl, Nat.le_refl _, heap_alloc_new w _, by omega, by unfold maxLen; omega, by simp, by simp⟩⟩

set_option maxRecDepth 100000 in
set_option maxHeartbeats 8000000 in
theorem l7Subsets_any (c : Nat) (hc : c ≤ 6) : ∀ (m : Nat), m ≤ 6 → ∀ (f : Nat), f ≤ 7 → ∀ (w : World),
    Calls Tryd.prog 33 #[.int .i64 (c : Nat), .int .i64 (m : Nat), .int .i64 (f : Nat)] w fun e w' => ∃ r n d, e = .returned (.slice r n d) ∧ RPairs.Own w' (From w.heap.size w'.heap.size) [.slice r n d] (subsL c m f) ∧ Below w.heap.size w w' := by
  intro m
  induction m with
  | zero =>
    intro _ f hf w
    have HO : Hid (RPairs.Own (w.alloc (.cells #[.slice none 0 0] 23)) (From w.heap.size (w.alloc (.cells #[.slice none 0 0] 23)).heap.size) [.slice (some ⟨w.heap.size, 0, none⟩) 1 1] (subsL c 0 f)) := by
      have ho := owns_oneK w 23 (.slice none 0 0)
      refine ⟨_, _, _, [.slice none 0 0], fun _ _ => False, rfl, rfl, by omega, owns_mono ho (Nat.zero_le _), fun b hb => ho.lt b hb, fun i x hi hx => ?_, fun i b _ h => h.elim, fun i j b _ _ _ h => h.elim⟩
      obtain rfl : i = 0 := by omega
      obtain rfl : [] = x := by simpa [subsL] using hx
      exact ⟨none, 0, 0, [], fun _ _ => False, rfl, Laid.none _ _ _ _⟩
    go_enter Tryd.func33, Tryd.ntmps33
    go_wp2
    go_ret
    exact ⟨_, _, _, rfl, HO.out, (Below.refl _ _).alloc (Nat.le_refl _) _⟩
  | succ m ih =>
    intro hm f hf w
    obtain ⟨j0, hj, hy0, hy1, hy2⟩ := info_parts Tryd.infoInt
    obtain ⟨k0, hk, hx0, hx1, hx2⟩ := info_parts Tryd.infoInts
    have IH := Hid.mk ih
    obtain ⟨mm, hmm⟩ : ∃ x : Int, x = ((m + 1 : Nat) : Int) := ⟨_, rfl⟩
    have hb0 : (mm == 0) = false := beq_eq_false_iff_ne.2 (by omega)
    have hs1 : IntKind.i64.wrap (mm - 1) = (m : Int) := by rw [IntWalk.i64_in _ (by omega)]; omega
    rw [← hmm]
    clear hmm ih
    go_enter Tryd.func33, Tryd.ntmps33
    go_wp2_with fail
    go_loopw [7, 8] (fun p i wx => ∃ (t n : Nat) (r : Option Addr) (d : Nat) (cells : List Value) (G : Nat → Nat → Prop), t ≤ c - f ∧ i = .int .i64 (f + t : Nat) ∧ p = .slice r n d ∧ (subsT c m f t).length = n ∧ Laid RInts wx (From w.heap.size wx.heap.size) 23 r n d (subsT c m f t) cells G n ∧ Below w.heap.size w wx) (fun _ i _ => c - (intOf i).toNat)
    case atStart => exact ⟨0, 0, none, 0, [], _, Nat.zero_le _, rfl, rfl, rfl, Laid.none _ _ _ _, Below.refl _ _⟩
    case round =>
      obtain ⟨t, n, r, d, cells, G, ht, rfl, rfl, hn, hlaid, hbw⟩ := hrel
      obtain ⟨K, hK⟩ : ∃ K, K = f + t := ⟨_, rfl⟩
      have hall := subsT_all c m f
      have hsucc := subsT_succ c m f t
      have hok := subsT_ok_all c (by omega) m (by omega) f (by omega) t (by omega)
      rw [← hK] at hsucc ⊢
      have HALL := Hid.mk hall
      have HSUCC := Hid.mk hsucc
      have hn64 : n ≤ 64 := by omega
      have HN := Hid.mk hn
      have HLA := Hid.mk hlaid
      have HB := Hid.mk hbw
      have HK := Hid.mk hK
      have hfK : f ≤ K := by omega
      clear hall hsucc hok hn hlaid hbw
      by_cases hlt : K < c
      · have hKi : (K : Int) < (c : Int) := by omega
        have hw1 : IntKind.i64.wrap ((K : Int) + 1) = ((K + 1 : Nat) : Int) := by rw [IntWalk.i64_in _ (by omega)]; omega
        have KC := Hid.mk (IH.out (by omega) (K + 1) (by omega) wr)
        have HYL := Hid.mk (subsL_ok_all c (by omega) m (by omega) (K + 1) (by omega)).1
        have HYR : Hid (∀ (j : Nat) (zs : List Int), (subsL c m (K + 1))[j]? = some zs → zs.length ≤ 6) := fun j zs h => subsL_row hc (by omega) (by omega) h
        obtain ⟨X, hX⟩ : ∃ X, subsT c m f t = X := ⟨_, rfl⟩
        obtain ⟨Y, hY⟩ : ∃ Y, subsL c m (K + 1) = Y := ⟨_, rfl⟩
        rw [hX] at HLA HN HSUCC
        rw [hY] at KC HYL HYR HSUCC
        clear hK hX hY
        go_wp2_with fail
        refine KC.out.mono ?_
        rintro e w1 ⟨r1, n1, d1, rfl, hown1, hb1⟩
        obtain ⟨q0, hq0⟩ : ∃ q, q = wr.heap.size := ⟨_, rfl⟩
        obtain ⟨q1, hq1⟩ : ∃ q, q = w1.heap.size := ⟨_, rfl⟩
        have HLA1 : Hid (Laid RInts w1 (fun b => From w.heap.size q0 b ∨ From q1 w1.heap.size b) 23 r n d X cells G n) := (HLA.out.below hb1).mono (fun b h => .inl (by rw [hq0]; exact h))
        have HB1 := Hid.mk (HB.out.trans (hb1.mono HB.out.size))
        have hl1 := (pairs_at hown1).1
        have hn1 : n1 ≤ 64 := by rw [← hl1]; exact HYL.out
        have HL1 := Hid.mk hl1
        have zq : w.heap.size ≤ q0 := by rw [hq0]; exact HB.out.size
        have zq1 : q0 ≤ q1 := by rw [hq0, hq1]; exact hb1.size
        have zq2 : q1 ≤ w1.heap.size := by omega
        rw [← hq0, ← hq1] at hown1
        have HO1 := Hid.mk hown1
        have hX64 : X.length ≤ 64 := by have := HN.out; omega
        clear hown1 hb1 hl1 hq0 hq1 HLA HB KC HYL
        go_wp2_with fail
        go_loopw [7, 27] (fun p i wx => ∃ (j n : Nat) (r : Option Addr) (d : Nat) (cells : List Value) (G : Nat → Nat → Prop), j ≤ n1 ∧ i = .int .i64 j ∧ p = .slice r n d ∧ n ≤ 128 ∧ n = X.length + j ∧ Laid RInts wx (fun b => From w.heap.size q0 b ∨ From q1 wx.heap.size b) 23 r n d (X ++ (Y.take j).map ((K : Int) :: ·)) cells G n ∧ RPairs.Own wx (From q0 q1) [.slice r1 n1 d1] Y ∧ q1 ≤ wx.heap.size ∧ Below w.heap.size w wx) (fun _ i _ => n1 - (intOf i).toNat)
        case atStart => exact ⟨0, n, r, d, cells, G, Nat.zero_le _, rfl, rfl, by omega, HN.out.symm, by simpa using HLA1.out, HO1.out, zq2, HB1.out⟩
        case round =>
          clear HLA1 HO1 HB1 zq2 HN hn64
          obtain ⟨j, n, r, d, cells, G, hj1, rfl, rfl, hn128, hnn, hlaid, hown, zr, hbw⟩ := hrel
          by_cases hjlt : j < n1
          · obtain ⟨zs, hzs⟩ : ∃ zs, Y[j]? = some zs := ⟨_, List.getElem?_eq_getElem (by have := HL1.out; omega)⟩
            obtain ⟨b, off, a', m', c', rfl, hcx, hm', hm1, hax, hnx⟩ := atSl_pairK (pairs_at hown).2 hzs
            have hm6 : m' ≤ 6 := by rw [← hm']; exact HYR.out j zs hzs
            have HTK : Hid ((Y.take (j + 1)).map ((K : Int) :: ·) = (Y.take j).map ((K : Int) :: ·) ++ [(K : Int) :: zs]) := by
              show _ = _
              obtain ⟨hh, rfl⟩ := List.getElem?_eq_some_iff.1 hzs
              rw [List.take_succ_eq_append_getElem hh, List.map_append]; rfl
            have hji : (j : Int) < (n1 : Int) := by omega
            have HM := Hid.mk hm'
            have HNX := Hid.mk hnx
            have HAX := Hid.mk (At.alloc hax (.cells #[.int .i64 (K : Nat)] 3))
            have OE := Hid.mk (owns_oneK wr 3 (.int .i64 (K : Nat)))
            have HLA := Hid.mk hlaid
            have HO := Hid.mk hown
            have HB := Hid.mk hbw
            have HNN := Hid.mk hnn
            clear hax hm' hnx hlaid hown hbw hzs hnn
            go_wp2_with (at_builtin; refine wpList_append_all rfl (.tmp 33) (.tmp 34) 23 rfl wr.heap.size 3 j0 (.int .i64 0) 8 Tryd.underlying23 hj hy0 hy1 hy2 rfl (.slice (some ⟨wr.heap.size, 0, none⟩) 1 1) 1 [.int .i64 (K : Nat)] rfl OE.out a' m' c' zs rfl HM.out HAX.out HNX.out (by unfold maxLen; omega) (by omega) (by simp) ?_)
            intro r3 d3 w4 ho3 hg3
            have hb2 : Below wr.heap.size wr w4 := ((Below.refl _ _).alloc (Nat.le_refl _) _).grown hg3 (by simp) (fun j hj => by simp [Value.ownBlock] at hj; omega)
            have z4 := hb2.size
            have HOI : Hid (RInts.Own w4 (From wr.heap.size w4.heap.size) [.slice r3 (1 + m') d3] ((K : Int) :: zs)) := RInts.of_owns (by have := HM.out; simp; omega) (by omega) (by simpa using ho3)
            have hF : ∀ b, (Value.slice r n d).ownBlock = some b → w.heap.size ≤ b := fun b hb => by
              rcases HLA.out.outerF b hb with h | h
              · exact h.1
              · have := h.1; omega
            have HW : Hid (wr.ownsRow w.heap.size 23 1 (.slice r n d) n cells) := owns_base HLA.out.outer hF
            have HW4 := Hid.mk (owns_below HW.out hb2)
            have HB2 := Hid.mk hb2
            have zw := HB.out.size
            clear OE hg3 ho3 hb2 HAX hF
            go_wp2_with (at_builtin; refine wpList_app_vals rfl (.tmp 31) (.tmp 36) 33 rfl w.heap.size 23 k0 (.slice none 0 0) 1 24 Tryd.underlying33 hk hx0 hx1 hx2 rfl (by decide) (.slice r n d) n cells rfl (HW4.out.alloc _) (some ⟨w4.heap.size, 0, none⟩) 1 1 [.slice r3 (1 + m') d3] rfl rfl (fun ad he => by cases he; simpa using news_at w4 #[.slice r3 (1 + m') d3] 23) (by simp; rfl) (fun h => by cases h) (by unfold maxLen; omega) (by omega) (by simp; omega) ?_)
            intro r4 d4 w5 ho4 hg4 ht4
            have z5 : w4.heap.size < w5.heap.size := by have h9 := hg4.size; simp at h9; omega
            have BG : ∀ b, b < w4.heap.size → (Value.slice r n d).ownBlock ≠ some b → w5.heap[b]? = w4.heap[b]? := fun b hb hn => (hg4.block b (by simp; omega) (fun e => hn e.symm)).trans (Below.heap_alloc w4 _ b hb)
            have hfar : ∀ b, q0 ≤ b → b < q1 → (Value.slice r n d).ownBlock ≠ some b := fun b h1 h2 e => by
              rcases HLA.out.outerF b e with h | h
              · have := h.2; omega
              · have := h.1; omega
            have hpush := HLA.out.push (F' := fun b => From w.heap.size q0 b ∨ From q1 w5.heap.size b) (fun b h => by rcases h with h | h; (have := h.2; omega); exact h.2) HB2.out HOI.out (fun b h => h) BG (owns_mono ho4 (Nat.zero_le _)) (by
              rcases ht4 with h9 | h9
              · exact .inl h9
              · refine .inr (fun b e => ?_)
                rw [h9] at e
                simp at e
                omega) (by omega) (fun b h => by rcases h with h | h; exact .inl h; exact .inr ⟨h.1, by have := h.2; omega⟩) (fun b h => .inr ⟨by have := h.1; omega, by have := h.2; omega⟩) (fun b h => by
              rcases ht4 with h9 | h9
              · rw [h9] at h
                rcases HLA.out.outerF b h with h | h
                · exact .inl h
                · exact .inr ⟨h.1, by have := h.2; omega⟩
              · rw [h9] at h
                simp at h
                exact .inr ⟨by omega, by have := (ho4.lt b (by rw [h9]; simp; omega)).2; omega⟩)
            obtain ⟨G', HL'⟩ : ∃ G', Hid (Laid RInts w5 (fun b => From w.heap.size q0 b ∨ From q1 w5.heap.size b) 23 r4 (n + 1) d4 (X ++ (Y.take (j + 1)).map ((K : Int) :: ·)) (cells ++ [.slice r3 (1 + m') d3]) G' (n + 1)) := by
              rw [HTK.out, ← List.append_assoc]
              exact ⟨_, Hid.mk hpush⟩
            have HO' : Hid (RPairs.Own w5 (From q0 q1) [.slice (some ⟨b, off, none⟩) n1 d1] Y) := RPairs.frame HO.out (fun b h1 h2 => (BG b (by have := h1.2; omega) (hfar b h1.1 h1.2)).trans (HB2.out.block b h2))
            have HB' : Hid (Below w.heap.size w w5) := ((HB.out.trans (HB2.out.mono HB.out.size)).alloc (by omega) _).grown hg4 (by simp; omega) (fun j hj => (HW.out.lt j hj).1)
            have HN' : Hid (n + 1 = X.length + (j + 1)) := by show _ = _; have := HNN.out; omega
            clear hpush BG ho4 hg4 ht4 hfar HLA HO HB HB2 HW HW4 HOI
            go_wp2
            go_roundw
            case rel => exact ⟨j + 1, n + 1, r4, d4, _, G', by omega, by go_num, rfl, by have := HN'.out; omega, HN'.out, HL'.out, HO'.out, by omega, HB'.out⟩
            case measure => simp [intOf]; omega
          · obtain rfl : j = n1 := by omega
            rw [List.take_of_length_le (by have := HL1.out; omega)] at hlaid
            have HLE : Hid (subsT c m f (t + 1) = X ++ Y.map ((K : Int) :: ·)) := HSUCC.out
            rw [← HLE.out] at hlaid
            have HLA2 := Hid.mk (hlaid.mono (F' := From w.heap.size wr.heap.size) (fun b h => by rcases h with h | h; exact ⟨h.1, by have := h.2; omega⟩; exact ⟨by have := h.1; omega, h.2⟩))
            have HLL := Hid.mk hlaid.len
            have hji : ¬ (j : Int) < (j : Int) := by omega
            clear hlaid hown hnn
            go_wp2
            go_roundw
            case rel => exact ⟨t + 1, n, r, d, cells, G, by have := HK.out; omega, by have := HK.out; go_num, rfl, HLL.out, HLA2.out, hbw⟩
            case measure => simp [intOf]; omega
      · have hKi : ¬ (K : Int) < (c : Int) := by omega
        have htc : t = c - f := by omega
        have HFIN : Hid (RPairs.Own wr (From w.heap.size wr.heap.size) [.slice r n d] (subsL c (m + 1) f)) := by
          show RPairs.Own _ _ _ _
          rw [← HALL.out, ← htc]
          exact ⟨_, _, _, cells, G, rfl, HLA.out⟩
        clear htc hK
        go_wp2
        go_ret
        exact ⟨r, n, d, rfl, HFIN.out, HB.out⟩

end Go.Proofs.YtpnaoahlfhbbmaaDoor

/- Plain: keys over lists of columns; a row that was made before is taken over. -/
namespace Go.Proofs.YtpnaoahlfhbbmaaDoor
open Go.RowKit

section
variable {α : Type} {A : Rep α} {w w4 : World} {F H F' : Nat → Prop} {e : TypeId} {a a' : Option Addr} {n c c' : Nat} {xs : List α} {cells vs : List Value} {G : Nat → Nat → Prop} {x : α}
/-- Behind 'append(l, x)' with an x that was made before. -/
theorem Laid.pushH (h : Laid A w F e a n c xs cells G n) (hF : ∀ b, F b → b < w.heap.size) (ho : A.Own w H vs x) (hH : ∀ b, H b → b < w.heap.size) (hFH : ∀ b, F b → ¬ H b)
    (hg : ∀ b, b < w.heap.size → (Value.slice a n c).ownBlock ≠ some b → w4.heap[b]? = w.heap[b]?) (hown : w4.ownsRow 0 e A.k (.slice a' (n + 1) c') (n + 1) (cells ++ vs))
    (hat : (Value.slice a' (n + 1) c').ownBlock = (Value.slice a n c).ownBlock ∨ ∀ b, (Value.slice a' (n + 1) c').ownBlock = some b → w.heap.size ≤ b) (hbig : n + 1 ≤ 9223372036854775807)
    (hF1 : ∀ b, F b → F' b) (hF2 : ∀ b, H b → F' b) (hF3 : ∀ b, (Value.slice a' (n + 1) c').ownBlock = some b → F' b) :
    Laid A w4 F' e a' (n + 1) c' (xs ++ [x]) (cells ++ vs) (fun i => if i = n then H else G i) (n + 1) := by
  have hl := A.ownLen ho
  have hcl : cells.length = n * A.k := h.outer.1
  refine ⟨by simp [h.len], hbig, hown, hF3, fun i y hi hy => ?_, fun i b hi hb' => ?_, fun i j b hi hj hij hb' => ?_⟩
  · by_cases ei : i = n
    · subst ei
      simp only [if_true]
      obtain rfl : x = y := by
        rw [List.getElem?_append_right (by rw [h.len]; exact Nat.le_refl _)] at hy
        simpa [h.len] using hy
      have := sub_append_right (cells := cells) hl
      rw [hcl] at this
      rw [this]
      exact A.frame ho (fun b hb' hb => hg b hb (fun e' => hFH b (h.outerF b e') hb'))
    · simp only [if_neg ei]
      have hi' : i < n := by omega
      rw [List.getElem?_append_left (by rw [h.len]; exact hi')] at hy
      rw [sub_append_left (by rw [hcl]; exact at_mul hi')]
      exact A.frame (h.row i y hi' hy) (fun b hb' hb => hg b hb (h.rowF i b hi' hb').2)
  · by_cases ei : i = n
    · subst ei
      simp only [if_true] at hb'
      refine ⟨hF2 b hb', fun e' => ?_⟩
      rcases hat with h2 | h2
      · rw [h2] at e'
        exact hFH b (h.outerF b e') hb'
      · have := h2 b e'
        have := hH b hb'
        omega
    · simp only [if_neg ei] at hb'
      have h1 := h.rowF i b (by omega) hb'
      refine ⟨hF1 b h1.1, fun e' => ?_⟩
      rcases hat with h2 | h2
      · rw [h2] at e'; exact h1.2 e'
      · have := h2 b e'
        have := hF b h1.1
        omega
  · by_cases ei : i = n
    · subst ei
      simp only [if_true] at hb'
      simp only [if_neg (Ne.symm hij)]
      exact fun e' => hFH b (h.rowF j b (by omega) e').1 hb'
    · simp only [if_neg ei] at hb'
      by_cases ej : j = n
      · simp only [if_pos ej]
        exact fun e' => hFH b (h.rowF i b (by omega) hb').1 e'
      · simp only [if_neg ej]
        exact h.apart i j b (by omega) (by omega) hij hb'
end

section
variable {w : World} {F : Nat → Prop} {r : Option Addr} {g m d i : Nat} {xs : List (List Int)} {x : List Int} {cells : List Value} {G : Nat → Nat → Prop}
theorem laidI_some (h : Laid RInts w F 23 r m d xs cells G m) (h0 : 0 < m) : ∃ g, r = some ⟨g, 0, none⟩ := by
  rcases h.outer.2 with ⟨_, h1⟩ | ⟨g, cap, cur, hv, _⟩
  · omega
  · simp only [Value.slice.injEq, true_and] at hv
    obtain ⟨rfl, rfl⟩ := hv
    exact ⟨g, rfl⟩
theorem laidI_row (h : Laid RInts w F 23 (some ⟨g, 0, none⟩) m d xs cells G m) (hx : xs[i]? = some x) : ∃ sa sn sc, w.cell? ⟨g, i, none⟩ = some (.slice sa sn sc) ∧ RInts.Own w (G i) [.slice sa sn sc] x := by
  have hi : i < m := by rw [← h.len]; exact (List.getElem?_eq_some_iff.1 hx).1
  have hA := h.row i x hi hx
  have hA' := hA
  obtain ⟨sa, sn, sc, cs, G', e, _⟩ := hA'
  rw [e] at hA
  have e' : sub cells (i * 1) 1 = [.slice sa sn sc] := e
  have s0 := sub_at (cells := cells) (o := i * 1) (k := 1) (j := 0) (by omega)
  rw [e', Nat.mul_one, Nat.add_zero] at s0
  exact ⟨sa, sn, sc, (h.outer.cellAt i (by show i < m * 1; omega)).trans s0.symm, hA⟩
end

/-- Whether s is a key, with none of the first t of acc in it. -/
noncomputable def fitT (M : List (Nat × Nat)) (c : Nat) (acc : List (List Int)) (s : List Int) (t : Nat) : Bool := decide ((bl (clo M (mk s))).length = c) && (acc.take t).all (fun k => !(k.all fun x => decide (x ∈ s)))
noncomputable def stepK (M : List (Nat × Nat)) (c : Nat) (acc : List (List Int)) (s : List Int) : List (List Int) := if fitT M c acc s acc.length then acc ++ [s] else acc
noncomputable def keysT (M : List (Nat × Nat)) (c : Nat) (acc ls : List (List Int)) : List (List Int) := ls.foldl (stepK M c) acc
def setsU (c t : Nat) : List (List Int) := (List.range t).flatMap fun m => subsL c m 0
noncomputable def keysL (M : List (Nat × Nat)) (c : Nat) : List (List Int) := keysT M c [] (setsU c (c + 1))
theorem fitT_zero (M : List (Nat × Nat)) (c : Nat) (acc : List (List Int)) (s : List Int) : fitT M c acc s 0 = decide ((bl (clo M (mk s))).length = c) := by simp [fitT]
theorem fitT_succ {M : List (Nat × Nat)} {c : Nat} {acc : List (List Int)} {s k : List Int} {t : Nat} (h : acc[t]? = some k) : fitT M c acc s (t + 1) = (fitT M c acc s t && !(k.all fun x => decide (x ∈ s))) := by
  obtain ⟨ht, rfl⟩ := List.getElem?_eq_some_iff.1 h
  unfold fitT
  rw [List.take_succ_eq_append_getElem ht, List.all_append, Bool.and_assoc]
  simp
theorem keysT_take {M : List (Nat × Nat)} {c : Nat} {acc ls : List (List Int)} {j : Nat} {s : List Int} (h : ls[j]? = some s) : keysT M c acc (ls.take (j + 1)) = stepK M c (keysT M c acc (ls.take j)) s := by
  obtain ⟨hj, rfl⟩ := List.getElem?_eq_some_iff.1 h
  rw [List.take_succ_eq_append_getElem hj]; unfold keysT; rw [List.foldl_append]; rfl
theorem keysT_len (M : List (Nat × Nat)) (c : Nat) : ∀ (ls acc : List (List Int)), (keysT M c acc ls).length ≤ acc.length + ls.length
  | [], acc => by simp [keysT]
  | s :: ls, acc => by
    have h1 := keysT_len M c ls (stepK M c acc s)
    have h2 : (stepK M c acc s).length ≤ acc.length + 1 := by unfold stepK; split <;> simp
    show (keysT M c (stepK M c acc s) ls).length ≤ _
    simp only [List.length_cons]; omega
theorem setsU_succ (c t : Nat) : setsU c (t + 1) = setsU c t ++ subsL c t 0 := by unfold setsU; rw [List.range_succ, List.flatMap_append]; simp
theorem keysU_succ (M : List (Nat × Nat)) (c t : Nat) : keysT M c [] (setsU c (t + 1)) = keysT M c (keysT M c [] (setsU c t)) (subsL c t 0) := by rw [setsU_succ]; unfold keysT; rw [List.foldl_append]
theorem setsU_ok_all : ∀ c : Nat, c < 7 → ∀ t : Nat, t < 8 → (setsU c t).length ≤ 64 := by decide +kernel
theorem subs_told_all : ∀ c : Nat, c < 7 → ∀ m : Nat, m < 7 → (subsL c m 0).all (fun l => decide (bl (mk l) = l) && decide (mk l < 64)) = true := by decide +kernel
theorem subs_told {c m j : Nat} {s : List Int} (hc : c ≤ 6) (hm : m ≤ 6) (h : (subsL c m 0)[j]? = some s) : Told s := by
  have h9 := subs_told_all c (by omega) m (by omega)
  rw [List.all_eq_true] at h9
  have := h9 s (List.mem_of_getElem? h)
  simp only [Bool.and_eq_true, decide_eq_true_eq] at this
  exact ⟨this.1, this.2⟩
theorem l7Subsets_zero (c : Nat) (hc : c ≤ 6) (m : Nat) (hm : m ≤ 6) (w : World) :
    Calls Tryd.prog 33 #[.int .i64 (c : Nat), .int .i64 (m : Nat), .int .i64 0] w fun e w' => ∃ r n d, e = .returned (.slice r n d) ∧ RPairs.Own w' (From w.heap.size w'.heap.size) [.slice r n d] (subsL c m 0) ∧ Below w.heap.size w w' := l7Subsets_any c hc m hm 0 (by omega) w

end Go.Proofs.YtpnaoahlfhbbmaaDoor

/- Plain: all sets of six columns in their order. -/
namespace Go.Proofs.YtpnaoahlfhbbmaaDoor

/-- All sets of six columns, in their order. -/
def L64 : List Nat := [0, 1, 2, 4, 8, 16, 32, 3, 5, 9, 17, 33, 6, 10, 18, 34, 12, 20, 36, 24, 40, 48, 7, 11, 19, 35, 13, 21, 37, 25, 41, 49, 14, 22, 38, 26, 42, 50, 28, 44, 52, 56, 15, 23, 39, 27, 43, 51, 29, 45, 53, 57, 30, 46, 54, 58, 60, 31, 47, 55, 59, 61, 62, 63]

end Go.Proofs.YtpnaoahlfhbbmaaDoor
