/- Several texts of one proof, in build order: InsP, StepV, StepW, FnI, GsP, SzP, OrP, CsP. -/
import Derived.Test.YtkcmlphpilggpaaDoorM4
import Derived.Test.YtkcmlphpilggpaaDoorRows
import Derived.Test.YtkcmlphpilggpaaDoorM3
import Derived.Deep.CutBlock
import Derived.Test.YtkcmlphpilggpaaDoorM0

/- Plain: a number put to its place in a rising list, as sets of columns tell it. -/
namespace Go.Proofs.YtkcmlphpilggpaaDoor
open Go.RowKit

/-- A number put to its place, once: ahead of the first that is not less. -/
def lessN (n : Int) : List Int → Nat
  | [] => 0
  | z :: zs => if z < n then lessN n zs + 1 else 0
def insI (l : List Int) (n : Int) : List Int := if n ∈ l then l else l.take (lessN n l) ++ n :: l.drop (lessN n l)
theorem lessN_le (n : Int) : ∀ l, lessN n l ≤ l.length
  | [] => Nat.le_refl _
  | z :: zs => by unfold lessN; split; have := lessN_le n zs; simp; omega; simp
theorem lessN_is (n : Int) : ∀ (l : List Int) (k : Nat), k ≤ l.length → (∀ j, j < k → l.getD j 0 < n) → (k < l.length → ¬ l.getD k 0 < n) → lessN n l = k
  | [], k, h, _, _ => by simp at h; simp [lessN, h]
  | z :: zs, 0, _, _, h => by have := h (by simp); simp at this; unfold lessN; rw [if_neg (by omega)]
  | z :: zs, k + 1, h1, h2, h3 => by
    have h0 := h2 0 (by omega)
    simp at h0
    unfold lessN
    rw [if_pos h0, lessN_is n zs k (by simpa using h1) (fun j hj => by simpa using h2 (j + 1) (by omega)) (fun hk => by simpa using h3 (by simpa using hk))]
theorem insI_yes {l : List Int} {n : Int} (h : n ∈ l) : insI l n = l := if_pos h
theorem insI_no {l : List Int} {n : Int} (h : ¬ n ∈ l) : insI l n = l.take (lessN n l) ++ n :: l.drop (lessN n l) := if_neg h
theorem insI_bl_all : ∀ s : Nat, s < 64 → ∀ n : Nat, n < 6 → insI (bl s) (n : Int) = bl (s ||| 2 ^ n) := by decide +kernel
theorem insI_bl {s : Nat} {n : Int} (hs : s < 64) (h0 : 0 ≤ n) (h1 : n < 6) : insI (bl s) n = bl (s ||| 2 ^ n.toNat) := by
  have := insI_bl_all s hs n.toNat (by omega)
  rw [Int.toNat_of_nonneg h0] at this
  exact this
theorem len_bl_all : ∀ s : Nat, s < 64 → ∀ t : Nat, t < 64 → sb s t = true → (bl t).length = (bl s).length → t = s := by decide +kernel
theorem all_bl {D T : Nat} (hD : D < 64) : (bl D).all (fun k => decide (k ∈ bl T)) = sb D T := by
  cases h : sb D T with
  | true =>
    rw [List.all_eq_true]
    intro k hk
    obtain ⟨i, h1, h2, rfl⟩ := mem_bl.1 hk
    exact decide_eq_true (mem_bl.2 ⟨i, h1, sb_bit h i h2, rfl⟩)
  | false =>
    rw [← Bool.not_eq_true]
    intro h'
    rw [List.all_eq_true] at h'
    have : sb D T = true := sb_of_bits fun i hi => by
      have hi6 : i < 6 := by
        by_cases h6 : i < 6
        · exact h6
        · rw [Nat.testBit_lt_two_pow (Nat.lt_of_lt_of_le hD (by have : 2 ^ 6 ≤ 2 ^ i := Nat.pow_le_pow_right (by omega) (by omega); omega))] at hi; cases hi
      have h9 := of_decide_eq_true (h' (i : Int) (mem_bl.2 ⟨i, hi6, hi, rfl⟩))
      obtain ⟨j, _, h4, h5⟩ := mem_bl.1 h9
      obtain rfl : i = j := by omega
      exact h4
    rw [h] at this; cases this
/-- Putting all of a list, one by one. -/
theorem mk_or (l : List Int) (s : Nat) : l.foldl (fun s k => s ||| 2 ^ k.toNat) s = s ||| mk l := by
  apply Nat.eq_of_testBit_eq
  have key : ∀ (l : List Int) (s i : Nat), (l.foldl (fun s k => s ||| 2 ^ k.toNat) s).testBit i = (s.testBit i || (l.foldl (fun (s : Nat) (k : Int) => s ||| 2 ^ k.toNat) 0).testBit i) := by
    intro l
    induction l with
    | nil => intro s i; simp
    | cons x l ih => intro s i; rw [List.foldl_cons, List.foldl_cons, ih, ih (0 ||| _), Nat.testBit_or, Nat.testBit_or]; simp [Bool.or_assoc]
  intro i
  rw [key, Nat.testBit_or]
  rfl

end Go.Proofs.YtkcmlphpilggpaaDoor

/- An append of whatever cells, at a step of a region that draws. -/
namespace Go.Proofs.YtkcmlphpilggpaaDoor
open Go.RowKit

theorem step_append_vals {P : Program} {w : World} {ops : Array Oper} {o : Oper} {a : Act} {K : Act → World → Prop} {Q : Exit → Act → World → Prop} {E : Prop} (hgd : o.guard = none) (s x : Operand) (t : TypeId)
    (ho : o.op = .call { callee := .builtin .append, args := #[s, x], argTypes := #[t, t] })
    (base : Nat) (e : TypeId) (i : TypeInfo) (z : Value) (size bytes : Nat) (ht : P.underlying t = some (.slice e)) (hi : P.info? e = some i) (hz : i.zero = some z)
    (hsize : i.size = size) (hby : i.bytes = bytes) (hzs : z.cells.size = size) (hsz : 0 < size)
    (v : Value) (n : Nat) (xs : List Value) (hs : a.eval s = v) (hown : w.ownsRow base e size v n xs)
    (ao : Option Addr) (m c : Nat) (news : List Value) (hx : a.eval x = .slice ao m c) (hl : news.length = m * size) (hat : ∀ ad, ao = some ad → ∀ (j : Nat) (u : Value), news[j]? = some u → w.cell? (ad.add j) = some u) (h1 : ∀ u ∈ news, u.oneCell' = true) (hnil : ao = none → c = 0 ∧ m = 0)
    (h63 : n + m ≤ maxLen) (hbytes : (n + m) * bytes ≤ 140737488355328) (hbase : base ≤ w.heap.size)
    (h : ∀ r cap w', w'.ownsRow base e size (.slice r (n + m) cap) (n + m) (xs ++ news) → w.grownBy w' v.ownBlock → ((Value.slice r (n + m) cap).ownBlock = v.ownBlock ∨ (Value.slice r (n + m) cap).ownBlock = some w.heap.size) → K (a.put o.dst (.slice r (n + m) cap)) w') :
    if Region.wanted o (yielded ops a.tmps) = true then Oper.wp P o a w K Q else E := by
  have hw : Region.wanted o (yielded ops a.tmps) = true := by simp [Region.wanted, hgd]
  rw [if_pos hw]
  cases ao with
  | none =>
    obtain ⟨hc, hm⟩ := hnil rfl
    subst hc hm
    obtain rfl : news = [] := List.eq_nil_of_length_eq_zero (by simpa using hl)
    obtain ⟨r, cap, rfl⟩ := owns_slice hown
    have hrun := run_append_owned_none (P := P) (w := w) base t o.type e i size ht hi (.slice r n cap) n xs hown
    have := h r cap w (by simpa using hown) (World.grownBy.refl _ _) (.inl rfl)
    unfold Oper.wp
    simp [execOp, ho, resolve, invoke, builtin, hs, hx, hrun, Result.andThen]
    rw [Nat.add_zero] at this
    exact this
  | some ad =>
    obtain ⟨v', w', hr, h2, h3, _, h5⟩ := run_append_own_at (P := P) w base t o.type e i z size bytes ht hi hz hsize hby hzs hsz v n xs hown ad m c news hl (fun j u hj => hat ad rfl j u hj) h1 h63 hbytes hbase
    obtain ⟨r, cap, rfl⟩ := owns_slice h2
    unfold Oper.wp execOp
    simp only [ho, resolve, invoke, builtin, Sem.run_bind, Sem.run_pure, Result.andThen_ok, List.map_toArray, List.map_cons, List.map_nil, hs, hx, hr]
    exact h r cap w' h2 h3 h5

end Go.Proofs.YtkcmlphpilggpaaDoor

/- An append of whatever cells, in a plain region. -/
namespace Go.Proofs.YtkcmlphpilggpaaDoor
open Go.RowKit

theorem wpList_app_vals {P : Program} {w : World} {ops : Array Oper} {rest : List Oper} {o : Oper} {a : Act} {Q : Exit → Act → World → Prop} (hgd : o.guard = none) (s x : Operand) (t : TypeId)
    (ho : o.op = .call { callee := .builtin .append, args := #[s, x], argTypes := #[t, t] })
    (base : Nat) (e : TypeId) (i : TypeInfo) (z : Value) (size bytes : Nat) (ht : P.underlying t = some (.slice e)) (hi : P.info? e = some i) (hz : i.zero = some z)
    (hsize : i.size = size) (hby : i.bytes = bytes) (hzs : z.cells.size = size) (hsz : 0 < size)
    (v : Value) (n : Nat) (xs : List Value) (hs : a.eval s = v) (hown : w.ownsRow base e size v n xs)
    (ao : Option Addr) (m c : Nat) (news : List Value) (hx : a.eval x = .slice ao m c) (hl : news.length = m * size) (hat : ∀ ad, ao = some ad → ∀ (j : Nat) (u : Value), news[j]? = some u → w.cell? (ad.add j) = some u) (h1 : ∀ u ∈ news, u.oneCell' = true) (hnil : ao = none → c = 0 ∧ m = 0)
    (h63 : n + m ≤ maxLen) (hbytes : (n + m) * bytes ≤ 140737488355328) (hbase : base ≤ w.heap.size)
    (h : ∀ r cap w', w'.ownsRow base e size (.slice r (n + m) cap) (n + m) (xs ++ news) → w.grownBy w' v.ownBlock → ((Value.slice r (n + m) cap).ownBlock = v.ownBlock ∨ (Value.slice r (n + m) cap).ownBlock = some w.heap.size) → wpList P ops Q rest (a.put o.dst (.slice r (n + m) cap)) w') :
    wpList P ops Q (o :: rest) a w :=
  wpList_plain hgd fun K hK => by
    have hw : Region.wanted o (yielded ops a.tmps) = true := by simp [Region.wanted, hgd]
    have h9 := step_append_vals (P := P) (w := w) (ops := ops) (o := o) (a := a) (K := K) (Q := Q) (E := True) hgd s x t ho base e i z size bytes ht hi hz hsize hby hzs hsz v n xs hs hown ao m c news hx hl hat h1 hnil h63 hbytes hbase (fun r cap w' k1 k2 k3 => hK _ _ (h r cap w' k1 k2 k3))
    rw [if_pos hw] at h9
    exact h9

end Go.Proofs.YtkcmlphpilggpaaDoor

/- Contracts of impl.firstNumbers and of the model's l11Without. -/
namespace Go.Proofs.YtkcmlphpilggpaaDoor
open Go.RowKit

def upN (n : Nat) : List Int := (List.range n).map fun (i : Nat) => (i : Int)
theorem upN_succ (n : Nat) : upN (n + 1) = upN n ++ [(n : Int)] := by unfold upN; rw [List.range_succ, List.map_append]; rfl
theorem upN_len (n : Nat) : (upN n).length = n := by simp [upN]
def woI (L : List Int) (x : Int) : List Int := L.filter fun k => decide (k ≠ x)
theorem woI_take {L : List Int} {j : Nat} {k : Int} (x : Int) (h : L[j]? = some k) : woI (L.take (j + 1)) x = woI (L.take j) x ++ (if k ≠ x then [k] else []) := by
  obtain ⟨hj, rfl⟩ := List.getElem?_eq_some_iff.1 h
  unfold woI
  rw [List.take_succ_eq_append_getElem hj, List.filter_append]
  congr 1
  by_cases e : L[j] = x <;> simp [e]
theorem woI_len (L : List Int) (x : Int) : (woI L x).length ≤ L.length := List.length_filter_le _ _
set_option maxRecDepth 100000 in
set_option maxHeartbeats 4000000 in
theorem firstNumbers_any (n : Nat) (w : World) (hn : n ≤ 1048576) :
    Calls Tryd.prog 21 #[.int .i64 (n : Nat)] w fun e w' => ∃ r d, e = .returned (.slice r n d) ∧ w'.ownsRow w.heap.size 3 1 (.slice r n d) n ((upN n).map (.int .i64)) ∧ Below w.heap.size w w' := by
  obtain ⟨j0, hj0, hy0, hy1, hy2⟩ := info_parts Tryd.infoInt
  go_enter Tryd.func21, Tryd.ntmps21
  go_wp2_with fail
  go_loopw [3, 6] (fun p i wr => ∃ (k : Nat) (r : Option Addr) (d : Nat), k ≤ n ∧ i = .int .i64 k ∧ p = .slice r k d ∧ wr.ownsRow w.heap.size 3 1 (.slice r k d) k ((upN k).map (.int .i64)) ∧ Below w.heap.size w wr) (fun _ i _ => n - (intOf i).toNat)
  case atStart => exact ⟨0, none, 0, Nat.zero_le _, rfl, rfl, World.ownsRow_nil _ _ _ _, Below.refl _ _⟩
  case round =>
    obtain ⟨k, r, d, hk, rfl, rfl, ho, hbw⟩ := hrel
    by_cases hlt : k < n
    · have hki : (k : Int) < (n : Int) := by omega
      have HO := Hid.mk ho
      have HB := Hid.mk hbw
      have zw := hbw.size
      clear ho hbw
      go_wp2_with (at_builtin; refine wpList_app_vals rfl (.tmp 9) (.tmp 11) 22 rfl w.heap.size 3 j0 (.int .i64 0) 1 8 Tryd.underlying22 hj0 hy0 hy1 hy2 rfl (by decide) (.slice r k d) k ((upN k).map (.int .i64)) rfl (HO.out.alloc _) (some ⟨wr.heap.size, 0, none⟩) 1 1 [.int .i64 (k : Nat)] rfl rfl (fun ad he => by cases he; simpa using news_at wr #[.int .i64 (k : Nat)] 3) (by simp; rfl) (fun h => by cases h) (by unfold maxLen; omega) (by omega) (by simp; omega) ?_)
      intro r5 d5 w5 ho5 hg5 ht5
      have HB5 : Hid (Below w.heap.size w w5) := (HB.out.alloc zw _).grown hg5 (by simp; omega) (fun j hj => (HO.out.lt j hj).1)
      have HO5 : Hid (w5.ownsRow w.heap.size 3 1 (.slice r5 (k + 1) d5) (k + 1) ((upN (k + 1)).map (.int .i64))) := by
        show World.ownsRow _ _ _ _ _ _ _
        rw [upN_succ, List.map_append]; exact ho5
      clear ho5 hg5 ht5 HO HB
      go_wp2
      go_roundw
      case rel => exact ⟨k + 1, r5, d5, by omega, by go_num, rfl, HO5.out, HB5.out⟩
      case measure => simp [intOf]; omega
    · obtain rfl : k = n := by omega
      have hki : ¬ (k : Int) < (k : Int) := by omega
      have HO := Hid.mk ho
      clear ho
      go_wp2
      go_ret
      exact ⟨r, d, rfl, HO.out, hbw⟩

set_option maxRecDepth 100000 in
set_option maxHeartbeats 4000000 in
theorem l11Without_any (a : Option Addr) (n c : Nat) (L : List Int) (x : Int) (w : World) (hz : L.length = n) (hn : n ≤ 1048576) (ha : At w a L) :
    Calls Tryd.prog 32 #[.slice a n c, .int .i64 x] w fun e w' => ∃ r m d, e = .returned (.slice r m d) ∧ (woI L x).length = m ∧ w'.ownsRow w.heap.size 3 1 (.slice r m d) m ((woI L x).map (.int .i64)) ∧ Below w.heap.size w w' := by
  obtain ⟨j0, hj0, hy0, hy1, hy2⟩ := info_parts Tryd.infoInt
  have HZ := Hid.mk hz
  have HA := Hid.mk ha
  clear hz ha
  go_enter Tryd.func32, Tryd.ntmps32
  go_wp2_with fail
  go_loopw [5, 10] (fun p i wr => ∃ (k m : Nat) (r : Option Addr) (d : Nat), k ≤ n ∧ m ≤ k ∧ i = .int .i64 k ∧ p = .slice r m d ∧ (woI (L.take k) x).length = m ∧ wr.ownsRow w.heap.size 3 1 (.slice r m d) m ((woI (L.take k) x).map (.int .i64)) ∧ Below w.heap.size w wr) (fun _ i _ => n - (intOf i).toNat)
  case atStart => exact ⟨0, 0, none, 0, Nat.zero_le _, Nat.le_refl _, rfl, rfl, rfl, World.ownsRow_nil _ _ _ _, Below.refl _ _⟩
  case round =>
    obtain ⟨k, m, r, d, hk, hmk, rfl, rfl, hm, ho, hbw⟩ := hrel
    obtain ⟨wY, rfl⟩ : ∃ x, x = wr := ⟨_, rfl⟩
    by_cases hlt : k < n
    · obtain ⟨b, off, rfl, _, hc⟩ := (At.below HA.out hbw).some (by have := HZ.out; omega)
      have hcx := hc k (by have := HZ.out; omega)
      have hxj : L[k]? = some (L.getD k 0) := by rw [List.getElem?_eq_getElem (by have := HZ.out; omega)]; simp [List.getD, show k < L.length by have := HZ.out; omega]
      obtain ⟨u, hu⟩ : ∃ u, L.getD k 0 = u := ⟨_, rfl⟩
      rw [hu] at hcx hxj
      have HTK := Hid.mk (woI_take x hxj)
      have hki : (k : Int) < (n : Int) := by omega
      have HO := Hid.mk ho
      have HM := Hid.mk hm
      have HB := Hid.mk hbw
      have zw := hbw.size
      clear hc hu hxj ho hm hbw
      by_cases hux : u = x
      · have HE : Hid (woI (L.take (k + 1)) x = woI (L.take k) x) := by show _ = _; rw [HTK.out, if_neg (fun h => h hux), List.append_nil]
        rw [← HE.out] at HO HM
        clear HTK HE
        subst hux
        go_wp2
        go_roundw
        case rel => exact ⟨k + 1, m, r, d, by omega, by omega, by go_num, rfl, HM.out, HO.out, HB.out⟩
        case measure => simp [intOf]; omega
      · have HE : Hid (woI (L.take (k + 1)) x = woI (L.take k) x ++ [u]) := by show _ = _; rw [HTK.out, if_pos hux]
        clear HTK
        go_wp2_with (at_builtin; refine wpList_app_vals rfl (.tmp 17) (.tmp 19) 22 rfl w.heap.size 3 j0 (.int .i64 0) 1 8 Tryd.underlying22 hj0 hy0 hy1 hy2 rfl (by decide) (.slice r m d) m ((woI (L.take k) x).map (.int .i64)) rfl (HO.out.alloc _) (some ⟨wY.heap.size, 0, none⟩) 1 1 [.int .i64 u] rfl rfl (fun ad he => by cases he; simpa using news_at wY #[.int .i64 u] 3) (by simp; rfl) (fun h => by cases h) (by unfold maxLen; omega) (by omega) (by simp; omega) ?_)
        intro r5 d5 w5 ho5 hg5 ht5
        have HB5 : Hid (Below w.heap.size w w5) := (HB.out.alloc zw _).grown hg5 (by simp; omega) (fun j hj => (HO.out.lt j hj).1)
        have HO5 : Hid (w5.ownsRow w.heap.size 3 1 (.slice r5 (m + 1) d5) (m + 1) ((woI (L.take (k + 1)) x).map (.int .i64))) := by
          show World.ownsRow _ _ _ _ _ _ _
          rw [HE.out, List.map_append]; exact ho5
        have HM5 : Hid ((woI (L.take (k + 1)) x).length = m + 1) := by show _ = _; rw [HE.out, List.length_append, HM.out]; rfl
        clear ho5 hg5 ht5 HO HB HM
        go_wp2
        go_roundw
        case rel => exact ⟨k + 1, m + 1, r5, d5, by omega, by omega, by go_num, rfl, HM5.out, HO5.out, HB5.out⟩
        case measure => simp [intOf]; omega
    · obtain rfl : k = n := by omega
      rw [List.take_of_length_le (by have := HZ.out; omega)] at hm ho
      have hki : ¬ (k : Int) < (k : Int) := by omega
      have HO := Hid.mk ho
      have HM := Hid.mk hm
      clear ho hm
      go_wp2
      go_ret
      exact ⟨r, m, d, rfl, HM.out, HO.out, hbw⟩

end Go.Proofs.YtkcmlphpilggpaaDoor

/- Plain: statistics that are good. -/
namespace Go.Proofs.YtkcmlphpilggpaaDoor
open Go.RowKit

def inB (m x : Int) : Bool := decide (1 ≤ x) && decide (x ≤ m)
def wiB (m : Int) (l : List Int) : Bool := l.all (inB m)
theorem wiB_step {m : Int} {zs : List Int} {k : Nat} (h : k < zs.length) : wiB m (zs.drop k) = (inB m (zs.getD k 0) && wiB m (zs.drop (k + 1))) := by
  rw [List.drop_eq_getElem_cons h]
  have e : zs.getD k 0 = zs[k] := by simp [List.getD, h]
  rw [e]; rfl
theorem wiB_done {m : Int} {zs : List Int} {n : Nat} (h : zs.length = n) : wiB m (zs.drop n) = true := by
  rw [List.drop_of_length_le (by omega)]; rfl
/-- Factors from the kth list on: each has as many numbers as lists stand ahead of it. -/
def facB : Nat → List (List Int) → Bool
  | _, [] => true
  | k, f :: r => (decide (f.length = k) && wiB 10 f) && facB (k + 1) r
theorem facB_step {fs : List (List Int)} {k : Nat} {f : List Int} (h : fs[k]? = some f) : facB k (fs.drop k) = ((decide (f.length = k) && wiB 10 f) && facB (k + 1) (fs.drop (k + 1))) := by
  obtain ⟨hk, rfl⟩ := List.getElem?_eq_some_iff.1 h
  rw [List.drop_eq_getElem_cons hk]; rfl
theorem facB_done {fs : List (List Int)} {n : Nat} (h : fs.length = n) : facB n (fs.drop n) = true := by
  rw [List.drop_of_length_le (by omega)]; rfl
/-- Statistics that are good. -/
def gsB (zs : List Int) (fs : List (List Int)) : Bool := ((decide (1 ≤ zs.length) && decide (zs.length ≤ 6)) && decide (fs.length = zs.length)) && (facB 0 fs && wiB 50 zs)
theorem atS_rw {w : World} {a : Option Addr} {zss : List (List Int)} (h : AtS w a zss) {k : Nat} {zs : List Int} (hk : zss[k]? = some zs) :
    ∃ b off a' c', a = some ⟨b, off, none⟩ ∧ w.cell? ⟨b, off + k, none⟩ = some (.slice a' zs.length c') ∧ zs.length ≤ 9223372036854775807 ∧ At w a' zs := by
  obtain ⟨hl, rfl⟩ := List.getElem?_eq_some_iff.1 hk
  rcases h with h | ⟨b, off, rfl, hc⟩
  · rw [h] at hl; simp at hl
  · obtain ⟨a', c', h1, h2, h3⟩ := hc k hl
    have e : zss.getD k [] = zss[k] := by simp [List.getD, hl]
    rw [e] at h1 h2 h3
    exact ⟨b, off, a', c', rfl, h1, h2, h3⟩

end Go.Proofs.YtkcmlphpilggpaaDoor

/- Plain: sizes of joins: products of sizes and of factors, in any order. -/
namespace Go.Proofs.YtkcmlphpilggpaaDoor
open Go.RowKit

def prodL : List Int → Int
  | [] => 1
  | x :: l => x * prodL l
theorem prodL_app : ∀ a b : List Int, prodL (a ++ b) = prodL a * prodL b
  | [], b => by simp [prodL]
  | x :: a, b => by simp only [List.cons_append, prodL, prodL_app a b, Int.mul_assoc]
theorem prodL_perm {a b : List Int} (h : a.Perm b) : prodL a = prodL b := by
  induction h with
  | nil => rfl
  | cons x _ ih => simp only [prodL, ih]
  | swap x y l => simp only [prodL, Int.mul_left_comm]
  | trans _ _ h1 h2 => exact h1.trans h2
theorem prodL_in {m : Int} (hm : 1 ≤ m) : ∀ {l : List Int}, (∀ x ∈ l, 1 ≤ x ∧ x ≤ m) → 1 ≤ prodL l ∧ prodL l ≤ m ^ l.length
  | [], _ => by simp [prodL]
  | x :: l, h => by
    obtain ⟨h1, h2⟩ := prodL_in hm (l := l) fun y hy => h y (List.mem_cons_of_mem _ hy)
    obtain ⟨x1, x2⟩ := h x (List.mem_cons_self ..)
    refine ⟨?_, ?_⟩
    · have := Int.mul_le_mul x1 h1 (by omega) (by omega)
      simpa [prodL] using this
    · have := Int.mul_le_mul x2 h2 (by omega) (by omega)
      simp only [prodL, List.length_cons, Int.pow_succ]
      rw [Int.mul_comm (m ^ _)]; exact this
def sizA (zs : List Int) (x : Int) : Int := zs.getD x.toNat 0
def facA (fs : List (List Int)) (a b : Int) : Int := (fs.getD (max a b).toNat []).getD (min a b).toNat 0
theorem facA_comm (fs : List (List Int)) (a b : Int) : facA fs a b = facA fs b a := by unfold facA; rw [Int.max_comm, Int.min_comm]
def dnP (fs : List (List Int)) : List Int → Int
  | [] => 1
  | x :: l => prodL (l.map (facA fs x)) * dnP fs l
theorem dnP_snoc (fs : List (List Int)) (x : Int) : ∀ l : List Int, dnP fs (l ++ [x]) = dnP fs l * prodL (l.map (facA fs x))
  | [] => by simp [dnP, prodL]
  | y :: l => by
    have ih := dnP_snoc fs x l
    simp only [List.cons_append, dnP, ih, List.map_append, List.map_cons, List.map_nil, prodL_app, prodL, Int.mul_one]
    rw [facA_comm fs y x]
    simp only [Int.mul_assoc, Int.mul_comm, Int.mul_left_comm]
theorem dnP_perm (fs : List (List Int)) {a b : List Int} (h : a.Perm b) : dnP fs a = dnP fs b := by
  induction h with
  | nil => rfl
  | cons x h ih => simp only [dnP, ih, prodL_perm (h.map (facA fs x))]
  | swap x y l =>
    simp only [dnP, List.map_cons, prodL]
    rw [facA_comm fs x y]
    simp only [Int.mul_assoc, Int.mul_comm, Int.mul_left_comm]
  | trans _ _ h1 h2 => exact h1.trans h2
def upP (zs l : List Int) : Int := prodL (l.map (sizA zs))
/-- What a join of some tables tells. -/
def szQ (zs : List Int) (fs : List (List Int)) (l : List Int) : Int := upP zs l / dnP fs l
theorem szQ_perm (zs : List Int) (fs : List (List Int)) {a b : List Int} (h : a.Perm b) : szQ zs fs a = szQ zs fs b := by
  unfold szQ upP
  rw [dnP_perm fs h, prodL_perm (h.map (sizA zs))]
/-- What is known of good statistics. -/
structure GsF (zs : List Int) (fs : List (List Int)) : Prop where
  n1 : 1 ≤ zs.length
  n6 : zs.length ≤ 6
  nf : fs.length = zs.length
  sz : ∀ k, k < zs.length → 1 ≤ zs.getD k 0 ∧ zs.getD k 0 ≤ 50
  fl : ∀ (k : Nat) (f : List Int), fs[k]? = some f → f.length = k
  fc : ∀ k j, k < zs.length → j < k → 1 ≤ (fs.getD k []).getD j 0 ∧ (fs.getD k []).getD j 0 ≤ 10
theorem wiB_all {m : Int} {l : List Int} (h : wiB m l = true) {k : Nat} (hk : k < l.length) : 1 ≤ l.getD k 0 ∧ l.getD k 0 ≤ m := by
  unfold wiB at h
  have h1 := List.all_eq_true.1 h l[k] (List.getElem_mem hk)
  have e : l.getD k 0 = l[k] := by simp [List.getD, hk]
  rw [e]
  simpa [inB] using h1
theorem facB_all : ∀ (fs : List (List Int)) (k : Nat), facB k fs = true → ∀ (j : Nat) (f : List Int), fs[j]? = some f → f.length = k + j ∧ wiB 10 f = true
  | [], _, _, _, _, h => by simp at h
  | g :: r, k, h, j, f, hj => by
    simp only [facB, Bool.and_eq_true, decide_eq_true_eq] at h
    cases j with
    | zero =>
      obtain rfl : g = f := by simpa using hj
      exact ⟨h.1.1, h.1.2⟩
    | succ j =>
      have := facB_all r (k + 1) h.2 j f (by simpa using hj)
      exact ⟨by omega, this.2⟩
theorem gsF {zs : List Int} {fs : List (List Int)} (h : gsB zs fs = true) : GsF zs fs := by
  simp only [gsB, Bool.and_eq_true, decide_eq_true_eq] at h
  obtain ⟨⟨⟨h1, h2⟩, h3⟩, h4, h5⟩ := h
  have hf := facB_all fs 0 h4
  refine ⟨h1, h2, h3, fun k hk => wiB_all h5 hk, fun k f hk => by have := (hf k f hk).1; omega, fun k j hk hj => ?_⟩
  obtain ⟨f, hfk⟩ : ∃ f, fs[k]? = some f := ⟨_, List.getElem?_eq_getElem (by omega)⟩
  have e : fs.getD k [] = f := by simp [List.getD, hfk]
  obtain ⟨g1, g2⟩ := hf k f hfk
  rw [e]
  exact wiB_all g2 (by omega)
/-- Numbers of tables, each once. -/
structure TbL (n : Nat) (l : List Int) : Prop where
  nd : l.Nodup
  lt : ∀ x ∈ l, 0 ≤ x ∧ x < (n : Int)
theorem TbL.len {n : Nat} {l : List Int} (h : TbL n l) : l.length ≤ n := by
  have h1 : (l.map Int.toNat).Nodup := by
    refine List.Pairwise.map _ ?_ (List.Pairwise.and_mem.1 h.nd)
    rintro a b ⟨ha, hb, hab⟩ e
    have := h.lt a ha
    have := h.lt b hb
    exact hab (by omega)
  have h2 := List.Nodup.length_le_of_subset h1 (l₂ := List.range n) (fun x hx => by
    obtain ⟨y, hy, rfl⟩ := List.mem_map.1 hx
    have := h.lt y hy
    simp; omega)
  simpa using h2
theorem TbL.take {n : Nat} {l : List Int} (h : TbL n l) (k : Nat) : TbL n (l.take k) := ⟨h.nd.sublist (List.take_sublist ..), fun x hx => h.lt x (List.mem_of_mem_take hx)⟩
def tri : Nat → Nat
  | 0 => 0
  | k + 1 => tri k + k
theorem sizA_in {zs : List Int} {fs : List (List Int)} (h : GsF zs fs) {x : Int} (hx : 0 ≤ x ∧ x < (zs.length : Int)) : 1 ≤ sizA zs x ∧ sizA zs x ≤ 50 := h.sz _ (by omega)
theorem facA_in {zs : List Int} {fs : List (List Int)} (h : GsF zs fs) {x y : Int} (hx : 0 ≤ x ∧ x < (zs.length : Int)) (hy : 0 ≤ y ∧ y < (zs.length : Int)) (hn : x ≠ y) : 1 ≤ facA fs x y ∧ facA fs x y ≤ 10 :=
  h.fc _ _ (by omega) (by omega)
theorem upP_in {zs : List Int} {fs : List (List Int)} (h : GsF zs fs) {l : List Int} (hl : TbL zs.length l) : 1 ≤ upP zs l ∧ upP zs l ≤ 15625000000 := by
  obtain ⟨h1, h2⟩ := prodL_in (m := 50) (by omega) (l := l.map (sizA zs)) (fun y hy => by obtain ⟨x, hx, rfl⟩ := List.mem_map.1 hy; exact sizA_in h (hl.lt x hx))
  refine ⟨h1, Int.le_trans h2 ?_⟩
  have h3 : l.length ≤ 6 := Nat.le_trans hl.len h.n6
  rw [List.length_map]
  have : ∀ k, k ≤ 6 → (50 : Int) ^ k ≤ 15625000000 := by decide
  exact this _ h3
theorem fac_in {zs : List Int} {fs : List (List Int)} (h : GsF zs fs) {x : Int} (hx : 0 ≤ x ∧ x < (zs.length : Int)) {l : List Int} (hl : TbL zs.length l) (hn : x ∉ l) : 1 ≤ prodL (l.map (facA fs x)) ∧ prodL (l.map (facA fs x)) ≤ 10 ^ l.length := by
  have := prodL_in (m := 10) (by omega) (l := l.map (facA fs x)) (fun y hy => by obtain ⟨z, hz, rfl⟩ := List.mem_map.1 hy; exact facA_in h hx (hl.lt z hz) (fun e => hn (e ▸ hz)))
  simpa using this
theorem dnP_in {zs : List Int} {fs : List (List Int)} (h : GsF zs fs) : ∀ {l : List Int}, TbL zs.length l → 1 ≤ dnP fs l ∧ dnP fs l ≤ 10 ^ tri l.length
  | [], _ => by simp [dnP, tri]
  | x :: l, hl => by
    have hl' : TbL zs.length l := ⟨(List.nodup_cons.1 hl.nd).2, fun y hy => hl.lt y (List.mem_cons_of_mem _ hy)⟩
    obtain ⟨h1, h2⟩ := dnP_in h hl'
    obtain ⟨k1, k2⟩ := fac_in h (hl.lt x (List.mem_cons_self ..)) hl' (List.nodup_cons.1 hl.nd).1
    refine ⟨?_, ?_⟩
    · have := Int.mul_le_mul k1 h1 (by omega) (by omega)
      simpa [dnP] using this
    · have := Int.mul_le_mul k2 h2 (by omega) (by omega)
      simp only [dnP, List.length_cons, tri, Int.pow_add]
      rw [Int.mul_comm (10 ^ tri _)]; exact this
/-- What the inner loop holds: the factors so far. -/
theorem dn_part {zs : List Int} {fs : List (List Int)} (h : GsF zs fs) {l : List Int} (hl : TbL zs.length l) {i j : Nat} {x : Int} (hi : l[i]? = some x) (hj : j ≤ i) :
    1 ≤ dnP fs (l.take i) * prodL ((l.take j).map (facA fs x)) ∧ dnP fs (l.take i) * prodL ((l.take j).map (facA fs x)) ≤ 1000000000000000 := by
  obtain ⟨hil, rfl⟩ := List.getElem?_eq_some_iff.1 hi
  have h6 := Nat.le_trans hl.len h.n6
  obtain ⟨h1, h2⟩ := dnP_in h (hl.take i)
  have hm : l[i] ∉ l.take j := by
    intro hm
    obtain ⟨k, hk, e⟩ := List.mem_take_iff_getElem.1 hm
    have := (List.getElem_inj hl.nd).1 e
    omega
  obtain ⟨k1, k2⟩ := fac_in h (hl.lt _ (List.getElem_mem hil)) (hl.take j) hm
  rw [List.length_take, Nat.min_eq_left (by omega)] at h2 k2
  refine ⟨?_, ?_⟩
  · have := Int.mul_le_mul h1 k1 (by omega) (by omega)
    simpa using this
  · have h3 := Int.mul_le_mul h2 k2 (by omega) (by omega)
    rw [← Int.pow_add] at h3
    refine Int.le_trans h3 ?_
    have : ∀ i, i < 6 → ∀ j, j ≤ i → (10 : Int) ^ (tri i + j) ≤ 1000000000000000 := by decide
    exact this i (by omega) j hj
theorem dn_step {fs : List (List Int)} {l : List Int} {i j : Nat} {x y : Int} (hj : l[j]? = some y) : dnP fs (l.take i) * prodL ((l.take (j + 1)).map (facA fs x)) = dnP fs (l.take i) * prodL ((l.take j).map (facA fs x)) * facA fs x y := by
  obtain ⟨hk, rfl⟩ := List.getElem?_eq_some_iff.1 hj
  rw [List.take_succ_eq_append_getElem hk, List.map_append, prodL_app]
  simp [prodL, Int.mul_assoc]
theorem dn_next {fs : List (List Int)} {l : List Int} {i : Nat} {x : Int} (hi : l[i]? = some x) : dnP fs (l.take (i + 1)) = dnP fs (l.take i) * prodL ((l.take i).map (facA fs x)) := by
  obtain ⟨hk, rfl⟩ := List.getElem?_eq_some_iff.1 hi
  rw [List.take_succ_eq_append_getElem hk, dnP_snoc]
theorem up_next {zs : List Int} {l : List Int} {i : Nat} {x : Int} (hi : l[i]? = some x) : upP zs (l.take (i + 1)) = upP zs (l.take i) * sizA zs x := by
  obtain ⟨hk, rfl⟩ := List.getElem?_eq_some_iff.1 hi
  unfold upP
  rw [List.take_succ_eq_append_getElem hk, List.map_append, prodL_app]
  simp [prodL]

end Go.Proofs.YtkcmlphpilggpaaDoor

/- Plain: orders: lists that have each of the first numbers once. -/
namespace Go.Proofs.YtkcmlphpilggpaaDoor
open Go.RowKit

def srtI (l : List Int) : List Int := l.mergeSort fun x y => decide (x ≤ y)
def eachB (l : List Int) (n : Nat) : Bool := decide (srtI l = upN n)
theorem upN_mem {n : Nat} {x : Int} : x ∈ upN n ↔ 0 ≤ x ∧ x < (n : Int) := by
  unfold upN
  rw [List.mem_map]
  constructor
  · rintro ⟨i, hi, rfl⟩
    rw [List.mem_range] at hi
    omega
  · intro h
    exact ⟨x.toNat, List.mem_range.2 (by omega), by omega⟩
theorem upN_pair (n : Nat) : (upN n).Pairwise (· < ·) := by
  unfold upN
  rw [List.pairwise_map]
  exact List.pairwise_lt_range.imp (fun h => by omega)
theorem srtI_perm (l : List Int) : (srtI l).Perm l := List.mergeSort_perm l _
theorem srtI_pair (l : List Int) : (srtI l).Pairwise (· ≤ ·) := by
  have h := List.pairwise_mergeSort (le := fun x y : Int => decide (x ≤ y)) (fun a b c h1 h2 => by simp at *; omega) (fun a b => by simp; omega) l
  exact h.imp (fun h => by simpa using h)
theorem srtI_up {l : List Int} {n : Nat} (h : l.Perm (upN n)) : srtI l = upN n :=
  ((srtI_perm l).trans h).eq_of_pairwise (le := (· ≤ ·)) (fun a b _ _ h1 h2 => by omega) (srtI_pair l) ((upN_pair n).imp (fun h => by omega))
theorem eachB_iff {l : List Int} {n : Nat} : eachB l n = true ↔ l.Perm (upN n) := by
  unfold eachB
  rw [decide_eq_true_eq]
  exact ⟨fun h => (srtI_perm l).symm.trans (by rw [h]), srtI_up⟩
theorem each_tbl {l : List Int} {n : Nat} (h : l.Perm (upN n)) : TbL n l :=
  ⟨h.symm.nodup ((upN_pair n).imp (fun h => by omega)), fun x hx => upN_mem.1 (h.mem_iff.1 hx)⟩

theorem insI_perm {l : List Int} {x : Int} (h : ¬ x ∈ l) : (insI l x).Perm (x :: l) := by
  rw [insI_no h]
  refine List.perm_middle.trans ?_
  rw [List.take_append_drop]
def putI (acc l : List Int) : List Int := l.foldl insI acc
theorem putI_snoc (acc l : List Int) (x : Int) : putI acc (l ++ [x]) = insI (putI acc l) x := by simp [putI]
theorem putI_len : ∀ (l acc : List Int), (putI acc l).length ≤ acc.length + l.length ∧ ((putI acc l).length = acc.length + l.length → (putI acc l).Perm (acc ++ l))
  | [], acc => by simp [putI]
  | x :: l, acc => by
    have ih := putI_len l (insI acc x)
    have e : putI acc (x :: l) = putI (insI acc x) l := rfl
    rw [e, List.length_cons]
    by_cases h : x ∈ acc
    · rw [insI_yes h] at ih ⊢
      exact ⟨by omega, fun h9 => by omega⟩
    · have hp := insI_perm h
      have hl := hp.length_eq
      rw [List.length_cons] at hl
      refine ⟨by omega, fun h9 => ?_⟩
      refine (ih.2 (by omega)).trans ((hp.append_right l).trans ?_)
      rw [List.cons_append]
      exact List.perm_middle.symm
theorem putI_nodup : ∀ (l acc : List Int), (acc ++ l).Nodup → (putI acc l).Perm (acc ++ l)
  | [], acc, _ => by simp [putI]
  | x :: l, acc, h => by
    have hx : ¬ x ∈ acc := fun hx => by
      have := (List.nodup_append.1 h).2.2 x hx x (List.mem_cons_self ..)
      exact this rfl
    have hp := insI_perm hx
    have hp2 : (insI acc x ++ l).Perm (acc ++ x :: l) := (hp.append_right l).trans (by rw [List.cons_append]; exact List.perm_middle.symm)
    have e : putI acc (x :: l) = putI (insI acc x) l := rfl
    rw [e]
    exact (putI_nodup l (insI acc x) (hp2.symm.nodup h)).trans hp2
theorem putI_mem : ∀ (l acc : List Int) (y : Int), y ∈ putI acc l → y ∈ acc ∨ y ∈ l
  | [], acc, y, h => .inl h
  | x :: l, acc, y, h => by
    rcases putI_mem l (insI acc x) y h with h | h
    · by_cases hx : x ∈ acc
      · rw [insI_yes hx] at h; exact .inl h
      · rcases List.mem_cons.1 ((insI_perm hx).mem_iff.1 h) with h | h
        · exact .inr (by rw [h]; exact List.mem_cons_self ..)
        · exact .inl h
    · exact .inr (List.mem_cons_of_mem _ h)
theorem putI_bl : ∀ (l : List Int) (s : Nat), s < 64 → (∀ x ∈ l, 0 ≤ x ∧ x < 6) → ∃ t, t < 64 ∧ putI (bl s) l = bl t
  | [], s, hs, _ => ⟨s, hs, rfl⟩
  | x :: l, s, hs, h => by
    have hx := h x (List.mem_cons_self ..)
    have e : putI (bl s) (x :: l) = putI (insI (bl s) x) l := rfl
    rw [e, insI_bl hs hx.1 hx.2]
    have h2 : 2 ^ x.toNat < 64 := by
      have : ∀ k, k < 6 → 2 ^ k < 64 := by decide
      exact this _ (by omega)
    exact putI_bl l _ (Nat.or_lt_two_pow (n := 6) hs h2) (fun y hy => h y (List.mem_cons_of_mem _ hy))
theorem bl_full : ∀ n : Nat, n < 7 → ∀ t : Nat, t < 64 → (bl t).length = n → (bl t).all (fun x => decide (x < (n : Int))) = true → bl t = upN n := by decide +kernel
theorem bl_nil : bl 0 = [] := by decide
/-- What the model asks of an order. -/
def isoB (n : Nat) (l : List Int) : Bool := decide (l.length = n) && (l.all (fun x => decide (0 ≤ x) && decide (x < (l.length : Int))) && decide ((putI [] l).length = l.length))
theorem isoB_each {n : Nat} (hn : n ≤ 6) (l : List Int) : isoB n l = eachB l n := by
  rw [Bool.eq_iff_iff, eachB_iff]
  simp only [isoB, Bool.and_eq_true, decide_eq_true_eq, List.all_eq_true]
  constructor
  · rintro ⟨h1, h2, h3⟩
    have hp : (putI [] l).Perm l := by simpa using (putI_len l []).2 (by simpa using h3)
    obtain ⟨t, ht, e⟩ := putI_bl l 0 (by omega) (fun x hx => by have := h2 x hx; omega)
    rw [bl_nil] at e
    have hf := bl_full n (by omega) t ht (by rw [← e]; omega) (by
      rw [List.all_eq_true]
      intro x hx
      have := h2 x (hp.mem_iff.1 (by rw [e]; exact hx))
      simp; omega)
    rw [← hf, ← e]
    exact hp.symm
  · intro h
    have ht := each_tbl h
    have hl : l.length = n := by have := h.length_eq; rw [upN_len] at this; exact this
    refine ⟨hl, fun x hx => by have := ht.lt x hx; omega, ?_⟩
    have := (putI_nodup l [] (by simpa using ht.nd)).length_eq
    simpa using this
theorem putI_take {l : List Int} {k : Nat} {x : Int} (h : l[k]? = some x) : putI [] (l.take (k + 1)) = insI (putI [] (l.take k)) x := by
  obtain ⟨hk, rfl⟩ := List.getElem?_eq_some_iff.1 h
  rw [List.take_succ_eq_append_getElem hk, putI_snoc]

end Go.Proofs.YtkcmlphpilggpaaDoor

/- Plain: what an order costs. -/
namespace Go.Proofs.YtkcmlphpilggpaaDoor
open Go.RowKit

def lastC (zs : List Int) (fs : List (List Int)) (l : List Int) : Int := if l.length < 2 then 0 else szQ zs fs l
def csN (zs : List Int) (fs : List (List Int)) (l : List Int) : Nat → Int
  | 0 => 0
  | k + 1 => csN zs fs l k + lastC zs fs (l.take (k + 1))
def costL (zs : List Int) (fs : List (List Int)) (l : List Int) : Int := csN zs fs l l.length
theorem szQ_in {zs : List Int} {fs : List (List Int)} (h : GsF zs fs) {l : List Int} (hl : TbL zs.length l) : 0 ≤ szQ zs fs l ∧ szQ zs fs l ≤ 15625000000 := by
  have h1 := upP_in h hl
  have h2 := dnP_in h hl
  have h3 : 0 ≤ upP zs l / dnP fs l := Int.ediv_nonneg (by omega) (by omega)
  have h4 : upP zs l / dnP fs l ≤ upP zs l := Int.ediv_le_self _ (by omega)
  unfold szQ
  omega
theorem lastC_in {zs : List Int} {fs : List (List Int)} (h : GsF zs fs) {l : List Int} (hl : TbL zs.length l) : 0 ≤ lastC zs fs l ∧ lastC zs fs l ≤ 15625000000 := by
  unfold lastC
  split
  · omega
  · exact szQ_in h hl
theorem csN_in {zs : List Int} {fs : List (List Int)} (h : GsF zs fs) {l : List Int} (hl : TbL zs.length l) : ∀ k, 0 ≤ csN zs fs l k ∧ csN zs fs l k ≤ k * 15625000000
  | 0 => by simp [csN]
  | k + 1 => by
    have h1 := csN_in h hl k
    have h2 := lastC_in h (hl.take (k + 1))
    simp only [csN]
    push_cast
    omega
theorem bl_pair : ∀ t : Nat, t < 64 → (bl t).Pairwise (· < ·) := by decide +kernel
theorem putI_tbl {n : Nat} (hn : n ≤ 6) {l : List Int} (hl : TbL n l) : (putI [] l).Perm l ∧ (putI [] l).Pairwise (· < ·) := by
  refine ⟨by simpa using putI_nodup l [] (by simpa using hl.nd), ?_⟩
  obtain ⟨t, ht, e⟩ := putI_bl l 0 (by omega) (fun x hx => by have := hl.lt x hx; omega)
  rw [bl_nil] at e
  rw [e]
  exact bl_pair t ht
theorem TbL.perm {n : Nat} {a b : List Int} (h : TbL n a) (hp : a.Perm b) : TbL n b := ⟨hp.nodup h.nd, fun x hx => h.lt x (hp.mem_iff.2 hx)⟩

end Go.Proofs.YtkcmlphpilggpaaDoor
