/- Several texts of one proof, in build order: BsP, IntsR, KrR, CloM, CloN, CloT, RisI, L1In, SomeC, DepI, CloS, CloC. -/
import Derived.Test.YtkcmlphpilggpaaDoorM5
import Derived.Test.YtkcmlphpilggpaaDoorM3
import Derived.Test.YtkcmlphpilggpaaDoorM4
import Derived.Test.YtkcmlphpilggpaaDoorRows
import Derived.Test.YtkcmlphpilggpaaDoorM0

/- Plain: the best order of some tables. -/
namespace Go.Proofs.YtkcmlphpilggpaaDoor
open Go.RowKit

theorem costL_snoc (zs : List Int) (fs : List (List Int)) (o : List Int) (x : Int) : costL zs fs (o ++ [x]) = costL zs fs o + lastC zs fs (o ++ [x]) := by
  have h : ∀ k, k ≤ o.length → csN zs fs (o ++ [x]) k = csN zs fs o k := by
    intro k
    induction k with
    | zero => intro _; rfl
    | succ k ih =>
      intro hk
      simp only [csN]
      rw [ih (by omega), List.take_append_of_le_length hk]
  unfold costL
  rw [List.length_append, List.length_singleton]
  simp only [csN]
  rw [h _ (Nat.le_refl _), List.take_of_length_le (by simp)]
theorem lastC_perm (zs : List Int) (fs : List (List Int)) {a b : List Int} (h : a.Perm b) : lastC zs fs a = lastC zs fs b := by
  unfold lastC
  rw [h.length_eq, szQ_perm zs fs h]
def befB : List Int → List Int → Bool
  | x :: a, y :: b => if x = y then befB a b else decide (x < y)
  | _, _ => false
def lesB (zs : List Int) (fs : List (List Int)) (o b : List Int) : Bool := decide (costL zs fs o < costL zs fs b) || (decide (costL zs fs o = costL zs fs b) && befB o b)
def chs (zs : List Int) (fs : List (List Int)) (b o : List Int) : List Int := if (decide (b.length = 0) || lesB zs fs o b) = true then o else b
def bst (zs : List Int) (fs : List (List Int)) : Nat → List Int → List Int
  | 0, _ => []
  | f + 1, l => l.foldl (fun b x => chs zs fs b (bst zs fs f (woI l x) ++ [x])) []
def bestL (zs : List Int) (fs : List (List Int)) (l : List Int) : List Int := bst zs fs l.length l
/-- One more table tried as the last one. -/
def cand (zs : List Int) (fs : List (List Int)) (l : List Int) (x : Int) : List Int := bestL zs fs (woI l x) ++ [x]
def bstT (zs : List Int) (fs : List (List Int)) (l : List Int) (k : Nat) : List Int := (l.take k).foldl (fun b x => chs zs fs b (cand zs fs l x)) []
theorem foldl_mem {α β : Type} {f g : β → α → β} : ∀ (l : List α) (b : β), (∀ b, ∀ x ∈ l, f b x = g b x) → l.foldl f b = l.foldl g b
  | [], _, _ => rfl
  | x :: l, b, h => by
    rw [List.foldl_cons, List.foldl_cons, h b x (List.mem_cons_self ..)]
    exact foldl_mem l _ (fun b y hy => h b y (List.mem_cons_of_mem _ hy))
theorem woI_len1 {l : List Int} (hl : l.Nodup) {x : Int} (hx : x ∈ l) : (woI l x).length + 1 = l.length := by
  have h : (woI l x) = l.erase x := by
    unfold woI
    rw [hl.erase_eq_filter]
    apply List.filter_congr
    intro y _
    by_cases e : y = x <;> simp [e, bne]
  rw [h, List.length_erase_of_mem hx]
  have := List.length_pos_of_mem hx
  omega
theorem woI_perm {l : List Int} (hl : l.Nodup) {x : Int} (hx : x ∈ l) : (woI l x ++ [x]).Perm l := by
  have h : (woI l x) = l.erase x := by
    unfold woI
    rw [hl.erase_eq_filter]
    apply List.filter_congr
    intro y _
    by_cases e : y = x <;> simp [e, bne]
  rw [h]
  exact (List.perm_append_comm (l₁ := l.erase x) (l₂ := [x])).trans (List.perm_cons_erase hx).symm
theorem woI_nd {l : List Int} (hl : l.Nodup) (x : Int) : (woI l x).Nodup := hl.sublist List.filter_sublist
theorem bst_fuel (zs : List Int) (fs : List (List Int)) : ∀ (f : Nat) (l : List Int), l.Nodup → l.length ≤ f → bst zs fs f l = bestL zs fs l
  | 0, l, _, h => by
    obtain rfl : l = [] := List.eq_nil_of_length_eq_zero (by omega)
    rfl
  | f + 1, l, hl, h => by
    unfold bestL
    cases hn : l.length with
    | zero =>
      obtain rfl : l = [] := List.eq_nil_of_length_eq_zero hn
      rfl
    | succ n =>
      simp only [bst]
      refine foldl_mem l [] (fun b x hx => ?_)
      have h1 := woI_len1 hl hx
      rw [bst_fuel zs fs f _ (woI_nd hl x) (by omega), bst_fuel zs fs n _ (woI_nd hl x) (by omega)]
theorem bestL_is (zs : List Int) (fs : List (List Int)) {l : List Int} (hl : l.Nodup) : bestL zs fs l = bstT zs fs l l.length := by
  unfold bstT
  rw [List.take_length]
  unfold bestL
  cases hn : l.length with
  | zero =>
    obtain rfl : l = [] := List.eq_nil_of_length_eq_zero hn
    rfl
  | succ n =>
    simp only [bst]
    refine foldl_mem l [] (fun b x hx => ?_)
    have h1 := woI_len1 hl hx
    unfold cand
    rw [bst_fuel zs fs n _ (woI_nd hl x) (by omega)]
theorem bstT_zero (zs : List Int) (fs : List (List Int)) (l : List Int) : bstT zs fs l 0 = [] := rfl
theorem bstT_succ (zs : List Int) (fs : List (List Int)) {l : List Int} {k : Nat} {x : Int} (h : l[k]? = some x) : bstT zs fs l (k + 1) = chs zs fs (bstT zs fs l k) (cand zs fs l x) := by
  obtain ⟨hk, rfl⟩ := List.getElem?_eq_some_iff.1 h
  unfold bstT
  rw [List.take_succ_eq_append_getElem hk, List.foldl_append]; rfl
theorem bstT_perm (zs : List Int) (fs : List (List Int)) {l : List Int} (hc : ∀ x ∈ l, (cand zs fs l x).Perm l) : ∀ k, k ≤ l.length → 0 < k → (bstT zs fs l k).Perm l
  | 0, _, h => by omega
  | k + 1, hk, _ => by
    have hx : l[k]? = some l[k] := List.getElem?_eq_getElem (by omega)
    rw [bstT_succ zs fs hx]
    have h1 := hc l[k] (List.getElem_mem ..)
    unfold chs
    split
    · exact h1
    · rename_i h
      by_cases k0 : k = 0
      · subst k0
        rw [bstT_zero] at h
        simp at h
      · exact bstT_perm zs fs hc k (by omega) (by omega)
theorem bestL_perm (zs : List Int) (fs : List (List Int)) : ∀ (n : Nat) (l : List Int), l.Nodup → l.length = n → (bestL zs fs l).Perm l
  | 0, l, _, h => by
    obtain rfl : l = [] := List.eq_nil_of_length_eq_zero h
    exact List.Perm.refl _
  | n + 1, l, hl, h => by
    rw [bestL_is zs fs hl]
    refine bstT_perm zs fs (fun x hx => ?_) _ (Nat.le_refl _) (by omega)
    have h1 := woI_len1 hl hx
    exact ((bestL_perm zs fs n _ (woI_nd hl x) (by omega)).append_right [x]).trans (woI_perm hl hx)
theorem cand_perm (zs : List Int) (fs : List (List Int)) {l : List Int} (hl : l.Nodup) {x : Int} (hx : x ∈ l) : (cand zs fs l x).Perm l :=
  ((bestL_perm zs fs _ _ (woI_nd hl x) rfl).append_right [x]).trans (woI_perm hl hx)
theorem bestL_one (zs : List Int) (fs : List (List Int)) (x : Int) : bestL zs fs [x] = [x] := by
  have h : woI [x] x = [] := by simp [woI]
  simp [bestL, bst, chs]
theorem cand_cost (zs : List Int) (fs : List (List Int)) {l : List Int} (hl : l.Nodup) {x : Int} (hx : x ∈ l) : costL zs fs (cand zs fs l x) = costL zs fs (bestL zs fs (woI l x)) + lastC zs fs l := by
  have h := cand_perm zs fs hl hx
  rw [← lastC_perm zs fs h]
  exact costL_snoc zs fs _ x
theorem TbL.wo {n : Nat} {l : List Int} (h : TbL n l) (x : Int) : TbL n (woI l x) := ⟨woI_nd h.nd x, fun y hy => h.lt y (List.mem_filter.1 hy).1⟩
theorem TbL.best {n : Nat} (zs : List Int) (fs : List (List Int)) {l : List Int} (h : TbL n l) : TbL n (bestL zs fs l) := h.perm (bestL_perm zs fs _ l h.nd rfl).symm
theorem TbL.cand {n : Nat} (zs : List Int) (fs : List (List Int)) {l : List Int} (h : TbL n l) {x : Int} (hx : x ∈ l) : TbL n (cand zs fs l x) := h.perm (cand_perm zs fs h.nd hx).symm

end Go.Proofs.YtkcmlphpilggpaaDoor

/- Lists of numbers that are answered, held as the laws marked them. -/
namespace Go.Proofs.YtkcmlphpilggpaaDoor
open Go.RowKit

def IntsRet (e : Ending) (w' : World) (lo : Nat) (ok : Bool) (zs : List Int) : Prop := ∃ r m d, e = .returned (.tuple #[.slice r m d, .bool ok]) ∧ zs.length = m ∧ w'.ownsRow lo 3 1 (.slice r m d) m (zs.map (.int .i64))
theorem ints_at {w : World} {F : Nat → Prop} {a : Option Addr} {n c : Nat} {zs : List Int} (h : RInts.Own w F [.slice a n c] zs) : At w a zs := (RInts.at_iff.1 (RInts.toAt h)).2.2.1
theorem heldInts_rep (a : Option Addr) (n c : Nat) (zs : List Int) (m : Int) (w : World) (hz : zs.length = n) (hn : n ≤ 1048576) (h0 : 0 ≤ m) (h1 : m ≤ 268435456) (ha : At w a (mkInts m zs)) :
    Calls Tryd.prog 13 #[.slice a n c, .int .i64 m] w fun e w' => e = .returned (.int .i64 (m + n)) ∧ Below w.heap.size w w' := by
  unfold mkInts at ha
  rw [hz] at ha
  exact (heldIntS_any a n c m w hn h0 (by omega) ha).mono fun _ _ ⟨h1, h2⟩ => ⟨h1, by first | exact h2 | (rw [h2]; exact Below.refl _ _)⟩

theorem Off.toBelow {lo hi B : Nat} {a b : World} (h : Off (From lo hi) a b) (hlo : B ≤ lo) (hB : B ≤ a.heap.size) : Below B a b := ⟨h.os, h.tape, h.output, h.size, fun k hk => h.block k (by omega) (fun e => by have := e.1; omega)⟩

end Go.Proofs.YtkcmlphpilggpaaDoor

/- Lists of numbers that are told, and whether. -/
namespace Go.Proofs.YtkcmlphpilggpaaDoor
open Go.RowKit

/-- Lists of columns, and whether. -/
def KeysRet (e : Ending) (w' : World) (lo : Nat) (ok : Bool) (zss : List (List Int)) : Prop := ∃ r m d, e = .returned (.tuple #[.slice r m d, .bool ok]) ∧ RPairs.Own w' (From lo w'.heap.size) [.slice r m d] zss
theorem keysRet_none (w : World) (lo : Nat) {ok : Bool} {ds : List (List Int)} (h1 : ok = false) (h2 : ds = []) : KeysRet (.returned (.tuple #[.slice none 0 0, .bool false])) w lo ok ds := by
  subst h1 h2
  exact ⟨none, 0, 0, rfl, none, 0, 0, [], _, rfl, Laid.none _ _ _ _⟩
theorem atSl_pairK {w : World} {a : Option Addr} {zss : List (List Int)} (h : AtSl RInts w a zss) {k : Nat} {zs : List Int} (hk : zss[k]? = some zs) :
    ∃ b off a' n' c', a = some ⟨b, off, none⟩ ∧ w.cell? ⟨b, off + k, none⟩ = some (.slice a' n' c') ∧ zs.length = n' ∧ n' ≤ 9223372036854775807 ∧ At w a' zs ∧ (a' = none → c' = 0) := by
  have hp : 0 < zss.length := Nat.lt_of_le_of_lt (Nat.zero_le _) (List.getElem?_eq_some_iff.1 hk).1
  obtain ⟨b, off, rfl, hc⟩ := h.each hp
  obtain ⟨cs, h1, a', n', c', rfl, e1, e2, e3, e4⟩ := hc k zs hk
  have g := h1 0 _ rfl
  exact ⟨b, off, a', n', c', rfl, by simpa [RInts, Rep.slice] using g, e1, e2, atSl_int.1 e3, e4⟩
theorem pairs_at {w : World} {F : Nat → Prop} {a : Option Addr} {n c : Nat} {xs : List (List Int)} (h : RPairs.Own w F [.slice a n c] xs) : xs.length = n ∧ AtSl RInts w a xs := by
  obtain ⟨a', n', c', e, h1, _, h3, _⟩ := RPairs.toAt h
  simp only [List.cons.injEq, Value.slice.injEq, and_true] at e
  obtain ⟨rfl, rfl, rfl⟩ := e
  exact ⟨h1, h3⟩

end Go.Proofs.YtkcmlphpilggpaaDoor

/- Contracts of the model's l1Has, l7All, l7Put. -/
namespace Go.Proofs.YtkcmlphpilggpaaDoor
open Go.RowKit

set_option maxHeartbeats 1000000 in
theorem l1Has_any (a : Option Addr) (n c : Nat) (zs : List Int) (x : Int) (w : World) (hz : zs.length = n) (hn : n ≤ 9223372036854775807) (ha : At w a zs) :
    Calls Tryd.prog 42 #[.slice a n c, .int .i64 x] w fun e w' => e = .returned (.bool (decide (x ∈ zs))) ∧ w' = w := by
  by_cases h0 : n = 0
  · subst h0
    obtain rfl := List.eq_nil_of_length_eq_zero hz
    go_enter Tryd.func42, Tryd.ntmps42
    go_wp2
    refine wp_loop_rounds 1 ?_
    rw [rounds_succ]
    go_wp2
    go_ret
    exact ⟨rfl, rfl⟩
  · obtain ⟨b, off, rfl, hb, hc⟩ := ha.some (by omega)
    clear ha
    go_enter Tryd.func42, Tryd.ntmps42
    go_wp2
    go_loopw [9] (fun i wr => ∃ (k : Nat), k ≤ n ∧ i = .int .i64 k ∧ (¬ x ∈ zs.take k) ∧ wr = w) (fun i _ => n - (intOf i).toNat)
    case atStart => exact ⟨0, Nat.zero_le _, rfl, by simp, rfl⟩
    case round =>
      obtain ⟨k, hk, rfl, ht, rfl⟩ := hrel
      by_cases hlt : k < n
      · have hcx : wr.cell? ⟨b, off + k, none⟩ = some (.int .i64 (zs.getD k 0)) := hc k (by omega)
        have hm : zs.getD k 0 ∈ zs := by simp [List.getD, show k < zs.length by omega]
        have hnx : zs.getD k 0 ≠ x → ¬ x ∈ zs.take (k + 1) := fun h => by
          rw [take_succ_getD zs k (by omega)]
          simp only [List.mem_append, List.mem_singleton, not_or]
          exact ⟨ht, fun e => h e.symm⟩
        obtain ⟨y, hy⟩ : ∃ y, y = zs.getD k 0 := ⟨_, rfl⟩
        rw [← hy] at hcx hm hnx
        have HM := Hid.mk hm
        have HN := Hid.mk hnx
        clear hc hm hnx hy ht
        by_cases he : y = x
        · subst he
          go_wp2
          go_ret
          exact ⟨by rw [decide_eq_true HM.out]; rfl, rfl⟩
        · go_wp2
          go_roundw
          case rel => exact ⟨k + 1, by omega, by go_num, HN.out he, trivial⟩
          case measure => simp [intOf]; omega
      · rw [List.take_of_length_le (by omega)] at ht
        have HT := Hid.mk ht
        clear ht
        go_wp2
        go_ret
        exact ⟨by rw [decide_eq_false HT.out]; rfl, rfl⟩

end Go.Proofs.YtkcmlphpilggpaaDoor

/- Contracts of the model's l7Put and l7Closure. -/
namespace Go.Proofs.YtkcmlphpilggpaaDoor
open Go.RowKit

theorem own_cap {w : World} {base : Nat} {e : TypeId} {size : Nat} {a : Option Addr} {n c : Nat} {xs : List Value} (h : w.ownsRow base e size (.slice a n c) n xs) : n ≤ c := by
  rcases h.2 with ⟨h', h0⟩ | ⟨g, cap, cur, h', _, _, h1, _⟩
  · simp at h'; omega
  · simp at h'; omega
theorem at_take {w : World} {b off : Nat} {zs : List Int} (k : Nat) (h : At w (some ⟨b, off, none⟩) zs) : At w (some ⟨b, off, none⟩) (zs.take k) := by
  rcases h with rfl | ⟨b', off', e, hc⟩
  · exact .inl (by simp)
  · refine .inr ⟨b', off', e, fun i hi => ?_⟩
    have hi' : i < zs.length := by have := List.length_take (i := k) (l := zs); omega
    have hik : i < k := by have := List.length_take (i := k) (l := zs); omega
    rw [hc i hi']
    simp [List.getD, hik]
theorem at_drop {w : World} {b off : Nat} {zs : List Int} (k : Nat) (h : At w (some ⟨b, off, none⟩) zs) : At w (some ⟨b, off + k, none⟩) (zs.drop k) := by
  rcases h with rfl | ⟨b', off', e, hc⟩
  · exact .inl (by simp)
  · simp only [Option.some.injEq, Addr.mk.injEq, and_true] at e
    obtain ⟨rfl, rfl⟩ := e
    refine .inr ⟨b, off + k, rfl, fun i hi => ?_⟩
    have hi' : k + i < zs.length := by simp at hi; omega
    rw [Nat.add_assoc, hc (k + i) hi']
    simp [List.getD]

set_option maxRecDepth 100000 in
set_option maxHeartbeats 4000000 in
theorem l7Put_any (B : Nat) (a : Option Addr) (n c : Nat) (zs : List Int) (x : Int) (w : World) (hz : zs.length = n) (hn : n ≤ 2097152) (hB : B ≤ w.heap.size) (ho : w.ownsRow B 3 1 (.slice a n c) n (zs.map (.int .i64))) :
    Calls Tryd.prog 34 #[.slice a n c, .int .i64 x] w fun e w' => ∃ r m d, e = .returned (.slice r m d) ∧ (insI zs x).length = m ∧ w'.ownsRow B 3 1 (.slice r m d) m ((insI zs x).map (.int .i64)) ∧ Below w.heap.size w w' := by
  obtain ⟨i0, hi, hz0, hz1, hz2⟩ := info_parts Tryd.infoInt
  have hat : At w a zs := At.owned ho
  have HC := Hid.mk (l1Has_any a n c zs x w hz (by omega) hat)
  by_cases hx : x ∈ zs
  · have hd : decide (x ∈ zs) = true := decide_eq_true hx
    rw [insI_yes hx]
    rw [hd] at HC
    have HO := Hid.mk ho
    have HZ := Hid.mk hz
    clear hat ho hz hx hd
    go_enter Tryd.func34, Tryd.ntmps34
    go_wp2_with fail
    refine HC.out.mono ?_
    rintro e w1 ⟨rfl, rfl⟩
    go_wp2
    go_ret
    exact ⟨a, n, c, rfl, HZ.out, HO.out, Below.refl _ _⟩
  · have hd : decide (x ∈ zs) = false := decide_eq_false hx
    rw [insI_no hx]
    rw [hd] at HC
    rcases ho.2 with ⟨hv, h0⟩ | ⟨g, cap, cur, hv, hbg, _⟩
    · simp only [Value.slice.injEq] at hv
      obtain ⟨rfl, _, rfl⟩ := hv
      subst h0
      obtain rfl := List.eq_nil_of_length_eq_zero hz
      clear hat ho hx hd
      go_enter Tryd.func34, Tryd.ntmps34
      go_wp2_with fail
      refine HC.out.mono ?_
      rintro e w1 ⟨rfl, rfl⟩
      go_wp2_with fail
      refine wp_loop_rounds 1 ?_
      rw [rounds_succ]
      go_wp2_with (at_builtin; refine wpList_append_all rfl (.tmp 25) (.tmp 28) 22 rfl w1.heap.size 3 i0 (.int .i64 0) 8 Tryd.underlying22 hi hz0 hz1 hz2 rfl (.slice none 0 0) 0 [] rfl (World.ownsRow_nil _ _ _ _) none 0 0 [] rfl rfl (.inl rfl) (fun _ => rfl) (by unfold maxLen; omega) (by omega) (Nat.le_refl _) ?_)
      intro r2 d2 w2 ho2 hg2
      have B2 : Below w1.heap.size w1 w2 := (Below.refl _ _).grown hg2 (Nat.le_refl _) (fun j hj => by cases hj)
      have HO2 := Hid.mk ho2
      have z2 := B2.size
      clear ho2 hg2
      go_wp2_with (at_builtin; refine wpList_append_lies _ rfl (.tmp 30) (.tmp 32) 22 rfl w1.heap.size 3 i0 (.int .i64 0) 1 8 Tryd.underlying22 hi hz0 hz1 hz2 rfl (by decide) _ _ _ rfl (HO2.out.alloc _) ⟨w2.heap.size, 0, none⟩ 1 1 [.int .i64 x] rfl rfl (news_at w2 _ _) (by intro u hu; simp at hu; subst hu; rfl) (by decide) (by unfold maxLen; omega) (by omega) (by simp; omega) (w2.heap.size + 1) (by simp) ?_)
      intro g3 cap3 w3 ho3 hg3 hat3 hlt3
      have B3 : Below w1.heap.size w1 w3 := (B2.alloc z2 _).grown hg3 (by simp; omega) (fun j hj => (HO2.out.lt j hj).1)
      have HO3 := Hid.mk ho3
      have z3 := B3.size
      clear ho3 hg3 hat3 HO2
      go_wp2_with (at_builtin; refine wpList_append_all rfl (.tmp 34) (.tmp 37) 22 rfl w1.heap.size 3 i0 (.int .i64 0) 8 Tryd.underlying22 hi hz0 hz1 hz2 rfl _ _ _ rfl HO3.out none 0 0 [] rfl rfl (.inl rfl) (fun _ => rfl) (by unfold maxLen; omega) (by omega) z3 ?_)
      intro r4 d4 w4 ho4 hg4
      have B4 : Below w1.heap.size w1 w4 := B3.grown hg4 z3 (fun j hj => (HO3.out.lt j hj).1)
      have HO4 := Hid.mk ho4
      clear ho4 hg4 HO3
      go_wp2
      go_ret
      exact ⟨r4, 1, d4, rfl, rfl, owns_mono HO4.out hB, B4⟩
    · simp only [Value.slice.injEq, true_and] at hv
      obtain ⟨rfl, rfl⟩ := hv
      have hcap := own_cap ho
      have hcx : ∀ k, k < n → w.cell? ⟨g, k, none⟩ = some (.int .i64 (zs.getD k 0)) := fun k hk => by
        rw [ho.cellAt k (by omega)]
        simp [List.getD, show k < zs.length by omega]
      have HAT := Hid.mk hat
      have HO := Hid.mk ho
      have HZ := Hid.mk hz
      have HCX := Hid.mk hcx
      clear hat ho hx hd hcx
      go_enter Tryd.func34, Tryd.ntmps34
      go_wp2_with fail
      refine HC.out.mono ?_
      rintro e w1 ⟨rfl, rfl⟩
      go_wp2_with fail
      go_loopw [5] (fun i wr => ∃ (k : Nat), k ≤ n ∧ i = .int .i64 k ∧ (∀ j, j < k → zs.getD j 0 < x) ∧ wr = w1) (fun i _ => n - (intOf i).toNat)
      case atStart => exact ⟨0, Nat.zero_le _, rfl, fun j h => by omega, rfl⟩
      case round =>
        obtain ⟨k, hk, rfl, hle, rfl⟩ := hrel
        have HL := Hid.mk hle
        clear hle
        have stop : (k < n → ¬ zs.getD k 0 < x) → Hid (lessN x zs = k) := fun h => Hid.mk (lessN_is x zs k (by omega) HL.out (fun hk => h (by omega)))
        by_cases hlt : k < n
        · have hc := HCX.out k hlt
          obtain ⟨y, hy⟩ : ∃ y, y = zs.getD k 0 := ⟨_, rfl⟩
          have hnx : y < x → ∀ j, j < k + 1 → zs.getD j 0 < x := fun h j hj => by
            by_cases hjk : j < k
            · exact HL.out j hjk
            · obtain rfl : j = k := by omega
              rw [← hy]; exact h
          rw [← hy] at hc stop
          have HN := Hid.mk hnx
          clear hy hnx
          by_cases hyx : y < x
          · clear stop
            go_wp2
            go_roundw
            case rel => exact ⟨k + 1, by omega, by go_num, HN.out hyx, trivial⟩
            case measure => simp [intOf]; omega
          · have HS := stop (fun _ => hyx)
            clear stop
            have hkn : k ≤ n := hk
            have HTK : Hid ((zs.take k).length = k) := by show _ = _; rw [List.length_take, HZ.out]; omega
            have HDK : Hid ((zs.drop k).length = n - k) := by show _ = _; rw [List.length_drop, HZ.out]
            go_wp2_with (at_builtin; refine wpList_append_all rfl (.tmp 25) (.tmp 28) 22 rfl wr.heap.size 3 i0 (.int .i64 0) 8 Tryd.underlying22 hi hz0 hz1 hz2 rfl (.slice none 0 0) 0 [] rfl (World.ownsRow_nil _ _ _ _) (some ⟨g, 0, none⟩) k c (zs.take k) (by simp [Act.eval]) HTK.out (at_take k HAT.out) (fun h => by cases h) (by unfold maxLen; omega) (by omega) (Nat.le_refl _) ?_)
            intro r2 d2 w2 ho2 hg2
            have B2 : Below wr.heap.size wr w2 := (Below.refl _ _).grown hg2 (Nat.le_refl _) (fun j hj => by cases hj)
            have HO2 := Hid.mk ho2
            have z2 := B2.size
            clear ho2 hg2
            go_wp2_with (at_builtin; refine wpList_append_lies _ rfl (.tmp 30) (.tmp 32) 22 rfl wr.heap.size 3 i0 (.int .i64 0) 1 8 Tryd.underlying22 hi hz0 hz1 hz2 rfl (by decide) _ _ _ rfl (HO2.out.alloc _) ⟨w2.heap.size, 0, none⟩ 1 1 [.int .i64 x] rfl rfl (news_at w2 _ _) (by intro u hu; simp at hu; subst hu; rfl) (by decide) (by unfold maxLen; omega) (by omega) (by simp; omega) (w2.heap.size + 1) (by simp) ?_)
            intro g3 cap3 w3 ho3 hg3 hat3 hlt3
            have B3 : Below wr.heap.size wr w3 := (B2.alloc z2 _).grown hg3 (by simp; omega) (fun j hj => (HO2.out.lt j hj).1)
            have HO3 := Hid.mk ho3
            have z3 := B3.size
            clear ho3 hg3 hat3 HO2
            go_wp2_with (at_builtin; refine wpList_append_all rfl (.tmp 34) (.tmp 37) 22 rfl wr.heap.size 3 i0 (.int .i64 0) 8 Tryd.underlying22 hi hz0 hz1 hz2 rfl _ _ _ rfl HO3.out (some ⟨g, 0 + k, none⟩) (n - k) (c - k) (zs.drop k) (by simp [Act.eval]) HDK.out (at_drop k (At.below HAT.out B3)) (fun h => by cases h) (by unfold maxLen; omega) (by omega) z3 ?_)
            intro r4 d4 w4 ho4 hg4
            have B4 : Below wr.heap.size wr w4 := B3.grown hg4 z3 (fun j hj => (HO3.out.lt j hj).1)
            have HO4 := Hid.mk ho4
            clear ho4 hg4 HO3
            go_wp2
            go_ret
            refine ⟨r4, k + 1 + (n - k), d4, rfl, ?_, ?_, B4⟩
            · rw [HS.out, List.length_append, List.length_cons, HTK.out, HDK.out]; omega
            · have h9 := owns_mono HO4.out hB
              rw [HS.out, List.map_append, List.map_cons]
              simpa using h9
        · have HS := stop (fun h => absurd h hlt)
          clear stop
          by_cases hck : c = k
          · have hck' : k = c := hck.symm
            subst hck'
            have hnk : k = n := by omega
            subst hnk
            have hkn : k ≤ k := hk
            have HTK : Hid ((zs.take k).length = k) := by show _ = _; rw [List.length_take, HZ.out]; omega
            have HDK : Hid ((zs.drop k).length = 0) := by show _ = _; rw [List.length_drop, HZ.out]; omega
            go_wp2_with (at_builtin; refine wpList_append_all rfl (.tmp 25) (.tmp 28) 22 rfl wr.heap.size 3 i0 (.int .i64 0) 8 Tryd.underlying22 hi hz0 hz1 hz2 rfl (.slice none 0 0) 0 [] rfl (World.ownsRow_nil _ _ _ _) (some ⟨g, 0, none⟩) k k (zs.take k) (by simp [Act.eval]) HTK.out (at_take k HAT.out) (fun h => by cases h) (by unfold maxLen; omega) (by omega) (Nat.le_refl _) ?_)
            intro r2 d2 w2 ho2 hg2
            have B2 : Below wr.heap.size wr w2 := (Below.refl _ _).grown hg2 (Nat.le_refl _) (fun j hj => by cases hj)
            have HO2 := Hid.mk ho2
            have z2 := B2.size
            clear ho2 hg2
            go_wp2_with (at_builtin; refine wpList_append_lies _ rfl (.tmp 30) (.tmp 32) 22 rfl wr.heap.size 3 i0 (.int .i64 0) 1 8 Tryd.underlying22 hi hz0 hz1 hz2 rfl (by decide) _ _ _ rfl (HO2.out.alloc _) ⟨w2.heap.size, 0, none⟩ 1 1 [.int .i64 x] rfl rfl (news_at w2 _ _) (by intro u hu; simp at hu; subst hu; rfl) (by decide) (by unfold maxLen; omega) (by omega) (by simp; omega) (w2.heap.size + 1) (by simp) ?_)
            intro g3 cap3 w3 ho3 hg3 hat3 hlt3
            have B3 : Below wr.heap.size wr w3 := (B2.alloc z2 _).grown hg3 (by simp; omega) (fun j hj => (HO2.out.lt j hj).1)
            have HO3 := Hid.mk ho3
            have z3 := B3.size
            clear ho3 hg3 hat3 HO2
            go_wp2_with (at_builtin; refine wpList_append_all rfl (.tmp 34) (.tmp 37) 22 rfl wr.heap.size 3 i0 (.int .i64 0) 8 Tryd.underlying22 hi hz0 hz1 hz2 rfl _ _ _ rfl HO3.out (some ⟨g, 0, none⟩) 0 0 (zs.drop k) (by simp [Act.eval]) HDK.out (.inl (List.drop_of_length_le (by have := HZ.out; omega))) (fun h => by cases h) (by unfold maxLen; omega) (by omega) z3 ?_)
            intro r4 d4 w4 ho4 hg4
            have B4 : Below wr.heap.size wr w4 := B3.grown hg4 z3 (fun j hj => (HO3.out.lt j hj).1)
            have HO4 := Hid.mk ho4
            clear ho4 hg4 HO3
            go_wp2
            go_ret
            refine ⟨r4, k + 1, d4, rfl, ?_, ?_, B4⟩
            · rw [HS.out, List.length_append, List.length_cons, HTK.out, HDK.out]
            · have h9 := owns_mono HO4.out hB
              rw [HS.out, List.map_append, List.map_cons]
              simpa using h9
          · skip
            have hkn : k ≤ n := hk
            have HTK : Hid ((zs.take k).length = k) := by show _ = _; rw [List.length_take, HZ.out]; omega
            have HDK : Hid ((zs.drop k).length = n - k) := by show _ = _; rw [List.length_drop, HZ.out]
            go_wp2_with (at_builtin; refine wpList_append_all rfl (.tmp 25) (.tmp 28) 22 rfl wr.heap.size 3 i0 (.int .i64 0) 8 Tryd.underlying22 hi hz0 hz1 hz2 rfl (.slice none 0 0) 0 [] rfl (World.ownsRow_nil _ _ _ _) (some ⟨g, 0, none⟩) k c (zs.take k) (by simp [Act.eval]) HTK.out (at_take k HAT.out) (fun h => by cases h) (by unfold maxLen; omega) (by omega) (Nat.le_refl _) ?_)
            intro r2 d2 w2 ho2 hg2
            have B2 : Below wr.heap.size wr w2 := (Below.refl _ _).grown hg2 (Nat.le_refl _) (fun j hj => by cases hj)
            have HO2 := Hid.mk ho2
            have z2 := B2.size
            clear ho2 hg2
            go_wp2_with (at_builtin; refine wpList_append_lies _ rfl (.tmp 30) (.tmp 32) 22 rfl wr.heap.size 3 i0 (.int .i64 0) 1 8 Tryd.underlying22 hi hz0 hz1 hz2 rfl (by decide) _ _ _ rfl (HO2.out.alloc _) ⟨w2.heap.size, 0, none⟩ 1 1 [.int .i64 x] rfl rfl (news_at w2 _ _) (by intro u hu; simp at hu; subst hu; rfl) (by decide) (by unfold maxLen; omega) (by omega) (by simp; omega) (w2.heap.size + 1) (by simp) ?_)
            intro g3 cap3 w3 ho3 hg3 hat3 hlt3
            have B3 : Below wr.heap.size wr w3 := (B2.alloc z2 _).grown hg3 (by simp; omega) (fun j hj => (HO2.out.lt j hj).1)
            have HO3 := Hid.mk ho3
            have z3 := B3.size
            clear ho3 hg3 hat3 HO2
            go_wp2_with (at_builtin; refine wpList_append_all rfl (.tmp 34) (.tmp 37) 22 rfl wr.heap.size 3 i0 (.int .i64 0) 8 Tryd.underlying22 hi hz0 hz1 hz2 rfl _ _ _ rfl HO3.out (some ⟨g, 0 + k, none⟩) (n - k) (c - k) (zs.drop k) (by simp [Act.eval]) HDK.out (at_drop k (At.below HAT.out B3)) (fun h => by cases h) (by unfold maxLen; omega) (by omega) z3 ?_)
            intro r4 d4 w4 ho4 hg4
            have B4 : Below wr.heap.size wr w4 := B3.grown hg4 z3 (fun j hj => (HO3.out.lt j hj).1)
            have HO4 := Hid.mk ho4
            clear ho4 hg4 HO3
            go_wp2
            go_ret
            refine ⟨r4, k + 1 + (n - k), d4, rfl, ?_, ?_, B4⟩
            · rw [HS.out, List.length_append, List.length_cons, HTK.out, HDK.out]; omega
            · have h9 := owns_mono HO4.out hB
              rw [HS.out, List.map_append, List.map_cons]
              simpa using h9

end Go.Proofs.YtkcmlphpilggpaaDoor

/- Contracts of tellingOf and implied. -/
namespace Go.Proofs.YtkcmlphpilggpaaDoor
open Go.RowKit

end Go.Proofs.YtkcmlphpilggpaaDoor

/- Contracts of areRising and of the model's l1Some. -/
namespace Go.Proofs.YtkcmlphpilggpaaDoor
open Go.RowKit

set_option maxHeartbeats 1000000 in
theorem areRising_any (a : Option Addr) (n c : Nat) (zs : List Int) (C : Int) (w : World) (hz : zs.length = n) (hn : n ≤ 9223372036854775807) (ha : At w a zs) :
    Calls Tryd.prog 37 #[.slice a n c, .int .i64 C] w fun e w' => e = .returned (.bool (ris C zs)) ∧ Below w.heap.size w w' := by
  by_cases h0 : n = 0
  · subst h0
    obtain rfl := List.eq_nil_of_length_eq_zero hz
    go_enter Tryd.func37, Tryd.ntmps37
    go_wp2
    refine wp_loop_rounds 1 ?_
    rw [rounds_succ]
    go_wp2
    go_ret
    exact ⟨rfl, Below.refl _ _⟩
  · obtain ⟨b, off, rfl, hb, hc⟩ := ha.some (by omega)
    clear ha
    go_enter Tryd.func37, Tryd.ntmps37
    go_wp2
    go_loopw [5, 10] (fun p i wr => ∃ (k : Nat) (q : Int), k ≤ n ∧ i = .int .i64 k ∧ p = .int .i64 q ∧ ris C zs = risB C q (zs.drop k) ∧ Below w.heap.size w wr) (fun _ i _ => n - (intOf i).toNat)
    case atStart => exact ⟨0, -1, Nat.zero_le _, rfl, rfl, rfl, Below.refl _ _⟩
    case round =>
      obtain ⟨k, q, hk, rfl, rfl, ht, hbw⟩ := hrel
      by_cases hlt : k < n
      · have hcx : wr.cell? ⟨b, off + k, none⟩ = some (.int .i64 (zs.getD k 0)) := (hbw.cell hb).trans (hc k (by omega))
        rw [risB_step _ _ _ _ (by omega)] at ht
        obtain ⟨x, hx⟩ : ∃ x, x = zs.getD k 0 := ⟨_, rfl⟩
        rw [← hx] at hcx ht
        have HT := Hid.mk ht
        clear hx ht hc
        by_cases c1 : x ≤ q
        · go_wp2
          go_ret
          exact ⟨by rw [HT.out, decide_eq_false (by omega : ¬ q < x)]; rfl, hbw⟩
        · by_cases c2 : C ≤ x
          · go_wp2
            go_ret
            exact ⟨by rw [HT.out, decide_eq_false (by omega : ¬ x < C)]; simp, hbw⟩
          · go_wp2
            go_roundw
            case rel => exact ⟨k + 1, x, by omega, by go_num, rfl, by rw [HT.out, decide_eq_true (by omega : q < x), decide_eq_true (by omega : x < C)]; rfl, hbw⟩
            case measure => simp [intOf]; omega
      · have HT := Hid.mk ht
        clear ht
        go_wp2
        go_ret
        exact ⟨by rw [HT.out, risB_done _ _ _ _ (by omega)]; rfl, hbw⟩

set_option maxHeartbeats 2000000 in
theorem l1Some_any (a : Option Addr) (n c : Nat) (zs : List Int) (C : Int) (w : World) (hz : zs.length = n) (hn : n ≤ 9223372036854775807) (ha : At w a zs) :
    Calls Tryd.prog 24 #[.slice a n c, .int .i64 C] w fun e w' => e = .returned (.bool (ris C zs)) ∧ Below w.heap.size w w' := by
  by_cases h0 : n = 0
  · subst h0
    obtain rfl := List.eq_nil_of_length_eq_zero hz
    go_enter Tryd.func24, Tryd.ntmps24
    go_wp2
    refine wp_loop_rounds 1 ?_
    rw [rounds_succ]
    go_wp2
    go_ret
    exact ⟨rfl, Below.refl _ _⟩
  · obtain ⟨b, off, rfl, hb, hc⟩ := ha.some (by omega)
    clear ha
    go_enter Tryd.func24, Tryd.ntmps24
    go_wp2
    go_loopw [9] (fun i wr => ∃ (k : Nat), k ≤ n ∧ i = .int .i64 k ∧ ris C zs = risB C (if k = 0 then -1 else zs.getD (k - 1) 0) (zs.drop k) ∧ (0 < k → 0 ≤ zs.getD (k - 1) 0) ∧ Below w.heap.size w wr) (fun i _ => n - (intOf i).toNat)
    case atStart => exact ⟨0, Nat.zero_le _, rfl, rfl, fun h => absurd h (by omega), Below.refl _ _⟩
    case round =>
      obtain ⟨k, hk, rfl, ht, hp, hbw⟩ := hrel
      by_cases hlt : k < n
      · have hcx : wr.cell? ⟨b, off + k, none⟩ = some (.int .i64 (zs.getD k 0)) := (hbw.cell hb).trans (hc k (by omega))
        rw [risB_step _ _ _ _ (by omega)] at ht
        obtain ⟨x, hx⟩ : ∃ x, x = zs.getD k 0 := ⟨_, rfl⟩
        have HX : Hid (zs.getD (k + 1 - 1) 0 = x) := by show _ = _; rw [Nat.add_sub_cancel, hx]
        rw [← hx] at hcx ht
        by_cases k0 : k = 0
        · rw [if_pos k0] at ht
          have HT := Hid.mk ht
          have HK := Hid.mk k0
          have hk0 : decide (0 < k) = false := decide_eq_false (by omega)
          have hk0' : ¬ (0 : Int) < (k : Int) := by omega
          clear hx ht hc hp k0
          by_cases c1 : x < 0
          · go_wp2
            go_ret
            exact ⟨by rw [HT.out, decide_eq_false (by omega : ¬ (-1 : Int) < x)]; rfl, hbw⟩
          · by_cases c2 : C ≤ x
            · go_wp2
              go_ret
              exact ⟨by rw [HT.out, decide_eq_false (by omega : ¬ x < C)]; simp, hbw⟩
            · go_wp2
              go_roundw
              case rel => exact ⟨k + 1, by omega, by go_num, by rw [HT.out, if_neg (by omega), HX.out, decide_eq_true (by omega : (-1 : Int) < x), decide_eq_true (by omega : x < C)]; rfl, fun _ => by rw [HX.out]; omega, hbw⟩
              case measure => simp [intOf]; omega
        · have hcp : wr.cell? ⟨b, off + (k - 1), none⟩ = some (.int .i64 (zs.getD (k - 1) 0)) := (hbw.cell hb).trans (hc (k - 1) (by omega))
          rw [if_neg k0] at ht
          have hp0 := hp (by omega)
          obtain ⟨q, hq⟩ : ∃ q, q = zs.getD (k - 1) 0 := ⟨_, rfl⟩
          rw [← hq] at hcp ht hp0
          have HT := Hid.mk ht
          have hk1 : 0 < k := by omega
          have hk1' : (0 : Int) < (k : Int) := by omega
          have hw : IntKind.i64.wrap ((k : Int) - 1) = ((k - 1 : Nat) : Int) := by rw [IntWalk.i64_in _ (by omega)]; omega
          have hkn : k - 1 < n := by omega
          clear hx ht hc hp hq k0
          by_cases c1 : x < 0
          · go_wp2
            go_ret
            exact ⟨by rw [HT.out, decide_eq_false (by omega : ¬ q < x)]; rfl, hbw⟩
          · by_cases c2 : C ≤ x
            · go_wp2
              go_ret
              exact ⟨by rw [HT.out, decide_eq_false (by omega : ¬ x < C)]; simp, hbw⟩
            · by_cases c3 : x ≤ q
              · go_wp2
                go_ret
                exact ⟨by rw [HT.out, decide_eq_false (by omega : ¬ q < x)]; rfl, hbw⟩
              · go_wp2
                go_roundw
                case rel => exact ⟨k + 1, by omega, by go_num, by rw [HT.out, if_neg (by omega), HX.out, decide_eq_true (by omega : q < x), decide_eq_true (by omega : x < C)]; rfl, fun _ => by rw [HX.out]; omega, hbw⟩
                case measure => simp [intOf]; omega
      · have HT := Hid.mk ht
        clear ht
        go_wp2
        go_ret
        exact ⟨by rw [HT.out, risB_done _ _ _ _ (by omega)]; rfl, hbw⟩

end Go.Proofs.YtkcmlphpilggpaaDoor

/- Contract of spec.l1In. -/
namespace Go.Proofs.YtkcmlphpilggpaaDoor
open Go.RowKit

theorem l1In_any (x lo hi : Int) (w : World) :
    Calls Tryd.prog 31 #[.int .i64 x, .int .i64 lo, .int .i64 hi] w fun e w' => e = .returned (.bool (decide (lo ≤ x) && decide (x ≤ hi))) ∧ w' = w := by
  by_cases h : lo ≤ x
  · have h1 : decide (lo ≤ x) = true := decide_eq_true h
    go_enter Tryd.func31, Tryd.ntmps31
    go_wp2
    go_ret
    exact ⟨ret_bool (by simp [h]), rfl⟩
  · have h1 : decide (lo ≤ x) = false := decide_eq_false h
    go_enter Tryd.func31, Tryd.ntmps31
    go_wp2
    go_ret
    exact ⟨ret_bool (by simp), rfl⟩

end Go.Proofs.YtkcmlphpilggpaaDoor

/- Contracts of impl.goodColumns and impl.someColumns. -/
namespace Go.Proofs.YtkcmlphpilggpaaDoor
open Go.RowKit

end Go.Proofs.YtkcmlphpilggpaaDoor

/- Contracts of areRising and GoodDepends, the program's and the model's. -/
namespace Go.Proofs.YtkcmlphpilggpaaDoor
open Go.RowKit

end Go.Proofs.YtkcmlphpilggpaaDoor

/- Contracts of tellingsOf and goodDepend. -/
namespace Go.Proofs.YtkcmlphpilggpaaDoor
open Go.RowKit

def flatT (l : List (Nat × Nat)) : List Value := l.flatMap fun d => [.int .u64 (d.1 : Int), .int .u64 (d.2 : Int)]
theorem flatT_len (l : List (Nat × Nat)) : (flatT l).length = l.length * 2 := by
  induction l with
  | nil => rfl
  | cons x l ih => simp only [flatT, List.flatMap_cons, List.length_append] at ih ⊢; rw [ih]; simp; omega
theorem flatT_push (l : List (Nat × Nat)) (x : Nat × Nat) : flatT (l ++ [x]) = flatT l ++ [.int .u64 (x.1 : Int), .int .u64 (x.2 : Int)] := by simp [flatT]
theorem flatT_at : ∀ (l : List (Nat × Nat)) (i : Nat) (x : Nat × Nat), l[i]? = some x → (flatT l)[i * 2]? = some (.int .u64 (x.1 : Int)) ∧ (flatT l)[i * 2 + 1]? = some (.int .u64 (x.2 : Int))
  | y :: l, 0, x, h => by
    simp at h
    subst h
    simp [flatT]
  | y :: l, i + 1, x, h => by
    have ih := flatT_at l i x (by simpa using h)
    have e : flatT (y :: l) = .int .u64 (y.1 : Int) :: .int .u64 (y.2 : Int) :: flatT l := rfl
    rw [e, show (i + 1) * 2 = i * 2 + 1 + 1 by omega]
    simpa using ih
theorem dms_take {xs : List Dep} {k : Nat} {x : Dep} (h : xs[k]? = some x) : (dms xs).take (k + 1) = (dms xs).take k ++ [dm x] := by
  obtain ⟨hk, rfl⟩ := List.getElem?_eq_some_iff.1 h
  rw [List.take_succ_eq_append_getElem (by simpa [dms] using hk)]
  simp [dms]
/-- Each number of each dependency is a column. -/
def Cols (xs : List Dep) : Prop := ∀ d ∈ xs, (∀ x ∈ d.1, 0 ≤ x ∧ x < 6) ∧ (∀ x ∈ d.2, 0 ≤ x ∧ x < 6)
theorem Cols.of {xs : List Dep} {C : Int} (h : goodDeps xs C = true) : Cols xs := by
  simp only [goodDeps, allDep, goodDep, Bool.and_eq_true, decide_eq_true_eq, List.all_eq_true] at h
  obtain ⟨_, h2, _, h4⟩ := h
  exact fun d hd => ⟨ris_in h2 (h4 d hd).1, ris_in h2 (h4 d hd).2⟩
theorem Cols.sets {xs : List Dep} (h : Cols xs) : Sets (dms xs) := by
  intro d hd
  obtain ⟨e, he, rfl⟩ := List.mem_map.1 hd
  exact ⟨mk_lt6 (h e he).1, mk_lt6 (h e he).2⟩

theorem goodDeps_one (C : Int) (d : Dep) : goodDeps [d] C = (decide (1 ≤ C) && (decide (C ≤ 6) && goodDep C d)) := by
  unfold goodDeps allDep
  simp

end Go.Proofs.YtkcmlphpilggpaaDoor

/- Contract of the model's l7Closure. -/
namespace Go.Proofs.YtkcmlphpilggpaaDoor
open Go.RowKit

theorem owns_void (w : World) (e : TypeId) (size : Nat) : (w.alloc (.cells #[] e)).ownsRow w.heap.size e size (.slice (some ⟨w.heap.size, 0, none⟩) 0 0) 0 [] :=
  ⟨by simp, .inr ⟨w.heap.size, 0, #[], rfl, Nat.le_refl _, heap_alloc_new w _, by simp, by simp, by simp, by simp⟩⟩

/-- A rising list of columns: it is told by its set. -/
structure Told (l : List Int) : Prop where
  intro ::
  is : bl (mk l) = l
  lt : mk l < 64
theorem Told.of {c : Int} {l : List Int} (hc : c ≤ 6) (h : ris c l = true) : Told l := ⟨bl_mk hc h, mk_lt hc h⟩
theorem Told.in {l : List Int} (h : Told l) : ∀ x ∈ l, 0 ≤ x ∧ x < 6 := fun x hx => bl_in (s := mk l) (by rw [h.is]; exact hx)
theorem Told.len {l : List Int} (h : Told l) : l.length ≤ 6 := by have := bl_len (mk l); rw [h.is] at this; exact this
def Tolds (xs : List Dep) : Prop := ∀ d ∈ xs, Told d.1 ∧ Told d.2
theorem Tolds.of {xs : List Dep} {C : Int} (h : goodDeps xs C = true) : Tolds xs := by
  simp only [goodDeps, allDep, goodDep, Bool.and_eq_true, decide_eq_true_eq, List.all_eq_true] at h
  obtain ⟨_, h2, _, h4⟩ := h
  exact fun d hd => ⟨Told.of h2 (h4 d hd).1, Told.of h2 (h4 d hd).2⟩
theorem mk_take_bl {s : Nat} {zs : List Int} {k : Nat} (hs : s < 64) (hz : ∀ x ∈ zs, 0 ≤ x ∧ x < 6) (hk : k < zs.length) : insI (bl (s ||| mk (zs.take k))) (zs.getD k 0) = bl (s ||| mk (zs.take (k + 1))) := by
  have hx : zs.getD k 0 ∈ zs := by simp [List.getD, hk]
  rw [insI_bl (or_lt64 hs (mk_lt6 fun y hy => hz y (List.mem_of_mem_take hy))) (hz _ hx).1 (hz _ hx).2, mk_take hk, Nat.or_assoc]

end Go.Proofs.YtkcmlphpilggpaaDoor
