/- Several texts of one proof, in build order: SwP, RdP, WfP, AsE, RepD, Blk, AsF, KrR, LsK. -/
import Derived.Test.YtjjebodlekepaaaDoorM4
import Derived.Test.YtjjebodlekepaaaDoorM6
import Derived.Test.YtjjebodlekepaaaDoorM5
import Derived.WalkKit
import Derived.LaidEql
import Derived.Stop.Asserts
import Derived.RowKitTokens
import Derived.Test.YtjjebodlekepaaaDoorM3
import Derived.Test.YtjjebodlekepaaaDoorM1
import Derived.Test.YtjjebodlekepaaaDoorM8

/- Plain: two steps that change places; what is told of steps. -/
namespace Go.Proofs.YtjjebodlekepaaaDoor
open Go.RowKit

def stM (xs : List TStep) (k : Nat) : TStep := xs.getD k (0, 0, 0)
theorem stM_at {xs : List TStep} {k : Nat} {x : TStep} (h : xs[k]? = some x) : stM xs k = x := by
  unfold stM; rw [List.getD_eq_getElem?_getD, h]; rfl
def swB (xs : List TStep) (k : Int) : Bool := gpB xs && (decide (0 ≤ k) && (decide (k < (xs.length : Int) - 1) && (decide ((stM xs k.toNat).1 ≠ (stM xs (k.toNat + 1)).1) && !clB (stM xs k.toNat) (stM xs (k.toNat + 1)))))
def swL (xs : List TStep) (k : Int) : List TStep := if swB xs k then xs.take k.toNat ++ (stM xs (k.toNat + 1) :: stM xs k.toNat :: xs.drop (k.toNat + 2)) else []
theorem swL_len (xs : List TStep) (k : Int) : (swL xs k).length ≤ 40 := by
  unfold swL
  split
  · rename_i h
    simp only [swB, Bool.and_eq_true, decide_eq_true_eq] at h
    have := gp_len h.1
    simp only [List.length_append, List.length_take, List.length_cons, List.length_drop]
    omega
  · simp
theorem swB_bad {xs : List TStep} {k : Int} (h : gpB xs = false) : swB xs k = false := by unfold swB; rw [h]; rfl
theorem swB_low {xs : List TStep} {k : Int} (h : k < 0) : swB xs k = false := by unfold swB; rw [decide_eq_false (by omega)]; simp
theorem swB_high {xs : List TStep} {k : Int} (h : (xs.length : Int) - 1 ≤ k) : swB xs k = false := by unfold swB; rw [decide_eq_false (show ¬ k < (xs.length : Int) - 1 by omega)]; simp
theorem swB_in {xs : List TStep} {p : Nat} {x y : TStep} (h : gpB xs = true) (hx : xs[p]? = some x) (hy : xs[p + 1]? = some y) : swB xs (p : Int) = (decide (x.1 ≠ y.1) && !clB x y) := by
  have := (List.getElem?_eq_some_iff.1 hy).1
  unfold swB
  rw [h, decide_eq_true (show (0 : Int) ≤ (p : Int) by omega), decide_eq_true (show (p : Int) < (xs.length : Int) - 1 by omega), Int.toNat_natCast, stM_at hx, stM_at hy]; rfl
theorem swL_in {xs : List TStep} {p : Nat} {x y : TStep} (h : swB xs (p : Int) = true) (hx : xs[p]? = some x) (hy : xs[p + 1]? = some y) : swL xs (p : Int) = xs.take p ++ (y :: x :: xs.drop (p + 2)) := by
  unfold swL; rw [h, Int.toNat_natCast, stM_at hx, stM_at hy]; rfl
theorem swL_no {xs : List TStep} {k : Int} (h : swB xs k = false) : swL xs k = [] := by unfold swL; rw [h]; rfl
theorem swap_set {xs : List TStep} {p : Nat} {x y : TStep} (hx : xs[p]? = some x) (hy : xs[p + 1]? = some y) : (xs.set p y).set (p + 1) x = xs.take p ++ (y :: x :: xs.drop (p + 2)) := by
  have hp := (List.getElem?_eq_some_iff.1 hx).1
  have hp1 := (List.getElem?_eq_some_iff.1 hy).1
  have e : xs = xs.take p ++ (x :: y :: xs.drop (p + 2)) := by
    conv => lhs; rw [← List.take_append_drop p xs]
    rw [List.drop_eq_getElem_cons hp, List.drop_eq_getElem_cons hp1, (List.getElem?_eq_some_iff.1 hx).2, (List.getElem?_eq_some_iff.1 hy).2]
  obtain ⟨A, hA⟩ : ∃ A, xs.take p = A := ⟨_, rfl⟩
  obtain ⟨B, hB⟩ : ∃ B, xs.drop (p + 2) = B := ⟨_, rfl⟩
  have hl : A.length = p := by rw [← hA, List.length_take]; omega
  rw [hA, hB] at e ⊢
  rw [e, ← hl]
  simp
def StepsRet (e : Ending) (w' : World) (lo : Nat) (ok : Bool) (ta : List TStep) : Prop :=
  ∃ r m d, e = .returned (.tuple #[.slice r m d, .bool ok]) ∧ ta.length = m ∧ w'.ownsRow lo 51 3 (.slice r m d) m ((flStep ta).map (.int .i64))
theorem StepsRet.no {w' : World} {lo : Nat} : StepsRet (.returned (.tuple #[.slice none 0 0, .bool false])) w' lo false [] :=
  ⟨none, 0, 0, rfl, rfl, World.ownsRow_nil _ _ _ _⟩

end Go.Proofs.YtjjebodlekepaaaDoor

/- Plain: the steps of those that have ended; a lock looked up. -/
namespace Go.Proofs.YtjjebodlekepaaaDoor
open Go.RowKit

def ofD (D : List Int) (l : List TStep) : List TStep := l.filter fun x => decide (x.1 ∈ D)
def rdL (k : TLk) : List TStep := if glB k then ofD k.2.2.2.1 k.2.2.1 else []
theorem gl_run {x0 x1 x2 : List TStep} {x3 x4 : List Int} (h : glB (x0, x1, x2, x3, x4) = true) : gpB x2 = true := by
  unfold glB at h
  simp only [Bool.and_eq_true] at h
  exact h.1.1.1.1.1.1.1.2
theorem gl_held {x0 x1 x2 : List TStep} {x3 x4 : List Int} (h : glB (x0, x1, x2, x3, x4) = true) : gpB x0 = true ∧ heldB x0 = true := by
  unfold glB at h
  simp only [Bool.and_eq_true] at h
  exact ⟨h.1.1.1.1.1.1.1.1.1, h.1.1.1.1.1.1.2⟩
theorem gl_waits {x0 x1 x2 : List TStep} {x3 x4 : List Int} (h : glB (x0, x1, x2, x3, x4) = true) : gpB x1 = true := by
  unfold glB at h
  simp only [Bool.and_eq_true] at h
  exact h.1.1.1.1.1.1.1.1.2
theorem rdL_len (k : TLk) : (rdL k).length ≤ 40 := by
  unfold rdL
  split
  · rename_i h
    exact Nat.le_trans (List.length_filter_le _ _) (gp_len (gl_run h))
  · simp
theorem ofD_take {D : List Int} {l : List TStep} {k : Nat} {x : TStep} (h : l[k]? = some x) : ofD D (l.take (k + 1)) = ofD D (l.take k) ++ (if x.1 ∈ D then [x] else []) := by
  obtain ⟨hk, rfl⟩ := List.getElem?_eq_some_iff.1 h
  unfold ofD
  rw [List.take_succ_eq_append_getElem hk, List.filter_append]
  congr 1
  by_cases hm : l[k].1 ∈ D
  · rw [if_pos hm]; simp [hm]
  · rw [if_neg hm]; simp [hm]

end Go.Proofs.YtjjebodlekepaaaDoor

/- Plain: who waits for whom. -/
namespace Go.Proofs.YtjjebodlekepaaaDoor
open Go.RowKit

def wfO (H W : List TStep) : Nat → List Nat
  | 0 => List.replicate 6 0
  | k + 1 => (wfO H W k).set (W.getD k z3).1.toNat (byF H (W.getD k z3))
def wfL (k : TLk) : List (List Int) := if glB k then (wfO k.1 k.2.1 k.2.1.length).map bl else []
theorem wfO_succ {H W : List TStep} {k : Nat} {x : TStep} (h : W[k]? = some x) : wfO H W (k + 1) = (wfO H W k).set x.1.toNat (byF H x) := by
  rw [wfO, List.getD_eq_getElem?_getD, h]; rfl
theorem wfO_six {H : List TStep} (hH : ∀ y ∈ H, y.1 < 6) (W : List TStep) : ∀ k, Six (wfO H W k)
  | 0 => ⟨by simp [wfO], fun c hc => by simp [wfO] at hc; omega⟩
  | k + 1 => (wfO_six hH W k).set _ (byF_lt hH)
theorem wfO_other {H W : List TStep} {t : Nat} : ∀ k, k ≤ W.length → (∀ j x, j < k → W[j]? = some x → x.1.toNat ≠ t) → (wfO H W k).getD t 0 = 0
  | 0, _, _ => by
    show (List.replicate 6 0).getD t 0 = 0
    rw [List.getD_eq_getElem?_getD, List.getElem?_replicate]
    split <;> rfl
  | k + 1, hk, h => by
    obtain ⟨x, hx⟩ : ∃ x, W[k]? = some x := ⟨_, List.getElem?_eq_getElem (by omega)⟩
    rw [wfO_succ hx, List.getD_eq_getElem?_getD, List.getElem?_set_ne (h k x (by omega) hx), ← List.getD_eq_getElem?_getD]
    exact wfO_other k (by omega) (fun j y hj hy => h j y (by omega) hy)
theorem wfO_fresh {H W : List TStep} (hn : (txL W).Nodup) (hW : ∀ y ∈ W, 0 ≤ y.1) {k : Nat} {x : TStep} (hx : W[k]? = some x) : (wfO H W k).getD x.1.toNat 0 = 0 := by
  obtain ⟨hk, rfl⟩ := List.getElem?_eq_some_iff.1 hx
  refine wfO_other k (by omega) fun j y hj hy e => ?_
  obtain ⟨hj', rfl⟩ := List.getElem?_eq_some_iff.1 hy
  have h1 := List.pairwise_iff_getElem.1 hn j k (by unfold txL; rw [List.length_map]; exact hj') (by unfold txL; rw [List.length_map]; exact hk) hj
  unfold txL at h1
  rw [List.getElem_map, List.getElem_map] at h1
  have h2 := hW _ (List.getElem_mem hj')
  have h3 := hW _ (List.getElem_mem hk)
  exact h1 (by omega)
theorem set_same {cs : List Nat} {t v : Nat} (h : cs.getD t 0 = v) : cs.set t v = cs := by
  by_cases ht : t < cs.length
  · have : cs[t] = v := by rw [← h]; simp [List.getD, ht]
    rw [← this, List.set_getElem_self]
  · rw [List.set_eq_of_length_le (by omega)]
theorem set_getD {cs : List Nat} {t v : Nat} (ht : t < cs.length) : (cs.set t v).getD t 0 = v := by
  simp [List.getD, ht]
theorem gl_nodup {x0 x1 x2 : List TStep} {x3 x4 : List Int} (h : glB (x0, x1, x2, x3, x4) = true) : (txL x1).Nodup := by
  unfold glB at h
  simp only [Bool.and_eq_true, decide_eq_true_eq] at h
  exact h.1.1.1.2

end Go.Proofs.YtjjebodlekepaaaDoor

/- errors.As at a heldUp, by its contracts: an error that is nil, and one that is a heldUp. Closed facts on the model's entries for internal/reflectlite at this dump's numbers, and laws on those that read or write memory. -/
namespace Go.Proofs.YtjjebodlekepaaaDoor
open Go.RowKit Go.Extern.Stop Go.Stop Go.Extern

/-- errors.As(nil, target). -/
theorem as_nil (t : Value) (w : World) :
    Calls Tryd.prog 62 #[.nilIface, t] w fun e w' => e = .returned (.bool false) ∧ w' = w := by
  go_enter Tryd.func62, Tryd.ntmps62
  go_wp2
  go_ret
  exact ⟨rfl, rfl⟩

abbrev tH : Value := .pointer (some ⟨4, 87, none⟩)
abbrev tP : Value := .pointer (some ⟨4, 89, none⟩)
abbrev tE : Value := .pointer (some ⟨4, 75, none⟩)
theorem Tryd.valueOfP (t : Addr) (w : World) : (ReflectliteValue.unpack (.iface 89 (.pointer (some t)))).run Tryd.prog w
    = .ok (.agg #[tP, .pointer (some ⟨w.heap.size, 0, none⟩), .int .u64 150]) (w.alloc (.cells #[.pointer (some t)] 89)) := by kernel_rfl
theorem Tryd.typeP (a : Addr) (w : World) : (ReflectliteValue.methodAny (ReflectliteValue.valueError "reflectlite.Value.Type" 0) (fun t _ _ _ => ReflectliteType.toType t) #[.agg #[tP, .pointer (some a), .int .u64 150]]).run Tryd.prog w
    = .ok (.iface 115 (.agg #[tP])) w := by kernel_rfl
theorem Tryd.methodKind (h : Value) (w : World) : (Go.method 261 115 (.agg #[h]) "Kind").run Tryd.prog w = .ok (94, h) w := by kernel_rfl
theorem Tryd.kindP (w : World) : ((ReflectliteType.abiMethod fun t => (fun a : Nat => Value.int IntKind.u8 (a : Int)) <$> Rtype.kind t) #[tP]).run Tryd.prog w = .ok (.int .u8 22) w := by kernel_rfl
theorem Tryd.kindH (w : World) : ((ReflectliteType.abiMethod fun t => (fun a : Nat => Value.int IntKind.u8 (a : Int)) <$> Rtype.kind t) #[tH]).run Tryd.prog w = .ok (.int .u8 25) w := by kernel_rfl
theorem rlm (z : Sem Value) (f : TypeId → Addr → Nat → Nat → Sem Value) (v : Value) :
    ReflectliteValue.method z f #[v] = (do match ← ReflectliteValue.parts v with | none => z | some (t, a, fl) => f t a fl (fl % 32)) := rfl
theorem Tryd.partsP (a : Addr) (w : World) : (ReflectliteValue.parts (.agg #[tP, .pointer (some a), .int .u64 150])).run Tryd.prog w = .ok (some (89, a, 150)) w := by kernel_rfl
theorem Tryd.isNilP (a p : Addr) (W : World) (ha : W.cell? a = some (.pointer (some p))) :
    (ReflectliteValue.method (ReflectliteValue.valueError "reflectlite.Value.IsNil" 0) ReflectliteValue.isNil #[.agg #[tP, .pointer (some a), .int .u64 150]]).run Tryd.prog W = .ok (.bool false) W := by
  rw [rlm]
  simp only [Sem.run_bind, Tryd.partsP, Result.andThen]
  simp [ReflectliteValue.isNil, loadVar, isAgg, underlying, Tryd.underlying89, ha, Result.andThen]
theorem Tryd.methodElem (h : Value) (w : World) : (Go.method 261 115 (.agg #[h]) "Elem").run Tryd.prog w = .ok (105, .agg #[h]) w := by kernel_rfl
theorem Tryd.methodImplements (h : Value) (w : World) : (Go.method 261 115 (.agg #[h]) "Implements").run Tryd.prog w = .ok (106, .agg #[h]) w := by kernel_rfl
theorem Tryd.methodAssignableTo (h : Value) (w : World) : (Go.method 261 115 (.agg #[h]) "AssignableTo").run Tryd.prog w = .ok (103, .agg #[h]) w := by kernel_rfl
theorem Tryd.elemP (w : World) : (ReflectliteType.method ReflectliteType.elem #[.agg #[tP]]).run Tryd.prog w = .ok (.iface 115 (.agg #[tH])) w := by kernel_rfl
theorem Tryd.implementsH (w : World) : (ReflectliteType.relation "Implements" ReflectliteType.implements_ #[.agg #[tH], .iface 115 (.agg #[tE])]).run Tryd.prog w = .ok (.bool true) w := by kernel_rfl
theorem Tryd.typeOfH (v : Value) (w : World) : (ReflectliteType.typeOf #[.iface 87 v]).run Tryd.prog w = .ok (.iface 115 (.agg #[tH])) w := by kernel_rfl
theorem Tryd.assignableH (w : World) : (ReflectliteType.relation "AssignableTo" ReflectliteType.assignableTo #[.agg #[tH], .iface 115 (.agg #[tH])]).run Tryd.prog w = .ok (.bool true) w := by kernel_rfl
theorem Tryd.valueOfH (B : Int) (w : World) : (ReflectliteValue.unpack (.iface 87 (.agg #[.int .u64 B]))).run Tryd.prog w
    = .ok (.agg #[tH, .pointer (some ⟨w.heap.size, 0, none⟩), .int .u64 153]) (w.alloc (.cells #[.int .u64 B] 87)) := by kernel_rfl
theorem Tryd.elemOfP (w : World) : (Rtype.elem? 89).run Tryd.prog w = .ok (some 87) w := by kernel_rfl
theorem Tryd.mkH (p : Addr) (w : World) : (ReflectliteValue.mk 87 p ReflectliteValue.flagAddr).run Tryd.prog w = .ok (.agg #[tH, .pointer (some p), .int .u64 409]) w := by kernel_rfl
theorem Tryd.elemVP (a p : Addr) (W : World) (ha : W.cell? a = some (.pointer (some p))) :
    (ReflectliteValue.method (ReflectliteValue.valueError "reflectlite.Value.Elem" 0) ReflectliteValue.elem #[.agg #[tP, .pointer (some a), .int .u64 150]]).run Tryd.prog W
      = .ok (.agg #[tH, .pointer (some p), .int .u64 409]) W := by
  rw [rlm]
  simp only [Sem.run_bind, Tryd.partsP, Result.andThen]
  simp [ReflectliteValue.elem, loadVar, isAgg, underlying, Tryd.underlying89, ha, Result.andThen, Tryd.elemOfP, Tryd.mkH]
theorem rls (v x : Value) : ReflectliteValue.set #[v, x] = (do
    let (some (dst, a, fl), some (src, b, _)) := (← ReflectliteValue.parts v, ← ReflectliteValue.parts x)
      | unsupported (.noEntry "extern/(internal/reflectlite.Value).Set.zeroValue")
    if fl / ReflectliteValue.flagAddr % 2 == 0 then unsupported (.noEntry "extern/(internal/reflectlite.Value).Set.unaddressable")
    let val ← loadVar src b
    if ← Rtype.directlyAssignable dst src then storeVar dst a val
    else if ← Rtype.implements dst src then
      if (← Rtype.kind src) == 20 then
        match val with
        | .nilIface => unsupported (.noEntry "extern/reflectlite: a nil value of one interface type handed on as a value of another")
        | _ => storeVar dst a val
      else storeVar dst a (.iface src val)
    else panicString ("reflectlite.Set: value of type " ++ (← Rtype.spelt src) ++ " is not assignable to type " ++ (← Rtype.spelt dst))
    pure (.tuple #[])) := rfl
theorem Tryd.partsHa (a : Addr) (w : World) : (ReflectliteValue.parts (.agg #[tH, .pointer (some a), .int .u64 409])).run Tryd.prog w = .ok (some (87, a, 409)) w := by kernel_rfl
theorem Tryd.partsH (a : Addr) (w : World) : (ReflectliteValue.parts (.agg #[tH, .pointer (some a), .int .u64 153])).run Tryd.prog w = .ok (some (87, a, 153)) w := by kernel_rfl
theorem Tryd.directH (w : World) : (Rtype.directlyAssignable 87 87).run Tryd.prog w = .ok true w := by kernel_rfl
theorem Tryd.sizeH (w : World) : (sizeOf 87).run Tryd.prog w = .ok 1 w := by kernel_rfl
theorem Tryd.isAggH (w : World) : (isAgg 87).run Tryd.prog w = .ok true w := by kernel_rfl

end Go.Proofs.YtjjebodlekepaaaDoor

/- The laws' copies of slices of numbers, of slices of numbers, as things that are owned. -/
namespace Go.Proofs.YtjjebodlekepaaaDoor
open Go.RowKit

theorem toInts_rep (a : Option Addr) (n c : Nat) (zs : List Int) (w : World) (hz : zs.length = n) (hn : n ≤ 1048576) (ha : At w a zs) :
    Calls Tryd.prog 32 #[.slice a n c] w fun e w' => ∃ g, e = .returned (.slice (some ⟨g, 0, none⟩) n n) ∧ RInts.Own w' (From w.heap.size w'.heap.size) [.slice (some ⟨g, 0, none⟩) n n] zs ∧ Below w.heap.size w w' :=
  (toIntS_any a n c zs w hz hn ha).mono fun _ _ ⟨h1, h2, h3⟩ => ⟨_, h1, RInts.of_owns hz (by omega) h2, h3⟩
end Go.Proofs.YtjjebodlekepaaaDoor

/- A block of cells that a function holds: what is stored, what stays. -/
namespace Go.Proofs.YtjjebodlekepaaaDoor
open Go.RowKit

theorem blk_set {w : World} {g : Nat} {cs : Array Value} {t : TypeId} (h : w.heap[g]? = some (.cells cs t (0, 0))) (k : Nat) (v : Value) : (w.setCell ⟨g, k, none⟩ v).heap[g]? = some (.cells (cs.setIfInBounds k v) t (0, 0)) := heap_setCell_same w g k cs t v h
theorem blk_cell {w : World} {g : Nat} {cs : Array Value} {t : TypeId} (h : w.heap[g]? = some (.cells cs t (0, 0))) (k : Nat) {v : Value} (hv : cs[k]? = some v) : w.cell? ⟨g, k, none⟩ = some v := by
  rw [cell_of_row w g k _ t (0, 0) h]; exact hv
theorem blk_frozen {w : World} {g : Nat} {cs : Array Value} {t : TypeId} (h : w.heap[g]? = some (.cells cs t (0, 0))) (k : Nat) : w.frozen? ⟨g, k, none⟩ = false := frozen_of_row w g k _ t h
theorem blk_below {w w' : World} {g : Nat} {o : Obj} (h : w.heap[g]? = some o) (hb : Below w.heap.size w w') : w'.heap[g]? = some o := (hb.block g (Array.getElem?_eq_some_iff.1 h).1).trans h
theorem blk_other {w : World} {g : Nat} {o : Obj} (h : w.heap[g]? = some o) {a : Addr} (ha : g ≠ a.block) (v : Value) : (w.setCell a v).heap[g]? = some o := (Below.heap_setCell w a v g ha).trans h
theorem blk_alloc {w : World} {g : Nat} {o : Obj} (h : w.heap[g]? = some o) (o' : Obj) : (w.alloc o').heap[g]? = some o := (Below.heap_alloc w o' g (Array.getElem?_eq_some_iff.1 h).1).trans h

end Go.Proofs.YtjjebodlekepaaaDoor

/- errors.As at a heldUp: it is told whom it holds. -/
namespace Go.Proofs.YtjjebodlekepaaaDoor
open Go.RowKit Go.Extern.Stop Go.Stop Go.Extern

theorem Tryd.setH (ta b : Addr) (B : Int) (old : Value) (W : World) (hb : W.cell? b = some (.int .u64 B)) (ht : W.cell? ta = some old) (hf : W.frozen? ta = false) :
    (ReflectliteValue.set #[.agg #[tH, .pointer (some ta), .int .u64 409], .agg #[tH, .pointer (some b), .int .u64 153]]).run Tryd.prog W
      = .ok (.tuple #[]) (W.setCell ta (.int .u64 B)) := by
  rw [rls]
  simp only [Sem.run_bind, Tryd.partsHa, Tryd.partsH, Result.andThen]
  simp [ReflectliteValue.flagAddr, loadVar, loadCells, loadCellsFrom, hb, Result.andThen, Tryd.directH, storeVar, Value.cells, storeCells, Addr.add]
  rw [run_store Tryd.prog W ta _ _ (by rfl)]
  simp [ht, hf]

set_option maxHeartbeats 4000000 in
theorem asIn_hit (B : Int) (t a : Addr) (old : Value) (w : World) (ha : w.cell? a = some (.pointer (some t))) (ht0 : w.cell? t = some old) (hf0 : w.frozen? t = false) :
    Calls Tryd.prog 75 #[.iface 87 (.agg #[.int .u64 B]), .iface 89 (.pointer (some t)), .agg #[tP, .pointer (some a), .int .u64 150], .iface 115 (.agg #[tH])] w fun ev w' => ev = .returned (.bool true) ∧
      w' = ((w.alloc (.cells #[tP, .pointer (some a), .int .u64 150] 102)).alloc (.cells #[.int .u64 B] 87)).setCell t (.int .u64 B) := by
  have h6 := @run_callFunc_extern Tryd.prog 72 _ (fun args => ReflectliteValue.unpack (args.getD 0 (.tuple #[]))) Tryd.func72 (by kernel_rfl) (by kernel_rfl) (by kernel_rfl) (by kernel_rfl)
  have h10 := @run_callFunc_extern Tryd.prog 77 _ ReflectliteType.typeOf Tryd.func77 (by kernel_rfl) (by kernel_rfl) (by kernel_rfl) (by kernel_rfl)
  have h35 := @run_callFunc_extern Tryd.prog 103 _ (ReflectliteType.relation "AssignableTo" ReflectliteType.assignableTo) Tryd.func103 (by kernel_rfl) (by kernel_rfl) (by kernel_rfl) (by kernel_rfl)
  have h11 := @run_callFunc_extern Tryd.prog 78 _ (ReflectliteValue.method (ReflectliteValue.valueError "reflectlite.Value.Elem" 0) ReflectliteValue.elem) Tryd.func78 (by kernel_rfl) (by kernel_rfl) (by kernel_rfl) (by kernel_rfl)
  have h12 := @run_callFunc_extern Tryd.prog 79 _ ReflectliteValue.set Tryd.func79 (by kernel_rfl) (by kernel_rfl) (by kernel_rfl) (by kernel_rfl)
  have tO := Tryd.typeOfH
  have mA := Tryd.methodAssignableTo
  have aH := Tryd.assignableH
  have vH := Tryd.valueOfH
  have hal : a.block < w.heap.size := World.block_lt_of_cell? _ _ ha
  have htl : t.block < w.heap.size := World.block_lt_of_cell? _ _ ht0
  have el := Tryd.elemVP a t (w.alloc (.cells #[tP, .pointer (some a), .int .u64 150] 102)) (by rw [World.cell?_alloc_lt _ _ a hal]; exact ha)
  have st := Tryd.setH t ⟨w.heap.size + 1, 0, none⟩ B old ((w.alloc (.cells #[tP, .pointer (some a), .int .u64 150] 102)).alloc (.cells #[.int .u64 B] 87))
    (by rw [World.cell?_alloc_at _ _ _ _ (by simp)]; rfl)
    (by rw [World.cell?_alloc_lt _ _ t (by simp; omega), World.cell?_alloc_lt _ _ t htl]; exact ht0)
    (by rw [World.frozen?_alloc_old _ _ t (by simp; omega), World.frozen?_alloc_old _ _ t (Nat.ne_of_lt htl)]; exact hf0)
  go_enter Tryd.func75, Tryd.ntmps75
  go_wp2
  refine wp_loop_rounds 1 ?_
  rw [rounds_succ]
  go_wp2
  go_ret
  exact ⟨rfl, rfl⟩

set_option maxHeartbeats 4000000 in
theorem as_hit (B : Int) (t : Addr) (old : Value) (w : World) (hg : w.cell? ⟨0, 0, none⟩ = some (.iface 115 (.agg #[tE]))) (ht0 : w.cell? t = some old) (hf0 : w.frozen? t = false) :
    Calls Tryd.prog 62 #[.iface 87 (.agg #[.int .u64 B]), .iface 89 (.pointer (some t))] w fun ev w' => ev = .returned (.bool true) ∧
      w' = ((((w.alloc (.cells #[.pointer (some t)] 89)).alloc (.cells #[tP, .pointer (some ⟨w.heap.size, 0, none⟩), .int .u64 150] 102)).alloc (.cells #[tP, .pointer (some ⟨w.heap.size, 0, none⟩), .int .u64 150] 102)).alloc (.cells #[.int .u64 B] 87)).setCell t (.int .u64 B) := by
  have h6 := @run_callFunc_extern Tryd.prog 72 _ (fun args => ReflectliteValue.unpack (args.getD 0 (.tuple #[]))) Tryd.func72 (by kernel_rfl) (by kernel_rfl) (by kernel_rfl) (by kernel_rfl)
  have h7 := @run_callFunc_extern Tryd.prog 73 _ (ReflectliteValue.methodAny (ReflectliteValue.valueError "reflectlite.Value.Type" 0) (fun t _ _ _ => ReflectliteType.toType t)) Tryd.func73 (by kernel_rfl) (by kernel_rfl) (by kernel_rfl) (by kernel_rfl)
  have h8 := @run_callFunc_extern Tryd.prog 74 _ (ReflectliteValue.method (ReflectliteValue.valueError "reflectlite.Value.IsNil" 0) ReflectliteValue.isNil) Tryd.func74 (by kernel_rfl) (by kernel_rfl) (by kernel_rfl) (by kernel_rfl)
  have h27 := @run_callFunc_extern Tryd.prog 94 _ (ReflectliteType.abiMethod fun t => do pure (.int .u8 (← Rtype.kind t))) Tryd.func94 (by kernel_rfl) (by kernel_rfl) (by kernel_rfl) (by kernel_rfl)
  have h37 := @run_callFunc_extern Tryd.prog 105 _ (ReflectliteType.method ReflectliteType.elem) Tryd.func105 (by kernel_rfl) (by kernel_rfl) (by kernel_rfl) (by kernel_rfl)
  have h38 := @run_callFunc_extern Tryd.prog 106 _ (ReflectliteType.relation "Implements" ReflectliteType.implements_) Tryd.func106 (by kernel_rfl) (by kernel_rfl) (by kernel_rfl) (by kernel_rfl)
  have f6 := Tryd.valueOfP
  have f7 := Tryd.typeP
  have mK := Tryd.methodKind
  have mE := Tryd.methodElem
  have mI := Tryd.methodImplements
  have kP := Tryd.kindP
  have kH := Tryd.kindH
  have eP := Tryd.elemP
  have iH := Tryd.implementsH
  have n8 := Tryd.isNilP ⟨w.heap.size, 0, none⟩ t ((w.alloc (.cells #[.pointer (some t)] 89)).alloc (.cells #[tP, .pointer (some ⟨w.heap.size, 0, none⟩), .int .u64 150] 102)) (by simp)
  have hlt : 0 < w.heap.size := World.block_lt_of_cell? _ _ hg
  have hg2 : ((w.alloc (.cells #[.pointer (some t)] 89)).alloc (.cells #[tP, .pointer (some ⟨w.heap.size, 0, none⟩), .int .u64 150] 102)).cell? ⟨0, 0, none⟩ = some (.iface 115 (.agg #[tE])) := by
    rw [World.cell?_alloc_lt _ _ ⟨0, 0, none⟩ (by simp <;> omega), World.cell?_alloc_lt _ _ ⟨0, 0, none⟩ hlt]; exact hg
  have htl : t.block < w.heap.size := World.block_lt_of_cell? _ _ ht0
  have KA := Hid.mk (asIn_hit B t ⟨w.heap.size, 0, none⟩ old ((w.alloc (.cells #[.pointer (some t)] 89)).alloc (.cells #[tP, .pointer (some ⟨w.heap.size, 0, none⟩), .int .u64 150] 102)) (by simp)
    (by rw [World.cell?_alloc_lt _ _ t (by simp; omega), World.cell?_alloc_lt _ _ t htl]; exact ht0)
    (by rw [World.frozen?_alloc_old _ _ t (by simp; omega), World.frozen?_alloc_old _ _ t (Nat.ne_of_lt htl)]; exact hf0))
  go_enter Tryd.func62, Tryd.ntmps62
  go_wp2_with fail
  refine KA.out.mono ?_
  rintro e w2 ⟨rfl, hw2⟩
  obtain ⟨w3, rfl⟩ : ∃ x, x = w2 := ⟨_, rfl⟩
  go_wp2
  go_ret
  exact ⟨rfl, rfl⟩

/-- What a caller wants of it: it says yes, the variable holds what the error held, nothing else has turned. -/
theorem as_told (B : Int) (b : Nat) (w : World) (hg : w.cell? ⟨0, 0, none⟩ = some (.iface 115 (.agg #[tE]))) (hb : w.heap[b]? = some (.cells #[.int .u64 0] 87 (0, 0))) :
    Calls Tryd.prog 62 #[.iface 87 (.agg #[.int .u64 B]), .iface 89 (.pointer (some ⟨b, 0, none⟩))] w fun ev w' => ev = .returned (.bool true) ∧ w'.cell? ⟨b, 0, none⟩ = some (.int .u64 B) ∧ Off (fun k => k = b) w w' := by
  refine (as_hit B ⟨b, 0, none⟩ (.int .u64 0) w hg (by rw [cell_of_row w b 0 _ _ (0, 0) hb]; rfl) (frozen_of_row w b 0 _ _ hb)).mono ?_
  rintro ev w' ⟨h1, rfl⟩
  have hlt := (Array.getElem?_eq_some_iff.1 hb).1
  refine ⟨h1, ?_, ?_⟩
  · refine cell_set (u := .int .u64 0) ?_ _
    rw [World.cell?_alloc_lt _ _ _ (by simp; omega), World.cell?_alloc_lt _ _ _ (by simp; omega), World.cell?_alloc_lt _ _ _ (by simp; omega), World.cell?_alloc_lt _ _ _ hlt, cell_of_row w b 0 _ _ (0, 0) hb]; rfl
  · exact (Off.below (((((Below.refl _ _).alloc (Nat.le_refl _) _).alloc (by simp) _).alloc (by simp; omega) _).alloc (by simp; omega) _)).trans (Off.set (F := fun k => k = b) (a := ⟨b, 0, none⟩) rfl _)

end Go.Proofs.YtjjebodlekepaaaDoor

/- Lists of numbers that are told, and whether. -/
namespace Go.Proofs.YtjjebodlekepaaaDoor
open Go.RowKit

/-- Lists of columns, and whether. -/
def KeysRet (e : Ending) (w' : World) (lo : Nat) (ok : Bool) (zss : List (List Int)) : Prop := ∃ r m d, e = .returned (.tuple #[.slice r m d, .bool ok]) ∧ RPairs.Own w' (From lo w'.heap.size) [.slice r m d] zss
theorem keysRet_none (w : World) (lo : Nat) {ok : Bool} {ds : List (List Int)} (h1 : ok = false) (h2 : ds = []) : KeysRet (.returned (.tuple #[.slice none 0 0, .bool false])) w lo ok ds := by
  subst h1 h2
  exact ⟨none, 0, 0, rfl, none, 0, 0, [], _, rfl, Laid.none _ _ _ _⟩
theorem atSl_pairK {w : World} {a : Option Addr} {zss : List (List Int)} (h : AtSl RInts w a zss) {k : Nat} {zs : List Int} (hk : zss[k]? = some zs) :
    ∃ b off a' n' c', a = some ⟨b, off, none⟩ ∧ w.cell? ⟨b, off + k, none⟩ = some (.slice a' n' c') ∧ zs.length = n' ∧ n' ≤ 9223372036854775807 ∧ At w a' zs ∧ (a' = none → c' = 0) := by
  have hp : 0 < zss.length := Nat.lt_of_le_of_lt (Nat.zero_le _) (List.getElem?_eq_some_iff.1 hk).1
  obtain ⟨b, off, rfl, hc⟩ := h.each hp
  obtain ⟨cs, h1, a', n', c', rfl, e1, e2, e3, e4⟩ := hc k zs hk
  have g := h1 0 _ rfl
  exact ⟨b, off, a', n', c', rfl, by simpa [RInts, Rep.slice] using g, e1, e2, atSl_int.1 e3, e4⟩
theorem pairs_at {w : World} {F : Nat → Prop} {a : Option Addr} {n c : Nat} {xs : List (List Int)} (h : RPairs.Own w F [.slice a n c] xs) : xs.length = n ∧ AtSl RInts w a xs := by
  obtain ⟨a', n', c', e, h1, _, h3, _⟩ := RPairs.toAt h
  simp only [List.cons.injEq, Value.slice.injEq, and_true] at e
  obtain ⟨rfl, rfl, rfl⟩ := e
  exact ⟨h1, h3⟩

end Go.Proofs.YtjjebodlekepaaaDoor

/- Contract of impl.listsOf. -/
namespace Go.Proofs.YtjjebodlekepaaaDoor
open Go.RowKit

def encK (x : Nat) : Value := .int .u64 (x : Nat)
set_option maxRecDepth 100000 in
set_option maxHeartbeats 2000000 in
theorem listsK_any (base : Nat) (a : Option Addr) (n c : Nat) (ks : List Nat) (w : World) (hz : ks.length = n) (hn : n ≤ 64) (hks : ∀ k ∈ ks, k < 64) (ho : w.ownsRow base 59 1 (.slice a n c) n (ks.map encK)) (ht : TabB w) :
    Calls Tryd.prog 42 #[.slice a n c] w fun e w' => ∃ r m d, e = .returned (.slice r m d) ∧ RPairs.Own w' (From w.heap.size w'.heap.size) [.slice r m d] (ks.map bl) ∧ Below w.heap.size w w' := by
  obtain ⟨k0, hk, hx0, hx1, hx2⟩ := info_parts Tryd.infoInts
  have HT := Hid.mk ht
  have HO := Hid.mk ho
  have HKS := Hid.mk hks
  clear ht ho hks
  go_enter Tryd.func42, Tryd.ntmps42
  go_wp2_with fail
  go_loopw [3, 8] (fun p i wx => ∃ (k : Nat) (r : Option Addr) (d : Nat) (cells : List Value) (G : Nat → Nat → Prop), k ≤ n ∧ i = .int .i64 k ∧ p = .slice r k d ∧ Laid RInts wx (From w.heap.size wx.heap.size) 23 r k d ((ks.take k).map bl) cells G k ∧ Below w.heap.size w wx) (fun _ i _ => n - (intOf i).toNat)
  case atStart => exact ⟨0, none, 0, [], _, Nat.zero_le _, rfl, rfl, Laid.none _ _ _ _, Below.refl _ _⟩
  case round =>
    obtain ⟨k, r, d, cells, G, hkn, rfl, rfl, hlaid, hbw⟩ := hrel
    by_cases hlt : k < n
    · obtain ⟨s, hs⟩ : ∃ s, ks[k]? = some s := ⟨_, List.getElem?_eq_getElem (by omega)⟩
      have hs64 := HKS.out s (List.mem_of_getElem? hs)
      obtain ⟨g, hg⟩ : ∃ g, a = some ⟨g, 0, none⟩ := by
        rcases HO.out.2 with ⟨_, h1⟩ | ⟨g, cap, cur, hv, _⟩
        · omega
        · simp only [Value.slice.injEq, true_and] at hv
          exact ⟨g, hv.1⟩
      subst hg
      have hcx : wr.cell? ⟨g, k, none⟩ = some (.int .u64 (s : Nat)) := cell_later hbw ((HO.out.cellAt k (by omega)).trans (by rw [List.getElem?_map, hs]; rfl))
      have HTK : Hid ((ks.take (k + 1)).map bl = (ks.take k).map bl ++ [bl s]) := by
        show _ = _
        obtain ⟨hh, rfl⟩ := List.getElem?_eq_some_iff.1 hs
        rw [List.take_succ_eq_append_getElem hh, List.map_append]; rfl
      have hki : (k : Int) < (n : Int) := by omega
      have K := Hid.mk (list_any s wr hs64 (TabIs.below HT.out hbw))
      have HLA := Hid.mk hlaid
      have HB := Hid.mk hbw
      have zw := hbw.size
      clear hlaid hbw hs
      go_wp2_with fail
      refine K.out.mono ?_
      rintro e w4 ⟨r3, m3, d3, rfl, hm3, ho3, hb2⟩
      have hm36 : m3 ≤ 6 := by rw [← hm3]; exact bl_len s
      have z4 := hb2.size
      have HOI : Hid (RInts.Own w4 (From wr.heap.size w4.heap.size) [.slice r3 m3 d3] (bl s)) := RInts.of_owns hm3 (by omega) ho3
      have HW : Hid (wr.ownsRow w.heap.size 23 1 (.slice r k d) k cells) := owns_base HLA.out.outer (fun b hb => (HLA.out.outerF b hb).1)
      have HW4 := Hid.mk (owns_below HW.out hb2)
      have HB2 := Hid.mk hb2
      clear ho3 hb2 hm3 K
      go_wp2_with (at_builtin; refine wpList_app_vals rfl (.tmp 12) (.tmp 15) 34 rfl w.heap.size 23 k0 (.slice none 0 0) 1 24 Tryd.underlying34 hk hx0 hx1 hx2 rfl (by decide) (.slice r k d) k cells rfl (HW4.out.alloc _) (some ⟨w4.heap.size, 0, none⟩) 1 1 [.slice r3 m3 d3] rfl rfl (fun ad he => by cases he; simpa using news_at w4 #[.slice r3 m3 d3] 23) (by simp; rfl) (fun h => by cases h) (by unfold maxLen; omega) (by omega) (by simp; omega) ?_)
      intro r4 d4 w5 ho4 hg4 ht4
      have z5 : w4.heap.size < w5.heap.size := by have h9 := hg4.size; simp at h9; omega
      have BG : ∀ b, b < w4.heap.size → (Value.slice r k d).ownBlock ≠ some b → w5.heap[b]? = w4.heap[b]? := fun b hb hn => (hg4.block b (by simp; omega) (fun e => hn e.symm)).trans (Below.heap_alloc w4 _ b hb)
      have hpush := HLA.out.push (F' := From w.heap.size w5.heap.size) (fun b h => h.2) HB2.out HOI.out (fun b h => h) BG (owns_mono ho4 (Nat.zero_le _)) (by
        rcases ht4 with h9 | h9
        · exact .inl h9
        · refine .inr (fun b e => ?_)
          rw [h9] at e
          simp at e
          omega) (by omega) (fun b h => ⟨h.1, by have := h.2; omega⟩) (fun b h => ⟨by have := h.1; omega, by have := h.2; omega⟩) (fun b h => ho4.lt b h)
      obtain ⟨G', HL'⟩ : ∃ G', Hid (Laid RInts w5 (From w.heap.size w5.heap.size) 23 r4 (k + 1) d4 ((ks.take (k + 1)).map bl) (cells ++ [.slice r3 m3 d3]) G' (k + 1)) := by
        rw [HTK.out]
        exact ⟨_, Hid.mk hpush⟩
      have HB' : Hid (Below w.heap.size w w5) := ((HB.out.trans (HB2.out.mono HB.out.size)).alloc (by omega) _).grown hg4 (by simp; omega) (fun j hj => (HW.out.lt j hj).1)
      clear hpush BG ho4 hg4 ht4 HLA HB HB2 HW HW4 HOI
      go_wp2
      go_roundw
      case rel => exact ⟨k + 1, r4, d4, _, G', by omega, by go_num, rfl, HL'.out, HB'.out⟩
      case measure => simp [intOf]; omega
    · obtain rfl : k = n := by omega
      rw [List.take_of_length_le (by omega)] at hlaid
      have hkk : ¬ (k : Int) < (k : Int) := by omega
      have HFIN : Hid (RPairs.Own wr (From w.heap.size wr.heap.size) [.slice r k d] (ks.map bl)) := ⟨_, _, _, cells, G, rfl, hlaid⟩
      clear hlaid
      go_wp2
      go_ret
      exact ⟨r, k, d, rfl, HFIN.out, hbw⟩


end Go.Proofs.YtjjebodlekepaaaDoor
