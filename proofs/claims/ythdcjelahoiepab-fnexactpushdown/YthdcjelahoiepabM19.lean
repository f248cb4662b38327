/- Several texts of one proof, in build order: PushP, TyA, PushI, PushD, AsP. -/
import Derived.Test.YthdcjelahoiepabM10
import Derived.Test.YthdcjelahoiepabM16
import Derived.Test.YthdcjelahoiepabM13
import Derived.Shelf.Abstract

/- What PushDown answers, plainly. -/
namespace Go.Proofs.Ythdcjelahoiepab
open Go.RowKit

/-- The last part and the union it selects of. -/
def selU (xs : List PartD) : Option (PartD × PartD) :=
  (xs[xs.length - 1]?).bind fun x => if x.K = 2 then (xs[x.A.toNat]?).bind fun u => if u.K = 5 then some (x, u) else none else none
theorem selU_kind {xs : List PartD} {x : PartD} (h : xs[xs.length - 1]? = some x) (hk : ¬ x.K = 2) : selU xs = none := by simp [selU, h, hk]
theorem selU_not {xs : List PartD} {x u : PartD} (h : xs[xs.length - 1]? = some x) (hu : xs[x.A.toNat]? = some u) (hk : ¬ u.K = 5) : selU xs = none := by
  unfold selU; rw [h]; simp only [Option.bind_some]; split
  · rw [hu]; simp [hk]
  · rfl
theorem selU_yes {xs : List PartD} {x u : PartD} (h : xs[xs.length - 1]? = some x) (hx : x.K = 2) (hu : xs[x.A.toNat]? = some u) (hk : u.K = 5) : selU xs = some (x, u) := by simp [selU, h, hx, hu, hk]
theorem selU_open {xs : List PartD} {x u : PartD} (h : selU xs = some (x, u)) : xs[xs.length - 1]? = some x ∧ x.K = 2 ∧ xs[x.A.toNat]? = some u ∧ u.K = 5 := by
  unfold selU at h
  obtain ⟨y, h3, h4⟩ := Option.bind_eq_some_iff.1 h
  split at h4
  · rename_i h5
    obtain ⟨v, h6, h7⟩ := Option.bind_eq_some_iff.1 h4
    split at h7
    · rename_i h8
      cases h7
      exact ⟨h3, h5, h6, h8⟩
    · cases h7
  · cases h4

/-- The parts, pushed down. -/
def pushed (xs : List PartD) : List PartD :=
  match selU xs with
  | none => xs
  | some (x, u) => if 12 < xs.length + 2 then xs else xs.take (xs.length - 1) ++ [(2, u.A, 0, x.ts, [], []), (2, u.B, 0, x.ts, [], []), (5, ((xs.length - 1 : Nat) : Int), ((xs.length - 1 : Nat) : Int) + 1, [], [], [])]
theorem pushed_none {xs : List PartD} (h : selU xs = none) : pushed xs = xs := by simp [pushed, h]
theorem pushed_many {xs : List PartD} (h : 12 < xs.length + 2) : pushed xs = xs := by unfold pushed; split; rfl; rw [if_pos h]
theorem pushed_some {xs : List PartD} {x u : PartD} (h : selU xs = some (x, u)) (h2 : ¬ 12 < xs.length + 2) : pushed xs = xs.take (xs.length - 1) ++ [(2, u.A, 0, x.ts, [], []), (2, u.B, 0, x.ts, [], []), (5, ((xs.length - 1 : Nat) : Int), ((xs.length - 1 : Nat) : Int) + 1, [], [], [])] := by
  unfold pushed; rw [h]; simp only; rw [if_neg h2]
end Go.Proofs.Ythdcjelahoiepab

/- What a type assertion answers, for each kind of part. -/
namespace Go.Proofs.Ythdcjelahoiepab
open Go.RowKit

@[go_sem] theorem as1_2 (v : Value) (w : World) : (Instr.typeAssert (.iface 95 v) 52 80 true).run Try.prog w = .ok (.tuple #[.agg #[.int .i64 0, .slice none 0 0], .bool false]) w := by kernel_rfl
@[go_sem] theorem as2_2 (v : Value) (w : World) : (Instr.typeAssert (.iface 80 v) 52 80 true).run Try.prog w = .ok (.tuple #[v, .bool true]) w := by kernel_rfl
@[go_sem] theorem as3_2 (v : Value) (w : World) : (Instr.typeAssert (.iface 97 v) 52 80 true).run Try.prog w = .ok (.tuple #[.agg #[.int .i64 0, .slice none 0 0], .bool false]) w := by kernel_rfl
@[go_sem] theorem as4_2 (v : Value) (w : World) : (Instr.typeAssert (.iface 76 v) 52 80 true).run Try.prog w = .ok (.tuple #[.agg #[.int .i64 0, .slice none 0 0], .bool false]) w := by kernel_rfl
@[go_sem] theorem as5_2 (v : Value) (w : World) : (Instr.typeAssert (.iface 82 v) 52 80 true).run Try.prog w = .ok (.tuple #[.agg #[.int .i64 0, .slice none 0 0], .bool false]) w := by kernel_rfl
@[go_sem] theorem as6_2 (v : Value) (w : World) : (Instr.typeAssert (.iface 98 v) 52 80 true).run Try.prog w = .ok (.tuple #[.agg #[.int .i64 0, .slice none 0 0], .bool false]) w := by kernel_rfl
@[go_sem] theorem as7_2 (v : Value) (w : World) : (Instr.typeAssert (.iface 78 v) 52 80 true).run Try.prog w = .ok (.tuple #[.agg #[.int .i64 0, .slice none 0 0], .bool false]) w := by kernel_rfl
@[go_sem] theorem as1_4 (v : Value) (w : World) : (Instr.typeAssert (.iface 95 v) 52 76 true).run Try.prog w = .ok (.tuple #[.agg #[.int .i64 0, .int .i64 0, .slice none 0 0], .bool false]) w := by kernel_rfl
@[go_sem] theorem as2_4 (v : Value) (w : World) : (Instr.typeAssert (.iface 80 v) 52 76 true).run Try.prog w = .ok (.tuple #[.agg #[.int .i64 0, .int .i64 0, .slice none 0 0], .bool false]) w := by kernel_rfl
@[go_sem] theorem as3_4 (v : Value) (w : World) : (Instr.typeAssert (.iface 97 v) 52 76 true).run Try.prog w = .ok (.tuple #[.agg #[.int .i64 0, .int .i64 0, .slice none 0 0], .bool false]) w := by kernel_rfl
@[go_sem] theorem as4_4 (v : Value) (w : World) : (Instr.typeAssert (.iface 76 v) 52 76 true).run Try.prog w = .ok (.tuple #[v, .bool true]) w := by kernel_rfl
@[go_sem] theorem as5_4 (v : Value) (w : World) : (Instr.typeAssert (.iface 82 v) 52 76 true).run Try.prog w = .ok (.tuple #[.agg #[.int .i64 0, .int .i64 0, .slice none 0 0], .bool false]) w := by kernel_rfl
@[go_sem] theorem as6_4 (v : Value) (w : World) : (Instr.typeAssert (.iface 98 v) 52 76 true).run Try.prog w = .ok (.tuple #[.agg #[.int .i64 0, .int .i64 0, .slice none 0 0], .bool false]) w := by kernel_rfl
@[go_sem] theorem as7_4 (v : Value) (w : World) : (Instr.typeAssert (.iface 78 v) 52 76 true).run Try.prog w = .ok (.tuple #[.agg #[.int .i64 0, .int .i64 0, .slice none 0 0], .bool false]) w := by kernel_rfl
@[go_sem] theorem as1_5 (v : Value) (w : World) : (Instr.typeAssert (.iface 95 v) 52 82 true).run Try.prog w = .ok (.tuple #[.agg #[.int .i64 0, .int .i64 0], .bool false]) w := by kernel_rfl
@[go_sem] theorem as2_5 (v : Value) (w : World) : (Instr.typeAssert (.iface 80 v) 52 82 true).run Try.prog w = .ok (.tuple #[.agg #[.int .i64 0, .int .i64 0], .bool false]) w := by kernel_rfl
@[go_sem] theorem as3_5 (v : Value) (w : World) : (Instr.typeAssert (.iface 97 v) 52 82 true).run Try.prog w = .ok (.tuple #[.agg #[.int .i64 0, .int .i64 0], .bool false]) w := by kernel_rfl
@[go_sem] theorem as4_5 (v : Value) (w : World) : (Instr.typeAssert (.iface 76 v) 52 82 true).run Try.prog w = .ok (.tuple #[.agg #[.int .i64 0, .int .i64 0], .bool false]) w := by kernel_rfl
@[go_sem] theorem as5_5 (v : Value) (w : World) : (Instr.typeAssert (.iface 82 v) 52 82 true).run Try.prog w = .ok (.tuple #[v, .bool true]) w := by kernel_rfl
@[go_sem] theorem as6_5 (v : Value) (w : World) : (Instr.typeAssert (.iface 98 v) 52 82 true).run Try.prog w = .ok (.tuple #[.agg #[.int .i64 0, .int .i64 0], .bool false]) w := by kernel_rfl
@[go_sem] theorem as7_5 (v : Value) (w : World) : (Instr.typeAssert (.iface 78 v) 52 82 true).run Try.prog w = .ok (.tuple #[.agg #[.int .i64 0, .int .i64 0], .bool false]) w := by kernel_rfl
@[go_sem] theorem as1_7 (v : Value) (w : World) : (Instr.typeAssert (.iface 95 v) 52 78 true).run Try.prog w = .ok (.tuple #[.agg #[.int .i64 0], .bool false]) w := by kernel_rfl
@[go_sem] theorem as2_7 (v : Value) (w : World) : (Instr.typeAssert (.iface 80 v) 52 78 true).run Try.prog w = .ok (.tuple #[.agg #[.int .i64 0], .bool false]) w := by kernel_rfl
@[go_sem] theorem as3_7 (v : Value) (w : World) : (Instr.typeAssert (.iface 97 v) 52 78 true).run Try.prog w = .ok (.tuple #[.agg #[.int .i64 0], .bool false]) w := by kernel_rfl
@[go_sem] theorem as4_7 (v : Value) (w : World) : (Instr.typeAssert (.iface 76 v) 52 78 true).run Try.prog w = .ok (.tuple #[.agg #[.int .i64 0], .bool false]) w := by kernel_rfl
@[go_sem] theorem as5_7 (v : Value) (w : World) : (Instr.typeAssert (.iface 82 v) 52 78 true).run Try.prog w = .ok (.tuple #[.agg #[.int .i64 0], .bool false]) w := by kernel_rfl
@[go_sem] theorem as6_7 (v : Value) (w : World) : (Instr.typeAssert (.iface 98 v) 52 78 true).run Try.prog w = .ok (.tuple #[.agg #[.int .i64 0], .bool false]) w := by kernel_rfl
@[go_sem] theorem as7_7 (v : Value) (w : World) : (Instr.typeAssert (.iface 78 v) 52 78 true).run Try.prog w = .ok (.tuple #[v, .bool true]) w := by kernel_rfl

end Go.Proofs.Ythdcjelahoiepab

/- Contracts of impl.selectOfUnion. -/
namespace Go.Proofs.Ythdcjelahoiepab
open Go.RowKit

/-- What selectOfUnion answers. -/
def SelRet (e : Ending) (vs : List Value) (xs : List PartD) : Prop :=
  match selU xs with
  | none => e = .returned (.tuple #[.agg #[.int .i64 0, .slice none 0 0], .agg #[.int .i64 0, .int .i64 0], .bool false])
  | some (x, u) => ∃ ta tn tc, e = .returned (.tuple #[.agg #[.int .i64 x.A, .slice ta tn tc], .agg #[.int .i64 u.A, .int .i64 u.B], .bool true]) ∧ vs[xs.length - 1]? = some (.iface 80 (.agg #[.int .i64 x.A, .slice ta tn tc]))
theorem SelRet.no {vs : List Value} {xs : List PartD} (h : selU xs = none) : SelRet (.returned (.tuple #[.agg #[.int .i64 0, .slice none 0 0], .agg #[.int .i64 0, .int .i64 0], .bool false])) vs xs := by unfold SelRet; rw [h]

set_option maxRecDepth 100000 in
set_option maxHeartbeats 8000000 in
theorem selectOfUnion_any (gg pn pc : Nat) (vs : List Value) (xs : List PartD) (w0 w : World) (hp : 1 ≤ pn) (hpn : pn ≤ 1048576) (hvl : vs.length = pn) (hz : xs.length = pn) (hap : AreParts w0 vs xs)
    (hcell : ∀ (k : Nat) (v : Value), vs[k]? = some v → w.cell? ⟨gg, k, none⟩ = some v) (hkind : ∀ (i : Nat) (x : PartD), xs[i]? = some x → 1 ≤ x.K ∧ x.K ≤ 7) (hA : ∀ (i : Nat) (x : PartD), xs[i]? = some x → x.K = 2 → 0 ≤ x.A ∧ x.A < i) :
    Calls Try.prog 39 #[.slice (some ⟨gg, 0, none⟩) pn pc] w fun e w' => SelRet e vs xs ∧ Below w.heap.size w w' := by
  obtain ⟨x, hx⟩ : ∃ x, xs[pn - 1]? = some x := ⟨_, List.getElem?_eq_getElem (by omega)⟩
  obtain ⟨v, hv⟩ : ∃ v, vs[pn - 1]? = some v := ⟨_, List.getElem?_eq_getElem (by omega)⟩
  have c0 : w.cell? ⟨gg, pn - 1, none⟩ = some v := hcell _ _ hv
  have zg : gg < w.heap.size := World.block_lt_of_cell? _ _ c0
  have zg1 : gg < w.heap.size + 1 := by omega
  have zg2 : gg < w.heap.size + 1 + 1 := by omega
  obtain ⟨ta, tn, tc, ca, cn, cc, qa, qn, qc, rfl, _⟩ := hap _ _ _ hv hx
  have hk := hkind _ _ hx
  have ha := hA _ _ hx
  have hxl : xs[xs.length - 1]? = some x := by rw [hz]; exact hx
  have HV := Hid.mk hv
  have e1 : (pn : Int) - 1 = ((pn - 1 : Nat) : Int) := by omega
  have HK : Hid (¬ x.K = 2 → SelRet (.returned (.tuple #[.agg #[.int .i64 0, .slice none 0 0], .agg #[.int .i64 0, .int .i64 0], .bool false])) vs xs) := fun h => SelRet.no (selU_kind hxl h)
  obtain ⟨w3, hw3⟩ : ∃ W, W = (w.alloc (.cells #[.int .i64 0, .slice none 0 0] 80)).alloc (.cells #[.int .i64 0, .int .i64 0] 82) := ⟨_, rfl⟩
  have B3 : Below w.heap.size w w3 := by rw [hw3]; exact ((Below.refl _ _).alloc (Nat.le_refl _) _).alloc (by simp) _
  by_cases k2 : x.K = 2
  · obtain ⟨a0, a1⟩ := ha k2
    obtain ⟨j, hj⟩ : ∃ j : Nat, x.A = (j : Int) := ⟨x.A.toNat, by omega⟩
    have hjn : j < pn := by omega
    obtain ⟨u, hu⟩ : ∃ u, xs[j]? = some u := ⟨_, List.getElem?_eq_getElem (by omega)⟩
    obtain ⟨y, hy⟩ : ∃ y, vs[j]? = some y := ⟨_, List.getElem?_eq_getElem (by omega)⟩
    have c2 : w.cell? ⟨gg, j, none⟩ = some y := hcell _ _ hy
    obtain ⟨ta', tn', tc', ca', cn', cc', qa', qn', qc', rfl, _⟩ := hap _ _ _ hy hu
    have hku := hkind _ _ hu
    have hul : xs[x.A.toNat]? = some u := by rw [hj]; exact hu
    have HN : Hid (¬ u.K = 5 → SelRet (.returned (.tuple #[.agg #[.int .i64 0, .slice none 0 0], .agg #[.int .i64 0, .int .i64 0], .bool false])) vs xs) := fun h => SelRet.no (selU_not hxl hul h)
    have HY : Hid (u.K = 5 → SelRet (.returned (.tuple #[.agg #[.int .i64 x.A, .slice ta tn tc], .agg #[.int .i64 u.A, .int .i64 u.B], .bool true])) vs xs) := fun h => by
      show SelRet _ _ _
      unfold SelRet
      rw [selU_yes hxl k2 hul h]
      refine ⟨ta, tn, tc, rfl, ?_⟩
      rw [hz, HV.out, k2, partV_2]
    rw [hj] at HY
    simp only [k2, hj] at c0
    clear HK HV hx hxl hul hu hk ha a0 a1 hap hcell hkind hA hj hv hy
    obtain ⟨KU, AU, BU, tsu, csu, psu⟩ := u
    simp only [PartD.K, PartD.A, PartD.B] at *
    rw [partV_2] at c0
    have gq : pn - 1 < 1048576 := by omega
    have hji : (j : Int) < (pn : Int) := by omega
    rcases kind_cases hku with rfl | rfl | rfl | rfl | rfl | rfl | rfl
    · rw [partV_1] at c2
      have HR := Hid.mk (HN.out (by decide))
      clear HN HY
      go_enter Try.func39, Try.ntmps39
      go_wp2
      exact bodyPost_ret (v := .tuple #[.agg #[.int .i64 0, .slice none 0 0], .agg #[.int .i64 0, .int .i64 0], .bool false]) (by simp [results, Try.results39, go_sem]) rfl ⟨HR.out, by first | exact (((Below.refl _ _).alloc (Nat.le_refl _) _).alloc (by simp) _).alloc (by simp <;> omega) _ | exact ((Below.refl _ _).alloc (Nat.le_refl _) _).alloc (by simp) _⟩
    · rw [partV_2] at c2
      have HR := Hid.mk (HN.out (by decide))
      clear HN HY
      go_enter Try.func39, Try.ntmps39
      go_wp2
      exact bodyPost_ret (v := .tuple #[.agg #[.int .i64 0, .slice none 0 0], .agg #[.int .i64 0, .int .i64 0], .bool false]) (by simp [results, Try.results39, go_sem]) rfl ⟨HR.out, by first | exact (((Below.refl _ _).alloc (Nat.le_refl _) _).alloc (by simp) _).alloc (by simp <;> omega) _ | exact ((Below.refl _ _).alloc (Nat.le_refl _) _).alloc (by simp) _⟩
    · rw [partV_3] at c2
      have HR := Hid.mk (HN.out (by decide))
      clear HN HY
      go_enter Try.func39, Try.ntmps39
      go_wp2
      exact bodyPost_ret (v := .tuple #[.agg #[.int .i64 0, .slice none 0 0], .agg #[.int .i64 0, .int .i64 0], .bool false]) (by simp [results, Try.results39, go_sem]) rfl ⟨HR.out, by first | exact (((Below.refl _ _).alloc (Nat.le_refl _) _).alloc (by simp) _).alloc (by simp <;> omega) _ | exact ((Below.refl _ _).alloc (Nat.le_refl _) _).alloc (by simp) _⟩
    · rw [partV_4] at c2
      have HR := Hid.mk (HN.out (by decide))
      clear HN HY
      go_enter Try.func39, Try.ntmps39
      go_wp2
      exact bodyPost_ret (v := .tuple #[.agg #[.int .i64 0, .slice none 0 0], .agg #[.int .i64 0, .int .i64 0], .bool false]) (by simp [results, Try.results39, go_sem]) rfl ⟨HR.out, by first | exact (((Below.refl _ _).alloc (Nat.le_refl _) _).alloc (by simp) _).alloc (by simp <;> omega) _ | exact ((Below.refl _ _).alloc (Nat.le_refl _) _).alloc (by simp) _⟩
    · rw [partV_5] at c2
      have HR := Hid.mk (HY.out rfl)
      clear HN HY
      go_enter Try.func39, Try.ntmps39
      go_upto_region 7 with fail
      go_region
      go_wp2
      exact bodyPost_ret (v := .tuple #[.agg #[.int .i64 j, .slice ta tn tc], .agg #[.int .i64 AU, .int .i64 BU], .bool true]) (by simp [results, Try.results39, go_sem]) rfl ⟨HR.out, (((((Below.refl _ _).alloc (Nat.le_refl _) _).alloc (by simp) _).alloc (by simp <;> omega) _).alloc (by simp <;> omega) _).drew⟩
    · rw [partV_6] at c2
      have HR := Hid.mk (HN.out (by decide))
      clear HN HY
      go_enter Try.func39, Try.ntmps39
      go_wp2
      exact bodyPost_ret (v := .tuple #[.agg #[.int .i64 0, .slice none 0 0], .agg #[.int .i64 0, .int .i64 0], .bool false]) (by simp [results, Try.results39, go_sem]) rfl ⟨HR.out, by first | exact (((Below.refl _ _).alloc (Nat.le_refl _) _).alloc (by simp) _).alloc (by simp <;> omega) _ | exact ((Below.refl _ _).alloc (Nat.le_refl _) _).alloc (by simp) _⟩
    · rw [partV_7] at c2
      have HR := Hid.mk (HN.out (by decide))
      clear HN HY
      go_enter Try.func39, Try.ntmps39
      go_wp2
      exact bodyPost_ret (v := .tuple #[.agg #[.int .i64 0, .slice none 0 0], .agg #[.int .i64 0, .int .i64 0], .bool false]) (by simp [results, Try.results39, go_sem]) rfl ⟨HR.out, by first | exact (((Below.refl _ _).alloc (Nat.le_refl _) _).alloc (by simp) _).alloc (by simp <;> omega) _ | exact ((Below.refl _ _).alloc (Nat.le_refl _) _).alloc (by simp) _⟩
  · have HR := Hid.mk (HK.out k2)
    clear HK HV hx hxl ha hap hcell hkind hA hv
    obtain ⟨KX, AX, BX, tsx, csx, psx⟩ := x
    simp only [PartD.K, PartD.A, PartD.B] at *
    rcases kind_cases hk with rfl | rfl | rfl | rfl | rfl | rfl | rfl
    · rw [partV_1] at c0
      go_enter Try.func39, Try.ntmps39
      go_wp2
      exact bodyPost_ret (v := .tuple #[.agg #[.int .i64 0, .slice none 0 0], .agg #[.int .i64 0, .int .i64 0], .bool false]) (by simp [results, Try.results39, go_sem]) rfl ⟨HR.out, by first | exact (((Below.refl _ _).alloc (Nat.le_refl _) _).alloc (by simp) _).alloc (by simp <;> omega) _ | exact ((Below.refl _ _).alloc (Nat.le_refl _) _).alloc (by simp) _⟩
    · exact absurd rfl k2
    · rw [partV_3] at c0
      go_enter Try.func39, Try.ntmps39
      go_wp2
      exact bodyPost_ret (v := .tuple #[.agg #[.int .i64 0, .slice none 0 0], .agg #[.int .i64 0, .int .i64 0], .bool false]) (by simp [results, Try.results39, go_sem]) rfl ⟨HR.out, by first | exact (((Below.refl _ _).alloc (Nat.le_refl _) _).alloc (by simp) _).alloc (by simp <;> omega) _ | exact ((Below.refl _ _).alloc (Nat.le_refl _) _).alloc (by simp) _⟩
    · rw [partV_4] at c0
      go_enter Try.func39, Try.ntmps39
      go_wp2
      exact bodyPost_ret (v := .tuple #[.agg #[.int .i64 0, .slice none 0 0], .agg #[.int .i64 0, .int .i64 0], .bool false]) (by simp [results, Try.results39, go_sem]) rfl ⟨HR.out, by first | exact (((Below.refl _ _).alloc (Nat.le_refl _) _).alloc (by simp) _).alloc (by simp <;> omega) _ | exact ((Below.refl _ _).alloc (Nat.le_refl _) _).alloc (by simp) _⟩
    · rw [partV_5] at c0
      go_enter Try.func39, Try.ntmps39
      go_wp2
      exact bodyPost_ret (v := .tuple #[.agg #[.int .i64 0, .slice none 0 0], .agg #[.int .i64 0, .int .i64 0], .bool false]) (by simp [results, Try.results39, go_sem]) rfl ⟨HR.out, by first | exact (((Below.refl _ _).alloc (Nat.le_refl _) _).alloc (by simp) _).alloc (by simp <;> omega) _ | exact ((Below.refl _ _).alloc (Nat.le_refl _) _).alloc (by simp) _⟩
    · rw [partV_6] at c0
      go_enter Try.func39, Try.ntmps39
      go_wp2
      exact bodyPost_ret (v := .tuple #[.agg #[.int .i64 0, .slice none 0 0], .agg #[.int .i64 0, .int .i64 0], .bool false]) (by simp [results, Try.results39, go_sem]) rfl ⟨HR.out, by first | exact (((Below.refl _ _).alloc (Nat.le_refl _) _).alloc (by simp) _).alloc (by simp <;> omega) _ | exact ((Below.refl _ _).alloc (Nat.le_refl _) _).alloc (by simp) _⟩
    · rw [partV_7] at c0
      go_enter Try.func39, Try.ntmps39
      go_wp2
      exact bodyPost_ret (v := .tuple #[.agg #[.int .i64 0, .slice none 0 0], .agg #[.int .i64 0, .int .i64 0], .bool false]) (by simp [results, Try.results39, go_sem]) rfl ⟨HR.out, by first | exact (((Below.refl _ _).alloc (Nat.le_refl _) _).alloc (by simp) _).alloc (by simp <;> omega) _ | exact ((Below.refl _ _).alloc (Nat.le_refl _) _).alloc (by simp) _⟩

end Go.Proofs.Ythdcjelahoiepab

/- Contract of impl.pushedDown. -/
namespace Go.Proofs.Ythdcjelahoiepab
open Go.RowKit

/-- Parts that a call hands back. -/
def HasParts (e : Ending) (w0 w' : World) (ys : List PartD) : Prop := ∃ g n c vs, e = .returned (.slice (some ⟨g, 0, none⟩) n c) ∧ vs.length = n ∧ ys.length = n ∧ n ≤ 12 ∧ AreParts w0 vs ys ∧ ∀ (k : Nat) (v : Value), vs[k]? = some v → w'.cell? ⟨g, k, none⟩ = some v
theorem part_one {w : World} {v : Value} {x : PartD} (h : IsPart w v x) (hk : 1 ≤ x.K ∧ x.K ≤ 7) : v.oneCell' = true := by
  obtain ⟨ta, tn, tc, ca, cn, cc, pa, pn, pc, rfl, _⟩ := h
  obtain ⟨K, A, B, ts, zs, ps⟩ := x
  simp only [PartD.K, PartD.A, PartD.B] at *
  rcases kind_cases hk with rfl | rfl | rfl | rfl | rfl | rfl | rfl
  · rw [partV_1]; rfl
  · rw [partV_2]; rfl
  · rw [partV_3]; rfl
  · rw [partV_4]; rfl
  · rw [partV_5]; rfl
  · rw [partV_6]; rfl
  · rw [partV_7]; rfl
theorem at_nil_ints {w : World} : RInts.At w [.slice none 0 0] [] := ⟨none, 0, 0, rfl, rfl, by omega, .inl rfl, fun _ => rfl⟩
theorem at_nil_tests {w : World} : RTests.At w [.slice none 0 0] [] := ⟨none, 0, 0, rfl, rfl, by omega, .inl rfl, fun _ => rfl⟩
theorem at_nil_pairs {w : World} : RPairs.At w [.slice none 0 0] [] := ⟨none, 0, 0, rfl, rfl, by omega, .inl rfl, fun _ => rfl⟩

theorem areParts_app {w : World} {vs vs' : List Value} {xs xs' : List PartD} (h1 : AreParts w vs xs) (hl : vs.length = xs.length) (h2 : AreParts w vs' xs') : AreParts w (vs ++ vs') (xs ++ xs') := fun i v x hv hx => by
  by_cases hi : i < vs.length
  · rw [List.getElem?_append_left hi] at hv
    rw [List.getElem?_append_left (by omega)] at hx
    exact h1 i v x hv hx
  · rw [List.getElem?_append_right (by omega)] at hv
    rw [List.getElem?_append_right (by omega), ← hl] at hx
    exact h2 _ v x hv hx
theorem areParts_take {w : World} {vs : List Value} {xs : List PartD} (h : AreParts w vs xs) (n : Nat) : AreParts w (vs.take n) (xs.take n) := fun i v x hv hx => by
  rw [List.getElem?_take] at hv hx
  split at hv
  · rename_i hi
    rw [if_pos hi] at hx
    exact h i v x hv hx
  · cases hv
theorem last_tests {w : World} {vs : List Value} {xs : List PartD} {x u : PartD} {ta : Option Addr} {tn tc : Nat} (h : selU xs = some (x, u)) (hap : AreParts w vs xs) (hv : vs[xs.length - 1]? = some (.iface 80 (.agg #[.int .i64 x.A, .slice ta tn tc]))) : RTests.At w [.slice ta tn tc] x.ts := by
  obtain ⟨h1, h2, _, _⟩ := selU_open h
  obtain ⟨ta', tn', tc', ca, cn, cc, pa, pn, pc, he, hat⟩ := hap _ _ _ hv h1
  rw [h2, partV_2] at he
  simp only [Value.iface.injEq, Value.agg.injEq, true_and] at he
  have e2 := congrArg (fun a : Array Value => a[1]?) he
  simp at e2
  obtain ⟨rfl, rfl, rfl⟩ := e2
  obtain ⟨c1, d1, q1, e1, c2, d2, q2, e2, c3, d3, q3, e3, c4, d4, q4, ht, _⟩ := hat
  obtain rfl : c1 = _ := e1
  simp only [cellsP, List.cons_append, List.nil_append, List.cons.injEq, true_and] at q1
  subst q1
  obtain rfl : c2 = _ := e2
  simp only [List.cons_append, List.nil_append, List.cons.injEq, true_and] at q2
  subst q2
  obtain rfl : c3 = _ := e3
  simp only [List.cons_append, List.nil_append, List.cons.injEq, true_and] at q3
  subst q3
  obtain ⟨sa, sn, sc, rfl, r1⟩ := ht
  simp only [List.cons_append, List.nil_append, List.cons.injEq, Value.slice.injEq] at q4
  obtain ⟨⟨rfl, rfl, rfl⟩, _⟩ := q4
  exact ⟨_, _, _, rfl, r1⟩
theorem new_parts {w : World} {A B n : Int} {ts : List Tst} {ta : Option Addr} {tn tc : Nat} (h : RTests.At w [.slice ta tn tc] ts) : AreParts w [.iface 80 (.agg #[.int .i64 A, .slice ta tn tc]), .iface 80 (.agg #[.int .i64 B, .slice ta tn tc]), .iface 82 (.agg #[.int .i64 n, .int .i64 (n + 1)])] [(2, A, 0, ts, [], []), (2, B, 0, ts, [], []), (5, n, n + 1, [], [], [])] := fun i v x hv hx => by
  match i, hv, hx with
  | 0, hv, hx =>
    obtain rfl := Option.some.inj hv
    obtain rfl := Option.some.inj hx
    exact ⟨ta, tn, tc, none, 0, 0, none, 0, 0, partV_2.symm, RPart.at_mk h at_nil_ints at_nil_pairs⟩
  | 1, hv, hx =>
    obtain rfl := Option.some.inj hv
    obtain rfl := Option.some.inj hx
    exact ⟨ta, tn, tc, none, 0, 0, none, 0, 0, partV_2.symm, RPart.at_mk h at_nil_ints at_nil_pairs⟩
  | 2, hv, hx =>
    obtain rfl := Option.some.inj hv
    obtain rfl := Option.some.inj hx
    exact ⟨none, 0, 0, none, 0, 0, none, 0, 0, partV_5.symm, RPart.at_mk at_nil_tests at_nil_ints at_nil_pairs⟩

set_option maxRecDepth 100000 in
set_option maxHeartbeats 8000000 in
theorem pushedDown_any (gg pn pc : Nat) (vs : List Value) (xs : List PartD) (w0 w : World) (hp : 1 ≤ pn) (hpn : pn ≤ 12) (hvl : vs.length = pn) (hz : xs.length = pn) (hap : AreParts w0 vs xs)
    (hcell : ∀ (k : Nat) (v : Value), vs[k]? = some v → w.cell? ⟨gg, k, none⟩ = some v) (hkind : ∀ (i : Nat) (x : PartD), xs[i]? = some x → 1 ≤ x.K ∧ x.K ≤ 7) (hA : ∀ (i : Nat) (x : PartD), xs[i]? = some x → x.K = 2 → 0 ≤ x.A ∧ x.A < i) (hcap : pn ≤ pc) :
    Calls Try.prog 26 #[.slice (some ⟨gg, 0, none⟩) pn pc] w fun e w' => HasParts e w0 w' (pushed xs) ∧ Below w.heap.size w w' := by
  obtain ⟨j0, hj, hy0, hy1, hy2⟩ := info_parts Try.infoPartI
  have HC := Hid.mk (selectOfUnion_any gg pn pc vs xs w0 w hp (by omega) hvl hz hap hcell hkind hA)
  have HSAME : Hid (∀ w', Below w.heap.size w w' → pushed xs = xs → HasParts (.returned (.slice (some ⟨gg, 0, none⟩) pn pc)) w0 w' (pushed xs)) := fun w' hb he => by
    rw [he]
    exact ⟨gg, pn, pc, vs, rfl, hvl, hz, hpn, hap, fun k v hv => cell_later hb (hcell k v hv)⟩
  go_enter Try.func26, Try.ntmps26
  go_wp2_with fail
  refine HC.out.mono ?_
  rintro e w1 ⟨hret, hb1⟩
  unfold SelRet at hret
  cases hsel : selU xs with
  | none =>
    rw [hsel] at hret
    obtain rfl := hret
    have HP := Hid.mk (pushed_none hsel)
    clear HC hsel hvl hz hap hcell hkind hA
    go_wp2
    go_ret
    exact ⟨HSAME.out _ ((hb1.alloc hb1.size _).alloc (Nat.le_trans hb1.size (by simp)) _) HP.out, (hb1.alloc hb1.size _).alloc (Nat.le_trans hb1.size (by simp)) _⟩
  | some xu =>
    obtain ⟨x, u⟩ := xu
    rw [hsel] at hret
    obtain ⟨ta, tn, tc, rfl, hlast⟩ := hret
    by_cases hbig : 12 < pn + 2
    · have HP := Hid.mk (pushed_many (xs := xs) (by omega))
      have hbi : (12 : Int) < (pn : Int) + 2 := by omega
      clear HC hsel hvl hz hap hcell hkind hA hlast
      go_wp2
      go_ret
      exact ⟨HSAME.out _ ((hb1.alloc hb1.size _).alloc (Nat.le_trans hb1.size (by simp)) _) HP.out, (hb1.alloc hb1.size _).alloc (Nat.le_trans hb1.size (by simp)) _⟩
    · have hbi : ¬ (12 : Int) < (pn : Int) + 2 := by omega
      obtain ⟨W, hW⟩ : ∃ W, W = (w1.alloc (.cells #[.int .i64 x.A, .slice ta tn tc] 80)).alloc (.cells #[.int .i64 u.A, .int .i64 u.B] 82) := ⟨_, rfl⟩
      have BW : Below w1.heap.size w1 W := by rw [hW]; exact ((Below.refl _ _).alloc (Nat.le_refl _) _).alloc (by simp) _
      have b0 : W.cell? ⟨w1.heap.size, 1, none⟩ = some (.slice ta tn tc) := by rw [hW]; simp
      have b1 : W.cell? ⟨w1.heap.size + 1, 0, none⟩ = some (.int .i64 u.A) := by rw [hW]; simp
      have b2 : W.cell? ⟨w1.heap.size + 1, 1, none⟩ = some (.int .i64 u.B) := by rw [hW]; simp
      have zW : w1.heap.size + 1 < W.heap.size := World.block_lt_of_cell? _ _ b1
      have B1 : Below w.heap.size w W := hb1.trans (BW.mono hb1.size)
      have hp2 : 2 ≤ pn := by
        by_cases h2 : 2 ≤ pn
        · exact h2
        · exfalso
          obtain rfl : pn = 1 := by omega
          unfold selU at hsel
          rw [hz] at hsel
          obtain ⟨y, h3, h4⟩ := Option.bind_eq_some_iff.1 hsel
          split at h4
          · rename_i h5
            have := hA _ _ h3 h5
            omega
          · cases h4
      have HNW : Hid (∀ (j : Nat) (v : Value), (vs.take (pn - 1))[j]? = some v → W.cell? ((⟨gg, 0, none⟩ : Addr).add j) = some v) := fun j v hv => by
        rw [Addr.add_lit, Nat.zero_add]
        refine cell_later B1 (hcell j v ?_)
        rw [List.getElem?_take] at hv
        split at hv
        · exact hv
        · cases hv
      have HON : Hid (∀ v ∈ vs.take (pn - 1), v.oneCell' = true) := fun v hv => by
        obtain ⟨j, hj⟩ := List.mem_iff_getElem?.1 (List.mem_of_mem_take hv)
        have hjl := (List.getElem?_eq_some_iff.1 hj).1
        have hxj : xs[j]? = some xs[j] := List.getElem?_eq_getElem (by omega)
        exact part_one (hap j _ _ hj hxj) (hkind j _ hxj)
      have HLN : Hid ((vs.take (pn - 1)).length = (pn - 1) * 1) := by show _ = _; rw [List.length_take, hvl]; omega
      have hpi : (pn : Int) - 1 = ((pn - 1 : Nat) : Int) := by omega
      have hpc : pn - 1 ≤ pc := by omega
      have HVL := Hid.mk hvl
      have HZ := Hid.mk hz
      have HAP := Hid.mk hap
      have HSEL := Hid.mk hsel
      have HLAST := Hid.mk hlast
      clear HC hsel hvl hz hap hcell hkind hA hlast HSAME hb1 BW
      go_upto_region 6 with fail
      rw [← hW]
      clear hW
      go_wp2_with (at_builtin; refine wpList_append_lies _ rfl (.tmp 26) (.tmp 29) 48 rfl W.heap.size 52 j0 .nilIface 1 16 Try.underlying48 hj hy0 hy1 hy2 rfl (by decide) (.slice none 0 0) 0 [] rfl (World.ownsRow_nil _ _ _ _) ⟨gg, 0, none⟩ (pn - 1) pc (vs.take (pn - 1)) rfl HLN.out HNW.out HON.out (by omega) (by unfold maxLen; omega) (by omega) (Nat.le_refl _) W.heap.size rfl ?_)
      intro g1 d1 w2 ho1 hg1 _ hlt1
      (try simp only [Nat.zero_add, List.nil_append] at ho1 ⊢)
      have hb2 : Below W.heap.size W w2 := (Below.refl _ _).grown hg1 (Nat.le_refl _) (fun k hk => by cases hk)
      have b0 := cell_later hb2 b0
      have b1 := cell_later hb2 b1
      have b2 := cell_later hb2 b2
      have zw2 := hb2.size
      have B2 : Below w.heap.size w w2 := B1.trans (hb2.mono B1.size)
      have HO1 := Hid.mk ho1
      have HB2 := Hid.mk B2
      have HBW := Hid.mk B1.size
      clear ho1 hg1 hb2 B1 B2 HNW HON HLN
      obtain ⟨V, hV⟩ : ∃ V, V = w2.alloc (.cells #[.iface 80 (.agg #[.int .i64 u.A, .slice ta tn tc]), .iface 80 (.agg #[.int .i64 u.B, .slice ta tn tc]), .iface 82 (.agg #[.int .i64 ((pn - 1 : Nat) : Int), .int .i64 (((pn - 1 : Nat) : Int) + 1)])] 52) := ⟨_, rfl⟩
      have BV : Below w2.heap.size w2 V := by rw [hV]; exact (Below.refl _ _).alloc (Nat.le_refl _) _
      have zV : V.heap.size = w2.heap.size + 1 := by rw [hV]; simp
      have hn1 : ((pn - 1 : Nat) : Int) + 1 < 9223372036854775808 := by omega
      go_wp2_with (at_builtin; refine wpList_append_lies _ rfl (.tmp 31) (.tmp 49) 48 rfl W.heap.size 52 j0 .nilIface 1 16 Try.underlying48 hj hy0 hy1 hy2 rfl (by decide) _ _ _ rfl (HO1.out.alloc _) ⟨w2.heap.size, 0, none⟩ 3 3 [.iface 80 (.agg #[.int .i64 u.A, .slice ta tn tc]), .iface 80 (.agg #[.int .i64 u.B, .slice ta tn tc]), .iface 82 (.agg #[.int .i64 ((pn - 1 : Nat) : Int), .int .i64 (((pn - 1 : Nat) : Int) + 1)])] rfl rfl (news_at w2 _ _) (by simp; exact ⟨rfl, rfl, rfl⟩) (by omega) (by unfold maxLen; omega) (by omega) (by simp; omega) (w2.heap.size + 1) (by simp) ?_)
      intro g3 d3 w3 ho3 hg3 _ hlt3
      have hg1 : w.heap.size ≤ g1 := Nat.le_trans HBW.out (HO1.out.lt g1 rfl).1
      have B3 : Below w.heap.size w w3 := (HB2.out.alloc HB2.out.size _).grown hg3 (Nat.le_trans HB2.out.size (by simp)) (fun k hk => by
        obtain rfl : g1 = k := by simpa [Value.ownBlock] using hk
        exact hg1)
      have HR : Hid (HasParts (.returned (.slice (some ⟨g3, 0, none⟩) (pn - 1 + 3) d3)) w0 w3 (pushed xs)) := by
        show HasParts _ _ _ _
        rw [pushed_some HSEL.out (by rw [HZ.out]; exact hbig), HZ.out]
        refine ⟨g3, pn - 1 + 3, d3, _, rfl, ?_, ?_, by omega, areParts_app (areParts_take HAP.out _) ?_ (new_parts (last_tests HSEL.out HAP.out HLAST.out)), fun k v hv => (ho3.cellAt k ?_).trans hv⟩
        · rw [List.length_append, List.length_take, HVL.out]; simp
        · rw [List.length_append, List.length_take, HZ.out]; simp
        · rw [List.length_take, List.length_take, HVL.out, HZ.out]
        · have h9 := (List.getElem?_eq_some_iff.1 hv).1
          rw [List.length_append, List.length_take, HVL.out] at h9
          simp at h9
          omega
      clear ho3 hg3
      go_wp2
      go_ret
      exact ⟨HR.out, B3⟩
end Go.Proofs.Ythdcjelahoiepab

/- A part behind the interface tells itself again; whatever its kind. -/
namespace Go.Proofs.Ythdcjelahoiepab
open Go.RowKit Go.Shelf

theorem noMore_open {x : PartD} (h : noMore x = true) : (x.K = 2 ∨ x.ts = []) ∧ (x.K = 3 ∨ x.cs = []) ∧ (x.K = 4 ∨ x.ps = []) ∧ ((x.K = 4 ∨ x.K = 5 ∨ x.K = 6) ∨ x.B = 0) := by
  unfold noMore at h
  simp only [Bool.and_eq_true, Bool.or_eq_true, decide_eq_true_eq] at h
  obtain ⟨h1, h2, h3, h4⟩ := h
  exact ⟨h1.imp id List.eq_nil_of_length_eq_zero, h2.imp id List.eq_nil_of_length_eq_zero, h3.imp id List.eq_nil_of_length_eq_zero, h4⟩

/-- What is called where a part is asked to tell itself. -/
def Tells5 (v : Value) (w0 : World) (x : PartD) : Prop := ∃ (T : TypeId) (rv : Value) (fn : FuncId), v = .iface T rv ∧ (∀ w : World, (method 240 T rv "loop.example/g00305/impl.asPart").run Try.prog w = .ok (fn, rv) w) ∧ (∀ (args : Array Value) (w : World), (callFunc fn args).run Try.prog w = .ok (.enter fn args) w) ∧
  ∀ w : World, Below w0.heap.size w0 w → Calls Try.prog fn #[rv] w fun e w' => PartRet e w' w.heap.size x ∧ Below w.heap.size w w'

theorem asPart_of {v : Value} {w0 : World} {x : PartD} (h : IsPart w0 v x) (hk : 1 ≤ x.K ∧ x.K ≤ 7) (hn : noMore x = true) (hs : SmPart x) : Tells5 v w0 x := by
  obtain ⟨ta, tn, tc, ca, cn, cc, pa, pn, pc, rfl, hat⟩ := h
  obtain ⟨ta', tn', tc', ca', cn', cc', pa', pn', pc', hcc, ⟨t1, t2, t3, t4⟩, ⟨u1, u2, u3, u4⟩, ⟨v1, v2, v3, v4⟩⟩ := RPart.at_open4 hat
  simp only [cellsP, List.cons.injEq, Value.slice.injEq, and_true, true_and] at hcc
  obtain ⟨⟨rfl, rfl, rfl⟩, ⟨rfl, rfl, rfl⟩, rfl, rfl, rfl⟩ := hcc
  obtain ⟨n1, n2, n3, n4⟩ := noMore_open hn
  have he := hs.each
  have hs1 := hs.1
  have hs2 := hs.2.1
  have hs3 := hs.2.2.1
  clear hn hs hat
  obtain ⟨K, A, B, ts, zs, ps⟩ := x
  simp only [PartD.K, PartD.A, PartD.B, PartD.ts, PartD.cs, PartD.ps] at *
  rcases kind_cases hk with rfl | rfl | rfl | rfl | rfl | rfl | rfl
  · rw [partV_1]
    obtain rfl : ts = [] := by simpa using n1
    obtain rfl : zs = [] := by simpa using n2
    obtain rfl : ps = [] := by simpa using n3
    obtain rfl : B = 0 := by simpa using n4
    exact ⟨_, _, _, rfl, m_asPart_1 A, enters_of Try.func92 (by kernel_rfl) rfl, fun w hb => p_sourcePart A w⟩
  · rw [partV_2]
    obtain rfl : zs = [] := by simpa using n2
    obtain rfl : ps = [] := by simpa using n3
    obtain rfl : B = 0 := by simpa using n4
    exact ⟨_, _, _, rfl, m_asPart_2 A ta tn tc, enters_of Try.func85 (by kernel_rfl) rfl, fun w hb => p_selectPart A ta tn tc ts w t1 (by omega) (AtE.below t3 hb) t4⟩
  · rw [partV_3]
    obtain rfl : ts = [] := by simpa using n1
    obtain rfl : ps = [] := by simpa using n3
    obtain rfl : B = 0 := by simpa using n4
    exact ⟨_, _, _, rfl, m_asPart_3 A ca cn cc, enters_of Try.func94 (by kernel_rfl) rfl, fun w hb => p_projectPart A ca cn cc zs w u1 (by omega) (At.below u3 hb) u4⟩
  · rw [partV_4]
    obtain rfl : ts = [] := by simpa using n1
    obtain rfl : zs = [] := by simpa using n2
    exact ⟨_, _, _, rfl, m_asPart_4 A B pa pn pc, enters_of Try.func72 (by kernel_rfl) rfl, fun w hb => p_joinPart A B pa pn pc ps w v1 (by omega) he (v3.below hb)⟩
  · rw [partV_5]
    obtain rfl : ts = [] := by simpa using n1
    obtain rfl : zs = [] := by simpa using n2
    obtain rfl : ps = [] := by simpa using n3
    exact ⟨_, _, _, rfl, m_asPart_5 A B, enters_of Try.func89 (by kernel_rfl) rfl, fun w hb => p_unionPart A B w⟩
  · rw [partV_6]
    obtain rfl : ts = [] := by simpa using n1
    obtain rfl : zs = [] := by simpa using n2
    obtain rfl : ps = [] := by simpa using n3
    exact ⟨_, _, _, rfl, m_asPart_6 A B, enters_of Try.func96 (by kernel_rfl) rfl, fun w hb => p_minusPart A B w⟩
  · rw [partV_7]
    obtain rfl : ts = [] := by simpa using n1
    obtain rfl : zs = [] := by simpa using n2
    obtain rfl : ps = [] := by simpa using n3
    obtain rfl : B = 0 := by simpa using n4
    exact ⟨_, _, _, rfl, m_asPart_7 A, enters_of Try.func83 (by kernel_rfl) rfl, fun w hb => p_distinctPart A w⟩

end Go.Proofs.Ythdcjelahoiepab
