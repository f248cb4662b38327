/- Several texts of one proof, in build order: StepV, StepW, IntsR, JpW, JpX. -/
import Derived.Test.YtpnaoahlfhbbmaaGreatM5
import Derived.Test.YtpnaoahlfhbbmaaGreatM16
import Derived.Test.YtpnaoahlfhbbmaaGreatM24
import Derived.Test.YtpnaoahlfhbbmaaGreatM26
import Derived.Test.YtpnaoahlfhbbmaaGreatM17

/- An append of whatever cells, at a step of a region that draws. -/
namespace Go.Proofs.YtpnaoahlfhbbmaaGreat
open Go.RowKit

theorem step_append_vals {P : Program} {w : World} {ops : Array Oper} {o : Oper} {a : Act} {K : Act → World → Prop} {Q : Exit → Act → World → Prop} {E : Prop} (hgd : o.guard = none) (s x : Operand) (t : TypeId)
    (ho : o.op = .call { callee := .builtin .append, args := #[s, x], argTypes := #[t, t] })
    (base : Nat) (e : TypeId) (i : TypeInfo) (z : Value) (size bytes : Nat) (ht : P.underlying t = some (.slice e)) (hi : P.info? e = some i) (hz : i.zero = some z)
    (hsize : i.size = size) (hby : i.bytes = bytes) (hzs : z.cells.size = size) (hsz : 0 < size)
    (v : Value) (n : Nat) (xs : List Value) (hs : a.eval s = v) (hown : w.ownsRow base e size v n xs)
    (ao : Option Addr) (m c : Nat) (news : List Value) (hx : a.eval x = .slice ao m c) (hl : news.length = m * size) (hat : ∀ ad, ao = some ad → ∀ (j : Nat) (u : Value), news[j]? = some u → w.cell? (ad.add j) = some u) (h1 : ∀ u ∈ news, u.oneCell' = true) (hnil : ao = none → c = 0 ∧ m = 0)
    (h63 : n + m ≤ maxLen) (hbytes : (n + m) * bytes ≤ 140737488355328) (hbase : base ≤ w.heap.size)
    (h : ∀ r cap w', w'.ownsRow base e size (.slice r (n + m) cap) (n + m) (xs ++ news) → w.grownBy w' v.ownBlock → ((Value.slice r (n + m) cap).ownBlock = v.ownBlock ∨ (Value.slice r (n + m) cap).ownBlock = some w.heap.size) → K (a.put o.dst (.slice r (n + m) cap)) w') :
    if Region.wanted o (yielded ops a.tmps) = true then Oper.wp P o a w K Q else E := by
  have hw : Region.wanted o (yielded ops a.tmps) = true := by simp [Region.wanted, hgd]
  rw [if_pos hw]
  cases ao with
  | none =>
    obtain ⟨hc, hm⟩ := hnil rfl
    subst hc hm
    obtain rfl : news = [] := List.eq_nil_of_length_eq_zero (by simpa using hl)
    obtain ⟨r, cap, rfl⟩ := owns_slice hown
    have hrun := run_append_owned_none (P := P) (w := w) base t o.type e i size ht hi (.slice r n cap) n xs hown
    have := h r cap w (by simpa using hown) (World.grownBy.refl _ _) (.inl rfl)
    unfold Oper.wp
    simp [execOp, ho, resolve, invoke, builtin, hs, hx, hrun, Result.andThen]
    rw [Nat.add_zero] at this
    exact this
  | some ad =>
    obtain ⟨v', w', hr, h2, h3, _, h5⟩ := run_append_own_at (P := P) w base t o.type e i z size bytes ht hi hz hsize hby hzs hsz v n xs hown ad m c news hl (fun j u hj => hat ad rfl j u hj) h1 h63 hbytes hbase
    obtain ⟨r, cap, rfl⟩ := owns_slice h2
    unfold Oper.wp execOp
    simp only [ho, resolve, invoke, builtin, Sem.run_bind, Sem.run_pure, Result.andThen_ok, List.map_toArray, List.map_cons, List.map_nil, hs, hx, hr]
    exact h r cap w' h2 h3 h5

end Go.Proofs.YtpnaoahlfhbbmaaGreat

/- An append of whatever cells, in a plain region. -/
namespace Go.Proofs.YtpnaoahlfhbbmaaGreat
open Go.RowKit

theorem wpList_app_vals {P : Program} {w : World} {ops : Array Oper} {rest : List Oper} {o : Oper} {a : Act} {Q : Exit → Act → World → Prop} (hgd : o.guard = none) (s x : Operand) (t : TypeId)
    (ho : o.op = .call { callee := .builtin .append, args := #[s, x], argTypes := #[t, t] })
    (base : Nat) (e : TypeId) (i : TypeInfo) (z : Value) (size bytes : Nat) (ht : P.underlying t = some (.slice e)) (hi : P.info? e = some i) (hz : i.zero = some z)
    (hsize : i.size = size) (hby : i.bytes = bytes) (hzs : z.cells.size = size) (hsz : 0 < size)
    (v : Value) (n : Nat) (xs : List Value) (hs : a.eval s = v) (hown : w.ownsRow base e size v n xs)
    (ao : Option Addr) (m c : Nat) (news : List Value) (hx : a.eval x = .slice ao m c) (hl : news.length = m * size) (hat : ∀ ad, ao = some ad → ∀ (j : Nat) (u : Value), news[j]? = some u → w.cell? (ad.add j) = some u) (h1 : ∀ u ∈ news, u.oneCell' = true) (hnil : ao = none → c = 0 ∧ m = 0)
    (h63 : n + m ≤ maxLen) (hbytes : (n + m) * bytes ≤ 140737488355328) (hbase : base ≤ w.heap.size)
    (h : ∀ r cap w', w'.ownsRow base e size (.slice r (n + m) cap) (n + m) (xs ++ news) → w.grownBy w' v.ownBlock → ((Value.slice r (n + m) cap).ownBlock = v.ownBlock ∨ (Value.slice r (n + m) cap).ownBlock = some w.heap.size) → wpList P ops Q rest (a.put o.dst (.slice r (n + m) cap)) w') :
    wpList P ops Q (o :: rest) a w :=
  wpList_plain hgd fun K hK => by
    have hw : Region.wanted o (yielded ops a.tmps) = true := by simp [Region.wanted, hgd]
    have h9 := step_append_vals (P := P) (w := w) (ops := ops) (o := o) (a := a) (K := K) (Q := Q) (E := True) hgd s x t ho base e i z size bytes ht hi hz hsize hby hzs hsz v n xs hs hown ao m c news hx hl hat h1 hnil h63 hbytes hbase (fun r cap w' k1 k2 k3 => hK _ _ (h r cap w' k1 k2 k3))
    rw [if_pos hw] at h9
    exact h9

end Go.Proofs.YtpnaoahlfhbbmaaGreat

/- Lists of numbers that are answered, held as the laws marked them. -/
namespace Go.Proofs.YtpnaoahlfhbbmaaGreat
open Go.RowKit

def IntsRet (e : Ending) (w' : World) (lo : Nat) (ok : Bool) (zs : List Int) : Prop := ∃ r m d, e = .returned (.tuple #[.slice r m d, .bool ok]) ∧ zs.length = m ∧ w'.ownsRow lo 3 1 (.slice r m d) m (zs.map (.int .i64))
theorem ints_at {w : World} {F : Nat → Prop} {a : Option Addr} {n c : Nat} {zs : List Int} (h : RInts.Own w F [.slice a n c] zs) : At w a zs := (RInts.at_iff.1 (RInts.toAt h)).2.2.1
theorem heldInts_rep (a : Option Addr) (n c : Nat) (zs : List Int) (m : Int) (w : World) (hz : zs.length = n) (hn : n ≤ 1048576) (h0 : 0 ≤ m) (h1 : m ≤ 268435456) (ha : At w a (mkInts m zs)) :
    Calls Tryz.prog 56 #[.slice a n c, .int .i64 m] w fun e w' => e = .returned (.int .i64 (m + n)) ∧ Below w.heap.size w w' := by
  unfold mkInts at ha
  rw [hz] at ha
  exact (heldIntS_any a n c m w hn h0 (by omega) ha).mono fun _ _ ⟨h1, h2⟩ => ⟨h1, by first | exact h2 | (rw [h2]; exact Below.refl _ _)⟩

theorem Off.toBelow {lo hi B : Nat} {a b : World} (h : Off (From lo hi) a b) (hlo : B ≤ lo) (hB : B ≤ a.heap.size) : Below B a b := ⟨h.os, h.tape, h.output, h.size, fun k hk => h.block k (by omega) (fun e => by have := e.1; omega)⟩

end Go.Proofs.YtpnaoahlfhbbmaaGreat

/- Contracts of slices.Clone, slices.Index at ints, nothingJoined, joinedParts.with. -/
namespace Go.Proofs.YtpnaoahlfhbbmaaGreat
open Go.RowKit

theorem eqNilI (a : Option Addr) (n c : Nat) (w : World) : (binOp .eql 45 (.slice a n c) (.slice none 0 0)).run Tryz.prog w = .ok (.bool a.isNone) w := by
  have he : (Op.equalIn (9999 + 1) 45 (.slice a n c) (.slice none 0 0)).run Tryz.prog w = .ok a.isNone w := by
    unfold Op.equalIn
    simp only [Sem.run_bind, run_underlying Tryz.underlying45, Result.andThen_ok]
    cases a <;> rfl
  have he' : (Op.equal 45 (.slice a n c) (.slice none 0 0)).run Tryz.prog w = .ok a.isNone w := he
  simp only [binOp]
  rw [Sem.run_bind, he']
  rfl

set_option maxHeartbeats 2000000 in
theorem cloneI_any (a : Option Addr) (n c : Nat) (zs : List Int) (w : World) (hz : zs.length = n) (hn : n ≤ 1048576) (hF : a = none → c = 0) (ha : At w a zs) :
    Calls Tryz.prog 51 #[.slice a n c] w fun e w' => ∃ r d, e = .returned (.slice r n d) ∧ w'.ownsRow w.heap.size 3 1 (.slice r n d) n (zs.map (.int .i64)) ∧ Below w.heap.size w w' := by
  obtain ⟨i0, hi, hz0, hz1, hz2⟩ := info_parts Tryz.infoInt
  cases a with
  | none =>
    have hc0 := hF rfl
    subst hc0
    have hM : zs = [] := by rcases ha with h | ⟨b, off, h, _⟩; exact h; cases h
    subst hM
    have hn0 : 0 = n := hz
    subst hn0
    have hq := fun w => eqNilI none 0 0 w
    go_enter Tryz.func51, Tryz.ntmps51
    go_wp2
    go_ret
    exact ⟨none, 0, rfl, World.ownsRow_nil _ _ _ _, Below.refl _ _⟩
  | some ad =>
    have OE := Hid.mk (owns_void w 3 1)
    have HA := Hid.mk (ha.alloc (.cells #[] 3))
    have HZ := Hid.mk hz
    clear ha hF hz
    have hq := fun w => eqNilI (some ad) n c w
    go_enter Tryz.func51, Tryz.ntmps51
    go_wp2_with (at_builtin; refine wpList_append_all rfl (.tmp 5) (.tmp 6) 45 rfl w.heap.size 3 i0 (.int .i64 0) 8 Tryz.underlying45 hi hz0 hz1 hz2 rfl (.slice (some ⟨w.heap.size, 0, none⟩) 0 0) 0 [] rfl OE.out (some ad) n c zs rfl HZ.out HA.out (fun h => by cases h) (by unfold maxLen; omega) (by omega) (by simp) ?_)
    intro r1 d1 w1 ho1 hg1
    have HB : Hid (Below w.heap.size w w1) := ((Below.refl _ _).alloc (Nat.le_refl _) _).grown hg1 (by simp) (fun j hj => by simp [Value.ownBlock] at hj; omega)
    have HO : Hid (w1.ownsRow w.heap.size 3 1 (.slice r1 n d1) n (zs.map (.int .i64))) := Hid.mk (by simpa using ho1)
    clear ho1 hg1
    go_wp2
    go_ret
    exact ⟨r1, d1, by first | rfl | simp, HO.out, HB.out⟩

/-- Where a number stands, or -1. -/
def ixI (k : Int) (l : List Int) : Int := if k ∈ l then (ix k l : Int) else -1
theorem ix_first {l : List Int} {k : Nat} (hk : k < l.length) (h : ∀ j, j < k → l.getD j 0 ≠ l.getD k 0) : ix (l.getD k 0) l = k := by
  induction l generalizing k with
  | nil => simp at hk
  | cons c cs ih =>
    cases k with
    | zero => unfold ix; rw [List.getD_cons_zero, if_pos rfl]
    | succ k =>
      have h0 := h 0 (by omega)
      unfold ix
      rw [List.getD_cons_succ] at h0 ⊢
      rw [List.getD_cons_zero] at h0
      rw [if_neg h0, ih (by simpa using hk) (fun j hj => by have := h (j + 1) (by omega); simpa using this)]

set_option maxHeartbeats 2000000 in
theorem indexI_any (a : Option Addr) (n c : Nat) (zs : List Int) (x : Int) (w : World) (hz : zs.length = n) (hn : n ≤ 9223372036854775807) (ha : At w a zs) :
    Calls Tryz.prog 52 #[.slice a n c, .int .i64 x] w fun e w' => e = .returned (.int .i64 (ixI x zs)) ∧ w' = w := by
  have HZ := Hid.mk hz
  have HA := Hid.mk ha
  clear hz ha
  go_enter Tryz.func52, Tryz.ntmps52
  go_wp2_with fail
  go_loopw [8] (fun i wx => ∃ (k : Nat), k ≤ n ∧ i = .int .i64 k ∧ (∀ j, j < k → zs.getD j 0 ≠ x) ∧ wx = w) (fun i _ => n - (intOf i).toNat)
  case atStart => exact ⟨0, Nat.zero_le _, rfl, fun j h => by omega, rfl⟩
  case round =>
    obtain ⟨k, hk, rfl, hno, rfl⟩ := hrel
    by_cases hlt : k < n
    · obtain ⟨b, off, hab, hb, hc⟩ := HA.out.some (by have := HZ.out; omega)
      subst hab
      have hcx : wr.cell? ⟨b, off + k, none⟩ = some (.int .i64 (zs.getD k 0)) := hc k (by have := HZ.out; omega)
      obtain ⟨y, hy⟩ : ∃ y, zs.getD k 0 = y := ⟨_, rfl⟩
      rw [hy] at hcx
      have HY := Hid.mk hy
      have HNO := Hid.mk hno
      have hki : (k : Int) < (n : Int) := by omega
      clear hc hy hno
      by_cases he : x = y
      · have he' : (x == y) = true := beq_iff_eq.2 he
        have HR : Hid (ixI x zs = (k : Int)) := by
          show _ = _
          have hkl : k < zs.length := by have := HZ.out; omega
          have hx : zs.getD k 0 = x := by rw [HY.out, he]
          unfold ixI
          rw [if_pos (by rw [← hx]; simp [List.getD, hkl])]
          have := ix_first hkl (fun j hj => by rw [hx]; exact HNO.out j hj)
          rw [hx] at this
          rw [this]
        clear he
        go_wp2
        go_ret
        exact ⟨by rw [HR.out]; rfl, rfl⟩
      · have he' : (x == y) = false := beq_eq_false_iff_ne.2 he
        have HN2 : Hid (∀ j, j < k + 1 → zs.getD j 0 ≠ x) := fun j hj => by
          by_cases e : j < k
          · exact HNO.out j e
          · obtain rfl : j = k := by omega
            rw [HY.out]; exact fun h => he h.symm
        clear he
        go_wp2
        go_roundw
        case rel => exact ⟨k + 1, by omega, by go_num, HN2.out, by first | rfl | trivial⟩
        case measure => simp [intOf]; omega
    · obtain rfl : k = n := by omega
      have hki : ¬ (k : Int) < (k : Int) := by omega
      have HR : Hid (ixI x zs = -1) := by
        show _ = _
        unfold ixI
        rw [if_neg]
        intro hm
        have h1 := ix_lt hm
        have h2 := ix_get hm
        exact hno (ix x zs) (by have := HZ.out; omega) h2
      clear hno
      go_wp2
      go_ret
      exact ⟨by rw [HR.out]; rfl, rfl⟩

end Go.Proofs.YtpnaoahlfhbbmaaGreat

/- Contracts of nothingJoined and joinedParts.with. -/
namespace Go.Proofs.YtpnaoahlfhbbmaaGreat
open Go.RowKit

set_option maxRecDepth 100000 in
set_option maxHeartbeats 4000000 in
theorem nothingJoined_any (w : World) :
    Calls Tryz.prog 29 #[] w fun e w' => ∃ g, e = .returned (.agg #[.slice none 0 0, .int .i64 0, .slice (some ⟨g, 0, none⟩) 1 1]) ∧ (∀ w'', Off (From 0 w.heap.size) w' w'' → AtM w'' (some ⟨g, 0, none⟩) [([], 1)]) ∧ Below w.heap.size w w' := by
  go_enter Tryz.func29, Tryz.ntmps29
  go_wp2
  obtain ⟨W, hW⟩ : ∃ W, W = w.alloc (.cells #[.slice none 0 0, .int .i64 0, .slice (some ⟨w.heap.size + 1, 0, none⟩) 1 1] 60) := ⟨_, rfl⟩
  have zW : W.heap.size = w.heap.size + 1 := by rw [hW]; simp
  have B0 : Below w.heap.size w W := by rw [hW]; exact (Below.refl _ _).alloc (Nat.le_refl _) _
  have k0 := pair0 W (.slice none 0 0) (.int .i64 1) 50
  have k1 := pair1 W (.slice none 0 0) (.int .i64 1) 50
  rw [zW] at k0 k1
  have hat : ∀ w'', Off (From 0 w.heap.size) (W.alloc (.cells #[.slice none 0 0, .int .i64 1] 50)) w'' → AtM w'' (some ⟨w.heap.size + 1, 0, none⟩) [([], 1)] := by
    intro w'' hof
    have k0 := hof.cell k0 (fun h => by have h9 : w.heap.size + 1 < w.heap.size := h.2; omega)
    have k1 := hof.cell k1 (fun h => by have h9 : w.heap.size + 1 < w.heap.size := h.2; omega)
    refine .inr ⟨w.heap.size + 1, 0, [.slice none 0 0, .int .i64 1], rfl, Means.one rfl (by omega) (fun _ => rfl) (.inl rfl), fun j u hu => ?_⟩
    match j, hu with
    | 0, hu => obtain rfl := Option.some.inj hu; exact k0
    | 1, hu => obtain rfl := Option.some.inj hu; exact k1
  refine bodyPost_ret (v := .agg #[.slice none 0 0, .int .i64 0, .slice (some ⟨w.heap.size + 1, 0, none⟩) 1 1]) (by simp [results, Tryz.results29, go_sem]) rfl ⟨w.heap.size + 1, rfl, ?_, ?_⟩
  · rw [← hW]; exact hat
  · rw [← hW]; exact B0.alloc B0.size _

/-- What with hands back. -/
def WithRet (e : Ending) (w' : World) (lo : Nat) (ok : Bool) (cols : List Int) (P : Nat) (ts : List WRow) : Prop :=
  ∃ r m d r2 m2 d2 P', e = .returned (.tuple #[.agg #[.slice r m d, .int .i64 P', .slice r2 m2 d2], .bool ok]) ∧ (ok = true → cols.length = m ∧ (r = none → d = 0) ∧ P' = (P : Int) ∧ ts.length = m2 ∧ ∀ w'', Off (From 0 lo) w' w'' → At w'' r cols ∧ AtM w'' r2 ts)

set_option maxRecDepth 100000 in
set_option maxHeartbeats 16000000 in
theorem with_any (ca : Option Addr) (cn cc : Nat) (cols : List Int) (p : Int) (a : Option Addr) (n c : Nat) (ts : List WRow) (p' : Int) (a' : Option Addr) (n' c' : Nat) (us : List WRow) (pa : Option Addr) (pn pc : Nat) (part : List Int) (w : World)
    (hcl : cols.length = cn) (hc6 : cn ≤ 6) (hcn : ca = none → cc = 0) (hca : At w ca cols) (hz : ts.length = n) (hn : n ≤ 1048576) (ha : AtM w a ts) (hz' : us.length = n') (hn' : n' ≤ 1048576) (ha' : AtM w a' us) (hpl : part.length = pn) (hp6 : pn ≤ 6) (hpa : At w pa part) :
    Calls Tryz.prog 30 #[.agg #[.slice ca cn cc, .int .i64 p, .slice a n c], .agg #[.int .i64 p', .slice a' n' c'], .slice pa pn pc] w fun e w' => WithRet e w' w.heap.size (joinB p p' ts us (prs cols part)) (cols ++ newC cols part) (joinC p p' (prs cols part)) (joinW ts us (prs cols part)) ∧ Below w.heap.size w w' := by
  obtain ⟨j0, hj, hy0, hy1, hy2⟩ := info_parts Tryz.infoInt
  obtain ⟨k0, hk, hx0, hx1, hx2⟩ := info_parts Tryz.infoInts
  obtain ⟨W, hW⟩ : ∃ W, W = ((w.alloc (.cells #[.slice ca cn cc, .int .i64 p, .slice a n c] 60)).alloc (.cells #[.int .i64 p', .slice a' n' c'] 28)).alloc (.cells #[.slice none 0 0, .int .i64 0, .slice none 0 0] 60) := ⟨_, rfl⟩
  have zW : w.heap.size + 2 < W.heap.size := by rw [hW]; simp
  have B0 : Below w.heap.size w W := by rw [hW]; exact (((Below.refl _ _).alloc (Nat.le_refl _) _).alloc (by simp) _).alloc (by simp; omega) _
  have u0 : W.cell? ⟨w.heap.size, 0, none⟩ = some (.slice ca cn cc) := by rw [hW]; refine alloc_keeps (alloc_keeps ?_ _) _; simp
  have u1 : W.cell? ⟨w.heap.size, 1, none⟩ = some (.int .i64 p) := by rw [hW]; refine alloc_keeps (alloc_keeps ?_ _) _; simp
  have u2 : W.cell? ⟨w.heap.size, 2, none⟩ = some (.slice a n c) := by rw [hW]; refine alloc_keeps (alloc_keeps ?_ _) _; simp
  have v0 : W.cell? ⟨w.heap.size + 1, 0, none⟩ = some (.int .i64 p') := by rw [hW]; refine alloc_keeps ?_ _; have := pair0 (w.alloc (.cells #[.slice ca cn cc, .int .i64 p, .slice a n c] 60)) (.int .i64 p') (.slice a' n' c') 28; rwa [World.size_alloc] at this
  have v1 : W.cell? ⟨w.heap.size + 1, 1, none⟩ = some (.slice a' n' c') := by rw [hW]; refine alloc_keeps ?_ _; have := pair1 (w.alloc (.cells #[.slice ca cn cc, .int .i64 p, .slice a n c] 60)) (.int .i64 p') (.slice a' n' c') 28; rwa [World.size_alloc] at this
  have q0 : W.heap[w.heap.size + 2]? = some (.cells #[.slice none 0 0, .int .i64 0, .slice none 0 0] 60 (0, 0)) := by
    rw [hW]
    have := heap_alloc_new ((w.alloc (.cells #[.slice ca cn cc, .int .i64 p, .slice a n c] 60)).alloc (.cells #[.int .i64 p', .slice a' n' c'] 28)) (.cells #[.slice none 0 0, .int .i64 0, .slice none 0 0] 60)
    simpa using this
  have HCL := Hid.mk hcl
  have HCA := Hid.mk (At.below hca B0)
  have HA := Hid.mk (ha.below B0)
  have HA' := Hid.mk (ha'.below B0)
  have HZ := Hid.mk hz
  have HZ' := Hid.mk hz'
  have HPL := Hid.mk hpl
  have HPA := Hid.mk (At.below hpa B0)
  have HB0 := Hid.mk B0
  have HQ0 := Hid.mk q0
  have KC := Hid.mk (cloneI_any ca cn cc cols W hcl (by omega) hcn HCA.out)
  clear hcl hca ha ha' hz hz' hpl hpa B0 q0
  go_enter Tryz.func30, Tryz.ntmps30
  go_upto_region 1 with fail
  rw [← hW]
  clear hW
  go_wp2_with fail
  refine KC.out.mono ?_
  rintro e w1 ⟨r1, d1, rfl, ho1, hb1⟩
  have HO1 := Hid.mk ho1
  have HB1 := Hid.mk hb1
  have z1 := hb1.size
  clear ho1 hb1 KC
  go_wp2_with fail
  go_loopw [8, 9, 20] (fun tv pv i wx => ∃ (k m mp : Nat) (r : Option Addr) (d : Nat) (rp : Option Addr) (dp : Nat) (cells : List Value) (F : Nat → Prop) (G : Nat → Nat → Prop), k ≤ pn ∧ mp ≤ k ∧ m ≤ 6 + k ∧ i = .int .i64 k ∧ tv = .slice r m d ∧ pv = .slice rp mp dp ∧ (cols ++ newC cols (part.take k)).length = m ∧ wx.ownsRow W.heap.size 3 1 (.slice r m d) m ((cols ++ newC cols (part.take k)).map (.int .i64)) ∧ Laid RInts wx F 45 rp mp dp (prsT cols part k) cells G mp ∧ (∀ b, F b → W.heap.size ≤ b ∧ b < wx.heap.size) ∧ (∀ b, (Value.slice r m d).ownBlock = some b → ¬ F b) ∧ Below W.heap.size W wx) (fun _ _ i _ => pn - (intOf i).toNat)
  case atStart => exact ⟨0, cn, 0, r1, d1, none, 0, [], fun _ => False, _, Nat.zero_le _, Nat.le_refl _, by omega, rfl, rfl, rfl, by simp [newC]; exact HCL.out, by simpa [newC] using HO1.out, Laid.none _ _ _ _, fun b h => h.elim, fun b _ h => h, HB1.out⟩
  case round =>
    clear HO1 HB1
    obtain ⟨k, m, mp, r, d, rp, dp, cells, F, G, hkp, hmk, hm6, rfl, rfl, rfl, hm, hown, hlaid, hFw, hFo, hbw⟩ := hrel
    have u0 := cell_later hbw u0
    have u1 := cell_later hbw u1
    have u2 := cell_later hbw u2
    have v0 := cell_later hbw v0
    have v1 := cell_later hbw v1
    have zw := hbw.size
    by_cases hlt : k < pn
    · obtain ⟨b, off, hab, hb, hc⟩ := (At.below HPA.out hbw).some (by have := HPL.out; omega)
      subst hab
      have hcx : wr.cell? ⟨b, off + k, none⟩ = some (.int .i64 (part.getD k 0)) := hc k (by have := HPL.out; omega)
      have hnt := newC_take (cols := cols) (part := part) (t := k) (by have := HPL.out; omega)
      have hps := prsT_succ (cols := cols) (part := part) (t := k)
      obtain ⟨x, hx⟩ : ∃ x, part.getD k 0 = x := ⟨_, rfl⟩
      rw [hx] at hcx hnt hps
      have HNT := Hid.mk hnt
      have HPS := Hid.mk hps
      have hki : (k : Int) < (pn : Int) := by omega
      have KI := Hid.mk (indexI_any ca cn cc cols x wr HCL.out (by omega) (At.below HCA.out hbw))
      have HM := Hid.mk hm
      have HOW := Hid.mk hown
      have HLA := Hid.mk hlaid
      have HFW := Hid.mk hFw
      have HFO := Hid.mk hFo
      have HB := Hid.mk hbw
      clear hc hx hnt hps hm hown hlaid hFw hFo hbw
      go_wp2_with fail
      refine KI.out.mono ?_
      rintro e w2 ⟨rfl, hw2⟩
      obtain rfl := hw2.symm
      clear hw2 KI
      by_cases hin : x ∈ cols
      · have hI : ixI x cols = (ix x cols : Int) := if_pos hin
        have hixl := ix_lt hin
        have HNE : Hid (newC cols (part.take (k + 1)) = newC cols (part.take k)) := by show _ = _; rw [HNT.out, if_pos hin]
        have HPE : Hid (prsT cols part (k + 1) = prsT cols part k ++ [[(ix x cols : Int), (k : Int)]]) := by show _ = _; rw [HPS.out, if_pos hin]
        rw [hI]
        obtain ⟨q, hq⟩ : ∃ q : Nat, ix x cols = q := ⟨_, rfl⟩
        rw [hq] at HPE ⊢
        have hq0 : (0 : Int) ≤ (q : Int) := by omega
        clear hI hixl hin hq
        obtain ⟨W2, hW2⟩ : ∃ W2, W2 = wr.alloc (.cells #[.int .i64 (q : Nat), .int .i64 (k : Nat)] 3) := ⟨_, rfl⟩
        have b2 : Below wr.heap.size wr W2 := by rw [hW2]; exact (Below.refl _ _).alloc (Nat.le_refl _) _
        have z2 : W2.heap.size = wr.heap.size + 1 := by rw [hW2]; simp
        have ho2 : W2.ownsRow wr.heap.size 3 1 (.slice (some ⟨wr.heap.size, 0, none⟩) 2 2) 2 ([(q : Int), (k : Int)].map (.int .i64)) := by
          rw [hW2]
          exact ⟨by simp, .inr ⟨wr.heap.size, 2, _, rfl, Nat.le_refl _, heap_alloc_new wr _, by omega, by unfold maxLen; omega, by simp, by simp⟩⟩
        have HOI : Hid (RInts.Own W2 (From wr.heap.size W2.heap.size) [.slice (some ⟨wr.heap.size, 0, none⟩) 2 2] [(q : Int), (k : Int)]) := RInts.of_owns rfl (by omega) ho2
        have HWO : Hid (wr.ownsRow W.heap.size 45 1 (.slice rp mp dp) mp cells) := owns_base HLA.out.outer (fun b hb => (HFW.out b (HLA.out.outerF b hb)).1)
        have NA : Hid (∀ ad, (some ⟨wr.heap.size + 1, 0, none⟩ : Option Addr) = some ad → ∀ (j : Nat) (u : Value), ([.slice (some ⟨wr.heap.size, 0, none⟩) 2 2] : List Value)[j]? = some u → ((wr.alloc (.cells #[.int .i64 (q : Nat), .int .i64 (k : Nat)] 3)).alloc (.cells #[.slice (some ⟨wr.heap.size, 0, none⟩) 2 2] 45)).cell? (ad.add j) = some u) := by
          intro ad he j u hu
          obtain rfl := Option.some.inj he
          have h9 := news_at (wr.alloc (.cells #[.int .i64 (q : Nat), .int .i64 (k : Nat)] 3)) #[.slice (some ⟨wr.heap.size, 0, none⟩) 2 2] 45 j u hu
          rwa [World.size_alloc] at h9
        have HB2 := Hid.mk b2
        have HE2 := Hid.mk hW2
        clear b2 ho2 hW2
        go_wp2_with (at_builtin; refine wpList_app_vals rfl (.tmp 31) (.tmp 35) 23 rfl W.heap.size 45 k0 (.slice none 0 0) 1 24 Tryz.underlying23 hk hx0 hx1 hx2 rfl (by decide) (.slice rp mp dp) mp cells rfl ((HWO.out.alloc _).alloc _) (some ⟨wr.heap.size + 1, 0, none⟩) 1 1 [.slice (some ⟨wr.heap.size, 0, none⟩) 2 2] rfl rfl NA.out (by simp; rfl) (fun h => by cases h) (by unfold maxLen; omega) (by omega) (by simp; omega) ?_)
        intro r4 d4 w5 ho4 hg4 ht4
        rw [← HE2.out] at hg4
        have z5 : W2.heap.size < w5.heap.size := by have h9 := hg4.size; simp at h9; omega
        have BG : ∀ b, b < W2.heap.size → (Value.slice rp mp dp).ownBlock ≠ some b → w5.heap[b]? = W2.heap[b]? := fun b hb hn => (hg4.block b (by simp; omega) (fun e => hn e.symm)).trans (Below.heap_alloc W2 _ b hb)
        have hpush := HLA.out.push (F' := fun b => F b ∨ From wr.heap.size w5.heap.size b) (fun b h => (HFW.out b h).2) HB2.out HOI.out (fun b h => h) BG (owns_mono ho4 (Nat.zero_le _)) (by
          rcases ht4 with h9 | h9
          · exact .inl h9
          · refine .inr (fun b e => ?_)
            rw [h9] at e
            simp at e
            omega) (by omega) (fun b h => .inl h) (fun b h => .inr ⟨h.1, by have := h.2; omega⟩) (fun b h => by
          rcases ht4 with h9 | h9
          · rw [h9] at h; exact .inl (HLA.out.outerF b h)
          · have hl := (ho4.lt b h).2; rw [h9] at h; simp at h; exact .inr ⟨by omega, hl⟩)
        have HOT : Hid (w5.ownsRow W.heap.size 3 1 (.slice r m d) m ((cols ++ newC cols (part.take (k + 1))).map (.int .i64))) := by
          show World.ownsRow _ _ _ _ _ _ _
          rw [HNE.out]
          refine ownsRow_frame HOW.out (fun b hb hl => ?_)
          exact (BG b (by omega) (fun e => HFO.out b hb (HLA.out.outerF b e))).trans (HB2.out.block b hl)
        obtain ⟨G', HL'⟩ : ∃ G', Hid (Laid RInts w5 (fun b => F b ∨ From wr.heap.size w5.heap.size b) 45 r4 (mp + 1) d4 (prsT cols part (k + 1)) (cells ++ [.slice (some ⟨wr.heap.size, 0, none⟩) 2 2]) G' (mp + 1)) := by
          rw [HPE.out]
          exact ⟨_, Hid.mk hpush⟩
        have HB' : Hid (Below W.heap.size W w5) := ((HB.out.trans (HB2.out.mono HB.out.size)).alloc (by omega) _).grown hg4 (by simp; omega) (fun j hj => (HWO.out.lt j hj).1)
        have HFW' : Hid (∀ b, (F b ∨ From wr.heap.size w5.heap.size b) → W.heap.size ≤ b ∧ b < w5.heap.size) := by
          intro b h
          rcases h with h | h
          · have := HFW.out b h; omega
          · have := h.1; have := h.2; omega
        have HFO' : Hid (∀ b, (Value.slice r m d).ownBlock = some b → ¬ (F b ∨ From wr.heap.size w5.heap.size b)) := by
          intro b hb h
          rcases h with h | h
          · exact HFO.out b hb h
          · have := h.1; have := (HOW.out.lt b hb).2; omega
        have HM' : Hid ((cols ++ newC cols (part.take (k + 1))).length = m) := by show _ = _; rw [HNE.out]; exact HM.out
        clear hpush BG ho4 hg4 ht4 HLA HB HB2 HWO HOI NA HOW HFW HFO HM HNE HPE HNT HPS
        go_wp2
        go_roundw
        case rel => exact ⟨k + 1, m, mp + 1, r, d, r4, d4, _, _, G', by omega, by omega, by omega, by go_num, rfl, rfl, HM'.out, HOT.out, HL'.out, HFW'.out, HFO'.out, HB'.out⟩
        case measure => simp [intOf]; omega
      · have hI : ixI x cols = -1 := if_neg hin
        have HNE : Hid (newC cols (part.take (k + 1)) = newC cols (part.take k) ++ [x]) := by show _ = _; rw [HNT.out, if_neg hin]
        have HPE : Hid (prsT cols part (k + 1) = prsT cols part k) := by show _ = _; rw [HPS.out, if_neg hin]
        rw [hI]
        clear hI hin
        go_wp2_with (at_builtin; refine wpList_app_vals rfl (.tmp 37) (.tmp 39) 45 rfl W.heap.size 3 j0 (.int .i64 0) 1 8 Tryz.underlying45 hj hy0 hy1 hy2 rfl (by decide) (.slice r m d) m ((cols ++ newC cols (part.take k)).map (.int .i64)) rfl (HOW.out.alloc _) (some ⟨wr.heap.size, 0, none⟩) 1 1 [.int .i64 x] rfl rfl (fun ad he => by cases he; simpa using news_at wr #[.int .i64 x] 3) (by simp; rfl) (fun h => by cases h) (by unfold maxLen; omega) (by omega) (by simp; omega) ?_)
        intro r4 d4 w5 ho4 hg4 ht4
        have z5 : wr.heap.size < w5.heap.size := by have h9 := hg4.size; simp at h9; omega
        have BG : ∀ b, b < wr.heap.size → (Value.slice r m d).ownBlock ≠ some b → w5.heap[b]? = wr.heap[b]? := fun b hb hn => (hg4.block b (by simp; omega) (fun e => hn e.symm)).trans (Below.heap_alloc wr _ b hb)
        have HOT : Hid (w5.ownsRow W.heap.size 3 1 (.slice r4 (m + 1) d4) (m + 1) ((cols ++ newC cols (part.take (k + 1))).map (.int .i64))) := by
          show World.ownsRow _ _ _ _ _ _ _
          rw [HNE.out, List.map_append, List.map_append]
          exact ho4
        have HL' : Hid (Laid RInts w5 F 45 rp mp dp (prsT cols part (k + 1)) cells G mp) := by
          rw [HPE.out]
          exact Hid.mk (HLA.out.frame (fun b hb hl => BG b hl (fun e => HFO.out b e hb)))
        have HB' : Hid (Below W.heap.size W w5) := (HB.out.alloc (by omega) _).grown hg4 (by simp; omega) (fun j hj => (HOW.out.lt j hj).1)
        have HFW' : Hid (∀ b, F b → W.heap.size ≤ b ∧ b < w5.heap.size) := fun b h => by
          have := HFW.out b h; omega
        have HFO' : Hid (∀ b, (Value.slice r4 (m + 1) d4).ownBlock = some b → ¬ F b) := by
          intro b hb h
          rcases ht4 with h9 | h9
          · rw [h9] at hb; exact HFO.out b hb h
          · rw [h9] at hb; simp at hb; have := (HFW.out b h).2; omega
        have HM' : Hid ((cols ++ newC cols (part.take (k + 1))).length = m + 1) := by show _ = _; rw [HNE.out, ← List.append_assoc, List.length_append, HM.out]; rfl
        clear BG ho4 hg4 ht4 HLA HB HOW HFW HFO HM HNE HPE HNT HPS
        go_wp2
        go_roundw
        case rel => exact ⟨k + 1, m + 1, mp, r4, d4, rp, dp, cells, F, G, by omega, by omega, by omega, by go_num, rfl, rfl, HM'.out, HOT.out, HL'.out, HFW'.out, HFO'.out, HB'.out⟩
        case measure => simp [intOf]; omega
    · obtain rfl : k = pn := by omega
      have hkk : ¬ (k : Int) < (k : Int) := by omega
      rw [List.take_of_length_le (by have := HPL.out; omega)] at hm hown
      have HPT : Hid (prsT cols part k = prs cols part) := by show _ = _; unfold prs; rw [HPL.out]
      rw [HPT.out] at hlaid
      have HL := Hid.mk hlaid
      have HOW := Hid.mk hown
      have HM := Hid.mk hm
      have HB := Hid.mk hbw
      have HQR : Hid (wr.heap[w.heap.size + 2]? = some (.cells #[.slice none 0 0, .int .i64 0, .slice none 0 0] 60 (0, 0))) := (hbw.block _ (by omega)).trans HQ0.out
      have HBW : Hid (Below w.heap.size w wr) := HB0.out.trans (hbw.mono HB0.out.size)
      have KJ := Hid.mk (implJoinTables a a' rp n n' mp c c' dp ts us (prs cols part) p p' wr HZ.out HZ'.out hlaid.len hn hn' (by omega) (HA.out.below hbw) (HA'.out.below hbw) (atSl_ints hlaid.atSl))
      clear hlaid hown hm hFw hFo hbw HQ0 HB0
      go_wp2_with fail
      refine KJ.out.mono ?_
      rintro e wj ⟨⟨r5, m5, d5, cs5, rfl, ho5⟩, hb5⟩
      have HQ := Hid.mk ((hb5.block _ (by have := HB.out.size; omega)).trans HQR.out)
      have HO5 := Hid.mk ho5
      have HB5 := Hid.mk hb5
      have z5 := hb5.size
      have zr := HB.out.size
      obtain ⟨W6, hW6⟩ : ∃ W6, W6 = wj.alloc (.cells #[.int .i64 (ansP (joinB p p' ts us (prs cols part)) (joinC p p' (prs cols part))), .slice r5 m5 d5] 28) := ⟨_, rfl⟩
      have e0 : W6.cell? ⟨w.heap.size + 1 + 1, 0, none⟩ = some (.slice none 0 0) := by rw [hW6]; refine alloc_keeps ?_ _; rw [cell_of_row _ _ 0 _ _ (0, 0) HQ.out]; rfl
      have e1 : W6.cell? ⟨w.heap.size + 1 + 1, 1, none⟩ = some (.int .i64 0) := by rw [hW6]; refine alloc_keeps ?_ _; rw [cell_of_row _ _ 1 _ _ (0, 0) HQ.out]; rfl
      have e2 : W6.cell? ⟨w.heap.size + 1 + 1, 2, none⟩ = some (.slice none 0 0) := by rw [hW6]; refine alloc_keeps ?_ _; rw [cell_of_row _ _ 2 _ _ (0, 0) HQ.out]; rfl
      have HQ6 : Hid (W6.heap[w.heap.size + 1 + 1]? = some (.cells #[.slice none 0 0, .int .i64 0, .slice none 0 0] 60 (0, 0))) := by
        show _ = _
        rw [hW6]; exact (Below.heap_alloc wj _ _ (by omega)).trans HQ.out
      have f0 : W6.frozen? ⟨w.heap.size + 1 + 1, 0, none⟩ = false := frozen_of_row _ _ 0 _ _ HQ6.out
      have f1 : W6.frozen? ⟨w.heap.size + 1 + 1, 1, none⟩ = false := frozen_of_row _ _ 1 _ _ HQ6.out
      have f2 : W6.frozen? ⟨w.heap.size + 1 + 1, 2, none⟩ = false := frozen_of_row _ _ 2 _ _ HQ6.out
      have g0 := pair0 wj (.int .i64 (ansP (joinB p p' ts us (prs cols part)) (joinC p p' (prs cols part)))) (.slice r5 m5 d5) 28
      have g1 := pair1 wj (.int .i64 (ansP (joinB p p' ts us (prs cols part)) (joinC p p' (prs cols part)))) (.slice r5 m5 d5) 28
      rw [← hW6] at g0 g1
      have B6 : Hid (Below wj.heap.size wj W6) := by rw [hW6]; exact Hid.mk ((Below.refl _ _).alloc (Nat.le_refl _) _)
      clear KJ HQR ho5 hb5
      go_upto_region 12 with fail
      rw [← hW6]
      clear hW6
      go_wp2
      have hof : Off (From (w.heap.size + 1 + 1) (w.heap.size + 1 + 1 + 1)) W6 (((W6.setCell ⟨w.heap.size + 1 + 1, 0, none⟩ (.slice r m d)).setCell ⟨w.heap.size + 1 + 1, 1, none⟩ (.int .i64 (ansP (joinB p p' ts us (prs cols part)) (joinC p p' (prs cols part))))).setCell ⟨w.heap.size + 1 + 1, 2, none⟩ (.slice r5 m5 d5)) :=
        ((Off.set (by exact ⟨Nat.le_refl _, Nat.lt_succ_self _⟩) _).trans (Off.set (by exact ⟨Nat.le_refl _, Nat.lt_succ_self _⟩) _)).trans (Off.set (by exact ⟨Nat.le_refl _, Nat.lt_succ_self _⟩) _)
      refine bodyPost_ret (v := .tuple #[.agg #[.slice r m d, .int .i64 (ansP (joinB p p' ts us (prs cols part)) (joinC p p' (prs cols part))), .slice r5 m5 d5], .bool (joinB p p' ts us (prs cols part))]) (by simp [results, Tryz.results30, go_sem, e0, e1, e2]) rfl ⟨⟨r, m, d, r5, m5, d5, _, rfl, fun hok => ?_⟩, ?_⟩
      · have hsm := (ans_small (ok := joinB p p' ts us (prs cols part)) joinB_goodT)
        rw [HO5.out.len] at hsm
        have ho6 := (HO5.out.below B6.out).apartW hof.apart (.inr (by omega))
        have hlen := HO5.out.len
        have ho7 := hof.apart.owns (owns_below (owns_below HOW.out HB5.out) B6.out) (fun k hk => .inr (by have := (HOW.out.lt k hk).1; omega))
        have hnil : r = none → d = 0 := by
          intro hr
          rcases HOW.out.2 with ⟨h', _⟩ | ⟨g, cap, cur, h', _⟩
          · simp only [Value.slice.injEq] at h'; exact h'.2.2
          · simp only [Value.slice.injEq] at h'; rw [hr] at h'; exact absurd h'.1 (by simp)
        rw [hok] at ho6 ho7 hlen hsm ⊢
        refine ⟨HM.out, hnil, rfl, hlen, fun w'' h9 => ⟨At.owned (h9.apart.owns ho7 (fun k hk => .inr (by have := (HOW.out.lt k hk).1; omega))), (ho6.apartW h9.apart (.inr (by have := HBW.out.size; omega))).atM hsm.rowx⟩⟩
      · exact (HBW.out.trans (HB5.out.mono (by have := HBW.out.size; omega))).trans ((B6.out.mono (by omega)).trans (hof.toBelow (by omega) (by have := B6.out.size; omega)))

end Go.Proofs.YtpnaoahlfhbbmaaGreat
