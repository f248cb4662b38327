/- Several texts of one proof, in build order: SvX, SvY, PsL. -/
import Derived.Test.YtnfdncofobkjhaaM14
import Derived.Test.YtnfdncofobkjhaaM21
import Derived.Test.YtnfdncofobkjhaaM11
import Derived.Test.YtnfdncofobkjhaaM3

/- Plain: saving by the program's way, and by the model's. -/
namespace Go.Proofs.Ytnfdncofobkjhaa
open Go.RowKit

theorem wirAt_set (ws : List TWire) (i : Nat) (x : TWire) (j : Nat) : wirAt (ws.set i x) j = if i = j ∧ i < ws.length then x else wirAt ws j := by
  unfold wirAt
  rw [List.getD_eq_getElem?_getD, List.getD_eq_getElem?_getD, List.getElem?_set]
  by_cases h : i = j
  · subst h
    by_cases hl : i < ws.length
    · simp [hl]
    · simp [hl]
  · simp [h]
theorem wirAt_ext {a b : List TWire} (hl : a.length = b.length) (h : ∀ i, i < a.length → wirAt a i = wirAt b i) : a = b := by
  apply List.ext_getElem?
  intro i
  by_cases hi : i < a.length
  · have q := h i hi
    rw [wirAt_some hi, wirAt_some (by omega), q]
  · rw [List.getElem?_eq_none (by omega), List.getElem?_eq_none (by omega)]
theorem idx_inj {n a b c d : Nat} (hb : b < n) (hd : d < n) (h : a * n + b = c * n + d) : a = c ∧ b = d := by
  have h1 : (a * n + b) % n = (c * n + d) % n := by rw [h]
  rw [Nat.mul_add_mod_self_right, Nat.mul_add_mod_self_right, Nat.mod_eq_of_lt hb, Nat.mod_eq_of_lt hd] at h1
  subst h1
  have h2 : a * n = c * n := by omega
  exact ⟨Nat.eq_of_mul_eq_mul_right (by omega) h2, rfl⟩
theorem svMS_len (n who : Nat) (sh : Int) (k : Nat) (ws : List TWire) : (svMS n who sh k ws).2.length = ws.length := by
  unfold svMS
  split
  · rfl
  · split
    · simp
    · rfl
theorem svM_len (n who : Nat) (sh : Int) : ∀ (m k : Nat) (ws : List TWire), (svM n who sh m k ws).2.length = ws.length
  | 0, _, _ => rfl
  | m + 1, k, ws => by
    unfold svM
    split
    · rw [svM_len n who sh m (k + 1), svMS_len]
    · rfl
/-- No wire stays shut. -/
theorem svM_neg (n who : Nat) : ∀ (m k : Nat) (ws : List TWire), svM n who (-1) m k ws = svF n who m k ws
  | 0, _, _ => rfl
  | m + 1, k, ws => by
    have e : svMS n who (-1) k ws = svS n who k ws := by
      unfold svMS svS
      have : ((k : Int) != -1) = true := by simp
      rw [this]
    unfold svM svF
    rw [e, svM_neg n who m (k + 1)]
/-- Alike but for whether the wire B is open. -/
def Alk (B : Nat) (a b : List TWire) : Prop := a.length = b.length ∧ ∀ i, (wirAt a i).1 = (wirAt b i).1 ∧ (wirAt a i).2.1 = (wirAt b i).2.1 ∧ (i ≠ B → (wirAt a i).2.2 = (wirAt b i).2.2)
theorem alk_step {n T F k : Nat} {a b : List TWire} (hT : T < n) (hk : k < n) (hne : F ≠ T) (h : Alk (F * n + T) a b) : (svS n T k a).1 = (svMS n T F k b).1 ∧ Alk (F * n + T) (svS n T k a).2 (svMS n T F k b).2 := by
  obtain ⟨hl, hi⟩ := h
  unfold svS svMS
  by_cases e : k = T
  · rw [if_pos e, if_pos e]; exact ⟨rfl, hl, hi⟩
  · rw [if_neg e, if_neg e]
    have hw := (hi (T * n + k)).1
    have hB : T * n + k ≠ F * n + T := fun q => hne (idx_inj hk hT q).1.symm
    by_cases q : (wirAt a (T * n + k)).1.length < 12
    · rw [if_pos q, if_pos (by rw [← hw]; exact q)]
      refine ⟨rfl, by simp [hl], fun i => ?_⟩
      simp only [wirAt_set, List.length_set, hl]
      by_cases c1 : T * n + k = i ∧ T * n + k < b.length
      · rw [if_pos c1, if_pos c1]
        have q2 := hi (T * n + k)
        exact ⟨by rw [q2.1], q2.2.1, fun _ => q2.2.2 hB⟩
      · rw [if_neg c1, if_neg c1]
        by_cases c2 : k * n + T = i ∧ k * n + T < b.length
        · rw [if_pos c2, if_pos c2]
          have q2 := hi (k * n + T)
          refine ⟨q2.1, q2.2.1, fun hn => ?_⟩
          have hkF : k ≠ F := fun e2 => hn (by rw [← c2.1, e2])
          show true = ((k : Int) != (F : Int))
          simp; omega
        · rw [if_neg c2, if_neg c2]
          exact hi i
    · rw [if_neg q, if_neg (by rw [← hw]; exact q)]
      exact ⟨rfl, hl, hi⟩
theorem alk_all {n T F : Nat} (hT : T < n) (hne : F ≠ T) : ∀ (m k : Nat) (a b : List TWire), k + m ≤ n → Alk (F * n + T) a b → (svF n T m k a).1 = (svM n T F m k b).1 ∧ ((svF n T m k a).1 = true → Alk (F * n + T) (svF n T m k a).2 (svM n T F m k b).2)
  | 0, _, _, _, _, h => ⟨rfl, fun _ => h⟩
  | m + 1, k, a, b, hk, h => by
    have q := alk_step hT (show k < n by omega) hne h
    unfold svF svM
    rw [← q.1]
    cases hc : (svS n T k a).1 with
    | true =>
      simp only [if_true]
      exact alk_all hT hne m (k + 1) _ _ (by omega) q.2
    | false => exact ⟨rfl, fun h => by cases h⟩
/-- In the end the wire from F is shut. -/
theorem shut_step {n T F k : Nat} {b : List TWire} (hT : T < n) (hk : k < n) (hne : F ≠ T) (hB : F * n + T < b.length) (h : k = F ∨ (wirAt b (F * n + T)).2.2 = false) (hok : (svMS n T F k b).1 = true) : (wirAt (svMS n T F k b).2 (F * n + T)).2.2 = false := by
  unfold svMS at hok ⊢
  by_cases e : k = T
  · rw [if_pos e]
    rcases h with h | h
    · exact absurd (h.symm.trans e) hne
    · exact h
  · rw [if_neg e] at hok ⊢
    by_cases q : (wirAt b (T * n + k)).1.length < 12
    · rw [if_pos q]
      simp only [wirAt_set, List.length_set]
      rw [if_neg (fun c => hne (idx_inj hk hT c.1).1.symm)]
      by_cases c : k * n + T = F * n + T
      · rw [if_pos ⟨c, by omega⟩]
        have hkF := (idx_inj hT hT c).1
        show ((k : Int) != (F : Int)) = false
        simp; omega
      · rw [if_neg (fun c2 => c c2.1)]
        rcases h with h | h
        · exact absurd (by rw [h]) c
        · exact h
    · rw [if_neg q] at hok; cases hok
theorem shut_all {n T F : Nat} (hT : T < n) (hne : F ≠ T) : ∀ (m k : Nat) (b : List TWire), k + m ≤ n → F * n + T < b.length → ((k ≤ F ∧ F < k + m) ∨ (wirAt b (F * n + T)).2.2 = false) → (svM n T F m k b).1 = true → (wirAt (svM n T F m k b).2 (F * n + T)).2.2 = false
  | 0, _, _, _, _, h, _ => by
    rcases h with h | h
    · omega
    · exact h
  | m + 1, k, b, hk, hB, h, hok => by
    unfold svM at hok ⊢
    cases hc : (svMS n T F k b).1 with
    | false => rw [hc] at hok; cases hok
    | true =>
      rw [hc] at hok
      simp only [if_true] at hok ⊢
      refine shut_all hT hne m (k + 1) _ (by omega) (by rw [svMS_len]; exact hB) ?_ hok
      by_cases e : k = F
      · exact .inr (shut_step hT (by omega) hne hB (.inl e) hc)
      · rcases h with h | h
        · exact .inl ⟨by omega, by omega⟩
        · exact .inr (shut_step hT (by omega) hne hB (.inr h) hc)
theorem save_eq {n T F : Nat} {ws : List TWire} (hT : T < n) (hF : F < n) (hne : F ≠ T) (hl : ws.length = n * n) : (svF n T n 0 ws).1 = (svM n T F n 0 ws).1 ∧ ((svF n T n 0 ws).1 = true → mkW (svF n T n 0 ws).2 (F * n + T) = (svM n T F n 0 ws).2) := by
  have q := alk_all hT hne n 0 ws ws (by omega) ⟨rfl, fun i => ⟨rfl, rfl, fun _ => rfl⟩⟩
  have hB : F * n + T < ws.length := by rw [hl]; exact idx_lt hF hT
  refine ⟨q.1, fun hok => ?_⟩
  have hs := shut_all hT hne n 0 ws (by omega) hB (.inl ⟨by omega, by omega⟩) (by rw [← q.1]; exact hok)
  obtain ⟨h1, h2⟩ := q.2 hok
  have hlF := svF_len n T n 0 ws
  unfold mkW
  refine wirAt_ext (by simp [h1]) (fun i hi => ?_)
  rw [wirAt_set]
  by_cases c : F * n + T = i
  · rw [if_pos ⟨c, by omega⟩]
    subst c
    have q3 := h2 (F * n + T)
    exact Prod.ext q3.1 (Prod.ext q3.2.1 hs.symm)
  · rw [if_neg (fun c2 => c c2.1)]
    have q3 := h2 i
    exact Prod.ext q3.1 (Prod.ext q3.2.1 (q3.2.2 (fun e => c e.symm)))

end Go.Proofs.Ytnfdncofobkjhaa

/- The model's l15Step tells what the program's step tells. -/
namespace Go.Proofs.Ytnfdncofobkjhaa
open Go.RowKit

def StRet (e : Ending) (w w' : World) (lo : Nat → Prop) (g0 n0 c0 g1 n1 c1 : Nat) (s : Bool × List TProc × List TWire) : Prop :=
  e = .returned (.tuple #[.agg #[.slice (some ⟨g0, 0, none⟩) n0 c0, .slice (some ⟨g1, 0, none⟩) n1 c1], .bool s.1]) ∧ Off lo w w' ∧ (s.1 = true → ∃ cells0 cells1 G, SV w' lo g0 n0 c0 g1 n1 c1 s.2.1 s.2.2 cells0 cells1 G)
theorem l15Step_any (lo : Nat → Prop) (g0 n0 c0 g1 n1 c1 : Nat) (kd f t v : Int) (ps : List TProc) (ws : List TWire) (cells0 cells1 : List Value) (G : Nat → Nat → Prop) (w : World) (hn : n0 ≤ 4) (h1 : n1 = n0 * n0) (hps : PsOk ps) (hws : WsOk ws)
    (h : SV w lo g0 n0 c0 g1 n1 c1 ps ws cells0 cells1 G) :
    Calls Try.prog 31 #[.agg #[.slice (some ⟨g0, 0, none⟩) n0 c0, .slice (some ⟨g1, 0, none⟩) n1 c1], .agg #[.int .i64 kd, .int .i64 f, .int .i64 t, .int .i64 v]] w fun e w' => StRet e w w' lo g0 n0 c0 g1 n1 c1 (stS n0 kd f t v ps ws) := by
  have hl0 : ps.length = n0 := h.pr.len
  have hl1 : ws.length = n1 := h.wi.len
  have no : ∀ {e : Ending} {w' : World}, e = .returned (.tuple #[.agg #[.slice (some ⟨g0, 0, none⟩) n0 c0, .slice (some ⟨g1, 0, none⟩) n1 c1], .bool false]) ∧ Off lo w w' → ∀ s : Bool × List TProc × List TWire, s.1 = false → StRet e w w' lo g0 n0 c0 g1 n1 c1 s := by
    intro e w' hh s hs
    refine ⟨by rw [hs]; exact hh.1, hh.2, fun q => by rw [hs] at q; cases q⟩
  -- out of range
  by_cases hf : f < 0 ∨ (n0 : Int) ≤ f
  · refine (l15Step_bad1 lo g0 n0 c0 g1 n1 c1 kd f t v ps ws cells0 cells1 G w hf h).mono (fun e w' hh => no hh _ ?_)
    have h2 : twoB n0 f t = false := by
      unfold twoB
      rcases hf with hf | hf
      · rw [show decide (0 ≤ f) = false from decide_eq_false (by omega)]; simp
      · rw [show decide (f < (n0 : Int)) = false from decide_eq_false (by omega)]; simp
    have h3 : inB n0 f = false := by
      unfold inB
      rcases hf with hf | hf
      · rw [show decide (0 ≤ f) = false from decide_eq_false (by omega)]; simp
      · rw [show decide (f < (n0 : Int)) = false from decide_eq_false (by omega)]; simp
    unfold stS
    rw [h2, h3]
    simp only [Bool.false_and, Bool.false_eq_true, if_false]
    split <;> (try rfl)
    split <;> (try rfl)
    split <;> rfl
  obtain ⟨F, rfl⟩ : ∃ F : Nat, f = F := ⟨f.toNat, by omega⟩
  have hF : F < n0 := by omega
  have hpF := prAt_of (ps := ps) (k := F) (by omega)
  by_cases k3 : kd = 3
  · subst k3
    have hin : inB n0 (F : Int) = true := by unfold inB; simp; omega
    have hst : stS n0 3 F t v ps ws = (if !(prAt ps F).2.2 then ((svF n0 F n0 0 ws).1, ps.set F ((prAt ps F).1, (prAt ps F).1, true), (svF n0 F n0 0 ws).2) else (false, ps, ws)) := by
      unfold stS
      rw [if_neg (by omega), if_neg (by omega), if_pos rfl, hin]
      rfl
    rw [hst]
    obtain ⟨⟨a, b, dn⟩, hpp⟩ : ∃ p, prAt ps F = p := ⟨_, rfl⟩
    rw [hpp] at hpF ⊢
    cases dn with
    | true => exact (l15Step_start_no lo g0 n0 c0 g1 n1 c1 F t v ps ws cells0 cells1 G w hF a b hpF h).mono (fun e w' hh => no hh _ rfl)
    | false =>
      have q := l15Step_start_yes lo g0 n0 c0 g1 n1 c1 F t v ps ws cells0 cells1 G w hn h1 hF a b hpF (few_of hws) h
      rw [svM_neg] at q
      exact q
  by_cases ht : t < 0 ∨ (n0 : Int) ≤ t ∨ (F : Int) = t
  · refine (l15Step_bad2 lo g0 n0 c0 g1 n1 c1 F kd t v ps ws cells0 cells1 G w hF k3 ht h).mono (fun e w' hh => no hh _ ?_)
    have h2 : twoB n0 F t = false := by
      unfold twoB
      rcases ht with ht | ht | ht
      · rw [show decide (0 ≤ t) = false from decide_eq_false (by omega)]; simp
      · rw [show decide (t < (n0 : Int)) = false from decide_eq_false (by omega)]; simp
      · rw [show decide ((F : Int) ≠ t) = false from decide_eq_false (by omega)]; simp
    unfold stS
    rw [h2, if_neg k3]
    simp only [Bool.false_eq_true, if_false]
    split <;> (try rfl)
    split <;> rfl
  obtain ⟨T, rfl⟩ : ∃ T : Nat, t = T := ⟨t.toNat, by omega⟩
  have hT : T < n0 := by omega
  have hne : F ≠ T := fun e => ht (.inr (.inr (by rw [e])))
  have hpT := prAt_of (ps := ps) (k := T) (by omega)
  have hBl : F * n0 + T < ws.length := by rw [hl1, h1]; exact idx_lt hF hT
  have hy := wirAt_some (ws := ws) (k := F * n0 + T) hBl
  have htw : twoB n0 (F : Int) (T : Int) = true := by unfold twoB; simp; omega
  have hoF := hps _ (List.mem_of_getElem? hpF)
  have hoT := hps _ (List.mem_of_getElem? hpT)
  have hoy := hws _ (List.mem_of_getElem? hy)
  by_cases k1 : kd = 1
  · subst k1
    have hst : stS n0 1 F T v ps ws = (snF n0 F T v (prAt ps F) ws, snP F v (prAt ps F) ps, snW n0 F T v ws) := by
      unfold stS
      rw [if_pos rfl, htw]
      rfl
    rw [hst]
    obtain ⟨⟨z0, z1, zb⟩, hpp⟩ : ∃ p, prAt ps F = p := ⟨_, rfl⟩
    rw [hpp] at hpF hoF ⊢
    cases ha1 : (decide (1 ≤ v) && decide (v ≤ z0)) with
    | false =>
      refine (l15Step_send_no1 lo g0 n0 c0 g1 n1 c1 F T v ps ws cells0 cells1 G w hn h1 hF hT hne _ hy z0 z1 zb hpF ha1 h).mono (fun e w' hh => no hh _ ?_)
      show snF n0 F T v (z0, z1, zb) ws = false
      unfold snF stB
      rw [Bool.and_eq_false_iff] at ha1
      rcases ha1 with ha1 | ha1 <;> simp [ha1]
    | true =>
      have hv : 1 ≤ v ∧ v ≤ z0 := by simpa only [Bool.and_eq_true, decide_eq_true_eq] using ha1
      cases ha2 : wdB v with
      | false =>
        refine (l15Step_send_no2 lo g0 n0 c0 g1 n1 c1 F T v ps ws cells0 cells1 G w hn h1 hF hT hne _ hy z0 z1 zb hpF ha1 ha2 h).mono (fun e w' hh => no hh _ ?_)
        show snF n0 F T v (z0, z1, zb) ws = false
        have h4 : ¬ v ≤ 1000000 := fun h4 => by rw [wdB_iff.2 ⟨by omega, h4⟩] at ha2; cases ha2
        unfold snF stB
        rw [show decide (v ≤ 1000000) = false from decide_eq_false h4]
        simp
      | true =>
        have h4 := wdB_iff.1 ha2
        by_cases hl : (wirAt ws (F * n0 + T)).1.length = 12
        · refine (l15Step_send_no3 lo g0 n0 c0 g1 n1 c1 F T v ps ws cells0 cells1 G w hn h1 hF hT hne _ hy z0 z1 zb hpF ha1 ha2 hl h).mono (fun e w' hh => no hh _ ?_)
          show snF n0 F T v (z0, z1, zb) ws = false
          unfold snF
          rw [show decide ((wirAt ws (F * n0 + T)).1.length < 12) = false from decide_eq_false (by omega)]
          simp
        · have hlt : (wirAt ws (F * n0 + T)).1.length < 12 := by have := hoy.1; omega
          refine (l15Step_send_yes lo g0 n0 c0 g1 n1 c1 F T v ps ws cells0 cells1 G w hn h1 hF hT hne _ hy z0 z1 zb hpF hoF.2.1 ha1 ha2 hlt h).mono (fun e w' hh => ?_)
          have hs : snF n0 F T v (z0, z1, zb) ws = true := by
            unfold snF stB
            rw [show decide (1 ≤ v) = true from decide_eq_true hv.1, show decide (v ≤ 1000000) = true from decide_eq_true h4.2, show decide ((wirAt ws (F * n0 + T)).1.length < 12) = true from decide_eq_true hlt]
            simp [hv.2]
          exact ⟨by rw [hs]; exact hh.1, hh.2.1, fun _ => hh.2.2⟩
  by_cases k2 : kd = 2
  · subst k2
    have hst : stS n0 2 F T v ps ws = tkF n0 F T (prAt ps T) ps ws := by
      unfold stS
      rw [if_neg (by omega), if_pos rfl, htw]
      rfl
    rw [hst]
    obtain ⟨⟨q0, q1, qb⟩, hpp⟩ : ∃ p, prAt ps T = p := ⟨_, rfl⟩
    rw [hpp] at hpT hoT ⊢
    obtain ⟨⟨ya, yr, yo⟩, hyy⟩ : ∃ y, wirAt ws (F * n0 + T) = y := ⟨_, rfl⟩
    unfold tkF
    rw [hyy] at hy hoy ⊢
    obtain ⟨hy12, hy200, _, _, _, _, hyw, _⟩ := hoy
    simp only at hy12 hy200 hyw ⊢
    cases ya with
    | nil =>
      refine (l15Step_take_no1 lo g0 n0 c0 g1 n1 c1 F T v ps ws cells0 cells1 G w hn h1 hF hT hne _ hy rfl h).mono (fun e w' hh => no hh _ ?_)
      split <;> rfl
    | cons u us =>
      by_cases hr : yr.length = 200
      · refine (l15Step_take_no2 lo g0 n0 c0 g1 n1 c1 F T v ps ws cells0 cells1 G w hn h1 hF hT hne _ hy (by simp) hr h).mono (fun e w' hh => no hh _ ?_)
        rw [if_pos (by omega)]
      · rw [if_neg (by omega)]
        have hu := hyw u (by simp)
        have hr2 : yr.length < 200 := by omega
        by_cases hu0 : u = 0
        · subst hu0
          simp only [if_true]
          cases qb with
          | true =>
            refine (l15Step_take_done lo g0 n0 c0 g1 n1 c1 F T v ps ws cells0 cells1 G w hn h1 hF hT hne _ hy 0 us rfl hy12 hr2 q0 q1 hpT (by omega) h).mono (fun e w' hh => ?_)
            have hmk : mkF n0 T (F * n0 + T) (q0, q1, true) (ws.set (F * n0 + T) (us, yr, yo)) = (true, ws.set (F * n0 + T) (us, yr, false)) := by
              unfold mkF mkW
              simp only [if_true]
              rw [wirAt_set, if_pos ⟨rfl, hBl⟩, List.set_set]
            rw [hmk]
            exact ⟨hh.1, hh.2.1, fun _ => hh.2.2⟩
          | false =>
            have q := l15Step_take_save lo g0 n0 c0 g1 n1 c1 F T v ps ws cells0 cells1 G w hn h1 hF hT hne _ hy 0 us rfl hy12 hr2 q0 q1 hpT (by omega) (few_of hws) h
            have hs := save_eq (ws := ws.set (F * n0 + T) (us, yr, yo)) hT hF hne (by rw [List.length_set, hl1, h1])
            refine q.mono (fun e w' hh => ?_)
            have hmk : mkF n0 T (F * n0 + T) (q0, q1, false) (ws.set (F * n0 + T) (us, yr, yo)) = ((svF n0 T n0 0 (ws.set (F * n0 + T) (us, yr, yo))).1, mkW (svF n0 T n0 0 (ws.set (F * n0 + T) (us, yr, yo))).2 (F * n0 + T)) := rfl
            rw [hmk]
            simp only at hh
            rw [← hs.1] at hh
            refine ⟨hh.1, hh.2.1, fun hok => ?_⟩
            have h3 := hh.2.2 hok
            rw [← hs.2 hok] at h3
            exact h3
        · simp only [hu0, if_false]
          cases yo with
          | true => exact (l15Step_take_open lo g0 n0 c0 g1 n1 c1 F T v ps ws cells0 cells1 G w hn h1 hF hT hne _ hy u us rfl hy12 hr2 q0 q1 qb hpT ⟨hoT.2.1, hoT.1⟩ hu.2 (by omega) rfl h).mono (fun e w' hh => ⟨hh.1, hh.2.1, fun _ => hh.2.2⟩)
          | false => exact (l15Step_take_shut lo g0 n0 c0 g1 n1 c1 F T v ps ws cells0 cells1 G w hn h1 hF hT hne _ hy u us rfl hy12 hr2 q0 q1 qb hpT ⟨hoT.2.1, hoT.1⟩ hu.2 (by omega) rfl h).mono (fun e w' hh => ⟨hh.1, hh.2.1, fun _ => hh.2.2⟩)
  refine (l15Step_bad3 lo g0 n0 c0 g1 n1 c1 F T kd v ps ws cells0 cells1 G w hn h1 hF hT hne _ hy k1 k2 k3 h).mono (fun e w' hh => no hh _ ?_)
  unfold stS
  rw [if_neg k1, if_neg k2, if_neg k3]

end Go.Proofs.Ytnfdncofobkjhaa

/- A thing that a call has made is appended to a list that lies in memory. -/
namespace Go.Proofs.Ytnfdncofobkjhaa
open Go.RowKit

section
variable {α : Type} {A : Rep α} {w wr w2 w5 : World} {lo : Nat} {e : TypeId} {a a' : Option Addr} {n c c' : Nat} {xs : List α} {cells vs : List Value} {G : Nat → Nat → Prop} {x : α} {o : Obj}
theorem Laid.told (h : Laid A wr (From lo wr.heap.size) e a n c xs cells G n) (hlo : lo ≤ wr.heap.size) (hb : Below wr.heap.size wr w2) (ho : A.Own w2 (From wr.heap.size w2.heap.size) vs x)
    (ho4 : w5.ownsRow lo e A.k (.slice a' (n + 1) c') (n + 1) (cells ++ vs)) (hg4 : (w2.alloc o).grownBy w5 (Value.slice a n c).ownBlock) (hbig : n + 1 ≤ 9223372036854775807)
    (ht4 : (Value.slice a' (n + 1) c').ownBlock = (Value.slice a n c).ownBlock ∨ (Value.slice a' (n + 1) c').ownBlock = some (w2.heap.size + 1)) :
    ∃ G', Laid A w5 (From lo w5.heap.size) e a' (n + 1) c' (xs ++ [x]) (cells ++ vs) G' (n + 1) := by
  have z2 := hb.size
  have z5 : w2.heap.size < w5.heap.size := by have h9 := hg4.size; simp at h9; omega
  have BG : ∀ b, b < w2.heap.size → (Value.slice a n c).ownBlock ≠ some b → w5.heap[b]? = w2.heap[b]? := fun b hb hn => (hg4.block b (by simp; omega) (fun e => hn e.symm)).trans (Below.heap_alloc w2 _ b hb)
  exact ⟨_, h.push (fun b h => h.2) hb ho (fun b h => h) BG (owns_mono ho4 (Nat.zero_le _)) (by
      rcases ht4 with h9 | h9
      · exact .inl h9
      · refine .inr (fun b e => ?_)
        rw [h9] at e
        simp at e
        omega) hbig (fun b h => ⟨h.1, by have := h.2; omega⟩) (fun b h => ⟨by have := h.1; omega, by have := h.2; omega⟩) (fun b hb => ho4.lt b hb)⟩
theorem Laid.told_below (h : Laid A wr (From lo wr.heap.size) e a n c xs cells G n) (hw : Below lo w wr) (hlo : lo ≤ wr.heap.size) (hb : Below wr.heap.size wr w2) (hg4 : (w2.alloc o).grownBy w5 (Value.slice a n c).ownBlock) : Below lo w w5 :=
  ((hw.trans (hb.mono hlo)).alloc (by have := hb.size; omega) _).grown hg4 (by have := hb.size; simp; omega) (fun j hj => (h.outerF j hj).1)
theorem Laid.base (h : Laid A wr (From lo wr.heap.size) e a n c xs cells G n) (hb : Below wr.heap.size wr w2) : w2.ownsRow lo e A.k (.slice a n c) n cells :=
  owns_below (owns_base h.outer (fun b hb => (h.outerF b hb).1)) hb
end

end Go.Proofs.Ytnfdncofobkjhaa
