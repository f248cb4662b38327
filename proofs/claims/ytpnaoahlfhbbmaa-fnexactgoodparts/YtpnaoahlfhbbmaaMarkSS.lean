/- Contract of markIntSS: it writes into what it is handed alone. -/
import Derived.Test.YtpnaoahlfhbbmaaIntSS
namespace Go.Proofs.Ytpnaoahlfhbbmaa
open Go.RowKit

set_option maxHeartbeats 2000000 in
theorem markIntSS_any (lo hi : Nat) (g n : Nat) (zss : List (List Int)) (m : Int) (w : World) (hn : n ≤ 1048576) (hs : ∀ i, i < zss.length → (zss.getD i []).length ≤ 1048576) (ht : tot zss n ≤ 1048576) (h0 : 0 ≤ m) (h1 : m ≤ 268435456)
    (ho : OwnS w lo hi 44 3 g n zss) :
    Calls Try.prog 17 #[.slice (some ⟨g, 0, none⟩) n n, .int .i64 m] w fun e w' => e = .returned (.int .i64 (m + tot zss n)) ∧ Apart lo hi w w' := by
  obtain ⟨vs, L, hz, hv, hlo, hg0, hLm, hLn, hhi, hvb, hrow⟩ := ho
  have hmono := mono_le hLm
  go_enter Try.func17, Try.ntmps17
  go_wp2
  go_loopw [1, 5] (fun q i wr => ∃ k : Nat, k ≤ n ∧ i = .int .i64 k ∧ q = .int .i64 (m + tot zss k) ∧ wr.heap[g]? = some (.cells vs.toArray 44 (0, 0)) ∧
      (∀ i, k ≤ i → i < n → ∃ a c, vs[i]? = some (.slice a (zss.getD i []).length c) ∧ wr.ownsRow (L i) 3 1 (.slice a (zss.getD i []).length c) (zss.getD i []).length ((zss.getD i []).map (.int .i64)) ∧ ∀ b, (Value.slice a (zss.getD i []).length c).ownBlock = some b → b < L (i + 1)) ∧ Apart lo hi w wr) (fun _ i _ => n - (intOf i).toNat)
  case atStart => exact ⟨0, Nat.zero_le _, rfl, by simp [tot_zero], hvb, fun i _ hi => hrow i hi, Apart.refl _ _ _⟩
  case round =>
    clear hvb hrow
    obtain ⟨k, hk, rfl, rfl, hvb, hrow, hap⟩ := hrel
    by_cases hlt : k < n
    · obtain ⟨a, c, e1, e2, e3⟩ := hrow k (Nat.le_refl _) hlt
      have hcx : wr.cell? ⟨g, k, none⟩ = some (.slice a (zss.getD k []).length c) := by rw [cell_of_row wr g k _ _ (0, 0) hvb]; simpa using e1
      have hsm := hs k (by omega)
      have hts := tot_succ zss k (by omega)
      have htm := tot_mono zss (k + 1) n (by omega)
      obtain ⟨ys, hys⟩ : ∃ ys, ys = zss.getD k [] := ⟨_, rfl⟩
      obtain ⟨l, hl⟩ : ∃ l, ys.length = l := ⟨_, rfl⟩
      rw [← hys, hl] at hcx hsm hts e2
      rw [← hys] at e3
      rw [hl] at e3
      have HTS := Hid.mk hts
      have hb1 : m + (tot zss k : Int) ≤ 1073741824 := by omega
      have hb0 : 0 ≤ m + (tot zss k : Int) := by omega
      have HTM := Hid.mk htm
      have ltk := e2.lt
      obtain ⟨T, hT⟩ : ∃ T : Nat, tot zss k = T := ⟨_, rfl⟩
      rw [hT] at hb0 hb1 HTS
      rw [hT]
      have HT := Hid.mk hT
      have hki : (k : Int) < (n : Int) := by omega
      clear hys hl hts htm e1 hT
      go_wp2_with fail
      refine (markIntS_any _ _ _ _ _ _ _ hsm hb0 hb1 e2).mono ?_
      rintro e w2 ⟨rfl, ho2, hg2⟩
      have hrange : ∀ b, (Value.slice a l c).ownBlock = some b → L k ≤ b ∧ b < L (k + 1) := fun b hb => ⟨(ltk b hb).1, e3 b hb⟩
      have q1 := hmono 0 k (by omega) (by omega)
      have q2 := hmono (k + 1) n (by omega) (Nat.le_refl _)
      have hvb2 : w2.heap[g]? = some (.cells vs.toArray 44 (0, 0)) := by
        rw [hg2.block g (Array.getElem?_eq_some_iff.1 hvb).1 (fun e => by have := hrange g e.symm; omega)]; exact hvb
      have HR : Hid (∀ i, k + 1 ≤ i → i < n → ∃ a c, vs[i]? = some (.slice a (zss.getD i []).length c) ∧ w2.ownsRow (L i) 3 1 (.slice a (zss.getD i []).length c) (zss.getD i []).length ((zss.getD i []).map (.int .i64)) ∧ ∀ b, (Value.slice a (zss.getD i []).length c).ownBlock = some b → b < L (i + 1)) := fun i hi1 hi2 => by
        obtain ⟨a', c', k1, k2, k3⟩ := hrow i (by omega) hi2
        have lti := k2.lt
        exact ⟨a', c', k1, k2.kept hg2 (own_apart (lo := L i) (hi := L (i + 1)) (fun b hb => ⟨(lti b hb).1, k3 b hb⟩) hrange (.inr (hmono (k + 1) i (by omega) (by omega)))), k3⟩
      have HA : Hid (Apart lo hi w w2) := hap.trans (Apart.grown hg2 (fun b hb => by have := hrange b hb; omega))
      have HV := Hid.mk hvb2
      clear hvb2 hvb hrow hap hg2 ho2 e2 e3 hcx ltk hrange
      go_wp2
      go_roundw
      case rel => exact ⟨k + 1, by omega, by go_num, by have := HTS.out; go_num, HV.out, HR.out, HA.out⟩
      case measure => simp [intOf]; omega
    · obtain rfl : k = n := by omega
      have hTm : tot zss k ≤ 1048576 := ht
      go_wp2
      go_ret
      exact ⟨rfl, hap⟩

end Go.Proofs.Ytpnaoahlfhbbmaa
