/- Contracts of impl.TotalsOf, spec.TotalsOf. -/
import Derived.Test.YtlfljfmhhnoinaaRollX
import Derived.Test.YtlfljfmhhnoinaaGoodVS
namespace Go.Proofs.Ytlfljfmhhnoinaa
open Go.RowKit

/-- The totals that are told. -/
def totZ (ts : List GRow) : Amt := if totB ts then totalV ts else (0, 0)
theorem totZ_no {ts : List GRow} (h : totB ts = false) : totZ ts = (0, 0) := by simp [totZ, h]
theorem totZ_yes {ts : List GRow} (h : totB ts = true) : totZ ts = totalV ts := by simp [totZ, h]
theorem ret_iib {a b a' b' : Int} {p q : Bool} (h : a = a') (h' : b = b') (h2 : p = q) : Ending.returned (.tuple #[.int .i64 a, .int .i64 b, .bool p]) = .returned (.tuple #[.int .i64 a', .int .i64 b', .bool q]) := by rw [h, h', h2]

set_option maxRecDepth 100000 in
set_option maxHeartbeats 4000000 in
theorem implTotalsOf (a : Option Addr) (n c : Nat) (ts : List GRow) (w : World) (hz : ts.length = n) (hn : n ≤ 1048576) (ha : AtV w a ts) :
    Calls Try.prog 30 #[.slice a n c] w fun e w' => e = .returned (.tuple #[.int .i64 (totZ ts).1, .int .i64 (totZ ts).2, .bool (totB ts)]) ∧ Below w.heap.size w w' := by
  have HR := Hid.mk (totB_roll ts)
  have HL := Hid.mk (rollL_nil ts)
  go_enter Try.func30, Try.ntmps30
  go_wp2_with fail
  refine (implRollUp _ _ _ _ _ _ ts [] _ hz hn rfl (by decide) ha (At.nil _ _)).mono ?_
  rintro e w1 ⟨⟨r, m, d, rfl, ho⟩, hb1⟩
  rw [HR.out] at ho ⊢
  rw [HL.out] at ho
  cases hB : totB ts with
  | false =>
    have HB := Hid.mk hB
    rw [hB] at ho
    obtain rfl : m = 0 := by have := ho.len; simpa [ansG] using this.symm
    clear hB ho
    go_wp2
    refine bodyPost_ret (v := .tuple #[.int .i64 0, .int .i64 0, .bool false]) (by simp [results, Try.results30, go_sem]) rfl ⟨?_, hb1⟩
    rw [totZ_no HB.out, HB.out]
  | true =>
    have HB := Hid.mk hB
    rw [hB] at ho
    clear hB
    by_cases h0 : totalV ts = (0, 0)
    · have H0 := Hid.mk h0
      obtain rfl : m = 0 := by have := ho.len; simpa [ansG, oneV, h0] using this.symm
      clear ho h0
      go_wp2
      refine bodyPost_ret (v := .tuple #[.int .i64 0, .int .i64 0, .bool true]) (by simp [results, Try.results30, go_sem]) rfl ⟨?_, hb1⟩
      rw [totZ_yes HB.out, H0.out, HB.out]
    · have hone : ansG true (oneV [] (totalV ts)) = [([], totalV ts)] := by simp [ansG, oneV, h0]
      rw [hone] at ho
      obtain rfl : m = 1 := by have := ho.len; simpa using this.symm
      have hat := ho.atV ⟨rfl, by simp [vtot]⟩
      obtain ⟨b, off, rfl, hc⟩ := hat.some (by simp)
      obtain ⟨q, d', _, hwx, hvx, _, _⟩ := hc 0 (by simp)
      obtain ⟨⟨t1, t2⟩, ht⟩ : ∃ t : Amt, t = totalV ts := ⟨_, rfl⟩
      have HT := Hid.mk ht
      rw [← ht] at hwx hvx
      have g1 : w1.cell? ⟨b, off + 1, none⟩ = some (.int .i64 t1) := by simpa using hwx
      have g2 : w1.cell? ⟨b, off + 2, none⟩ = some (.int .i64 t2) := by simpa using hvx
      clear hone ho hat hc hwx hvx ht h0
      go_wp2
      go_quiet (fail)
      go_wp2
      refine bodyPost_ret (v := .tuple #[.int .i64 t1, .int .i64 t2, .bool true]) (by simp [results, Try.results30, go_sem]) rfl ⟨?_, below_drewN hb1 _⟩
      rw [totZ_yes HB.out, ← HT.out, HB.out]

set_option maxRecDepth 100000 in
set_option maxHeartbeats 4000000 in
theorem specTotalsOf (a : Option Addr) (n c : Nat) (ts : List GRow) (w : World) (hz : ts.length = n) (hn : n ≤ 1048576) (ha : AtV w a ts) :
    Calls Try.prog 29 #[.slice a n c] w fun e w' => e = .returned (.tuple #[.int .i64 (totZ ts).1, .int .i64 (totZ ts).2, .bool (totB ts)]) ∧ Below w.heap.size w w' := by
  cases hg : goodV ts with
  | false =>
    have HB : Hid (totB ts = false) := by show _ = _; simp [totB, hg]
    have HG := Hid.mk hg
    clear hg
    go_enter Try.func29, Try.ntmps29
    go_wp2_with (go_at_call 10; refine (specGoodGroups_any _ _ _ ts _ hz hn ha).mono ?_; rintro e w1 ⟨rfl, hb1⟩; rw [HG.out])
    refine bodyPost_ret (v := .tuple #[.int .i64 0, .int .i64 0, .bool false]) (by simp [results, Try.results29, go_sem]) rfl ⟨?_, hb1⟩
    rw [HB.out, totZ_no HB.out]
  | true =>
    have HG := Hid.mk hg
    have hn60 : n ≤ 60 := by have := (goodV_parts hg).1; omega
    have HBD : Hid (∀ k, k ≤ n → InA 6000000000000000 (totalV (ts.take k))) := fun k hk => by
      refine (totalV_in (M := 100000000000000) fun t ht => (goodV_mem hg t (List.mem_of_mem_take ht)).2.2.1).mono ?_
      rw [List.length_take]
      omega
    clear hg
    go_enter Try.func29, Try.ntmps29
    go_wp2_with (go_at_call 10; refine (specGoodGroups_any _ _ _ ts _ hz hn ha).mono ?_; rintro e w1 ⟨rfl, hb1⟩; rw [HG.out])
    go_loopw [5, 6, 14] (fun s t i wr => ∃ (k : Nat) (x y : Int), k ≤ n ∧ i = .int .i64 k ∧ s = .int .i64 x ∧ t = .int .i64 y ∧ (x, y) = totalV (ts.take k) ∧ Below w.heap.size w wr) (fun _ _ i _ => n - (intOf i).toNat)
    case atStart => exact ⟨0, 0, 0, Nat.zero_le _, rfl, rfl, rfl, rfl, hb1⟩
    case round =>
      obtain ⟨k, x, y, hk, rfl, rfl, rfl, hxy, hbw⟩ := hrel
      by_cases hlt : k < n
      · obtain ⟨b, off, rfl, hc⟩ := (ha.below hbw).some (by omega)
        obtain ⟨q, d, hcx, hwx, hvx, hm, _⟩ := hc k (by omega)
        have hki : (k : Int) < (n : Int) := by omega
        have h1 := HBD.out (k + 1) (by omega)
        have HTK := totalV_take ts k (by omega)
        rw [HTK, ← hxy] at h1
        generalize (gat ts k).1.length = m at *
        generalize (gat ts k).2 = Z at *
        obtain ⟨u, v⟩ := Z
        simp only at hwx hvx
        obtain ⟨g1, g2, g3, g4⟩ := h1
        simp only [addA] at g1 g2 g3 g4
        have HN : Hid ((x + u, y + v) = totalV (ts.take (k + 1))) := by show _ = _; rw [HTK, ← hxy]; rfl
        have hw1 : IntKind.i64.wrap (x + u) = x + u := IntWalk.i64_in _ (by omega)
        have hw2 : IntKind.i64.wrap (y + v) = y + v := IntWalk.i64_in _ (by omega)
        clear hc HTK hxy
        go_wp2
        go_roundw
        case rel => exact ⟨k + 1, x + u, y + v, by omega, by go_num, by go_num, by go_num, HN.out, hbw.alloc hbw.size _⟩
        case measure => simp [intOf]; omega
      · obtain rfl : k = n := by omega
        rw [List.take_of_length_le (by omega)] at hxy
        obtain ⟨b1, HB1⟩ : ∃ b1 : Bool, Hid (ins x = b1) := ⟨_, Hid.mk rfl⟩
        obtain ⟨b2, HB2⟩ : ∃ b2 : Bool, Hid (ins y = b2) := ⟨_, Hid.mk rfl⟩
        have HT : Hid (totB ts = (b1 && b2)) := by show _ = _; rw [totB, HG.out, ← hxy, HB1.out, HB2.out]; rfl
        have HXY := Hid.mk hxy
        clear hxy
        cases b1 <;> cases b2
        all_goals
          go_wp2_with (first | (go_at_call_of 41 (Value.int .i64 x); refine (l5Sum_any _ _).mono ?_; rintro e w2 ⟨rfl, rfl⟩; rw [HB1.out]) | (go_at_call_of 41 (Value.int .i64 y); refine (l5Sum_any _ _).mono ?_; rintro e w2 ⟨rfl, rfl⟩; rw [HB2.out]))
          first
            | (have HT2 : totB ts = false := HT.out; refine bodyPost_ret (v := .tuple #[.int .i64 0, .int .i64 0, .bool false]) (by simp [results, Try.results29, go_sem]) rfl ⟨ret_iib (by rw [totZ_no HT2]) (by rw [totZ_no HT2]) HT2.symm, hbw⟩; done)
            | (have HT2 : totB ts = true := HT.out; refine bodyPost_ret (v := .tuple #[.int .i64 x, .int .i64 y, .bool true]) (by simp [results, Try.results29, go_sem]) rfl ⟨ret_iib (by rw [totZ_yes HT2, ← HXY.out]) (by rw [totZ_yes HT2, ← HXY.out]) HT2.symm, hbw⟩; done)

end Go.Proofs.Ytlfljfmhhnoinaa
