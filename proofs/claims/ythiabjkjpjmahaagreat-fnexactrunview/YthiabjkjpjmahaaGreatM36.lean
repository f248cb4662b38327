/- Several texts of one proof, in build order: RaK, TyB. -/
import Derived.Test.YthiabjkjpjmahaaGreatM35
import Derived.Test.YthiabjkjpjmahaaGreatM24

/- Contract of impl.suitSources. -/
namespace Go.Proofs.YthiabjkjpjmahaaGreat
open Go.RowKit

set_option maxRecDepth 100000 in
set_option maxHeartbeats 8000000 in
theorem suitSources_any (a : Option Addr) (n c : Nat) (l : List Tab) (a' : Option Addr) (n' c' : Nat) (ss : List Int) (w : World) (hs : SmU l n) (hz : ss.length = n') (hn' : n' ≤ 1048576) (ha : AtSM w a l) (ha' : At w a' ss) :
    Calls Tryz.prog 31 #[.slice a n c, .slice a' n' c'] w fun e w' => e = .returned (.bool (suitB l ss)) ∧ Below w.heap.size w w' := by
  have HA := Hid.mk ha
  have HP := Hid.mk ha'
  have HS := Hid.mk hs
  have HZ := Hid.mk hz
  have HLN := Hid.mk hs.1
  have hn20 := hs.n
  clear ha ha' hs hz
  by_cases hnn : n = n'
  · subst hnn
    have HSB : Hid (suitB l ss = suitTo l ss n) := by
      show _ = _
      unfold suitB
      rw [HLN.out, HZ.out, decide_eq_true rfl]; rfl
    go_enter Tryz.func31, Tryz.ntmps31
    go_wp2_with fail
    go_loopw [14] (fun i wx => ∃ (k : Nat), k ≤ n ∧ i = .int .i64 k ∧ suitTo l ss k = true ∧ Below w.heap.size w wx) (fun i _ => n - (intOf i).toNat)
    case atStart => exact ⟨0, Nat.zero_le _, rfl, rfl, Below.refl _ _⟩
    case round =>
      obtain ⟨k, hkn, rfl, htk, hbw⟩ := hrel
      have zw := hbw.size
      by_cases hlt : k < n
      · obtain ⟨b, off, a1, c1, hab, hc0, hc1, hf1, ham⟩ := (HA.out.below hbw).at HLN.out hlt
        subst hab
        obtain ⟨pb, poff, hpb, hpl, hpc⟩ := At.some (HP.out.below hbw) (by have := HZ.out; omega)
        subst hpb
        have hpk := hpc k (by have := HZ.out; omega)
        obtain ⟨z, hzz⟩ : ∃ z, ss.getD k 0 = z := ⟨_, rfl⟩
        rw [hzz] at hpk
        have HSM := Hid.mk (HS.out.tab k (by omega))
        obtain ⟨ok, hok⟩ : ∃ ok, suit1 l ss k = ok := ⟨_, rfl⟩
        have HOK := Hid.mk hok
        have HOE : Hid ((decide ((tat l k).1 = z) && goodT (tat l k).1 (tat l k).2) = ok) := by
          show _ = _
          rw [← hok, ← hzz]; rfl
        have HAM := Hid.mk ham
        obtain ⟨p1, hp1⟩ : ∃ p1, (tat l k).1 = p1 := ⟨_, rfl⟩
        obtain ⟨ts, hts⟩ : ∃ ts, (tat l k).2 = ts := ⟨_, rfl⟩
        rw [hp1] at hc0 HOE
        rw [hts] at hc1 HOE HAM HSM
        obtain ⟨m1, hm1e⟩ : ∃ m1, ts.length = m1 := ⟨_, rfl⟩
        rw [hm1e] at hc1 HSM
        obtain ⟨W1, hW1⟩ : ∃ W1, W1 = wr.alloc (.cells #[.int .i64 p1, .slice a1 m1 c1] 32) := ⟨_, rfl⟩
        have b1 : Below wr.heap.size wr W1 := by rw [hW1]; exact (Below.refl _ _).alloc (Nat.le_refl _) _
        have t0 : W1.cell? ⟨wr.heap.size, 0, none⟩ = some (.int .i64 p1) := by rw [hW1]; exact pair0 _ _ _ _
        have t1 : W1.cell? ⟨wr.heap.size, 1, none⟩ = some (.slice a1 m1 c1) := by rw [hW1]; exact pair1 _ _ _ _
        have hpk1 := cell_later b1 hpk
        have KT := Hid.mk (implGoodTable_any a1 m1 c1 ts p1 W1.drew hm1e HSM.out.n ((HAM.out.below b1).below (Below.refl _ _).drew).atW)
        have HTK := Hid.mk htk
        have HBW1 : Hid (Below w.heap.size w W1) := hbw.trans (b1.mono hbw.size)
        have hki : (k : Int) < (n : Int) := by omega
        clear hpc hf1 ham hok hp1 hts htk hbw b1 hm1e hzz hpl
        by_cases hpz : p1 = z
        · have HPZ := Hid.mk hpz
          have hd : (p1 != z) = false := by simpa using hpz
          have hd2 : decide (p1 = z) = true := by simpa using hpz
          have hd3 : (p1 == z) = true := by simpa using hpz
          clear hpz
          go_wp2_with fail
          rw [← hW1]
          clear hW1 hc0 hc1
          refine wp_region_held_drew (S := fun w' => w'.cell? ⟨wr.heap.size, 0, none⟩ = some (.int .i64 p1) ∧ w'.cell? ⟨wr.heap.size, 1, none⟩ = some (.slice a1 m1 c1) ∧ w'.cell? ⟨pb, poff + k, none⟩ = some (.int .i64 z)) (by kernel_rfl) ?_ (fun hHeld => ?_)
          · (try dsimp only)
            exact ⟨t0, t1, hpk1⟩
          refine tk 0 ?_
          refine tk 1 ?_
          refine tk 2 ?_
          refine tk 3 ?_
          refine tk 4 ?_
          refine tk 5 ?_
          refine tk 6 ?_
          refine tk 7 ?_
          refine tk 8 ?_
          refine tr 9 (fun K hK => ?_)
          go_simp
          go_at_call 71
          refine KT.out.mono ?_
          rintro e w5 ⟨rfl, hb5⟩
          have t0 := cell_later (w := W1.drew) hb5 t0
          have t1 := cell_later (w := W1.drew) hb5 t1
          have hpk1 := cell_later (w := W1.drew) hb5 hpk1
          have HB5 : Hid (Below w.heap.size w w5) := HBW1.out.drew.trans (hb5.mono HBW1.out.size)
          clear hb5
          (try go_wp2_with fail)
          refine hK.out _ _ ?_ (fun hHeld' => ?_)
          · (try dsimp only)
            exact ⟨t0, t1, hpk1⟩
          clear hK K hHeld
          have hHeld := hHeld'
          clear hHeld'
          (try simp only [Act.put, List.setIfInBounds_toArray, List.set_cons_zero, List.set_cons_succ])
          refine tk 10 ?_
          refine tk 11 ?_
          refine wpAnyH_done (by kernel_rfl) ?_ _
          clear hHeld t0 t1 hpk1 hpk KT HBW1 hd hd3
          rw [hd2, Bool.true_and] at HOE
          cases hgt : goodT p1 ts with
          | false =>
            have HN : Hid (suitB l ss = false) := by show _ = _; rw [HSB.out, suitTo_no hlt (by rw [HOK.out, ← HOE.out]; exact hgt)]
            clear hgt hd2
            go_wp2
            exact bodyPost_ret (v := .bool false) (by simp [results, Tryz.results31, go_sem]) rfl ⟨by rw [HN.out], HB5.out⟩
          | true =>
            have HN : Hid (suit1 l ss k = true) := by show _ = _; rw [HOK.out, ← HOE.out]; exact hgt
            clear hgt hd2
            go_wp2
            go_roundw
            case rel => exact ⟨k + 1, by omega, by go_num, by rw [suitTo_succ, HTK.out, HN.out]; rfl, HB5.out⟩
            case measure => simp [intOf]; omega
        · have HPZ := Hid.mk hpz
          have hd : (p1 != z) = true := by simpa using hpz
          have hd2 : decide (p1 = z) = false := by simpa using hpz
          have hd3 : (p1 == z) = false := by simpa using hpz
          have HN : Hid (suitB l ss = false) := by show _ = _; rw [HSB.out, suitTo_no hlt (by rw [HOK.out, ← HOE.out, hd2]; rfl)]
          clear hpz
          go_wp2_with fail
          rw [← hW1]
          clear hW1 hc0 hc1
          refine wp_region_held_drew (S := fun w' => w'.cell? ⟨wr.heap.size, 0, none⟩ = some (.int .i64 p1) ∧ w'.cell? ⟨wr.heap.size, 1, none⟩ = some (.slice a1 m1 c1) ∧ w'.cell? ⟨pb, poff + k, none⟩ = some (.int .i64 z)) (by kernel_rfl) ?_ (fun hHeld => ?_)
          · (try dsimp only)
            exact ⟨t0, t1, hpk1⟩
          refine tk 0 ?_
          refine tk 1 ?_
          refine tk 2 ?_
          refine tk 3 ?_
          refine tk 4 ?_
          refine tk 5 ?_
          refine tk 6 ?_
          refine tk 7 ?_
          refine tu 8 ?_
          refine tu 9 ?_
          refine tu 10 ?_
          refine tk 11 ?_
          refine wpAnyH_done (by kernel_rfl) ?_ _
          clear hHeld t0 t1 hpk1 hpk KT hd hd3 hd2
          go_wp2
          exact bodyPost_ret (v := .bool false) (by simp [results, Tryz.results31, go_sem]) rfl ⟨by rw [HN.out], HBW1.out.drew⟩
      · obtain rfl : k = n := by omega
        have hkk : ¬ (k : Int) < (k : Int) := by omega
        have HN : Hid (suitB l ss = true) := by show _ = _; rw [HSB.out, htk]
        clear htk
        go_wp2
        exact bodyPost_ret (v := .bool true) (by simp [results, Tryz.results31, go_sem]) rfl ⟨by rw [HN.out], hbw⟩
  · have HSB : Hid (suitB l ss = false) := by
      show _ = _
      unfold suitB
      rw [HLN.out, HZ.out, decide_eq_false hnn]; rfl
    have hd : ((n : Int) != (n' : Int)) = true := by simp; omega
    have hd2 : ((n : Int) == (n' : Int)) = false := by simp; omega
    have hd3 : ¬ (n : Int) = (n' : Int) := by omega
    go_enter Tryz.func31, Tryz.ntmps31
    go_wp2
    exact bodyPost_ret (v := .bool false) (by simp [results, Tryz.results31, go_sem]) rfl ⟨by rw [HSB.out], Below.refl _ _⟩

end Go.Proofs.YthiabjkjpjmahaaGreat

/- What the other type assertions answer. -/
namespace Go.Proofs.YthiabjkjpjmahaaGreat
open Go.RowKit

@[go_sem] theorem as1_1 (v : Value) (w : World) : (Instr.typeAssert (.iface 152 v) 110 152 true).run Tryz.prog w = .ok (.tuple #[v, .bool true]) w := by kernel_rfl
@[go_sem] theorem as2_1 (v : Value) (w : World) : (Instr.typeAssert (.iface 154 v) 110 152 true).run Tryz.prog w = .ok (.tuple #[.agg #[.int .i64 0], .bool false]) w := by kernel_rfl
@[go_sem] theorem as3_1 (v : Value) (w : World) : (Instr.typeAssert (.iface 156 v) 110 152 true).run Tryz.prog w = .ok (.tuple #[.agg #[.int .i64 0], .bool false]) w := by kernel_rfl
@[go_sem] theorem as4_1 (v : Value) (w : World) : (Instr.typeAssert (.iface 158 v) 110 152 true).run Tryz.prog w = .ok (.tuple #[.agg #[.int .i64 0], .bool false]) w := by kernel_rfl
@[go_sem] theorem as5_1 (v : Value) (w : World) : (Instr.typeAssert (.iface 160 v) 110 152 true).run Tryz.prog w = .ok (.tuple #[.agg #[.int .i64 0], .bool false]) w := by kernel_rfl
@[go_sem] theorem as6_1 (v : Value) (w : World) : (Instr.typeAssert (.iface 161 v) 110 152 true).run Tryz.prog w = .ok (.tuple #[.agg #[.int .i64 0], .bool false]) w := by kernel_rfl
@[go_sem] theorem as7_1 (v : Value) (w : World) : (Instr.typeAssert (.iface 163 v) 110 152 true).run Tryz.prog w = .ok (.tuple #[.agg #[.int .i64 0], .bool false]) w := by kernel_rfl
@[go_sem] theorem as1_3 (v : Value) (w : World) : (Instr.typeAssert (.iface 152 v) 110 156 true).run Tryz.prog w = .ok (.tuple #[.agg #[.int .i64 0, .slice none 0 0], .bool false]) w := by kernel_rfl
@[go_sem] theorem as2_3 (v : Value) (w : World) : (Instr.typeAssert (.iface 154 v) 110 156 true).run Tryz.prog w = .ok (.tuple #[.agg #[.int .i64 0, .slice none 0 0], .bool false]) w := by kernel_rfl
@[go_sem] theorem as3_3 (v : Value) (w : World) : (Instr.typeAssert (.iface 156 v) 110 156 true).run Tryz.prog w = .ok (.tuple #[v, .bool true]) w := by kernel_rfl
@[go_sem] theorem as4_3 (v : Value) (w : World) : (Instr.typeAssert (.iface 158 v) 110 156 true).run Tryz.prog w = .ok (.tuple #[.agg #[.int .i64 0, .slice none 0 0], .bool false]) w := by kernel_rfl
@[go_sem] theorem as5_3 (v : Value) (w : World) : (Instr.typeAssert (.iface 160 v) 110 156 true).run Tryz.prog w = .ok (.tuple #[.agg #[.int .i64 0, .slice none 0 0], .bool false]) w := by kernel_rfl
@[go_sem] theorem as6_3 (v : Value) (w : World) : (Instr.typeAssert (.iface 161 v) 110 156 true).run Tryz.prog w = .ok (.tuple #[.agg #[.int .i64 0, .slice none 0 0], .bool false]) w := by kernel_rfl
@[go_sem] theorem as7_3 (v : Value) (w : World) : (Instr.typeAssert (.iface 163 v) 110 156 true).run Tryz.prog w = .ok (.tuple #[.agg #[.int .i64 0, .slice none 0 0], .bool false]) w := by kernel_rfl
@[go_sem] theorem as1_6 (v : Value) (w : World) : (Instr.typeAssert (.iface 152 v) 110 161 true).run Tryz.prog w = .ok (.tuple #[.agg #[.int .i64 0, .int .i64 0], .bool false]) w := by kernel_rfl
@[go_sem] theorem as2_6 (v : Value) (w : World) : (Instr.typeAssert (.iface 154 v) 110 161 true).run Tryz.prog w = .ok (.tuple #[.agg #[.int .i64 0, .int .i64 0], .bool false]) w := by kernel_rfl
@[go_sem] theorem as3_6 (v : Value) (w : World) : (Instr.typeAssert (.iface 156 v) 110 161 true).run Tryz.prog w = .ok (.tuple #[.agg #[.int .i64 0, .int .i64 0], .bool false]) w := by kernel_rfl
@[go_sem] theorem as4_6 (v : Value) (w : World) : (Instr.typeAssert (.iface 158 v) 110 161 true).run Tryz.prog w = .ok (.tuple #[.agg #[.int .i64 0, .int .i64 0], .bool false]) w := by kernel_rfl
@[go_sem] theorem as5_6 (v : Value) (w : World) : (Instr.typeAssert (.iface 160 v) 110 161 true).run Tryz.prog w = .ok (.tuple #[.agg #[.int .i64 0, .int .i64 0], .bool false]) w := by kernel_rfl
@[go_sem] theorem as6_6 (v : Value) (w : World) : (Instr.typeAssert (.iface 161 v) 110 161 true).run Tryz.prog w = .ok (.tuple #[v, .bool true]) w := by kernel_rfl
@[go_sem] theorem as7_6 (v : Value) (w : World) : (Instr.typeAssert (.iface 163 v) 110 161 true).run Tryz.prog w = .ok (.tuple #[.agg #[.int .i64 0, .int .i64 0], .bool false]) w := by kernel_rfl

end Go.Proofs.YthiabjkjpjmahaaGreat
