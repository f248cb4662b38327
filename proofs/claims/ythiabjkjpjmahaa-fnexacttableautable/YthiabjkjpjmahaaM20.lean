/- Several texts of one proof, in build order: AtR, TtS, LawTableauTable, Open. -/
import Derived.Test.YthiabjkjpjmahaaM3
import Derived.Test.YthiabjkjpjmahaaM19
import Derived.Test.YthiabjkjpjmahaaM9
import Derived.Test.YthiabjkjpjmahaaM18
import Derived.Deep.CutBlock
import Derived.Test.YthiabjkjpjmahaaM4
import Derived.Test.YthiabjkjpjmahaaM15
import Derived.Test.YthiabjkjpjmahaaM1
import Derived.ProofKit
import Derived.OpenShut
import Derived.ShutString
import Derived.ChangeOld
import Derived.Lib.SmallJoins

/- Rows in memory, as the model reads them. -/
namespace Go.Proofs.Ythiabjkjpjmahaa
open Go.RowKit

abbrev AtR (w : World) (a : Option Addr) (zss : List (List Int)) : Prop := AtSl RInts w a zss
theorem AtR.row {w : World} {a : Option Addr} {zss : List (List Int)} (h : AtR w a zss) (hp : 0 < zss.length) : ∃ b off, a = some ⟨b, off, none⟩ ∧ ∀ (i : Nat) (z : List Int), zss[i]? = some z →
    ∃ a' c', w.cell? ⟨b, off + i, none⟩ = some (.slice a' z.length c') ∧ z.length ≤ 9223372036854775807 ∧ At w a' z ∧ (a' = none → c' = 0) := by
  obtain ⟨b, off, rfl, hc⟩ := AtSl.each h hp
  refine ⟨b, off, rfl, fun i z hz => ?_⟩
  obtain ⟨cs, h1, a2, n2, c2, rfl, e1, e2, e3, e4⟩ := hc i z hz
  have h9 := h1 0 _ rfl
  refine ⟨a2, c2, ?_, by omega, atSl_int.1 e3, e4⟩
  rw [e1]
  simpa [RInts, Rep.slice] using h9

end Go.Proofs.Ythiabjkjpjmahaa

/- Contract of spec.TableauTable. -/
namespace Go.Proofs.Ythiabjkjpjmahaa
open Go.RowKit

theorem ones_take (zss : List (List Int)) (k : Nat) {z : List Int} (h : zss[k]? = some z) : putAll [] ((onesW zss).take (k + 1)) = putW (putAll [] ((onesW zss).take k)) z 1 := by
  have h1 : (onesW zss)[k]? = some (z, 1) := by unfold onesW; rw [List.getElem?_map, h]; rfl
  obtain ⟨hk, he⟩ := List.getElem?_eq_some_iff.1 h1
  rw [List.take_succ_eq_append_getElem hk, he, putAll_snoc]
theorem ones_ok {zss : List (List Int)} (h6 : ∀ z ∈ zss, z.length ≤ 6) (k : Nat) (hk : k ≤ 8) : ∀ t ∈ putAll [] ((onesW zss).take k), t.1.length ≤ 6 ∧ -4000000000000000000 ≤ t.2 ∧ t.2 ≤ 4000000000000000000 := fun t ht => by
  have h := putAll_ok9 (ts := []) (l := (onesW zss).take k) (M0 := 0) (M := 1) (by omega) (by omega) List.Pairwise.nil (fun t ht => by cases ht) (fun t ht => by
    obtain ⟨z, hz, rfl⟩ := List.mem_map.1 (List.mem_of_mem_take ht)
    exact ⟨h6 z hz, by simp, by simp⟩) t ht
  have hl : ((onesW zss).take k).length ≤ 8 := by rw [List.length_take]; omega
  omega

set_option maxRecDepth 100000 in
set_option maxHeartbeats 8000000 in
theorem specTableauTable (p : Int) (a : Option Addr) (n c : Nat) (zss : List (List Int)) (w : World) (hz : zss.length = n) (hn : n ≤ 9223372036854775807) (ha : AtR w a zss) :
    Calls Try.prog 16 #[.agg #[.int .i64 p, .slice a n c]] w fun e w' => TabAns e w' w.heap.size (ttB p zss) p (ttW zss) ∧ Below w.heap.size w w' := by
  obtain ⟨W, hW⟩ : ∃ W, W = (w.alloc (.cells #[.int .i64 p, .slice a n c] 45)).alloc (.cells #[.int .i64 0, .slice none 0 0] 25) := ⟨_, rfl⟩
  have B0 : Below w.heap.size w W := by rw [hW]; exact ((Below.refl _ _).alloc (Nat.le_refl _) _).alloc (by simp) _
  have zW : w.heap.size + 1 < W.heap.size := by rw [hW]; simp
  have c0 : W.cell? ⟨w.heap.size, 0, none⟩ = some (.int .i64 p) := by rw [hW]; simp [go_sem]
  have c1 : W.cell? ⟨w.heap.size, 1, none⟩ = some (.slice a n c) := by rw [hW]; simp [go_sem]
  have b1 : W.heap[w.heap.size + 1]? = some (.cells #[.int .i64 0, .slice none 0 0] 25 (0, 0)) := by
    rw [hW]
    have h := heap_alloc_new (w.alloc (.cells #[.int .i64 p, .slice a n c] 45)) (.cells #[.int .i64 0, .slice none 0 0] 25)
    simpa only [World.size_alloc] using h
  have K1 := Hid.mk (specGoodTableau p a n c zss W hz hn (atSl_ints (AtSl.below ha B0)))
  have HA := Hid.mk ha
  have HZ := Hid.mk hz
  clear ha hz
  cases hg : tbB p zss with
  | false =>
    have HN : Hid (ttB p zss = false) := by show _ = _; unfold ttB; rw [hg]; rfl
    have HG := Hid.mk hg
    clear hg
    go_enter Try.func16, Try.ntmps16
    go_wp2_with fail
    rw [← hW]
    clear hW
    refine K1.out.mono ?_
    rintro e w1 ⟨rfl, hb1⟩
    rw [HG.out]
    have B1 := B0.trans (hb1.mono B0.size)
    have q := blk_below b1 hb1
    have e0 := blk_cell q 0 (v := .int .i64 0) rfl
    have e1 := blk_cell q 1 (v := .slice none 0 0) rfl
    have f0 := blk_frozen q 0
    have f1 := blk_frozen q 1
    go_wp2
    refine bodyPost_ret (v := .tuple #[.agg #[.int .i64 0, .slice none 0 0], .bool false]) (by simp [results, Try.results16, go_sem, e0, e1]) rfl ⟨TabAns.zero HN.out rfl, ?_⟩
    exact (B1.setCell (by simp) _).setCell (by simp) _
  | true =>
    have hn8 : 1 ≤ n ∧ n ≤ 8 := by have := tbB_n hg; have := HZ.out; omega
    have HSUM := Hid.mk (tbB_sum hg)
    have HNB : Hid (ttB p zss = goodT p (ttW zss)) := by show _ = _; unfold ttB; rw [hg]; rfl
    have HG := Hid.mk hg
    clear hg
    go_enter Try.func16, Try.ntmps16
    go_wp2_with fail
    rw [← hW]
    clear hW
    refine K1.out.mono ?_
    rintro e w1 ⟨rfl, hb1⟩
    rw [HG.out]
    have B1 := B0.trans (hb1.mono B0.size)
    have d0 := cell_later hb1 c0
    have d1 := cell_later hb1 c1
    have q1 := blk_below b1 hb1
    have z1 := hb1.size
    clear hb1 b1 c0 c1
    go_wp2_with fail
    go_loopw [4, 14] (fun s i wr => ∃ (k : Nat) (r : Option Addr) (m d : Nat), k ≤ n ∧ i = .int .i64 k ∧ s = .slice r m d ∧ (putAll [] ((onesW zss).take k)).length = m ∧ Formed r m d ∧ AtM wr r (putAll [] ((onesW zss).take k)) ∧ Below w1.heap.size w1 wr) (fun _ i _ => n - (intOf i).toNat)
    case atStart => exact ⟨0, none, 0, 0, Nat.zero_le _, rfl, rfl, rfl, Formed.nil, .inl rfl, Below.refl _ _⟩
    case round =>
      obtain ⟨k, r, m, d, hk, rfl, rfl, hm, hF, har, hbw⟩ := hrel
      have Bw := B1.trans (hbw.mono B1.size)
      by_cases hlt : k < n
      · obtain ⟨b, off, rfl, hc⟩ := AtR.row (AtSl.below HA.out Bw) (by have := HZ.out; omega)
        obtain ⟨z, hy⟩ : ∃ z, zss[k]? = some z := ⟨_, List.getElem?_eq_getElem (by have := HZ.out; omega)⟩
        obtain ⟨a', c', hcx, _, hat, hnil⟩ := hc k z hy
        have hz6 := HSUM.out z (List.mem_of_getElem? hy)
        obtain ⟨q, hq⟩ : ∃ q, z.length = q := ⟨_, rfl⟩
        rw [hq] at hcx hz6
        have hki : (k : Int) < (n : Int) := by omega
        have hm8 : m ≤ 8 := by
          have h9 := putAll_len ((onesW zss).take k) []
          rw [List.length_take] at h9
          simp only [List.length_nil] at h9
          omega
        obtain ⟨U, hU⟩ : ∃ U, U = wr.alloc (.cells #[.slice a' q c'] 78) := ⟨_, rfl⟩
        have hbU : Below wr.heap.size wr U := by rw [hU]; exact (Below.refl _ _).alloc (Nat.le_refl _) _
        have r0 : U.cell? ⟨wr.heap.size, 0, none⟩ = some (.slice a' q c') := by rw [hU]; exact row0 _ _ _
        have KP := Hid.mk (l2Put_any r a' m q d c' (putAll [] ((onesW zss).take k)) z 1 U hm hq (by omega) hF hz6 hnil (fun j hj => at_of_mem (ones_ok HSUM.out k (by omega)) j (by omega)) (by omega) (by omega) (har.below hbU) (hat.below hbU))
        rw [← ones_take zss k hy] at KP
        have HBU := Hid.mk (hbw.trans (hbU.mono hbw.size))
        clear hc hy hat hnil hm hF har hbw hbU hq
        go_upto_region 7 with fail
        rw [← hU]
        clear hU hcx
        go_wp2_with fail
        refine KP.out.mono ?_
        rintro e w2 ⟨r2, m2, d2, rfl, hm2, hF2, ha2, hb2⟩
        have HB2 := Hid.mk (HBU.out.trans (hb2.mono HBU.out.size))
        have HM2 := Hid.mk hm2
        have HF2 := Hid.mk hF2
        have HA2 := Hid.mk ha2
        clear hm2 hF2 ha2 hb2 KP HBU
        go_wp2
        go_roundw
        case rel => exact ⟨k + 1, r2, m2, d2, by omega, by go_num, rfl, HM2.out, HF2.out, HA2.out, HB2.out⟩
        case measure => simp [intOf]; omega
      · obtain rfl : k = n := by omega
        have y0 := cell_later hbw d0
        have qr := blk_below q1 hbw
        have hm8 : m ≤ 8 := by
          have h9 := putAll_len ((onesW zss).take k) []
          rw [List.length_take] at h9
          simp only [List.length_nil] at h9
          omega
        have HTA : Hid ((onesW zss).take k = onesW zss) := List.take_of_length_le (by rw [onesW_length]; have := HZ.out; omega)
        have hok := ones_ok HSUM.out k (by omega)
        rw [HTA.out] at hm har hok
        have KD : Hid (∀ w', Below wr.heap.size wr w' → Calls Try.prog 55 #[.slice r m d] w' fun e w'' => ∃ r2 k2 d2, e = .returned (.slice r2 k2 d2) ∧ (ttW zss).length = k2 ∧ AtM w'' r2 (ttW zss) ∧ Below w'.heap.size w' w'') :=
          fun w' h => l3Distinct_any r m d (putAll [] (onesW zss)) w' hm (by omega) (fun s hs => (hok s hs).1) (har.below h)
        have HTL : Hid ((ttW zss).length ≤ 8) := by show _ ≤ _; have h9 := distW_len (putAll [] (onesW zss)); unfold ttW; omega
        have HT6 : Hid (∀ t ∈ ttW zss, t.1.length ≤ 6) := fun t ht => by
          obtain ⟨s, hs, e⟩ := some_mem ht
          rw [(plainG_some e).1]
          exact (hok s hs).1
        have zr := hbw.size
        clear hm hF har hbw hok
        go_upto_region 9 with fail
        refine wp_region_held_drew (S := fun w' => w'.cell? ⟨w.heap.size, 0, none⟩ = some (.int .i64 p)) (by kernel_rfl) ?_ (fun hHeld => ?_)
        · (try dsimp only)
          exact y0
        refine tk 0 ?_
        refine tk 1 ?_
        refine tk 2 ?_
        refine tr 3 (fun K hK => ?_)
        go_simp
        go_at_call 55; refine (KD.out _ (Below.refl _ _).drew).mono ?_; rintro e v1 ⟨r1, k1, e1, rfl, hk1, ha1, pb1⟩; have Y1 : Below wr.heap.size wr v1 := (Below.refl _ _).drew.trans pb1; have l1 := cell_later Y1 y0
        (try go_wp2_with fail)
        refine hK.out _ _ ?_ (fun hHeld' => ?_)
        · (try dsimp only)
          exact l1
        clear hK K hHeld
        have hHeld := hHeld'
        clear hHeld'
        (try simp only [Act.put, List.setIfInBounds_toArray, List.set_cons_zero, List.set_cons_succ])
        refine tr 4 (fun K hK => ?_)
        go_simp
        go_at_call 36; refine (l2Tell_any r1 k1 e1 (ttW zss) p v1 hk1 (by have := HTL.out; omega) (fun j hj => Nat.le_trans (at_of_mem (Q := fun t => t.1.length ≤ 6) HT6.out j (by omega)) (by omega)) ha1).mono ?_; rintro e v2 ⟨⟨r3, m3, d3, cells3, rfl, ho3⟩, pb2⟩; have Y2 : Below wr.heap.size wr v2 := Y1.trans (pb2.mono Y1.size); have l2 := cell_later Y2 y0; have q3 := blk_below qr Y2; have e0 := blk_cell q3 0 (v := .int .i64 0) rfl; have e1 := blk_cell q3 1 (v := .slice none 0 0) rfl; have f0 := blk_frozen q3 0; have f1 := blk_frozen q3 1
        (try go_wp2_with fail)
        refine hK.out _ _ ?_ (fun hHeld' => ?_)
        · (try dsimp only)
          exact l2
        clear hK K hHeld
        have hHeld := hHeld'
        clear hHeld'
        (try simp only [Act.put, List.setIfInBounds_toArray, List.set_cons_zero, List.set_cons_succ])
        refine tk 5 ?_
        refine tk 6 ?_
        refine tr 7 (fun K hK => ?_)
        go_simp
        skip
        (try go_wp2_with fail)
        refine hK.out _ _ ?_ (fun hHeld' => ?_)
        · (try dsimp only)
          exact keep_far (keep_far l2 (by omega)) (by omega)
        clear hK K hHeld
        have hHeld := hHeld'
        clear hHeld'
        (try simp only [Act.put, List.setIfInBounds_toArray, List.set_cons_zero, List.set_cons_succ])
        refine tk 8 ?_
        refine wpAnyH_done (by kernel_rfl) ?_ _
        have B3 := Bw.trans (Y2.mono Bw.size)
        have zv1 : w.heap.size + 1 < v1.heap.size := by have := Y1.size; omega
        clear hHeld Y1 Y2 l1 l2 q3 qr y0 pb1 pb2 ha1 hk1
        go_wp2
        refine bodyPost_ret (v := .tuple #[.agg #[.int .i64 (tellP p (ttW zss)), .slice r3 m3 d3], .bool (goodT p (ttW zss))]) (by simp [results, Try.results16, go_sem, e0, e1]) rfl ⟨TabAns.tell HNB.out ⟨r3, m3, d3, cells3, rfl, ho3.stored zv1 (by omega) _ _⟩, ?_⟩
        exact (B3.setCell (by simp) _).setCell (by simp) _

end Go.Proofs.Ythiabjkjpjmahaa

/- The law FnExactTableauTable returns true at every input, and writes nothing that was there. -/
namespace Go.Proofs.Ythiabjkjpjmahaa
open Go.RowKit

set_option maxRecDepth 100000 in
set_option maxHeartbeats 16000000 in
theorem lawTableauTable (p0 : Int) (a0 : Option Addr) (n0 c0 : Nat) (z0 : List (List Int)) (w : World) (hz0 : z0.length = n0) (hn0 : n0 ≤ 9223372036854775807) (ha0 : AtS w a0 z0) :
    Calls Try.prog 4 #[.agg #[.int .i64 p0, .slice a0 n0 c0]] w fun e w' => e = .returned (.bool true) ∧ Below w.heap.size w w' := by
  have HA0 := Hid.mk ha0
  have HZ0 := Hid.mk hz0
  clear ha0 hz0
  obtain ⟨W, hW⟩ : ∃ W, W = w.alloc (.cells #[.int .i64 p0, .slice a0 n0 c0] 40) := ⟨_, rfl⟩
  have B0 : Below w.heap.size w W := by rw [hW]; exact (Below.refl _ _).alloc (Nat.le_refl _) _
  have zW : w.heap.size < W.heap.size := by rw [hW]; simp
  have p00_0 : W.cell? ⟨w.heap.size, 0, none⟩ = some (.int .i64 p0) := by rw [hW]; simp
  have p01_0 : W.cell? ⟨w.heap.size, 1, none⟩ = some (.slice a0 n0 c0) := by rw [hW]; simp
  obtain ⟨C0, hC0⟩ : ∃ C : Nat, n0 + tot z0 n0 = C := ⟨_, rfl⟩
  have HC0 := Hid.mk hC0
  clear hC0
  by_cases big0 : (1048576 : Int) < (C0 : Int)
  · go_enter Try.func4, Try.ntmps4
    go_wp2_with fail
    rw [← hW]
    clear hW
    refine (szTableau_any p0 a0 n0 c0 z0 _ _ HZ0.out hn0 (by omega) (by omega) (AtS.below HA0.out B0)).mono ?_
    rintro e v0 ⟨rfl, hv0⟩
    rw [HC0.out, leftOf_no big0]
    have y0 := B0.trans (hv0.mono B0.size)
    go_wp2
    go_ret
    exact ⟨rfl, y0⟩
  have hl0 : ¬ (1048576 : Int) - (C0 : Int) < 0 := by omega
  have HSM0 : Hid (SmR z0 n0) := ⟨HZ0.out, by have := HC0.out; omega⟩
  have hsn0 : n0 ≤ 1048576 := HSM0.out.n
  have HVB0 := HSM0.out.sum
  obtain ⟨V0, hV0⟩ : ∃ V : Nat, tot z0 n0 = V := ⟨_, rfl⟩
  rw [hV0] at HVB0
  have HV0 := Hid.mk hV0
  clear hV0
  obtain ⟨ok, pa, ta, hsA, HS, HI⟩ : ∃ (ok : Bool) (pa : Int) (ta : List WRow), SmT ta ta.length ∧ Hid (∀ (x0 : Nat) (w : World) (F0 : Nat → Prop), RTbl.Own w F0 [.int .i64 p0, .slice (some ⟨x0, 0, none⟩) n0 n0] (p0, z0) → Calls Try.prog 16 #[.agg #[.int .i64 p0, .slice (some ⟨x0, 0, none⟩) n0 n0]] w fun e w' => TabRet e w' w.heap.size ok pa ta ∧ Below w.heap.size w w') ∧ Hid (∀ (x0 : Nat) (w : World) (F0 : Nat → Prop), RTbl.Own w F0 [.int .i64 p0, .slice (some ⟨x0, 0, none⟩) n0 n0] (p0, z0) → Calls Try.prog 18 #[.agg #[.int .i64 p0, .slice (some ⟨x0, 0, none⟩) n0 n0]] w fun e w' => TabRet e w' w.heap.size ok pa ta ∧ Below w.heap.size w w') := ⟨ttB p0 z0, ansP (ttB p0 z0) (p0), ansT (ttB p0 z0) (ttW z0), ans_small (p := p0) (ttB_small p0 z0), fun x0 w F0 o0 => specTableauTable p0 (some ⟨x0, 0, none⟩) n0 n0 z0 w HZ0.out hn0 (RRows.atR (RTbl.own_open o0).2), fun x0 w F0 o0 => implTableauTable p0 (some ⟨x0, 0, none⟩) n0 n0 z0 w HZ0.out hn0 (tbl_at o0)⟩
  obtain ⟨na, hna⟩ : ∃ na, ta.length = na := ⟨_, rfl⟩
  rw [hna] at hsA
  have hxA := hsA.n
  have HNA := Hid.mk hna
  clear hna
  have hwA := hsA.2
  go_enter Try.func4, Try.ntmps4
  go_wp2_with fail
  rw [← hW]
  clear hW
  refine (szTableau_any p0 a0 n0 c0 z0 _ _ HZ0.out hn0 (by omega) (by omega) (AtS.below HA0.out B0)).mono ?_
  rintro e w1 ⟨rfl, hb1⟩
  rw [HC0.out, leftOf_yes (by omega)]
  have p00_1 := cell_later hb1 p00_0
  have p01_1 := cell_later hb1 p01_0
  have B_1 := B0.trans (hb1.mono B0.size)
  have zz1 : W.heap.size ≤ w1.heap.size := hb1.size
  clear p00_0 p01_0
  clear hb1
  go_wp2_with fail
  refine (toTableau_any p0 a0 n0 c0 z0 _ HSM0.out (AtS.below HA0.out B_1)).mono ?_
  rintro e w2 ⟨g2, rfl, ho2, hb2⟩
  have ot0_2 := Hid.mk ho2
  clear ho2
  have p00_2 := cell_later hb2 p00_1
  have p01_2 := cell_later hb2 p01_1
  have B_2 := B_1.trans (hb2.mono B_1.size)
  have zz2 : w1.heap.size ≤ w2.heap.size := hb2.size
  clear p00_1 p01_1 B_1
  clear hb2
  go_wp2_with fail
  refine (HS.out _ _ _ ot0_2.out).mono ?_
  rintro e w3 ⟨⟨r3, m3, d3, cs3, rfl, ho3⟩, hb3⟩
  clear ot0_2
  have ow3 : OwnT w3 (w2.heap.size) w3.heap.size r3 m3 d3 ta := ⟨cs3, ho3⟩
  obtain rfl : na = m3 := HNA.out.symm.trans ow3.len
  have oo_3 := Hid.mk ow3
  clear ho3 ow3
  have p00_3 := cell_later hb3 p00_2
  have p01_3 := cell_later hb3 p01_2
  have B_3 := B_2.trans (hb3.mono B_2.size)
  have zz3 : w2.heap.size ≤ w3.heap.size := hb3.size
  clear p00_2 p01_2 B_2
  clear hb3
  obtain ⟨w4, hU4⟩ : ∃ u, u = w3.alloc (.cells #[.int .i64 pa, .slice r3 na d3] 25) := ⟨_, rfl⟩
  have hb4 : Below w3.heap.size w3 w4 := by rw [hU4]; exact (Below.refl _ _).alloc (Nat.le_refl _) _
  have zl4 : w3.heap.size < w4.heap.size := by rw [hU4]; simp
  have nWt0 : w4.cell? ⟨w3.heap.size, 0, none⟩ = some (.int .i64 pa) := by rw [hU4]; simp
  have nWt1 : w4.cell? ⟨w3.heap.size, 1, none⟩ = some (.slice r3 na d3) := by rw [hU4]; simp
  have p00_4 := cell_later hb4 p00_3
  have p01_4 := cell_later hb4 p01_3
  have oo_4 := Hid.mk (OwnT.below oo_3.out hb4)
  have B_4 := B_3.trans (hb4.mono B_3.size)
  have zz4 : w3.heap.size ≤ w4.heap.size := hb4.size
  clear p00_3 p01_3 oo_3 B_3
  clear hb4
  have xp00 := p00_4
  rw [hU4] at xp00
  have xp01 := p01_4
  rw [hU4] at xp01
  have xWt0 := nWt0
  rw [hU4] at xWt0
  have xWt1 := nWt1
  rw [hU4] at xWt1
  go_wp2_with fail
  rw [← hU4]
  clear hU4
  clear xp00 xp01 xWt0 xWt1
  refine (toTableau_any p0 a0 n0 c0 z0 _ HSM0.out (AtS.below HA0.out B_4)).mono ?_
  rintro e w5 ⟨g5, rfl, ho5, hb5⟩
  have ox0_5 := Hid.mk ho5
  clear ho5
  have p00_5 := cell_later hb5 p00_4
  have p01_5 := cell_later hb5 p01_4
  have Wt0_5 := cell_later hb5 nWt0
  have Wt1_5 := cell_later hb5 nWt1
  have oo_5 := Hid.mk (OwnT.below oo_4.out hb5)
  have B_5 := B_4.trans (hb5.mono B_4.size)
  have zz5 : w4.heap.size ≤ w5.heap.size := hb5.size
  clear p00_4 p01_4 nWt0 nWt1 oo_4 B_4
  clear hb5
  obtain ⟨w6, hU6⟩ : ∃ u, u = w5.alloc (.cells #[.int .i64 p0, .slice (some ⟨g5, 0, none⟩) n0 n0] 45) := ⟨_, rfl⟩
  have hb6 : Below w5.heap.size w5 w6 := by rw [hU6]; exact (Below.refl _ _).alloc (Nat.le_refl _) _
  have zl6 : w5.heap.size < w6.heap.size := by rw [hU6]; simp
  have nX00 : w6.cell? ⟨w5.heap.size, 0, none⟩ = some (.int .i64 p0) := by rw [hU6]; simp
  have nX01 : w6.cell? ⟨w5.heap.size, 1, none⟩ = some (.slice (some ⟨g5, 0, none⟩) n0 n0) := by rw [hU6]; simp
  have p00_6 := cell_later hb6 p00_5
  have p01_6 := cell_later hb6 p01_5
  have Wt0_6 := cell_later hb6 Wt0_5
  have Wt1_6 := cell_later hb6 Wt1_5
  have oo_6 := Hid.mk (OwnT.below oo_5.out hb6)
  have ox0_6 := Hid.mk (RTbl.ownBelow ox0_5.out hb6)
  have B_6 := B_5.trans (hb6.mono B_5.size)
  have zz6 : w5.heap.size ≤ w6.heap.size := hb6.size
  clear p00_5 p01_5 Wt0_5 Wt1_5 oo_5 ox0_5 B_5
  clear hb6
  have xp00 := p00_6
  rw [hU6] at xp00
  have xp01 := p01_6
  rw [hU6] at xp01
  have xWt0 := Wt0_6
  rw [hU6] at xWt0
  have xWt1 := Wt1_6
  rw [hU6] at xWt1
  have xX00 := nX00
  rw [hU6] at xX00
  have xX01 := nX01
  rw [hU6] at xX01
  go_wp2_with fail
  rw [← hU6]
  clear hU6
  clear xp00 xp01 xWt0 xWt1 xX00 xX01
  refine (HI.out _ _ _ ox0_6.out).mono ?_
  rintro e w7 ⟨⟨r7, m7, d7, cs7, rfl, ho7⟩, hb7⟩
  have ow7 : OwnT w7 (w6.heap.size) w7.heap.size r7 m7 d7 ta := ⟨cs7, ho7⟩
  obtain rfl : na = m7 := HNA.out.symm.trans ow7.len
  have og_7 := Hid.mk ow7
  clear ho7 ow7
  have p00_7 := cell_later hb7 p00_6
  have p01_7 := cell_later hb7 p01_6
  have Wt0_7 := cell_later hb7 Wt0_6
  have Wt1_7 := cell_later hb7 Wt1_6
  have X00_7 := cell_later hb7 nX00
  have X01_7 := cell_later hb7 nX01
  have oo_7 := Hid.mk (OwnT.below oo_6.out hb7)
  have ox0_7 := Hid.mk (RTbl.ownBelow ox0_6.out hb7)
  have B_7 := B_6.trans (hb7.mono B_6.size)
  have zz7 : w6.heap.size ≤ w7.heap.size := hb7.size
  clear p00_6 p01_6 Wt0_6 Wt1_6 nX00 nX01 oo_6 ox0_6 B_6
  clear hb7
  obtain ⟨w8, hU8⟩ : ∃ u, u = w7.alloc (.cells #[.int .i64 pa, .slice r7 na d7] 25) := ⟨_, rfl⟩
  have hb8 : Below w7.heap.size w7 w8 := by rw [hU8]; exact (Below.refl _ _).alloc (Nat.le_refl _) _
  have zl8 : w7.heap.size < w8.heap.size := by rw [hU8]; simp
  have nGt0 : w8.cell? ⟨w7.heap.size, 0, none⟩ = some (.int .i64 pa) := by rw [hU8]; simp
  have nGt1 : w8.cell? ⟨w7.heap.size, 1, none⟩ = some (.slice r7 na d7) := by rw [hU8]; simp
  have p00_8 := cell_later hb8 p00_7
  have p01_8 := cell_later hb8 p01_7
  have Wt0_8 := cell_later hb8 Wt0_7
  have Wt1_8 := cell_later hb8 Wt1_7
  have X00_8 := cell_later hb8 X00_7
  have X01_8 := cell_later hb8 X01_7
  have oo_8 := Hid.mk (OwnT.below oo_7.out hb8)
  have ox0_8 := Hid.mk (RTbl.ownBelow ox0_7.out hb8)
  have og_8 := Hid.mk (OwnT.below og_7.out hb8)
  have B_8 := B_7.trans (hb8.mono B_7.size)
  have zz8 : w7.heap.size ≤ w8.heap.size := hb8.size
  clear p00_7 p01_7 Wt0_7 Wt1_7 X00_7 X01_7 oo_7 ox0_7 og_7 B_7
  clear hb8
  have xp00 := p00_8
  rw [hU8] at xp00
  have xp01 := p01_8
  rw [hU8] at xp01
  have xWt0 := Wt0_8
  rw [hU8] at xWt0
  have xWt1 := Wt1_8
  rw [hU8] at xWt1
  have xX00 := X00_8
  rw [hU8] at xX00
  have xX01 := X01_8
  rw [hU8] at xX01
  have xGt0 := nGt0
  rw [hU8] at xGt0
  have xGt1 := nGt1
  rw [hU8] at xGt1
  go_wp2_with fail
  rw [← hU8]
  clear hU8
  clear xp00 xp01 xWt0 xWt1 xX00 xX01 xGt0 xGt1
  refine (eqTableG _ _ _ _ _ ta pa _ hsA (og_8.out.atW hsA) (oo_8.out.atW hsA)).mono ?_
  rintro e w9 ⟨rfl, hb9⟩
  have p00_9 := cell_later hb9 p00_8
  have p01_9 := cell_later hb9 p01_8
  have Wt0_9 := cell_later hb9 Wt0_8
  have Wt1_9 := cell_later hb9 Wt1_8
  have X00_9 := cell_later hb9 X00_8
  have X01_9 := cell_later hb9 X01_8
  have Gt0_9 := cell_later hb9 nGt0
  have Gt1_9 := cell_later hb9 nGt1
  have oo_9 := Hid.mk (OwnT.below oo_8.out hb9)
  have ox0_9 := Hid.mk (RTbl.ownBelow ox0_8.out hb9)
  have og_9 := Hid.mk (OwnT.below og_8.out hb9)
  have B_9 := B_8.trans (hb9.mono B_8.size)
  have zz9 : w8.heap.size ≤ w9.heap.size := hb9.size
  clear p00_8 p01_8 Wt0_8 Wt1_8 X00_8 X01_8 nGt0 nGt1 oo_8 ox0_8 og_8 B_8
  clear hb9
  go_wp2_with fail
  refine wp_region_held_drew (S := fun w' => w'.cell? ⟨w5.heap.size, 0, none⟩ = some (.int .i64 p0) ∧ w'.cell? ⟨w5.heap.size, 1, none⟩ = some (.slice (some ⟨g5, 0, none⟩) n0 n0) ∧ w'.cell? ⟨w.heap.size, 0, none⟩ = some (.int .i64 p0) ∧ w'.cell? ⟨w.heap.size, 1, none⟩ = some (.slice a0 n0 c0)) (by kernel_rfl) ?_ (fun hHeld => ?_)
  · (try dsimp only)
    exact ⟨X00_9, X01_9, p00_9, p01_9⟩
  refine tk 0 ?_
  refine tk 1 ?_
  refine tr 2 (fun K hK => ?_)
  go_simp
  go_at_call 17
  refine (toTableau_any p0 a0 n0 c0 z0 _ HSM0.out (AtS.below HA0.out B_9.drew)).mono ?_
  rintro e w10 ⟨g10, rfl, ho10, hd10⟩
  have hb10 : Below w9.heap.size w9 w10 := (Below.refl _ _).drew.trans hd10
  clear hd10
  have oy_10 := Hid.mk ho10
  clear ho10
  have p00_10 := cell_later hb10 p00_9
  have p01_10 := cell_later hb10 p01_9
  have Wt0_10 := cell_later hb10 Wt0_9
  have Wt1_10 := cell_later hb10 Wt1_9
  have X00_10 := cell_later hb10 X00_9
  have X01_10 := cell_later hb10 X01_9
  have Gt0_10 := cell_later hb10 Gt0_9
  have Gt1_10 := cell_later hb10 Gt1_9
  have oo_10 := Hid.mk (OwnT.below oo_9.out hb10)
  have ox0_10 := Hid.mk (RTbl.ownBelow ox0_9.out hb10)
  have og_10 := Hid.mk (OwnT.below og_9.out hb10)
  have B_10 := B_9.trans (hb10.mono B_9.size)
  have zz10 : w9.heap.size ≤ w10.heap.size := hb10.size
  clear p00_9 p01_9 Wt0_9 Wt1_9 X00_9 X01_9 Gt0_9 Gt1_9 oo_9 ox0_9 og_9 B_9
  clear hb10
  (try go_wp2_with fail)
  refine hK.out _ _ ?_ (fun hHeld' => ?_)
  · (try dsimp only)
    exact ⟨X00_10, X01_10, p00_10, p01_10⟩
  clear hK K hHeld
  have hHeld := hHeld'
  clear hHeld'
  (try simp only [Act.put, List.setIfInBounds_toArray, List.set_cons_zero, List.set_cons_succ])
  refine tr 3 (fun K hK => ?_)
  go_simp
  go_at_call 20
  refine (eqTableau_same p0 _ _ n0 _ _ z0 _ HSM0.out (tbl_at ox0_10.out) (tbl_at oy_10.out)).mono ?_
  rintro e w11 ⟨rfl, hb11⟩
  clear oy_10
  have p00_11 := cell_later hb11 p00_10
  have p01_11 := cell_later hb11 p01_10
  have Wt0_11 := cell_later hb11 Wt0_10
  have Wt1_11 := cell_later hb11 Wt1_10
  have X00_11 := cell_later hb11 X00_10
  have X01_11 := cell_later hb11 X01_10
  have Gt0_11 := cell_later hb11 Gt0_10
  have Gt1_11 := cell_later hb11 Gt1_10
  have oo_11 := Hid.mk (OwnT.below oo_10.out hb11)
  have ox0_11 := Hid.mk (RTbl.ownBelow ox0_10.out hb11)
  have og_11 := Hid.mk (OwnT.below og_10.out hb11)
  have B_11 := B_10.trans (hb11.mono B_10.size)
  have zz11 : w10.heap.size ≤ w11.heap.size := hb11.size
  clear p00_10 p01_10 Wt0_10 Wt1_10 X00_10 X01_10 Gt0_10 Gt1_10 oo_10 ox0_10 og_10 B_10
  clear hb11
  (try go_wp2_with fail)
  refine hK.out _ _ ?_ (fun hHeld' => ?_)
  · (try dsimp only)
    exact ⟨X00_11, X01_11, p00_11, p01_11⟩
  clear hK K hHeld
  have hHeld := hHeld'
  clear hHeld'
  (try simp only [Act.put, List.setIfInBounds_toArray, List.set_cons_zero, List.set_cons_succ])
  refine tk 4 ?_
  refine wpAnyH_done (by kernel_rfl) ?_ _
  clear hHeld
  go_wp2_with fail
  refine (markTableau_rep (From (w4.heap.size) (w5.heap.size)) p0 _ n0 _ z0 _ _ hsn0 HSM0.out.sum (by omega) (by omega) ox0_11.out).mono ?_
  rintro e w12 ⟨rfl, ho12, hg12⟩
  rw [HV0.out]
  have ox0_12 := Hid.mk ho12
  clear ho12
  have p00_12 := hg12.cell p00_11 (show ¬ From (w4.heap.size) (w5.heap.size) (w.heap.size) from fun h => by have h1 := h.1; have h2 := h.2; omega)
  have p01_12 := hg12.cell p01_11 (show ¬ From (w4.heap.size) (w5.heap.size) (w.heap.size) from fun h => by have h1 := h.1; have h2 := h.2; omega)
  have Wt0_12 := hg12.cell Wt0_11 (show ¬ From (w4.heap.size) (w5.heap.size) (w3.heap.size) from fun h => by have h1 := h.1; have h2 := h.2; omega)
  have Wt1_12 := hg12.cell Wt1_11 (show ¬ From (w4.heap.size) (w5.heap.size) (w3.heap.size) from fun h => by have h1 := h.1; have h2 := h.2; omega)
  have X00_12 := hg12.cell X00_11 (show ¬ From (w4.heap.size) (w5.heap.size) (w5.heap.size) from fun h => by have h1 := h.1; have h2 := h.2; omega)
  have X01_12 := hg12.cell X01_11 (show ¬ From (w4.heap.size) (w5.heap.size) (w5.heap.size) from fun h => by have h1 := h.1; have h2 := h.2; omega)
  have Gt0_12 := hg12.cell Gt0_11 (show ¬ From (w4.heap.size) (w5.heap.size) (w7.heap.size) from fun h => by have h1 := h.1; have h2 := h.2; omega)
  have Gt1_12 := hg12.cell Gt1_11 (show ¬ From (w4.heap.size) (w5.heap.size) (w7.heap.size) from fun h => by have h1 := h.1; have h2 := h.2; omega)
  have oo_12 := Hid.mk (OwnT.apartW oo_11.out (Off.apart hg12) (by omega))
  have og_12 := Hid.mk (OwnT.apartW og_11.out (Off.apart hg12) (by omega))
  have B_12 := B_11.trans (hg12.toBelow (by omega) B_11.size)
  have zz12 : w11.heap.size ≤ w12.heap.size := hg12.size
  clear p00_11 p01_11 Wt0_11 Wt1_11 X00_11 X01_11 Gt0_11 Gt1_11 oo_11 ox0_11 og_11 B_11
  clear hg12
  have kpos : ¬ (1 : Int) + (V0 : Int) < 0 := by omega
  go_wp2_with fail
  refine (eqTableG _ _ _ _ _ ta pa _ hsA (og_12.out.atW hsA) (oo_12.out.atW hsA)).mono ?_
  rintro e w13 ⟨rfl, hb13⟩
  have p00_13 := cell_later hb13 p00_12
  have p01_13 := cell_later hb13 p01_12
  have Wt0_13 := cell_later hb13 Wt0_12
  have Wt1_13 := cell_later hb13 Wt1_12
  have X00_13 := cell_later hb13 X00_12
  have X01_13 := cell_later hb13 X01_12
  have Gt0_13 := cell_later hb13 Gt0_12
  have Gt1_13 := cell_later hb13 Gt1_12
  have oo_13 := Hid.mk (OwnT.below oo_12.out hb13)
  have ox0_13 := Hid.mk (RTbl.ownBelow ox0_12.out hb13)
  have og_13 := Hid.mk (OwnT.below og_12.out hb13)
  have B_13 := B_12.trans (hb13.mono B_12.size)
  have zz13 : w12.heap.size ≤ w13.heap.size := hb13.size
  clear p00_12 p01_12 Wt0_12 Wt1_12 X00_12 X01_12 Gt0_12 Gt1_12 oo_12 ox0_12 og_12 B_12
  clear hb13
  clear ox0_13
  go_wp2_with fail
  refine (markTableG (w6.heap.size) (w7.heap.size) _ _ _ ta pa 1 _ hsA (by omega) (by omega) og_13.out).mono ?_
  rintro e w14 ⟨rfl, ho14, hp14⟩
  have og_14 := Hid.mk ho14
  have hg14 := Off.of_apart hp14
  clear ho14 hp14
  have p00_14 := hg14.cell p00_13 (show ¬ From (w6.heap.size) (w7.heap.size) (w.heap.size) from fun h => by have h1 := h.1; have h2 := h.2; omega)
  have p01_14 := hg14.cell p01_13 (show ¬ From (w6.heap.size) (w7.heap.size) (w.heap.size) from fun h => by have h1 := h.1; have h2 := h.2; omega)
  have Wt0_14 := hg14.cell Wt0_13 (show ¬ From (w6.heap.size) (w7.heap.size) (w3.heap.size) from fun h => by have h1 := h.1; have h2 := h.2; omega)
  have Wt1_14 := hg14.cell Wt1_13 (show ¬ From (w6.heap.size) (w7.heap.size) (w3.heap.size) from fun h => by have h1 := h.1; have h2 := h.2; omega)
  have X00_14 := hg14.cell X00_13 (show ¬ From (w6.heap.size) (w7.heap.size) (w5.heap.size) from fun h => by have h1 := h.1; have h2 := h.2; omega)
  have X01_14 := hg14.cell X01_13 (show ¬ From (w6.heap.size) (w7.heap.size) (w5.heap.size) from fun h => by have h1 := h.1; have h2 := h.2; omega)
  have Gt0_14 := hg14.cell Gt0_13 (show ¬ From (w6.heap.size) (w7.heap.size) (w7.heap.size) from fun h => by have h1 := h.1; have h2 := h.2; omega)
  have Gt1_14 := hg14.cell Gt1_13 (show ¬ From (w6.heap.size) (w7.heap.size) (w7.heap.size) from fun h => by have h1 := h.1; have h2 := h.2; omega)
  have oo_14 := Hid.mk (OwnT.apartW oo_13.out (Off.apart hg14) (by omega))
  have B_14 := B_13.trans (hg14.toBelow (by omega) B_13.size)
  have zz14 : w13.heap.size ≤ w14.heap.size := hg14.size
  clear p00_13 p01_13 Wt0_13 Wt1_13 X00_13 X01_13 Gt0_13 Gt1_13 oo_13 og_13 B_13
  clear hg14
  have gpos : ¬ (1 : Int) + (wtot ta na : Nat) < 0 := by omega
  go_wp2_with fail
  refine (heldTableG _ _ _ ta pa 1 _ hsA (by omega) (by omega) (og_14.out.atMark hsA)).mono ?_
  rintro e w15 ⟨rfl, hb15⟩
  have p00_15 := cell_later hb15 p00_14
  have p01_15 := cell_later hb15 p01_14
  have Wt0_15 := cell_later hb15 Wt0_14
  have Wt1_15 := cell_later hb15 Wt1_14
  have X00_15 := cell_later hb15 X00_14
  have X01_15 := cell_later hb15 X01_14
  have Gt0_15 := cell_later hb15 Gt0_14
  have Gt1_15 := cell_later hb15 Gt1_14
  have oo_15 := Hid.mk (OwnT.below oo_14.out hb15)
  have og_15 := Hid.mk (OwnT.below og_14.out hb15)
  have B_15 := B_14.trans (hb15.mono B_14.size)
  have zz15 : w14.heap.size ≤ w15.heap.size := hb15.size
  clear p00_14 p01_14 Wt0_14 Wt1_14 X00_14 X01_14 Gt0_14 Gt1_14 oo_14 og_14 B_14
  clear hb15
  go_wp2_with fail
  refine (toTableau_any p0 a0 n0 c0 z0 _ HSM0.out (AtS.below HA0.out B_15)).mono ?_
  rintro e w16 ⟨g16, rfl, ho16, hb16⟩
  have oh0_16 := Hid.mk ho16
  clear ho16
  have p00_16 := cell_later hb16 p00_15
  have p01_16 := cell_later hb16 p01_15
  have Wt0_16 := cell_later hb16 Wt0_15
  have Wt1_16 := cell_later hb16 Wt1_15
  have X00_16 := cell_later hb16 X00_15
  have X01_16 := cell_later hb16 X01_15
  have Gt0_16 := cell_later hb16 Gt0_15
  have Gt1_16 := cell_later hb16 Gt1_15
  have oo_16 := Hid.mk (OwnT.below oo_15.out hb16)
  have og_16 := Hid.mk (OwnT.below og_15.out hb16)
  have B_16 := B_15.trans (hb16.mono B_15.size)
  have zz16 : w15.heap.size ≤ w16.heap.size := hb16.size
  clear p00_15 p01_15 Wt0_15 Wt1_15 X00_15 X01_15 Gt0_15 Gt1_15 oo_15 og_15 B_15
  clear hb16
  go_wp2_with fail
  refine (HI.out _ _ _ oh0_16.out).mono ?_
  rintro e w17 ⟨⟨r17, m17, d17, cs17, rfl, ho17⟩, hb17⟩
  clear oh0_16
  have ow17 : OwnT w17 (w16.heap.size) w17.heap.size r17 m17 d17 ta := ⟨cs17, ho17⟩
  obtain rfl : na = m17 := HNA.out.symm.trans ow17.len
  have ohg_17 := Hid.mk ow17
  clear ho17 ow17
  have p00_17 := cell_later hb17 p00_16
  have p01_17 := cell_later hb17 p01_16
  have Wt0_17 := cell_later hb17 Wt0_16
  have Wt1_17 := cell_later hb17 Wt1_16
  have X00_17 := cell_later hb17 X00_16
  have X01_17 := cell_later hb17 X01_16
  have Gt0_17 := cell_later hb17 Gt0_16
  have Gt1_17 := cell_later hb17 Gt1_16
  have oo_17 := Hid.mk (OwnT.below oo_16.out hb17)
  have og_17 := Hid.mk (OwnT.below og_16.out hb17)
  have B_17 := B_16.trans (hb17.mono B_16.size)
  have zz17 : w16.heap.size ≤ w17.heap.size := hb17.size
  clear p00_16 p01_16 Wt0_16 Wt1_16 X00_16 X01_16 Gt0_16 Gt1_16 oo_16 og_16 B_16
  clear hb17
  obtain ⟨w18, hU18⟩ : ∃ u, u = w17.alloc (.cells #[.int .i64 pa, .slice r17 na d17] 25) := ⟨_, rfl⟩
  have hb18 : Below w17.heap.size w17 w18 := by rw [hU18]; exact (Below.refl _ _).alloc (Nat.le_refl _) _
  have zl18 : w17.heap.size < w18.heap.size := by rw [hU18]; simp
  have nHt0 : w18.cell? ⟨w17.heap.size, 0, none⟩ = some (.int .i64 pa) := by rw [hU18]; simp
  have nHt1 : w18.cell? ⟨w17.heap.size, 1, none⟩ = some (.slice r17 na d17) := by rw [hU18]; simp
  have p00_18 := cell_later hb18 p00_17
  have p01_18 := cell_later hb18 p01_17
  have Wt0_18 := cell_later hb18 Wt0_17
  have Wt1_18 := cell_later hb18 Wt1_17
  have X00_18 := cell_later hb18 X00_17
  have X01_18 := cell_later hb18 X01_17
  have Gt0_18 := cell_later hb18 Gt0_17
  have Gt1_18 := cell_later hb18 Gt1_17
  have oo_18 := Hid.mk (OwnT.below oo_17.out hb18)
  have og_18 := Hid.mk (OwnT.below og_17.out hb18)
  have ohg_18 := Hid.mk (OwnT.below ohg_17.out hb18)
  have B_18 := B_17.trans (hb18.mono B_17.size)
  have zz18 : w17.heap.size ≤ w18.heap.size := hb18.size
  clear p00_17 p01_17 Wt0_17 Wt1_17 X00_17 X01_17 Gt0_17 Gt1_17 oo_17 og_17 ohg_17 B_17
  clear hb18
  have xp00 := p00_18
  rw [hU18] at xp00
  have xp01 := p01_18
  rw [hU18] at xp01
  have xWt0 := Wt0_18
  rw [hU18] at xWt0
  have xWt1 := Wt1_18
  rw [hU18] at xWt1
  have xX00 := X00_18
  rw [hU18] at xX00
  have xX01 := X01_18
  rw [hU18] at xX01
  have xGt0 := Gt0_18
  rw [hU18] at xGt0
  have xGt1 := Gt1_18
  rw [hU18] at xGt1
  have xHt0 := nHt0
  rw [hU18] at xHt0
  have xHt1 := nHt1
  rw [hU18] at xHt1
  go_wp2_with fail
  rw [← hU18]
  clear hU18
  clear xp00 xp01 xWt0 xWt1 xX00 xX01 xGt0 xGt1 xHt0 xHt1
  refine (eqTableG _ _ _ _ _ ta pa _ hsA (ohg_18.out.atW hsA) (oo_18.out.atW hsA)).mono ?_
  rintro e w19 ⟨rfl, hb19⟩
  have p00_19 := cell_later hb19 p00_18
  have p01_19 := cell_later hb19 p01_18
  have Wt0_19 := cell_later hb19 Wt0_18
  have Wt1_19 := cell_later hb19 Wt1_18
  have X00_19 := cell_later hb19 X00_18
  have X01_19 := cell_later hb19 X01_18
  have Gt0_19 := cell_later hb19 Gt0_18
  have Gt1_19 := cell_later hb19 Gt1_18
  have Ht0_19 := cell_later hb19 nHt0
  have Ht1_19 := cell_later hb19 nHt1
  have oo_19 := Hid.mk (OwnT.below oo_18.out hb19)
  have og_19 := Hid.mk (OwnT.below og_18.out hb19)
  have ohg_19 := Hid.mk (OwnT.below ohg_18.out hb19)
  have B_19 := B_18.trans (hb19.mono B_18.size)
  have zz19 : w18.heap.size ≤ w19.heap.size := hb19.size
  clear p00_18 p01_18 Wt0_18 Wt1_18 X00_18 X01_18 Gt0_18 Gt1_18 nHt0 nHt1 oo_18 og_18 ohg_18 B_18
  clear hb19
  go_wp2_with fail
  refine (heldTableG _ _ _ ta pa 1 _ hsA (by omega) (by omega) (og_19.out.atMark hsA)).mono ?_
  rintro e w20 ⟨rfl, hb20⟩
  have p00_20 := cell_later hb20 p00_19
  have p01_20 := cell_later hb20 p01_19
  have Wt0_20 := cell_later hb20 Wt0_19
  have Wt1_20 := cell_later hb20 Wt1_19
  have X00_20 := cell_later hb20 X00_19
  have X01_20 := cell_later hb20 X01_19
  have Gt0_20 := cell_later hb20 Gt0_19
  have Gt1_20 := cell_later hb20 Gt1_19
  have Ht0_20 := cell_later hb20 Ht0_19
  have Ht1_20 := cell_later hb20 Ht1_19
  have oo_20 := Hid.mk (OwnT.below oo_19.out hb20)
  have og_20 := Hid.mk (OwnT.below og_19.out hb20)
  have ohg_20 := Hid.mk (OwnT.below ohg_19.out hb20)
  have B_20 := B_19.trans (hb20.mono B_19.size)
  have zz20 : w19.heap.size ≤ w20.heap.size := hb20.size
  clear p00_19 p01_19 Wt0_19 Wt1_19 X00_19 X01_19 Gt0_19 Gt1_19 Ht0_19 Ht1_19 oo_19 og_19 ohg_19 B_19
  clear hb20
  go_wp2
  go_ret
  exact ⟨rfl, B_20⟩

end Go.Proofs.Ythiabjkjpjmahaa

/- Opening the laws' arguments: rows, slices of ints; plain facts on readings. -/
namespace Go.Proofs.Ythiabjkjpjmahaa
open Go.ChangeShapes Go.WideShapes Go.ChangeAt Go.RowKit Go.Joins Go.Deep

section
variable {H : Type} {enc : TypeId × Value → H} {P : Program} {w : World} {base : Nat} {spare : Nat → Bool} {held : Bool}

theorem array1 {α : Type} {cs : Array α} (h : cs.size = 1) : ∃ c0, cs = #[c0] := by
  obtain ⟨l⟩ := cs
  match l, h with
  | [c0], _ => exact ⟨c0, rfl⟩

theorem open_agg1 {r : Reach} {b0 : Nat} {t : TypeId} {f0 : Field} {v : Value} {d : DataW H} {p : List MemPlace} (hs : P.underlying t = some (.struct #[f0])) (hone : oneCellFields P #[f0] = true) (hC : P.cellsOf t = 1)
    (hv : Value.okWide P w r b0 t v) (h : DataW.Trod enc P w base spare held t v d p) :
    ∃ (v0 : Value) (y0 : DataW H × List MemPlace) (n : Nat), v = .agg #[v0] ∧ d = .agg [y0.1] ∧ p = y0.2 ∧ DataW.trod enc P w base spare held n f0.type [v0] = some y0 := by
  obtain ⟨cs, rfl, hsz⟩ := okWide_struct hs hv
  obtain ⟨c0, rfl⟩ := array1 (hsz.trans hC)
  obtain ⟨fuel, hf⟩ := h
  obtain ⟨y0, n, hx, _, h0⟩ := trod_struct1 hs hf
  obtain ⟨o0, k0⟩ := hone_of hone 0 f0 rfl
  simp only [Prod.mk.injEq] at hx
  exact ⟨c0, y0, n, rfl, hx.1, hx.2, by simpa [Value.cells, o0, k0] using h0⟩

/-- A slice of ints that reads: its numbers. -/
theorem open_at {t e : TypeId} {fuel n c : Nat} {a : Option Addr} {x : DataW H × List MemPlace} (ht : P.underlying t = some (.slice e)) (he : P.underlying e = some (.int .i64)) (hC : P.cellsOf e = 1)
    (h : DataW.trod enc P w base spare held fuel t [.slice a n c] = some x) : ∃ zs : List Int, zs.length = n ∧ n ≤ 9223372036854775807 ∧ At w a zs := by
  rcases open_ints ht he hC h with ⟨hcs, _⟩ | ⟨ad, l, c', zs, hcs, _, hl, hm, hz, _, hcell, _⟩
  · simp at hcs
    obtain ⟨rfl, rfl, rfl⟩ := hcs
    exact ⟨[], rfl, by omega, At.nil _ _⟩
  · simp at hcs
    obtain ⟨rfl, rfl, rfl⟩ := hcs
    unfold maxLen at hm
    have hz' : n ≤ zs.length := by split at hz <;> omega
    refine ⟨zs.take n, by simp; omega, by omega, ?_⟩
    by_cases h0 : n = 0
    · left; simp [h0]
    · right
      obtain ⟨b, off, spot⟩ := ad
      have hc := hcell 0 (by omega)
      have hspot : spot = none := by simpa [Addr.add] using World.cell?_spot hc
      subst hspot
      refine ⟨b, off, rfl, fun i hi => ?_⟩
      have hin : i < n := by simp at hi; omega
      have := hcell i (by omega)
      rw [show (zs.take n).getD i 0 = zs.getD i 0 by simp [List.getD, hin]]
      rw [Addr.add_lit] at this
      exact this

/-- A struct of one slice of ints, by value. -/
theorem open_row {r : Reach} {b0 : Nat} {t ts e : TypeId} {f0 : Field} {v : Value} {d : DataW H} {p : List MemPlace} (hs : P.underlying t = some (.struct #[f0])) (hf0 : f0.type = ts) (hone : oneCellFields P #[f0] = true) (hC : P.cellsOf t = 1)
    (ht : P.underlying ts = some (.slice e)) (he : P.underlying e = some (.int .i64)) (hCe : P.cellsOf e = 1)
    (hv : Value.okWide P w r b0 t v) (h : DataW.Trod enc P w base spare held t v d p) : ∃ a n c, v = .agg #[.slice a n c] ∧ ∃ zs : List Int, zs.length = n ∧ n ≤ 9223372036854775807 ∧ At w a zs := by
  obtain ⟨v0, y0, m, rfl, _, _, h0⟩ := open_agg1 hs hone hC hv h
  subst hf0
  obtain ⟨a, n, c, hcs⟩ := slice_form ht h0
  obtain rfl : v0 = .slice a n c := by simpa using hcs
  exact ⟨a, n, c, rfl, open_at ht he hCe h0⟩
end

end Go.Proofs.Ythiabjkjpjmahaa
