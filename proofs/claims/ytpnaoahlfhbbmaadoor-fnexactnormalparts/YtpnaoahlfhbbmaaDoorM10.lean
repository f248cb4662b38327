/- Several texts of one proof, in build order: NpS, KeyS, TzI, KeyO. -/
import Derived.Test.YtpnaoahlfhbbmaaDoorM8
import Derived.Test.YtpnaoahlfhbbmaaDoorM9
import Derived.Test.YtpnaoahlfhbbmaaDoorM7
import Derived.Test.YtpnaoahlfhbbmaaDoorM4
import Derived.Lib.TrailingZeros
import Derived.Lib.LaidTab

/- Contract of the model's l8Step. -/
namespace Go.Proofs.YtpnaoahlfhbbmaaDoor
open Go.RowKit

/-- What a step tells: nothing splits, or one part was split. -/
def StepRet (D : List (Nat × Nat)) (e : Ending) (w w' : World) (F : Nat → Prop) (g pn pd : Nat) (ps : List Nat) : Prop :=
  ((∀ x ∈ ps, fsO D x = false) ∧ e = .returned (.tuple #[.slice (some ⟨g, 0, none⟩) pn pd, .bool false])) ∨
  ∃ i x g' d' cells' G', ps[i]? = some x ∧ fsO D x = true ∧ e = .returned (.tuple #[.slice (some ⟨g', 0, none⟩) (pn + 1) d', .bool true]) ∧
    Laid RInts w' (fun b => F b ∨ From w.heap.size w'.heap.size b) 23 (some ⟨g', 0, none⟩) (pn + 1) d' ((ps.take i ++ [fsA D x, fsB D x] ++ ps.drop (i + 1)).map bl) cells' G' (pn + 1)

set_option maxRecDepth 100000 in
set_option maxHeartbeats 16000000 in
theorem l8Step_any (a : Option Addr) (n c : Nat) (xs : List Dep) (g pn pd : Nat) (F : Nat → Prop) (ps : List Nat) (cells : List Value) (G : Nat → Nat → Prop) (w : World) (hz : xs.length = n) (hn : n ≤ 1048576) (hs : Tolds xs) (ha : AtD w a xs)
    (hpn : pn ≤ 4096) (hps : ∀ x ∈ ps, x < 64) (hlaid : Laid RInts w F 23 (some ⟨g, 0, none⟩) pn pd (ps.map bl) cells G pn) (hF : ∀ b, F b → b < w.heap.size) :
    Calls Tryd.prog 34 #[.slice a n c, .slice (some ⟨g, 0, none⟩) pn pd] w fun e w' => StepRet (dms xs) e w w' F g pn pd ps ∧ Below w.heap.size w w' := by
  obtain ⟨k0, hk, hx0, hx1, hx2⟩ := info_parts Tryd.infoInts
  have HZ := Hid.mk hz
  have HS := Hid.mk hs
  have HA := Hid.mk ha
  have HPS := Hid.mk hps
  have HLA := Hid.mk hlaid
  have HF := Hid.mk hF
  have hpl : ps.length = pn := by have := hlaid.len; simpa using this
  have HPL := Hid.mk hpl
  have hcap : pn ≤ pd := by
    rcases hlaid.outer.2 with ⟨hv, _⟩ | ⟨g9, cap, cur, hv, _, _, h4, _⟩
    · cases hv
    · simp only [Value.slice.injEq, true_and] at hv; omega
  clear hz hs ha hps hlaid hF hpl
  go_enter Tryd.func34, Tryd.ntmps34
  go_wp2_with fail
  go_loopw [15] (fun i wx => ∃ (k : Nat), k ≤ pn ∧ i = .int .i64 k ∧ (∀ j x, j < k → ps[j]? = some x → fsO (dms xs) x = false) ∧ Below w.heap.size w wx) (fun i _ => pn - (intOf i).toNat)
  case atStart => exact ⟨0, Nat.zero_le _, rfl, fun j x h => by omega, Below.refl _ _⟩
  case round =>
    obtain ⟨k, hkp, rfl, hno, hbw⟩ := hrel
    by_cases hlt : k < pn
    · obtain ⟨x, hx⟩ : ∃ x, ps[k]? = some x := ⟨_, List.getElem?_eq_getElem (by have := HPL.out; omega)⟩
      have hx64 := HPS.out x (List.mem_of_getElem? hx)
      obtain ⟨sa, sn, sc, hcx, hos⟩ := laidI_row (HLA.out.below hbw) (i := k) (x := bl x) (by rw [List.getElem?_map, hx]; rfl)
      obtain ⟨s1, s2, s3, s4⟩ := RInts.at_iff.1 (RInts.toAt hos)
      have hsn6 : sn ≤ 6 := by rw [← s1]; exact bl_len x
      have hki : (k : Int) < (pn : Int) := by omega
      have K := Hid.mk (l8Lists_any sa sn sc (bl x) wr s1 hsn6 s3)
      rw [lists_ord (told_bl hx64) s1, mk_blP x hx64] at K
      have HX := Hid.mk hx
      have HNO := Hid.mk hno
      have HB := Hid.mk hbw
      have HSA := Hid.mk s3
      have HSN := Hid.mk s1
      clear hx hno hbw hos s1 s3 s4
      go_wp2_with fail
      refine K.out.mono ?_
      rintro e w1 ⟨r1, M, d1, rfl, ho1, hb1⟩
      obtain ⟨hM, _⟩ := pairs_at ho1
      rw [List.length_map] at hM
      have hM64 : M ≤ 64 := by rw [← hM]; exact ordP_len_all _ hx64
      have HM := Hid.mk hM
      have HO1 := Hid.mk ho1
      have HB1 := Hid.mk (HB.out.trans (hb1.mono HB.out.size))
      have HSA1 := Hid.mk (At.below HSA.out hb1)
      clear hM ho1 hb1 K HSA HB hcx
      go_wp2_with fail
      go_loopw [23] (fun i wx => ∃ (t : Nat), t ≤ M ∧ i = .int .i64 t ∧ fsp (dms xs) x = ((ordP x).drop t).find? (spl (dms xs) x) ∧ Below w1.heap.size w1 wx) (fun i _ => M - (intOf i).toNat)
      case atStart => exact ⟨0, Nat.zero_le _, rfl, rfl, Below.refl _ _⟩
      case round =>
        obtain ⟨t, htM, rfl, hf, hbw⟩ := hrel
        by_cases htl : t < M
        · obtain ⟨S, hS⟩ : ∃ S, (ordP x)[t]? = some S := ⟨_, List.getElem?_eq_getElem (by have := HM.out; omega)⟩
          obtain ⟨b, off, fa, fn, fc, rfl, hcy, hfn, hfn1, hfa, hfx⟩ := atSl_pairK (pairs_at (RPairs.ownBelow HO1.out hbw)).2 (k := t) (zs := bl S) (by rw [List.getElem?_map, hS]; rfl)
          obtain ⟨hS64, hSP⟩ := ordP_mem (List.mem_of_getElem? hS)
          rw [find_drop hS] at hf
          have HFD := Hid.mk hf
          have hti : (t : Int) < (M : Int) := by omega
          have hB := HB1.out.trans (hbw.mono HB1.out.size)
          have HFA := Hid.mk hfa
          have HFN := Hid.mk hfn
          have HFX := Hid.mk hfx
          have K := Hid.mk (l8Splits_any a n c xs sa sn sc (bl x) fa fn fc (bl S) wr HZ.out hn HS.out (AtSl.below HA.out hB) (told_bl hx64) HSN.out (At.below HSA1.out hbw) (told_bl hS64) hfn hfa hfx (by rw [mk_blP S hS64, mk_blP x hx64]; exact hSP))
          rw [mk_blP S hS64, mk_blP x hx64] at K
          have HBW := Hid.mk hbw
          have HBB := Hid.mk hB
          clear hf hbw hS hB hfa hfn hfx
          go_wp2_with fail
          refine K.out.mono ?_
          rintro e w2 ⟨rfl, _, hb2⟩
          have HBW2 := Hid.mk (HBW.out.trans (hb2.mono HBW.out.size))
          have HBB2 := Hid.mk (HBB.out.trans (hb2.mono HBB.out.size))
          have HFA2 := Hid.mk (At.below HFA.out hb2)
          clear hb2 K HBW HBB HFA
          cases hsp : spOk (told xs S) x S with
          | false =>
            have HF2 : Hid (fsp (dms xs) x = ((ordP x).drop (t + 1)).find? (spl (dms xs) x)) := by
              show _ = _
              rw [HFD.out, if_neg (by unfold spl; rw [hsp]; simp)]
            go_wp2
            go_roundw
            case rel => exact ⟨t + 1, by omega, by go_num, HF2.out, HBW2.out⟩
            case measure => simp [intOf]; omega
          | true =>
            have hfs : fsp (dms xs) x = some S := by rw [HFD.out, if_pos (by unfold spl; rw [hsp])]
            have HFO : Hid (fsO (dms xs) x = true) := by show _ = _; unfold fsO; rw [hfs]; rfl
            have HAA : Hid (told xs S &&& x = fsA (dms xs) x) := by show _ = _; unfold fsA; rw [hfs]
            have HBB' : Hid (S ||| dif x (told xs S) = fsB (dms xs) x) := by show _ = _; unfold fsB; rw [hfs]
            have K5 := Hid.mk (l8Split_any a n c xs sa sn sc (bl x) fa fn fc (bl S) w2 HZ.out hn HS.out (AtSl.below HA.out HBB2.out) (told_bl hx64) HSN.out (At.below HSA1.out HBW2.out) (told_bl hS64) HFN.out HFA2.out HFX.out (by rw [mk_blP S hS64, mk_blP x hx64]; exact hSP))
            rw [mk_blP S hS64, mk_blP x hx64, HAA.out, HBB'.out] at K5
            clear hfs
            go_wp2_with fail
            refine K5.out.mono ?_
            rintro e w3 ⟨r5, m5, d5, r6, m6, d6, mid, rfl, hm1, hm2, ho5, ho6, hb3⟩
            have HB3 := Hid.mk (HBB2.out.trans (hb3.mono HBB2.out.size))
            have z2 := HBB2.out.size
            have z3 := hb3.size
            have HO5 := Hid.mk ho5
            have HO6 := Hid.mk ho6
            have HLA3 := Hid.mk (HLA.out.below HB3.out)
            have hcl : cells.length = pn := by have := HLA.out.outer.1; simpa [RInts, Rep.slice] using this
            have HCL := Hid.mk hcl
            obtain ⟨fA, hfA⟩ : ∃ A, fsA (dms xs) x = A := ⟨_, rfl⟩
            obtain ⟨fB, hfB⟩ : ∃ B, fsB (dms xs) x = B := ⟨_, rfl⟩
            have HfA := Hid.mk hfA
            have HfB := Hid.mk hfB
            rw [hfA] at HO5
            rw [hfB] at HO6
            have HCELL : Hid (∀ j, j < pn → w3.cell? ⟨g, j, none⟩ = cells[j]?) := fun j hj => HLA3.out.outer.cellAt j (by show j < pn * 1; omega)
            have HONE : Hid (∀ u ∈ cells, u.oneCell' = true) := fun u hu => by
              obtain ⟨j, hj, rfl⟩ := List.getElem_of_mem hu
              obtain ⟨y, hy⟩ : ∃ y, (ps.map bl)[j]? = some y := ⟨_, List.getElem?_eq_getElem (by simp; have := HPL.out; omega)⟩
              obtain ⟨oa, on, oc, c5, _⟩ := laidI_row HLA3.out hy
              have c6 := HCELL.out j (by omega)
              rw [c5, List.getElem?_eq_getElem hj] at c6
              rw [← Option.some.inj c6]; rfl
            clear ho5 ho6 hb3 hcl hfA hfB K5 hcy
            have hkd : (k : Int) ≤ (pd : Int) := by omega
            have hwk : IntKind.i64.wrap ((k : Int) + 1) = ((k + 1 : Nat) : Int) := by rw [IntWalk.i64_in _ (by omega)]; omega
            have hkd1 : ((k + 1 : Nat) : Int) ≤ (pn : Int) := by omega
            have HAT1 : Hid (∀ ad, some (⟨g, 0, none⟩ : Addr) = some ad → ∀ (j : Nat) (u : Value), (cells.take k)[j]? = some u → w3.cell? (ad.add j) = some u) := fun ad he j u hu => by
              obtain rfl := Option.some.inj he
              have hj : j < k := by have := (List.getElem?_eq_some_iff.1 hu).1; rw [List.length_take] at this; omega
              rw [Addr.add_lit, Nat.zero_add, HCELL.out j (by omega)]
              rw [List.getElem?_take_of_lt hj] at hu
              exact hu
            have HLT1 : Hid ((cells.take k).length = k * 1) := by show _ = _; rw [List.length_take, HCL.out]; omega
            go_wp2_with (at_builtin; refine wpList_app_vals rfl (.tmp 39) (.tmp 42) 33 rfl w3.heap.size 23 k0 (.slice none 0 0) 1 24 Tryd.underlying33 hk hx0 hx1 hx2 rfl (by decide) (.slice none 0 0) 0 [] rfl (World.ownsRow_nil _ _ _ _) (some ⟨g, 0, none⟩) k pd (cells.take k) rfl HLT1.out HAT1.out (fun u hu => HONE.out u (List.mem_of_mem_take hu)) (fun h => by cases h) (by unfold maxLen; omega) (by omega) (Nat.le_refl _) ?_)
            intro r7 d7 w7 ho7 hg7 ht7
            (try rw [Nat.zero_add] at ho7)
            (try rw [List.nil_append] at ho7)
            have hb7 : Below w3.heap.size w3 w7 := (Below.refl _ _).grown hg7 (Nat.le_refl _) (fun j hj => by cases hj)
            have z7 := hb7.size
            have HO7 := Hid.mk ho7
            have HB7 := Hid.mk hb7
            clear ho7 hg7 ht7 hb7
            go_wp2_with (at_builtin; refine wpList_app_vals rfl (.tmp 44) (.tmp 47) 33 rfl w3.heap.size 23 k0 (.slice none 0 0) 1 24 Tryd.underlying33 hk hx0 hx1 hx2 rfl (by decide) (.slice r7 k d7) k (cells.take k) rfl (HO7.out.alloc _) (some ⟨w7.heap.size, 0, none⟩) 2 2 [.slice r5 m5 d5, .slice r6 m6 d6] rfl rfl (fun ad he => by cases he; simpa using news_at w7 #[.slice r5 m5 d5, .slice r6 m6 d6] 23) (by simp [Value.oneCell']) (fun h => by cases h) (by unfold maxLen; omega) (by omega) (by simp; omega) ?_)
            intro r8 d8 w8 ho8 hg8 ht8
            have hb8 : Below w3.heap.size w3 w8 := (HB7.out.alloc z7 _).grown hg8 (by simp; omega) (fun j hj => (HO7.out.lt j hj).1)
            have z8 := hb8.size
            have HO8 := Hid.mk ho8
            have HB8 := Hid.mk hb8
            clear ho8 hg8 ht8 hb8 HO7 HB7
            have FIN : Hid (∀ r9 d9 w9, w9.ownsRow w3.heap.size 23 1 (.slice r9 (k + 2 + (pn - (k + 1))) d9) (k + 2 + (pn - (k + 1))) (cells.take k ++ [.slice r5 m5 d5, .slice r6 m6 d6] ++ cells.drop (k + 1)) → w8.grownBy w9 (Value.slice r8 (k + 2) d8).ownBlock →
                StepRet (dms xs) (.returned (.tuple #[.slice r9 (k + 2 + (pn - (k + 1))) d9, .bool true])) w w9 F g pn pd ps ∧ Below w.heap.size w w9) := fun r9 d9 w9 ho9 hg9 => by
              have hb9 : Below w3.heap.size w3 w9 := HB8.out.grown hg9 z8 (fun j hj => (HO8.out.lt j hj).1)
              rw [show k + 2 + (pn - (k + 1)) = pn + 1 by omega] at ho9 ⊢
              refine ⟨?_, HB3.out.trans (hb9.mono HB3.out.size)⟩
              obtain ⟨g9, hg9'⟩ : ∃ g9, r9 = some ⟨g9, 0, none⟩ := by
                rcases ho9.2 with ⟨_, h1⟩ | ⟨g9, cap, cur, hv, _⟩
                · omega
                · simp only [Value.slice.injEq, true_and] at hv
                  exact ⟨g9, hv.1⟩
              subst hg9'
              have hl9 := ho9.lt
              have hsp := Laid.splitAt (HLA3.out.below hb9) (i := k) (by omega) (RInts.ownBelow HO5.out hb9) (RInts.ownBelow HO6.out hb9) (HA := From mid w3.heap.size) (HB := From w2.heap.size mid)
                (fun b h1 h2 => by have h3 := HF.out b h1; have h4 := h2.1; omega) (fun b h1 h2 => by have h3 := HF.out b h1; have h4 := h2.1; omega) (fun b h1 h2 => by have h3 := h1.1; have h4 := h2.2; omega)
                (owns_mono ho9 (Nat.zero_le _)) (by omega) (fun b hb => by
                  have h5 := (hl9 b hb).1
                  exact ⟨fun h => by have := HF.out b h; omega, fun h => by have := h.2; omega, fun h => by have := h.2; omega⟩)
                (F' := fun b => F b ∨ From w.heap.size w9.heap.size b) (fun b h => .inl h) (fun b h => .inr ⟨by have := h.1; omega, by have := h.2; have := hb9.size; omega⟩) (fun b h => .inr ⟨by have := h.1; omega, by have := h.2; have := hb9.size; omega⟩) (fun b h => .inr ⟨by have := (hl9 b h).1; omega, (hl9 b h).2⟩)
              have e9 : (ps.map bl).take k ++ [bl fA, bl fB] ++ (ps.map bl).drop (k + 1) = (ps.take k ++ [fsA (dms xs) x, fsB (dms xs) x] ++ ps.drop (k + 1)).map bl := by rw [HfA.out, HfB.out]; simp [List.map_append, List.map_take, List.map_drop]
              rw [e9] at hsp
              exact .inr ⟨k, x, g9, d9, _, _, HX.out, HFO.out, rfl, hsp⟩
            have HLD : Hid ((cells.drop (k + 1)).length = (pn - (k + 1)) * 1) := by show _ = _; rw [List.length_drop, HCL.out]; omega
            have HCE8 : Hid (∀ j, j < pn → w8.cell? ⟨g, j, none⟩ = cells[j]?) := fun j hj => (HLA3.out.below HB8.out).outer.cellAt j (by show j < pn * 1; omega)
            by_cases hcd : pd = k + 1
            · have HAT2 : Hid (∀ ad, some (⟨g, 0, none⟩ : Addr) = some ad → ∀ (j : Nat) (u : Value), (cells.drop (k + 1))[j]? = some u → w8.cell? (ad.add j) = some u) := fun ad he j u hu => by
                have := (List.getElem?_eq_some_iff.1 hu).1
                rw [HLD.out] at this
                omega
              go_wp2_with (at_builtin; refine wpList_app_vals rfl (.tmp 49) (.tmp 53) 33 rfl w3.heap.size 23 k0 (.slice none 0 0) 1 24 Tryd.underlying33 hk hx0 hx1 hx2 rfl (by decide) (.slice r8 (k + 2) d8) (k + 2) (cells.take k ++ [.slice r5 m5 d5, .slice r6 m6 d6]) rfl HO8.out (some ⟨g, 0, none⟩) (pn - (k + 1)) _ (cells.drop (k + 1)) rfl HLD.out HAT2.out (fun u hu => HONE.out u (List.mem_of_mem_drop hu)) (fun h => by cases h) (by unfold maxLen; omega) (by omega) z8 ?_)
              intro r9 d9 w9 ho9 hg9 ht9
              have HFIN := Hid.mk (FIN.out r9 d9 w9 (by simpa using ho9) hg9)
              clear ho9 hg9 ht9 FIN
              go_wp2
              exact bodyPost_ret (v := .tuple #[.slice r9 (k + 2 + (pn - (k + 1))) d9, .bool true]) (by simp [results, Tryd.results34, go_sem]) rfl HFIN.out
            · have HAT2 : Hid (∀ ad, some (⟨g, k + 1, none⟩ : Addr) = some ad → ∀ (j : Nat) (u : Value), (cells.drop (k + 1))[j]? = some u → w8.cell? (ad.add j) = some u) := fun ad he j u hu => by
                obtain rfl := Option.some.inj he
                have hj := (List.getElem?_eq_some_iff.1 hu).1
                rw [HLD.out] at hj
                rw [Addr.add_lit, HCE8.out _ (by omega)]
                rw [List.getElem?_drop] at hu
                exact hu
              go_wp2_with (at_builtin; refine wpList_app_vals rfl (.tmp 49) (.tmp 53) 33 rfl w3.heap.size 23 k0 (.slice none 0 0) 1 24 Tryd.underlying33 hk hx0 hx1 hx2 rfl (by decide) (.slice r8 (k + 2) d8) (k + 2) (cells.take k ++ [.slice r5 m5 d5, .slice r6 m6 d6]) rfl HO8.out (some ⟨g, k + 1, none⟩) (pn - (k + 1)) _ (cells.drop (k + 1)) rfl HLD.out HAT2.out (fun u hu => HONE.out u (List.mem_of_mem_drop hu)) (fun h => by cases h) (by unfold maxLen; omega) (by omega) z8 ?_)
              intro r9 d9 w9 ho9 hg9 ht9
              have HFIN := Hid.mk (FIN.out r9 d9 w9 (by simpa using ho9) hg9)
              clear ho9 hg9 ht9 FIN
              go_wp2
              exact bodyPost_ret (v := .tuple #[.slice r9 (k + 2 + (pn - (k + 1))) d9, .bool true]) (by simp [results, Tryd.results34, go_sem]) rfl HFIN.out
        · obtain rfl : t = M := by omega
          have hti : ¬ (t : Int) < (t : Int) := by omega
          rw [find_done (by have := HM.out; omega)] at hf
          have HN2 : Hid (∀ j y, j < k + 1 → ps[j]? = some y → fsO (dms xs) y = false) := fun j y hj hy => by
            by_cases e : j < k
            · exact HNO.out j y e hy
            · obtain rfl : j = k := by omega
              obtain rfl : x = y := by have h9 := HX.out; rw [hy] at h9; exact (Option.some.inj h9).symm
              unfold fsO; rw [hf]; rfl
          have HBB := Hid.mk (HB1.out.trans (hbw.mono HB1.out.size))
          clear hf hbw
          go_wp2
          go_roundw
          case rel => exact ⟨k + 1, by omega, by go_num, HN2.out, HBB.out⟩
          case measure => simp [intOf]; omega
    · obtain rfl : k = pn := by omega
      have hki : ¬ (k : Int) < (k : Int) := by omega
      have HR : Hid (StepRet (dms xs) (.returned (.tuple #[.slice (some ⟨g, 0, none⟩) k pd, .bool false])) w wr F g k pd ps) := .inl ⟨fun x hx => by
        obtain ⟨j, hj, rfl⟩ := List.getElem_of_mem hx
        exact hno j _ (by have := HPL.out; omega) (List.getElem?_eq_getElem hj), rfl⟩
      clear hno
      go_wp2
      exact bodyPost_ret (v := .tuple #[.slice (some ⟨g, 0, none⟩) k pd, .bool false]) (by simp [results, Tryd.results34, go_sem]) rfl ⟨HR.out, hbw⟩

end Go.Proofs.YtpnaoahlfhbbmaaDoor

/- Contracts of the model's l7Keys and KeysOf. -/
namespace Go.Proofs.YtpnaoahlfhbbmaaDoor
open Go.RowKit

/-- Lists of columns, and whether. -/
def KeysRet (e : Ending) (w' : World) (lo : Nat) (ok : Bool) (zss : List (List Int)) : Prop := ∃ r m d, e = .returned (.tuple #[.slice r m d, .bool ok]) ∧ RPairs.Own w' (From lo w'.heap.size) [.slice r m d] zss
theorem keysRet_none (w : World) (lo : Nat) {ok : Bool} {ds : List (List Int)} (h1 : ok = false) (h2 : ds = []) : KeysRet (.returned (.tuple #[.slice none 0 0, .bool false])) w lo ok ds := by
  subst h1 h2
  exact ⟨none, 0, 0, rfl, none, 0, 0, [], _, rfl, Laid.none _ _ _ _⟩
noncomputable def keyL (xs : List Dep) (C : Int) : List (List Int) := if goodDeps xs C then keysL (dms xs) C.toNat else []
theorem keyL_no {xs : List Dep} {C : Int} (h : goodDeps xs C = false) : keyL xs C = [] := by unfold keyL; rw [h]; rfl

end Go.Proofs.YtpnaoahlfhbbmaaDoor

/- Contracts of math/bits.TrailingZeros at sets of columns, and of columnSet.list. -/
namespace Go.Proofs.YtpnaoahlfhbbmaaDoor
open Go.RowKit

theorem TabIs.below {P : Program} {w w' : World} {name : String} {k : IntKind} {ns : List Int} (h : Lib.TabIs P w name k ns) (hb : Below w.heap.size w w') : Lib.TabIs P w' name k ns := by
  unfold Lib.TabIs World.var? at *
  cases hg : P.globalNamed name with
  | none => rw [hg] at h; cases h
  | some g =>
    rw [hg] at h
    simp only [Option.bind_some] at h ⊢
    have hlt : g < w.heap.size := by
      by_cases hl : g < w.heap.size
      · exact hl
      · rw [Array.getElem?_eq_none (by omega)] at h
        cases h
    rw [hb.block g hlt]
    exact h

/-- The table that TrailingZeros reads. -/
def deB : List Int := Lib.deBruijn64tab.map Int.ofNat
abbrev TabB (w : World) : Prop := Lib.TabIs Tryd.prog w "math/bits.deBruijn64tab" .u8 deB
theorem gTab : Tryd.prog.globalNamed "math/bits.deBruijn64tab" = some 1 := by kernel_rfl

/-- The first column of a set. -/
def tz (x : Nat) : Nat := ((List.range 6).find? (fun i => x.testBit i)).getD 0
def tzAt (x : Nat) : Nat := (x &&& (18446744073709551616 - x)) * 285870213051353865 % 18446744073709551616 / 288230376151711744
theorem tz_key : ∀ x : Nat, x < 64 → x ≠ 0 → tzAt x < 64 ∧ Lib.deBruijn64tab.getD (tzAt x) 0 = tz x ∧ tz x < 6 := by decide +kernel
theorem bl_step : ∀ x : Nat, x < 64 → x ≠ 0 → bl x = (tz x : Int) :: bl (x &&& (x - 1)) ∧ (x &&& (x - 1)) < x := by decide +kernel
theorem bl_zero : bl 0 = [] := by decide +kernel
theorem deB_at : ∀ i : Nat, i < 64 → deB.getD i 0 = (Lib.deBruijn64tab.getD i 0 : Nat) := by decide +kernel

theorem tz_wrap {x : Nat} (hx : x < 64) (h0 : x ≠ 0) :
    IntKind.u64.wrap (bits BinOp.and IntKind.u64 (x : Int) (IntKind.u64.wrap (-(x : Int))) * 285870213051353865) / 288230376151711744 = (tzAt x : Int) := by
  have e0 : ∀ n : Int, IntKind.u64.wrap n = n % 18446744073709551616 := fun n => by simp [IntKind.wrap, IntKind.bits, IntKind.signed]
  have e1 : IntKind.u64.wrap (-(x : Int)) = ((18446744073709551616 - x : Nat) : Int) := by rw [e0]; omega
  rw [e1, u64_and_nat x _ (by omega) (by omega), e0]
  unfold tzAt
  omega

set_option maxHeartbeats 1000000 in
theorem tz64_any (x : Nat) (w : World) (hx : x < 64) (h0 : x ≠ 0) (ht : TabB w) :
    Calls Tryd.prog 71 #[.int .u64 (x : Nat)] w fun e w' => e = .returned (.int .i64 (tz x : Nat)) ∧ w' = w := by
  obtain ⟨k1, k2, k3⟩ := tz_key x hx h0
  have key := tz_wrap hx h0
  have hc := Lib.TabIs.cell ht gTab (tzAt x) (by show tzAt x < 64; exact k1)
  rw [deB_at _ k1, k2] at hc
  have hb : ((x : Int) == 0) = false := beq_eq_false_iff_ne.2 (by omega)
  obtain ⟨I, hI⟩ : ∃ I, tzAt x = I := ⟨_, rfl⟩
  obtain ⟨Z, hZ⟩ : ∃ Z, tz x = Z := ⟨_, rfl⟩
  rw [hI] at key hc k1
  rw [hZ] at hc k3 ⊢
  clear ht k2 hI hZ
  go_enter Tryd.func71, Tryd.ntmps71
  go_wp2_with (simp only [key])
  go_ret
  exact ⟨rfl, rfl⟩

theorem tz_any (x : Nat) (w : World) (hx : x < 64) (h0 : x ≠ 0) (ht : TabB w) :
    Calls Tryd.prog 60 #[.int .u64 (x : Nat)] w fun e w' => e = .returned (.int .i64 (tz x : Nat)) ∧ w' = w := by
  have K := Hid.mk (tz64_any x w hx h0 ht)
  clear ht
  go_enter Tryd.func60, Tryd.ntmps60
  go_wp2_with fail
  refine K.out.mono ?_
  rintro e w1 ⟨rfl, rfl⟩
  go_wp2
  go_ret
  exact ⟨rfl, rfl⟩

set_option maxRecDepth 100000 in
set_option maxHeartbeats 2000000 in
theorem list_any (S : Nat) (w : World) (hS : S < 64) (ht : TabB w) :
    Calls Tryd.prog 46 #[.int .u64 (S : Nat)] w fun e w' => ∃ r m d, e = .returned (.slice r m d) ∧ (bl S).length = m ∧ w'.ownsRow w.heap.size 3 1 (.slice r m d) m ((bl S).map (.int .i64)) ∧ Below w.heap.size w w' := by
  obtain ⟨i0, hi, hz0, hz1, hz2⟩ := info_parts Tryd.infoInt
  have HT := Hid.mk ht
  clear ht
  go_enter Tryd.func46, Tryd.ntmps46
  go_wp2
  go_loopg [0, 3] S (fun g p q wr => ∃ (s : Nat) (zs : List Int) (r : Option Addr) (m d : Nat), s = g ∧ s < 64 ∧ p = .int .u64 (s : Nat) ∧ q = .slice r m d ∧ bl S = zs ++ bl s ∧ zs.length = m ∧ wr.ownsRow w.heap.size 3 1 (.slice r m d) m (zs.map (.int .i64)) ∧ Below w.heap.size w wr)
  case atStart => exact ⟨S, [], none, 0, 0, rfl, hS, rfl, rfl, rfl, rfl, World.ownsRow_nil _ _ _ _, Below.refl _ _⟩
  case round =>
    obtain ⟨s, zs, r, m, d, rfl, hs, rfl, rfl, hbl, hm, hown, hbw⟩ := hrel
    by_cases h0 : s = 0
    · have HB : Hid (bl S = zs) := by show _ = _; rw [hbl, h0, bl_zero, List.append_nil]
      have hsb : ((s : Int) != 0) = false := by rw [h0]; rfl
      have HO := Hid.mk hown
      have HM := Hid.mk hm
      clear hbl hown hm
      go_wp2
      go_ret
      exact ⟨r, m, d, rfl, by rw [HB.out]; exact HM.out, by rw [HB.out]; exact HO.out, hbw⟩
    · obtain ⟨b1, b2⟩ := bl_step s hs h0
      have hm6 : m ≤ 6 := by have h9 := bl_len S; rw [hbl, List.length_append] at h9; omega
      rw [b1] at hbl
      have hsb : ((s : Int) != 0) = true := bne_iff_ne.2 (by omega)
      have hsub : IntKind.u64.wrap ((s : Int) - 1) = ((s - 1 : Nat) : Int) := by
        rw [show (s : Int) - 1 = ((s - 1 : Nat) : Int) by omega]; exact wrap64_small (by omega)
      have hand := u64_and_nat s (s - 1) (by omega) (by omega)
      have K := Hid.mk (tz_any s wr hs h0 (TabIs.below HT.out hbw))
      obtain ⟨Z, hZ⟩ : ∃ Z, tz s = Z := ⟨_, rfl⟩
      obtain ⟨Q, hQ⟩ : ∃ Q, s &&& (s - 1) = Q := ⟨_, rfl⟩
      rw [hZ] at hbl K
      rw [hQ] at hbl hand b2
      have HBL := Hid.mk hbl
      have HM := Hid.mk hm
      have HO := Hid.mk hown
      have HB := Hid.mk hbw
      have z := hbw.size
      clear hbl hm hown hbw hZ hQ b1 h0
      go_wp2_with fail
      refine K.out.mono ?_
      rintro e w1 ⟨rfl, rfl⟩
      go_wp2_with (at_builtin; refine wpList_append_lies _ rfl (.tmp 6) (.tmp 9) 23 rfl w.heap.size 3 i0 (.int .i64 0) 1 8 Tryd.underlying23 hi hz0 hz1 hz2 rfl (by decide) _ _ _ rfl (HO.out.alloc _) ⟨w1.heap.size, 0, none⟩ 1 1 [.int .i64 (Z : Nat)] rfl rfl (news_at w1 _ _) (by intro u hu; simp at hu; subst hu; rfl) (by decide) (by unfold maxLen; omega) (by omega) (by simp; omega) (w1.heap.size + 1) (by simp) ?_)
      intro g3 cap3 w3 ho3 hg3 hat3 hlt3
      have HB3 : Hid (Below w.heap.size w w3) := (HB.out.alloc z _).grown hg3 (by simp; omega) (fun j hj => (HO.out.lt j hj).1)
      have HO3 : Hid (w3.ownsRow w.heap.size 3 1 (.slice (some ⟨g3, 0, none⟩) (m + 1) cap3) (m + 1) ((zs ++ [(Z : Int)]).map (.int .i64))) := by
        show World.ownsRow _ _ _ _ _ _ _
        rw [List.map_append]; exact ho3
      clear ho3 hg3 hat3 HO HB K
      go_wp2
      go_roundg Q
      case measure => omega
      case rel => exact ⟨Q, zs ++ [(Z : Int)], some ⟨g3, 0, none⟩, m + 1, cap3, rfl, by omega, rfl, rfl, by rw [HBL.out]; simp, by have := HM.out; simp; omega, HO3.out, HB3.out⟩

end Go.Proofs.YtpnaoahlfhbbmaaDoor

/- Contracts of math/bits.OnesCount, cmp.Compare, cmp.Or at sets of columns. -/
namespace Go.Proofs.YtpnaoahlfhbbmaaDoor
open Go.RowKit

/-- How many columns. -/
def pc (x : Nat) : Nat := (bl x).length

set_option maxRecDepth 100000 in
set_option maxHeartbeats 2000000 in
theorem ones64_any (x : Nat) (w : World) (hx : x < 64) :
    Calls Tryd.prog 76 #[.int .u64 (x : Nat)] w fun e w' => e = .returned (.int .i64 (pc x : Nat)) ∧ w' = w := by
  go_enter Tryd.func76, Tryd.ntmps76
  go_wp2
  go_ret
  refine ⟨ret_int ?_, rfl⟩
  clear w
  revert x
  decide +kernel

theorem ones_any (x : Nat) (w : World) (hx : x < 64) :
    Calls Tryd.prog 65 #[.int .u64 (x : Nat)] w fun e w' => e = .returned (.int .i64 (pc x : Nat)) ∧ w' = w := by
  have K := Hid.mk (ones64_any x w hx)
  go_enter Tryd.func65, Tryd.ntmps65
  go_wp2_with fail
  refine K.out.mono ?_
  rintro e w1 ⟨rfl, rfl⟩
  go_wp2
  go_ret
  exact ⟨rfl, rfl⟩

/-- -1, 0 or 1. -/
def sgnI (a b : Int) : Int := if a < b then -1 else if b < a then 1 else 0
theorem cmpI_any (a b : Int) (w : World) : Calls Tryd.prog 64 #[.int .i64 a, .int .i64 b] w fun e w' => e = .returned (.int .i64 (sgnI a b)) ∧ w' = w := by
  have N : ∀ (z : Int) (w : World), Calls Tryd.prog 74 #[.int .i64 z] w fun e w' => e = .returned (.bool false) ∧ w' = w := fun z w => by
    go_enter Tryd.func74, Tryd.ntmps74
    go_wp2
    go_ret
    exact ⟨by simp, rfl⟩
  have HN := Hid.mk N
  clear N
  rcases Int.lt_trichotomy a b with h | h | h
  · have HS : Hid (sgnI a b = -1) := by show _ = _; unfold sgnI; rw [if_pos h]
    go_enter Tryd.func64, Tryd.ntmps64
    go_wp2_with fail
    refine (HN.out a w).mono ?_
    rintro e w1 ⟨rfl, rfl⟩
    go_wp2_with fail
    refine (HN.out b _).mono ?_
    rintro e w1 ⟨rfl, rfl⟩
    go_wp2
    go_ret
    exact ⟨ret_int HS.out.symm, rfl⟩
  · subst h
    have HS : Hid (sgnI a a = 0) := by show _ = _; unfold sgnI; simp
    go_enter Tryd.func64, Tryd.ntmps64
    go_wp2_with fail
    refine (HN.out a w).mono ?_
    rintro e w1 ⟨rfl, rfl⟩
    go_wp2_with fail
    refine (HN.out a _).mono ?_
    rintro e w1 ⟨rfl, rfl⟩
    go_wp2
    go_ret
    exact ⟨ret_int HS.out.symm, rfl⟩
  · have h' : ¬ a < b := by omega
    have HS : Hid (sgnI a b = 1) := by show _ = _; unfold sgnI; rw [if_neg h', if_pos h]
    go_enter Tryd.func64, Tryd.ntmps64
    go_wp2_with fail
    refine (HN.out a w).mono ?_
    rintro e w1 ⟨rfl, rfl⟩
    go_wp2_with fail
    refine (HN.out b _).mono ?_
    rintro e w1 ⟨rfl, rfl⟩
    go_wp2
    go_ret
    exact ⟨ret_int HS.out.symm, rfl⟩

/-- The first of two that is not 0. -/
theorem or2_any (b : Nat) (x y : Int) (w : World) (c0 : w.cell? ⟨b, 0, none⟩ = some (.int .i64 x)) (c1 : w.cell? ⟨b, 1, none⟩ = some (.int .i64 y)) :
    Calls Tryd.prog 63 #[.slice (some ⟨b, 0, none⟩) 2 2] w fun e w' => e = .returned (.int .i64 (if x = 0 then y else x)) ∧ w' = w := by
  by_cases hx : x = 0
  · subst hx
    rw [if_pos rfl]
    by_cases hy : y = 0
    · subst hy
      go_enter Tryd.func63, Tryd.ntmps63
      go_wp2
      refine wp_loop_rounds 3 ?_
      rw [rounds_succ]
      go_wp2
      rw [rounds_succ]
      go_wp2
      rw [rounds_succ]
      go_wp2
      go_ret
      exact ⟨rfl, rfl⟩
    · have hb : (y == 0) = false := beq_eq_false_iff_ne.2 hy
      go_enter Tryd.func63, Tryd.ntmps63
      go_wp2
      refine wp_loop_rounds 3 ?_
      rw [rounds_succ]
      go_wp2
      rw [rounds_succ]
      go_wp2
      go_ret
      exact ⟨rfl, rfl⟩
  · rw [if_neg hx]
    have hb : (x == 0) = false := beq_eq_false_iff_ne.2 hx
    go_enter Tryd.func63, Tryd.ntmps63
    go_wp2
    refine wp_loop_rounds 3 ?_
    rw [rounds_succ]
    go_wp2
    go_ret
    exact ⟨rfl, rfl⟩

end Go.Proofs.YtpnaoahlfhbbmaaDoor
