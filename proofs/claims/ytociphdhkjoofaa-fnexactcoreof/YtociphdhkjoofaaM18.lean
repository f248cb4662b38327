/- Contract of spec.l10Map, which calls itself. -/
import Derived.Test.YtociphdhkjoofaaM16
import Derived.Test.YtociphdhkjoofaaM17
import Derived.Test.YtociphdhkjoofaaM15
namespace Go.Proofs.Ytociphdhkjoofaa
open Go.RowKit

/-- How the model's search ends. -/
def MapRet (o : Option (List Int)) (e : Ending) (w' : World) (lo : Nat) : Prop := match o with
  | some r => ∃ ra d, e = .returned (.tuple #[.slice ra 6 d, .bool true]) ∧ w'.ownsRow lo 3 1 (.slice ra 6 d) 6 (r.map (.int .i64))
  | none => e = .returned (.tuple #[.slice none 0 0, .bool false])

set_option maxRecDepth 100000 in
set_option maxHeartbeats 8000000 in
theorem l10Map_end (pha : Option Addr) (phn phc : Nat) (ph : List Int) (pa : Option Addr) (pn pc : Nat) (pz : List Atm) (qha : Option Addr) (qhn qhc : Nat) (qh : List Int) (qa : Option Addr) (qn qc : Nat) (qz : List Atm) (ta : Option Addr) (tc : Nat) (tl : List Int) (w : World)
    (hph : ph.length = phn) (hpb : phn ≤ 9223372036854775807) (hpha : At w pha ph) (hpz : pz.length = pn) (hpzb : pn ≤ 9223372036854775807) (hpa : AtQ w pa pz) (hqh : qh.length = qhn) (hqb : qhn ≤ 9223372036854775807) (hqha : At w qha qh) (hqz : qz.length = qn) (hqzb : qn ≤ 9223372036854775807) (hqa : AtQ w qa qz) (hI : InV qh qz) (hle : qhn ≤ phn) (hfit : Fit qz pz) (htz : tl.length = 6) (hta : At w ta tl) (hnil : ta = none → tc = 0) :
    Calls Try.prog 67 #[.agg #[.slice pha phn phc, .slice pa pn pc], .agg #[.slice qha qhn qhc, .slice qa qn qc], .int .i64 6, .slice ta 6 tc] w fun e w' => MapRet (mapF qh ph qz pz 0 tl) e w' w.heap.size ∧ Below w.heap.size w w' := by
  obtain ⟨i0, hi0, hz0, hz1, hz2⟩ := info_parts Try.infoInt
  obtain ⟨W, hW⟩ : ∃ W, W = (w.alloc (.cells #[.slice pha phn phc, .slice pa pn pc] 29)).alloc (.cells #[.slice qha qhn qhc, .slice qa qn qc] 29) := ⟨_, rfl⟩
  have B0 : Below w.heap.size w W := by rw [hW]; exact ((Below.refl _ _).alloc (Nat.le_refl _) _).alloc (by simp) _
  have b0 : W.heap[w.heap.size]? = some (.cells #[.slice pha phn phc, .slice pa pn pc] 29 (0, 0)) := by rw [hW]; exact blk_alloc (heap_alloc_new w _) _
  have b1 : W.heap[w.heap.size + 1]? = some (.cells #[.slice qha qhn qhc, .slice qa qn qc] 29 (0, 0)) := by
    rw [hW]
    have h := heap_alloc_new (w.alloc (.cells #[.slice pha phn phc, .slice pa pn pc] 29)) (.cells #[.slice qha qhn qhc, .slice qa qn qc] 29)
    simpa only [World.size_alloc] using h
  have c0 := blk_cell b0 0 (v := .slice pha phn phc) rfl
  have c1 := blk_cell b0 1 (v := .slice pa pn pc) rfl
  have d0 := blk_cell b1 0 (v := .slice qha qhn qhc) rfl
  have d1 := blk_cell b1 1 (v := .slice qa qn qc) rfl
  have HPH := Hid.mk hph
  have HPHA := Hid.mk (At.below hpha B0)
  have HQH := Hid.mk hqh
  have HQHA := Hid.mk (At.below hqha B0)
  have HQZ := Hid.mk hqz
  have HQA := Hid.mk (AtSl.below hqa B0)
  have HTZ := Hid.mk htz
  have HTA := Hid.mk (At.below hta B0)
  have HI := Hid.mk hI
  have KH : Hid (∀ (a : Atm) (va : Option Addr) (vn vc : Nat) (w' : World), a ∈ qz → a.2.length = vn → vn ≤ 9223372036854775807 → At w' va a.2 → Below W.heap.size W w' → Calls Try.prog 76 #[.agg #[.slice pha phn phc, .slice pa pn pc], .agg #[.int .i64 a.1, .slice va vn vc], .slice ta 6 tc] w' fun e w'' => e = .returned (.bool (hasA tl pz a)) ∧ Below w'.heap.size w' w'') := fun a va vn vc w' ha h1 h2 h3 h4 => by
    have hb := B0.trans (h4.mono B0.size)
    exact l10HasAtom_any pha phn phc pa pn pc pz a.1 va vn vc a.2 ta 6 tc tl w' hpz hpzb (AtSl.below hpa hb) h1 h2 h3 (fun v hv => (hI.2 a ha v hv).1) htz (by omega) (At.below hta hb) (fun o ho e => by have := hfit.2 a ha o ho e; omega)
  have HE : Hid (fitV tl qh ph = (fitV tl (qh.drop 0) (ph.drop 0))) := by show _ = _; simp
  have HM : Hid (mayB qh ph qz pz tl = (fitV tl qh ph && (qz.drop 0).all (hasA tl pz))) := rfl
  have HNO : Hid (mayB qh ph qz pz tl = false → mapF qh ph qz pz 0 tl = none) := fun h => by unfold mapF; rw [h]; rfl
  have HYES : Hid (mayB qh ph qz pz tl = true → mapF qh ph qz pz 0 tl = some tl) := fun h => by unfold mapF; rw [h]; rfl
  obtain ⟨O, hO⟩ : ∃ O, O = mapF qh ph qz pz 0 tl := ⟨_, rfl⟩
  rw [← hO] at HNO HYES ⊢
  clear hph hpha hpz hpa hqh hqha hqz hqa htz hta hI hfit b0 b1 hO
  go_enter Try.func67, Try.ntmps67
  go_upto_region 1 with fail
  rw [← hW]
  clear hW
  go_wp2_with fail
  go_loopw [24] (fun i wx => ∃ (j : Nat), j ≤ qhn ∧ i = .int .i64 j ∧ fitV tl qh ph = fitV tl (qh.drop j) (ph.drop j) ∧ Below W.heap.size W wx) (fun i _ => qhn - (intOf i).toNat)
  case atStart => exact ⟨0, Nat.zero_le _, rfl, HE.out, Below.refl _ _⟩
  case round =>
    clear HE
    obtain ⟨j, hj, rfl, hfj, hbx⟩ := hrel
    obtain ⟨wX, rfl⟩ : ∃ x, x = wr := ⟨_, rfl⟩
    have Bx := B0.trans (hbx.mono B0.size)
    by_cases hjt : j < qhn
    · obtain ⟨vb, voff, rfl, _, hvc⟩ := (At.below HQHA.out hbx).some (by have := HQH.out; omega)
      obtain ⟨xb, xoff, rfl, _, hxc⟩ := (At.below HPHA.out hbx).some (by have := HPH.out; omega)
      have hvc := hvc j (by have := HQH.out; omega)
      have z3 := hxc j (by have := HPH.out; omega)
      have z2 := cell_later hbx c0
      have hji : (j : Int) < (qhn : Int) := by omega
      have hjx : (j : Int) < (phn : Int) := by omega
      have hdv : qh.drop j = qh.getD j 0 :: qh.drop (j + 1) := by rw [List.drop_eq_getElem_cons (by have := HQH.out; omega)]; simp [List.getD, show j < qh.length by have := HQH.out; omega]
      have hdx : ph.drop j = ph.getD j 0 :: ph.drop (j + 1) := by rw [List.drop_eq_getElem_cons (by have := HPH.out; omega)]; simp [List.getD, show j < ph.length by have := HPH.out; omega]
      rw [hdv, hdx, fitV_cons, List.headD_cons, List.tail_cons] at hfj
      have hnn := HI.out.1 (qh.getD j 0) (by simp [List.getD, show j < qh.length by have := HQH.out; omega])
      obtain ⟨p, hp⟩ := Int.eq_ofNat_of_zero_le hnn.1
      obtain ⟨x, hxx⟩ : ∃ x, x = ph.getD j 0 := ⟨_, rfl⟩
      rw [hp] at hvc hfj hnn
      rw [← hxx] at z3 hfj
      rw [HTZ.out, Int.toNat_natCast] at hfj
      have hpt : (p : Int) < 6 := hnn.2
      obtain ⟨tb, toff, rfl, _, htc⟩ := (At.below HTA.out hbx).some (by have := HTZ.out; omega)
      have z1 := htc p (by have := HTZ.out; omega)
      obtain ⟨tv, htv⟩ : ∃ tv, tv = tl.getD p 0 := ⟨_, rfl⟩
      rw [← htv] at z1
      have HF2 : Hid (fitV tl qh ph = (decide (tv = x) && fitV tl (qh.drop (j + 1)) (ph.drop (j + 1)))) := by show _ = _; rw [hfj, decide_eq_true (by omega), ← htv]; simp
      clear hdv hdx hnn hp hxx hfj hxc c0 c1 d0 d1 htc htv
      by_cases htx : tv = x
      · have HN : Hid (fitV tl qh ph = fitV tl (qh.drop (j + 1)) (ph.drop (j + 1))) := by show _ = _; rw [HF2.out, decide_eq_true htx]; simp
        clear HF2
        go_upto_region 5 with fail
        clear hvc
        refine wp_region_held_drew (S := fun w' => w'.cell? ⟨tb, toff + p, none⟩ = some (.int .i64 tv) ∧ w'.cell? ⟨w.heap.size, 0, none⟩ = some (.slice (some ⟨xb, xoff, none⟩) phn phc) ∧ w'.cell? ⟨xb, xoff + j, none⟩ = some (.int .i64 x)) (by kernel_rfl) ?_ (fun hHeld => ?_)
        · (try dsimp only)
          exact ⟨z1, z2, z3⟩
        refine tk 0 ?_
        refine tk 1 ?_
        refine tk 2 ?_
        refine tk 3 ?_
        refine tk 4 ?_
        refine tk 5 ?_
        refine tk 6 ?_
        refine tk 7 ?_
        refine tk 8 ?_
        refine tk 9 ?_
        refine wpAnyH_done (by kernel_rfl) ?_ _
        go_wp2
        go_roundw
        case rel => exact ⟨j + 1, by omega, by go_num, HN.out, hbx.drew⟩
        case measure => simp [intOf]; omega
      · have HF := Hid.mk (HNO.out (by rw [HM.out, HF2.out, decide_eq_false htx]; rfl))
        clear HF2
        go_upto_region 5 with fail
        clear hvc
        refine wp_region_held_drew (S := fun w' => w'.cell? ⟨tb, toff + p, none⟩ = some (.int .i64 tv) ∧ w'.cell? ⟨w.heap.size, 0, none⟩ = some (.slice (some ⟨xb, xoff, none⟩) phn phc) ∧ w'.cell? ⟨xb, xoff + j, none⟩ = some (.int .i64 x)) (by kernel_rfl) ?_ (fun hHeld => ?_)
        · (try dsimp only)
          exact ⟨z1, z2, z3⟩
        refine tk 0 ?_
        refine tk 1 ?_
        refine tk 2 ?_
        refine tk 3 ?_
        refine tk 4 ?_
        refine tk 5 ?_
        refine tk 6 ?_
        refine tk 7 ?_
        refine tk 8 ?_
        refine tk 9 ?_
        refine wpAnyH_done (by kernel_rfl) ?_ _
        go_wp2
        exact bodyPost_ret (v := .tuple #[.slice none 0 0, .bool false]) (by simp [results, Try.results67, go_sem]) rfl ⟨by rw [HF.out]; rfl, Bx.drew⟩
    · rw [List.drop_of_length_le (by have := HQH.out; omega)] at hfj
      have HM2 : Hid (mayB qh ph qz pz tl = (qz.drop 0).all (hasA tl pz)) := by show _ = _; rw [HM.out, hfj]; rfl
      clear hfj HM
      have c0 := cell_later hbx c0
      have c1 := cell_later hbx c1
      have d1 := cell_later hbx d1
      go_wp2_with fail
      go_loopw [43] (fun i wx => ∃ (k : Nat), k ≤ qn ∧ i = .int .i64 k ∧ mayB qh ph qz pz tl = (qz.drop k).all (hasA tl pz) ∧ Below W.heap.size W wx ∧ Below wX.heap.size wX wx) (fun i _ => qn - (intOf i).toNat)
      case atStart => exact ⟨0, Nat.zero_le _, rfl, HM2.out, hbx, Below.refl _ _⟩
      case round =>
        clear HM2 hbx
        obtain ⟨k, hk, rfl, ht, hbw, hbX⟩ := hrel
        obtain ⟨wY, rfl⟩ : ∃ x, x = wr := ⟨_, rfl⟩
        have By := B0.trans (hbw.mono B0.size)
        by_cases hlt : k < qn
        · obtain ⟨⟨xp, xv⟩, hx⟩ : ∃ x, qz[k]? = some x := ⟨_, List.getElem?_eq_getElem (by have := HQZ.out; omega)⟩
          obtain ⟨b, off, rfl, _, hc⟩ := AtQ.row (AtSl.below HQA.out hbw) (by have := HQZ.out; omega)
          obtain ⟨va, vn, vc, g0, g1, u1, u2, u3, _⟩ := hc k _ hx
          have hki : (k : Int) < (qn : Int) := by omega
          have hdr : qz.drop k = (xp, xv) :: qz.drop (k + 1) := by
            obtain ⟨h1, h2⟩ := List.getElem?_eq_some_iff.1 hx
            rw [List.drop_eq_getElem_cons h1, h2]
          rw [hdr, List.all_cons] at ht
          obtain ⟨U, hU⟩ : ∃ U, U = wY.alloc (.cells #[.int .i64 xp, .slice va vn vc] 58) := ⟨_, rfl⟩
          have hbU : Below wY.heap.size wY U := by rw [hU]; exact (Below.refl _ _).alloc (Nat.le_refl _) _
          have e0 : U.cell? ⟨wY.heap.size, 0, none⟩ = some (.int .i64 xp) := by rw [hU]; exact pair0 wY _ _ _
          have e1 : U.cell? ⟨wY.heap.size, 1, none⟩ = some (.slice va vn vc) := by rw [hU]; exact pair1 wY _ _ _
          have B2 := hbw.trans (hbU.mono hbw.size)
          have B3 := hbX.trans (hbU.mono hbX.size)
          have q0 := cell_later B3 c0
          have q1 := cell_later B3 c1
          have HC := Hid.mk (KH.out (xp, xv) va vn vc U (List.mem_of_getElem? hx) u1 u2 (At.below u3 hbU) B2)
          have HT := Hid.mk ht
          have HBB := Hid.mk (And.intro B2 B3)
          clear hc hx hdr ht u1 u3 hbU B2 B3 hbw hbX
          go_upto_region 11 with fail
          rw [← hU]
          clear hU g0 g1
          cases hr : hasA tl pz (xp, xv) with
          | false =>
            rw [hr] at HC
            have HF := Hid.mk (HNO.out (by rw [HT.out, hr]; rfl))
            go_wp2_with fail
            refine HC.out.mono ?_
            rintro e w2 ⟨rfl, hb2⟩
            have B4 := HBB.out.1.trans (hb2.mono HBB.out.1.size)
            go_wp2
            exact bodyPost_ret (v := .tuple #[.slice none 0 0, .bool false]) (by simp [results, Try.results67, go_sem]) rfl ⟨by rw [HF.out]; rfl, B0.trans (B4.mono B0.size)⟩
          | true =>
            rw [hr] at HC
            have HN : Hid (mayB qh ph qz pz tl = (qz.drop (k + 1)).all (hasA tl pz)) := by show _ = _; rw [HT.out, hr]; rfl
            go_wp2_with fail
            refine HC.out.mono ?_
            rintro e w2 ⟨rfl, hb2⟩
            have B4 := Hid.mk (And.intro (HBB.out.1.trans (hb2.mono HBB.out.1.size)) (HBB.out.2.trans (hb2.mono HBB.out.2.size)))
            clear hb2
            go_wp2
            go_roundw
            case rel => exact ⟨k + 1, by omega, by go_num, HN.out, B4.out.1, B4.out.2⟩
            case measure => simp [intOf]; omega
        · have HF := Hid.mk (HYES.out (by rw [ht, List.drop_of_length_le (by have := HQZ.out; omega)]; rfl))
          have HAW := Hid.mk ((At.below HTA.out hbw).alloc (.cells #[] 3))
          have OE := Hid.mk (own_void wY 3 1)
          clear ht
          go_wp2_with (at_builtin; refine wpList_append_all rfl (.tmp 53) (.tmp 54) 22 rfl wY.heap.size 3 i0 (.int .i64 0) 8 Try.underlying22 hi0 hz0 hz1 hz2 rfl (.slice (some ⟨wY.heap.size, 0, none⟩) 0 0) 0 [] rfl OE.out ta 6 tc tl rfl HTZ.out HAW.out hnil (by unfold maxLen; omega) (by omega) (by simp) ?_)
          intro r1 dd1 w1 ho1 hg1
          have HB : Hid (Below w.heap.size w w1) := (By.alloc By.size _).grown hg1 (by have := By.size; simp; omega) (fun j hj => by simp [Value.ownBlock] at hj; have := By.size; omega)
          have HO : Hid (w1.ownsRow w.heap.size 3 1 (.slice r1 6 dd1) 6 (tl.map (.int .i64))) := owns_mono (by simpa using ho1) By.size
          clear ho1 hg1
          go_wp2
          exact bodyPost_ret (v := .tuple #[.slice r1 6 dd1, .bool true]) (by simp [results, Try.results67, go_sem]) rfl ⟨by rw [HF.out]; exact ⟨r1, dd1, rfl, HO.out⟩, HB.out⟩

set_option maxRecDepth 100000 in
set_option maxHeartbeats 4000000 in
theorem l10Map_step (pha : Option Addr) (phn phc : Nat) (ph : List Int) (pa : Option Addr) (pn pc : Nat) (pz : List Atm) (qha : Option Addr) (qhn qhc : Nat) (qh : List Int) (qa : Option Addr) (qn qc : Nat) (qz : List Atm) (k v : Nat) (hkv : v + (k + 1) = 6) (ta : Option Addr) (tc : Nat) (tl : List Int) (w : World)
    (hph : ph.length = phn) (hpb : phn ≤ 9223372036854775807) (hpha : At w pha ph) (hpz : pz.length = pn) (hpzb : pn ≤ 9223372036854775807) (hpa : AtQ w pa pz) (hqh : qh.length = qhn) (hqb : qhn ≤ 9223372036854775807) (hqha : At w qha qh) (hqz : qz.length = qn) (hqzb : qn ≤ 9223372036854775807) (hqa : AtQ w qa qz) (hI : InV qh qz) (hle : qhn ≤ phn) (hfit : Fit qz pz) (hIp : ∀ a ∈ pz, ∀ v ∈ a.2, (0 : Int) ≤ v ∧ v < 6) (htz : tl.length = v) (hta : At w ta tl) (hnil : ta = none → tc = 0)
    (ih : ∀ (t' : Option Addr) (c' : Nat) (tl' : List Int) (w' : World), Below w.heap.size w w' → tl'.length = v + 1 → At w' t' tl' → (t' = none → c' = 0) → Calls Try.prog 67 #[.agg #[.slice pha phn phc, .slice pa pn pc], .agg #[.slice qha qhn qhc, .slice qa qn qc], .int .i64 ((v + 1 : Nat) : Int), .slice t' (v + 1) c'] w' fun e w'' => MapRet (mapF qh ph qz pz k tl') e w'' w'.heap.size ∧ Below w'.heap.size w' w'') :
    Calls Try.prog 67 #[.agg #[.slice pha phn phc, .slice pa pn pc], .agg #[.slice qha qhn qhc, .slice qa qn qc], .int .i64 (v : Nat), .slice ta v tc] w fun e w' => MapRet (mapF qh ph qz pz (k + 1) tl) e w' w.heap.size ∧ Below w.heap.size w w' := by
  obtain ⟨i0, hi0, hz0, hz1, hz2⟩ := info_parts Try.infoInt
  obtain ⟨W, hW⟩ : ∃ W, W = (w.alloc (.cells #[.slice pha phn phc, .slice pa pn pc] 29)).alloc (.cells #[.slice qha qhn qhc, .slice qa qn qc] 29) := ⟨_, rfl⟩
  have B0 : Below w.heap.size w W := by rw [hW]; exact ((Below.refl _ _).alloc (Nat.le_refl _) _).alloc (by simp) _
  have b0 : W.heap[w.heap.size]? = some (.cells #[.slice pha phn phc, .slice pa pn pc] 29 (0, 0)) := by rw [hW]; exact blk_alloc (heap_alloc_new w _) _
  have b1 : W.heap[w.heap.size + 1]? = some (.cells #[.slice qha qhn qhc, .slice qa qn qc] 29 (0, 0)) := by
    rw [hW]
    have h := heap_alloc_new (w.alloc (.cells #[.slice pha phn phc, .slice pa pn pc] 29)) (.cells #[.slice qha qhn qhc, .slice qa qn qc] 29)
    simpa only [World.size_alloc] using h
  have c0 := blk_cell b0 0 (v := .slice pha phn phc) rfl
  have c1 := blk_cell b0 1 (v := .slice pa pn pc) rfl
  have d0 := blk_cell b1 0 (v := .slice qha qhn qhc) rfl
  have d1 := blk_cell b1 1 (v := .slice qa qn qc) rfl
  have HTZ := Hid.mk htz
  have HTA := Hid.mk (At.below hta B0)
  have KQ : Hid (∀ w', Below W.heap.size W w' → Calls Try.prog 53 #[.agg #[.slice qha qhn qhc, .slice qa qn qc]] w' fun e w'' => ∃ r m d, e = .returned (.slice r m d) ∧ (bl (vset qz)).length = m ∧ w''.ownsRow w'.heap.size 3 1 (.slice r m d) m ((bl (vset qz)).map (.int .i64)) ∧ Below w'.heap.size w' w'') := fun w' h => l10Vars_any qha qhn qhc qa qn qc qz w' hqz hqzb hI.2 (AtSl.below hqa (B0.trans (h.mono B0.size)))
  have KP : Hid (∀ w', Below W.heap.size W w' → Calls Try.prog 53 #[.agg #[.slice pha phn phc, .slice pa pn pc]] w' fun e w'' => ∃ r m d, e = .returned (.slice r m d) ∧ (bl (vset pz)).length = m ∧ w''.ownsRow w'.heap.size 3 1 (.slice r m d) m ((bl (vset pz)).map (.int .i64)) ∧ Below w'.heap.size w' w'') := fun w' h => l10Vars_any pha phn phc pa pn pc pz w' hpz hpzb hIp (AtSl.below hpa (B0.trans (h.mono B0.size)))
  have KM0 : Hid (∀ (x : Int) (r' : Option Addr) (d' base : Nat) (w' : World), Below W.heap.size W w' → w'.ownsRow base 3 1 (.slice r' (v + 1) d') (v + 1) (tl.map (.int .i64) ++ [x].map (.int .i64)) → Calls Try.prog 67 #[.agg #[.slice pha phn phc, .slice pa pn pc], .agg #[.slice qha qhn qhc, .slice qa qn qc], .int .i64 ((v : Int) + 1), .slice r' (v + 1) d'] w' fun e w'' => MapRet (mapF qh ph qz pz k (tl ++ [x])) e w'' w'.heap.size ∧ Below w'.heap.size w' w'') := fun x r' d' base w' h o => by
    rw [← List.map_append] at o
    have h9 := ih r' d' (tl ++ [x]) w' (B0.trans (h.mono B0.size)) (by rw [List.length_append, htz]; rfl) (At.owned o) (fun hn => by
      rcases o.2 with ⟨hv, _⟩ | ⟨g, cap, cur, hv, _⟩
      · simp only [Value.slice.injEq] at hv; exact hv.2.2
      · simp only [Value.slice.injEq] at hv; rw [hn] at hv; cases hv.1)
    rw [show ((v + 1 : Nat) : Int) = (v : Int) + 1 by push_cast; rfl] at h9
    exact h9
  have KY : Hid (∀ (x : Int) (r' : Option Addr) (d' base : Nat) (w' : World), Below W.heap.size W w' → w'.ownsRow base 3 1 (.slice r' (v + 1) d') (v + 1) (tl.map (.int .i64) ++ [x].map (.int .i64)) → Calls Try.prog 77 #[.agg #[.slice pha phn phc, .slice pa pn pc], .agg #[.slice qha qhn qhc, .slice qa qn qc], .slice r' (v + 1) d'] w' fun e w'' => e = .returned (.bool (mayB qh ph qz pz (tl ++ [x]))) ∧ Below w'.heap.size w' w'') := fun x r' d' base w' h o => by
    rw [← List.map_append] at o
    have hb := B0.trans (h.mono B0.size)
    exact l10May_any pha phn phc ph pa pn pc pz qha qhn qhc qh qa qn qc qz r' (v + 1) d' (tl ++ [x]) w' hph hpb (At.below hpha hb) hpz hpzb (AtSl.below hpa hb) hqh hqb (At.below hqha hb) hqz hqzb (AtSl.below hqa hb) hI hle hfit (by rw [List.length_append, htz]; rfl) (by omega) (At.owned o)
  have hv6 : ¬ (v : Int) = 6 := by omega
  have hv7 : ((v : Int) == 6) = false := by simp; omega
  have hwr : IntKind.i64.wrap ((v : Int) + 1) = (v : Int) + 1 := IntWalk.i64_in _ (by omega)
  have e5 : 5 - k = v := by omega
  have HMI : Hid ((v : Int) ∈ bl (vset qz) → mapF qh ph qz pz (k + 1) tl = (bl (vset pz)).findSome? (fun x => if mayB qh ph qz pz (tl ++ [x]) then mapF qh ph qz pz k (tl ++ [x]) else none)) := fun h => by
    show (if ((5 - k : Nat) : Int) ∈ bl (vset qz) then _ else _) = _
    rw [e5, if_pos h]
  have HMN : Hid (¬ (v : Int) ∈ bl (vset qz) → mapF qh ph qz pz (k + 1) tl = mapF qh ph qz pz k (tl ++ [0])) := fun h => by
    show (if ((5 - k : Nat) : Int) ∈ bl (vset qz) then _ else _) = _
    rw [e5, if_neg h]
  clear hph hpha hpz hpa hqh hqha hqz hqa htz hta hI hfit b0 b1 ih hIp e5
  go_enter Try.func67, Try.ntmps67
  go_upto_region 1 with fail
  rw [← hW]
  clear hW
  go_wp2_with fail
  refine (KQ.out _ (Below.refl _ _)).mono ?_
  rintro e w1 ⟨r1, m1, x1, rfl, l1, o1, hb1⟩
  have HC := Hid.mk (l1Has_any r1 m1 x1 (bl (vset qz)) (v : Int) w1 l1 (by have := bl_len (vset qz); omega) (At.owned o1))
  have c0 := cell_later hb1 c0
  have c1 := cell_later hb1 c1
  have d0 := cell_later hb1 d0
  have d1 := cell_later hb1 d1
  have HTU := Hid.mk (At.below HTA.out hb1)
  have BU := B0.trans (hb1.mono B0.size)
  clear l1 o1 KQ HTA
  go_wp2_with fail
  refine HC.out.mono ?_
  rintro e w2 ⟨rfl, h9⟩
  obtain rfl := h9.symm
  clear HC
  by_cases hhas : (v : Int) ∈ bl (vset qz)
  · rw [decide_eq_true hhas]
    have HMF := Hid.mk (HMI.out hhas)
    clear HMI HMN hhas
    go_wp2_with fail
    refine (KP.out _ hb1).mono ?_
    rintro e w3 ⟨r3, m3, x3, rfl, l3, o3, hb3⟩
    have HL3 := Hid.mk l3
    have HA3 := Hid.mk (At.owned o3)
    have hWw := hb1.trans (hb3.mono hb1.size)
    have B3 := B0.trans (hWw.mono B0.size)
    have c0 := cell_later hb3 c0
    have c1 := cell_later hb3 c1
    have d0 := cell_later hb3 d0
    have d1 := cell_later hb3 d1
    have HT3 := Hid.mk (At.below HTU.out hb3)
    have hm3 : m3 ≤ 6 := by have := bl_len (vset pz); omega
    obtain ⟨O, hO⟩ : ∃ O, O = mapF qh ph qz pz (k + 1) tl := ⟨_, rfl⟩
    have HO := Hid.mk hO
    have HG : Hid (O = ((bl (vset pz)).drop 0).findSome? (fun x => if mayB qh ph qz pz (tl ++ [x]) then mapF qh ph qz pz k (tl ++ [x]) else none)) := by show _ = _; rw [hO, HMF.out]; rfl
    clear l3 o3 hb3 KP HTU HMF hO
    go_wp2_with fail
    go_loopw [76] (fun i wx => ∃ (j : Nat), j ≤ m3 ∧ i = .int .i64 j ∧ O = ((bl (vset pz)).drop j).findSome? (fun x => if mayB qh ph qz pz (tl ++ [x]) then mapF qh ph qz pz k (tl ++ [x]) else none) ∧ Below w3.heap.size w3 wx) (fun i _ => m3 - (intOf i).toNat)
    case atStart => exact ⟨0, Nat.zero_le _, rfl, HG.out, Below.refl _ _⟩
    case round =>
      clear HG
      obtain ⟨j, hj, rfl, ht, hbx⟩ := hrel
      obtain ⟨wX, rfl⟩ : ∃ x, x = wr := ⟨_, rfl⟩
      have Bx := B3.trans (hbx.mono B3.size)
      have hWx := hWw.trans (hbx.mono hWw.size)
      by_cases hjt : j < m3
      · obtain ⟨xb, xoff, rfl, _, hxc⟩ := (At.below HA3.out hbx).some (by have := HL3.out; omega)
        have hxc := hxc j (by have := HL3.out; omega)
        have hji : (j : Int) < (m3 : Int) := by omega
        have hdr : (bl (vset pz)).drop j = (bl (vset pz)).getD j 0 :: (bl (vset pz)).drop (j + 1) := by rw [List.drop_eq_getElem_cons (by have := HL3.out; omega)]; simp [List.getD, show j < (bl (vset pz)).length by have := HL3.out; omega]
        rw [hdr, List.findSome?_cons] at ht
        obtain ⟨x, hx⟩ : ∃ x, x = (bl (vset pz)).getD j 0 := ⟨_, rfl⟩
        rw [← hx] at ht hxc
        have HT := Hid.mk ht
        have HTX := Hid.mk ((At.below HT3.out hbx).alloc (.cells #[] 3))
        have OE := Hid.mk (own_void wX 3 1)
        have hBx := Bx.size
        clear hdr hx ht
        go_wp2_with (at_builtin; refine wpList_append_all rfl (.tmp 80) (.tmp 81) 22 rfl wX.heap.size 3 i0 (.int .i64 0) 8 Try.underlying22 hi0 hz0 hz1 hz2 rfl (.slice (some ⟨wX.heap.size, 0, none⟩) 0 0) 0 [] rfl OE.out ta v tc tl rfl HTZ.out HTX.out hnil (by unfold maxLen; omega) (by omega) (by simp) ?_)
        intro r4 d4 w4 ho4 hg4
        have hb4 : Below wX.heap.size wX w4 := ((Below.refl _ _).alloc (Nat.le_refl _) _).grown hg4 (by simp) (fun j hj => by simp [Value.ownBlock] at hj; omega)
        have HO4 : Hid (w4.ownsRow wX.heap.size 3 1 (.slice r4 v d4) v (tl.map (.int .i64))) := Hid.mk (by simpa using ho4)
        clear ho4 hg4 OE HTX
        have O5 := Hid.mk (HO4.out.alloc (.cells #[.int .i64 x] 3))
        have N5 : Hid (At (w4.alloc (.cells #[.int .i64 x] 3)) (some ⟨w4.heap.size, 0, none⟩) [x]) := .inr ⟨_, 0, rfl, fun i hi => by have : i = 0 := (by simpa using hi); subst this; simp⟩
        have z4 := hb4.size
        (try rw [Nat.zero_add])
        go_wp2_with (at_builtin; refine wpList_append_all rfl (.tmp 82) (.tmp 84) 22 rfl wX.heap.size 3 i0 (.int .i64 0) 8 Try.underlying22 hi0 hz0 hz1 hz2 rfl (.slice r4 v d4) v (tl.map (.int .i64)) rfl O5.out (some ⟨w4.heap.size, 0, none⟩) 1 1 [x] rfl rfl N5.out (fun h => by cases h) (by unfold maxLen; omega) (by omega) (by simp; omega) ?_)
        intro r5 d5 w5 ho5 hg5
        have hb5 : Below wX.heap.size wX w5 := (hb4.alloc hb4.size _).grown hg5 (by simp; omega) (fun j hj => (HO4.out.lt j hj).1)
        have hW5 := hWx.trans (hb5.mono hWx.size)
        have h35 := hbx.trans (hb5.mono hbx.size)
        have B5 := B3.trans (h35.mono B3.size)
        have HCY := Hid.mk (KY.out x r5 d5 _ w5 hW5 ho5)
        have HCM : Hid (∀ w', Below w5.heap.size w5 w' → Calls Try.prog 67 #[.agg #[.slice pha phn phc, .slice pa pn pc], .agg #[.slice qha qhn qhc, .slice qa qn qc], .int .i64 ((v : Int) + 1), .slice r5 (v + 1) d5] w' fun e w'' => MapRet (mapF qh ph qz pz k (tl ++ [x])) e w'' w'.heap.size ∧ Below w'.heap.size w' w'') := fun w' h => KM0.out x r5 d5 _ w' (hW5.trans (h.mono hW5.size)) (owns_below ho5 h)
        have p0 := cell_later h35 c0
        have p1 := cell_later h35 c1
        have p2 := cell_later h35 d0
        have p3 := cell_later h35 d1
        clear ho5 hg5 HO4 O5 N5 hb4 hb5 hxc
        cases hmb : mayB qh ph qz pz (tl ++ [x]) with
        | false =>
          rw [hmb] at HCY
          have HN : Hid (O = ((bl (vset pz)).drop (j + 1)).findSome? (fun x => if mayB qh ph qz pz (tl ++ [x]) then mapF qh ph qz pz k (tl ++ [x]) else none)) := by show _ = _; rw [HT.out, hmb]; rfl
          go_wp2_with fail
          refine HCY.out.mono ?_
          rintro e w6 ⟨rfl, hb6⟩
          have HB6 := Hid.mk (h35.trans (hb6.mono h35.size))
          clear hb6 h35
          go_wp2
          go_roundw
          case rel => exact ⟨j + 1, by omega, by go_num, HN.out, HB6.out⟩
          case measure => simp [intOf]; omega
        | true =>
          rw [hmb] at HCY
          go_wp2_with fail
          refine HCY.out.mono ?_
          rintro e w6 ⟨rfl, hb6⟩
          have h36 := h35.trans (hb6.mono h35.size)
          have p0 := cell_later hb6 p0
          have p1 := cell_later hb6 p1
          have p2 := cell_later hb6 p2
          have p3 := cell_later hb6 p3
          go_wp2_with fail
          refine (HCM.out _ hb6).mono ?_
          rintro e w7 ⟨hret, hb7⟩
          have h37 := h36.trans (hb7.mono h36.size)
          have B7 := B3.trans (h37.mono B3.size)
          have B6 := B3.trans (h36.mono B3.size)
          cases hmf : mapF qh ph qz pz k (tl ++ [x]) with
          | some r =>
            rw [hmf] at hret
            obtain ⟨ra, rd, rfl, hor⟩ := hret
            have HOR := Hid.mk (owns_mono hor B6.size)
            have HF : Hid (O = some r) := by show _ = _; rw [HT.out, hmb, hmf]; rfl
            clear hor
            go_wp2
            refine bodyPost_ret (v := .tuple #[.slice ra 6 rd, .bool true]) (by simp [results, Try.results67, go_sem]) rfl ⟨?_, B7⟩
            rw [← HO.out, HF.out]
            exact ⟨ra, rd, rfl, HOR.out⟩
          | none =>
            rw [hmf] at hret
            have hret : e = .returned (.tuple #[.slice none 0 0, .bool false]) := hret
            subst hret
            have HN : Hid (O = ((bl (vset pz)).drop (j + 1)).findSome? (fun x => if mayB qh ph qz pz (tl ++ [x]) then mapF qh ph qz pz k (tl ++ [x]) else none)) := by show _ = _; rw [HT.out, hmb, hmf]; rfl
            have HB7 := Hid.mk h37
            clear hb6 h35 h36 h37 hb7
            go_wp2
            go_roundw
            case rel => exact ⟨j + 1, by omega, by go_num, HN.out, HB7.out⟩
            case measure => simp [intOf]; omega
      · have HF : Hid (O = none) := by show _ = _; rw [ht, List.drop_of_length_le (by have := HL3.out; omega)]; rfl
        clear ht
        go_wp2
        refine bodyPost_ret (v := .tuple #[.slice none 0 0, .bool false]) (by simp [results, Try.results67, go_sem]) rfl ⟨?_, Bx⟩
        rw [← HO.out, HF.out]
        rfl
  · rw [decide_eq_false hhas]
    have HMF := Hid.mk (HMN.out hhas)
    have KM : Hid (∀ (x : Int) (r' : Option Addr) (d' : Nat) (w' : World), Below w1.heap.size w1 w' → w'.ownsRow w1.heap.size 3 1 (.slice r' (v + 1) d') (v + 1) (tl.map (.int .i64) ++ [x].map (.int .i64)) → Calls Try.prog 67 #[.agg #[.slice pha phn phc, .slice pa pn pc], .agg #[.slice qha qhn qhc, .slice qa qn qc], .int .i64 ((v : Int) + 1), .slice r' (v + 1) d'] w' fun e w'' => MapRet (mapF qh ph qz pz k (tl ++ [x])) e w'' w'.heap.size ∧ Below w'.heap.size w' w'') := fun x r' d' w' h o => KM0.out x r' d' _ w' (hb1.trans (h.mono hb1.size)) o
    obtain ⟨U, hUU⟩ : ∃ U, U = w1 := ⟨_, rfl⟩
    rw [← hUU] at KM c0 c1 d0 d1 HTU BU ⊢
    clear HMI HMN hhas KP KM0 KY hb1 hUU
    go_upto_region 16 with fail
    refine wp_region_held_drew (S := fun w' => Below U.heap.size U w') (by kernel_rfl) ?_ (fun hHeld => ?_)
    · exact (Below.refl _ _).drew
    refine tk 0 ?_ (hy := fun wS hSw => by (have c0 := cell_later hSw c0; have c1 := cell_later hSw c1; go_simp; (try with_reducible rfl)))
    refine tk 1 ?_ (hy := fun wS hSw => by (have d0 := cell_later hSw d0; have d1 := cell_later hSw d1; go_simp; (try with_reducible rfl)))
    refine tk 2 ?_
    refine tk 3 ?_
    refine tk 5 ?_
    obtain ⟨u0, hu0⟩ : ∃ u, u = U.drew := ⟨_, rfl⟩
    have Y0 : Below U.heap.size U u0 := by rw [hu0]; exact (Below.refl _ _).drew
    rw [← hu0]
    rw [← hu0] at hHeld
    clear hu0
    refine wpAnyH_ready (rs := [4, 7]) (by kernel_rfl) (by simp) ?_
    refine AllReadyH.cons (o := ?_) ?_ (fun K hK => ?_) ?_
    rotate_left
    · (simp only [List.getElem?_toArray, List.getElem?_cons_zero, List.getElem?_cons_succ]; rfl)
    · go_simp
      (try go_wp2_with fail)
      refine hK.out _ _ ?_ (fun hHeld' => ?_)
      · (try dsimp only)
        exact Y0.alloc Y0.size _
      clear hK K hHeld
      have hHeld := hHeld'
      clear hHeld'
      (try simp only [Act.put, List.setIfInBounds_toArray, List.set_cons_zero, List.set_cons_succ])
      obtain ⟨v1, hU1⟩ : ∃ u, u = u0.alloc (.cells #[] 3) := ⟨_, rfl⟩
      have hb1 : Below u0.heap.size u0 v1 := by rw [hU1]; exact (Below.refl _ _).alloc (Nat.le_refl _) _
      have Y1 := Y0.trans (hb1.mono Y0.size)
      have s1 : u0.heap.size < v1.heap.size := by rw [hU1]; simp
      have o1 : v1.ownsRow U.heap.size 3 1 (.slice (some ⟨u0.heap.size, 0, none⟩) 0 0) 0 [] := by rw [hU1]; exact owns_mono (own_void u0 3 1) Y0.size
      rw [← hU1]
      clear hU1 hb1
      refine wpAnyH_ready (rs := [6, 7]) (by kernel_rfl) (by simp) ?_
      refine AllReadyH.cons (o := ?_) ?_ (fun K hK => ?_) ?_
      rotate_left
      · (simp only [List.getElem?_toArray, List.getElem?_cons_zero, List.getElem?_cons_succ]; rfl)
      · refine stepA_all rfl (.tmp 65) (.tmp 66) 22 rfl U.heap.size 3 i0 (.int .i64 0) 8 Try.underlying22 hi0 hz0 hz1 hz2 rfl (.slice (some ⟨u0.heap.size, 0, none⟩) 0 0) 0 [] (by simp [Act.eval]) o1 ta v tc tl (by simp [Act.eval]) HTZ.out (At.below HTU.out Y1) hnil (by unfold maxLen; omega) (by omega) Y1.size ?_
        intro r2 d2 v2 o2 hg2 ht2
        simp only [Nat.zero_add, List.nil_append] at o2 ht2 ⊢
        have Y2 := Y1.grown hg2 Y1.size (fun j hj => (o1.lt j hj).1)
        have zg2 := hg2.size
        clear hg2 ht2
        refine hK.out _ _ ?_ (fun hHeld' => ?_)
        · (try dsimp only)
          exact Y2
        clear hK K hHeld
        have hHeld := hHeld'
        clear hHeld'
        (try simp only [Act.put, List.setIfInBounds_toArray, List.set_cons_zero, List.set_cons_succ])
        refine wpAnyH_ready (rs := [7]) (by kernel_rfl) (by simp) ?_
        refine AllReadyH.cons (o := ?_) ?_ (fun K hK => ?_) AllReadyH.nil
        rotate_left
        · (simp only [List.getElem?_toArray, List.getElem?_cons_zero, List.getElem?_cons_succ]; rfl)
        go_simp
        (try go_wp2_with fail)
        refine hK.out _ _ ?_ (fun hHeld' => ?_)
        · (try dsimp only)
          exact Y2.alloc Y2.size _
        clear hK K hHeld
        have hHeld := hHeld'
        clear hHeld'
        (try simp only [Act.put, List.setIfInBounds_toArray, List.set_cons_zero, List.set_cons_succ])
        obtain ⟨v3, hU3⟩ : ∃ u, u = v2.alloc (.cells #[.int .i64 0] 3) := ⟨_, rfl⟩
        have hb3 : Below v2.heap.size v2 v3 := by rw [hU3]; exact (Below.refl _ _).alloc (Nat.le_refl _) _
        have Y3 := Y2.trans (hb3.mono Y2.size)
        have s3 : v2.heap.size < v3.heap.size := by rw [hU3]; simp
        have a3 : At v3 (some ⟨v2.heap.size, 0, none⟩) [0] := by rw [hU3]; exact at_one _ _ _
        have o3 := owns_below o2 hb3
        rw [← hU3]
        clear hU3 hb3
        refine wpAnyH_ready (rs := [8]) (by kernel_rfl) (by simp) ?_
        refine AllReadyH.cons (o := ?_) ?_ (fun K hK => ?_) AllReadyH.nil
        rotate_left
        · (simp only [List.getElem?_toArray, List.getElem?_cons_zero, List.getElem?_cons_succ]; rfl)
        refine stepA_all rfl (.tmp 67) (.tmp 68) 22 rfl U.heap.size 3 i0 (.int .i64 0) 8 Try.underlying22 hi0 hz0 hz1 hz2 rfl (.slice r2 v d2) v (tl.map (.int .i64)) (by simp [Act.eval]) o3 (some ⟨v2.heap.size, 0, none⟩) 1 1 [0] (by simp [Act.eval]) rfl a3 (fun h => by cases h) (by unfold maxLen; omega) (by omega) Y3.size ?_
        intro r4 d4 v4 o4 hg4 ht4
        have Y4 := Y3.grown hg4 Y3.size (fun j hj => (o3.lt j hj).1)
        have zg4 := hg4.size
        clear hg4 ht4
        refine hK.out _ _ ?_ (fun hHeld' => ?_)
        · (try dsimp only)
          exact Y4
        clear hK K hHeld
        have hHeld := hHeld'
        clear hHeld'
        (try simp only [Act.put, List.setIfInBounds_toArray, List.set_cons_zero, List.set_cons_succ])
        refine wpAnyH_ready (rs := [9]) (by kernel_rfl) (by simp) ?_
        refine AllReadyH.cons (o := ?_) ?_ (fun K hK => ?_) AllReadyH.nil
        rotate_left
        · (simp only [List.getElem?_toArray, List.getElem?_cons_zero, List.getElem?_cons_succ]; rfl)
        go_simp
        go_at_call 67
        refine (KM.out 0 r4 d4 v4 Y4 o4).mono ?_
        rintro e vf ⟨hret, hbf⟩
        have Yf := Y4.trans (hbf.mono Y4.size)
        rw [← HMF.out] at hret
        cases hO : mapF qh ph qz pz (k + 1) tl with
        | none =>
          rw [hO] at hret
          have hret : e = .returned (.tuple #[.slice none 0 0, .bool false]) := hret
          subst hret
          clear hbf
          refine hK.out _ _ ?_ (fun hHeld' => ?_)
          · (try dsimp only)
            exact Yf
          clear hK K hHeld
          have hHeld := hHeld'
          clear hHeld'
          (try simp only [Act.put, List.setIfInBounds_toArray, List.set_cons_zero, List.set_cons_succ])
          refine tk 10 ?_
          refine tk 11 ?_
          refine tk 12 ?_
          refine tk 13 ?_
          refine wpAnyH_done (by kernel_rfl) ?_ _
          (try go_wp2_with fail)
          refine bodyPost_ret (v := .tuple #[.slice none 0 0, .bool false]) (by simp [results, Try.results67, go_sem]) rfl ⟨?_, BU.trans (Yf.mono BU.size)⟩
          rw [hO]
          exact rfl
        | some r =>
          rw [hO] at hret
          obtain ⟨ra, rd, rfl, horr⟩ := hret
          have HOR := Hid.mk (owns_mono horr Y4.size)
          clear horr
          clear hbf
          refine hK.out _ _ ?_ (fun hHeld' => ?_)
          · (try dsimp only)
            exact Yf
          clear hK K hHeld
          have hHeld := hHeld'
          clear hHeld'
          (try simp only [Act.put, List.setIfInBounds_toArray, List.set_cons_zero, List.set_cons_succ])
          refine tk 10 ?_
          refine tk 11 ?_
          refine tk 12 ?_
          refine tk 13 ?_
          refine wpAnyH_done (by kernel_rfl) ?_ _
          (try go_wp2_with fail)
          refine bodyPost_ret (v := .tuple #[.slice ra 6 rd, .bool true]) (by simp [results, Try.results67, go_sem]) rfl ⟨?_, BU.trans (Yf.mono BU.size)⟩
          rw [hO]
          exact ⟨ra, rd, rfl, owns_mono HOR.out BU.size⟩
      refine AllReadyH.cons (o := ?_) ?_ (fun K hK => ?_) AllReadyH.nil
      rotate_left
      · (simp only [List.getElem?_toArray, List.getElem?_cons_zero, List.getElem?_cons_succ]; rfl)
      go_simp
      (try go_wp2_with fail)
      refine hK.out _ _ ?_ (fun hHeld' => ?_)
      · (try dsimp only)
        exact Y1.alloc Y1.size _
      clear hK K hHeld
      have hHeld := hHeld'
      clear hHeld'
      (try simp only [Act.put, List.setIfInBounds_toArray, List.set_cons_zero, List.set_cons_succ])
      obtain ⟨v5, hU5⟩ : ∃ u, u = v1.alloc (.cells #[.int .i64 0] 3) := ⟨_, rfl⟩
      have hb5 : Below v1.heap.size v1 v5 := by rw [hU5]; exact (Below.refl _ _).alloc (Nat.le_refl _) _
      have Y5 := Y1.trans (hb5.mono Y1.size)
      have s5 : v1.heap.size < v5.heap.size := by rw [hU5]; simp
      have a5 : At v5 (some ⟨v1.heap.size, 0, none⟩) [0] := by rw [hU5]; exact at_one _ _ _
      have o5 := owns_below o1 hb5
      rw [← hU5]
      clear hU5 hb5
      refine wpAnyH_ready (rs := [6]) (by kernel_rfl) (by simp) ?_
      refine AllReadyH.cons (o := ?_) ?_ (fun K hK => ?_) AllReadyH.nil
      rotate_left
      · (simp only [List.getElem?_toArray, List.getElem?_cons_zero, List.getElem?_cons_succ]; rfl)
      refine stepA_all rfl (.tmp 65) (.tmp 66) 22 rfl U.heap.size 3 i0 (.int .i64 0) 8 Try.underlying22 hi0 hz0 hz1 hz2 rfl (.slice (some ⟨u0.heap.size, 0, none⟩) 0 0) 0 [] (by simp [Act.eval]) o5 ta v tc tl (by simp [Act.eval]) HTZ.out (At.below HTU.out Y5) hnil (by unfold maxLen; omega) (by omega) Y5.size ?_
      intro r6 d6 v6 o6 hg6 ht6
      simp only [Nat.zero_add, List.nil_append] at o6 ht6 ⊢
      have Y6 := Y5.grown hg6 Y5.size (fun j hj => (o5.lt j hj).1)
      have a6 := atA_far a5 hg6 (fun e => by simp [Value.ownBlock] at e; omega)
      have zg6 := hg6.size
      clear hg6 ht6
      refine hK.out _ _ ?_ (fun hHeld' => ?_)
      · (try dsimp only)
        exact Y6
      clear hK K hHeld
      have hHeld := hHeld'
      clear hHeld'
      (try simp only [Act.put, List.setIfInBounds_toArray, List.set_cons_zero, List.set_cons_succ])
      refine wpAnyH_ready (rs := [8]) (by kernel_rfl) (by simp) ?_
      refine AllReadyH.cons (o := ?_) ?_ (fun K hK => ?_) AllReadyH.nil
      rotate_left
      · (simp only [List.getElem?_toArray, List.getElem?_cons_zero, List.getElem?_cons_succ]; rfl)
      refine stepA_all rfl (.tmp 67) (.tmp 68) 22 rfl U.heap.size 3 i0 (.int .i64 0) 8 Try.underlying22 hi0 hz0 hz1 hz2 rfl (.slice r6 v d6) v (tl.map (.int .i64)) (by simp [Act.eval]) o6 (some ⟨v1.heap.size, 0, none⟩) 1 1 [0] (by simp [Act.eval]) rfl a6 (fun h => by cases h) (by unfold maxLen; omega) (by omega) Y6.size ?_
      intro r7 d7 v7 o7 hg7 ht7
      have Y7 := Y6.grown hg7 Y6.size (fun j hj => (o6.lt j hj).1)
      have zg7 := hg7.size
      clear hg7 ht7
      refine hK.out _ _ ?_ (fun hHeld' => ?_)
      · (try dsimp only)
        exact Y7
      clear hK K hHeld
      have hHeld := hHeld'
      clear hHeld'
      (try simp only [Act.put, List.setIfInBounds_toArray, List.set_cons_zero, List.set_cons_succ])
      refine wpAnyH_ready (rs := [9]) (by kernel_rfl) (by simp) ?_
      refine AllReadyH.cons (o := ?_) ?_ (fun K hK => ?_) AllReadyH.nil
      rotate_left
      · (simp only [List.getElem?_toArray, List.getElem?_cons_zero, List.getElem?_cons_succ]; rfl)
      go_simp
      go_at_call 67
      refine (KM.out 0 r7 d7 v7 Y7 o7).mono ?_
      rintro e vf ⟨hret, hbf⟩
      have Yf := Y7.trans (hbf.mono Y7.size)
      rw [← HMF.out] at hret
      cases hO : mapF qh ph qz pz (k + 1) tl with
      | none =>
        rw [hO] at hret
        have hret : e = .returned (.tuple #[.slice none 0 0, .bool false]) := hret
        subst hret
        clear hbf
        refine hK.out _ _ ?_ (fun hHeld' => ?_)
        · (try dsimp only)
          exact Yf
        clear hK K hHeld
        have hHeld := hHeld'
        clear hHeld'
        (try simp only [Act.put, List.setIfInBounds_toArray, List.set_cons_zero, List.set_cons_succ])
        refine tk 10 ?_
        refine tk 11 ?_
        refine tk 12 ?_
        refine tk 13 ?_
        refine wpAnyH_done (by kernel_rfl) ?_ _
        (try go_wp2_with fail)
        refine bodyPost_ret (v := .tuple #[.slice none 0 0, .bool false]) (by simp [results, Try.results67, go_sem]) rfl ⟨?_, BU.trans (Yf.mono BU.size)⟩
        rw [hO]
        exact rfl
      | some r =>
        rw [hO] at hret
        obtain ⟨ra, rd, rfl, horr⟩ := hret
        have HOR := Hid.mk (owns_mono horr Y7.size)
        clear horr
        clear hbf
        refine hK.out _ _ ?_ (fun hHeld' => ?_)
        · (try dsimp only)
          exact Yf
        clear hK K hHeld
        have hHeld := hHeld'
        clear hHeld'
        (try simp only [Act.put, List.setIfInBounds_toArray, List.set_cons_zero, List.set_cons_succ])
        refine tk 10 ?_
        refine tk 11 ?_
        refine tk 12 ?_
        refine tk 13 ?_
        refine wpAnyH_done (by kernel_rfl) ?_ _
        (try go_wp2_with fail)
        refine bodyPost_ret (v := .tuple #[.slice ra 6 rd, .bool true]) (by simp [results, Try.results67, go_sem]) rfl ⟨?_, BU.trans (Yf.mono BU.size)⟩
        rw [hO]
        exact ⟨ra, rd, rfl, owns_mono HOR.out BU.size⟩
    refine AllReadyH.cons (o := ?_) ?_ (fun K hK => ?_) AllReadyH.nil
    rotate_left
    · (simp only [List.getElem?_toArray, List.getElem?_cons_zero, List.getElem?_cons_succ]; rfl)
    go_simp
    (try go_wp2_with fail)
    refine hK.out _ _ ?_ (fun hHeld' => ?_)
    · (try dsimp only)
      exact Y0.alloc Y0.size _
    clear hK K hHeld
    have hHeld := hHeld'
    clear hHeld'
    (try simp only [Act.put, List.setIfInBounds_toArray, List.set_cons_zero, List.set_cons_succ])
    obtain ⟨v8, hU8⟩ : ∃ u, u = u0.alloc (.cells #[.int .i64 0] 3) := ⟨_, rfl⟩
    have hb8 : Below u0.heap.size u0 v8 := by rw [hU8]; exact (Below.refl _ _).alloc (Nat.le_refl _) _
    have Y8 := Y0.trans (hb8.mono Y0.size)
    have s8 : u0.heap.size < v8.heap.size := by rw [hU8]; simp
    have a8 : At v8 (some ⟨u0.heap.size, 0, none⟩) [0] := by rw [hU8]; exact at_one _ _ _
    rw [← hU8]
    clear hU8 hb8
    refine wpAnyH_ready (rs := [4]) (by kernel_rfl) (by simp) ?_
    refine AllReadyH.cons (o := ?_) ?_ (fun K hK => ?_) AllReadyH.nil
    rotate_left
    · (simp only [List.getElem?_toArray, List.getElem?_cons_zero, List.getElem?_cons_succ]; rfl)
    go_simp
    (try go_wp2_with fail)
    refine hK.out _ _ ?_ (fun hHeld' => ?_)
    · (try dsimp only)
      exact Y8.alloc Y8.size _
    clear hK K hHeld
    have hHeld := hHeld'
    clear hHeld'
    (try simp only [Act.put, List.setIfInBounds_toArray, List.set_cons_zero, List.set_cons_succ])
    obtain ⟨v9, hU9⟩ : ∃ u, u = v8.alloc (.cells #[] 3) := ⟨_, rfl⟩
    have hb9 : Below v8.heap.size v8 v9 := by rw [hU9]; exact (Below.refl _ _).alloc (Nat.le_refl _) _
    have Y9 := Y8.trans (hb9.mono Y8.size)
    have s9 : v8.heap.size < v9.heap.size := by rw [hU9]; simp
    have o9 : v9.ownsRow U.heap.size 3 1 (.slice (some ⟨v8.heap.size, 0, none⟩) 0 0) 0 [] := by rw [hU9]; exact owns_mono (own_void v8 3 1) Y8.size
    have a9 := a8.below hb9
    rw [← hU9]
    clear hU9 hb9
    refine wpAnyH_ready (rs := [6]) (by kernel_rfl) (by simp) ?_
    refine AllReadyH.cons (o := ?_) ?_ (fun K hK => ?_) AllReadyH.nil
    rotate_left
    · (simp only [List.getElem?_toArray, List.getElem?_cons_zero, List.getElem?_cons_succ]; rfl)
    refine stepA_all rfl (.tmp 65) (.tmp 66) 22 rfl U.heap.size 3 i0 (.int .i64 0) 8 Try.underlying22 hi0 hz0 hz1 hz2 rfl (.slice (some ⟨v8.heap.size, 0, none⟩) 0 0) 0 [] (by simp [Act.eval]) o9 ta v tc tl (by simp [Act.eval]) HTZ.out (At.below HTU.out Y9) hnil (by unfold maxLen; omega) (by omega) Y9.size ?_
    intro r10 d10 v10 o10 hg10 ht10
    simp only [Nat.zero_add, List.nil_append] at o10 ht10 ⊢
    have Y10 := Y9.grown hg10 Y9.size (fun j hj => (o9.lt j hj).1)
    have a10 := atA_far a9 hg10 (fun e => by simp [Value.ownBlock] at e; omega)
    have zg10 := hg10.size
    clear hg10 ht10
    refine hK.out _ _ ?_ (fun hHeld' => ?_)
    · (try dsimp only)
      exact Y10
    clear hK K hHeld
    have hHeld := hHeld'
    clear hHeld'
    (try simp only [Act.put, List.setIfInBounds_toArray, List.set_cons_zero, List.set_cons_succ])
    refine wpAnyH_ready (rs := [8]) (by kernel_rfl) (by simp) ?_
    refine AllReadyH.cons (o := ?_) ?_ (fun K hK => ?_) AllReadyH.nil
    rotate_left
    · (simp only [List.getElem?_toArray, List.getElem?_cons_zero, List.getElem?_cons_succ]; rfl)
    refine stepA_all rfl (.tmp 67) (.tmp 68) 22 rfl U.heap.size 3 i0 (.int .i64 0) 8 Try.underlying22 hi0 hz0 hz1 hz2 rfl (.slice r10 v d10) v (tl.map (.int .i64)) (by simp [Act.eval]) o10 (some ⟨u0.heap.size, 0, none⟩) 1 1 [0] (by simp [Act.eval]) rfl a10 (fun h => by cases h) (by unfold maxLen; omega) (by omega) Y10.size ?_
    intro r11 d11 v11 o11 hg11 ht11
    have Y11 := Y10.grown hg11 Y10.size (fun j hj => (o10.lt j hj).1)
    have zg11 := hg11.size
    clear hg11 ht11
    refine hK.out _ _ ?_ (fun hHeld' => ?_)
    · (try dsimp only)
      exact Y11
    clear hK K hHeld
    have hHeld := hHeld'
    clear hHeld'
    (try simp only [Act.put, List.setIfInBounds_toArray, List.set_cons_zero, List.set_cons_succ])
    refine wpAnyH_ready (rs := [9]) (by kernel_rfl) (by simp) ?_
    refine AllReadyH.cons (o := ?_) ?_ (fun K hK => ?_) AllReadyH.nil
    rotate_left
    · (simp only [List.getElem?_toArray, List.getElem?_cons_zero, List.getElem?_cons_succ]; rfl)
    go_simp
    go_at_call 67
    refine (KM.out 0 r11 d11 v11 Y11 o11).mono ?_
    rintro e vf ⟨hret, hbf⟩
    have Yf := Y11.trans (hbf.mono Y11.size)
    rw [← HMF.out] at hret
    cases hO : mapF qh ph qz pz (k + 1) tl with
    | none =>
      rw [hO] at hret
      have hret : e = .returned (.tuple #[.slice none 0 0, .bool false]) := hret
      subst hret
      clear hbf
      refine hK.out _ _ ?_ (fun hHeld' => ?_)
      · (try dsimp only)
        exact Yf
      clear hK K hHeld
      have hHeld := hHeld'
      clear hHeld'
      (try simp only [Act.put, List.setIfInBounds_toArray, List.set_cons_zero, List.set_cons_succ])
      refine tk 10 ?_
      refine tk 11 ?_
      refine tk 12 ?_
      refine tk 13 ?_
      refine wpAnyH_done (by kernel_rfl) ?_ _
      (try go_wp2_with fail)
      refine bodyPost_ret (v := .tuple #[.slice none 0 0, .bool false]) (by simp [results, Try.results67, go_sem]) rfl ⟨?_, BU.trans (Yf.mono BU.size)⟩
      rw [hO]
      exact rfl
    | some r =>
      rw [hO] at hret
      obtain ⟨ra, rd, rfl, horr⟩ := hret
      have HOR := Hid.mk (owns_mono horr Y11.size)
      clear horr
      clear hbf
      refine hK.out _ _ ?_ (fun hHeld' => ?_)
      · (try dsimp only)
        exact Yf
      clear hK K hHeld
      have hHeld := hHeld'
      clear hHeld'
      (try simp only [Act.put, List.setIfInBounds_toArray, List.set_cons_zero, List.set_cons_succ])
      refine tk 10 ?_
      refine tk 11 ?_
      refine tk 12 ?_
      refine tk 13 ?_
      refine wpAnyH_done (by kernel_rfl) ?_ _
      (try go_wp2_with fail)
      refine bodyPost_ret (v := .tuple #[.slice ra 6 rd, .bool true]) (by simp [results, Try.results67, go_sem]) rfl ⟨?_, BU.trans (Yf.mono BU.size)⟩
      rw [hO]
      exact ⟨ra, rd, rfl, owns_mono HOR.out BU.size⟩

theorem l10Map_any (pha : Option Addr) (phn phc : Nat) (ph : List Int) (pa : Option Addr) (pn pc : Nat) (pz : List Atm) (qha : Option Addr) (qhn qhc : Nat) (qh : List Int) (qa : Option Addr) (qn qc : Nat) (qz : List Atm) : ∀ (k v : Nat), v + k = 6 → ∀ (ta : Option Addr) (tc : Nat) (tl : List Int) (w : World), ph.length = phn → phn ≤ 9223372036854775807 → At w pha ph → pz.length = pn → pn ≤ 9223372036854775807 → AtQ w pa pz → qh.length = qhn → qhn ≤ 9223372036854775807 → At w qha qh → qz.length = qn → qn ≤ 9223372036854775807 → AtQ w qa qz → InV qh qz → qhn ≤ phn → Fit qz pz → (∀ a ∈ pz, ∀ v ∈ a.2, (0 : Int) ≤ v ∧ v < 6) → tl.length = v → At w ta tl → (ta = none → tc = 0) →
    Calls Try.prog 67 #[.agg #[.slice pha phn phc, .slice pa pn pc], .agg #[.slice qha qhn qhc, .slice qa qn qc], .int .i64 (v : Nat), .slice ta v tc] w fun e w' => MapRet (mapF qh ph qz pz k tl) e w' w.heap.size ∧ Below w.heap.size w w' := by
  intro k
  induction k with
  | zero =>
    intro v hv ta tc tl w hph hpb hpha hpz hpzb hpa hqh hqb hqha hqz hqzb hqa hI hle hfit hIp htz hta hnil
    obtain rfl : v = 6 := by omega
    exact l10Map_end pha phn phc ph pa pn pc pz qha qhn qhc qh qa qn qc qz ta tc tl w hph hpb hpha hpz hpzb hpa hqh hqb hqha hqz hqzb hqa hI hle hfit htz hta hnil
  | succ k ihk =>
    intro v hv ta tc tl w hph hpb hpha hpz hpzb hpa hqh hqb hqha hqz hqzb hqa hI hle hfit hIp htz hta hnil
    exact l10Map_step pha phn phc ph pa pn pc pz qha qhn qhc qh qa qn qc qz k v hv ta tc tl w hph hpb hpha hpz hpzb hpa hqh hqb hqha hqz hqzb hqa hI hle hfit hIp htz hta hnil (fun t' c' tl' w' hb h1 h2 h3 =>
      ihk (v + 1) (by omega) t' c' tl' w' hph hpb (At.below hpha hb) hpz hpzb (AtSl.below hpa hb) hqh hqb (At.below hqha hb) hqz hqzb (AtSl.below hqa hb) hI hle hfit hIp h1 h2 h3)

end Go.Proofs.Ytociphdhkjoofaa
