/- Contracts of spec.l1Text, spec.RowText and impl.RowText: a row's text. -/
import Derived.Test.YtaaefdddibdenaaDoorTextN
import Derived.Test.YtaaefdddibdenaaDoorGoodRow
import Derived.Test.YtaaefdddibdenaaDoorShelf
import Derived.Lib.LaidTab
namespace Go.Proofs.YtaaefdddibdenaaDoor
open Go.RowKit

theorem Tryd.infoString : (Tryd.prog.info? 9).map (fun i => (i.zero, i.size, i.bytes)) = some (some (.string ⟨#[]⟩), 1, 16) := by kernel_rfl

/-- The cells' numerals with a comma between. -/
def textOf (zs : List Int) : List UInt8 := Lib.join (zs.map Lib.itoa) [44]
theorem join_snoc (xs : List (List UInt8)) (y sep : List UInt8) (h : xs ≠ []) : Lib.join (xs ++ [y]) sep = Lib.join xs sep ++ sep ++ y := by
  cases xs with
  | nil => exact absurd rfl h
  | cons x r =>
    rw [List.cons_append, Lib.join_cons, Lib.join_cons]
    simp [Lib.joinTail, List.append_assoc]
theorem textOf_first (zs : List Int) (h : 0 < zs.length) : textOf (zs.take 1) = Lib.itoa (zs.getD 0 0) := by
  cases zs with
  | nil => simp at h
  | cons z r => simp [textOf, Lib.join_one]
theorem textOf_next (zs : List Int) (k : Nat) (h : k < zs.length) (h0 : 0 < k) : textOf (zs.take (k + 1)) = textOf (zs.take k) ++ [44] ++ Lib.itoa (zs.getD k 0) := by
  unfold textOf
  rw [List.take_succ_eq_append_getElem h, List.map_append, List.map_cons, List.map_nil, join_snoc]
  · simp [List.getD, h]
  · intro e
    have h1 : ((zs.take k).map Lib.itoa).length = 0 := by rw [e]; rfl
    rw [List.length_map, List.length_take] at h1
    omega
theorem textOf_len (zs : List Int) (h : ∀ z ∈ zs, -100000 ≤ z ∧ z ≤ 100000) : (textOf zs).length ≤ 22 * zs.length := by
  have hl : ∀ ys : List Int, (∀ z ∈ ys, -100000 ≤ z ∧ z ≤ 100000) → Lib.lens (ys.map Lib.itoa) ≤ 21 * ys.length := by
    intro ys hy
    induction ys with
    | nil => simp [Lib.lens]
    | cons y r ih =>
      have h1 := ih fun z hz => hy z (by simp [hz])
      have h2 := hy y (by simp)
      have h3 := Lib.itoa_length_le y (by omega) (by omega)
      simp only [Lib.lens, List.map_cons, List.sum_cons, List.length_cons] at h1 ⊢
      omega
  cases zs with
  | nil => simp [textOf, Lib.join_nil]
  | cons z r =>
    have h1 := hl (z :: r) h
    unfold textOf
    rw [List.map_cons] at h1 ⊢
    rw [Lib.join_length]
    simp only [List.length_cons, List.length_nil, List.length_map] at h1 ⊢
    omega
theorem good_each {zs : List Int} (h : good zs = true) : ∀ z ∈ zs, -100000 ≤ z ∧ z ≤ 100000 := fun z hz => good_mem h z hz
theorem bytes_add (x y : List UInt8) : (⟨(x ++ y).toArray⟩ : ByteArray) = ⟨x.toArray⟩ ++ ⟨y.toArray⟩ := by
  apply ByteArray.ext
  simp [ByteArray.data_append]

set_option maxRecDepth 100000 in
set_option maxHeartbeats 2000000 in
theorem l1Text_any (a : Option Addr) (n c : Nat) (zs : List Int) (w : World) (hz : zs.length = n) (hg : good zs = true) (ha : At w a zs) :
    Calls Tryd.prog 11 #[.agg #[.slice a n c]] w fun e w' => e = .returned (.string ⟨(textOf zs).toArray⟩) ∧ Below w.heap.size w w' := by
  have l6 : n ≤ 6 := by have := good_len hg; omega
  have gx := Hid.mk fun k (hk : k < n) => good_cell hg k (by omega)
  have gl : Hid (∀ k, k ≤ n → (textOf (zs.take k)).length ≤ 132) := fun k hk => by
    have := textOf_len (zs.take k) fun z hz' => good_each hg z (List.mem_of_mem_take hz')
    rw [List.length_take] at this
    omega
  have H1 := Hid.mk (textOf_first zs)
  have H2 := Hid.mk (textOf_next zs)
  obtain ⟨W, hW⟩ : ∃ W, W = w.alloc (.cells #[.slice a n c] 28) := ⟨_, rfl⟩
  have B : Below w.heap.size w W := by rw [hW]; exact (Below.refl _ _).alloc (Nat.le_refl _) _
  have HA : At W a zs := ha.below B
  clear hg ha
  go_enter Tryd.func11, Tryd.ntmps11
  go_wp2
  rw [← hW]
  clear hW
  go_loopw [3, 9] (fun s i wr => ∃ k : Nat, k ≤ n ∧ i = .int .i64 k ∧ s = .string ⟨(textOf (zs.take k)).toArray⟩ ∧ Below W.heap.size W wr) (fun _ i _ => n - (intOf i).toNat)
  case atStart => exact ⟨0, Nat.zero_le _, rfl, by simp [textOf, Lib.join_nil], Below.refl _ _⟩
  case round =>
    obtain ⟨k, hk, rfl, rfl, hbw⟩ := hrel
    by_cases hlt : k < n
    · obtain ⟨b, off, rfl, hb, hc⟩ := (HA.below hbw).some (by omega)
      have hcx := hc k (by omega)
      obtain ⟨glo, ghi⟩ := gx.out k hlt
      have hki : (k : Int) < (n : Int) := by omega
      have hl0 := gl.out k hk
      by_cases k0 : k = 0
      · subst k0
        have HT : Hid ((⟨(textOf (zs.take 1)).toArray⟩ : ByteArray) = ⟨#[]⟩ ++ ⟨(Lib.itoa (zs.getD 0 0)).toArray⟩) := by
          show _ = _
          rw [H1.out (by omega)]
          apply ByteArray.ext
          simp [ByteArray.data_append]
        have e0 : textOf (zs.take 0) = [] := by simp [textOf, Lib.join_nil]
        rw [e0]
        rw [Nat.add_zero] at hcx
        generalize zs.getD 0 0 = z at *
        have hil := Lib.itoa_length_le z (by omega) (by omega)
        have hno : ¬ 9223372036854775807 < (Lib.itoa z).length := by omega
        have hno' : ¬ 9223372036854775807 < 0 + (Lib.itoa z).length := by omega
        clear hc
        go_wp2_with fail
        refine (l1Num_any z glo ghi _).mono ?_
        rintro e w2 ⟨rfl, hb2⟩
        have HB := Hid.mk (hbw.trans (hb2.mono hbw.size))
        clear hb2 hbw hcx
        go_wp2
        go_roundw
        case rel => exact ⟨1, by omega, by go_num, by first | (rw [HT.out]; done) | (rw [HT.out]; rfl) | (rw [HT.out]; simp; done), HB.out⟩
        case measure => simp [intOf]; omega
      · have kp : 0 < k := by omega
        have kpi : (0 : Int) < (k : Int) := by omega
        have hd : decide (0 < k) = true := by simp; omega
        have HT : Hid ((⟨(textOf (zs.take (k + 1))).toArray⟩ : ByteArray) = ⟨(textOf (zs.take k)).toArray⟩ ++ ⟨#[44]⟩ ++ ⟨(Lib.itoa (zs.getD k 0)).toArray⟩) := by
          show _ = _
          rw [H2.out k (by omega) kp, bytes_add, bytes_add]
        generalize zs.getD k 0 = z at *
        generalize textOf (zs.take k) = t at *
        have hil := Lib.itoa_length_le z (by omega) (by omega)
        have hno1 : ¬ 9223372036854775807 < t.length + 1 := by omega
        have hno2 : ¬ 9223372036854775807 < t.length + 1 + (Lib.itoa z).length := by omega
        clear hc
        go_wp2_with fail
        refine (l1Num_any z glo ghi _).mono ?_
        rintro e w2 ⟨rfl, hb2⟩
        have HB := Hid.mk (hbw.trans (hb2.mono hbw.size))
        clear hb2 hbw hcx
        go_wp2
        go_roundw
        case rel => exact ⟨k + 1, by omega, by go_num, by first | (rw [HT.out]; done) | (rw [HT.out]; rfl) | (rw [HT.out]; simp; done), HB.out⟩
        case measure => simp [intOf]; omega
    · obtain rfl : k = n := by omega
      rw [show zs.take k = zs by rw [← hz, List.take_length]]
      go_wp2
      go_ret
      exact ⟨rfl, B.trans (hbw.mono B.size)⟩

/-- The text that RowText answers. -/
def rowTxt (zs : List Int) : ByteArray := if good zs then ⟨(textOf zs).toArray⟩ else ByteArray.empty

set_option maxRecDepth 100000 in
set_option maxHeartbeats 2000000 in
theorem specRowText (a : Option Addr) (n c : Nat) (zs : List Int) (w : World) (hz : zs.length = n) (hn : n ≤ 9223372036854775807) (ha : At w a zs) :
    Calls Tryd.prog 5 #[.agg #[.slice a n c]] w fun e w' => e = .returned (.tuple #[.string (rowTxt zs), .bool (good zs)]) ∧ Below w.heap.size w w' := by
  obtain ⟨W, hW⟩ : ∃ W, W = w.alloc (.cells #[.slice a n c] 28) := ⟨_, rfl⟩
  have B : Below w.heap.size w W := by rw [hW]; exact (Below.refl _ _).alloc (Nat.le_refl _) _
  have HA : At W a zs := ha.below B
  have c1 : W.cell? ⟨w.heap.size, 0, none⟩ = some (.slice a n c) := by rw [hW]; simp
  unfold rowTxt
  cases hg : good zs with
  | false =>
    have HG : Hid (good zs = false) := hg
    clear hg ha
    go_enter Tryd.func5, Tryd.ntmps5
    go_wp2_with fail
    rw [← hW]
    refine (specGoodRow_any _ _ _ zs _ hz hn HA).mono ?_
    rintro e w1 ⟨rfl, hb1⟩
    rw [HG.out]
    clear hW
    go_wp2
    go_ret2
    exact ⟨by simp; rfl, B.trans (hb1.mono B.size)⟩
  | true =>
    have HG : Hid (good zs = true) := hg
    clear hg ha
    go_enter Tryd.func5, Tryd.ntmps5
    go_wp2_with fail
    rw [← hW]
    refine (specGoodRow_any _ _ _ zs _ hz hn HA).mono ?_
    rintro e w1 ⟨rfl, hb1⟩
    rw [HG.out]
    have d1 := cell_later hb1 c1
    have B1 := B.trans (hb1.mono B.size)
    have HA1 := HA.below hb1
    clear hW HA hb1 c1 B
    go_wp2_with fail
    refine (l1Text_any _ _ _ zs _ hz HG.out HA1).mono ?_
    rintro e w2 ⟨rfl, hb2⟩
    go_wp2
    go_ret2
    exact ⟨by simp, B1.trans (hb2.mono B1.size)⟩

theorem TabIs.below {P : Program} {w w' : World} {name : String} {k : IntKind} {ns : List Int} (h : Lib.TabIs P w name k ns) (hb : Below w.heap.size w w') : Lib.TabIs P w' name k ns := by
  unfold Lib.TabIs World.var? at *
  cases hg : P.globalNamed name with
  | none => rw [hg] at h; cases h
  | some g =>
    rw [hg] at h
    simp only [Option.bind_some] at h ⊢
    have hlt : g < w.heap.size := by
      by_cases hl : g < w.heap.size
      · exact hl
      · rw [Array.getElem?_eq_none (by omega)] at h
        cases h
    rw [hb.block g hlt]
    exact h

theorem below_grow' (w : World) (k : Nat) (os : Array Obj) : Below w.heap.size w (Go.Sort.grow (w.drewN k) os) :=
  ⟨rfl, rfl, rfl, by simp [Go.Sort.grow], fun i hi => by
    show ((w.drewN k).heap ++ os)[i]? = _
    rw [Array.getElem?_append_left (by show i < w.heap.size; omega)]
    rfl⟩
theorem toGrown' {w w' : World} (h : Below w.heap.size w w') : w.grownBy w' none := ⟨h.os, h.tape, h.output, h.size, fun k hk _ => h.block k hk⟩

def strV (z : Int) : Value := .string ⟨(Lib.itoa z).toArray⟩

set_option maxRecDepth 100000 in
set_option maxHeartbeats 4000000 in
theorem implRowText (a : Option Addr) (n c : Nat) (zs : List Int) (w : World) (hz : zs.length = n) (hn : n ≤ 9223372036854775807) (ha : At w a zs) (htab : Lib.TabIs Tryd.prog w "internal/strconv.uint64pow10" .u64 Lib.pow10Tab) :
    Calls Tryd.prog 7 #[.agg #[.slice a n c]] w fun e w' => e = .returned (.tuple #[.string (rowTxt zs), .bool (good zs)]) ∧ Below w.heap.size w w' := by
  obtain ⟨W, hW⟩ : ∃ W, W = w.alloc (.cells #[.slice a n c] 28) := ⟨_, rfl⟩
  have B : Below w.heap.size w W := by rw [hW]; exact (Below.refl _ _).alloc (Nat.le_refl _) _
  have HA : At W a zs := ha.below B
  have HT := Hid.mk (TabIs.below htab B)
  have c1 : W.cell? ⟨w.heap.size, 0, none⟩ = some (.slice a n c) := by rw [hW]; simp
  unfold rowTxt
  cases hg : good zs with
  | false =>
    have HG : Hid (good zs = false) := hg
    clear hg ha htab
    go_enter Tryd.func7, Tryd.ntmps7
    go_wp2_with fail
    rw [← hW]
    refine (implGoodRow_any _ _ _ zs _ hz hn HA).mono ?_
    rintro e w1 ⟨rfl, hb1⟩
    rw [HG.out]
    clear hW
    go_wp2
    go_ret2
    exact ⟨by simp; rfl, B.trans (hb1.mono B.size)⟩
  | true =>
    have HG : Hid (good zs = true) := hg
    have gx := Hid.mk fun k (hk : k < n) => good_cell hg k (by omega)
    have l6 : n ≤ 6 := by have := good_len hg; omega
    have HTL : Hid ((textOf zs).length ≤ 132) := by show _ ≤ _; have := textOf_len zs (good_each hg); omega
    obtain ⟨i0, hi, hz0, hz1, hz2⟩ := info_parts Tryd.infoString
    clear hg ha htab
    go_enter Tryd.func7, Tryd.ntmps7
    go_wp2_with fail
    rw [← hW]
    refine (implGoodRow_any _ _ _ zs _ hz hn HA).mono ?_
    rintro e w1 ⟨rfl, hb1⟩
    rw [HG.out]
    have d1 := cell_later hb1 c1
    have B1 := B.trans (hb1.mono B.size)
    have HA1 := HA.below hb1
    have HT1 := Hid.mk (TabIs.below HT.out hb1)
    clear hW HA hb1 c1 B HT
    go_wp2
    go_loopw [4, 13] (fun v i wr => ∃ k : Nat, k ≤ n ∧ i = .int .i64 k ∧ wr.ownsRow w1.heap.size 9 1 v k ((zs.take k).map strV) ∧ Below w1.heap.size w1 wr) (fun _ i _ => n - (intOf i).toNat)
    case atStart => exact ⟨0, Nat.zero_le _, rfl, World.ownsRow_nil _ _ _ _, Below.refl _ _⟩
    case round =>
      obtain ⟨k, hk, rfl, hown, hbw⟩ := hrel
      by_cases hlt : k < n
      · obtain ⟨b, off, rfl, hb, hc⟩ := (HA1.below hbw).some (by omega)
        have hcx := hc k (by omega)
        obtain ⟨glo, ghi⟩ := gx.out k hlt
        have hki : (k : Int) < (n : Int) := by omega
        have HS : Hid ((zs.take (k + 1)).map strV = (zs.take k).map strV ++ [strV (zs.getD k 0)]) := by
          show _ = _
          rw [List.take_succ_eq_append_getElem (show k < zs.length by omega), List.map_append]
          simp [List.getD, show k < zs.length by omega]
        generalize zs.getD k 0 = z at *
        have HTW := Hid.mk (TabIs.below HT1.out hbw)
        clear hc
        go_wp2_with fail
        refine (Tryd.strconv_Itoa z (by omega) (by omega) _ HTW.out).mono ?_
        rintro e w2 ⟨rfl, kk, os, hw2⟩
        have hb2 : Below wr.heap.size wr w2 := by rw [hw2]; exact below_grow' wr kk os
        have hown2 := hown.kept (toGrown' hb2) (by simp; exact Classical.em _)
        have hbw2 := hbw.trans (hb2.mono hbw.size)
        have z2 := hbw2.size
        clear hw2 hown hbw hb2 hcx
        go_wp2_with (at_builtin; refine wpList_append_own _ rfl (.tmp 17) (.tmp 20) 36 rfl w1.heap.size 9 i0 (.string ⟨#[]⟩) 1 16 Tryd.underlying36 hi hz0 hz1 hz2 rfl (by decide) _ _ _ rfl (hown2.alloc _) ⟨w2.heap.size, 0, none⟩ 1 1 [strV z] rfl rfl (news_at w2 _ _) (by simp; rfl) (by unfold maxLen; omega) (by omega) (by simp; omega) ?_)
        intro v' w3 hown' hgrow _
        have HO : Hid (w3.ownsRow w1.heap.size 9 1 v' (k + 1) ((zs.take (k + 1)).map strV)) := by
          show w3.ownsRow _ _ _ _ _ _
          rw [HS.out]
          first | exact hown' | (rw [List.map_take]; exact hown')
        have HB : Hid (Below w1.heap.size w1 w3) := (hbw2.alloc z2 _).grown hgrow (by simp; omega) (fun j hj => (hown2.lt j hj).1)
        clear hown' hgrow hown2
        go_wp2
        go_roundw
        case rel => exact ⟨k + 1, by omega, by go_num, HO.out, HB.out⟩
        case measure => simp [intOf]; omega
      · obtain rfl : k = n := by omega
        rw [show zs.take k = zs by rw [← hz, List.take_length]] at hown
        have BW := B1.trans (hbw.mono B1.size)
        rcases hown.2 with ⟨hv, h0⟩ | ⟨g, cap, cur, rfl, hjunk⟩
        · subst hv
          have he : zs = [] := List.eq_nil_of_length_eq_zero (by omega)
          have h0' : k = 0 := h0
          subst h0'
          clear hown
          go_wp2_with fail
          refine (Tryd.strings_Join_none _ _ _ _).mono ?_
          rintro e w2 ⟨rfl, rfl⟩
          go_wp2
          go_ret2
          exact ⟨by (try rw [he]); simp [textOf, Lib.join_nil], BW⟩
        · have hg1 : g < wr.heap.size := (hown.lt g rfl).2
          have hcap : k ≤ cap := hjunk.2.2.1
          clear hjunk
          obtain ⟨ss, hss⟩ : ∃ ss : List ByteArray, ss = zs.map fun z => ⟨(Lib.itoa z).toArray⟩ := ⟨_, rfl⟩
          have hsl : ss.length = k := by rw [hss]; simpa using hz
          have hcells : ∀ (j : Nat) x, ss[j]? = some x → wr.cell? ⟨g, 0 + j, none⟩ = some (.string x) := fun j x hx => by
            have hj : j < k := by
              have := (List.getElem?_eq_some_iff.1 hx).1
              omega
            rw [Nat.zero_add, hown.cellAt j (by omega)]
            rw [hss, List.getElem?_map] at hx
            rw [List.getElem?_map]
            cases hzj : zs[j]? with
            | none => rw [hzj] at hx; cases hx
            | some z => rw [hzj] at hx; cases hx; rfl
          have hjn : Lib.join (ss.map (·.data.toList)) (ByteArray.data ⟨#[44]⟩).toList = textOf zs := by
            rw [hss]
            unfold textOf
            simp [List.map_map, Function.comp_def]
          have hJ := Tryd.strings_Join g 0 cap ss ⟨#[44]⟩ wr hcells hg1 (by omega) (by omega) (by rw [hjn]; have := HTL.out; omega)
          rw [hjn, hsl] at hJ
          clear hcells hown hjn
          go_wp2_with fail
          refine hJ.mono ?_
          rintro e w2 ⟨rfl, hb2⟩
          go_wp2
          go_ret2
          exact ⟨by simp, BW.trans (hb2.mono BW.size)⟩

end Go.Proofs.YtaaefdddibdenaaDoor
