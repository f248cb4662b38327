/- Several texts of one proof, in build order: Chg, ChgB. -/
import Derived.Test.YtlfljfmhhnoinabGreatM13
import Derived.Test.YtlfljfmhhnoinabGreatM17
import Derived.Test.YtlfljfmhhnoinabGreatM19
import Derived.RangeFuncBox

/- The function that impl.productChanges hands back hands out the changes of a join. -/
namespace Go.Proofs.YtlfljfmhhnoinabGreat
open Go.RowKit Go.Shelf

/-- The changes of a join, one by one. -/
def chgK (f g : Nat → List WRow) (ps : List (List Int)) (k : Nat) : List WRow := jdW (sumK f k) (sumK g k) (f k) (g k) ps
theorem sumK_720 {q n : Nat} {f : Nat → List WRow} (h : ∀ k, k < n → Lst q 60 1000000 (f k)) (hn : n ≤ 12) (k : Nat) (hk : k < n) : Lst q 720 12000000 (sumK f k) := (sumK_lst h k (by omega)).mono (by omega) (by omega)

attribute [local go_sem] Oper.semAt_some in
set_option maxRecDepth 100000 in
set_option maxHeartbeats 4000000 in
theorem productChanges1_hands (T1 T2 T3 T4 T5 : Nat) (a1 a2 a3 a4 : Option Addr) (n c1 c2 c3 c4 q q' : Nat) (f g : Nat → List WRow) (bs1 bs2 bs3 bs4 : List Nat) (f5 f3 f4 f6 : Nat) (ps : List (List Int)) (w : World) (hn : n ≤ 12) (hL : ∀ k, k < n → Lst q 60 1000000 (f k)) (hL' : ∀ k, k < n → Lst q' 60 1000000 (g k))
    (t1 : w.cell? ⟨T1, 0, none⟩ = some (.slice a1 n c1)) (t2 : w.cell? ⟨T2, 0, none⟩ = some (.slice a2 n c2)) (t3 : w.cell? ⟨T3, 0, none⟩ = some (.slice a3 n c3)) (t4 : w.cell? ⟨T4, 0, none⟩ = some (.slice a4 n c4)) (t5 : w.cell? ⟨T5, 0, none⟩ = some (.func (.func 47) #[] #[.pointer (some ⟨f5, 0, none⟩), .pointer (some ⟨f3, 0, none⟩), .pointer (some ⟨f4, 0, none⟩), .pointer (some ⟨f6, 0, none⟩)]))
    (ha1 : AtC w a1 q 60 (upto f n) bs1) (ha2 : AtC w a2 q 720 (upto (sumK f) n) bs2) (ha3 : AtC w a3 q' 720 (upto (sumK g) n) bs3) (ha4 : AtC w a4 q' 60 (upto g n) bs4) (hmt : MatchAt w f5 f3 f4 f6 q q' ps) (hok : pairsOk ps q q' = true) (hjc : joinC q q' ps ≤ 6) :
    HandsM Tryz.prog 54 #[.pointer (some ⟨T1, 0, none⟩), .pointer (some ⟨T2, 0, none⟩), .pointer (some ⟨T3, 0, none⟩), .pointer (some ⟨T4, 0, none⟩), .pointer (some ⟨T5, 0, none⟩)] (joinC q q' ps) 90000 (upto (chgK f g ps) n) w := by
  intro n₀ l J Jx W h1 h2 hb hJ hJx hY h0
  have hun := upto_length (chgK f g ps) n
  rw [hun] at hY ⊢
  refine callsIn_of_wp Tryz.func54 rfl trivial ?_
  simp only [Tryz.ntmps54, List.size_toArray, List.length_cons, List.length_nil, Nat.reduceAdd, Nat.reduceSub, Array.replicate_succ, Array.replicate_zero, List.push_toArray, List.append_toArray, List.nil_append, List.cons_append]
  have hTW := cell_later hb t1
  have HLf := Hid.mk hL
  have HLg := Hid.mk hL'
  clear hL hL'
  gi_wp2
  gi_loopw [10] (fun i wr => ∃ (k : Nat), k ≤ n ∧ i = .int .i64 k ∧ J k wr ∧ Below n₀ W wr) (fun i _ => n - (intOf i).toNat)
  case atStart => exact ⟨0, Nat.zero_le _, rfl, h0, Below.refl _ _⟩
  case round =>
    clear hTW
    obtain ⟨k, hk, rfl, hj, hap⟩ := hrel
    by_cases hlt : k < n
    · have hbr : Below w.heap.size w wr := hb.trans (hap.mono h1)
      have hki : (k : Int) < (n : Int) := by omega
      obtain ⟨b1, o1, rfl, x1, y1⟩ := ha1.cell hlt
      obtain ⟨b2, o2, rfl, x2, y2⟩ := ha2.cell hlt
      obtain ⟨b3, o3, rfl, x3, y3⟩ := ha3.cell hlt
      obtain ⟨b4, o4, rfl, x4, y4⟩ := ha4.cell hlt
      replace x1 := x1 k hlt
      replace x2 := x2 k hlt
      replace x3 := x3 k hlt
      replace x4 := x4 k hlt
      generalize bat bs1 k = m1 at *
      generalize bat bs2 k = m2 at *
      generalize bat bs3 k = m3 at *
      generalize bat bs4 k = m4 at *
      have HS0 : Hid (w.cell? ⟨T1, 0, none⟩ = some (.slice (some ⟨b1, o1, none⟩) n c1) ∧ w.cell? ⟨T2, 0, none⟩ = some (.slice (some ⟨b2, o2, none⟩) n c2) ∧ w.cell? ⟨T3, 0, none⟩ = some (.slice (some ⟨b3, o3, none⟩) n c3) ∧ w.cell? ⟨T4, 0, none⟩ = some (.slice (some ⟨b4, o4, none⟩) n c4) ∧ w.cell? ⟨T5, 0, none⟩ = some (.func (.func 47) #[] #[.pointer (some ⟨f5, 0, none⟩), .pointer (some ⟨f3, 0, none⟩), .pointer (some ⟨f4, 0, none⟩), .pointer (some ⟨f6, 0, none⟩)]) ∧ w.cell? ⟨b1, o1 + k, none⟩ = some (.map (some m1)) ∧ w.cell? ⟨b2, o2 + k, none⟩ = some (.map (some m2)) ∧ w.cell? ⟨b3, o3 + k, none⟩ = some (.map (some m3)) ∧ w.cell? ⟨b4, o4 + k, none⟩ = some (.map (some m4))) := ⟨t1, t2, t3, t4, t5, x1, x2, x3, x4⟩
      replace x1 := cell_later hbr x1
      replace x2 := cell_later hbr x2
      replace x3 := cell_later hbr x3
      replace x4 := cell_later hbr x4
      replace y1 := y1.below hbr
      replace y2 := y2.below hbr
      replace y3 := y3.below hbr
      replace y4 := y4.below hbr
      replace t1 := cell_later hbr t1
      replace t2 := cell_later hbr t2
      replace t3 := cell_later hbr t3
      replace t4 := cell_later hbr t4
      replace t5 := cell_later hbr t5
      replace hmt := hmt.below hbr
      have HYK := Hid.mk (fun W1 b => hY k W1 b hlt)
      have LF := Hid.mk (HLf.out k hlt)
      have LG := Hid.mk (HLg.out k hlt)
      have SF := Hid.mk (sumK_720 HLf.out hn k hlt)
      have SG := Hid.mk (sumK_720 HLg.out hn k hlt)
      have HX : Hid (lat (upto (chgK f g ps) n) k = jdW (sumK f k) (sumK g k) (f k) (g k) ps) := by show _ = _; rw [upto_at (chgK f g ps) n k hlt]; rfl
      have HB := Hid.mk hb
      clear hY ha1 ha2 ha3 ha4 hb hbr
      gi_wp2
      refine region_anyS (S := fun w' => w'.cell? ⟨T1, 0, none⟩ = some (.slice (some ⟨b1, o1, none⟩) n c1) ∧ w'.cell? ⟨T2, 0, none⟩ = some (.slice (some ⟨b2, o2, none⟩) n c2) ∧ w'.cell? ⟨T3, 0, none⟩ = some (.slice (some ⟨b3, o3, none⟩) n c3) ∧ w'.cell? ⟨T4, 0, none⟩ = some (.slice (some ⟨b4, o4, none⟩) n c4) ∧ w'.cell? ⟨T5, 0, none⟩ = some (.func (.func 47) #[] #[.pointer (some ⟨f5, 0, none⟩), .pointer (some ⟨f3, 0, none⟩), .pointer (some ⟨f4, 0, none⟩), .pointer (some ⟨f6, 0, none⟩)]) ∧ w'.cell? ⟨b1, o1 + k, none⟩ = some (.map (some m1)) ∧ w'.cell? ⟨b2, o2 + k, none⟩ = some (.map (some m2)) ∧ w'.cell? ⟨b3, o3 + k, none⟩ = some (.map (some m3)) ∧ w'.cell? ⟨b4, o4 + k, none⟩ = some (.map (some m4))) (by kernel_rfl) ?_ (fun hHeld => ?_)
      · (try dsimp only)
        exact ⟨cell_later (Below.refl _ _).drew t1, cell_later (Below.refl _ _).drew t2, cell_later (Below.refl _ _).drew t3, cell_later (Below.refl _ _).drew t4, cell_later (Below.refl _ _).drew t5, cell_later (Below.refl _ _).drew x1, cell_later (Below.refl _ _).drew x2, cell_later (Below.refl _ _).drew x3, cell_later (Below.refl _ _).drew x4⟩
      refine anyS_take (i := 0) (oi := ?_) (v := ?_) rfl ?_ (by kernel_rfl) (by kernel_rfl) (by kernel_rfl) ?_ ⟨Or.inl ⟨?_, ?_⟩, ?_⟩ (by assumption) ?_
      rotate_left 2
      · (simp only [List.getElem?_toArray, List.getElem?_cons_zero]; rfl)
      · exact fun _ _ _ h => h
      · rfl
      · (intro wS hSw; (try dsimp only at hSw); go_simp; (try with_reducible rfl))
      · exact fun _ => rfl
      (try simp only [Act.put, List.setIfInBounds_toArray, List.set_cons_zero, List.set_cons_succ])
      refine anyS_take (i := 1) (oi := ?_) (v := ?_) rfl ?_ (by kernel_rfl) (by kernel_rfl) (by kernel_rfl) ?_ ⟨Or.inl ⟨?_, ?_⟩, ?_⟩ (by assumption) ?_
      rotate_left 2
      · (simp only [List.getElem?_toArray, List.getElem?_cons_zero, List.getElem?_cons_succ]; rfl)
      · exact fun _ _ _ h => h
      · rfl
      · (intro wS hSw; (try dsimp only at hSw); go_simp; (try with_reducible rfl))
      · exact fun _ => rfl
      (try simp only [Act.put, List.setIfInBounds_toArray, List.set_cons_zero, List.set_cons_succ])
      refine anyS_take (i := 2) (oi := ?_) (v := ?_) rfl ?_ (by kernel_rfl) (by kernel_rfl) (by kernel_rfl) ?_ ⟨Or.inl ⟨?_, ?_⟩, ?_⟩ (by assumption) ?_
      rotate_left 2
      · (simp only [List.getElem?_toArray, List.getElem?_cons_zero, List.getElem?_cons_succ]; rfl)
      · exact fun _ _ _ h => h
      · rfl
      · (intro wS hSw; (try dsimp only at hSw); go_simp; (try with_reducible rfl))
      · exact fun _ => rfl
      (try simp only [Act.put, List.setIfInBounds_toArray, List.set_cons_zero, List.set_cons_succ])
      refine anyS_take (i := 3) (oi := ?_) (v := ?_) rfl ?_ (by kernel_rfl) (by kernel_rfl) (by kernel_rfl) ?_ ⟨Or.inl ⟨?_, ?_⟩, ?_⟩ (by assumption) ?_
      rotate_left 2
      · (simp only [List.getElem?_toArray, List.getElem?_cons_zero, List.getElem?_cons_succ]; rfl)
      · exact fun _ _ _ h => h
      · rfl
      · (intro wS hSw; (try dsimp only at hSw); go_simp; (try with_reducible rfl))
      · exact fun _ => rfl
      (try simp only [Act.put, List.setIfInBounds_toArray, List.set_cons_zero, List.set_cons_succ])
      refine anyS_take (i := 4) (oi := ?_) (v := ?_) rfl ?_ (by kernel_rfl) (by kernel_rfl) (by kernel_rfl) ?_ ⟨Or.inl ⟨?_, ?_⟩, ?_⟩ (by assumption) ?_
      rotate_left 2
      · (simp only [List.getElem?_toArray, List.getElem?_cons_zero, List.getElem?_cons_succ]; rfl)
      · exact fun _ _ _ h => h
      · rfl
      · (intro wS hSw; (try dsimp only at hSw); go_simp; (try with_reducible rfl))
      · exact fun _ => rfl
      (try simp only [Act.put, List.setIfInBounds_toArray, List.set_cons_zero, List.set_cons_succ])
      refine anyS_take (i := 5) (oi := ?_) (v := ?_) rfl ?_ (by kernel_rfl) (by kernel_rfl) (by kernel_rfl) ?_ ⟨Or.inl ⟨?_, ?_⟩, ?_⟩ (by assumption) ?_
      rotate_left 2
      · (simp only [List.getElem?_toArray, List.getElem?_cons_zero, List.getElem?_cons_succ]; rfl)
      · exact fun _ _ _ h => h
      · rfl
      · (intro wS hSw; (try dsimp only at hSw); go_simp; (try with_reducible rfl))
      · exact fun _ => rfl
      (try simp only [Act.put, List.setIfInBounds_toArray, List.set_cons_zero, List.set_cons_succ])
      refine anyS_take (i := 6) (oi := ?_) (v := ?_) rfl ?_ (by kernel_rfl) (by kernel_rfl) (by kernel_rfl) ?_ ⟨Or.inl ⟨?_, ?_⟩, ?_⟩ (by assumption) ?_
      rotate_left 2
      · (simp only [List.getElem?_toArray, List.getElem?_cons_zero, List.getElem?_cons_succ]; rfl)
      · exact fun _ _ _ h => h
      · rfl
      · (intro wS hSw; (try dsimp only at hSw); go_simp; (try with_reducible rfl))
      · exact fun _ => rfl
      (try simp only [Act.put, List.setIfInBounds_toArray, List.set_cons_zero, List.set_cons_succ])
      refine anyS_take (i := 7) (oi := ?_) (v := ?_) rfl ?_ (by kernel_rfl) (by kernel_rfl) (by kernel_rfl) ?_ ⟨Or.inl ⟨?_, ?_⟩, ?_⟩ (by assumption) ?_
      rotate_left 2
      · (simp only [List.getElem?_toArray, List.getElem?_cons_zero, List.getElem?_cons_succ]; rfl)
      · exact fun _ _ _ h => h
      · rfl
      · (intro wS hSw; (try dsimp only at hSw); go_simp; (try with_reducible rfl))
      · exact fun _ => rfl
      (try simp only [Act.put, List.setIfInBounds_toArray, List.set_cons_zero, List.set_cons_succ])
      refine anyS_take (i := 8) (oi := ?_) (v := ?_) rfl ?_ (by kernel_rfl) (by kernel_rfl) (by kernel_rfl) ?_ ⟨Or.inl ⟨?_, ?_⟩, ?_⟩ (by assumption) ?_
      rotate_left 2
      · (simp only [List.getElem?_toArray, List.getElem?_cons_zero, List.getElem?_cons_succ]; rfl)
      · exact fun _ _ _ h => h
      · rfl
      · (intro wS hSw; (try dsimp only at hSw); go_simp; (try with_reducible rfl))
      · exact fun _ => rfl
      (try simp only [Act.put, List.setIfInBounds_toArray, List.set_cons_zero, List.set_cons_succ])
      refine anyS_take (i := 9) (oi := ?_) (v := ?_) rfl ?_ (by kernel_rfl) (by kernel_rfl) (by kernel_rfl) ?_ ⟨Or.inl ⟨?_, ?_⟩, ?_⟩ (by assumption) ?_
      rotate_left 2
      · (simp only [List.getElem?_toArray, List.getElem?_cons_zero, List.getElem?_cons_succ]; rfl)
      · exact fun _ _ _ h => h
      · rfl
      · (intro wS hSw; (try dsimp only at hSw); go_simp; (try with_reducible rfl))
      · exact fun _ => rfl
      (try simp only [Act.put, List.setIfInBounds_toArray, List.set_cons_zero, List.set_cons_succ])
      refine anyS_take (i := 10) (oi := ?_) (v := ?_) rfl ?_ (by kernel_rfl) (by kernel_rfl) (by kernel_rfl) ?_ ⟨Or.inl ⟨?_, ?_⟩, ?_⟩ (by assumption) ?_
      rotate_left 2
      · (simp only [List.getElem?_toArray, List.getElem?_cons_zero, List.getElem?_cons_succ]; rfl)
      · exact fun _ _ _ h => h
      · rfl
      · (intro wS hSw; (try dsimp only at hSw); go_simp; (try with_reducible rfl))
      · exact fun _ => rfl
      (try simp only [Act.put, List.setIfInBounds_toArray, List.set_cons_zero, List.set_cons_succ])
      refine anyS_take (i := 11) (oi := ?_) (v := ?_) rfl ?_ (by kernel_rfl) (by kernel_rfl) (by kernel_rfl) ?_ ⟨Or.inl ⟨?_, ?_⟩, ?_⟩ (by assumption) ?_
      rotate_left 2
      · (simp only [List.getElem?_toArray, List.getElem?_cons_zero, List.getElem?_cons_succ]; rfl)
      · exact fun _ _ _ h => h
      · rfl
      · (intro wS hSw; (try dsimp only at hSw); go_simp; (try with_reducible rfl))
      · exact fun _ => rfl
      (try simp only [Act.put, List.setIfInBounds_toArray, List.set_cons_zero, List.set_cons_succ])
      refine anyS_take (i := 12) (oi := ?_) (v := ?_) rfl ?_ (by kernel_rfl) (by kernel_rfl) (by kernel_rfl) ?_ ⟨Or.inl ⟨?_, ?_⟩, ?_⟩ (by assumption) ?_
      rotate_left 2
      · (simp only [List.getElem?_toArray, List.getElem?_cons_zero, List.getElem?_cons_succ]; rfl)
      · exact fun _ _ _ h => h
      · rfl
      · (intro wS hSw; (try dsimp only at hSw); go_simp; (try with_reducible rfl))
      · exact fun _ => rfl
      (try simp only [Act.put, List.setIfInBounds_toArray, List.set_cons_zero, List.set_cons_succ])
      refine anyS_take (i := 13) (oi := ?_) (v := ?_) rfl ?_ (by kernel_rfl) (by kernel_rfl) (by kernel_rfl) ?_ ⟨Or.inl ⟨?_, ?_⟩, ?_⟩ (by assumption) ?_
      rotate_left 2
      · (simp only [List.getElem?_toArray, List.getElem?_cons_zero, List.getElem?_cons_succ]; rfl)
      · exact fun _ _ _ h => h
      · rfl
      · (intro wS hSw; (try dsimp only at hSw); go_simp; (try with_reducible rfl))
      · exact fun _ => rfl
      (try simp only [Act.put, List.setIfInBounds_toArray, List.set_cons_zero, List.set_cons_succ])
      refine anyS_take (i := 14) (oi := ?_) (v := ?_) rfl ?_ (by kernel_rfl) (by kernel_rfl) (by kernel_rfl) ?_ ⟨Or.inl ⟨?_, ?_⟩, ?_⟩ (by assumption) ?_
      rotate_left 2
      · (simp only [List.getElem?_toArray, List.getElem?_cons_zero, List.getElem?_cons_succ]; rfl)
      · exact fun _ _ _ h => h
      · rfl
      · (intro wS hSw; (try dsimp only at hSw); go_simp; (try with_reducible rfl))
      · exact fun _ => rfl
      (try simp only [Act.put, List.setIfInBounds_toArray, List.set_cons_zero, List.set_cons_succ])
      refine anyS_take (i := 15) (oi := ?_) (v := ?_) rfl ?_ (by kernel_rfl) (by kernel_rfl) (by kernel_rfl) ?_ ⟨Or.inl ⟨?_, ?_⟩, ?_⟩ (by assumption) ?_
      rotate_left 2
      · (simp only [List.getElem?_toArray, List.getElem?_cons_zero, List.getElem?_cons_succ]; rfl)
      · exact fun _ _ _ h => h
      · rfl
      · (intro wS hSw; (try dsimp only at hSw); go_simp; (try with_reducible rfl))
      · exact fun _ => rfl
      (try simp only [Act.put, List.setIfInBounds_toArray, List.set_cons_zero, List.set_cons_succ])
      refine anyS_take (i := 16) (oi := ?_) (v := ?_) rfl ?_ (by kernel_rfl) (by kernel_rfl) (by kernel_rfl) ?_ ⟨Or.inl ⟨?_, ?_⟩, ?_⟩ (by assumption) ?_
      rotate_left 2
      · (simp only [List.getElem?_toArray, List.getElem?_cons_zero, List.getElem?_cons_succ]; rfl)
      · exact fun _ _ _ h => h
      · rfl
      · (intro wS hSw; (try dsimp only at hSw); go_simp; (try with_reducible rfl))
      · exact fun _ => rfl
      (try simp only [Act.put, List.setIfInBounds_toArray, List.set_cons_zero, List.set_cons_succ])
      refine anyS_take (i := 17) (oi := ?_) (v := ?_) rfl ?_ (by kernel_rfl) (by kernel_rfl) (by kernel_rfl) ?_ ⟨Or.inl ⟨?_, ?_⟩, ?_⟩ (by assumption) ?_
      rotate_left 2
      · (simp only [List.getElem?_toArray, List.getElem?_cons_zero, List.getElem?_cons_succ]; rfl)
      · exact fun _ _ _ h => h
      · rfl
      · (intro wS hSw; (try dsimp only at hSw); go_simp; (try with_reducible rfl))
      · exact fun _ => rfl
      (try simp only [Act.put, List.setIfInBounds_toArray, List.set_cons_zero, List.set_cons_succ])
      replace y1 := y1.drew
      replace y2 := y2.drew
      replace y3 := y3.drew
      replace y4 := y4.drew
      replace hmt := hmt.below (Below.refl _ _).drew
      refine anyS_one (i := 18) (o := ?_) (by kernel_rfl) ?_ (fun K hK => ?_)
      rotate_left
      · (simp only [List.getElem?_toArray, List.getElem?_cons_zero, List.getElem?_cons_succ]; rfl)
      have HK := Hid.mk hK
      clear hK
      go_simp
      refine ⟨trivial, rfl, ?_⟩
      refine (callsIn_wide.2 (productDelta_any m2 m3 m1 m4 q q' 720 60 (sumK f k) (sumK g k) (f k) (g k) 12000000 1000000 f5 f3 f4 f6 ps _ y2 y3 y1 y4 SF.out SG.out LF.out LG.out hmt hok hjc (by omega) (by omega) (by omega) (by decide) (by decide) (by decide) (by decide) (by decide) (by decide))).mono ?_
      rintro e w5 ⟨m5, rfl, hm5, hc5, hb5⟩
      have hb6 : Below wr.heap.size wr w5 := (Below.refl _ _).drew.trans hb5
      clear hb5
      replace t1 := cell_later hb6 t1
      replace t2 := cell_later hb6 t2
      replace t3 := cell_later hb6 t3
      replace t4 := cell_later hb6 t4
      replace t5 := cell_later hb6 t5
      replace x1 := cell_later hb6 x1
      replace x2 := cell_later hb6 x2
      replace x3 := cell_later hb6 x3
      replace x4 := cell_later hb6 x4
      have hap5 := hap.trans (hb6.mono (Nat.le_trans h2 hap.size))
      rw [← HX.out] at hc5
      obtain ⟨fn, tmps, assign, body, hy, hR⟩ := HYK.out w5 m5 (hJ k wr w5 hb6 hj) hap5 hc5
      refine HK.out _ _ ?_ (fun hHeld' => ?_)
      · (try dsimp only)
        exact ⟨t1, t2, t3, t4, t5, x1, x2, x3, x4⟩
      clear HK K hHeld
      have hHeld := hHeld'
      clear hHeld'
      (try simp only [Act.put, List.setIfInBounds_toArray, List.set_cons_zero, List.set_cons_succ])
      refine anyS_one (i := 19) (o := ?_) (by kernel_rfl) ?_ (fun K hK => ?_)
      rotate_left
      · (simp only [List.getElem?_toArray, List.getElem?_cons_zero, List.getElem?_cons_succ]; rfl)
      have HK := Hid.mk hK
      clear hK
      have hyy := hy
      go_simp
      refine ⟨rfl, hR.mono ?_⟩
      rintro e W3 ⟨hcase, hap3⟩
      have HA3 := Hid.mk (hap5.trans hap3)
      have hB := HB.out.trans (HA3.out.mono h1)
      rcases hcase with ⟨rfl, hJ3⟩ | ⟨rfl, hJ3⟩
      · refine HK.out _ _ ?_ (fun hHeld' => ?_)
        · obtain ⟨s1, s2, s3, s4, s5, s6, s7, s8, s9⟩ := HS0.out
          exact ⟨cell_later hB s1, cell_later hB s2, cell_later hB s3, cell_later hB s4, cell_later hB s5, cell_later hB s6, cell_later hB s7, cell_later hB s8, cell_later hB s9⟩
        clear HK K hHeld
        have hHeld := hHeld'
        clear hHeld'
        (try simp only [Act.put, List.setIfInBounds_toArray, List.set_cons_zero, List.set_cons_succ])
        refine anyS_take (i := 20) (oi := ?_) (v := ?_) rfl ?_ (by kernel_rfl) (by kernel_rfl) (by kernel_rfl) ?_ ⟨Or.inl ⟨?_, ?_⟩, ?_⟩ (by assumption) ?_
        rotate_left 2
        · (simp only [List.getElem?_toArray, List.getElem?_cons_zero, List.getElem?_cons_succ]; rfl)
        · exact fun _ _ _ h => h
        · rfl
        · (intro wS hSw; (try dsimp only at hSw); go_simp; (try with_reducible rfl))
        · exact fun _ => rfl
        (try simp only [Act.put, List.setIfInBounds_toArray, List.set_cons_zero, List.set_cons_succ])
        refine anyS_done (by kernel_rfl) ?_ _
        have HJ3 := Hid.mk hJ3
        clear hJ3 hap3 hR hy hyy hap5 hc5 hap hj hmt y1 y2 y3 y4 hHeld hb6 t1 t2 t3 t4 t5 x1 x2 x3 x4
        gi_wp2
        go_roundw
        case rel => exact ⟨k + 1, by omega, by go_num, HJ3.out, HA3.out⟩
        case measure => simp [intOf]; omega
      · refine HK.out _ _ ?_ (fun hHeld' => ?_)
        · obtain ⟨s1, s2, s3, s4, s5, s6, s7, s8, s9⟩ := HS0.out
          exact ⟨cell_later hB s1, cell_later hB s2, cell_later hB s3, cell_later hB s4, cell_later hB s5, cell_later hB s6, cell_later hB s7, cell_later hB s8, cell_later hB s9⟩
        clear HK K hHeld
        have hHeld := hHeld'
        clear hHeld'
        (try simp only [Act.put, List.setIfInBounds_toArray, List.set_cons_zero, List.set_cons_succ])
        refine anyS_take (i := 20) (oi := ?_) (v := ?_) rfl ?_ (by kernel_rfl) (by kernel_rfl) (by kernel_rfl) ?_ ⟨Or.inl ⟨?_, ?_⟩, ?_⟩ (by assumption) ?_
        rotate_left 2
        · (simp only [List.getElem?_toArray, List.getElem?_cons_zero, List.getElem?_cons_succ]; rfl)
        · exact fun _ _ _ h => h
        · rfl
        · (intro wS hSw; (try dsimp only at hSw); go_simp; (try with_reducible rfl))
        · exact fun _ => rfl
        (try simp only [Act.put, List.setIfInBounds_toArray, List.set_cons_zero, List.set_cons_succ])
        refine anyS_done (by kernel_rfl) ?_ _
        have HJ3 := Hid.mk hJ3
        clear hJ3 hap3 hR hy hyy hap5 hc5 hap hj hmt y1 y2 y3 y4 hHeld hb6 t1 t2 t3 t4 t5 x1 x2 x3 x4
        gi_wp2
        refine bodyPost_ret (results_none rfl _ _ _) rfl ?_
        exact ⟨⟨_, rfl⟩, .inr ⟨k, by omega, HJ3.out⟩, HA3.out⟩
    · obtain rfl : k = n := by omega
      gi_wp2
      go_end0
      exact ⟨⟨_, rfl⟩, .inl hj, hap⟩

end Go.Proofs.YtlfljfmhhnoinabGreat

/- Slices of maps behind a store into a box of another kind; the sums, delayed. -/
namespace Go.Proofs.YtlfljfmhhnoinabGreat
open Go.RowKit Go.Maps

theorem prevK_sumK (f : Nat → List WRow) : prevK (fun k => sumK f (k + 1)) = sumK f := by
  funext k
  cases k with
  | zero => rfl
  | succ k => rw [prevK_succ]

theorem Cnt.box {w : World} {b q M g : Nat} {xs : List WRow} {cs : Array Value} {t : TypeId} {fl : Nat × Nat} (h : Cnt w b q M xs) (hg : w.heap[g]? = some (.cells cs t fl)) (v : Value) : Cnt (w.setCell ⟨g, 0, none⟩ v) b q M xs := by
  refine h.grown (grownBy_setCell' w g v) fun e => ?_
  obtain rfl := Option.some.inj e
  obtain ⟨cnt, D, f, S, ⟨es, clock, hb, _⟩, _⟩ := h
  rw [hg] at hb
  cases hb
theorem AtC.box {w : World} {a : Option Addr} {q M g : Nat} {xss : List (List WRow)} {bs : List Nat} {u : Value} {t : TypeId} (h : AtC w a q M xss bs) (hg : w.heap[g]? = some (.cells #[u] t (0, 0))) (hu : ∀ m, u ≠ .map m) (v : Value) : AtC (w.setCell ⟨g, 0, none⟩ v) a q M xss bs := by
  refine ⟨h.len, h.cells.imp id fun ⟨b, off, e, hc⟩ => ⟨b, off, e, fun i hi => keep_far (hc i hi) fun eb => ?_⟩, fun i hi => (h.each i hi).box hg v⟩
  subst eb
  have := hc i hi
  rw [cell_of_row w b (off + i) _ _ (0, 0) hg] at this
  cases hoi : off + i with
  | zero => rw [hoi] at this; simp at this; exact hu _ this
  | succ k => rw [hoi] at this; simp at this

end Go.Proofs.YtlfljfmhhnoinabGreat
