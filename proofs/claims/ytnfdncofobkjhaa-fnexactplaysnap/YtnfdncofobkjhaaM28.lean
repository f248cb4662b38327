/- Several texts of one proof, in build order: PzS, SzU, SteH, SteC, SteT, IntE, SteE, IntM. -/
import Derived.Test.YtnfdncofobkjhaaM25
import Derived.Test.YtnfdncofobkjhaaM27
import Derived.Test.YtnfdncofobkjhaaM13
import Derived.Test.YtnfdncofobkjhaaM24
import Derived.Test.YtnfdncofobkjhaaM3
import Derived.Test.YtnfdncofobkjhaaM4
import Derived.Deep.CutBlock

/- Contract of the model's PlaySnap. -/
namespace Go.Proofs.Ytnfdncofobkjhaa
open Go.RowKit

set_option maxRecDepth 100000 in
set_option maxHeartbeats 20000000 in
theorem specPlaySnap (a : Option Addr) (n c : Nat) (b : Option Addr) (m d : Nat) (zs : List Int) (ls : List TSnapStep) (w : World) (hz : zs.length = n) (hn : n ≤ 1048576) (ha : At w a zs) (hl : ls.length = m) (hm : m ≤ 1048576) (hb : AtSl RSnapStep w b ls) :
    Calls Try.prog 15 #[.slice a n c, .slice b m d] w fun e w' => PzRet e w' w.heap.size (pzOk zs ls) (pzX zs ls) (pzB zs ls) ∧ Below w.heap.size w w' := by
  obtain ⟨i0, hi0, hx0, hx1, hx2⟩ := info_parts Try.infoBool
  obtain ⟨W, hW⟩ : ∃ W, W = w.alloc (.cells #[.slice none 0 0, .slice none 0 0] 32) := ⟨_, rfl⟩
  have B0 : Below w.heap.size w W := by rw [hW]; exact (Below.refl _ _).alloc (Nat.le_refl _) _
  have b0 : W.heap[w.heap.size]? = some (.cells #[.slice none 0 0, .slice none 0 0] 32 (0, 0)) := by rw [hW]; exact heap_alloc_new w _
  have zW : W.heap.size = w.heap.size + 1 := by rw [hW]; simp
  obtain ⟨PB, hPB⟩ : ∃ x, gsB (newS zs) = x := ⟨_, rfl⟩
  obtain ⟨PO, hPO⟩ : ∃ x, pzOk zs ls = x := ⟨_, rfl⟩
  obtain ⟨XX, hXX⟩ : ∃ x, pzX zs ls = x := ⟨_, rfl⟩
  obtain ⟨XB, hXB⟩ : ∃ x, pzB zs ls = x := ⟨_, rfl⟩
  obtain ⟨⟨pa, wa⟩, hza⟩ : ∃ x, (if PB then newS zs else ([], [])) = x := ⟨_, rfl⟩
  have KN := Hid.mk (specNewSnap a n c zs W hz hn (At.below ha B0))
  rw [hPB, hza] at KN
  rw [hPO, hXX, hXB]
  have HPB := Hid.mk hPB
  have HPO := Hid.mk hPO
  have HXX := Hid.mk hXX
  have HXB := Hid.mk hXB
  have HZA := Hid.mk hza
  have HL := Hid.mk hb
  have HLL := Hid.mk hl
  clear hPB hPO hXX hXB hza hb hl ha
  go_enter Try.func15, Try.ntmps15
  go_upto_region 1 with fail
  rw [← hW]
  clear hW
  go_wp2_with fail
  refine KN.out.mono ?_
  rintro e w1 ⟨⟨a0, ma0, da0, a1, ma1, da1, rfl, hoa⟩, hb1⟩
  have b0 := blk_below b0 hb1
  have z1 := hb1.size
  have B1 := B0.trans (hb1.mono B0.size)
  obtain ⟨P, hP⟩ : ∃ P, w1.heap.size = P := ⟨_, rfl⟩
  obtain ⟨Xa, hX⟩ : ∃ u, u = w1.alloc (.cells #[.slice a0 ma0 da0, .slice a1 ma1 da1] 32) := ⟨_, rfl⟩
  have bX : Below w1.heap.size w1 Xa := by rw [hX]; exact (Below.refl _ _).alloc (Nat.le_refl _) _
  have x0 : Xa.heap[w1.heap.size]? = some (.cells #[.slice a0 ma0 da0, .slice a1 ma1 da1] 32 (0, 0)) := by rw [hX]; exact heap_alloc_new w1 _
  have b0 := blk_below b0 bX
  have zXa := bX.size
  have zlXa : w1.heap.size < Xa.heap.size := by rw [hX]; simp
  have BXa : Below w.heap.size w Xa := B1.trans (bX.mono B1.size)
  rw [hP] at x0
  have bp := x0
  have zXaP : P < Xa.heap.size := by omega
  have hPN : w.heap.size + 1 ≤ P := by omega
  obtain ⟨FFa, hFFa, hoa⟩ : ∃ FF : Nat → Prop, (∀ b, FF b → w.heap.size + 1 ≤ b ∧ b < Xa.heap.size ∧ b ≠ P) ∧ RSnap.Own Xa FF [.slice a0 ma0 da0, .slice a1 ma1 da1] (pa, wa) :=
    ⟨_, fun b h => ⟨by have := h.1; omega, by have := h.2; omega, by have := h.2; omega⟩, RSnap.ownBelow hoa bX⟩
  clear KN hb1 x0 bX
  go_upto_region 2 with fail
  (try simp only)
  rw [← hX]
  clear hX
  (try rw [hP])
  clear hP
  cases PB with
  | false =>
    obtain rfl : false = PO := by rw [← HPO.out]; unfold pzOk; rw [HPB.out]; rfl
    obtain rfl : (([], []) : TSnap) = XX := by rw [← HXX.out]; unfold pzX; rw [HPO.out]; rfl
    obtain rfl : [] = XB := by rw [← HXB.out]; unfold pzB; rw [HPO.out]; rfl
    have y0 := blk_cell b0 0 (v := .slice none 0 0) rfl
    have y1 := blk_cell b0 1 (v := .slice none 0 0) rfl
    have fz0 := blk_frozen b0 0
    have fz1 := blk_frozen b0 1
    go_wp2
    refine bodyPost_ret (v := .tuple #[.agg #[.slice none 0 0, .slice none 0 0], .slice none 0 0, .bool false]) (by simp [results, Try.results15, go_sem, y0, y1]) rfl ⟨⟨none, 0, 0, none, 0, 0, none, 0, 0, rfl, WithB.void (RSnap.nil _ _)⟩, ?_⟩
    exact (BXa.setCell (Nat.le_refl _) _).setCell (Nat.le_refl _) _
  | true =>
    have hna : newS zs = (pa, wa) := HZA.out
    by_cases h120 : 120 < m
    · have h120i : (120 : Int) < (m : Int) := by omega
      obtain rfl : false = PO := by rw [← HPO.out]; unfold pzOk; rw [HPB.out]; exact (decide_eq_false (by rw [HLL.out]; omega)).symm
      obtain rfl : (([], []) : TSnap) = XX := by rw [← HXX.out]; unfold pzX; rw [HPO.out]; rfl
      obtain rfl : [] = XB := by rw [← HXB.out]; unfold pzB; rw [HPO.out]; rfl
      have y0 := blk_cell b0 0 (v := .slice none 0 0) rfl
      have y1 := blk_cell b0 1 (v := .slice none 0 0) rfl
      have fz0 := blk_frozen b0 0
      have fz1 := blk_frozen b0 1
      go_wp2
      refine bodyPost_ret (v := .tuple #[.agg #[.slice none 0 0, .slice none 0 0], .slice none 0 0, .bool false]) (by simp [results, Try.results15, go_sem, y0, y1]) rfl ⟨⟨none, 0, 0, none, 0, 0, none, 0, 0, rfl, WithB.void (RSnap.nil _ _)⟩, ?_⟩
      exact (BXa.setCell (Nat.le_refl _) _).setCell (Nat.le_refl _) _
    · have h120i : ¬ (120 : Int) < (m : Int) := by omega
      have hm2 : m ≤ 120 := by omega
      have hjs := HPB.out
      rw [hna] at hjs
      have hPOK : pzOk zs ls = true := by unfold pzOk; rw [HPB.out, Bool.true_and, decide_eq_true_eq, HLL.out]; exact hm2
      obtain rfl : true = PO := by rw [← HPO.out]; exact hPOK.symm
      have hxx : pzS (pa, wa) ls = XX := by rw [← HXX.out, ← hna]; unfold pzX; rw [hPOK]; rfl
      have hxb : pzL (pa, wa) ls = XB := by rw [← HXB.out, ← hna]; unfold pzB; rw [hPOK]; rfl
      have HJS := Hid.mk hjs
      have HXX1 := Hid.mk hxx
      have HXB1 := Hid.mk hxb
      have HOA := Hid.mk hoa
      have HFFA := Hid.mk hFFa
      have HB0 := Hid.mk b0
      have HBP := Hid.mk bp
      have HBX := Hid.mk BXa
      have HZX : Hid (P < Xa.heap.size) := Hid.mk zXaP
      clear hna hjs hPOK hxx hxb hoa hFFa b0 bp h120 HXX HXB HPO HZA
      go_wp2_with fail
      go_loopw [9, 29] (fun al i wr => ∃ (k : Nat) (r0 : Option Addr) (mr0 dr0 : Nat) (r1 : Option Addr) (mr1 dr1 : Nat) (ps : List TProc) (ws : List TWire) (G : Nat → Prop) (rb : Option Addr) (db : Nat) (bs : List Bool), i = .int .i64 k ∧ al = .slice rb k db ∧ k ≤ m ∧ wr.heap[P]? = some (.cells #[.slice r0 mr0 dr0, .slice r1 mr1 dr1] 32 (0, 0)) ∧ wr.heap[w.heap.size]? = some (.cells #[.slice none 0 0, .slice none 0 0] 32 (0, 0)) ∧ RSnap.Own wr G [.slice r0 mr0 dr0, .slice r1 mr1 dr1] (ps, ws) ∧ gsB (ps, ws) = true ∧ pzS (ps, ws) (ls.drop k) = XX ∧ bs ++ pzL (ps, ws) (ls.drop k) = XB ∧ wr.ownsRow 0 4 1 (.slice rb k db) k (bs.map .bool) ∧ (∀ b, (Value.slice rb k db).ownBlock = some b → ¬ G b ∧ w.heap.size + 1 ≤ b ∧ b < wr.heap.size ∧ b ≠ P) ∧ (∀ b, G b → w.heap.size + 1 ≤ b ∧ b < wr.heap.size ∧ b ≠ P) ∧ Below w.heap.size w wr ∧ P < wr.heap.size) (fun _ i _ => m - (intOf i).toNat)
      case atStart => exact ⟨0, a0, ma0, da0, a1, ma1, da1, pa, wa, FFa, none, 0, [], rfl, rfl, Nat.zero_le _, HBP.out, HB0.out, HOA.out, HJS.out, HXX1.out, HXB1.out, World.ownsRow_nil _ _ _ _, fun b h => (by cases h), HFFA.out, HBX.out, HZX.out⟩
      case round =>
        clear HBP HB0 HOA HJS HXX1 HXB1 HFFA HBX HZX
        obtain ⟨k, r0, mr0, dr0, r1, mr1, dr1, ps, ws, G, rb, db, bs, rfl, rfl, hk, bp, b0, hoz, hjz, hxz, hbz, hob, hbb, hG, BwY, zwY⟩ := hrel
        obtain ⟨wY, rfl⟩ : ∃ x, x = wr := ⟨_, rfl⟩
        have hbl : bs.length = k := by have := hob.1; simpa using this
        by_cases hlt : k < m
        · have hlti : (k : Int) < (m : Int) := by omega
          obtain ⟨⟨kd, f, t, v⟩, hx⟩ : ∃ x, ls[k]? = some x := ⟨_, List.getElem?_eq_getElem (by rw [HLL.out]; exact hlt)⟩
          obtain ⟨lb, loff, rfl, hlb, hlc⟩ := RSnapStep.row (AtSl.below HL.out BwY) (by rw [HLL.out]; omega)
          obtain ⟨e0, e1, e2, e3, _⟩ := hlc k _ hx
          (try simp only at e0 e1 e2 e3)
          obtain ⟨OK, hok⟩ : ∃ y, spB (ps, ws) kd f t v = y := ⟨_, rfl⟩
          obtain ⟨⟨ps', ws'⟩, hy⟩ : ∃ y, spX (ps, ws) kd f t v = y := ⟨_, rfl⟩
          have hp := pz_at hx (ps, ws)
          have hN : pzN (ps, ws) (kd, f, t, v) = cond OK (ps', ws') (ps, ws) := by unfold pzN; simp only; rw [hok, hy]
          rw [hp.1, hN] at hxz
          rw [hp.2, hN] at hbz
          simp only at hbz
          rw [hok] at hbz
          have hjy := gs_next (x := (ps, ws)) (kd, f, t, v) hjz
          rw [hN] at hjy
          have hw1 : IntKind.i64.wrap ((k : Int) + 1) = ((k + 1 : Nat) : Int) := by rw [IntWalk.i64_in _ (by omega)]; omega
          obtain ⟨⟨q0l, q0n, q0a, _⟩, ⟨q1l, q1n, q1a, _⟩⟩ := RSnap.at_iff (RSnap.toAt hoz)
          obtain ⟨hw0, hw1, hw2⟩ := gs_wires hjz
          have KS : Hid (∀ u, Below wY.heap.size wY u → _) := Hid.mk (fun u hu => specStepSnap r0 mr0 dr0 r1 mr1 dr1 kd f t v ps ws u q0l q1l (by omega) (by omega) hw2 (AtSl.below q0a hu) (AtSl.below q1a hu))
          rw [hok, hy] at KS
          have HXZ := Hid.mk hxz
          have HBZ := Hid.mk hbz
          have HJY := Hid.mk hjy
          have HOB := Hid.mk hob
          have HBB := Hid.mk hbb
          have HGG := Hid.mk hG
          have HOZ := Hid.mk hoz
          clear hxz hbz hjy hjz hob hbb hy hok hp hoz hbl hx hlc hlb hG q0l q0n q0a q1l q1n q1a hw0 hw1 hw2 hN
          obtain ⟨Xs, hX⟩ : ∃ u, u = wY.alloc (.cells #[.int .i64 kd, .int .i64 f, .int .i64 t, .int .i64 v] 36) := ⟨_, rfl⟩
          have bX : Below wY.heap.size wY Xs := by rw [hX]; exact (Below.refl _ _).alloc (Nat.le_refl _) _
          have bs_ : Xs.heap[wY.heap.size]? = some (.cells #[.int .i64 kd, .int .i64 f, .int .i64 t, .int .i64 v] 36 (0, 0)) := by rw [hX]; exact heap_alloc_new wY _
          have b0 := blk_below b0 bX
          have bp := blk_below bp bX
          have zXs := bX.size
          have zlXs : wY.heap.size < Xs.heap.size := by rw [hX]; simp
          have BXs : Below w.heap.size w Xs := BwY.trans (bX.mono BwY.size)
          go_upto_region 8 with fail
          (try simp only)
          rw [← hX]
          clear hX e0 e1 e2 e3
          have HBS := Hid.mk bX
          have p0 := blk_cell bp 0 (v := .slice r0 mr0 dr0) rfl
          have p1 := blk_cell bp 1 (v := .slice r1 mr1 dr1) rfl
          have x0 := blk_cell bs_ 0 (v := .int .i64 kd) rfl
          have x1 := blk_cell bs_ 1 (v := .int .i64 f) rfl
          have x2 := blk_cell bs_ 2 (v := .int .i64 t) rfl
          have x3 := blk_cell bs_ 3 (v := .int .i64 v) rfl
          go_wp2_with fail
          refine (KS.out Xs HBS.out).mono ?_
          rintro e wy ⟨⟨y0, my0, dy0, y1, my1, dy1, rfl, hoy⟩, hby⟩
          have b0 := blk_below b0 hby
          have bp := blk_below bp hby
          have zwy := hby.size
          have Bwy := BXs.trans (hby.mono BXs.size)
          have BYy : Below wY.heap.size wY wy := HBS.out.trans (hby.mono HBS.out.size)
          clear KS p0 p1 x0 x1 x2 x3 bs_ hby HBS bX
          obtain ⟨Xx, hX⟩ : ∃ u, u = wy.alloc (.cells #[.slice y0 my0 dy0, .slice y1 my1 dy1] 32) := ⟨_, rfl⟩
          have bX : Below wy.heap.size wy Xx := by rw [hX]; exact (Below.refl _ _).alloc (Nat.le_refl _) _
          have x0 : Xx.heap[wy.heap.size]? = some (.cells #[.slice y0 my0 dy0, .slice y1 my1 dy1] 32 (0, 0)) := by rw [hX]; exact heap_alloc_new wy _
          have b0 := blk_below b0 bX
          have bp := blk_below bp bX
          have zXx := bX.size
          have zlXx : wy.heap.size < Xx.heap.size := by rw [hX]; simp
          have BXx : Below w.heap.size w Xx := Bwy.trans (bX.mono Bwy.size)
          have BYX : Below wY.heap.size wY Xx := BYy.trans (bX.mono BYy.size)
          have HOB := Hid.mk (owns_below HOB.out BYX)
          have HOY := Hid.mk (RSnap.ownBelow hoy bX)
          have HBYX := Hid.mk BYX
          clear hoy BYy BYX
          go_upto_region 9 with fail
          (try simp only)
          rw [← hX]
          clear hX
          cases OK with
          | false =>
            clear x0 bX
            go_wp2_with (at_builtin; refine wpList_app_vals rfl (.tmp 41) (.tmp 43) 44 rfl 0 4 i0 (.bool false) 1 1 Try.underlying44 hi0 hx0 hx1 hx2 rfl (by decide) (.slice rb k db) k (bs.map .bool) rfl (owns_below HOB.out ((Below.refl _ _).alloc (Nat.le_refl _) _)) (some ⟨Xx.heap.size, 0, none⟩) 1 1 [.bool false] rfl rfl (fun ad he => by cases he; intro j u hu; match j, hu with | 0, hu => (obtain rfl := Option.some.inj hu; exact blk_cell (heap_alloc_new Xx _) 0 rfl)) (by intro u hu; simp at hu; rw [hu]; rfl) (fun h => by cases h) (by unfold maxLen; omega) (by omega) (Nat.zero_le _) ?_)
            intro r d5 w5 ho5 hg5 ht5
            have zX4 : (Xx.alloc (.cells #[.bool false] 4)).heap.size = Xx.heap.size + 1 := by simp
            (try rw [zX4] at ht5)
            have hO5 : Off (fun q => (Value.slice rb k db).ownBlock = some q) Xx w5 := (Off.below ((Below.refl _ _).alloc (Nat.le_refl _) _)).trans (Off.grown hg5 (fun q hq => hq))
            have z5 := hO5.size
            have z5b : Xx.heap.size + 1 ≤ w5.heap.size := by have q := hg5.size; (try rw [zX4] at q); (try simp only [World.size_alloc] at q); omega
            have bp5 := (hO5.block P (by omega) (fun e => (HBB.out P e).2.2.2 rfl)).trans bp
            have b05 := (hO5.block w.heap.size (by omega) (fun e => by have := (HBB.out _ e).2.1; omega)).trans b0
            have B5 : Below w.heap.size w w5 := BXx.trans (hO5.belowOf (fun b h => by have := (HBB.out b h).2.1; omega) (by omega))
            have ho6 : w5.ownsRow 0 4 1 (.slice r (k + 1) d5) (k + 1) ((bs ++ [false]).map .bool) := by rw [List.map_append]; exact ho5
            have hoS : RSnap.Own w5 G [.slice r0 mr0 dr0, .slice r1 mr1 dr1] (ps, ws) := RSnap.ownOff (RSnap.ownBelow HOZ.out HBYX.out) hO5 (fun b h1 h2 => (HBB.out b h2).1 h1)
            have HREL : Hid (∃ (r0 : Option Addr) (mr0 dr0 : Nat) (r1 : Option Addr) (mr1 dr1 : Nat) (ps : List TProc) (ws : List TWire) (G : Nat → Prop) (bs : List Bool), w5.heap[P]? = some (.cells #[.slice r0 mr0 dr0, .slice r1 mr1 dr1] 32 (0, 0)) ∧ w5.heap[w.heap.size]? = some (.cells #[.slice none 0 0, .slice none 0 0] 32 (0, 0)) ∧ RSnap.Own w5 G [.slice r0 mr0 dr0, .slice r1 mr1 dr1] (ps, ws) ∧ gsB (ps, ws) = true ∧ pzS (ps, ws) (ls.drop (k + 1)) = XX ∧ bs ++ pzL (ps, ws) (ls.drop (k + 1)) = XB ∧ w5.ownsRow 0 4 1 (.slice r (k + 1) d5) (k + 1) (bs.map .bool) ∧ (∀ b, (Value.slice r (k + 1) d5).ownBlock = some b → ¬ G b ∧ w.heap.size + 1 ≤ b ∧ b < w5.heap.size ∧ b ≠ P) ∧ (∀ b, G b → w.heap.size + 1 ≤ b ∧ b < w5.heap.size ∧ b ≠ P) ∧ Below w.heap.size w w5 ∧ P < w5.heap.size) := Hid.mk ⟨r0, mr0, dr0, r1, mr1, dr1, ps, ws, G, bs ++ [false], bp5, b05, hoS, HJY.out, HXZ.out, by rw [List.append_assoc]; exact HBZ.out, ho6, fun b hb => (by
                have hlt5 := (ho6.lt b hb).2
                rcases ht5 with q | q
                · rw [q] at hb
                  have h9 := HBB.out b hb
                  exact ⟨h9.1, by omega, hlt5, h9.2.2.2⟩
                · rw [q] at hb
                  have h2 := Option.some.inj hb
                  exact ⟨fun h => (by have := HGG.out _ h; omega), by omega, hlt5, by omega⟩), fun b h => (by have := HGG.out _ h; omega), B5, by omega⟩
            clear hoS ho6 ho5 hg5 ht5 hO5 bp5 b05 bp b0 HOB HXZ HBZ HJY HBB HGG HOZ HOY
            go_wp2
            go_roundw
            case rel =>
              obtain ⟨r0, mr0, dr0, r1, mr1, dr1, ps, ws, G, bs, q⟩ := HREL.out
              exact ⟨k + 1, r0, mr0, dr0, r1, mr1, dr1, ps, ws, G, r, d5, bs, by go_num, rfl, by omega, q⟩
            case measure => simp [intOf]; omega
          | true =>
            have p0 := blk_cell x0 0 (v := .slice y0 my0 dy0) rfl
            have p1 := blk_cell x0 1 (v := .slice y1 my1 dy1) rfl
            have o0 := blk_cell bp 0 (v := .slice r0 mr0 dr0) rfl
            have o1 := blk_cell bp 1 (v := .slice r1 mr1 dr1) rfl
            have fo0 := blk_frozen bp 0
            have fo1 := blk_frozen bp 1
            obtain ⟨Xr, hX⟩ : ∃ u, u = (Xx.setCell ⟨P, 0, none⟩ (.slice y0 my0 dy0)).setCell ⟨P, 1, none⟩ (.slice y1 my1 dy1) := ⟨_, rfl⟩
            have bp' : Xr.heap[P]? = some (.cells #[.slice y0 my0 dy0, .slice y1 my1 dy1] 32 (0, 0)) := by rw [hX]; exact blk_set (blk_set bp 0 _) 1 _
            have b0' : Xr.heap[w.heap.size]? = some (.cells #[.slice none 0 0, .slice none 0 0] 32 (0, 0)) := by rw [hX]; exact blk_other (blk_other b0 (by show w.heap.size ≠ P; omega) _) (by show w.heap.size ≠ P; omega) _
            have hS : Off (fun b => b = P) Xx Xr := by rw [hX]; exact (Off.set (F := fun b => b = P) (a := ⟨P, 0, none⟩) rfl _).trans (Off.set (F := fun b => b = P) (a := ⟨P, 1, none⟩) rfl _)
            have zXr := hS.size
            have zXrb : Xr.heap.size ≤ Xx.heap.size := by rw [hX]; simp [World.setCell]
            have BXr : Below w.heap.size w Xr := BXx.trans (hS.belowOf (fun b h => by have h2 : b = P := h; omega) (by omega))
            have HOY := Hid.mk (RSnap.ownOff HOY.out hS (fun b h e => by have h2 : b = P := e; have := h.1; omega))
            have HOB := Hid.mk (ownsRow_frame HOB.out (fun b hb hl => hS.block b hl (fun e => (HBB.out b hb).2.2.2 e)))
            clear b0 bp
            have b0 := b0'
            have bp := bp'
            clear b0' bp' hS bX x0
            go_upto_region 11 with fail
            rw [← hX]
            clear hX p0 p1 o0 o1 fo0 fo1
            go_wp2_with (at_builtin; refine wpList_app_vals rfl (.tmp 41) (.tmp 43) 44 rfl 0 4 i0 (.bool false) 1 1 Try.underlying44 hi0 hx0 hx1 hx2 rfl (by decide) (.slice rb k db) k (bs.map .bool) rfl (owns_below HOB.out ((Below.refl _ _).alloc (Nat.le_refl _) _)) (some ⟨Xr.heap.size, 0, none⟩) 1 1 [.bool true] rfl rfl (fun ad he => by cases he; intro j u hu; match j, hu with | 0, hu => (obtain rfl := Option.some.inj hu; exact blk_cell (heap_alloc_new Xr _) 0 rfl)) (by intro u hu; simp at hu; rw [hu]; rfl) (fun h => by cases h) (by unfold maxLen; omega) (by omega) (Nat.zero_le _) ?_)
            intro r d5 w5 ho5 hg5 ht5
            have zX4 : (Xr.alloc (.cells #[.bool true] 4)).heap.size = Xr.heap.size + 1 := by simp
            (try rw [zX4] at ht5)
            have hO5 : Off (fun q => (Value.slice rb k db).ownBlock = some q) Xr w5 := (Off.below ((Below.refl _ _).alloc (Nat.le_refl _) _)).trans (Off.grown hg5 (fun q hq => hq))
            have z5 := hO5.size
            have z5b : Xr.heap.size + 1 ≤ w5.heap.size := by have q := hg5.size; (try rw [zX4] at q); (try simp only [World.size_alloc] at q); omega
            have bp5 := (hO5.block P (by omega) (fun e => (HBB.out P e).2.2.2 rfl)).trans bp
            have b05 := (hO5.block w.heap.size (by omega) (fun e => by have := (HBB.out _ e).2.1; omega)).trans b0
            have B5 : Below w.heap.size w w5 := BXr.trans (hO5.belowOf (fun b h => by have := (HBB.out b h).2.1; omega) (by omega))
            have ho6 : w5.ownsRow 0 4 1 (.slice r (k + 1) d5) (k + 1) ((bs ++ [true]).map .bool) := by rw [List.map_append]; exact ho5
            have hoS : RSnap.Own w5 (From Xs.heap.size wy.heap.size) [.slice y0 my0 dy0, .slice y1 my1 dy1] (ps', ws') := RSnap.ownOff HOY.out hO5 (fun b h1 h2 => by have := h1.1; have := (HBB.out b h2).2.2.1; omega)
            have HREL : Hid (∃ (r0 : Option Addr) (mr0 dr0 : Nat) (r1 : Option Addr) (mr1 dr1 : Nat) (ps : List TProc) (ws : List TWire) (G : Nat → Prop) (bs : List Bool), w5.heap[P]? = some (.cells #[.slice r0 mr0 dr0, .slice r1 mr1 dr1] 32 (0, 0)) ∧ w5.heap[w.heap.size]? = some (.cells #[.slice none 0 0, .slice none 0 0] 32 (0, 0)) ∧ RSnap.Own w5 G [.slice r0 mr0 dr0, .slice r1 mr1 dr1] (ps, ws) ∧ gsB (ps, ws) = true ∧ pzS (ps, ws) (ls.drop (k + 1)) = XX ∧ bs ++ pzL (ps, ws) (ls.drop (k + 1)) = XB ∧ w5.ownsRow 0 4 1 (.slice r (k + 1) d5) (k + 1) (bs.map .bool) ∧ (∀ b, (Value.slice r (k + 1) d5).ownBlock = some b → ¬ G b ∧ w.heap.size + 1 ≤ b ∧ b < w5.heap.size ∧ b ≠ P) ∧ (∀ b, G b → w.heap.size + 1 ≤ b ∧ b < w5.heap.size ∧ b ≠ P) ∧ Below w.heap.size w w5 ∧ P < w5.heap.size) := Hid.mk ⟨y0, my0, dy0, y1, my1, dy1, ps', ws', (From Xs.heap.size wy.heap.size), bs ++ [true], bp5, b05, hoS, HJY.out, HXZ.out, by rw [List.append_assoc]; exact HBZ.out, ho6, fun b hb => (by
                have hlt5 := (ho6.lt b hb).2
                rcases ht5 with q | q
                · rw [q] at hb
                  have h9 := HBB.out b hb
                  exact ⟨fun h => (by have := h.1; omega), by omega, hlt5, h9.2.2.2⟩
                · rw [q] at hb
                  have h2 := Option.some.inj hb
                  exact ⟨fun h => (by have := h.2; omega), by omega, hlt5, by omega⟩), fun b h => (by have := h.1; have := h.2; omega), B5, by omega⟩
            clear hoS ho6 ho5 hg5 ht5 hO5 bp5 b05 bp b0 HOB HXZ HBZ HJY HBB HGG HOZ HOY
            go_wp2
            go_roundw
            case rel =>
              obtain ⟨r0, mr0, dr0, r1, mr1, dr1, ps, ws, G, bs, q⟩ := HREL.out
              exact ⟨k + 1, r0, mr0, dr0, r1, mr1, dr1, ps, ws, G, r, d5, bs, by go_num, rfl, by omega, q⟩
            case measure => simp [intOf]; omega
        · have hlti : ¬ (k : Int) < (m : Int) := by omega
          obtain rfl : k = m := by omega
          rw [List.drop_eq_nil_of_le (by rw [HLL.out]; exact Nat.le_refl _)] at hxz hbz
          have hxz2 : (ps, ws) = XX := hxz
          have hbz2 : bs = XB := by rw [← hbz]; exact (List.append_nil bs).symm
          have HXZ := Hid.mk hxz2
          have HBZ := Hid.mk hbz2
          have HBL := Hid.mk hbl
          clear hxz hbz hxz2 hbz2 hbl
          have p0 := blk_cell bp 0 (v := .slice r0 mr0 dr0) rfl
          have p1 := blk_cell bp 1 (v := .slice r1 mr1 dr1) rfl
          have y0 := blk_cell b0 0 (v := .slice none 0 0) rfl
          have y1 := blk_cell b0 1 (v := .slice none 0 0) rfl
          have fz0 := blk_frozen b0 0
          have fz1 := blk_frozen b0 1
          obtain ⟨Y, hY⟩ : ∃ u, u = (wY.setCell ⟨w.heap.size, 0, none⟩ (.slice r0 mr0 dr0)).setCell ⟨w.heap.size, 1, none⟩ (.slice r1 mr1 dr1) := ⟨_, rfl⟩
          have S1 : Off (fun b => b = w.heap.size) wY Y := by rw [hY]; exact (Off.set (F := fun b => b = w.heap.size) (a := ⟨w.heap.size, 0, none⟩) rfl _).trans (Off.set (F := fun b => b = w.heap.size) (a := ⟨w.heap.size, 1, none⟩) rfl _)
          have R : Hid (PzRet (.returned (.tuple #[.agg #[.slice r0 mr0 dr0, .slice r1 mr1 dr1], .slice rb k db, .bool true])) Y w.heap.size true XX XB ∧ Below w.heap.size w Y) := Hid.mk (by
            rw [← HXZ.out, ← HBZ.out]
            have zS := S1.size
            refine ⟨⟨r0, mr0, dr0, r1, mr1, dr1, rb, k, db, rfl, WithB.of (F1 := G) (RSnap.ownOff hoz S1 (fun b h e => by have h2 : b = w.heap.size := e; have := hG b h; omega)) HBL.out (ownsRow_frame hob (fun b hb hl => S1.block b hl (fun e => by have h2 : b = w.heap.size := e; have := (hbb b hb).2.1; omega))) (fun b h => ?_) (fun b hb => ?_)⟩, BwY.trans (S1.belowOf (fun b h => by have h2 : b = w.heap.size := h; omega) (by omega))⟩
            · have := hG b h
              exact ⟨by omega, by omega⟩
            · have := hbb b hb
              exact ⟨this.1, by omega, by omega⟩)
          have HY := Hid.mk hY
          clear S1 hY hoz hob hbb hG bp b0 BwY HXZ HBZ
          go_wp2
          refine bodyPost_ret (v := .tuple #[.agg #[.slice r0 mr0 dr0, .slice r1 mr1 dr1], .slice rb k db, .bool true]) (by simp [results, Try.results15, go_sem, y0, y1]) rfl ?_
          have h := R.out
          rw [HY.out] at h
          exact h

end Go.Proofs.Ytnfdncofobkjhaa

/- szIntS in one form. -/
namespace Go.Proofs.Ytnfdncofobkjhaa
open Go.RowKit

theorem szInts_u (a : Option Addr) (n c : Nat) (l : Int) (w : World) (hn : n ≤ 9223372036854775807) (h0 : 0 ≤ l) (h1 : l ≤ 1048576) :
    Calls Try.prog 82 #[.slice a n c, .int .i64 l] w fun e w' => e = .returned (.int .i64 (leftOf l n)) ∧ Below w.heap.size w w' :=
  (szIntS_any a n c l w hn h0 h1).mono fun _ _ ⟨h1, h2⟩ => ⟨h1, by rw [h2]; exact Below.refl _ _⟩

end Go.Proofs.Ytnfdncofobkjhaa

/- Contracts of the laws' sz of SnapStep. -/
namespace Go.Proofs.Ytnfdncofobkjhaa
open Go.RowKit

theorem szSnapStepS_any (a : Option Addr) (n c : Nat) (xs : List TSnapStep) (l : Int) (w : World) (_hz : xs.length = n) (hn : n ≤ 9223372036854775807) (h0 : 0 ≤ l) (h1 : l ≤ 1048576) (_ha : AtSl RSnapStep w a xs) :
    Calls Try.prog 14 #[.slice a n c, .int .i64 l] w fun e w' => e = .returned (.int .i64 (leftOf l n)) ∧ Below w.heap.size w w' := by
  by_cases h : l < n
  · have h' : l - (n : Int) < 0 := by omega
    go_enter Try.func14, Try.ntmps14
    go_wp2
    go_ret
    exact ⟨ret_int (leftOf_no (by omega)).symm, Below.refl _ _⟩
  · have h' : ¬ l - (n : Int) < 0 := by omega
    go_enter Try.func14, Try.ntmps14
    go_wp2
    go_ret
    exact ⟨ret_int (by rw [leftOf_yes (by omega)]), Below.refl _ _⟩

end Go.Proofs.Ytnfdncofobkjhaa

/- The size of a list of steps, under a name of its own. -/
namespace Go.Proofs.Ytnfdncofobkjhaa
open Go.RowKit

def cost4 (n : Nat) : Nat := n
theorem szSnapStepS_c (a : Option Addr) (n c : Nat) (xs : List TSnapStep) (l : Int) (w : World) (hz : xs.length = n) (hn : n ≤ 9223372036854775807) (h0 : 0 ≤ l) (h1 : l ≤ 1048576) (ha : AtSl RSnapStep w a xs) :
    Calls Try.prog 14 #[.slice a n c, .int .i64 l] w fun e w' => e = .returned (.int .i64 (leftOf l (cost4 n))) ∧ Below w.heap.size w w' :=
  szSnapStepS_any a n c xs l w hz hn h0 h1 ha

end Go.Proofs.Ytnfdncofobkjhaa

/- Contracts of the laws' to of SnapStep. -/
namespace Go.Proofs.Ytnfdncofobkjhaa
open Go.RowKit

set_option maxRecDepth 100000 in
set_option maxHeartbeats 8000000 in
theorem toSnapStep_rep (zi0 : Int) (zi1 : Int) (zi2 : Int) (zi3 : Int) (w : World) :
    Calls Try.prog 9 #[.agg #[.int .i64 zi0, .int .i64 zi1, .int .i64 zi2, .int .i64 zi3]] w fun e w' => e = .returned (.agg #[.int .i64 zi0, .int .i64 zi1, .int .i64 zi2, .int .i64 zi3]) ∧ RSnapStep.Own w' (From w.heap.size w'.heap.size) [.int .i64 zi0, .int .i64 zi1, .int .i64 zi2, .int .i64 zi3] (zi0, zi1, zi2, zi3) ∧ Below w.heap.size w w' := by
  go_enter Try.func9, Try.ntmps9
  go_wp2
  refine bodyPost_ret (v := .agg #[.int .i64 zi0, .int .i64 zi1, .int .i64 zi2, .int .i64 zi3]) (by simp [results, Try.results9, go_sem]) rfl ⟨rfl, RSnapStep.own_mk, ?_⟩
  exact (((Below.refl _ _).alloc (Nat.le_refl _) _).alloc (by simp) _).alloc (by simp; omega) _

theorem Try.infoSnapStep : (Try.prog.info? 36).map (fun i => (i.zero, i.size, i.bytes)) = some (some (.agg #[.int .i64 0, .int .i64 0, .int .i64 0, .int .i64 0]), 4, 32) := by kernel_rfl

set_option maxRecDepth 100000 in
set_option maxHeartbeats 8000000 in
theorem toSnapStepS_rep (a : Option Addr) (n c : Nat) (xs : List TSnapStep) (w : World) (hz : xs.length = n) (hn : n ≤ 1048576) (ha : AtSl RSnapStep w a xs) :
    Calls Try.prog 17 #[.slice a n c] w fun e w' => ∃ g, e = .returned (.slice (some ⟨g, 0, none⟩) n n) ∧ RSnapSteps.Own w' (From w.heap.size w'.heap.size) [.slice (some ⟨g, 0, none⟩) n n] xs ∧ Below w.heap.size w w' := by
  obtain ⟨i0, hi, hz0, hz1, hz2⟩ := info_parts Try.infoSnapStep
  go_enter Try.func17, Try.ntmps17
  go_wp2_with (at_make; refine wpList_make_full _ rfl _ _ 48 rfl w.heap.size 36 i0 (.agg #[.int .i64 0, .int .i64 0, .int .i64 0, .int .i64 0]) 4 Try.underlying48 hi hz0 hz1 .i64 .i64 _ _ n rfl rfl rfl rfl (by rw [hz2]; omega) (by unfold maxLen; omega) (Nat.le_refl _) ?_; intro w1 hown hg)
  have hb1 : Below w.heap.size w w1 := (Below.refl _ _).grown hg (Nat.le_refl _) (by simp)
  have hlt1 := (hown.lt w.heap.size rfl).2
  obtain ⟨cs, hcs⟩ : ∃ cs, cs = (madeCells (Value.agg #[.int .i64 0, .int .i64 0, .int .i64 0, .int .i64 0]).cells (n * 4)).toList := ⟨_, rfl⟩
  rw [← hcs] at hown
  have hst : Laid RSnapStep w1 (From w.heap.size w1.heap.size) 36 (some ⟨w.heap.size, 0, none⟩) n n xs cs (fun _ _ => False) 0 := Laid.start hz (by omega) (owns_mono hown (Nat.zero_le _)) (fun b hb => hown.lt b hb) _
  clear hcs hown hg
  go_loopw [4] (fun i wr => ∃ (k : Nat) (cells : List Value) (G : Nat → Nat → Prop), k ≤ n ∧ i = .int .i64 k ∧ Laid RSnapStep wr (From w.heap.size wr.heap.size) 36 (some ⟨w.heap.size, 0, none⟩) n n xs cells G k ∧ w.heap.size < wr.heap.size ∧ Below w.heap.size w wr) (fun i _ => n - (intOf i).toNat)
  case atStart => exact ⟨0, cs, _, Nat.zero_le _, rfl, hst, hlt1, hb1⟩
  case round =>
    clear hst hb1 hlt1 cs
    obtain ⟨k, cells, G, hk, rfl, ho, hzr, hbw⟩ := hrel
    by_cases hlt : k < n
    · obtain ⟨b, off, rfl, _, hc⟩ := RSnapStep.row (AtSl.below ha hbw) (by omega)
      obtain ⟨⟨zi0, zi1, zi2, zi3⟩, hx⟩ : ∃ x, xs[k]? = some x := ⟨_, List.getElem?_eq_getElem (by omega)⟩
      obtain ⟨e0, e1, e2, e3, _⟩ := hc k _ hx
      have hki : (k : Int) < (n : Int) := by omega
      have HO := Hid.mk ho
      have HX := Hid.mk hx
      have HC := Hid.mk (toSnapStep_rep  zi0 zi1 zi2 zi3  wr  )
      clear hc ha ho hx
      go_wp2_with fail
      refine HC.out.mono ?_
      rintro e w2 ⟨rfl, ho2, hb2⟩
      have hput := HO.out.put hlt (fun b hb => hb.2) hb2 HX.out ho2 (fun b hb => hb.1)
      have z2 := hb2.size
      have hput2 := hput.mono (F' := From w.heap.size w2.heap.size) (fun b hb => by rcases hb with hb | hb; exact ⟨hb.1, by have := hb.2; omega⟩; exact ⟨by have := hb.1; omega, hb.2⟩)
      have HP : Hid (Laid RSnapStep ((((w2.setCell ⟨w.heap.size, k * 4, none⟩ (.int .i64 zi0)).setCell ⟨w.heap.size, k * 4 + 1, none⟩ (.int .i64 zi1)).setCell ⟨w.heap.size, k * 4 + 2, none⟩ (.int .i64 zi2)).setCell ⟨w.heap.size, k * 4 + 3, none⟩ (.int .i64 zi3)) (From w.heap.size w2.heap.size) 36 (some ⟨w.heap.size, 0, none⟩) n n xs _ _ (k + 1)) := hput2
      have hout := (HO.out.below hb2).outer
      have hln := hout.1
      have hln : cells.length = n * 4 := hln
      obtain ⟨v0, hv0⟩ : ∃ u, cells[k * 4]? = some u := ⟨_, List.getElem?_eq_getElem (by omega)⟩
      have q0 : w2.cell? ⟨w.heap.size, k * 4, none⟩ = some v0 := (hout.cellAt _ (show k * 4 < n * 4 by omega)).trans hv0
      have f0 : w2.frozen? ⟨w.heap.size, k * 4, none⟩ = false := hout.frozenAt _
      clear hv0
      obtain ⟨v1, hv1⟩ : ∃ u, cells[k * 4 + 1]? = some u := ⟨_, List.getElem?_eq_getElem (by omega)⟩
      have q1 : w2.cell? ⟨w.heap.size, k * 4 + 1, none⟩ = some v1 := (hout.cellAt _ (show k * 4 + 1 < n * 4 by omega)).trans hv1
      have f1 : w2.frozen? ⟨w.heap.size, k * 4 + 1, none⟩ = false := hout.frozenAt _
      clear hv1
      obtain ⟨v2, hv2⟩ : ∃ u, cells[k * 4 + 2]? = some u := ⟨_, List.getElem?_eq_getElem (by omega)⟩
      have q2 : w2.cell? ⟨w.heap.size, k * 4 + 2, none⟩ = some v2 := (hout.cellAt _ (show k * 4 + 2 < n * 4 by omega)).trans hv2
      have f2 : w2.frozen? ⟨w.heap.size, k * 4 + 2, none⟩ = false := hout.frozenAt _
      clear hv2
      obtain ⟨v3, hv3⟩ : ∃ u, cells[k * 4 + 3]? = some u := ⟨_, List.getElem?_eq_getElem (by omega)⟩
      have q3 : w2.cell? ⟨w.heap.size, k * 4 + 3, none⟩ = some v3 := (hout.cellAt _ (show k * 4 + 3 < n * 4 by omega)).trans hv3
      have f3 : w2.frozen? ⟨w.heap.size, k * 4 + 3, none⟩ = false := hout.frozenAt _
      clear hv3
      have HB : Hid (Below w.heap.size w ((((w2.setCell ⟨w.heap.size, k * 4, none⟩ (.int .i64 zi0)).setCell ⟨w.heap.size, k * 4 + 1, none⟩ (.int .i64 zi1)).setCell ⟨w.heap.size, k * 4 + 2, none⟩ (.int .i64 zi2)).setCell ⟨w.heap.size, k * 4 + 3, none⟩ (.int .i64 zi3))) := (((((hbw.trans (hb2.mono hbw.size)).setCell (Nat.le_refl _) _).setCell (Nat.le_refl _) _).setCell (Nat.le_refl _) _).setCell (Nat.le_refl _) _)
      clear hput hput2 hout hln hb2 hbw ho2 HC e0 e1 e2 e3
      go_wp2
      go_roundw
      case rel => exact ⟨k + 1, _, _, by omega, by go_num, by simpa only [World.setCell, Array.size_modify] using HP.out, by simp [World.setCell]; omega, HB.out⟩
      case measure => simp [intOf]; omega
    · obtain rfl : k = n := by omega
      go_wp2
      go_ret
      exact ⟨_, rfl, ⟨_, _, _, _, _, rfl, ho⟩, hbw⟩

end Go.Proofs.Ytnfdncofobkjhaa

/- Slices of numbers that are alike are held equal. -/
namespace Go.Proofs.Ytnfdncofobkjhaa
open Go.RowKit

theorem eqIntS_same (a a' : Option Addr) (n c c' : Nat) (zs : List Int) (w : World) (hz : zs.length = n) (hn : n ≤ 1048576) (ha : At w a zs) (ha' : At w a' zs) :
    Calls Try.prog 20 #[.slice a n c, .slice a' n c'] w fun e w' => e = .returned (.bool true) ∧ Below w.heap.size w w' :=
  (eqIntS_any a a' n n c c' zs zs w hz hz hn hn ha ha').mono fun _ _ ⟨h1, h2⟩ => ⟨by rw [h1, decide_eq_true rfl], h2⟩
end Go.Proofs.Ytnfdncofobkjhaa

/- Contracts of the laws' eq of SnapStep, of equal ones. -/
namespace Go.Proofs.Ytnfdncofobkjhaa
open Go.RowKit

set_option maxRecDepth 100000 in
set_option maxHeartbeats 8000000 in
theorem eqSnapStep_same (zi0 : Int) (zi1 : Int) (zi2 : Int) (zi3 : Int) (w : World) :
    Calls Try.prog 46 #[.agg #[.int .i64 zi0, .int .i64 zi1, .int .i64 zi2, .int .i64 zi3], .agg #[.int .i64 zi0, .int .i64 zi1, .int .i64 zi2, .int .i64 zi3]] w fun e w' => e = .returned (.bool true) ∧ Below w.heap.size w w' := by
  go_enter Try.func46, Try.ntmps46
  go_wp2
  go_ret
  exact ⟨rfl, ((Below.refl _ _).alloc (Nat.le_refl _) _).alloc (by simp) _⟩

set_option maxRecDepth 100000 in
set_option maxHeartbeats 8000000 in
theorem eqSnapStepS_same (a a' : Option Addr) (n c c' : Nat) (xs : List TSnapStep) (w : World) (hz : xs.length = n) (hn : n ≤ 1048576) (ha : AtSl RSnapStep w a xs) (ha' : AtSl RSnapStep w a' xs) :
    Calls Try.prog 21 #[.slice a n c, .slice a' n c'] w fun e w' => e = .returned (.bool true) ∧ Below w.heap.size w w' := by
  by_cases h0 : n = 0
  · subst h0
    go_enter Try.func21, Try.ntmps21
    go_wp2
    refine wp_loop_rounds 1 ?_
    rw [rounds_succ]
    go_wp2
    go_ret
    exact ⟨rfl, Below.refl _ _⟩
  · go_enter Try.func21, Try.ntmps21
    go_wp2
    go_loopw [5] (fun i wr => ∃ (k : Nat), k ≤ n ∧ i = .int .i64 k ∧ Below w.heap.size w wr) (fun i _ => n - (intOf i).toNat)
    case atStart => exact ⟨0, Nat.zero_le _, rfl, Below.refl _ _⟩
    case round =>
      obtain ⟨k, hk, rfl, hbw⟩ := hrel
      by_cases hlt : k < n
      · obtain ⟨b, off, rfl, _, hc⟩ := RSnapStep.row (AtSl.below ha hbw) (by omega)
        obtain ⟨b', off', rfl, _, hc'⟩ := RSnapStep.row (AtSl.below ha' hbw) (by omega)
        obtain ⟨⟨zi0, zi1, zi2, zi3⟩, hx⟩ : ∃ x, xs[k]? = some x := ⟨_, List.getElem?_eq_getElem (by omega)⟩
        obtain ⟨e0, e1, e2, e3, _⟩ := hc k _ hx
        obtain ⟨d0, d1, d2, d3, _⟩ := hc' k _ hx
        have hki : (k : Int) < (n : Int) := by omega
        have HE : Hid (∀ w' : World, Below wr.heap.size wr w' → Calls Try.prog 46 #[.agg #[.int .i64 zi0, .int .i64 zi1, .int .i64 zi2, .int .i64 zi3], .agg #[.int .i64 zi0, .int .i64 zi1, .int .i64 zi2, .int .i64 zi3]] w' fun e w'' => e = .returned (.bool true) ∧ Below w'.heap.size w' w'') :=
          fun w' _ => eqSnapStep_same   zi0 zi1 zi2 zi3  w'  
        clear hc hc' ha ha' hx
        go_wp2_with fail
        go_region_held3 (fun w' => w'.cell? ⟨b, off + k * 4, none⟩ = some (.int .i64 zi0) ∧ w'.cell? ⟨b, off + k * 4 + 1, none⟩ = some (.int .i64 zi1) ∧ w'.cell? ⟨b, off + k * 4 + 2, none⟩ = some (.int .i64 zi2) ∧ w'.cell? ⟨b, off + k * 4 + 3, none⟩ = some (.int .i64 zi3) ∧ w'.cell? ⟨b', off' + k * 4, none⟩ = some (.int .i64 zi0) ∧ w'.cell? ⟨b', off' + k * 4 + 1, none⟩ = some (.int .i64 zi1) ∧ w'.cell? ⟨b', off' + k * 4 + 2, none⟩ = some (.int .i64 zi2) ∧ w'.cell? ⟨b', off' + k * 4 + 3, none⟩ = some (.int .i64 zi3)) (refine ⟨?_, ?_, ?_, ?_, ?_, ?_, ?_, ?_⟩ <;> assumption)
          (first | (go_at_call 46; refine (HE.out wr.drew (Below.refl _ _).drew).mono ?_; rintro e w2 ⟨rfl, hb2⟩; have m0 := cell_later hb2 e0; have l0 := cell_later hb2 d0; have m1 := cell_later hb2 e1; have l1 := cell_later hb2 d1; have m2 := cell_later hb2 e2; have l2 := cell_later hb2 d2; have m3 := cell_later hb2 e3; have l3 := cell_later hb2 d3) | fail)
        go_wp2
        go_roundw
        case rel => exact ⟨k + 1, by omega, by go_num, hbw.drew.trans (hb2.mono hbw.size)⟩
        case measure => simp [intOf]; omega
      · go_wp2
        go_ret
        exact ⟨rfl, hbw⟩

end Go.Proofs.Ytnfdncofobkjhaa

/- Slices of numbers, marked, as things that are owned. -/
namespace Go.Proofs.Ytnfdncofobkjhaa
open Go.RowKit

theorem markInts_rep (F : Nat → Prop) (a : Option Addr) (n c : Nat) (zs : List Int) (m : Int) (w : World) (hn : n ≤ 1048576) (h0 : 0 ≤ m) (h1 : m ≤ 268435456) (ho : RInts.Own w F [.slice a n c] zs) :
    Calls Try.prog 22 #[.slice a n c, .int .i64 m] w fun e w' => e = .returned (.int .i64 (m + n)) ∧ RInts.Own w' F [.slice a n c] (mkInts m zs) ∧ Off F w w' := by
  obtain ⟨h2, h3, h4, h5⟩ := RInts.own_iff.1 ho
  refine (markIntS_any 0 a n c _ m w hn h0 (by omega) h4).mono fun e w' ⟨e1, e2, e3⟩ => ⟨e1, RInts.own_iff.2 ⟨by unfold mkInts; rw [marks_length, h2], h3, by unfold mkInts; rw [h2]; exact e2, h5⟩, Off.grown e3 h5⟩
end Go.Proofs.Ytnfdncofobkjhaa
