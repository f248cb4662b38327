/- Several texts of one proof, in build order: PzI, NwS. -/
import Derived.Test.YtnfdncofobkjhaaM25
import Derived.Test.YtnfdncofobkjhaaM26
import Derived.Test.YtnfdncofobkjhaaM13
import Derived.Test.YtnfdncofobkjhaaM15
import Derived.Test.YtnfdncofobkjhaaM11
import Derived.Test.YtnfdncofobkjhaaM5
import Derived.Test.YtnfdncofobkjhaaM4
import Derived.Deep.CutBlock

/- Contract of the program's PlaySnap. -/
namespace Go.Proofs.Ytnfdncofobkjhaa
open Go.RowKit

set_option maxRecDepth 100000 in
set_option maxHeartbeats 20000000 in
theorem implPlaySnap (a : Option Addr) (n c : Nat) (b : Option Addr) (m d : Nat) (zs : List Int) (ls : List TSnapStep) (w : World) (hz : zs.length = n) (hn : n ≤ 1048576) (ha : At w a zs) (hl : ls.length = m) (hm : m ≤ 1048576) (hb : AtSl RSnapStep w b ls) :
    Calls Try.prog 18 #[.slice a n c, .slice b m d] w fun e w' => PzRet e w' w.heap.size (pzOk zs ls) (pzX zs ls) (pzB zs ls) ∧ Below w.heap.size w w' := by
  obtain ⟨i0, hi0, hx0, hx1, hx2⟩ := info_parts Try.infoBool
  obtain ⟨W, hW⟩ : ∃ W, W = w.alloc (.cells #[.slice none 0 0, .slice none 0 0] 32) := ⟨_, rfl⟩
  have B0 : Below w.heap.size w W := by rw [hW]; exact (Below.refl _ _).alloc (Nat.le_refl _) _
  have b0 : W.heap[w.heap.size]? = some (.cells #[.slice none 0 0, .slice none 0 0] 32 (0, 0)) := by rw [hW]; exact heap_alloc_new w _
  have zW : W.heap.size = w.heap.size + 1 := by rw [hW]; simp
  obtain ⟨PB, hPB⟩ : ∃ x, gsB (newS zs) = x := ⟨_, rfl⟩
  obtain ⟨PO, hPO⟩ : ∃ x, pzOk zs ls = x := ⟨_, rfl⟩
  obtain ⟨XX, hXX⟩ : ∃ x, pzX zs ls = x := ⟨_, rfl⟩
  obtain ⟨XB, hXB⟩ : ∃ x, pzB zs ls = x := ⟨_, rfl⟩
  obtain ⟨⟨pa, wa⟩, hza⟩ : ∃ x, (if PB then newS zs else ([], [])) = x := ⟨_, rfl⟩
  have KN := Hid.mk (implNewSnap a n c zs W hz hn (At.below ha B0))
  rw [hPB, hza] at KN
  rw [hPO, hXX, hXB]
  have HPB := Hid.mk hPB
  have HPO := Hid.mk hPO
  have HXX := Hid.mk hXX
  have HXB := Hid.mk hXB
  have HZA := Hid.mk hza
  have HL := Hid.mk hb
  have HLL := Hid.mk hl
  clear hPB hPO hXX hXB hza hb hl ha
  go_enter Try.func18, Try.ntmps18
  go_upto_region 1 with fail
  rw [← hW]
  clear hW
  go_wp2_with fail
  refine KN.out.mono ?_
  rintro e w1 ⟨⟨a0, ma0, da0, a1, ma1, da1, rfl, hoa⟩, hb1⟩
  have b0 := blk_below b0 hb1
  have z1 := hb1.size
  have B1 := B0.trans (hb1.mono B0.size)
  obtain ⟨P, hP⟩ : ∃ P, w1.heap.size = P := ⟨_, rfl⟩
  obtain ⟨Xa, hX⟩ : ∃ u, u = w1.alloc (.cells #[.slice a0 ma0 da0, .slice a1 ma1 da1] 32) := ⟨_, rfl⟩
  have bX : Below w1.heap.size w1 Xa := by rw [hX]; exact (Below.refl _ _).alloc (Nat.le_refl _) _
  have x0 : Xa.heap[w1.heap.size]? = some (.cells #[.slice a0 ma0 da0, .slice a1 ma1 da1] 32 (0, 0)) := by rw [hX]; exact heap_alloc_new w1 _
  have b0 := blk_below b0 bX
  have zXa := bX.size
  have zlXa : w1.heap.size < Xa.heap.size := by rw [hX]; simp
  have BXa : Below w.heap.size w Xa := B1.trans (bX.mono B1.size)
  rw [hP] at x0
  have bp := x0
  have zXaP : P < Xa.heap.size := by omega
  have hPN : w.heap.size + 1 ≤ P := by omega
  obtain ⟨FFa, hFFa, hoa⟩ : ∃ FF : Nat → Prop, (∀ b, FF b → w.heap.size + 1 ≤ b ∧ b < Xa.heap.size ∧ b ≠ P) ∧ RSnap.Own Xa FF [.slice a0 ma0 da0, .slice a1 ma1 da1] (pa, wa) :=
    ⟨_, fun b h => ⟨by have := h.1; omega, by have := h.2; omega, by have := h.2; omega⟩, RSnap.ownBelow hoa bX⟩
  clear KN hb1 x0 bX
  go_upto_region 2 with fail
  (try simp only)
  rw [← hX]
  clear hX
  (try rw [hP])
  clear hP
  cases PB with
  | false =>
    obtain rfl : false = PO := by rw [← HPO.out]; unfold pzOk; rw [HPB.out]; rfl
    obtain rfl : (([], []) : TSnap) = XX := by rw [← HXX.out]; unfold pzX; rw [HPO.out]; rfl
    obtain rfl : [] = XB := by rw [← HXB.out]; unfold pzB; rw [HPO.out]; rfl
    have y0 := blk_cell b0 0 (v := .slice none 0 0) rfl
    have y1 := blk_cell b0 1 (v := .slice none 0 0) rfl
    have fz0 := blk_frozen b0 0
    have fz1 := blk_frozen b0 1
    go_wp2
    refine bodyPost_ret (v := .tuple #[.agg #[.slice none 0 0, .slice none 0 0], .slice none 0 0, .bool false]) (by simp [results, Try.results18, go_sem, y0, y1]) rfl ⟨⟨none, 0, 0, none, 0, 0, none, 0, 0, rfl, WithB.void (RSnap.nil _ _)⟩, ?_⟩
    exact (BXa.setCell (Nat.le_refl _) _).setCell (Nat.le_refl _) _
  | true =>
    have hna : newS zs = (pa, wa) := HZA.out
    by_cases h120 : 120 < m
    · have h120i : (120 : Int) < (m : Int) := by omega
      obtain rfl : false = PO := by rw [← HPO.out]; unfold pzOk; rw [HPB.out]; exact (decide_eq_false (by rw [HLL.out]; omega)).symm
      obtain rfl : (([], []) : TSnap) = XX := by rw [← HXX.out]; unfold pzX; rw [HPO.out]; rfl
      obtain rfl : [] = XB := by rw [← HXB.out]; unfold pzB; rw [HPO.out]; rfl
      have y0 := blk_cell b0 0 (v := .slice none 0 0) rfl
      have y1 := blk_cell b0 1 (v := .slice none 0 0) rfl
      have fz0 := blk_frozen b0 0
      have fz1 := blk_frozen b0 1
      go_wp2
      refine bodyPost_ret (v := .tuple #[.agg #[.slice none 0 0, .slice none 0 0], .slice none 0 0, .bool false]) (by simp [results, Try.results18, go_sem, y0, y1]) rfl ⟨⟨none, 0, 0, none, 0, 0, none, 0, 0, rfl, WithB.void (RSnap.nil _ _)⟩, ?_⟩
      exact (BXa.setCell (Nat.le_refl _) _).setCell (Nat.le_refl _) _
    · have h120i : ¬ (120 : Int) < (m : Int) := by omega
      have hm2 : m ≤ 120 := by omega
      have hjs := HPB.out
      rw [hna] at hjs
      have hPOK : pzOk zs ls = true := by unfold pzOk; rw [HPB.out, Bool.true_and, decide_eq_true_eq, HLL.out]; exact hm2
      obtain rfl : true = PO := by rw [← HPO.out]; exact hPOK.symm
      have hxx : pzS (pa, wa) ls = XX := by rw [← HXX.out, ← hna]; unfold pzX; rw [hPOK]; rfl
      have hxb : pzL (pa, wa) ls = XB := by rw [← HXB.out, ← hna]; unfold pzB; rw [hPOK]; rfl
      have HJS := Hid.mk hjs
      have HXX1 := Hid.mk hxx
      have HXB1 := Hid.mk hxb
      have HOA := Hid.mk hoa
      have HFFA := Hid.mk hFFa
      have HB0 := Hid.mk b0
      have HBP := Hid.mk bp
      have HBX := Hid.mk BXa
      have HZX : Hid (P < Xa.heap.size) := Hid.mk zXaP
      clear hna hjs hPOK hxx hxb hoa hFFa b0 bp h120 HXX HXB HPO HZA
      go_wp2_with fail
      go_loopw [9, 29] (fun al i wr => ∃ (k : Nat) (r0 : Option Addr) (mr0 dr0 : Nat) (r1 : Option Addr) (mr1 dr1 : Nat) (ps : List TProc) (ws : List TWire) (G : Nat → Prop) (rb : Option Addr) (db : Nat) (bs : List Bool), i = .int .i64 k ∧ al = .slice rb k db ∧ k ≤ m ∧ wr.heap[P]? = some (.cells #[.slice r0 mr0 dr0, .slice r1 mr1 dr1] 32 (0, 0)) ∧ wr.heap[w.heap.size]? = some (.cells #[.slice none 0 0, .slice none 0 0] 32 (0, 0)) ∧ RSnap.Own wr G [.slice r0 mr0 dr0, .slice r1 mr1 dr1] (ps, ws) ∧ gsB (ps, ws) = true ∧ pzS (ps, ws) (ls.drop k) = XX ∧ bs ++ pzL (ps, ws) (ls.drop k) = XB ∧ wr.ownsRow 0 4 1 (.slice rb k db) k (bs.map .bool) ∧ (∀ b, (Value.slice rb k db).ownBlock = some b → ¬ G b ∧ w.heap.size + 1 ≤ b ∧ b < wr.heap.size ∧ b ≠ P) ∧ (∀ b, G b → w.heap.size + 1 ≤ b ∧ b < wr.heap.size ∧ b ≠ P) ∧ Below w.heap.size w wr ∧ P < wr.heap.size) (fun _ i _ => m - (intOf i).toNat)
      case atStart => exact ⟨0, a0, ma0, da0, a1, ma1, da1, pa, wa, FFa, none, 0, [], rfl, rfl, Nat.zero_le _, HBP.out, HB0.out, HOA.out, HJS.out, HXX1.out, HXB1.out, World.ownsRow_nil _ _ _ _, fun b h => (by cases h), HFFA.out, HBX.out, HZX.out⟩
      case round =>
        clear HBP HB0 HOA HJS HXX1 HXB1 HFFA HBX HZX
        obtain ⟨k, r0, mr0, dr0, r1, mr1, dr1, ps, ws, G, rb, db, bs, rfl, rfl, hk, bp, b0, hoz, hjz, hxz, hbz, hob, hbb, hG, BwY, zwY⟩ := hrel
        obtain ⟨wY, rfl⟩ : ∃ x, x = wr := ⟨_, rfl⟩
        have hbl : bs.length = k := by have := hob.1; simpa using this
        by_cases hlt : k < m
        · have hlti : (k : Int) < (m : Int) := by omega
          obtain ⟨⟨kd, f, t, v⟩, hx⟩ : ∃ x, ls[k]? = some x := ⟨_, List.getElem?_eq_getElem (by rw [HLL.out]; exact hlt)⟩
          obtain ⟨lb, loff, rfl, hlb, hlc⟩ := RSnapStep.row (AtSl.below HL.out BwY) (by rw [HLL.out]; omega)
          obtain ⟨e0, e1, e2, e3, _⟩ := hlc k _ hx
          (try simp only at e0 e1 e2 e3)
          obtain ⟨OK, hok⟩ : ∃ y, spB (ps, ws) kd f t v = y := ⟨_, rfl⟩
          obtain ⟨⟨ps', ws'⟩, hy⟩ : ∃ y, spX (ps, ws) kd f t v = y := ⟨_, rfl⟩
          have hp := pz_at hx (ps, ws)
          have hN : pzN (ps, ws) (kd, f, t, v) = cond OK (ps', ws') (ps, ws) := by unfold pzN; simp only; rw [hok, hy]
          rw [hp.1, hN] at hxz
          rw [hp.2, hN] at hbz
          simp only at hbz
          rw [hok] at hbz
          have hjy := gs_next (x := (ps, ws)) (kd, f, t, v) hjz
          rw [hN] at hjy
          have hw1 : IntKind.i64.wrap ((k : Int) + 1) = ((k + 1 : Nat) : Int) := by rw [IntWalk.i64_in _ (by omega)]; omega
          obtain ⟨⟨q0l, q0n, q0a, _⟩, ⟨q1l, q1n, q1a, _⟩⟩ := RSnap.at_iff (RSnap.toAt hoz)
          obtain ⟨hw0, hw1, hw2⟩ := gs_wires hjz
          have KS : Hid (∀ u, Below wY.heap.size wY u → _) := Hid.mk (fun u hu => implStepSnap r0 mr0 dr0 r1 mr1 dr1 kd f t v ps ws u q0l q1l (by omega) (by omega) hw2 (AtSl.below q0a hu) (AtSl.below q1a hu))
          rw [hok, hy] at KS
          have HXZ := Hid.mk hxz
          have HBZ := Hid.mk hbz
          have HJY := Hid.mk hjy
          have HOB := Hid.mk hob
          have HBB := Hid.mk hbb
          have HGG := Hid.mk hG
          have HOZ := Hid.mk hoz
          clear hxz hbz hjy hjz hob hbb hy hok hp hoz hbl hx hlc hlb hG q0l q0n q0a q1l q1n q1a hw0 hw1 hw2 hN
          obtain ⟨Xs, hX⟩ : ∃ u, u = wY.alloc (.cells #[.int .i64 kd, .int .i64 f, .int .i64 t, .int .i64 v] 36) := ⟨_, rfl⟩
          have bX : Below wY.heap.size wY Xs := by rw [hX]; exact (Below.refl _ _).alloc (Nat.le_refl _) _
          have bs_ : Xs.heap[wY.heap.size]? = some (.cells #[.int .i64 kd, .int .i64 f, .int .i64 t, .int .i64 v] 36 (0, 0)) := by rw [hX]; exact heap_alloc_new wY _
          have b0 := blk_below b0 bX
          have bp := blk_below bp bX
          have zXs := bX.size
          have zlXs : wY.heap.size < Xs.heap.size := by rw [hX]; simp
          have BXs : Below w.heap.size w Xs := BwY.trans (bX.mono BwY.size)
          go_upto_region 8 with fail
          (try simp only)
          rw [← hX]
          clear hX e0 e1 e2 e3
          have HBS := Hid.mk bX
          have p0 := blk_cell bp 0 (v := .slice r0 mr0 dr0) rfl
          have p1 := blk_cell bp 1 (v := .slice r1 mr1 dr1) rfl
          have x0 := blk_cell bs_ 0 (v := .int .i64 kd) rfl
          have x1 := blk_cell bs_ 1 (v := .int .i64 f) rfl
          have x2 := blk_cell bs_ 2 (v := .int .i64 t) rfl
          have x3 := blk_cell bs_ 3 (v := .int .i64 v) rfl
          go_wp2_with fail
          refine (KS.out Xs HBS.out).mono ?_
          rintro e wy ⟨⟨y0, my0, dy0, y1, my1, dy1, rfl, hoy⟩, hby⟩
          have b0 := blk_below b0 hby
          have bp := blk_below bp hby
          have zwy := hby.size
          have Bwy := BXs.trans (hby.mono BXs.size)
          have BYy : Below wY.heap.size wY wy := HBS.out.trans (hby.mono HBS.out.size)
          clear KS p0 p1 x0 x1 x2 x3 bs_ hby HBS bX
          obtain ⟨Xx, hX⟩ : ∃ u, u = wy.alloc (.cells #[.slice y0 my0 dy0, .slice y1 my1 dy1] 32) := ⟨_, rfl⟩
          have bX : Below wy.heap.size wy Xx := by rw [hX]; exact (Below.refl _ _).alloc (Nat.le_refl _) _
          have x0 : Xx.heap[wy.heap.size]? = some (.cells #[.slice y0 my0 dy0, .slice y1 my1 dy1] 32 (0, 0)) := by rw [hX]; exact heap_alloc_new wy _
          have b0 := blk_below b0 bX
          have bp := blk_below bp bX
          have zXx := bX.size
          have zlXx : wy.heap.size < Xx.heap.size := by rw [hX]; simp
          have BXx : Below w.heap.size w Xx := Bwy.trans (bX.mono Bwy.size)
          have BYX : Below wY.heap.size wY Xx := BYy.trans (bX.mono BYy.size)
          have HOB := Hid.mk (owns_below HOB.out BYX)
          have HOY := Hid.mk (RSnap.ownBelow hoy bX)
          have HBYX := Hid.mk BYX
          clear hoy BYy BYX
          go_upto_region 9 with fail
          (try simp only)
          rw [← hX]
          clear hX
          cases OK with
          | false =>
            clear x0 bX
            go_wp2_with (at_builtin; refine wpList_app_vals rfl (.tmp 41) (.tmp 43) 44 rfl 0 4 i0 (.bool false) 1 1 Try.underlying44 hi0 hx0 hx1 hx2 rfl (by decide) (.slice rb k db) k (bs.map .bool) rfl (owns_below HOB.out ((Below.refl _ _).alloc (Nat.le_refl _) _)) (some ⟨Xx.heap.size, 0, none⟩) 1 1 [.bool false] rfl rfl (fun ad he => by cases he; intro j u hu; match j, hu with | 0, hu => (obtain rfl := Option.some.inj hu; exact blk_cell (heap_alloc_new Xx _) 0 rfl)) (by intro u hu; simp at hu; rw [hu]; rfl) (fun h => by cases h) (by unfold maxLen; omega) (by omega) (Nat.zero_le _) ?_)
            intro r d5 w5 ho5 hg5 ht5
            have zX4 : (Xx.alloc (.cells #[.bool false] 4)).heap.size = Xx.heap.size + 1 := by simp
            (try rw [zX4] at ht5)
            have hO5 : Off (fun q => (Value.slice rb k db).ownBlock = some q) Xx w5 := (Off.below ((Below.refl _ _).alloc (Nat.le_refl _) _)).trans (Off.grown hg5 (fun q hq => hq))
            have z5 := hO5.size
            have z5b : Xx.heap.size + 1 ≤ w5.heap.size := by have q := hg5.size; (try rw [zX4] at q); (try simp only [World.size_alloc] at q); omega
            have bp5 := (hO5.block P (by omega) (fun e => (HBB.out P e).2.2.2 rfl)).trans bp
            have b05 := (hO5.block w.heap.size (by omega) (fun e => by have := (HBB.out _ e).2.1; omega)).trans b0
            have B5 : Below w.heap.size w w5 := BXx.trans (hO5.belowOf (fun b h => by have := (HBB.out b h).2.1; omega) (by omega))
            have ho6 : w5.ownsRow 0 4 1 (.slice r (k + 1) d5) (k + 1) ((bs ++ [false]).map .bool) := by rw [List.map_append]; exact ho5
            have hoS : RSnap.Own w5 G [.slice r0 mr0 dr0, .slice r1 mr1 dr1] (ps, ws) := RSnap.ownOff (RSnap.ownBelow HOZ.out HBYX.out) hO5 (fun b h1 h2 => (HBB.out b h2).1 h1)
            have HREL : Hid (∃ (r0 : Option Addr) (mr0 dr0 : Nat) (r1 : Option Addr) (mr1 dr1 : Nat) (ps : List TProc) (ws : List TWire) (G : Nat → Prop) (bs : List Bool), w5.heap[P]? = some (.cells #[.slice r0 mr0 dr0, .slice r1 mr1 dr1] 32 (0, 0)) ∧ w5.heap[w.heap.size]? = some (.cells #[.slice none 0 0, .slice none 0 0] 32 (0, 0)) ∧ RSnap.Own w5 G [.slice r0 mr0 dr0, .slice r1 mr1 dr1] (ps, ws) ∧ gsB (ps, ws) = true ∧ pzS (ps, ws) (ls.drop (k + 1)) = XX ∧ bs ++ pzL (ps, ws) (ls.drop (k + 1)) = XB ∧ w5.ownsRow 0 4 1 (.slice r (k + 1) d5) (k + 1) (bs.map .bool) ∧ (∀ b, (Value.slice r (k + 1) d5).ownBlock = some b → ¬ G b ∧ w.heap.size + 1 ≤ b ∧ b < w5.heap.size ∧ b ≠ P) ∧ (∀ b, G b → w.heap.size + 1 ≤ b ∧ b < w5.heap.size ∧ b ≠ P) ∧ Below w.heap.size w w5 ∧ P < w5.heap.size) := Hid.mk ⟨r0, mr0, dr0, r1, mr1, dr1, ps, ws, G, bs ++ [false], bp5, b05, hoS, HJY.out, HXZ.out, by rw [List.append_assoc]; exact HBZ.out, ho6, fun b hb => (by
                have hlt5 := (ho6.lt b hb).2
                rcases ht5 with q | q
                · rw [q] at hb
                  have h9 := HBB.out b hb
                  exact ⟨h9.1, by omega, hlt5, h9.2.2.2⟩
                · rw [q] at hb
                  have h2 := Option.some.inj hb
                  exact ⟨fun h => (by have := HGG.out _ h; omega), by omega, hlt5, by omega⟩), fun b h => (by have := HGG.out _ h; omega), B5, by omega⟩
            clear hoS ho6 ho5 hg5 ht5 hO5 bp5 b05 bp b0 HOB HXZ HBZ HJY HBB HGG HOZ HOY
            go_wp2
            go_roundw
            case rel =>
              obtain ⟨r0, mr0, dr0, r1, mr1, dr1, ps, ws, G, bs, q⟩ := HREL.out
              exact ⟨k + 1, r0, mr0, dr0, r1, mr1, dr1, ps, ws, G, r, d5, bs, by go_num, rfl, by omega, q⟩
            case measure => simp [intOf]; omega
          | true =>
            have p0 := blk_cell x0 0 (v := .slice y0 my0 dy0) rfl
            have p1 := blk_cell x0 1 (v := .slice y1 my1 dy1) rfl
            have o0 := blk_cell bp 0 (v := .slice r0 mr0 dr0) rfl
            have o1 := blk_cell bp 1 (v := .slice r1 mr1 dr1) rfl
            have fo0 := blk_frozen bp 0
            have fo1 := blk_frozen bp 1
            obtain ⟨Xr, hX⟩ : ∃ u, u = (Xx.setCell ⟨P, 0, none⟩ (.slice y0 my0 dy0)).setCell ⟨P, 1, none⟩ (.slice y1 my1 dy1) := ⟨_, rfl⟩
            have bp' : Xr.heap[P]? = some (.cells #[.slice y0 my0 dy0, .slice y1 my1 dy1] 32 (0, 0)) := by rw [hX]; exact blk_set (blk_set bp 0 _) 1 _
            have b0' : Xr.heap[w.heap.size]? = some (.cells #[.slice none 0 0, .slice none 0 0] 32 (0, 0)) := by rw [hX]; exact blk_other (blk_other b0 (by show w.heap.size ≠ P; omega) _) (by show w.heap.size ≠ P; omega) _
            have hS : Off (fun b => b = P) Xx Xr := by rw [hX]; exact (Off.set (F := fun b => b = P) (a := ⟨P, 0, none⟩) rfl _).trans (Off.set (F := fun b => b = P) (a := ⟨P, 1, none⟩) rfl _)
            have zXr := hS.size
            have zXrb : Xr.heap.size ≤ Xx.heap.size := by rw [hX]; simp [World.setCell]
            have BXr : Below w.heap.size w Xr := BXx.trans (hS.belowOf (fun b h => by have h2 : b = P := h; omega) (by omega))
            have HOY := Hid.mk (RSnap.ownOff HOY.out hS (fun b h e => by have h2 : b = P := e; have := h.1; omega))
            have HOB := Hid.mk (ownsRow_frame HOB.out (fun b hb hl => hS.block b hl (fun e => (HBB.out b hb).2.2.2 e)))
            clear b0 bp
            have b0 := b0'
            have bp := bp'
            clear b0' bp' hS bX x0
            go_upto_region 11 with fail
            rw [← hX]
            clear hX p0 p1 o0 o1 fo0 fo1
            go_wp2_with (at_builtin; refine wpList_app_vals rfl (.tmp 41) (.tmp 43) 44 rfl 0 4 i0 (.bool false) 1 1 Try.underlying44 hi0 hx0 hx1 hx2 rfl (by decide) (.slice rb k db) k (bs.map .bool) rfl (owns_below HOB.out ((Below.refl _ _).alloc (Nat.le_refl _) _)) (some ⟨Xr.heap.size, 0, none⟩) 1 1 [.bool true] rfl rfl (fun ad he => by cases he; intro j u hu; match j, hu with | 0, hu => (obtain rfl := Option.some.inj hu; exact blk_cell (heap_alloc_new Xr _) 0 rfl)) (by intro u hu; simp at hu; rw [hu]; rfl) (fun h => by cases h) (by unfold maxLen; omega) (by omega) (Nat.zero_le _) ?_)
            intro r d5 w5 ho5 hg5 ht5
            have zX4 : (Xr.alloc (.cells #[.bool true] 4)).heap.size = Xr.heap.size + 1 := by simp
            (try rw [zX4] at ht5)
            have hO5 : Off (fun q => (Value.slice rb k db).ownBlock = some q) Xr w5 := (Off.below ((Below.refl _ _).alloc (Nat.le_refl _) _)).trans (Off.grown hg5 (fun q hq => hq))
            have z5 := hO5.size
            have z5b : Xr.heap.size + 1 ≤ w5.heap.size := by have q := hg5.size; (try rw [zX4] at q); (try simp only [World.size_alloc] at q); omega
            have bp5 := (hO5.block P (by omega) (fun e => (HBB.out P e).2.2.2 rfl)).trans bp
            have b05 := (hO5.block w.heap.size (by omega) (fun e => by have := (HBB.out _ e).2.1; omega)).trans b0
            have B5 : Below w.heap.size w w5 := BXr.trans (hO5.belowOf (fun b h => by have := (HBB.out b h).2.1; omega) (by omega))
            have ho6 : w5.ownsRow 0 4 1 (.slice r (k + 1) d5) (k + 1) ((bs ++ [true]).map .bool) := by rw [List.map_append]; exact ho5
            have hoS : RSnap.Own w5 (From Xs.heap.size wy.heap.size) [.slice y0 my0 dy0, .slice y1 my1 dy1] (ps', ws') := RSnap.ownOff HOY.out hO5 (fun b h1 h2 => by have := h1.1; have := (HBB.out b h2).2.2.1; omega)
            have HREL : Hid (∃ (r0 : Option Addr) (mr0 dr0 : Nat) (r1 : Option Addr) (mr1 dr1 : Nat) (ps : List TProc) (ws : List TWire) (G : Nat → Prop) (bs : List Bool), w5.heap[P]? = some (.cells #[.slice r0 mr0 dr0, .slice r1 mr1 dr1] 32 (0, 0)) ∧ w5.heap[w.heap.size]? = some (.cells #[.slice none 0 0, .slice none 0 0] 32 (0, 0)) ∧ RSnap.Own w5 G [.slice r0 mr0 dr0, .slice r1 mr1 dr1] (ps, ws) ∧ gsB (ps, ws) = true ∧ pzS (ps, ws) (ls.drop (k + 1)) = XX ∧ bs ++ pzL (ps, ws) (ls.drop (k + 1)) = XB ∧ w5.ownsRow 0 4 1 (.slice r (k + 1) d5) (k + 1) (bs.map .bool) ∧ (∀ b, (Value.slice r (k + 1) d5).ownBlock = some b → ¬ G b ∧ w.heap.size + 1 ≤ b ∧ b < w5.heap.size ∧ b ≠ P) ∧ (∀ b, G b → w.heap.size + 1 ≤ b ∧ b < w5.heap.size ∧ b ≠ P) ∧ Below w.heap.size w w5 ∧ P < w5.heap.size) := Hid.mk ⟨y0, my0, dy0, y1, my1, dy1, ps', ws', (From Xs.heap.size wy.heap.size), bs ++ [true], bp5, b05, hoS, HJY.out, HXZ.out, by rw [List.append_assoc]; exact HBZ.out, ho6, fun b hb => (by
                have hlt5 := (ho6.lt b hb).2
                rcases ht5 with q | q
                · rw [q] at hb
                  have h9 := HBB.out b hb
                  exact ⟨fun h => (by have := h.1; omega), by omega, hlt5, h9.2.2.2⟩
                · rw [q] at hb
                  have h2 := Option.some.inj hb
                  exact ⟨fun h => (by have := h.2; omega), by omega, hlt5, by omega⟩), fun b h => (by have := h.1; have := h.2; omega), B5, by omega⟩
            clear hoS ho6 ho5 hg5 ht5 hO5 bp5 b05 bp b0 HOB HXZ HBZ HJY HBB HGG HOZ HOY
            go_wp2
            go_roundw
            case rel =>
              obtain ⟨r0, mr0, dr0, r1, mr1, dr1, ps, ws, G, bs, q⟩ := HREL.out
              exact ⟨k + 1, r0, mr0, dr0, r1, mr1, dr1, ps, ws, G, r, d5, bs, by go_num, rfl, by omega, q⟩
            case measure => simp [intOf]; omega
        · have hlti : ¬ (k : Int) < (m : Int) := by omega
          obtain rfl : k = m := by omega
          rw [List.drop_eq_nil_of_le (by rw [HLL.out]; exact Nat.le_refl _)] at hxz hbz
          have hxz2 : (ps, ws) = XX := hxz
          have hbz2 : bs = XB := by rw [← hbz]; exact (List.append_nil bs).symm
          have HXZ := Hid.mk hxz2
          have HBZ := Hid.mk hbz2
          have HBL := Hid.mk hbl
          clear hxz hbz hxz2 hbz2 hbl
          have p0 := blk_cell bp 0 (v := .slice r0 mr0 dr0) rfl
          have p1 := blk_cell bp 1 (v := .slice r1 mr1 dr1) rfl
          have y0 := blk_cell b0 0 (v := .slice none 0 0) rfl
          have y1 := blk_cell b0 1 (v := .slice none 0 0) rfl
          have fz0 := blk_frozen b0 0
          have fz1 := blk_frozen b0 1
          obtain ⟨Y, hY⟩ : ∃ u, u = (wY.setCell ⟨w.heap.size, 0, none⟩ (.slice r0 mr0 dr0)).setCell ⟨w.heap.size, 1, none⟩ (.slice r1 mr1 dr1) := ⟨_, rfl⟩
          have S1 : Off (fun b => b = w.heap.size) wY Y := by rw [hY]; exact (Off.set (F := fun b => b = w.heap.size) (a := ⟨w.heap.size, 0, none⟩) rfl _).trans (Off.set (F := fun b => b = w.heap.size) (a := ⟨w.heap.size, 1, none⟩) rfl _)
          have R : Hid (PzRet (.returned (.tuple #[.agg #[.slice r0 mr0 dr0, .slice r1 mr1 dr1], .slice rb k db, .bool true])) Y w.heap.size true XX XB ∧ Below w.heap.size w Y) := Hid.mk (by
            rw [← HXZ.out, ← HBZ.out]
            have zS := S1.size
            refine ⟨⟨r0, mr0, dr0, r1, mr1, dr1, rb, k, db, rfl, WithB.of (F1 := G) (RSnap.ownOff hoz S1 (fun b h e => by have h2 : b = w.heap.size := e; have := hG b h; omega)) HBL.out (ownsRow_frame hob (fun b hb hl => S1.block b hl (fun e => by have h2 : b = w.heap.size := e; have := (hbb b hb).2.1; omega))) (fun b h => ?_) (fun b hb => ?_)⟩, BwY.trans (S1.belowOf (fun b h => by have h2 : b = w.heap.size := h; omega) (by omega))⟩
            · have := hG b h
              exact ⟨by omega, by omega⟩
            · have := hbb b hb
              exact ⟨this.1, by omega, by omega⟩)
          have HY := Hid.mk hY
          clear S1 hY hoz hob hbb hG bp b0 BwY HXZ HBZ
          go_wp2
          refine bodyPost_ret (v := .tuple #[.agg #[.slice r0 mr0 dr0, .slice r1 mr1 dr1], .slice rb k db, .bool true]) (by simp [results, Try.results18, go_sem, y0, y1]) rfl ?_
          have h := R.out
          rw [HY.out] at h
          exact h

end Go.Proofs.Ytnfdncofobkjhaa

/- Contract of the model's NewSnap. -/
namespace Go.Proofs.Ytnfdncofobkjhaa
open Go.RowKit

theorem blk_grownN {w w6 : World} {o o' : Obj} {v : Value} {P : Nat} (h : w.heap[P]? = some o') (hg : (w.alloc o).grownBy w6 v.ownBlock) (hn : v.ownBlock ≠ some P) : w6.heap[P]? = some o' := by
  have hP := (Array.getElem?_eq_some_iff.1 h).1
  exact (hg.block P (by simp; omega) (fun e => hn e.symm)).trans ((Below.heap_alloc w o P hP).trans h)

set_option maxRecDepth 100000 in
set_option maxHeartbeats 2000000 in
theorem specGoodSnap_no (a0 : Option Addr) (n0 c0 : Nat) (a1 : Option Addr) (n1 c1 : Nat) (ps : List TProc) (ws : List TWire) (w : World) (h0 : ps.length = n0) (h1 : ws.length = n1) (hb0 : n0 ≤ 1048576) (hm : ¬ (2 ≤ n0 ∧ n0 ≤ 4)) (ha0 : AtSl RProc w a0 ps) (ha1 : AtSl RWire w a1 ws) :
    Calls Try.prog 30 #[.agg #[.slice a0 n0 c0, .slice a1 n1 c1]] w fun e w' => e = .returned (.bool (gsB (ps, ws))) ∧ Below w.heap.size w w' := by
  have HV : Hid (gsB (ps, ws) = (decide (2 ≤ n0) && decide (n0 ≤ 4) && decide (n1 = n0 * n0) && ps.all prB && wsB n0 ps 0 ws && decide (amtS (ps, ws) + recS (ps, ws) ≤ 2000000000))) := Hid.mk (by unfold gsB; simp only [h0, h1])
  have H0 := Hid.mk h0
  have H1 := Hid.mk h1
  obtain ⟨W, hW⟩ : ∃ W, W = w.alloc (.cells #[.slice a0 n0 c0, .slice a1 n1 c1] 32) := ⟨_, rfl⟩
  have B0 : Below w.heap.size w W := by rw [hW]; exact (Below.refl _ _).alloc (Nat.le_refl _) _
  have p0 : W.cell? ⟨w.heap.size, 0, none⟩ = some (.slice a0 n0 c0) := by rw [hW]; simp
  have p1 : W.cell? ⟨w.heap.size, 1, none⟩ = some (.slice a1 n1 c1) := by rw [hW]; simp
  have zW : w.heap.size < W.heap.size := by rw [hW]; simp
  have HA0 := Hid.mk (AtSl.below ha0 B0)
  have HA1 := Hid.mk (AtSl.below ha1 B0)
  have KM := Hid.mk (l1In_any (n0 : Int) 2 4 W)
  clear ha0 ha1 h0 h1
  · have hmf : (decide (2 ≤ (n0 : Int)) && decide ((n0 : Int) ≤ 4)) = false := by simp only [Bool.and_eq_false_iff, decide_eq_false_iff_not]; omega
    have hmg : (decide (2 ≤ n0) && decide (n0 ≤ 4)) = false := by simp only [Bool.and_eq_false_iff, decide_eq_false_iff_not]; omega
    rw [hmf] at KM
    rw [hmg] at HV
    clear hmf hmg hm
    go_enter Try.func30, Try.ntmps30
    go_wp2_with fail
    rw [← hW]
    clear hW
    refine KM.out.mono ?_
    rintro e w0 ⟨rfl, hw0⟩
    obtain rfl := hw0.symm
    go_wp2
    go_ret
    exact ⟨ret_bool (by rw [HV.out]; simp), B0⟩

theorem Try.infoProcN : (Try.prog.info? 74).map (fun i => (i.zero, i.size, i.bytes)) = some (some (.agg #[.int .i64 0, .int .i64 0, .bool false]), 3, 24) := by kernel_rfl
theorem Try.infoWireN : (Try.prog.info? 76).map (fun i => (i.zero, i.size, i.bytes)) = some (some (.agg #[.slice none 0 0, .slice none 0 0, .bool false]), 3, 56) := by kernel_rfl

set_option maxRecDepth 100000 in
set_option maxHeartbeats 4000000 in
theorem specNewSnap (a : Option Addr) (n c : Nat) (zs : List Int) (w : World) (hz : zs.length = n) (hn : n ≤ 1048576) (ha : At w a zs) :
    Calls Try.prog 44 #[.slice a n c] w fun e w' => SnapRet e w' w.heap.size (gsB (newS zs)) (if gsB (newS zs) then newS zs else ([], [])) ∧ Below w.heap.size w w' := by
  obtain ⟨k0, hk0, hx0, hx1, hx2⟩ := info_parts Try.infoProcN
  obtain ⟨i0, hi0, hz0, hz1, hz2⟩ := info_parts Try.infoWireN
  obtain ⟨PB, hPB⟩ : ∃ b, gsB (newS zs) = b := ⟨_, rfl⟩
  obtain ⟨X, hX⟩ : ∃ x, (if gsB (newS zs) then newS zs else ([], [])) = x := ⟨_, rfl⟩
  rw [hX, hPB]
  have HPB := Hid.mk hPB
  have HXX := Hid.mk hX
  clear hX hPB
  obtain ⟨W, hW⟩ : ∃ W, W = (w.alloc (.cells #[.slice none 0 0, .slice none 0 0] 32)).alloc (.cells #[.slice none 0 0, .slice none 0 0] 32) := ⟨_, rfl⟩
  have B0 : Below w.heap.size w W := by rw [hW]; exact ((Below.refl _ _).alloc (Nat.le_refl _) _).alloc (by simp) _
  have b0 : W.heap[w.heap.size]? = some (.cells #[.slice none 0 0, .slice none 0 0] 32 (0, 0)) := by rw [hW]; exact blk_alloc (heap_alloc_new w _) _
  have b1 : W.heap[w.heap.size + 1]? = some (.cells #[.slice none 0 0, .slice none 0 0] 32 (0, 0)) := by
    rw [hW]
    have q := heap_alloc_new (w.alloc (.cells #[.slice none 0 0, .slice none 0 0] 32)) (.cells #[.slice none 0 0, .slice none 0 0] 32)
    simpa only [World.size_alloc] using q
  have zW : w.heap.size + 1 < W.heap.size := by rw [hW]; simp
  have HA := Hid.mk ha
  have HZ := Hid.mk hz
  clear ha hz
  go_enter Try.func44, Try.ntmps44
  go_wp2_with fail
  rw [← hW]
  clear hW
  go_loopw [10] (fun i wr => ∃ (k : Nat) (r : Option Addr) (d : Nat) (cells : List Value), k ≤ n ∧ i = .int .i64 k ∧ wr.heap[w.heap.size]? = some (.cells #[.slice none 0 0, .slice none 0 0] 32 (0, 0)) ∧ wr.heap[w.heap.size + 1]? = some (.cells #[.slice r k d, .slice none 0 0] 32 (0, 0)) ∧
    wr.ownsRow (w.heap.size + 1 + 1) 74 3 (.slice r k d) k cells ∧ PzA cells (zs.take k) ∧ w.heap.size + 1 < wr.heap.size ∧ Below w.heap.size w wr) (fun i _ => n - (intOf i).toNat)
  case atStart => exact ⟨0, none, 0, [], Nat.zero_le _, rfl, b0, b1, World.ownsRow_nil _ _ _ _, PzA.nil, zW, B0⟩
  case round =>
    clear b0 b1 B0 zW
    obtain ⟨k, r, d, cells, hk, rfl, b0, b1, ho, hpz, zr, hbw⟩ := hrel
    obtain ⟨wY, rfl⟩ : ∃ x, x = wr := ⟨_, rfl⟩
    by_cases hlt : k < n
    · obtain ⟨b, off, rfl, hb, hc⟩ := (At.below HA.out hbw).some (by have := HZ.out; omega)
      obtain ⟨y, hy⟩ : ∃ y, zs[k]? = some y := ⟨_, List.getElem?_eq_getElem (by have := HZ.out; omega)⟩
      have hcx : wY.cell? ⟨b, off + k, none⟩ = some (.int .i64 y) := by
        have h9 := hc k (by have := HZ.out; omega)
        simpa [List.getD, hy] using h9
      have htk : zs.take (k + 1) = zs.take k ++ [y] := by
        obtain ⟨hk2, rfl⟩ := List.getElem?_eq_some_iff.1 hy
        rw [List.take_succ_eq_append_getElem hk2]
      have hpz2 := hpz.push y
      rw [← htk] at hpz2
      have q0 : wY.cell? ⟨w.heap.size + 1, 0, none⟩ = some (.slice r k d) := blk_cell b1 0 rfl
      have hnP : ∀ P, P < w.heap.size + 1 + 1 → (Value.slice r k d).ownBlock ≠ some P := fun P hP e => by have := (ho.lt P e).1; omega
      have HPZ := Hid.mk hpz2
      have HO := Hid.mk ho
      have HN := Hid.mk hnP
      have HB0 := Hid.mk b0
      have HB1 := Hid.mk b1
      have HBW := Hid.mk hbw
      have hki : (k : Int) < (n : Int) := by omega
      clear hc hy htk hpz hpz2 ho hnP b0 b1 hbw
      go_wp2_with (at_builtin; refine wpList_app_vals rfl (.tmp 15) (.tmp 18) 29 rfl (w.heap.size + 1 + 1) 74 k0 (.agg #[.int .i64 0, .int .i64 0, .bool false]) 3 24 Try.underlying29 hk0 hx0 hx1 hx2 rfl (by decide) (.slice r k d) k cells rfl (HO.out.alloc _) (some ⟨wY.heap.size, 0, none⟩) 1 1 [.int .i64 y, .int .i64 0, .bool false] rfl rfl (fun ad he => by cases he; simpa using news_at wY #[.int .i64 y, .int .i64 0, .bool false] 74) (by simp; exact ⟨rfl, rfl, rfl⟩) (fun h => by cases h) (by unfold maxLen; omega) (by omega) (by simp; omega) ?_; intro r4 d4 w6 ho4 hg4 ht4; have x1 := blk_cell (blk_grownN HB1.out hg4 (HN.out _ (by omega))) 0 (v := .slice r k d) rfl; have x2 := blk_frozen (blk_grownN HB1.out hg4 (HN.out _ (by omega))) 0)
      have HN1 := Hid.mk (And.intro ho4 (And.intro hg4 ht4))
      clear ho4 hg4 ht4
      go_roundw
      case rel =>
        obtain ⟨ho4, hg4, ht4⟩ := HN1.out
        have z4 : w.heap.size + 1 < w6.heap.size := by have := hg4.size; simp at this; omega
        have e1 := blk_grownN HB1.out hg4 (HN.out _ (by omega))
        have e0 := blk_grownN HB0.out hg4 (HN.out _ (by omega))
        have hl4 := fun b hb => (ho4.lt b hb).1
        refine ⟨k + 1, r4, d4, _, by omega, by go_num, ?_, ?_, ?_, HPZ.out, ?_, ?_⟩
        · exact blk_other e0 (by simp) _
        · exact blk_set e1 0 _
        · exact ownsRow_frame ho4 (fun b hb _ => Below.heap_setCell _ _ _ _ (by have := hl4 b hb; show b ≠ w.heap.size + 1; omega))
        · simp [World.setCell]; exact z4
        · exact (((HBW.out.alloc HBW.out.size _).grown hg4 (by have := HBW.out.size; simp; omega) (fun j hj => by have := (HO.out.lt j hj).1; omega))).setCell (by simp) _
      case measure => simp [intOf]; omega
    · obtain rfl : k = n := by omega
      rw [List.take_of_length_le (by have := HZ.out; omega)] at hpz
      obtain ⟨Q, hQ⟩ : ∃ Q : Nat, k * k = Q := ⟨_, rfl⟩
      have hQ40 : Q ≤ 1099511627776 := by rw [← hQ]; exact Nat.mul_le_mul hn hn
      have hmul : (k : Int) * (k : Int) = (Q : Int) := by rw [← hQ]; push_cast; rfl
      have hX2 : newS zs = (psN zs, wsN Q) := by unfold newS; rw [HZ.out, hQ]
      have HX2 := Hid.mk hX2
      have hQ16 : 2 ≤ k ∧ k ≤ 4 → Q ≤ 1048576 := fun h => by have : k * k ≤ 16 := Nat.mul_le_mul h.2 h.2; omega
      have R0 := Hid.mk (RProcs.of_cells (by rw [HZ.out]) (by omega) ho hpz)
      have HQ := Hid.mk hQ16
      have HB0 := Hid.mk b0
      have HB1 := Hid.mk b1
      have HBW := Hid.mk hbw
      clear hQ hX2 ho hpz b0 b1 hbw hQ16
      go_upto_region 7 with fail
      go_wp2_with (at_make; refine wpList_make_full _ rfl _ _ 30 rfl wY.heap.size 76 i0 (.agg #[.slice none 0 0, .slice none 0 0, .bool false]) 3 Try.underlying30 hi0 hz0 hz1 .i64 .i64 _ _ Q rfl rfl rfl rfl (by rw [hz2]; omega) (by unfold maxLen; omega) (Nat.le_refl _) ?_; intro w1 hown hg; have hb1 := (Below.refl wY.heap.size wY).grown hg (Nat.le_refl _) (by simp); have x1 := blk_cell (blk_below HB1.out hb1) 1 (v := .slice none 0 0) rfl; have x0 := blk_cell (blk_below HB1.out hb1) 0 (v := .slice r k d) rfl; have x2 := blk_frozen (blk_below HB1.out hb1) 1)
      have z1 := hb1.size
      have hlt1 := (hown.lt wY.heap.size rfl).2
      obtain ⟨V, hV⟩ : ∃ V, V = w1.setCell ⟨w.heap.size + 1, 1, none⟩ (.slice (some ⟨wY.heap.size, 0, none⟩) Q Q) := ⟨_, rfl⟩
      have S : Hid (Off (fun b => b = w.heap.size + 1) w1 V) := Hid.mk (by rw [hV]; exact Off.set (F := fun b => b = w.heap.size + 1) (a := ⟨w.heap.size + 1, 1, none⟩) rfl _)
      have R0' := Hid.mk (RProcs.ownOff (RProcs.ownBelow R0.out hb1) S.out (fun b h k => by have h1 := h.1; have h2 : b = w.heap.size + 1 := k; omega))
      have R1 := Hid.mk (RWires.ownOff (RWires.of_cells (by omega) hown (WzA.made Q)) S.out (fun b h k => by have h1 := h.1; have h2 : b = w.heap.size + 1 := k; omega))
      have c0 : V.heap[w.heap.size]? = some (.cells #[.slice none 0 0, .slice none 0 0] 32 (0, 0)) := by rw [hV]; exact blk_other (blk_below HB0.out hb1) (by simp) _
      have c1 : V.heap[w.heap.size + 1]? = some (.cells #[.slice r k d, .slice (some ⟨wY.heap.size, 0, none⟩) Q Q] 32 (0, 0)) := by rw [hV]; exact blk_set (blk_below HB1.out hb1) 1 _
      have zV : w1.heap.size ≤ V.heap.size := S.out.size
      have BV := Hid.mk (show Below w.heap.size w V by rw [hV]; exact (HBW.out.trans (hb1.mono HBW.out.size)).setCell (by simp) _)
      have KG : Hid (Calls Try.prog 30 #[.agg #[.slice r k d, .slice (some ⟨wY.heap.size, 0, none⟩) Q Q]] V fun e w' => e = .returned (.bool PB) ∧ Below V.heap.size V w') := Hid.mk (by
        have hl0 := RProcs.atSl R0'.out
        have hl1 := RWires.atSl R1.out
        rw [← HPB.out, HX2.out]
        by_cases hm : 2 ≤ k ∧ k ≤ 4
        · exact specGoodSnap r k d (some ⟨wY.heap.size, 0, none⟩) Q Q _ _ V hl0.1 hl1.1 hn (HQ.out hm) (fun i x hx => by
            have hxe : ([], [], false) = x := by
              rw [List.getElem?_replicate] at hx
              by_cases hi : i < Q
              · simpa [hi] using hx
              · simp [hi] at hx
            rw [← hxe]; decide) hl0.2 hl1.2
        · exact specGoodSnap_no r k d (some ⟨wY.heap.size, 0, none⟩) Q Q _ _ V hl0.1 hl1.1 hn hm hl0.2 hl1.2)
      have u0 := blk_cell c1 0 (v := .slice r k d) rfl
      have u1 := blk_cell c1 1 (v := .slice (some ⟨wY.heap.size, 0, none⟩) Q Q) rfl
      have HV := Hid.mk hV
      clear hown hg hb1 x0 x1 x2 S R0 HB0 HB1 HBW
      go_wp2_with fail
      rw [← hV]
      clear hV HV
      refine KG.out.mono ?_
      rintro e w3 ⟨rfl, hb3⟩
      have c0 := blk_below c0 hb3
      have c1 := blk_below c1 hb3
      have z3 := hb3.size
      have R0 := Hid.mk (RProcs.ownBelow R0'.out hb3)
      have R1 := Hid.mk (RWires.ownBelow R1.out hb3)
      have B3 := Hid.mk (BV.out.trans (hb3.mono BV.out.size))
      have y0 := blk_cell c0 0 (v := .slice none 0 0) rfl
      have y1 := blk_cell c0 1 (v := .slice none 0 0) rfl
      have f0 := blk_frozen c0 0
      have f1 := blk_frozen c0 1
      have s0 := blk_cell c1 0 (v := .slice r k d) rfl
      have s1 := blk_cell c1 1 (v := .slice (some ⟨wY.heap.size, 0, none⟩) Q Q) rfl
      clear hb3 KG BV R0' u0 u1
      cases PB with
      | false =>
        have hX0 : X = ([], []) := by rw [← HXX.out, HPB.out]; rfl
        subst hX0
        go_wp2
        refine bodyPost_ret (v := .tuple #[.agg #[.slice none 0 0, .slice none 0 0], .bool false]) (by simp [results, Try.results44, go_sem, y0, y1]) rfl ⟨⟨none, 0, 0, none, 0, 0, rfl, RSnap.nil _ _⟩, ?_⟩
        exact (B3.out.setCell (Nat.le_refl _) _).setCell (Nat.le_refl _) _
      | true =>
        have hX0 : X = (psN zs, wsN Q) := by rw [← HXX.out, HPB.out, ← HX2.out]; rfl
        subst hX0
        obtain ⟨Y, hY⟩ : ∃ u, u = stores w3 w.heap.size 0 [.slice r k d, .slice (some ⟨wY.heap.size, 0, none⟩) Q Q] := ⟨_, rfl⟩
        have D : Below w.heap.size w Y := by rw [hY]; exact stores_below _ _ _ _ B3.out (Nat.le_refl _)
        have S : Off (fun b => b = w.heap.size) w3 Y := by rw [hY]; exact stores_off (F := fun b => b = w.heap.size) _ _ _ _ rfl
        have zY : Y.heap.size = w3.heap.size := by rw [hY]; exact stores_size _ _ _ _
        have R : Hid (RSnap.Own Y (From w.heap.size Y.heap.size) [.slice r k d, .slice (some ⟨wY.heap.size, 0, none⟩) Q Q] (psN zs, wsN Q)) := Hid.mk
          (RSnap.own_mk (RProcs.ownOff R0.out S (fun b h k => by have h1 := h.1; have h2 : b = w.heap.size := k; omega)) (RWires.ownOff R1.out S (fun b h k => by have h1 := h.1; have h2 : b = w.heap.size := k; omega))
            (fun b h => ⟨by have := h.1; omega, by have := h.2; omega⟩) (fun b h => ⟨by have := h.1; omega, by have := h.2; omega⟩) (fun b h k => by have := h.2; have := k.1; omega))
        have HY := Hid.mk hY
        have HD := Hid.mk D
        clear S D hY zY R0 R1 c0 c1
        go_wp2
        refine bodyPost_ret (v := .tuple #[.agg #[.slice r k d, .slice (some ⟨wY.heap.size, 0, none⟩) Q Q], .bool true]) (by simp [results, Try.results44, go_sem, y0, y1]) rfl ⟨⟨r, k, d, some ⟨wY.heap.size, 0, none⟩, Q, Q, rfl, ?_⟩, ?_⟩
        · have h := R.out
          rw [HY.out] at h
          exact h
        · have h := HD.out
          rw [HY.out] at h
          exact h

end Go.Proofs.Ytnfdncofobkjhaa
